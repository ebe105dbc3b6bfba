/-
  The contracts of money.arePlaces, withPoint, withoutPoint, isShown.
-/
import Derived.Test.YtagimpmefodaeaaGreatDoorZl13
import Derived.Test.YtagimpmefodaeaaGreatDoorZl16
import Derived.Test.YtagimpmefodaeaaGreatDoorZl14
import Derived.Deep.QuietTactic
import Derived.BigQuiet
import Derived.Test.YtagimpmefodaeaaGreatDoorZl15
import Derived.Test.YtagimpmefodaeaaGreatDoorProg
import Derived.WalkKit
import Derived.WalkSpells
import Derived.ShutString
import Derived.Lib.OthersKept
import Derived.Lib.TrimU
import Derived.Deep.LoopGhost
namespace Go.Proofs.YtagimpmefodaeaaGreatDoor
set_option linter.unusedVariables false
set_option linter.unusedSimpArgs false
open Go.RowKit Big

end Go.Proofs.YtagimpmefodaeaaGreatDoor

namespace Go.Proofs.YtagimpmefodaeaaGreatDoor
set_option linter.unusedVariables false
open Go.RowKit Big

/-- A number of few words. -/
def Few (x : Int) : Prop := -340282366920938463463374607431768211456 < x ∧ x < 340282366920938463463374607431768211456

theorem BigIs.blk {w : World} {p : Nat} {x : Int} (h : BigIs w p x) : ∃ n v, w.heap[p]? = some (.cells #[.bool n, v] 132 (0, 0)) ∧ ∀ k i, v ≠ .int k i := by
  obtain ⟨n, v, l, hb, _⟩ := h
  exact ⟨n, v, hb.blk, hb.wd.noInt⟩
theorem BigIs.lt {w : World} {p : Nat} {x : Int} (h : BigIs w p x) : p < w.heap.size := by
  obtain ⟨n, v, hb, _⟩ := h.blk
  exact blk_lt hb
theorem BigIs.kept {w w' : World} {p q : Nat} {x y : Int} (h : BigIs w p x) (hne : p ≠ q) (hq : BigIs w q y) (hg : w.grownBy w' (some q)) : BigIs w' p x := by
  obtain ⟨n, v, hb, hv⟩ := hq.blk
  exact h.keepBy hne hb hv hg
theorem bigis_new (w : World) : BigIs (w.alloc (.cells #[.bool false, .slice none 0 0] 132)) w.heap.size 0 :=
  ⟨false, .slice none 0 0, [], ⟨alloc_blk _ _, wd_nil _ _ _, .inl rfl, fun h => by cases h⟩, rfl⟩

theorem add_big (pz px py : Nat) (z x y : Int) (w : World) (hz : BigIs w pz z) (hx : BigIs w px x) (hy : BigIs w py y) (bx : Few x) (by_ : Few y) :
    Calls Tryz.prog 49 #[.pointer (some ⟨pz, 0, none⟩), .pointer (some ⟨px, 0, none⟩), .pointer (some ⟨py, 0, none⟩)] w fun e w' => e = .returned (.pointer (some ⟨pz, 0, none⟩)) ∧ Hid (BigIs w' pz (x + y) ∧ w.grownBy w' (some pz)) := by
  obtain ⟨nz, vz, hb, hv⟩ := hz.blk
  obtain ⟨nx, vx, lx, hx, rfl⟩ := hx
  obtain ⟨ny, vy, ly, hy, rfl⟩ := hy
  exact Add_any pz px py nz nx ny vz vx vy lx ly w hb hv hx hy (few_words hx.nrm bx.1 bx.2) (few_words hy.nrm by_.1 by_.2)

/-- A number's sign is told by its first cell. -/
theorem BigIs.neg {w : World} {p : Nat} {x : Int} (h : BigIs w p x) : w.cell? ⟨p, 0, none⟩ = some (.bool (decide (x < 0))) := by
  obtain ⟨n, v, l, hb, rfl⟩ := h
  rw [blk_cell0 hb.blk]
  have : n = decide (sg n (val l) < 0) := by
    cases n
    · simp [sg]
    · have h0 := hb.sgn rfl
      have h1 := val_ge hb.nrm h0
      have h2 := Nat.pow_pos (n := l.length - 1) (by omega : 0 < 4294967296)
      simp [sg]; omega
  rw [← this]

theorem one_word {n : Bool} {l : List Nat} (hn : Nrm l) (ho : Ok l) (y : Int) (h : sg n (val l) = y) (h0 : 0 < y) (h1 : y < 4294967296) : l.length = 1 ∧ n = false ∧ (val l : Int) = y := by
  have hf : n = false := by
    cases n
    · rfl
    · simp [sg] at h; omega
  subst hf
  have hv : (val l : Int) = y := by simpa [sg] using h
  refine ⟨?_, rfl, hv⟩
  have p0 : 0 < l.length := by
    rcases Nat.eq_zero_or_pos l.length with h | h
    · rw [List.eq_nil_of_length_eq_zero h] at hv; simp [val] at hv; omega
    · exact h
  have h2 := val_ge hn p0
  apply Classical.byContradiction
  intro hc
  have h3 : 4294967296 ^ 1 ≤ 4294967296 ^ (l.length - 1) := Nat.pow_le_pow_right (by omega) (by omega)
  omega

theorem sg_tdiv (n : Bool) (a b : Nat) : sg n (a / b) = (sg n a).tdiv b := by
  cases n
  · show ((a / b : Nat) : Int) = (a : Int).tdiv b
    rw [Int.tdiv_eq_ediv_of_nonneg (by omega)]; rfl
  · show -((a / b : Nat) : Int) = (-(a : Int)).tdiv b
    rw [Int.neg_tdiv, Int.tdiv_eq_ediv_of_nonneg (by omega)]; rfl
theorem sg_tmod (n : Bool) (a b : Nat) : sg n (a % b) = (sg n a).tmod b := by
  cases n
  · show ((a % b : Nat) : Int) = (a : Int).tmod b
    rw [Int.tmod_eq_emod_of_nonneg (by omega)]; rfl
  · show -((a % b : Nat) : Int) = (-(a : Int)).tmod b
    rw [Int.neg_tmod, Int.tmod_eq_emod_of_nonneg (by omega)]; rfl

/-- The quotient rounded down, and its rest, by the quotient rounded to nought. -/
theorem floor_of (x y : Int) (h : 0 < y) : (x.tmod y < 0 → x / y = x.tdiv y - 1 ∧ x % y = x.tmod y + y) ∧ (¬ x.tmod y < 0 → x / y = x.tdiv y ∧ x % y = x.tmod y) := by
  have e1 := Int.mul_tdiv_add_tmod x y
  have e2 := Int.mul_ediv_add_emod x y
  have b1 := Int.emod_nonneg x (b := y) (by omega)
  have b2 := Int.emod_lt_of_pos x h
  have b3 : -y < x.tmod y ∧ x.tmod y < y := by
    rcases Int.le_total 0 x with hx | hx
    · have := Int.tmod_nonneg y hx
      have := Int.tmod_lt_of_pos x h
      omega
    · have h1 := Int.tmod_nonneg y (a := -x) (by omega)
      have h2 := Int.tmod_lt_of_pos (-x) h
      rw [Int.neg_tmod] at h1 h2
      omega
  generalize x.tdiv y = q at *
  generalize x.tmod y = r at *
  generalize x / y = Q at *
  generalize x % y = R at *
  have key : ∀ k : Int, y * Q - y * q = y * k → -y < y * k - 0 → True := fun _ _ _ => trivial
  constructor
  · intro hr
    have : y * (Q - (q - 1)) = r + y - R := by rw [Int.mul_sub, Int.mul_sub, Int.mul_one]; omega
    have hk : Q - (q - 1) = 0 := by
      apply Classical.byContradiction
      intro hc
      rcases (by omega : Q - (q - 1) ≤ -1 ∨ 1 ≤ Q - (q - 1)) with h' | h'
      · have := Int.mul_le_mul_of_nonneg_left h' (by omega : 0 ≤ y); omega
      · have := Int.mul_le_mul_of_nonneg_left h' (by omega : 0 ≤ y); omega
    rw [hk] at this
    omega
  · intro hr
    have : y * (Q - q) = r - R := by rw [Int.mul_sub]; omega
    have hk : Q - q = 0 := by
      apply Classical.byContradiction
      intro hc
      rcases (by omega : Q - q ≤ -1 ∨ 1 ≤ Q - q) with h' | h'
      · have := Int.mul_le_mul_of_nonneg_left h' (by omega : 0 ≤ y); omega
      · have := Int.mul_le_mul_of_nonneg_left h' (by omega : 0 ≤ y); omega
    rw [hk] at this
    omega

theorem few_tdiv {x y : Int} (h : Few x) (hy : 0 < y) : Few (x.tdiv y) ∧ Few (x.tmod y) := by
  have b : ∀ a : Int, 0 ≤ a → 0 ≤ a.tdiv y ∧ a.tdiv y ≤ a ∧ 0 ≤ a.tmod y ∧ a.tmod y ≤ a := fun a ha => by
    rw [Int.tdiv_eq_ediv_of_nonneg ha, Int.tmod_eq_emod_of_nonneg ha]
    have h1 := Int.ediv_nonneg ha (by omega : 0 ≤ y)
    have h2 : a / y ≤ a := Int.ediv_le_self _ ha
    have h3 := Int.emod_nonneg a (b := y) (by omega)
    have h4 := Int.mul_ediv_add_emod a y
    have h5 := Int.mul_nonneg (by omega : 0 ≤ y) h1
    omega
  unfold Few at *
  rcases Int.le_total 0 x with hx | hx
  · have := b x hx; omega
  · have := b (-x) (by omega)
    rw [Int.neg_tdiv, Int.neg_tmod] at this
    omega

/-- What DivMod leaves. -/
def DMEnd (w w' : World) (pz pm : Nat) (X Y : Int) : Prop := BigIs w' pz X ∧ BigIs w' pm Y ∧ Grown2 w w' pz pm ∧ ∀ p x, p ≠ pz → p ≠ pm → BigIs w p x → BigIs w' p x

theorem Grown2.first {a b c : World} {p q : Nat} (h : a.grownBy b none) (k : Grown2 b c p q) : Grown2 a c p q :=
  ⟨k.os.trans h.os, k.tape.trans h.tape, k.output.trans h.output, Nat.le_trans h.size k.size, fun i hi hp hq => (k.block i (Nat.lt_of_lt_of_le hi h.size) hp hq).trans (h.block i hi (by simp))⟩
theorem Grown2.then {a b c : World} {p q r : Nat} (h : Grown2 a b p q) (k : b.grownBy c (some r)) (hr : r = p ∨ r = q ∨ a.heap.size ≤ r) : Grown2 a c p q :=
  ⟨k.os.trans h.os, k.tape.trans h.tape, k.output.trans h.output, Nat.le_trans h.size k.size, fun i hi hp hq => (k.block i (Nat.lt_of_lt_of_le hi h.size) (fun e => by have := Option.some.inj e; omega)).trans (h.block i hi hp hq)⟩
theorem Grown2.none {a b c : World} {p q : Nat} (h : Grown2 a b p q) (k : b.grownBy c none) : Grown2 a c p q :=
  ⟨k.os.trans h.os, k.tape.trans h.tape, k.output.trans h.output, Nat.le_trans h.size k.size, fun i hi hp hq => (k.block i (Nat.lt_of_lt_of_le hi h.size) (by simp)).trans (h.block i hi hp hq)⟩

end Go.Proofs.YtagimpmefodaeaaGreatDoor

namespace Go.Proofs.YtagimpmefodaeaaGreatDoor
set_option linter.unusedVariables false
set_option linter.unusedSimpArgs false
open Go.RowKit Big

/-- A number of 63 bits, no less than 0. -/
def Mid63 (x : Int) : Prop := 0 ≤ x ∧ x < 9223372036854775808
theorem Mid63.few {x : Int} (h : Mid63 x) : Few x := by unfold Mid63 at h; unfold Few; omega

theorem mid_open {w : World} {p : Nat} {x : Int} (h : BigIs w p x) (hm : Mid63 x) : ∃ v l, IsBig w p false v l ∧ (val l : Int) = x ∧ l.length ≤ 2 := by
  obtain ⟨n, v, l, hb, hx⟩ := h
  have hn : n = false := by
    cases n
    · rfl
    · have h0 := hb.sgn rfl
      have h1 := val_ge hb.nrm h0
      have h2 := Nat.pow_pos (n := l.length - 1) (by omega : 0 < 4294967296)
      have : sg true (val l) = -(val l : Int) := rfl
      rw [this] at hx
      have := hm.1
      omega
  subst hn
  have hv : (val l : Int) = x := hx
  exact ⟨v, l, hb, hv, len_two hb.wd.ok hb.nrm (by have := hm.2; omega)⟩

end Go.Proofs.YtagimpmefodaeaaGreatDoor

namespace Go.Proofs.YtagimpmefodaeaaGreatDoor
set_option linter.unusedVariables false
set_option linter.unusedSimpArgs false
open Go.RowKit Big

set_option maxHeartbeats 1000000 in
theorem trim_at (b off cap : Nat) (l : List Nat) (w : World) (h : Wd w (.slice (some ⟨b, off, none⟩) l.length cap) l) (h0 : 0 < l.length) :
    Calls Tryz.prog 108 #[.slice (some ⟨b, off, none⟩) l.length cap] w fun e w' => e = .returned (.slice (some ⟨b, off, none⟩) (tl l l.length) cap) ∧ Wd w (.slice (some ⟨b, off, none⟩) (tl l l.length) cap) (l.take (tl l l.length)) ∧ w' = w := by
  have hlen := h.len
  obtain ⟨hcap, hc⟩ : l.length ≤ cap ∧ ∀ i, i < l.length → w.cell? ⟨b, off + i, none⟩ = some (.int .u32 (l.getD i 0 : Nat)) := by
    rcases h.at_ with ⟨h1, _⟩ | ⟨_, b', off', cap', e, _, hcap, hc⟩
    · rw [h1] at h0; simp at h0
    · cases e; exact ⟨hcap, hc⟩
  have Hc : Hid (∀ i, i < l.length → w.cell? ⟨b, off + i, none⟩ = some (.int .u32 (l.getD i 0 : Nat))) := hc
  have Ho : Hid (Ok l) := h.ok
  have Hr : Hid (Wd w (.slice (some ⟨b, off, none⟩) l.length cap) l) := h
  clear hc h
  go_enter Tryz.func108, Tryz.ntmps108
  go_wp2
  go_loop [3] (fun n => ∃ k : Nat, k ≤ l.length ∧ n = .int .i64 k ∧ Hid (tl l k = tl l l.length)) (fun n => (RowKit.intOf n).toNat)
  case atStart => exact ⟨l.length, Nat.le_refl _, rfl, rfl⟩
  case round =>
    obtain ⟨k, hk, rfl, Hk⟩ := hrel
    cases k with
    | zero =>
      go_wp2
      go_ret
      refine ⟨by rw [← Hk.out]; rfl, ?_, rfl⟩
      rw [← Hk.out]
      exact wd_take Hr.out 0 (by omega)
    | succ j =>
      have hcj := Hc.out j (by omega)
      by_cases hz : l.getD j 0 = 0
      · rw [hz] at hcj
        have Hk2 : Hid (tl l j = tl l l.length) := by
          have := Hk.out; rw [tl_zero l j hz] at this; exact this
        clear Hk hz
        go_wp2
        go_round
        case rel => exact ⟨j, by omega, by go_num, Hk2⟩
        case measure => simp [RowKit.intOf]
      · have hb1 := Ho.out j (by omega)
        have Hk2 : Hid (j + 1 = tl l l.length) := by
          have := Hk.out; rw [tl_pos l j hz] at this; exact this
        generalize l.getD j 0 = x at *
        have hx : ((x : Int) == 0) = false := by simp; omega
        go_wp2
        go_ret
        refine ⟨by rw [← Hk2.out]; rfl, ?_, rfl⟩
        rw [← Hk2.out]
        exact wd_take Hr.out (j + 1) hk

set_option maxHeartbeats 2000000 in
theorem small_at (va : Value) (a : List Nat) (d : Nat) (w : World) (ha : Wd w va a) (hd : 0 < d) (hd2 : d < 4294967296) (hlen : a.length < 35184372088832) (h0 : 0 < a.length) :
    Calls Tryz.prog 99 #[va, .int .u32 (d : Int)] w fun e w' => ∃ l cap, e = .returned (.tuple #[.slice (some ⟨w.heap.size, 0, none⟩) l.length cap, .int .u32 ((val a % d : Nat) : Int)]) ∧ Wd w' (.slice (some ⟨w.heap.size, 0, none⟩) l.length cap) l ∧ Nrm l ∧ val l = val a / d ∧ l.length ≤ a.length ∧ w.grownBy w' none := by
  obtain ⟨aa, ca, rfl, la, Oa, Fa⟩ := ha.form
  clear ha la
  have hmk := fun w => run_make_row' (P := Tryz.prog) 128 164 (.int .u32 0) 4 Tryz.underlying128 Tryz.infoW rfl .i64 .i64 a.length (by omega) (by omega) w
  have hdz : ((d : Int) == 0) = false := by simp; omega
  have hdp : (0 : Int) < d := by omega
  have hd3 : (d : Int) < 4294967296 := by omega
  go_enter Tryz.func99, Tryz.ntmps99
  go_wp2
  clear hmk
  go_loopw [7, 8] (fun tr ti wr => ∃ m r : Nat, ∃ q : List Nat, m ≤ a.length ∧ (r : Int) < d ∧ tr = .int .u64 r ∧ ti = .int .i64 ((m : Int) - 1) ∧ q.length = a.length ∧ Hid (RowAt wr w.heap.size q) ∧ Hid (Ok q) ∧ Hid (w.grownBy wr none) ∧ Hid (val (q.drop m) = val (a.drop m) / d ∧ r = val (a.drop m) % d)) (fun _ ti _ => (RowKit.intOf ti + 1).toNat)
  case atStart =>
    refine ⟨a.length, 0, List.replicate a.length 0, Nat.le_refl _, by omega, rfl, rfl, by simp, ?_, ok_replicate _, World.grownBy_alloc _ _ _, ?_⟩
    · show (w.alloc _).heap[w.heap.size]? = _
      rw [alloc_blk, made_row]
    · refine ⟨?_, ?_⟩
      · rw [List.drop_of_length_le (by simp), List.drop_length]; simp [val]
      · rw [List.drop_length]; simp [val]
  case round =>
    obtain ⟨m, r, q, hm, hr, rfl, rfl, hq, Hrow, Hok, Hg, Hv⟩ := hrel
    cases m with
    | succ j =>
      rw [show ((j + 1 : Nat) : Int) - 1 = (j : Int) by omega]
      obtain ⟨ba, oa, rfl, hba, hca⟩ := Fa.out (by omega)
      have hxa := (Hg.out.cell (hca j (by omega)) (by simp))
      have hxb := Oa.out j (by omega)
      have S := small_step a q j d r hd (by omega) (by omega) Hv.out.1 Hv.out.2
      have rc := row_cell Hrow.out (i := j) (by omega)
      have rf := row_frozen Hrow.out j
      generalize a.getD j 0 = x at *
      generalize q.getD j 0 = z at *
      have e1 : (r : Int) * 4294967296 = ((r * 4294967296 : Nat) : Int) := by omega
      have e2 := or_word' r x (by omega) hxb
      have b1 : (r * 4294967296 + x) / d < 4294967296 := by
        rw [Nat.div_lt_iff_lt_mul hd]
        have : (r + 1) * 4294967296 ≤ d * 4294967296 := Nat.mul_le_mul_right _ (by omega)
        omega
      have b2 : (r * 4294967296 + x) % d < d := Nat.mod_lt _ hd
      have b3 := (shl_lt r x (by omega) hxb).1
      have b4 := (shl_lt r x (by omega) hxb).2
      obtain ⟨s, hs⟩ : ∃ s, s = r * 4294967296 := ⟨_, rfl⟩
      rw [← hs] at e1 e2 S b1 b2 b3 b4
      obtain ⟨t, ht⟩ : ∃ t, t = s + x := ⟨_, rfl⟩
      rw [← ht] at e2 S b1 b2 b3
      have e3 : (t : Int) / d = ((t / d : Nat) : Int) := by rw [Int.natCast_ediv]
      have e4 : (t : Int) % d = ((t % d : Nat) : Int) := by rw [Int.natCast_emod]
      generalize t / d = qd at *
      generalize t % d = rd at *
      have HS : Hid (val ((q.set j qd).drop j) = val (a.drop j) / d ∧ rd = val (a.drop j) % d) := S
      have i1 : (x : Int) < 4294967296 := by omega
      have i2 : (t : Int) < 18446744073709551616 := by omega
      have i3 : (s : Int) < 18446744073709551616 := by omega
      have i4 : (qd : Int) < 4294967296 := by omega
      have i5 : (j : Int) < a.length := by omega
      have B1 : Hid (qd < 4294967296) := b1
      have B2 : Hid (rd < d) := b2
      clear S hca Hv hxb hs ht b1 b2 b3 b4
      go_wp2
      go_roundw
      case rel => exact ⟨j, rd, q.set j qd, by omega, by have := B2.out; omega, by rw [e4], by go_num, by simpa using hq, row_set Hrow.out j qd, ok_set Hok.out j qd B1.out, gset Hg.out (Nat.le_refl _) _, HS⟩
      case measure => simp [RowKit.intOf]
    | zero =>
      have hV := Hv.out
      simp only [List.drop_zero] at hV
      have Hnew : Hid (Wd wr (.slice (some ⟨w.heap.size, 0, none⟩) a.length a.length) q) := by
        have := row_wd Hrow.out Hok.out (by omega) a.length (by omega)
        rw [hq] at this
        exact this
      have HV : Hid (val q = val a / d ∧ r = val a % d) := hV
      clear Hv Hrow Hok hV
      have i1 : (r : Int) < 4294967296 := by omega
      go_wp2_with fail
      have hTr := trim_at w.heap.size 0 a.length q wr (by rw [hq]; exact Hnew.out) (by omega)
      rw [hq] at hTr
      refine hTr.mono ?_
      rintro e w' ⟨rfl, hv, hw⟩
      rw [hw]; clear hw w' Hnew hTr
      have hlt : (q.take (tl q a.length)).length = tl q a.length := by rw [List.length_take, Nat.min_eq_left]; have := tl_le q a.length; omega
      have R : Hid (Wd wr (.slice (some ⟨w.heap.size, 0, none⟩) (tl q a.length) a.length) (q.take (tl q a.length)) ∧ Nrm (q.take (tl q a.length)) ∧ val (q.take (tl q a.length)) = val a / d) := by
        refine ⟨hv, nrm_tl _ _ (by omega), ?_⟩
        rw [val_tl _ _ (by omega), ← hq, List.take_length]
        exact HV.out.1
      have Htl : Hid (tl q a.length ≤ a.length) := tl_le q a.length
      clear hv
      go_wp2
      go_ret2
      exact ⟨_, _, by rw [← HV.out.2, hlt]; rfl, by rw [hlt]; exact R.out.1, R.out.2.1, R.out.2.2, by rw [hlt]; exact Htl.out, Hg.out⟩
end Go.Proofs.YtagimpmefodaeaaGreatDoor

namespace Go.Proofs.YtagimpmefodaeaaGreatDoor
set_option linter.unusedVariables false
set_option linter.unusedSimpArgs false
open Go.RowKit

/-- A text out of its bytes. -/
def txt (l : List UInt8) : ByteArray := ⟨l.toArray⟩

theorem txt_size (l : List UInt8) : (txt l).size = l.length := size_of_list l
theorem txt_list (l : List UInt8) : (txt l).data.toList = l := rfl
theorem txt_of (s : ByteArray) : s = txt s.data.toList := rfl
theorem txt_app (a b : List UInt8) : txt a ++ txt b = txt (a ++ b) := by
  apply ByteArray.ext
  simp [txt]
theorem txt_take (l : List UInt8) (k : Nat) : (txt l).extract 0 k = txt (l.take k) := by
  apply ByteArray.ext
  simp [txt]
theorem txm_drop (l : List UInt8) (k : Nat) : (txt l).extract k (txt l).size = txt (l.drop k) := by
  apply ByteArray.ext
  rw [txt_size]
  simp [txt]
  exact List.take_of_length_le (by simp)

theorem run_take (l : List UInt8) (k : Nat) (hk : k ≤ l.length) (W : World) : (Instr.slice 9 (.string (txt l)) none (some (.int .i64 (k : Int))) none).run Tryz.prog W = .ok (.string (txt (l.take k))) W := by
  rw [run_slice_string_h W 9 (txt l) Tryz.underlying9 .i64 k (by omega) (by rw [txt_size]; omega), Int.toNat_natCast, txt_take]
theorem run_drop (l : List UInt8) (k : Nat) (hk : k ≤ l.length) (W : World) : (Instr.slice 9 (.string (txt l)) (some (.int .i64 (k : Int))) none none).run Tryz.prog W = .ok (.string (txt (l.drop k))) W := by
  rw [run_slice_string_l W 9 (txt l) Tryz.underlying9 .i64 k (by omega) (by rw [txt_size]; omega), Int.toNat_natCast, txm_drop]
theorem run_app (a b : List UInt8) (h : a.length + b.length ≤ 9223372036854775807) (W : World) : (Op.stringOp .add (txt a) (txt b)).run Tryz.prog W = .ok (.string (txt (a ++ b))) W := by
  rw [run_string_add_sum W (txt a) (txt b) (by rw [txt_size, txt_size]; exact h), txt_app]

/-- The point, so many places ahead of the end. -/
def pointL (l : List UInt8) (p : Nat) : List UInt8 := if p = 0 then l else l.take (l.length - p) ++ 46 :: l.drop (l.length - p)

/-- The text without its point, so many places ahead of the end. -/
def unL (l : List UInt8) (p : Nat) : Option (List UInt8) :=
  if p = 0 then some l else if p + 1 ≤ l.length ∧ l[l.length - p - 1]? = some 46 then some (l.take (l.length - p - 1) ++ l.drop (l.length - p)) else none

end Go.Proofs.YtagimpmefodaeaaGreatDoor
