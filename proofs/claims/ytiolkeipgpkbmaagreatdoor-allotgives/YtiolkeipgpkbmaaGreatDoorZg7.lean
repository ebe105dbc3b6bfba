/-
  The contracts of quarterdaybig's twin, and of div where the divisor is of one word.
-/
import Derived.Test.YtiolkeipgpkbmaaGreatDoorZg6
import Derived.Deep.RegionHeld3
import Derived.Deep.RegionWith
import Derived.BigRegion
import Derived.Test.YtiolkeipgpkbmaaGreatDoorZg0
import Derived.Laws.Bits64b
import Derived.Laws.AppendOwn
import Derived.OwnWalk
namespace Go.Proofs.YtiolkeipgpkbmaaGreatDoor
set_option linter.unusedVariables false
set_option linter.unusedSimpArgs false
open Go.RowKit Big

theorem gdr (w : World) : w.grownBy w.drew none := ⟨rfl, rfl, rfl, Nat.le_refl _, fun _ _ _ => rfl⟩

/-- What stands between the two calls of Add and Sub. -/
def Mid (w w1 : World) (neg : Bool) (v : Value) (l : List Nat) (x : Int) : Prop := Wd w1 v l ∧ Nrm l ∧ sg neg (val l) = x ∧ w.grownBy w1 none

theorem sum_mid (nx ny : Bool) (vx vy : Value) (lx ly : List Nat) (w W : World) (hW : w.grownBy W none) (hx : Wd w vx lx) (hy : Wd w vy ly) (kx : Nrm lx) (ky : Nrm ly) (h1 : lx.length < 35184372088832) (h2 : ly.length < 35184372088832) :
    Calls Tryz.prog 83 #[.bool nx, vx, .bool ny, vy] W fun e w' => ∃ neg v l, e = .returned (.tuple #[.bool neg, v]) ∧ Mid w w' neg v l (sg nx (val lx) + sg ny (val ly)) := by
  refine (sum_bigs nx ny vx vy lx ly W (hx.grow hW) (hy.grow hW) kx ky h1 h2).mono ?_
  rintro e w1 ⟨neg, v, l, rfl, hv, hn, hval, hg⟩
  exact ⟨neg, v, l, rfl, hv, hn, hval, gtrans hW hg⟩

theorem give_mid (p : Nat) (neg nz : Bool) (vz v : Value) (l : List Nat) (x : Int) (w w1 : World) (hz : w.heap[p]? = some (.cells #[.bool nz, vz] 83 (0, 0))) (hzi : ∀ k n, vz ≠ .int k n) (h : Mid w w1 neg v l x) :
    Calls Tryz.prog 79 #[.pointer (some ⟨p, 0, none⟩), .bool neg, v] w1 fun e w' => e = .returned (.pointer (some ⟨p, 0, none⟩)) ∧ Hid (BigIs w' p x ∧ w.grownBy w' (some p)) := by
  obtain ⟨hv, hn, hval, hg⟩ := h
  refine (give_any p neg nz vz v l w1 ((hg.block p (blk_lt hz) (by simp)).trans hz) hzi hv hn).mono ?_
  rintro e w2 ⟨rfl, hb, hg2⟩
  refine ⟨rfl, ⟨_, v, l, hb, ?_⟩, gtrans (gweak hg _) hg2⟩
  rw [sg_cut _ _ _ (fun h => by rw [List.eq_nil_of_length_eq_zero h]; rfl)]
  exact hval

end Go.Proofs.YtiolkeipgpkbmaaGreatDoor

namespace Go.Proofs.YtiolkeipgpkbmaaGreatDoor
set_option linter.unusedVariables false
open Go.RowKit Big

theorem or_word (x0 x1 : Nat) (h0 : x0 < 4294967296) (h1 : x1 < 4294967296) : bits .or .u64 (x0 : Int) ((x1 * 4294967296 : Nat) : Int) = ((x0 + 4294967296 * x1 : Nat) : Int) := by
  rw [bits_or_u64_nat _ _ (by omega) (by omega)]
  have := Nat.two_pow_add_eq_or_of_lt (i := 32) (b := x0) (by omega) x1
  rw [Nat.or_comm, Nat.mul_comm x1 4294967296, Nat.add_comm]
  exact congrArg _ this.symm

set_option maxHeartbeats 1000000 in
theorem uint64_any (p : Nat) (neg : Bool) (v : Value) (l : List Nat) (w : World) (h : IsBig w p neg v l) (hl : l.length ≤ 2) :
    Calls Tryz.prog 117 #[.pointer (some ⟨p, 0, none⟩)] w fun e w' => e = .returned (.int .u64 (val l : Nat)) ∧ w' = w := by
  have c1 := blk_cell1 h.blk
  have ho := h.wd.ok
  rcases h.wd.at_ with ⟨h0, a, cap, hv⟩ | ⟨h0, b, off, cap, hv, hb, hcap, hc⟩
  · subst h0; subst hv
    clear h ho
    go_enter Tryz.func117, Tryz.ntmps117
    go_wp2
    go_ret
    exact ⟨rfl, rfl⟩
  · subst hv
    match l, h0, hl with
    | [x0], _, _ =>
      have k0 : w.cell? ⟨b, off, none⟩ = some (.int .u32 (x0 : Nat)) := by first | (simp; done) | simpa using hc 0 (by simp)
      have b0 : x0 < 4294967296 := by simpa using ho 0 (by simp)
      have b0' : (x0 : Int) < 4294967296 := by omega
      have c1' : w.cell? ⟨p, 1, none⟩ = some (.slice (some ⟨b, off, none⟩) 1 cap) := c1
      have E : Hid (val [x0] = x0) := by simp [Hid, val]
      clear h ho hc c1 b0
      go_enter Tryz.func117, Tryz.ntmps117
      go_wp2
      go_ret
      exact ⟨by rw [E.out]; rfl, rfl⟩
    | [x0, x1], _, _ =>
      have k0 : w.cell? ⟨b, off, none⟩ = some (.int .u32 (x0 : Nat)) := by first | (simp; done) | simpa using hc 0 (by simp)
      have k1 : w.cell? ⟨b, off + 1, none⟩ = some (.int .u32 (x1 : Nat)) := by simpa using hc 1 (by simp)
      have b0 : x0 < 4294967296 := by simpa using ho 0 (by simp)
      have b1 : x1 < 4294967296 := by simpa using ho 1 (by simp)
      have c1' : w.cell? ⟨p, 1, none⟩ = some (.slice (some ⟨b, off, none⟩) 2 cap) := c1
      have e1 : (x1 : Int) * 4294967296 = ((x1 * 4294967296 : Nat) : Int) := by omega
      have e2 := or_word x0 x1 b0 b1
      have E : Hid (val [x0, x1] = x0 + 4294967296 * x1) := by simp [Hid, val]
      have b0' : (x0 : Int) < 4294967296 := by omega
      have b1' : (x1 : Int) < 4294967296 := by omega
      generalize x1 * 4294967296 = s at *
      generalize x0 + 4294967296 * x1 = t at *
      clear h ho hc c1 b0 b1
      go_enter Tryz.func117, Tryz.ntmps117
      go_wp2
      go_ret
      exact ⟨by rw [E.out]; rfl, rfl⟩

theorem int64_any (p : Nat) (neg : Bool) (v : Value) (l : List Nat) (w : World) (h : IsBig w p neg v l) (hl : l.length ≤ 2) (h1 : -9223372036854775808 ≤ sg neg (val l)) (h2 : sg neg (val l) ≤ 9223372036854775807) :
    Calls Tryz.prog 85 #[.pointer (some ⟨p, 0, none⟩)] w fun e w' => e = .returned (.int .i64 (sg neg (val l))) ∧ w' = w := by
  have c0 := blk_cell0 h.blk
  have H : Hid (IsBig w p neg v l) := h
  clear h
  generalize hn : val l = n at *
  have Hn : Hid (val l = n) := hn
  clear hn
  cases neg
  · go_enter Tryz.func85, Tryz.ntmps85
    go_wp2_with fail
    refine (uint64_any p _ v l w H.out hl).mono ?_
    rintro e w' ⟨rfl, hw⟩
    rw [hw, Hn.out]; clear hw w'
    have b1 : (n : Int) ≤ 9223372036854775807 := by simpa [sg] using h2
    clear h1 h2
    go_wp2
    go_ret
    exact ⟨rfl, rfl⟩
  · go_enter Tryz.func85, Tryz.ntmps85
    go_wp2_with fail
    refine (uint64_any p _ v l w H.out hl).mono ?_
    rintro e w' ⟨rfl, hw⟩
    rw [hw, Hn.out]; clear hw w'
    have b1 : (n : Int) ≤ 9223372036854775808 := by have : -9223372036854775808 ≤ -(n : Int) := by simpa [sg] using h1
                                                    omega
    have e1 : wrap64 (-wrap64 (n : Int)) = -(n : Int) := by unfold wrap64; omega
    clear h1 h2
    go_wp2
    go_ret
    refine ⟨?_, rfl⟩
    first | exact congrArg (fun z => Ending.returned (.int .i64 z)) e1 | rfl
end Go.Proofs.YtiolkeipgpkbmaaGreatDoor

namespace Go.Proofs.YtiolkeipgpkbmaaGreatDoor
set_option linter.unusedVariables false
open Go.RowKit Big

set_option maxHeartbeats 1000000 in
theorem plain_any (v : Value) (l : List Nat) (w : World) (h : Wd w v l) (hl : l.length ≤ 2) :
    Calls Tryz.prog 108 #[v] w fun e w' => e = .returned (.int .u64 (val l : Nat)) ∧ w' = w := by
  have ho := h.ok
  rcases h.at_ with ⟨h0, a, cap, hv⟩ | ⟨h0, b, off, cap, hv, hb, hcap, hc⟩
  · subst h0; subst hv
    clear h ho
    go_enter Tryz.func108, Tryz.ntmps108
    go_wp2
    go_ret
    exact ⟨rfl, rfl⟩
  · subst hv
    match l, h0, hl with
    | [x0], _, _ =>
      have k0 : w.cell? ⟨b, off, none⟩ = some (.int .u32 (x0 : Nat)) := by first | (simp; done) | simpa using hc 0 (by simp)
      have b0 : x0 < 4294967296 := by simpa using ho 0 (by simp)
      have b0' : (x0 : Int) < 4294967296 := by omega
      have E : Hid (val [x0] = x0) := by simp [Hid, val]
      show Calls _ _ #[.slice (some ⟨b, off, none⟩) 1 cap] _ _
      clear h ho hc b0
      go_enter Tryz.func108, Tryz.ntmps108
      go_wp2
      go_ret
      exact ⟨by rw [E.out]; rfl, rfl⟩
    | [x0, x1], _, _ =>
      have k0 : w.cell? ⟨b, off, none⟩ = some (.int .u32 (x0 : Nat)) := by first | (simp; done) | simpa using hc 0 (by simp)
      have k1 : w.cell? ⟨b, off + 1, none⟩ = some (.int .u32 (x1 : Nat)) := by simpa using hc 1 (by simp)
      have b0 : x0 < 4294967296 := by simpa using ho 0 (by simp)
      have b1 : x1 < 4294967296 := by simpa using ho 1 (by simp)
      have e1 : (x1 : Int) * 4294967296 = ((x1 * 4294967296 : Nat) : Int) := by omega
      have e2 := or_word x0 x1 b0 b1
      have E : Hid (val [x0, x1] = x0 + 4294967296 * x1) := by simp [Hid, val]
      have b0' : (x0 : Int) < 4294967296 := by omega
      have b1' : (x1 : Int) < 4294967296 := by omega
      generalize x1 * 4294967296 = s at *
      generalize x0 + 4294967296 * x1 = t at *
      show Calls _ _ #[.slice (some ⟨b, off, none⟩) 2 cap] _ _
      clear h ho hc b0 b1
      go_enter Tryz.func108, Tryz.ntmps108
      go_wp2
      go_ret
      exact ⟨by rw [E.out]; rfl, rfl⟩

/-- The sign of a number. -/
def sgnV (neg : Bool) (n : Nat) : Int := if n = 0 then 0 else if neg then -1 else 1

theorem sign_any (p : Nat) (neg : Bool) (v : Value) (l : List Nat) (w : World) (h : IsBig w p neg v l) :
    Calls Tryz.prog 45 #[.pointer (some ⟨p, 0, none⟩)] w fun e w' => e = .returned (.int .i64 (sgnV neg (val l))) ∧ w' = w := by
  have c0 := blk_cell0 h.blk
  have c1 := blk_cell1 h.blk
  obtain ⟨a, cap, hv⟩ := h.wd.slice
  have hz : val l = 0 ↔ l.length = 0 := (val_zero h.nrm).trans ⟨fun e => by rw [e]; rfl, List.eq_nil_of_length_eq_zero⟩
  have hlen := h.wd.len
  subst hv
  clear h
  generalize val l = m at *
  generalize l.length = n at *
  by_cases hn : n = 0
  · have E : Hid (sgnV neg m = 0) := by unfold Hid sgnV; rw [if_pos (hz.2 hn)]
    subst hn
    clear hz
    go_enter Tryz.func45, Tryz.ntmps45
    go_wp2
    go_ret
    exact ⟨by rw [E.out]; rfl, rfl⟩
  · have t1 : ((n : Int) == 0) = false := by simp; omega
    have E : Hid (sgnV neg m = if neg then -1 else 1) := by unfold Hid sgnV; rw [if_neg (fun e => hn (hz.1 e))]
    clear hz
    cases neg
    · go_enter Tryz.func45, Tryz.ntmps45
      go_wp2
      go_ret
      exact ⟨by rw [E.out]; rfl, rfl⟩
    · go_enter Tryz.func45, Tryz.ntmps45
      go_wp2
      go_ret
      exact ⟨by rw [E.out]; rfl, rfl⟩

theorem val_drop (l : List Nat) (j : Nat) (h : j < l.length) : val (l.drop j) = l.getD j 0 + 4294967296 * val (l.drop (j + 1)) := by
  have h2 : l.drop j = l.getD j 0 :: l.drop (j + 1) := by rw [List.drop_eq_getElem_cons h]; simp [h]
  rw [h2]; rfl

/-- A round of the division by one word. -/
theorem small_step (a q : List Nat) (j d r : Nat) (hd : 0 < d) (ha : j < a.length) (hq : j < q.length) (hv : val (q.drop (j + 1)) = val (a.drop (j + 1)) / d) (hr : r = val (a.drop (j + 1)) % d) :
    val ((q.set j ((r * 4294967296 + a.getD j 0) / d)).drop j) = val (a.drop j) / d ∧ (r * 4294967296 + a.getD j 0) % d = val (a.drop j) % d := by
  have e1 := val_drop a j ha
  have e2 := val_drop (q.set j ((r * 4294967296 + a.getD j 0) / d)) j (by simpa using hq)
  have e5 : (q.set j ((r * 4294967296 + a.getD j 0) / d)).drop (j + 1) = q.drop (j + 1) := List.drop_set_of_lt (by omega)
  rw [getD_set_same q j _ hq, e5, hv] at e2
  have e3 := Nat.div_add_mod (val (a.drop (j + 1))) d
  rw [← hr] at e3
  generalize val (a.drop (j + 1)) / d = Q at *
  generalize val (a.drop (j + 1)) = V at *
  generalize a.getD j 0 = x at *
  have e4 : x + 4294967296 * V = r * 4294967296 + x + d * (4294967296 * Q) := by
    rw [← e3, Nat.mul_add, ← Nat.mul_assoc, Nat.mul_comm 4294967296 d, Nat.mul_assoc]
    omega
  rw [e1, e2, e4, Nat.add_mul_div_left _ _ hd, Nat.add_mul_mod_self_left]
  exact ⟨rfl, rfl⟩

theorem or_word' (r x : Nat) (h0 : r < 4294967296) (h1 : x < 4294967296) : bits .or .u64 ((r * 4294967296 : Nat) : Int) (x : Int) = ((r * 4294967296 + x : Nat) : Int) := by
  rw [bits_or_u64_nat _ _ (by omega) (by omega)]
  have := Nat.two_pow_add_eq_or_of_lt (i := 32) (b := x) (by omega) r
  rw [Nat.mul_comm r 4294967296]
  exact congrArg _ this.symm

theorem shl_lt (r x : Nat) (hr : r < 4294967296) (hx : x < 4294967296) : r * 4294967296 + x < 18446744073709551616 ∧ r * 4294967296 < 18446744073709551616 := by omega

set_option maxHeartbeats 2000000 in
theorem small_div (va : Value) (a : List Nat) (d : Nat) (w : World) (ha : Wd w va a) (hd : 0 < d) (hd2 : d < 4294967296) (hlen : a.length < 35184372088832) :
    Calls Tryz.prog 110 #[va, .int .u32 (d : Int)] w fun e w' => ∃ v l, e = .returned (.tuple #[v, .int .u32 ((val a % d : Nat) : Int)]) ∧ Wd w' v l ∧ Nrm l ∧ val l = val a / d ∧ w.grownBy w' none := by
  obtain ⟨aa, ca, rfl, la, Oa, Fa⟩ := ha.form
  clear ha la
  have hmk := fun w => run_make_row' (P := Tryz.prog) 81 166 (.int .u32 0) 4 Tryz.underlying81 Tryz.infoW rfl .i64 .i64 a.length (by omega) (by omega) w
  have hdz : ((d : Int) == 0) = false := by simp; omega
  have hdp : (0 : Int) < d := by omega
  have hd3 : (d : Int) < 4294967296 := by omega
  go_enter Tryz.func110, Tryz.ntmps110
  go_wp2
  clear hmk
  go_loopw [7, 8] (fun tr ti wr => ∃ m r : Nat, ∃ q : List Nat, m ≤ a.length ∧ (r : Int) < d ∧ tr = .int .u64 r ∧ ti = .int .i64 ((m : Int) - 1) ∧ q.length = a.length ∧ Hid (RowAt wr w.heap.size q) ∧ Hid (Ok q) ∧ Hid (w.grownBy wr none) ∧ Hid (val (q.drop m) = val (a.drop m) / d ∧ r = val (a.drop m) % d)) (fun _ ti _ => (RowKit.intOf ti + 1).toNat)
  case atStart =>
    refine ⟨a.length, 0, List.replicate a.length 0, Nat.le_refl _, by omega, rfl, rfl, by simp, ?_, ok_replicate _, World.grownBy_alloc _ _ _, ?_⟩
    · show (w.alloc _).heap[w.heap.size]? = _
      rw [alloc_blk, made_row]
    · refine ⟨?_, ?_⟩
      · rw [List.drop_of_length_le (by simp), List.drop_length]; simp [val]
      · rw [List.drop_length]; simp [val]
  case round =>
    obtain ⟨m, r, q, hm, hr, rfl, rfl, hq, Hrow, Hok, Hg, Hv⟩ := hrel
    cases m with
    | succ j =>
      rw [show ((j + 1 : Nat) : Int) - 1 = (j : Int) by omega]
      obtain ⟨ba, oa, rfl, hba, hca⟩ := Fa.out (by omega)
      have hxa := (Hg.out.cell (hca j (by omega)) (by simp))
      have hxb := Oa.out j (by omega)
      have S := small_step a q j d r hd (by omega) (by omega) Hv.out.1 Hv.out.2
      have rc := row_cell Hrow.out (i := j) (by omega)
      have rf := row_frozen Hrow.out j
      generalize a.getD j 0 = x at *
      generalize q.getD j 0 = z at *
      have e1 : (r : Int) * 4294967296 = ((r * 4294967296 : Nat) : Int) := by omega
      have e2 := or_word' r x (by omega) hxb
      have b1 : (r * 4294967296 + x) / d < 4294967296 := by
        rw [Nat.div_lt_iff_lt_mul hd]
        have : (r + 1) * 4294967296 ≤ d * 4294967296 := Nat.mul_le_mul_right _ (by omega)
        omega
      have b2 : (r * 4294967296 + x) % d < d := Nat.mod_lt _ hd
      have b3 := (shl_lt r x (by omega) hxb).1
      have b4 := (shl_lt r x (by omega) hxb).2
      obtain ⟨s, hs⟩ : ∃ s, s = r * 4294967296 := ⟨_, rfl⟩
      rw [← hs] at e1 e2 S b1 b2 b3 b4
      obtain ⟨t, ht⟩ : ∃ t, t = s + x := ⟨_, rfl⟩
      rw [← ht] at e2 S b1 b2 b3
      have e3 : (t : Int) / d = ((t / d : Nat) : Int) := by rw [Int.natCast_ediv]
      have e4 : (t : Int) % d = ((t % d : Nat) : Int) := by rw [Int.natCast_emod]
      generalize t / d = qd at *
      generalize t % d = rd at *
      have HS : Hid (val ((q.set j qd).drop j) = val (a.drop j) / d ∧ rd = val (a.drop j) % d) := S
      have i1 : (x : Int) < 4294967296 := by omega
      have i2 : (t : Int) < 18446744073709551616 := by omega
      have i3 : (s : Int) < 18446744073709551616 := by omega
      have i4 : (qd : Int) < 4294967296 := by omega
      have i5 : (j : Int) < a.length := by omega
      have B1 : Hid (qd < 4294967296) := b1
      have B2 : Hid (rd < d) := b2
      clear S hca Hv hxb hs ht b1 b2 b3 b4
      go_wp2
      go_roundw
      case rel => exact ⟨j, rd, q.set j qd, by omega, by have := B2.out; omega, by rw [e4], by go_num, by simpa using hq, row_set Hrow.out j qd, ok_set Hok.out j qd B1.out, gset Hg.out (Nat.le_refl _) _, HS⟩
      case measure => simp [RowKit.intOf]
    | zero =>
      have hV := Hv.out
      simp only [List.drop_zero] at hV
      have Hnew : Hid (Wd wr (.slice (some ⟨w.heap.size, 0, none⟩) a.length a.length) q) := by
        have := row_wd Hrow.out Hok.out (by omega) a.length (by omega)
        rw [hq] at this
        exact this
      have HV : Hid (val q = val a / d ∧ r = val a % d) := hV
      clear Hv Hrow Hok hV
      have i1 : (r : Int) < 4294967296 := by omega
      go_wp2_with fail
      refine (trim_any _ q _ Hnew.out).mono ?_
      rintro e w' ⟨⟨v', rfl, hv⟩, hw⟩
      rw [hw]; clear hw w' Hnew
      have R : Hid (Wd wr v' (q.take (tl q q.length)) ∧ Nrm (q.take (tl q q.length)) ∧ val (q.take (tl q q.length)) = val a / d) := by
        refine ⟨hv, nrm_tl _ _ (Nat.le_refl _), ?_⟩
        rw [val_tl _ _ (Nat.le_refl _), List.take_length]
        exact HV.out.1
      clear hv
      go_wp2
      go_ret2
      exact ⟨_, _, by rw [← HV.out.2]; rfl, R.out.1, R.out.2.1, R.out.2.2, Hg.out⟩
end Go.Proofs.YtiolkeipgpkbmaaGreatDoor

namespace Go.Proofs.YtiolkeipgpkbmaaGreatDoor
set_option linter.unusedVariables false
open Go.RowKit Big

/-- A bit of a number is a bit of one of its words. -/
theorem word_bit {l : List Nat} (ho : Ok l) (k j : Nat) (hj : j < 32) (hk : k < l.length) : val l / 2 ^ (32 * k + j) % 2 = l.getD k 0 / 2 ^ j % 2 := by
  have e : val l = val (l.take k) + 4294967296 ^ k * (l.getD k 0 + 4294967296 * val (l.drop (k + 1))) := by
    have h1 := val_append (l.take k) (l.drop k)
    rw [List.take_append_drop, List.length_take, Nat.min_eq_left (Nat.le_of_lt hk)] at h1
    have h2 : l.drop k = l.getD k 0 :: l.drop (k + 1) := by rw [List.drop_eq_getElem_cons hk]; simp [hk]
    rw [h1, h2]; rfl
  have hlt := val_lt (ok_take ho k)
  rw [List.length_take, Nat.min_eq_left (Nat.le_of_lt hk)] at hlt
  have hB : 0 < 4294967296 ^ k := Nat.pow_pos (by omega)
  rw [Nat.pow_add, ← pow32, ← Nat.div_div_eq_div_mul, e, Nat.add_mul_div_left _ _ hB, Nat.div_eq_of_lt hlt, Nat.zero_add]
  have e2 : 4294967296 = 2 ^ j * (2 * 2 ^ (31 - j)) := by
    rw [show 2 * 2 ^ (31 - j) = 2 ^ (32 - j) by rw [← Nat.pow_succ']; congr 1; omega, ← Nat.pow_add, show j + (32 - j) = 32 by omega]
  have hJ := Nat.two_pow_pos j
  rw [show l.getD k 0 + 4294967296 * val (l.drop (k + 1)) = l.getD k 0 + 2 ^ j * (2 * (2 ^ (31 - j) * val (l.drop (k + 1)))) by
    rw [← Nat.mul_assoc 2, ← Nat.mul_assoc (2 ^ j), ← e2], Nat.add_mul_div_left _ _ hJ, Nat.add_mul_mod_self_left]

/-- Bit i of a number. -/
def bitOf (n i : Nat) : Nat := n / 2 ^ i % 2

theorem bit_any (v : Value) (l : List Nat) (k j : Nat) (w : World) (h : Wd w v l) (hj : j < 32) (hk : k < l.length) (hl : l.length < 35184372088832) :
    Calls Tryz.prog 132 #[v, .int .i64 ((32 * k + j : Nat) : Int)] w fun e w' => e = .returned (.int .u64 (bitOf (val l) (32 * k + j))) ∧ w' = w := by
  have ho := h.ok
  rcases h.at_ with ⟨h0, a, cap, hv⟩ | ⟨h0, b, off, cap, hv, hb, hcap, hc⟩
  · subst h0; simp at hk
  · subst hv
    have hck := hc k hk
    have hW : bitOf (val l) (32 * k + j) = l.getD k 0 / 2 ^ j % 2 := word_bit ho k j hj hk
    have hx := ho k hk
    generalize l.getD k 0 = x at *
    obtain ⟨i, hi⟩ : ∃ i, i = 32 * k + j := ⟨_, rfl⟩
    rw [← hi] at hW ⊢
    have e1 : (i : Int) / 32 = k := by omega
    have e2 : (i : Int) % 32 = j := by omega
    have e3 : (x : Int) / 2 ^ j = ((x / 2 ^ j : Nat) : Int) := by rw [Int.natCast_ediv, Int.natCast_pow]; rfl
    have hy : x / 2 ^ j ≤ x := Nat.div_le_self _ _
    generalize hyg : x / 2 ^ j = y at *
    have e4 : bits .and .u64 (y : Int) 1 = ((y % 2 : Nat) : Int) := by
      have := bits_and_u64_nat y 1 (by omega) (by omega)
      rw [Nat.and_one_is_mod] at this
      exact this
    have hr : y % 2 < 2 := Nat.mod_lt _ (by omega)
    generalize y % 2 = r at *
    have HW : Hid (bitOf (val l) i = r) := hW
    have i1 : (i : Int) < 2000000000000000 := by omega
    have i2 : ¬ ((i : Int) < 0) := by omega
    have i3 : (k : Int) < l.length := by omega
    have i4 : (j : Int) < 32 := by omega
    have i5 : (y : Int) < 4294967296 := by omega
    have i6 : (x : Int) < 4294967296 := by omega
    have i7 : ¬ ((l.length : Int) ≤ k) := by omega
    clear h ho hc hW hi hyg
    go_enter Tryz.func132, Tryz.ntmps132
    go_wp2
    go_ret
    exact ⟨by rw [HW.out]; rfl, rfl⟩

theorem first_bit (n i : Nat) (h : ∀ k, k < i → bitOf n k = 0) : n % 2 ^ i = 0 := by
  induction i with
  | zero => simp [Nat.mod_one]
  | succ i ih =>
    have h1 := ih (fun k hk => h k (by omega))
    have h2 := h i (by omega)
    unfold bitOf at h2
    have hp := Nat.two_pow_pos i
    obtain ⟨q, hq⟩ := Nat.dvd_of_mod_eq_zero h1
    rw [hq, Nat.mul_div_cancel_left _ hp] at h2
    obtain ⟨t, ht⟩ := Nat.dvd_of_mod_eq_zero h2
    rw [hq, ht, Nat.pow_succ, ← Nat.mul_assoc]
    exact Nat.mul_mod_right _ _

/-- Of a number of just 64 bits. -/
theorem tz_facts (n i : Nat) (h1 : 9223372036854775808 ≤ n) (h2 : n < 18446744073709551616) (hz : ∀ k, k < i → bitOf n k = 0) (hi : bitOf n i = 1) : i ≤ 63 ∧ (i = 63 ↔ n = 9223372036854775808) := by
  have top : bitOf n 63 = 1 := by
    unfold bitOf
    have : n / 2 ^ 63 = 1 := by
      apply Nat.div_eq_of_lt_le <;> omega
    rw [this]
  have hle : i ≤ 63 := by
    apply Classical.byContradiction
    intro hn
    have := hz 63 (by omega)
    omega
  refine ⟨hle, ?_, ?_⟩
  · rintro rfl
    have := first_bit n 63 hz
    omega
  · rintro rfl
    apply Classical.byContradiction
    intro hn
    have h3 : i < 63 := by omega
    have e : (9223372036854775808 : Nat) = 2 ^ i * (2 * 2 ^ (62 - i)) := by
      rw [show 2 * 2 ^ (62 - i) = 2 ^ (63 - i) by rw [← Nat.pow_succ']; congr 1; omega, ← Nat.pow_add, show i + (63 - i) = 63 by omega]
    unfold bitOf at hi
    rw [e, Nat.mul_div_cancel_left _ (Nat.two_pow_pos i)] at hi
    omega
end Go.Proofs.YtiolkeipgpkbmaaGreatDoor

namespace Go.Proofs.YtiolkeipgpkbmaaGreatDoor
set_option linter.unusedVariables false
open Go.RowKit Big

theorem bit_i (v : Value) (l : List Nat) (i : Nat) (w : World) (h : Wd w v l) (hk : i / 32 < l.length) (hl : l.length < 35184372088832) :
    Calls Tryz.prog 132 #[v, .int .i64 (i : Int)] w fun e w' => e = .returned (.int .u64 (bitOf (val l) i)) ∧ w' = w := by
  have := bit_any v l (i / 32) (i % 32) w h (by omega) hk hl
  rw [show 32 * (i / 32) + i % 32 = i by omega] at this
  exact this

theorem top_bit (n : Nat) (h1 : 9223372036854775808 ≤ n) (h2 : n < 18446744073709551616) : bitOf n 63 = 1 := by
  unfold bitOf
  have : n / 2 ^ 63 = 1 := by
    apply Nat.div_eq_of_lt_le <;> omega
  rw [this]

theorem bit01 (n i : Nat) : bitOf n i = 0 ∨ bitOf n i = 1 := by unfold bitOf; omega

theorem len_two {l : List Nat} (ho : Ok l) (hn : Nrm l) (h2 : val l < 18446744073709551616) : l.length ≤ 2 := by
  rcases Nat.eq_zero_or_pos l.length with h0 | h0
  · omega
  · have h3 := val_ge hn h0
    apply Classical.byContradiction
    intro hc
    have : 4294967296 ^ 2 ≤ 4294967296 ^ (l.length - 1) := Nat.pow_le_pow_right (by omega) (by omega)
    omega
theorem len_two' {l : List Nat} (ho : Ok l) (h1 : 9223372036854775808 ≤ val l) : 2 ≤ l.length := by
  have h3 := val_lt ho
  apply Classical.byContradiction
  intro hc
  have : 4294967296 ^ l.length ≤ 4294967296 ^ 1 := Nat.pow_le_pow_right (by omega) (by omega)
  omega

set_option maxHeartbeats 1000000 in
theorem tzb_any (p : Nat) (neg : Bool) (v : Value) (l : List Nat) (w : World) (h : IsBig w p neg v l) (h1 : 9223372036854775808 ≤ val l) (h2 : val l < 18446744073709551616) :
    Calls Tryz.prog 116 #[.pointer (some ⟨p, 0, none⟩)] w fun e w' => (∃ i : Nat, e = .returned (.int .u64 i) ∧ i ≤ 63 ∧ (i = 63 ↔ val l = 9223372036854775808)) ∧ w' = w := by
  have c1 := blk_cell1 h.blk
  have l1 := len_two h.wd.ok h.nrm h2
  have l2 := len_two' h.wd.ok h1
  obtain ⟨a, cap, hv⟩ := h.wd.slice
  have hlen : l.length = 2 := by omega
  rw [hlen] at hv
  subst hv
  have H : Hid (Wd w (.slice a 2 cap) l) := h.wd
  have Hl : Hid (l.length = 2) := hlen
  have F : Hid (∀ i, (∀ k, k < i → bitOf (val l) k = 0) → bitOf (val l) i = 1 → i ≤ 63 ∧ (i = 63 ↔ val l = 9223372036854775808)) := fun i hz hi => tz_facts (val l) i h1 h2 hz hi
  have Top : Hid (bitOf (val l) 63 = 1) := top_bit _ h1 h2
  clear h h1 h2 l1 l2 hlen
  generalize hn : val l = n at *
  have Hn : Hid (val l = n) := hn
  clear hn
  go_enter Tryz.func116, Tryz.ntmps116
  go_wp2
  go_loop [3] (fun tn => ∃ i : Nat, (i : Int) ≤ 63 ∧ tn = .int .u64 i ∧ Hid (∀ k, k < i → bitOf n k = 0)) (fun tn => 64 - (RowKit.intOf tn).toNat)
  case atStart => exact ⟨0, by omega, rfl, fun k hk => by omega⟩
  case round =>
    obtain ⟨i, hi, rfl, Hz⟩ := hrel
    go_wp2_with fail
    refine (bit_i _ l i w H.out (by have := Hl.out; omega) (by have := Hl.out; omega)).mono ?_
    rintro e w' ⟨rfl, hw⟩
    rw [hw, Hn.out]; clear hw w'
    rcases bit01 n i with hb | hb
    · rw [hb]
      have R : Hid (i + 1 ≤ 63 ∧ ∀ k, k < i + 1 → bitOf n k = 0) := by
        have hz : ∀ k, k < i + 1 → bitOf n k = 0 := fun k hk => by
          rcases Nat.lt_or_ge k i with h | h
          · exact Hz.out k h
          · rw [show k = i by omega]; exact hb
        refine ⟨?_, hz⟩
        apply Classical.byContradiction
        intro hc
        have hi63 : i = 63 := by omega
        subst hi63
        have := Top.out
        omega
      clear hb Hz F
      go_wp2
      go_round
      case rel => exact ⟨i + 1, by have := R.out.1; omega, by go_num, R.out.2⟩
      case measure => simp [RowKit.intOf]; omega
    · rw [hb]
      have R : Hid (i ≤ 63 ∧ (i = 63 ↔ n = 9223372036854775808)) := F.out i Hz.out hb
      clear hb Hz F
      go_wp2
      go_ret
      exact ⟨⟨i, rfl, R.out.1, R.out.2⟩, rfl⟩

/-- Is it of 64 bits? -/
def Fits (x : Int) : Prop := -9223372036854775808 ≤ x ∧ x ≤ 9223372036854775807

set_option maxHeartbeats 1000000 in
theorem isInt64_any (p : Nat) (neg : Bool) (v : Value) (l : List Nat) (w : World) (h : IsBig w p neg v l) (hl : l.length < 35184372088832) :
    Calls Tryz.prog 84 #[.pointer (some ⟨p, 0, none⟩)] w fun e w' => (∃ b : Bool, e = .returned (.bool b) ∧ (b = true ↔ Fits (sg neg (val l)))) ∧ w' = w := by
  have c0 := blk_cell0 h.blk
  have c1 := blk_cell1 h.blk
  have H : Hid (IsBig w p neg v l) := h
  clear h
  generalize hn : val l = n at *
  have Hn : Hid (val l = n) := hn
  clear hn
  go_enter Tryz.func84, Tryz.ntmps84
  go_wp2_with fail
  refine (length_any v l w H.out.wd H.out.nrm hl).mono ?_
  rintro e w' ⟨⟨L, rfl, hB⟩, hw⟩
  rw [hw]; clear hw w'
  rw [Hn.out] at hB
  have HB : Hid (Bits n L) := hB
  clear hB
  rcases Nat.lt_trichotomy L 64 with hL | hL | hL
  · have R : Hid (Fits (sg neg n)) := by
      have hlt : n < 9223372036854775808 := by
        rcases HB.out with ⟨h, _⟩ | ⟨h1, _, h2⟩
        · omega
        · have : 2 ^ L ≤ 2 ^ 63 := Nat.pow_le_pow_right (by omega) (by omega)
          omega
      unfold Hid Fits sg; cases neg <;> simp <;> omega
    have t1 : (L : Int) < 64 := by omega
    clear HB
    go_wp2
    go_ret
    exact ⟨⟨true, rfl, fun _ => R.out, fun _ => rfl⟩, rfl⟩
  · subst hL
    have h12 : Hid (9223372036854775808 ≤ n ∧ n < 18446744073709551616) := by
      rcases HB.out with ⟨_, h⟩ | ⟨_, h1, h2⟩
      · omega
      · exact ⟨h1, h2⟩
    clear HB
    cases neg
    · have R : Hid (¬ Fits (sg false n)) := by
        have := h12.out
        unfold Hid Fits sg; simp; omega
      go_wp2
      go_ret
      exact ⟨⟨false, rfl, fun h => by simp at h, fun h => absurd h R.out⟩, rfl⟩
    · go_wp2_with fail
      refine (tzb_any p true v l w H.out (by rw [Hn.out]; exact h12.out.1) (by rw [Hn.out]; exact h12.out.2)).mono ?_
      rintro e w' ⟨⟨i, rfl, hi, hiff⟩, hw⟩
      rw [hw]; clear hw w'
      rw [Hn.out] at hiff
      have R : Hid (((i : Int) == 63) = true ↔ Fits (sg true n)) := by
        have := h12.out
        unfold Hid Fits sg
        simp
        omega
      clear hiff
      go_wp2
      go_ret
      exact ⟨⟨_, rfl, R.out⟩, rfl⟩
  · have R : Hid (¬ Fits (sg neg n)) := by
      have hge : 18446744073709551616 ≤ n := by
        rcases HB.out with ⟨_, h⟩ | ⟨h1, h2, _⟩
        · omega
        · have : 2 ^ 64 ≤ 2 ^ (L - 1) := Nat.pow_le_pow_right (by omega) (by omega)
          omega
      unfold Hid Fits sg; cases neg <;> simp <;> omega
    have t1 : ¬ ((L : Int) < 64) := by omega
    have t2 : ((L : Int) == 64) = false := by simp; omega
    clear HB
    go_wp2
    go_ret
    refine ⟨⟨false, ?_, fun h => by simp at h, fun h => absurd h R.out⟩, rfl⟩
    simp
    omega

theorem small_yes (p : Nat) (neg : Bool) (v : Value) (l : List Nat) (w : World) (h : IsBig w p neg v l) (hl : l.length < 35184372088832) (hf : Fits (sg neg (val l))) :
    Calls Tryz.prog 44 #[.pointer (some ⟨p, 0, none⟩)] w fun e w' => e = .returned (.tuple #[.int .i64 (sg neg (val l)), .int .i64 0]) ∧ w' = w := by
  have H : Hid (IsBig w p neg v l) := h
  have Hf : Hid (Fits (sg neg (val l))) := hf
  have h2 : l.length ≤ 2 := len_two h.wd.ok h.nrm (by
    unfold Fits sg at hf; cases neg <;> simp at hf <;> omega)
  clear h hf
  generalize hx : sg neg (val l) = x at *
  have Hx : Hid (sg neg (val l) = x) := hx
  clear hx
  go_enter Tryz.func44, Tryz.ntmps44
  go_wp2_with fail
  refine (isInt64_any p neg v l w H.out hl).mono ?_
  rintro e w' ⟨⟨b, rfl, hb⟩, hw⟩
  rw [hw]; clear hw w'
  obtain rfl : b = true := hb.2 (by rw [Hx.out]; exact Hf.out)
  clear hb
  go_wp2_with fail
  refine (int64_any p neg v l w H.out h2 (by rw [Hx.out]; exact Hf.out.1) (by rw [Hx.out]; exact Hf.out.2)).mono ?_
  rintro e w' ⟨rfl, hw⟩
  rw [hw, Hx.out]; clear hw w'
  go_wp2
  go_ret2
  exact ⟨rfl, rfl⟩

theorem small_no (p : Nat) (neg : Bool) (v : Value) (l : List Nat) (w : World) (h : IsBig w p neg v l) (hl : l.length < 35184372088832) (hf : ¬ Fits (sg neg (val l))) :
    Calls Tryz.prog 44 #[.pointer (some ⟨p, 0, none⟩)] w fun e w' => e = .returned (.tuple #[.int .i64 0, .int .i64 10]) ∧ w' = w := by
  have H : Hid (IsBig w p neg v l) := h
  have Hf : Hid (¬ Fits (sg neg (val l))) := hf
  clear h hf
  go_enter Tryz.func44, Tryz.ntmps44
  go_wp2_with fail
  refine (isInt64_any p neg v l w H.out hl).mono ?_
  rintro e w' ⟨⟨b, rfl, hb⟩, hw⟩
  rw [hw]; clear hw w'
  obtain rfl : b = false := by
    cases b
    · rfl
    · exact absurd (hb.1 rfl) Hf.out
  clear hb
  go_wp2
  go_ret2
  exact ⟨rfl, rfl⟩
end Go.Proofs.YtiolkeipgpkbmaaGreatDoor

namespace Go.Proofs.YtiolkeipgpkbmaaGreatDoor
set_option linter.unusedVariables false
set_option linter.unusedSimpArgs false
open Go.RowKit Big

/-- What a division leaves. -/
def DivEnd (w : World) (a b : Nat) (e : Ending) (w' : World) : Prop := ∃ q r lq lr, e = .returned (.tuple #[q, r]) ∧ Hid (Wd w' q lq ∧ Wd w' r lr ∧ Nrm lq ∧ Nrm lr ∧ val lq = a / b ∧ val lr = a % b ∧ w.grownBy w' none)

set_option maxRecDepth 100000 in
set_option maxHeartbeats 2000000 in
theorem div_less (va vb : Value) (a b : List Nat) (w : World) (ha : Wd w va a) (hb : Wd w vb b) (na : Nrm a) (nb : Nrm b) (h0 : 0 < b.length) (hl : a.length < 35184372088832) (hlt : val a < val b) :
    Calls Tryz.prog 81 #[va, vb] w (DivEnd w (val a) (val b)) := by
  have Cm : Hid (Calls Tryz.prog 86 #[va, vb] w fun e w' => e = .returned (.int .i64 (-1)) ∧ ∃ n, w' = w.drewN n) := by
    have := cmp_any va vb a b w ha hb na nb
    rw [cmpV_lt hlt] at this
    exact this
  have Tw : Hid (∀ n, Calls Tryz.prog 82 #[va] (w.drewN n) fun e w' => ∃ v', e = .returned v' ∧ Hid (Wd w' v' a ∧ w.grownBy w' none)) := fun n => by
    refine (twin_any va a (w.drewN n) (ha.grow (gdrewN (grefl _ _) n)) hl).mono ?_
    rintro e w' ⟨v', rfl, hv⟩
    exact ⟨v', rfl, hv.out.1, gtrans (gdrewN (grefl _ _) n) hv.out.2⟩
  have E : Hid (val a / val b = 0 ∧ val a % val b = val a ∧ Nrm a) := ⟨Nat.div_eq_of_lt hlt, Nat.mod_eq_of_lt hlt, na⟩
  obtain ⟨aa, ca, rfl, la, Oa, Fa⟩ := ha.form
  obtain ⟨ab, cb, rfl, lb, Ob, Fb⟩ := hb.form
  have n2 : ((b.length : Int) == 0) = false := by rw [beq_eq_false_iff_ne]; omega
  clear ha hb na nb hlt Fa Fb Oa Ob
  go_enter Tryz.func81, Tryz.ntmps81
  go_wp2_with fail
  refine Cm.out.mono ?_
  rintro e w' ⟨rfl, n, hw⟩
  rw [hw]; clear hw w' Cm
  go_wp2_with fail
  refine (Tw.out n).mono ?_
  rintro e w1 ⟨v', rfl, hR⟩
  clear Tw
  go_wp2
  go_ret2
  refine ⟨_, _, [], a, rfl, wd_nil _ _ _, hR.out.1, .inl rfl, E.out.2.2, ?_, ?_, hR.out.2⟩
  · rw [E.out.1]; rfl
  · exact E.out.2.1.symm

theorem cmp_ge {a b : Nat} (h : b ≤ a) : cmpV a b = 0 ∨ cmpV a b = 1 := by
  unfold cmpV
  rw [if_neg (by omega)]
  split <;> simp

set_option maxRecDepth 100000 in
set_option maxHeartbeats 4000000 in
theorem div_two (va vb : Value) (a b : List Nat) (w : World) (ha : Wd w va a) (hb : Wd w vb b) (na : Nrm a) (nb : Nrm b) (h0 : 0 < b.length) (hl : a.length ≤ 2) (hge : val b ≤ val a) :
    Calls Tryz.prog 81 #[va, vb] w (DivEnd w (val a) (val b)) := by
  have hbl : b.length ≤ 2 := Nat.le_trans (len_le ha.ok nb hge) hl
  have lt64 : ∀ {l : List Nat}, Ok l → l.length ≤ 2 → val l < 18446744073709551616 := fun {l} ho h => by
    have h1 := val_lt ho
    have h2 : 4294967296 ^ l.length ≤ 4294967296 ^ 2 := Nat.pow_le_pow_right (by omega) h
    omega
  have x1 := lt64 ha.ok hl
  have y1 := lt64 hb.ok hbl
  have y0 : 0 < val b := by
    have h1 := val_ge nb h0
    have h2 := Nat.pow_pos (n := b.length - 1) (by omega : 0 < 4294967296)
    omega
  have Cm : Hid (∃ c : Int, (c = 0 ∨ c = 1) ∧ Calls Tryz.prog 86 #[va, vb] w fun e w' => e = .returned (.int .i64 c) ∧ ∃ n, w' = w.drewN n) := ⟨_, cmp_ge hge, cmp_any va vb a b w ha hb na nb⟩
  have Pa : Hid (∀ n, Calls Tryz.prog 108 #[va] (w.drewN n) fun e w' => e = .returned (.int .u64 (val a : Nat)) ∧ w' = w.drewN n) := fun n => plain_any va a _ (ha.grow (gdrewN (grefl _ _) n)) hl
  have Pb : Hid (∀ n, Calls Tryz.prog 108 #[vb] (w.drewN n) fun e w' => e = .returned (.int .u64 (val b : Nat)) ∧ w' = w.drewN n) := fun n => plain_any vb b _ (hb.grow (gdrewN (grefl _ _) n)) hbl
  obtain ⟨aa, ca, rfl, la, Oa, Fa⟩ := ha.form
  obtain ⟨ab, cb, rfl, lb, Ob, Fb⟩ := hb.form
  have n2 : ((b.length : Int) == 0) = false := by rw [beq_eq_false_iff_ne]; omega
  have n3 : (a.length : Int) ≤ 2 := by omega
  clear ha hb na nb hge Fa Fb Oa Ob lt64
  generalize val a = x at *
  generalize val b = y at *
  obtain ⟨c, hc, Cm⟩ := Cm.out
  have Cm2 : Hid (Calls Tryz.prog 86 #[.slice aa a.length ca, .slice ab b.length cb] w fun e w' => e = .returned (.int .i64 c) ∧ ∃ n, w' = w.drewN n) := Cm
  clear Cm
  have q1 : x / y < 18446744073709551616 := Nat.lt_of_le_of_lt (Nat.div_le_self _ _) x1
  have r1 : x % y < 18446744073709551616 := Nat.lt_of_le_of_lt (Nat.mod_le _ _) x1
  have Wq : Hid (∀ W, Calls Tryz.prog 109 #[.int .u64 ((x / y : Nat) : Int)] W fun e w' => ∃ v l, e = .returned v ∧ Wd w' v l ∧ Nrm l ∧ val l = x / y ∧ W.grownBy w' none) := fun W => words_any _ W q1
  have Wr : Hid (∀ W, Calls Tryz.prog 109 #[.int .u64 ((x % y : Nat) : Int)] W fun e w' => ∃ v l, e = .returned v ∧ Wd w' v l ∧ Nrm l ∧ val l = x % y ∧ W.grownBy w' none) := fun W => words_any _ W r1
  have yi : ((y : Int) == 0) = false := by rw [beq_eq_false_iff_ne]; omega
  have yn : ¬ (y : Int) = 0 := by omega
  have tq : (x : Int).tdiv y = ((x / y : Nat) : Int) := by rw [Int.tdiv_eq_ediv_of_nonneg (by omega)]; rfl
  have tr : (x : Int).tmod y = ((x % y : Nat) : Int) := by rw [Int.tmod_eq_emod_of_nonneg (by omega)]; rfl
  have eq : (x : Int) / y = ((x / y : Nat) : Int) := by rfl
  have er : (x : Int) % y = ((x % y : Nat) : Int) := by rfl
  have qq : ((x / y : Nat) : Int) < 18446744073709551616 := by omega
  have rr : ((x % y : Nat) : Int) < 18446744073709551616 := by omega
  have HQ : Hid (∀ q, q = x / y → q = x / y) := fun _ h => h
  generalize hQ : x / y = Q at *
  generalize hRm : x % y = R at *
  have HQ2 : Hid (x / y = Q ∧ x % y = R) := ⟨hQ, hRm⟩
  clear hQ hRm HQ
  rcases hc with rfl | rfl
  all_goals
    go_enter Tryz.func81, Tryz.ntmps81
    go_wp2_with fail
    refine Cm2.out.mono ?_
    rintro e w' ⟨rfl, n, hw⟩
    rw [hw]; clear hw w' Cm2
    go_wp2_with fail
    refine (Pa.out n).mono ?_
    rintro e w' ⟨rfl, hw⟩
    rw [hw]; clear hw w' Pa
    go_wp2_with fail
    refine (Pb.out n).mono ?_
    rintro e w' ⟨rfl, hw⟩
    rw [hw]; clear hw w' Pb
    go_wp2
    refine wp_region_any (by kernel_rfl) ?_
    refine wpAny_take (i := 0) (v := .int .u64 (x : Int)) rfl (by kernel_rfl) (by kernel_rfl) (by kernel_rfl) (fun _ _ _ h => h) (Or.inl ⟨by rfl, fun w => by go_simp⟩) ?_
    simp only [Act.put, List.setIfInBounds_toArray, List.set_cons_zero, List.set_cons_succ]
    refine wpAny_take (i := 1) (v := .int .u64 (y : Int)) rfl (by kernel_rfl) (by kernel_rfl) (by kernel_rfl) (fun _ _ _ h => h) (Or.inl ⟨by rfl, fun w => by go_simp⟩) ?_
    simp only [Act.put, List.setIfInBounds_toArray, List.set_cons_zero, List.set_cons_succ]
    refine wpAny_take (i := 2) (v := .int .u64 (Q : Int)) rfl (by kernel_rfl) (by kernel_rfl) (by kernel_rfl) (fun _ _ _ h => h) (Or.inl ⟨by rfl, fun w => by go_simp; rw [if_neg (by omega), IntKind.wrap_u64, Int.emod_eq_of_lt (by omega) (by omega)]⟩) ?_
    simp only [Act.put, List.setIfInBounds_toArray, List.set_cons_zero, List.set_cons_succ]
    refine wpAny_take (i := 4) (v := .int .u64 (x : Int)) rfl (by kernel_rfl) (by kernel_rfl) (by kernel_rfl) (fun _ _ _ h => h) (Or.inl ⟨by rfl, fun w => by go_simp⟩) ?_
    simp only [Act.put, List.setIfInBounds_toArray, List.set_cons_zero, List.set_cons_succ]
    refine wpAny_take (i := 5) (v := .int .u64 (y : Int)) rfl (by kernel_rfl) (by kernel_rfl) (by kernel_rfl) (fun _ _ _ h => h) (Or.inl ⟨by rfl, fun w => by go_simp⟩) ?_
    simp only [Act.put, List.setIfInBounds_toArray, List.set_cons_zero, List.set_cons_succ]
    refine wpAny_take (i := 6) (v := .int .u64 (R : Int)) rfl (by kernel_rfl) (by kernel_rfl) (by kernel_rfl) (fun _ _ _ h => h) (Or.inl ⟨by rfl, fun w => by go_simp; omega⟩) ?_
    simp only [Act.put, List.setIfInBounds_toArray, List.set_cons_zero, List.set_cons_succ]
    refine any_one (i := 3) (by kernel_rfl) ?_
    refine wpOp_step rfl (fun K hK => ?_)
    rw [if_pos (by rfl)]
    go_wp2_with fail
    refine (Wq.out _).mono ?_
    rintro e w1 ⟨v1, l1, rfl, hv1, hn1, hl1, hg1⟩
    refine hK _ _ ?_
    clear hK K Wq
    have H1 : Hid (Wd w1 v1 l1 ∧ Nrm l1 ∧ val l1 = Q ∧ w.grownBy w1 none) := ⟨hv1, hn1, hl1, ⟨hg1.os, hg1.tape, hg1.output, hg1.size, fun k hk hr => hg1.block k hk hr⟩⟩
    clear hv1 hn1 hl1 hg1
    refine any_one (i := 7) (by kernel_rfl) ?_
    refine wpOp_step rfl (fun K hK => ?_)
    rw [if_pos (by rfl)]
    go_wp2_with fail
    refine (Wr.out _).mono ?_
    rintro e w2 ⟨v2, l2, rfl, hv2, hn2, hl2, hg2⟩
    refine hK _ _ ?_
    clear hK K Wr
    have H2 : Hid (Wd w2 v1 l1 ∧ Wd w2 v2 l2 ∧ Nrm l1 ∧ Nrm l2 ∧ val l1 = x / y ∧ val l2 = x % y ∧ w.grownBy w2 none) := ⟨H1.out.1.grow hg2, hv2, H1.out.2.1, hn2, H1.out.2.2.1.trans HQ2.out.1.symm, hl2.trans HQ2.out.2.symm, gtrans H1.out.2.2.2 hg2⟩
    clear hv2 hn2 hl2 hg2 H1 HQ2
    refine any_one (i := 8) (by kernel_rfl) ?_
    refine wpOp_step rfl (fun K hK => ?_)
    rw [if_pos (by rfl)]
    have hK' : Shut (∀ a w, wpAny _ _ _ _ _ _ a w → K a w) := hK
    clear hK
    go_wp2
    refine hK'.out _ _ ?_
    clear hK' K
    refine any_one (i := 9) (by kernel_rfl) ?_
    refine wpOp_step rfl (fun K hK => ?_)
    rw [if_pos (by rfl)]
    have hK' : Shut (∀ a w, wpAny _ _ _ _ _ _ a w → K a w) := hK
    clear hK
    go_wp2
    refine hK'.out _ _ ?_
    clear hK' K
    refine wpAny_done (by kernel_rfl) ?_ _
    go_wp2
    go_ret2
    exact ⟨_, _, _, _, rfl, H2⟩
end Go.Proofs.YtiolkeipgpkbmaaGreatDoor
