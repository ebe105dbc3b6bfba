/-
  The contracts of money.arePlaces, withPoint, withoutPoint, isShown.
-/
import Derived.Test.YtijjegkkeigeoaaZb19
import Derived.Deep.OwnRows
import Derived.Laws.AppendOwn
import Derived.OwnWalk
import Derived.Deep.RegionWith
import Derived.Test.YtijjegkkeigeoaaProg
import Derived.WalkKit
import Derived.WalkSpells
import Derived.ShutString
import Derived.Lib.OthersKept
import Derived.Lib.TrimU
import Derived.Deep.LoopGhost
import Derived.Deep.QuietTactic
import Derived.BigQuiet
import Derived.Test.YtijjegkkeigeoaaZb14
import Derived.Test.YtijjegkkeigeoaaZb2
namespace Go.Proofs.Ytijjegkkeigeoaa
set_option linter.unusedVariables false
open Go.RowKit Big

theorem Try.infoW : (Try.prog.info? 133).map (fun i => (i.zero, i.size, i.bytes)) = some (some (.int .u32 0), 1, 4) := by kernel_rfl

/-- A row of words as cells. -/
def rowA (r : List Nat) : Array Value := (r.map (fun x : Nat => Value.int .u32 (x : Int))).toArray
/-- The row r stands in block g. -/
def RowAt (w : World) (g : Nat) (r : List Nat) : Prop := w.heap[g]? = some (.cells (rowA r) 133 (0, 0))

theorem made_row (n : Nat) : madeCells #[.int .u32 0] n = rowA (List.replicate n 0) := by
  apply Array.ext
  · simp [madeCells, rowA]
  · intro i h1 h2
    simp [madeCells, rowA, Nat.mod_one]

theorem row_cell {w : World} {g : Nat} {r : List Nat} (h : RowAt w g r) {i : Nat} (hi : i < r.length) : w.cell? ⟨g, i, none⟩ = some (.int .u32 (r.getD i 0 : Nat)) := by
  unfold RowAt at h
  simp [World.cell?, h, rowA, hi]
theorem row_frozen {w : World} {g : Nat} {r : List Nat} (h : RowAt w g r) (i : Nat) : w.frozen? ⟨g, i, none⟩ = false := by
  unfold RowAt at h
  exact blk_frozen h
theorem row_set {w : World} {g : Nat} {r : List Nat} (h : RowAt w g r) (i x : Nat) : RowAt (w.setCell ⟨g, i, none⟩ (.int .u32 (x : Int))) g (r.set i x) := by
  unfold RowAt at *
  rw [heap_setCell_same _ g i _ _ _ h]
  congr 2
  simp [rowA, List.map_set]
theorem row_wd {w : World} {g : Nat} {r : List Nat} (h : RowAt w g r) (ho : Ok r) (hl : r.length ≤ 140737488355328) (cap : Nat) (hcap : r.length ≤ cap) : Wd w (.slice (some ⟨g, 0, none⟩) r.length cap) r := by
  rcases Nat.eq_zero_or_pos r.length with h0 | h0
  · have : r = [] := List.eq_nil_of_length_eq_zero h0
    subst this
    exact wd_nil w _ _
  · exact ⟨ho, hl, .inr ⟨h0, g, 0, cap, rfl, blk_lt h, hcap, fun i hi => by rw [Nat.zero_add]; exact row_cell h hi⟩⟩
theorem gset {a b : World} (h : a.grownBy b none) {p : Addr} (hp : a.heap.size ≤ p.block) (v : Value) : a.grownBy (b.setCell p v) none :=
  ⟨h.os, h.tape, h.output, by simpa using h.size, fun k hk hr => by rw [heap_setCell_other _ _ _ _ (by omega)]; exact h.block k hk hr⟩

/-- What a walk is told of words that came in. -/
theorem Wd.form {w : World} {v : Value} {l : List Nat} (h : Wd w v l) : ∃ aa cap, v = .slice aa l.length cap ∧ l.length ≤ 140737488355328 ∧
    Hid (Ok l) ∧ Hid (0 < l.length → ∃ b off, aa = some ⟨b, off, none⟩ ∧ b < w.heap.size ∧ ∀ i, i < l.length → w.cell? ⟨b, off + i, none⟩ = some (.int .u32 (l.getD i 0 : Nat))) := by
  rcases h.at_ with ⟨h0, a, cap, hv⟩ | ⟨h0, b, off, cap, hv, hb, hcap, hc⟩
  · subst h0
    exact ⟨a, cap, hv, by simp, h.ok, fun h => absurd h (by simp)⟩
  · exact ⟨_, cap, hv, h.len, h.ok, fun _ => ⟨b, off, rfl, hb, hc⟩⟩

end Go.Proofs.Ytijjegkkeigeoaa

namespace Go.Proofs.Ytijjegkkeigeoaa
set_option linter.unusedVariables false
open Go.RowKit Big

end Go.Proofs.Ytijjegkkeigeoaa

namespace Go.Proofs.Ytijjegkkeigeoaa
set_option linter.unusedVariables false
open Go.RowKit Big

/-- The sign of a number. -/
def sgnV (neg : Bool) (n : Nat) : Int := if n = 0 then 0 else if neg then -1 else 1

theorem val_drop (l : List Nat) (j : Nat) (h : j < l.length) : val (l.drop j) = l.getD j 0 + 4294967296 * val (l.drop (j + 1)) := by
  have h2 : l.drop j = l.getD j 0 :: l.drop (j + 1) := by rw [List.drop_eq_getElem_cons h]; simp [h]
  rw [h2]; rfl

/-- A round of the division by one word. -/
theorem small_step (a q : List Nat) (j d r : Nat) (hd : 0 < d) (ha : j < a.length) (hq : j < q.length) (hv : val (q.drop (j + 1)) = val (a.drop (j + 1)) / d) (hr : r = val (a.drop (j + 1)) % d) :
    val ((q.set j ((r * 4294967296 + a.getD j 0) / d)).drop j) = val (a.drop j) / d ∧ (r * 4294967296 + a.getD j 0) % d = val (a.drop j) % d := by
  have e1 := val_drop a j ha
  have e2 := val_drop (q.set j ((r * 4294967296 + a.getD j 0) / d)) j (by simpa using hq)
  have e5 : (q.set j ((r * 4294967296 + a.getD j 0) / d)).drop (j + 1) = q.drop (j + 1) := List.drop_set_of_lt (by omega)
  rw [getD_set_same q j _ hq, e5, hv] at e2
  have e3 := Nat.div_add_mod (val (a.drop (j + 1))) d
  rw [← hr] at e3
  generalize val (a.drop (j + 1)) / d = Q at *
  generalize val (a.drop (j + 1)) = V at *
  generalize a.getD j 0 = x at *
  have e4 : x + 4294967296 * V = r * 4294967296 + x + d * (4294967296 * Q) := by
    rw [← e3, Nat.mul_add, ← Nat.mul_assoc, Nat.mul_comm 4294967296 d, Nat.mul_assoc]
    omega
  rw [e1, e2, e4, Nat.add_mul_div_left _ _ hd, Nat.add_mul_mod_self_left]
  exact ⟨rfl, rfl⟩

theorem or_word' (r x : Nat) (h0 : r < 4294967296) (h1 : x < 4294967296) : bits .or .u64 ((r * 4294967296 : Nat) : Int) (x : Int) = ((r * 4294967296 + x : Nat) : Int) := by
  rw [bits_or_u64_nat _ _ (by omega) (by omega)]
  have := Nat.two_pow_add_eq_or_of_lt (i := 32) (b := x) (by omega) r
  rw [Nat.mul_comm r 4294967296]
  exact congrArg _ this.symm

theorem shl_lt (r x : Nat) (hr : r < 4294967296) (hx : x < 4294967296) : r * 4294967296 + x < 18446744073709551616 ∧ r * 4294967296 < 18446744073709551616 := by omega

set_option maxHeartbeats 2000000 in
theorem small_div (va : Value) (a : List Nat) (d : Nat) (w : World) (ha : Wd w va a) (hd : 0 < d) (hd2 : d < 4294967296) (hlen : a.length < 35184372088832) :
    Calls Try.prog 79 #[va, .int .u32 (d : Int)] w fun e w' => ∃ v l, e = .returned (.tuple #[v, .int .u32 ((val a % d : Nat) : Int)]) ∧ Wd w' v l ∧ Nrm l ∧ val l = val a / d ∧ w.grownBy w' none := by
  obtain ⟨aa, ca, rfl, la, Oa, Fa⟩ := ha.form
  clear ha la
  have hmk := fun w => run_make_row' (P := Try.prog) 129 133 (.int .u32 0) 4 Try.underlying129 Try.infoW rfl .i64 .i64 a.length (by omega) (by omega) w
  have hdz : ((d : Int) == 0) = false := by simp; omega
  have hdp : (0 : Int) < d := by omega
  have hd3 : (d : Int) < 4294967296 := by omega
  go_enter Try.func79, Try.ntmps79
  go_wp2
  clear hmk
  go_loopw [7, 8] (fun tr ti wr => ∃ m r : Nat, ∃ q : List Nat, m ≤ a.length ∧ (r : Int) < d ∧ tr = .int .u64 r ∧ ti = .int .i64 ((m : Int) - 1) ∧ q.length = a.length ∧ Hid (RowAt wr w.heap.size q) ∧ Hid (Ok q) ∧ Hid (w.grownBy wr none) ∧ Hid (val (q.drop m) = val (a.drop m) / d ∧ r = val (a.drop m) % d)) (fun _ ti _ => (RowKit.intOf ti + 1).toNat)
  case atStart =>
    refine ⟨a.length, 0, List.replicate a.length 0, Nat.le_refl _, by omega, rfl, rfl, by simp, ?_, ok_replicate _, World.grownBy_alloc _ _ _, ?_⟩
    · show (w.alloc _).heap[w.heap.size]? = _
      rw [alloc_blk, made_row]
    · refine ⟨?_, ?_⟩
      · rw [List.drop_of_length_le (by simp), List.drop_length]; simp [val]
      · rw [List.drop_length]; simp [val]
  case round =>
    obtain ⟨m, r, q, hm, hr, rfl, rfl, hq, Hrow, Hok, Hg, Hv⟩ := hrel
    cases m with
    | succ j =>
      rw [show ((j + 1 : Nat) : Int) - 1 = (j : Int) by omega]
      obtain ⟨ba, oa, rfl, hba, hca⟩ := Fa.out (by omega)
      have hxa := (Hg.out.cell (hca j (by omega)) (by simp))
      have hxb := Oa.out j (by omega)
      have S := small_step a q j d r hd (by omega) (by omega) Hv.out.1 Hv.out.2
      have rc := row_cell Hrow.out (i := j) (by omega)
      have rf := row_frozen Hrow.out j
      generalize a.getD j 0 = x at *
      generalize q.getD j 0 = z at *
      have e1 : (r : Int) * 4294967296 = ((r * 4294967296 : Nat) : Int) := by omega
      have e2 := or_word' r x (by omega) hxb
      have b1 : (r * 4294967296 + x) / d < 4294967296 := by
        rw [Nat.div_lt_iff_lt_mul hd]
        have : (r + 1) * 4294967296 ≤ d * 4294967296 := Nat.mul_le_mul_right _ (by omega)
        omega
      have b2 : (r * 4294967296 + x) % d < d := Nat.mod_lt _ hd
      have b3 := (shl_lt r x (by omega) hxb).1
      have b4 := (shl_lt r x (by omega) hxb).2
      obtain ⟨s, hs⟩ : ∃ s, s = r * 4294967296 := ⟨_, rfl⟩
      rw [← hs] at e1 e2 S b1 b2 b3 b4
      obtain ⟨t, ht⟩ : ∃ t, t = s + x := ⟨_, rfl⟩
      rw [← ht] at e2 S b1 b2 b3
      have e3 : (t : Int) / d = ((t / d : Nat) : Int) := by rw [Int.natCast_ediv]
      have e4 : (t : Int) % d = ((t % d : Nat) : Int) := by rw [Int.natCast_emod]
      generalize t / d = qd at *
      generalize t % d = rd at *
      have HS : Hid (val ((q.set j qd).drop j) = val (a.drop j) / d ∧ rd = val (a.drop j) % d) := S
      have i1 : (x : Int) < 4294967296 := by omega
      have i2 : (t : Int) < 18446744073709551616 := by omega
      have i3 : (s : Int) < 18446744073709551616 := by omega
      have i4 : (qd : Int) < 4294967296 := by omega
      have i5 : (j : Int) < a.length := by omega
      have B1 : Hid (qd < 4294967296) := b1
      have B2 : Hid (rd < d) := b2
      clear S hca Hv hxb hs ht b1 b2 b3 b4
      go_wp2
      go_roundw
      case rel => exact ⟨j, rd, q.set j qd, by omega, by have := B2.out; omega, by rw [e4], by go_num, by simpa using hq, row_set Hrow.out j qd, ok_set Hok.out j qd B1.out, gset Hg.out (Nat.le_refl _) _, HS⟩
      case measure => simp [RowKit.intOf]
    | zero =>
      have hV := Hv.out
      simp only [List.drop_zero] at hV
      have Hnew : Hid (Wd wr (.slice (some ⟨w.heap.size, 0, none⟩) a.length a.length) q) := by
        have := row_wd Hrow.out Hok.out (by omega) a.length (by omega)
        rw [hq] at this
        exact this
      have HV : Hid (val q = val a / d ∧ r = val a % d) := hV
      clear Hv Hrow Hok hV
      have i1 : (r : Int) < 4294967296 := by omega
      go_wp2_with fail
      refine (trim_any _ q _ Hnew.out).mono ?_
      rintro e w' ⟨⟨v', rfl, hv⟩, hw⟩
      rw [hw]; clear hw w' Hnew
      have R : Hid (Wd wr v' (q.take (tl q q.length)) ∧ Nrm (q.take (tl q q.length)) ∧ val (q.take (tl q q.length)) = val a / d) := by
        refine ⟨hv, nrm_tl _ _ (Nat.le_refl _), ?_⟩
        rw [val_tl _ _ (Nat.le_refl _), List.take_length]
        exact HV.out.1
      clear hv
      go_wp2
      go_ret2
      exact ⟨_, _, by rw [← HV.out.2]; rfl, R.out.1, R.out.2.1, R.out.2.2, Hg.out⟩
end Go.Proofs.Ytijjegkkeigeoaa

namespace Go.Proofs.Ytijjegkkeigeoaa
set_option linter.unusedVariables false
set_option linter.unusedSimpArgs false
open Go.RowKit Big

set_option maxHeartbeats 1000000 in
theorem trim_at (b off cap : Nat) (l : List Nat) (w : World) (h : Wd w (.slice (some ⟨b, off, none⟩) l.length cap) l) (h0 : 0 < l.length) :
    Calls Try.prog 85 #[.slice (some ⟨b, off, none⟩) l.length cap] w fun e w' => e = .returned (.slice (some ⟨b, off, none⟩) (tl l l.length) cap) ∧ Wd w (.slice (some ⟨b, off, none⟩) (tl l l.length) cap) (l.take (tl l l.length)) ∧ w' = w := by
  have hlen := h.len
  obtain ⟨hcap, hc⟩ : l.length ≤ cap ∧ ∀ i, i < l.length → w.cell? ⟨b, off + i, none⟩ = some (.int .u32 (l.getD i 0 : Nat)) := by
    rcases h.at_ with ⟨h1, _⟩ | ⟨_, b', off', cap', e, _, hcap, hc⟩
    · rw [h1] at h0; simp at h0
    · cases e; exact ⟨hcap, hc⟩
  have Hc : Hid (∀ i, i < l.length → w.cell? ⟨b, off + i, none⟩ = some (.int .u32 (l.getD i 0 : Nat))) := hc
  have Ho : Hid (Ok l) := h.ok
  have Hr : Hid (Wd w (.slice (some ⟨b, off, none⟩) l.length cap) l) := h
  clear hc h
  go_enter Try.func85, Try.ntmps85
  go_wp2
  go_loop [3] (fun n => ∃ k : Nat, k ≤ l.length ∧ n = .int .i64 k ∧ Hid (tl l k = tl l l.length)) (fun n => (RowKit.intOf n).toNat)
  case atStart => exact ⟨l.length, Nat.le_refl _, rfl, rfl⟩
  case round =>
    obtain ⟨k, hk, rfl, Hk⟩ := hrel
    cases k with
    | zero =>
      go_wp2
      go_ret
      refine ⟨by rw [← Hk.out]; rfl, ?_, rfl⟩
      rw [← Hk.out]
      exact wd_take Hr.out 0 (by omega)
    | succ j =>
      have hcj := Hc.out j (by omega)
      by_cases hz : l.getD j 0 = 0
      · rw [hz] at hcj
        have Hk2 : Hid (tl l j = tl l l.length) := by
          have := Hk.out; rw [tl_zero l j hz] at this; exact this
        clear Hk hz
        go_wp2
        go_round
        case rel => exact ⟨j, by omega, by go_num, Hk2⟩
        case measure => simp [RowKit.intOf]
      · have hb1 := Ho.out j (by omega)
        have Hk2 : Hid (j + 1 = tl l l.length) := by
          have := Hk.out; rw [tl_pos l j hz] at this; exact this
        generalize l.getD j 0 = x at *
        have hx : ((x : Int) == 0) = false := by simp; omega
        go_wp2
        go_ret
        refine ⟨by rw [← Hk2.out]; rfl, ?_, rfl⟩
        rw [← Hk2.out]
        exact wd_take Hr.out (j + 1) hk

set_option maxHeartbeats 2000000 in
theorem small_at (va : Value) (a : List Nat) (d : Nat) (w : World) (ha : Wd w va a) (hd : 0 < d) (hd2 : d < 4294967296) (hlen : a.length < 35184372088832) (h0 : 0 < a.length) :
    Calls Try.prog 79 #[va, .int .u32 (d : Int)] w fun e w' => ∃ l cap, e = .returned (.tuple #[.slice (some ⟨w.heap.size, 0, none⟩) l.length cap, .int .u32 ((val a % d : Nat) : Int)]) ∧ Wd w' (.slice (some ⟨w.heap.size, 0, none⟩) l.length cap) l ∧ Nrm l ∧ val l = val a / d ∧ l.length ≤ a.length ∧ w.grownBy w' none := by
  obtain ⟨aa, ca, rfl, la, Oa, Fa⟩ := ha.form
  clear ha la
  have hmk := fun w => run_make_row' (P := Try.prog) 129 133 (.int .u32 0) 4 Try.underlying129 Try.infoW rfl .i64 .i64 a.length (by omega) (by omega) w
  have hdz : ((d : Int) == 0) = false := by simp; omega
  have hdp : (0 : Int) < d := by omega
  have hd3 : (d : Int) < 4294967296 := by omega
  go_enter Try.func79, Try.ntmps79
  go_wp2
  clear hmk
  go_loopw [7, 8] (fun tr ti wr => ∃ m r : Nat, ∃ q : List Nat, m ≤ a.length ∧ (r : Int) < d ∧ tr = .int .u64 r ∧ ti = .int .i64 ((m : Int) - 1) ∧ q.length = a.length ∧ Hid (RowAt wr w.heap.size q) ∧ Hid (Ok q) ∧ Hid (w.grownBy wr none) ∧ Hid (val (q.drop m) = val (a.drop m) / d ∧ r = val (a.drop m) % d)) (fun _ ti _ => (RowKit.intOf ti + 1).toNat)
  case atStart =>
    refine ⟨a.length, 0, List.replicate a.length 0, Nat.le_refl _, by omega, rfl, rfl, by simp, ?_, ok_replicate _, World.grownBy_alloc _ _ _, ?_⟩
    · show (w.alloc _).heap[w.heap.size]? = _
      rw [alloc_blk, made_row]
    · refine ⟨?_, ?_⟩
      · rw [List.drop_of_length_le (by simp), List.drop_length]; simp [val]
      · rw [List.drop_length]; simp [val]
  case round =>
    obtain ⟨m, r, q, hm, hr, rfl, rfl, hq, Hrow, Hok, Hg, Hv⟩ := hrel
    cases m with
    | succ j =>
      rw [show ((j + 1 : Nat) : Int) - 1 = (j : Int) by omega]
      obtain ⟨ba, oa, rfl, hba, hca⟩ := Fa.out (by omega)
      have hxa := (Hg.out.cell (hca j (by omega)) (by simp))
      have hxb := Oa.out j (by omega)
      have S := small_step a q j d r hd (by omega) (by omega) Hv.out.1 Hv.out.2
      have rc := row_cell Hrow.out (i := j) (by omega)
      have rf := row_frozen Hrow.out j
      generalize a.getD j 0 = x at *
      generalize q.getD j 0 = z at *
      have e1 : (r : Int) * 4294967296 = ((r * 4294967296 : Nat) : Int) := by omega
      have e2 := or_word' r x (by omega) hxb
      have b1 : (r * 4294967296 + x) / d < 4294967296 := by
        rw [Nat.div_lt_iff_lt_mul hd]
        have : (r + 1) * 4294967296 ≤ d * 4294967296 := Nat.mul_le_mul_right _ (by omega)
        omega
      have b2 : (r * 4294967296 + x) % d < d := Nat.mod_lt _ hd
      have b3 := (shl_lt r x (by omega) hxb).1
      have b4 := (shl_lt r x (by omega) hxb).2
      obtain ⟨s, hs⟩ : ∃ s, s = r * 4294967296 := ⟨_, rfl⟩
      rw [← hs] at e1 e2 S b1 b2 b3 b4
      obtain ⟨t, ht⟩ : ∃ t, t = s + x := ⟨_, rfl⟩
      rw [← ht] at e2 S b1 b2 b3
      have e3 : (t : Int) / d = ((t / d : Nat) : Int) := by rw [Int.natCast_ediv]
      have e4 : (t : Int) % d = ((t % d : Nat) : Int) := by rw [Int.natCast_emod]
      generalize t / d = qd at *
      generalize t % d = rd at *
      have HS : Hid (val ((q.set j qd).drop j) = val (a.drop j) / d ∧ rd = val (a.drop j) % d) := S
      have i1 : (x : Int) < 4294967296 := by omega
      have i2 : (t : Int) < 18446744073709551616 := by omega
      have i3 : (s : Int) < 18446744073709551616 := by omega
      have i4 : (qd : Int) < 4294967296 := by omega
      have i5 : (j : Int) < a.length := by omega
      have B1 : Hid (qd < 4294967296) := b1
      have B2 : Hid (rd < d) := b2
      clear S hca Hv hxb hs ht b1 b2 b3 b4
      go_wp2
      go_roundw
      case rel => exact ⟨j, rd, q.set j qd, by omega, by have := B2.out; omega, by rw [e4], by go_num, by simpa using hq, row_set Hrow.out j qd, ok_set Hok.out j qd B1.out, gset Hg.out (Nat.le_refl _) _, HS⟩
      case measure => simp [RowKit.intOf]
    | zero =>
      have hV := Hv.out
      simp only [List.drop_zero] at hV
      have Hnew : Hid (Wd wr (.slice (some ⟨w.heap.size, 0, none⟩) a.length a.length) q) := by
        have := row_wd Hrow.out Hok.out (by omega) a.length (by omega)
        rw [hq] at this
        exact this
      have HV : Hid (val q = val a / d ∧ r = val a % d) := hV
      clear Hv Hrow Hok hV
      have i1 : (r : Int) < 4294967296 := by omega
      go_wp2_with fail
      have hTr := trim_at w.heap.size 0 a.length q wr (by rw [hq]; exact Hnew.out) (by omega)
      rw [hq] at hTr
      refine hTr.mono ?_
      rintro e w' ⟨rfl, hv, hw⟩
      rw [hw]; clear hw w' Hnew hTr
      have hlt : (q.take (tl q a.length)).length = tl q a.length := by rw [List.length_take, Nat.min_eq_left]; have := tl_le q a.length; omega
      have R : Hid (Wd wr (.slice (some ⟨w.heap.size, 0, none⟩) (tl q a.length) a.length) (q.take (tl q a.length)) ∧ Nrm (q.take (tl q a.length)) ∧ val (q.take (tl q a.length)) = val a / d) := by
        refine ⟨hv, nrm_tl _ _ (by omega), ?_⟩
        rw [val_tl _ _ (by omega), ← hq, List.take_length]
        exact HV.out.1
      have Htl : Hid (tl q a.length ≤ a.length) := tl_le q a.length
      clear hv
      go_wp2
      go_ret2
      exact ⟨_, _, by rw [← HV.out.2, hlt]; rfl, by rw [hlt]; exact R.out.1, R.out.2.1, R.out.2.2, by rw [hlt]; exact Htl.out, Hg.out⟩
end Go.Proofs.Ytijjegkkeigeoaa

namespace Go.Proofs.Ytijjegkkeigeoaa
set_option linter.unusedVariables false
set_option linter.unusedSimpArgs false
open Go.RowKit Big

theorem own_wd {w : World} {base n : Nat} {v : Value} {l : List Nat} (ho : Ok l) (hn : l.length = n) (hl : n ≤ 140737488355328) (h : w.ownsRow base 133 1 v n (l.map (fun x : Nat => Value.int .u32 (x : Int)))) : Wd w v l := by
  obtain ⟨hlen, ⟨rfl, h0⟩ | ⟨g, cap, cur, rfl, hg, hb, hc, hm, hs, ht⟩⟩ := h
  · have : l = [] := by subst h0; exact List.eq_nil_of_length_eq_zero hn
    subst this
    exact wd_nil _ _ _
  · rcases Nat.eq_zero_or_pos n with h0 | h0
    · have : l = [] := by subst h0; exact List.eq_nil_of_length_eq_zero hn
      subst this
      subst h0
      exact wd_nil _ _ _
    · refine ⟨ho, by omega, .inr ⟨by omega, g, 0, cap, by rw [hn], blk_lt hb, by omega, fun i hi => ?_⟩⟩
      have e : cur[i]? = some (.int .u32 (l.getD i 0 : Nat)) := by
        have h1 : (cur.toList.take (n * 1))[i]? = some (.int .u32 (l.getD i 0 : Nat)) := by rw [ht]; simp [hi]
        rw [List.getElem?_take] at h1
        rw [if_pos (by omega)] at h1
        simpa using h1
      rw [Nat.zero_add]
      simp [World.cell?, hb, e]

theorem twin_any (v : Value) (l : List Nat) (w : World) (h : Wd w v l) (hl : l.length < 35184372088832) :
    Calls Try.prog 78 #[v] w fun e w' => ∃ v', e = .returned v' ∧ Hid (Wd w' v' l ∧ w.grownBy w' none) := by
  obtain ⟨i0, hi, hz0, hz1, hz2⟩ := info_parts Try.infoW
  have some' : ∀ b off cap, (∀ i, i < l.length → w.cell? ⟨b, off + i, none⟩ = some (.int .u32 (l.getD i 0 : Nat))) → Calls Try.prog 78 #[.slice (some ⟨b, off, none⟩) l.length cap] w fun e w' => ∃ v', e = .returned v' ∧ Hid (Wd w' v' l ∧ w.grownBy w' none) := fun b off cap hc => by
    have Hc : Hid (∀ i, i < l.length → w.cell? ⟨b, off + i, none⟩ = some (.int .u32 (l.getD i 0 : Nat))) := hc
    have Ho : Hid (Ok l) := h.ok
    clear hc
    go_enter Try.func78, Try.ntmps78
    go_wp2_with (at_builtin; refine wpList_append_own _ rfl _ _ 129 rfl w.heap.size 133 i0 (.int .u32 0) 1 4 Try.underlying129 hi hz0 hz1 hz2 rfl (by decide) _ 0 [] rfl (World.ownsRow_nil _ _ _ _) ⟨b, off, none⟩ l.length cap (l.map (fun x : Nat => Value.int .u32 (x : Int))) rfl (by simp) ?c1 ?c2 ?c3 ?c4 ?c5 ?_)
    case c1 =>
      intro j u hj
      have hj2 : j < l.length := by
        have := (List.getElem?_eq_some_iff.1 hj).1
        simpa using this
      have : u = .int .u32 (l.getD j 0 : Nat) := by simp [hj2] at hj; rw [← hj]; simp [hj2]
      subst this
      have e := Hc.out j hj2
      rcases Nat.eq_zero_or_pos j with rfl | hp
      · simpa [Addr.add] using e
      · simpa [Addr.add, Nat.ne_of_gt hp] using e
    case c2 => intro u hu; simp at hu; obtain ⟨x, _, rfl⟩ := hu; rfl
    case c3 => unfold maxLen; omega
    case c4 => omega
    case c5 => exact Nat.le_refl _
    · intro v' w1 hown' hgrow _
      have R : Hid (Wd w1 v' l ∧ w.grownBy w1 none) := by
        exact ⟨own_wd Ho.out rfl (by omega) hown', hgrow⟩
      clear hown' hgrow
      go_wp2
      go_ret
      exact ⟨_, rfl, R⟩
  rcases h.at_ with ⟨h0, a, cap, hv⟩ | ⟨h0, b, off, cap, hv, hb, hcap, hc⟩
  · subst hv
    subst h0
    cases a with
    | none =>
      clear some'
      have R : Hid (Wd w (.slice none 0 0) [] ∧ w.grownBy w none) := ⟨wd_nil _ _ _, grefl _ _⟩
      go_enter Try.func78, Try.ntmps78
      go_wp2
      go_ret
      exact ⟨_, rfl, R⟩
    | some x =>
      clear some'
      have R : Hid (Wd w (.slice none 0 0) [] ∧ w.grownBy w none) := ⟨wd_nil _ _ _, grefl _ _⟩
      go_enter Try.func78, Try.ntmps78
      go_wp2
      go_ret
      exact ⟨_, rfl, R⟩
  · subst hv
    exact some' b off cap hc

end Go.Proofs.Ytijjegkkeigeoaa

namespace Go.Proofs.Ytijjegkkeigeoaa
set_option linter.unusedVariables false
set_option linter.unusedSimpArgs false
open Go.RowKit

theorem txt_list (l : List UInt8) : (txt l).data.toList = l := rfl
theorem txt_of (s : ByteArray) : s = txt s.data.toList := rfl
theorem txt_app (a b : List UInt8) : txt a ++ txt b = txt (a ++ b) := by
  apply ByteArray.ext
  simp [txt]
theorem txt_take (l : List UInt8) (k : Nat) : (txt l).extract 0 k = txt (l.take k) := by
  apply ByteArray.ext
  simp [txt]
theorem txm_drop (l : List UInt8) (k : Nat) : (txt l).extract k (txt l).size = txt (l.drop k) := by
  apply ByteArray.ext
  rw [txt_size]
  simp [txt]
  exact List.take_of_length_le (by simp)

theorem run_take (l : List UInt8) (k : Nat) (hk : k ≤ l.length) (W : World) : (Instr.slice 9 (.string (txt l)) none (some (.int .i64 (k : Int))) none).run Try.prog W = .ok (.string (txt (l.take k))) W := by
  rw [run_slice_string_h W 9 (txt l) Try.underlying9 .i64 k (by omega) (by rw [txt_size]; omega), Int.toNat_natCast, txt_take]
theorem run_drop (l : List UInt8) (k : Nat) (hk : k ≤ l.length) (W : World) : (Instr.slice 9 (.string (txt l)) (some (.int .i64 (k : Int))) none none).run Try.prog W = .ok (.string (txt (l.drop k))) W := by
  rw [run_slice_string_l W 9 (txt l) Try.underlying9 .i64 k (by omega) (by rw [txt_size]; omega), Int.toNat_natCast, txm_drop]
theorem run_app (a b : List UInt8) (h : a.length + b.length ≤ 9223372036854775807) (W : World) : (Op.stringOp .add (txt a) (txt b)).run Try.prog W = .ok (.string (txt (a ++ b))) W := by
  rw [run_string_add_sum W (txt a) (txt b) (by rw [txt_size, txt_size]; exact h), txt_app]

/-- The point, so many places ahead of the end. -/
def pointL (l : List UInt8) (p : Nat) : List UInt8 := if p = 0 then l else l.take (l.length - p) ++ 46 :: l.drop (l.length - p)

/-- The text without its point, so many places ahead of the end. -/
def unL (l : List UInt8) (p : Nat) : Option (List UInt8) :=
  if p = 0 then some l else if p + 1 ≤ l.length ∧ l[l.length - p - 1]? = some 46 then some (l.take (l.length - p - 1) ++ l.drop (l.length - p)) else none

end Go.Proofs.Ytijjegkkeigeoaa
