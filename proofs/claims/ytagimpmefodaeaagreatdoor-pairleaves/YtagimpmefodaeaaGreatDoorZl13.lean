/-
  The contracts of Uint64 and Int64 of quarterdaybig's Int, where a number is of two words at most.
-/
import Derived.Test.YtagimpmefodaeaaGreatDoorZl12
import Derived.Deep.OwnRows
import Derived.Deep.QuietTactic
import Derived.BigQuiet
import Derived.OrdersHeld
import Derived.RegionTactic
import Derived.Deep.RegionHeld3
import Derived.Deep.RegionWith
import Derived.BigRegion
import Derived.Laws.Bits64b
namespace Go.Proofs.YtagimpmefodaeaaGreatDoor
set_option linter.unusedVariables false
open Go.RowKit Big

theorem Tryz.infoW : (Tryz.prog.info? 164).map (fun i => (i.zero, i.size, i.bytes)) = some (some (.int .u32 0), 1, 4) := by kernel_rfl

/-- A row of words as cells. -/
def rowA (r : List Nat) : Array Value := (r.map (fun x : Nat => Value.int .u32 (x : Int))).toArray
/-- The row r stands in block g. -/
def RowAt (w : World) (g : Nat) (r : List Nat) : Prop := w.heap[g]? = some (.cells (rowA r) 164 (0, 0))

theorem made_row (n : Nat) : madeCells #[.int .u32 0] n = rowA (List.replicate n 0) := by
  apply Array.ext
  · simp [madeCells, rowA]
  · intro i h1 h2
    simp [madeCells, rowA, Nat.mod_one]

theorem row_cell {w : World} {g : Nat} {r : List Nat} (h : RowAt w g r) {i : Nat} (hi : i < r.length) : w.cell? ⟨g, i, none⟩ = some (.int .u32 (r.getD i 0 : Nat)) := by
  unfold RowAt at h
  simp [World.cell?, h, rowA, hi]
theorem row_frozen {w : World} {g : Nat} {r : List Nat} (h : RowAt w g r) (i : Nat) : w.frozen? ⟨g, i, none⟩ = false := by
  unfold RowAt at h
  exact blk_frozen h
theorem row_set {w : World} {g : Nat} {r : List Nat} (h : RowAt w g r) (i x : Nat) : RowAt (w.setCell ⟨g, i, none⟩ (.int .u32 (x : Int))) g (r.set i x) := by
  unfold RowAt at *
  rw [heap_setCell_same _ g i _ _ _ h]
  congr 2
  simp [rowA, List.map_set]
theorem row_wd {w : World} {g : Nat} {r : List Nat} (h : RowAt w g r) (ho : Ok r) (hl : r.length ≤ 140737488355328) (cap : Nat) (hcap : r.length ≤ cap) : Wd w (.slice (some ⟨g, 0, none⟩) r.length cap) r := by
  rcases Nat.eq_zero_or_pos r.length with h0 | h0
  · have : r = [] := List.eq_nil_of_length_eq_zero h0
    subst this
    exact wd_nil w _ _
  · exact ⟨ho, hl, .inr ⟨h0, g, 0, cap, rfl, blk_lt h, hcap, fun i hi => by rw [Nat.zero_add]; exact row_cell h hi⟩⟩
theorem gset {a b : World} (h : a.grownBy b none) {p : Addr} (hp : a.heap.size ≤ p.block) (v : Value) : a.grownBy (b.setCell p v) none :=
  ⟨h.os, h.tape, h.output, by simpa using h.size, fun k hk hr => by rw [heap_setCell_other _ _ _ _ (by omega)]; exact h.block k hk hr⟩

/-- What a walk is told of words that came in. -/
theorem Wd.form {w : World} {v : Value} {l : List Nat} (h : Wd w v l) : ∃ aa cap, v = .slice aa l.length cap ∧ l.length ≤ 140737488355328 ∧
    Hid (Ok l) ∧ Hid (0 < l.length → ∃ b off, aa = some ⟨b, off, none⟩ ∧ b < w.heap.size ∧ ∀ i, i < l.length → w.cell? ⟨b, off + i, none⟩ = some (.int .u32 (l.getD i 0 : Nat))) := by
  rcases h.at_ with ⟨h0, a, cap, hv⟩ | ⟨h0, b, off, cap, hv, hb, hcap, hc⟩
  · subst h0
    exact ⟨a, cap, hv, by simp, h.ok, fun h => absurd h (by simp)⟩
  · exact ⟨_, cap, hv, h.len, h.ok, fun _ => ⟨b, off, rfl, hb, hc⟩⟩

set_option maxHeartbeats 2000000 in
theorem add_ge (va vb : Value) (a b : List Nat) (w : World) (ha : Wd w va a) (hb : Wd w vb b) (hge : b.length ≤ a.length) (hlen : a.length < 35184372088832) :
    Calls Tryz.prog 89 #[va, vb] w fun e w' => ∃ v l, e = .returned v ∧ Wd w' v l ∧ Nrm l ∧ val l = val a + val b ∧ w.grownBy w' none := by
  obtain ⟨aa, ca, rfl, la, Oa, Fa⟩ := ha.form
  obtain ⟨ab, cb, rfl, lb, Ob, Fb⟩ := hb.form
  clear ha hb la lb
  have hmk := fun w => run_make_row' (P := Tryz.prog) 128 164 (.int .u32 0) 4 Tryz.underlying128 Tryz.infoW rfl .i64 .i64 (a.length + 1) (by omega) (by omega) w
  rw [show ((a.length + 1 : Nat) : Int) = (a.length : Int) + 1 by omega] at hmk
  have hnl : ¬ ((a.length : Int) < b.length) := by omega
  go_enter Tryz.func89, Tryz.ntmps89
  go_wp2
  clear hmk
  go_loopw [6, 7] (fun tc ti wr => ∃ k c : Nat, ∃ r : List Nat, k ≤ a.length ∧ (c : Int) < 4294967296 ∧ tc = .int .u64 c ∧ ti = .int .i64 k ∧ r.length = a.length + 1 ∧ Hid (RowAt wr w.heap.size r) ∧ Hid (Ok r) ∧ Hid (w.grownBy wr none) ∧ Hid (val (r.take k) + 4294967296 ^ k * c = val (a.take k) + val (b.take k))) (fun _ ti _ => a.length - (RowKit.intOf ti).toNat)
  case atStart =>
    refine ⟨0, 0, List.replicate (a.length + 1) 0, by omega, by omega, rfl, rfl, by simp, ?_, ok_replicate _, World.grownBy_alloc _ _ _, ?_⟩
    · show (w.alloc _).heap[w.heap.size]? = _
      rw [alloc_blk, made_row]
    · simp [Hid, val]
  case round =>
    obtain ⟨k, c, r, hk, hc, rfl, rfl, hr, Hrow, Hok, Hg, Hv⟩ := hrel
    by_cases hlt : k < a.length
    · obtain ⟨ba, oa, rfl, hba, hca⟩ := Fa.out (by omega)
      have hxa := (Hg.out.cell (hca k hlt) (by simp))
      have hxb := Oa.out k hlt
      have S := add_step a b r k c (by omega) Hv.out
      have rc := row_cell Hrow.out (i := k) (by omega)
      have rf := row_frozen Hrow.out k
      by_cases hlb : k < b.length
      · obtain ⟨bb, ob, rfl, hbb, hcb⟩ := Fb.out (by omega)
        have hya := (Hg.out.cell (hcb k hlb) (by simp))
        have hyb := Ob.out k hlb
        generalize a.getD k 0 = x at *
        generalize b.getD k 0 = y at *
        generalize r.getD k 0 = z at *
        have e1 : IntKind.u32.wrap ((c : Int) + x + y) = ((c + x + y) % 4294967296 : Nat) := by rw [IntKind.wrap_u32]; omega
        have e2 : ((c : Int) + x + y) / 4294967296 = ((c + x + y) / 4294967296 : Nat) := by omega
        have b3 : (c + x + y) / 4294967296 < 4294967296 := by omega
        have b4 : (c + x + y) % 4294967296 < 4294967296 := Nat.mod_lt _ (by omega)
        generalize (c + x + y) % 4294967296 = d at *
        generalize (c + x + y) / 4294967296 = q at *
        have HS : Hid (val ((r.set k d).take (k + 1)) + 4294967296 ^ (k + 1) * q = val (a.take (k + 1)) + val (b.take (k + 1))) := S
        have b1 : (x : Int) < 4294967296 := by omega
        have b2 : (y : Int) < 4294967296 := by omega
        clear S hca hcb Hv hxb hyb
        go_wp2
        go_roundw
        case rel => exact ⟨k + 1, q, r.set k d, by omega, by omega, rfl, by go_num, by simpa using hr, row_set Hrow.out k d, ok_set Hok.out k d b4, gset Hg.out (Nat.le_refl _) _, HS⟩
        case measure => simp [RowKit.intOf]; omega
      · have hy0 : b.getD k 0 = 0 := by simp [List.getD, List.getElem?_eq_none (Nat.le_of_not_lt hlb)]
        rw [hy0, Nat.add_zero] at S
        generalize a.getD k 0 = x at *
        generalize r.getD k 0 = z at *
        have e1 : IntKind.u32.wrap ((c : Int) + x) = ((c + x) % 4294967296 : Nat) := by rw [IntKind.wrap_u32]; omega
        have e2 : ((c : Int) + x) / 4294967296 = ((c + x) / 4294967296 : Nat) := by omega
        have b3 : (c + x) / 4294967296 < 4294967296 := by omega
        have b4 : (c + x) % 4294967296 < 4294967296 := Nat.mod_lt _ (by omega)
        generalize (c + x) % 4294967296 = d at *
        generalize (c + x) / 4294967296 = q at *
        have HS : Hid (val ((r.set k d).take (k + 1)) + 4294967296 ^ (k + 1) * q = val (a.take (k + 1)) + val (b.take (k + 1))) := S
        have b1 : (x : Int) < 4294967296 := by omega
        clear S hca Hv hxb hy0
        go_wp2
        go_roundw
        case rel => exact ⟨k + 1, q, r.set k d, by omega, by omega, rfl, by go_num, by simpa using hr, row_set Hrow.out k d, ok_set Hok.out k d b4, gset Hg.out (Nat.le_refl _) _, HS⟩
        case measure => simp [RowKit.intOf]; omega
    · have hka : k = a.length := by omega
      subst hka
      have rc := row_cell Hrow.out (i := a.length) (by omega)
      have rf := row_frozen Hrow.out a.length
      generalize r.getD a.length 0 = z at *
      have Hnew : Hid (∀ wx, wx = wr.setCell ⟨w.heap.size, a.length, none⟩ (.int .u32 (c : Int)) → Wd wx (.slice (some ⟨w.heap.size, 0, none⟩) (a.length + 1) (a.length + 1)) (r.set a.length c)) := by
        rintro wx rfl
        have := row_wd (row_set Hrow.out a.length c) (ok_set Hok.out _ _ (by omega)) (by simp [hr]; omega) (a.length + 1) (by simp [hr])
        rw [List.length_set, hr] at this
        exact this
      have Hval : Hid (val (r.set a.length c) = val a + val b) := by
        have h1 := val_set r a.length c (by omega)
        have h2 := Hv.out
        rw [List.take_of_length_le (by simp; omega)] at h1
        rw [List.take_length, List.take_of_length_le (l := b) (by omega)] at h2
        exact h1.trans h2
      have Hg2 : Hid (w.grownBy (wr.setCell ⟨w.heap.size, a.length, none⟩ (.int .u32 (c : Int))) none) := gset Hg.out (Nat.le_refl _) _
      clear Hv Hrow Hok Hg
      go_wp2_with fail
      refine (trim_any _ (r.set a.length c) _ (Hnew.out _ rfl)).mono ?_
      rintro e w' ⟨⟨v', rfl, hv⟩, hw⟩
      rw [hw]; clear hw w' Hnew
      have R : Hid (Wd (wr.setCell ⟨w.heap.size, a.length, none⟩ (.int .u32 (c : Int))) v' ((r.set a.length c).take (tl (r.set a.length c) (r.set a.length c).length)) ∧ Nrm ((r.set a.length c).take (tl (r.set a.length c) (r.set a.length c).length)) ∧ val ((r.set a.length c).take (tl (r.set a.length c) (r.set a.length c).length)) = val a + val b) := by
        refine ⟨hv, nrm_tl _ _ (Nat.le_refl _), ?_⟩
        rw [val_tl _ _ (Nat.le_refl _), List.take_length]
        exact Hval.out
      clear hv
      go_wp2
      go_ret
      exact ⟨_, _, rfl, R.out.1, R.out.2.1, R.out.2.2, Hg2.out⟩
end Go.Proofs.YtagimpmefodaeaaGreatDoor

namespace Go.Proofs.YtagimpmefodaeaaGreatDoor
set_option linter.unusedVariables false
open Go.RowKit Big

set_option maxHeartbeats 2000000 in
theorem add_lt (va vb : Value) (a b : List Nat) (w : World) (ha : Wd w va a) (hb : Wd w vb b) (hge : b.length < a.length) (hlen : a.length < 35184372088832) :
    Calls Tryz.prog 89 #[vb, va] w fun e w' => ∃ v l, e = .returned v ∧ Wd w' v l ∧ Nrm l ∧ val l = val a + val b ∧ w.grownBy w' none := by
  obtain ⟨aa, ca, rfl, la, Oa, Fa⟩ := ha.form
  obtain ⟨ab, cb, rfl, lb, Ob, Fb⟩ := hb.form
  clear ha hb la lb
  have hmk := fun w => run_make_row' (P := Tryz.prog) 128 164 (.int .u32 0) 4 Tryz.underlying128 Tryz.infoW rfl .i64 .i64 (a.length + 1) (by omega) (by omega) w
  rw [show ((a.length + 1 : Nat) : Int) = (a.length : Int) + 1 by omega] at hmk
  have hnl : (b.length : Int) < a.length := by omega
  go_enter Tryz.func89, Tryz.ntmps89
  go_wp2
  clear hmk
  go_loopw [6, 7] (fun tc ti wr => ∃ k c : Nat, ∃ r : List Nat, k ≤ a.length ∧ (c : Int) < 4294967296 ∧ tc = .int .u64 c ∧ ti = .int .i64 k ∧ r.length = a.length + 1 ∧ Hid (RowAt wr w.heap.size r) ∧ Hid (Ok r) ∧ Hid (w.grownBy wr none) ∧ Hid (val (r.take k) + 4294967296 ^ k * c = val (a.take k) + val (b.take k))) (fun _ ti _ => a.length - (RowKit.intOf ti).toNat)
  case atStart =>
    refine ⟨0, 0, List.replicate (a.length + 1) 0, by omega, by omega, rfl, rfl, by simp, ?_, ok_replicate _, World.grownBy_alloc _ _ _, ?_⟩
    · show (w.alloc _).heap[w.heap.size]? = _
      rw [alloc_blk, made_row]
    · simp [Hid, val]
  case round =>
    obtain ⟨k, c, r, hk, hc, rfl, rfl, hr, Hrow, Hok, Hg, Hv⟩ := hrel
    by_cases hlt : k < a.length
    · obtain ⟨ba, oa, rfl, hba, hca⟩ := Fa.out (by omega)
      have hxa := (Hg.out.cell (hca k hlt) (by simp))
      have hxb := Oa.out k hlt
      have S := add_step a b r k c (by omega) Hv.out
      have rc := row_cell Hrow.out (i := k) (by omega)
      have rf := row_frozen Hrow.out k
      by_cases hlb : k < b.length
      · obtain ⟨bb, ob, rfl, hbb, hcb⟩ := Fb.out (by omega)
        have hya := (Hg.out.cell (hcb k hlb) (by simp))
        have hyb := Ob.out k hlb
        generalize a.getD k 0 = x at *
        generalize b.getD k 0 = y at *
        generalize r.getD k 0 = z at *
        have e1 : IntKind.u32.wrap ((c : Int) + x + y) = ((c + x + y) % 4294967296 : Nat) := by rw [IntKind.wrap_u32]; omega
        have e2 : ((c : Int) + x + y) / 4294967296 = ((c + x + y) / 4294967296 : Nat) := by omega
        have b3 : (c + x + y) / 4294967296 < 4294967296 := by omega
        have b4 : (c + x + y) % 4294967296 < 4294967296 := Nat.mod_lt _ (by omega)
        generalize (c + x + y) % 4294967296 = d at *
        generalize (c + x + y) / 4294967296 = q at *
        have HS : Hid (val ((r.set k d).take (k + 1)) + 4294967296 ^ (k + 1) * q = val (a.take (k + 1)) + val (b.take (k + 1))) := S
        have b1 : (x : Int) < 4294967296 := by omega
        have b2 : (y : Int) < 4294967296 := by omega
        clear S hca hcb Hv hxb hyb
        go_wp2
        go_roundw
        case rel => exact ⟨k + 1, q, r.set k d, by omega, by omega, rfl, by go_num, by simpa using hr, row_set Hrow.out k d, ok_set Hok.out k d b4, gset Hg.out (Nat.le_refl _) _, HS⟩
        case measure => simp [RowKit.intOf]; omega
      · have hy0 : b.getD k 0 = 0 := by simp [List.getD, List.getElem?_eq_none (Nat.le_of_not_lt hlb)]
        rw [hy0, Nat.add_zero] at S
        generalize a.getD k 0 = x at *
        generalize r.getD k 0 = z at *
        have e1 : IntKind.u32.wrap ((c : Int) + x) = ((c + x) % 4294967296 : Nat) := by rw [IntKind.wrap_u32]; omega
        have e2 : ((c : Int) + x) / 4294967296 = ((c + x) / 4294967296 : Nat) := by omega
        have b3 : (c + x) / 4294967296 < 4294967296 := by omega
        have b4 : (c + x) % 4294967296 < 4294967296 := Nat.mod_lt _ (by omega)
        generalize (c + x) % 4294967296 = d at *
        generalize (c + x) / 4294967296 = q at *
        have HS : Hid (val ((r.set k d).take (k + 1)) + 4294967296 ^ (k + 1) * q = val (a.take (k + 1)) + val (b.take (k + 1))) := S
        have b1 : (x : Int) < 4294967296 := by omega
        clear S hca Hv hxb hy0
        go_wp2
        go_roundw
        case rel => exact ⟨k + 1, q, r.set k d, by omega, by omega, rfl, by go_num, by simpa using hr, row_set Hrow.out k d, ok_set Hok.out k d b4, gset Hg.out (Nat.le_refl _) _, HS⟩
        case measure => simp [RowKit.intOf]; omega
    · have hka : k = a.length := by omega
      subst hka
      have rc := row_cell Hrow.out (i := a.length) (by omega)
      have rf := row_frozen Hrow.out a.length
      generalize r.getD a.length 0 = z at *
      have Hnew : Hid (∀ wx, wx = wr.setCell ⟨w.heap.size, a.length, none⟩ (.int .u32 (c : Int)) → Wd wx (.slice (some ⟨w.heap.size, 0, none⟩) (a.length + 1) (a.length + 1)) (r.set a.length c)) := by
        rintro wx rfl
        have := row_wd (row_set Hrow.out a.length c) (ok_set Hok.out _ _ (by omega)) (by simp [hr]; omega) (a.length + 1) (by simp [hr])
        rw [List.length_set, hr] at this
        exact this
      have Hval : Hid (val (r.set a.length c) = val a + val b) := by
        have h1 := val_set r a.length c (by omega)
        have h2 := Hv.out
        rw [List.take_of_length_le (by simp; omega)] at h1
        rw [List.take_length, List.take_of_length_le (l := b) (by omega)] at h2
        exact h1.trans h2
      have Hg2 : Hid (w.grownBy (wr.setCell ⟨w.heap.size, a.length, none⟩ (.int .u32 (c : Int))) none) := gset Hg.out (Nat.le_refl _) _
      clear Hv Hrow Hok Hg
      go_wp2_with fail
      refine (trim_any _ (r.set a.length c) _ (Hnew.out _ rfl)).mono ?_
      rintro e w' ⟨⟨v', rfl, hv⟩, hw⟩
      rw [hw]; clear hw w' Hnew
      have R : Hid (Wd (wr.setCell ⟨w.heap.size, a.length, none⟩ (.int .u32 (c : Int))) v' ((r.set a.length c).take (tl (r.set a.length c) (r.set a.length c).length)) ∧ Nrm ((r.set a.length c).take (tl (r.set a.length c) (r.set a.length c).length)) ∧ val ((r.set a.length c).take (tl (r.set a.length c) (r.set a.length c).length)) = val a + val b) := by
        refine ⟨hv, nrm_tl _ _ (Nat.le_refl _), ?_⟩
        rw [val_tl _ _ (Nat.le_refl _), List.take_length]
        exact Hval.out
      clear hv
      go_wp2
      go_ret
      exact ⟨_, _, rfl, R.out.1, R.out.2.1, R.out.2.2, Hg2.out⟩

theorem add_any (va vb : Value) (a b : List Nat) (w : World) (ha : Wd w va a) (hb : Wd w vb b) (h1 : a.length < 35184372088832) (h2 : b.length < 35184372088832) :
    Calls Tryz.prog 89 #[va, vb] w fun e w' => ∃ v l, e = .returned v ∧ Wd w' v l ∧ Nrm l ∧ val l = val a + val b ∧ w.grownBy w' none := by
  rcases Nat.lt_or_ge a.length b.length with h | h
  · refine (add_lt vb va b a w hb ha h h2).mono ?_
    rintro e w' ⟨v, l, he, hw, hn, hv, hg⟩
    exact ⟨v, l, he, hw, hn, by rw [hv, Nat.add_comm], hg⟩
  · exact add_ge va vb a b w ha hb h h1

set_option maxHeartbeats 2000000 in
theorem sub_any (va vb : Value) (a b : List Nat) (w : World) (ha : Wd w va a) (hb : Wd w vb b) (hle : val b ≤ val a) (hge : b.length ≤ a.length) (hlen : a.length < 35184372088832) :
    Calls Tryz.prog 91 #[va, vb] w fun e w' => ∃ v l, e = .returned v ∧ Wd w' v l ∧ Nrm l ∧ val l = val a - val b ∧ w.grownBy w' none := by
  obtain ⟨aa, ca, rfl, la, Oa, Fa⟩ := ha.form
  obtain ⟨ab, cb, rfl, lb, Ob, Fb⟩ := hb.form
  clear ha hb la lb
  have hmk := fun w => run_make_row' (P := Tryz.prog) 128 164 (.int .u32 0) 4 Tryz.underlying128 Tryz.infoW rfl .i64 .i64 a.length (by omega) (by omega) w
  go_enter Tryz.func91, Tryz.ntmps91
  go_wp2
  clear hmk
  go_loopw [6, 7] (fun tc ti wr => ∃ k c : Nat, ∃ r : List Nat, k ≤ a.length ∧ (c : Int) ≤ 1 ∧ tc = .int .u64 c ∧ ti = .int .i64 k ∧ r.length = a.length ∧ Hid (RowAt wr w.heap.size r) ∧ Hid (Ok r) ∧ Hid (w.grownBy wr none) ∧ Hid (val (r.take k) + val (b.take k) = val (a.take k) + 4294967296 ^ k * c)) (fun _ ti _ => a.length - (RowKit.intOf ti).toNat)
  case atStart =>
    refine ⟨0, 0, List.replicate a.length 0, by omega, by omega, rfl, rfl, by simp, ?_, ok_replicate _, World.grownBy_alloc _ _ _, ?_⟩
    · show (w.alloc _).heap[w.heap.size]? = _
      rw [alloc_blk, made_row]
    · simp [Hid, val]
  case round =>
    obtain ⟨k, c, r, hk, hc, rfl, rfl, hr, Hrow, Hok, Hg, Hv⟩ := hrel
    by_cases hlt : k < a.length
    · obtain ⟨ba, oa, rfl, hba, hca⟩ := Fa.out (by omega)
      have hxa := (Hg.out.cell (hca k hlt) (by simp))
      have hxb := Oa.out k hlt
      have rc := row_cell Hrow.out (i := k) (by omega)
      have rf := row_frozen Hrow.out k
      by_cases hlb : k < b.length
      · obtain ⟨bb, ob, rfl, hbb, hcb⟩ := Fb.out (by omega)
        have hya := (Hg.out.cell (hcb k hlb) (by simp))
        have hyb := Ob.out k hlb
        have S := fun t c' => sub_step a b r k c t c' (by omega) Hv.out
        generalize a.getD k 0 = x at *
        generalize b.getD k 0 = y at *
        generalize r.getD k 0 = z at *
        obtain ⟨t, c', h1, h2, h3, h4, h5⟩ : ∃ t c' : Nat, c' * 4294967296 + x = t + c + y ∧ t < 4294967296 ∧ c' ≤ 1 ∧ IntKind.u32.wrap (IntKind.u64.wrap (IntKind.u64.wrap ((x : Int) - c) - y)) = t ∧ IntKind.u64.wrap (IntKind.u64.wrap ((x : Int) - c) - y) / 9223372036854775808 = c' := by
          by_cases hc' : x < c + y
          · exact ⟨x + 4294967296 - c - y, 1, by omega, by omega, by omega, by rw [IntKind.wrap_u32, IntKind.wrap_u64, IntKind.wrap_u64]; omega, by rw [IntKind.wrap_u64, IntKind.wrap_u64]; omega⟩
          · exact ⟨x - c - y, 0, by omega, by omega, by omega, by rw [IntKind.wrap_u32, IntKind.wrap_u64, IntKind.wrap_u64]; omega, by rw [IntKind.wrap_u64, IntKind.wrap_u64]; omega⟩
        have HS : Hid (val ((r.set k t).take (k + 1)) + val (b.take (k + 1)) = val (a.take (k + 1)) + 4294967296 ^ (k + 1) * c') := S t c' h1
        have H2 : Hid (t < 4294967296) := h2
        have b1 : (x : Int) < 4294967296 := by omega
        have b2 : (y : Int) < 4294967296 := by omega
        clear S hca hcb Hv hxb hyb h1 h2
        go_wp2
        go_roundw
        case rel => exact ⟨k + 1, c', r.set k t, by omega, by omega, rfl, by go_num, by simpa using hr, row_set Hrow.out k t, ok_set Hok.out k t H2.out, gset Hg.out (Nat.le_refl _) _, HS⟩
        case measure => simp [RowKit.intOf]; omega
      · have hy0 : b.getD k 0 = 0 := by simp [List.getD, List.getElem?_eq_none (Nat.le_of_not_lt hlb)]
        have S := fun t c' => sub_step a b r k c t c' (by omega) Hv.out
        rw [hy0] at S
        generalize a.getD k 0 = x at *
        generalize r.getD k 0 = z at *
        obtain ⟨t, c', h1, h2, h3, h4, h5⟩ : ∃ t c' : Nat, c' * 4294967296 + x = t + c + 0 ∧ t < 4294967296 ∧ c' ≤ 1 ∧ IntKind.u32.wrap (IntKind.u64.wrap ((x : Int) - c)) = t ∧ IntKind.u64.wrap ((x : Int) - c) / 9223372036854775808 = c' := by
          by_cases hc' : x < c
          · exact ⟨x + 4294967296 - c, 1, by omega, by omega, by omega, by rw [IntKind.wrap_u32, IntKind.wrap_u64]; omega, by rw [IntKind.wrap_u64]; omega⟩
          · exact ⟨x - c, 0, by omega, by omega, by omega, by rw [IntKind.wrap_u32, IntKind.wrap_u64]; omega, by rw [IntKind.wrap_u64]; omega⟩
        have HS : Hid (val ((r.set k t).take (k + 1)) + val (b.take (k + 1)) = val (a.take (k + 1)) + 4294967296 ^ (k + 1) * c') := S t c' h1
        have H2 : Hid (t < 4294967296) := h2
        have b1 : (x : Int) < 4294967296 := by omega
        clear S hca Hv hxb hy0 h1 h2
        go_wp2
        go_roundw
        case rel => exact ⟨k + 1, c', r.set k t, by omega, by omega, rfl, by go_num, by simpa using hr, row_set Hrow.out k t, ok_set Hok.out k t H2.out, gset Hg.out (Nat.le_refl _) _, HS⟩
        case measure => simp [RowKit.intOf]; omega
    · have hka : k = a.length := by omega
      subst hka
      have Hnew : Hid (Wd wr (.slice (some ⟨w.heap.size, 0, none⟩) a.length a.length) r) := by
        have := row_wd Hrow.out Hok.out (by omega) a.length (by omega)
        rw [hr] at this
        exact this
      have Hval : Hid (val r = val a - val b) := by
        have h2 := Hv.out
        rw [List.take_length, List.take_of_length_le (l := b) (by omega), List.take_of_length_le (l := r) (by omega)] at h2
        have h3 := val_lt Hok.out
        rw [hr] at h3
        have hc0 : c = 0 ∨ c = 1 := by omega
        rcases hc0 with rfl | rfl
        · show _ = _; omega
        · show _ = _; omega
      clear Hv Hrow Hok
      go_wp2_with fail
      refine (trim_any _ r _ Hnew.out).mono ?_
      rintro e w' ⟨⟨v', rfl, hv⟩, hw⟩
      rw [hw]; clear hw w' Hnew
      have R : Hid (Wd wr v' (r.take (tl r r.length)) ∧ Nrm (r.take (tl r r.length)) ∧ val (r.take (tl r r.length)) = val a - val b) := by
        refine ⟨hv, nrm_tl _ _ (Nat.le_refl _), ?_⟩
        rw [val_tl _ _ (Nat.le_refl _), List.take_length]
        exact Hval.out
      clear hv
      go_wp2
      go_ret
      exact ⟨_, _, rfl, R.out.1, R.out.2.1, R.out.2.2, Hg.out⟩
end Go.Proofs.YtagimpmefodaeaaGreatDoor

namespace Go.Proofs.YtagimpmefodaeaaGreatDoor
set_option linter.unusedVariables false
open Go.RowKit Big

theorem drew2 (w : World) (a b : Nat) : (w.drewN a).drewN b = w.drewN (a + b) := by simp [World.drewN, Nat.add_assoc]

/-- -1, 0 or 1. -/
def cmpV (a b : Nat) : Int := if a < b then -1 else if b < a then 1 else 0
theorem cmpV_lt {a b : Nat} (h : a < b) : cmpV a b = -1 := by unfold cmpV; rw [if_pos h]
theorem cmpV_gt {a b : Nat} (h : b < a) : cmpV a b = 1 := by unfold cmpV; rw [if_neg (by omega), if_pos h]
theorem cmpV_eq {a b : Nat} (h : a = b) : cmpV a b = 0 := by unfold cmpV; rw [if_neg (by omega), if_neg (by omega)]

set_option maxHeartbeats 2000000 in
theorem cmp_any (va vb : Value) (a b : List Nat) (w : World) (ha : Wd w va a) (hb : Wd w vb b) (na : Nrm a) (nb : Nrm b) :
    Calls Tryz.prog 90 #[va, vb] w fun e w' => e = .returned (.int .i64 (cmpV (val a) (val b))) ∧ ∃ n, w' = w.drewN n := by
  obtain ⟨aa, ca, rfl, la, Oa, Fa⟩ := ha.form
  obtain ⟨ab, cb, rfl, lb, Ob, Fb⟩ := hb.form
  clear ha hb
  by_cases hlt : a.length < b.length
  · have R : Hid (cmpV (val a) (val b) = -1) := cmpV_lt (len_lt Oa.out nb hlt)
    have hne : ((a.length : Int) != b.length) = true := by simp; omega
    have hlt' : (a.length : Int) < b.length := by omega
    clear na nb
    go_enter Tryz.func90, Tryz.ntmps90
    go_wp2
    go_ret
    exact ⟨by rw [R.out]; rfl, 0, rfl⟩
  by_cases hgt : b.length < a.length
  · have R : Hid (cmpV (val a) (val b) = 1) := cmpV_gt (len_lt Ob.out na hgt)
    have hne : ((a.length : Int) != b.length) = true := by simp; omega
    have hlt' : ¬ ((a.length : Int) < b.length) := by omega
    clear na nb
    go_enter Tryz.func90, Tryz.ntmps90
    go_wp2
    go_ret
    exact ⟨by rw [R.out]; rfl, 0, rfl⟩
  have hlen : a.length = b.length := by omega
  have hne : ((a.length : Int) != b.length) = false := by simp; omega
  have Hlen : Hid (a.length = b.length) := hlen
  clear na nb hlt hgt hlen
  go_enter Tryz.func90, Tryz.ntmps90
  go_wp2
  go_loopw [5] (fun ti wr => ∃ m n : Nat, m ≤ a.length ∧ ti = .int .i64 ((m : Int) - 1) ∧ wr = w.drewN n ∧ Hid (a.drop m = b.drop m)) (fun ti _ => (RowKit.intOf ti + 1).toNat)
  case atStart => exact ⟨a.length, 0, Nat.le_refl _, rfl, rfl, by rw [Hid, List.drop_length, Hlen.out, List.drop_length]⟩
  case round =>
    obtain ⟨m, n, hm, rfl, rfl, Hd⟩ := hrel
    cases m with
    | zero =>
      have R : Hid (cmpV (val a) (val b) = 0) := by
        have := Hd.out
        simp at this
        exact cmpV_eq (by rw [this])
      go_wp2
      go_ret
      exact ⟨by rw [R.out]; rfl, _, rfl⟩
    | succ j =>
      rw [show ((j + 1 : Nat) : Int) - 1 = (j : Int) by omega]
      have hja : j < a.length := by omega
      have hjb : j < b.length := by have := Hlen.out; omega
      obtain ⟨ba, oa, rfl, hba, hca⟩ := Fa.out (by omega)
      obtain ⟨bb, ob, rfl, hbb, hcb⟩ := Fb.out (by omega)
      have hx := hca j hja
      have hy := hcb j hjb
      have i1 : (j : Int) < a.length := by omega
      have i2 : (j : Int) < b.length := by omega
      have T1 := fun h => top_lt Oa.out j hja hjb Hlen.out Hd.out h
      have T2 := fun h => top_lt Ob.out j hjb hja Hlen.out.symm Hd.out.symm h
      have E := fun h : a.getD j 0 = b.getD j 0 => (show a.drop j = b.drop j by
        have e1 : a.drop j = a.getD j 0 :: a.drop (j + 1) := by rw [List.drop_eq_getElem_cons hja]; simp [hja]
        have e2 : b.drop j = b.getD j 0 :: b.drop (j + 1) := by rw [List.drop_eq_getElem_cons hjb]; simp [hjb]
        rw [e1, e2, h, Hd.out])
      generalize a.getD j 0 = x at *
      generalize b.getD j 0 = y at *
      clear hca hcb Hd
      rcases Nat.lt_trichotomy x y with hxy | hxy | hxy
      · have R : Hid (cmpV (val a) (val b) = -1) := cmpV_lt (T1 hxy)
        have t1 : ((x : Int) != y) = true := by simp; omega
        have t2 : (x : Int) < y := by omega
        clear T1 T2 E
        go_wp2
        go_quiet (fail)
        go_wp2
        go_quiet (fail)
        go_wp2
        go_ret
        exact ⟨by rw [R.out]; rfl, _, by rw [drew2, drew2]⟩
      · have R : Hid (a.drop j = b.drop j) := E hxy
        have t1 : ((x : Int) != y) = false := by simp; omega
        clear T1 T2 E
        go_wp2
        go_quiet (fail)
        go_wp2
        go_roundw
        case rel => exact ⟨j, _, by omega, by go_num, rfl, R⟩
        case measure => simp [RowKit.intOf]
      · have R : Hid (cmpV (val a) (val b) = 1) := cmpV_gt (T2 hxy)
        have t1 : ((x : Int) != y) = true := by simp; omega
        have t2 : ¬ ((x : Int) < y) := by omega
        clear T1 T2 E
        go_wp2
        go_quiet (fail)
        go_wp2
        go_quiet (fail)
        go_wp2
        go_ret
        exact ⟨by rw [R.out]; rfl, _, by rw [drew2, drew2]⟩
end Go.Proofs.YtagimpmefodaeaaGreatDoor

namespace Go.Proofs.YtagimpmefodaeaaGreatDoor
set_option linter.unusedVariables false
open Go.RowKit Big

theorem sg_cut (neg : Bool) (l : List Nat) (n : Nat) (h : l.length = 0 → n = 0) : sg (neg && decide (0 < l.length)) n = sg neg n := by
  rcases Nat.eq_zero_or_pos l.length with h0 | h0
  · rw [h h0]; simp [sg]
  · simp [h0]

set_option maxHeartbeats 1000000 in
theorem sum_bigs (xn yn : Bool) (va vb : Value) (a b : List Nat) (w : World) (ha : Wd w va a) (hb : Wd w vb b) (na : Nrm a) (nb : Nrm b) (h1 : a.length < 35184372088832) (h2 : b.length < 35184372088832) :
    Calls Tryz.prog 73 #[.bool xn, va, .bool yn, vb] w fun e w' => ∃ neg v l, e = .returned (.tuple #[.bool neg, v]) ∧ Wd w' v l ∧ Nrm l ∧ sg neg (val l) = sg xn (val a) + sg yn (val b) ∧ w.grownBy w' none := by
  have Ha : Hid (Wd w va a) := ha
  have Hb : Hid (Wd w vb b) := hb
  have Na : Hid (Nrm a) := na
  have Nb : Hid (Nrm b) := nb
  clear ha hb na nb
  by_cases hs : xn = yn
  · subst hs
    go_enter Tryz.func73, Tryz.ntmps73
    go_wp2_with fail
    refine (add_any va vb a b w Ha.out Hb.out h1 h2).mono ?_
    rintro e w1 ⟨v, l, rfl, hv, hn, hval, hg⟩
    have R : Hid (Wd w1 v l ∧ Nrm l ∧ sg xn (val l) = sg xn (val a) + sg xn (val b) ∧ w.grownBy w1 none) := ⟨hv, hn, by rw [hval]; unfold sg; cases xn <;> simp <;> omega, hg⟩
    clear hv hn hval hg
    go_wp2
    go_ret2
    exact ⟨xn, v, l, rfl, R.out.1, R.out.2.1, R.out.2.2.1, R.out.2.2.2⟩
  · have hs' : (xn == yn) = false := by simpa using hs
    by_cases hge : val b ≤ val a
    · have hc : Hid (0 ≤ cmpV (val a) (val b)) := by
        unfold Hid cmpV; rw [if_neg (by omega)]; split <;> omega
      have hll := len_le Ha.out.ok Nb.out hge
      go_enter Tryz.func73, Tryz.ntmps73
      go_wp2_with fail
      refine (cmp_any va vb a b w Ha.out Hb.out Na.out Nb.out).mono ?_
      rintro e w1 ⟨rfl, n, hw⟩
      rw [hw]; clear hw w1
      have hc' := hc.out
      generalize cmpV (val a) (val b) = q at *
      clear hc
      go_wp2_with fail
      refine (sub_any va vb a b _ (Ha.out.grow (gdrewN (grefl w _) n)) (Hb.out.grow (gdrewN (grefl w _) n)) hge hll h1).mono ?_
      rintro e w1 ⟨v, l, rfl, hv, hn, hval, hg⟩
      have R : Hid (Wd w1 v l ∧ Nrm l ∧ sg xn (val l) = sg xn (val a) + sg yn (val b) ∧ w.grownBy w1 none) := ⟨hv, hn, by rw [hval]; unfold sg; cases xn <;> cases yn <;> simp at hs ⊢ <;> omega, gtrans (gdrewN (grefl w _) n) hg⟩
      clear hv hn hval hg
      go_wp2
      go_ret2
      exact ⟨xn, v, l, rfl, R.out.1, R.out.2.1, R.out.2.2.1, R.out.2.2.2⟩
    · have hc : Hid (cmpV (val a) (val b) < 0) := by
        unfold Hid; rw [cmpV_lt (by omega)]; omega
      have hll := len_le Hb.out.ok Na.out (by omega)
      go_enter Tryz.func73, Tryz.ntmps73
      go_wp2_with fail
      refine (cmp_any va vb a b w Ha.out Hb.out Na.out Nb.out).mono ?_
      rintro e w1 ⟨rfl, n, hw⟩
      rw [hw]; clear hw w1
      have hc' := hc.out
      generalize cmpV (val a) (val b) = q at *
      clear hc
      go_wp2_with fail
      refine (sub_any vb va b a _ (Hb.out.grow (gdrewN (grefl w _) n)) (Ha.out.grow (gdrewN (grefl w _) n)) (by omega) hll h2).mono ?_
      rintro e w1 ⟨v, l, rfl, hv, hn, hval, hg⟩
      have R : Hid (Wd w1 v l ∧ Nrm l ∧ sg yn (val l) = sg xn (val a) + sg yn (val b) ∧ w.grownBy w1 none) := ⟨hv, hn, by rw [hval]; unfold sg; cases xn <;> cases yn <;> simp at hs ⊢ <;> omega, gtrans (gdrewN (grefl w _) n) hg⟩
      clear hv hn hval hg
      go_wp2
      go_ret2
      exact ⟨yn, v, l, rfl, R.out.1, R.out.2.1, R.out.2.2.1, R.out.2.2.2⟩
end Go.Proofs.YtagimpmefodaeaaGreatDoor

namespace Go.Proofs.YtagimpmefodaeaaGreatDoor
open Go
set_option linter.unusedVariables false

section
variable {P : Program} {ops : Array Oper} {Q : Exit → Act → World → Prop} {md : Region.Mode} {T : World → Prop} {g : Nat}

/-- Whatever order is picked from here on, and T holds behind every operation till operation g has come up. -/
def wpAnyL (P : Program) (md : Region.Mode) (ops : Array Oper) (Q : Exit → Act → World → Prop) (g : Nat) (T : World → Prop) : Nat → Array Bool → Act → World → Prop
  | 0, listed, a, w => Region.ready md ops listed = [] ∧ Q .normal a w
  | fuel + 1, listed, a, w =>
    (Region.ready md ops listed = [] → Q .normal a w) ∧
    ∀ i ∈ Region.ready md ops listed, wpOp P ops Q i (fun a' w' => ((listed.setIfInBounds i true).getD g true = false → T w') ∧ wpAnyL P md ops Q g T fuel (listed.setIfInBounds i true) a' w') a w

theorem any_of_L : ∀ (fuel : Nat) (listed : Array Bool) (a : Act) (w : World), wpAnyL P md ops Q g T fuel listed a w → wpAny P md ops Q fuel listed a w
  | 0, _, _, _, h => h
  | fuel + 1, _, _, _, h => ⟨h.1, fun i hi => wpOp_mono (fun a' w' h' => any_of_L fuel _ a' w' h'.2) (h.2 i hi)⟩

/-- Once g has come up, nothing more is asked of worlds. -/
theorem L_of_any : ∀ (fuel : Nat) (listed : Array Bool) (a : Act) (w : World), listed.getD g true = true → wpAny P md ops Q fuel listed a w → wpAnyL P md ops Q g T fuel listed a w
  | 0, _, _, _, _, h => h
  | fuel + 1, listed, _, _, hg, h => ⟨h.1, fun i hi => wpOp_mono (fun a' w' h' => by
      have hg' : (listed.setIfInBounds i true).getD g true = true := by
        by_cases e : i = g
        · subst e
          by_cases hs : i < listed.size
          · simp [hs]
          · simp [hs]
        · rw [getD_set_ne true e]; exact hg
      exact ⟨(fun h0 => by rw [hg'] at h0; cases h0), L_of_any fuel _ a' w' hg' h'⟩) (h.2 i hi)⟩

theorem L_first {i : Nat} {oi og : Oper} {v : Value} (hi : ops[i]? = some oi) (hgo : ops[g]? = some og) (hw : ∃ e ∈ og.after, Region.binds md e = true ∧ e.on = i) (hgi : g ≠ i)
    (hsel : ∀ (j : Nat) (o : Oper) cs b, ops[j]? = some o → o.op ≠ .select cs b) (hQ : ∀ c a w, Q (.panic c) (a.put oi.dst v) w → Q (.panic c) a w) :
    ∀ (fuel : Nat) (listed : Array Bool) (a : Act) (w : World),
      (∀ j oj, ops[j]? = some oj → j ≠ i → listed.getD j true = false → (∀ e ∈ oj.after, Region.binds md e = true → e.on ≠ i) → oi.apart ops oj = true) →
      i ∈ Region.ready md ops listed → listed.getD g true = false → YieldsIf P ops T oi v a → T w →
      wpAnyL P md ops Q g T fuel (listed.setIfInBounds i true) (a.put oi.dst v) w → wpAnyL P md ops Q g T (fuel + 1) listed a w := by
  intro fuel
  induction fuel with
  | zero =>
    intro listed a w _ hr _ hy hT H
    refine ⟨fun h => (by rw [h] at hr; cases hr), fun j hj => ?_⟩
    by_cases hji : j = i
    · subst hji; exact hy.wpOp hi hT ⟨fun _ => hT, H⟩
    · have := ready_mono hj hji
      rw [H.1] at this
      cases this
  | succ fuel ih =>
    intro listed a w hfree hr hlg hy hT H
    refine ⟨fun h => (by rw [h] at hr; cases hr), fun j hj => ?_⟩
    by_cases hji : j = i
    · subst hji; exact hy.wpOp hi hT ⟨fun _ => hT, H⟩
    · have h1 := H.2 j (ready_mono hj hji)
      obtain ⟨hjun, oj, hoj, hall⟩ := mem_ready.1 hj
      have hnot : ∀ e ∈ oj.after, Region.binds md e = true → e.on ≠ i := fun e he hb heq => by
        have h1 := hall e he hb
        have h0 := (mem_ready.1 hr).1
        rw [heq] at h1
        rcases Nat.lt_or_ge i listed.size with h' | h'
        · simp [h'] at h0 h1; rw [h0] at h1; cases h1
        · simp [Array.getElem?_eq_none h'] at h1
      have hjg : j ≠ g := by
        rintro rfl
        obtain ⟨e, he, hb, heq⟩ := hw
        rw [hgo] at hoj
        cases hoj
        exact hnot e he hb heq
      have h2 := wpOp_putIf hoj (hfree j oj hoj hji hjun hnot) (fun cs b => hsel i oi cs b hi) (fun cs b => hsel j oj cs b hoj) hQ hy h1
      have hfree' : ∀ k ok, ops[k]? = some ok → k ≠ i → (listed.setIfInBounds j true).getD k true = false →
          (∀ e ∈ ok.after, Region.binds md e = true → e.on ≠ i) → oi.apart ops ok = true := fun k ok hk hki hun hno => by
        refine hfree k ok hk hki ?_ hno
        by_cases hjk : j = k
        · subst hjk; exact hjun
        · rw [getD_set_ne true hjk] at hun; exact hun
      have hlg' : (listed.setIfInBounds j true).getD g true = false := by rw [getD_set_ne true hjg]; exact hlg
      refine wpOp_mono (fun a' w' h3 => ?_) h2
      have hT' : T w' := h3.2.1 (by rw [getD_set_ne true hjg, getD_set_ne true (Ne.symm hgi)]; exact hlg)
      refine ⟨fun _ => hT', ih (listed.setIfInBounds j true) a' w' hfree' (ready_mono hr (Ne.symm hji)) hlg' h3.1 hT' ?_⟩
      rw [Array.setIfInBounds_comm _ _ hji]
      exact h3.2.2

/-- The named operation itself. -/
theorem L_go {fuel : Nat} {listed : Array Bool} {a : Act} {w : World} (hr : Region.ready md ops listed = [g]) (hgs : (listed.setIfInBounds g true).getD g true = true)
    (h : wpOp P ops Q g (wpAny P md ops Q fuel (listed.setIfInBounds g true)) a w) : wpAnyL P md ops Q g T (fuel + 1) listed a w := by
  refine ⟨(fun h0 => by rw [hr] at h0; simp at h0), fun i hi => ?_⟩
  rw [hr] at hi
  obtain rfl := List.mem_singleton.1 hi
  exact wpOp_mono (fun a' w' h' => ⟨(fun h0 => by rw [hgs] at h0; cases h0), L_of_any fuel _ a' w' hgs h'⟩) h

/-- The only one that may come up, and it yields its value. -/
theorem L_take1 {i : Nat} {oi : Oper} {v : Value} {fuel : Nat} {listed : Array Bool} {a : Act} {w : World} (hi : ops[i]? = some oi) (hr : Region.ready md ops listed = [i]) (hy : YieldsIf P ops T oi v a) (hT : T w)
    (h : wpAnyL P md ops Q g T fuel (listed.setIfInBounds i true) (a.put oi.dst v) w) : wpAnyL P md ops Q g T (fuel + 1) listed a w := by
  refine ⟨(fun h0 => by rw [hr] at h0; simp at h0), fun j hj => ?_⟩
  rw [hr] at hj
  obtain rfl := List.mem_singleton.1 hj
  exact hy.wpOp hi hT ⟨fun _ => hT, h⟩

/-- The only one that may come up. -/
theorem any_one {i fuel : Nat} {listed : Array Bool} {a : Act} {w : World} (hr : Region.ready md ops listed = [i])
    (h : wpOp P ops Q i (wpAny P md ops Q fuel (listed.setIfInBounds i true)) a w) : wpAny P md ops Q (fuel + 1) listed a w := by
  refine ⟨(fun h0 => by rw [hr] at h0; simp at h0), fun j hj => ?_⟩
  rw [hr] at hj
  obtain rfl := List.mem_singleton.1 hj
  exact h

/-- The move of a walk. -/
theorem L_take {i : Nat} {oi og : Oper} {v : Value} {fuel : Nat} {listed : Array Bool} {a : Act} {w : World} (hi : ops[i]? = some oi) (hgo : ops[g]? = some og)
    (hw : (og.after.any fun e => Region.binds md e && e.on == i) = true) (hgi : g ≠ i)
    (hs : Region.noSelect ops = true) (hf : Region.free md ops listed i = true) (hr : (Region.ready md ops listed).contains i = true) (hlg : listed.getD g true = false)
    (hQ : ∀ c a w, Q (.panic c) (a.put oi.dst v) w → Q (.panic c) a w) (hy : YieldsIf P ops T oi v a) (hT : T w)
    (h : wpAnyL P md ops Q g T fuel (listed.setIfInBounds i true) (a.put oi.dst v) w) : wpAnyL P md ops Q g T (fuel + 1) listed a w :=
  L_first hi hgo (by
    rw [Array.any_eq_true] at hw
    obtain ⟨k, hk, he⟩ := hw
    simp only [Bool.and_eq_true, beq_iff_eq] at he
    exact ⟨og.after[k], Array.getElem_mem hk, he.1, he.2⟩) hgi (Region.noSelect_spec hs) hQ fuel listed a w (Region.free_spec hi hf) (by simpa using hr) hlg hy hT h
end
end Go.Proofs.YtagimpmefodaeaaGreatDoor

namespace Go.Proofs.YtagimpmefodaeaaGreatDoor
set_option linter.unusedVariables false
set_option linter.unusedSimpArgs false
open Go.RowKit Big

theorem gdr (w : World) : w.grownBy w.drew none := ⟨rfl, rfl, rfl, Nat.le_refl _, fun _ _ _ => rfl⟩

/-- What stands between the two calls of Add and Sub. -/
def Mid (w w1 : World) (neg : Bool) (v : Value) (l : List Nat) (x : Int) : Prop := Wd w1 v l ∧ Nrm l ∧ sg neg (val l) = x ∧ w.grownBy w1 none

theorem sum_mid (nx ny : Bool) (vx vy : Value) (lx ly : List Nat) (w W : World) (hW : w.grownBy W none) (hx : Wd w vx lx) (hy : Wd w vy ly) (kx : Nrm lx) (ky : Nrm ly) (h1 : lx.length < 35184372088832) (h2 : ly.length < 35184372088832) :
    Calls Tryz.prog 73 #[.bool nx, vx, .bool ny, vy] W fun e w' => ∃ neg v l, e = .returned (.tuple #[.bool neg, v]) ∧ Mid w w' neg v l (sg nx (val lx) + sg ny (val ly)) := by
  refine (sum_bigs nx ny vx vy lx ly W (hx.grow hW) (hy.grow hW) kx ky h1 h2).mono ?_
  rintro e w1 ⟨neg, v, l, rfl, hv, hn, hval, hg⟩
  exact ⟨neg, v, l, rfl, hv, hn, hval, gtrans hW hg⟩

theorem give_mid (p : Nat) (neg nz : Bool) (vz v : Value) (l : List Nat) (x : Int) (w w1 : World) (hz : w.heap[p]? = some (.cells #[.bool nz, vz] 132 (0, 0))) (hzi : ∀ k n, vz ≠ .int k n) (h : Mid w w1 neg v l x) :
    Calls Tryz.prog 72 #[.pointer (some ⟨p, 0, none⟩), .bool neg, v] w1 fun e w' => e = .returned (.pointer (some ⟨p, 0, none⟩)) ∧ Hid (BigIs w' p x ∧ w.grownBy w' (some p)) := by
  obtain ⟨hv, hn, hval, hg⟩ := h
  refine (give_any p neg nz vz v l w1 ((hg.block p (blk_lt hz) (by simp)).trans hz) hzi hv hn).mono ?_
  rintro e w2 ⟨rfl, hb, hg2⟩
  refine ⟨rfl, ⟨_, v, l, hb, ?_⟩, gtrans (gweak hg _) hg2⟩
  rw [sg_cut _ _ _ (fun h => by rw [List.eq_nil_of_length_eq_zero h]; rfl)]
  exact hval

set_option maxHeartbeats 4000000 in
theorem Add_any (pz px py : Nat) (nz nx ny : Bool) (vz vx vy : Value) (lx ly : List Nat) (w : World) (hz : w.heap[pz]? = some (.cells #[.bool nz, vz] 132 (0, 0))) (hzi : ∀ k n, vz ≠ .int k n)
    (hx : IsBig w px nx vx lx) (hy : IsBig w py ny vy ly) (h1 : lx.length < 35184372088832) (h2 : ly.length < 35184372088832) :
    Calls Tryz.prog 49 #[.pointer (some ⟨pz, 0, none⟩), .pointer (some ⟨px, 0, none⟩), .pointer (some ⟨py, 0, none⟩)] w fun e w' => e = .returned (.pointer (some ⟨pz, 0, none⟩)) ∧ Hid (BigIs w' pz (sg nx (val lx) + sg ny (val ly)) ∧ w.grownBy w' (some pz)) := by
  have cx0 := blk_cell0 hx.blk
  have cx1 := blk_cell1 hx.blk
  have cy0 := blk_cell0 hy.blk
  have cy1 := blk_cell1 hy.blk
  have sumC : Hid (∀ W, w.grownBy W none → Calls Tryz.prog 73 #[.bool nx, vx, .bool ny, vy] W fun e w' => ∃ neg v l, e = .returned (.tuple #[.bool neg, v]) ∧ Mid w w' neg v l (sg nx (val lx) + sg ny (val ly))) := fun W hW => sum_mid nx ny vx vy lx ly w W hW hx.wd hy.wd hx.nrm hy.nrm h1 h2
  have giveC : Hid (∀ neg v l w1 x, Mid w w1 neg v l x → Calls Tryz.prog 72 #[.pointer (some ⟨pz, 0, none⟩), .bool neg, v] w1 fun e w' => e = .returned (.pointer (some ⟨pz, 0, none⟩)) ∧ Hid (BigIs w' pz x ∧ w.grownBy w' (some pz))) := fun neg v l w1 x h => give_mid pz neg nz vz v l x w w1 hz hzi h
  clear hz hzi hx hy h1 h2
  generalize sg nx (val lx) + sg ny (val ly) = X at *
  go_enter Tryz.func49, Tryz.ntmps49
  go_wp2
  refine wp_region_any (by kernel_rfl) ?_
  refine wpAny_take (i := 0) (v := .pointer (some ⟨pz, 0, none⟩)) rfl (by kernel_rfl) (by kernel_rfl) (by kernel_rfl) (fun _ _ _ h => h) (Or.inl ⟨by rfl, fun w => by go_simp⟩) ?_
  simp only [Act.put, List.setIfInBounds_toArray, List.set_cons_zero, List.set_cons_succ]
  refine wpAny_take (i := 1) (v := .pointer (some ⟨px, 0, none⟩)) rfl (by kernel_rfl) (by kernel_rfl) (by kernel_rfl) (fun _ _ _ h => h) (Or.inl ⟨by rfl, fun w => by go_simp⟩) ?_
  simp only [Act.put, List.setIfInBounds_toArray, List.set_cons_zero, List.set_cons_succ]
  refine wpAny_take (i := 2) (v := .pointer (some ⟨px, 0, none⟩)) rfl (by kernel_rfl) (by kernel_rfl) (by kernel_rfl) (fun _ _ _ h => h) (Or.inl ⟨by rfl, fun w => by go_simp⟩) ?_
  simp only [Act.put, List.setIfInBounds_toArray, List.set_cons_zero, List.set_cons_succ]
  refine wpAny_take (i := 3) (v := .pointer (some ⟨px, 0, none⟩)) rfl (by kernel_rfl) (by kernel_rfl) (by kernel_rfl) (fun _ _ _ h => h) (Or.inl ⟨by rfl, fun w => by go_simp⟩) ?_
  simp only [Act.put, List.setIfInBounds_toArray, List.set_cons_zero, List.set_cons_succ]
  refine wpAny_take (i := 5) (v := .pointer (some ⟨px, 0, none⟩)) rfl (by kernel_rfl) (by kernel_rfl) (by kernel_rfl) (fun _ _ _ h => h) (Or.inl ⟨by rfl, fun w => by go_simp⟩) ?_
  simp only [Act.put, List.setIfInBounds_toArray, List.set_cons_zero, List.set_cons_succ]
  refine wpAny_take (i := 6) (v := .pointer (some ⟨px, 0, none⟩)) rfl (by kernel_rfl) (by kernel_rfl) (by kernel_rfl) (fun _ _ _ h => h) (Or.inl ⟨by rfl, fun w => by go_simp⟩) ?_
  simp only [Act.put, List.setIfInBounds_toArray, List.set_cons_zero, List.set_cons_succ]
  refine wpAny_take (i := 7) (v := .pointer (some ⟨px, 1, none⟩)) rfl (by kernel_rfl) (by kernel_rfl) (by kernel_rfl) (fun _ _ _ h => h) (Or.inl ⟨by rfl, fun w => by go_simp⟩) ?_
  simp only [Act.put, List.setIfInBounds_toArray, List.set_cons_zero, List.set_cons_succ]
  refine wpAny_take (i := 9) (v := .pointer (some ⟨py, 0, none⟩)) rfl (by kernel_rfl) (by kernel_rfl) (by kernel_rfl) (fun _ _ _ h => h) (Or.inl ⟨by rfl, fun w => by go_simp⟩) ?_
  simp only [Act.put, List.setIfInBounds_toArray, List.set_cons_zero, List.set_cons_succ]
  refine wpAny_take (i := 10) (v := .pointer (some ⟨py, 0, none⟩)) rfl (by kernel_rfl) (by kernel_rfl) (by kernel_rfl) (fun _ _ _ h => h) (Or.inl ⟨by rfl, fun w => by go_simp⟩) ?_
  simp only [Act.put, List.setIfInBounds_toArray, List.set_cons_zero, List.set_cons_succ]
  refine wpAny_take (i := 11) (v := .pointer (some ⟨py, 0, none⟩)) rfl (by kernel_rfl) (by kernel_rfl) (by kernel_rfl) (fun _ _ _ h => h) (Or.inl ⟨by rfl, fun w => by go_simp⟩) ?_
  simp only [Act.put, List.setIfInBounds_toArray, List.set_cons_zero, List.set_cons_succ]
  refine wpAny_take (i := 13) (v := .pointer (some ⟨py, 0, none⟩)) rfl (by kernel_rfl) (by kernel_rfl) (by kernel_rfl) (fun _ _ _ h => h) (Or.inl ⟨by rfl, fun w => by go_simp⟩) ?_
  simp only [Act.put, List.setIfInBounds_toArray, List.set_cons_zero, List.set_cons_succ]
  refine wpAny_take (i := 14) (v := .pointer (some ⟨py, 0, none⟩)) rfl (by kernel_rfl) (by kernel_rfl) (by kernel_rfl) (fun _ _ _ h => h) (Or.inl ⟨by rfl, fun w => by go_simp⟩) ?_
  simp only [Act.put, List.setIfInBounds_toArray, List.set_cons_zero, List.set_cons_succ]
  refine wpAny_take (i := 15) (v := .pointer (some ⟨py, 1, none⟩)) rfl (by kernel_rfl) (by kernel_rfl) (by kernel_rfl) (fun _ _ _ h => h) (Or.inl ⟨by rfl, fun w => by go_simp⟩) ?_
  simp only [Act.put, List.setIfInBounds_toArray, List.set_cons_zero, List.set_cons_succ]
  refine any_of_L (g := 17) (T := fun w' => w' = w.drew) _ _ _ _ ?_
  refine L_take (i := 4) (v := .bool nx) rfl rfl (by kernel_rfl) (by decide) (by kernel_rfl) (by kernel_rfl) (by kernel_rfl) (by kernel_rfl) (fun _ _ _ h => h) (Or.inl ⟨by rfl, fun w' hw' => by subst hw'; go_simp⟩) rfl ?_
  simp only [Act.put, List.setIfInBounds_toArray, List.set_cons_zero, List.set_cons_succ]
  refine L_take (i := 8) (v := vx) rfl rfl (by kernel_rfl) (by decide) (by kernel_rfl) (by kernel_rfl) (by kernel_rfl) (by kernel_rfl) (fun _ _ _ h => h) (Or.inl ⟨by rfl, fun w' hw' => by subst hw'; go_simp⟩) rfl ?_
  simp only [Act.put, List.setIfInBounds_toArray, List.set_cons_zero, List.set_cons_succ]
  refine L_take (i := 12) (v := .bool ny) rfl rfl (by kernel_rfl) (by decide) (by kernel_rfl) (by kernel_rfl) (by kernel_rfl) (by kernel_rfl) (fun _ _ _ h => h) (Or.inl ⟨by rfl, fun w' hw' => by subst hw'; go_simp⟩) rfl ?_
  simp only [Act.put, List.setIfInBounds_toArray, List.set_cons_zero, List.set_cons_succ]
  refine L_take (i := 16) (v := vy) rfl rfl (by kernel_rfl) (by decide) (by kernel_rfl) (by kernel_rfl) (by kernel_rfl) (by kernel_rfl) (fun _ _ _ h => h) (Or.inl ⟨by rfl, fun w' hw' => by subst hw'; go_simp⟩) rfl ?_
  simp only [Act.put, List.setIfInBounds_toArray, List.set_cons_zero, List.set_cons_succ]
  refine L_go (by kernel_rfl) (by kernel_rfl) ?_
  refine wpOp_step rfl (fun K hK => ?_)
  rw [if_pos (by rfl)]
  go_wp2_with fail
  refine (sumC.out _ (gdr w)).mono ?_
  rintro e w1 ⟨neg, v, l, rfl, hm⟩
  refine hK _ _ ?_
  clear hK K
  have Hm : Hid (Mid w w1 neg v l X) := hm
  clear hm
  refine wpAny_take (i := 18) (v := .bool neg) rfl (by kernel_rfl) (by kernel_rfl) (by kernel_rfl) (fun _ _ _ h => h) (Or.inl ⟨by rfl, fun w => by go_simp⟩) ?_
  simp only [Act.put, List.setIfInBounds_toArray, List.set_cons_zero, List.set_cons_succ]
  refine wpAny_take (i := 19) (v := v) rfl (by kernel_rfl) (by kernel_rfl) (by kernel_rfl) (fun _ _ _ h => h) (Or.inl ⟨by rfl, fun w => by go_simp⟩) ?_
  simp only [Act.put, List.setIfInBounds_toArray, List.set_cons_zero, List.set_cons_succ]
  refine any_one (i := 20) (by kernel_rfl) ?_
  refine wpOp_step rfl (fun K hK => ?_)
  rw [if_pos (by rfl)]
  go_wp2_with fail
  refine (giveC.out neg v l w1 X Hm.out).mono ?_
  rintro e w2 ⟨rfl, hR⟩
  refine hK _ _ ?_
  clear hK K Hm
  refine any_one (i := 21) (by kernel_rfl) ?_
  refine wpOp_step rfl (fun K hK => ?_)
  rw [if_pos (by rfl)]
  have hK' : Shut (∀ a w, wpAny _ _ _ _ _ _ a w → K a w) := hK
  clear hK
  go_wp2
  refine hK'.out _ _ ?_
  clear hK' K
  refine wpAny_done (by kernel_rfl) ?_ _
  go_wp2
  go_ret
  exact ⟨rfl, hR⟩
end Go.Proofs.YtagimpmefodaeaaGreatDoor

namespace Go.Proofs.YtagimpmefodaeaaGreatDoor
set_option linter.unusedVariables false
open Go.RowKit Big

/-- How long a number is, in bits. -/
def Bits (n L : Nat) : Prop := (n = 0 ∧ L = 0) ∨ (1 ≤ L ∧ 2 ^ (L - 1) ≤ n ∧ n < 2 ^ L)

theorem pow32 (k : Nat) : 4294967296 ^ k = 2 ^ (32 * k) := by
  rw [Nat.pow_mul]

theorem bits_words {l : List Nat} (ho : Ok l) (h0 : 0 < l.length) (k : Nat) (hk : 1 ≤ k) (h1 : 2 ^ (k - 1) ≤ l.getD (l.length - 1) 0) (h2 : l.getD (l.length - 1) 0 < 2 ^ k) : Bits (val l) ((l.length - 1) * 32 + k) := by
  have e := val_take_succ l (l.length - 1) (by omega)
  rw [Nat.sub_add_cancel h0, List.take_length] at e
  have hlt := val_lt (ok_take ho (l.length - 1))
  rw [List.length_take, Nat.min_eq_left (by omega)] at hlt
  right
  refine ⟨by omega, ?_, ?_⟩
  · rw [show (l.length - 1) * 32 + k - 1 = 32 * (l.length - 1) + (k - 1) by omega, Nat.pow_add, ← pow32, e]
    have := Nat.mul_le_mul_left (4294967296 ^ (l.length - 1)) h1
    omega
  · rw [show (l.length - 1) * 32 + k = 32 * (l.length - 1) + k by omega, Nat.pow_add, ← pow32, e]
    have := Nat.mul_le_mul_left (4294967296 ^ (l.length - 1)) (Nat.succ_le_of_lt h2)
    rw [Nat.succ_eq_add_one, Nat.mul_add, Nat.mul_one] at this
    omega

theorem half_step (x k t : Nat) (h : t = x / 2 ^ k) : t / 2 = x / 2 ^ (k + 1) := by rw [h, Nat.div_div_eq_div_mul, Nat.pow_succ]

set_option maxHeartbeats 1000000 in
theorem length_any (v : Value) (l : List Nat) (w : World) (h : Wd w v l) (hn : Nrm l) (hl : l.length < 35184372088832) :
    Calls Tryz.prog 92 #[v] w fun e w' => (∃ L : Nat, e = .returned (.int .i64 L) ∧ Bits (val l) L) ∧ w' = w := by
  have ho := h.ok
  rcases h.at_ with ⟨h0, a, cap, hv⟩ | ⟨h0, b, off, cap, hv, hb, hcap, hc⟩
  · subst h0; subst hv
    go_enter Tryz.func92, Tryz.ntmps92
    go_wp2
    go_ret
    exact ⟨⟨0, rfl, .inl ⟨rfl, rfl⟩⟩, rfl⟩
  · subst hv
    obtain ⟨j, hj⟩ : ∃ j, l.length = j + 1 := ⟨l.length - 1, by omega⟩
    have hcj := hc j (by omega)
    have hx0 : l.getD j 0 ≠ 0 := by
      rcases hn with hn | hn
      · omega
      · rw [hj] at hn; exact hn
    have hx1 := ho j (by omega)
    have W := fun k hk h1 h2 => bits_words ho h0 k hk h1 h2
    rw [hj, Nat.add_sub_cancel] at W
    rw [hj]
    generalize l.getD j 0 = x at *
    have HW : Hid (∀ k, 1 ≤ k → 2 ^ (k - 1) ≤ x → x < 2 ^ k → Bits (val l) (j * 32 + k)) := W
    have hne : ((j : Int) + 1 == 0) = false := by simp; omega
    have hj2 : (j : Int) < 35184372088832 := by omega
    have Hj : Hid (l.length = j + 1) := hj
    clear hc hn W h ho hj hcap
    go_enter Tryz.func92, Tryz.ntmps92
    go_wp2
    go_loop [3, 4] (fun tn tt => ∃ k t : Nat, k ≤ 32 ∧ (t : Int) < 4294967296 ∧ tn = .int .i64 k ∧ tt = .int .u32 t ∧ Hid (t = x / 2 ^ k ∧ (1 ≤ k → 2 ^ (k - 1) ≤ x))) (fun _ tt => (RowKit.intOf tt).toNat)
    case atStart => exact ⟨0, x, by omega, by omega, rfl, rfl, by simp, fun h => by omega⟩
    case round =>
      obtain ⟨k, t, hk, ht, rfl, rfl, Hk⟩ := hrel
      by_cases hz : t = 0
      · subst hz
        have R : Hid (Bits (val l) (j * 32 + k)) := by
          have h1 := Hk.out.1.symm
          have h2 : x < 2 ^ k := by
            rcases Nat.div_eq_zero_iff.1 h1 with h | h
            · have := Nat.two_pow_pos k; omega
            · exact h
          have hk1 : 1 ≤ k := by
            rcases Nat.eq_zero_or_pos k with rfl | h
            · simp at h2; omega
            · exact h
          exact HW.out k hk1 (Hk.out.2 hk1) h2
        clear Hk HW
        go_wp2
        go_ret
        exact ⟨⟨j * 32 + k, by go_num, R.out⟩, rfl⟩
      · have t1 : ((t : Int) != 0) = true := by simp; omega
        have hk32 : k < 32 := by
          apply Classical.byContradiction
          intro hn
          have h1 := Hk.out.1
          have hk' : k = 32 := by omega
          subst hk'
          rw [Nat.div_eq_of_lt (by omega)] at h1
          exact hz h1
        have R : Hid (t / 2 = x / 2 ^ (k + 1) ∧ (1 ≤ k + 1 → 2 ^ (k + 1 - 1) ≤ x)) := by
          refine ⟨half_step x k t Hk.out.1, fun _ => ?_⟩
          rw [Nat.add_sub_cancel]
          apply Classical.byContradiction
          intro hn
          exact hz (by rw [Hk.out.1]; exact Nat.div_eq_of_lt (by omega))
        have e2 : (t : Int) / 2 = ((t / 2 : Nat) : Int) := by omega
        have h5 : t / 2 < t := by omega
        have h6 : (t / 2 : Nat) < 4294967296 := by omega
        generalize hq : t / 2 = q at *
        clear Hk HW hq
        go_wp2
        go_round
        case rel => exact ⟨k + 1, q, by omega, by omega, by go_num, rfl, R⟩
        case measure => simp [RowKit.intOf]; omega
end Go.Proofs.YtagimpmefodaeaaGreatDoor

namespace Go.Proofs.YtagimpmefodaeaaGreatDoor
set_option linter.unusedVariables false
open Go.RowKit Big

theorem or_word (x0 x1 : Nat) (h0 : x0 < 4294967296) (h1 : x1 < 4294967296) : bits .or .u64 (x0 : Int) ((x1 * 4294967296 : Nat) : Int) = ((x0 + 4294967296 * x1 : Nat) : Int) := by
  rw [bits_or_u64_nat _ _ (by omega) (by omega)]
  have := Nat.two_pow_add_eq_or_of_lt (i := 32) (b := x0) (by omega) x1
  rw [Nat.or_comm, Nat.mul_comm x1 4294967296, Nat.add_comm]
  exact congrArg _ this.symm

set_option maxHeartbeats 1000000 in
theorem uint64_any (p : Nat) (neg : Bool) (v : Value) (l : List Nat) (w : World) (h : IsBig w p neg v l) (hl : l.length ≤ 2) :
    Calls Tryz.prog 94 #[.pointer (some ⟨p, 0, none⟩)] w fun e w' => e = .returned (.int .u64 (val l : Nat)) ∧ w' = w := by
  have c1 := blk_cell1 h.blk
  have ho := h.wd.ok
  rcases h.wd.at_ with ⟨h0, a, cap, hv⟩ | ⟨h0, b, off, cap, hv, hb, hcap, hc⟩
  · subst h0; subst hv
    clear h ho
    go_enter Tryz.func94, Tryz.ntmps94
    go_wp2
    go_ret
    exact ⟨rfl, rfl⟩
  · subst hv
    match l, h0, hl with
    | [x0], _, _ =>
      have k0 : w.cell? ⟨b, off, none⟩ = some (.int .u32 (x0 : Nat)) := by first | (simp; done) | simpa using hc 0 (by simp)
      have b0 : x0 < 4294967296 := by simpa using ho 0 (by simp)
      have b0' : (x0 : Int) < 4294967296 := by omega
      have c1' : w.cell? ⟨p, 1, none⟩ = some (.slice (some ⟨b, off, none⟩) 1 cap) := c1
      have E : Hid (val [x0] = x0) := by simp [Hid, val]
      clear h ho hc c1 b0
      go_enter Tryz.func94, Tryz.ntmps94
      go_wp2
      go_ret
      exact ⟨by rw [E.out]; rfl, rfl⟩
    | [x0, x1], _, _ =>
      have k0 : w.cell? ⟨b, off, none⟩ = some (.int .u32 (x0 : Nat)) := by first | (simp; done) | simpa using hc 0 (by simp)
      have k1 : w.cell? ⟨b, off + 1, none⟩ = some (.int .u32 (x1 : Nat)) := by simpa using hc 1 (by simp)
      have b0 : x0 < 4294967296 := by simpa using ho 0 (by simp)
      have b1 : x1 < 4294967296 := by simpa using ho 1 (by simp)
      have c1' : w.cell? ⟨p, 1, none⟩ = some (.slice (some ⟨b, off, none⟩) 2 cap) := c1
      have e1 : (x1 : Int) * 4294967296 = ((x1 * 4294967296 : Nat) : Int) := by omega
      have e2 := or_word x0 x1 b0 b1
      have E : Hid (val [x0, x1] = x0 + 4294967296 * x1) := by simp [Hid, val]
      have b0' : (x0 : Int) < 4294967296 := by omega
      have b1' : (x1 : Int) < 4294967296 := by omega
      generalize x1 * 4294967296 = s at *
      generalize x0 + 4294967296 * x1 = t at *
      clear h ho hc c1 b0 b1
      go_enter Tryz.func94, Tryz.ntmps94
      go_wp2
      go_ret
      exact ⟨by rw [E.out]; rfl, rfl⟩

theorem int64_any (p : Nat) (neg : Bool) (v : Value) (l : List Nat) (w : World) (h : IsBig w p neg v l) (hl : l.length ≤ 2) (h1 : -9223372036854775808 ≤ sg neg (val l)) (h2 : sg neg (val l) ≤ 9223372036854775807) :
    Calls Tryz.prog 75 #[.pointer (some ⟨p, 0, none⟩)] w fun e w' => e = .returned (.int .i64 (sg neg (val l))) ∧ w' = w := by
  have c0 := blk_cell0 h.blk
  have H : Hid (IsBig w p neg v l) := h
  clear h
  generalize hn : val l = n at *
  have Hn : Hid (val l = n) := hn
  clear hn
  cases neg
  · go_enter Tryz.func75, Tryz.ntmps75
    go_wp2_with fail
    refine (uint64_any p _ v l w H.out hl).mono ?_
    rintro e w' ⟨rfl, hw⟩
    rw [hw, Hn.out]; clear hw w'
    have b1 : (n : Int) ≤ 9223372036854775807 := by simpa [sg] using h2
    clear h1 h2
    go_wp2
    go_ret
    exact ⟨rfl, rfl⟩
  · go_enter Tryz.func75, Tryz.ntmps75
    go_wp2_with fail
    refine (uint64_any p _ v l w H.out hl).mono ?_
    rintro e w' ⟨rfl, hw⟩
    rw [hw, Hn.out]; clear hw w'
    have b1 : (n : Int) ≤ 9223372036854775808 := by have : -9223372036854775808 ≤ -(n : Int) := by simpa [sg] using h1
                                                    omega
    have e1 : wrap64 (-wrap64 (n : Int)) = -(n : Int) := by unfold wrap64; omega
    clear h1 h2
    go_wp2
    go_ret
    refine ⟨?_, rfl⟩
    first | exact congrArg (fun z => Ending.returned (.int .i64 z)) e1 | rfl
end Go.Proofs.YtagimpmefodaeaaGreatDoor
