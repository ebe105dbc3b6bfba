/-
  The contract of quarterdaybig's sum: two numbers with their signs, added up.
-/
import Derived.Test.YtpohlhejeaafdaaGreatDoorZj19
import Derived.Deep.OwnRows
import Derived.Deep.QuietTactic
import Derived.BigQuiet
namespace Go.Proofs.YtpohlhejeaafdaaGreatDoor
set_option linter.unusedVariables false
open Go.RowKit Big

theorem Tryz.infoW : (Tryz.prog.info? 96).map (fun i => (i.zero, i.size, i.bytes)) = some (some (.int .u32 0), 1, 4) := by kernel_rfl

/-- A row of words as cells. -/
def rowA (r : List Nat) : Array Value := (r.map (fun x : Nat => Value.int .u32 (x : Int))).toArray
/-- The row r stands in block g. -/
def RowAt (w : World) (g : Nat) (r : List Nat) : Prop := w.heap[g]? = some (.cells (rowA r) 96 (0, 0))

theorem made_row (n : Nat) : madeCells #[.int .u32 0] n = rowA (List.replicate n 0) := by
  apply Array.ext
  · simp [madeCells, rowA]
  · intro i h1 h2
    simp [madeCells, rowA, Nat.mod_one]

theorem row_cell {w : World} {g : Nat} {r : List Nat} (h : RowAt w g r) {i : Nat} (hi : i < r.length) : w.cell? ⟨g, i, none⟩ = some (.int .u32 (r.getD i 0 : Nat)) := by
  unfold RowAt at h
  simp [World.cell?, h, rowA, hi]
theorem row_frozen {w : World} {g : Nat} {r : List Nat} (h : RowAt w g r) (i : Nat) : w.frozen? ⟨g, i, none⟩ = false := by
  unfold RowAt at h
  exact blk_frozen h
theorem row_set {w : World} {g : Nat} {r : List Nat} (h : RowAt w g r) (i x : Nat) : RowAt (w.setCell ⟨g, i, none⟩ (.int .u32 (x : Int))) g (r.set i x) := by
  unfold RowAt at *
  rw [heap_setCell_same _ g i _ _ _ h]
  congr 2
  simp [rowA, List.map_set]
theorem row_wd {w : World} {g : Nat} {r : List Nat} (h : RowAt w g r) (ho : Ok r) (hl : r.length ≤ 140737488355328) (cap : Nat) (hcap : r.length ≤ cap) : Wd w (.slice (some ⟨g, 0, none⟩) r.length cap) r := by
  rcases Nat.eq_zero_or_pos r.length with h0 | h0
  · have : r = [] := List.eq_nil_of_length_eq_zero h0
    subst this
    exact wd_nil w _ _
  · exact ⟨ho, hl, .inr ⟨h0, g, 0, cap, rfl, blk_lt h, hcap, fun i hi => by rw [Nat.zero_add]; exact row_cell h hi⟩⟩
theorem gset {a b : World} (h : a.grownBy b none) {p : Addr} (hp : a.heap.size ≤ p.block) (v : Value) : a.grownBy (b.setCell p v) none :=
  ⟨h.os, h.tape, h.output, by simpa using h.size, fun k hk hr => by rw [heap_setCell_other _ _ _ _ (by omega)]; exact h.block k hk hr⟩

/-- What a walk is told of words that came in. -/
theorem Wd.form {w : World} {v : Value} {l : List Nat} (h : Wd w v l) : ∃ aa cap, v = .slice aa l.length cap ∧ l.length ≤ 140737488355328 ∧
    Hid (Ok l) ∧ Hid (0 < l.length → ∃ b off, aa = some ⟨b, off, none⟩ ∧ b < w.heap.size ∧ ∀ i, i < l.length → w.cell? ⟨b, off + i, none⟩ = some (.int .u32 (l.getD i 0 : Nat))) := by
  rcases h.at_ with ⟨h0, a, cap, hv⟩ | ⟨h0, b, off, cap, hv, hb, hcap, hc⟩
  · subst h0
    exact ⟨a, cap, hv, by simp, h.ok, fun h => absurd h (by simp)⟩
  · exact ⟨_, cap, hv, h.len, h.ok, fun _ => ⟨b, off, rfl, hb, hc⟩⟩

set_option maxHeartbeats 2000000 in
theorem add_ge (va vb : Value) (a b : List Nat) (w : World) (ha : Wd w va a) (hb : Wd w vb b) (hge : b.length ≤ a.length) (hlen : a.length < 35184372088832) :
    Calls Tryz.prog 50 #[va, vb] w fun e w' => ∃ v l, e = .returned v ∧ Wd w' v l ∧ Nrm l ∧ val l = val a + val b ∧ w.grownBy w' none := by
  obtain ⟨aa, ca, rfl, la, Oa, Fa⟩ := ha.form
  obtain ⟨ab, cb, rfl, lb, Ob, Fb⟩ := hb.form
  clear ha hb la lb
  have hmk := fun w => run_make_row' (P := Tryz.prog) 68 96 (.int .u32 0) 4 Tryz.underlying68 Tryz.infoW rfl .i64 .i64 (a.length + 1) (by omega) (by omega) w
  rw [show ((a.length + 1 : Nat) : Int) = (a.length : Int) + 1 by omega] at hmk
  have hnl : ¬ ((a.length : Int) < b.length) := by omega
  go_enter Tryz.func50, Tryz.ntmps50
  go_wp2
  clear hmk
  go_loopw [6, 7] (fun tc ti wr => ∃ k c : Nat, ∃ r : List Nat, k ≤ a.length ∧ (c : Int) < 4294967296 ∧ tc = .int .u64 c ∧ ti = .int .i64 k ∧ r.length = a.length + 1 ∧ Hid (RowAt wr w.heap.size r) ∧ Hid (Ok r) ∧ Hid (w.grownBy wr none) ∧ Hid (val (r.take k) + 4294967296 ^ k * c = val (a.take k) + val (b.take k))) (fun _ ti _ => a.length - (RowKit.intOf ti).toNat)
  case atStart =>
    refine ⟨0, 0, List.replicate (a.length + 1) 0, by omega, by omega, rfl, rfl, by simp, ?_, ok_replicate _, World.grownBy_alloc _ _ _, ?_⟩
    · show (w.alloc _).heap[w.heap.size]? = _
      rw [alloc_blk, made_row]
    · simp [Hid, val]
  case round =>
    obtain ⟨k, c, r, hk, hc, rfl, rfl, hr, Hrow, Hok, Hg, Hv⟩ := hrel
    by_cases hlt : k < a.length
    · obtain ⟨ba, oa, rfl, hba, hca⟩ := Fa.out (by omega)
      have hxa := (Hg.out.cell (hca k hlt) (by simp))
      have hxb := Oa.out k hlt
      have S := add_step a b r k c (by omega) Hv.out
      have rc := row_cell Hrow.out (i := k) (by omega)
      have rf := row_frozen Hrow.out k
      by_cases hlb : k < b.length
      · obtain ⟨bb, ob, rfl, hbb, hcb⟩ := Fb.out (by omega)
        have hya := (Hg.out.cell (hcb k hlb) (by simp))
        have hyb := Ob.out k hlb
        generalize a.getD k 0 = x at *
        generalize b.getD k 0 = y at *
        generalize r.getD k 0 = z at *
        have e1 : IntKind.u32.wrap ((c : Int) + x + y) = ((c + x + y) % 4294967296 : Nat) := by rw [IntKind.wrap_u32]; omega
        have e2 : ((c : Int) + x + y) / 4294967296 = ((c + x + y) / 4294967296 : Nat) := by omega
        have b3 : (c + x + y) / 4294967296 < 4294967296 := by omega
        have b4 : (c + x + y) % 4294967296 < 4294967296 := Nat.mod_lt _ (by omega)
        generalize (c + x + y) % 4294967296 = d at *
        generalize (c + x + y) / 4294967296 = q at *
        have HS : Hid (val ((r.set k d).take (k + 1)) + 4294967296 ^ (k + 1) * q = val (a.take (k + 1)) + val (b.take (k + 1))) := S
        have b1 : (x : Int) < 4294967296 := by omega
        have b2 : (y : Int) < 4294967296 := by omega
        clear S hca hcb Hv hxb hyb
        go_wp2
        go_roundw
        case rel => exact ⟨k + 1, q, r.set k d, by omega, by omega, rfl, by go_num, by simpa using hr, row_set Hrow.out k d, ok_set Hok.out k d b4, gset Hg.out (Nat.le_refl _) _, HS⟩
        case measure => simp [RowKit.intOf]; omega
      · have hy0 : b.getD k 0 = 0 := by simp [List.getD, List.getElem?_eq_none (Nat.le_of_not_lt hlb)]
        rw [hy0, Nat.add_zero] at S
        generalize a.getD k 0 = x at *
        generalize r.getD k 0 = z at *
        have e1 : IntKind.u32.wrap ((c : Int) + x) = ((c + x) % 4294967296 : Nat) := by rw [IntKind.wrap_u32]; omega
        have e2 : ((c : Int) + x) / 4294967296 = ((c + x) / 4294967296 : Nat) := by omega
        have b3 : (c + x) / 4294967296 < 4294967296 := by omega
        have b4 : (c + x) % 4294967296 < 4294967296 := Nat.mod_lt _ (by omega)
        generalize (c + x) % 4294967296 = d at *
        generalize (c + x) / 4294967296 = q at *
        have HS : Hid (val ((r.set k d).take (k + 1)) + 4294967296 ^ (k + 1) * q = val (a.take (k + 1)) + val (b.take (k + 1))) := S
        have b1 : (x : Int) < 4294967296 := by omega
        clear S hca Hv hxb hy0
        go_wp2
        go_roundw
        case rel => exact ⟨k + 1, q, r.set k d, by omega, by omega, rfl, by go_num, by simpa using hr, row_set Hrow.out k d, ok_set Hok.out k d b4, gset Hg.out (Nat.le_refl _) _, HS⟩
        case measure => simp [RowKit.intOf]; omega
    · have hka : k = a.length := by omega
      subst hka
      have rc := row_cell Hrow.out (i := a.length) (by omega)
      have rf := row_frozen Hrow.out a.length
      generalize r.getD a.length 0 = z at *
      have Hnew : Hid (∀ wx, wx = wr.setCell ⟨w.heap.size, a.length, none⟩ (.int .u32 (c : Int)) → Wd wx (.slice (some ⟨w.heap.size, 0, none⟩) (a.length + 1) (a.length + 1)) (r.set a.length c)) := by
        rintro wx rfl
        have := row_wd (row_set Hrow.out a.length c) (ok_set Hok.out _ _ (by omega)) (by simp [hr]; omega) (a.length + 1) (by simp [hr])
        rw [List.length_set, hr] at this
        exact this
      have Hval : Hid (val (r.set a.length c) = val a + val b) := by
        have h1 := val_set r a.length c (by omega)
        have h2 := Hv.out
        rw [List.take_of_length_le (by simp; omega)] at h1
        rw [List.take_length, List.take_of_length_le (l := b) (by omega)] at h2
        exact h1.trans h2
      have Hg2 : Hid (w.grownBy (wr.setCell ⟨w.heap.size, a.length, none⟩ (.int .u32 (c : Int))) none) := gset Hg.out (Nat.le_refl _) _
      clear Hv Hrow Hok Hg
      go_wp2_with fail
      refine (trim_any _ (r.set a.length c) _ (Hnew.out _ rfl)).mono ?_
      rintro e w' ⟨⟨v', rfl, hv⟩, hw⟩
      rw [hw]; clear hw w' Hnew
      have R : Hid (Wd (wr.setCell ⟨w.heap.size, a.length, none⟩ (.int .u32 (c : Int))) v' ((r.set a.length c).take (tl (r.set a.length c) (r.set a.length c).length)) ∧ Nrm ((r.set a.length c).take (tl (r.set a.length c) (r.set a.length c).length)) ∧ val ((r.set a.length c).take (tl (r.set a.length c) (r.set a.length c).length)) = val a + val b) := by
        refine ⟨hv, nrm_tl _ _ (Nat.le_refl _), ?_⟩
        rw [val_tl _ _ (Nat.le_refl _), List.take_length]
        exact Hval.out
      clear hv
      go_wp2
      go_ret
      exact ⟨_, _, rfl, R.out.1, R.out.2.1, R.out.2.2, Hg2.out⟩
end Go.Proofs.YtpohlhejeaafdaaGreatDoor

namespace Go.Proofs.YtpohlhejeaafdaaGreatDoor
set_option linter.unusedVariables false
open Go.RowKit Big

set_option maxHeartbeats 2000000 in
theorem add_lt (va vb : Value) (a b : List Nat) (w : World) (ha : Wd w va a) (hb : Wd w vb b) (hge : b.length < a.length) (hlen : a.length < 35184372088832) :
    Calls Tryz.prog 50 #[vb, va] w fun e w' => ∃ v l, e = .returned v ∧ Wd w' v l ∧ Nrm l ∧ val l = val a + val b ∧ w.grownBy w' none := by
  obtain ⟨aa, ca, rfl, la, Oa, Fa⟩ := ha.form
  obtain ⟨ab, cb, rfl, lb, Ob, Fb⟩ := hb.form
  clear ha hb la lb
  have hmk := fun w => run_make_row' (P := Tryz.prog) 68 96 (.int .u32 0) 4 Tryz.underlying68 Tryz.infoW rfl .i64 .i64 (a.length + 1) (by omega) (by omega) w
  rw [show ((a.length + 1 : Nat) : Int) = (a.length : Int) + 1 by omega] at hmk
  have hnl : (b.length : Int) < a.length := by omega
  go_enter Tryz.func50, Tryz.ntmps50
  go_wp2
  clear hmk
  go_loopw [6, 7] (fun tc ti wr => ∃ k c : Nat, ∃ r : List Nat, k ≤ a.length ∧ (c : Int) < 4294967296 ∧ tc = .int .u64 c ∧ ti = .int .i64 k ∧ r.length = a.length + 1 ∧ Hid (RowAt wr w.heap.size r) ∧ Hid (Ok r) ∧ Hid (w.grownBy wr none) ∧ Hid (val (r.take k) + 4294967296 ^ k * c = val (a.take k) + val (b.take k))) (fun _ ti _ => a.length - (RowKit.intOf ti).toNat)
  case atStart =>
    refine ⟨0, 0, List.replicate (a.length + 1) 0, by omega, by omega, rfl, rfl, by simp, ?_, ok_replicate _, World.grownBy_alloc _ _ _, ?_⟩
    · show (w.alloc _).heap[w.heap.size]? = _
      rw [alloc_blk, made_row]
    · simp [Hid, val]
  case round =>
    obtain ⟨k, c, r, hk, hc, rfl, rfl, hr, Hrow, Hok, Hg, Hv⟩ := hrel
    by_cases hlt : k < a.length
    · obtain ⟨ba, oa, rfl, hba, hca⟩ := Fa.out (by omega)
      have hxa := (Hg.out.cell (hca k hlt) (by simp))
      have hxb := Oa.out k hlt
      have S := add_step a b r k c (by omega) Hv.out
      have rc := row_cell Hrow.out (i := k) (by omega)
      have rf := row_frozen Hrow.out k
      by_cases hlb : k < b.length
      · obtain ⟨bb, ob, rfl, hbb, hcb⟩ := Fb.out (by omega)
        have hya := (Hg.out.cell (hcb k hlb) (by simp))
        have hyb := Ob.out k hlb
        generalize a.getD k 0 = x at *
        generalize b.getD k 0 = y at *
        generalize r.getD k 0 = z at *
        have e1 : IntKind.u32.wrap ((c : Int) + x + y) = ((c + x + y) % 4294967296 : Nat) := by rw [IntKind.wrap_u32]; omega
        have e2 : ((c : Int) + x + y) / 4294967296 = ((c + x + y) / 4294967296 : Nat) := by omega
        have b3 : (c + x + y) / 4294967296 < 4294967296 := by omega
        have b4 : (c + x + y) % 4294967296 < 4294967296 := Nat.mod_lt _ (by omega)
        generalize (c + x + y) % 4294967296 = d at *
        generalize (c + x + y) / 4294967296 = q at *
        have HS : Hid (val ((r.set k d).take (k + 1)) + 4294967296 ^ (k + 1) * q = val (a.take (k + 1)) + val (b.take (k + 1))) := S
        have b1 : (x : Int) < 4294967296 := by omega
        have b2 : (y : Int) < 4294967296 := by omega
        clear S hca hcb Hv hxb hyb
        go_wp2
        go_roundw
        case rel => exact ⟨k + 1, q, r.set k d, by omega, by omega, rfl, by go_num, by simpa using hr, row_set Hrow.out k d, ok_set Hok.out k d b4, gset Hg.out (Nat.le_refl _) _, HS⟩
        case measure => simp [RowKit.intOf]; omega
      · have hy0 : b.getD k 0 = 0 := by simp [List.getD, List.getElem?_eq_none (Nat.le_of_not_lt hlb)]
        rw [hy0, Nat.add_zero] at S
        generalize a.getD k 0 = x at *
        generalize r.getD k 0 = z at *
        have e1 : IntKind.u32.wrap ((c : Int) + x) = ((c + x) % 4294967296 : Nat) := by rw [IntKind.wrap_u32]; omega
        have e2 : ((c : Int) + x) / 4294967296 = ((c + x) / 4294967296 : Nat) := by omega
        have b3 : (c + x) / 4294967296 < 4294967296 := by omega
        have b4 : (c + x) % 4294967296 < 4294967296 := Nat.mod_lt _ (by omega)
        generalize (c + x) % 4294967296 = d at *
        generalize (c + x) / 4294967296 = q at *
        have HS : Hid (val ((r.set k d).take (k + 1)) + 4294967296 ^ (k + 1) * q = val (a.take (k + 1)) + val (b.take (k + 1))) := S
        have b1 : (x : Int) < 4294967296 := by omega
        clear S hca Hv hxb hy0
        go_wp2
        go_roundw
        case rel => exact ⟨k + 1, q, r.set k d, by omega, by omega, rfl, by go_num, by simpa using hr, row_set Hrow.out k d, ok_set Hok.out k d b4, gset Hg.out (Nat.le_refl _) _, HS⟩
        case measure => simp [RowKit.intOf]; omega
    · have hka : k = a.length := by omega
      subst hka
      have rc := row_cell Hrow.out (i := a.length) (by omega)
      have rf := row_frozen Hrow.out a.length
      generalize r.getD a.length 0 = z at *
      have Hnew : Hid (∀ wx, wx = wr.setCell ⟨w.heap.size, a.length, none⟩ (.int .u32 (c : Int)) → Wd wx (.slice (some ⟨w.heap.size, 0, none⟩) (a.length + 1) (a.length + 1)) (r.set a.length c)) := by
        rintro wx rfl
        have := row_wd (row_set Hrow.out a.length c) (ok_set Hok.out _ _ (by omega)) (by simp [hr]; omega) (a.length + 1) (by simp [hr])
        rw [List.length_set, hr] at this
        exact this
      have Hval : Hid (val (r.set a.length c) = val a + val b) := by
        have h1 := val_set r a.length c (by omega)
        have h2 := Hv.out
        rw [List.take_of_length_le (by simp; omega)] at h1
        rw [List.take_length, List.take_of_length_le (l := b) (by omega)] at h2
        exact h1.trans h2
      have Hg2 : Hid (w.grownBy (wr.setCell ⟨w.heap.size, a.length, none⟩ (.int .u32 (c : Int))) none) := gset Hg.out (Nat.le_refl _) _
      clear Hv Hrow Hok Hg
      go_wp2_with fail
      refine (trim_any _ (r.set a.length c) _ (Hnew.out _ rfl)).mono ?_
      rintro e w' ⟨⟨v', rfl, hv⟩, hw⟩
      rw [hw]; clear hw w' Hnew
      have R : Hid (Wd (wr.setCell ⟨w.heap.size, a.length, none⟩ (.int .u32 (c : Int))) v' ((r.set a.length c).take (tl (r.set a.length c) (r.set a.length c).length)) ∧ Nrm ((r.set a.length c).take (tl (r.set a.length c) (r.set a.length c).length)) ∧ val ((r.set a.length c).take (tl (r.set a.length c) (r.set a.length c).length)) = val a + val b) := by
        refine ⟨hv, nrm_tl _ _ (Nat.le_refl _), ?_⟩
        rw [val_tl _ _ (Nat.le_refl _), List.take_length]
        exact Hval.out
      clear hv
      go_wp2
      go_ret
      exact ⟨_, _, rfl, R.out.1, R.out.2.1, R.out.2.2, Hg2.out⟩

theorem add_any (va vb : Value) (a b : List Nat) (w : World) (ha : Wd w va a) (hb : Wd w vb b) (h1 : a.length < 35184372088832) (h2 : b.length < 35184372088832) :
    Calls Tryz.prog 50 #[va, vb] w fun e w' => ∃ v l, e = .returned v ∧ Wd w' v l ∧ Nrm l ∧ val l = val a + val b ∧ w.grownBy w' none := by
  rcases Nat.lt_or_ge a.length b.length with h | h
  · refine (add_lt vb va b a w hb ha h h2).mono ?_
    rintro e w' ⟨v, l, he, hw, hn, hv, hg⟩
    exact ⟨v, l, he, hw, hn, by rw [hv, Nat.add_comm], hg⟩
  · exact add_ge va vb a b w ha hb h h1

set_option maxHeartbeats 2000000 in
theorem sub_any (va vb : Value) (a b : List Nat) (w : World) (ha : Wd w va a) (hb : Wd w vb b) (hle : val b ≤ val a) (hge : b.length ≤ a.length) (hlen : a.length < 35184372088832) :
    Calls Tryz.prog 51 #[va, vb] w fun e w' => ∃ v l, e = .returned v ∧ Wd w' v l ∧ Nrm l ∧ val l = val a - val b ∧ w.grownBy w' none := by
  obtain ⟨aa, ca, rfl, la, Oa, Fa⟩ := ha.form
  obtain ⟨ab, cb, rfl, lb, Ob, Fb⟩ := hb.form
  clear ha hb la lb
  have hmk := fun w => run_make_row' (P := Tryz.prog) 68 96 (.int .u32 0) 4 Tryz.underlying68 Tryz.infoW rfl .i64 .i64 a.length (by omega) (by omega) w
  go_enter Tryz.func51, Tryz.ntmps51
  go_wp2
  clear hmk
  go_loopw [6, 7] (fun tc ti wr => ∃ k c : Nat, ∃ r : List Nat, k ≤ a.length ∧ (c : Int) ≤ 1 ∧ tc = .int .u64 c ∧ ti = .int .i64 k ∧ r.length = a.length ∧ Hid (RowAt wr w.heap.size r) ∧ Hid (Ok r) ∧ Hid (w.grownBy wr none) ∧ Hid (val (r.take k) + val (b.take k) = val (a.take k) + 4294967296 ^ k * c)) (fun _ ti _ => a.length - (RowKit.intOf ti).toNat)
  case atStart =>
    refine ⟨0, 0, List.replicate a.length 0, by omega, by omega, rfl, rfl, by simp, ?_, ok_replicate _, World.grownBy_alloc _ _ _, ?_⟩
    · show (w.alloc _).heap[w.heap.size]? = _
      rw [alloc_blk, made_row]
    · simp [Hid, val]
  case round =>
    obtain ⟨k, c, r, hk, hc, rfl, rfl, hr, Hrow, Hok, Hg, Hv⟩ := hrel
    by_cases hlt : k < a.length
    · obtain ⟨ba, oa, rfl, hba, hca⟩ := Fa.out (by omega)
      have hxa := (Hg.out.cell (hca k hlt) (by simp))
      have hxb := Oa.out k hlt
      have rc := row_cell Hrow.out (i := k) (by omega)
      have rf := row_frozen Hrow.out k
      by_cases hlb : k < b.length
      · obtain ⟨bb, ob, rfl, hbb, hcb⟩ := Fb.out (by omega)
        have hya := (Hg.out.cell (hcb k hlb) (by simp))
        have hyb := Ob.out k hlb
        have S := fun t c' => sub_step a b r k c t c' (by omega) Hv.out
        generalize a.getD k 0 = x at *
        generalize b.getD k 0 = y at *
        generalize r.getD k 0 = z at *
        obtain ⟨t, c', h1, h2, h3, h4, h5⟩ : ∃ t c' : Nat, c' * 4294967296 + x = t + c + y ∧ t < 4294967296 ∧ c' ≤ 1 ∧ IntKind.u32.wrap (IntKind.u64.wrap (IntKind.u64.wrap ((x : Int) - c) - y)) = t ∧ IntKind.u64.wrap (IntKind.u64.wrap ((x : Int) - c) - y) / 9223372036854775808 = c' := by
          by_cases hc' : x < c + y
          · exact ⟨x + 4294967296 - c - y, 1, by omega, by omega, by omega, by rw [IntKind.wrap_u32, IntKind.wrap_u64, IntKind.wrap_u64]; omega, by rw [IntKind.wrap_u64, IntKind.wrap_u64]; omega⟩
          · exact ⟨x - c - y, 0, by omega, by omega, by omega, by rw [IntKind.wrap_u32, IntKind.wrap_u64, IntKind.wrap_u64]; omega, by rw [IntKind.wrap_u64, IntKind.wrap_u64]; omega⟩
        have HS : Hid (val ((r.set k t).take (k + 1)) + val (b.take (k + 1)) = val (a.take (k + 1)) + 4294967296 ^ (k + 1) * c') := S t c' h1
        have H2 : Hid (t < 4294967296) := h2
        have b1 : (x : Int) < 4294967296 := by omega
        have b2 : (y : Int) < 4294967296 := by omega
        clear S hca hcb Hv hxb hyb h1 h2
        go_wp2
        go_roundw
        case rel => exact ⟨k + 1, c', r.set k t, by omega, by omega, rfl, by go_num, by simpa using hr, row_set Hrow.out k t, ok_set Hok.out k t H2.out, gset Hg.out (Nat.le_refl _) _, HS⟩
        case measure => simp [RowKit.intOf]; omega
      · have hy0 : b.getD k 0 = 0 := by simp [List.getD, List.getElem?_eq_none (Nat.le_of_not_lt hlb)]
        have S := fun t c' => sub_step a b r k c t c' (by omega) Hv.out
        rw [hy0] at S
        generalize a.getD k 0 = x at *
        generalize r.getD k 0 = z at *
        obtain ⟨t, c', h1, h2, h3, h4, h5⟩ : ∃ t c' : Nat, c' * 4294967296 + x = t + c + 0 ∧ t < 4294967296 ∧ c' ≤ 1 ∧ IntKind.u32.wrap (IntKind.u64.wrap ((x : Int) - c)) = t ∧ IntKind.u64.wrap ((x : Int) - c) / 9223372036854775808 = c' := by
          by_cases hc' : x < c
          · exact ⟨x + 4294967296 - c, 1, by omega, by omega, by omega, by rw [IntKind.wrap_u32, IntKind.wrap_u64]; omega, by rw [IntKind.wrap_u64]; omega⟩
          · exact ⟨x - c, 0, by omega, by omega, by omega, by rw [IntKind.wrap_u32, IntKind.wrap_u64]; omega, by rw [IntKind.wrap_u64]; omega⟩
        have HS : Hid (val ((r.set k t).take (k + 1)) + val (b.take (k + 1)) = val (a.take (k + 1)) + 4294967296 ^ (k + 1) * c') := S t c' h1
        have H2 : Hid (t < 4294967296) := h2
        have b1 : (x : Int) < 4294967296 := by omega
        clear S hca Hv hxb hy0 h1 h2
        go_wp2
        go_roundw
        case rel => exact ⟨k + 1, c', r.set k t, by omega, by omega, rfl, by go_num, by simpa using hr, row_set Hrow.out k t, ok_set Hok.out k t H2.out, gset Hg.out (Nat.le_refl _) _, HS⟩
        case measure => simp [RowKit.intOf]; omega
    · have hka : k = a.length := by omega
      subst hka
      have Hnew : Hid (Wd wr (.slice (some ⟨w.heap.size, 0, none⟩) a.length a.length) r) := by
        have := row_wd Hrow.out Hok.out (by omega) a.length (by omega)
        rw [hr] at this
        exact this
      have Hval : Hid (val r = val a - val b) := by
        have h2 := Hv.out
        rw [List.take_length, List.take_of_length_le (l := b) (by omega), List.take_of_length_le (l := r) (by omega)] at h2
        have h3 := val_lt Hok.out
        rw [hr] at h3
        have hc0 : c = 0 ∨ c = 1 := by omega
        rcases hc0 with rfl | rfl
        · show _ = _; omega
        · show _ = _; omega
      clear Hv Hrow Hok
      go_wp2_with fail
      refine (trim_any _ r _ Hnew.out).mono ?_
      rintro e w' ⟨⟨v', rfl, hv⟩, hw⟩
      rw [hw]; clear hw w' Hnew
      have R : Hid (Wd wr v' (r.take (tl r r.length)) ∧ Nrm (r.take (tl r r.length)) ∧ val (r.take (tl r r.length)) = val a - val b) := by
        refine ⟨hv, nrm_tl _ _ (Nat.le_refl _), ?_⟩
        rw [val_tl _ _ (Nat.le_refl _), List.take_length]
        exact Hval.out
      clear hv
      go_wp2
      go_ret
      exact ⟨_, _, rfl, R.out.1, R.out.2.1, R.out.2.2, Hg.out⟩
end Go.Proofs.YtpohlhejeaafdaaGreatDoor

namespace Go.Proofs.YtpohlhejeaafdaaGreatDoor
set_option linter.unusedVariables false
open Go.RowKit Big

theorem drew2 (w : World) (a b : Nat) : (w.drewN a).drewN b = w.drewN (a + b) := by simp [World.drewN, Nat.add_assoc]

/-- -1, 0 or 1. -/
def cmpV (a b : Nat) : Int := if a < b then -1 else if b < a then 1 else 0
theorem cmpV_lt {a b : Nat} (h : a < b) : cmpV a b = -1 := by unfold cmpV; rw [if_pos h]
theorem cmpV_gt {a b : Nat} (h : b < a) : cmpV a b = 1 := by unfold cmpV; rw [if_neg (by omega), if_pos h]
theorem cmpV_eq {a b : Nat} (h : a = b) : cmpV a b = 0 := by unfold cmpV; rw [if_neg (by omega), if_neg (by omega)]

set_option maxHeartbeats 2000000 in
theorem cmp_any (va vb : Value) (a b : List Nat) (w : World) (ha : Wd w va a) (hb : Wd w vb b) (na : Nrm a) (nb : Nrm b) :
    Calls Tryz.prog 37 #[va, vb] w fun e w' => e = .returned (.int .i64 (cmpV (val a) (val b))) ∧ ∃ n, w' = w.drewN n := by
  obtain ⟨aa, ca, rfl, la, Oa, Fa⟩ := ha.form
  obtain ⟨ab, cb, rfl, lb, Ob, Fb⟩ := hb.form
  clear ha hb
  by_cases hlt : a.length < b.length
  · have R : Hid (cmpV (val a) (val b) = -1) := cmpV_lt (len_lt Oa.out nb hlt)
    have hne : ((a.length : Int) != b.length) = true := by simp; omega
    have hlt' : (a.length : Int) < b.length := by omega
    clear na nb
    go_enter Tryz.func37, Tryz.ntmps37
    go_wp2
    go_ret
    exact ⟨by rw [R.out]; rfl, 0, rfl⟩
  by_cases hgt : b.length < a.length
  · have R : Hid (cmpV (val a) (val b) = 1) := cmpV_gt (len_lt Ob.out na hgt)
    have hne : ((a.length : Int) != b.length) = true := by simp; omega
    have hlt' : ¬ ((a.length : Int) < b.length) := by omega
    clear na nb
    go_enter Tryz.func37, Tryz.ntmps37
    go_wp2
    go_ret
    exact ⟨by rw [R.out]; rfl, 0, rfl⟩
  have hlen : a.length = b.length := by omega
  have hne : ((a.length : Int) != b.length) = false := by simp; omega
  have Hlen : Hid (a.length = b.length) := hlen
  clear na nb hlt hgt hlen
  go_enter Tryz.func37, Tryz.ntmps37
  go_wp2
  go_loopw [5] (fun ti wr => ∃ m n : Nat, m ≤ a.length ∧ ti = .int .i64 ((m : Int) - 1) ∧ wr = w.drewN n ∧ Hid (a.drop m = b.drop m)) (fun ti _ => (RowKit.intOf ti + 1).toNat)
  case atStart => exact ⟨a.length, 0, Nat.le_refl _, rfl, rfl, by rw [Hid, List.drop_length, Hlen.out, List.drop_length]⟩
  case round =>
    obtain ⟨m, n, hm, rfl, rfl, Hd⟩ := hrel
    cases m with
    | zero =>
      have R : Hid (cmpV (val a) (val b) = 0) := by
        have := Hd.out
        simp at this
        exact cmpV_eq (by rw [this])
      go_wp2
      go_ret
      exact ⟨by rw [R.out]; rfl, _, rfl⟩
    | succ j =>
      rw [show ((j + 1 : Nat) : Int) - 1 = (j : Int) by omega]
      have hja : j < a.length := by omega
      have hjb : j < b.length := by have := Hlen.out; omega
      obtain ⟨ba, oa, rfl, hba, hca⟩ := Fa.out (by omega)
      obtain ⟨bb, ob, rfl, hbb, hcb⟩ := Fb.out (by omega)
      have hx := hca j hja
      have hy := hcb j hjb
      have i1 : (j : Int) < a.length := by omega
      have i2 : (j : Int) < b.length := by omega
      have T1 := fun h => top_lt Oa.out j hja hjb Hlen.out Hd.out h
      have T2 := fun h => top_lt Ob.out j hjb hja Hlen.out.symm Hd.out.symm h
      have E := fun h : a.getD j 0 = b.getD j 0 => (show a.drop j = b.drop j by
        have e1 : a.drop j = a.getD j 0 :: a.drop (j + 1) := by rw [List.drop_eq_getElem_cons hja]; simp [hja]
        have e2 : b.drop j = b.getD j 0 :: b.drop (j + 1) := by rw [List.drop_eq_getElem_cons hjb]; simp [hjb]
        rw [e1, e2, h, Hd.out])
      generalize a.getD j 0 = x at *
      generalize b.getD j 0 = y at *
      clear hca hcb Hd
      rcases Nat.lt_trichotomy x y with hxy | hxy | hxy
      · have R : Hid (cmpV (val a) (val b) = -1) := cmpV_lt (T1 hxy)
        have t1 : ((x : Int) != y) = true := by simp; omega
        have t2 : (x : Int) < y := by omega
        clear T1 T2 E
        go_wp2
        go_quiet (fail)
        go_wp2
        go_quiet (fail)
        go_wp2
        go_ret
        exact ⟨by rw [R.out]; rfl, _, by rw [drew2, drew2]⟩
      · have R : Hid (a.drop j = b.drop j) := E hxy
        have t1 : ((x : Int) != y) = false := by simp; omega
        clear T1 T2 E
        go_wp2
        go_quiet (fail)
        go_wp2
        go_roundw
        case rel => exact ⟨j, _, by omega, by go_num, rfl, R⟩
        case measure => simp [RowKit.intOf]
      · have R : Hid (cmpV (val a) (val b) = 1) := cmpV_gt (T2 hxy)
        have t1 : ((x : Int) != y) = true := by simp; omega
        have t2 : ¬ ((x : Int) < y) := by omega
        clear T1 T2 E
        go_wp2
        go_quiet (fail)
        go_wp2
        go_quiet (fail)
        go_wp2
        go_ret
        exact ⟨by rw [R.out]; rfl, _, by rw [drew2, drew2]⟩
end Go.Proofs.YtpohlhejeaafdaaGreatDoor

namespace Go.Proofs.YtpohlhejeaafdaaGreatDoor
set_option linter.unusedVariables false
open Go.RowKit Big

theorem sg_cut (neg : Bool) (l : List Nat) (n : Nat) (h : l.length = 0 → n = 0) : sg (neg && decide (0 < l.length)) n = sg neg n := by
  rcases Nat.eq_zero_or_pos l.length with h0 | h0
  · rw [h h0]; simp [sg]
  · simp [h0]

set_option maxHeartbeats 1000000 in
theorem sum_bigs (xn yn : Bool) (va vb : Value) (a b : List Nat) (w : World) (ha : Wd w va a) (hb : Wd w vb b) (na : Nrm a) (nb : Nrm b) (h1 : a.length < 35184372088832) (h2 : b.length < 35184372088832) :
    Calls Tryz.prog 33 #[.bool xn, va, .bool yn, vb] w fun e w' => ∃ neg v l, e = .returned (.tuple #[.bool neg, v]) ∧ Wd w' v l ∧ Nrm l ∧ sg neg (val l) = sg xn (val a) + sg yn (val b) ∧ w.grownBy w' none := by
  have Ha : Hid (Wd w va a) := ha
  have Hb : Hid (Wd w vb b) := hb
  have Na : Hid (Nrm a) := na
  have Nb : Hid (Nrm b) := nb
  clear ha hb na nb
  by_cases hs : xn = yn
  · subst hs
    go_enter Tryz.func33, Tryz.ntmps33
    go_wp2_with fail
    refine (add_any va vb a b w Ha.out Hb.out h1 h2).mono ?_
    rintro e w1 ⟨v, l, rfl, hv, hn, hval, hg⟩
    have R : Hid (Wd w1 v l ∧ Nrm l ∧ sg xn (val l) = sg xn (val a) + sg xn (val b) ∧ w.grownBy w1 none) := ⟨hv, hn, by rw [hval]; unfold sg; cases xn <;> simp <;> omega, hg⟩
    clear hv hn hval hg
    go_wp2
    go_ret2
    exact ⟨xn, v, l, rfl, R.out.1, R.out.2.1, R.out.2.2.1, R.out.2.2.2⟩
  · have hs' : (xn == yn) = false := by simpa using hs
    by_cases hge : val b ≤ val a
    · have hc : Hid (0 ≤ cmpV (val a) (val b)) := by
        unfold Hid cmpV; rw [if_neg (by omega)]; split <;> omega
      have hll := len_le Ha.out.ok Nb.out hge
      go_enter Tryz.func33, Tryz.ntmps33
      go_wp2_with fail
      refine (cmp_any va vb a b w Ha.out Hb.out Na.out Nb.out).mono ?_
      rintro e w1 ⟨rfl, n, hw⟩
      rw [hw]; clear hw w1
      have hc' := hc.out
      generalize cmpV (val a) (val b) = q at *
      clear hc
      go_wp2_with fail
      refine (sub_any va vb a b _ (Ha.out.grow (gdrewN (grefl w _) n)) (Hb.out.grow (gdrewN (grefl w _) n)) hge hll h1).mono ?_
      rintro e w1 ⟨v, l, rfl, hv, hn, hval, hg⟩
      have R : Hid (Wd w1 v l ∧ Nrm l ∧ sg xn (val l) = sg xn (val a) + sg yn (val b) ∧ w.grownBy w1 none) := ⟨hv, hn, by rw [hval]; unfold sg; cases xn <;> cases yn <;> simp at hs ⊢ <;> omega, gtrans (gdrewN (grefl w _) n) hg⟩
      clear hv hn hval hg
      go_wp2
      go_ret2
      exact ⟨xn, v, l, rfl, R.out.1, R.out.2.1, R.out.2.2.1, R.out.2.2.2⟩
    · have hc : Hid (cmpV (val a) (val b) < 0) := by
        unfold Hid; rw [cmpV_lt (by omega)]; omega
      have hll := len_le Hb.out.ok Na.out (by omega)
      go_enter Tryz.func33, Tryz.ntmps33
      go_wp2_with fail
      refine (cmp_any va vb a b w Ha.out Hb.out Na.out Nb.out).mono ?_
      rintro e w1 ⟨rfl, n, hw⟩
      rw [hw]; clear hw w1
      have hc' := hc.out
      generalize cmpV (val a) (val b) = q at *
      clear hc
      go_wp2_with fail
      refine (sub_any vb va b a _ (Hb.out.grow (gdrewN (grefl w _) n)) (Ha.out.grow (gdrewN (grefl w _) n)) (by omega) hll h2).mono ?_
      rintro e w1 ⟨v, l, rfl, hv, hn, hval, hg⟩
      have R : Hid (Wd w1 v l ∧ Nrm l ∧ sg yn (val l) = sg xn (val a) + sg yn (val b) ∧ w.grownBy w1 none) := ⟨hv, hn, by rw [hval]; unfold sg; cases xn <;> cases yn <;> simp at hs ⊢ <;> omega, gtrans (gdrewN (grefl w _) n) hg⟩
      clear hv hn hval hg
      go_wp2
      go_ret2
      exact ⟨yn, v, l, rfl, R.out.1, R.out.2.1, R.out.2.2.1, R.out.2.2.2⟩
end Go.Proofs.YtpohlhejeaafdaaGreatDoor
