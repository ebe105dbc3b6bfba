/-
  The contracts of quarterdaybig's Abs, Neg (each at itself), String, and of dayref1.Show.
-/
import Derived.Test.YtikifooomeikgaaGreatDoorWBigT2
import Derived.Test.YtikifooomeikgaaGreatDoorWBig12
import Derived.Test.YtikifooomeikgaaGreatDoorWRegionL2
import Derived.Deep.RegionHeld
namespace Go.Proofs.YtikifooomeikgaaGreatDoor
set_option linter.unusedVariables false
set_option linter.unusedSimpArgs false
set_option maxRecDepth 100000
open Go.RowKit Big

theorem grow_blk {w w' : World} {p : Nat} {o : Obj} (h : w.heap[p]? = some o) (hg : w.grownBy w' none) : w'.heap[p]? = some o := (hg.block p (blk_lt h) (by simp)).trans h
theorem grow_then {a b c : World} {p : Nat} (h : a.grownBy b none) (k : b.grownBy c (some p)) : a.grownBy c (some p) := gtrans (gweak h _) k

theorem abs_self (p : Nat) (neg : Bool) (v : Value) (l : List Nat) (w : World) (h : IsBig w p neg v l) (hl : l.length < 35184372088832) :
    Calls Tryz.prog 10 #[.pointer (some ⟨p, 0, none⟩), .pointer (some ⟨p, 0, none⟩)] w fun e w' => ∃ v', e = .returned (.pointer (some ⟨p, 0, none⟩)) ∧ IsBig w' p false v' l ∧ w.grownBy w' (some p) := by
  have c1 := blk_cell1 h.blk
  have HT : Hid (Calls _ _ _ _ _) := twin_any v l w h.wd hl
  have HGv : Hid (∀ w1 v1, Wd w1 v1 l → w.grownBy w1 none → Calls Tryz.prog 28 #[.pointer (some ⟨p, 0, none⟩), .bool false, v1] w1 fun e w' => e = .returned (.pointer (some ⟨p, 0, none⟩)) ∧ IsBig w' p (false && decide (0 < l.length)) v1 l ∧ w1.grownBy w' (some p)) := fun w1 v1 hw hg => give_any p false neg v v1 l w1 (grow_blk h.blk hg) h.wd.noInt hw h.nrm
  obtain ⟨a, cap, rfl⟩ := h.wd.slice
  clear h
  go_enter Tryz.func10, Tryz.ntmps10
  go_wp2_with fail
  refine HT.out.mono ?_
  rintro e w1 ⟨v1, rfl, hw1⟩
  obtain ⟨a1, cap1, rfl⟩ := hw1.out.1.slice
  have HC : Hid (Calls _ _ _ _ _) := HGv.out w1 _ hw1.out.1 hw1.out.2
  have HG1 : Hid (w.grownBy w1 none) := hw1.out.2
  clear HT HGv hw1
  go_wp2_with fail
  refine HC.out.mono ?_
  rintro e w2 ⟨rfl, hB, hg⟩
  have HB : Hid (IsBig w2 p _ _ l) := hB
  have HG2 : Hid (w.grownBy w2 (some p)) := grow_then HG1.out hg
  clear HC hB hg HG1
  go_wp2
  go_ret
  exact ⟨_, rfl, HB.out, HG2.out⟩
theorem neg_self (p : Nat) (neg : Bool) (v : Value) (l : List Nat) (w : World) (h : IsBig w p neg v l) (hl : l.length < 35184372088832) :
    Calls Tryz.prog 20 #[.pointer (some ⟨p, 0, none⟩), .pointer (some ⟨p, 0, none⟩)] w fun e w' => ∃ v', e = .returned (.pointer (some ⟨p, 0, none⟩)) ∧ IsBig w' p (!neg && decide (0 < l.length)) v' l ∧ w.grownBy w' (some p) := by
  have c0 := blk_cell0 h.blk
  have c1 := blk_cell1 h.blk
  have HT : Hid (∀ W, w.grownBy W none → Calls Tryz.prog 29 #[v] W fun e w' => ∃ v', e = .returned v' ∧ Hid (Wd w' v' l ∧ W.grownBy w' none)) := fun W hW => twin_any v l W (h.wd.grow hW) hl
  have HGv : Hid (∀ w1 v1, Wd w1 v1 l → w.grownBy w1 none → Calls Tryz.prog 28 #[.pointer (some ⟨p, 0, none⟩), .bool (!neg), v1] w1 fun e w' => e = .returned (.pointer (some ⟨p, 0, none⟩)) ∧ IsBig w' p (!neg && decide (0 < l.length)) v1 l ∧ w1.grownBy w' (some p)) := fun w1 v1 hw hg => give_any p (!neg) neg v v1 l w1 (grow_blk h.blk hg) h.wd.noInt hw h.nrm
  obtain ⟨a, cap, rfl⟩ := h.wd.slice
  have HK : Hid (∀ Y, w.grownBy Y none → Y.cell? ⟨p, 0, none⟩ = some (.bool neg) ∧ Y.cell? ⟨p, 1, none⟩ = some (.slice a l.length cap)) := fun Y hY => ⟨hY.cell c0 (by simp), hY.cell c1 (by simp)⟩
  clear h
  have gdr0 : ∀ w : World, w.grownBy w.drew none := fun w => ⟨rfl, rfl, rfl, Nat.le_refl _, fun _ _ _ => rfl⟩
  go_enter Tryz.func20, Tryz.ntmps20
  go_wp2
  refine wp_region_any (by kernel_rfl) ?_
  refine wpAny_take (i := 0) (v := .pointer (some ⟨p, 0, none⟩)) rfl (by kernel_rfl) (by kernel_rfl) (by kernel_rfl) (fun _ _ _ h => h) (Or.inl ⟨by rfl, fun w => by go_simp⟩) ?_
  simp only [Act.put, List.setIfInBounds_toArray, List.set_cons_zero, List.set_cons_succ]
  refine wpAny_take (i := 1) (v := .pointer (some ⟨p, 0, none⟩)) rfl (by kernel_rfl) (by kernel_rfl) (by kernel_rfl) (fun _ _ _ h => h) (Or.inl ⟨by rfl, fun w => by go_simp⟩) ?_
  simp only [Act.put, List.setIfInBounds_toArray, List.set_cons_zero, List.set_cons_succ]
  refine wpAny_take (i := 2) (v := .pointer (some ⟨p, 0, none⟩)) rfl (by kernel_rfl) (by kernel_rfl) (by kernel_rfl) (fun _ _ _ h => h) (Or.inl ⟨by rfl, fun w => by go_simp⟩) ?_
  simp only [Act.put, List.setIfInBounds_toArray, List.set_cons_zero, List.set_cons_succ]
  refine wpAny_take (i := 3) (v := .pointer (some ⟨p, 0, none⟩)) rfl (by kernel_rfl) (by kernel_rfl) (by kernel_rfl) (fun _ _ _ h => h) (Or.inl ⟨by rfl, fun w => by go_simp⟩) ?_
  simp only [Act.put, List.setIfInBounds_toArray, List.set_cons_zero, List.set_cons_succ]
  refine wpAny_take (i := 6) (v := .pointer (some ⟨p, 0, none⟩)) rfl (by kernel_rfl) (by kernel_rfl) (by kernel_rfl) (fun _ _ _ h => h) (Or.inl ⟨by rfl, fun w => by go_simp⟩) ?_
  simp only [Act.put, List.setIfInBounds_toArray, List.set_cons_zero, List.set_cons_succ]
  refine wpAny_take (i := 7) (v := .pointer (some ⟨p, 0, none⟩)) rfl (by kernel_rfl) (by kernel_rfl) (by kernel_rfl) (fun _ _ _ h => h) (Or.inl ⟨by rfl, fun w => by go_simp⟩) ?_
  simp only [Act.put, List.setIfInBounds_toArray, List.set_cons_zero, List.set_cons_succ]
  refine wpAny_take (i := 8) (v := .pointer (some ⟨p, 1, none⟩)) rfl (by kernel_rfl) (by kernel_rfl) (by kernel_rfl) (fun _ _ _ h => h) (Or.inl ⟨by rfl, fun w => by go_simp⟩) ?_
  simp only [Act.put, List.setIfInBounds_toArray, List.set_cons_zero, List.set_cons_succ]
  refine any_of_L (g := 11) (T := fun w' => w.grownBy w' none) _ _ _ _ ?_
  refine L_take2 (i := 4) (m := 5) (v := .bool neg) rfl rfl rfl (by kernel_rfl) (by kernel_rfl) (by decide) (by kernel_rfl) (by kernel_rfl) (by kernel_rfl) (by kernel_rfl) (by kernel_rfl) (fun _ _ _ h => h) (Or.inl ⟨by rfl, fun w' hw' => by have c := (HK.out w' hw').1; go_simp⟩) (gdr0 w) ?_
  simp only [Act.put, List.setIfInBounds_toArray, List.set_cons_zero, List.set_cons_succ]
  refine L_take2 (i := 9) (m := 10) (v := .slice a l.length cap) rfl rfl rfl (by kernel_rfl) (by kernel_rfl) (by decide) (by kernel_rfl) (by kernel_rfl) (by kernel_rfl) (by kernel_rfl) (by kernel_rfl) (fun _ _ _ h => h) (Or.inl ⟨by rfl, fun w' hw' => by have c := (HK.out w' hw').2; go_simp⟩) (gdr0 w) ?_
  simp only [Act.put, List.setIfInBounds_toArray, List.set_cons_zero, List.set_cons_succ]
  refine L_take (i := 5) (v := .bool (!neg)) rfl rfl (by kernel_rfl) (by decide) (by kernel_rfl) (by kernel_rfl) (by kernel_rfl) (by kernel_rfl) (fun _ _ _ h => h) (Or.inl ⟨by rfl, fun w' hw' => by go_simp⟩) (gdr0 w) ?_
  simp only [Act.put, List.setIfInBounds_toArray, List.set_cons_zero, List.set_cons_succ]
  refine L_one (i := 10) (by kernel_rfl) ?_
  refine wpOp_step rfl (fun K hK => ?_)
  rw [if_pos (by rfl)]
  go_wp2_with fail
  refine (HT.out _ (gdr0 w)).mono ?_
  rintro e w1 ⟨v1, rfl, hm⟩
  have hg1 : w.grownBy w1 none := gtrans (gdr0 w) hm.out.2
  refine hK _ _ ⟨hg1, ?_⟩
  clear hK K
  have HC : Hid (Calls _ _ _ _ _) := HGv.out w1 v1 hm.out.1 hg1
  have HG1 : Hid (w.grownBy w1 none) := hg1
  clear hm hg1
  refine L_go (by kernel_rfl) (by kernel_rfl) ?_
  refine wpOp_step rfl (fun K hK => ?_)
  rw [if_pos (by rfl)]
  go_wp2_with fail
  refine HC.out.mono ?_
  rintro e w2 ⟨rfl, hB, hg⟩
  refine hK _ _ ?_
  clear hK K HC
  have HB : Hid (IsBig w2 p _ _ l) := hB
  have HG2 : Hid (w.grownBy w2 (some p)) := grow_then HG1.out hg
  clear hB hg
  refine any_one (i := 12) (by kernel_rfl) ?_
  refine wpOp_step rfl (fun K hK => ?_)
  rw [if_pos (by rfl)]
  have hK' : Shut (∀ a w, wpAny _ _ _ _ _ _ a w → K a w) := hK
  clear hK
  go_wp2
  refine hK'.out _ _ ?_
  clear hK' K
  refine wpAny_done (by kernel_rfl) ?_ _
  go_wp2
  go_ret
  exact ⟨_, rfl, HB.out, HG2.out⟩

theorem string_any (p : Nat) (v : Value) (l : List Nat) (w : World) (h : IsBig w p false v l) (hl2 : l.length ≤ 2) :
    Calls Tryz.prog 11 #[.pointer (some ⟨p, 0, none⟩)] w fun e w' => e = .returned (.string (txt (Lib.decDigits (val l)))) ∧ w.grownBy w' none := by
  have HT : Hid (Calls _ _ _ _ _) := text_any p v l w h hl2
  clear h
  generalize txt (Lib.decDigits (val l)) = x at *
  go_enter Tryz.func11, Tryz.ntmps11
  go_wp2_with fail
  refine HT.out.mono ?_
  rintro e w1 ⟨rfl, hg⟩
  clear HT
  go_wp2
  go_ret
  exact ⟨rfl, hg⟩
end Go.Proofs.YtikifooomeikgaaGreatDoor
