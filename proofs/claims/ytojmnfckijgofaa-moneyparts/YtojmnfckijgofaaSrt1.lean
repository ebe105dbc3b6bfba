/-
  The contracts of slices.swapRangeCmpFunc and slices.rotateCmpFunc on a row of numbers.
-/
import Derived.Test.YtojmnfckijgofaaProg
import Derived.WalkKit
import Derived.WalkSpells
import Derived.Lib.OthersKept
import Derived.Deep.LoopGhost
import Derived.Laws.NewBlocks
import Derived.Deep.QuietTactic
import Derived.BigQuiet
import Derived.Deep.RegionHeld3
import Derived.Deep.RegionWith
import Derived.BigRegion
import Derived.Test.YtojmnfckijgofaaRegionL2
import Derived.Test.YtojmnfckijgofaaRunL
namespace Go.Proofs.Ytojmnfckijgofaa
set_option linter.unusedVariables false
set_option linter.unusedSimpArgs false
set_option maxRecDepth 100000
open Go.RowKit Go.Lib

/-- A row of numbers. -/
def NRow (w : World) (g : Nat) (r : List Int) : Prop := w.heap[g]? = some (.cells (r.map (Value.int .i64)).toArray 3 (0, 0))
theorem NRow.cell {w : World} {g : Nat} {r : List Int} (h : NRow w g r) {i : Nat} (hi : i < r.length) : w.cell? ⟨g, i, none⟩ = some (.int .i64 (r.getD i 0)) := by
  unfold NRow at h
  simp [World.cell?, h, hi]
theorem NRow.frozen {w : World} {g : Nat} {r : List Int} (h : NRow w g r) (i : Nat) : w.frozen? ⟨g, i, none⟩ = false := by
  unfold NRow at h
  simp [World.frozen?, h]
theorem NRow.set {w : World} {g : Nat} {r : List Int} (h : NRow w g r) (i : Nat) (x : Int) : NRow (w.setCell ⟨g, i, none⟩ (.int .i64 x)) g (r.set i x) := by
  unfold NRow at *
  rw [setCell_eq_setRow w g i _ 3 (0, 0) _ h, setRow_heap w g _ _ 3 (0, 0) h]
  simp [List.map_set]
/-- All but one block is as it was. -/
structure But (g : Nat) (V W : World) : Prop where
  os : W.os = V.os
  tape : W.tape = V.tape
  output : W.output = V.output
  size : V.heap.size = W.heap.size
  block : ∀ b, b ≠ g → W.heap[b]? = V.heap[b]?
theorem But.refl (g : Nat) (V : World) : But g V V := ⟨rfl, rfl, rfl, rfl, fun _ _ => rfl⟩
theorem But.trans {g : Nat} {A B C : World} (h : But g A B) (k : But g B C) : But g A C := ⟨k.os.trans h.os, k.tape.trans h.tape, k.output.trans h.output, h.size.trans k.size, fun b hb => (k.block b hb).trans (h.block b hb)⟩
theorem But.drew {g : Nat} {A B : World} (h : But g A B) : But g A B.drew := h.trans ⟨rfl, rfl, rfl, rfl, fun _ _ => rfl⟩
theorem But.set {g : Nat} {A B : World} (h : But g A B) (o : Nat) (v : Value) : But g A (B.setCell ⟨g, o, none⟩ v) :=
  h.trans ⟨rfl, rfl, rfl, by simp [World.setCell], fun b hb => Below.heap_setCell _ _ _ _ hb⟩

/-- Two numbers change places. -/
def swp (l : List Int) (i j : Nat) : List Int := (l.set i (l.getD j 0)).set j (l.getD i 0)
theorem swp_length (l : List Int) (i j : Nat) : (swp l i j).length = l.length := by simp [swp]
/-- So many numbers from a on change places with those from b on. -/
def swapR (l : List Int) (a b : Nat) : Nat → List Int
  | 0 => l
  | k + 1 => swp (swapR l a b k) (a + k) (b + k)
theorem swapR_length (l : List Int) (a b k : Nat) : (swapR l a b k).length = l.length := by
  induction k with
  | zero => rfl
  | succ k ih => rw [swapR, swp_length, ih]

set_option maxHeartbeats 4000000 in
theorem swapRange_any (g cap a b n : Nat) (l : List Int) (f : Value) (w : World) (h : NRow w g l) (hl : l.length ≤ 1000000) (ha : a + n ≤ l.length) (hb : b + n ≤ l.length) :
    Calls Try.prog 30 #[.slice (some ⟨g, 0, none⟩) l.length cap, .int .i64 (a : Int), .int .i64 (b : Int), .int .i64 (n : Int), f] w fun e w' => e = .returned (.tuple #[]) ∧ Hid (NRow w' g (swapR l a b n) ∧ But g w w') := by
  have HR : Hid (NRow w g l) := h
  have n0 : (0 : Int) ≤ n := by omega
  have hli : (l.length : Int) ≤ 1000000 := by omega
  clear h
  go_enter Try.func30, Try.ntmps30
  go_wp2
  go_loopw [10] (fun i wr => ∃ k : Nat, k ≤ n ∧ i = .int .i64 k ∧ Hid (NRow wr g (swapR l a b k) ∧ But g w wr)) (fun i _ => n - (intOf i).toNat)
  case atStart => exact ⟨0, Nat.zero_le _, rfl, HR.out, But.refl _ _⟩
  case round =>
    obtain ⟨k, hk, rfl, H⟩ := hrel
    obtain ⟨R, B⟩ := H.out
    by_cases hlt : k < n
    · have hL := swapR_length l a b k
      have i1 : (0 : Int) ≤ (a : Int) + k := by omega
      have i2 : (a : Int) + k < l.length := by omega
      have i3 : (0 : Int) ≤ (b : Int) + k := by omega
      have i4 : (b : Int) + k < l.length := by omega
      have i5 : (a : Int) + k = ((a + k : Nat) : Int) := by omega
      have k1 : (k : Int) < n := by omega
      have hn1 : (n : Int) ≤ 1000000 := by omega
      have wr1 : IntKind.i64.wrap ((a : Int) + k) = (a : Int) + k := by rw [IntKind.wrap_i64]; omega
      have wr2 : IntKind.i64.wrap ((b : Int) + k) = (b : Int) + k := by rw [IntKind.wrap_i64]; omega
      have t1 : ((a : Int) + k).toNat = a + k := by omega
      have t2 : ((b : Int) + k).toNat = b + k := by omega
      have ca : wr.drew.cell? ⟨g, a + k, none⟩ = some (.int .i64 ((swapR l a b k).getD (a + k) 0)) := R.cell (by omega)
      have cb : wr.drew.cell? ⟨g, b + k, none⟩ = some (.int .i64 ((swapR l a b k).getD (b + k) 0)) := R.cell (by omega)
      have fa : wr.drew.frozen? ⟨g, a + k, none⟩ = false := R.frozen _
      have R1 : NRow (wr.drew.setCell ⟨g, a + k, none⟩ (.int .i64 ((swapR l a b k).getD (b + k) 0))) g _ := (show NRow wr.drew g _ from R).set (a + k) _
      have cb1 := R1.cell (i := b + k) (by simp; omega)
      have fb1 := R1.frozen (b + k)
      have R2 := R1.set (b + k) ((swapR l a b k).getD (a + k) 0)
      have HR2 : Hid (NRow ((wr.drew.setCell ⟨g, a + k, none⟩ (.int .i64 ((swapR l a b k).getD (b + k) 0))).setCell ⟨g, b + k, none⟩ (.int .i64 ((swapR l a b k).getD (a + k) 0))) g (swapR l a b (k + 1)) ∧ But g w ((wr.drew.setCell ⟨g, a + k, none⟩ (.int .i64 ((swapR l a b k).getD (b + k) 0))).setCell ⟨g, b + k, none⟩ (.int .i64 ((swapR l a b k).getD (a + k) 0)))) := ⟨R2, (B.drew.set (a + k) _).set (b + k) _⟩
      generalize (swapR l a b k).getD (a + k) 0 = x at *
      generalize (swapR l a b k).getD (b + k) 0 = y at *
      generalize ((swapR l a b k).set (a + k) y).getD (b + k) 0 = z at *
      clear R B R1 R2 H i5 HR hL
      go_wp2
      refine wp_region_drawn (by kernel_rfl) ?_
      refine wpAny_take (i := 0) (v := .slice (some ⟨g, 0, none⟩) l.length cap) rfl (by kernel_rfl) (by kernel_rfl) (by kernel_rfl) (fun _ _ _ h => h) (Or.inl ⟨by rfl, fun w => by go_simp⟩) ?_
      simp only [Act.put, List.getElem_toArray, List.getElem_cons_succ, List.getElem_cons_zero, List.setIfInBounds_toArray, List.set_cons_zero, List.set_cons_succ]
      refine wpAny_take (i := 1) (v := .int .i64 a) rfl (by kernel_rfl) (by kernel_rfl) (by kernel_rfl) (fun _ _ _ h => h) (Or.inl ⟨by rfl, fun w => by go_simp⟩) ?_
      simp only [Act.put, List.getElem_toArray, List.getElem_cons_succ, List.getElem_cons_zero, List.setIfInBounds_toArray, List.set_cons_zero, List.set_cons_succ]
      refine wpAny_take (i := 2) (v := .int .i64 k) rfl (by kernel_rfl) (by kernel_rfl) (by kernel_rfl) (fun _ _ _ h => h) (Or.inl ⟨by rfl, fun w => by go_simp⟩) ?_
      simp only [Act.put, List.getElem_toArray, List.getElem_cons_succ, List.getElem_cons_zero, List.setIfInBounds_toArray, List.set_cons_zero, List.set_cons_succ]
      refine wpAny_take (i := 3) (v := .int .i64 ((a : Int) + k)) rfl (by kernel_rfl) (by kernel_rfl) (by kernel_rfl) (fun _ _ _ h => h) (Or.inl ⟨by rfl, fun w => by go_simp⟩) ?_
      simp only [Act.put, List.getElem_toArray, List.getElem_cons_succ, List.getElem_cons_zero, List.setIfInBounds_toArray, List.set_cons_zero, List.set_cons_succ]
      refine wpAny_take (i := 4) (v := .slice (some ⟨g, 0, none⟩) l.length cap) rfl (by kernel_rfl) (by kernel_rfl) (by kernel_rfl) (fun _ _ _ h => h) (Or.inl ⟨by rfl, fun w => by go_simp⟩) ?_
      simp only [Act.put, List.getElem_toArray, List.getElem_cons_succ, List.getElem_cons_zero, List.setIfInBounds_toArray, List.set_cons_zero, List.set_cons_succ]
      refine wpAny_take (i := 5) (v := .int .i64 b) rfl (by kernel_rfl) (by kernel_rfl) (by kernel_rfl) (fun _ _ _ h => h) (Or.inl ⟨by rfl, fun w => by go_simp⟩) ?_
      simp only [Act.put, List.getElem_toArray, List.getElem_cons_succ, List.getElem_cons_zero, List.setIfInBounds_toArray, List.set_cons_zero, List.set_cons_succ]
      refine wpAny_take (i := 6) (v := .int .i64 k) rfl (by kernel_rfl) (by kernel_rfl) (by kernel_rfl) (fun _ _ _ h => h) (Or.inl ⟨by rfl, fun w => by go_simp⟩) ?_
      simp only [Act.put, List.getElem_toArray, List.getElem_cons_succ, List.getElem_cons_zero, List.setIfInBounds_toArray, List.set_cons_zero, List.set_cons_succ]
      refine wpAny_take (i := 7) (v := .int .i64 ((b : Int) + k)) rfl (by kernel_rfl) (by kernel_rfl) (by kernel_rfl) (fun _ _ _ h => h) (Or.inl ⟨by rfl, fun w => by go_simp⟩) ?_
      simp only [Act.put, List.getElem_toArray, List.getElem_cons_succ, List.getElem_cons_zero, List.setIfInBounds_toArray, List.set_cons_zero, List.set_cons_succ]
      refine wpAny_take (i := 8) (v := .slice (some ⟨g, 0, none⟩) l.length cap) rfl (by kernel_rfl) (by kernel_rfl) (by kernel_rfl) (fun _ _ _ h => h) (Or.inl ⟨by rfl, fun w => by go_simp⟩) ?_
      simp only [Act.put, List.getElem_toArray, List.getElem_cons_succ, List.getElem_cons_zero, List.setIfInBounds_toArray, List.set_cons_zero, List.set_cons_succ]
      refine wpAny_take (i := 9) (v := .int .i64 b) rfl (by kernel_rfl) (by kernel_rfl) (by kernel_rfl) (fun _ _ _ h => h) (Or.inl ⟨by rfl, fun w => by go_simp⟩) ?_
      simp only [Act.put, List.getElem_toArray, List.getElem_cons_succ, List.getElem_cons_zero, List.setIfInBounds_toArray, List.set_cons_zero, List.set_cons_succ]
      refine wpAny_take (i := 10) (v := .int .i64 k) rfl (by kernel_rfl) (by kernel_rfl) (by kernel_rfl) (fun _ _ _ h => h) (Or.inl ⟨by rfl, fun w => by go_simp⟩) ?_
      simp only [Act.put, List.getElem_toArray, List.getElem_cons_succ, List.getElem_cons_zero, List.setIfInBounds_toArray, List.set_cons_zero, List.set_cons_succ]
      refine wpAny_take (i := 11) (v := .int .i64 ((b : Int) + k)) rfl (by kernel_rfl) (by kernel_rfl) (by kernel_rfl) (fun _ _ _ h => h) (Or.inl ⟨by rfl, fun w => by go_simp⟩) ?_
      simp only [Act.put, List.getElem_toArray, List.getElem_cons_succ, List.getElem_cons_zero, List.setIfInBounds_toArray, List.set_cons_zero, List.set_cons_succ]
      refine wpAny_take (i := 12) (v := .pointer (some ⟨g, b + k, none⟩)) rfl (by kernel_rfl) (by kernel_rfl) (by kernel_rfl) (fun _ _ _ h => h) (Or.inl ⟨by rfl, fun w => by go_simp⟩) ?_
      simp only [Act.put, List.getElem_toArray, List.getElem_cons_succ, List.getElem_cons_zero, List.setIfInBounds_toArray, List.set_cons_zero, List.set_cons_succ]
      refine wpAny_take (i := 14) (v := .slice (some ⟨g, 0, none⟩) l.length cap) rfl (by kernel_rfl) (by kernel_rfl) (by kernel_rfl) (fun _ _ _ h => h) (Or.inl ⟨by rfl, fun w => by go_simp⟩) ?_
      simp only [Act.put, List.getElem_toArray, List.getElem_cons_succ, List.getElem_cons_zero, List.setIfInBounds_toArray, List.set_cons_zero, List.set_cons_succ]
      refine wpAny_take (i := 15) (v := .int .i64 a) rfl (by kernel_rfl) (by kernel_rfl) (by kernel_rfl) (fun _ _ _ h => h) (Or.inl ⟨by rfl, fun w => by go_simp⟩) ?_
      simp only [Act.put, List.getElem_toArray, List.getElem_cons_succ, List.getElem_cons_zero, List.setIfInBounds_toArray, List.set_cons_zero, List.set_cons_succ]
      refine wpAny_take (i := 16) (v := .int .i64 k) rfl (by kernel_rfl) (by kernel_rfl) (by kernel_rfl) (fun _ _ _ h => h) (Or.inl ⟨by rfl, fun w => by go_simp⟩) ?_
      simp only [Act.put, List.getElem_toArray, List.getElem_cons_succ, List.getElem_cons_zero, List.setIfInBounds_toArray, List.set_cons_zero, List.set_cons_succ]
      refine wpAny_take (i := 17) (v := .int .i64 ((a : Int) + k)) rfl (by kernel_rfl) (by kernel_rfl) (by kernel_rfl) (fun _ _ _ h => h) (Or.inl ⟨by rfl, fun w => by go_simp⟩) ?_
      simp only [Act.put, List.getElem_toArray, List.getElem_cons_succ, List.getElem_cons_zero, List.setIfInBounds_toArray, List.set_cons_zero, List.set_cons_succ]
      refine wpAny_take (i := 18) (v := .pointer (some ⟨g, a + k, none⟩)) rfl (by kernel_rfl) (by kernel_rfl) (by kernel_rfl) (fun _ _ _ h => h) (Or.inl ⟨by rfl, fun w => by go_simp⟩) ?_
      simp only [Act.put, List.getElem_toArray, List.getElem_cons_succ, List.getElem_cons_zero, List.setIfInBounds_toArray, List.set_cons_zero, List.set_cons_succ]
      refine any_of_L (g := 21) (T := fun u => u = wr.drew) _ _ _ _ ?_
      refine L_take (i := 13) (v := .int .i64 y) rfl rfl (by kernel_rfl) (by decide) (by kernel_rfl) (by kernel_rfl) (by kernel_rfl) (by kernel_rfl) (fun _ _ _ h => h) (Or.inl ⟨by rfl, fun w' hw' => by subst hw'; go_simp⟩) rfl ?_
      simp only [Act.put, List.getElem_toArray, List.getElem_cons_succ, List.getElem_cons_zero, List.setIfInBounds_toArray, List.set_cons_zero, List.set_cons_succ]
      refine L_take (i := 19) (v := .int .i64 x) rfl rfl (by kernel_rfl) (by decide) (by kernel_rfl) (by kernel_rfl) (by kernel_rfl) (by kernel_rfl) (fun _ _ _ h => h) (Or.inl ⟨by rfl, fun w' hw' => by subst hw'; go_simp⟩) rfl ?_
      simp only [Act.put, List.getElem_toArray, List.getElem_cons_succ, List.getElem_cons_zero, List.setIfInBounds_toArray, List.set_cons_zero, List.set_cons_succ]
      refine L_take (i := 20) (v := .pointer (some ⟨g, a + k, none⟩)) rfl rfl (by kernel_rfl) (by decide) (by kernel_rfl) (by kernel_rfl) (by kernel_rfl) (by kernel_rfl) (fun _ _ _ h => h) (Or.inl ⟨by rfl, fun w' hw' => by subst hw'; go_simp⟩) rfl ?_
      simp only [Act.put, List.getElem_toArray, List.getElem_cons_succ, List.getElem_cons_zero, List.setIfInBounds_toArray, List.set_cons_zero, List.set_cons_succ]
      refine L_go (by kernel_rfl) (by kernel_rfl) ?_
      refine wpOp_step rfl ?_
      intro K hK
      rw [if_pos (by rfl)]
      have hK' : Shut (∀ a w, _ → K a w) := hK
      clear hK
      go_wp2
      refine hK'.out _ _ ?_
      clear hK' K
      have eW : wr.drew.setCell ⟨g, a + k, none⟩ (.int .i64 y) = (wr.setCell ⟨g, a + k, none⟩ (.int .i64 y)).drew := rfl
      rw [eW] at cb1 fb1 HR2
      clear eW ca cb fa
      generalize (wr.setCell ⟨g, a + k, none⟩ (.int .i64 y)).drew = W1 at *
      refine any_one (i := 22) (by kernel_rfl) ?_
      refine wpOp_step rfl ?_
      intro K hK
      rw [if_pos (by rfl)]
      have hK' : Shut (∀ a w, _ → K a w) := hK
      clear hK
      go_wp2
      refine hK'.out _ _ ?_
      clear hK' K
      refine any_one (i := 23) (by kernel_rfl) ?_
      refine wpOp_step rfl ?_
      intro K hK
      rw [if_pos (by rfl)]
      have hK' : Shut (∀ a w, _ → K a w) := hK
      clear hK
      go_wp2
      refine hK'.out _ _ ?_
      clear hK' K
      refine wpAny_done (by kernel_rfl) ?_ _
      go_wp2
      go_roundw
      case rel => exact ⟨k + 1, by omega, by go_num, HR2⟩
      case measure => simp [intOf]; omega
    · have ek : k = n := by omega
      subst ek
      have k1 : ¬ (k : Int) < k := by omega
      have HE : Hid (NRow wr g (swapR l a b k) ∧ But g w wr) := ⟨R, B⟩
      clear R B H
      go_wp2
      go_end0
      exact ⟨rfl, HE⟩
end Go.Proofs.Ytojmnfckijgofaa
