/-
  Arrays of forty pages, and of forty marks, in memory.
-/
import Derived.Test.YteffpglmgekkiaaDoorSp1
namespace Go.Proofs.YteffpglmgekkiaaDoor
set_option linter.unusedVariables false
set_option linter.unusedSimpArgs false
set_option maxRecDepth 100000
open Go.RowKit Go.Lib
theorem ar_size : (Tryd.prog.info? 34).map (·.size) = some 40 := by kernel_rfl
theorem ar_zero : (Tryd.prog.info? 34).map (·.zero) = some (some (.agg (List.replicate 40 (Value.slice none 0 0)).toArray)) := by kernel_rfl
theorem tc_zero : (Tryd.prog.info? 35).map (·.zero) = some (some (.agg (List.replicate 40 (Value.bool false)).toArray)) := by kernel_rfl
theorem alloc_ar (w : World) : (Instr.alloc 34 true (.tuple #[])).run Tryd.prog w = .ok (.pointer (some ⟨w.heap.size, 0, none⟩)) (w.alloc (.cells (List.replicate 40 (Value.slice none 0 0)).toArray 34)) := by
  cases hq : Tryd.prog.info? 34 with
  | none => have := ar_zero; simp [hq] at this
  | some q =>
    have hz : q.zero = some (.agg (List.replicate 40 (Value.slice none 0 0)).toArray) := by
      have := ar_zero
      rw [hq] at this
      exact Option.some.inj this
    generalize (List.replicate 40 (Value.slice none 0 0)).toArray = Z at *
    simp [Instr.alloc, zeroValue, typeInfo, hq, hz, newVar, newRow, Value.cells]
theorem alloc_tc (w : World) : (Instr.alloc 35 true (.tuple #[])).run Tryd.prog w = .ok (.pointer (some ⟨w.heap.size, 0, none⟩)) (w.alloc (.cells (List.replicate 40 (Value.bool false)).toArray 35)) := by
  cases hq : Tryd.prog.info? 35 with
  | none => have := tc_zero; simp [hq] at this
  | some q =>
    have hz : q.zero = some (.agg (List.replicate 40 (Value.bool false)).toArray) := by
      have := tc_zero
      rw [hq] at this
      exact Option.some.inj this
    generalize (List.replicate 40 (Value.bool false)).toArray = Z at *
    simp [Instr.alloc, zeroValue, typeInfo, hq, hz, newVar, newRow, Value.cells]
/-- Forty pages. -/
structure Ar (W : World) (b : Nat) (vs : List Value) (L : Nat → List UInt8) : Prop where
  len : vs.length = 40
  row : W.heap[b]? = some (.cells vs.toArray 34 (0, 0))
  own : ∀ k, k < 40 → OwnBy W (vs.getD k (.slice none 0 0)) (L k)
section
variable {V W : World} {b : Nat} {vs : List Value} {L : Nat → List UInt8}
theorem Ar.keep {lo : Nat} (a : Ar V b vs L) (hk : KeepC lo stT V W) : Ar W b vs L := ⟨a.len, hk.row a.row (by decide), fun k h => (a.own k h).keep hk⟩
theorem Ar.turn (a : Ar V b vs L) {b' : Nat} {cs : Array Value} {t : TypeId} (hb : V.heap[b']? = some (.cells cs t (0, 0))) (h8 : t ≠ 5) (hne : b ≠ b') (k : Turn b' V W) : Ar W b vs L :=
  ⟨a.len, (k.oth b hne).trans a.row, fun j h => (a.own j h).mono (fun b1 cs1 e => (k.oth b1 (fun e2 => by rw [e2, hb] at e; cases e; exact h8 rfl)).trans e)⟩
theorem Ar.congr {L' : Nat → List UInt8} (a : Ar V b vs L) (e : ∀ k, k < 40 → L k = L' k) : Ar V b vs L' := ⟨a.len, a.row, fun k h => by rw [← e k h]; exact a.own k h⟩
theorem Ar.cell (a : Ar V b vs L) (k : Nat) (hk : k < 40) : V.cell? ⟨b, k, none⟩ = some (vs.getD k (.slice none 0 0)) := by
  rw [cell_of_row V b _ _ _ (0, 0) a.row, List.getElem?_toArray, List.getD_eq_getElem?_getD, List.getElem?_eq_getElem (by rw [a.len]; exact hk)]
  rfl
theorem Ar.fz (a : Ar V b vs L) (k : Nat) : V.frozen? ⟨b, k, none⟩ = false := by simp [World.frozen?, a.row]
/-- A page is set. -/
theorem Ar.set (a : Ar V b vs L) (k : Nat) (hk : k < 40) (v : Value) (l : List UInt8) (hv : OwnBy V v l) : Ar (V.setCell ⟨b, k, none⟩ v) b (vs.set k v) (fun j => if j = k then l else L j) := by
  have ho : ∀ (b1 : Nat) (cs1 : Array Value), V.heap[b1]? = some (.cells cs1 5 (0, 0)) → (V.setCell ⟨b, k, none⟩ v).heap[b1]? = some (.cells cs1 5 (0, 0)) := fun b1 cs1 e => by
    rw [Below.heap_setCell]
    · exact e
    · intro e2
      rw [e2, a.row] at e
      cases e
  refine ⟨by simp [a.len], ?_, fun j hj => ?_⟩
  · rw [setCell_eq_setRow V b _ _ _ (0, 0) _ a.row, setRow_heap V b _ _ _ (0, 0) a.row]
    simp
  · by_cases e : j = k
    · subst e
      simp only [if_true]
      rw [getD_set_eq _ _ _ _ (by rw [a.len]; exact hk)]
      exact hv.mono ho
    · simp only [if_neg e]
      rw [getD_set_ne _ _ _ _ _ (fun e2 => e e2.symm)]
      exact (a.own j hj).mono ho
theorem Ar.load (a : Ar V b vs L) : (Instr.loadAt 34 (.pointer (some ⟨b, 0, none⟩))).run Tryd.prog V = .ok (.agg vs.toArray) V :=
  run_loadAt_mid V b 0 34 _ _ (range0 a.row) Tryd.underlying34 rfl (by rw [a.len]; exact ar_size)
theorem Ar.one (a : Ar V b vs L) : ∀ v ∈ vs, v.oneCell' = true := by
  intro v hv
  obtain ⟨k, hk, rfl⟩ := List.getElem_of_mem hv
  obtain ⟨ad, cap, e, _⟩ := a.own k (by rw [← a.len]; exact hk)
  rw [List.getD_eq_getElem?_getD, List.getElem?_eq_getElem hk] at e
  simp only [Option.getD_some] at e
  rw [e]
  rfl
/-- The other array becomes this one. -/
theorem Ar.copy (a : Ar V b vs L) {b' : Nat} {vs' : List Value} {L' : Nat → List UInt8} (a' : Ar V b' vs' L') : (Instr.storeAt 34 (.pointer (some ⟨b', 0, none⟩)) (.agg vs.toArray)).run Tryd.prog V = .ok () (V.setRow b' vs.toArray) ∧ Ar (V.setRow b' vs.toArray) b' vs L := by
  constructor
  · have := run_storeCells_at Tryd.prog b' 0 34 vs 0 vs'.toArray V a'.row (by rw [a.len, List.size_toArray, a'.len]; omega) a.one
    rw [Nat.add_zero, a.len] at this
    cases hq : Tryd.prog.info? 34 with
    | none => have := ar_size; simp [hq] at this
    | some q =>
      have hs : q.size = 40 := by have := ar_size; simpa [hq] using this
      simp [Instr.storeAt, Instr.sureAddr, storeVar, sizeOf, typeInfo, hq, Value.cells, hs, a.len, this, List.drop_eq_nil_of_le (show vs'.length ≤ 40 by rw [a'.len]; exact Nat.le_refl _)]
  · refine ⟨a.len, setRow_heap V b' _ _ _ (0, 0) a'.row, fun k h => (a.own k h).mono (fun b1 cs1 e => (setRow_other _ _ _ _ (fun e2 => ?_)).trans e)⟩
    rw [e2, a'.row] at e
    cases e
end
/-- Forty marks. -/
def tcC (g : Nat → Bool) : List Value := (List.range 40).map fun k => .bool (g k)
def Tc (W : World) (b : Nat) (g : Nat → Bool) : Prop := W.heap[b]? = some (.cells (tcC g).toArray 35 (0, 0))
theorem tc_start : (List.replicate 40 (Value.bool false)) = tcC (fun _ => false) := rfl
section
variable {V W : World} {b : Nat} {g : Nat → Bool}
theorem Tc.keep {lo : Nat} (a : Tc V b g) (hk : KeepC lo stT V W) : Tc W b g := hk.row a (by decide)
theorem Tc.turn (a : Tc V b g) {b' : Nat} (hne : b ≠ b') (k : Turn b' V W) : Tc W b g := (k.oth b hne).trans a
theorem Tc.cell (a : Tc V b g) (k : Nat) (hk : k < 40) : V.cell? ⟨b, k, none⟩ = some (.bool (g k)) := by
  rw [cell_of_row V b _ _ _ (0, 0) a, List.getElem?_toArray]
  simp [tcC, hk]
theorem Tc.fz (a : Tc V b g) (k : Nat) : V.frozen? ⟨b, k, none⟩ = false := by
  unfold Tc at a
  simp [World.frozen?, a]
theorem Tc.set (a : Tc V b g) (k : Nat) (hk : k < 40) (x : Bool) : Tc (V.setCell ⟨b, k, none⟩ (.bool x)) b (fun j => if j = k then x else g j) := by
  unfold Tc at a ⊢
  rw [setCell_eq_setRow V b _ _ _ (0, 0) _ a, setRow_heap V b _ _ _ (0, 0) a]
  congr 2
  rw [List.setIfInBounds_toArray]
  congr 1
  unfold tcC
  refine List.ext_getElem? (fun j => ?_)
  rw [List.getElem?_set]
  by_cases e : k = j
  · subst e
    simp [hk]
  · rw [if_neg e]
    simp only [List.getElem?_map]
    by_cases hj : j < 40
    · simp [List.getElem?_range hj, fun h : j = k => e h.symm]
      intro h; exact absurd h.symm e
    · rw [List.getElem?_eq_none (by simp; omega)]
      rfl
end
end Go.Proofs.YteffpglmgekkiaaDoor
