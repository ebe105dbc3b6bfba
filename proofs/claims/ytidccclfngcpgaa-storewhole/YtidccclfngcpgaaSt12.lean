/-
  The contract of a store's writePages, where the disk does not fail.
-/
import Derived.Test.YtidccclfngcpgaaSt11
namespace Go.Proofs.Ytidccclfngcpgaa
set_option linter.unusedVariables false
set_option linter.unusedSimpArgs false
set_option maxRecDepth 100000
open Go.RowKit Go.Lib
/-- The disk when the pages below k are written. -/
def wpD (h : Hd) (P : List (Nat × List UInt8)) (D : Dk) : Nat → Dk
  | 0 => D
  | k + 1 => match look P k with
    | none => wpD h P D k
    | some l => (wpD h P D k).write (freeB k (h.whr.getD k 0)) (pgB l)
/-- Where they are. -/
def wpW (h : Hd) (P : List (Nat × List UInt8)) (ws : List UInt8) : Nat → List UInt8
  | 0 => ws
  | k + 1 => match look P k with
    | none => wpW h P ws k
    | some l => (wpW h P ws k).set k (UInt8.ofNat (freeB k (h.whr.getD k 0)))
theorem wpW_length (h : Hd) (P : List (Nat × List UInt8)) (ws : List UInt8) (k : Nat) : (wpW h P ws k).length = ws.length := by
  induction k with
  | zero => rfl
  | succ k ih =>
    unfold wpW
    split
    · exact ih
    · rw [List.length_set, ih]
theorem wpD_lim {h : Hd} {P : List (Nat × List UInt8)} {D : Dk} {j : Nat} (hd : D.lim j) (k : Nat) : (wpD h P D k).lim (j + k) := by
  induction k with
  | zero => exact hd
  | succ k ih =>
    unfold wpD
    split
    · exact ih.mono (Nat.le_succ _)
    · exact ⟨Nat.succ_le_succ ih.s, by have := ih.c; simp [Dk.write]; omega⟩
theorem wpD_fail (h : Hd) (P : List (Nat × List UInt8)) (D : Dk) (k : Nat) : (wpD h P D k).fail = D.fail := by
  induction k with
  | zero => rfl
  | succ k ih =>
    unfold wpD
    split
    · exact ih
    · exact ih
theorem freeB_lt (k : Nat) (x : UInt8) (h : k < 40) : freeB k x < 90 ∧ 2 ≤ freeB k x := by unfold freeB; split <;> omega
theorem free_u8 (k : Nat) (x : UInt8) (h : k < 40) : (UInt8.ofNat (freeB k x)).toNat = freeB k x := by
  rw [UInt8.toNat_ofNat']
  have := freeB_lt k x h
  omega
section
variable {w W : World} {p nb sb : Nat} {cv : Value} {n : Nat} {D : Dk} {s mb : Nat} {h : Hd} {P : List (Nat × List UInt8)} {lost : Bool}
/-- A head in a box that may turn. -/
def NxAt (w W : World) (nx : Nat) (y : Hd) : Prop := W.heap[nx]? = some (.cells y.cells.toArray 50 (0, 0)) ∧ w.heap.size ≤ nx ∧ y.ok
theorem NxAt.cw {nx : Nat} {y : Hd} (a : NxAt w W nx y) (k : Nat) (hk : k < 40) : W.cell? ⟨nx, 3 + k, none⟩ = some (.int .u8 ((y.whr.getD k 0).toNat : Int)) := by
  have hl := a.2.2.w
  rw [cell_of_row W nx _ _ _ (0, 0) a.1, List.getElem?_toArray]
  unfold Hd.cells
  rw [show 3 + k = ((k + 1) + 1) + 1 by omega, List.getElem?_cons_succ, List.getElem?_cons_succ, List.getElem?_cons_succ, byC_get _ _ (by omega)]
  simp [List.getD_eq_getElem?_getD, List.getElem?_eq_getElem (show k < y.whr.length by omega)]
theorem NxAt.fz {nx : Nat} {y : Hd} (a : NxAt w W nx y) (k : Nat) : W.frozen? ⟨nx, k, none⟩ = false := by simp [World.frozen?, a.1]
theorem NxAt.set {nx : Nat} {y : Hd} (a : NxAt w W nx y) (k : Nat) (hk : k < 40) (x : UInt8) : NxAt w (W.setCell ⟨nx, 3 + k, none⟩ (.int .u8 (x.toNat : Int))) nx { y with whr := y.whr.set k x } := by
  refine ⟨?_, a.2.1, ⟨a.2.2.b, a.2.2.v, by simp [a.2.2.w]⟩⟩
  rw [setCell_eq_setRow W nx _ _ _ (0, 0) _ a.1, setRow_heap W nx _ _ _ (0, 0) a.1]
  congr 2
  simp only [List.setIfInBounds_toArray, Hd.cells]
  rw [show 3 + k = ((k + 1) + 1) + 1 by omega, List.set_cons_succ, List.set_cons_succ, List.set_cons_succ]
  simp [byC, List.map_set]
theorem NxAt.keeps {nx : Nat} {y : Hd} (a : NxAt w W nx y) {U : World} (hk : Keeps w.heap.size dkT W U) : NxAt w U nx y := ⟨hk.row a.1 (by decide), a.2⟩
theorem NxAt.below {nx : Nat} {y : Hd} (a : NxAt w W nx y) {U : World} (hk : Below W.heap.size W U) : NxAt w U nx y := ⟨(hk.block _ (Array.getElem?_eq_some_iff.1 a.1).1).trans a.1, a.2⟩
theorem StAt.setNx (a : StAt w W p nb sb cv n D s mb h P lost) {nx : Nat} {y : Hd} (b : NxAt w W nx y) (o : Nat) (v : Value) : StAt w (W.setCell ⟨nx, o, none⟩ v) p nb sb cv n D s mb h P lost := by
  have hb := b.1
  have d := a.tn.1
  have ne : ∀ (j : Nat) (cs : Array Value) (t : TypeId), W.heap[j]? = some (.cells cs t (0, 0)) → t ≠ 50 → j ≠ nx := fun j cs t e ht e2 => by
    rw [e2, hb] at e
    cases e
    exact ht rfl
  have oth : ∀ j, j ≠ nx → (W.setCell ⟨nx, o, none⟩ v).heap[j]? = W.heap[j]? := fun j hj => Below.heap_setCell _ _ _ _ hj
  have hk : KeepC w.heap.size stT W (W.setCell ⟨nx, o, none⟩ v) := (KeepC.refl _ _ W).setCell hb (by decide) b.2.1 v
  obtain ⟨es, c, h1, h2⟩ := a.mp
  have hmn : mb ≠ nx := fun e => by rw [e, hb] at h1; cases h1
  refine ⟨⟨⟨(oth p (ne p _ _ d.box (by decide))).trans d.box, (oth nb (ne nb _ _ d.now (by decide))).trans d.now, (oth sb (ne sb _ _ d.safe (by decide))).trans d.safe, d.ne, d.lp, d.ln, d.ls, ?_, d.ok⟩, a.tn.2.trans (hk.below a.tn.2.size)⟩, (oth s (ne s _ _ a.box (by decide))).trans a.box, a.ls, a.lm, ⟨es, c, (oth mb hmn).trans h1, h2.keep hk⟩, a.ok⟩
  exact ownsRow_keep d.chg (fun b' cs e _ => oth b' (ne b' _ _ e (by decide)))
end
end Go.Proofs.Ytidccclfngcpgaa
