/-
  Rows that are read, literal weights.
-/
import Derived.Test.YtojmnfckijgofaaShr5
namespace Go.Proofs.Ytojmnfckijgofaa
set_option linter.unusedVariables false
set_option linter.unusedSimpArgs false
open Go.RowKit Go.Lib Math

theorem nrow_get {w : World} {g n : Nat} {f : Nat → Int} (h : NRow w g ((List.range n).map f)) {i : Nat} (hi : i < n) : w.cell? ⟨g, i, none⟩ = some (.int .i64 (f i)) := by
  have := h.cell (i := i) (by simp; exact hi)
  rw [show ((List.range n).map f).getD i 0 = f i by simp [List.getD_eq_getElem?_getD, hi]] at this
  exact this
theorem isW_lit (w : World) (l : List Int) : IsW (w.alloc (.cells (l.map (Value.int .i64)).toArray 3)) (some ⟨w.heap.size, 0, none⟩) l l.length :=
  ⟨Nat.le_refl _, .inr ⟨w.heap.size, 0, rfl, by simp, fun k hk => by
    rw [Nat.zero_add]
    exact NRow.cell (w := w.alloc _) (g := w.heap.size) (r := l) (by unfold NRow World.alloc; simp only [Array.getElem?_push_size]) hk⟩⟩
theorem drew_twice (w : World) (a b : Nat) : (w.drewN a).drewN b = w.drewN (a + b) := by simp [World.drewN, Nat.add_assoc]
theorem drewN_below (w : World) (n : Nat) : Below w.heap.size w (w.drewN n) := ⟨rfl, rfl, rfl, Nat.le_refl _, fun _ _ => rfl⟩
end Go.Proofs.Ytojmnfckijgofaa
