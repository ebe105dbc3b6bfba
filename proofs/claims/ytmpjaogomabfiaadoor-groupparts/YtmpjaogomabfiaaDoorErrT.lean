/-
  An error and its number: what daysame's Error tells of both.
-/
import Derived.Test.YtmpjaogomabfiaaDoorAs2
namespace Go.Proofs.YtmpjaogomabfiaaDoor
set_option linter.unusedVariables false
open Go.RowKit

/-- The variable for the type of errors is as it is laid. -/
def ErrT (w : World) : Prop := w.cell? ⟨0, 0, none⟩ = some (.iface 67 (.agg #[.pointer (some ⟨1, 25, none⟩)]))
theorem ErrT.lt {w : World} (h : ErrT w) : 0 < w.heap.size := World.block_lt_of_cell? _ _ h
theorem ErrT.below {w w' : World} {B : Nat} (h : ErrT w) (hb : Below B w w') (hB : w.heap.size ≤ B) : ErrT w' := by
  unfold ErrT
  rw [hb.cell (p := ⟨0, 0, none⟩) (Nat.lt_of_lt_of_le h.lt hB)]
  exact h

/-- An error and its number. -/
def ErrIs (E : Value) (c : Int) : Prop := (E = .nilIface ∧ c = 0) ∨ (E = .iface 35 (.int .i64 c) ∧ -9223372036854775808 ≤ c ∧ c ≤ 9223372036854775807)

theorem err_true {E : Value} {c : Int} (h : ErrIs E c) (w : World) (hg : ErrT w) :
    Calls Tryd.prog 4 #[E, .int .i64 c] w fun e w' => e = .returned (.bool true) ∧ Below w.heap.size w w' := by
  rcases h with ⟨rfl, rfl⟩ | ⟨rfl, h1, h2⟩
  · refine (error_nil 0 w).mono ?_
    rintro e w' ⟨rfl, rfl⟩
    exact ⟨rfl, Below.refl _ _⟩
  · refine (error_errno c c w h1 h2 hg).mono ?_
    rintro e w' ⟨rfl, hb⟩
    exact ⟨by simp, hb⟩

end Go.Proofs.YtmpjaogomabfiaaDoor
