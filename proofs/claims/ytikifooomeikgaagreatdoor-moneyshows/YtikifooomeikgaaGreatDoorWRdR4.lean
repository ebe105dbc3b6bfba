/-
  The contract of dayref1.Read, any text. Written by genrdr.py.
-/
import Derived.Test.YtikifooomeikgaaGreatDoorWRdR
import Derived.Test.YtikifooomeikgaaGreatDoorWRdR2
import Derived.Test.YtikifooomeikgaaGreatDoorWRdR3
namespace Go.Proofs.YtikifooomeikgaaGreatDoor
set_option linter.unusedVariables false
set_option linter.unusedSimpArgs false
set_option maxRecDepth 100000
open Go.RowKit Big Go.Lib

theorem refRead_any (l : List UInt8) (p : Nat) (w : World) (hp : p ≤ 6) (hl : l.length ≤ 140737488351232) :
    Calls Tryz.prog 7 #[.string (txt l), .int .i64 p] w fun e w' => e = rdOut (rdC l p) ∧ w.grownBy w' none := by
  cases l with
  | nil => exact refRead_nil [] [] p w hp hl rfl rfl rfl rfl
  | cons c r =>
    by_cases hc : c = 45
    · subst hc
      exact refRead_neg (45 :: r) r p w hp hl rfl rfl rfl (by simp) rfl
    · have h1 : hasPrefix (c :: r) [45] = false := by
        have h9 : ((45 : UInt8) == c) = false := by rw [beq_eq_false_iff_ne]; exact fun e => hc e.symm
        show (((45 : UInt8) == c) && ([] : List UInt8).isPrefixOf r) = false
        rw [h9]; rfl
      have h2 : trimPrefix (c :: r) [45] = c :: r := by unfold trimPrefix; rw [h1]; rfl
      exact refRead_pos (c :: r) (c :: r) p w hp hl rfl h2 h1 (by simp) hc

theorem refRead_no (l : List UInt8) (p : Int) (w : World) (hp : p < 0 ∨ 6 < p) :
    Calls Tryz.prog 7 #[.string (txt l), .int .i64 p] w fun e w' => e = rdOut (0, 1) ∧ w' = w := by
  have h9 : ¬ (0 ≤ p ∧ p ≤ 6) := by omega
  generalize txt l = x
  by_cases h0 : p < 0
  · go_enter Tryz.func7, Tryz.ntmps7
    go_wp2
    go_ret2
    exact ⟨rfl, rfl⟩
  · have h6 : ¬ p ≤ 6 := by omega
    go_enter Tryz.func7, Tryz.ntmps7
    go_wp2
    go_ret2
    exact ⟨rfl, rfl⟩
end Go.Proofs.YtikifooomeikgaaGreatDoor
