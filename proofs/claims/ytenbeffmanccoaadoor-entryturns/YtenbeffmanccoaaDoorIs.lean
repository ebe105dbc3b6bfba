/-
  The contracts of entry.IsAmount, entry.IsEntity, entry.IsPeriod.
-/
import Derived.Test.YtenbeffmanccoaaDoorProg
import Derived.WalkKit
import Derived.WalkSpells
import Derived.Below
namespace Go.Proofs.YtenbeffmanccoaaDoor
set_option linter.unusedVariables false
set_option linter.unusedSimpArgs false
set_option maxRecDepth 100000
open Go.RowKit Go.Lib

/-- Is a number from 1 to another one? -/
def upTo (n m : Int) : Bool := decide (1 ≤ n) && decide (n ≤ m)
theorem upTo_iff {n m : Int} : upTo n m = true ↔ 1 ≤ n ∧ n ≤ m := by simp [upTo]
/-- The greatest amount. -/
def mostA : Int := 1000000000000000
def isAmtB (n : Int) : Bool := decide (-1000000000000000 ≤ n) && decide (n ≤ 1000000000000000)
theorem isAmtB_iff {n : Int} : isAmtB n = true ↔ -mostA ≤ n ∧ n ≤ mostA := by
  simp [isAmtB, mostA]
theorem isAmount_any (n : Int) (w : World) :
    Calls Tryd.prog 26 #[.int .i64 n] w fun e w' => e = .returned (.bool (isAmtB n)) ∧ w' = w := by
  by_cases h : -1000000000000000 ≤ n
  · have : isAmtB n = decide (n ≤ 1000000000000000) := by simp [isAmtB, h]
    rw [this]
    go_enter Tryd.func26, Tryd.ntmps26
    go_wp2
    go_ret
    exact ⟨rfl, rfl⟩
  · have : isAmtB n = false := by simp [isAmtB, h]
    rw [this]
    go_enter Tryd.func26, Tryd.ntmps26
    go_wp2
    go_ret
    exact ⟨rfl, rfl⟩
end Go.Proofs.YtenbeffmanccoaaDoor
