/-
  The contracts of the writer's fail, within, small, amount, text, all.
-/
import Derived.Test.YtheabcdncildiaaDoorFr1
namespace Go.Proofs.YtheabcdncildiaaDoor
set_option linter.unusedVariables false
set_option linter.unusedSimpArgs false
set_option maxRecDepth 100000
open Go.RowKit Go.Lib

/-- The first of two that is not 0. -/
def fo (a b : Int) : Int := if a = 0 then b else a
theorem fo_zero (a : Int) : fo a 0 = a := by unfold fo; split <;> omega
theorem fo_eq_zero {a b : Int} : fo a b = 0 ↔ a = 0 ∧ b = 0 := by unfold fo; split <;> omega

/-- What is wrong with a number that has bounds. -/
def outB (lo hi n : Int) : Int := if lo ≤ n ∧ n ≤ hi then 0 else 1

/-- What is wrong with a text. -/
def longB (s : ByteArray) : Int := if 24 < s.size then 4 else 0
/-- What is written of a text. -/
def txtW (s : ByteArray) : List UInt8 := if 24 < s.size then [] else textB s
theorem txtW_length (s : ByteArray) : (txtW s).length ≤ 34 := by
  unfold txtW
  split
  · simp
  · exact textB_length (by omega)

end Go.Proofs.YtheabcdncildiaaDoor
