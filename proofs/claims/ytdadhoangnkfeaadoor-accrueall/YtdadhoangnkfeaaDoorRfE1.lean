/-
  The contracts of dayref1.Amount, Few, Ref: they say what the program's own say.
-/
import Derived.Test.YtdadhoangnkfeaaDoorEn9
namespace Go.Proofs.YtdadhoangnkfeaaDoor
set_option linter.unusedVariables false
set_option linter.unusedSimpArgs false
set_option maxRecDepth 100000
open Go.RowKit Go.Lib

theorem en_get (s : ByteArray) (k : Nat) (h : k < s.size) : s.get! k = s[k]'h := by
  show s.data[k]! = s.data[k]'h
  exact getElem!_pos s.data k h

end Go.Proofs.YtdadhoangnkfeaaDoor
