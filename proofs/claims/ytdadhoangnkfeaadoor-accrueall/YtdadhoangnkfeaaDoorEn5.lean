/-
  The contract of slices.BinarySearchFunc over lines in order.
-/
import Derived.Test.YtdadhoangnkfeaaDoorEn4
namespace Go.Proofs.YtdadhoangnkfeaaDoor
set_option linter.unusedVariables false
set_option linter.unusedSimpArgs false
set_option maxRecDepth 100000
open Go.RowKit Go.Lib

/-- Whether a line of its account and currency is there. -/
def hasL (x : Ln) (l : List Ln) : Bool := decide (posL x l < l.length) && lnEq (l.getD (posL x l) ln0) x

end Go.Proofs.YtdadhoangnkfeaaDoor
