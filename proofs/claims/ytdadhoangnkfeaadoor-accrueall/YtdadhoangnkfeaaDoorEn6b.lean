/-
  The contract of slices.Insert of one line, where there is no room, and at the end.
-/
import Derived.Test.YtdadhoangnkfeaaDoorEn6
namespace Go.Proofs.YtdadhoangnkfeaaDoor
set_option linter.unusedVariables false
set_option linter.unusedSimpArgs false
set_option maxRecDepth 100000
open Go.RowKit Go.Lib

theorem zero3_length (k : Nat) : (Builtin.zeroCells (Value.agg #[.string ByteArray.empty, .string ByteArray.empty, .int .i64 0]).cells k).toList.length = k * 3 := by
  simp [Builtin.zeroCells, Value.cells]

end Go.Proofs.YtdadhoangnkfeaaDoor
