/-
  The contract of chart.eachUnder.
-/
import Derived.Test.YtffekgndlhleiaaDoorCh4
namespace Go.Proofs.YtffekgndlhleiaaDoor
set_option linter.unusedVariables false
set_option linter.unusedSimpArgs false
set_option maxRecDepth 100000
open Go.RowKit Go.Lib

end Go.Proofs.YtffekgndlhleiaaDoor
