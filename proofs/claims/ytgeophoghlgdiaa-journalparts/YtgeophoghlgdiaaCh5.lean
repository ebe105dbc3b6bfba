/-
  The contract of chart.eachUnder.
-/
import Derived.Test.YtgeophoghlgdiaaCh4
namespace Go.Proofs.Ytgeophoghlgdiaa
set_option linter.unusedVariables false
set_option linter.unusedSimpArgs false
set_option maxRecDepth 100000
open Go.RowKit Go.Lib

end Go.Proofs.Ytgeophoghlgdiaa
