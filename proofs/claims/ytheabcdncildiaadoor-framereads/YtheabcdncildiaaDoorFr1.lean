/-
  The contracts of the writer's number, fail, within, small, amount, text, all.
-/
import Derived.Test.YtheabcdncildiaaDoorFrL
namespace Go.Proofs.YtheabcdncildiaaDoor
set_option linter.unusedVariables false
set_option linter.unusedSimpArgs false
set_option maxRecDepth 100000
open Go.RowKit Go.Lib

end Go.Proofs.YtheabcdncildiaaDoor
