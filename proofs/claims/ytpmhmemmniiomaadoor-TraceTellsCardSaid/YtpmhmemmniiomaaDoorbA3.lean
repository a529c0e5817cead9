/- The functions of layer 41, ER. Conditions: none. -/
import Derived.Test.YtpmhmemmniiomaaDoorbA2
namespace Go.Proofs.YtpmhmemmniiomaaDoor
open Go Go.RowKit
set_option linter.unusedVariables false
set_option linter.unusedSimpArgs false
set_option maxRecDepth 20000
end Go.Proofs.YtpmhmemmniiomaaDoor
