/- The functions of layer 11, En. Conditions: none. -/
import Derived.Test.YtkjjioigbpkifaaeA6
namespace Go.Proofs.Ytkjjioigbpkifaa
open Go Go.RowKit
set_option linter.unusedVariables false
set_option linter.unusedSimpArgs false
set_option maxRecDepth 20000
end Go.Proofs.Ytkjjioigbpkifaa
