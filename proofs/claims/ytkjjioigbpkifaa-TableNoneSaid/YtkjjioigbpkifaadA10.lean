/- The functions of layer 11, D5. Conditions: none. -/
import Derived.Test.YtkjjioigbpkifaadA9
namespace Go.Proofs.Ytkjjioigbpkifaa
open Go Go.RowKit
set_option linter.unusedVariables false
set_option linter.unusedSimpArgs false
set_option maxRecDepth 20000
set_option synthInstance.maxSize 1000
end Go.Proofs.Ytkjjioigbpkifaa
