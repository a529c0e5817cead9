/- Twins with fuel of EF functions: what a twin answers, the function answers. Conditions: none. -/
import Derived.Test.YtlgjpoapclifbaaDoordEV
namespace Go.Proofs.YtlgjpoapclifbaaDoor
open Go Go.RowKit
set_option linter.unusedVariables false
set_option linter.unusedSimpArgs false
set_option maxRecDepth 20000
set_option maxHeartbeats 1600000
end Go.Proofs.YtlgjpoapclifbaaDoor
