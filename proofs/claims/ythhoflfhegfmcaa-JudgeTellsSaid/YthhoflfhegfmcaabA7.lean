/- The functions of layer 25, HU. Conditions: none. -/
import Derived.Test.YthhoflfhegfmcaabA6
namespace Go.Proofs.Ythhoflfhegfmcaa
open Go Go.RowKit
set_option linter.unusedVariables false
set_option linter.unusedSimpArgs false
set_option maxRecDepth 20000
set_option maxHeartbeats 1600000
end Go.Proofs.Ythhoflfhegfmcaa
