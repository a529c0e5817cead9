/- The functions of layer 26, EY. Conditions: none. -/
import Derived.Test.YtepfcpffbabgmaaDoorbA4
namespace Go.Proofs.YtepfcpffbabgmaaDoor
open Go Go.RowKit
set_option linter.unusedVariables false
set_option linter.unusedSimpArgs false
set_option maxRecDepth 20000
end Go.Proofs.YtepfcpffbabgmaaDoor
