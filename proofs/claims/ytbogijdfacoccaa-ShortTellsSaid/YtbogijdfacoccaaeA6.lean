/- The functions of layer 19, Gn. Conditions: none. -/
import Derived.Test.YtbogijdfacoccaaeA5
namespace Go.Proofs.Ytbogijdfacoccaa
open Go Go.RowKit
set_option linter.unusedVariables false
set_option linter.unusedSimpArgs false
set_option maxRecDepth 20000
end Go.Proofs.Ytbogijdfacoccaa
