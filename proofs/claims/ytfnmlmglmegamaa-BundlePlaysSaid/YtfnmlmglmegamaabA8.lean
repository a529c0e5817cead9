/- The functions of layer 12, FK. Conditions: none. -/
import Derived.Test.YtfnmlmglmegamaabA7
namespace Go.Proofs.Ytfnmlmglmegamaa
open Go Go.RowKit
set_option linter.unusedVariables false
set_option linter.unusedSimpArgs false
set_option maxRecDepth 20000
end Go.Proofs.Ytfnmlmglmegamaa
