/- The functions of layer 35, EV. Conditions: none. -/
import Derived.Test.YtemacefkdopgaaabA5
namespace Go.Proofs.Ytemacefkdopgaaa
open Go Go.RowKit
set_option linter.unusedVariables false
set_option linter.unusedSimpArgs false
set_option maxRecDepth 20000
end Go.Proofs.Ytemacefkdopgaaa
