/- Equality of structs. Conditions: none. -/
import Derived.Test.YtlgjpoapclifbaaDoordO4
namespace Go.Proofs.YtlgjpoapclifbaaDoor
set_option linter.unusedVariables false
set_option linter.unusedSimpArgs false
open Go Go.RowKit
section
variable {P : Program}
end
end Go.Proofs.YtlgjpoapclifbaaDoor
