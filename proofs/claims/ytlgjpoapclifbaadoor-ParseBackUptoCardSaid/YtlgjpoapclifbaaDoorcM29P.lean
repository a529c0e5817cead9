/- Layer 29: the two parsers. Conditions: none. -/
import Derived.Test.YtlgjpoapclifbaaDoorcM29
import Derived.Test.YtlgjpoapclifbaaDoorcM29T
namespace Go.Proofs.YtlgjpoapclifbaaDoor
set_option linter.unusedVariables false
set_option linter.unusedSimpArgs false
open Go Go.RowKit
abbrev PC := Option ((Tr25 × Ps) ⊕ Pn)
abbrev PD := Option ((Tr28 × Ps) ⊕ Pn)
section conds
variable {l : List Hj} (hl : Tks l)
include hl
end conds
end Go.Proofs.YtlgjpoapclifbaaDoor
