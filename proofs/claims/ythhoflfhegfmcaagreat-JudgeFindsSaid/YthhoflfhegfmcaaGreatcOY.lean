/- The bytes of a string as a row; an array of the call's own as a row. Conditions: none. -/
import Derived.Test.YthhoflfhegfmcaaGreatcOC
import Derived.Test.YthhoflfhegfmcaaGreatcOT
import Derived.Lib.ConvBytes
import Derived.Lib.UnsafeStr
namespace Go.Proofs.YthhoflfhegfmcaaGreat
set_option linter.unusedVariables false
set_option linter.unusedSimpArgs false
set_option linter.unusedSectionVars false
open Go Go.RowKit
section
variable {P : Program} {B : Bs} {M M' : Dg} {Z Z' Z1 : List It} {n : Nat} {ds : List Deferred} {F F' : List (Nat × Value)} {a : Act} {w w' : World}
variable {ops : Array Oper} {Q : Exit → Act → World → Prop} {rest : List Oper} {o : Oper}
variable {ty : TypeId} {pos : String} {aft : Array Edge}
end
end Go.Proofs.YthhoflfhegfmcaaGreat
