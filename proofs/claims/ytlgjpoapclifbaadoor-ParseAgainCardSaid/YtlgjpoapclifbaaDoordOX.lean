/- copy into a row of one's own, or a part of it. Conditions: none. -/
import Derived.Test.YtlgjpoapclifbaaDoordOC
namespace Go.Proofs.YtlgjpoapclifbaaDoor
set_option linter.unusedVariables false
set_option linter.unusedSimpArgs false
set_option linter.unusedSectionVars false
open Go Go.RowKit
section
variable {P : Program} {B : Bs} {M M' : Eo} {Z Z' Z1 : List It} {n : Nat} {ds : List Deferred} {F F' : List (Nat × Value)} {a : Act} {w w' : World}
variable {ops : Array Oper} {Q : Exit → Act → World → Prop} {rest : List Oper} {o : Oper}
variable {ty : TypeId} {pos : String} {aft : Array Edge}
variable {α : Type} {r : Rp α} {l l1 l2 : List α} {v u dv : Value} {t t2 e by_ : Nat}
variable {M1 : Eo} {g : Option (Nat × Bool)} {dst : Option Tmp} {x : α} {i : Int}
end
end Go.Proofs.YtlgjpoapclifbaaDoor
