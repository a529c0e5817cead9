/- Ranges over a function: the statement and its rounds; a closure that hands out a list. Conditions: none. -/
import Derived.Test.YtbiekjhlijdjbaaGreatbOA
import Derived.Test.YtbiekjhlijdjbaaGreatbOM
import Derived.Test.YtbiekjhlijdjbaaGreatbOD
import Derived.RangeFuncRecord
set_option linter.unusedVariables false
set_option linter.unusedSimpArgs false
set_option linter.unusedSectionVars false
open Go Go.RowKit
namespace Go.Proofs.YtbiekjhlijdjbaaGreat
variable {rl : Option Nat}
section
variable {P : Program} {B : Bs} {M M' : Bi} {Z Z' Z1 : List It} {n : Nat} {ds : List Deferred} {F F' : List (Nat × Value)} {a : Act} {w w' : World}
variable {ops : Array Oper} {Q : Exit → Act → World → Prop} {rest : List Oper} {o : Oper}
variable {dst : Option Tmp} {ty : TypeId} {pos : String} {aft : Array Edge} {g : Option (Nat × Bool)} {v : Value}
variable {fn : Func} {R : Ending → World → Prop}
def gV {α : Type} (l : List α) : List (Int × α) := (l.zipIdx.map fun p => ((p.2 : Int),p.1)).reverse
def back {α : Type} (l : List α) : Option (List (Int × α)) := if l.length ≤ 1000000000 then some (gV l) else none
def eF {α : Type} (b : Nat) (v : Value) (r : Rp α) (l : List α) (w : World) : Prop := (∃ t,w.heap[b]? = some (.cells #[v] t (0,0))) ∧ Sl w any r v l
theorem eF.of {α : Type} {r : Rp α} {l : List α} {i b : Nat} (hW : Stw B M Z w) (hM : M[i]? = some (b,[v])) (hR : Mo B M Z r v l) : eF b v r l w := ⟨hW.at_ _ (BZ hM),hR w hW⟩
end
end Go.Proofs.YtbiekjhlijdjbaaGreat
