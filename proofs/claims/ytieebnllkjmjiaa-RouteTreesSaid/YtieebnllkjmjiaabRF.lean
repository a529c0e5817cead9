/- Ranges over a function: the statement and its rounds; a closure that hands out a list. Conditions: none. -/
import Derived.Test.YtieebnllkjmjiaabOA
import Derived.Test.YtieebnllkjmjiaabOM
import Derived.Test.YtieebnllkjmjiaabOD
import Derived.RangeFuncRecord
namespace Go.Proofs.Ytieebnllkjmjiaa
set_option linter.unusedVariables false
set_option linter.unusedSimpArgs false
set_option linter.unusedSectionVars false
open Go Go.RowKit
variable {rl : Option Nat}
section
variable {P : Program} {B : Bs} {M M' : BE} {Z Z' Z1 : List It} {n : Nat} {ds : List Deferred} {F F' : List (Nat × Value)} {a : Act} {w w' : World}
variable {ops : Array Oper} {Q : Exit → Act → World → Prop} {rest : List Oper} {o : Oper}
variable {dst : Option Tmp} {ty : TypeId} {pos : String} {aft : Array Edge} {g : Option (Nat × Bool)} {v : Value}
variable {fn : Func} {R : Ending → World → Prop}
def SR {α : Type} (l : List α) : List (Int × α) := (l.zipIdx.map fun p => ((p.2 : Int), p.1)).reverse
def back {α : Type} (l : List α) : Option (List (Int × α)) := if l.length ≤ 1000000000 then some (SR l) else none
def RF {α : Type} (b : Nat) (v : Value) (r : Rp α) (l : List α) (w : World) : Prop := (∃ t, w.heap[b]? = some (.cells #[v] t (0, 0))) ∧ Sl w any r v l
theorem RF.of {α : Type} {r : Rp α} {l : List α} {i b : Nat} (hW : Stw B M Z w) (hM : M[i]? = some (b, [v])) (hR : CE B M Z r v l) : RF b v r l w := ⟨hW.at_ _ (BX hM), hR w hW⟩
end
end Go.Proofs.Ytieebnllkjmjiaa
