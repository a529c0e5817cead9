/- A region in many orders: what is still is taken first; of steps that turn the world, and are ready side by side, any may go first. Conditions: none. -/
import Derived.Test.YtkmacelfldeenaaDoorcOT
import Derived.Scope
namespace Go.Proofs.YtkmacelfldeenaaDoor
set_option linter.unusedVariables false
set_option linter.unusedSimpArgs false
open Go Go.RowKit
variable {rl : Option Nat}
inductive PT where
  | done : PT
  | st (k : Nat) (t : PT) : PT
  | alt (k : Nat) (t : PT) (m : PT) : PT
  | stop : PT
section
variable {P : Program} {ops : Array Oper} {md : Region.Mode} {C : Array Bool → World → Prop} {Q' : Exit → Act → World → Prop}
end
section
variable {P : Program} {B : Bs} {M : Bx} {Z : List It} {n : Nat} {ds : List Deferred} {F : List (Nat × Value)} {a : Act} {w : World} {ops : Array Oper} {Q : Exit → Act → World → Prop} {C : Array Bool → World → Prop} {t m : PT} {o : Oper} {L : Array Bool} {R : List Nat}
variable {N N2 N3 : List (Option Nat × Nat × List Value)} {NZ NZ2 NZ3 : List (Option Nat × It)}
end
end Go.Proofs.YtkmacelfldeenaaDoor
