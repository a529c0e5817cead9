/- Loops whose rounds are counted. Conditions: none. -/
import Derived.Test.YtbiekjhlijdjbaaGreatbW
set_option linter.unusedVariables false
namespace Go.Proofs.YtbiekjhlijdjbaaGreat
open Go
section
variable {P : Program} {Q : Exit → Act → World → Prop} {a : Act} {w : World} {rl : Option Nat}
def VG (rl : Option Nat) (P : Program) (c : Code) (Q : Exit → Act → World → Prop) : Nat → Act → World → Prop
  | 0,_,_ => False
  | n + 1,a,w => c.wr rl P (Exit.then (VG rl P c Q n) Q) a w
theorem RV {c : Code} (m : Nat) (h : VG rl P c Q m a w) : (Code.loop c).wr rl P Q a w :=
  Io (fun n a w => VG rl P c Q n a w) m h fun n a w h => by
    cases n with
    | zero => exact h.elim
    | succ n =>
      refine KD (fun e a' w' he => ?_) (show c.wr rl P (Exit.then (VG rl P c Q n) Q) a w from h)
      cases e <;> first | exact he | exact ⟨n,Nat.lt_succ_self n,he⟩
end
end Go.Proofs.YtbiekjhlijdjbaaGreat
