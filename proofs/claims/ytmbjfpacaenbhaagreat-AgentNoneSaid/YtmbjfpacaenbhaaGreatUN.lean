/- Loops whose rounds are counted. Conditions: none. -/
import Derived.Test.YtmbjfpacaenbhaaGreatW
namespace Go.Proofs.YtmbjfpacaenbhaaGreat
set_option linter.unusedVariables false
open Go
section
variable {P : Program} {Q : Exit → Act → World → Prop} {a : Act} {w : World} {rl : Option Nat}
/-- So many rounds of a loop, no more. -/
def rds (rl : Option Nat) (P : Program) (c : Code) (Q : Exit → Act → World → Prop) : Nat → Act → World → Prop
  | 0, _, _ => False
  | n + 1, a, w => c.wr rl P (Exit.then (rds rl P c Q n) Q) a w
theorem wr_rounds {c : Code} (m : Nat) (h : rds rl P c Q m a w) : (Code.loop c).wr rl P Q a w :=
  wr_loop_ghost (fun n a w => rds rl P c Q n a w) m h fun n a w h => by
    cases n with
    | zero => exact h.elim
    | succ n =>
      refine wr_mono (fun e a' w' he => ?_) (show c.wr rl P (Exit.then (rds rl P c Q n) Q) a w from h)
      cases e <;> first | exact he | exact ⟨n, Nat.lt_succ_self n, he⟩
theorem rds_s {c : Code} {n : Nat} (h : c.wr rl P (Exit.then (rds rl P c Q n) Q) a w) : rds rl P c Q (n + 1) a w := h
end
end Go.Proofs.YtmbjfpacaenbhaaGreat
