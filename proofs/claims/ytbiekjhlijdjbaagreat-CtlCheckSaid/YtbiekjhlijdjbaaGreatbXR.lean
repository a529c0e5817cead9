/- The chapter's example, a run that is computed. Conditions: none. -/
import Derived.Test.YtbiekjhlijdjbaaGreatbXT
set_option linter.unusedVariables false
open Go Go.RowKit
namespace Go.Proofs.YtbiekjhlijdjbaaGreat
set_option maxRecDepth 100000
theorem fK : dH true (VZ Tryz.prog eT [] d9 gU 17 5 [] ⟨[],[],[],0⟩) = true := by kernel_rfl
theorem dS (w0 : World) : Calls Tryz.prog 5 #[] w0 fun en w' => en = .returned (.bool true) ∧ Below w0.heap.size w0 w' :=
  XN (us := []) (g := fun _ => none) bX bD fO w0 Xe fK rfl
end Go.Proofs.YtbiekjhlijdjbaaGreat
