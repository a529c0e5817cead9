/- The functions of layer 11, DP. Conditions: none. -/
import Derived.Test.YtkjjioigbpkifaabA5
namespace Go.Proofs.Ytkjjioigbpkifaa
open Go Go.RowKit
set_option linter.unusedVariables false
set_option linter.unusedSimpArgs false
set_option maxRecDepth 20000
theorem Mj : Has Try.prog 13 := ⟨fun args w => An Try.func13 rfl (by decide) args w⟩
end Go.Proofs.Ytkjjioigbpkifaa
