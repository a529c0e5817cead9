/- The functions of layer 42, EK. Conditions: none. -/
import Derived.Test.YtflaelbmglmmcaacA3
namespace Go.Proofs.Ytflaelbmglmmcaa
open Go Go.RowKit
set_option linter.unusedVariables false
set_option linter.unusedSimpArgs false
set_option maxRecDepth 20000
theorem H7 : Has Try.prog 7 := ⟨fun args w => Aj Try.func7 rfl (by decide) args w⟩
end Go.Proofs.Ytflaelbmglmmcaa
