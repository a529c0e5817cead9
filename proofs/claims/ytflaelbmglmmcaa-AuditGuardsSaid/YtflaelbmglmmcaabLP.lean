/- Plain mathematics: loops that count, searches. Conditions: none. -/
import Derived.Test.YtflaelbmglmmcaabML
namespace Go.Proofs.Ytflaelbmglmmcaa
set_option linter.unusedVariables false
set_option linter.unusedSimpArgs false
open Go Go.RowKit
theorem EI {σ ε : Type} {step : σ → Option (σ ⊕ ε)} {s s' : σ} (h : step s = some (.inl s')) : Bj step s = Bj step s' := by rw [GW, h]; rfl
theorem EG {σ ε : Type} {step : σ → Option (σ ⊕ ε)} {s : σ} {e : ε} (h : step s = some (.inr e)) : Bj step s = some e := by rw [GW, h]; rfl
end Go.Proofs.Ytflaelbmglmmcaa
