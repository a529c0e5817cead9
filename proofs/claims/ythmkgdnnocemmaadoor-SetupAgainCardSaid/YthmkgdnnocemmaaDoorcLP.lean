/- Plain mathematics: loops that count, searches. Conditions: none. -/
import Derived.Test.YthmkgdnnocemmaaDoorcML
namespace Go.Proofs.YthmkgdnnocemmaaDoor
set_option linter.unusedVariables false
set_option linter.unusedSimpArgs false
open Go Go.RowKit
theorem E4 {σ ε : Type} {step : σ → Option (σ ⊕ ε)} {s s' : σ} (h : step s = some (.inl s')) : BB step s = BB step s' := by rw [Jb, h]; rfl
theorem Cd {σ ε : Type} {step : σ → Option (σ ⊕ ε)} {s : σ} {e : ε} (h : step s = some (.inr e)) : BB step s = some e := by rw [Jb, h]; rfl
end Go.Proofs.YthmkgdnnocemmaaDoor
