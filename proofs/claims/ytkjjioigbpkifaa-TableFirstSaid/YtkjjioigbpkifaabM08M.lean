/- Layer 11: meetings, who is within. Conditions: none. -/
import Derived.Test.YtkjjioigbpkifaabM08
namespace Go.Proofs.Ytkjjioigbpkifaa
set_option linter.unusedVariables false
set_option linter.unusedSimpArgs false
set_option synthInstance.maxSize 1000
open Go Go.RowKit
abbrev Me (m n : Mt) : Prop := m.1 = n.1 ∧ m.2.1.1 = n.2.1.1 ∧ m.2.1.2.1 = n.2.1.2.1 ∧ m.2.1.2.2.1 = n.2.1.2.2.1 ∧ m.2.1.2.2.2 = n.2.1.2.2.2 ∧ m.2.2.1 = n.2.2.1 ∧ m.2.2.2.1 = n.2.2.2.1 ∧ m.2.2.2.2.1 = n.2.2.2.2.1 ∧ m.2.2.2.2.2 = n.2.2.2.2.2
theorem IX {m n : Mt} : Me m n ↔ m = n := by
  obtain ⟨a, ⟨b, c, d, e⟩, ⟨f, g, i, j⟩⟩ := m
  obtain ⟨a', ⟨b', c', d', e'⟩, ⟨f', g', i', j'⟩⟩ := n
  constructor
  · rintro ⟨h1, h2, h3, h4, h5, h6, h7, h8, h9⟩
    simp only at *
    subst h1 h2 h3 h4 h5 h6 h7 h8 h9; rfl
  · rintro h; cases h; exact ⟨rfl, rfl, rfl, rfl, rfl, rfl, rfl, rfl, rfl⟩
def lo (x y : Int) (i : Nat) : Int := ((x.toNat ||| y.toNat % 2 ^ i : Nat) : Int)
end Go.Proofs.Ytkjjioigbpkifaa
