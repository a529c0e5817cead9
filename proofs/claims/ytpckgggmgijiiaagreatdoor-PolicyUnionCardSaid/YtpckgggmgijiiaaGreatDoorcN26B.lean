/- Layer 27: how great, how deep, which may be. Conditions: none. -/
import Derived.Test.YtpckgggmgijiiaaGreatDoorcN26
namespace Go.Proofs.YtpckgggmgijiiaaGreatDoor
set_option linter.unusedVariables false
set_option linter.unusedSimpArgs false
open Go Go.RowKit
def th : Tr34 → Tr24
  | .mk k f v l => .mk k f v (l.map th)
theorem WF (t : Tr34) : (th t).un = (t.un.1, t.un.2.1, t.un.2.2.1, t.un.2.2.2.map th) := by cases t; rw [th]; rfl
theorem WV (t : Tr34) : th t = Tr24.of (t.un.1, t.un.2.1, t.un.2.2.1, t.un.2.2.2.map th) := by cases t; rw [th]; rfl
theorem V7 (f : Int) : 0 ≤ EY f ∧ EY f ≤ 255 := by
  unfold EY Mu
  split
  · omega
  · split
    · omega
    · split <;> omega
abbrev LX (k f v : Int) (n : Nat) : Prop := 1 ≤ k ∧ k ≤ 6 ∧ (k ≠ 3 → f = 0 ∧ v = 0) ∧ (k = 3 → 0 ≤ f ∧ f ≤ 5 ∧ 0 ≤ v ∧ v ≤ EY f) ∧ (k ≤ 3 → n = 0) ∧ (k = 4 → n = 1) ∧ (5 ≤ k → 2 ≤ n ∧ n ≤ 8)
def Jk : Tr34 → Bool
  | .mk k f v l => decide (LX k f v l.length) && (l.map Jk).all id
theorem Rc (t : Tr34) : Jk t = true ↔ LX t.un.1 t.un.2.1 t.un.2.2.1 t.un.2.2.2.length ∧ ∀ x ∈ t.un.2.2.2, Jk x = true := by
  cases t with
  | mk k f v l =>
    rw [Jk, Bool.and_eq_true, decide_eq_true_eq, List.all_map, List.all_eq_true]; rfl
theorem R7 (t : Tr24) : Jk (mi t) = true ↔ LX t.un.1 t.un.2.1 t.un.2.2.1 t.un.2.2.2.length ∧ ∀ x ∈ t.un.2.2.2, Jk (mi x) = true := by
  rw [Rc, QZ]
  show LX _ _ _ (t.un.2.2.2.map mi).length ∧ _ ↔ _
  rw [List.length_map]
  refine and_congr_right fun _ => ⟨fun h x hx => h _ (List.mem_map.2 ⟨x, hx, rfl⟩), fun h x hx => ?_⟩
  obtain ⟨y, hy, rfl⟩ := List.mem_map.1 hx
  exact h y hy
end Go.Proofs.YtpckgggmgijiiaaGreatDoor
