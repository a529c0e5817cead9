/- Layer 11: acts, rules. Conditions: none. -/
import Derived.Test.YtkjjioigbpkifaabM08M
namespace Go.Proofs.Ytkjjioigbpkifaa
set_option linter.unusedVariables false
set_option linter.unusedSimpArgs false
set_option synthInstance.maxSize 1000
open Go Go.RowKit
abbrev A3 := Int × Int × Int
abbrev KU (ports : Int) (a : A3) : Prop := (a.1 = 1 ∧ (0 ≤ a.2.1 ∧ a.2.1 < 4) ∧ (0 ≤ a.2.2 ∧ a.2.2 ≤ BC a.2.1)) ∨ (a.1 = 2 ∧ a.2.1 = 0 ∧ 0 ≤ a.2.2 ∧ a.2.2 < ports) ∨ (a.1 = 3 ∧ a.2.1 = 0 ∧ a.2.2 = 0)
theorem Kw (a : A3) (ports : Int) : FU a ports = decide (KU ports a) := by
  obtain ⟨k, f, v⟩ := a
  unfold FU
  simp only
  by_cases k1 : k = 1
  · subst k1
    rw [if_pos rfl, ← Bool.decide_and, ← Bool.decide_and, ← Bool.decide_and]
    exact decide_eq_decide.2 ⟨fun h => .inl ⟨rfl, ⟨h.1, by have := h.2.1; show f < 4; omega⟩, h.2.2⟩, fun h => by
      rcases h with ⟨_, h1, h2⟩ | ⟨h, _⟩ | ⟨h, _⟩
      · exact ⟨h1.1, by have := h1.2; simp only at this; omega, h2⟩
      · cases h
      · cases h⟩
  · rw [if_neg k1]
    by_cases k3 : k = 3
    · subst k3
      rw [if_pos rfl, ← Bool.decide_and]
      exact decide_eq_decide.2 ⟨fun h => .inr (.inr ⟨rfl, h.1, h.2⟩), fun h => by
        rcases h with ⟨h, _⟩ | ⟨h, _⟩ | ⟨_, h⟩
        · cases h
        · cases h
        · exact h⟩
    · rw [if_neg k3, ← Bool.decide_and, ← Bool.decide_and, ← Bool.decide_and]
      exact decide_eq_decide.2 ⟨fun h => .inr (.inl h), fun h => by
        rcases h with ⟨h, _⟩ | h | ⟨h, _⟩
        · exact absurd h k1
        · exact h
        · exact absurd h k3⟩
abbrev KD (ports : Int) (l : List A3) : Prop := l.length ≤ 16 ∧ ∀ a ∈ l, KU ports a
theorem JW {l : List A3} (hl : l.length ≤ 9223372036854775807) (ports : Int) : E8 l ports = some (decide (KD ports l)) := by
  unfold E8
  rw [Gv l hl _ (fun a => ¬ KU ports a) false (fun k hk => by
      unfold Es
      rw [if_pos (by omega), F2 (List.getElem?_eq_getElem hk), Option.bind_some, Kw]
      by_cases c : KU ports l[k]
      · rw [decide_eq_true c, if_neg (by decide), if_neg (fun h => h c)]
      · rw [decide_eq_false c, if_pos (by decide), if_pos c]) (by unfold Es; rw [if_neg (by omega)])]
  by_cases h : ∃ a ∈ l, ¬ KU ports a
  · rw [if_pos h, decide_eq_false (show ¬ KD ports l from fun h2 => by obtain ⟨a, ha, hn⟩ := h; exact hn (h2.2 a ha))]; rfl
  · rw [if_neg h]
    show some (decide ((l.length : Int) ≤ 16)) = _
    congr 1
    exact decide_eq_decide.2 ⟨fun h1 => ⟨by omega, fun a ha => Classical.byContradiction fun hn => h ⟨a, ha, hn⟩⟩, fun h1 => by have := h1.1; omega⟩
abbrev Rl := Int × Mt × List A3
abbrev KG (ports : Int) (x : Rl) : Prop := (0 ≤ x.1 ∧ x.1 ≤ 65535) ∧ Jo x.2.1 ∧ KD ports x.2.2
theorem JA {x : Rl} (hl : x.2.2.length ≤ 9223372036854775807) (ports : Int) : Fb x ports = some (decide (KG ports x)) := by
  unfold Fb
  rw [IG, JW hl]
  by_cases h1 : 0 ≤ x.1
  · rw [if_pos h1]
    by_cases h2 : x.1 ≤ 65535
    · rw [if_pos h2, Option.bind_some]
      by_cases h3 : Jo x.2.1
      · rw [decide_eq_true h3, if_pos rfl]
        show some (decide _) = _
        congr 1
        exact decide_eq_decide.2 ⟨fun h => ⟨⟨h1, h2⟩, h3, h⟩, fun h => h.2.2⟩
      · rw [decide_eq_false h3, if_neg (by decide), decide_eq_false (fun h => h3 h.2.1)]; rfl
    · rw [if_neg h2, decide_eq_false (fun h => by have := h.1.2; omega)]; rfl
  · rw [if_neg h1, decide_eq_false (fun h => h1 h.1.1)]; rfl
theorem KF (x y : Rl) : FO x y = decide (x.1 = y.1 ∧ x.2.1 = y.2.1) := by
  show (decide (x.1 = y.1) && decide (Me x.2.1 y.2.1)) = _
  rw [← Bool.decide_and]
  exact decide_eq_decide.2 ⟨fun h => ⟨h.1, IX.1 h.2⟩, fun h => ⟨h.1, IX.2 h.2⟩⟩
abbrev Ja : Int → Prop := fun n => (Lit.int .i64 n).wf = true
abbrev Lw : Rl → Prop := DI Ja (DI (DI Ja (DI (DI Ja (DI Ja (DI Ja Ja))) (DI Ja (DI Ja (DI Ja Ja))))) (Km (DI Ja (DI Ja Ja))))
end Go.Proofs.Ytkjjioigbpkifaa
