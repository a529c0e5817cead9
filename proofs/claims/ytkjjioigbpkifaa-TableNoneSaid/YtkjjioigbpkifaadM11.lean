/- Layer 11: tables, who is found. Conditions: none. -/
import Derived.Test.YtkjjioigbpkifaadM10
import Derived.Test.YtkjjioigbpkifaadEV
namespace Go.Proofs.Ytkjjioigbpkifaa
set_option linter.unusedVariables false
set_option linter.unusedSimpArgs false
set_option synthInstance.maxSize 1000
open Go Go.RowKit
abbrev kq (a b : Rl) : Prop := a.1 = b.1 ∧ a.2.1 = b.2.1
abbrev Bf (a b : Rl) : Prop := b.1 ≤ a.1 ∧ ¬ kq a b
abbrev I0 (ports room : Int) (t : List Rl) : Prop := (t.length : Int) ≤ room ∧ (∀ x ∈ t, Hu ports x) ∧ t.Pairwise Bf
noncomputable instance (ports room : Int) (t : List Rl) : Decidable (I0 ports room t) := Classical.propDecidable _
theorem LG (x y : Rl) : GL x y = decide (kq x y) := Ku x y
theorem KR {t : List Rl} : t.Pairwise Bf ↔ ∀ (i j : Nat) (a b : Rl), i < j → t[i]? = some a → t[j]? = some b → Bf a b := by
  rw [List.pairwise_iff_getElem]
  constructor
  · intro h i j a b hij ha hb
    obtain ⟨hi, rfl⟩ := List.getElem?_eq_some_iff.1 ha
    obtain ⟨hj, rfl⟩ := List.getElem?_eq_some_iff.1 hb
    exact h i j hi hj hij
  · intro h i j hi hj hij
    exact h i j _ _ hij (List.getElem?_eq_getElem hi) (List.getElem?_eq_getElem hj)
theorem Lr {t : List Rl} (hl : t.length ≤ 1000) (hA : ∀ x ∈ t, x.2.2.length ≤ 1000) (ports room : Int) : Fg t ports room = some (decide (I0 ports room t)) := by
  have hd : DecidablePred fun i : Nat => ∃ x, t[i]? = some x ∧ (¬ Hu ports x ∨ ∃ k y, k < i ∧ t[k]? = some y ∧ (y.1 < x.1 ∨ kq y x)) := fun _ => Classical.propDecidable _
  unfold Fg
  rw [Fj t.length (DU t ports) (fun i : Nat => ∃ x, t[i]? = some x ∧ (¬ Hu ports x ∨ ∃ k y, k < i ∧ t[k]? = some y ∧ (y.1 < x.1 ∨ kq y x))) false (fun i hi => by
    have hx := CE (List.getElem?_eq_getElem hi)
    have hm := hA _ (List.getElem_mem hi)
    rw [DU, if_pos (by omega), hx, Option.bind_some, K7 (by omega), Option.bind_some, Cy (by omega)]
    by_cases c : Hu ports t[i]
    · have hd2 : DecidablePred fun k : Nat => ∃ y, t[k]? = some y ∧ (y.1 < t[i].1 ∨ kq y t[i]) := fun _ => Classical.propDecidable _
      rw [decide_eq_true c, if_neg (by decide), Fj i (DT t (i : Int)) (fun k : Nat => ∃ y, t[k]? = some y ∧ (y.1 < t[i].1 ∨ kq y t[i])) (.inr (.inr false)) (fun k hk => by
        have hk2 : k < t.length := by omega
        have hy := CE (List.getElem?_eq_getElem hk2)
        rw [DT, if_pos (by omega), hy, hx, Option.bind_some, Option.bind_some, Cy (by omega)]
        have e : (∃ y, t[k]? = some y ∧ (y.1 < t[i].1 ∨ kq y t[i])) ↔ (t[k].1 < t[i].1 ∨ kq t[k] t[i]) := by
          rw [List.getElem?_eq_getElem hk2]
          exact ⟨fun ⟨y, h1, h2⟩ => by cases h1; exact h2, fun h => ⟨_, rfl, h⟩⟩
        by_cases c1 : t[k].1 < t[i].1
        · rw [if_pos c1, Option.bind_some, if_pos rfl, if_pos (e.2 (.inl c1))]
        · rw [if_neg c1, Option.bind_some, Option.bind_some, LG, Option.bind_some]
          by_cases c2 : kq t[k] t[i]
          · rw [decide_eq_true c2, if_pos rfl, if_pos (e.2 (.inr c2))]
          · rw [decide_eq_false c2, if_neg (by decide), if_neg (fun h => (e.1 h).elim c1 c2)]; rfl) (by rw [DT, if_neg (by omega)])]
      by_cases h : ∃ k, k < i ∧ ∃ y, t[k]? = some y ∧ (y.1 < t[i].1 ∨ kq y t[i])
      · obtain ⟨k, hk, y, h1, h2⟩ := h
        rw [if_pos ⟨k, hk, y, h1, h2⟩, if_pos ⟨t[i], List.getElem?_eq_getElem hi, .inr ⟨k, y, hk, h1, h2⟩⟩]; rfl
      · rw [if_neg h, if_neg (fun ⟨x, h1, h2⟩ => by
          rw [List.getElem?_eq_getElem hi] at h1
          cases h1
          rcases h2 with h2 | ⟨k, y, hk, h3, h4⟩
          · exact h2 c
          · exact h ⟨k, hk, y, h3, h4⟩)]; rfl
    · rw [decide_eq_false c, if_pos (by decide), if_pos ⟨t[i], List.getElem?_eq_getElem hi, .inl c⟩]; rfl) (by rw [DU, if_neg (by omega)])]
  by_cases h : ∃ i, i < t.length ∧ ∃ x, t[i]? = some x ∧ (¬ Hu ports x ∨ ∃ k y, k < i ∧ t[k]? = some y ∧ (y.1 < x.1 ∨ kq y x))
  · rw [if_pos h]
    show some false = _
    rw [decide_eq_false (fun hc => by
      obtain ⟨i, hi, x, h1, h2⟩ := h
      rcases h2 with h2 | ⟨k, y, hk, h3, h4⟩
      · exact h2 (hc.2.1 x (List.mem_of_getElem? h1))
      · have := KR.1 hc.2.2 k i y x hk h3 h1
        rcases h4 with h4 | h4
        · omega
        · exact this.2 h4)]
  · rw [if_neg h]
    show some (decide ((t.length : Int) ≤ room)) = _
    congr 1
    refine decide_eq_decide.2 ⟨fun h1 => ⟨h1, fun x hx => Classical.byContradiction fun hn => ?_, KR.2 fun i j a b hij ha hb => ?_⟩, fun h1 => h1.1⟩
    · obtain ⟨i, hi, rfl⟩ := List.getElem_of_mem hx
      exact h ⟨i, hi, _, List.getElem?_eq_getElem hi, .inl hn⟩
    · have hj := (List.getElem?_eq_some_iff.1 hb).1
      have hn : ¬ (a.1 < b.1 ∨ kq a b) := fun hc => h ⟨j, hj, b, hb, .inr ⟨i, a, hij, ha, hc⟩⟩
      exact ⟨by
        have := fun hc => hn (.inl hc)
        omega, fun hc => hn (.inr hc)⟩
section
variable {κ : Type} [DecidableEq κ]
end
def GN {α : Type} (P : α → Bool) : List α → Nat → Int
  | [], _ => -1
  | x :: l, k => if P x = true then (k : Int) else GN P l (k + 1)
theorem GE {α : Type} (l : List α) (hl : l.length ≤ 1000000) (P : α → Bool) (step : Int → Option (Int ⊕ (Unit ⊕ Int)))
    (hs : ∀ k (hk : k < l.length), step (k : Int) = if P l[k] = true then some (.inr (.inr (k : Int))) else some (.inl (CG ((k : Int) + 1)))) (he : step (l.length : Int) = some (.inr (.inl ()))) :
    FL (Bh step 0) (fun _ => some (-1)) = some (GN P l 0) := by
  have key : ∀ (d k : Nat), k + d = l.length → FL (Bh step (k : Int)) (fun _ => some (-1)) = some (GN P (l.drop k) k) := by
    intro d
    induction d with
    | zero =>
      intro k hk
      obtain rfl : k = l.length := by omega
      rw [Cv he, List.drop_eq_nil_of_le (Nat.le_refl _)]; rfl
    | succ d ih =>
      intro k hk
      have hk2 : k < l.length := by omega
      have h := hs k hk2
      rw [List.drop_eq_getElem_cons hk2]
      show _ = some (if P l[k] = true then (k : Int) else GN P (l.drop (k + 1)) (k + 1))
      by_cases c : P l[k] = true
      · rw [if_pos c] at h
        rw [if_pos c, Cv h]; rfl
      · rw [if_neg c, Cy (by omega)] at h
        rw [if_neg c, Cf h]
        exact ih (k + 1) (by omega)
  exact key l.length 0 (by omega)
theorem Fv {α : Type} (P : α → Bool) : ∀ (l : List α) (k : Nat), (GN P l k = -1 ∧ ∀ x ∈ l, P x = false) ∨ ∃ (j : Nat) (x : α), l[j]? = some x ∧ P x = true ∧ GN P l k = ((k + j : Nat) : Int) ∧ ∀ (i : Nat) (y : α), i < j → l[i]? = some y → P y = false
  | [], k => .inl ⟨rfl, fun x hx => by cases hx⟩
  | x :: l, k => by
    by_cases c : P x = true
    · exact .inr ⟨0, x, rfl, c, if_pos c, fun i y hi => by omega⟩
    · have e : GN P (x :: l) k = GN P l (k + 1) := if_neg c
      rcases Fv P l (k + 1) with ⟨h1, h2⟩ | ⟨j, y, h1, h2, h3, h4⟩
      · exact .inl ⟨e.trans h1, fun y hy => by
          rcases List.mem_cons.1 hy with rfl | hy
          · simpa using c
          · exact h2 y hy⟩
      · refine .inr ⟨j + 1, y, h1, h2, by rw [e, h3]; omega, fun i z hi hz => ?_⟩
        cases i with
        | zero => simp at hz; subst hz; simpa using c
        | succ i => exact h4 i z (by omega) (by simpa using hz)
abbrev Oq (t : List Rl) : Prop := (t.length : Int) ≤ 20 ∧ ∀ x ∈ t, x.2.2.length ≤ 10
theorem KT {t : List Rl} (hl : t.length ≤ 9223372036854775807) : ∃ b, Ft t = some b ∧ (b = true ↔ Oq t) := by
  unfold Ft
  rw [Fs t hl (DP t) (fun x => 10 < (x.2.2.length : Int)) false (fun k hk => by
    rw [DP, if_pos (by omega), CE (List.getElem?_eq_getElem hk), Option.bind_some]) (by rw [DP, if_neg (by omega)])]
  by_cases h : ∃ x ∈ t, 10 < (x.2.2.length : Int)
  · rw [if_pos h]
    refine ⟨false, rfl, ⟨fun hc => (by cases hc), fun hc => ?_⟩⟩
    obtain ⟨x, hx, h2⟩ := h
    have := hc.2 x hx
    omega
  · rw [if_neg h, IB]
    refine ⟨_, rfl, ?_⟩
    rw [decide_eq_true_iff]
    exact ⟨fun hc => ⟨hc, fun x hx => Nat.le_of_not_lt fun h2 => h ⟨x, hx, by omega⟩⟩, fun hc => hc.1⟩
end Go.Proofs.Ytkjjioigbpkifaa
