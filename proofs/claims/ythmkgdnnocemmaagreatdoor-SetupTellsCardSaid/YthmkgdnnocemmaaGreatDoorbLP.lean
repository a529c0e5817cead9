/- Plain mathematics: loops that count, searches. Conditions: none. -/
import Derived.Test.YthmkgdnnocemmaaGreatDoorbML
namespace Go.Proofs.YthmkgdnnocemmaaGreatDoor
set_option linter.unusedVariables false
set_option linter.unusedSimpArgs false
open Go Go.RowKit
theorem BZ {σ ε : Type} {step : σ → Option (σ ⊕ ε)} {s s' : σ} (h : step s = some (.inl s')) : Av step s = Av step s' := by rw [ID, h]; rfl
theorem AN {σ ε : Type} {step : σ → Option (σ ⊕ ε)} {s : σ} {e : ε} (h : step s = some (.inr e)) : Av step s = some e := by rw [ID, h]; rfl
theorem Rf {ε : Type} (n : Nat) (step : Int → Option (Int ⊕ (Unit ⊕ ε))) (p : Nat → Option ε)
    (hs : ∀ k, k < n → step (k : Int) = match p k with | none => some (.inl ((k + 1 : Nat) : Int)) | some e => some (.inr (.inr e)))
    (he : step (n : Int) = some (.inr (.inl ()))) :
    Av step 0 = some (match (List.range n).findSome? p with | none => .inl () | some e => .inr e) := by
  have key : ∀ (d k : Nat), k + d = n → Av step (k : Int) = some (match (List.range' k d).findSome? p with | none => .inl () | some e => .inr e) := by
    intro d
    induction d with
    | zero =>
      intro k hk
      obtain rfl : k = n := by omega
      rw [ID, he]; rfl
    | succ d ih =>
      intro k hk
      rw [ID, hs k (by omega), List.range'_succ, List.findSome?_cons]
      cases h : p k with
      | none => exact ih (k + 1) (by omega)
      | some e => rfl
  have := key n 0 (by omega)
  rw [List.range_eq_range']
  exact this
theorem N9 {ε : Type} {p : Nat → Option ε} {n : Nat} (h : ∀ k, k < n → p k = none) : (List.range n).findSome? p = none := by
  rw [List.findSome?_eq_none_iff]
  intro x hx
  exact h x (List.mem_range.1 hx)
theorem OM (n : Nat) (q : Nat → Prop) [DecidablePred q] (b : Bool) : (List.range n).findSome? (fun k => if q k then some b else none) = if ∃ k, k < n ∧ q k then some b else none := by
  by_cases h : ∃ k, k < n ∧ q k
  · rw [if_pos h]
    obtain ⟨k, hk, hq⟩ := h
    cases e : (List.range n).findSome? (fun k => if q k then some b else none) with
    | none =>
      rw [List.findSome?_eq_none_iff] at e
      have := e k (List.mem_range.2 hk)
      rw [if_pos hq] at this; cases this
    | some c =>
      obtain ⟨x, _, hx⟩ := List.exists_of_findSome?_eq_some e
      by_cases hqx : q x
      · rw [if_pos hqx] at hx; exact hx.symm
      · rw [if_neg hqx] at hx; cases hx
  · rw [if_neg h]
    exact N9 fun k hk => if_neg fun hq => h ⟨k, hk, hq⟩
theorem M0 (n : Nat) (step : Int → Option (Int ⊕ (Unit ⊕ Bool))) (q : Nat → Prop) [DecidablePred q] (b : Bool)
    (hs : ∀ k, k < n → step (k : Int) = if q k then some (.inr (.inr b)) else some (.inl ((k + 1 : Nat) : Int)))
    (he : step (n : Int) = some (.inr (.inl ()))) :
    Av step 0 = some (if ∃ k, k < n ∧ q k then .inr b else .inl ()) := by
  rw [Rf n step (fun k => if q k then some b else none) (fun k hk => by rw [hs k hk]; by_cases h : q k <;> simp [h]) he, OM]
  by_cases h : ∃ k, k < n ∧ q k
  · rw [if_pos h, if_pos h]
  · rw [if_neg h, if_neg h]
theorem O4 {α : Type} {l : List α} {P : α → Prop} : (∃ k : Nat, k < l.length ∧ ∃ e, l[k]? = some e ∧ P e) ↔ ∃ e ∈ l, P e := by
  constructor
  · rintro ⟨k, hk, e, h1, h2⟩
    exact ⟨e, List.mem_of_getElem? h1, h2⟩
  · rintro ⟨e, h1, h2⟩
    obtain ⟨k, hk, h3⟩ := List.getElem_of_mem h1
    exact ⟨k, hk, e, by rw [List.getElem?_eq_getElem hk, h3], h2⟩
theorem Nd {α : Type} {l : List α} {P : α → Prop} {k : Nat} (hk : k < l.length) : (∃ e, l[k]? = some e ∧ P e) ↔ P l[k] := by
  rw [List.getElem?_eq_getElem hk]
  exact ⟨fun ⟨e, h1, h2⟩ => by cases h1; exact h2, fun h => ⟨_, rfl, h⟩⟩
theorem NR {α : Type} (l : List α) (hl : l.length ≤ 9223372036854775807) (step : Int → Option (Int ⊕ (Unit ⊕ Bool))) (P : α → Prop) [DecidablePred P] (b : Bool)
    (hs : ∀ k (hk : k < l.length), step (k : Int) = if P l[k] then some (.inr (.inr b)) else some (.inl (BD ((k : Int) + 1))))
    (he : step (l.length : Int) = some (.inr (.inl ()))) :
    Av step 0 = some (if ∃ e ∈ l, P e then .inr b else .inl ()) := by
  have : DecidablePred fun k : Nat => ∃ e, l[k]? = some e ∧ P e := fun _ => Classical.propDecidable _
  rw [M0 l.length step (fun k : Nat => ∃ e, l[k]? = some e ∧ P e) b (fun k hk => by
    rw [hs k hk, Bx (by omega)]
    by_cases h : P l[k]
    · rw [if_pos h, if_pos ((Nd hk).2 h)]
    · rw [if_neg h, if_neg (fun h2 => h ((Nd hk).1 h2))]; rfl) he]
  by_cases h : ∃ e ∈ l, P e
  · rw [if_pos h, if_pos (O4.2 h)]
  · rw [if_neg h, if_neg (fun h2 => h (O4.1 h2))]
end Go.Proofs.YthmkgdnnocemmaaGreatDoor
