/- Plain mathematics: loops that count, searches. Conditions: none. -/
import Derived.Test.YtbiekjhlijdjbaaGreatbML
set_option linter.unusedVariables false
set_option linter.unusedSimpArgs false
open Go Go.RowKit
namespace Go.Proofs.YtbiekjhlijdjbaaGreat
theorem BI {σ ε : Type} {step : σ → Option (σ ⊕ ε)} {s s' : σ} (h : step s = some (.inl s')) : Am step s = Am step s' := by rw [Gm,h]; rfl
theorem AJ {σ ε : Type} {step : σ → Option (σ ⊕ ε)} {s : σ} {e : ε} (h : step s = some (.inr e)) : Am step s = some e := by rw [Gm,h]; rfl
theorem Bw {σ τ ε : Type} (n : Nat) (mkS : σ → Nat → τ) (step : τ → Option (τ ⊕ ε)) (fin : σ → ε) (I : σ → Nat → Prop)
    (hs : ∀ s k,k < n → I s k → ∃ s',step (mkS s k) = some (.inl (mkS s' (k + 1))) ∧ I s' (k + 1))
    (he : ∀ s,I s n → step (mkS s n) = some (.inr (fin s))) (s : σ) (h : I s 0) : ∃ s',I s' n ∧ Am step (mkS s 0) = some (fin s') := by
  have key : ∀ (d k : Nat) (s : σ),k + d = n → I s k → ∃ s',I s' n ∧ Am step (mkS s k) = some (fin s') := by
    intro d
    induction d with
    | zero =>
      intro k s hk hI
      obtain rfl : k = n := by omega
      exact ⟨s,hI,by rw [Gm,he s hI]; rfl⟩
    | succ d ih =>
      intro k s hk hI
      obtain ⟨s',h1,h2⟩ := hs s k (by omega) hI
      obtain ⟨s2,h3,h4⟩ := ih (k + 1) s' (by omega) h2
      exact ⟨s2,h3,by rw [Gm,h1]; exact h4⟩
  exact key n 0 s (by omega) h
theorem Nc {ε : Type} (n : Nat) (step : Int → Option (Int ⊕ (Unit ⊕ ε))) (p : Nat → Option ε)
    (hs : ∀ k,k < n → step (k : Int) = match p k with | none => some (.inl ((k + 1 : Nat) : Int)) | some e => some (.inr (.inr e)))
    (he : step (n : Int) = some (.inr (.inl ()))) :
    Am step 0 = some (match (List.range n).findSome? p with | none => .inl () | some e => .inr e) := by
  have key : ∀ (d k : Nat),k + d = n → Am step (k : Int) = some (match (List.range' k d).findSome? p with | none => .inl () | some e => .inr e) := by
    intro d
    induction d with
    | zero =>
      intro k hk
      obtain rfl : k = n := by omega
      rw [Gm,he]; rfl
    | succ d ih =>
      intro k hk
      rw [Gm,hs k (by omega),List.range'_succ,List.findSome?_cons]
      cases h : p k with
      | none => exact ih (k + 1) (by omega)
      | some e => rfl
  have := key n 0 (by omega)
  rw [List.range_eq_range']
  exact this
theorem JK {ε : Type} {p : Nat → Option ε} {n : Nat} (h : ∀ k,k < n → p k = none) : (List.range n).findSome? p = none := by
  rw [List.findSome?_eq_none_iff]
  intro x hx
  exact h x (List.mem_range.1 hx)
theorem TX (n : Nat) (q : Nat → Prop) [DecidablePred q] (b : Bool) : (List.range n).findSome? (fun k => if q k then some b else none) = if ∃ k,k < n ∧ q k then some b else none := by
  by_cases h : ∃ k,k < n ∧ q k
  · rw [if_pos h]
    obtain ⟨k,hk,hq⟩ := h
    cases e : (List.range n).findSome? (fun k => if q k then some b else none) with
    | none =>
      rw [List.findSome?_eq_none_iff] at e
      have := e k (List.mem_range.2 hk)
      rw [if_pos hq] at this; cases this
    | some c =>
      obtain ⟨x,_,hx⟩ := List.exists_of_findSome?_eq_some e
      by_cases hqx : q x
      · rw [if_pos hqx] at hx; exact hx.symm
      · rw [if_neg hqx] at hx; cases hx
  · rw [if_neg h]
    exact JK fun k hk => if_neg fun hq => h ⟨k,hk,hq⟩
theorem Qt (n : Nat) (step : Int → Option (Int ⊕ (Unit ⊕ Bool))) (q : Nat → Prop) [DecidablePred q] (b : Bool)
    (hs : ∀ k,k < n → step (k : Int) = if q k then some (.inr (.inr b)) else some (.inl ((k + 1 : Nat) : Int)))
    (he : step (n : Int) = some (.inr (.inl ()))) :
    Am step 0 = some (if ∃ k,k < n ∧ q k then .inr b else .inl ()) := by
  rw [Nc n step (fun k => if q k then some b else none) (fun k hk => by rw [hs k hk]; by_cases h : q k <;> simp [h]) he,TX]
  by_cases h : ∃ k,k < n ∧ q k
  · rw [if_pos h,if_pos h]
  · rw [if_neg h,if_neg h]
theorem Ur {α : Type} {l : List α} {P : α → Prop} : (∃ k : Nat,k < l.length ∧ ∃ e,l[k]? = some e ∧ P e) ↔ ∃ e ∈ l,P e := by
  constructor
  · rintro ⟨k,hk,e,h1,h2⟩
    exact ⟨e,List.mem_of_getElem? h1,h2⟩
  · rintro ⟨e,h1,h2⟩
    obtain ⟨k,hk,h3⟩ := List.getElem_of_mem h1
    exact ⟨k,hk,e,by rw [zb hk,h3],h2⟩
theorem QR {α : Type} {l : List α} {P : α → Prop} {k : Nat} (hk : k < l.length) : (∃ e,l[k]? = some e ∧ P e) ↔ P l[k] := by
  rw [zb hk]
  exact ⟨fun ⟨e,h1,h2⟩ => by cases h1; exact h2,fun h => ⟨_,rfl,h⟩⟩
theorem EX {α : Type} (l : List α) (hl : l.length ≤ 9223372036854775807) (step : Int → Option (Int ⊕ (Unit ⊕ Bool))) (P : α → Prop) [DecidablePred P] (b : Bool)
    (hs : ∀ k (hk : k < l.length),step (k : Int) = if P l[k] then some (.inr (.inr b)) else some (.inl (w64 ((k : Int) + 1))))
    (he : step (l.length : Int) = some (.inr (.inl ()))) :
    Am step 0 = some (if ∃ e ∈ l,P e then .inr b else .inl ()) := by
  have : DecidablePred fun k : Nat => ∃ e,l[k]? = some e ∧ P e := fun _ => Classical.propDecidable _
  rw [Qt l.length step (fun k : Nat => ∃ e,l[k]? = some e ∧ P e) b (fun k hk => by
    rw [hs k hk,AC (by omega)]
    by_cases h : P l[k]
    · rw [if_pos h,if_pos ((QR hk).2 h)]
    · rw [if_neg h,if_neg (fun h2 => h ((QR hk).1 h2))]; rfl) he]
  by_cases h : ∃ e ∈ l,P e
  · rw [if_pos h,if_pos (Ur.2 h)]
  · rw [if_neg h,if_neg (fun h2 => h (Ur.1 h2))]
theorem RI {α β : Type} (l : List α) (hl : l.length ≤ 1000000000) (f : α → β) (step : List β × Int → Option ((List β × Int) ⊕ List β))
    (hs : ∀ (k : Nat) (hk : k < l.length) (out : List β),out.length = k → step (out,(k : Int)) = (app out [f l[k]]).bind fun x => some (.inl (x,w64 ((k : Int) + 1))))
    (he : ∀ out,step (out,(l.length : Int)) = some (.inr out)) : Am step ([],0) = some (l.map f) := by
  obtain ⟨s,h1,h2⟩ := Bw l.length (fun (out : List β) (k : Nat) => (out,(k : Int))) step id (fun out k => out = (l.take k).map f)
    (fun out k hk hI => ⟨out ++ [f l[k]],by
      rw [hs k hk out (by rw [hI]; simp; omega),Cs (by rw [hI]; simp; omega),za,AC (by omega)]; rfl,by
      show out ++ [f l[k]] = (l.take (k + 1)).map f
      rw [hI,List.take_succ_eq_append_getElem hk,List.map_append]; rfl⟩) (fun out _ => he out) [] (by simp)
  have h3 : Am step ([],0) = some (id s) := h2
  rw [h3,h1,List.take_length]; rfl
end Go.Proofs.YtbiekjhlijdjbaaGreat
