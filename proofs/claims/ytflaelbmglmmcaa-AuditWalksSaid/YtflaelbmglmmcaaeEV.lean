/- Twins with fuel of ET functions: what a twin answers, the function answers. Conditions: none. -/
import Derived.Test.YtflaelbmglmmcaaeLP
import Derived.Test.YtflaelbmglmmcaaeA3
namespace Go.Proofs.Ytflaelbmglmmcaa
open Go Go.RowKit
set_option linter.unusedVariables false
set_option linter.unusedSimpArgs false
set_option maxRecDepth 20000
set_option maxHeartbeats 1600000
abbrev Le {α : Type} (a b : Option α) : Prop := ∀ r, a = some r → b = some r
theorem Le.rfl' {α : Type} (a : Option α) : Le a a := fun _ h => h
theorem Le.bind' {α β : Type} {a b : Option α} {f g : α → Option β} (h : Le a b) (hf : ∀ x, Le (f x) (g x)) : Le (a.bind f) (b.bind g) := fun r e => by
  obtain ⟨x, h1, h2⟩ := Ao e
  rw [h x h1, Option.bind_some]; exact hf x r h2
theorem Le.ite' {α : Type} {c : Prop} [Decidable c] {a a' b b' : Option α} (h1 : Le a a') (h2 : Le b b') : Le (if c then a else b) (if c then a' else b') := fun r e => by
  by_cases h : c
  · rw [if_pos h] at e ⊢; exact h1 r e
  · rw [if_neg h] at e ⊢; exact h2 r e
theorem Le.orR' {α β : Type} {a b : Option (α ⊕ β)} {f g : α → Option β} (h : Le a b) (hf : ∀ x, Le (f x) (g x)) : Le (D7 a f) (D7 b g) :=
  Le.bind' h fun x => by
    cases x with
    | inl t => exact hf t
    | inr e => exact Le.rfl' _
def DX {σ ε : Type} (n : Nat) (step : σ → Option (σ ⊕ ε)) (s : σ) : Option ε := EI step n s
theorem IF {σ ε : Type} {S T : σ → Option (σ ⊕ ε)} (h : ∀ s, Le (S s) (T s)) : ∀ (n : Nat) (s : σ), Le (EI S n s) (EI T n s)
  | 0, s => Le.rfl' _
  | n + 1, s => fun r e => by
    unfold EI at e ⊢
    cases hs : S s with
    | none => rw [hs] at e; cases e
    | some q =>
      rw [hs] at e; rw [h s q hs]
      cases q with
      | inl s' => exact IF h n s' r e
      | inr _ => exact e
theorem Le.loop' {σ ε : Type} {n : Nat} {S T : σ → Option (σ ⊕ ε)} {s : σ} (h : ∀ s, Le (S s) (T s)) : Le (DX n S s) (AQ T s) := fun r e => FA.2 ⟨n, IF h n s r e⟩
theorem Le.pi2 {α β γ : Type} {f g : α × β → Option γ} (h : ∀ a b, Le (f (a, b)) (g (a, b))) : ∀ x, Le (f x) (g x) := fun x => h x.1 x.2
theorem Le.altS' {α β γ : Type} {y : α ⊕ β} {f f' : α → Option γ} {g g' : β → Option γ} (h : ∀ x, Le (f x) (f' x)) (k : ∀ x, Le (g x) (g' x)) : Le (Oq y f g) (Oq y f' g') := by
  cases y with
  | inl x => exact h x
  | inr x => exact k x
theorem Le.foldW' {α σ ε : Type} {S T : α → σ → Option (σ ⊕ ε)} (h : ∀ x s, Le (S x s) (T x s)) : ∀ (L : List α) (s : σ), Le (EH S L s) (EH T L s)
  | [], s => Le.rfl' _
  | x :: L, s => by
    show Le ((S x s).bind _) ((T x s).bind _)
    refine Le.bind' (h x s) fun o => ?_
    cases o with
    | inl s' => exact Le.foldW' h L s'
    | inr e => exact Le.rfl' _
def Br (nE : Nat)  : ((List (Int × Int × Int)) × Int × Int) → Option (((List (Int × Int × Int)) × Int × Int) ⊕ (List (Int × Int × Int)))
  | (x1, x2, x3) => (if x2 < x3 then (ix x1 x3).bind fun x4 => (ix x1 x2).bind fun x5 => (ix x1 x2).bind fun x6 => (ix (Ax x1 x2 x4) x3).bind fun x7 => some (.inl ((Ax (Ax x1 x2 x4) x3 x5), DH (x2 + 1), DH (x3 - 1))) else some (.inr x1))
theorem CQ (nE : Nat)  : ∀ s, Le (Br nE  s) (AS  s) := by
  rintro ⟨x1, x2, x3⟩
  unfold Br AS
  repeat' with_reducible (first | refine Le.orR' ?_ ?_ | refine Le.bind' ?_ ?_ | refine Le.ite' ?_ ?_ | refine Le.loop' ?_ | refine Le.altS' ?_ ?_ | exact Le.rfl' _ | (refine Le.pi2 ?_; intro _) | intro _)
def BD (nE : Nat) (p0 : List (Int × Int × Int)) : Option (List (Int × Int × Int)) := DX nE (Br nE) (p0, 0, DH ((p0.length : Int) - 1))
theorem Da (nE : Nat) (p0 : List (Int × Int × Int)) : Le (BD nE p0) (AG p0) := by
  unfold BD AG
  repeat' with_reducible (first | refine Le.orR' ?_ ?_ | refine Le.bind' ?_ ?_ | refine Le.ite' ?_ ?_ | refine Le.loop' ?_ | refine Le.altS' ?_ ?_ | apply CQ | exact Le.rfl' _ | (refine Le.pi2 ?_; intro _) | intro _)
def D2 (nE : Nat) (p0 : List (Int × Int × Int × Int × Int × Int)) (x2 : Int × Int × Int × Int × Int × Int × Int) : ((List (Int × Int × Int)) × (List (Int × Int))) → Option (((List (Int × Int × Int)) × (List (Int × Int))) ⊕ (List (Int × Int × Int)))
  | (x3, x4) => (if x2.2.1 = 9 then some true else some (decide (x2.2.1 = 10))).bind fun x5 => (if x5 = true then some (.inl (x3, CY x4 x2.2.2.2.1 x2.1)) else (if x2.2.1 = 8 then (if ((CE x4 x2.2.2.2.1).isSome) = true then (ix p0 ((CE x4 x2.2.2.2.1).getD 0)).bind fun x7 => some (Cu x2.2 x7) else some 1125899906842624).bind fun x6 => (FR x3 ([(x2.2.2.2.1, x2.2.2.2.2.2.1, x6)] : List (Int × Int × Int))).bind fun x8 => some (.inl (x8, x4)) else some (.inl (x3, x4))))
theorem GE (nE : Nat) (p0 : List (Int × Int × Int × Int × Int × Int)) (x2 : Int × Int × Int × Int × Int × Int × Int) : ∀ s, Le (D2 nE p0 x2 s) (Cn p0 x2 s) := by
  rintro ⟨x3, x4⟩
  unfold D2 Cn
  repeat' with_reducible (first | refine Le.orR' ?_ ?_ | refine Le.bind' ?_ ?_ | refine Le.ite' ?_ ?_ | refine Le.loop' ?_ | refine Le.altS' ?_ ?_ | exact Le.rfl' _ | (refine Le.pi2 ?_; intro _) | intro _)
def EV (nE : Nat) (p0 : List (Int × Int × Int × Int × Int × Int)) : Option (List (Int × Int × Int)) := (back p0).bind fun x1 => D7 (EH (D2 nE p0) x1 ([], ([] : List (Int × Int)))) fun (x3, x4) => (BD nE x3).bind fun x9 => some x9
theorem HI (nE : Nat) (p0 : List (Int × Int × Int × Int × Int × Int)) : Le (EV nE p0) (C6 p0) := by
  unfold EV C6
  repeat' with_reducible (first | refine Le.orR' ?_ ?_ | refine Le.bind' ?_ ?_ | refine Le.ite' ?_ ?_ | refine Le.loop' ?_ | refine Le.altS' ?_ ?_ | refine Le.foldW' ?_ _ _ | apply Da | apply GE | exact Le.rfl' _ | (refine Le.pi2 ?_; intro _) | intro _)
def EC (nE : Nat) (x1 : (List (Int × Int × Int))) (x6 : Int × Int × Int × Int × Int × Int) : (Int × (List (Int × Int))) → Option ((Int × (List (Int × Int))) ⊕ (List (Int × Int)))
  | (x7, x8) => (if x7 < (x1.length : Int) then ((ix x1 x7).bind fun x10 => (if x10.1 = x6.2.2.1 then (FR x8 ([(x6.2.2.2.2.1, x10.2.2)] : List (Int × Int))).bind fun x11 => some x11 else some x8)).bind fun x9 => some (.inl (DH (x7 + 1), x9)) else some (.inr x8))
theorem Hq (nE : Nat) (x1 : (List (Int × Int × Int))) (x6 : Int × Int × Int × Int × Int × Int) : ∀ s, Le (EC nE x1 x6 s) (Cb x1 x6 s) := by
  rintro ⟨x7, x8⟩
  unfold EC Cb
  repeat' with_reducible (first | refine Le.orR' ?_ ?_ | refine Le.bind' ?_ ?_ | refine Le.ite' ?_ ?_ | refine Le.loop' ?_ | refine Le.altS' ?_ ?_ | exact Le.rfl' _ | (refine Le.pi2 ?_; intro _) | intro _)
def EF (nE : Nat) (p0 : List (Int × Int × Int × Int × Int × Int)) (x1 : (List (Int × Int × Int))) : (Int × (List (Int × Int))) → Option ((Int × (List (Int × Int))) ⊕ (List (Int × Int)))
  | (x3, x4) => (if x3 < (p0.length : Int) then ((ix p0 x3).bind fun x6 => (if x6.1 ≠ 9 then some x4 else DX nE (EC nE x1 x6) (0, x4))).bind fun x5 => some (.inl (DH (x3 + 1), x5)) else some (.inr x4))
theorem Hj (nE : Nat) (p0 : List (Int × Int × Int × Int × Int × Int)) (x1 : (List (Int × Int × Int))) : ∀ s, Le (EF nE p0 x1 s) (Cc p0 x1 s) := by
  rintro ⟨x3, x4⟩
  unfold EF Cc
  repeat' with_reducible (first | refine Le.orR' ?_ ?_ | refine Le.bind' ?_ ?_ | refine Le.ite' ?_ ?_ | refine Le.loop' ?_ | refine Le.altS' ?_ ?_ | apply Hq | exact Le.rfl' _ | (refine Le.pi2 ?_; intro _) | intro _)
def FQ (nE : Nat) (p0 : List (Int × Int × Int × Int × Int × Int)) : Option ((List (Int × Int × Int)) × (List (Int × Int))) := (EV nE p0).bind fun x1 => (DX nE (EF nE p0 x1) (0, [])).bind fun x2 => some (x1, x2)
theorem IK (nE : Nat) (p0 : List (Int × Int × Int × Int × Int × Int)) : Le (FQ nE p0) (DJ p0) := by
  unfold FQ DJ
  repeat' with_reducible (first | refine Le.orR' ?_ ?_ | refine Le.bind' ?_ ?_ | refine Le.ite' ?_ ?_ | refine Le.loop' ?_ | refine Le.altS' ?_ ?_ | apply HI | apply Hj | exact Le.rfl' _ | (refine Le.pi2 ?_; intro _) | intro _)
def DU (nE : Nat) (p0 : (List (Int × Int × Int × Int × (Nat × List Int) × Int × Int × Int)) × (List (Int × Int)) × List Int) (p1 : Int × Int × Int × Int × Int × Int) : Option ((List (Int × Int × Int × Int × (Nat × List Int) × Int × Int × Int)) × (List (Int × Int)) × List Int) := (FR p0.2.2 ([(AC p0 p1.2.2.1)] : List Int)).bind fun x1 => (FR p0.1 ([(p1.2.2.1, p1.2.2.2.2.1, p1.2.2.2.2.2, p1.2.1, (2, []), 0, 0, p1.2.1)] : List (Int × Int × Int × Int × (Nat × List Int) × Int × Int × Int))).bind fun x2 => some (x2, CY p0.2.1 p1.2.2.1 (p0.1.length : Int), x1)
theorem Gz (nE : Nat) (p0 : (List (Int × Int × Int × Int × (Nat × List Int) × Int × Int × Int)) × (List (Int × Int)) × List Int) (p1 : Int × Int × Int × Int × Int × Int) : Le (DU nE p0 p1) (CF p0 p1) := by
  unfold DU CF
  repeat' with_reducible (first | refine Le.orR' ?_ ?_ | refine Le.bind' ?_ ?_ | refine Le.ite' ?_ ?_ | refine Le.loop' ?_ | refine Le.altS' ?_ ?_ | exact Le.rfl' _ | (refine Le.pi2 ?_; intro _) | intro _)
def Dx (nE : Nat) (p0 : (List (Int × Int × Int × Int × (Nat × List Int) × Int × Int × Int)) × (List (Int × Int)) × List Int) (p1 : Int) (p2 : Int × Int × Int × Int × Int × Int) : Option ((List (Int × Int × Int × Int × (Nat × List Int) × Int × Int × Int)) × (List (Int × Int)) × List Int) := (ix p0.1 p1).bind fun x1 => (ix p0.1 p1).bind fun x2 => (if p2.1 = 2 then (ix (Ax p0.1 p1 (x2.1, x2.2.1, x2.2.2.1, x2.2.2.2.1, x2.2.2.2.2.1, x2.2.2.2.2.2.1, x2.2.2.2.2.2.2.1, p2.2.1)) p1).bind fun x3 => (MA x3.2.2.2.2.1.1).bind fun x4 => (FR x3.2.2.2.2.1.2 ([p2.2.2.2.1] : List Int)).bind fun x5 => (ix (Ax (Ax p0.1 p1 (x2.1, x2.2.1, x2.2.2.1, x2.2.2.2.1, x2.2.2.2.2.1, x2.2.2.2.2.2.1, x2.2.2.2.2.2.2.1, p2.2.1)) p1 (x3.1, x3.2.1, x3.2.2.1, x3.2.2.2.1, (0, []), x3.2.2.2.2.2.1, x3.2.2.2.2.2.2.1, x3.2.2.2.2.2.2.2)) p1).bind fun x6 => some ((Ax (Ax (Ax p0.1 p1 (x2.1, x2.2.1, x2.2.2.1, x2.2.2.2.1, x2.2.2.2.2.1, x2.2.2.2.2.2.1, x2.2.2.2.2.2.2.1, p2.2.1)) p1 (x3.1, x3.2.1, x3.2.2.1, x3.2.2.2.1, (0, []), x3.2.2.2.2.2.1, x3.2.2.2.2.2.2.1, x3.2.2.2.2.2.2.2)) p1 (x6.1, x6.2.1, x6.2.2.1, x6.2.2.2.1, (2, x5), x6.2.2.2.2.2.1, x6.2.2.2.2.2.2.1, x6.2.2.2.2.2.2.2)), p0.2.1, p0.2.2) else (ix (Ax p0.1 p1 (x2.1, x2.2.1, x2.2.2.1, x2.2.2.2.1, x2.2.2.2.2.1, x2.2.2.2.2.2.1, x2.2.2.2.2.2.2.1, p2.2.1)) p1).bind fun x7 => (if p2.1 = 3 then (ix (Ax (Ax p0.1 p1 (x2.1, x2.2.1, x2.2.2.1, x2.2.2.2.1, x2.2.2.2.2.1, x2.2.2.2.2.2.1, x2.2.2.2.2.2.2.1, p2.2.1)) p1 (x7.1, x7.2.1, x7.2.2.1, x7.2.2.2.1, x7.2.2.2.2.1, p2.1, x7.2.2.2.2.2.2.1, x7.2.2.2.2.2.2.2)) p1).bind fun x9 => some (Ax (Ax (Ax p0.1 p1 (x2.1, x2.2.1, x2.2.2.1, x2.2.2.2.1, x2.2.2.2.2.1, x2.2.2.2.2.2.1, x2.2.2.2.2.2.2.1, p2.2.1)) p1 (x7.1, x7.2.1, x7.2.2.1, x7.2.2.2.1, x7.2.2.2.2.1, p2.1, x7.2.2.2.2.2.2.1, x7.2.2.2.2.2.2.2)) p1 (x9.1, x9.2.1, x9.2.2.1, x9.2.2.2.1, x9.2.2.2.2.1, x9.2.2.2.2.2.1, p2.2.2.2.2.1, x9.2.2.2.2.2.2.2)) else some (Ax (Ax p0.1 p1 (x2.1, x2.2.1, x2.2.2.1, x2.2.2.2.1, x2.2.2.2.2.1, x2.2.2.2.2.2.1, x2.2.2.2.2.2.2.1, p2.2.1)) p1 (x7.1, x7.2.1, x7.2.2.1, x7.2.2.2.1, x7.2.2.2.2.1, p2.1, x7.2.2.2.2.2.2.1, x7.2.2.2.2.2.2.2))).bind fun x8 => (ix p0.2.2 p1).bind fun x10 => some (x8, CY p0.2.1 p2.2.2.1 x10, p0.2.2))
theorem Gd (nE : Nat) (p0 : (List (Int × Int × Int × Int × (Nat × List Int) × Int × Int × Int)) × (List (Int × Int)) × List Int) (p1 : Int) (p2 : Int × Int × Int × Int × Int × Int) : Le (Dx nE p0 p1 p2) (B3 p0 p1 p2) := by
  unfold Dx B3
  repeat' with_reducible (first | refine Le.orR' ?_ ?_ | refine Le.bind' ?_ ?_ | refine Le.ite' ?_ ?_ | refine Le.loop' ?_ | refine Le.altS' ?_ ?_ | exact Le.rfl' _ | (refine Le.pi2 ?_; intro _) | intro _)
def DV (nE : Nat) (p0 : (List (Int × Int × Int × Int × (Nat × List Int) × Int × Int × Int)) × (List (Int × Int)) × List Int) (p1 : Int × Int × Int × Int × Int × Int) : Option ((List (Int × Int × Int × Int × (Nat × List Int) × Int × Int × Int)) × (List (Int × Int)) × List Int) := (if p1.1 = 1 then (DU nE p0 p1).bind fun x1 => some x1 else (if p1.1 = 2 then some true else (if p1.1 = 3 then some true else some (decide (p1.1 = 4)))).bind fun x2 => (if x2 = true then (if (AC p0 p1.2.2.1) ≠ (-1) then (Dx nE p0 (AC p0 p1.2.2.1) p1).bind fun x3 => some x3 else some p0) else some p0))
theorem GF (nE : Nat) (p0 : (List (Int × Int × Int × Int × (Nat × List Int) × Int × Int × Int)) × (List (Int × Int)) × List Int) (p1 : Int × Int × Int × Int × Int × Int) : Le (DV nE p0 p1) (Cp p0 p1) := by
  unfold DV Cp
  repeat' with_reducible (first | refine Le.orR' ?_ ?_ | refine Le.bind' ?_ ?_ | refine Le.ite' ?_ ?_ | refine Le.loop' ?_ | refine Le.altS' ?_ ?_ | apply Gz | apply Gd | exact Le.rfl' _ | (refine Le.pi2 ?_; intro _) | intro _)
def Fj (nE : Nat) (p0 : List (Int × Int × Int × Int × Int × Int)) : (Int × (List (Int × Int × Int × Int × (Nat × List Int) × Int × Int × Int)) × List Int × (List (Int × Int))) → Option ((Int × (List (Int × Int × Int × Int × (Nat × List Int) × Int × Int × Int)) × List Int × (List (Int × Int))) ⊕ ((List (Int × Int × Int × Int × (Nat × List Int) × Int × Int × Int)) × List Int × (List (Int × Int))))
  | (x4, x5, x6, x7) => (if x4 < (p0.length : Int) then (ix p0 x4).bind fun x8 => (DV nE (x5, x7, x6) x8).bind fun x9 => some (.inl (DH (x4 + 1), x9.1, x9.2.2, x9.2.1)) else some (.inr (x5, x6, x7)))
theorem H4 (nE : Nat) (p0 : List (Int × Int × Int × Int × Int × Int)) : ∀ s, Le (Fj nE p0 s) (C0 p0 s) := by
  rintro ⟨x4, x5, x6, x7⟩
  unfold Fj C0
  repeat' with_reducible (first | refine Le.orR' ?_ ?_ | refine Le.bind' ?_ ?_ | refine Le.ite' ?_ ?_ | refine Le.loop' ?_ | refine Le.altS' ?_ ?_ | apply GF | exact Le.rfl' _ | (refine Le.pi2 ?_; intro _) | intro _)
def GC (nE : Nat) (p0 : List (Int × Int × Int × Int × Int × Int)) : Option (List (Int × Int × Int × Int × List Int × Int × Int × Int)) := (DX nE (Fj nE p0) (0, [], [], ([] : List (Int × Int)))).bind fun (x1, x2, x3) => (Gf Lp x1).bind fun x10 => some x10
theorem J5 (nE : Nat) (p0 : List (Int × Int × Int × Int × Int × Int)) : Le (GC nE p0) (E3 p0) := by
  unfold GC E3
  repeat' with_reducible (first | refine Le.orR' ?_ ?_ | refine Le.bind' ?_ ?_ | refine Le.ite' ?_ ?_ | refine Le.loop' ?_ | refine Le.altS' ?_ ?_ | apply H4 | exact Le.rfl' _ | (refine Le.pi2 ?_; intro _) | intro _)
def Ed (nE : Nat) (p0 : Int × Int × Int × Int × List Int × Int × Int × Int) : (Int × (List (Int × Unit))) → Option ((Int × (List (Int × Unit))) ⊕ (List (Int × Unit)))
  | (x2, x3) => (if x2 < (p0.2.2.2.2.1.length : Int) then (ix p0.2.2.2.2.1 x2).bind fun x4 => some (.inl (DH (x2 + 1), CY x3 x4 ())) else some (.inr x3))
theorem GI (nE : Nat) (p0 : Int × Int × Int × Int × List Int × Int × Int × Int) : ∀ s, Le (Ed nE p0 s) (Ck p0 s) := by
  rintro ⟨x2, x3⟩
  unfold Ed Ck
  repeat' with_reducible (first | refine Le.orR' ?_ ?_ | refine Le.bind' ?_ ?_ | refine Le.ite' ?_ ?_ | refine Le.loop' ?_ | refine Le.altS' ?_ ?_ | exact Le.rfl' _ | (refine Le.pi2 ?_; intro _) | intro _)
def Fm (nE : Nat) (p0 : Int × Int × Int × Int × List Int × Int × Int × Int) : Option Bool := (DX nE (Ed nE p0) (0, ([] : List (Int × Unit)))).bind fun x1 => some (decide ((x1.length : Int) < (p0.2.2.2.2.1.length : Int)))
theorem Iy (nE : Nat) (p0 : Int × Int × Int × Int × List Int × Int × Int × Int) : Le (Fm nE p0) (C3 p0) := by
  unfold Fm C3
  repeat' with_reducible (first | refine Le.orR' ?_ ?_ | refine Le.bind' ?_ ?_ | refine Le.ite' ?_ ?_ | refine Le.loop' ?_ | refine Le.altS' ?_ ?_ | apply GI | exact Le.rfl' _ | (refine Le.pi2 ?_; intro _) | intro _)
def Bn (nE : Nat) (p0 : List (Int × Int × Int)) (p1c0 : Int) : Int → Option (Int ⊕ (Unit ⊕ Int))
  | x1 => (if x1 < (p0.length : Int) then (ix p0 x1).bind fun x2 => (if (Bh x2 p1c0) = true then some (.inr (.inr x1)) else some (.inl (DH (x1 + 1)))) else some (.inr (.inl ())))
theorem CO (nE : Nat) (p0 : List (Int × Int × Int)) (p1c0 : Int) : ∀ s, Le (Bn nE p0 p1c0 s) (Av p0 p1c0 s) := by
  intro x1
  unfold Bn Av
  repeat' with_reducible (first | refine Le.orR' ?_ ?_ | refine Le.bind' ?_ ?_ | refine Le.ite' ?_ ?_ | refine Le.loop' ?_ | refine Le.altS' ?_ ?_ | exact Le.rfl' _ | (refine Le.pi2 ?_; intro _) | intro _)
def Bu (nE : Nat) (p0 : List (Int × Int × Int)) (p1c0 : Int) : Option Int := D7 (DX nE (Bn nE p0 p1c0) 0) fun _ => some (-1)
theorem CX (nE : Nat) (p0 : List (Int × Int × Int)) (p1c0 : Int) : Le (Bu nE p0 p1c0) (AV p0 p1c0) := by
  unfold Bu AV
  repeat' with_reducible (first | refine Le.orR' ?_ ?_ | refine Le.bind' ?_ ?_ | refine Le.ite' ?_ ?_ | refine Le.loop' ?_ | refine Le.altS' ?_ ?_ | apply CO | exact Le.rfl' _ | (refine Le.pi2 ?_; intro _) | intro _)
def Bm (nE : Nat) (p0 : List (Int × Int × Int)) (p1c0 : Int) : Option Bool := (Bu nE p0 p1c0).bind fun x1 => some (decide (0 ≤ x1))
theorem CM (nE : Nat) (p0 : List (Int × Int × Int)) (p1c0 : Int) : Le (Bm nE p0 p1c0) (AL p0 p1c0) := by
  unfold Bm AL
  repeat' with_reducible (first | refine Le.orR' ?_ ?_ | refine Le.bind' ?_ ?_ | refine Le.ite' ?_ ?_ | refine Le.loop' ?_ | refine Le.altS' ?_ ?_ | apply CX | exact Le.rfl' _ | (refine Le.pi2 ?_; intro _) | intro _)
def CC (nE : Nat) (p0 : (List (Int × Int × Int)) × (List (Int × Int))) (p1 : Int) : Option Bool := (Bm nE p0.1 p1).bind fun x1 => some x1
theorem E5 (nE : Nat) (p0 : (List (Int × Int × Int)) × (List (Int × Int))) (p1 : Int) : Le (CC nE p0 p1) (Be p0 p1) := by
  unfold CC Be
  repeat' with_reducible (first | refine Le.orR' ?_ ?_ | refine Le.bind' ?_ ?_ | refine Le.ite' ?_ ?_ | refine Le.loop' ?_ | refine Le.altS' ?_ ?_ | apply CM | exact Le.rfl' _ | (refine Le.pi2 ?_; intro _) | intro _)
def Cy (nE : Nat) (p1 : Int) (x2 : Int × Int × Int) : Unit → Option (Unit ⊕ Int)
  | _ => (if x2.2.2 < p1 then some (.inr x2.2.1) else some (.inl ()))
theorem EL (nE : Nat) (p1 : Int) (x2 : Int × Int × Int) : ∀ s, Le (Cy nE p1 x2 s) (Bb p1 x2 s) := by
  intro s
  unfold Cy Bb
  repeat' with_reducible (first | refine Le.orR' ?_ ?_ | refine Le.bind' ?_ ?_ | refine Le.ite' ?_ ?_ | refine Le.loop' ?_ | refine Le.altS' ?_ ?_ | exact Le.rfl' _ | (refine Le.pi2 ?_; intro _) | intro _)
def CR (nE : Nat) (p0 : (List (Int × Int × Int)) × (List (Int × Int))) (p1 : Int) : Option Int := (back p0.2).bind fun x1 => D7 (EH (Cy nE p1) x1 ()) fun _ => some 0
theorem Fk (nE : Nat) (p0 : (List (Int × Int × Int)) × (List (Int × Int))) (p1 : Int) : Le (CR nE p0 p1) (Bo p0 p1) := by
  unfold CR Bo
  repeat' with_reducible (first | refine Le.orR' ?_ ?_ | refine Le.bind' ?_ ?_ | refine Le.ite' ?_ ?_ | refine Le.loop' ?_ | refine Le.altS' ?_ ?_ | refine Le.foldW' ?_ _ _ | apply EL | exact Le.rfl' _ | (refine Le.pi2 ?_; intro _) | intro _)
def Ej (nE : Nat) (p0 : Int × (List (Int × Int × Int × Int × Int × Int)) × (List (Int × Int))) : ((List (Int × Int)) × Int) → Option (((List (Int × Int)) × Int) ⊕ (List (Int × Int)))
  | (x2, x3) => (if x3 < (p0.2.1.length : Int) then (ix p0.2.1 x3).bind fun x4 => (FR x2 ([(x4.1, x4.2.1), (x4.2.2.1, x4.2.2.2.1)] : List (Int × Int))).bind fun x5 => some (.inl (x5, DH (x3 + 1))) else some (.inr x2))
theorem Hb (nE : Nat) (p0 : Int × (List (Int × Int × Int × Int × Int × Int)) × (List (Int × Int))) : ∀ s, Le (Ej nE p0 s) (Cl p0 s) := by
  rintro ⟨x2, x3⟩
  unfold Ej Cl
  repeat' with_reducible (first | refine Le.orR' ?_ ?_ | refine Le.bind' ?_ ?_ | refine Le.ite' ?_ ?_ | refine Le.loop' ?_ | refine Le.altS' ?_ ?_ | exact Le.rfl' _ | (refine Le.pi2 ?_; intro _) | intro _)
def Ei (nE : Nat) (p0 : Int × (List (Int × Int × Int × Int × Int × Int)) × (List (Int × Int))) : ((List (Int × Int)) × Int) → Option (((List (Int × Int)) × Int) ⊕ (List (Int × Int)))
  | (x7, x8) => (if x8 < (p0.2.2.length : Int) then (ix p0.2.2 x8).bind fun x9 => (FR x7 ([x9] : List (Int × Int))).bind fun x10 => some (.inl (x10, DH (x8 + 1))) else some (.inr x7))
theorem GU (nE : Nat) (p0 : Int × (List (Int × Int × Int × Int × Int × Int)) × (List (Int × Int))) : ∀ s, Le (Ei nE p0 s) (Ci p0 s) := by
  rintro ⟨x7, x8⟩
  unfold Ei Ci
  repeat' with_reducible (first | refine Le.orR' ?_ ?_ | refine Le.bind' ?_ ?_ | refine Le.ite' ?_ ?_ | refine Le.loop' ?_ | refine Le.altS' ?_ ?_ | exact Le.rfl' _ | (refine Le.pi2 ?_; intro _) | intro _)
def Ft (nE : Nat) (p0 : Int × (List (Int × Int × Int × Int × Int × Int)) × (List (Int × Int))) : Option (List (Int × Int)) := (DX nE (Ej nE p0) ([], 0)).bind fun x1 => (DX nE (Ei nE p0) (x1, 0)).bind fun x6 => some x6
theorem Ix (nE : Nat) (p0 : Int × (List (Int × Int × Int × Int × Int × Int)) × (List (Int × Int))) : Le (Ft nE p0) (Dk p0) := by
  unfold Ft Dk
  repeat' with_reducible (first | refine Le.orR' ?_ ?_ | refine Le.bind' ?_ ?_ | refine Le.ite' ?_ ?_ | refine Le.loop' ?_ | refine Le.altS' ?_ ?_ | apply Hb | apply GU | exact Le.rfl' _ | (refine Le.pi2 ?_; intro _) | intro _)
def BF (nE : Nat) (p0 : List (Int × Int × Int × Int × Int × Int)) : Int → Option (Int ⊕ (Unit ⊕ Int))
  | x1 => (if x1 < (p0.length : Int) then (ix p0 x1).bind fun x2 => (if (Bi x2) = true then some (.inr (.inr x1)) else some (.inl (DH (x1 + 1)))) else some (.inr (.inl ())))
theorem Dh (nE : Nat) (p0 : List (Int × Int × Int × Int × Int × Int)) : ∀ s, Le (BF nE p0 s) (AB p0 s) := by
  intro x1
  unfold BF AB
  repeat' with_reducible (first | refine Le.orR' ?_ ?_ | refine Le.bind' ?_ ?_ | refine Le.ite' ?_ ?_ | refine Le.loop' ?_ | refine Le.altS' ?_ ?_ | exact Le.rfl' _ | (refine Le.pi2 ?_; intro _) | intro _)
def BL (nE : Nat) (p0 : List (Int × Int × Int × Int × Int × Int)) : Option Int := D7 (DX nE (BF nE p0) 0) fun _ => some (-1)
theorem Dt (nE : Nat) (p0 : List (Int × Int × Int × Int × Int × Int)) : Le (BL nE p0) (AY p0) := by
  unfold BL AY
  repeat' with_reducible (first | refine Le.orR' ?_ ?_ | refine Le.bind' ?_ ?_ | refine Le.ite' ?_ ?_ | refine Le.loop' ?_ | refine Le.altS' ?_ ?_ | apply Dh | exact Le.rfl' _ | (refine Le.pi2 ?_; intro _) | intro _)
def BG (nE : Nat) (p0 : List (Int × Int × Int × Int × Int × Int)) : Option Bool := (BL nE p0).bind fun x1 => some (decide (0 ≤ x1))
theorem Di (nE : Nat) (p0 : List (Int × Int × Int × Int × Int × Int)) : Le (BG nE p0) (AO p0) := by
  unfold BG AO
  repeat' with_reducible (first | refine Le.orR' ?_ ?_ | refine Le.bind' ?_ ?_ | refine Le.ite' ?_ ?_ | refine Le.loop' ?_ | refine Le.altS' ?_ ?_ | apply Dt | exact Le.rfl' _ | (refine Le.pi2 ?_; intro _) | intro _)
def Ey (nE : Nat) (p0 : Int × (List (Int × Int × Int × Int × Int × Int)) × (List (Int × Int))) (x2 : (List (Int × Int))) : (Int × (List ((Int × Int) × Unit))) → Option ((Int × (List ((Int × Int) × Unit))) ⊕ ((List ((Int × Int) × Unit)) ⊕ Bool))
  | (x3, x4) => (if x3 < (x2.length : Int) then (ix x2 x3).bind fun x5 => (if (decide (x5.1 < 0) || (decide (p0.1 ≤ x5.1) || (decide (x5.2 < 0) || decide (8 ≤ x5.2)))) = true then some (.inr (.inr false)) else (if ((CE x4 x5).isSome) = true then some (.inr (.inr false)) else some (.inl (DH (x3 + 1), CY x4 x5 ())))) else some (.inr (.inl x4)))
theorem Hi (nE : Nat) (p0 : Int × (List (Int × Int × Int × Int × Int × Int)) × (List (Int × Int))) (x2 : (List (Int × Int))) : ∀ s, Le (Ey nE p0 x2 s) (BP p0 x2 s) := by
  rintro ⟨x3, x4⟩
  unfold Ey BP
  repeat' with_reducible (first | refine Le.orR' ?_ ?_ | refine Le.bind' ?_ ?_ | refine Le.ite' ?_ ?_ | refine Le.loop' ?_ | refine Le.altS' ?_ ?_ | exact Le.rfl' _ | (refine Le.pi2 ?_; intro _) | intro _)
def FT (nE : Nat) (p0 : Int × (List (Int × Int × Int × Int × Int × Int)) × (List (Int × Int))) : Option Bool := (if (decide (p0.1 < 1) || (decide (8 < p0.1) || (decide (24 < (p0.2.1.length : Int)) || decide (8 < (p0.2.2.length : Int))))) = true then some false else D7 ((Ft nE p0).bind fun x2 => DX nE (Ey nE p0 x2) (0, ([] : List ((Int × Int) × Unit)))) fun x1 => (BG nE p0.2.1).bind fun x6 => some (!x6))
theorem I3 (nE : Nat) (p0 : Int × (List (Int × Int × Int × Int × Int × Int)) × (List (Int × Int))) : Le (FT nE p0) (DI p0) := by
  unfold FT DI
  repeat' with_reducible (first | refine Le.orR' ?_ ?_ | refine Le.bind' ?_ ?_ | refine Le.ite' ?_ ?_ | refine Le.loop' ?_ | refine Le.altS' ?_ ?_ | apply Ix | apply Di | apply Hi | exact Le.rfl' _ | (refine Le.pi2 ?_; intro _) | intro _)
def Ch (nE : Nat) (p0 : List Int) : Int → Option (Int ⊕ (Unit ⊕ Int))
  | x1 => (if x1 < (p0.length : Int) then (ix p0 x1).bind fun x2 => (if (B7 x2) = true then some (.inr (.inr x1)) else some (.inl (DH (x1 + 1)))) else some (.inr (.inl ())))
theorem Eh (nE : Nat) (p0 : List Int) : ∀ s, Le (Ch nE p0 s) (AR p0 s) := by
  intro x1
  unfold Ch AR
  repeat' with_reducible (first | refine Le.orR' ?_ ?_ | refine Le.bind' ?_ ?_ | refine Le.ite' ?_ ?_ | refine Le.loop' ?_ | refine Le.altS' ?_ ?_ | exact Le.rfl' _ | (refine Le.pi2 ?_; intro _) | intro _)
def CB (nE : Nat) (p0 : List Int) : Option Int := D7 (DX nE (Ch nE p0) 0) fun _ => some (-1)
theorem EM (nE : Nat) (p0 : List Int) : Le (CB nE p0) (BB p0) := by
  unfold CB BB
  repeat' with_reducible (first | refine Le.orR' ?_ ?_ | refine Le.bind' ?_ ?_ | refine Le.ite' ?_ ?_ | refine Le.loop' ?_ | refine Le.altS' ?_ ?_ | apply Eh | exact Le.rfl' _ | (refine Le.pi2 ?_; intro _) | intro _)
def Cg (nE : Nat) (p0 : List Int) : Option Bool := (CB nE p0).bind fun x1 => some (decide (0 ≤ x1))
theorem Ee (nE : Nat) (p0 : List Int) : Le (Cg nE p0) (Ba p0) := by
  unfold Cg Ba
  repeat' with_reducible (first | refine Le.orR' ?_ ?_ | refine Le.bind' ?_ ?_ | refine Le.ite' ?_ ?_ | refine Le.loop' ?_ | refine Le.altS' ?_ ?_ | apply EM | exact Le.rfl' _ | (refine Le.pi2 ?_; intro _) | intro _)
def El (nE : Nat) (p0 : Int × (List (Int × Int × Int × Int × Int × Int)) × (List (Int × Int))) (p1 : List (List Int)) : Int → Option (Int ⊕ (Unit ⊕ Bool))
  | x3 => (if x3 < (p1.length : Int) then (ix p1 x3).bind fun x4 => (if (x4.length : Int) ≠ (p0.2.2.length : Int) then some true else (Cg nE x4).bind fun x6 => some x6).bind fun x5 => (if x5 = true then some (.inr (.inr false)) else some (.inl (DH (x3 + 1)))) else some (.inr (.inl ())))
theorem GQ (nE : Nat) (p0 : Int × (List (Int × Int × Int × Int × Int × Int)) × (List (Int × Int))) (p1 : List (List Int)) : ∀ s, Le (El nE p0 p1 s) (CA p0 p1 s) := by
  intro x3
  unfold El CA
  repeat' with_reducible (first | refine Le.orR' ?_ ?_ | refine Le.bind' ?_ ?_ | refine Le.ite' ?_ ?_ | refine Le.loop' ?_ | refine Le.altS' ?_ ?_ | apply Ee | exact Le.rfl' _ | (refine Le.pi2 ?_; intro _) | intro _)
def Fp (nE : Nat) (p0 : Int × (List (Int × Int × Int × Int × Int × Int)) × (List (Int × Int))) (p1 : List (List Int)) : Option Bool := ((FT nE p0).bind fun x2 => (if (!x2) = true then some true else some (decide ((p1.length : Int) ≠ p0.1)))).bind fun x1 => (if x1 = true then some false else D7 (DX nE (El nE p0 p1) 0) fun _ => some true)
theorem Ig (nE : Nat) (p0 : Int × (List (Int × Int × Int × Int × Int × Int)) × (List (Int × Int))) (p1 : List (List Int)) : Le (Fp nE p0 p1) (Dl p0 p1) := by
  unfold Fp Dl
  repeat' with_reducible (first | refine Le.orR' ?_ ?_ | refine Le.bind' ?_ ?_ | refine Le.ite' ?_ ?_ | refine Le.loop' ?_ | refine Le.altS' ?_ ?_ | apply I3 | apply GQ | exact Le.rfl' _ | (refine Le.pi2 ?_; intro _) | intro _)
def BT (nE : Nat) (p0 : List (Int × Int)) (p1 : Int × Int) : Int → Option (Int ⊕ (Unit ⊕ Int))
  | x1 => (if x1 < (p0.length : Int) then (ix p0 x1).bind fun x2 => (if p1.1 = x2.1 ∧ p1.2 = x2.2 then some (.inr (.inr x1)) else some (.inl (DH (x1 + 1)))) else some (.inr (.inl ())))
theorem Dy (nE : Nat) (p0 : List (Int × Int)) (p1 : Int × Int) : ∀ s, Le (BT nE p0 p1 s) (AE p0 p1 s) := by
  intro x1
  unfold BT AE
  repeat' with_reducible (first | refine Le.orR' ?_ ?_ | refine Le.bind' ?_ ?_ | refine Le.ite' ?_ ?_ | refine Le.loop' ?_ | refine Le.altS' ?_ ?_ | exact Le.rfl' _ | (refine Le.pi2 ?_; intro _) | intro _)
def B4 (nE : Nat) (p0 : List (Int × Int)) (p1 : Int × Int) : Option Int := D7 (DX nE (BT nE p0 p1) 0) fun _ => some (-1)
theorem DR (nE : Nat) (p0 : List (Int × Int)) (p1 : Int × Int) : Le (B4 nE p0 p1) (Bc p0 p1) := by
  unfold B4 Bc
  repeat' with_reducible (first | refine Le.orR' ?_ ?_ | refine Le.bind' ?_ ?_ | refine Le.ite' ?_ ?_ | refine Le.loop' ?_ | refine Le.altS' ?_ ?_ | apply Dy | exact Le.rfl' _ | (refine Le.pi2 ?_; intro _) | intro _)
def Fi (nE : Nat) (p0 : Int × (List (Int × Int × Int × Int × Int × Int)) × (List (Int × Int))) (p1 : Int) (p2 : Int) : Option Int := (B4 nE p0.2.2 (p1, p2)).bind fun x1 => some x1
theorem II (nE : Nat) (p0 : Int × (List (Int × Int × Int × Int × Int × Int)) × (List (Int × Int))) (p1 : Int) (p2 : Int) : Le (Fi nE p0 p1 p2) (C2 p0 p1 p2) := by
  unfold Fi C2
  repeat' with_reducible (first | refine Le.orR' ?_ ?_ | refine Le.bind' ?_ ?_ | refine Le.ite' ?_ ?_ | refine Le.loop' ?_ | refine Le.altS' ?_ ?_ | apply DR | exact Le.rfl' _ | (refine Le.pi2 ?_; intro _) | intro _)
def E2 (nE : Nat) (p0 : Int × (List (Int × Int × Int × Int × Int × Int)) × (List (Int × Int))) (p1 : Int) (p2 : Int) : Int → Option (Int ⊕ (Unit ⊕ (Int × Int × Int × Bool)))
  | x1 => (if x1 < (p0.2.1.length : Int) then (ix p0.2.1 x1).bind fun x2 => (if p1 = x2.1 ∧ p2 = x2.2.1 then some (.inr (.inr (x2.2.2.1, x2.2.2.2.1, x1, true))) else (if p1 = x2.2.2.1 ∧ p2 = x2.2.2.2.1 then some (.inr (.inr (x2.1, x2.2.1, x1, true))) else some (.inl (DH (x1 + 1))))) else some (.inr (.inl ())))
theorem HN (nE : Nat) (p0 : Int × (List (Int × Int × Int × Int × Int × Int)) × (List (Int × Int))) (p1 : Int) (p2 : Int) : ∀ s, Le (E2 nE p0 p1 p2 s) (BU p0 p1 p2 s) := by
  intro x1
  unfold E2 BU
  repeat' with_reducible (first | refine Le.orR' ?_ ?_ | refine Le.bind' ?_ ?_ | refine Le.ite' ?_ ?_ | refine Le.loop' ?_ | refine Le.altS' ?_ ?_ | exact Le.rfl' _ | (refine Le.pi2 ?_; intro _) | intro _)
def F8 (nE : Nat) (p0 : Int × (List (Int × Int × Int × Int × Int × Int)) × (List (Int × Int))) (p1 : Int) (p2 : Int) : Option (Int × Int × Int × Bool) := D7 (DX nE (E2 nE p0 p1 p2) 0) fun _ => some (0, 0, 0, false)
theorem JR (nE : Nat) (p0 : Int × (List (Int × Int × Int × Int × Int × Int)) × (List (Int × Int))) (p1 : Int) (p2 : Int) : Le (F8 nE p0 p1 p2) (CU p0 p1 p2) := by
  unfold F8 CU
  repeat' with_reducible (first | refine Le.orR' ?_ ?_ | refine Le.bind' ?_ ?_ | refine Le.ite' ?_ ?_ | refine Le.loop' ?_ | refine Le.altS' ?_ ?_ | apply HN | exact Le.rfl' _ | (refine Le.pi2 ?_; intro _) | intro _)
def FH (nE : Nat) (p0 : Int × (List (Int × Int × Int × Int × Int × Int)) × (List (Int × Int))) (p1 : List (List Int)) (p2 : Int) (p3 : Int) : Option (Int × Bool) := (if p2 < 0 then some true else (if (p1.length : Int) ≤ p2 then some true else (if p3 < 0 then some true else (ix p1 p2).bind fun x2 => some (decide ((x2.length : Int) ≤ p3))))).bind fun x1 => (if x1 = true then some (0, false) else (ix p1 p2).bind fun x3 => (ix x3 p3).bind fun x4 => (F8 nE p0 p2 x4).bind fun x5 => some (x5.1, x5.2.2.2))
theorem IQ (nE : Nat) (p0 : Int × (List (Int × Int × Int × Int × Int × Int)) × (List (Int × Int))) (p1 : List (List Int)) (p2 : Int) (p3 : Int) : Le (FH nE p0 p1 p2 p3) (DK p0 p1 p2 p3) := by
  unfold FH DK
  repeat' with_reducible (first | refine Le.orR' ?_ ?_ | refine Le.bind' ?_ ?_ | refine Le.ite' ?_ ?_ | refine Le.loop' ?_ | refine Le.altS' ?_ ?_ | apply JR | exact Le.rfl' _ | (refine Le.pi2 ?_; intro _) | intro _)
def CV (nE : Nat) (p0 : List Int) (p1 : Int) : Int → Option (Int ⊕ (Unit ⊕ Bool))
  | x1 => (if x1 < (p0.length : Int) then (ix p0 x1).bind fun x2 => (if p1 = x2 then some (.inr (.inr true)) else some (.inl (DH (x1 + 1)))) else some (.inr (.inl ())))
theorem Fo (nE : Nat) (p0 : List Int) (p1 : Int) : ∀ s, Le (CV nE p0 p1 s) (BC p0 p1 s) := by
  intro x1
  unfold CV BC
  repeat' with_reducible (first | refine Le.orR' ?_ ?_ | refine Le.bind' ?_ ?_ | refine Le.ite' ?_ ?_ | refine Le.loop' ?_ | refine Le.altS' ?_ ?_ | exact Le.rfl' _ | (refine Le.pi2 ?_; intro _) | intro _)
def Dm (nE : Nat) (p0 : List Int) (p1 : Int) : Option Bool := D7 (DX nE (CV nE p0 p1) 0) fun _ => some false
theorem FY (nE : Nat) (p0 : List Int) (p1 : Int) : Le (Dm nE p0 p1) (BV p0 p1) := by
  unfold Dm BV
  repeat' with_reducible (first | refine Le.orR' ?_ ?_ | refine Le.bind' ?_ ?_ | refine Le.ite' ?_ ?_ | refine Le.loop' ?_ | refine Le.altS' ?_ ?_ | apply Fo | exact Le.rfl' _ | (refine Le.pi2 ?_; intro _) | intro _)
def EB (nE : Nat) (p0 : Int × (List (Int × Int × Int × Int × Int × Int)) × (List (Int × Int))) (p1 : List (List Int)) (p3 : Int) : (Int × List Int) → Option ((Int × List Int) ⊕ ((List Int) ⊕ (List Int × Int)))
  | (x2, x3) => (ix p1 x2).bind fun x4 => (ix x4 p3).bind fun x5 => (Fi nE p0 x2 x5).bind fun x6 => (if x6 ≠ p3 then (FH nE p0 p1 x2 p3).bind fun x7 => (if (!x7.2) = true then some (.inr (.inr (([] : List Int), 13))) else (Dm nE x3 x7.1).bind fun x8 => (if x8 = true then some (.inr (.inr (([] : List Int), 12))) else (FR x3 ([x7.1] : List Int)).bind fun x9 => some (.inl (x7.1, x9)))) else some (.inr (.inl x3)))
theorem Ho (nE : Nat) (p0 : Int × (List (Int × Int × Int × Int × Int × Int)) × (List (Int × Int))) (p1 : List (List Int)) (p3 : Int) : ∀ s, Le (EB nE p0 p1 p3 s) (Ce p0 p1 p3 s) := by
  rintro ⟨x2, x3⟩
  unfold EB Ce
  repeat' with_reducible (first | refine Le.orR' ?_ ?_ | refine Le.bind' ?_ ?_ | refine Le.ite' ?_ ?_ | refine Le.loop' ?_ | refine Le.altS' ?_ ?_ | apply II | apply IQ | apply FY | exact Le.rfl' _ | (refine Le.pi2 ?_; intro _) | intro _)
def FP (nE : Nat) (p0 : Int × (List (Int × Int × Int × Int × Int × Int)) × (List (Int × Int))) (p1 : List (List Int)) (p2 : Int) (p3 : Int) : Option (List Int × Int) := D7 (DX nE (EB nE p0 p1 p3) (p2, ([p2] : List Int))) fun x1 => some (x1, 0)
theorem I2 (nE : Nat) (p0 : Int × (List (Int × Int × Int × Int × Int × Int)) × (List (Int × Int))) (p1 : List (List Int)) (p2 : Int) (p3 : Int) : Le (FP nE p0 p1 p2 p3) (DF p0 p1 p2 p3) := by
  unfold FP DF
  repeat' with_reducible (first | refine Le.orR' ?_ ?_ | refine Le.bind' ?_ ?_ | refine Le.ite' ?_ ?_ | refine Le.loop' ?_ | refine Le.altS' ?_ ?_ | apply Ho | exact Le.rfl' _ | (refine Le.pi2 ?_; intro _) | intro _)
def FO (nE : Nat) (p0 : Int × (List (Int × Int × Int × Int × Int × Int)) × (List (Int × Int))) (p1 : List (List Int)) (p2 : Int) (p3 : Int) : Option (List Int × Int) := ((Fp nE p0 p1).bind fun x2 => (if (!x2) = true then some true else (if p2 < 0 then some true else (if p0.1 ≤ p2 then some true else (if p3 < 0 then some true else some (decide ((p0.2.2.length : Int) ≤ p3))))))).bind fun x1 => (if x1 = true then some (([] : List Int), 2) else (FP nE p0 p1 p2 p3).bind fun x3 => some (x3.1, x3.2))
theorem IP (nE : Nat) (p0 : Int × (List (Int × Int × Int × Int × Int × Int)) × (List (Int × Int))) (p1 : List (List Int)) (p2 : Int) (p3 : Int) : Le (FO nE p0 p1 p2 p3) (Ca p0 p1 p2 p3) := by
  unfold FO Ca
  repeat' with_reducible (first | refine Le.orR' ?_ ?_ | refine Le.bind' ?_ ?_ | refine Le.ite' ?_ ?_ | refine Le.loop' ?_ | refine Le.altS' ?_ ?_ | apply Ig | apply I2 | exact Le.rfl' _ | (refine Le.pi2 ?_; intro _) | intro _)
def CD (nE : Nat) (p0 : List Int) (p1 : List Int) : Int → Option (Int ⊕ (Unit ⊕ Bool))
  | x1 => (if x1 < (p0.length : Int) then (ix p0 x1).bind fun x2 => (ix p1 x1).bind fun x3 => (if x2 ≠ x3 then some (.inr (.inr false)) else some (.inl (DH (x1 + 1)))) else some (.inr (.inl ())))
theorem EX (nE : Nat) (p0 : List Int) (p1 : List Int) : ∀ s, Le (CD nE p0 p1 s) (Bd p0 p1 s) := by
  intro x1
  unfold CD Bd
  repeat' with_reducible (first | refine Le.orR' ?_ ?_ | refine Le.bind' ?_ ?_ | refine Le.ite' ?_ ?_ | refine Le.loop' ?_ | refine Le.altS' ?_ ?_ | exact Le.rfl' _ | (refine Le.pi2 ?_; intro _) | intro _)
def C8 (nE : Nat) (p0 : List Int) (p1 : List Int) : Option Bool := (if (p0.length : Int) ≠ (p1.length : Int) then some false else D7 (DX nE (CD nE p0 p1) 0) fun _ => some true)
theorem Fu (nE : Nat) (p0 : List Int) (p1 : List Int) : Le (C8 nE p0 p1) (BH p0 p1) := by
  unfold C8 BH
  repeat' with_reducible (first | refine Le.orR' ?_ ?_ | refine Le.bind' ?_ ?_ | refine Le.ite' ?_ ?_ | refine Le.loop' ?_ | refine Le.altS' ?_ ?_ | apply EX | exact Le.rfl' _ | (refine Le.pi2 ?_; intro _) | intro _)
def EA (nE : Nat) (p0 : Int × (List (Int × Int × Int × Int × Int × Int)) × (List (Int × Int))) (p1 : List (List (List Int))) (p2 : Int) (p3 : Int × Int × Int × Int × List Int × Int × Int × Int) : Option Bool := (if (decide (p2 < 0) || decide ((p1.length : Int) ≤ p2)) = true then some false else (ix p1 p2).bind fun x1 => (ix p3.2.2.2.2.1 0).bind fun x2 => (FO nE p0 x1 x2 p3.2.2.1).bind fun x3 => (if x3.2 ≠ 0 then some false else (if (decide (p3.2.2.2.2.2.1 = 0) && decide ((p3.2.2.2.2.1.length : Int) < (x3.1.length : Int))) = true then (Hc x3.1 0 (p3.2.2.2.2.1.length : Int)).bind fun x5 => some x5 else some x3.1).bind fun x4 => (C8 nE p3.2.2.2.2.1 x4).bind fun x6 => some x6))
theorem Hp (nE : Nat) (p0 : Int × (List (Int × Int × Int × Int × Int × Int)) × (List (Int × Int))) (p1 : List (List (List Int))) (p2 : Int) (p3 : Int × Int × Int × Int × List Int × Int × Int × Int) : Le (EA nE p0 p1 p2 p3) (BS p0 p1 p2 p3) := by
  unfold EA BS
  repeat' with_reducible (first | refine Le.orR' ?_ ?_ | refine Le.bind' ?_ ?_ | refine Le.ite' ?_ ?_ | refine Le.loop' ?_ | refine Le.altS' ?_ ?_ | apply IP | apply Fu | exact Le.rfl' _ | (refine Le.pi2 ?_; intro _) | intro _)
def Ef (nE : Nat) (p0 : Int × (List (Int × Int × Int × Int × Int × Int)) × (List (Int × Int))) (p1 : List (List (List Int))) (x1 : ((List (Int × Int × Int)) × (List (Int × Int)))) (x3 : (List (Int × Int × Int × Int × List Int × Int × Int × Int))) : ((List (Int × Int)) × Int) → Option (((List (Int × Int)) × Int) ⊕ (List (Int × Int)))
  | (x4, x5) => (if x5 < (x3.length : Int) then ((ix x3 x5).bind fun x7 => ((Fm nE x7).bind fun x9 => (if x9 = true then (FR x4 ([(1, x7.1)] : List (Int × Int))).bind fun x10 => some x10 else some x4)).bind fun x8 => (if x7.2.2.2.2.2.1 = 4 then (FR x8 ([(2, x7.1)] : List (Int × Int))).bind fun x12 => some x12 else some x8).bind fun x11 => (if (decide (x7.2.2.2.2.2.1 = 3) && decide (x7.2.2.2.2.2.2.1 ≠ x7.2.2.1)) = true then (FR x11 ([(3, x7.1)] : List (Int × Int))).bind fun x14 => some x14 else some x11).bind fun x13 => (if 0 < (x7.2.2.2.2.1.length : Int) then (CC nE x1 x7.2.2.2.1).bind fun x16 => (if (!x16) = true then (CR nE x1 x7.2.2.2.1).bind fun x17 => (EA nE p0 p1 x17 x7).bind fun x18 => some (!x18) else some false) else some false).bind fun x15 => (if x15 = true then (FR x13 ([(4, x7.1)] : List (Int × Int))).bind fun x19 => some x19 else some x13)).bind fun x6 => some (.inl (x6, DH (x5 + 1))) else some (.inr x4))
theorem GH (nE : Nat) (p0 : Int × (List (Int × Int × Int × Int × Int × Int)) × (List (Int × Int))) (p1 : List (List (List Int))) (x1 : ((List (Int × Int × Int)) × (List (Int × Int)))) (x3 : (List (Int × Int × Int × Int × List Int × Int × Int × Int))) : ∀ s, Le (Ef nE p0 p1 x1 x3 s) (B5 p0 p1 x1 x3 s) := by
  rintro ⟨x4, x5⟩
  unfold Ef B5
  repeat' with_reducible (first | refine Le.orR' ?_ ?_ | refine Le.bind' ?_ ?_ | refine Le.ite' ?_ ?_ | refine Le.loop' ?_ | refine Le.altS' ?_ ?_ | apply Iy | apply E5 | apply Fk | apply Hp | exact Le.rfl' _ | (refine Le.pi2 ?_; intro _) | intro _)
def Eo (nE : Nat) (p0 : Int × (List (Int × Int × Int × Int × Int × Int)) × (List (Int × Int))) (p1 : List (List (List Int))) (p2 : List (Int × Int × Int × Int × Int × Int)) : Option (List (Int × Int)) := (FQ nE p2).bind fun x1 => ((GC nE p2).bind fun x3 => DX nE (Ef nE p0 p1 x1 x3) ([], 0)).bind fun x2 => some x2
theorem Iw (nE : Nat) (p0 : Int × (List (Int × Int × Int × Int × Int × Int)) × (List (Int × Int))) (p1 : List (List (List Int))) (p2 : List (Int × Int × Int × Int × Int × Int)) : Le (Eo nE p0 p1 p2) (BN p0 p1 p2) := by
  unfold Eo BN
  repeat' with_reducible (first | refine Le.orR' ?_ ?_ | refine Le.bind' ?_ ?_ | refine Le.ite' ?_ ?_ | refine Le.loop' ?_ | refine Le.altS' ?_ ?_ | apply IK | apply J5 | apply GH | exact Le.rfl' _ | (refine Le.pi2 ?_; intro _) | intro _)
def Hy (nE : Nat)  : Option Bool := (Eo nE (1, ([] : List (Int × Int × Int × Int × Int × Int)), ([(0, 3)] : List (Int × Int))) ([([([3] : List Int)] : List (List Int))] : List (List (List Int))) ([(1, 0, 4, 0, 0, 0), (4, 0, 4, 0, 0, 0)] : List (Int × Int × Int × Int × Int × Int))).bind fun x1 => ((Eo nE (1, ([] : List (Int × Int × Int × Int × Int × Int)), ([(0, 3)] : List (Int × Int))) ([([([3] : List Int)] : List (List Int))] : List (List (List Int))) ([(1, 0, 0, 0, 0, 0), (2, 0, 0, 0, 0, 0), (3, 0, 0, 0, 0, 0)] : List (Int × Int × Int × Int × Int × Int))).bind fun x3 => (if (x3.length : Int) = 0 then (if (x1.length : Int) = 1 then (ix x1 0).bind fun x4 => (if x4.1 = 2 ∧ x4.2 = 4 then some (decide ((Eg 2) = ([108, 111, 115, 116] : List UInt8))) else some false) else some false) else some false)).bind fun x2 => some x2
theorem JG (nE : Nat)  : Le (Hy nE ) (DP ) := by
  unfold Hy DP
  repeat' with_reducible (first | refine Le.orR' ?_ ?_ | refine Le.bind' ?_ ?_ | refine Le.ite' ?_ ?_ | refine Le.loop' ?_ | refine Le.altS' ?_ ?_ | apply Iw | exact Le.rfl' _ | (refine Le.pi2 ?_; intro _) | intro _)
theorem Nz : DP = some true := JG 60 _ (by kernel_rfl)
end Go.Proofs.Ytflaelbmglmmcaa
