/- Twins with fuel of G0 functions: what a twin answers, the function answers. Conditions: none. -/
import Derived.Test.YtieebnllkjmjiaabLP
import Derived.Test.YtieebnllkjmjiaabA4
namespace Go.Proofs.Ytieebnllkjmjiaa
open Go Go.RowKit
set_option linter.unusedVariables false
set_option linter.unusedSimpArgs false
set_option maxRecDepth 20000
set_option maxHeartbeats 1600000
abbrev Le {α : Type} (a b : Option α) : Prop := ∀ r, a = some r → b = some r
theorem Le.rfl' {α : Type} (a : Option α) : Le a a := fun _ h => h
theorem Le.bind' {α β : Type} {a b : Option α} {f g : α → Option β} (h : Le a b) (hf : ∀ x, Le (f x) (g x)) : Le (a.bind f) (b.bind g) := fun r e => by
  obtain ⟨x, h1, h2⟩ := Am e
  rw [h x h1, Option.bind_some]; exact hf x r h2
theorem Le.ite' {α : Type} {c : Prop} [Decidable c] {a a' b b' : Option α} (h1 : Le a a') (h2 : Le b b') : Le (if c then a else b) (if c then a' else b') := fun r e => by
  by_cases h : c
  · rw [if_pos h] at e ⊢; exact h1 r e
  · rw [if_neg h] at e ⊢; exact h2 r e
theorem Le.orR' {α β : Type} {a b : Option (α ⊕ β)} {f g : α → Option β} (h : Le a b) (hf : ∀ x, Le (f x) (g x)) : Le (Fv a f) (Fv b g) :=
  Le.bind' h fun x => by
    cases x with
    | inl t => exact hf t
    | inr e => exact Le.rfl' _
def Fi {σ ε : Type} (n : Nat) (step : σ → Option (σ ⊕ ε)) (s : σ) : Option ε := CX step n s
theorem Jk {σ ε : Type} {S T : σ → Option (σ ⊕ ε)} (h : ∀ s, Le (S s) (T s)) : ∀ (n : Nat) (s : σ), Le (CX S n s) (CX T n s)
  | 0, s => Le.rfl' _
  | n + 1, s => fun r e => by
    unfold CX at e ⊢
    cases hs : S s with
    | none => rw [hs] at e; cases e
    | some q =>
      rw [hs] at e; rw [h s q hs]
      cases q with
      | inl s' => exact Jk h n s' r e
      | inr _ => exact e
theorem Le.loop' {σ ε : Type} {n : Nat} {S T : σ → Option (σ ⊕ ε)} {s : σ} (h : ∀ s, Le (S s) (T s)) : Le (Fi n S s) (AA T s) := fun r e => B8.2 ⟨n, Jk h n s r e⟩
theorem Le.pi2 {α β γ : Type} {f g : α × β → Option γ} (h : ∀ a b, Le (f (a, b)) (g (a, b))) : ∀ x, Le (f x) (g x) := fun x => h x.1 x.2
theorem Le.altS' {α β γ : Type} {y : α ⊕ β} {f f' : α → Option γ} {g g' : β → Option γ} (h : ∀ x, Le (f x) (f' x)) (k : ∀ x, Le (g x) (g' x)) : Le (QB y f g) (QB y f' g') := by
  cases y with
  | inl x => exact h x
  | inr x => exact k x
def El (nE : Nat) (p0 : Int × (List (Int × Int × Int × Int × Int × Int)) × (List (Int × Int))) : ((List (Int × Int)) × Int) → Option (((List (Int × Int)) × Int) ⊕ (List (Int × Int)))
  | (x2, x3) => (if x3 < (p0.2.1.length : Int) then (ix p0.2.1 x3).bind fun x4 => (IQ x2 ([(x4.1, x4.2.1), (x4.2.2.1, x4.2.2.2.1)] : List (Int × Int))).bind fun x5 => some (.inl (x5, BV (x3 + 1))) else some (.inr x2))
theorem Hl (nE : Nat) (p0 : Int × (List (Int × Int × Int × Int × Int × Int)) × (List (Int × Int))) : ∀ s, Le (El nE p0 s) (B1 p0 s) := by
  rintro ⟨x2, x3⟩
  unfold El B1
  repeat' with_reducible (first | refine Le.orR' ?_ ?_ | refine Le.bind' ?_ ?_ | refine Le.ite' ?_ ?_ | refine Le.loop' ?_ | refine Le.altS' ?_ ?_ | exact Le.rfl' _ | (refine Le.pi2 ?_; intro _) | intro _)
def Es (nE : Nat) (p0 : Int × (List (Int × Int × Int × Int × Int × Int)) × (List (Int × Int))) : ((List (Int × Int)) × Int) → Option (((List (Int × Int)) × Int) ⊕ (List (Int × Int)))
  | (x7, x8) => (if x8 < (p0.2.2.length : Int) then (ix p0.2.2 x8).bind fun x9 => (IQ x7 ([x9] : List (Int × Int))).bind fun x10 => some (.inl (x10, BV (x8 + 1))) else some (.inr x7))
theorem HR (nE : Nat) (p0 : Int × (List (Int × Int × Int × Int × Int × Int)) × (List (Int × Int))) : ∀ s, Le (Es nE p0 s) (B3 p0 s) := by
  rintro ⟨x7, x8⟩
  unfold Es B3
  repeat' with_reducible (first | refine Le.orR' ?_ ?_ | refine Le.bind' ?_ ?_ | refine Le.ite' ?_ ?_ | refine Le.loop' ?_ | refine Le.altS' ?_ ?_ | exact Le.rfl' _ | (refine Le.pi2 ?_; intro _) | intro _)
def Fj (nE : Nat) (p0 : Int × (List (Int × Int × Int × Int × Int × Int)) × (List (Int × Int))) : Option (List (Int × Int)) := (Fi nE (El nE p0) ([], 0)).bind fun x1 => (Fi nE (Es nE p0) (x1, 0)).bind fun x6 => some x6
theorem Js (nE : Nat) (p0 : Int × (List (Int × Int × Int × Int × Int × Int)) × (List (Int × Int))) : Le (Fj nE p0) (Db p0) := by
  unfold Fj Db
  repeat' with_reducible (first | refine Le.orR' ?_ ?_ | refine Le.bind' ?_ ?_ | refine Le.ite' ?_ ?_ | refine Le.loop' ?_ | refine Le.altS' ?_ ?_ | apply Hl | apply HR | exact Le.rfl' _ | (refine Le.pi2 ?_; intro _) | intro _)
def Bw (nE : Nat) (p0 : List (Int × Int × Int × Int × Int × Int)) : Int → Option (Int ⊕ (Unit ⊕ Int))
  | x1 => (if x1 < (p0.length : Int) then (ix p0 x1).bind fun x2 => (if (Bf x2) = true then some (.inr (.inr x1)) else some (.inl (BV (x1 + 1)))) else some (.inr (.inl ())))
theorem C3 (nE : Nat) (p0 : List (Int × Int × Int × Int × Int × Int)) : ∀ s, Le (Bw nE p0 s) (AD p0 s) := by
  intro x1
  unfold Bw AD
  repeat' with_reducible (first | refine Le.orR' ?_ ?_ | refine Le.bind' ?_ ?_ | refine Le.ite' ?_ ?_ | refine Le.loop' ?_ | refine Le.altS' ?_ ?_ | exact Le.rfl' _ | (refine Le.pi2 ?_; intro _) | intro _)
def BD (nE : Nat) (p0 : List (Int × Int × Int × Int × Int × Int)) : Option Int := Fv (Fi nE (Bw nE p0) 0) fun _ => some (-1)
theorem Dw (nE : Nat) (p0 : List (Int × Int × Int × Int × Int × Int)) : Le (BD nE p0) (A2 p0) := by
  unfold BD A2
  repeat' with_reducible (first | refine Le.orR' ?_ ?_ | refine Le.bind' ?_ ?_ | refine Le.ite' ?_ ?_ | refine Le.loop' ?_ | refine Le.altS' ?_ ?_ | apply C3 | exact Le.rfl' _ | (refine Le.pi2 ?_; intro _) | intro _)
def Bv (nE : Nat) (p0 : List (Int × Int × Int × Int × Int × Int)) : Option Bool := (BD nE p0).bind fun x1 => some (decide (0 ≤ x1))
theorem C2 (nE : Nat) (p0 : List (Int × Int × Int × Int × Int × Int)) : Le (Bv nE p0) (AS p0) := by
  unfold Bv AS
  repeat' with_reducible (first | refine Le.orR' ?_ ?_ | refine Le.bind' ?_ ?_ | refine Le.ite' ?_ ?_ | refine Le.loop' ?_ | refine Le.altS' ?_ ?_ | apply Dw | exact Le.rfl' _ | (refine Le.pi2 ?_; intro _) | intro _)
def EL (nE : Nat) (p0 : Int × (List (Int × Int × Int × Int × Int × Int)) × (List (Int × Int))) (x2 : (List (Int × Int))) : (Int × (List ((Int × Int) × Unit))) → Option ((Int × (List ((Int × Int) × Unit))) ⊕ ((List ((Int × Int) × Unit)) ⊕ Bool))
  | (x3, x4) => (if x3 < (x2.length : Int) then (ix x2 x3).bind fun x5 => (if (decide (x5.1 < 0) || (decide (p0.1 ≤ x5.1) || (decide (x5.2 < 0) || decide (8 ≤ x5.2)))) = true then some (.inr (.inr false)) else (if ((Ic x4 x5).isSome) = true then some (.inr (.inr false)) else some (.inl (BV (x3 + 1), Ij x4 x5 ())))) else some (.inr (.inl x4)))
theorem Id (nE : Nat) (p0 : Int × (List (Int × Int × Int × Int × Int × Int)) × (List (Int × Int))) (x2 : (List (Int × Int))) : ∀ s, Le (EL nE p0 x2 s) (BH p0 x2 s) := by
  rintro ⟨x3, x4⟩
  unfold EL BH
  repeat' with_reducible (first | refine Le.orR' ?_ ?_ | refine Le.bind' ?_ ?_ | refine Le.ite' ?_ ?_ | refine Le.loop' ?_ | refine Le.altS' ?_ ?_ | exact Le.rfl' _ | (refine Le.pi2 ?_; intro _) | intro _)
def FN (nE : Nat) (p0 : Int × (List (Int × Int × Int × Int × Int × Int)) × (List (Int × Int))) : Option Bool := (if (decide (p0.1 < 1) || (decide (8 < p0.1) || (decide (24 < (p0.2.1.length : Int)) || decide (8 < (p0.2.2.length : Int))))) = true then some false else Fv ((Fj nE p0).bind fun x2 => Fi nE (EL nE p0 x2) (0, ([] : List ((Int × Int) × Unit)))) fun x1 => (Bv nE p0.2.1).bind fun x6 => some (!x6))
theorem Jz (nE : Nat) (p0 : Int × (List (Int × Int × Int × Int × Int × Int)) × (List (Int × Int))) : Le (FN nE p0) (C9 p0) := by
  unfold FN C9
  repeat' with_reducible (first | refine Le.orR' ?_ ?_ | refine Le.bind' ?_ ?_ | refine Le.ite' ?_ ?_ | refine Le.loop' ?_ | refine Le.altS' ?_ ?_ | apply Js | apply C2 | apply Id | exact Le.rfl' _ | (refine Le.pi2 ?_; intro _) | intro _)
def B2 (nE : Nat) (p0 : List Int) : Int → Option (Int ⊕ (Unit ⊕ Int))
  | x1 => (if x1 < (p0.length : Int) then (ix p0 x1).bind fun x2 => (if (BS x2) = true then some (.inr (.inr x1)) else some (.inl (BV (x1 + 1)))) else some (.inr (.inl ())))
theorem Ej (nE : Nat) (p0 : List Int) : ∀ s, Le (B2 nE p0 s) (AV p0 s) := by
  intro x1
  unfold B2 AV
  repeat' with_reducible (first | refine Le.orR' ?_ ?_ | refine Le.bind' ?_ ?_ | refine Le.ite' ?_ ?_ | refine Le.loop' ?_ | refine Le.altS' ?_ ?_ | exact Le.rfl' _ | (refine Le.pi2 ?_; intro _) | intro _)
def Cp (nE : Nat) (p0 : List Int) : Option Int := Fv (Fi nE (B2 nE p0) 0) fun _ => some (-1)
theorem EX (nE : Nat) (p0 : List Int) : Le (Cp nE p0) (Bq p0) := by
  unfold Cp Bq
  repeat' with_reducible (first | refine Le.orR' ?_ ?_ | refine Le.bind' ?_ ?_ | refine Le.ite' ?_ ?_ | refine Le.loop' ?_ | refine Le.altS' ?_ ?_ | apply Ej | exact Le.rfl' _ | (refine Le.pi2 ?_; intro _) | intro _)
def B4 (nE : Nat) (p0 : List Int) : Option Bool := (Cp nE p0).bind fun x1 => some (decide (0 ≤ x1))
theorem Ek (nE : Nat) (p0 : List Int) : Le (B4 nE p0) (A5 p0) := by
  unfold B4 A5
  repeat' with_reducible (first | refine Le.orR' ?_ ?_ | refine Le.bind' ?_ ?_ | refine Le.ite' ?_ ?_ | refine Le.loop' ?_ | refine Le.altS' ?_ ?_ | apply EX | exact Le.rfl' _ | (refine Le.pi2 ?_; intro _) | intro _)
def Eo (nE : Nat) (p0 : Int × (List (Int × Int × Int × Int × Int × Int)) × (List (Int × Int))) (p1 : List (List Int)) : Int → Option (Int ⊕ (Unit ⊕ Bool))
  | x3 => (if x3 < (p1.length : Int) then (ix p1 x3).bind fun x4 => (if (x4.length : Int) ≠ (p0.2.2.length : Int) then some true else (B4 nE x4).bind fun x6 => some x6).bind fun x5 => (if x5 = true then some (.inr (.inr false)) else some (.inl (BV (x3 + 1)))) else some (.inr (.inl ())))
theorem HO (nE : Nat) (p0 : Int × (List (Int × Int × Int × Int × Int × Int)) × (List (Int × Int))) (p1 : List (List Int)) : ∀ s, Le (Eo nE p0 p1 s) (Co p0 p1 s) := by
  intro x3
  unfold Eo Co
  repeat' with_reducible (first | refine Le.orR' ?_ ?_ | refine Le.bind' ?_ ?_ | refine Le.ite' ?_ ?_ | refine Le.loop' ?_ | refine Le.altS' ?_ ?_ | apply Ek | exact Le.rfl' _ | (refine Le.pi2 ?_; intro _) | intro _)
def Ew (nE : Nat) (p0 : Int × (List (Int × Int × Int × Int × Int × Int)) × (List (Int × Int))) (p1 : List (List Int)) : Option Bool := ((FN nE p0).bind fun x2 => (if (!x2) = true then some true else some (decide ((p1.length : Int) ≠ p0.1)))).bind fun x1 => (if x1 = true then some false else Fv (Fi nE (Eo nE p0 p1) 0) fun _ => some true)
theorem Gc (nE : Nat) (p0 : Int × (List (Int × Int × Int × Int × Int × Int)) × (List (Int × Int))) (p1 : List (List Int)) : Le (Ew nE p0 p1) (CM p0 p1) := by
  unfold Ew CM
  repeat' with_reducible (first | refine Le.orR' ?_ ?_ | refine Le.bind' ?_ ?_ | refine Le.ite' ?_ ?_ | refine Le.loop' ?_ | refine Le.altS' ?_ ?_ | apply Jz | apply HO | exact Le.rfl' _ | (refine Le.pi2 ?_; intro _) | intro _)
def BG (nE : Nat) (p0 : List (Int × Int)) (p1 : Int × Int) : Int → Option (Int ⊕ (Unit ⊕ Int))
  | x1 => (if x1 < (p0.length : Int) then (ix p0 x1).bind fun x2 => (if p1.1 = x2.1 ∧ p1.2 = x2.2 then some (.inr (.inr x1)) else some (.inl (BV (x1 + 1)))) else some (.inr (.inl ())))
theorem DE (nE : Nat) (p0 : List (Int × Int)) (p1 : Int × Int) : ∀ s, Le (BG nE p0 p1 s) (AG p0 p1 s) := by
  intro x1
  unfold BG AG
  repeat' with_reducible (first | refine Le.orR' ?_ ?_ | refine Le.bind' ?_ ?_ | refine Le.ite' ?_ ?_ | refine Le.loop' ?_ | refine Le.altS' ?_ ?_ | exact Le.rfl' _ | (refine Le.pi2 ?_; intro _) | intro _)
def BQ (nE : Nat) (p0 : List (Int × Int)) (p1 : Int × Int) : Option Int := Fv (Fi nE (BG nE p0 p1) 0) fun _ => some (-1)
theorem D0 (nE : Nat) (p0 : List (Int × Int)) (p1 : Int × Int) : Le (BQ nE p0 p1) (A7 p0 p1) := by
  unfold BQ A7
  repeat' with_reducible (first | refine Le.orR' ?_ ?_ | refine Le.bind' ?_ ?_ | refine Le.ite' ?_ ?_ | refine Le.loop' ?_ | refine Le.altS' ?_ ?_ | apply DE | exact Le.rfl' _ | (refine Le.pi2 ?_; intro _) | intro _)
def Fm (nE : Nat) (p0 : Int × (List (Int × Int × Int × Int × Int × Int)) × (List (Int × Int))) (p1 : Int) (p2 : Int) : Option Int := (BQ nE p0.2.2 (p1, p2)).bind fun x1 => some x1
theorem Jc (nE : Nat) (p0 : Int × (List (Int × Int × Int × Int × Int × Int)) × (List (Int × Int))) (p1 : Int) (p2 : Int) : Le (Fm nE p0 p1 p2) (CP p0 p1 p2) := by
  unfold Fm CP
  repeat' with_reducible (first | refine Le.orR' ?_ ?_ | refine Le.bind' ?_ ?_ | refine Le.ite' ?_ ?_ | refine Le.loop' ?_ | refine Le.altS' ?_ ?_ | apply D0 | exact Le.rfl' _ | (refine Le.pi2 ?_; intro _) | intro _)
def E7 (nE : Nat) (p0 : Int × (List (Int × Int × Int × Int × Int × Int)) × (List (Int × Int))) (p1 : Int) (p2 : Int) : Int → Option (Int ⊕ (Unit ⊕ (Int × Int × Int × Bool)))
  | x1 => (if x1 < (p0.2.1.length : Int) then (ix p0.2.1 x1).bind fun x2 => (if p1 = x2.1 ∧ p2 = x2.2.1 then some (.inr (.inr (x2.2.2.1, x2.2.2.2.1, x1, true))) else (if p1 = x2.2.2.1 ∧ p2 = x2.2.2.2.1 then some (.inr (.inr (x2.1, x2.2.1, x1, true))) else some (.inl (BV (x1 + 1))))) else some (.inr (.inl ())))
theorem IE (nE : Nat) (p0 : Int × (List (Int × Int × Int × Int × Int × Int)) × (List (Int × Int))) (p1 : Int) (p2 : Int) : ∀ s, Le (E7 nE p0 p1 p2 s) (BJ p0 p1 p2 s) := by
  intro x1
  unfold E7 BJ
  repeat' with_reducible (first | refine Le.orR' ?_ ?_ | refine Le.bind' ?_ ?_ | refine Le.ite' ?_ ?_ | refine Le.loop' ?_ | refine Le.altS' ?_ ?_ | exact Le.rfl' _ | (refine Le.pi2 ?_; intro _) | intro _)
def Gu (nE : Nat) (p0 : Int × (List (Int × Int × Int × Int × Int × Int)) × (List (Int × Int))) (p1 : Int) (p2 : Int) : Option (Int × Int × Int × Bool) := Fv (Fi nE (E7 nE p0 p1 p2) 0) fun _ => some (0, 0, 0, false)
theorem Kj (nE : Nat) (p0 : Int × (List (Int × Int × Int × Int × Int × Int)) × (List (Int × Int))) (p1 : Int) (p2 : Int) : Le (Gu nE p0 p1 p2) (Cx p0 p1 p2) := by
  unfold Gu Cx
  repeat' with_reducible (first | refine Le.orR' ?_ ?_ | refine Le.bind' ?_ ?_ | refine Le.ite' ?_ ?_ | refine Le.loop' ?_ | refine Le.altS' ?_ ?_ | apply IE | exact Le.rfl' _ | (refine Le.pi2 ?_; intro _) | intro _)
def FU (nE : Nat) (p0 : Int × (List (Int × Int × Int × Int × Int × Int)) × (List (Int × Int))) (p1 : List (List Int)) (p2 : Int) (p3 : Int) : Option (Int × Bool) := (if p2 < 0 then some true else (if (p1.length : Int) ≤ p2 then some true else (if p3 < 0 then some true else (ix p1 p2).bind fun x2 => some (decide ((x2.length : Int) ≤ p3))))).bind fun x1 => (if x1 = true then some (0, false) else (ix p1 p2).bind fun x3 => (ix x3 p3).bind fun x4 => (Gu nE p0 p2 x4).bind fun x5 => some (x5.1, x5.2.2.2))
theorem Jx (nE : Nat) (p0 : Int × (List (Int × Int × Int × Int × Int × Int)) × (List (Int × Int))) (p1 : List (List Int)) (p2 : Int) (p3 : Int) : Le (FU nE p0 p1 p2 p3) (DR p0 p1 p2 p3) := by
  unfold FU DR
  repeat' with_reducible (first | refine Le.orR' ?_ ?_ | refine Le.bind' ?_ ?_ | refine Le.ite' ?_ ?_ | refine Le.loop' ?_ | refine Le.altS' ?_ ?_ | apply Kj | exact Le.rfl' _ | (refine Le.pi2 ?_; intro _) | intro _)
def CJ (nE : Nat) (p0 : List Int) (p1 : Int) : Int → Option (Int ⊕ (Unit ⊕ Bool))
  | x1 => (if x1 < (p0.length : Int) then (ix p0 x1).bind fun x2 => (if p1 = x2 then some (.inr (.inr true)) else some (.inl (BV (x1 + 1)))) else some (.inr (.inl ())))
theorem Fq (nE : Nat) (p0 : List Int) (p1 : Int) : ∀ s, Le (CJ nE p0 p1 s) (Bu p0 p1 s) := by
  intro x1
  unfold CJ Bu
  repeat' with_reducible (first | refine Le.orR' ?_ ?_ | refine Le.bind' ?_ ?_ | refine Le.ite' ?_ ?_ | refine Le.loop' ?_ | refine Le.altS' ?_ ?_ | exact Le.rfl' _ | (refine Le.pi2 ?_; intro _) | intro _)
def Dq (nE : Nat) (p0 : List Int) (p1 : Int) : Option Bool := Fv (Fi nE (CJ nE p0 p1) 0) fun _ => some false
theorem F1 (nE : Nat) (p0 : List Int) (p1 : Int) : Le (Dq nE p0 p1) (BM p0 p1) := by
  unfold Dq BM
  repeat' with_reducible (first | refine Le.orR' ?_ ?_ | refine Le.bind' ?_ ?_ | refine Le.ite' ?_ ?_ | refine Le.loop' ?_ | refine Le.altS' ?_ ?_ | apply Fq | exact Le.rfl' _ | (refine Le.pi2 ?_; intro _) | intro _)
def EJ (nE : Nat) (p0 : Int × (List (Int × Int × Int × Int × Int × Int)) × (List (Int × Int))) (p1 : List (List Int)) (p3 : Int) : (Int × List Int) → Option ((Int × List Int) ⊕ ((List Int) ⊕ (List Int × Int)))
  | (x2, x3) => (ix p1 x2).bind fun x4 => (ix x4 p3).bind fun x5 => (Fm nE p0 x2 x5).bind fun x6 => (if x6 ≠ p3 then (FU nE p0 p1 x2 p3).bind fun x7 => (if (!x7.2) = true then some (.inr (.inr (([] : List Int), 13))) else (Dq nE x3 x7.1).bind fun x8 => (if x8 = true then some (.inr (.inr (([] : List Int), 12))) else (IQ x3 ([x7.1] : List Int)).bind fun x9 => some (.inl (x7.1, x9)))) else some (.inr (.inl x3)))
theorem HY (nE : Nat) (p0 : Int × (List (Int × Int × Int × Int × Int × Int)) × (List (Int × Int))) (p1 : List (List Int)) (p3 : Int) : ∀ s, Le (EJ nE p0 p1 p3 s) (B0 p0 p1 p3 s) := by
  rintro ⟨x2, x3⟩
  unfold EJ B0
  repeat' with_reducible (first | refine Le.orR' ?_ ?_ | refine Le.bind' ?_ ?_ | refine Le.ite' ?_ ?_ | refine Le.loop' ?_ | refine Le.altS' ?_ ?_ | apply Jc | apply Jx | apply F1 | exact Le.rfl' _ | (refine Le.pi2 ?_; intro _) | intro _)
def ES (nE : Nat) (p0 : Int × (List (Int × Int × Int × Int × Int × Int)) × (List (Int × Int))) (p1 : List (List Int)) (p2 : Int) (p3 : Int) : Option (List Int × Int) := Fv (Fi nE (EJ nE p0 p1 p3) (p2, ([p2] : List Int))) fun x1 => some (x1, 0)
theorem GL (nE : Nat) (p0 : Int × (List (Int × Int × Int × Int × Int × Int)) × (List (Int × Int))) (p1 : List (List Int)) (p2 : Int) (p3 : Int) : Le (ES nE p0 p1 p2 p3) (Dg p0 p1 p2 p3) := by
  unfold ES Dg
  repeat' with_reducible (first | refine Le.orR' ?_ ?_ | refine Le.bind' ?_ ?_ | refine Le.ite' ?_ ?_ | refine Le.loop' ?_ | refine Le.altS' ?_ ?_ | apply HY | exact Le.rfl' _ | (refine Le.pi2 ?_; intro _) | intro _)
def EW (nE : Nat) (p0 : Int × (List (Int × Int × Int × Int × Int × Int)) × (List (Int × Int))) (p1 : List (List Int)) (p2 : Int) (p3 : Int) : Option (List Int × Int) := ((Ew nE p0 p1).bind fun x2 => (if (!x2) = true then some true else (if p2 < 0 then some true else (if p0.1 ≤ p2 then some true else (if p3 < 0 then some true else some (decide ((p0.2.2.length : Int) ≤ p3))))))).bind fun x1 => (if x1 = true then some (([] : List Int), 2) else (ES nE p0 p1 p2 p3).bind fun x3 => some (x3.1, x3.2))
theorem JJ (nE : Nat) (p0 : Int × (List (Int × Int × Int × Int × Int × Int)) × (List (Int × Int))) (p1 : List (List Int)) (p2 : Int) (p3 : Int) : Le (EW nE p0 p1 p2 p3) (En p0 p1 p2 p3) := by
  unfold EW En
  repeat' with_reducible (first | refine Le.orR' ?_ ?_ | refine Le.bind' ?_ ?_ | refine Le.ite' ?_ ?_ | refine Le.loop' ?_ | refine Le.altS' ?_ ?_ | apply Gc | apply GL | exact Le.rfl' _ | (refine Le.pi2 ?_; intro _) | intro _)
def Fs (nE : Nat) (p0 : List Int) (p1 : List Int) : Int → Option (Int ⊕ (Unit ⊕ Bool))
  | x1 => (if x1 < (p0.length : Int) then (ix p0 x1).bind fun x2 => (ix p1 x1).bind fun x3 => (if x2 ≠ x3 then some (.inr (.inr false)) else some (.inl (BV (x1 + 1)))) else some (.inr (.inl ())))
theorem I6 (nE : Nat) (p0 : List Int) (p1 : List Int) : ∀ s, Le (Fs nE p0 p1 s) (Fe p0 p1 s) := by
  intro x1
  unfold Fs Fe
  repeat' with_reducible (first | refine Le.orR' ?_ ?_ | refine Le.bind' ?_ ?_ | refine Le.ite' ?_ ?_ | refine Le.loop' ?_ | refine Le.altS' ?_ ?_ | exact Le.rfl' _ | (refine Le.pi2 ?_; intro _) | intro _)
def Ha (nE : Nat) (p0 : List Int) (p1 : List Int) : Option Bool := (if (p0.length : Int) ≠ (p1.length : Int) then some false else Fv (Fi nE (Fs nE p0 p1) 0) fun _ => some true)
theorem KN (nE : Nat) (p0 : List Int) (p1 : List Int) : Le (Ha nE p0 p1) (F9 p0 p1) := by
  unfold Ha F9
  repeat' with_reducible (first | refine Le.orR' ?_ ?_ | refine Le.bind' ?_ ?_ | refine Le.ite' ?_ ?_ | refine Le.loop' ?_ | refine Le.altS' ?_ ?_ | apply I6 | exact Le.rfl' _ | (refine Le.pi2 ?_; intro _) | intro _)
def EM (nE : Nat) (p0 : Int × (List (Int × Int × Int × Int × Int × Int)) × (List (Int × Int))) (p1 : List (List Int)) (x2 : Int) (x3 : List Int) : Int → Option (Int ⊕ (Unit ⊕ (Int ⊕ (Unit ⊕ Bool))))
  | x4 => (if x4 < (x3.length : Int) then (ES nE p0 p1 x2 x4).bind fun x5 => (if x5.2 ≠ 0 then some (.inr (.inr (.inr (.inr false)))) else some (.inl (BV (x4 + 1)))) else some (.inr (.inl ())))
theorem Ii (nE : Nat) (p0 : Int × (List (Int × Int × Int × Int × Int × Int)) × (List (Int × Int))) (p1 : List (List Int)) (x2 : Int) (x3 : List Int) : ∀ s, Le (EM nE p0 p1 x2 x3 s) (Cl p0 p1 x2 x3 s) := by
  intro x4
  unfold EM Cl
  repeat' with_reducible (first | refine Le.orR' ?_ ?_ | refine Le.bind' ?_ ?_ | refine Le.ite' ?_ ?_ | refine Le.loop' ?_ | refine Le.altS' ?_ ?_ | apply GL | exact Le.rfl' _ | (refine Le.pi2 ?_; intro _) | intro _)
def EN (nE : Nat) (p0 : Int × (List (Int × Int × Int × Int × Int × Int)) × (List (Int × Int))) (p1 : List (List Int)) : Int → Option (Int ⊕ (Unit ⊕ Bool))
  | x2 => (if x2 < (p1.length : Int) then Fv ((ix p1 x2).bind fun x3 => Fi nE (EM nE p0 p1 x2 x3) 0) fun _ => some (.inl (BV (x2 + 1))) else some (.inr (.inl ())))
theorem Ib (nE : Nat) (p0 : Int × (List (Int × Int × Int × Int × Int × Int)) × (List (Int × Int))) (p1 : List (List Int)) : ∀ s, Le (EN nE p0 p1 s) (CD p0 p1 s) := by
  intro x2
  unfold EN CD
  repeat' with_reducible (first | refine Le.orR' ?_ ?_ | refine Le.bind' ?_ ?_ | refine Le.ite' ?_ ?_ | refine Le.loop' ?_ | refine Le.altS' ?_ ?_ | apply Ii | exact Le.rfl' _ | (refine Le.pi2 ?_; intro _) | intro _)
def EU (nE : Nat) (p0 : Int × (List (Int × Int × Int × Int × Int × Int)) × (List (Int × Int))) (p1 : List (List Int)) : Option Bool := (Ew nE p0 p1).bind fun x1 => (if (!x1) = true then some false else Fv (Fi nE (EN nE p0 p1) 0) fun _ => some true)
theorem JN (nE : Nat) (p0 : Int × (List (Int × Int × Int × Int × Int × Int)) × (List (Int × Int))) (p1 : List (List Int)) : Le (EU nE p0 p1) (CS p0 p1) := by
  unfold EU CS
  repeat' with_reducible (first | refine Le.orR' ?_ ?_ | refine Le.bind' ?_ ?_ | refine Le.ite' ?_ ?_ | refine Le.loop' ?_ | refine Le.altS' ?_ ?_ | apply Gc | apply Ib | exact Le.rfl' _ | (refine Le.pi2 ?_; intro _) | intro _)
def Iu (nE : Nat)  : Option Bool := (EW nE (2, ([(0, 0, 1, 0, 1, 1)] : List (Int × Int × Int × Int × Int × Int)), ([(1, 5)] : List (Int × Int))) ([([0] : List Int), ([5] : List Int)] : List (List Int)) 0 0).bind fun x1 => (EW nE (2, ([(0, 0, 1, 0, 1, 1)] : List (Int × Int × Int × Int × Int × Int)), ([(1, 5)] : List (Int × Int))) ([([0] : List Int), ([0] : List Int)] : List (List Int)) 0 0).bind fun x2 => (if x1.2 = 0 then (Ha nE x1.1 ([0, 1] : List Int)).bind fun x4 => (if x4 = true then (if x2.2 = 12 then (EU nE (2, ([(0, 0, 1, 0, 1, 1)] : List (Int × Int × Int × Int × Int × Int)), ([(1, 5)] : List (Int × Int))) ([([0] : List Int), ([5] : List Int)] : List (List Int))).bind fun x5 => (if x5 = true then (EU nE (2, ([(0, 0, 1, 0, 1, 1)] : List (Int × Int × Int × Int × Int × Int)), ([(1, 5)] : List (Int × Int))) ([([5] : List Int), ([5] : List Int)] : List (List Int))).bind fun x6 => some (!x6) else some false) else some false) else some false) else some false).bind fun x3 => some x3
theorem Ko (nE : Nat)  : Le (Iu nE ) (DY ) := by
  unfold Iu DY
  repeat' with_reducible (first | refine Le.orR' ?_ ?_ | refine Le.bind' ?_ ?_ | refine Le.ite' ?_ ?_ | refine Le.loop' ?_ | refine Le.altS' ?_ ?_ | apply JJ | apply KN | apply JN | exact Le.rfl' _ | (refine Le.pi2 ?_; intro _) | intro _)
theorem HM : DY = some true := Ko 60 _ (by kernel_rfl)
end Go.Proofs.Ytieebnllkjmjiaa
