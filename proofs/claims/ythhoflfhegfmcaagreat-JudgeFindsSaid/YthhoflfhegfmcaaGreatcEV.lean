/- Twins with fuel of JA functions: what a twin answers, the function answers. Conditions: none. -/
import Derived.Test.YthhoflfhegfmcaaGreatcLP
import Derived.Test.YthhoflfhegfmcaaGreatcA7
namespace Go.Proofs.YthhoflfhegfmcaaGreat
open Go Go.RowKit
set_option linter.unusedVariables false
set_option linter.unusedSimpArgs false
set_option maxRecDepth 20000
set_option maxHeartbeats 1600000
abbrev Le {α : Type} (a b : Option α) : Prop := ∀ r, a = some r → b = some r
theorem Le.rfl' {α : Type} (a : Option α) : Le a a := fun _ h => h
theorem Le.bind' {α β : Type} {a b : Option α} {f g : α → Option β} (h : Le a b) (hf : ∀ x, Le (f x) (g x)) : Le (a.bind f) (b.bind g) := fun r e => by
  obtain ⟨x, h1, h2⟩ := Ac e
  rw [h x h1, Option.bind_some]; exact hf x r h2
theorem Le.ite' {α : Type} {c : Prop} [Decidable c] {a a' b b' : Option α} (h1 : Le a a') (h2 : Le b b') : Le (if c then a else b) (if c then a' else b') := fun r e => by
  by_cases h : c
  · rw [if_pos h] at e ⊢; exact h1 r e
  · rw [if_neg h] at e ⊢; exact h2 r e
theorem Le.orR' {α β : Type} {a b : Option (α ⊕ β)} {f g : α → Option β} (h : Le a b) (hf : ∀ x, Le (f x) (g x)) : Le (GT a f) (GT b g) :=
  Le.bind' h fun x => by
    cases x with
    | inl t => exact hf t
    | inr e => exact Le.rfl' _
def DO {σ ε : Type} (n : Nat) (step : σ → Option (σ ⊕ ε)) (s : σ) : Option ε := Ih step n s
theorem N9 {σ ε : Type} {S T : σ → Option (σ ⊕ ε)} (h : ∀ s, Le (S s) (T s)) : ∀ (n : Nat) (s : σ), Le (Ih S n s) (Ih T n s)
  | 0, s => Le.rfl' _
  | n + 1, s => fun r e => by
    unfold Ih at e ⊢
    cases hs : S s with
    | none => rw [hs] at e; cases e
    | some q =>
      rw [hs] at e; rw [h s q hs]
      cases q with
      | inl s' => exact N9 h n s' r e
      | inr _ => exact e
theorem Le.loop' {σ ε : Type} {n : Nat} {S T : σ → Option (σ ⊕ ε)} {s : σ} (h : ∀ s, Le (S s) (T s)) : Le (DO n S s) (Aq T s) := fun r e => HS.2 ⟨n, N9 h n s r e⟩
theorem Le.pi2 {α β γ : Type} {f g : α × β → Option γ} (h : ∀ a b, Le (f (a, b)) (g (a, b))) : ∀ x, Le (f x) (g x) := fun x => h x.1 x.2
theorem Le.altS' {α β γ : Type} {y : α ⊕ β} {f f' : α → Option γ} {g g' : β → Option γ} (h : ∀ x, Le (f x) (f' x)) (k : ∀ x, Le (g x) (g' x)) : Le (X2 y f g) (X2 y f' g') := by
  cases y with
  | inl x => exact h x
  | inr x => exact k x
def H0 (nE : Nat) (p0 : Int × (List (Int × Int × Int × Int × Int × Int)) × (List (Int × Int))) : ((List (Int × Int)) × Int) → Option (((List (Int × Int)) × Int) ⊕ (List (Int × Int)))
  | (x2, x3) => (if x3 < (p0.2.1.length : Int) then (ix p0.2.1 x3).bind fun x4 => (HN x2 ([(x4.1, x4.2.1), (x4.2.2.1, x4.2.2.2.1)] : List (Int × Int))).bind fun x5 => some (.inl (x5, An (x3 + 1))) else some (.inr x2))
theorem Mc (nE : Nat) (p0 : Int × (List (Int × Int × Int × Int × Int × Int)) × (List (Int × Int))) : ∀ s, Le (H0 nE p0 s) (Ee p0 s) := by
  rintro ⟨x2, x3⟩
  unfold H0 Ee
  repeat' with_reducible (first | apply Le.orR' | apply Le.bind' | apply Le.ite' | apply Le.loop' | apply Le.altS' | exact Le.rfl' _ | (refine Le.pi2 ?_; intro _) | intro _)
def H1 (nE : Nat) (p0 : Int × (List (Int × Int × Int × Int × Int × Int)) × (List (Int × Int))) : ((List (Int × Int)) × Int) → Option (((List (Int × Int)) × Int) ⊕ (List (Int × Int)))
  | (x7, x8) => (if x8 < (p0.2.2.length : Int) then (ix p0.2.2 x8).bind fun x9 => (HN x7 ([x9] : List (Int × Int))).bind fun x10 => some (.inl (x10, An (x8 + 1))) else some (.inr x7))
theorem Mz (nE : Nat) (p0 : Int × (List (Int × Int × Int × Int × Int × Int)) × (List (Int × Int))) : ∀ s, Le (H1 nE p0 s) (Eg p0 s) := by
  rintro ⟨x7, x8⟩
  unfold H1 Eg
  repeat' with_reducible (first | apply Le.orR' | apply Le.bind' | apply Le.ite' | apply Le.loop' | apply Le.altS' | exact Le.rfl' _ | (refine Le.pi2 ?_; intro _) | intro _)
def JG (nE : Nat) (p0 : Int × (List (Int × Int × Int × Int × Int × Int)) × (List (Int × Int))) : Option (List (Int × Int)) := (DO nE (H0 nE p0) ([], 0)).bind fun x1 => (DO nE (H1 nE p0) (x1, 0)).bind fun x6 => some x6
theorem N6 (nE : Nat) (p0 : Int × (List (Int × Int × Int × Int × Int × Int)) × (List (Int × Int))) : Le (JG nE p0) (Gs p0) := by
  unfold JG Gs
  repeat' with_reducible (first | apply Le.orR' | apply Le.bind' | apply Le.ite' | apply Le.loop' | apply Le.altS' | apply Mc | apply Mz | exact Le.rfl' _ | (refine Le.pi2 ?_; intro _) | intro _)
def Dm (nE : Nat) (p0 : List (Int × Int × Int × Int × Int × Int)) : Int → Option (Int ⊕ (Unit ⊕ Int))
  | x1 => (if x1 < (p0.length : Int) then (ix p0 x1).bind fun x2 => (if (Cz x2) = true then some (.inr (.inr x1)) else some (.inl (An (x1 + 1)))) else some (.inr (.inl ())))
theorem Gf (nE : Nat) (p0 : List (Int × Int × Int × Int × Int × Int)) : ∀ s, Le (Dm nE p0 s) (AQ p0 s) := by
  intro x1
  unfold Dm AQ
  repeat' with_reducible (first | apply Le.orR' | apply Le.bind' | apply Le.ite' | apply Le.loop' | apply Le.altS' | exact Le.rfl' _ | (refine Le.pi2 ?_; intro _) | intro _)
def Dy (nE : Nat) (p0 : List (Int × Int × Int × Int × Int × Int)) : Option Int := GT (DO nE (Dm nE p0) 0) fun _ => some (-1)
theorem GG (nE : Nat) (p0 : List (Int × Int × Int × Int × Int × Int)) : Le (Dy nE p0) (BU p0) := by
  unfold Dy BU
  repeat' with_reducible (first | apply Le.orR' | apply Le.bind' | apply Le.ite' | apply Le.loop' | apply Le.altS' | apply Gf | exact Le.rfl' _ | (refine Le.pi2 ?_; intro _) | intro _)
def Dl (nE : Nat) (p0 : List (Int × Int × Int × Int × Int × Int)) : Option Bool := (Dy nE p0).bind fun x1 => some (decide (0 ≤ x1))
theorem Gg (nE : Nat) (p0 : List (Int × Int × Int × Int × Int × Int)) : Le (Dl nE p0) (Bl p0) := by
  unfold Dl Bl
  repeat' with_reducible (first | apply Le.orR' | apply Le.bind' | apply Le.ite' | apply Le.loop' | apply Le.altS' | apply GG | exact Le.rfl' _ | (refine Le.pi2 ?_; intro _) | intro _)
def Iq (nE : Nat) (p0 : Int × (List (Int × Int × Int × Int × Int × Int)) × (List (Int × Int))) (x2 : (List (Int × Int))) : (Int × (List ((Int × Int) × Unit))) → Option ((Int × (List ((Int × Int) × Unit))) ⊕ ((List ((Int × Int) × Unit)) ⊕ Bool))
  | (x3, x4) => (if x3 < (x2.length : Int) then (ix x2 x3).bind fun x5 => (if (decide (x5.1 < 0) || (decide (p0.1 ≤ x5.1) || (decide (x5.2 < 0) || decide (8 ≤ x5.2)))) = true then some (.inr (.inr false)) else (if ((MW x4 x5).isSome) = true then some (.inr (.inr false)) else some (.inl (An (x3 + 1), MG x4 x5 ())))) else some (.inr (.inl x4)))
theorem MK (nE : Nat) (p0 : Int × (List (Int × Int × Int × Int × Int × Int)) × (List (Int × Int))) (x2 : (List (Int × Int))) : ∀ s, Le (Iq nE p0 x2 s) (DD p0 x2 s) := by
  rintro ⟨x3, x4⟩
  unfold Iq DD
  repeat' with_reducible (first | apply Le.orR' | apply Le.bind' | apply Le.ite' | apply Le.loop' | apply Le.altS' | exact Le.rfl' _ | (refine Le.pi2 ?_; intro _) | intro _)
def Ka (nE : Nat) (p0 : Int × (List (Int × Int × Int × Int × Int × Int)) × (List (Int × Int))) : Option Bool := (if (decide (p0.1 < 1) || (decide (8 < p0.1) || (decide (24 < (p0.2.1.length : Int)) || decide (8 < (p0.2.2.length : Int))))) = true then some false else GT ((JG nE p0).bind fun x2 => DO nE (Iq nE p0 x2) (0, ([] : List ((Int × Int) × Unit)))) fun x1 => (Dl nE p0.2.1).bind fun x6 => some (!x6))
theorem OV (nE : Nat) (p0 : Int × (List (Int × Int × Int × Int × Int × Int)) × (List (Int × Int))) : Le (Ka nE p0) (Hg p0) := by
  unfold Ka Hg
  repeat' with_reducible (first | apply Le.orR' | apply Le.bind' | apply Le.ite' | apply Le.loop' | apply Le.altS' | apply N6 | apply Gg | apply MK | exact Le.rfl' _ | (refine Le.pi2 ?_; intro _) | intro _)
def Eh (nE : Nat) (p0 : List Int) : Int → Option (Int ⊕ (Unit ⊕ Int))
  | x1 => (if x1 < (p0.length : Int) then (ix p0 x1).bind fun x2 => (if (DZ x2) = true then some (.inr (.inr x1)) else some (.inl (An (x1 + 1)))) else some (.inr (.inl ())))
theorem HY (nE : Nat) (p0 : List Int) : ∀ s, Le (Eh nE p0 s) (Bq p0 s) := by
  intro x1
  unfold Eh Bq
  repeat' with_reducible (first | apply Le.orR' | apply Le.bind' | apply Le.ite' | apply Le.loop' | apply Le.altS' | exact Le.rfl' _ | (refine Le.pi2 ?_; intro _) | intro _)
def EU (nE : Nat) (p0 : List Int) : Option Int := GT (DO nE (Eh nE p0) 0) fun _ => some (-1)
theorem IF (nE : Nat) (p0 : List Int) : Le (EU nE p0) (C8 p0) := by
  unfold EU C8
  repeat' with_reducible (first | apply Le.orR' | apply Le.bind' | apply Le.ite' | apply Le.loop' | apply Le.altS' | apply HY | exact Le.rfl' _ | (refine Le.pi2 ?_; intro _) | intro _)
def Ei (nE : Nat) (p0 : List Int) : Option Bool := (EU nE p0).bind fun x1 => some (decide (0 ≤ x1))
theorem HZ (nE : Nat) (p0 : List Int) : Le (Ei nE p0) (Ci p0) := by
  unfold Ei Ci
  repeat' with_reducible (first | apply Le.orR' | apply Le.bind' | apply Le.ite' | apply Le.loop' | apply Le.altS' | apply IF | exact Le.rfl' _ | (refine Le.pi2 ?_; intro _) | intro _)
def HT (nE : Nat) (p0 : Int × (List (Int × Int × Int × Int × Int × Int)) × (List (Int × Int))) (p1 : List (List Int)) : Int → Option (Int ⊕ (Unit ⊕ Bool))
  | x3 => (if x3 < (p1.length : Int) then (ix p1 x3).bind fun x4 => (if (x4.length : Int) ≠ (p0.2.2.length : Int) then some true else (Ei nE x4).bind fun x6 => some x6).bind fun x5 => (if x5 = true then some (.inr (.inr false)) else some (.inl (An (x3 + 1)))) else some (.inr (.inl ())))
theorem Mb (nE : Nat) (p0 : Int × (List (Int × Int × Int × Int × Int × Int)) × (List (Int × Int))) (p1 : List (List Int)) : ∀ s, Le (HT nE p0 p1 s) (EQ p0 p1 s) := by
  intro x3
  unfold HT EQ
  repeat' with_reducible (first | apply Le.orR' | apply Le.bind' | apply Le.ite' | apply Le.loop' | apply Le.altS' | apply HZ | exact Le.rfl' _ | (refine Le.pi2 ?_; intro _) | intro _)
def JH (nE : Nat) (p0 : Int × (List (Int × Int × Int × Int × Int × Int)) × (List (Int × Int))) (p1 : List (List Int)) : Option Bool := ((Ka nE p0).bind fun x2 => (if (!x2) = true then some true else some (decide ((p1.length : Int) ≠ p0.1)))).bind fun x1 => (if x1 = true then some false else GT (DO nE (HT nE p0 p1) 0) fun _ => some true)
theorem OC (nE : Nat) (p0 : Int × (List (Int × Int × Int × Int × Int × Int)) × (List (Int × Int))) (p1 : List (List Int)) : Le (JH nE p0 p1) (FO p0 p1) := by
  unfold JH FO
  repeat' with_reducible (first | apply Le.orR' | apply Le.bind' | apply Le.ite' | apply Le.loop' | apply Le.altS' | apply OV | apply Mb | exact Le.rfl' _ | (refine Le.pi2 ?_; intro _) | intro _)
def DF (nE : Nat) (p0 : List (Int × Int)) (p1 : Int × Int) : Int → Option (Int ⊕ (Unit ⊕ Int))
  | x1 => (if x1 < (p0.length : Int) then (ix p0 x1).bind fun x2 => (if p1.1 = x2.1 ∧ p1.2 = x2.2 then some (.inr (.inr x1)) else some (.inl (An (x1 + 1)))) else some (.inr (.inl ())))
theorem GL (nE : Nat) (p0 : List (Int × Int)) (p1 : Int × Int) : ∀ s, Le (DF nE p0 p1 s) (A5 p0 p1 s) := by
  intro x1
  unfold DF A5
  repeat' with_reducible (first | apply Le.orR' | apply Le.bind' | apply Le.ite' | apply Le.loop' | apply Le.altS' | exact Le.rfl' _ | (refine Le.pi2 ?_; intro _) | intro _)
def DT (nE : Nat) (p0 : List (Int × Int)) (p1 : Int × Int) : Option Int := GT (DO nE (DF nE p0 p1) 0) fun _ => some (-1)
theorem Hq (nE : Nat) (p0 : List (Int × Int)) (p1 : Int × Int) : Le (DT nE p0 p1) (Cl p0 p1) := by
  unfold DT Cl
  repeat' with_reducible (first | apply Le.orR' | apply Le.bind' | apply Le.ite' | apply Le.loop' | apply Le.altS' | apply GL | exact Le.rfl' _ | (refine Le.pi2 ?_; intro _) | intro _)
def H4 (nE : Nat) (p0 : Int × (List (Int × Int × Int × Int × Int × Int)) × (List (Int × Int))) (p1 : Int) (p2 : Int) : Option Int := (DT nE p0.2.2 (p1, p2)).bind fun x1 => some x1
theorem KM (nE : Nat) (p0 : Int × (List (Int × Int × Int × Int × Int × Int)) × (List (Int × Int))) (p1 : Int) (p2 : Int) : Le (H4 nE p0 p1 p2) (EE p0 p1 p2) := by
  unfold H4 EE
  repeat' with_reducible (first | apply Le.orR' | apply Le.bind' | apply Le.ite' | apply Le.loop' | apply Le.altS' | apply Hq | exact Le.rfl' _ | (refine Le.pi2 ?_; intro _) | intro _)
def I4 (nE : Nat) (p0 : Int × (List (Int × Int × Int × Int × Int × Int)) × (List (Int × Int))) (p1 : Int) (p2 : Int) : Int → Option (Int ⊕ (Unit ⊕ (Int × Int × Int × Bool)))
  | x1 => (if x1 < (p0.2.1.length : Int) then (ix p0.2.1 x1).bind fun x2 => (if p1 = x2.1 ∧ p2 = x2.2.1 then some (.inr (.inr (x2.2.2.1, x2.2.2.2.1, x1, true))) else (if p1 = x2.2.2.1 ∧ p2 = x2.2.2.2.1 then some (.inr (.inr (x2.1, x2.2.1, x1, true))) else some (.inl (An (x1 + 1))))) else some (.inr (.inl ())))
theorem NB (nE : Nat) (p0 : Int × (List (Int × Int × Int × Int × Int × Int)) × (List (Int × Int))) (p1 : Int) (p2 : Int) : ∀ s, Le (I4 nE p0 p1 p2 s) (D9 p0 p1 p2 s) := by
  intro x1
  unfold I4 D9
  repeat' with_reducible (first | apply Le.orR' | apply Le.bind' | apply Le.ite' | apply Le.loop' | apply Le.altS' | exact Le.rfl' _ | (refine Le.pi2 ?_; intro _) | intro _)
def Jx (nE : Nat) (p0 : Int × (List (Int × Int × Int × Int × Int × Int)) × (List (Int × Int))) (p1 : Int) (p2 : Int) : Option (Int × Int × Int × Bool) := GT (DO nE (I4 nE p0 p1 p2) 0) fun _ => some (0, 0, 0, false)
theorem Mw (nE : Nat) (p0 : Int × (List (Int × Int × Int × Int × Int × Int)) × (List (Int × Int))) (p1 : Int) (p2 : Int) : Le (Jx nE p0 p1 p2) (F5 p0 p1 p2) := by
  unfold Jx F5
  repeat' with_reducible (first | apply Le.orR' | apply Le.bind' | apply Le.ite' | apply Le.loop' | apply Le.altS' | apply NB | exact Le.rfl' _ | (refine Le.pi2 ?_; intro _) | intro _)
def J6 (nE : Nat) (p0 : Int × (List (Int × Int × Int × Int × Int × Int)) × (List (Int × Int))) (p1 : List (List Int)) (p2 : Int) (p3 : Int) : Option (Int × Bool) := (if p2 < 0 then some true else (if (p1.length : Int) ≤ p2 then some true else (if p3 < 0 then some true else (ix p1 p2).bind fun x2 => some (decide ((x2.length : Int) ≤ p3))))).bind fun x1 => (if x1 = true then some (0, false) else (ix p1 p2).bind fun x3 => (ix x3 p3).bind fun x4 => (Jx nE p0 p2 x4).bind fun x5 => some (x5.1, x5.2.2.2))
theorem OG (nE : Nat) (p0 : Int × (List (Int × Int × Int × Int × Int × Int)) × (List (Int × Int))) (p1 : List (List Int)) (p2 : Int) (p3 : Int) : Le (J6 nE p0 p1 p2 p3) (Hb p0 p1 p2 p3) := by
  unfold J6 Hb
  repeat' with_reducible (first | apply Le.orR' | apply Le.bind' | apply Le.ite' | apply Le.loop' | apply Le.altS' | apply Mw | exact Le.rfl' _ | (refine Le.pi2 ?_; intro _) | intro _)
def Fw (nE : Nat) (p0 : List Int) (p1 : Int) : Int → Option (Int ⊕ (Unit ⊕ Bool))
  | x1 => (if x1 < (p0.length : Int) then (ix p0 x1).bind fun x2 => (if p1 = x2 then some (.inr (.inr true)) else some (.inl (An (x1 + 1)))) else some (.inr (.inl ())))
theorem JD (nE : Nat) (p0 : List Int) (p1 : Int) : ∀ s, Le (Fw nE p0 p1 s) (Df p0 p1 s) := by
  intro x1
  unfold Fw Df
  repeat' with_reducible (first | apply Le.orR' | apply Le.bind' | apply Le.ite' | apply Le.loop' | apply Le.altS' | exact Le.rfl' _ | (refine Le.pi2 ?_; intro _) | intro _)
def GA (nE : Nat) (p0 : List Int) (p1 : Int) : Option Bool := GT (DO nE (Fw nE p0 p1) 0) fun _ => some false
theorem KC (nE : Nat) (p0 : List Int) (p1 : Int) : Le (GA nE p0 p1) (DI p0 p1) := by
  unfold GA DI
  repeat' with_reducible (first | apply Le.orR' | apply Le.bind' | apply Le.ite' | apply Le.loop' | apply Le.altS' | apply JD | exact Le.rfl' _ | (refine Le.pi2 ?_; intro _) | intro _)
def In (nE : Nat) (p0 : Int × (List (Int × Int × Int × Int × Int × Int)) × (List (Int × Int))) (p1 : List (List Int)) (p3 : Int) : (Int × List Int) → Option ((Int × List Int) ⊕ ((List Int) ⊕ (List Int × Int)))
  | (x2, x3) => (ix p1 x2).bind fun x4 => (ix x4 p3).bind fun x5 => (H4 nE p0 x2 x5).bind fun x6 => (if x6 ≠ p3 then (J6 nE p0 p1 x2 p3).bind fun x7 => (if (!x7.2) = true then some (.inr (.inr (([] : List Int), 13))) else (GA nE x3 x7.1).bind fun x8 => (if x8 = true then some (.inr (.inr (([] : List Int), 12))) else (HN x3 ([x7.1] : List Int)).bind fun x9 => some (.inl (x7.1, x9)))) else some (.inr (.inl x3)))
theorem M0 (nE : Nat) (p0 : Int × (List (Int × Int × Int × Int × Int × Int)) × (List (Int × Int))) (p1 : List (List Int)) (p3 : Int) : ∀ s, Le (In nE p0 p1 p3 s) (Ec p0 p1 p3 s) := by
  rintro ⟨x2, x3⟩
  unfold In Ec
  repeat' with_reducible (first | apply Le.orR' | apply Le.bind' | apply Le.ite' | apply Le.loop' | apply Le.altS' | apply KM | apply OG | apply KC | exact Le.rfl' _ | (refine Le.pi2 ?_; intro _) | intro _)
def Kd (nE : Nat) (p0 : Int × (List (Int × Int × Int × Int × Int × Int)) × (List (Int × Int))) (p1 : List (List Int)) (p2 : Int) (p3 : Int) : Option (List Int × Int) := GT (DO nE (In nE p0 p1 p3) (p2, ([p2] : List Int))) fun x1 => some (x1, 0)
theorem OL (nE : Nat) (p0 : Int × (List (Int × Int × Int × Int × Int × Int)) × (List (Int × Int))) (p1 : List (List Int)) (p2 : Int) (p3 : Int) : Le (Kd nE p0 p1 p2 p3) (Gm p0 p1 p2 p3) := by
  unfold Kd Gm
  repeat' with_reducible (first | apply Le.orR' | apply Le.bind' | apply Le.ite' | apply Le.loop' | apply Le.altS' | apply M0 | exact Le.rfl' _ | (refine Le.pi2 ?_; intro _) | intro _)
def Io (nE : Nat) (p0 : Int × (List (Int × Int × Int × Int × Int × Int)) × (List (Int × Int))) (p1 : List (List Int)) (x2 : Int) (x3 : List Int) : Int → Option (Int ⊕ (Unit ⊕ (Int ⊕ (Unit ⊕ Bool))))
  | x4 => (if x4 < (x3.length : Int) then (Kd nE p0 p1 x2 x4).bind fun x5 => (if x5.2 ≠ 0 then some (.inr (.inr (.inr (.inr false)))) else some (.inl (An (x4 + 1)))) else some (.inr (.inl ())))
theorem MP (nE : Nat) (p0 : Int × (List (Int × Int × Int × Int × Int × Int)) × (List (Int × Int))) (p1 : List (List Int)) (x2 : Int) (x3 : List Int) : ∀ s, Le (Io nE p0 p1 x2 x3 s) (EF p0 p1 x2 x3 s) := by
  intro x4
  unfold Io EF
  repeat' with_reducible (first | apply Le.orR' | apply Le.bind' | apply Le.ite' | apply Le.loop' | apply Le.altS' | apply OL | exact Le.rfl' _ | (refine Le.pi2 ?_; intro _) | intro _)
def Il (nE : Nat) (p0 : Int × (List (Int × Int × Int × Int × Int × Int)) × (List (Int × Int))) (p1 : List (List Int)) : Int → Option (Int ⊕ (Unit ⊕ Bool))
  | x2 => (if x2 < (p1.length : Int) then GT ((ix p1 x2).bind fun x3 => DO nE (Io nE p0 p1 x2 x3) 0) fun _ => some (.inl (An (x2 + 1))) else some (.inr (.inl ())))
theorem MB (nE : Nat) (p0 : Int × (List (Int × Int × Int × Int × Int × Int)) × (List (Int × Int))) (p1 : List (List Int)) : ∀ s, Le (Il nE p0 p1 s) (Fg p0 p1 s) := by
  intro x2
  unfold Il Fg
  repeat' with_reducible (first | apply Le.orR' | apply Le.bind' | apply Le.ite' | apply Le.loop' | apply Le.altS' | apply MP | exact Le.rfl' _ | (refine Le.pi2 ?_; intro _) | intro _)
def II (nE : Nat) (p0 : Int × (List (Int × Int × Int × Int × Int × Int)) × (List (Int × Int))) (p1 : List (List Int)) : Option Bool := (JH nE p0 p1).bind fun x1 => (if (!x1) = true then some false else GT (DO nE (Il nE p0 p1) 0) fun _ => some true)
theorem OU (nE : Nat) (p0 : Int × (List (Int × Int × Int × Int × Int × Int)) × (List (Int × Int))) (p1 : List (List Int)) : Le (II nE p0 p1) (Fi p0 p1) := by
  unfold II Fi
  repeat' with_reducible (first | apply Le.orR' | apply Le.bind' | apply Le.ite' | apply Le.loop' | apply Le.altS' | apply OC | apply MB | exact Le.rfl' _ | (refine Le.pi2 ?_; intro _) | intro _)
def EY (nE : Nat) (p0 : List Int) (p1 : Int) : Int → Option (Int ⊕ (Unit ⊕ Int))
  | x1 => (if x1 < (p0.length : Int) then (ix p0 x1).bind fun x2 => (if p1 = x2 then some (.inr (.inr x1)) else some (.inl (An (x1 + 1)))) else some (.inr (.inl ())))
theorem Ja (nE : Nat) (p0 : List Int) (p1 : Int) : ∀ s, Le (EY nE p0 p1 s) (CR p0 p1 s) := by
  intro x1
  unfold EY CR
  repeat' with_reducible (first | apply Le.orR' | apply Le.bind' | apply Le.ite' | apply Le.loop' | apply Le.altS' | exact Le.rfl' _ | (refine Le.pi2 ?_; intro _) | intro _)
def FS (nE : Nat) (p0 : List Int) (p1 : Int) : Option Int := GT (DO nE (EY nE p0 p1) 0) fun _ => some (-1)
theorem JY (nE : Nat) (p0 : List Int) (p1 : Int) : Le (FS nE p0 p1) (DL p0 p1) := by
  unfold FS DL
  repeat' with_reducible (first | apply Le.orR' | apply Le.bind' | apply Le.ite' | apply Le.loop' | apply Le.altS' | apply Ja | exact Le.rfl' _ | (refine Le.pi2 ?_; intro _) | intro _)
def EX (nE : Nat) (p0 : List Int) (p1 : Int) : Option Bool := (FS nE p0 p1).bind fun x1 => some (decide (0 ≤ x1))
theorem I1 (nE : Nat) (p0 : List Int) (p1 : Int) : Le (EX nE p0 p1) (CP p0 p1) := by
  unfold EX CP
  repeat' with_reducible (first | apply Le.orR' | apply Le.bind' | apply Le.ite' | apply Le.loop' | apply Le.altS' | apply JY | exact Le.rfl' _ | (refine Le.pi2 ?_; intro _) | intro _)
def GI (nE : Nat) (p0 : Int × Int × List Int) (p1 : Int × Int × Int × Int) : Option Bool := (if p1.2.2.2 = p0.1 then (EX nE p0.2.2 p1.1).bind fun x2 => some x2 else some false).bind fun x1 => some x1
theorem Jt (nE : Nat) (p0 : Int × Int × List Int) (p1 : Int × Int × Int × Int) : Le (GI nE p0 p1) (DR p0 p1) := by
  unfold GI DR
  repeat' with_reducible (first | apply Le.orR' | apply Le.bind' | apply Le.ite' | apply Le.loop' | apply Le.altS' | apply I1 | exact Le.rfl' _ | (refine Le.pi2 ?_; intro _) | intro _)
def EA (nE : Nat) (p0 : Int × Int × List Int) (p1 : Int × Int × Int × Int) : Option Bool := (GI nE p0 p1).bind fun x1 => some x1
theorem Ip (nE : Nat) (p0 : Int × Int × List Int) (p1 : Int × Int × Int × Int) : Le (EA nE p0 p1) (CZ p0 p1) := by
  unfold EA CZ
  repeat' with_reducible (first | apply Le.orR' | apply Le.bind' | apply Le.ite' | apply Le.loop' | apply Le.altS' | apply Jt | exact Le.rfl' _ | (refine Le.pi2 ?_; intro _) | intro _)
def CV (nE : Nat) (p0 : List (Int × Int × List Int)) (p1c0 : Int × Int × Int × Int) : Int → Option (Int ⊕ (Unit ⊕ Int))
  | x1 => (if x1 < (p0.length : Int) then (ix p0 x1).bind fun x2 => (EA nE x2 p1c0).bind fun x3 => (if x3 = true then some (.inr (.inr x1)) else some (.inl (An (x1 + 1)))) else some (.inr (.inl ())))
theorem Fv (nE : Nat) (p0 : List (Int × Int × List Int)) (p1c0 : Int × Int × Int × Int) : ∀ s, Le (CV nE p0 p1c0 s) (Be p0 p1c0 s) := by
  intro x1
  unfold CV Be
  repeat' with_reducible (first | apply Le.orR' | apply Le.bind' | apply Le.ite' | apply Le.loop' | apply Le.altS' | apply Ip | exact Le.rfl' _ | (refine Le.pi2 ?_; intro _) | intro _)
def Dc (nE : Nat) (p0 : List (Int × Int × List Int)) (p1c0 : Int × Int × Int × Int) : Option Int := GT (DO nE (CV nE p0 p1c0) 0) fun _ => some (-1)
theorem F2 (nE : Nat) (p0 : List (Int × Int × List Int)) (p1c0 : Int × Int × Int × Int) : Le (Dc nE p0 p1c0) (BC p0 p1c0) := by
  unfold Dc BC
  repeat' with_reducible (first | apply Le.orR' | apply Le.bind' | apply Le.ite' | apply Le.loop' | apply Le.altS' | apply Fv | exact Le.rfl' _ | (refine Le.pi2 ?_; intro _) | intro _)
def CU (nE : Nat) (p0 : List (Int × Int × List Int)) (p1c0 : Int × Int × Int × Int) : Option Bool := (Dc nE p0 p1c0).bind fun x1 => some (decide (0 ≤ x1))
theorem FH (nE : Nat) (p0 : List (Int × Int × List Int)) (p1c0 : Int × Int × Int × Int) : Le (CU nE p0 p1c0) (Bu p0 p1c0) := by
  unfold CU Bu
  repeat' with_reducible (first | apply Le.orR' | apply Le.bind' | apply Le.ite' | apply Le.loop' | apply Le.altS' | apply F2 | exact Le.rfl' _ | (refine Le.pi2 ?_; intro _) | intro _)
def D2 (nE : Nat) (p0 : (Int × (List (Int × Int × Int × Int × Int × Int)) × (List (Int × Int))) × List (List Int) × List (List Int) × ((List (Int × Int × Int × Int)) × (List (Int × Int × List Int)) × Int × Int × Int × Int)) (p1 : Int × Int × Int × Int) : Option Bool := (CU nE p0.2.2.2.2.1 p1).bind fun x1 => some x1
theorem Gz (nE : Nat) (p0 : (Int × (List (Int × Int × Int × Int × Int × Int)) × (List (Int × Int))) × List (List Int) × List (List Int) × ((List (Int × Int × Int × Int)) × (List (Int × Int × List Int)) × Int × Int × Int × Int)) (p1 : Int × Int × Int × Int) : Le (D2 nE p0 p1) (Ct p0 p1) := by
  unfold D2 Ct
  repeat' with_reducible (first | apply Le.orR' | apply Le.bind' | apply Le.ite' | apply Le.loop' | apply Le.altS' | apply FH | exact Le.rfl' _ | (refine Le.pi2 ?_; intro _) | intro _)
def E1 (nE : Nat) (p0 : (Int × (List (Int × Int × Int × Int × Int × Int)) × (List (Int × Int))) × List (List Int) × List (List Int) × ((List (Int × Int × Int × Int)) × (List (Int × Int × List Int)) × Int × Int × Int × Int)) (p1 : Int) (p2 : Int) (p3 : Int) : (Int × Int) → Option ((Int × Int) ⊕ Int)
  | (x2, x3) => (if x3 < (p0.2.2.2.1.length : Int) then ((ix p0.2.2.2.1 x3).bind fun x5 => (if x5.1 = p1 then (if x5.2.1 = p2 then (if x5.2.2.1 = p3 then (D2 nE p0 x5).bind fun x7 => some x7 else some false) else some false) else some false).bind fun x6 => (if x6 = true then some (An (x2 + 1)) else some x2)).bind fun x4 => some (.inl (x4, An (x3 + 1))) else some (.inr x2))
theorem I7 (nE : Nat) (p0 : (Int × (List (Int × Int × Int × Int × Int × Int)) × (List (Int × Int))) × List (List Int) × List (List Int) × ((List (Int × Int × Int × Int)) × (List (Int × Int × List Int)) × Int × Int × Int × Int)) (p1 : Int) (p2 : Int) (p3 : Int) : ∀ s, Le (E1 nE p0 p1 p2 p3 s) (CO p0 p1 p2 p3 s) := by
  rintro ⟨x2, x3⟩
  unfold E1 CO
  repeat' with_reducible (first | apply Le.orR' | apply Le.bind' | apply Le.ite' | apply Le.loop' | apply Le.altS' | apply Gz | exact Le.rfl' _ | (refine Le.pi2 ?_; intro _) | intro _)
def FQ (nE : Nat) (p0 : (Int × (List (Int × Int × Int × Int × Int × Int)) × (List (Int × Int))) × List (List Int) × List (List Int) × ((List (Int × Int × Int × Int)) × (List (Int × Int × List Int)) × Int × Int × Int × Int)) (p1 : Int) (p2 : Int) (p3 : Int) : Option Int := (DO nE (E1 nE p0 p1 p2 p3) (0, 0)).bind fun x1 => some x1
theorem J1 (nE : Nat) (p0 : (Int × (List (Int × Int × Int × Int × Int × Int)) × (List (Int × Int))) × List (List Int) × List (List Int) × ((List (Int × Int × Int × Int)) × (List (Int × Int × List Int)) × Int × Int × Int × Int)) (p1 : Int) (p2 : Int) (p3 : Int) : Le (FQ nE p0 p1 p2 p3) (B5 p0 p1 p2 p3) := by
  unfold FQ B5
  repeat' with_reducible (first | apply Le.orR' | apply Le.bind' | apply Le.ite' | apply Le.loop' | apply Le.altS' | apply I7 | exact Le.rfl' _ | (refine Le.pi2 ?_; intro _) | intro _)
def EZ (nE : Nat) (p0 : (Int × (List (Int × Int × Int × Int × Int × Int)) × (List (Int × Int))) × List (List Int) × List (List Int) × ((List (Int × Int × Int × Int)) × (List (Int × Int × List Int)) × Int × Int × Int × Int)) (x3 : Int) (x5 : List Int) : ((List (Int × Int × Int)) × Int) → Option (((List (Int × Int × Int)) × Int) ⊕ (List (Int × Int × Int)))
  | (x6, x7) => (if x7 < (x5.length : Int) then ((ix x5 x7).bind fun x9 => ((ix p0.2.1 x3).bind fun x11 => (ix x11 x7).bind fun x12 => (if x9 ≠ x12 then (FQ nE p0 x3 x7 x9).bind fun x13 => some (decide (x13 ≠ 1)) else some false)).bind fun x10 => (if x10 = true then (HN x6 ([(2, x3, x7)] : List (Int × Int × Int))).bind fun x14 => some x14 else some x6)).bind fun x8 => some (.inl (x8, An (x7 + 1))) else some (.inr x6))
theorem Je (nE : Nat) (p0 : (Int × (List (Int × Int × Int × Int × Int × Int)) × (List (Int × Int))) × List (List Int) × List (List Int) × ((List (Int × Int × Int × Int)) × (List (Int × Int × List Int)) × Int × Int × Int × Int)) (x3 : Int) (x5 : List Int) : ∀ s, Le (EZ nE p0 x3 x5 s) (Cs p0 x3 x5 s) := by
  rintro ⟨x6, x7⟩
  unfold EZ Cs
  repeat' with_reducible (first | apply Le.orR' | apply Le.bind' | apply Le.ite' | apply Le.loop' | apply Le.altS' | apply J1 | exact Le.rfl' _ | (refine Le.pi2 ?_; intro _) | intro _)
def E0 (nE : Nat) (p0 : (Int × (List (Int × Int × Int × Int × Int × Int)) × (List (Int × Int))) × List (List Int) × List (List Int) × ((List (Int × Int × Int × Int)) × (List (Int × Int × List Int)) × Int × Int × Int × Int)) : ((List (Int × Int × Int)) × Int) → Option (((List (Int × Int × Int)) × Int) ⊕ (List (Int × Int × Int)))
  | (x2, x3) => (if x3 < (p0.2.2.1.length : Int) then ((ix p0.2.2.1 x3).bind fun x5 => DO nE (EZ nE p0 x3 x5) (x2, 0)).bind fun x4 => some (.inl (x4, An (x3 + 1))) else some (.inr x2))
theorem Jd (nE : Nat) (p0 : (Int × (List (Int × Int × Int × Int × Int × Int)) × (List (Int × Int))) × List (List Int) × List (List Int) × ((List (Int × Int × Int × Int)) × (List (Int × Int × List Int)) × Int × Int × Int × Int)) : ∀ s, Le (E0 nE p0 s) (CQ p0 s) := by
  rintro ⟨x2, x3⟩
  unfold E0 CQ
  repeat' with_reducible (first | apply Le.orR' | apply Le.bind' | apply Le.ite' | apply Le.loop' | apply Le.altS' | apply Je | exact Le.rfl' _ | (refine Le.pi2 ?_; intro _) | intro _)
def FW (nE : Nat) (p0 : (Int × (List (Int × Int × Int × Int × Int × Int)) × (List (Int × Int))) × List (List Int) × List (List Int) × ((List (Int × Int × Int × Int)) × (List (Int × Int × List Int)) × Int × Int × Int × Int)) : Option (List (Int × Int × Int)) := (DO nE (E0 nE p0) ([], 0)).bind fun x1 => some x1
theorem JW (nE : Nat) (p0 : (Int × (List (Int × Int × Int × Int × Int × Int)) × (List (Int × Int))) × List (List Int) × List (List Int) × ((List (Int × Int × Int × Int)) × (List (Int × Int × List Int)) × Int × Int × Int × Int)) : Le (FW nE p0) (Do p0) := by
  unfold FW Do
  repeat' with_reducible (first | apply Le.orR' | apply Le.bind' | apply Le.ite' | apply Le.loop' | apply Le.altS' | apply Jd | exact Le.rfl' _ | (refine Le.pi2 ?_; intro _) | intro _)
def Fx (nE : Nat) (p0 : (Int × (List (Int × Int × Int × Int × Int × Int)) × (List (Int × Int))) × List (List Int) × List (List Int) × ((List (Int × Int × Int × Int)) × (List (Int × Int × List Int)) × Int × Int × Int × Int)) : ((List (Int × Int × Int)) × Int) → Option (((List (Int × Int × Int)) × Int) ⊕ (List (Int × Int × Int)))
  | (x2, x3) => (if x3 < (p0.2.2.2.1.length : Int) then ((ix p0.2.2.2.1 x3).bind fun x5 => (if (!(BJ p0 x5)) = true then some true else (ix p0.2.2.1 x5.1).bind fun x7 => (ix x7 x5.2.1).bind fun x8 => (if x5.2.2.1 ≠ x8 then some true else (ix p0.2.1 x5.1).bind fun x9 => (ix x9 x5.2.1).bind fun x10 => (if x5.2.2.1 = x10 then some true else (D2 nE p0 x5).bind fun x11 => some (!x11)))).bind fun x6 => (if x6 = true then (HN x2 ([(3, x3, x5.2.1)] : List (Int × Int × Int))).bind fun x12 => some x12 else some x2)).bind fun x4 => some (.inl (x4, An (x3 + 1))) else some (.inr x2))
theorem JB (nE : Nat) (p0 : (Int × (List (Int × Int × Int × Int × Int × Int)) × (List (Int × Int))) × List (List Int) × List (List Int) × ((List (Int × Int × Int × Int)) × (List (Int × Int × List Int)) × Int × Int × Int × Int)) : ∀ s, Le (Fx nE p0 s) (Db p0 s) := by
  rintro ⟨x2, x3⟩
  unfold Fx Db
  repeat' with_reducible (first | apply Le.orR' | apply Le.bind' | apply Le.ite' | apply Le.loop' | apply Le.altS' | apply Gz | exact Le.rfl' _ | (refine Le.pi2 ?_; intro _) | intro _)
def Gt (nE : Nat) (p0 : (Int × (List (Int × Int × Int × Int × Int × Int)) × (List (Int × Int))) × List (List Int) × List (List Int) × ((List (Int × Int × Int × Int)) × (List (Int × Int × List Int)) × Int × Int × Int × Int)) : Option (List (Int × Int × Int)) := (DO nE (Fx nE p0) ([], 0)).bind fun x1 => some x1
theorem Kv (nE : Nat) (p0 : (Int × (List (Int × Int × Int × Int × Int × Int)) × (List (Int × Int))) × List (List Int) × List (List Int) × ((List (Int × Int × Int × Int)) × (List (Int × Int × List Int)) × Int × Int × Int × Int)) : Le (Gt nE p0) (DG p0) := by
  unfold Gt DG
  repeat' with_reducible (first | apply Le.orR' | apply Le.bind' | apply Le.ite' | apply Le.loop' | apply Le.altS' | apply JB | exact Le.rfl' _ | (refine Le.pi2 ?_; intro _) | intro _)
def Hy (nE : Nat) (p0 : Int × (List (Int × Int × Int × Int × Int × Int)) × (List (Int × Int))) : (Int × Int) → Option ((Int × Int) ⊕ Int)
  | (x2, x3) => (if x3 < (p0.2.1.length : Int) then (ix p0.2.1 x3).bind fun x4 => some (.inl (max x2 x4.2.2.2.2.2, An (x3 + 1))) else some (.inr x2))
theorem LO (nE : Nat) (p0 : Int × (List (Int × Int × Int × Int × Int × Int)) × (List (Int × Int))) : ∀ s, Le (Hy nE p0 s) (D0 p0 s) := by
  rintro ⟨x2, x3⟩
  unfold Hy D0
  repeat' with_reducible (first | apply Le.orR' | apply Le.bind' | apply Le.ite' | apply Le.loop' | apply Le.altS' | exact Le.rfl' _ | (refine Le.pi2 ?_; intro _) | intro _)
def Jb (nE : Nat) (p0 : Int × (List (Int × Int × Int × Int × Int × Int)) × (List (Int × Int))) : Option Int := (DO nE (Hy nE p0) (0, 0)).bind fun x1 => some x1
theorem Nt (nE : Nat) (p0 : Int × (List (Int × Int × Int × Int × Int × Int)) × (List (Int × Int))) : Le (Jb nE p0) (E7 p0) := by
  unfold Jb E7
  repeat' with_reducible (first | apply Le.orR' | apply Le.bind' | apply Le.ite' | apply Le.loop' | apply Le.altS' | apply LO | exact Le.rfl' _ | (refine Le.pi2 ?_; intro _) | intro _)
def KF (nE : Nat) (p0 : Int × (List (Int × Int × Int × Int × Int × Int)) × (List (Int × Int))) : Option Int := (Jb nE p0).bind fun x1 => some (An (p0.1 * x1))
theorem P8 (nE : Nat) (p0 : Int × (List (Int × Int × Int × Int × Int × Int)) × (List (Int × Int))) : Le (KF nE p0) (Hm p0) := by
  unfold KF Hm
  repeat' with_reducible (first | apply Le.orR' | apply Le.bind' | apply Le.ite' | apply Le.loop' | apply Le.altS' | apply Nt | exact Le.rfl' _ | (refine Le.pi2 ?_; intro _) | intro _)
def LI (nE : Nat) (p0 : Int × (List (Int × Int × Int × Int × Int × Int)) × (List (Int × Int))) (p1 : Int) : Option Int := (KF nE p0).bind fun x1 => some (An ((An ((An (2 * p1)) + x1)) + 1))
theorem QB (nE : Nat) (p0 : Int × (List (Int × Int × Int × Int × Int × Int)) × (List (Int × Int))) (p1 : Int) : Le (LI nE p0 p1) (HG p0 p1) := by
  unfold LI HG
  repeat' with_reducible (first | apply Le.orR' | apply Le.bind' | apply Le.ite' | apply Le.loop' | apply Le.altS' | apply P8 | exact Le.rfl' _ | (refine Le.pi2 ?_; intro _) | intro _)
def FG (nE : Nat) (p0 : (Int × (List (Int × Int × Int × Int × Int × Int)) × (List (Int × Int))) × List (List Int) × List (List Int) × ((List (Int × Int × Int × Int)) × (List (Int × Int × List Int)) × Int × Int × Int × Int)) (x1 : Int) : ((List (Int × Int × Int)) × Int) → Option (((List (Int × Int × Int)) × Int) ⊕ (List (Int × Int × Int)))
  | (x3, x4) => (if x4 < (p0.2.2.2.2.1.length : Int) then ((ix p0.2.2.2.2.1 x4).bind fun x6 => (ix p0.2.2.2.2.1 (An (x4 - 1))).bind fun x7 => (if (An ((BG x6.2.1) - (BG x7.2.1))) < x1 then (HN x3 ([(4, x4, 0)] : List (Int × Int × Int))).bind fun x8 => some x8 else some x3)).bind fun x5 => some (.inl (x5, An (x4 + 1))) else some (.inr x3))
theorem Jy (nE : Nat) (p0 : (Int × (List (Int × Int × Int × Int × Int × Int)) × (List (Int × Int))) × List (List Int) × List (List Int) × ((List (Int × Int × Int × Int)) × (List (Int × Int × List Int)) × Int × Int × Int × Int)) (x1 : Int) : ∀ s, Le (FG nE p0 x1 s) (Da p0 x1 s) := by
  rintro ⟨x3, x4⟩
  unfold FG Da
  repeat' with_reducible (first | apply Le.orR' | apply Le.bind' | apply Le.ite' | apply Le.loop' | apply Le.altS' | exact Le.rfl' _ | (refine Le.pi2 ?_; intro _) | intro _)
def Gy (nE : Nat) (p0 : (Int × (List (Int × Int × Int × Int × Int × Int)) × (List (Int × Int))) × List (List Int) × List (List Int) × ((List (Int × Int × Int × Int)) × (List (Int × Int × List Int)) × Int × Int × Int × Int)) : Option (List (Int × Int × Int)) := (LI nE p0.1 (min (max p0.2.2.2.2.2.1 0) 1048576)).bind fun x1 => (DO nE (FG nE p0 x1) ([], 1)).bind fun x2 => some x2
theorem Kw (nE : Nat) (p0 : (Int × (List (Int × Int × Int × Int × Int × Int)) × (List (Int × Int))) × List (List Int) × List (List Int) × ((List (Int × Int × Int × Int)) × (List (Int × Int × List Int)) × Int × Int × Int × Int)) : Le (Gy nE p0) (DK p0) := by
  unfold Gy DK
  repeat' with_reducible (first | apply Le.orR' | apply Le.bind' | apply Le.ite' | apply Le.loop' | apply Le.altS' | apply QB | apply Jy | exact Le.rfl' _ | (refine Le.pi2 ?_; intro _) | intro _)
def FV (nE : Nat) (p0 : List Int) : Option (List Int) := (HN ([] : List Int) p0).bind fun x1 => some x1
theorem JL (nE : Nat) (p0 : List Int) : Le (FV nE p0) (Dq p0) := by
  unfold FV Dq
  repeat' with_reducible (first | apply Le.orR' | apply Le.bind' | apply Le.ite' | apply Le.loop' | apply Le.altS' | exact Le.rfl' _ | (refine Le.pi2 ?_; intro _) | intro _)
def Hz (nE : Nat) (p0 : List (List Int)) : ((List (Nat × List Int)) × Int) → Option (((List (Nat × List Int)) × Int) ⊕ (List (Nat × List Int)))
  | (x2, x3) => (if x3 < (p0.length : Int) then (ix p0 x3).bind fun x4 => (FV nE x4).bind fun x5 => (HN x2 ([(2, x5)] : List (Nat × List Int))).bind fun x6 => some (.inl (x6, An (x3 + 1))) else some (.inr x2))
theorem LB (nE : Nat) (p0 : List (List Int)) : ∀ s, Le (Hz nE p0 s) (En p0 s) := by
  rintro ⟨x2, x3⟩
  unfold Hz En
  repeat' with_reducible (first | apply Le.orR' | apply Le.bind' | apply Le.ite' | apply Le.loop' | apply Le.altS' | apply JL | exact Le.rfl' _ | (refine Le.pi2 ?_; intro _) | intro _)
def Jl (nE : Nat) (p0 : List (List Int)) : Option (List (Nat × List Int)) := (DO nE (Hz nE p0) ([], 0)).bind fun x1 => some x1
theorem Ny (nE : Nat) (p0 : List (List Int)) : Le (Jl nE p0) (EB p0) := by
  unfold Jl EB
  repeat' with_reducible (first | apply Le.orR' | apply Le.bind' | apply Le.ite' | apply Le.loop' | apply Le.altS' | apply LB | exact Le.rfl' _ | (refine Le.pi2 ?_; intro _) | intro _)
def HC (nE : Nat) (x4 : Int) (x6 : List Int) : ((List (Nat × List (Nat × List Int))) × Int) → Option (((List (Nat × List (Nat × List Int))) × Int) ⊕ (List (Nat × List (Nat × List Int))))
  | (x7, x8) => (if x8 < (x6.length : Int) then (ix x6 x8).bind fun x9 => (ix x7 x4).bind fun x10 => (KW x10.1).bind fun x11 => (HN x10.2 ([(2, ([x9] : List Int))] : List (Nat × List Int))).bind fun x12 => (ix (Ah x7 x4 (0, [])) x4).bind fun x13 => some (.inl ((Ah (Ah x7 x4 (0, [])) x4 (2, x12)), An (x8 + 1))) else some (.inr x7))
theorem LN (nE : Nat) (x4 : Int) (x6 : List Int) : ∀ s, Le (HC nE x4 x6 s) (DX x4 x6 s) := by
  rintro ⟨x7, x8⟩
  unfold HC DX
  repeat' with_reducible (first | apply Le.orR' | apply Le.bind' | apply Le.ite' | apply Le.loop' | apply Le.altS' | exact Le.rfl' _ | (refine Le.pi2 ?_; intro _) | intro _)
def Ht (nE : Nat) (p0 : List (List Int)) : ((List (Nat × List (Nat × List Int))) × Int) → Option (((List (Nat × List (Nat × List Int))) × Int) ⊕ (List (Nat × List (Nat × List Int))))
  | (x3, x4) => (if x4 < (p0.length : Int) then ((ix p0 x4).bind fun x6 => DO nE (HC nE x4 x6) (x3, 0)).bind fun x5 => some (.inl (x5, An (x4 + 1))) else some (.inr x3))
theorem Lw (nE : Nat) (p0 : List (List Int)) : ∀ s, Le (Ht nE p0 s) (Eo p0 s) := by
  rintro ⟨x3, x4⟩
  unfold Ht Eo
  repeat' with_reducible (first | apply Le.orR' | apply Le.bind' | apply Le.ite' | apply Le.loop' | apply Le.altS' | apply LN | exact Le.rfl' _ | (refine Le.pi2 ?_; intro _) | intro _)
def Jf (nE : Nat) (p0 : List (List Int)) : Option (List (Nat × List (Nat × List Int))) := (mk (p0.length : Int) ((2, []) : Nat × List (Nat × List Int))).bind fun x1 => (DO nE (Ht nE p0) (x1, 0)).bind fun x2 => some x2
theorem Nu (nE : Nat) (p0 : List (List Int)) : Le (Jf nE p0) (FR p0) := by
  unfold Jf FR
  repeat' with_reducible (first | apply Le.orR' | apply Le.bind' | apply Le.ite' | apply Le.loop' | apply Le.altS' | apply Lw | exact Le.rfl' _ | (refine Le.pi2 ?_; intro _) | intro _)
def H2 (nE : Nat) (p0 : Int) (p1 : List (Int × Int)) : Int → Option (Int ⊕ (Unit ⊕ Bool))
  | x1 => (if x1 < (p1.length : Int) then (ix p1 x1).bind fun x2 => (if (decide (x2.1 < 0) || (decide (p0 ≤ x2.1) || (decide (x2.2 < 0) || decide (p0 ≤ x2.2)))) = true then some (.inr (.inr false)) else some (.inl (An (x1 + 1)))) else some (.inr (.inl ())))
theorem Mp (nE : Nat) (p0 : Int) (p1 : List (Int × Int)) : ∀ s, Le (H2 nE p0 p1 s) (FJ p0 p1 s) := by
  intro x1
  unfold H2 FJ
  repeat' with_reducible (first | apply Le.orR' | apply Le.bind' | apply Le.ite' | apply Le.loop' | apply Le.altS' | exact Le.rfl' _ | (refine Le.pi2 ?_; intro _) | intro _)
def JF (nE : Nat) (p0 : Int) (p1 : List (Int × Int)) : Option Bool := (if (decide (p0 < 0) || decide (16 < p0)) = true then some false else GT (DO nE (H2 nE p0 p1) 0) fun _ => some true)
theorem Ow (nE : Nat) (p0 : Int) (p1 : List (Int × Int)) : Le (JF nE p0 p1) (Gr p0 p1) := by
  unfold JF Gr
  repeat' with_reducible (first | apply Le.orR' | apply Le.bind' | apply Le.ite' | apply Le.loop' | apply Le.altS' | apply Mp | exact Le.rfl' _ | (refine Le.pi2 ?_; intro _) | intro _)
def Fy (nE : Nat) (p0 : Int) (p1 : Int) : Option Int := (Vh (HL .u32 1 p1) p1).bind fun x1 => some (Ta .u32 p0 x1)
theorem HJ (nE : Nat) (p0 : Int) (p1 : Int) : Le (Fy nE p0 p1) (C7 p0 p1) := by
  unfold Fy C7
  repeat' with_reducible (first | apply Le.orR' | apply Le.bind' | apply Le.ite' | apply Le.loop' | apply Le.altS' | exact Le.rfl' _ | (refine Le.pi2 ?_; intro _) | intro _)
def Gd (nE : Nat) (p0 : List (Int × Int)) : (Int × Int × Int × Int × Int × Int × Int × Int × Int × Int × Int × Int × Int × Int × Int × Int × Int) → Option ((Int × Int × Int × Int × Int × Int × Int × Int × Int × Int × Int × Int × Int × Int × Int × Int × Int) ⊕ (Int × Int × Int × Int × Int × Int × Int × Int × Int × Int × Int × Int × Int × Int × Int × Int))
  | (x17, x18, x19, x20, x21, x22, x23, x24, x25, x26, x27, x28, x29, x30, x31, x32, x33) => (if x17 < (p0.length : Int) then (ix p0 x17).bind fun x34 => (ix ([x18, x19, x20, x21, x22, x23, x24, x25, x26, x27, x28, x29, x30, x31, x32, x33] : List Int) x34.1).bind fun x35 => (Fy nE x35 x34.2).bind fun x36 => (ix ([x18, x19, x20, x21, x22, x23, x24, x25, x26, x27, x28, x29, x30, x31, x32, x33] : List Int) x34.1).bind fun x37 => some (.inl (An (x17 + 1), (if x34.1 = 0 then x36 else x18), (if x34.1 = 1 then x36 else x19), (if x34.1 = 2 then x36 else x20), (if x34.1 = 3 then x36 else x21), (if x34.1 = 4 then x36 else x22), (if x34.1 = 5 then x36 else x23), (if x34.1 = 6 then x36 else x24), (if x34.1 = 7 then x36 else x25), (if x34.1 = 8 then x36 else x26), (if x34.1 = 9 then x36 else x27), (if x34.1 = 10 then x36 else x28), (if x34.1 = 11 then x36 else x29), (if x34.1 = 12 then x36 else x30), (if x34.1 = 13 then x36 else x31), (if x34.1 = 14 then x36 else x32), (if x34.1 = 15 then x36 else x33))) else some (.inr (x18, x19, x20, x21, x22, x23, x24, x25, x26, x27, x28, x29, x30, x31, x32, x33)))
theorem J4 (nE : Nat) (p0 : List (Int × Int)) : ∀ s, Le (Gd nE p0 s) (CL p0 s) := by
  rintro ⟨x17, x18, x19, x20, x21, x22, x23, x24, x25, x26, x27, x28, x29, x30, x31, x32, x33⟩
  unfold Gd CL
  repeat' with_reducible (first | apply Le.orR' | apply Le.bind' | apply Le.ite' | apply Le.loop' | apply Le.altS' | apply HJ | exact Le.rfl' _ | (refine Le.pi2 ?_; intro _) | intro _)
def Hc (nE : Nat) (p0 : List (Int × Int)) : Option (Int × Int × Int × Int × Int × Int × Int × Int × Int × Int × Int × Int × Int × Int × Int × Int) := (DO nE (Gd nE p0) (0, 0, 0, 0, 0, 0, 0, 0, 0, 0, 0, 0, 0, 0, 0, 0, 0)).bind fun (x1, x2, x3, x4, x5, x6, x7, x8, x9, x10, x11, x12, x13, x14, x15, x16) => some (x1, x2, x3, x4, x5, x6, x7, x8, x9, x10, x11, x12, x13, x14, x15, x16)
theorem Ll (nE : Nat) (p0 : List (Int × Int)) : Le (Hc nE p0) (D5 p0) := by
  unfold Hc D5
  repeat' with_reducible (first | apply Le.orR' | apply Le.bind' | apply Le.ite' | apply Le.loop' | apply Le.altS' | apply J4 | exact Le.rfl' _ | (refine Le.pi2 ?_; intro _) | intro _)
def FF (nE : Nat) (p0 : List (Int × Int)) : (Int × Int × Int × Int × Int × Int × Int × Int × Int × Int × Int × Int × Int × Int × Int × Int × Int) → Option ((Int × Int × Int × Int × Int × Int × Int × Int × Int × Int × Int × Int × Int × Int × Int × Int × Int) ⊕ (Int × Int × Int × Int × Int × Int × Int × Int × Int × Int × Int × Int × Int × Int × Int × Int))
  | (x17, x18, x19, x20, x21, x22, x23, x24, x25, x26, x27, x28, x29, x30, x31, x32, x33) => (if x17 < (p0.length : Int) then (ix p0 x17).bind fun x34 => (ix ([x18, x19, x20, x21, x22, x23, x24, x25, x26, x27, x28, x29, x30, x31, x32, x33] : List Int) x34.2).bind fun x35 => (Fy nE x35 x34.1).bind fun x36 => (ix ([x18, x19, x20, x21, x22, x23, x24, x25, x26, x27, x28, x29, x30, x31, x32, x33] : List Int) x34.2).bind fun x37 => some (.inl (An (x17 + 1), (if x34.2 = 0 then x36 else x18), (if x34.2 = 1 then x36 else x19), (if x34.2 = 2 then x36 else x20), (if x34.2 = 3 then x36 else x21), (if x34.2 = 4 then x36 else x22), (if x34.2 = 5 then x36 else x23), (if x34.2 = 6 then x36 else x24), (if x34.2 = 7 then x36 else x25), (if x34.2 = 8 then x36 else x26), (if x34.2 = 9 then x36 else x27), (if x34.2 = 10 then x36 else x28), (if x34.2 = 11 then x36 else x29), (if x34.2 = 12 then x36 else x30), (if x34.2 = 13 then x36 else x31), (if x34.2 = 14 then x36 else x32), (if x34.2 = 15 then x36 else x33))) else some (.inr (x18, x19, x20, x21, x22, x23, x24, x25, x26, x27, x28, x29, x30, x31, x32, x33)))
theorem JJ (nE : Nat) (p0 : List (Int × Int)) : ∀ s, Le (FF nE p0 s) (Cr p0 s) := by
  rintro ⟨x17, x18, x19, x20, x21, x22, x23, x24, x25, x26, x27, x28, x29, x30, x31, x32, x33⟩
  unfold FF Cr
  repeat' with_reducible (first | apply Le.orR' | apply Le.bind' | apply Le.ite' | apply Le.loop' | apply Le.altS' | apply HJ | exact Le.rfl' _ | (refine Le.pi2 ?_; intro _) | intro _)
def Gn (nE : Nat) (p0 : List (Int × Int)) : Option (Int × Int × Int × Int × Int × Int × Int × Int × Int × Int × Int × Int × Int × Int × Int × Int) := (DO nE (FF nE p0) (0, 0, 0, 0, 0, 0, 0, 0, 0, 0, 0, 0, 0, 0, 0, 0, 0)).bind fun (x1, x2, x3, x4, x5, x6, x7, x8, x9, x10, x11, x12, x13, x14, x15, x16) => some (x1, x2, x3, x4, x5, x6, x7, x8, x9, x10, x11, x12, x13, x14, x15, x16)
theorem Ky (nE : Nat) (p0 : List (Int × Int)) : Le (Gn nE p0) (DH p0) := by
  unfold Gn DH
  repeat' with_reducible (first | apply Le.orR' | apply Le.bind' | apply Le.ite' | apply Le.loop' | apply Le.altS' | apply JJ | exact Le.rfl' _ | (refine Le.pi2 ?_; intro _) | intro _)
def FY (nE : Nat) (p0 : Int) (p1 : Int) : Option Bool := (Vh (Jq .u32 p0 p1) p1).bind fun x1 => some (decide ((Oa .u32 x1 1) = 1))
theorem JV (nE : Nat) (p0 : Int) (p1 : Int) : Le (FY nE p0 p1) (Ea p0 p1) := by
  unfold FY Ea
  repeat' with_reducible (first | apply Le.orR' | apply Le.bind' | apply Le.ite' | apply Le.loop' | apply Le.altS' | exact Le.rfl' _ | (refine Le.pi2 ?_; intro _) | intro _)
def GB (nE : Nat)  : (Int × Int × Int × Int × Int × Int × Int × Int × Int × Int × Int × Int × Int × Int × Int × Int × Int) → Option ((Int × Int × Int × Int × Int × Int × Int × Int × Int × Int × Int × Int × Int × Int × Int × Int × Int) ⊕ (Int × Int × Int × Int × Int × Int × Int × Int × Int × Int × Int × Int × Int × Int × Int × Int))
  | (x17, x18, x19, x20, x21, x22, x23, x24, x25, x26, x27, x28, x29, x30, x31, x32, x33) => (if x17 < 16 then (ix ([x18, x19, x20, x21, x22, x23, x24, x25, x26, x27, x28, x29, x30, x31, x32, x33] : List Int) x17).bind fun x34 => some (.inl (An (x17 + 1), (if x17 = 0 then (-1) else x18), (if x17 = 1 then (-1) else x19), (if x17 = 2 then (-1) else x20), (if x17 = 3 then (-1) else x21), (if x17 = 4 then (-1) else x22), (if x17 = 5 then (-1) else x23), (if x17 = 6 then (-1) else x24), (if x17 = 7 then (-1) else x25), (if x17 = 8 then (-1) else x26), (if x17 = 9 then (-1) else x27), (if x17 = 10 then (-1) else x28), (if x17 = 11 then (-1) else x29), (if x17 = 12 then (-1) else x30), (if x17 = 13 then (-1) else x31), (if x17 = 14 then (-1) else x32), (if x17 = 15 then (-1) else x33))) else some (.inr (x18, x19, x20, x21, x22, x23, x24, x25, x26, x27, x28, x29, x30, x31, x32, x33)))
theorem KB (nE : Nat)  : ∀ s, Le (GB nE  s) (CB  s) := by
  rintro ⟨x17, x18, x19, x20, x21, x22, x23, x24, x25, x26, x27, x28, x29, x30, x31, x32, x33⟩
  unfold GB CB
  repeat' with_reducible (first | apply Le.orR' | apply Le.bind' | apply Le.ite' | apply Le.loop' | apply Le.altS' | exact Le.rfl' _ | (refine Le.pi2 ?_; intro _) | intro _)
def GC (nE : Nat) (p0 : Int) (p1 : Int × Int × Int × Int × Int × Int × Int × Int × Int × Int × Int × Int × Int × Int × Int × Int) (x54 : Int) (x55 : Int) (x56 : Int) : (Int × Int × Int × Int × Int × Int × Int × Int × Int × Int × Int × Int × Int × Int × Int × Int × Int × Int) → Option ((Int × Int × Int × Int × Int × Int × Int × Int × Int × Int × Int × Int × Int × Int × Int × Int × Int × Int) ⊕ (Int × Int × Int × Int × Int × Int × Int × Int × Int × Int × Int × Int × Int × Int × Int × Int × Int))
  | (x107, x108, x109, x110, x111, x112, x113, x114, x115, x116, x117, x118, x119, x120, x121, x122, x123, x124) => (if x108 < p0 then (((FY nE x54 x108).bind fun x143 => (if x143 = true then (FY nE x55 x108).bind fun x144 => some (!x144) else some false)).bind fun x142 => (if x142 = true then (ix ([x109, x110, x111, x112, x113, x114, x115, x116, x117, x118, x119, x120, x121, x122, x123, x124] : List Int) x108).bind fun x145 => (ix ([p1.1, p1.2.1, p1.2.2.1, p1.2.2.2.1, p1.2.2.2.2.1, p1.2.2.2.2.2.1, p1.2.2.2.2.2.2.1, p1.2.2.2.2.2.2.2.1, p1.2.2.2.2.2.2.2.2.1, p1.2.2.2.2.2.2.2.2.2.1, p1.2.2.2.2.2.2.2.2.2.2.1, p1.2.2.2.2.2.2.2.2.2.2.2.1, p1.2.2.2.2.2.2.2.2.2.2.2.2.1, p1.2.2.2.2.2.2.2.2.2.2.2.2.2.1, p1.2.2.2.2.2.2.2.2.2.2.2.2.2.2.1, p1.2.2.2.2.2.2.2.2.2.2.2.2.2.2.2] : List Int) x108).bind fun x146 => some (Ta .u32 x107 x146, (if x108 = 0 then An (x56 + 1) else x109), (if x108 = 1 then An (x56 + 1) else x110), (if x108 = 2 then An (x56 + 1) else x111), (if x108 = 3 then An (x56 + 1) else x112), (if x108 = 4 then An (x56 + 1) else x113), (if x108 = 5 then An (x56 + 1) else x114), (if x108 = 6 then An (x56 + 1) else x115), (if x108 = 7 then An (x56 + 1) else x116), (if x108 = 8 then An (x56 + 1) else x117), (if x108 = 9 then An (x56 + 1) else x118), (if x108 = 10 then An (x56 + 1) else x119), (if x108 = 11 then An (x56 + 1) else x120), (if x108 = 12 then An (x56 + 1) else x121), (if x108 = 13 then An (x56 + 1) else x122), (if x108 = 14 then An (x56 + 1) else x123), (if x108 = 15 then An (x56 + 1) else x124)) else some (x107, x109, x110, x111, x112, x113, x114, x115, x116, x117, x118, x119, x120, x121, x122, x123, x124))).bind fun (x125, x126, x127, x128, x129, x130, x131, x132, x133, x134, x135, x136, x137, x138, x139, x140, x141) => some (.inl (x125, An (x108 + 1), x126, x127, x128, x129, x130, x131, x132, x133, x134, x135, x136, x137, x138, x139, x140, x141)) else some (.inr (x107, x109, x110, x111, x112, x113, x114, x115, x116, x117, x118, x119, x120, x121, x122, x123, x124)))
theorem KA (nE : Nat) (p0 : Int) (p1 : Int × Int × Int × Int × Int × Int × Int × Int × Int × Int × Int × Int × Int × Int × Int × Int) (x54 : Int) (x55 : Int) (x56 : Int) : ∀ s, Le (GC nE p0 p1 x54 x55 x56 s) (BT p0 p1 x54 x55 x56 s) := by
  rintro ⟨x107, x108, x109, x110, x111, x112, x113, x114, x115, x116, x117, x118, x119, x120, x121, x122, x123, x124⟩
  unfold GC BT
  repeat' with_reducible (first | apply Le.orR' | apply Le.bind' | apply Le.ite' | apply Le.loop' | apply Le.altS' | apply JV | exact Le.rfl' _ | (refine Le.pi2 ?_; intro _) | intro _)
def Gp (nE : Nat) (p0 : Int) (p1 : Int × Int × Int × Int × Int × Int × Int × Int × Int × Int × Int × Int × Int × Int × Int × Int) : (Int × Int × Int × Int × Int × Int × Int × Int × Int × Int × Int × Int × Int × Int × Int × Int × Int × Int × Int) → Option ((Int × Int × Int × Int × Int × Int × Int × Int × Int × Int × Int × Int × Int × Int × Int × Int × Int × Int × Int) ⊕ (Int × Int × Int × Int × Int × Int × Int × Int × Int × Int × Int × Int × Int × Int × Int × Int))
  | (x54, x55, x56, x57, x58, x59, x60, x61, x62, x63, x64, x65, x66, x67, x68, x69, x70, x71, x72) => (if x56 < p0 then ((DO nE (GC nE p0 p1 x54 x55 x56) (0, 0, x57, x58, x59, x60, x61, x62, x63, x64, x65, x66, x67, x68, x69, x70, x71, x72)).bind fun (x90, x91, x92, x93, x94, x95, x96, x97, x98, x99, x100, x101, x102, x103, x104, x105, x106) => some (x90, x91, x92, x93, x94, x95, x96, x97, x98, x99, x100, x101, x102, x103, x104, x105, x106)).bind fun (x73, x74, x75, x76, x77, x78, x79, x80, x81, x82, x83, x84, x85, x86, x87, x88, x89) => some (.inl (x73, Ta .u32 x55 x54, An (x56 + 1), x74, x75, x76, x77, x78, x79, x80, x81, x82, x83, x84, x85, x86, x87, x88, x89)) else some (.inr (x57, x58, x59, x60, x61, x62, x63, x64, x65, x66, x67, x68, x69, x70, x71, x72)))
theorem Kx (nE : Nat) (p0 : Int) (p1 : Int × Int × Int × Int × Int × Int × Int × Int × Int × Int × Int × Int × Int × Int × Int × Int) : ∀ s, Le (Gp nE p0 p1 s) (Cq p0 p1 s) := by
  rintro ⟨x54, x55, x56, x57, x58, x59, x60, x61, x62, x63, x64, x65, x66, x67, x68, x69, x70, x71, x72⟩
  unfold Gp Cq
  repeat' with_reducible (first | apply Le.orR' | apply Le.bind' | apply Le.ite' | apply Le.loop' | apply Le.altS' | apply KA | exact Le.rfl' _ | (refine Le.pi2 ?_; intro _) | intro _)
def Hv (nE : Nat) (p0 : Int) (p1 : Int × Int × Int × Int × Int × Int × Int × Int × Int × Int × Int × Int × Int × Int × Int × Int) (p2 : Int) : Option (Int × Int × Int × Int × Int × Int × Int × Int × Int × Int × Int × Int × Int × Int × Int × Int) := (DO nE (GB nE) (0, 0, 0, 0, 0, 0, 0, 0, 0, 0, 0, 0, 0, 0, 0, 0, 0)).bind fun (x1, x2, x3, x4, x5, x6, x7, x8, x9, x10, x11, x12, x13, x14, x15, x16) => (ix ([x1, x2, x3, x4, x5, x6, x7, x8, x9, x10, x11, x12, x13, x14, x15, x16] : List Int) p2).bind fun x35 => (ix ([p1.1, p1.2.1, p1.2.2.1, p1.2.2.2.1, p1.2.2.2.2.1, p1.2.2.2.2.2.1, p1.2.2.2.2.2.2.1, p1.2.2.2.2.2.2.2.1, p1.2.2.2.2.2.2.2.2.1, p1.2.2.2.2.2.2.2.2.2.1, p1.2.2.2.2.2.2.2.2.2.2.1, p1.2.2.2.2.2.2.2.2.2.2.2.1, p1.2.2.2.2.2.2.2.2.2.2.2.2.1, p1.2.2.2.2.2.2.2.2.2.2.2.2.2.1, p1.2.2.2.2.2.2.2.2.2.2.2.2.2.2.1, p1.2.2.2.2.2.2.2.2.2.2.2.2.2.2.2] : List Int) p2).bind fun x36 => (Fy nE 0 p2).bind fun x37 => (DO nE (Gp nE p0 p1) (x36, x37, 0, (if p2 = 0 then 0 else x1), (if p2 = 1 then 0 else x2), (if p2 = 2 then 0 else x3), (if p2 = 3 then 0 else x4), (if p2 = 4 then 0 else x5), (if p2 = 5 then 0 else x6), (if p2 = 6 then 0 else x7), (if p2 = 7 then 0 else x8), (if p2 = 8 then 0 else x9), (if p2 = 9 then 0 else x10), (if p2 = 10 then 0 else x11), (if p2 = 11 then 0 else x12), (if p2 = 12 then 0 else x13), (if p2 = 13 then 0 else x14), (if p2 = 14 then 0 else x15), (if p2 = 15 then 0 else x16))).bind fun (x38, x39, x40, x41, x42, x43, x44, x45, x46, x47, x48, x49, x50, x51, x52, x53) => some (x38, x39, x40, x41, x42, x43, x44, x45, x46, x47, x48, x49, x50, x51, x52, x53)
theorem LR (nE : Nat) (p0 : Int) (p1 : Int × Int × Int × Int × Int × Int × Int × Int × Int × Int × Int × Int × Int × Int × Int × Int) (p2 : Int) : Le (Hv nE p0 p1 p2) (Em p0 p1 p2) := by
  unfold Hv Em
  repeat' with_reducible (first | apply Le.orR' | apply Le.bind' | apply Le.ite' | apply Le.loop' | apply Le.altS' | apply HJ | apply KB | apply Kx | exact Le.rfl' _ | (refine Le.pi2 ?_; intro _) | intro _)
def Hj (nE : Nat) (p0 : Int) (p1 : Int) (p2 : Int × Int × Int × Int × Int × Int × Int × Int × Int × Int × Int × Int × Int × Int × Int × Int) : (Int × Int) → Option ((Int × Int) ⊕ Int)
  | (x2, x3) => (if x3 < p0 then (((FY nE p1 x3).bind fun x6 => (if x6 = true then (ix ([p2.1, p2.2.1, p2.2.2.1, p2.2.2.2.1, p2.2.2.2.2.1, p2.2.2.2.2.2.1, p2.2.2.2.2.2.2.1, p2.2.2.2.2.2.2.2.1, p2.2.2.2.2.2.2.2.2.1, p2.2.2.2.2.2.2.2.2.2.1, p2.2.2.2.2.2.2.2.2.2.2.1, p2.2.2.2.2.2.2.2.2.2.2.2.1, p2.2.2.2.2.2.2.2.2.2.2.2.2.1, p2.2.2.2.2.2.2.2.2.2.2.2.2.2.1, p2.2.2.2.2.2.2.2.2.2.2.2.2.2.2.1, p2.2.2.2.2.2.2.2.2.2.2.2.2.2.2.2] : List Int) x3).bind fun x7 => (if 0 ≤ x7 then (if x2 < 0 then some true else (ix ([p2.1, p2.2.1, p2.2.2.1, p2.2.2.2.1, p2.2.2.2.2.1, p2.2.2.2.2.2.1, p2.2.2.2.2.2.2.1, p2.2.2.2.2.2.2.2.1, p2.2.2.2.2.2.2.2.2.1, p2.2.2.2.2.2.2.2.2.2.1, p2.2.2.2.2.2.2.2.2.2.2.1, p2.2.2.2.2.2.2.2.2.2.2.2.1, p2.2.2.2.2.2.2.2.2.2.2.2.2.1, p2.2.2.2.2.2.2.2.2.2.2.2.2.2.1, p2.2.2.2.2.2.2.2.2.2.2.2.2.2.2.1, p2.2.2.2.2.2.2.2.2.2.2.2.2.2.2.2] : List Int) x3).bind fun x8 => (ix ([p2.1, p2.2.1, p2.2.2.1, p2.2.2.2.1, p2.2.2.2.2.1, p2.2.2.2.2.2.1, p2.2.2.2.2.2.2.1, p2.2.2.2.2.2.2.2.1, p2.2.2.2.2.2.2.2.2.1, p2.2.2.2.2.2.2.2.2.2.1, p2.2.2.2.2.2.2.2.2.2.2.1, p2.2.2.2.2.2.2.2.2.2.2.2.1, p2.2.2.2.2.2.2.2.2.2.2.2.2.1, p2.2.2.2.2.2.2.2.2.2.2.2.2.2.1, p2.2.2.2.2.2.2.2.2.2.2.2.2.2.2.1, p2.2.2.2.2.2.2.2.2.2.2.2.2.2.2.2] : List Int) x2).bind fun x9 => some (decide (x8 < x9))) else some false) else some false)).bind fun x5 => (if x5 = true then some x3 else some x2)).bind fun x4 => some (.inl (x4, An (x3 + 1))) else some (.inr x2))
theorem Lm (nE : Nat) (p0 : Int) (p1 : Int) (p2 : Int × Int × Int × Int × Int × Int × Int × Int × Int × Int × Int × Int × Int × Int × Int × Int) : ∀ s, Le (Hj nE p0 p1 p2 s) (Cy p0 p1 p2 s) := by
  rintro ⟨x2, x3⟩
  unfold Hj Cy
  repeat' with_reducible (first | apply Le.orR' | apply Le.bind' | apply Le.ite' | apply Le.loop' | apply Le.altS' | apply JV | exact Le.rfl' _ | (refine Le.pi2 ?_; intro _) | intro _)
def GZ (nE : Nat) (p0 : Int) (p1 : Int) (p2 : Int × Int × Int × Int × Int × Int × Int × Int × Int × Int × Int × Int × Int × Int × Int × Int) : Option Int := (DO nE (Hj nE p0 p1 p2) ((-1), 0)).bind fun x1 => some x1
theorem J0 (nE : Nat) (p0 : Int) (p1 : Int) (p2 : Int × Int × Int × Int × Int × Int × Int × Int × Int × Int × Int × Int × Int × Int × Int × Int) : Le (GZ nE p0 p1 p2) (D8 p0 p1 p2) := by
  unfold GZ D8
  repeat' with_reducible (first | apply Le.orR' | apply Le.bind' | apply Le.ite' | apply Le.loop' | apply Le.altS' | apply Lm | exact Le.rfl' _ | (refine Le.pi2 ?_; intro _) | intro _)
def Iv (nE : Nat) (p0 : Int) (x2 : (Int × Int × Int × Int × Int × Int × Int × Int × Int × Int × Int × Int × Int × Int × Int × Int)) (x3 : Int) (x5 : (Int × Int × Int × Int × Int × Int × Int × Int × Int × Int × Int × Int × Int × Int × Int × Int)) : (List Int × Int) → Option ((List Int × Int) ⊕ (List Int))
  | (x9, x10) => (if x10 ≠ x3 then (HN x9 ([x10] : List Int)).bind fun x11 => (ix ([x2.1, x2.2.1, x2.2.2.1, x2.2.2.2.1, x2.2.2.2.2.1, x2.2.2.2.2.2.1, x2.2.2.2.2.2.2.1, x2.2.2.2.2.2.2.2.1, x2.2.2.2.2.2.2.2.2.1, x2.2.2.2.2.2.2.2.2.2.1, x2.2.2.2.2.2.2.2.2.2.2.1, x2.2.2.2.2.2.2.2.2.2.2.2.1, x2.2.2.2.2.2.2.2.2.2.2.2.2.1, x2.2.2.2.2.2.2.2.2.2.2.2.2.2.1, x2.2.2.2.2.2.2.2.2.2.2.2.2.2.2.1, x2.2.2.2.2.2.2.2.2.2.2.2.2.2.2.2] : List Int) x10).bind fun x12 => (GZ nE p0 x12 x5).bind fun x13 => some (.inl (x11, x13)) else some (.inr x9))
theorem MQ (nE : Nat) (p0 : Int) (x2 : (Int × Int × Int × Int × Int × Int × Int × Int × Int × Int × Int × Int × Int × Int × Int × Int)) (x3 : Int) (x5 : (Int × Int × Int × Int × Int × Int × Int × Int × Int × Int × Int × Int × Int × Int × Int × Int)) : ∀ s, Le (Iv nE p0 x2 x3 x5 s) (Ff p0 x2 x3 x5 s) := by
  rintro ⟨x9, x10⟩
  unfold Iv Ff
  repeat' with_reducible (first | apply Le.orR' | apply Le.bind' | apply Le.ite' | apply Le.loop' | apply Le.altS' | apply J0 | exact Le.rfl' _ | (refine Le.pi2 ?_; intro _) | intro _)
def Iu (nE : Nat) (p0 : Int) (p1 : List (Int × Int)) (x2 : (Int × Int × Int × Int × Int × Int × Int × Int × Int × Int × Int × Int × Int × Int × Int × Int)) : Int → Option (Int ⊕ (Unit ⊕ (List Int)))
  | x3 => (if x3 < p0 then GT ((Gn nE p1).bind fun x4 => (Hv nE p0 x4 x3).bind fun x5 => (ix ([x2.1, x2.2.1, x2.2.2.1, x2.2.2.2.1, x2.2.2.2.2.1, x2.2.2.2.2.2.1, x2.2.2.2.2.2.2.1, x2.2.2.2.2.2.2.2.1, x2.2.2.2.2.2.2.2.2.1, x2.2.2.2.2.2.2.2.2.2.1, x2.2.2.2.2.2.2.2.2.2.2.1, x2.2.2.2.2.2.2.2.2.2.2.2.1, x2.2.2.2.2.2.2.2.2.2.2.2.2.1, x2.2.2.2.2.2.2.2.2.2.2.2.2.2.1, x2.2.2.2.2.2.2.2.2.2.2.2.2.2.2.1, x2.2.2.2.2.2.2.2.2.2.2.2.2.2.2.2] : List Int) x3).bind fun x6 => (GZ nE p0 x6 x5).bind fun x7 => (if x7 < 0 then some (.inl ()) else (DO nE (Iv nE p0 x2 x3 x5) (([x3] : List Int), x7)).bind fun x8 => some (.inr (.inr (.inr x8))))) fun _ => some (.inl (An (x3 + 1))) else some (.inr (.inl ())))
theorem MV (nE : Nat) (p0 : Int) (p1 : List (Int × Int)) (x2 : (Int × Int × Int × Int × Int × Int × Int × Int × Int × Int × Int × Int × Int × Int × Int × Int)) : ∀ s, Le (Iu nE p0 p1 x2 s) (F4 p0 p1 x2 s) := by
  intro x3
  unfold Iu F4
  repeat' with_reducible (first | apply Le.orR' | apply Le.bind' | apply Le.ite' | apply Le.loop' | apply Le.altS' | apply Ky | apply LR | apply J0 | apply MQ | exact Le.rfl' _ | (refine Le.pi2 ?_; intro _) | intro _)
def J5 (nE : Nat) (p0 : Int) (p1 : List (Int × Int)) : Option (List Int) := (JF nE p0 p1).bind fun x1 => (if (!x1) = true then some ([] : List Int) else (Hc nE p1).bind fun x2 => GT (DO nE (Iu nE p0 p1 x2) 0) fun _ => some ([] : List Int))
theorem OX (nE : Nat) (p0 : Int) (p1 : List (Int × Int)) : Le (J5 nE p0 p1) (Er p0 p1) := by
  unfold J5 Er
  repeat' with_reducible (first | apply Le.orR' | apply Le.bind' | apply Le.ite' | apply Le.loop' | apply Le.altS' | apply Ow | apply Ll | apply MV | exact Le.rfl' _ | (refine Le.pi2 ?_; intro _) | intro _)
def Fh (nE : Nat) (p0 : (Int × (List (Int × Int × Int × Int × Int × Int)) × (List (Int × Int))) × List (List Int) × List (List Int) × ((List (Int × Int × Int × Int)) × (List (Int × Int × List Int)) × Int × Int × Int × Int)) (p3 : Int) (x5 : Int) (x9 : List Int) : ((List (Int × Int)) × Bool × Int) → Option (((List (Int × Int)) × Bool × Int) ⊕ ((List (Int × Int)) × Bool))
  | (x10, x11, x12) => (if x12 < (x9.length : Int) then ((ix x9 x12).bind fun x15 => (Jx nE p0.1 x5 x15).bind fun x16 => (if x16.2.2.2 = true then (HN x10 ([(x5, x16.1)] : List (Int × Int))).bind fun x17 => some (x17, x11) else (H4 nE p0.1 x5 x15).bind fun x18 => (if x18 ≠ p3 then some (x10, true) else some (x10, x11)))).bind fun (x13, x14) => some (.inl (x13, x14, An (x12 + 1))) else some (.inr (x10, x11)))
theorem Jn (nE : Nat) (p0 : (Int × (List (Int × Int × Int × Int × Int × Int)) × (List (Int × Int))) × List (List Int) × List (List Int) × ((List (Int × Int × Int × Int)) × (List (Int × Int × List Int)) × Int × Int × Int × Int)) (p3 : Int) (x5 : Int) (x9 : List Int) : ∀ s, Le (Fh nE p0 p3 x5 x9 s) (CA p0 p3 x5 x9 s) := by
  rintro ⟨x10, x11, x12⟩
  unfold Fh CA
  repeat' with_reducible (first | apply Le.orR' | apply Le.bind' | apply Le.ite' | apply Le.loop' | apply Le.altS' | apply KM | apply Mw | exact Le.rfl' _ | (refine Le.pi2 ?_; intro _) | intro _)
def Fm (nE : Nat) (p0 : (Int × (List (Int × Int × Int × Int × Int × Int)) × (List (Int × Int))) × List (List Int) × List (List Int) × ((List (Int × Int × Int × Int)) × (List (Int × Int × List Int)) × Int × Int × Int × Int)) (p1 : List (List (List Int))) (p3 : Int) : ((List (Int × Int)) × Bool × Int) → Option (((List (Int × Int)) × Bool × Int) ⊕ ((List (Int × Int)) × Bool))
  | (x3, x4, x5) => (if x5 < (p1.length : Int) then ((ix p1 x5).bind fun x8 => (ix x8 p3).bind fun x9 => DO nE (Fh nE p0 p3 x5 x9) (x3, x4, 0)).bind fun (x6, x7) => some (.inl (x6, x7, An (x5 + 1))) else some (.inr (x3, x4)))
theorem Jo (nE : Nat) (p0 : (Int × (List (Int × Int × Int × Int × Int × Int)) × (List (Int × Int))) × List (List Int) × List (List Int) × ((List (Int × Int × Int × Int)) × (List (Int × Int × List Int)) × Int × Int × Int × Int)) (p1 : List (List (List Int))) (p3 : Int) : ∀ s, Le (Fm nE p0 p1 p3 s) (C0 p0 p1 p3 s) := by
  rintro ⟨x3, x4, x5⟩
  unfold Fm C0
  repeat' with_reducible (first | apply Le.orR' | apply Le.bind' | apply Le.ite' | apply Le.loop' | apply Le.altS' | apply Jn | exact Le.rfl' _ | (refine Le.pi2 ?_; intro _) | intro _)
def F7 (nE : Nat) (p0 : (Int × (List (Int × Int × Int × Int × Int × Int)) × (List (Int × Int))) × List (List Int) × List (List Int) × ((List (Int × Int × Int × Int)) × (List (Int × Int × List Int)) × Int × Int × Int × Int)) (p1 : List (List (List Int))) (p2 : Int) (p3 : Int) : Option (List (Int × Int × Int)) := (DO nE (Fm nE p0 p1 p3) ([], false, 0)).bind fun (x1, x2) => (if x2 = true then (HN ([] : List (Int × Int × Int)) ([(5, p2, p3)] : List (Int × Int × Int))).bind fun x20 => some x20 else some ([])).bind fun x19 => ((J5 nE p0.1.1 x1).bind fun x22 => (if 0 < (x22.length : Int) then (HN x19 ([(6, p2, p3)] : List (Int × Int × Int))).bind fun x23 => some x23 else some x19)).bind fun x21 => some x21
theorem Kc (nE : Nat) (p0 : (Int × (List (Int × Int × Int × Int × Int × Int)) × (List (Int × Int))) × List (List Int) × List (List Int) × ((List (Int × Int × Int × Int)) × (List (Int × Int × List Int)) × Int × Int × Int × Int)) (p1 : List (List (List Int))) (p2 : Int) (p3 : Int) : Le (F7 nE p0 p1 p2 p3) (Dx p0 p1 p2 p3) := by
  unfold F7 Dx
  repeat' with_reducible (first | apply Le.orR' | apply Le.bind' | apply Le.ite' | apply Le.loop' | apply Le.altS' | apply OX | apply Jo | exact Le.rfl' _ | (refine Le.pi2 ?_; intro _) | intro _)
def EV (nE : Nat) (p0 : (Int × (List (Int × Int × Int × Int × Int × Int)) × (List (Int × Int))) × List (List Int) × List (List Int) × ((List (Int × Int × Int × Int)) × (List (Int × Int × List Int)) × Int × Int × Int × Int)) (x8 : Int × Int × List Int) : ((List (Nat × List Int)) × (List (Nat × List (Nat × List Int))) × Int) → Option (((List (Nat × List Int)) × (List (Nat × List (Nat × List Int))) × Int) ⊕ ((List (Nat × List Int)) × (List (Nat × List (Nat × List Int)))))
  | (x13, x14, x15) => (if x15 < (p0.2.2.2.1.length : Int) then ((ix p0.2.2.2.1 x15).bind fun x18 => (if (BJ p0 x18) = true then (GI nE x8 x18).bind fun x22 => some (x13, x14, x22) else some (x13, x14, false)).bind fun (x19, x20, x21) => (if x21 = true then (ix x20 x18.1).bind fun x23 => (ix x23.2 x18.2.1).bind fun x24 => (KW x23.1).bind fun x25 => (KW x24.1).bind fun x26 => (HN x24.2 ([x18.2.2.1] : List Int)).bind fun x27 => (ix (Ah x23.2 x18.2.1 (0, [])) x18.2.1).bind fun x28 => (ix x19 x18.1).bind fun x29 => (ix x29.2 x18.2.1).bind fun x30 => (Q6 x29.1).bind fun x31 => (KW x29.1).bind fun x32 => some ((Ah x19 x18.1 (2, (Ah x29.2 x18.2.1 x18.2.2.1))), (Ah (Ah x20 x18.1 (2, (Ah x23.2 x18.2.1 (0, [])))) x18.1 (2, (Ah (Ah x23.2 x18.2.1 (0, [])) x18.2.1 (2, x27))))) else some (x19, x20))).bind fun (x16, x17) => some (.inl (x16, x17, An (x15 + 1))) else some (.inr (x13, x14)))
theorem IG (nE : Nat) (p0 : (Int × (List (Int × Int × Int × Int × Int × Int)) × (List (Int × Int))) × List (List Int) × List (List Int) × ((List (Int × Int × Int × Int)) × (List (Int × Int × List Int)) × Int × Int × Int × Int)) (x8 : Int × Int × List Int) : ∀ s, Le (EV nE p0 x8 s) (BZ p0 x8 s) := by
  rintro ⟨x13, x14, x15⟩
  unfold EV BZ
  repeat' with_reducible (first | apply Le.orR' | apply Le.bind' | apply Le.ite' | apply Le.loop' | apply Le.altS' | apply Jt | exact Le.rfl' _ | (refine Le.pi2 ?_; intro _) | intro _)
def EL (nE : Nat) (p0 : (Int × (List (Int × Int × Int × Int × Int × Int)) × (List (Int × Int))) × List (List Int) × List (List Int) × ((List (Int × Int × Int × Int)) × (List (Int × Int × List Int)) × Int × Int × Int × Int)) (x5 : Int) (x11 : List (Nat × List Int)) (x12 : List (Nat × List (Nat × List Int))) : ((List (Int × Int × Int)) × Int) → Option (((List (Int × Int × Int)) × Int) ⊕ ((List (Int × Int × Int)) × (List (Nat × List Int))))
  | (x33, x34) => (if x34 < (p0.1.2.2.length : Int) then (Ji UQ x12).bind fun x35 => (F7 nE p0 x35 x5 x34).bind fun x36 => (HN x33 x36).bind fun x37 => some (.inl (x37, An (x34 + 1))) else some (.inr (x33, x11)))
theorem IM (nE : Nat) (p0 : (Int × (List (Int × Int × Int × Int × Int × Int)) × (List (Int × Int))) × List (List Int) × List (List Int) × ((List (Int × Int × Int × Int)) × (List (Int × Int × List Int)) × Int × Int × Int × Int)) (x5 : Int) (x11 : List (Nat × List Int)) (x12 : List (Nat × List (Nat × List Int))) : ∀ s, Le (EL nE p0 x5 x11 x12 s) (B0 p0 x5 x11 x12 s) := by
  rintro ⟨x33, x34⟩
  unfold EL B0
  repeat' with_reducible (first | apply Le.orR' | apply Le.bind' | apply Le.ite' | apply Le.loop' | apply Le.altS' | apply Kc | exact Le.rfl' _ | (refine Le.pi2 ?_; intro _) | intro _)
def ET (nE : Nat) (p0 : (Int × (List (Int × Int × Int × Int × Int × Int)) × (List (Int × Int))) × List (List Int) × List (List Int) × ((List (Int × Int × Int × Int)) × (List (Int × Int × List Int)) × Int × Int × Int × Int)) : ((List (Int × Int × Int)) × (List (Nat × List Int)) × Int) → Option (((List (Int × Int × Int)) × (List (Nat × List Int)) × Int) ⊕ (List (Int × Int × Int)))
  | (x3, x4, x5) => (if x5 < (p0.2.2.2.2.1.length : Int) then ((ix p0.2.2.2.2.1 x5).bind fun x8 => (Ji S4 x4).bind fun x9 => (Jf nE x9).bind fun x10 => (DO nE (EV nE p0 x8) (x4, x10, 0)).bind fun (x11, x12) => DO nE (EL nE p0 x5 x11 x12) (x3, 0)).bind fun (x6, x7) => some (.inl (x6, x7, An (x5 + 1))) else some (.inr x3))
theorem IL (nE : Nat) (p0 : (Int × (List (Int × Int × Int × Int × Int × Int)) × (List (Int × Int))) × List (List Int) × List (List Int) × ((List (Int × Int × Int × Int)) × (List (Int × Int × List Int)) × Int × Int × Int × Int)) : ∀ s, Le (ET nE p0 s) (CD p0 s) := by
  rintro ⟨x3, x4, x5⟩
  unfold ET CD
  repeat' with_reducible (first | apply Le.orR' | apply Le.bind' | apply Le.ite' | apply Le.loop' | apply Le.altS' | apply Nu | apply IG | apply IM | exact Le.rfl' _ | (refine Le.pi2 ?_; intro _) | intro _)
def FK (nE : Nat) (p0 : (Int × (List (Int × Int × Int × Int × Int × Int)) × (List (Int × Int))) × List (List Int) × List (List Int) × ((List (Int × Int × Int × Int)) × (List (Int × Int × List Int)) × Int × Int × Int × Int)) : Option (List (Int × Int × Int)) := (Jl nE p0.2.1).bind fun x1 => (DO nE (ET nE p0) ([], x1, 0)).bind fun x2 => some x2
theorem JK (nE : Nat) (p0 : (Int × (List (Int × Int × Int × Int × Int × Int)) × (List (Int × Int))) × List (List Int) × List (List Int) × ((List (Int × Int × Int × Int)) × (List (Int × Int × List Int)) × Int × Int × Int × Int)) : Le (FK nE p0) (Dd p0) := by
  unfold FK Dd
  repeat' with_reducible (first | apply Le.orR' | apply Le.bind' | apply Le.ite' | apply Le.loop' | apply Le.altS' | apply Ny | apply IL | exact Le.rfl' _ | (refine Le.pi2 ?_; intro _) | intro _)
def C5 (nE : Nat) (p1 : Int) : Option (List (Int × Int × Int)) := (if p1 < 0 then none else (if 0 < (An (p1 - (An (0 - (([] : List (Int × Int × Int)).length : Int))))) then (Jz ([] : List (Int × Int × Int)) 0 0).bind fun x2 => (XI 0 (An (p1 - (An (0 - (([] : List (Int × Int × Int)).length : Int))))).toNat).bind fun x3 => (mk (An (p1 - (An (0 - (([] : List (Int × Int × Int)).length : Int))))) ((0, 0, 0) : Int × Int × Int)).bind fun x4 => (Jz x4 0 (([] : List (Int × Int × Int)).length : Int)).bind fun x5 => some x5 else some ([])).bind fun x1 => some x1)
theorem FU (nE : Nat) (p1 : Int) : Le (C5 nE p1) (Bh p1) := by
  unfold C5 Bh
  repeat' with_reducible (first | apply Le.orR' | apply Le.bind' | apply Le.ite' | apply Le.loop' | apply Le.altS' | exact Le.rfl' _ | (refine Le.pi2 ?_; intro _) | intro _)
def CC (nE : Nat) (p0 : List (List (Int × Int × Int))) : (Int × Int) → Option ((Int × Int) ⊕ Int)
  | (x2, x3) => (if x3 < (p0.length : Int) then (ix p0 x3).bind fun x4 => (if (An (x2 + (x4.length : Int))) < 0 then none else some (.inl (An (x2 + (x4.length : Int)), An (x3 + 1)))) else some (.inr x2))
theorem E6 (nE : Nat) (p0 : List (List (Int × Int × Int))) : ∀ s, Le (CC nE p0 s) (AU p0 s) := by
  rintro ⟨x2, x3⟩
  unfold CC AU
  repeat' with_reducible (first | apply Le.orR' | apply Le.bind' | apply Le.ite' | apply Le.loop' | apply Le.altS' | exact Le.rfl' _ | (refine Le.pi2 ?_; intro _) | intro _)
def CG (nE : Nat) (p0 : List (List (Int × Int × Int))) : ((List (Int × Int × Int)) × Int) → Option (((List (Int × Int × Int)) × Int) ⊕ (List (Int × Int × Int)))
  | (x7, x8) => (if x8 < (p0.length : Int) then (ix p0 x8).bind fun x9 => (HN x7 x9).bind fun x10 => some (.inl (x10, An (x8 + 1))) else some (.inr x7))
theorem E8 (nE : Nat) (p0 : List (List (Int × Int × Int))) : ∀ s, Le (CG nE p0 s) (AS p0 s) := by
  rintro ⟨x7, x8⟩
  unfold CG AS
  repeat' with_reducible (first | apply Le.orR' | apply Le.bind' | apply Le.ite' | apply Le.loop' | apply Le.altS' | exact Le.rfl' _ | (refine Le.pi2 ?_; intro _) | intro _)
def CT (nE : Nat) (p0 : List (List (Int × Int × Int))) : Option (List (Int × Int × Int)) := (DO nE (CC nE p0) (0, 0)).bind fun x1 => (C5 nE x1).bind fun x5 => (DO nE (CG nE p0) (x5, 0)).bind fun x6 => some x6
theorem FA (nE : Nat) (p0 : List (List (Int × Int × Int))) : Le (CT nE p0) (Bd p0) := by
  unfold CT Bd
  repeat' with_reducible (first | apply Le.orR' | apply Le.bind' | apply Le.ite' | apply Le.loop' | apply Le.altS' | apply FU | apply E6 | apply E8 | exact Le.rfl' _ | (refine Le.pi2 ?_; intro _) | intro _)
def H3 (nE : Nat) (p0 : Int × (List (Int × Int × Int × Int × Int × Int)) × (List (Int × Int))) (p1 : List (List Int)) (p2 : List (List Int)) (p3 : (List (Int × Int × Int × Int)) × (List (Int × Int × List Int)) × Int × Int × Int × Int) : Option (List (Int × Int × Int)) := ((II nE p0 p1).bind fun x2 => (if (!x2) = true then some true else (II nE p0 p2).bind fun x3 => some (!x3))).bind fun x1 => (if x1 = true then some ([(1, 0, 0)] : List (Int × Int × Int)) else (FW nE (p0, p1, p2, p3)).bind fun x4 => (Gt nE (p0, p1, p2, p3)).bind fun x5 => (Gy nE (p0, p1, p2, p3)).bind fun x6 => (FK nE (p0, p1, p2, p3)).bind fun x7 => (CT nE ([x4, x5, x6, x7] : List (List (Int × Int × Int)))).bind fun x8 => some x8)
theorem Oo (nE : Nat) (p0 : Int × (List (Int × Int × Int × Int × Int × Int)) × (List (Int × Int))) (p1 : List (List Int)) (p2 : List (List Int)) (p3 : (List (Int × Int × Int × Int)) × (List (Int × Int × List Int)) × Int × Int × Int × Int) : Le (H3 nE p0 p1 p2 p3) (EH p0 p1 p2 p3) := by
  unfold H3 EH
  repeat' with_reducible (first | apply Le.orR' | apply Le.bind' | apply Le.ite' | apply Le.loop' | apply Le.altS' | apply OU | apply JW | apply Kv | apply Kw | apply JK | apply FA | exact Le.rfl' _ | (refine Le.pi2 ?_; intro _) | intro _)
def Nf (nE : Nat)  : Option Bool := (H3 nE (3, ([(0, 0, 1, 0, 1, 1), (1, 1, 2, 0, 1, 1), (0, 1, 2, 1, 1, 1)] : List (Int × Int × Int × Int × Int × Int)), ([(2, 7)] : List (Int × Int))) ([([0] : List Int), ([1] : List Int), ([7] : List Int)] : List (List Int)) ([([1] : List Int), ([1] : List Int), ([7] : List Int)] : List (List Int)) (([] : List (Int × Int × Int × Int)), ([] : List (Int × Int × List Int)), 0, 0, 0, 0)).bind fun x1 => (if (x1.length : Int) = 1 then (ix x1 0).bind fun x3 => (if x3.1 = 2 ∧ x3.2.1 = 0 ∧ x3.2.2 = 0 then (if (He 6) = ([108, 111, 111, 112] : List UInt8) then (H3 nE (0, ([] : List (Int × Int × Int × Int × Int × Int)), ([] : List (Int × Int))) ([] : List (List Int)) ([] : List (List Int)) (([] : List (Int × Int × Int × Int)), ([] : List (Int × Int × List Int)), 0, 0, 0, 0)).bind fun x4 => some (decide ((x4.length : Int) = 1)) else some false) else some false) else some false).bind fun x2 => some x2
theorem PO (nE : Nat)  : Le (Nf nE ) (GH ) := by
  unfold Nf GH
  repeat' with_reducible (first | apply Le.orR' | apply Le.bind' | apply Le.ite' | apply Le.loop' | apply Le.altS' | apply Oo | exact Le.rfl' _ | (refine Le.pi2 ?_; intro _) | intro _)
theorem Vl : GH = some true := PO 60 _ (by kernel_rfl)
end Go.Proofs.YthhoflfhegfmcaaGreat
