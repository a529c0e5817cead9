/- Twins with fuel of HU functions: what a twin answers, the function answers. Conditions: none. -/
import Derived.Test.YthhoflfhegfmcaabLP
import Derived.Test.YthhoflfhegfmcaabA7
namespace Go.Proofs.Ythhoflfhegfmcaa
open Go Go.RowKit
set_option linter.unusedVariables false
set_option linter.unusedSimpArgs false
set_option maxRecDepth 20000
set_option maxHeartbeats 1600000
abbrev Le {α : Type} (a b : Option α) : Prop := ∀ r, a = some r → b = some r
theorem Le.rfl' {α : Type} (a : Option α) : Le a a := fun _ h => h
theorem Le.bind' {α β : Type} {a b : Option α} {f g : α → Option β} (h : Le a b) (hf : ∀ x, Le (f x) (g x)) : Le (a.bind f) (b.bind g) := fun r e => by
  obtain ⟨x, h1, h2⟩ := Ae e
  rw [h x h1, Option.bind_some]; exact hf x r h2
theorem Le.ite' {α : Type} {c : Prop} [Decidable c] {a a' b b' : Option α} (h1 : Le a a') (h2 : Le b b') : Le (if c then a else b) (if c then a' else b') := fun r e => by
  by_cases h : c
  · rw [if_pos h] at e ⊢; exact h1 r e
  · rw [if_neg h] at e ⊢; exact h2 r e
theorem Le.orR' {α β : Type} {a b : Option (α ⊕ β)} {f g : α → Option β} (h : Le a b) (hf : ∀ x, Le (f x) (g x)) : Le (Ep a f) (Ep b g) :=
  Le.bind' h fun x => by
    cases x with
    | inl t => exact hf t
    | inr e => exact Le.rfl' _
def CI {σ ε : Type} (n : Nat) (step : σ → Option (σ ⊕ ε)) (s : σ) : Option ε := GK step n s
theorem Mt {σ ε : Type} {S T : σ → Option (σ ⊕ ε)} (h : ∀ s, Le (S s) (T s)) : ∀ (n : Nat) (s : σ), Le (GK S n s) (GK T n s)
  | 0, s => Le.rfl' _
  | n + 1, s => fun r e => by
    unfold GK at e ⊢
    cases hs : S s with
    | none => rw [hs] at e; cases e
    | some q =>
      rw [hs] at e; rw [h s q hs]
      cases q with
      | inl s' => exact Mt h n s' r e
      | inr _ => exact e
theorem Le.loop' {σ ε : Type} {n : Nat} {S T : σ → Option (σ ⊕ ε)} {s : σ} (h : ∀ s, Le (S s) (T s)) : Le (CI n S s) (Au T s) := fun r e => H3.2 ⟨n, Mt h n s r e⟩
theorem Le.pi2 {α β γ : Type} {f g : α × β → Option γ} (h : ∀ a b, Le (f (a, b)) (g (a, b))) : ∀ x, Le (f x) (g x) := fun x => h x.1 x.2
theorem Le.altS' {α β γ : Type} {y : α ⊕ β} {f f' : α → Option γ} {g g' : β → Option γ} (h : ∀ x, Le (f x) (f' x)) (k : ∀ x, Le (g x) (g' x)) : Le (VH y f g) (VH y f' g') := by
  cases y with
  | inl x => exact h x
  | inr x => exact k x
def F5 (nE : Nat) (p0 : Int × (List (Int × Int × Int × Int × Int × Int)) × (List (Int × Int))) : ((List (Int × Int)) × Int) → Option (((List (Int × Int)) × Int) ⊕ (List (Int × Int)))
  | (x2, x3) => (if x3 < (p0.2.1.length : Int) then (ix p0.2.1 x3).bind fun x4 => (Fo x2 ([(x4.1, x4.2.1), (x4.2.2.1, x4.2.2.2.1)] : List (Int × Int))).bind fun x5 => some (.inl (x5, A3 (x3 + 1))) else some (.inr x2))
theorem Kk (nE : Nat) (p0 : Int × (List (Int × Int × Int × Int × Int × Int)) × (List (Int × Int))) : ∀ s, Le (F5 nE p0 s) (C6 p0 s) := by
  rintro ⟨x2, x3⟩
  unfold F5 C6
  repeat' with_reducible (first | refine Le.orR' ?_ ?_ | refine Le.bind' ?_ ?_ | refine Le.ite' ?_ ?_ | refine Le.loop' ?_ | refine Le.altS' ?_ ?_ | exact Le.rfl' _ | (refine Le.pi2 ?_; intro _) | intro _)
def FY (nE : Nat) (p0 : Int × (List (Int × Int × Int × Int × Int × Int)) × (List (Int × Int))) : ((List (Int × Int)) × Int) → Option (((List (Int × Int)) × Int) ⊕ (List (Int × Int)))
  | (x7, x8) => (if x8 < (p0.2.2.length : Int) then (ix p0.2.2 x8).bind fun x9 => (Fo x7 ([x9] : List (Int × Int))).bind fun x10 => some (.inl (x10, A3 (x8 + 1))) else some (.inr x7))
theorem Ki (nE : Nat) (p0 : Int × (List (Int × Int × Int × Int × Int × Int)) × (List (Int × Int))) : ∀ s, Le (FY nE p0 s) (C3 p0 s) := by
  rintro ⟨x7, x8⟩
  unfold FY C3
  repeat' with_reducible (first | refine Le.orR' ?_ ?_ | refine Le.bind' ?_ ?_ | refine Le.ite' ?_ ?_ | refine Le.loop' ?_ | refine Le.altS' ?_ ?_ | exact Le.rfl' _ | (refine Le.pi2 ?_; intro _) | intro _)
def HO (nE : Nat) (p0 : Int × (List (Int × Int × Int × Int × Int × Int)) × (List (Int × Int))) : Option (List (Int × Int)) := (CI nE (F5 nE p0) ([], 0)).bind fun x1 => (CI nE (FY nE p0) (x1, 0)).bind fun x6 => some x6
theorem Mm (nE : Nat) (p0 : Int × (List (Int × Int × Int × Int × Int × Int)) × (List (Int × Int))) : Le (HO nE p0) (EL p0) := by
  unfold HO EL
  repeat' with_reducible (first | refine Le.orR' ?_ ?_ | refine Le.bind' ?_ ?_ | refine Le.ite' ?_ ?_ | refine Le.loop' ?_ | refine Le.altS' ?_ ?_ | apply Kk | apply Ki | exact Le.rfl' _ | (refine Le.pi2 ?_; intro _) | intro _)
def Cl (nE : Nat) (p0 : List (Int × Int × Int × Int × Int × Int)) : Int → Option (Int ⊕ (Unit ⊕ Int))
  | x1 => (if x1 < (p0.length : Int) then (ix p0 x1).bind fun x2 => (if (BC x2) = true then some (.inr (.inr x1)) else some (.inl (A3 (x1 + 1)))) else some (.inr (.inl ())))
theorem Em (nE : Nat) (p0 : List (Int × Int × Int × Int × Int × Int)) : ∀ s, Le (Cl nE p0 s) (AC p0 s) := by
  intro x1
  unfold Cl AC
  repeat' with_reducible (first | refine Le.orR' ?_ ?_ | refine Le.bind' ?_ ?_ | refine Le.ite' ?_ ?_ | refine Le.loop' ?_ | refine Le.altS' ?_ ?_ | exact Le.rfl' _ | (refine Le.pi2 ?_; intro _) | intro _)
def Cu (nE : Nat) (p0 : List (Int × Int × Int × Int × Int × Int)) : Option Int := Ep (CI nE (Cl nE p0) 0) fun _ => some (-1)
theorem EQ (nE : Nat) (p0 : List (Int × Int × Int × Int × Int × Int)) : Le (Cu nE p0) (Bb p0) := by
  unfold Cu Bb
  repeat' with_reducible (first | refine Le.orR' ?_ ?_ | refine Le.bind' ?_ ?_ | refine Le.ite' ?_ ?_ | refine Le.loop' ?_ | refine Le.altS' ?_ ?_ | apply Em | exact Le.rfl' _ | (refine Le.pi2 ?_; intro _) | intro _)
def Cj (nE : Nat) (p0 : List (Int × Int × Int × Int × Int × Int)) : Option Bool := (Cu nE p0).bind fun x1 => some (decide (0 ≤ x1))
theorem Ej (nE : Nat) (p0 : List (Int × Int × Int × Int × Int × Int)) : Le (Cj nE p0) (AW p0) := by
  unfold Cj AW
  repeat' with_reducible (first | refine Le.orR' ?_ ?_ | refine Le.bind' ?_ ?_ | refine Le.ite' ?_ ?_ | refine Le.loop' ?_ | refine Le.altS' ?_ ?_ | apply EQ | exact Le.rfl' _ | (refine Le.pi2 ?_; intro _) | intro _)
def GF (nE : Nat) (p0 : Int × (List (Int × Int × Int × Int × Int × Int)) × (List (Int × Int))) (x2 : (List (Int × Int))) : (Int × (List ((Int × Int) × Unit))) → Option ((Int × (List ((Int × Int) × Unit))) ⊕ ((List ((Int × Int) × Unit)) ⊕ Bool))
  | (x3, x4) => (if x3 < (x2.length : Int) then (ix x2 x3).bind fun x5 => (if (decide (x5.1 < 0) || (decide (p0.1 ≤ x5.1) || (decide (x5.2 < 0) || decide (8 ≤ x5.2)))) = true then some (.inr (.inr false)) else (if ((KK x4 x5).isSome) = true then some (.inr (.inr false)) else some (.inl (A3 (x3 + 1), KY x4 x5 ())))) else some (.inr (.inl x4)))
theorem KT (nE : Nat) (p0 : Int × (List (Int × Int × Int × Int × Int × Int)) × (List (Int × Int))) (x2 : (List (Int × Int))) : ∀ s, Le (GF nE p0 x2 s) (Cw p0 x2 s) := by
  rintro ⟨x3, x4⟩
  unfold GF Cw
  repeat' with_reducible (first | refine Le.orR' ?_ ?_ | refine Le.bind' ?_ ?_ | refine Le.ite' ?_ ?_ | refine Le.loop' ?_ | refine Le.altS' ?_ ?_ | exact Le.rfl' _ | (refine Le.pi2 ?_; intro _) | intro _)
def Iw (nE : Nat) (p0 : Int × (List (Int × Int × Int × Int × Int × Int)) × (List (Int × Int))) : Option Bool := (if (decide (p0.1 < 1) || (decide (8 < p0.1) || (decide (24 < (p0.2.1.length : Int)) || decide (8 < (p0.2.2.length : Int))))) = true then some false else Ep ((HO nE p0).bind fun x2 => CI nE (GF nE p0 x2) (0, ([] : List ((Int × Int) × Unit)))) fun x1 => (Cj nE p0.2.1).bind fun x6 => some (!x6))
theorem M4 (nE : Nat) (p0 : Int × (List (Int × Int × Int × Int × Int × Int)) × (List (Int × Int))) : Le (Iw nE p0) (E5 p0) := by
  unfold Iw E5
  repeat' with_reducible (first | refine Le.orR' ?_ ?_ | refine Le.bind' ?_ ?_ | refine Le.ite' ?_ ?_ | refine Le.loop' ?_ | refine Le.altS' ?_ ?_ | apply Mm | apply Ej | apply KT | exact Le.rfl' _ | (refine Le.pi2 ?_; intro _) | intro _)
def C4 (nE : Nat) (p0 : List Int) : Int → Option (Int ⊕ (Unit ⊕ Int))
  | x1 => (if x1 < (p0.length : Int) then (ix p0 x1).bind fun x2 => (if (CP x2) = true then some (.inr (.inr x1)) else some (.inl (A3 (x1 + 1)))) else some (.inr (.inl ())))
theorem F6 (nE : Nat) (p0 : List Int) : ∀ s, Le (C4 nE p0 s) (AY p0 s) := by
  intro x1
  unfold C4 AY
  repeat' with_reducible (first | refine Le.orR' ?_ ?_ | refine Le.bind' ?_ ?_ | refine Le.ite' ?_ ?_ | refine Le.loop' ?_ | refine Le.altS' ?_ ?_ | exact Le.rfl' _ | (refine Le.pi2 ?_; intro _) | intro _)
def Dn (nE : Nat) (p0 : List Int) : Option Int := Ep (CI nE (C4 nE p0) 0) fun _ => some (-1)
theorem GP (nE : Nat) (p0 : List Int) : Le (Dn nE p0) (B9 p0) := by
  unfold Dn B9
  repeat' with_reducible (first | refine Le.orR' ?_ ?_ | refine Le.bind' ?_ ?_ | refine Le.ite' ?_ ?_ | refine Le.loop' ?_ | refine Le.altS' ?_ ?_ | apply F6 | exact Le.rfl' _ | (refine Le.pi2 ?_; intro _) | intro _)
def C5 (nE : Nat) (p0 : List Int) : Option Bool := (Dn nE p0).bind fun x1 => some (decide (0 ≤ x1))
theorem FX (nE : Nat) (p0 : List Int) : Le (C5 nE p0) (Bm p0) := by
  unfold C5 Bm
  repeat' with_reducible (first | refine Le.orR' ?_ ?_ | refine Le.bind' ?_ ?_ | refine Le.ite' ?_ ?_ | refine Le.loop' ?_ | refine Le.altS' ?_ ?_ | apply GP | exact Le.rfl' _ | (refine Le.pi2 ?_; intro _) | intro _)
def F3 (nE : Nat) (p0 : Int × (List (Int × Int × Int × Int × Int × Int)) × (List (Int × Int))) (p1 : List (List Int)) : Int → Option (Int ⊕ (Unit ⊕ Bool))
  | x3 => (if x3 < (p1.length : Int) then (ix p1 x3).bind fun x4 => (if (x4.length : Int) ≠ (p0.2.2.length : Int) then some true else (C5 nE x4).bind fun x6 => some x6).bind fun x5 => (if x5 = true then some (.inr (.inr false)) else some (.inl (A3 (x3 + 1)))) else some (.inr (.inl ())))
theorem Kh (nE : Nat) (p0 : Int × (List (Int × Int × Int × Int × Int × Int)) × (List (Int × Int))) (p1 : List (List Int)) : ∀ s, Le (F3 nE p0 p1 s) (Dq p0 p1 s) := by
  intro x3
  unfold F3 Dq
  repeat' with_reducible (first | refine Le.orR' ?_ ?_ | refine Le.bind' ?_ ?_ | refine Le.ite' ?_ ?_ | refine Le.loop' ?_ | refine Le.altS' ?_ ?_ | apply FX | exact Le.rfl' _ | (refine Le.pi2 ?_; intro _) | intro _)
def HZ (nE : Nat) (p0 : Int × (List (Int × Int × Int × Int × Int × Int)) × (List (Int × Int))) (p1 : List (List Int)) : Option Bool := ((Iw nE p0).bind fun x2 => (if (!x2) = true then some true else some (decide ((p1.length : Int) ≠ p0.1)))).bind fun x1 => (if x1 = true then some false else Ep (CI nE (F3 nE p0 p1) 0) fun _ => some true)
theorem Mf (nE : Nat) (p0 : Int × (List (Int × Int × Int × Int × Int × Int)) × (List (Int × Int))) (p1 : List (List Int)) : Le (HZ nE p0 p1) (Ey p0 p1) := by
  unfold HZ Ey
  repeat' with_reducible (first | refine Le.orR' ?_ ?_ | refine Le.bind' ?_ ?_ | refine Le.ite' ?_ ?_ | refine Le.loop' ?_ | refine Le.altS' ?_ ?_ | apply M4 | apply Kh | exact Le.rfl' _ | (refine Le.pi2 ?_; intro _) | intro _)
def Cx (nE : Nat) (p0 : List (Int × Int)) (p1 : Int × Int) : Int → Option (Int ⊕ (Unit ⊕ Int))
  | x1 => (if x1 < (p0.length : Int) then (ix p0 x1).bind fun x2 => (if p1.1 = x2.1 ∧ p1.2 = x2.2 then some (.inr (.inr x1)) else some (.inl (A3 (x1 + 1)))) else some (.inr (.inl ())))
theorem EZ (nE : Nat) (p0 : List (Int × Int)) (p1 : Int × Int) : ∀ s, Le (Cx nE p0 p1 s) (AM p0 p1 s) := by
  intro x1
  unfold Cx AM
  repeat' with_reducible (first | refine Le.orR' ?_ ?_ | refine Le.bind' ?_ ?_ | refine Le.ite' ?_ ?_ | refine Le.loop' ?_ | refine Le.altS' ?_ ?_ | exact Le.rfl' _ | (refine Le.pi2 ?_; intro _) | intro _)
def CL (nE : Nat) (p0 : List (Int × Int)) (p1 : Int × Int) : Option Int := Ep (CI nE (Cx nE p0 p1) 0) fun _ => some (-1)
theorem Fm (nE : Nat) (p0 : List (Int × Int)) (p1 : Int × Int) : Le (CL nE p0 p1) (Bn p0 p1) := by
  unfold CL Bn
  repeat' with_reducible (first | refine Le.orR' ?_ ?_ | refine Le.bind' ?_ ?_ | refine Le.ite' ?_ ?_ | refine Le.loop' ?_ | refine Le.altS' ?_ ?_ | apply EZ | exact Le.rfl' _ | (refine Le.pi2 ?_; intro _) | intro _)
def F9 (nE : Nat) (p0 : Int × (List (Int × Int × Int × Int × Int × Int)) × (List (Int × Int))) (p1 : Int) (p2 : Int) : Option Int := (CL nE p0.2.2 (p1, p2)).bind fun x1 => some x1
theorem I7 (nE : Nat) (p0 : Int × (List (Int × Int × Int × Int × Int × Int)) × (List (Int × Int))) (p1 : Int) (p2 : Int) : Le (F9 nE p0 p1 p2) (Dj p0 p1 p2) := by
  unfold F9 Dj
  repeat' with_reducible (first | refine Le.orR' ?_ ?_ | refine Le.bind' ?_ ?_ | refine Le.ite' ?_ ?_ | refine Le.loop' ?_ | refine Le.altS' ?_ ?_ | apply Fm | exact Le.rfl' _ | (refine Le.pi2 ?_; intro _) | intro _)
def Hn (nE : Nat) (p0 : Int × (List (Int × Int × Int × Int × Int × Int)) × (List (Int × Int))) (p1 : Int) (p2 : Int) : Int → Option (Int ⊕ (Unit ⊕ (Int × Int × Int × Bool)))
  | x1 => (if x1 < (p0.2.1.length : Int) then (ix p0.2.1 x1).bind fun x2 => (if p1 = x2.1 ∧ p2 = x2.2.1 then some (.inr (.inr (x2.2.2.1, x2.2.2.2.1, x1, true))) else (if p1 = x2.2.2.1 ∧ p2 = x2.2.2.2.1 then some (.inr (.inr (x2.1, x2.2.1, x1, true))) else some (.inl (A3 (x1 + 1))))) else some (.inr (.inl ())))
theorem LI (nE : Nat) (p0 : Int × (List (Int × Int × Int × Int × Int × Int)) × (List (Int × Int))) (p1 : Int) (p2 : Int) : ∀ s, Le (Hn nE p0 p1 p2 s) (Cy p0 p1 p2 s) := by
  intro x1
  unfold Hn Cy
  repeat' with_reducible (first | refine Le.orR' ?_ ?_ | refine Le.bind' ?_ ?_ | refine Le.ite' ?_ ?_ | refine Le.loop' ?_ | refine Le.altS' ?_ ?_ | exact Le.rfl' _ | (refine Le.pi2 ?_; intro _) | intro _)
def HE (nE : Nat) (p0 : Int × (List (Int × Int × Int × Int × Int × Int)) × (List (Int × Int))) (p1 : Int) (p2 : Int) : Option (Int × Int × Int × Bool) := Ep (CI nE (Hn nE p0 p1 p2) 0) fun _ => some (0, 0, 0, false)
theorem Ks (nE : Nat) (p0 : Int × (List (Int × Int × Int × Int × Int × Int)) × (List (Int × Int))) (p1 : Int) (p2 : Int) : Le (HE nE p0 p1 p2) (Dl p0 p1 p2) := by
  unfold HE Dl
  repeat' with_reducible (first | refine Le.orR' ?_ ?_ | refine Le.bind' ?_ ?_ | refine Le.ite' ?_ ?_ | refine Le.loop' ?_ | refine Le.altS' ?_ ?_ | apply LI | exact Le.rfl' _ | (refine Le.pi2 ?_; intro _) | intro _)
def Iz (nE : Nat) (p0 : Int × (List (Int × Int × Int × Int × Int × Int)) × (List (Int × Int))) (p1 : List (List Int)) (p2 : Int) (p3 : Int) : Option (Int × Bool) := (if p2 < 0 then some true else (if (p1.length : Int) ≤ p2 then some true else (if p3 < 0 then some true else (ix p1 p2).bind fun x2 => some (decide ((x2.length : Int) ≤ p3))))).bind fun x1 => (if x1 = true then some (0, false) else (ix p1 p2).bind fun x3 => (ix x3 p3).bind fun x4 => (HE nE p0 p2 x4).bind fun x5 => some (x5.1, x5.2.2.2))
theorem MZ (nE : Nat) (p0 : Int × (List (Int × Int × Int × Int × Int × Int)) × (List (Int × Int))) (p1 : List (List Int)) (p2 : Int) (p3 : Int) : Le (Iz nE p0 p1 p2 p3) (E6 p0 p1 p2 p3) := by
  unfold Iz E6
  repeat' with_reducible (first | refine Le.orR' ?_ ?_ | refine Le.bind' ?_ ?_ | refine Le.ite' ?_ ?_ | refine Le.loop' ?_ | refine Le.altS' ?_ ?_ | apply Ks | exact Le.rfl' _ | (refine Le.pi2 ?_; intro _) | intro _)
def DZ (nE : Nat) (p0 : List Int) (p1 : Int) : Int → Option (Int ⊕ (Unit ⊕ Bool))
  | x1 => (if x1 < (p0.length : Int) then (ix p0 x1).bind fun x2 => (if p1 = x2 then some (.inr (.inr true)) else some (.inl (A3 (x1 + 1)))) else some (.inr (.inl ())))
theorem HW (nE : Nat) (p0 : List Int) (p1 : Int) : ∀ s, Le (DZ nE p0 p1 s) (Cb p0 p1 s) := by
  intro x1
  unfold DZ Cb
  repeat' with_reducible (first | refine Le.orR' ?_ ?_ | refine Le.bind' ?_ ?_ | refine Le.ite' ?_ ?_ | refine Le.loop' ?_ | refine Le.altS' ?_ ?_ | exact Le.rfl' _ | (refine Le.pi2 ?_; intro _) | intro _)
def Ev (nE : Nat) (p0 : List Int) (p1 : Int) : Option Bool := Ep (CI nE (DZ nE p0 p1) 0) fun _ => some false
theorem IV (nE : Nat) (p0 : List Int) (p1 : Int) : Le (Ev nE p0 p1) (CA p0 p1) := by
  unfold Ev CA
  repeat' with_reducible (first | refine Le.orR' ?_ ?_ | refine Le.bind' ?_ ?_ | refine Le.ite' ?_ ?_ | refine Le.loop' ?_ | refine Le.altS' ?_ ?_ | apply HW | exact Le.rfl' _ | (refine Le.pi2 ?_; intro _) | intro _)
def Gz (nE : Nat) (p0 : Int × (List (Int × Int × Int × Int × Int × Int)) × (List (Int × Int))) (p1 : List (List Int)) (p3 : Int) : (Int × List Int) → Option ((Int × List Int) ⊕ ((List Int) ⊕ (List Int × Int)))
  | (x2, x3) => (ix p1 x2).bind fun x4 => (ix x4 p3).bind fun x5 => (F9 nE p0 x2 x5).bind fun x6 => (if x6 ≠ p3 then (Iz nE p0 p1 x2 p3).bind fun x7 => (if (!x7.2) = true then some (.inr (.inr (([] : List Int), 13))) else (Ev nE x3 x7.1).bind fun x8 => (if x8 = true then some (.inr (.inr (([] : List Int), 12))) else (Fo x3 ([x7.1] : List Int)).bind fun x9 => some (.inl (x7.1, x9)))) else some (.inr (.inl x3)))
theorem KQ (nE : Nat) (p0 : Int × (List (Int × Int × Int × Int × Int × Int)) × (List (Int × Int))) (p1 : List (List Int)) (p3 : Int) : ∀ s, Le (Gz nE p0 p1 p3 s) (C0 p0 p1 p3 s) := by
  rintro ⟨x2, x3⟩
  unfold Gz C0
  repeat' with_reducible (first | refine Le.orR' ?_ ?_ | refine Le.bind' ?_ ?_ | refine Le.ite' ?_ ?_ | refine Le.loop' ?_ | refine Le.altS' ?_ ?_ | apply I7 | apply MZ | apply IV | exact Le.rfl' _ | (refine Le.pi2 ?_; intro _) | intro _)
def IF (nE : Nat) (p0 : Int × (List (Int × Int × Int × Int × Int × Int)) × (List (Int × Int))) (p1 : List (List Int)) (p2 : Int) (p3 : Int) : Option (List Int × Int) := Ep (CI nE (Gz nE p0 p1 p3) (p2, ([p2] : List Int))) fun x1 => some (x1, 0)
theorem MY (nE : Nat) (p0 : Int × (List (Int × Int × Int × Int × Int × Int)) × (List (Int × Int))) (p1 : List (List Int)) (p2 : Int) (p3 : Int) : Le (IF nE p0 p1 p2 p3) (E7 p0 p1 p2 p3) := by
  unfold IF E7
  repeat' with_reducible (first | refine Le.orR' ?_ ?_ | refine Le.bind' ?_ ?_ | refine Le.ite' ?_ ?_ | refine Le.loop' ?_ | refine Le.altS' ?_ ?_ | apply KQ | exact Le.rfl' _ | (refine Le.pi2 ?_; intro _) | intro _)
def Gy (nE : Nat) (p0 : Int × (List (Int × Int × Int × Int × Int × Int)) × (List (Int × Int))) (p1 : List (List Int)) (x2 : Int) (x3 : List Int) : Int → Option (Int ⊕ (Unit ⊕ (Int ⊕ (Unit ⊕ Bool))))
  | x4 => (if x4 < (x3.length : Int) then (IF nE p0 p1 x2 x4).bind fun x5 => (if x5.2 ≠ 0 then some (.inr (.inr (.inr (.inr false)))) else some (.inl (A3 (x4 + 1)))) else some (.inr (.inl ())))
theorem Lc (nE : Nat) (p0 : Int × (List (Int × Int × Int × Int × Int × Int)) × (List (Int × Int))) (p1 : List (List Int)) (x2 : Int) (x3 : List Int) : ∀ s, Le (Gy nE p0 p1 x2 x3 s) (Di p0 p1 x2 x3 s) := by
  intro x4
  unfold Gy Di
  repeat' with_reducible (first | refine Le.orR' ?_ ?_ | refine Le.bind' ?_ ?_ | refine Le.ite' ?_ ?_ | refine Le.loop' ?_ | refine Le.altS' ?_ ?_ | apply MY | exact Le.rfl' _ | (refine Le.pi2 ?_; intro _) | intro _)
def GB (nE : Nat) (p0 : Int × (List (Int × Int × Int × Int × Int × Int)) × (List (Int × Int))) (p1 : List (List Int)) : Int → Option (Int ⊕ (Unit ⊕ Bool))
  | x2 => (if x2 < (p1.length : Int) then Ep ((ix p1 x2).bind fun x3 => CI nE (Gy nE p0 p1 x2 x3) 0) fun _ => some (.inl (A3 (x2 + 1))) else some (.inr (.inl ())))
theorem KO (nE : Nat) (p0 : Int × (List (Int × Int × Int × Int × Int × Int)) × (List (Int × Int))) (p1 : List (List Int)) : ∀ s, Le (GB nE p0 p1 s) (DI p0 p1 s) := by
  intro x2
  unfold GB DI
  repeat' with_reducible (first | refine Le.orR' ?_ ?_ | refine Le.bind' ?_ ?_ | refine Le.ite' ?_ ?_ | refine Le.loop' ?_ | refine Le.altS' ?_ ?_ | apply Lc | exact Le.rfl' _ | (refine Le.pi2 ?_; intro _) | intro _)
def GV (nE : Nat) (p0 : Int × (List (Int × Int × Int × Int × Int × Int)) × (List (Int × Int))) (p1 : List (List Int)) : Option Bool := (HZ nE p0 p1).bind fun x1 => (if (!x1) = true then some false else Ep (CI nE (GB nE p0 p1) 0) fun _ => some true)
theorem MS (nE : Nat) (p0 : Int × (List (Int × Int × Int × Int × Int × Int)) × (List (Int × Int))) (p1 : List (List Int)) : Le (GV nE p0 p1) (EJ p0 p1) := by
  unfold GV EJ
  repeat' with_reducible (first | refine Le.orR' ?_ ?_ | refine Le.bind' ?_ ?_ | refine Le.ite' ?_ ?_ | refine Le.loop' ?_ | refine Le.altS' ?_ ?_ | apply Mf | apply KO | exact Le.rfl' _ | (refine Le.pi2 ?_; intro _) | intro _)
def DA (nE : Nat) (p0 : List Int) (p1 : Int) : Int → Option (Int ⊕ (Unit ⊕ Int))
  | x1 => (if x1 < (p0.length : Int) then (ix p0 x1).bind fun x2 => (if p1 = x2 then some (.inr (.inr x1)) else some (.inl (A3 (x1 + 1)))) else some (.inr (.inl ())))
theorem Hh (nE : Nat) (p0 : List Int) (p1 : Int) : ∀ s, Le (DA nE p0 p1 s) (BR p0 p1 s) := by
  intro x1
  unfold DA BR
  repeat' with_reducible (first | refine Le.orR' ?_ ?_ | refine Le.bind' ?_ ?_ | refine Le.ite' ?_ ?_ | refine Le.loop' ?_ | refine Le.altS' ?_ ?_ | exact Le.rfl' _ | (refine Le.pi2 ?_; intro _) | intro _)
def D9 (nE : Nat) (p0 : List Int) (p1 : Int) : Option Int := Ep (CI nE (DA nE p0 p1) 0) fun _ => some (-1)
theorem In (nE : Nat) (p0 : List Int) (p1 : Int) : Le (D9 nE p0 p1) (CG p0 p1) := by
  unfold D9 CG
  repeat' with_reducible (first | refine Le.orR' ?_ ?_ | refine Le.bind' ?_ ?_ | refine Le.ite' ?_ ?_ | refine Le.loop' ?_ | refine Le.altS' ?_ ?_ | apply Hh | exact Le.rfl' _ | (refine Le.pi2 ?_; intro _) | intro _)
def Dz (nE : Nat) (p0 : List Int) (p1 : Int) : Option Bool := (D9 nE p0 p1).bind fun x1 => some (decide (0 ≤ x1))
theorem Hm (nE : Nat) (p0 : List Int) (p1 : Int) : Le (Dz nE p0 p1) (BN p0 p1) := by
  unfold Dz BN
  repeat' with_reducible (first | refine Le.orR' ?_ ?_ | refine Le.bind' ?_ ?_ | refine Le.ite' ?_ ?_ | refine Le.loop' ?_ | refine Le.altS' ?_ ?_ | apply In | exact Le.rfl' _ | (refine Le.pi2 ?_; intro _) | intro _)
def ES (nE : Nat) (p0 : Int × Int × List Int) (p1 : Int × Int × Int × Int) : Option Bool := (if p1.2.2.2 = p0.1 then (Dz nE p0.2.2 p1.1).bind fun x2 => some x2 else some false).bind fun x1 => some x1
theorem HB (nE : Nat) (p0 : Int × Int × List Int) (p1 : Int × Int × Int × Int) : Le (ES nE p0 p1) (CK p0 p1) := by
  unfold ES CK
  repeat' with_reducible (first | refine Le.orR' ?_ ?_ | refine Le.bind' ?_ ?_ | refine Le.ite' ?_ ?_ | refine Le.loop' ?_ | refine Le.altS' ?_ ?_ | apply Hm | exact Le.rfl' _ | (refine Le.pi2 ?_; intro _) | intro _)
def Dh (nE : Nat) (p0 : Int × Int × List Int) (p1 : Int × Int × Int × Int) : Option Bool := (ES nE p0 p1).bind fun x1 => some x1
theorem GE (nE : Nat) (p0 : Int × Int × List Int) (p1 : Int × Int × Int × Int) : Le (Dh nE p0 p1) (B2 p0 p1) := by
  unfold Dh B2
  repeat' with_reducible (first | refine Le.orR' ?_ ?_ | refine Le.bind' ?_ ?_ | refine Le.ite' ?_ ?_ | refine Le.loop' ?_ | refine Le.altS' ?_ ?_ | apply HB | exact Le.rfl' _ | (refine Le.pi2 ?_; intro _) | intro _)
def BW (nE : Nat) (p0 : List (Int × Int × List Int)) (p1c0 : Int × Int × Int × Int) : Int → Option (Int ⊕ (Unit ⊕ Int))
  | x1 => (if x1 < (p0.length : Int) then (ix p0 x1).bind fun x2 => (Dh nE x2 p1c0).bind fun x3 => (if x3 = true then some (.inr (.inr x1)) else some (.inl (A3 (x1 + 1)))) else some (.inr (.inl ())))
theorem DW (nE : Nat) (p0 : List (Int × Int × List Int)) (p1c0 : Int × Int × Int × Int) : ∀ s, Le (BW nE p0 p1c0 s) (AQ p0 p1c0 s) := by
  intro x1
  unfold BW AQ
  repeat' with_reducible (first | refine Le.orR' ?_ ?_ | refine Le.bind' ?_ ?_ | refine Le.ite' ?_ ?_ | refine Le.loop' ?_ | refine Le.altS' ?_ ?_ | apply GE | exact Le.rfl' _ | (refine Le.pi2 ?_; intro _) | intro _)
def Ca (nE : Nat) (p0 : List (Int × Int × List Int)) (p1c0 : Int × Int × Int × Int) : Option Int := Ep (CI nE (BW nE p0 p1c0) 0) fun _ => some (-1)
theorem Ef (nE : Nat) (p0 : List (Int × Int × List Int)) (p1c0 : Int × Int × Int × Int) : Le (Ca nE p0 p1c0) (A2 p0 p1c0) := by
  unfold Ca A2
  repeat' with_reducible (first | refine Le.orR' ?_ ?_ | refine Le.bind' ?_ ?_ | refine Le.ite' ?_ ?_ | refine Le.loop' ?_ | refine Le.altS' ?_ ?_ | apply DW | exact Le.rfl' _ | (refine Le.pi2 ?_; intro _) | intro _)
def BV (nE : Nat) (p0 : List (Int × Int × List Int)) (p1c0 : Int × Int × Int × Int) : Option Bool := (Ca nE p0 p1c0).bind fun x1 => some (decide (0 ≤ x1))
theorem DR (nE : Nat) (p0 : List (Int × Int × List Int)) (p1c0 : Int × Int × Int × Int) : Le (BV nE p0 p1c0) (AZ p0 p1c0) := by
  unfold BV AZ
  repeat' with_reducible (first | refine Le.orR' ?_ ?_ | refine Le.bind' ?_ ?_ | refine Le.ite' ?_ ?_ | refine Le.loop' ?_ | refine Le.altS' ?_ ?_ | apply Ef | exact Le.rfl' _ | (refine Le.pi2 ?_; intro _) | intro _)
def CR (nE : Nat) (p0 : (Int × (List (Int × Int × Int × Int × Int × Int)) × (List (Int × Int))) × List (List Int) × List (List Int) × ((List (Int × Int × Int × Int)) × (List (Int × Int × List Int)) × Int × Int × Int × Int)) (p1 : Int × Int × Int × Int) : Option Bool := (BV nE p0.2.2.2.2.1 p1).bind fun x1 => some x1
theorem EI (nE : Nat) (p0 : (Int × (List (Int × Int × Int × Int × Int × Int)) × (List (Int × Int))) × List (List Int) × List (List Int) × ((List (Int × Int × Int × Int)) × (List (Int × Int × List Int)) × Int × Int × Int × Int)) (p1 : Int × Int × Int × Int) : Le (CR nE p0 p1) (Bv p0 p1) := by
  unfold CR Bv
  repeat' with_reducible (first | refine Le.orR' ?_ ?_ | refine Le.bind' ?_ ?_ | refine Le.ite' ?_ ?_ | refine Le.loop' ?_ | refine Le.altS' ?_ ?_ | apply DR | exact Le.rfl' _ | (refine Le.pi2 ?_; intro _) | intro _)
def Dy (nE : Nat) (p0 : (Int × (List (Int × Int × Int × Int × Int × Int)) × (List (Int × Int))) × List (List Int) × List (List Int) × ((List (Int × Int × Int × Int)) × (List (Int × Int × List Int)) × Int × Int × Int × Int)) (p1 : Int) (p2 : Int) (p3 : Int) : (Int × Int) → Option ((Int × Int) ⊕ Int)
  | (x2, x3) => (if x3 < (p0.2.2.2.1.length : Int) then ((ix p0.2.2.2.1 x3).bind fun x5 => (if x5.1 = p1 then (if x5.2.1 = p2 then (if x5.2.2.1 = p3 then (CR nE p0 x5).bind fun x7 => some x7 else some false) else some false) else some false).bind fun x6 => (if x6 = true then some (A3 (x2 + 1)) else some x2)).bind fun x4 => some (.inl (x4, A3 (x3 + 1))) else some (.inr x2))
theorem Hs (nE : Nat) (p0 : (Int × (List (Int × Int × Int × Int × Int × Int)) × (List (Int × Int))) × List (List Int) × List (List Int) × ((List (Int × Int × Int × Int)) × (List (Int × Int × List Int)) × Int × Int × Int × Int)) (p1 : Int) (p2 : Int) (p3 : Int) : ∀ s, Le (Dy nE p0 p1 p2 p3 s) (BP p0 p1 p2 p3 s) := by
  rintro ⟨x2, x3⟩
  unfold Dy BP
  repeat' with_reducible (first | refine Le.orR' ?_ ?_ | refine Le.bind' ?_ ?_ | refine Le.ite' ?_ ?_ | refine Le.loop' ?_ | refine Le.altS' ?_ ?_ | apply EI | exact Le.rfl' _ | (refine Le.pi2 ?_; intro _) | intro _)
def D8 (nE : Nat) (p0 : (Int × (List (Int × Int × Int × Int × Int × Int)) × (List (Int × Int))) × List (List Int) × List (List Int) × ((List (Int × Int × Int × Int)) × (List (Int × Int × List Int)) × Int × Int × Int × Int)) (p1 : Int) (p2 : Int) (p3 : Int) : Option Int := (CI nE (Dy nE p0 p1 p2 p3) (0, 0)).bind fun x1 => some x1
theorem Ie (nE : Nat) (p0 : (Int × (List (Int × Int × Int × Int × Int × Int)) × (List (Int × Int))) × List (List Int) × List (List Int) × ((List (Int × Int × Int × Int)) × (List (Int × Int × List Int)) × Int × Int × Int × Int)) (p1 : Int) (p2 : Int) (p3 : Int) : Le (D8 nE p0 p1 p2 p3) (Bf p0 p1 p2 p3) := by
  unfold D8 Bf
  repeat' with_reducible (first | refine Le.orR' ?_ ?_ | refine Le.bind' ?_ ?_ | refine Le.ite' ?_ ?_ | refine Le.loop' ?_ | refine Le.altS' ?_ ?_ | apply Hs | exact Le.rfl' _ | (refine Le.pi2 ?_; intro _) | intro _)
def Dw (nE : Nat) (p0 : (Int × (List (Int × Int × Int × Int × Int × Int)) × (List (Int × Int))) × List (List Int) × List (List Int) × ((List (Int × Int × Int × Int)) × (List (Int × Int × List Int)) × Int × Int × Int × Int)) (x3 : Int) (x5 : List Int) : ((List (Int × Int × Int)) × Int) → Option (((List (Int × Int × Int)) × Int) ⊕ (List (Int × Int × Int)))
  | (x6, x7) => (if x7 < (x5.length : Int) then ((ix x5 x7).bind fun x9 => ((ix p0.2.1 x3).bind fun x11 => (ix x11 x7).bind fun x12 => (if x9 ≠ x12 then (D8 nE p0 x3 x7 x9).bind fun x13 => some (decide (x13 ≠ 1)) else some false)).bind fun x10 => (if x10 = true then (Fo x6 ([(2, x3, x7)] : List (Int × Int × Int))).bind fun x14 => some x14 else some x6)).bind fun x8 => some (.inl (x8, A3 (x7 + 1))) else some (.inr x6))
theorem Ho (nE : Nat) (p0 : (Int × (List (Int × Int × Int × Int × Int × Int)) × (List (Int × Int))) × List (List Int) × List (List Int) × ((List (Int × Int × Int × Int)) × (List (Int × Int × List Int)) × Int × Int × Int × Int)) (x3 : Int) (x5 : List Int) : ∀ s, Le (Dw nE p0 x3 x5 s) (Bu p0 x3 x5 s) := by
  rintro ⟨x6, x7⟩
  unfold Dw Bu
  repeat' with_reducible (first | refine Le.orR' ?_ ?_ | refine Le.bind' ?_ ?_ | refine Le.ite' ?_ ?_ | refine Le.loop' ?_ | refine Le.altS' ?_ ?_ | apply Ie | exact Le.rfl' _ | (refine Le.pi2 ?_; intro _) | intro _)
def Dx (nE : Nat) (p0 : (Int × (List (Int × Int × Int × Int × Int × Int)) × (List (Int × Int))) × List (List Int) × List (List Int) × ((List (Int × Int × Int × Int)) × (List (Int × Int × List Int)) × Int × Int × Int × Int)) : ((List (Int × Int × Int)) × Int) → Option (((List (Int × Int × Int)) × Int) ⊕ (List (Int × Int × Int)))
  | (x2, x3) => (if x3 < (p0.2.2.1.length : Int) then ((ix p0.2.2.1 x3).bind fun x5 => CI nE (Dw nE p0 x3 x5) (x2, 0)).bind fun x4 => some (.inl (x4, A3 (x3 + 1))) else some (.inr x2))
theorem Ha (nE : Nat) (p0 : (Int × (List (Int × Int × Int × Int × Int × Int)) × (List (Int × Int))) × List (List Int) × List (List Int) × ((List (Int × Int × Int × Int)) × (List (Int × Int × List Int)) × Int × Int × Int × Int)) : ∀ s, Le (Dx nE p0 s) (BQ p0 s) := by
  rintro ⟨x2, x3⟩
  unfold Dx BQ
  repeat' with_reducible (first | refine Le.orR' ?_ ?_ | refine Le.bind' ?_ ?_ | refine Le.ite' ?_ ?_ | refine Le.loop' ?_ | refine Le.altS' ?_ ?_ | apply Ho | exact Le.rfl' _ | (refine Le.pi2 ?_; intro _) | intro _)
def D6 (nE : Nat) (p0 : (Int × (List (Int × Int × Int × Int × Int × Int)) × (List (Int × Int))) × List (List Int) × List (List Int) × ((List (Int × Int × Int × Int)) × (List (Int × Int × List Int)) × Int × Int × Int × Int)) : Option (List (Int × Int × Int)) := (CI nE (Dx nE p0) ([], 0)).bind fun x1 => some x1
theorem Ib (nE : Nat) (p0 : (Int × (List (Int × Int × Int × Int × Int × Int)) × (List (Int × Int))) × List (List Int) × List (List Int) × ((List (Int × Int × Int × Int)) × (List (Int × Int × List Int)) × Int × Int × Int × Int)) : Le (D6 nE p0) (Cm p0) := by
  unfold D6 Cm
  repeat' with_reducible (first | refine Le.orR' ?_ ?_ | refine Le.bind' ?_ ?_ | refine Le.ite' ?_ ?_ | refine Le.loop' ?_ | refine Le.altS' ?_ ?_ | apply Ha | exact Le.rfl' _ | (refine Le.pi2 ?_; intro _) | intro _)
def DQ (nE : Nat) (p0 : (Int × (List (Int × Int × Int × Int × Int × Int)) × (List (Int × Int))) × List (List Int) × List (List Int) × ((List (Int × Int × Int × Int)) × (List (Int × Int × List Int)) × Int × Int × Int × Int)) : ((List (Int × Int × Int)) × Int) → Option (((List (Int × Int × Int)) × Int) ⊕ (List (Int × Int × Int)))
  | (x2, x3) => (if x3 < (p0.2.2.2.1.length : Int) then ((ix p0.2.2.2.1 x3).bind fun x5 => (if (!(A6 p0 x5)) = true then some true else (ix p0.2.2.1 x5.1).bind fun x7 => (ix x7 x5.2.1).bind fun x8 => (if x5.2.2.1 ≠ x8 then some true else (ix p0.2.1 x5.1).bind fun x9 => (ix x9 x5.2.1).bind fun x10 => (if x5.2.2.1 = x10 then some true else (CR nE p0 x5).bind fun x11 => some (!x11)))).bind fun x6 => (if x6 = true then (Fo x2 ([(3, x3, x5.2.1)] : List (Int × Int × Int))).bind fun x12 => some x12 else some x2)).bind fun x4 => some (.inl (x4, A3 (x3 + 1))) else some (.inr x2))
theorem HL (nE : Nat) (p0 : (Int × (List (Int × Int × Int × Int × Int × Int)) × (List (Int × Int))) × List (List Int) × List (List Int) × ((List (Int × Int × Int × Int)) × (List (Int × Int × List Int)) × Int × Int × Int × Int)) : ∀ s, Le (DQ nE p0 s) (Ce p0 s) := by
  rintro ⟨x2, x3⟩
  unfold DQ Ce
  repeat' with_reducible (first | refine Le.orR' ?_ ?_ | refine Le.bind' ?_ ?_ | refine Le.ite' ?_ ?_ | refine Le.loop' ?_ | refine Le.altS' ?_ ?_ | apply EI | exact Le.rfl' _ | (refine Le.pi2 ?_; intro _) | intro _)
def EE (nE : Nat) (p0 : (Int × (List (Int × Int × Int × Int × Int × Int)) × (List (Int × Int))) × List (List Int) × List (List Int) × ((List (Int × Int × Int × Int)) × (List (Int × Int × List Int)) × Int × Int × Int × Int)) : Option (List (Int × Int × Int)) := (CI nE (DQ nE p0) ([], 0)).bind fun x1 => some x1
theorem I2 (nE : Nat) (p0 : (Int × (List (Int × Int × Int × Int × Int × Int)) × (List (Int × Int))) × List (List Int) × List (List Int) × ((List (Int × Int × Int × Int)) × (List (Int × Int × List Int)) × Int × Int × Int × Int)) : Le (EE nE p0) (Cz p0) := by
  unfold EE Cz
  repeat' with_reducible (first | refine Le.orR' ?_ ?_ | refine Le.bind' ?_ ?_ | refine Le.ite' ?_ ?_ | refine Le.loop' ?_ | refine Le.altS' ?_ ?_ | apply HL | exact Le.rfl' _ | (refine Le.pi2 ?_; intro _) | intro _)
def Ft (nE : Nat) (p0 : Int × (List (Int × Int × Int × Int × Int × Int)) × (List (Int × Int))) : (Int × Int) → Option ((Int × Int) ⊕ Int)
  | (x2, x3) => (if x3 < (p0.2.1.length : Int) then (ix p0.2.1 x3).bind fun x4 => some (.inl (max x2 x4.2.2.2.2.2, A3 (x3 + 1))) else some (.inr x2))
theorem JW (nE : Nat) (p0 : Int × (List (Int × Int × Int × Int × Int × Int)) × (List (Int × Int))) : ∀ s, Le (Ft nE p0 s) (BA p0 s) := by
  rintro ⟨x2, x3⟩
  unfold Ft BA
  repeat' with_reducible (first | refine Le.orR' ?_ ?_ | refine Le.bind' ?_ ?_ | refine Le.ite' ?_ ?_ | refine Le.loop' ?_ | refine Le.altS' ?_ ?_ | exact Le.rfl' _ | (refine Le.pi2 ?_; intro _) | intro _)
def Hv (nE : Nat) (p0 : Int × (List (Int × Int × Int × Int × Int × Int)) × (List (Int × Int))) : Option Int := (CI nE (Ft nE p0) (0, 0)).bind fun x1 => some x1
theorem LD (nE : Nat) (p0 : Int × (List (Int × Int × Int × Int × Int × Int)) × (List (Int × Int))) : Le (Hv nE p0) (CX p0) := by
  unfold Hv CX
  repeat' with_reducible (first | refine Le.orR' ?_ ?_ | refine Le.bind' ?_ ?_ | refine Le.ite' ?_ ?_ | refine Le.loop' ?_ | refine Le.altS' ?_ ?_ | apply JW | exact Le.rfl' _ | (refine Le.pi2 ?_; intro _) | intro _)
def I8 (nE : Nat) (p0 : Int × (List (Int × Int × Int × Int × Int × Int)) × (List (Int × Int))) : Option Int := (Hv nE p0).bind fun x1 => some (A3 (p0.1 * x1))
theorem N1 (nE : Nat) (p0 : Int × (List (Int × Int × Int × Int × Int × Int)) × (List (Int × Int))) : Le (I8 nE p0) (Fj p0) := by
  unfold I8 Fj
  repeat' with_reducible (first | refine Le.orR' ?_ ?_ | refine Le.bind' ?_ ?_ | refine Le.ite' ?_ ?_ | refine Le.loop' ?_ | refine Le.altS' ?_ ?_ | apply LD | exact Le.rfl' _ | (refine Le.pi2 ?_; intro _) | intro _)
def J4 (nE : Nat) (p0 : Int × (List (Int × Int × Int × Int × Int × Int)) × (List (Int × Int))) (p1 : Int) : Option Int := (I8 nE p0).bind fun x1 => some (A3 ((A3 ((A3 (2 * p1)) + x1)) + 1))
theorem O4 (nE : Nat) (p0 : Int × (List (Int × Int × Int × Int × Int × Int)) × (List (Int × Int))) (p1 : Int) : Le (J4 nE p0 p1) (Gi p0 p1) := by
  unfold J4 Gi
  repeat' with_reducible (first | refine Le.orR' ?_ ?_ | refine Le.bind' ?_ ?_ | refine Le.ite' ?_ ?_ | refine Le.loop' ?_ | refine Le.altS' ?_ ?_ | apply N1 | exact Le.rfl' _ | (refine Le.pi2 ?_; intro _) | intro _)
def DV (nE : Nat) (p0 : (Int × (List (Int × Int × Int × Int × Int × Int)) × (List (Int × Int))) × List (List Int) × List (List Int) × ((List (Int × Int × Int × Int)) × (List (Int × Int × List Int)) × Int × Int × Int × Int)) (x1 : Int) : ((List (Int × Int × Int)) × Int) → Option (((List (Int × Int × Int)) × Int) ⊕ (List (Int × Int × Int)))
  | (x3, x4) => (if x4 < (p0.2.2.2.2.1.length : Int) then ((ix p0.2.2.2.2.1 x4).bind fun x6 => (ix p0.2.2.2.2.1 (A3 (x4 - 1))).bind fun x7 => (if (A3 ((AS x6.2.1) - (AS x7.2.1))) < x1 then (Fo x3 ([(4, x4, 0)] : List (Int × Int × Int))).bind fun x8 => some x8 else some x3)).bind fun x5 => some (.inl (x5, A3 (x4 + 1))) else some (.inr x3))
theorem HR (nE : Nat) (p0 : (Int × (List (Int × Int × Int × Int × Int × Int)) × (List (Int × Int))) × List (List Int) × List (List Int) × ((List (Int × Int × Int × Int)) × (List (Int × Int × List Int)) × Int × Int × Int × Int)) (x1 : Int) : ∀ s, Le (DV nE p0 x1 s) (Cd p0 x1 s) := by
  rintro ⟨x3, x4⟩
  unfold DV Cd
  repeat' with_reducible (first | refine Le.orR' ?_ ?_ | refine Le.bind' ?_ ?_ | refine Le.ite' ?_ ?_ | refine Le.loop' ?_ | refine Le.altS' ?_ ?_ | exact Le.rfl' _ | (refine Le.pi2 ?_; intro _) | intro _)
def ED (nE : Nat) (p0 : (Int × (List (Int × Int × Int × Int × Int × Int)) × (List (Int × Int))) × List (List Int) × List (List Int) × ((List (Int × Int × Int × Int)) × (List (Int × Int × List Int)) × Int × Int × Int × Int)) : Option (List (Int × Int × Int)) := (J4 nE p0.1 (min (max p0.2.2.2.2.2.1 0) 1048576)).bind fun x1 => (CI nE (DV nE p0 x1) ([], 1)).bind fun x2 => some x2
theorem IX (nE : Nat) (p0 : (Int × (List (Int × Int × Int × Int × Int × Int)) × (List (Int × Int))) × List (List Int) × List (List Int) × ((List (Int × Int × Int × Int)) × (List (Int × Int × List Int)) × Int × Int × Int × Int)) : Le (ED nE p0) (CC p0) := by
  unfold ED CC
  repeat' with_reducible (first | refine Le.orR' ?_ ?_ | refine Le.bind' ?_ ?_ | refine Le.ite' ?_ ?_ | refine Le.loop' ?_ | refine Le.altS' ?_ ?_ | apply O4 | apply HR | exact Le.rfl' _ | (refine Le.pi2 ?_; intro _) | intro _)
def Eb (nE : Nat) (p0 : List Int) : Option (List Int) := (Fo ([] : List Int) p0).bind fun x1 => some x1
theorem H4 (nE : Nat) (p0 : List Int) : Le (Eb nE p0) (Cn p0) := by
  unfold Eb Cn
  repeat' with_reducible (first | refine Le.orR' ?_ ?_ | refine Le.bind' ?_ ?_ | refine Le.ite' ?_ ?_ | refine Le.loop' ?_ | refine Le.altS' ?_ ?_ | exact Le.rfl' _ | (refine Le.pi2 ?_; intro _) | intro _)
def FE (nE : Nat) (p0 : List (List Int)) : ((List (Nat × List Int)) × Int) → Option (((List (Nat × List Int)) × Int) ⊕ (List (Nat × List Int)))
  | (x2, x3) => (if x3 < (p0.length : Int) then (ix p0 x3).bind fun x4 => (Eb nE x4).bind fun x5 => (Fo x2 ([(2, x5)] : List (Nat × List Int))).bind fun x6 => some (.inl (x6, A3 (x3 + 1))) else some (.inr x2))
theorem Ka (nE : Nat) (p0 : List (List Int)) : ∀ s, Le (FE nE p0 s) (Db p0 s) := by
  rintro ⟨x2, x3⟩
  unfold FE Db
  repeat' with_reducible (first | refine Le.orR' ?_ ?_ | refine Le.bind' ?_ ?_ | refine Le.ite' ?_ ?_ | refine Le.loop' ?_ | refine Le.altS' ?_ ?_ | apply H4 | exact Le.rfl' _ | (refine Le.pi2 ?_; intro _) | intro _)
def He (nE : Nat) (p0 : List (List Int)) : Option (List (Nat × List Int)) := (CI nE (FE nE p0) ([], 0)).bind fun x1 => some x1
theorem Lx (nE : Nat) (p0 : List (List Int)) : Le (He nE p0) (Dg p0) := by
  unfold He Dg
  repeat' with_reducible (first | refine Le.orR' ?_ ?_ | refine Le.bind' ?_ ?_ | refine Le.ite' ?_ ?_ | refine Le.loop' ?_ | refine Le.altS' ?_ ?_ | apply Ka | exact Le.rfl' _ | (refine Le.pi2 ?_; intro _) | intro _)
def Fs (nE : Nat) (x4 : Int) (x6 : List Int) : ((List (Nat × List (Nat × List Int))) × Int) → Option (((List (Nat × List (Nat × List Int))) × Int) ⊕ (List (Nat × List (Nat × List Int))))
  | (x7, x8) => (if x8 < (x6.length : Int) then (ix x6 x8).bind fun x9 => (ix x7 x4).bind fun x10 => (JB x10.1).bind fun x11 => (Fo x10.2 ([(2, ([x9] : List Int))] : List (Nat × List Int))).bind fun x12 => (ix (Am x7 x4 (0, [])) x4).bind fun x13 => some (.inl ((Am (Am x7 x4 (0, [])) x4 (2, x12)), A3 (x8 + 1))) else some (.inr x7))
theorem JY (nE : Nat) (x4 : Int) (x6 : List Int) : ∀ s, Le (Fs nE x4 x6 s) (CQ x4 x6 s) := by
  rintro ⟨x7, x8⟩
  unfold Fs CQ
  repeat' with_reducible (first | refine Le.orR' ?_ ?_ | refine Le.bind' ?_ ?_ | refine Le.ite' ?_ ?_ | refine Le.loop' ?_ | refine Le.altS' ?_ ?_ | exact Le.rfl' _ | (refine Le.pi2 ?_; intro _) | intro _)
def FF (nE : Nat) (p0 : List (List Int)) : ((List (Nat × List (Nat × List Int))) × Int) → Option (((List (Nat × List (Nat × List Int))) × Int) ⊕ (List (Nat × List (Nat × List Int))))
  | (x3, x4) => (if x4 < (p0.length : Int) then ((ix p0 x4).bind fun x6 => CI nE (Fs nE x4 x6) (x3, 0)).bind fun x5 => some (.inl (x5, A3 (x4 + 1))) else some (.inr x3))
theorem J2 (nE : Nat) (p0 : List (List Int)) : ∀ s, Le (FF nE p0 s) (Da p0 s) := by
  rintro ⟨x3, x4⟩
  unfold FF Da
  repeat' with_reducible (first | refine Le.orR' ?_ ?_ | refine Le.bind' ?_ ?_ | refine Le.ite' ?_ ?_ | refine Le.loop' ?_ | refine Le.altS' ?_ ?_ | apply JY | exact Le.rfl' _ | (refine Le.pi2 ?_; intro _) | intro _)
def Hd (nE : Nat) (p0 : List (List Int)) : Option (List (Nat × List (Nat × List Int))) := (mk (p0.length : Int) ((2, []) : Nat × List (Nat × List Int))).bind fun x1 => (CI nE (FF nE p0) (x1, 0)).bind fun x2 => some x2
theorem Lz (nE : Nat) (p0 : List (List Int)) : Le (Hd nE p0) (D7 p0) := by
  unfold Hd D7
  repeat' with_reducible (first | refine Le.orR' ?_ ?_ | refine Le.bind' ?_ ?_ | refine Le.ite' ?_ ?_ | refine Le.loop' ?_ | refine Le.altS' ?_ ?_ | apply J2 | exact Le.rfl' _ | (refine Le.pi2 ?_; intro _) | intro _)
def F7 (nE : Nat) (p0 : Int) (p1 : List (Int × Int)) : Int → Option (Int ⊕ (Unit ⊕ Bool))
  | x1 => (if x1 < (p1.length : Int) then (ix p1 x1).bind fun x2 => (if (decide (x2.1 < 0) || (decide (p0 ≤ x2.1) || (decide (x2.2 < 0) || decide (p0 ≤ x2.2)))) = true then some (.inr (.inr false)) else some (.inl (A3 (x1 + 1)))) else some (.inr (.inl ())))
theorem KI (nE : Nat) (p0 : Int) (p1 : List (Int × Int)) : ∀ s, Le (F7 nE p0 p1 s) (DU p0 p1 s) := by
  intro x1
  unfold F7 DU
  repeat' with_reducible (first | refine Le.orR' ?_ ?_ | refine Le.bind' ?_ ?_ | refine Le.ite' ?_ ?_ | refine Le.loop' ?_ | refine Le.altS' ?_ ?_ | exact Le.rfl' _ | (refine Le.pi2 ?_; intro _) | intro _)
def HQ (nE : Nat) (p0 : Int) (p1 : List (Int × Int)) : Option Bool := (if (decide (p0 < 0) || decide (16 < p0)) = true then some false else Ep (CI nE (F7 nE p0 p1) 0) fun _ => some true)
theorem Mz (nE : Nat) (p0 : Int) (p1 : List (Int × Int)) : Le (HQ nE p0 p1) (EB p0 p1) := by
  unfold HQ EB
  repeat' with_reducible (first | refine Le.orR' ?_ ?_ | refine Le.bind' ?_ ?_ | refine Le.ite' ?_ ?_ | refine Le.loop' ?_ | refine Le.altS' ?_ ?_ | apply KI | exact Le.rfl' _ | (refine Le.pi2 ?_; intro _) | intro _)
def DT (nE : Nat) (p0 : Int) (p1 : Int) : Option Int := (Ub (Re .u32 1 p1) p1).bind fun x1 => some (Rl .u32 p0 x1)
theorem FH (nE : Nat) (p0 : Int) (p1 : Int) : Le (DT nE p0 p1) (B8 p0 p1) := by
  unfold DT B8
  repeat' with_reducible (first | refine Le.orR' ?_ ?_ | refine Le.bind' ?_ ?_ | refine Le.ite' ?_ ?_ | refine Le.loop' ?_ | refine Le.altS' ?_ ?_ | exact Le.rfl' _ | (refine Le.pi2 ?_; intro _) | intro _)
def Ek (nE : Nat) (p0 : List (Int × Int)) : (Int × Int × Int × Int × Int × Int × Int × Int × Int × Int × Int × Int × Int × Int × Int × Int × Int) → Option ((Int × Int × Int × Int × Int × Int × Int × Int × Int × Int × Int × Int × Int × Int × Int × Int × Int) ⊕ (Int × Int × Int × Int × Int × Int × Int × Int × Int × Int × Int × Int × Int × Int × Int × Int))
  | (x17, x18, x19, x20, x21, x22, x23, x24, x25, x26, x27, x28, x29, x30, x31, x32, x33) => (if x17 < (p0.length : Int) then (ix p0 x17).bind fun x34 => (ix ([x18, x19, x20, x21, x22, x23, x24, x25, x26, x27, x28, x29, x30, x31, x32, x33] : List Int) x34.1).bind fun x35 => (DT nE x35 x34.2).bind fun x36 => (ix ([x18, x19, x20, x21, x22, x23, x24, x25, x26, x27, x28, x29, x30, x31, x32, x33] : List Int) x34.1).bind fun x37 => some (.inl (A3 (x17 + 1), (if x34.1 = 0 then x36 else x18), (if x34.1 = 1 then x36 else x19), (if x34.1 = 2 then x36 else x20), (if x34.1 = 3 then x36 else x21), (if x34.1 = 4 then x36 else x22), (if x34.1 = 5 then x36 else x23), (if x34.1 = 6 then x36 else x24), (if x34.1 = 7 then x36 else x25), (if x34.1 = 8 then x36 else x26), (if x34.1 = 9 then x36 else x27), (if x34.1 = 10 then x36 else x28), (if x34.1 = 11 then x36 else x29), (if x34.1 = 12 then x36 else x30), (if x34.1 = 13 then x36 else x31), (if x34.1 = 14 then x36 else x32), (if x34.1 = 15 then x36 else x33))) else some (.inr (x18, x19, x20, x21, x22, x23, x24, x25, x26, x27, x28, x29, x30, x31, x32, x33)))
theorem ID (nE : Nat) (p0 : List (Int × Int)) : ∀ s, Le (Ek nE p0 s) (BM p0 s) := by
  rintro ⟨x17, x18, x19, x20, x21, x22, x23, x24, x25, x26, x27, x28, x29, x30, x31, x32, x33⟩
  unfold Ek BM
  repeat' with_reducible (first | refine Le.orR' ?_ ?_ | refine Le.bind' ?_ ?_ | refine Le.ite' ?_ ?_ | refine Le.loop' ?_ | refine Le.altS' ?_ ?_ | apply FH | exact Le.rfl' _ | (refine Le.pi2 ?_; intro _) | intro _)
def E4 (nE : Nat) (p0 : List (Int × Int)) : Option (Int × Int × Int × Int × Int × Int × Int × Int × Int × Int × Int × Int × Int × Int × Int × Int) := (CI nE (Ek nE p0) (0, 0, 0, 0, 0, 0, 0, 0, 0, 0, 0, 0, 0, 0, 0, 0, 0)).bind fun (x1, x2, x3, x4, x5, x6, x7, x8, x9, x10, x11, x12, x13, x14, x15, x16) => some (x1, x2, x3, x4, x5, x6, x7, x8, x9, x10, x11, x12, x13, x14, x15, x16)
theorem JN (nE : Nat) (p0 : List (Int × Int)) : Le (E4 nE p0) (CU p0) := by
  unfold E4 CU
  repeat' with_reducible (first | refine Le.orR' ?_ ?_ | refine Le.bind' ?_ ?_ | refine Le.ite' ?_ ?_ | refine Le.loop' ?_ | refine Le.altS' ?_ ?_ | apply ID | exact Le.rfl' _ | (refine Le.pi2 ?_; intro _) | intro _)
def DX (nE : Nat) (p0 : List (Int × Int)) : (Int × Int × Int × Int × Int × Int × Int × Int × Int × Int × Int × Int × Int × Int × Int × Int × Int) → Option ((Int × Int × Int × Int × Int × Int × Int × Int × Int × Int × Int × Int × Int × Int × Int × Int × Int) ⊕ (Int × Int × Int × Int × Int × Int × Int × Int × Int × Int × Int × Int × Int × Int × Int × Int))
  | (x17, x18, x19, x20, x21, x22, x23, x24, x25, x26, x27, x28, x29, x30, x31, x32, x33) => (if x17 < (p0.length : Int) then (ix p0 x17).bind fun x34 => (ix ([x18, x19, x20, x21, x22, x23, x24, x25, x26, x27, x28, x29, x30, x31, x32, x33] : List Int) x34.2).bind fun x35 => (DT nE x35 x34.1).bind fun x36 => (ix ([x18, x19, x20, x21, x22, x23, x24, x25, x26, x27, x28, x29, x30, x31, x32, x33] : List Int) x34.2).bind fun x37 => some (.inl (A3 (x17 + 1), (if x34.2 = 0 then x36 else x18), (if x34.2 = 1 then x36 else x19), (if x34.2 = 2 then x36 else x20), (if x34.2 = 3 then x36 else x21), (if x34.2 = 4 then x36 else x22), (if x34.2 = 5 then x36 else x23), (if x34.2 = 6 then x36 else x24), (if x34.2 = 7 then x36 else x25), (if x34.2 = 8 then x36 else x26), (if x34.2 = 9 then x36 else x27), (if x34.2 = 10 then x36 else x28), (if x34.2 = 11 then x36 else x29), (if x34.2 = 12 then x36 else x30), (if x34.2 = 13 then x36 else x31), (if x34.2 = 14 then x36 else x32), (if x34.2 = 15 then x36 else x33))) else some (.inr (x18, x19, x20, x21, x22, x23, x24, x25, x26, x27, x28, x29, x30, x31, x32, x33)))
theorem HT (nE : Nat) (p0 : List (Int × Int)) : ∀ s, Le (DX nE p0 s) (Bp p0 s) := by
  rintro ⟨x17, x18, x19, x20, x21, x22, x23, x24, x25, x26, x27, x28, x29, x30, x31, x32, x33⟩
  unfold DX Bp
  repeat' with_reducible (first | refine Le.orR' ?_ ?_ | refine Le.bind' ?_ ?_ | refine Le.ite' ?_ ?_ | refine Le.loop' ?_ | refine Le.altS' ?_ ?_ | apply FH | exact Le.rfl' _ | (refine Le.pi2 ?_; intro _) | intro _)
def EH (nE : Nat) (p0 : List (Int × Int)) : Option (Int × Int × Int × Int × Int × Int × Int × Int × Int × Int × Int × Int × Int × Int × Int × Int) := (CI nE (DX nE p0) (0, 0, 0, 0, 0, 0, 0, 0, 0, 0, 0, 0, 0, 0, 0, 0, 0)).bind fun (x1, x2, x3, x4, x5, x6, x7, x8, x9, x10, x11, x12, x13, x14, x15, x16) => some (x1, x2, x3, x4, x5, x6, x7, x8, x9, x10, x11, x12, x13, x14, x15, x16)
theorem I1 (nE : Nat) (p0 : List (Int × Int)) : Le (EH nE p0) (CB p0) := by
  unfold EH CB
  repeat' with_reducible (first | refine Le.orR' ?_ ?_ | refine Le.bind' ?_ ?_ | refine Le.ite' ?_ ?_ | refine Le.loop' ?_ | refine Le.altS' ?_ ?_ | apply HT | exact Le.rfl' _ | (refine Le.pi2 ?_; intro _) | intro _)
def Ed (nE : Nat) (p0 : Int) (p1 : Int) : Option Bool := (Ub (Q6 .u32 p0 p1) p1).bind fun x1 => some (decide ((QT .u32 x1 1) = 1))
theorem Iu (nE : Nat) (p0 : Int) (p1 : Int) : Le (Ed nE p0 p1) (CZ p0 p1) := by
  unfold Ed CZ
  repeat' with_reducible (first | refine Le.orR' ?_ ?_ | refine Le.bind' ?_ ?_ | refine Le.ite' ?_ ?_ | refine Le.loop' ?_ | refine Le.altS' ?_ ?_ | exact Le.rfl' _ | (refine Le.pi2 ?_; intro _) | intro _)
def Eu (nE : Nat)  : (Int × Int × Int × Int × Int × Int × Int × Int × Int × Int × Int × Int × Int × Int × Int × Int × Int) → Option ((Int × Int × Int × Int × Int × Int × Int × Int × Int × Int × Int × Int × Int × Int × Int × Int × Int) ⊕ (Int × Int × Int × Int × Int × Int × Int × Int × Int × Int × Int × Int × Int × Int × Int × Int))
  | (x17, x18, x19, x20, x21, x22, x23, x24, x25, x26, x27, x28, x29, x30, x31, x32, x33) => (if x17 < 16 then (ix ([x18, x19, x20, x21, x22, x23, x24, x25, x26, x27, x28, x29, x30, x31, x32, x33] : List Int) x17).bind fun x34 => some (.inl (A3 (x17 + 1), (if x17 = 0 then (-1) else x18), (if x17 = 1 then (-1) else x19), (if x17 = 2 then (-1) else x20), (if x17 = 3 then (-1) else x21), (if x17 = 4 then (-1) else x22), (if x17 = 5 then (-1) else x23), (if x17 = 6 then (-1) else x24), (if x17 = 7 then (-1) else x25), (if x17 = 8 then (-1) else x26), (if x17 = 9 then (-1) else x27), (if x17 = 10 then (-1) else x28), (if x17 = 11 then (-1) else x29), (if x17 = 12 then (-1) else x30), (if x17 = 13 then (-1) else x31), (if x17 = 14 then (-1) else x32), (if x17 = 15 then (-1) else x33))) else some (.inr (x18, x19, x20, x21, x22, x23, x24, x25, x26, x27, x28, x29, x30, x31, x32, x33)))
theorem I4 (nE : Nat)  : ∀ s, Le (Eu nE  s) (BH  s) := by
  rintro ⟨x17, x18, x19, x20, x21, x22, x23, x24, x25, x26, x27, x28, x29, x30, x31, x32, x33⟩
  unfold Eu BH
  repeat' with_reducible (first | refine Le.orR' ?_ ?_ | refine Le.bind' ?_ ?_ | refine Le.ite' ?_ ?_ | refine Le.loop' ?_ | refine Le.altS' ?_ ?_ | exact Le.rfl' _ | (refine Le.pi2 ?_; intro _) | intro _)
def EA (nE : Nat) (p0 : Int) (p1 : Int × Int × Int × Int × Int × Int × Int × Int × Int × Int × Int × Int × Int × Int × Int × Int) (x54 : Int) (x55 : Int) (x56 : Int) : (Int × Int × Int × Int × Int × Int × Int × Int × Int × Int × Int × Int × Int × Int × Int × Int × Int × Int) → Option ((Int × Int × Int × Int × Int × Int × Int × Int × Int × Int × Int × Int × Int × Int × Int × Int × Int × Int) ⊕ (Int × Int × Int × Int × Int × Int × Int × Int × Int × Int × Int × Int × Int × Int × Int × Int × Int))
  | (x107, x108, x109, x110, x111, x112, x113, x114, x115, x116, x117, x118, x119, x120, x121, x122, x123, x124) => (if x108 < p0 then (((Ed nE x54 x108).bind fun x143 => (if x143 = true then (Ed nE x55 x108).bind fun x144 => some (!x144) else some false)).bind fun x142 => (if x142 = true then (ix ([x109, x110, x111, x112, x113, x114, x115, x116, x117, x118, x119, x120, x121, x122, x123, x124] : List Int) x108).bind fun x145 => (ix ([p1.1, p1.2.1, p1.2.2.1, p1.2.2.2.1, p1.2.2.2.2.1, p1.2.2.2.2.2.1, p1.2.2.2.2.2.2.1, p1.2.2.2.2.2.2.2.1, p1.2.2.2.2.2.2.2.2.1, p1.2.2.2.2.2.2.2.2.2.1, p1.2.2.2.2.2.2.2.2.2.2.1, p1.2.2.2.2.2.2.2.2.2.2.2.1, p1.2.2.2.2.2.2.2.2.2.2.2.2.1, p1.2.2.2.2.2.2.2.2.2.2.2.2.2.1, p1.2.2.2.2.2.2.2.2.2.2.2.2.2.2.1, p1.2.2.2.2.2.2.2.2.2.2.2.2.2.2.2] : List Int) x108).bind fun x146 => some (Rl .u32 x107 x146, (if x108 = 0 then A3 (x56 + 1) else x109), (if x108 = 1 then A3 (x56 + 1) else x110), (if x108 = 2 then A3 (x56 + 1) else x111), (if x108 = 3 then A3 (x56 + 1) else x112), (if x108 = 4 then A3 (x56 + 1) else x113), (if x108 = 5 then A3 (x56 + 1) else x114), (if x108 = 6 then A3 (x56 + 1) else x115), (if x108 = 7 then A3 (x56 + 1) else x116), (if x108 = 8 then A3 (x56 + 1) else x117), (if x108 = 9 then A3 (x56 + 1) else x118), (if x108 = 10 then A3 (x56 + 1) else x119), (if x108 = 11 then A3 (x56 + 1) else x120), (if x108 = 12 then A3 (x56 + 1) else x121), (if x108 = 13 then A3 (x56 + 1) else x122), (if x108 = 14 then A3 (x56 + 1) else x123), (if x108 = 15 then A3 (x56 + 1) else x124)) else some (x107, x109, x110, x111, x112, x113, x114, x115, x116, x117, x118, x119, x120, x121, x122, x123, x124))).bind fun (x125, x126, x127, x128, x129, x130, x131, x132, x133, x134, x135, x136, x137, x138, x139, x140, x141) => some (.inl (x125, A3 (x108 + 1), x126, x127, x128, x129, x130, x131, x132, x133, x134, x135, x136, x137, x138, x139, x140, x141)) else some (.inr (x107, x109, x110, x111, x112, x113, x114, x115, x116, x117, x118, x119, x120, x121, x122, x123, x124)))
theorem I0 (nE : Nat) (p0 : Int) (p1 : Int × Int × Int × Int × Int × Int × Int × Int × Int × Int × Int × Int × Int × Int × Int × Int) (x54 : Int) (x55 : Int) (x56 : Int) : ∀ s, Le (EA nE p0 p1 x54 x55 x56 s) (Ba p0 p1 x54 x55 x56 s) := by
  rintro ⟨x107, x108, x109, x110, x111, x112, x113, x114, x115, x116, x117, x118, x119, x120, x121, x122, x123, x124⟩
  unfold EA Ba
  repeat' with_reducible (first | refine Le.orR' ?_ ?_ | refine Le.bind' ?_ ?_ | refine Le.ite' ?_ ?_ | refine Le.loop' ?_ | refine Le.altS' ?_ ?_ | apply Iu | exact Le.rfl' _ | (refine Le.pi2 ?_; intro _) | intro _)
def EG (nE : Nat) (p0 : Int) (p1 : Int × Int × Int × Int × Int × Int × Int × Int × Int × Int × Int × Int × Int × Int × Int × Int) : (Int × Int × Int × Int × Int × Int × Int × Int × Int × Int × Int × Int × Int × Int × Int × Int × Int × Int × Int) → Option ((Int × Int × Int × Int × Int × Int × Int × Int × Int × Int × Int × Int × Int × Int × Int × Int × Int × Int × Int) ⊕ (Int × Int × Int × Int × Int × Int × Int × Int × Int × Int × Int × Int × Int × Int × Int × Int))
  | (x54, x55, x56, x57, x58, x59, x60, x61, x62, x63, x64, x65, x66, x67, x68, x69, x70, x71, x72) => (if x56 < p0 then ((CI nE (EA nE p0 p1 x54 x55 x56) (0, 0, x57, x58, x59, x60, x61, x62, x63, x64, x65, x66, x67, x68, x69, x70, x71, x72)).bind fun (x90, x91, x92, x93, x94, x95, x96, x97, x98, x99, x100, x101, x102, x103, x104, x105, x106) => some (x90, x91, x92, x93, x94, x95, x96, x97, x98, x99, x100, x101, x102, x103, x104, x105, x106)).bind fun (x73, x74, x75, x76, x77, x78, x79, x80, x81, x82, x83, x84, x85, x86, x87, x88, x89) => some (.inl (x73, Rl .u32 x55 x54, A3 (x56 + 1), x74, x75, x76, x77, x78, x79, x80, x81, x82, x83, x84, x85, x86, x87, x88, x89)) else some (.inr (x57, x58, x59, x60, x61, x62, x63, x64, x65, x66, x67, x68, x69, x70, x71, x72)))
theorem IZ (nE : Nat) (p0 : Int) (p1 : Int × Int × Int × Int × Int × Int × Int × Int × Int × Int × Int × Int × Int × Int × Int × Int) : ∀ s, Le (EG nE p0 p1 s) (Bo p0 p1 s) := by
  rintro ⟨x54, x55, x56, x57, x58, x59, x60, x61, x62, x63, x64, x65, x66, x67, x68, x69, x70, x71, x72⟩
  unfold EG Bo
  repeat' with_reducible (first | refine Le.orR' ?_ ?_ | refine Le.bind' ?_ ?_ | refine Le.ite' ?_ ?_ | refine Le.loop' ?_ | refine Le.altS' ?_ ?_ | apply I0 | exact Le.rfl' _ | (refine Le.pi2 ?_; intro _) | intro _)
def FP (nE : Nat) (p0 : Int) (p1 : Int × Int × Int × Int × Int × Int × Int × Int × Int × Int × Int × Int × Int × Int × Int × Int) (p2 : Int) : Option (Int × Int × Int × Int × Int × Int × Int × Int × Int × Int × Int × Int × Int × Int × Int × Int) := (CI nE (Eu nE) (0, 0, 0, 0, 0, 0, 0, 0, 0, 0, 0, 0, 0, 0, 0, 0, 0)).bind fun (x1, x2, x3, x4, x5, x6, x7, x8, x9, x10, x11, x12, x13, x14, x15, x16) => (ix ([x1, x2, x3, x4, x5, x6, x7, x8, x9, x10, x11, x12, x13, x14, x15, x16] : List Int) p2).bind fun x35 => (ix ([p1.1, p1.2.1, p1.2.2.1, p1.2.2.2.1, p1.2.2.2.2.1, p1.2.2.2.2.2.1, p1.2.2.2.2.2.2.1, p1.2.2.2.2.2.2.2.1, p1.2.2.2.2.2.2.2.2.1, p1.2.2.2.2.2.2.2.2.2.1, p1.2.2.2.2.2.2.2.2.2.2.1, p1.2.2.2.2.2.2.2.2.2.2.2.1, p1.2.2.2.2.2.2.2.2.2.2.2.2.1, p1.2.2.2.2.2.2.2.2.2.2.2.2.2.1, p1.2.2.2.2.2.2.2.2.2.2.2.2.2.2.1, p1.2.2.2.2.2.2.2.2.2.2.2.2.2.2.2] : List Int) p2).bind fun x36 => (DT nE 0 p2).bind fun x37 => (CI nE (EG nE p0 p1) (x36, x37, 0, (if p2 = 0 then 0 else x1), (if p2 = 1 then 0 else x2), (if p2 = 2 then 0 else x3), (if p2 = 3 then 0 else x4), (if p2 = 4 then 0 else x5), (if p2 = 5 then 0 else x6), (if p2 = 6 then 0 else x7), (if p2 = 7 then 0 else x8), (if p2 = 8 then 0 else x9), (if p2 = 9 then 0 else x10), (if p2 = 10 then 0 else x11), (if p2 = 11 then 0 else x12), (if p2 = 12 then 0 else x13), (if p2 = 13 then 0 else x14), (if p2 = 14 then 0 else x15), (if p2 = 15 then 0 else x16))).bind fun (x38, x39, x40, x41, x42, x43, x44, x45, x46, x47, x48, x49, x50, x51, x52, x53) => some (x38, x39, x40, x41, x42, x43, x44, x45, x46, x47, x48, x49, x50, x51, x52, x53)
theorem J0 (nE : Nat) (p0 : Int) (p1 : Int × Int × Int × Int × Int × Int × Int × Int × Int × Int × Int × Int × Int × Int × Int × Int) (p2 : Int) : Le (FP nE p0 p1 p2) (C9 p0 p1 p2) := by
  unfold FP C9
  repeat' with_reducible (first | refine Le.orR' ?_ ?_ | refine Le.bind' ?_ ?_ | refine Le.ite' ?_ ?_ | refine Le.loop' ?_ | refine Le.altS' ?_ ?_ | apply FH | apply I4 | apply IZ | exact Le.rfl' _ | (refine Le.pi2 ?_; intro _) | intro _)
def E9 (nE : Nat) (p0 : Int) (p1 : Int) (p2 : Int × Int × Int × Int × Int × Int × Int × Int × Int × Int × Int × Int × Int × Int × Int × Int) : (Int × Int) → Option ((Int × Int) ⊕ Int)
  | (x2, x3) => (if x3 < p0 then (((Ed nE p1 x3).bind fun x6 => (if x6 = true then (ix ([p2.1, p2.2.1, p2.2.2.1, p2.2.2.2.1, p2.2.2.2.2.1, p2.2.2.2.2.2.1, p2.2.2.2.2.2.2.1, p2.2.2.2.2.2.2.2.1, p2.2.2.2.2.2.2.2.2.1, p2.2.2.2.2.2.2.2.2.2.1, p2.2.2.2.2.2.2.2.2.2.2.1, p2.2.2.2.2.2.2.2.2.2.2.2.1, p2.2.2.2.2.2.2.2.2.2.2.2.2.1, p2.2.2.2.2.2.2.2.2.2.2.2.2.2.1, p2.2.2.2.2.2.2.2.2.2.2.2.2.2.2.1, p2.2.2.2.2.2.2.2.2.2.2.2.2.2.2.2] : List Int) x3).bind fun x7 => (if 0 ≤ x7 then (if x2 < 0 then some true else (ix ([p2.1, p2.2.1, p2.2.2.1, p2.2.2.2.1, p2.2.2.2.2.1, p2.2.2.2.2.2.1, p2.2.2.2.2.2.2.1, p2.2.2.2.2.2.2.2.1, p2.2.2.2.2.2.2.2.2.1, p2.2.2.2.2.2.2.2.2.2.1, p2.2.2.2.2.2.2.2.2.2.2.1, p2.2.2.2.2.2.2.2.2.2.2.2.1, p2.2.2.2.2.2.2.2.2.2.2.2.2.1, p2.2.2.2.2.2.2.2.2.2.2.2.2.2.1, p2.2.2.2.2.2.2.2.2.2.2.2.2.2.2.1, p2.2.2.2.2.2.2.2.2.2.2.2.2.2.2.2] : List Int) x3).bind fun x8 => (ix ([p2.1, p2.2.1, p2.2.2.1, p2.2.2.2.1, p2.2.2.2.2.1, p2.2.2.2.2.2.1, p2.2.2.2.2.2.2.1, p2.2.2.2.2.2.2.2.1, p2.2.2.2.2.2.2.2.2.1, p2.2.2.2.2.2.2.2.2.2.1, p2.2.2.2.2.2.2.2.2.2.2.1, p2.2.2.2.2.2.2.2.2.2.2.2.1, p2.2.2.2.2.2.2.2.2.2.2.2.2.1, p2.2.2.2.2.2.2.2.2.2.2.2.2.2.1, p2.2.2.2.2.2.2.2.2.2.2.2.2.2.2.1, p2.2.2.2.2.2.2.2.2.2.2.2.2.2.2.2] : List Int) x2).bind fun x9 => some (decide (x8 < x9))) else some false) else some false)).bind fun x5 => (if x5 = true then some x3 else some x2)).bind fun x4 => some (.inl (x4, A3 (x3 + 1))) else some (.inr x2))
theorem JO (nE : Nat) (p0 : Int) (p1 : Int) (p2 : Int × Int × Int × Int × Int × Int × Int × Int × Int × Int × Int × Int × Int × Int × Int × Int) : ∀ s, Le (E9 nE p0 p1 p2 s) (BB p0 p1 p2 s) := by
  rintro ⟨x2, x3⟩
  unfold E9 BB
  repeat' with_reducible (first | refine Le.orR' ?_ ?_ | refine Le.bind' ?_ ?_ | refine Le.ite' ?_ ?_ | refine Le.loop' ?_ | refine Le.altS' ?_ ?_ | apply Iu | exact Le.rfl' _ | (refine Le.pi2 ?_; intro _) | intro _)
def E3 (nE : Nat) (p0 : Int) (p1 : Int) (p2 : Int × Int × Int × Int × Int × Int × Int × Int × Int × Int × Int × Int × Int × Int × Int × Int) : Option Int := (CI nE (E9 nE p0 p1 p2) ((-1), 0)).bind fun x1 => some x1
theorem Iv (nE : Nat) (p0 : Int) (p1 : Int) (p2 : Int × Int × Int × Int × Int × Int × Int × Int × Int × Int × Int × Int × Int × Int × Int × Int) : Le (E3 nE p0 p1 p2) (CY p0 p1 p2) := by
  unfold E3 CY
  repeat' with_reducible (first | refine Le.orR' ?_ ?_ | refine Le.bind' ?_ ?_ | refine Le.ite' ?_ ?_ | refine Le.loop' ?_ | refine Le.altS' ?_ ?_ | apply JO | exact Le.rfl' _ | (refine Le.pi2 ?_; intro _) | intro _)
def GA (nE : Nat) (p0 : Int) (x2 : (Int × Int × Int × Int × Int × Int × Int × Int × Int × Int × Int × Int × Int × Int × Int × Int)) (x3 : Int) (x5 : (Int × Int × Int × Int × Int × Int × Int × Int × Int × Int × Int × Int × Int × Int × Int × Int)) : (List Int × Int) → Option ((List Int × Int) ⊕ (List Int))
  | (x9, x10) => (if x10 ≠ x3 then (Fo x9 ([x10] : List Int)).bind fun x11 => (ix ([x2.1, x2.2.1, x2.2.2.1, x2.2.2.2.1, x2.2.2.2.2.1, x2.2.2.2.2.2.1, x2.2.2.2.2.2.2.1, x2.2.2.2.2.2.2.2.1, x2.2.2.2.2.2.2.2.2.1, x2.2.2.2.2.2.2.2.2.2.1, x2.2.2.2.2.2.2.2.2.2.2.1, x2.2.2.2.2.2.2.2.2.2.2.2.1, x2.2.2.2.2.2.2.2.2.2.2.2.2.1, x2.2.2.2.2.2.2.2.2.2.2.2.2.2.1, x2.2.2.2.2.2.2.2.2.2.2.2.2.2.2.1, x2.2.2.2.2.2.2.2.2.2.2.2.2.2.2.2] : List Int) x10).bind fun x12 => (E3 nE p0 x12 x5).bind fun x13 => some (.inl (x11, x13)) else some (.inr x9))
theorem Ld (nE : Nat) (p0 : Int) (x2 : (Int × Int × Int × Int × Int × Int × Int × Int × Int × Int × Int × Int × Int × Int × Int × Int)) (x3 : Int) (x5 : (Int × Int × Int × Int × Int × Int × Int × Int × Int × Int × Int × Int × Int × Int × Int × Int)) : ∀ s, Le (GA nE p0 x2 x3 x5 s) (DL p0 x2 x3 x5 s) := by
  rintro ⟨x9, x10⟩
  unfold GA DL
  repeat' with_reducible (first | refine Le.orR' ?_ ?_ | refine Le.bind' ?_ ?_ | refine Le.ite' ?_ ?_ | refine Le.loop' ?_ | refine Le.altS' ?_ ?_ | apply Iv | exact Le.rfl' _ | (refine Le.pi2 ?_; intro _) | intro _)
def GD (nE : Nat) (p0 : Int) (p1 : List (Int × Int)) (x2 : (Int × Int × Int × Int × Int × Int × Int × Int × Int × Int × Int × Int × Int × Int × Int × Int)) : Int → Option (Int ⊕ (Unit ⊕ (List Int)))
  | x3 => (if x3 < p0 then Ep ((EH nE p1).bind fun x4 => (FP nE p0 x4 x3).bind fun x5 => (ix ([x2.1, x2.2.1, x2.2.2.1, x2.2.2.2.1, x2.2.2.2.2.1, x2.2.2.2.2.2.1, x2.2.2.2.2.2.2.1, x2.2.2.2.2.2.2.2.1, x2.2.2.2.2.2.2.2.2.1, x2.2.2.2.2.2.2.2.2.2.1, x2.2.2.2.2.2.2.2.2.2.2.1, x2.2.2.2.2.2.2.2.2.2.2.2.1, x2.2.2.2.2.2.2.2.2.2.2.2.2.1, x2.2.2.2.2.2.2.2.2.2.2.2.2.2.1, x2.2.2.2.2.2.2.2.2.2.2.2.2.2.2.1, x2.2.2.2.2.2.2.2.2.2.2.2.2.2.2.2] : List Int) x3).bind fun x6 => (E3 nE p0 x6 x5).bind fun x7 => (if x7 < 0 then some (.inl ()) else (CI nE (GA nE p0 x2 x3 x5) (([x3] : List Int), x7)).bind fun x8 => some (.inr (.inr (.inr x8))))) fun _ => some (.inl (A3 (x3 + 1))) else some (.inr (.inl ())))
theorem KR (nE : Nat) (p0 : Int) (p1 : List (Int × Int)) (x2 : (Int × Int × Int × Int × Int × Int × Int × Int × Int × Int × Int × Int × Int × Int × Int × Int)) : ∀ s, Le (GD nE p0 p1 x2 s) (Ei p0 p1 x2 s) := by
  intro x3
  unfold GD Ei
  repeat' with_reducible (first | refine Le.orR' ?_ ?_ | refine Le.bind' ?_ ?_ | refine Le.ite' ?_ ?_ | refine Le.loop' ?_ | refine Le.altS' ?_ ?_ | apply I1 | apply J0 | apply Iv | apply Ld | exact Le.rfl' _ | (refine Le.pi2 ?_; intro _) | intro _)
def Iy (nE : Nat) (p0 : Int) (p1 : List (Int × Int)) : Option (List Int) := (HQ nE p0 p1).bind fun x1 => (if (!x1) = true then some ([] : List Int) else (E4 nE p1).bind fun x2 => Ep (CI nE (GD nE p0 p1 x2) 0) fun _ => some ([] : List Int))
theorem ML (nE : Nat) (p0 : Int) (p1 : List (Int × Int)) : Le (Iy nE p0 p1) (Dt p0 p1) := by
  unfold Iy Dt
  repeat' with_reducible (first | refine Le.orR' ?_ ?_ | refine Le.bind' ?_ ?_ | refine Le.ite' ?_ ?_ | refine Le.loop' ?_ | refine Le.altS' ?_ ?_ | apply Mz | apply JN | apply KR | exact Le.rfl' _ | (refine Le.pi2 ?_; intro _) | intro _)
def DH (nE : Nat) (p0 : (Int × (List (Int × Int × Int × Int × Int × Int)) × (List (Int × Int))) × List (List Int) × List (List Int) × ((List (Int × Int × Int × Int)) × (List (Int × Int × List Int)) × Int × Int × Int × Int)) (p3 : Int) (x5 : Int) (x9 : List Int) : ((List (Int × Int)) × Bool × Int) → Option (((List (Int × Int)) × Bool × Int) ⊕ ((List (Int × Int)) × Bool))
  | (x10, x11, x12) => (if x12 < (x9.length : Int) then ((ix x9 x12).bind fun x15 => (HE nE p0.1 x5 x15).bind fun x16 => (if x16.2.2.2 = true then (Fo x10 ([(x5, x16.1)] : List (Int × Int))).bind fun x17 => some (x17, x11) else (F9 nE p0.1 x5 x15).bind fun x18 => (if x18 ≠ p3 then some (x10, true) else some (x10, x11)))).bind fun (x13, x14) => some (.inl (x13, x14, A3 (x12 + 1))) else some (.inr (x10, x11)))
theorem Hx (nE : Nat) (p0 : (Int × (List (Int × Int × Int × Int × Int × Int)) × (List (Int × Int))) × List (List Int) × List (List Int) × ((List (Int × Int × Int × Int)) × (List (Int × Int × List Int)) × Int × Int × Int × Int)) (p3 : Int) (x5 : Int) (x9 : List Int) : ∀ s, Le (DH nE p0 p3 x5 x9 s) (BD p0 p3 x5 x9 s) := by
  rintro ⟨x10, x11, x12⟩
  unfold DH BD
  repeat' with_reducible (first | refine Le.orR' ?_ ?_ | refine Le.bind' ?_ ?_ | refine Le.ite' ?_ ?_ | refine Le.loop' ?_ | refine Le.altS' ?_ ?_ | apply I7 | apply Ks | exact Le.rfl' _ | (refine Le.pi2 ?_; intro _) | intro _)
def DK (nE : Nat) (p0 : (Int × (List (Int × Int × Int × Int × Int × Int)) × (List (Int × Int))) × List (List Int) × List (List Int) × ((List (Int × Int × Int × Int)) × (List (Int × Int × List Int)) × Int × Int × Int × Int)) (p1 : List (List (List Int))) (p3 : Int) : ((List (Int × Int)) × Bool × Int) → Option (((List (Int × Int)) × Bool × Int) ⊕ ((List (Int × Int)) × Bool))
  | (x3, x4, x5) => (if x5 < (p1.length : Int) then ((ix p1 x5).bind fun x8 => (ix x8 p3).bind fun x9 => CI nE (DH nE p0 p3 x5 x9) (x3, x4, 0)).bind fun (x6, x7) => some (.inl (x6, x7, A3 (x5 + 1))) else some (.inr (x3, x4)))
theorem Hw (nE : Nat) (p0 : (Int × (List (Int × Int × Int × Int × Int × Int)) × (List (Int × Int))) × List (List Int) × List (List Int) × ((List (Int × Int × Int × Int)) × (List (Int × Int × List Int)) × Int × Int × Int × Int)) (p1 : List (List (List Int))) (p3 : Int) : ∀ s, Le (DK nE p0 p1 p3 s) (B3 p0 p1 p3 s) := by
  rintro ⟨x3, x4, x5⟩
  unfold DK B3
  repeat' with_reducible (first | refine Le.orR' ?_ ?_ | refine Le.bind' ?_ ?_ | refine Le.ite' ?_ ?_ | refine Le.loop' ?_ | refine Le.altS' ?_ ?_ | apply Hx | exact Le.rfl' _ | (refine Le.pi2 ?_; intro _) | intro _)
def El (nE : Nat) (p0 : (Int × (List (Int × Int × Int × Int × Int × Int)) × (List (Int × Int))) × List (List Int) × List (List Int) × ((List (Int × Int × Int × Int)) × (List (Int × Int × List Int)) × Int × Int × Int × Int)) (p1 : List (List (List Int))) (p2 : Int) (p3 : Int) : Option (List (Int × Int × Int)) := (CI nE (DK nE p0 p1 p3) ([], false, 0)).bind fun (x1, x2) => (if x2 = true then (Fo ([] : List (Int × Int × Int)) ([(5, p2, p3)] : List (Int × Int × Int))).bind fun x20 => some x20 else some ([])).bind fun x19 => ((Iy nE p0.1.1 x1).bind fun x22 => (if 0 < (x22.length : Int) then (Fo x19 ([(6, p2, p3)] : List (Int × Int × Int))).bind fun x23 => some x23 else some x19)).bind fun x21 => some x21
theorem IB (nE : Nat) (p0 : (Int × (List (Int × Int × Int × Int × Int × Int)) × (List (Int × Int))) × List (List Int) × List (List Int) × ((List (Int × Int × Int × Int)) × (List (Int × Int × List Int)) × Int × Int × Int × Int)) (p1 : List (List (List Int))) (p2 : Int) (p3 : Int) : Le (El nE p0 p1 p2 p3) (Ct p0 p1 p2 p3) := by
  unfold El Ct
  repeat' with_reducible (first | refine Le.orR' ?_ ?_ | refine Le.bind' ?_ ?_ | refine Le.ite' ?_ ?_ | refine Le.loop' ?_ | refine Le.altS' ?_ ?_ | apply ML | apply Hw | exact Le.rfl' _ | (refine Le.pi2 ?_; intro _) | intro _)
def Dv (nE : Nat) (p0 : (Int × (List (Int × Int × Int × Int × Int × Int)) × (List (Int × Int))) × List (List Int) × List (List Int) × ((List (Int × Int × Int × Int)) × (List (Int × Int × List Int)) × Int × Int × Int × Int)) (x8 : Int × Int × List Int) : ((List (Nat × List Int)) × (List (Nat × List (Nat × List Int))) × Int) → Option (((List (Nat × List Int)) × (List (Nat × List (Nat × List Int))) × Int) ⊕ ((List (Nat × List Int)) × (List (Nat × List (Nat × List Int)))))
  | (x13, x14, x15) => (if x15 < (p0.2.2.2.1.length : Int) then ((ix p0.2.2.2.1 x15).bind fun x18 => (if (A6 p0 x18) = true then (ES nE x8 x18).bind fun x22 => some (x13, x14, x22) else some (x13, x14, false)).bind fun (x19, x20, x21) => (if x21 = true then (ix x20 x18.1).bind fun x23 => (ix x23.2 x18.2.1).bind fun x24 => (JB x23.1).bind fun x25 => (JB x24.1).bind fun x26 => (Fo x24.2 ([x18.2.2.1] : List Int)).bind fun x27 => (ix (Am x23.2 x18.2.1 (0, [])) x18.2.1).bind fun x28 => (ix x19 x18.1).bind fun x29 => (ix x29.2 x18.2.1).bind fun x30 => (PQ x29.1).bind fun x31 => (JB x29.1).bind fun x32 => some ((Am x19 x18.1 (2, (Am x29.2 x18.2.1 x18.2.2.1))), (Am (Am x20 x18.1 (2, (Am x23.2 x18.2.1 (0, [])))) x18.1 (2, (Am (Am x23.2 x18.2.1 (0, [])) x18.2.1 (2, x27))))) else some (x19, x20))).bind fun (x16, x17) => some (.inl (x16, x17, A3 (x15 + 1))) else some (.inr (x13, x14)))
theorem GR (nE : Nat) (p0 : (Int × (List (Int × Int × Int × Int × Int × Int)) × (List (Int × Int))) × List (List Int) × List (List Int) × ((List (Int × Int × Int × Int)) × (List (Int × Int × List Int)) × Int × Int × Int × Int)) (x8 : Int × Int × List Int) : ∀ s, Le (Dv nE p0 x8 s) (Bc p0 x8 s) := by
  rintro ⟨x13, x14, x15⟩
  unfold Dv Bc
  repeat' with_reducible (first | refine Le.orR' ?_ ?_ | refine Le.bind' ?_ ?_ | refine Le.ite' ?_ ?_ | refine Le.loop' ?_ | refine Le.altS' ?_ ?_ | apply HB | exact Le.rfl' _ | (refine Le.pi2 ?_; intro _) | intro _)
def Du (nE : Nat) (p0 : (Int × (List (Int × Int × Int × Int × Int × Int)) × (List (Int × Int))) × List (List Int) × List (List Int) × ((List (Int × Int × Int × Int)) × (List (Int × Int × List Int)) × Int × Int × Int × Int)) (x5 : Int) (x11 : List (Nat × List Int)) (x12 : List (Nat × List (Nat × List Int))) : ((List (Int × Int × Int)) × Int) → Option (((List (Int × Int × Int)) × Int) ⊕ ((List (Int × Int × Int)) × (List (Nat × List Int))))
  | (x33, x34) => (if x34 < (p0.1.2.2.length : Int) then (Hg Tn x12).bind fun x35 => (El nE p0 x35 x5 x34).bind fun x36 => (Fo x33 x36).bind fun x37 => some (.inl (x37, A3 (x34 + 1))) else some (.inr (x33, x11)))
theorem GT (nE : Nat) (p0 : (Int × (List (Int × Int × Int × Int × Int × Int)) × (List (Int × Int))) × List (List Int) × List (List Int) × ((List (Int × Int × Int × Int)) × (List (Int × Int × List Int)) × Int × Int × Int × Int)) (x5 : Int) (x11 : List (Nat × List Int)) (x12 : List (Nat × List (Nat × List Int))) : ∀ s, Le (Du nE p0 x5 x11 x12 s) (Bd p0 x5 x11 x12 s) := by
  rintro ⟨x33, x34⟩
  unfold Du Bd
  repeat' with_reducible (first | refine Le.orR' ?_ ?_ | refine Le.bind' ?_ ?_ | refine Le.ite' ?_ ?_ | refine Le.loop' ?_ | refine Le.altS' ?_ ?_ | apply IB | exact Le.rfl' _ | (refine Le.pi2 ?_; intro _) | intro _)
def Dr (nE : Nat) (p0 : (Int × (List (Int × Int × Int × Int × Int × Int)) × (List (Int × Int))) × List (List Int) × List (List Int) × ((List (Int × Int × Int × Int)) × (List (Int × Int × List Int)) × Int × Int × Int × Int)) : ((List (Int × Int × Int)) × (List (Nat × List Int)) × Int) → Option (((List (Int × Int × Int)) × (List (Nat × List Int)) × Int) ⊕ (List (Int × Int × Int)))
  | (x3, x4, x5) => (if x5 < (p0.2.2.2.2.1.length : Int) then ((ix p0.2.2.2.2.1 x5).bind fun x8 => (Hg Rj x4).bind fun x9 => (Hd nE x9).bind fun x10 => (CI nE (Dv nE p0 x8) (x4, x10, 0)).bind fun (x11, x12) => CI nE (Du nE p0 x5 x11 x12) (x3, 0)).bind fun (x6, x7) => some (.inl (x6, x7, A3 (x5 + 1))) else some (.inr x3))
theorem GQ (nE : Nat) (p0 : (Int × (List (Int × Int × Int × Int × Int × Int)) × (List (Int × Int))) × List (List Int) × List (List Int) × ((List (Int × Int × Int × Int)) × (List (Int × Int × List Int)) × Int × Int × Int × Int)) : ∀ s, Le (Dr nE p0 s) (BJ p0 s) := by
  rintro ⟨x3, x4, x5⟩
  unfold Dr BJ
  repeat' with_reducible (first | refine Le.orR' ?_ ?_ | refine Le.bind' ?_ ?_ | refine Le.ite' ?_ ?_ | refine Le.loop' ?_ | refine Le.altS' ?_ ?_ | apply Lz | apply GR | apply GT | exact Le.rfl' _ | (refine Le.pi2 ?_; intro _) | intro _)
def DS (nE : Nat) (p0 : (Int × (List (Int × Int × Int × Int × Int × Int)) × (List (Int × Int))) × List (List Int) × List (List Int) × ((List (Int × Int × Int × Int)) × (List (Int × Int × List Int)) × Int × Int × Int × Int)) : Option (List (Int × Int × Int)) := (He nE p0.2.1).bind fun x1 => (CI nE (Dr nE p0) ([], x1, 0)).bind fun x2 => some x2
theorem HX (nE : Nat) (p0 : (Int × (List (Int × Int × Int × Int × Int × Int)) × (List (Int × Int))) × List (List Int) × List (List Int) × ((List (Int × Int × Int × Int)) × (List (Int × Int × List Int)) × Int × Int × Int × Int)) : Le (DS nE p0) (Cc p0) := by
  unfold DS Cc
  repeat' with_reducible (first | refine Le.orR' ?_ ?_ | refine Le.bind' ?_ ?_ | refine Le.ite' ?_ ?_ | refine Le.loop' ?_ | refine Le.altS' ?_ ?_ | apply Lx | apply GQ | exact Le.rfl' _ | (refine Le.pi2 ?_; intro _) | intro _)
def B7 (nE : Nat) (p1 : Int) : Option (List (Int × Int × Int)) := (if p1 < 0 then none else (if 0 < (A3 (p1 - (A3 (0 - (([] : List (Int × Int × Int)).length : Int))))) then (K0 ([] : List (Int × Int × Int)) 0 0).bind fun x2 => (VI 0 (A3 (p1 - (A3 (0 - (([] : List (Int × Int × Int)).length : Int))))).toNat).bind fun x3 => (mk (A3 (p1 - (A3 (0 - (([] : List (Int × Int × Int)).length : Int))))) ((0, 0, 0) : Int × Int × Int)).bind fun x4 => (K0 x4 0 (([] : List (Int × Int × Int)).length : Int)).bind fun x5 => some x5 else some ([])).bind fun x1 => some x1)
theorem Ea (nE : Nat) (p1 : Int) : Le (B7 nE p1) (AU p1) := by
  unfold B7 AU
  repeat' with_reducible (first | refine Le.orR' ?_ ?_ | refine Le.bind' ?_ ?_ | refine Le.ite' ?_ ?_ | refine Le.loop' ?_ | refine Le.altS' ?_ ?_ | exact Le.rfl' _ | (refine Le.pi2 ?_; intro _) | intro _)
def BI (nE : Nat) (p0 : List (List (Int × Int × Int))) : (Int × Int) → Option ((Int × Int) ⊕ Int)
  | (x2, x3) => (if x3 < (p0.length : Int) then (ix p0 x3).bind fun x4 => (if (A3 (x2 + (x4.length : Int))) < 0 then none else some (.inl (A3 (x2 + (x4.length : Int)), A3 (x3 + 1)))) else some (.inr x2))
theorem DD (nE : Nat) (p0 : List (List (Int × Int × Int))) : ∀ s, Le (BI nE p0 s) (AG p0 s) := by
  rintro ⟨x2, x3⟩
  unfold BI AG
  repeat' with_reducible (first | refine Le.orR' ?_ ?_ | refine Le.bind' ?_ ?_ | refine Le.ite' ?_ ?_ | refine Le.loop' ?_ | refine Le.altS' ?_ ?_ | exact Le.rfl' _ | (refine Le.pi2 ?_; intro _) | intro _)
def BG (nE : Nat) (p0 : List (List (Int × Int × Int))) : ((List (Int × Int × Int)) × Int) → Option (((List (Int × Int × Int)) × Int) ⊕ (List (Int × Int × Int)))
  | (x7, x8) => (if x8 < (p0.length : Int) then (ix p0 x8).bind fun x9 => (Fo x7 x9).bind fun x10 => some (.inl (x10, A3 (x8 + 1))) else some (.inr x7))
theorem DC (nE : Nat) (p0 : List (List (Int × Int × Int))) : ∀ s, Le (BG nE p0 s) (AF p0 s) := by
  rintro ⟨x7, x8⟩
  unfold BG AF
  repeat' with_reducible (first | refine Le.orR' ?_ ?_ | refine Le.bind' ?_ ?_ | refine Le.ite' ?_ ?_ | refine Le.loop' ?_ | refine Le.altS' ?_ ?_ | exact Le.rfl' _ | (refine Le.pi2 ?_; intro _) | intro _)
def BX (nE : Nat) (p0 : List (List (Int × Int × Int))) : Option (List (Int × Int × Int)) := (CI nE (BI nE p0) (0, 0)).bind fun x1 => (B7 nE x1).bind fun x5 => (CI nE (BG nE p0) (x5, 0)).bind fun x6 => some x6
theorem DY (nE : Nat) (p0 : List (List (Int × Int × Int))) : Le (BX nE p0) (AP p0) := by
  unfold BX AP
  repeat' with_reducible (first | refine Le.orR' ?_ ?_ | refine Le.bind' ?_ ?_ | refine Le.ite' ?_ ?_ | refine Le.loop' ?_ | refine Le.altS' ?_ ?_ | apply Ea | apply DD | apply DC | exact Le.rfl' _ | (refine Le.pi2 ?_; intro _) | intro _)
def Ga (nE : Nat) (p0 : Int × (List (Int × Int × Int × Int × Int × Int)) × (List (Int × Int))) (p1 : List (List Int)) (p2 : List (List Int)) (p3 : (List (Int × Int × Int × Int)) × (List (Int × Int × List Int)) × Int × Int × Int × Int) : Option (List (Int × Int × Int)) := ((GV nE p0 p1).bind fun x2 => (if (!x2) = true then some true else (GV nE p0 p2).bind fun x3 => some (!x3))).bind fun x1 => (if x1 = true then some ([(1, 0, 0)] : List (Int × Int × Int)) else (D6 nE (p0, p1, p2, p3)).bind fun x4 => (EE nE (p0, p1, p2, p3)).bind fun x5 => (ED nE (p0, p1, p2, p3)).bind fun x6 => (DS nE (p0, p1, p2, p3)).bind fun x7 => (BX nE ([x4, x5, x6, x7] : List (List (Int × Int × Int)))).bind fun x8 => some x8)
theorem Mk (nE : Nat) (p0 : Int × (List (Int × Int × Int × Int × Int × Int)) × (List (Int × Int))) (p1 : List (List Int)) (p2 : List (List Int)) (p3 : (List (Int × Int × Int × Int)) × (List (Int × Int × List Int)) × Int × Int × Int × Int) : Le (Ga nE p0 p1 p2 p3) (DG p0 p1 p2 p3) := by
  unfold Ga DG
  repeat' with_reducible (first | refine Le.orR' ?_ ?_ | refine Le.bind' ?_ ?_ | refine Le.ite' ?_ ?_ | refine Le.loop' ?_ | refine Le.altS' ?_ ?_ | apply MS | apply Ib | apply I2 | apply IX | apply HX | apply DY | exact Le.rfl' _ | (refine Le.pi2 ?_; intro _) | intro _)
def Lu (nE : Nat)  : Option Bool := (Ga nE (3, ([(0, 0, 1, 0, 1, 1), (1, 1, 2, 0, 1, 1), (0, 1, 2, 1, 1, 1)] : List (Int × Int × Int × Int × Int × Int)), ([(2, 7)] : List (Int × Int))) ([([0] : List Int), ([1] : List Int), ([7] : List Int)] : List (List Int)) ([([1] : List Int), ([1] : List Int), ([7] : List Int)] : List (List Int)) (([] : List (Int × Int × Int × Int)), ([] : List (Int × Int × List Int)), 0, 0, 0, 0)).bind fun x1 => (if (x1.length : Int) = 1 then (ix x1 0).bind fun x3 => (if x3.1 = 2 ∧ x3.2.1 = 0 ∧ x3.2.2 = 0 then (if (CW 6) = ([108, 111, 111, 112] : List UInt8) then (Ga nE (0, ([] : List (Int × Int × Int × Int × Int × Int)), ([] : List (Int × Int))) ([] : List (List Int)) ([] : List (List Int)) (([] : List (Int × Int × Int × Int)), ([] : List (Int × Int × List Int)), 0, 0, 0, 0)).bind fun x4 => some (decide ((x4.length : Int) = 1)) else some false) else some false) else some false).bind fun x2 => some x2
theorem NY (nE : Nat)  : Le (Lu nE ) (F0 ) := by
  unfold Lu F0
  repeat' with_reducible (first | refine Le.orR' ?_ ?_ | refine Le.bind' ?_ ?_ | refine Le.ite' ?_ ?_ | refine Le.loop' ?_ | refine Le.altS' ?_ ?_ | apply Mk | exact Le.rfl' _ | (refine Le.pi2 ?_; intro _) | intro _)
theorem P5 : F0 = some true := NY 60 _ (by kernel_rfl)
end Go.Proofs.Ythhoflfhegfmcaa
