/- Twins with fuel of GX functions: what a twin answers, the function answers. Conditions: none. -/
import Derived.Test.YthhoflfhegfmcaacLP
import Derived.Test.YthhoflfhegfmcaacA7
namespace Go.Proofs.Ythhoflfhegfmcaa
open Go Go.RowKit
set_option linter.unusedVariables false
set_option linter.unusedSimpArgs false
set_option maxRecDepth 20000
set_option maxHeartbeats 1600000
abbrev Le {α : Type} (a b : Option α) : Prop := ∀ r, a = some r → b = some r
theorem Le.rfl' {α : Type} (a : Option α) : Le a a := fun _ h => h
theorem Le.bind' {α β : Type} {a b : Option α} {f g : α → Option β} (h : Le a b) (hf : ∀ x, Le (f x) (g x)) : Le (a.bind f) (b.bind g) := fun r e => by
  obtain ⟨x, h1, h2⟩ := Ad e
  rw [h x h1, Option.bind_some]; exact hf x r h2
theorem Le.ite' {α : Type} {c : Prop} [Decidable c] {a a' b b' : Option α} (h1 : Le a a') (h2 : Le b b') : Le (if c then a else b) (if c then a' else b') := fun r e => by
  by_cases h : c
  · rw [if_pos h] at e ⊢; exact h1 r e
  · rw [if_neg h] at e ⊢; exact h2 r e
theorem Le.orR' {α β : Type} {a b : Option (α ⊕ β)} {f g : α → Option β} (h : Le a b) (hf : ∀ x, Le (f x) (g x)) : Le (EZ a f) (EZ b g) :=
  Le.bind' h fun x => by
    cases x with
    | inl t => exact hf t
    | inr e => exact Le.rfl' _
def Cr {σ ε : Type} (n : Nat) (step : σ → Option (σ ⊕ ε)) (s : σ) : Option ε := F2 step n s
theorem Lr {σ ε : Type} {S T : σ → Option (σ ⊕ ε)} (h : ∀ s, Le (S s) (T s)) : ∀ (n : Nat) (s : σ), Le (F2 S n s) (F2 T n s)
  | 0, s => Le.rfl' _
  | n + 1, s => fun r e => by
    unfold F2 at e ⊢
    cases hs : S s with
    | none => rw [hs] at e; cases e
    | some q =>
      rw [hs] at e; rw [h s q hs]
      cases q with
      | inl s' => exact Lr h n s' r e
      | inr _ => exact e
theorem Le.loop' {σ ε : Type} {n : Nat} {S T : σ → Option (σ ⊕ ε)} {s : σ} (h : ∀ s, Le (S s) (T s)) : Le (Cr n S s) (An T s) := fun r e => Hz.2 ⟨n, Lr h n s r e⟩
theorem Le.pi2 {α β γ : Type} {f g : α × β → Option γ} (h : ∀ a b, Le (f (a, b)) (g (a, b))) : ∀ x, Le (f x) (g x) := fun x => h x.1 x.2
theorem Le.altS' {α β γ : Type} {y : α ⊕ β} {f f' : α → Option γ} {g g' : β → Option γ} (h : ∀ x, Le (f x) (f' x)) (k : ∀ x, Le (g x) (g' x)) : Le (TZ y f g) (TZ y f' g') := by
  cases y with
  | inl x => exact h x
  | inr x => exact k x
def FA (nE : Nat) (p0 : Int × (List (Int × Int × Int × Int × Int × Int)) × (List (Int × Int))) : ((List (Int × Int)) × Int) → Option (((List (Int × Int)) × Int) ⊕ (List (Int × Int)))
  | (x2, x3) => (if x3 < (p0.2.1.length : Int) then (ix p0.2.1 x3).bind fun x4 => (FD x2 ([(x4.1, x4.2.1), (x4.2.2.1, x4.2.2.2.1)] : List (Int × Int))).bind fun x5 => some (.inl (x5, A7 (x3 + 1))) else some (.inr x2))
theorem JA (nE : Nat) (p0 : Int × (List (Int × Int × Int × Int × Int × Int)) × (List (Int × Int))) : ∀ s, Le (FA nE p0 s) (CK p0 s) := by
  rintro ⟨x2, x3⟩
  unfold FA CK
  repeat' with_reducible (first | refine Le.orR' ?_ ?_ | refine Le.bind' ?_ ?_ | refine Le.ite' ?_ ?_ | refine Le.loop' ?_ | refine Le.altS' ?_ ?_ | exact Le.rfl' _ | (refine Le.pi2 ?_; intro _) | intro _)
def Fs (nE : Nat) (p0 : Int × (List (Int × Int × Int × Int × Int × Int)) × (List (Int × Int))) : ((List (Int × Int)) × Int) → Option (((List (Int × Int)) × Int) ⊕ (List (Int × Int)))
  | (x7, x8) => (if x8 < (p0.2.2.length : Int) then (ix p0.2.2 x8).bind fun x9 => (FD x7 ([x9] : List (Int × Int))).bind fun x10 => some (.inl (x10, A7 (x8 + 1))) else some (.inr x7))
theorem Ju (nE : Nat) (p0 : Int × (List (Int × Int × Int × Int × Int × Int)) × (List (Int × Int))) : ∀ s, Le (Fs nE p0 s) (CM p0 s) := by
  rintro ⟨x7, x8⟩
  unfold Fs CM
  repeat' with_reducible (first | refine Le.orR' ?_ ?_ | refine Le.bind' ?_ ?_ | refine Le.ite' ?_ ?_ | refine Le.loop' ?_ | refine Le.altS' ?_ ?_ | exact Le.rfl' _ | (refine Le.pi2 ?_; intro _) | intro _)
def GT (nE : Nat) (p0 : Int × (List (Int × Int × Int × Int × Int × Int)) × (List (Int × Int))) : Option (List (Int × Int)) := (Cr nE (FA nE p0) ([], 0)).bind fun x1 => (Cr nE (Fs nE p0) (x1, 0)).bind fun x6 => some x6
theorem Lx (nE : Nat) (p0 : Int × (List (Int × Int × Int × Int × Int × Int)) × (List (Int × Int))) : Le (GT nE p0) (Ei p0) := by
  unfold GT Ei
  repeat' with_reducible (first | refine Le.orR' ?_ ?_ | refine Le.bind' ?_ ?_ | refine Le.ite' ?_ ?_ | refine Le.loop' ?_ | refine Le.altS' ?_ ?_ | apply JA | apply Ju | exact Le.rfl' _ | (refine Le.pi2 ?_; intro _) | intro _)
def B3 (nE : Nat) (p0 : List (Int × Int × Int × Int × Int × Int)) : Int → Option (Int ⊕ (Unit ⊕ Int))
  | x1 => (if x1 < (p0.length : Int) then (ix p0 x1).bind fun x2 => (if (Bm x2) = true then some (.inr (.inr x1)) else some (.inl (A7 (x1 + 1)))) else some (.inr (.inl ())))
theorem D6 (nE : Nat) (p0 : List (Int × Int × Int × Int × Int × Int)) : ∀ s, Le (B3 nE p0 s) (Ap p0 s) := by
  intro x1
  unfold B3 Ap
  repeat' with_reducible (first | refine Le.orR' ?_ ?_ | refine Le.bind' ?_ ?_ | refine Le.ite' ?_ ?_ | refine Le.loop' ?_ | refine Le.altS' ?_ ?_ | exact Le.rfl' _ | (refine Le.pi2 ?_; intro _) | intro _)
def Ca (nE : Nat) (p0 : List (Int × Int × Int × Int × Int × Int)) : Option Int := EZ (Cr nE (B3 nE p0) 0) fun _ => some (-1)
theorem Ey (nE : Nat) (p0 : List (Int × Int × Int × Int × Int × Int)) : Le (Ca nE p0) (AY p0) := by
  unfold Ca AY
  repeat' with_reducible (first | refine Le.orR' ?_ ?_ | refine Le.bind' ?_ ?_ | refine Le.ite' ?_ ?_ | refine Le.loop' ?_ | refine Le.altS' ?_ ?_ | apply D6 | exact Le.rfl' _ | (refine Le.pi2 ?_; intro _) | intro _)
def B4 (nE : Nat) (p0 : List (Int × Int × Int × Int × Int × Int)) : Option Bool := (Ca nE p0).bind fun x1 => some (decide (0 ≤ x1))
theorem D5 (nE : Nat) (p0 : List (Int × Int × Int × Int × Int × Int)) : Le (B4 nE p0) (AE p0) := by
  unfold B4 AE
  repeat' with_reducible (first | refine Le.orR' ?_ ?_ | refine Le.bind' ?_ ?_ | refine Le.ite' ?_ ?_ | refine Le.loop' ?_ | refine Le.altS' ?_ ?_ | apply Ey | exact Le.rfl' _ | (refine Le.pi2 ?_; intro _) | intro _)
def F0 (nE : Nat) (p0 : Int × (List (Int × Int × Int × Int × Int × Int)) × (List (Int × Int))) (x2 : (List (Int × Int))) : (Int × (List ((Int × Int) × Unit))) → Option ((Int × (List ((Int × Int) × Unit))) ⊕ ((List ((Int × Int) × Unit)) ⊕ Bool))
  | (x3, x4) => (if x3 < (x2.length : Int) then (ix x2 x3).bind fun x5 => (if (decide (x5.1 < 0) || (decide (p0.1 ≤ x5.1) || (decide (x5.2 < 0) || decide (8 ≤ x5.2)))) = true then some (.inr (.inr false)) else (if ((Ke x4 x5).isSome) = true then some (.inr (.inr false)) else some (.inl (A7 (x3 + 1), Kg x4 x5 ())))) else some (.inr (.inl x4)))
theorem Kf (nE : Nat) (p0 : Int × (List (Int × Int × Int × Int × Int × Int)) × (List (Int × Int))) (x2 : (List (Int × Int))) : ∀ s, Le (F0 nE p0 x2 s) (Ce p0 x2 s) := by
  rintro ⟨x3, x4⟩
  unfold F0 Ce
  repeat' with_reducible (first | refine Le.orR' ?_ ?_ | refine Le.bind' ?_ ?_ | refine Le.ite' ?_ ?_ | refine Le.loop' ?_ | refine Le.altS' ?_ ?_ | exact Le.rfl' _ | (refine Le.pi2 ?_; intro _) | intro _)
def HS (nE : Nat) (p0 : Int × (List (Int × Int × Int × Int × Int × Int)) × (List (Int × Int))) : Option Bool := (if (decide (p0.1 < 1) || (decide (8 < p0.1) || (decide (24 < (p0.2.1.length : Int)) || decide (8 < (p0.2.2.length : Int))))) = true then some false else EZ ((GT nE p0).bind fun x2 => Cr nE (F0 nE p0 x2) (0, ([] : List ((Int × Int) × Unit)))) fun x1 => (B4 nE p0.2.1).bind fun x6 => some (!x6))
theorem LS (nE : Nat) (p0 : Int × (List (Int × Int × Int × Int × Int × Int)) × (List (Int × Int))) : Le (HS nE p0) (EU p0) := by
  unfold HS EU
  repeat' with_reducible (first | refine Le.orR' ?_ ?_ | refine Le.bind' ?_ ?_ | refine Le.ite' ?_ ?_ | refine Le.loop' ?_ | refine Le.altS' ?_ ?_ | apply Lx | apply D5 | apply Kf | exact Le.rfl' _ | (refine Le.pi2 ?_; intro _) | intro _)
def CO (nE : Nat) (p0 : List Int) : Int → Option (Int ⊕ (Unit ⊕ Int))
  | x1 => (if x1 < (p0.length : Int) then (ix p0 x1).bind fun x2 => (if (CA x2) = true then some (.inr (.inr x1)) else some (.inl (A7 (x1 + 1)))) else some (.inr (.inl ())))
theorem Fx (nE : Nat) (p0 : List Int) : ∀ s, Le (CO nE p0 s) (AH p0 s) := by
  intro x1
  unfold CO AH
  repeat' with_reducible (first | refine Le.orR' ?_ ?_ | refine Le.bind' ?_ ?_ | refine Le.ite' ?_ ?_ | refine Le.loop' ?_ | refine Le.altS' ?_ ?_ | exact Le.rfl' _ | (refine Le.pi2 ?_; intro _) | intro _)
def C7 (nE : Nat) (p0 : List Int) : Option Int := EZ (Cr nE (CO nE p0) 0) fun _ => some (-1)
theorem F5 (nE : Nat) (p0 : List Int) : Le (C7 nE p0) (BT p0) := by
  unfold C7 BT
  repeat' with_reducible (first | refine Le.orR' ?_ ?_ | refine Le.bind' ?_ ?_ | refine Le.ite' ?_ ?_ | refine Le.loop' ?_ | refine Le.altS' ?_ ?_ | apply Fx | exact Le.rfl' _ | (refine Le.pi2 ?_; intro _) | intro _)
def CL (nE : Nat) (p0 : List Int) : Option Bool := (C7 nE p0).bind fun x1 => some (decide (0 ≤ x1))
theorem Fw (nE : Nat) (p0 : List Int) : Le (CL nE p0) (Ba p0) := by
  unfold CL Ba
  repeat' with_reducible (first | refine Le.orR' ?_ ?_ | refine Le.bind' ?_ ?_ | refine Le.ite' ?_ ?_ | refine Le.loop' ?_ | refine Le.altS' ?_ ?_ | apply F5 | exact Le.rfl' _ | (refine Le.pi2 ?_; intro _) | intro _)
def FC (nE : Nat) (p0 : Int × (List (Int × Int × Int × Int × Int × Int)) × (List (Int × Int))) (p1 : List (List Int)) : Int → Option (Int ⊕ (Unit ⊕ Bool))
  | x3 => (if x3 < (p1.length : Int) then (ix p1 x3).bind fun x4 => (if (x4.length : Int) ≠ (p0.2.2.length : Int) then some true else (CL nE x4).bind fun x6 => some x6).bind fun x5 => (if x5 = true then some (.inr (.inr false)) else some (.inl (A7 (x3 + 1)))) else some (.inr (.inl ())))
theorem JF (nE : Nat) (p0 : Int × (List (Int × Int × Int × Int × Int × Int)) × (List (Int × Int))) (p1 : List (List Int)) : ∀ s, Le (FC nE p0 p1 s) (C3 p0 p1 s) := by
  intro x3
  unfold FC C3
  repeat' with_reducible (first | refine Le.orR' ?_ ?_ | refine Le.bind' ?_ ?_ | refine Le.ite' ?_ ?_ | refine Le.loop' ?_ | refine Le.altS' ?_ ?_ | apply Fw | exact Le.rfl' _ | (refine Le.pi2 ?_; intro _) | intro _)
def GP (nE : Nat) (p0 : Int × (List (Int × Int × Int × Int × Int × Int)) × (List (Int × Int))) (p1 : List (List Int)) : Option Bool := ((HS nE p0).bind fun x2 => (if (!x2) = true then some true else some (decide ((p1.length : Int) ≠ p0.1)))).bind fun x1 => (if x1 = true then some false else EZ (Cr nE (FC nE p0 p1) 0) fun _ => some true)
theorem Ly (nE : Nat) (p0 : Int × (List (Int × Int × Int × Int × Int × Int)) × (List (Int × Int))) (p1 : List (List Int)) : Le (GP nE p0 p1) (Eu p0 p1) := by
  unfold GP Eu
  repeat' with_reducible (first | refine Le.orR' ?_ ?_ | refine Le.bind' ?_ ?_ | refine Le.ite' ?_ ?_ | refine Le.loop' ?_ | refine Le.altS' ?_ ?_ | apply LS | apply JF | exact Le.rfl' _ | (refine Le.pi2 ?_; intro _) | intro _)
def Cf (nE : Nat) (p0 : List (Int × Int)) (p1 : Int × Int) : Int → Option (Int ⊕ (Unit ⊕ Int))
  | x1 => (if x1 < (p0.length : Int) then (ix p0 x1).bind fun x2 => (if p1.1 = x2.1 ∧ p1.2 = x2.2 then some (.inr (.inr x1)) else some (.inl (A7 (x1 + 1)))) else some (.inr (.inl ())))
theorem EC (nE : Nat) (p0 : List (Int × Int)) (p1 : Int × Int) : ∀ s, Le (Cf nE p0 p1 s) (Ax p0 p1 s) := by
  intro x1
  unfold Cf Ax
  repeat' with_reducible (first | refine Le.orR' ?_ ?_ | refine Le.bind' ?_ ?_ | refine Le.ite' ?_ ?_ | refine Le.loop' ?_ | refine Le.altS' ?_ ?_ | exact Le.rfl' _ | (refine Le.pi2 ?_; intro _) | intro _)
def Cw (nE : Nat) (p0 : List (Int × Int)) (p1 : Int × Int) : Option Int := EZ (Cr nE (Cf nE p0 p1) 0) fun _ => some (-1)
theorem E0 (nE : Nat) (p0 : List (Int × Int)) (p1 : Int × Int) : Le (Cw nE p0 p1) (Bd p0 p1) := by
  unfold Cw Bd
  repeat' with_reducible (first | refine Le.orR' ?_ ?_ | refine Le.bind' ?_ ?_ | refine Le.ite' ?_ ?_ | refine Le.loop' ?_ | refine Le.altS' ?_ ?_ | apply EC | exact Le.rfl' _ | (refine Le.pi2 ?_; intro _) | intro _)
def FF (nE : Nat) (p0 : Int × (List (Int × Int × Int × Int × Int × Int)) × (List (Int × Int))) (p1 : Int) (p2 : Int) : Option Int := (Cw nE p0.2.2 (p1, p2)).bind fun x1 => some x1
theorem Iy (nE : Nat) (p0 : Int × (List (Int × Int × Int × Int × Int × Int)) × (List (Int × Int))) (p1 : Int) (p2 : Int) : Le (FF nE p0 p1 p2) (C2 p0 p1 p2) := by
  unfold FF C2
  repeat' with_reducible (first | refine Le.orR' ?_ ?_ | refine Le.bind' ?_ ?_ | refine Le.ite' ?_ ?_ | refine Le.loop' ?_ | refine Le.altS' ?_ ?_ | apply E0 | exact Le.rfl' _ | (refine Le.pi2 ?_; intro _) | intro _)
def Gj (nE : Nat) (p0 : Int × (List (Int × Int × Int × Int × Int × Int)) × (List (Int × Int))) (p1 : Int) (p2 : Int) : Int → Option (Int ⊕ (Unit ⊕ (Int × Int × Int × Bool)))
  | x1 => (if x1 < (p0.2.1.length : Int) then (ix p0.2.1 x1).bind fun x2 => (if p1 = x2.1 ∧ p2 = x2.2.1 then some (.inr (.inr (x2.2.2.1, x2.2.2.2.1, x1, true))) else (if p1 = x2.2.2.1 ∧ p2 = x2.2.2.2.1 then some (.inr (.inr (x2.1, x2.2.1, x1, true))) else some (.inl (A7 (x1 + 1))))) else some (.inr (.inl ())))
theorem KH (nE : Nat) (p0 : Int × (List (Int × Int × Int × Int × Int × Int)) × (List (Int × Int))) (p1 : Int) (p2 : Int) : ∀ s, Le (Gj nE p0 p1 p2 s) (CG p0 p1 p2 s) := by
  intro x1
  unfold Gj CG
  repeat' with_reducible (first | refine Le.orR' ?_ ?_ | refine Le.bind' ?_ ?_ | refine Le.ite' ?_ ?_ | refine Le.loop' ?_ | refine Le.altS' ?_ ?_ | exact Le.rfl' _ | (refine Le.pi2 ?_; intro _) | intro _)
def GJ (nE : Nat) (p0 : Int × (List (Int × Int × Int × Int × Int × Int)) × (List (Int × Int))) (p1 : Int) (p2 : Int) : Option (Int × Int × Int × Bool) := EZ (Cr nE (Gj nE p0 p1 p2) 0) fun _ => some (0, 0, 0, false)
theorem JJ (nE : Nat) (p0 : Int × (List (Int × Int × Int × Int × Int × Int)) × (List (Int × Int))) (p1 : Int) (p2 : Int) : Le (GJ nE p0 p1 p2) (D2 p0 p1 p2) := by
  unfold GJ D2
  repeat' with_reducible (first | refine Le.orR' ?_ ?_ | refine Le.bind' ?_ ?_ | refine Le.ite' ?_ ?_ | refine Le.loop' ?_ | refine Le.altS' ?_ ?_ | apply KH | exact Le.rfl' _ | (refine Le.pi2 ?_; intro _) | intro _)
def HJ (nE : Nat) (p0 : Int × (List (Int × Int × Int × Int × Int × Int)) × (List (Int × Int))) (p1 : List (List Int)) (p2 : Int) (p3 : Int) : Option (Int × Bool) := (if p2 < 0 then some true else (if (p1.length : Int) ≤ p2 then some true else (if p3 < 0 then some true else (ix p1 p2).bind fun x2 => some (decide ((x2.length : Int) ≤ p3))))).bind fun x1 => (if x1 = true then some (0, false) else (ix p1 p2).bind fun x3 => (ix x3 p3).bind fun x4 => (GJ nE p0 p2 x4).bind fun x5 => some (x5.1, x5.2.2.2))
theorem LN (nE : Nat) (p0 : Int × (List (Int × Int × Int × Int × Int × Int)) × (List (Int × Int))) (p1 : List (List Int)) (p2 : Int) (p3 : Int) : Le (HJ nE p0 p1 p2 p3) (EM p0 p1 p2 p3) := by
  unfold HJ EM
  repeat' with_reducible (first | refine Le.orR' ?_ ?_ | refine Le.bind' ?_ ?_ | refine Le.ite' ?_ ?_ | refine Le.loop' ?_ | refine Le.altS' ?_ ?_ | apply JJ | exact Le.rfl' _ | (refine Le.pi2 ?_; intro _) | intro _)
def DJ (nE : Nat) (p0 : List Int) (p1 : Int) : Int → Option (Int ⊕ (Unit ⊕ Bool))
  | x1 => (if x1 < (p0.length : Int) then (ix p0 x1).bind fun x2 => (if p1 = x2 then some (.inr (.inr true)) else some (.inl (A7 (x1 + 1)))) else some (.inr (.inl ())))
theorem GR (nE : Nat) (p0 : List Int) (p1 : Int) : ∀ s, Le (DJ nE p0 p1 s) (BW p0 p1 s) := by
  intro x1
  unfold DJ BW
  repeat' with_reducible (first | refine Le.orR' ?_ ?_ | refine Le.bind' ?_ ?_ | refine Le.ite' ?_ ?_ | refine Le.loop' ?_ | refine Le.altS' ?_ ?_ | exact Le.rfl' _ | (refine Le.pi2 ?_; intro _) | intro _)
def El (nE : Nat) (p0 : List Int) (p1 : Int) : Option Bool := EZ (Cr nE (DJ nE p0 p1) 0) fun _ => some false
theorem H0 (nE : Nat) (p0 : List Int) (p1 : Int) : Le (El nE p0 p1) (Cj p0 p1) := by
  unfold El Cj
  repeat' with_reducible (first | refine Le.orR' ?_ ?_ | refine Le.bind' ?_ ?_ | refine Le.ite' ?_ ?_ | refine Le.loop' ?_ | refine Le.altS' ?_ ?_ | apply GR | exact Le.rfl' _ | (refine Le.pi2 ?_; intro _) | intro _)
def FS (nE : Nat) (p0 : Int × (List (Int × Int × Int × Int × Int × Int)) × (List (Int × Int))) (p1 : List (List Int)) (p3 : Int) : (Int × List Int) → Option ((Int × List Int) ⊕ ((List Int) ⊕ (List Int × Int)))
  | (x2, x3) => (ix p1 x2).bind fun x4 => (ix x4 p3).bind fun x5 => (FF nE p0 x2 x5).bind fun x6 => (if x6 ≠ p3 then (HJ nE p0 p1 x2 p3).bind fun x7 => (if (!x7.2) = true then some (.inr (.inr (([] : List Int), 13))) else (El nE x3 x7.1).bind fun x8 => (if x8 = true then some (.inr (.inr (([] : List Int), 12))) else (FD x3 ([x7.1] : List Int)).bind fun x9 => some (.inl (x7.1, x9)))) else some (.inr (.inl x3)))
theorem J8 (nE : Nat) (p0 : Int × (List (Int × Int × Int × Int × Int × Int)) × (List (Int × Int))) (p1 : List (List Int)) (p3 : Int) : ∀ s, Le (FS nE p0 p1 p3 s) (CI p0 p1 p3 s) := by
  rintro ⟨x2, x3⟩
  unfold FS CI
  repeat' with_reducible (first | refine Le.orR' ?_ ?_ | refine Le.bind' ?_ ?_ | refine Le.ite' ?_ ?_ | refine Le.loop' ?_ | refine Le.altS' ?_ ?_ | apply Iy | apply LN | apply H0 | exact Le.rfl' _ | (refine Le.pi2 ?_; intro _) | intro _)
def HM (nE : Nat) (p0 : Int × (List (Int × Int × Int × Int × Int × Int)) × (List (Int × Int))) (p1 : List (List Int)) (p2 : Int) (p3 : Int) : Option (List Int × Int) := EZ (Cr nE (FS nE p0 p1 p3) (p2, ([p2] : List Int))) fun x1 => some (x1, 0)
theorem LR (nE : Nat) (p0 : Int × (List (Int × Int × Int × Int × Int × Int)) × (List (Int × Int))) (p1 : List (List Int)) (p2 : Int) (p3 : Int) : Le (HM nE p0 p1 p2 p3) (ES p0 p1 p2 p3) := by
  unfold HM ES
  repeat' with_reducible (first | refine Le.orR' ?_ ?_ | refine Le.bind' ?_ ?_ | refine Le.ite' ?_ ?_ | refine Le.loop' ?_ | refine Le.altS' ?_ ?_ | apply J8 | exact Le.rfl' _ | (refine Le.pi2 ?_; intro _) | intro _)
def FZ (nE : Nat) (p0 : Int × (List (Int × Int × Int × Int × Int × Int)) × (List (Int × Int))) (p1 : List (List Int)) (x2 : Int) (x3 : List Int) : Int → Option (Int ⊕ (Unit ⊕ (Int ⊕ (Unit ⊕ Bool))))
  | x4 => (if x4 < (x3.length : Int) then (HM nE p0 p1 x2 x4).bind fun x5 => (if x5.2 ≠ 0 then some (.inr (.inr (.inr (.inr false)))) else some (.inl (A7 (x4 + 1)))) else some (.inr (.inl ())))
theorem J5 (nE : Nat) (p0 : Int × (List (Int × Int × Int × Int × Int × Int)) × (List (Int × Int))) (p1 : List (List Int)) (x2 : Int) (x3 : List Int) : ∀ s, Le (FZ nE p0 p1 x2 x3 s) (C1 p0 p1 x2 x3 s) := by
  intro x4
  unfold FZ C1
  repeat' with_reducible (first | refine Le.orR' ?_ ?_ | refine Le.bind' ?_ ?_ | refine Le.ite' ?_ ?_ | refine Le.loop' ?_ | refine Le.altS' ?_ ?_ | apply LR | exact Le.rfl' _ | (refine Le.pi2 ?_; intro _) | intro _)
def FY (nE : Nat) (p0 : Int × (List (Int × Int × Int × Int × Int × Int)) × (List (Int × Int))) (p1 : List (List Int)) : Int → Option (Int ⊕ (Unit ⊕ Bool))
  | x2 => (if x2 < (p1.length : Int) then EZ ((ix p1 x2).bind fun x3 => Cr nE (FZ nE p0 p1 x2 x3) 0) fun _ => some (.inl (A7 (x2 + 1))) else some (.inr (.inl ())))
theorem JX (nE : Nat) (p0 : Int × (List (Int × Int × Int × Int × Int × Int)) × (List (Int × Int))) (p1 : List (List Int)) : ∀ s, Le (FY nE p0 p1 s) (Dv p0 p1 s) := by
  intro x2
  unfold FY Dv
  repeat' with_reducible (first | refine Le.orR' ?_ ?_ | refine Le.bind' ?_ ?_ | refine Le.ite' ?_ ?_ | refine Le.loop' ?_ | refine Le.altS' ?_ ?_ | apply J5 | exact Le.rfl' _ | (refine Le.pi2 ?_; intro _) | intro _)
def Gb (nE : Nat) (p0 : Int × (List (Int × Int × Int × Int × Int × Int)) × (List (Int × Int))) (p1 : List (List Int)) : Option Bool := (GP nE p0 p1).bind fun x1 => (if (!x1) = true then some false else EZ (Cr nE (FY nE p0 p1) 0) fun _ => some true)
theorem LJ (nE : Nat) (p0 : Int × (List (Int × Int × Int × Int × Int × Int)) × (List (Int × Int))) (p1 : List (List Int)) : Le (Gb nE p0 p1) (DT p0 p1) := by
  unfold Gb DT
  repeat' with_reducible (first | refine Le.orR' ?_ ?_ | refine Le.bind' ?_ ?_ | refine Le.ite' ?_ ?_ | refine Le.loop' ?_ | refine Le.altS' ?_ ?_ | apply Ly | apply JX | exact Le.rfl' _ | (refine Le.pi2 ?_; intro _) | intro _)
def Dd (nE : Nat) (p0 : List Int) (p1 : Int) : Int → Option (Int ⊕ (Unit ⊕ Int))
  | x1 => (if x1 < (p0.length : Int) then (ix p0 x1).bind fun x2 => (if p1 = x2 then some (.inr (.inr x1)) else some (.inl (A7 (x1 + 1)))) else some (.inr (.inl ())))
theorem GA (nE : Nat) (p0 : List Int) (p1 : Int) : ∀ s, Le (Dd nE p0 p1 s) (BC p0 p1 s) := by
  intro x1
  unfold Dd BC
  repeat' with_reducible (first | refine Le.orR' ?_ ?_ | refine Le.bind' ?_ ?_ | refine Le.ite' ?_ ?_ | refine Le.loop' ?_ | refine Le.altS' ?_ ?_ | exact Le.rfl' _ | (refine Le.pi2 ?_; intro _) | intro _)
def DP (nE : Nat) (p0 : List Int) (p1 : Int) : Option Int := EZ (Cr nE (Dd nE p0 p1) 0) fun _ => some (-1)
theorem Hy (nE : Nat) (p0 : List Int) (p1 : Int) : Le (DP nE p0 p1) (Cn p0 p1) := by
  unfold DP Cn
  repeat' with_reducible (first | refine Le.orR' ?_ ?_ | refine Le.bind' ?_ ?_ | refine Le.ite' ?_ ?_ | refine Le.loop' ?_ | refine Le.altS' ?_ ?_ | apply GA | exact Le.rfl' _ | (refine Le.pi2 ?_; intro _) | intro _)
def Dk (nE : Nat) (p0 : List Int) (p1 : Int) : Option Bool := (DP nE p0 p1).bind fun x1 => some (decide (0 ≤ x1))
theorem Gh (nE : Nat) (p0 : List Int) (p1 : Int) : Le (Dk nE p0 p1) (BB p0 p1) := by
  unfold Dk BB
  repeat' with_reducible (first | refine Le.orR' ?_ ?_ | refine Le.bind' ?_ ?_ | refine Le.ite' ?_ ?_ | refine Le.loop' ?_ | refine Le.altS' ?_ ?_ | apply Hy | exact Le.rfl' _ | (refine Le.pi2 ?_; intro _) | intro _)
def Ew (nE : Nat) (p0 : Int × Int × List Int) (p1 : Int × Int × Int × Int) : Option Bool := (if p1.2.2.2 = p0.1 then (Dk nE p0.2.2 p1.1).bind fun x2 => some x2 else some false).bind fun x1 => some x1
theorem GL (nE : Nat) (p0 : Int × Int × List Int) (p1 : Int × Int × Int × Int) : Le (Ew nE p0 p1) (Cu p0 p1) := by
  unfold Ew Cu
  repeat' with_reducible (first | refine Le.orR' ?_ ?_ | refine Le.bind' ?_ ?_ | refine Le.ite' ?_ ?_ | refine Le.loop' ?_ | refine Le.altS' ?_ ?_ | apply Gh | exact Le.rfl' _ | (refine Le.pi2 ?_; intro _) | intro _)
def C0 (nE : Nat) (p0 : Int × Int × List Int) (p1 : Int × Int × Int × Int) : Option Bool := (Ew nE p0 p1).bind fun x1 => some x1
theorem FV (nE : Nat) (p0 : Int × Int × List Int) (p1 : Int × Int × Int × Int) : Le (C0 nE p0 p1) (BN p0 p1) := by
  unfold C0 BN
  repeat' with_reducible (first | refine Le.orR' ?_ ?_ | refine Le.bind' ?_ ?_ | refine Le.ite' ?_ ?_ | refine Le.loop' ?_ | refine Le.altS' ?_ ?_ | apply GL | exact Le.rfl' _ | (refine Le.pi2 ?_; intro _) | intro _)
def BK (nE : Nat) (p0 : List (Int × Int × List Int)) (p1c0 : Int × Int × Int × Int) : Int → Option (Int ⊕ (Unit ⊕ Int))
  | x1 => (if x1 < (p0.length : Int) then (ix p0 x1).bind fun x2 => (C0 nE x2 p1c0).bind fun x3 => (if x3 = true then some (.inr (.inr x1)) else some (.inl (A7 (x1 + 1)))) else some (.inr (.inl ())))
theorem DF (nE : Nat) (p0 : List (Int × Int × List Int)) (p1c0 : Int × Int × Int × Int) : ∀ s, Le (BK nE p0 p1c0 s) (Az p0 p1c0 s) := by
  intro x1
  unfold BK Az
  repeat' with_reducible (first | refine Le.orR' ?_ ?_ | refine Le.bind' ?_ ?_ | refine Le.ite' ?_ ?_ | refine Le.loop' ?_ | refine Le.altS' ?_ ?_ | apply FV | exact Le.rfl' _ | (refine Le.pi2 ?_; intro _) | intro _)
def BV (nE : Nat) (p0 : List (Int × Int × List Int)) (p1c0 : Int × Int × Int × Int) : Option Int := EZ (Cr nE (BK nE p0 p1c0) 0) fun _ => some (-1)
theorem D0 (nE : Nat) (p0 : List (Int × Int × List Int)) (p1c0 : Int × Int × Int × Int) : Le (BV nE p0 p1c0) (AQ p0 p1c0) := by
  unfold BV AQ
  repeat' with_reducible (first | refine Le.orR' ?_ ?_ | refine Le.bind' ?_ ?_ | refine Le.ite' ?_ ?_ | refine Le.loop' ?_ | refine Le.altS' ?_ ?_ | apply DF | exact Le.rfl' _ | (refine Le.pi2 ?_; intro _) | intro _)
def BJ (nE : Nat) (p0 : List (Int × Int × List Int)) (p1c0 : Int × Int × Int × Int) : Option Bool := (BV nE p0 p1c0).bind fun x1 => some (decide (0 ≤ x1))
theorem DB (nE : Nat) (p0 : List (Int × Int × List Int)) (p1c0 : Int × Int × Int × Int) : Le (BJ nE p0 p1c0) (AK p0 p1c0) := by
  unfold BJ AK
  repeat' with_reducible (first | refine Le.orR' ?_ ?_ | refine Le.bind' ?_ ?_ | refine Le.ite' ?_ ?_ | refine Le.loop' ?_ | refine Le.altS' ?_ ?_ | apply D0 | exact Le.rfl' _ | (refine Le.pi2 ?_; intro _) | intro _)
def CB (nE : Nat) (p0 : (Int × (List (Int × Int × Int × Int × Int × Int)) × (List (Int × Int))) × List (List Int) × List (List Int) × ((List (Int × Int × Int × Int)) × (List (Int × Int × List Int)) × Int × Int × Int × Int)) (p1 : Int × Int × Int × Int) : Option Bool := (BJ nE p0.2.2.2.2.1 p1).bind fun x1 => some x1
theorem Eb (nE : Nat) (p0 : (Int × (List (Int × Int × Int × Int × Int × Int)) × (List (Int × Int))) × List (List Int) × List (List Int) × ((List (Int × Int × Int × Int)) × (List (Int × Int × List Int)) × Int × Int × Int × Int)) (p1 : Int × Int × Int × Int) : Le (CB nE p0 p1) (Bg p0 p1) := by
  unfold CB Bg
  repeat' with_reducible (first | refine Le.orR' ?_ ?_ | refine Le.bind' ?_ ?_ | refine Le.ite' ?_ ?_ | refine Le.loop' ?_ | refine Le.altS' ?_ ?_ | apply DB | exact Le.rfl' _ | (refine Le.pi2 ?_; intro _) | intro _)
def Dh (nE : Nat) (p0 : (Int × (List (Int × Int × Int × Int × Int × Int)) × (List (Int × Int))) × List (List Int) × List (List Int) × ((List (Int × Int × Int × Int)) × (List (Int × Int × List Int)) × Int × Int × Int × Int)) (p1 : Int) (p2 : Int) (p3 : Int) : (Int × Int) → Option ((Int × Int) ⊕ Int)
  | (x2, x3) => (if x3 < (p0.2.2.2.1.length : Int) then ((ix p0.2.2.2.1 x3).bind fun x5 => (if x5.1 = p1 then (if x5.2.1 = p2 then (if x5.2.2.1 = p3 then (CB nE p0 x5).bind fun x7 => some x7 else some false) else some false) else some false).bind fun x6 => (if x6 = true then some (A7 (x2 + 1)) else some x2)).bind fun x4 => some (.inl (x4, A7 (x3 + 1))) else some (.inr x2))
theorem GC (nE : Nat) (p0 : (Int × (List (Int × Int × Int × Int × Int × Int)) × (List (Int × Int))) × List (List Int) × List (List Int) × ((List (Int × Int × Int × Int)) × (List (Int × Int × List Int)) × Int × Int × Int × Int)) (p1 : Int) (p2 : Int) (p3 : Int) : ∀ s, Le (Dh nE p0 p1 p2 p3 s) (BG p0 p1 p2 p3 s) := by
  rintro ⟨x2, x3⟩
  unfold Dh BG
  repeat' with_reducible (first | refine Le.orR' ?_ ?_ | refine Le.bind' ?_ ?_ | refine Le.ite' ?_ ?_ | refine Le.loop' ?_ | refine Le.altS' ?_ ?_ | apply Eb | exact Le.rfl' _ | (refine Le.pi2 ?_; intro _) | intro _)
def DU (nE : Nat) (p0 : (Int × (List (Int × Int × Int × Int × Int × Int)) × (List (Int × Int))) × List (List Int) × List (List Int) × ((List (Int × Int × Int × Int)) × (List (Int × Int × List Int)) × Int × Int × Int × Int)) (p1 : Int) (p2 : Int) (p3 : Int) : Option Int := (Cr nE (Dh nE p0 p1 p2 p3) (0, 0)).bind fun x1 => some x1
theorem Hw (nE : Nat) (p0 : (Int × (List (Int × Int × Int × Int × Int × Int)) × (List (Int × Int))) × List (List Int) × List (List Int) × ((List (Int × Int × Int × Int)) × (List (Int × Int × List Int)) × Int × Int × Int × Int)) (p1 : Int) (p2 : Int) (p3 : Int) : Le (DU nE p0 p1 p2 p3) (A5 p0 p1 p2 p3) := by
  unfold DU A5
  repeat' with_reducible (first | refine Le.orR' ?_ ?_ | refine Le.bind' ?_ ?_ | refine Le.ite' ?_ ?_ | refine Le.loop' ?_ | refine Le.altS' ?_ ?_ | apply GC | exact Le.rfl' _ | (refine Le.pi2 ?_; intro _) | intro _)
def Dj (nE : Nat) (p0 : (Int × (List (Int × Int × Int × Int × Int × Int)) × (List (Int × Int))) × List (List Int) × List (List Int) × ((List (Int × Int × Int × Int)) × (List (Int × Int × List Int)) × Int × Int × Int × Int)) (x3 : Int) (x5 : List Int) : ((List (Int × Int × Int)) × Int) → Option (((List (Int × Int × Int)) × Int) ⊕ (List (Int × Int × Int)))
  | (x6, x7) => (if x7 < (x5.length : Int) then ((ix x5 x7).bind fun x9 => ((ix p0.2.1 x3).bind fun x11 => (ix x11 x7).bind fun x12 => (if x9 ≠ x12 then (DU nE p0 x3 x7 x9).bind fun x13 => some (decide (x13 ≠ 1)) else some false)).bind fun x10 => (if x10 = true then (FD x6 ([(2, x3, x7)] : List (Int × Int × Int))).bind fun x14 => some x14 else some x6)).bind fun x8 => some (.inl (x8, A7 (x7 + 1))) else some (.inr x6))
theorem Gk (nE : Nat) (p0 : (Int × (List (Int × Int × Int × Int × Int × Int)) × (List (Int × Int))) × List (List Int) × List (List Int) × ((List (Int × Int × Int × Int)) × (List (Int × Int × List Int)) × Int × Int × Int × Int)) (x3 : Int) (x5 : List Int) : ∀ s, Le (Dj nE p0 x3 x5 s) (Bh p0 x3 x5 s) := by
  rintro ⟨x6, x7⟩
  unfold Dj Bh
  repeat' with_reducible (first | refine Le.orR' ?_ ?_ | refine Le.bind' ?_ ?_ | refine Le.ite' ?_ ?_ | refine Le.loop' ?_ | refine Le.altS' ?_ ?_ | apply Hw | exact Le.rfl' _ | (refine Le.pi2 ?_; intro _) | intro _)
def Df (nE : Nat) (p0 : (Int × (List (Int × Int × Int × Int × Int × Int)) × (List (Int × Int))) × List (List Int) × List (List Int) × ((List (Int × Int × Int × Int)) × (List (Int × Int × List Int)) × Int × Int × Int × Int)) : ((List (Int × Int × Int)) × Int) → Option (((List (Int × Int × Int)) × Int) ⊕ (List (Int × Int × Int)))
  | (x2, x3) => (if x3 < (p0.2.2.1.length : Int) then ((ix p0.2.2.1 x3).bind fun x5 => Cr nE (Dj nE p0 x3 x5) (x2, 0)).bind fun x4 => some (.inl (x4, A7 (x3 + 1))) else some (.inr x2))
theorem Gy (nE : Nat) (p0 : (Int × (List (Int × Int × Int × Int × Int × Int)) × (List (Int × Int))) × List (List Int) × List (List Int) × ((List (Int × Int × Int × Int)) × (List (Int × Int × List Int)) × Int × Int × Int × Int)) : ∀ s, Le (Df nE p0 s) (BA p0 s) := by
  rintro ⟨x2, x3⟩
  unfold Df BA
  repeat' with_reducible (first | refine Le.orR' ?_ ?_ | refine Le.bind' ?_ ?_ | refine Le.ite' ?_ ?_ | refine Le.loop' ?_ | refine Le.altS' ?_ ?_ | apply Gk | exact Le.rfl' _ | (refine Le.pi2 ?_; intro _) | intro _)
def DR (nE : Nat) (p0 : (Int × (List (Int × Int × Int × Int × Int × Int)) × (List (Int × Int))) × List (List Int) × List (List Int) × ((List (Int × Int × Int × Int)) × (List (Int × Int × List Int)) × Int × Int × Int × Int)) : Option (List (Int × Int × Int)) := (Cr nE (Df nE p0) ([], 0)).bind fun x1 => some x1
theorem Hh (nE : Nat) (p0 : (Int × (List (Int × Int × Int × Int × Int × Int)) × (List (Int × Int))) × List (List Int) × List (List Int) × ((List (Int × Int × Int × Int)) × (List (Int × Int × List Int)) × Int × Int × Int × Int)) : Le (DR nE p0) (B7 p0) := by
  unfold DR B7
  repeat' with_reducible (first | refine Le.orR' ?_ ?_ | refine Le.bind' ?_ ?_ | refine Le.ite' ?_ ?_ | refine Le.loop' ?_ | refine Le.altS' ?_ ?_ | apply Gy | exact Le.rfl' _ | (refine Le.pi2 ?_; intro _) | intro _)
def DA (nE : Nat) (p0 : (Int × (List (Int × Int × Int × Int × Int × Int)) × (List (Int × Int))) × List (List Int) × List (List Int) × ((List (Int × Int × Int × Int)) × (List (Int × Int × List Int)) × Int × Int × Int × Int)) : ((List (Int × Int × Int)) × Int) → Option (((List (Int × Int × Int)) × Int) ⊕ (List (Int × Int × Int)))
  | (x2, x3) => (if x3 < (p0.2.2.2.1.length : Int) then ((ix p0.2.2.2.1 x3).bind fun x5 => (if (!(AU p0 x5)) = true then some true else (ix p0.2.2.1 x5.1).bind fun x7 => (ix x7 x5.2.1).bind fun x8 => (if x5.2.2.1 ≠ x8 then some true else (ix p0.2.1 x5.1).bind fun x9 => (ix x9 x5.2.1).bind fun x10 => (if x5.2.2.1 = x10 then some true else (CB nE p0 x5).bind fun x11 => some (!x11)))).bind fun x6 => (if x6 = true then (FD x2 ([(3, x3, x5.2.1)] : List (Int × Int × Int))).bind fun x12 => some x12 else some x2)).bind fun x4 => some (.inl (x4, A7 (x3 + 1))) else some (.inr x2))
theorem GU (nE : Nat) (p0 : (Int × (List (Int × Int × Int × Int × Int × Int)) × (List (Int × Int))) × List (List Int) × List (List Int) × ((List (Int × Int × Int × Int)) × (List (Int × Int × List Int)) × Int × Int × Int × Int)) : ∀ s, Le (DA nE p0 s) (BU p0 s) := by
  rintro ⟨x2, x3⟩
  unfold DA BU
  repeat' with_reducible (first | refine Le.orR' ?_ ?_ | refine Le.bind' ?_ ?_ | refine Le.ite' ?_ ?_ | refine Le.loop' ?_ | refine Le.altS' ?_ ?_ | apply Eb | exact Le.rfl' _ | (refine Le.pi2 ?_; intro _) | intro _)
def Ed (nE : Nat) (p0 : (Int × (List (Int × Int × Int × Int × Int × Int)) × (List (Int × Int))) × List (List Int) × List (List Int) × ((List (Int × Int × Int × Int)) × (List (Int × Int × List Int)) × Int × Int × Int × Int)) : Option (List (Int × Int × Int)) := (Cr nE (DA nE p0) ([], 0)).bind fun x1 => some x1
theorem H3 (nE : Nat) (p0 : (Int × (List (Int × Int × Int × Int × Int × Int)) × (List (Int × Int))) × List (List Int) × List (List Int) × ((List (Int × Int × Int × Int)) × (List (Int × Int × List Int)) × Int × Int × Int × Int)) : Le (Ed nE p0) (Cg p0) := by
  unfold Ed Cg
  repeat' with_reducible (first | refine Le.orR' ?_ ?_ | refine Le.bind' ?_ ?_ | refine Le.ite' ?_ ?_ | refine Le.loop' ?_ | refine Le.altS' ?_ ?_ | apply GU | exact Le.rfl' _ | (refine Le.pi2 ?_; intro _) | intro _)
def E1 (nE : Nat) (p0 : Int × (List (Int × Int × Int × Int × Int × Int)) × (List (Int × Int))) : (Int × Int) → Option ((Int × Int) ⊕ Int)
  | (x2, x3) => (if x3 < (p0.2.1.length : Int) then (ix p0.2.1 x3).bind fun x4 => some (.inl (max x2 x4.2.2.2.2.2, A7 (x3 + 1))) else some (.inr x2))
theorem I3 (nE : Nat) (p0 : Int × (List (Int × Int × Int × Int × Int × Int)) × (List (Int × Int))) : ∀ s, Le (E1 nE p0 s) (Cy p0 s) := by
  rintro ⟨x2, x3⟩
  unfold E1 Cy
  repeat' with_reducible (first | refine Le.orR' ?_ ?_ | refine Le.bind' ?_ ?_ | refine Le.ite' ?_ ?_ | refine Le.loop' ?_ | refine Le.altS' ?_ ?_ | exact Le.rfl' _ | (refine Le.pi2 ?_; intro _) | intro _)
def Gv (nE : Nat) (p0 : Int × (List (Int × Int × Int × Int × Int × Int)) × (List (Int × Int))) : Option Int := (Cr nE (E1 nE p0) (0, 0)).bind fun x1 => some x1
theorem KE (nE : Nat) (p0 : Int × (List (Int × Int × Int × Int × Int × Int)) × (List (Int × Int))) : Le (Gv nE p0) (Dl p0) := by
  unfold Gv Dl
  repeat' with_reducible (first | refine Le.orR' ?_ ?_ | refine Le.bind' ?_ ?_ | refine Le.ite' ?_ ?_ | refine Le.loop' ?_ | refine Le.altS' ?_ ?_ | apply I3 | exact Le.rfl' _ | (refine Le.pi2 ?_; intro _) | intro _)
def IB (nE : Nat) (p0 : Int × (List (Int × Int × Int × Int × Int × Int)) × (List (Int × Int))) : Option Int := (Gv nE p0).bind fun x1 => some (A7 (p0.1 * x1))
theorem M3 (nE : Nat) (p0 : Int × (List (Int × Int × Int × Int × Int × Int)) × (List (Int × Int))) : Le (IB nE p0) (FB p0) := by
  unfold IB FB
  repeat' with_reducible (first | refine Le.orR' ?_ ?_ | refine Le.bind' ?_ ?_ | refine Le.ite' ?_ ?_ | refine Le.loop' ?_ | refine Le.altS' ?_ ?_ | apply KE | exact Le.rfl' _ | (refine Le.pi2 ?_; intro _) | intro _)
def Jc (nE : Nat) (p0 : Int × (List (Int × Int × Int × Int × Int × Int)) × (List (Int × Int))) (p1 : Int) : Option Int := (IB nE p0).bind fun x1 => some (A7 ((A7 ((A7 (2 * p1)) + x1)) + 1))
theorem N1 (nE : Nat) (p0 : Int × (List (Int × Int × Int × Int × Int × Int)) × (List (Int × Int))) (p1 : Int) : Le (Jc nE p0 p1) (FL p0 p1) := by
  unfold Jc FL
  repeat' with_reducible (first | refine Le.orR' ?_ ?_ | refine Le.bind' ?_ ?_ | refine Le.ite' ?_ ?_ | refine Le.loop' ?_ | refine Le.altS' ?_ ?_ | apply M3 | exact Le.rfl' _ | (refine Le.pi2 ?_; intro _) | intro _)
def DE (nE : Nat) (p0 : (Int × (List (Int × Int × Int × Int × Int × Int)) × (List (Int × Int))) × List (List Int) × List (List Int) × ((List (Int × Int × Int × Int)) × (List (Int × Int × List Int)) × Int × Int × Int × Int)) (x1 : Int) : ((List (Int × Int × Int)) × Int) → Option (((List (Int × Int × Int)) × Int) ⊕ (List (Int × Int × Int)))
  | (x3, x4) => (if x4 < (p0.2.2.2.2.1.length : Int) then ((ix p0.2.2.2.2.1 x4).bind fun x6 => (ix p0.2.2.2.2.1 (A7 (x4 - 1))).bind fun x7 => (if (A7 ((Bc x6.2.1) - (Bc x7.2.1))) < x1 then (FD x3 ([(4, x4, 0)] : List (Int × Int × Int))).bind fun x8 => some x8 else some x3)).bind fun x5 => some (.inl (x5, A7 (x4 + 1))) else some (.inr x3))
theorem Hc (nE : Nat) (p0 : (Int × (List (Int × Int × Int × Int × Int × Int)) × (List (Int × Int))) × List (List Int) × List (List Int) × ((List (Int × Int × Int × Int)) × (List (Int × Int × List Int)) × Int × Int × Int × Int)) (x1 : Int) : ∀ s, Le (DE nE p0 x1 s) (BX p0 x1 s) := by
  rintro ⟨x3, x4⟩
  unfold DE BX
  repeat' with_reducible (first | refine Le.orR' ?_ ?_ | refine Le.bind' ?_ ?_ | refine Le.ite' ?_ ?_ | refine Le.loop' ?_ | refine Le.altS' ?_ ?_ | exact Le.rfl' _ | (refine Le.pi2 ?_; intro _) | intro _)
def Ep (nE : Nat) (p0 : (Int × (List (Int × Int × Int × Int × Int × Int)) × (List (Int × Int))) × List (List Int) × List (List Int) × ((List (Int × Int × Int × Int)) × (List (Int × Int × List Int)) × Int × Int × Int × Int)) : Option (List (Int × Int × Int)) := (Jc nE p0.1 (min (max p0.2.2.2.2.2.1 0) 1048576)).bind fun x1 => (Cr nE (DE nE p0 x1) ([], 1)).bind fun x2 => some x2
theorem H1 (nE : Nat) (p0 : (Int × (List (Int × Int × Int × Int × Int × Int)) × (List (Int × Int))) × List (List Int) × List (List Int) × ((List (Int × Int × Int × Int)) × (List (Int × Int × List Int)) × Int × Int × Int × Int)) : Le (Ep nE p0) (Ck p0) := by
  unfold Ep Ck
  repeat' with_reducible (first | refine Le.orR' ?_ ?_ | refine Le.bind' ?_ ?_ | refine Le.ite' ?_ ?_ | refine Le.loop' ?_ | refine Le.altS' ?_ ?_ | apply N1 | apply Hc | exact Le.rfl' _ | (refine Le.pi2 ?_; intro _) | intro _)
def DN (nE : Nat) (p0 : List Int) : Option (List Int) := (FD ([] : List Int) p0).bind fun x1 => some x1
theorem Hq (nE : Nat) (p0 : List Int) : Le (DN nE p0) (B8 p0) := by
  unfold DN B8
  repeat' with_reducible (first | refine Le.orR' ?_ ?_ | refine Le.bind' ?_ ?_ | refine Le.ite' ?_ ?_ | refine Le.loop' ?_ | refine Le.altS' ?_ ?_ | exact Le.rfl' _ | (refine Le.pi2 ?_; intro _) | intro _)
def E4 (nE : Nat) (p0 : List (List Int)) : ((List (Nat × List Int)) × Int) → Option (((List (Nat × List Int)) × Int) ⊕ (List (Nat × List Int)))
  | (x2, x3) => (if x3 < (p0.length : Int) then (ix p0 x3).bind fun x4 => (DN nE x4).bind fun x5 => (FD x2 ([(2, x5)] : List (Nat × List Int))).bind fun x6 => some (.inl (x6, A7 (x3 + 1))) else some (.inr x2))
theorem I4 (nE : Nat) (p0 : List (List Int)) : ∀ s, Le (E4 nE p0 s) (CT p0 s) := by
  rintro ⟨x2, x3⟩
  unfold E4 CT
  repeat' with_reducible (first | refine Le.orR' ?_ ?_ | refine Le.bind' ?_ ?_ | refine Le.ite' ?_ ?_ | refine Le.loop' ?_ | refine Le.altS' ?_ ?_ | apply Hq | exact Le.rfl' _ | (refine Le.pi2 ?_; intro _) | intro _)
def Gi (nE : Nat) (p0 : List (List Int)) : Option (List (Nat × List Int)) := (Cr nE (E4 nE p0) ([], 0)).bind fun x1 => some x1
theorem KB (nE : Nat) (p0 : List (List Int)) : Le (Gi nE p0) (CZ p0) := by
  unfold Gi CZ
  repeat' with_reducible (first | refine Le.orR' ?_ ?_ | refine Le.bind' ?_ ?_ | refine Le.ite' ?_ ?_ | refine Le.loop' ?_ | refine Le.altS' ?_ ?_ | apply I4 | exact Le.rfl' _ | (refine Le.pi2 ?_; intro _) | intro _)
def E9 (nE : Nat) (x4 : Int) (x6 : List Int) : ((List (Nat × List (Nat × List Int))) × Int) → Option (((List (Nat × List (Nat × List Int))) × Int) ⊕ (List (Nat × List (Nat × List Int))))
  | (x7, x8) => (if x8 < (x6.length : Int) then (ix x6 x8).bind fun x9 => (ix x7 x4).bind fun x10 => (Il x10.1).bind fun x11 => (FD x10.2 ([(2, ([x9] : List Int))] : List (Nat × List Int))).bind fun x12 => (ix (Ag x7 x4 (0, [])) x4).bind fun x13 => some (.inl ((Ag (Ag x7 x4 (0, [])) x4 (2, x12)), A7 (x8 + 1))) else some (.inr x7))
theorem Jd (nE : Nat) (x4 : Int) (x6 : List Int) : ∀ s, Le (E9 nE x4 x6 s) (Cz x4 x6 s) := by
  rintro ⟨x7, x8⟩
  unfold E9 Cz
  repeat' with_reducible (first | refine Le.orR' ?_ ?_ | refine Le.bind' ?_ ?_ | refine Le.ite' ?_ ?_ | refine Le.loop' ?_ | refine Le.altS' ?_ ?_ | exact Le.rfl' _ | (refine Le.pi2 ?_; intro _) | intro _)
def E3 (nE : Nat) (p0 : List (List Int)) : ((List (Nat × List (Nat × List Int))) × Int) → Option (((List (Nat × List (Nat × List Int))) × Int) ⊕ (List (Nat × List (Nat × List Int))))
  | (x3, x4) => (if x4 < (p0.length : Int) then ((ix p0 x4).bind fun x6 => Cr nE (E9 nE x4 x6) (x3, 0)).bind fun x5 => some (.inl (x5, A7 (x4 + 1))) else some (.inr x3))
theorem I0 (nE : Nat) (p0 : List (List Int)) : ∀ s, Le (E3 nE p0 s) (CS p0 s) := by
  rintro ⟨x3, x4⟩
  unfold E3 CS
  repeat' with_reducible (first | refine Le.orR' ?_ ?_ | refine Le.bind' ?_ ?_ | refine Le.ite' ?_ ?_ | refine Le.loop' ?_ | refine Le.altS' ?_ ?_ | apply Jd | exact Le.rfl' _ | (refine Le.pi2 ?_; intro _) | intro _)
def Gw (nE : Nat) (p0 : List (List Int)) : Option (List (Nat × List (Nat × List Int))) := (mk (p0.length : Int) ((2, []) : Nat × List (Nat × List Int))).bind fun x1 => (Cr nE (E3 nE p0) (x1, 0)).bind fun x2 => some x2
theorem KG (nE : Nat) (p0 : List (List Int)) : Le (Gw nE p0) (DO p0) := by
  unfold Gw DO
  repeat' with_reducible (first | refine Le.orR' ?_ ?_ | refine Le.bind' ?_ ?_ | refine Le.ite' ?_ ?_ | refine Le.loop' ?_ | refine Le.altS' ?_ ?_ | apply I0 | exact Le.rfl' _ | (refine Le.pi2 ?_; intro _) | intro _)
def Fu (nE : Nat) (p0 : Int) (p1 : List (Int × Int)) : Int → Option (Int ⊕ (Unit ⊕ Bool))
  | x1 => (if x1 < (p1.length : Int) then (ix p1 x1).bind fun x2 => (if (decide (x2.1 < 0) || (decide (p0 ≤ x2.1) || (decide (x2.2 < 0) || decide (p0 ≤ x2.2)))) = true then some (.inr (.inr false)) else some (.inl (A7 (x1 + 1)))) else some (.inr (.inl ())))
theorem Jv (nE : Nat) (p0 : Int) (p1 : List (Int × Int)) : ∀ s, Le (Fu nE p0 p1 s) (DD p0 p1 s) := by
  intro x1
  unfold Fu DD
  repeat' with_reducible (first | refine Le.orR' ?_ ?_ | refine Le.bind' ?_ ?_ | refine Le.ite' ?_ ?_ | refine Le.loop' ?_ | refine Le.altS' ?_ ?_ | exact Le.rfl' _ | (refine Le.pi2 ?_; intro _) | intro _)
def Hf (nE : Nat) (p0 : Int) (p1 : List (Int × Int)) : Option Bool := (if (decide (p0 < 0) || decide (16 < p0)) = true then some false else EZ (Cr nE (Fu nE p0 p1) 0) fun _ => some true)
theorem Ld (nE : Nat) (p0 : Int) (p1 : List (Int × Int)) : Le (Hf nE p0 p1) (En p0 p1) := by
  unfold Hf En
  repeat' with_reducible (first | refine Le.orR' ?_ ?_ | refine Le.bind' ?_ ?_ | refine Le.ite' ?_ ?_ | refine Le.loop' ?_ | refine Le.altS' ?_ ?_ | apply Jv | exact Le.rfl' _ | (refine Le.pi2 ?_; intro _) | intro _)
def DH (nE : Nat) (p0 : Int) (p1 : Int) : Option Int := (SD (PB .u32 1 p1) p1).bind fun x1 => some (PV .u32 p0 x1)
theorem E7 (nE : Nat) (p0 : Int) (p1 : Int) : Le (DH nE p0 p1) (BQ p0 p1) := by
  unfold DH BQ
  repeat' with_reducible (first | refine Le.orR' ?_ ?_ | refine Le.bind' ?_ ?_ | refine Le.ite' ?_ ?_ | refine Le.loop' ?_ | refine Le.altS' ?_ ?_ | exact Le.rfl' _ | (refine Le.pi2 ?_; intro _) | intro _)
def D7 (nE : Nat) (p0 : List (Int × Int)) : (Int × Int × Int × Int × Int × Int × Int × Int × Int × Int × Int × Int × Int × Int × Int × Int × Int) → Option ((Int × Int × Int × Int × Int × Int × Int × Int × Int × Int × Int × Int × Int × Int × Int × Int × Int) ⊕ (Int × Int × Int × Int × Int × Int × Int × Int × Int × Int × Int × Int × Int × Int × Int × Int))
  | (x17, x18, x19, x20, x21, x22, x23, x24, x25, x26, x27, x28, x29, x30, x31, x32, x33) => (if x17 < (p0.length : Int) then (ix p0 x17).bind fun x34 => (ix ([x18, x19, x20, x21, x22, x23, x24, x25, x26, x27, x28, x29, x30, x31, x32, x33] : List Int) x34.1).bind fun x35 => (DH nE x35 x34.2).bind fun x36 => (ix ([x18, x19, x20, x21, x22, x23, x24, x25, x26, x27, x28, x29, x30, x31, x32, x33] : List Int) x34.1).bind fun x37 => some (.inl (A7 (x17 + 1), (if x34.1 = 0 then x36 else x18), (if x34.1 = 1 then x36 else x19), (if x34.1 = 2 then x36 else x20), (if x34.1 = 3 then x36 else x21), (if x34.1 = 4 then x36 else x22), (if x34.1 = 5 then x36 else x23), (if x34.1 = 6 then x36 else x24), (if x34.1 = 7 then x36 else x25), (if x34.1 = 8 then x36 else x26), (if x34.1 = 9 then x36 else x27), (if x34.1 = 10 then x36 else x28), (if x34.1 = 11 then x36 else x29), (if x34.1 = 12 then x36 else x30), (if x34.1 = 13 then x36 else x31), (if x34.1 = 14 then x36 else x32), (if x34.1 = 15 then x36 else x33))) else some (.inr (x18, x19, x20, x21, x22, x23, x24, x25, x26, x27, x28, x29, x30, x31, x32, x33)))
theorem HN (nE : Nat) (p0 : List (Int × Int)) : ∀ s, Le (D7 nE p0 s) (Bz p0 s) := by
  rintro ⟨x17, x18, x19, x20, x21, x22, x23, x24, x25, x26, x27, x28, x29, x30, x31, x32, x33⟩
  unfold D7 Bz
  repeat' with_reducible (first | refine Le.orR' ?_ ?_ | refine Le.bind' ?_ ?_ | refine Le.ite' ?_ ?_ | refine Le.loop' ?_ | refine Le.altS' ?_ ?_ | apply E7 | exact Le.rfl' _ | (refine Le.pi2 ?_; intro _) | intro _)
def EK (nE : Nat) (p0 : List (Int × Int)) : Option (Int × Int × Int × Int × Int × Int × Int × Int × Int × Int × Int × Int × Int × Int × Int × Int) := (Cr nE (D7 nE p0) (0, 0, 0, 0, 0, 0, 0, 0, 0, 0, 0, 0, 0, 0, 0, 0, 0)).bind fun (x1, x2, x3, x4, x5, x6, x7, x8, x9, x10, x11, x12, x13, x14, x15, x16) => some (x1, x2, x3, x4, x5, x6, x7, x8, x9, x10, x11, x12, x13, x14, x15, x16)
theorem IR (nE : Nat) (p0 : List (Int × Int)) : Le (EK nE p0) (CD p0) := by
  unfold EK CD
  repeat' with_reducible (first | refine Le.orR' ?_ ?_ | refine Le.bind' ?_ ?_ | refine Le.ite' ?_ ?_ | refine Le.loop' ?_ | refine Le.altS' ?_ ?_ | apply HN | exact Le.rfl' _ | (refine Le.pi2 ?_; intro _) | intro _)
def DC (nE : Nat) (p0 : List (Int × Int)) : (Int × Int × Int × Int × Int × Int × Int × Int × Int × Int × Int × Int × Int × Int × Int × Int × Int) → Option ((Int × Int × Int × Int × Int × Int × Int × Int × Int × Int × Int × Int × Int × Int × Int × Int × Int) ⊕ (Int × Int × Int × Int × Int × Int × Int × Int × Int × Int × Int × Int × Int × Int × Int × Int))
  | (x17, x18, x19, x20, x21, x22, x23, x24, x25, x26, x27, x28, x29, x30, x31, x32, x33) => (if x17 < (p0.length : Int) then (ix p0 x17).bind fun x34 => (ix ([x18, x19, x20, x21, x22, x23, x24, x25, x26, x27, x28, x29, x30, x31, x32, x33] : List Int) x34.2).bind fun x35 => (DH nE x35 x34.1).bind fun x36 => (ix ([x18, x19, x20, x21, x22, x23, x24, x25, x26, x27, x28, x29, x30, x31, x32, x33] : List Int) x34.2).bind fun x37 => some (.inl (A7 (x17 + 1), (if x34.2 = 0 then x36 else x18), (if x34.2 = 1 then x36 else x19), (if x34.2 = 2 then x36 else x20), (if x34.2 = 3 then x36 else x21), (if x34.2 = 4 then x36 else x22), (if x34.2 = 5 then x36 else x23), (if x34.2 = 6 then x36 else x24), (if x34.2 = 7 then x36 else x25), (if x34.2 = 8 then x36 else x26), (if x34.2 = 9 then x36 else x27), (if x34.2 = 10 then x36 else x28), (if x34.2 = 11 then x36 else x29), (if x34.2 = 12 then x36 else x30), (if x34.2 = 13 then x36 else x31), (if x34.2 = 14 then x36 else x32), (if x34.2 = 15 then x36 else x33))) else some (.inr (x18, x19, x20, x21, x22, x23, x24, x25, x26, x27, x28, x29, x30, x31, x32, x33)))
theorem GY (nE : Nat) (p0 : List (Int × Int)) : ∀ s, Le (DC nE p0 s) (Bf p0 s) := by
  rintro ⟨x17, x18, x19, x20, x21, x22, x23, x24, x25, x26, x27, x28, x29, x30, x31, x32, x33⟩
  unfold DC Bf
  repeat' with_reducible (first | refine Le.orR' ?_ ?_ | refine Le.bind' ?_ ?_ | refine Le.ite' ?_ ?_ | refine Le.loop' ?_ | refine Le.altS' ?_ ?_ | apply E7 | exact Le.rfl' _ | (refine Le.pi2 ?_; intro _) | intro _)
def Eh (nE : Nat) (p0 : List (Int × Int)) : Option (Int × Int × Int × Int × Int × Int × Int × Int × Int × Int × Int × Int × Int × Int × Int × Int) := (Cr nE (DC nE p0) (0, 0, 0, 0, 0, 0, 0, 0, 0, 0, 0, 0, 0, 0, 0, 0, 0)).bind fun (x1, x2, x3, x4, x5, x6, x7, x8, x9, x10, x11, x12, x13, x14, x15, x16) => some (x1, x2, x3, x4, x5, x6, x7, x8, x9, x10, x11, x12, x13, x14, x15, x16)
theorem HX (nE : Nat) (p0 : List (Int × Int)) : Le (Eh nE p0) (Ci p0) := by
  unfold Eh Ci
  repeat' with_reducible (first | refine Le.orR' ?_ ?_ | refine Le.bind' ?_ ?_ | refine Le.ite' ?_ ?_ | refine Le.loop' ?_ | refine Le.altS' ?_ ?_ | apply GY | exact Le.rfl' _ | (refine Le.pi2 ?_; intro _) | intro _)
def DX (nE : Nat) (p0 : Int) (p1 : Int) : Option Bool := (SD (Pz .u32 p0 p1) p1).bind fun x1 => some (decide ((PD .u32 x1 1) = 1))
theorem Hl (nE : Nat) (p0 : Int) (p1 : Int) : Le (DX nE p0 p1) (CH p0 p1) := by
  unfold DX CH
  repeat' with_reducible (first | refine Le.orR' ?_ ?_ | refine Le.bind' ?_ ?_ | refine Le.ite' ?_ ?_ | refine Le.loop' ?_ | refine Le.altS' ?_ ?_ | exact Le.rfl' _ | (refine Le.pi2 ?_; intro _) | intro _)
def Ee (nE : Nat)  : (Int × Int × Int × Int × Int × Int × Int × Int × Int × Int × Int × Int × Int × Int × Int × Int × Int) → Option ((Int × Int × Int × Int × Int × Int × Int × Int × Int × Int × Int × Int × Int × Int × Int × Int × Int) ⊕ (Int × Int × Int × Int × Int × Int × Int × Int × Int × Int × Int × Int × Int × Int × Int × Int))
  | (x17, x18, x19, x20, x21, x22, x23, x24, x25, x26, x27, x28, x29, x30, x31, x32, x33) => (if x17 < 16 then (ix ([x18, x19, x20, x21, x22, x23, x24, x25, x26, x27, x28, x29, x30, x31, x32, x33] : List Int) x17).bind fun x34 => some (.inl (A7 (x17 + 1), (if x17 = 0 then (-1) else x18), (if x17 = 1 then (-1) else x19), (if x17 = 2 then (-1) else x20), (if x17 = 3 then (-1) else x21), (if x17 = 4 then (-1) else x22), (if x17 = 5 then (-1) else x23), (if x17 = 6 then (-1) else x24), (if x17 = 7 then (-1) else x25), (if x17 = 8 then (-1) else x26), (if x17 = 9 then (-1) else x27), (if x17 = 10 then (-1) else x28), (if x17 = 11 then (-1) else x29), (if x17 = 12 then (-1) else x30), (if x17 = 13 then (-1) else x31), (if x17 = 14 then (-1) else x32), (if x17 = 15 then (-1) else x33))) else some (.inr (x18, x19, x20, x21, x22, x23, x24, x25, x26, x27, x28, x29, x30, x31, x32, x33)))
theorem H2 (nE : Nat)  : ∀ s, Le (Ee nE  s) (Bu  s) := by
  rintro ⟨x17, x18, x19, x20, x21, x22, x23, x24, x25, x26, x27, x28, x29, x30, x31, x32, x33⟩
  unfold Ee Bu
  repeat' with_reducible (first | refine Le.orR' ?_ ?_ | refine Le.bind' ?_ ?_ | refine Le.ite' ?_ ?_ | refine Le.loop' ?_ | refine Le.altS' ?_ ?_ | exact Le.rfl' _ | (refine Le.pi2 ?_; intro _) | intro _)
def Ef (nE : Nat) (p0 : Int) (p1 : Int × Int × Int × Int × Int × Int × Int × Int × Int × Int × Int × Int × Int × Int × Int × Int) (x54 : Int) (x55 : Int) (x56 : Int) : (Int × Int × Int × Int × Int × Int × Int × Int × Int × Int × Int × Int × Int × Int × Int × Int × Int × Int) → Option ((Int × Int × Int × Int × Int × Int × Int × Int × Int × Int × Int × Int × Int × Int × Int × Int × Int × Int) ⊕ (Int × Int × Int × Int × Int × Int × Int × Int × Int × Int × Int × Int × Int × Int × Int × Int × Int))
  | (x107, x108, x109, x110, x111, x112, x113, x114, x115, x116, x117, x118, x119, x120, x121, x122, x123, x124) => (if x108 < p0 then (((DX nE x54 x108).bind fun x143 => (if x143 = true then (DX nE x55 x108).bind fun x144 => some (!x144) else some false)).bind fun x142 => (if x142 = true then (ix ([x109, x110, x111, x112, x113, x114, x115, x116, x117, x118, x119, x120, x121, x122, x123, x124] : List Int) x108).bind fun x145 => (ix ([p1.1, p1.2.1, p1.2.2.1, p1.2.2.2.1, p1.2.2.2.2.1, p1.2.2.2.2.2.1, p1.2.2.2.2.2.2.1, p1.2.2.2.2.2.2.2.1, p1.2.2.2.2.2.2.2.2.1, p1.2.2.2.2.2.2.2.2.2.1, p1.2.2.2.2.2.2.2.2.2.2.1, p1.2.2.2.2.2.2.2.2.2.2.2.1, p1.2.2.2.2.2.2.2.2.2.2.2.2.1, p1.2.2.2.2.2.2.2.2.2.2.2.2.2.1, p1.2.2.2.2.2.2.2.2.2.2.2.2.2.2.1, p1.2.2.2.2.2.2.2.2.2.2.2.2.2.2.2] : List Int) x108).bind fun x146 => some (PV .u32 x107 x146, (if x108 = 0 then A7 (x56 + 1) else x109), (if x108 = 1 then A7 (x56 + 1) else x110), (if x108 = 2 then A7 (x56 + 1) else x111), (if x108 = 3 then A7 (x56 + 1) else x112), (if x108 = 4 then A7 (x56 + 1) else x113), (if x108 = 5 then A7 (x56 + 1) else x114), (if x108 = 6 then A7 (x56 + 1) else x115), (if x108 = 7 then A7 (x56 + 1) else x116), (if x108 = 8 then A7 (x56 + 1) else x117), (if x108 = 9 then A7 (x56 + 1) else x118), (if x108 = 10 then A7 (x56 + 1) else x119), (if x108 = 11 then A7 (x56 + 1) else x120), (if x108 = 12 then A7 (x56 + 1) else x121), (if x108 = 13 then A7 (x56 + 1) else x122), (if x108 = 14 then A7 (x56 + 1) else x123), (if x108 = 15 then A7 (x56 + 1) else x124)) else some (x107, x109, x110, x111, x112, x113, x114, x115, x116, x117, x118, x119, x120, x121, x122, x123, x124))).bind fun (x125, x126, x127, x128, x129, x130, x131, x132, x133, x134, x135, x136, x137, x138, x139, x140, x141) => some (.inl (x125, A7 (x108 + 1), x126, x127, x128, x129, x130, x131, x132, x133, x134, x135, x136, x137, x138, x139, x140, x141)) else some (.inr (x107, x109, x110, x111, x112, x113, x114, x115, x116, x117, x118, x119, x120, x121, x122, x123, x124)))
theorem HZ (nE : Nat) (p0 : Int) (p1 : Int × Int × Int × Int × Int × Int × Int × Int × Int × Int × Int × Int × Int × Int × Int × Int) (x54 : Int) (x55 : Int) (x56 : Int) : ∀ s, Le (Ef nE p0 p1 x54 x55 x56 s) (AZ p0 p1 x54 x55 x56 s) := by
  rintro ⟨x107, x108, x109, x110, x111, x112, x113, x114, x115, x116, x117, x118, x119, x120, x121, x122, x123, x124⟩
  unfold Ef AZ
  repeat' with_reducible (first | refine Le.orR' ?_ ?_ | refine Le.bind' ?_ ?_ | refine Le.ite' ?_ ?_ | refine Le.loop' ?_ | refine Le.altS' ?_ ?_ | apply Hl | exact Le.rfl' _ | (refine Le.pi2 ?_; intro _) | intro _)
def Ej (nE : Nat) (p0 : Int) (p1 : Int × Int × Int × Int × Int × Int × Int × Int × Int × Int × Int × Int × Int × Int × Int × Int) : (Int × Int × Int × Int × Int × Int × Int × Int × Int × Int × Int × Int × Int × Int × Int × Int × Int × Int × Int) → Option ((Int × Int × Int × Int × Int × Int × Int × Int × Int × Int × Int × Int × Int × Int × Int × Int × Int × Int × Int) ⊕ (Int × Int × Int × Int × Int × Int × Int × Int × Int × Int × Int × Int × Int × Int × Int × Int))
  | (x54, x55, x56, x57, x58, x59, x60, x61, x62, x63, x64, x65, x66, x67, x68, x69, x70, x71, x72) => (if x56 < p0 then ((Cr nE (Ef nE p0 p1 x54 x55 x56) (0, 0, x57, x58, x59, x60, x61, x62, x63, x64, x65, x66, x67, x68, x69, x70, x71, x72)).bind fun (x90, x91, x92, x93, x94, x95, x96, x97, x98, x99, x100, x101, x102, x103, x104, x105, x106) => some (x90, x91, x92, x93, x94, x95, x96, x97, x98, x99, x100, x101, x102, x103, x104, x105, x106)).bind fun (x73, x74, x75, x76, x77, x78, x79, x80, x81, x82, x83, x84, x85, x86, x87, x88, x89) => some (.inl (x73, PV .u32 x55 x54, A7 (x56 + 1), x74, x75, x76, x77, x78, x79, x80, x81, x82, x83, x84, x85, x86, x87, x88, x89)) else some (.inr (x57, x58, x59, x60, x61, x62, x63, x64, x65, x66, x67, x68, x69, x70, x71, x72)))
theorem H4 (nE : Nat) (p0 : Int) (p1 : Int × Int × Int × Int × Int × Int × Int × Int × Int × Int × Int × Int × Int × Int × Int × Int) : ∀ s, Le (Ej nE p0 p1 s) (Be p0 p1 s) := by
  rintro ⟨x54, x55, x56, x57, x58, x59, x60, x61, x62, x63, x64, x65, x66, x67, x68, x69, x70, x71, x72⟩
  unfold Ej Be
  repeat' with_reducible (first | refine Le.orR' ?_ ?_ | refine Le.bind' ?_ ?_ | refine Le.ite' ?_ ?_ | refine Le.loop' ?_ | refine Le.altS' ?_ ?_ | apply HZ | exact Le.rfl' _ | (refine Le.pi2 ?_; intro _) | intro _)
def Fb (nE : Nat) (p0 : Int) (p1 : Int × Int × Int × Int × Int × Int × Int × Int × Int × Int × Int × Int × Int × Int × Int × Int) (p2 : Int) : Option (Int × Int × Int × Int × Int × Int × Int × Int × Int × Int × Int × Int × Int × Int × Int × Int) := (Cr nE (Ee nE) (0, 0, 0, 0, 0, 0, 0, 0, 0, 0, 0, 0, 0, 0, 0, 0, 0)).bind fun (x1, x2, x3, x4, x5, x6, x7, x8, x9, x10, x11, x12, x13, x14, x15, x16) => (ix ([x1, x2, x3, x4, x5, x6, x7, x8, x9, x10, x11, x12, x13, x14, x15, x16] : List Int) p2).bind fun x35 => (ix ([p1.1, p1.2.1, p1.2.2.1, p1.2.2.2.1, p1.2.2.2.2.1, p1.2.2.2.2.2.1, p1.2.2.2.2.2.2.1, p1.2.2.2.2.2.2.2.1, p1.2.2.2.2.2.2.2.2.1, p1.2.2.2.2.2.2.2.2.2.1, p1.2.2.2.2.2.2.2.2.2.2.1, p1.2.2.2.2.2.2.2.2.2.2.2.1, p1.2.2.2.2.2.2.2.2.2.2.2.2.1, p1.2.2.2.2.2.2.2.2.2.2.2.2.2.1, p1.2.2.2.2.2.2.2.2.2.2.2.2.2.2.1, p1.2.2.2.2.2.2.2.2.2.2.2.2.2.2.2] : List Int) p2).bind fun x36 => (DH nE 0 p2).bind fun x37 => (Cr nE (Ej nE p0 p1) (x36, x37, 0, (if p2 = 0 then 0 else x1), (if p2 = 1 then 0 else x2), (if p2 = 2 then 0 else x3), (if p2 = 3 then 0 else x4), (if p2 = 4 then 0 else x5), (if p2 = 5 then 0 else x6), (if p2 = 6 then 0 else x7), (if p2 = 7 then 0 else x8), (if p2 = 8 then 0 else x9), (if p2 = 9 then 0 else x10), (if p2 = 10 then 0 else x11), (if p2 = 11 then 0 else x12), (if p2 = 12 then 0 else x13), (if p2 = 13 then 0 else x14), (if p2 = 14 then 0 else x15), (if p2 = 15 then 0 else x16))).bind fun (x38, x39, x40, x41, x42, x43, x44, x45, x46, x47, x48, x49, x50, x51, x52, x53) => some (x38, x39, x40, x41, x42, x43, x44, x45, x46, x47, x48, x49, x50, x51, x52, x53)
theorem Jf (nE : Nat) (p0 : Int) (p1 : Int × Int × Int × Int × Int × Int × Int × Int × Int × Int × Int × Int × Int × Int × Int × Int) (p2 : Int) : Le (Fb nE p0 p1 p2) (CU p0 p1 p2) := by
  unfold Fb CU
  repeat' with_reducible (first | refine Le.orR' ?_ ?_ | refine Le.bind' ?_ ?_ | refine Le.ite' ?_ ?_ | refine Le.loop' ?_ | refine Le.altS' ?_ ?_ | apply E7 | apply H2 | apply H4 | exact Le.rfl' _ | (refine Le.pi2 ?_; intro _) | intro _)
def EP (nE : Nat) (p0 : Int) (p1 : Int) (p2 : Int × Int × Int × Int × Int × Int × Int × Int × Int × Int × Int × Int × Int × Int × Int × Int) : (Int × Int) → Option ((Int × Int) ⊕ Int)
  | (x2, x3) => (if x3 < p0 then (((DX nE p1 x3).bind fun x6 => (if x6 = true then (ix ([p2.1, p2.2.1, p2.2.2.1, p2.2.2.2.1, p2.2.2.2.2.1, p2.2.2.2.2.2.1, p2.2.2.2.2.2.2.1, p2.2.2.2.2.2.2.2.1, p2.2.2.2.2.2.2.2.2.1, p2.2.2.2.2.2.2.2.2.2.1, p2.2.2.2.2.2.2.2.2.2.2.1, p2.2.2.2.2.2.2.2.2.2.2.2.1, p2.2.2.2.2.2.2.2.2.2.2.2.2.1, p2.2.2.2.2.2.2.2.2.2.2.2.2.2.1, p2.2.2.2.2.2.2.2.2.2.2.2.2.2.2.1, p2.2.2.2.2.2.2.2.2.2.2.2.2.2.2.2] : List Int) x3).bind fun x7 => (if 0 ≤ x7 then (if x2 < 0 then some true else (ix ([p2.1, p2.2.1, p2.2.2.1, p2.2.2.2.1, p2.2.2.2.2.1, p2.2.2.2.2.2.1, p2.2.2.2.2.2.2.1, p2.2.2.2.2.2.2.2.1, p2.2.2.2.2.2.2.2.2.1, p2.2.2.2.2.2.2.2.2.2.1, p2.2.2.2.2.2.2.2.2.2.2.1, p2.2.2.2.2.2.2.2.2.2.2.2.1, p2.2.2.2.2.2.2.2.2.2.2.2.2.1, p2.2.2.2.2.2.2.2.2.2.2.2.2.2.1, p2.2.2.2.2.2.2.2.2.2.2.2.2.2.2.1, p2.2.2.2.2.2.2.2.2.2.2.2.2.2.2.2] : List Int) x3).bind fun x8 => (ix ([p2.1, p2.2.1, p2.2.2.1, p2.2.2.2.1, p2.2.2.2.2.1, p2.2.2.2.2.2.1, p2.2.2.2.2.2.2.1, p2.2.2.2.2.2.2.2.1, p2.2.2.2.2.2.2.2.2.1, p2.2.2.2.2.2.2.2.2.2.1, p2.2.2.2.2.2.2.2.2.2.2.1, p2.2.2.2.2.2.2.2.2.2.2.2.1, p2.2.2.2.2.2.2.2.2.2.2.2.2.1, p2.2.2.2.2.2.2.2.2.2.2.2.2.2.1, p2.2.2.2.2.2.2.2.2.2.2.2.2.2.2.1, p2.2.2.2.2.2.2.2.2.2.2.2.2.2.2.2] : List Int) x2).bind fun x9 => some (decide (x8 < x9))) else some false) else some false)).bind fun x5 => (if x5 = true then some x3 else some x2)).bind fun x4 => some (.inl (x4, A7 (x3 + 1))) else some (.inr x2))
theorem IQ (nE : Nat) (p0 : Int) (p1 : Int) (p2 : Int × Int × Int × Int × Int × Int × Int × Int × Int × Int × Int × Int × Int × Int × Int × Int) : ∀ s, Le (EP nE p0 p1 p2 s) (Bl p0 p1 p2 s) := by
  rintro ⟨x2, x3⟩
  unfold EP Bl
  repeat' with_reducible (first | refine Le.orR' ?_ ?_ | refine Le.bind' ?_ ?_ | refine Le.ite' ?_ ?_ | refine Le.loop' ?_ | refine Le.altS' ?_ ?_ | apply Hl | exact Le.rfl' _ | (refine Le.pi2 ?_; intro _) | intro _)
def EI (nE : Nat) (p0 : Int) (p1 : Int) (p2 : Int × Int × Int × Int × Int × Int × Int × Int × Int × Int × Int × Int × Int × Int × Int × Int) : Option Int := (Cr nE (EP nE p0 p1 p2) ((-1), 0)).bind fun x1 => some x1
theorem Hm (nE : Nat) (p0 : Int) (p1 : Int) (p2 : Int × Int × Int × Int × Int × Int × Int × Int × Int × Int × Int × Int × Int × Int × Int × Int) : Le (EI nE p0 p1 p2) (CF p0 p1 p2) := by
  unfold EI CF
  repeat' with_reducible (first | refine Le.orR' ?_ ?_ | refine Le.bind' ?_ ?_ | refine Le.ite' ?_ ?_ | refine Le.loop' ?_ | refine Le.altS' ?_ ?_ | apply IQ | exact Le.rfl' _ | (refine Le.pi2 ?_; intro _) | intro _)
def FW (nE : Nat) (p0 : Int) (x2 : (Int × Int × Int × Int × Int × Int × Int × Int × Int × Int × Int × Int × Int × Int × Int × Int)) (x3 : Int) (x5 : (Int × Int × Int × Int × Int × Int × Int × Int × Int × Int × Int × Int × Int × Int × Int × Int)) : (List Int × Int) → Option ((List Int × Int) ⊕ (List Int))
  | (x9, x10) => (if x10 ≠ x3 then (FD x9 ([x10] : List Int)).bind fun x11 => (ix ([x2.1, x2.2.1, x2.2.2.1, x2.2.2.2.1, x2.2.2.2.2.1, x2.2.2.2.2.2.1, x2.2.2.2.2.2.2.1, x2.2.2.2.2.2.2.2.1, x2.2.2.2.2.2.2.2.2.1, x2.2.2.2.2.2.2.2.2.2.1, x2.2.2.2.2.2.2.2.2.2.2.1, x2.2.2.2.2.2.2.2.2.2.2.2.1, x2.2.2.2.2.2.2.2.2.2.2.2.2.1, x2.2.2.2.2.2.2.2.2.2.2.2.2.2.1, x2.2.2.2.2.2.2.2.2.2.2.2.2.2.2.1, x2.2.2.2.2.2.2.2.2.2.2.2.2.2.2.2] : List Int) x10).bind fun x12 => (EI nE p0 x12 x5).bind fun x13 => some (.inl (x11, x13)) else some (.inr x9))
theorem J7 (nE : Nat) (p0 : Int) (x2 : (Int × Int × Int × Int × Int × Int × Int × Int × Int × Int × Int × Int × Int × Int × Int × Int)) (x3 : Int) (x5 : (Int × Int × Int × Int × Int × Int × Int × Int × Int × Int × Int × Int × Int × Int × Int × Int)) : ∀ s, Le (FW nE p0 x2 x3 x5 s) (Dw p0 x2 x3 x5 s) := by
  rintro ⟨x9, x10⟩
  unfold FW Dw
  repeat' with_reducible (first | refine Le.orR' ?_ ?_ | refine Le.bind' ?_ ?_ | refine Le.ite' ?_ ?_ | refine Le.loop' ?_ | refine Le.altS' ?_ ?_ | apply Hm | exact Le.rfl' _ | (refine Le.pi2 ?_; intro _) | intro _)
def FX (nE : Nat) (p0 : Int) (p1 : List (Int × Int)) (x2 : (Int × Int × Int × Int × Int × Int × Int × Int × Int × Int × Int × Int × Int × Int × Int × Int)) : Int → Option (Int ⊕ (Unit ⊕ (List Int)))
  | x3 => (if x3 < p0 then EZ ((Eh nE p1).bind fun x4 => (Fb nE p0 x4 x3).bind fun x5 => (ix ([x2.1, x2.2.1, x2.2.2.1, x2.2.2.2.1, x2.2.2.2.2.1, x2.2.2.2.2.2.1, x2.2.2.2.2.2.2.1, x2.2.2.2.2.2.2.2.1, x2.2.2.2.2.2.2.2.2.1, x2.2.2.2.2.2.2.2.2.2.1, x2.2.2.2.2.2.2.2.2.2.2.1, x2.2.2.2.2.2.2.2.2.2.2.2.1, x2.2.2.2.2.2.2.2.2.2.2.2.2.1, x2.2.2.2.2.2.2.2.2.2.2.2.2.2.1, x2.2.2.2.2.2.2.2.2.2.2.2.2.2.2.1, x2.2.2.2.2.2.2.2.2.2.2.2.2.2.2.2] : List Int) x3).bind fun x6 => (EI nE p0 x6 x5).bind fun x7 => (if x7 < 0 then some (.inl ()) else (Cr nE (FW nE p0 x2 x3 x5) (([x3] : List Int), x7)).bind fun x8 => some (.inr (.inr (.inr x8))))) fun _ => some (.inl (A7 (x3 + 1))) else some (.inr (.inl ())))
theorem J1 (nE : Nat) (p0 : Int) (p1 : List (Int × Int)) (x2 : (Int × Int × Int × Int × Int × Int × Int × Int × Int × Int × Int × Int × Int × Int × Int × Int)) : ∀ s, Le (FX nE p0 p1 x2 s) (D1 p0 p1 x2 s) := by
  intro x3
  unfold FX D1
  repeat' with_reducible (first | refine Le.orR' ?_ ?_ | refine Le.bind' ?_ ?_ | refine Le.ite' ?_ ?_ | refine Le.loop' ?_ | refine Le.altS' ?_ ?_ | apply HX | apply Jf | apply Hm | apply J7 | exact Le.rfl' _ | (refine Le.pi2 ?_; intro _) | intro _)
def HL (nE : Nat) (p0 : Int) (p1 : List (Int × Int)) : Option (List Int) := (Hf nE p0 p1).bind fun x1 => (if (!x1) = true then some ([] : List Int) else (EK nE p1).bind fun x2 => EZ (Cr nE (FX nE p0 p1 x2) 0) fun _ => some ([] : List Int))
theorem LT (nE : Nat) (p0 : Int) (p1 : List (Int × Int)) : Le (HL nE p0 p1) (Da p0 p1) := by
  unfold HL Da
  repeat' with_reducible (first | refine Le.orR' ?_ ?_ | refine Le.bind' ?_ ?_ | refine Le.ite' ?_ ?_ | refine Le.loop' ?_ | refine Le.altS' ?_ ?_ | apply Ld | apply IR | apply J1 | exact Le.rfl' _ | (refine Le.pi2 ?_; intro _) | intro _)
def Ds (nE : Nat) (p0 : (Int × (List (Int × Int × Int × Int × Int × Int)) × (List (Int × Int))) × List (List Int) × List (List Int) × ((List (Int × Int × Int × Int)) × (List (Int × Int × List Int)) × Int × Int × Int × Int)) (p3 : Int) (x5 : Int) (x9 : List Int) : ((List (Int × Int)) × Bool × Int) → Option (((List (Int × Int)) × Bool × Int) ⊕ ((List (Int × Int)) × Bool))
  | (x10, x11, x12) => (if x12 < (x9.length : Int) then ((ix x9 x12).bind fun x15 => (GJ nE p0.1 x5 x15).bind fun x16 => (if x16.2.2.2 = true then (FD x10 ([(x5, x16.1)] : List (Int × Int))).bind fun x17 => some (x17, x11) else (FF nE p0.1 x5 x15).bind fun x18 => (if x18 ≠ p3 then some (x10, true) else some (x10, x11)))).bind fun (x13, x14) => some (.inl (x13, x14, A7 (x12 + 1))) else some (.inr (x10, x11)))
theorem GH (nE : Nat) (p0 : (Int × (List (Int × Int × Int × Int × Int × Int)) × (List (Int × Int))) × List (List Int) × List (List Int) × ((List (Int × Int × Int × Int)) × (List (Int × Int × List Int)) × Int × Int × Int × Int)) (p3 : Int) (x5 : Int) (x9 : List Int) : ∀ s, Le (Ds nE p0 p3 x5 x9 s) (Bo p0 p3 x5 x9 s) := by
  rintro ⟨x10, x11, x12⟩
  unfold Ds Bo
  repeat' with_reducible (first | refine Le.orR' ?_ ?_ | refine Le.bind' ?_ ?_ | refine Le.ite' ?_ ?_ | refine Le.loop' ?_ | refine Le.altS' ?_ ?_ | apply Iy | apply JJ | exact Le.rfl' _ | (refine Le.pi2 ?_; intro _) | intro _)
def Dx (nE : Nat) (p0 : (Int × (List (Int × Int × Int × Int × Int × Int)) × (List (Int × Int))) × List (List Int) × List (List Int) × ((List (Int × Int × Int × Int)) × (List (Int × Int × List Int)) × Int × Int × Int × Int)) (p1 : List (List (List Int))) (p3 : Int) : ((List (Int × Int)) × Bool × Int) → Option (((List (Int × Int)) × Bool × Int) ⊕ ((List (Int × Int)) × Bool))
  | (x3, x4, x5) => (if x5 < (p1.length : Int) then ((ix p1 x5).bind fun x8 => (ix x8 p3).bind fun x9 => Cr nE (Ds nE p0 p3 x5 x9) (x3, x4, 0)).bind fun (x6, x7) => some (.inl (x6, x7, A7 (x5 + 1))) else some (.inr (x3, x4)))
theorem GI (nE : Nat) (p0 : (Int × (List (Int × Int × Int × Int × Int × Int)) × (List (Int × Int))) × List (List Int) × List (List Int) × ((List (Int × Int × Int × Int)) × (List (Int × Int × List Int)) × Int × Int × Int × Int)) (p1 : List (List (List Int))) (p3 : Int) : ∀ s, Le (Dx nE p0 p1 p3 s) (BO p0 p1 p3 s) := by
  rintro ⟨x3, x4, x5⟩
  unfold Dx BO
  repeat' with_reducible (first | refine Le.orR' ?_ ?_ | refine Le.bind' ?_ ?_ | refine Le.ite' ?_ ?_ | refine Le.loop' ?_ | refine Le.altS' ?_ ?_ | apply GH | exact Le.rfl' _ | (refine Le.pi2 ?_; intro _) | intro _)
def D3 (nE : Nat) (p0 : (Int × (List (Int × Int × Int × Int × Int × Int)) × (List (Int × Int))) × List (List Int) × List (List Int) × ((List (Int × Int × Int × Int)) × (List (Int × Int × List Int)) × Int × Int × Int × Int)) (p1 : List (List (List Int))) (p2 : Int) (p3 : Int) : Option (List (Int × Int × Int)) := (Cr nE (Dx nE p0 p1 p3) ([], false, 0)).bind fun (x1, x2) => (if x2 = true then (FD ([] : List (Int × Int × Int)) ([(5, p2, p3)] : List (Int × Int × Int))).bind fun x20 => some x20 else some ([])).bind fun x19 => ((HL nE p0.1.1 x1).bind fun x22 => (if 0 < (x22.length : Int) then (FD x19 ([(6, p2, p3)] : List (Int × Int × Int))).bind fun x23 => some x23 else some x19)).bind fun x21 => some x21
theorem HP (nE : Nat) (p0 : (Int × (List (Int × Int × Int × Int × Int × Int)) × (List (Int × Int))) × List (List Int) × List (List Int) × ((List (Int × Int × Int × Int)) × (List (Int × Int × List Int)) × Int × Int × Int × Int)) (p1 : List (List (List Int))) (p2 : Int) (p3 : Int) : Le (D3 nE p0 p1 p2 p3) (Cb p0 p1 p2 p3) := by
  unfold D3 Cb
  repeat' with_reducible (first | refine Le.orR' ?_ ?_ | refine Le.bind' ?_ ?_ | refine Le.ite' ?_ ?_ | refine Le.loop' ?_ | refine Le.altS' ?_ ?_ | apply LT | apply GI | exact Le.rfl' _ | (refine Le.pi2 ?_; intro _) | intro _)
def C6 (nE : Nat) (p0 : (Int × (List (Int × Int × Int × Int × Int × Int)) × (List (Int × Int))) × List (List Int) × List (List Int) × ((List (Int × Int × Int × Int)) × (List (Int × Int × List Int)) × Int × Int × Int × Int)) (x8 : Int × Int × List Int) : ((List (Nat × List Int)) × (List (Nat × List (Nat × List Int))) × Int) → Option (((List (Nat × List Int)) × (List (Nat × List (Nat × List Int))) × Int) ⊕ ((List (Nat × List Int)) × (List (Nat × List (Nat × List Int)))))
  | (x13, x14, x15) => (if x15 < (p0.2.2.2.1.length : Int) then ((ix p0.2.2.2.1 x15).bind fun x18 => (if (AU p0 x18) = true then (Ew nE x8 x18).bind fun x22 => some (x13, x14, x22) else some (x13, x14, false)).bind fun (x19, x20, x21) => (if x21 = true then (ix x20 x18.1).bind fun x23 => (ix x23.2 x18.2.1).bind fun x24 => (Il x23.1).bind fun x25 => (Il x24.1).bind fun x26 => (FD x24.2 ([x18.2.2.1] : List Int)).bind fun x27 => (ix (Ag x23.2 x18.2.1 (0, [])) x18.2.1).bind fun x28 => (ix x19 x18.1).bind fun x29 => (ix x29.2 x18.2.1).bind fun x30 => (Ol x29.1).bind fun x31 => (Il x29.1).bind fun x32 => some ((Ag x19 x18.1 (2, (Ag x29.2 x18.2.1 x18.2.2.1))), (Ag (Ag x20 x18.1 (2, (Ag x23.2 x18.2.1 (0, [])))) x18.1 (2, (Ag (Ag x23.2 x18.2.1 (0, [])) x18.2.1 (2, x27))))) else some (x19, x20))).bind fun (x16, x17) => some (.inl (x16, x17, A7 (x15 + 1))) else some (.inr (x13, x14)))
theorem Gd (nE : Nat) (p0 : (Int × (List (Int × Int × Int × Int × Int × Int)) × (List (Int × Int))) × List (List Int) × List (List Int) × ((List (Int × Int × Int × Int)) × (List (Int × Int × List Int)) × Int × Int × Int × Int)) (x8 : Int × Int × List Int) : ∀ s, Le (C6 nE p0 x8 s) (A1 p0 x8 s) := by
  rintro ⟨x13, x14, x15⟩
  unfold C6 A1
  repeat' with_reducible (first | refine Le.orR' ?_ ?_ | refine Le.bind' ?_ ?_ | refine Le.ite' ?_ ?_ | refine Le.loop' ?_ | refine Le.altS' ?_ ?_ | apply GL | exact Le.rfl' _ | (refine Le.pi2 ?_; intro _) | intro _)
def C9 (nE : Nat) (p0 : (Int × (List (Int × Int × Int × Int × Int × Int)) × (List (Int × Int))) × List (List Int) × List (List Int) × ((List (Int × Int × Int × Int)) × (List (Int × Int × List Int)) × Int × Int × Int × Int)) (x5 : Int) (x11 : List (Nat × List Int)) (x12 : List (Nat × List (Nat × List Int))) : ((List (Int × Int × Int)) × Int) → Option (((List (Int × Int × Int)) × Int) ⊕ ((List (Int × Int × Int)) × (List (Nat × List Int))))
  | (x33, x34) => (if x34 < (p0.1.2.2.length : Int) then (Gs RP x12).bind fun x35 => (D3 nE p0 x35 x5 x34).bind fun x36 => (FD x33 x36).bind fun x37 => some (.inl (x37, A7 (x34 + 1))) else some (.inr (x33, x11)))
theorem F8 (nE : Nat) (p0 : (Int × (List (Int × Int × Int × Int × Int × Int)) × (List (Int × Int))) × List (List Int) × List (List Int) × ((List (Int × Int × Int × Int)) × (List (Int × Int × List Int)) × Int × Int × Int × Int)) (x5 : Int) (x11 : List (Nat × List Int)) (x12 : List (Nat × List (Nat × List Int))) : ∀ s, Le (C9 nE p0 x5 x11 x12 s) (A2 p0 x5 x11 x12 s) := by
  rintro ⟨x33, x34⟩
  unfold C9 A2
  repeat' with_reducible (first | refine Le.orR' ?_ ?_ | refine Le.bind' ?_ ?_ | refine Le.ite' ?_ ?_ | refine Le.loop' ?_ | refine Le.altS' ?_ ?_ | apply HP | exact Le.rfl' _ | (refine Le.pi2 ?_; intro _) | intro _)
def C4 (nE : Nat) (p0 : (Int × (List (Int × Int × Int × Int × Int × Int)) × (List (Int × Int))) × List (List Int) × List (List Int) × ((List (Int × Int × Int × Int)) × (List (Int × Int × List Int)) × Int × Int × Int × Int)) : ((List (Int × Int × Int)) × (List (Nat × List Int)) × Int) → Option (((List (Int × Int × Int)) × (List (Nat × List Int)) × Int) ⊕ (List (Int × Int × Int)))
  | (x3, x4, x5) => (if x5 < (p0.2.2.2.2.1.length : Int) then ((ix p0.2.2.2.2.1 x5).bind fun x8 => (Gs PO x4).bind fun x9 => (Gw nE x9).bind fun x10 => (Cr nE (C6 nE p0 x8) (x4, x10, 0)).bind fun (x11, x12) => Cr nE (C9 nE p0 x5 x11 x12) (x3, 0)).bind fun (x6, x7) => some (.inl (x6, x7, A7 (x5 + 1))) else some (.inr x3))
theorem Ga (nE : Nat) (p0 : (Int × (List (Int × Int × Int × Int × Int × Int)) × (List (Int × Int))) × List (List Int) × List (List Int) × ((List (Int × Int × Int × Int)) × (List (Int × Int × List Int)) × Int × Int × Int × Int)) : ∀ s, Le (C4 nE p0 s) (Br p0 s) := by
  rintro ⟨x3, x4, x5⟩
  unfold C4 Br
  repeat' with_reducible (first | refine Le.orR' ?_ ?_ | refine Le.bind' ?_ ?_ | refine Le.ite' ?_ ?_ | refine Le.loop' ?_ | refine Le.altS' ?_ ?_ | apply KG | apply Gd | apply F8 | exact Le.rfl' _ | (refine Le.pi2 ?_; intro _) | intro _)
def DG (nE : Nat) (p0 : (Int × (List (Int × Int × Int × Int × Int × Int)) × (List (Int × Int))) × List (List Int) × List (List Int) × ((List (Int × Int × Int × Int)) × (List (Int × Int × List Int)) × Int × Int × Int × Int)) : Option (List (Int × Int × Int)) := (Gi nE p0.2.1).bind fun x1 => (Cr nE (C4 nE p0) ([], x1, 0)).bind fun x2 => some x2
theorem He (nE : Nat) (p0 : (Int × (List (Int × Int × Int × Int × Int × Int)) × (List (Int × Int))) × List (List Int) × List (List Int) × ((List (Int × Int × Int × Int)) × (List (Int × Int × List Int)) × Int × Int × Int × Int)) : Le (DG nE p0) (BZ p0) := by
  unfold DG BZ
  repeat' with_reducible (first | refine Le.orR' ?_ ?_ | refine Le.bind' ?_ ?_ | refine Le.ite' ?_ ?_ | refine Le.loop' ?_ | refine Le.altS' ?_ ?_ | apply KB | apply Ga | exact Le.rfl' _ | (refine Le.pi2 ?_; intro _) | intro _)
def BS (nE : Nat) (p1 : Int) : Option (List (Int × Int × Int)) := (if p1 < 0 then none else (if 0 < (A7 (p1 - (A7 (0 - (([] : List (Int × Int × Int)).length : Int))))) then (JY ([] : List (Int × Int × Int)) 0 0).bind fun x2 => (Uv 0 (A7 (p1 - (A7 (0 - (([] : List (Int × Int × Int)).length : Int))))).toNat).bind fun x3 => (mk (A7 (p1 - (A7 (0 - (([] : List (Int × Int × Int)).length : Int))))) ((0, 0, 0) : Int × Int × Int)).bind fun x4 => (JY x4 0 (([] : List (Int × Int × Int)).length : Int)).bind fun x5 => some x5 else some ([])).bind fun x1 => some x1)
theorem DM (nE : Nat) (p1 : Int) : Le (BS nE p1) (AB p1) := by
  unfold BS AB
  repeat' with_reducible (first | refine Le.orR' ?_ ?_ | refine Le.bind' ?_ ?_ | refine Le.ite' ?_ ?_ | refine Le.loop' ?_ | refine Le.altS' ?_ ?_ | exact Le.rfl' _ | (refine Le.pi2 ?_; intro _) | intro _)
def Bp (nE : Nat) (p0 : List (List (Int × Int × Int))) : (Int × Int) → Option ((Int × Int) ⊕ Int)
  | (x2, x3) => (if x3 < (p0.length : Int) then (ix p0 x3).bind fun x4 => (if (A7 (x2 + (x4.length : Int))) < 0 then none else some (.inl (A7 (x2 + (x4.length : Int)), A7 (x3 + 1)))) else some (.inr x2))
theorem Dn (nE : Nat) (p0 : List (List (Int × Int × Int))) : ∀ s, Le (Bp nE p0 s) (As p0 s) := by
  rintro ⟨x2, x3⟩
  unfold Bp As
  repeat' with_reducible (first | refine Le.orR' ?_ ?_ | refine Le.bind' ?_ ?_ | refine Le.ite' ?_ ?_ | refine Le.loop' ?_ | refine Le.altS' ?_ ?_ | exact Le.rfl' _ | (refine Le.pi2 ?_; intro _) | intro _)
def Bq (nE : Nat) (p0 : List (List (Int × Int × Int))) : ((List (Int × Int × Int)) × Int) → Option (((List (Int × Int × Int)) × Int) ⊕ (List (Int × Int × Int)))
  | (x7, x8) => (if x8 < (p0.length : Int) then (ix p0 x8).bind fun x9 => (FD x7 x9).bind fun x10 => some (.inl (x10, A7 (x8 + 1))) else some (.inr x7))
theorem Dm (nE : Nat) (p0 : List (List (Int × Int × Int))) : ∀ s, Le (Bq nE p0 s) (Au p0 s) := by
  rintro ⟨x7, x8⟩
  unfold Bq Au
  repeat' with_reducible (first | refine Le.orR' ?_ ?_ | refine Le.bind' ?_ ?_ | refine Le.ite' ?_ ?_ | refine Le.loop' ?_ | refine Le.altS' ?_ ?_ | exact Le.rfl' _ | (refine Le.pi2 ?_; intro _) | intro _)
def BI (nE : Nat) (p0 : List (List (Int × Int × Int))) : Option (List (Int × Int × Int)) := (Cr nE (Bp nE p0) (0, 0)).bind fun x1 => (BS nE x1).bind fun x5 => (Cr nE (Bq nE p0) (x5, 0)).bind fun x6 => some x6
theorem DI (nE : Nat) (p0 : List (List (Int × Int × Int))) : Le (BI nE p0) (Ay p0) := by
  unfold BI Ay
  repeat' with_reducible (first | refine Le.orR' ?_ ?_ | refine Le.bind' ?_ ?_ | refine Le.ite' ?_ ?_ | refine Le.loop' ?_ | refine Le.altS' ?_ ?_ | apply DM | apply Dn | apply Dm | exact Le.rfl' _ | (refine Le.pi2 ?_; intro _) | intro _)
def FE (nE : Nat) (p0 : Int × (List (Int × Int × Int × Int × Int × Int)) × (List (Int × Int))) (p1 : List (List Int)) (p2 : List (List Int)) (p3 : (List (Int × Int × Int × Int)) × (List (Int × Int × List Int)) × Int × Int × Int × Int) : Option (List (Int × Int × Int)) := ((Gb nE p0 p1).bind fun x2 => (if (!x2) = true then some true else (Gb nE p0 p2).bind fun x3 => some (!x3))).bind fun x1 => (if x1 = true then some ([(1, 0, 0)] : List (Int × Int × Int)) else (DR nE (p0, p1, p2, p3)).bind fun x4 => (Ed nE (p0, p1, p2, p3)).bind fun x5 => (Ep nE (p0, p1, p2, p3)).bind fun x6 => (DG nE (p0, p1, p2, p3)).bind fun x7 => (BI nE ([x4, x5, x6, x7] : List (List (Int × Int × Int)))).bind fun x8 => some x8)
theorem KX (nE : Nat) (p0 : Int × (List (Int × Int × Int × Int × Int × Int)) × (List (Int × Int))) (p1 : List (List Int)) (p2 : List (List Int)) (p3 : (List (Int × Int × Int × Int)) × (List (Int × Int × List Int)) × Int × Int × Int × Int) : Le (FE nE p0 p1 p2 p3) (Dq p0 p1 p2 p3) := by
  unfold FE Dq
  repeat' with_reducible (first | refine Le.orR' ?_ ?_ | refine Le.bind' ?_ ?_ | refine Le.ite' ?_ ?_ | refine Le.loop' ?_ | refine Le.altS' ?_ ?_ | apply LJ | apply Hh | apply H3 | apply H1 | apply He | apply DI | exact Le.rfl' _ | (refine Le.pi2 ?_; intro _) | intro _)
def Km (nE : Nat)  : Option Bool := (FE nE (3, ([(0, 0, 1, 0, 1, 1), (1, 1, 2, 0, 1, 1), (0, 1, 2, 1, 1, 1)] : List (Int × Int × Int × Int × Int × Int)), ([(2, 7)] : List (Int × Int))) ([([0] : List Int), ([1] : List Int), ([7] : List Int)] : List (List Int)) ([([1] : List Int), ([1] : List Int), ([7] : List Int)] : List (List Int)) (([] : List (Int × Int × Int × Int)), ([] : List (Int × Int × List Int)), 0, 0, 0, 0)).bind fun x1 => (if (x1.length : Int) = 1 then (ix x1 0).bind fun x3 => (if x3.1 = 2 ∧ x3.2.1 = 0 ∧ x3.2.2 = 0 then (if (EN 6) = ([108, 111, 111, 112] : List UInt8) then (FE nE (0, ([] : List (Int × Int × Int × Int × Int × Int)), ([] : List (Int × Int))) ([] : List (List Int)) ([] : List (List Int)) (([] : List (Int × Int × Int × Int)), ([] : List (Int × Int × List Int)), 0, 0, 0, 0)).bind fun x4 => some (decide ((x4.length : Int) = 1)) else some false) else some false) else some false).bind fun x2 => some x2
theorem MP (nE : Nat)  : Le (Km nE ) (Fq ) := by
  unfold Km Fq
  repeat' with_reducible (first | refine Le.orR' ?_ ?_ | refine Le.bind' ?_ ?_ | refine Le.ite' ?_ ?_ | refine Le.loop' ?_ | refine Le.altS' ?_ ?_ | apply KX | exact Le.rfl' _ | (refine Le.pi2 ?_; intro _) | intro _)
theorem IM : Fq = some true := MP 60 _ (by kernel_rfl)
end Go.Proofs.Ythhoflfhegfmcaa
