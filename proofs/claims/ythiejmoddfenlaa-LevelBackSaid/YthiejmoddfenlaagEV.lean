/- Twins with fuel of HM functions: what a twin answers, the function answers. Conditions: none. -/
import Derived.Test.YthiejmoddfenlaagLP
import Derived.Test.YthiejmoddfenlaagC1
namespace Go.Proofs.Ythiejmoddfenlaa
open Go Go.RowKit
set_option linter.unusedVariables false
set_option linter.unusedSimpArgs false
set_option maxRecDepth 20000
set_option maxHeartbeats 1600000
abbrev Le {α : Type} (a b : Option α) : Prop := ∀ r, a = some r → b = some r
theorem Le.rfl' {α : Type} (a : Option α) : Le a a := fun _ h => h
theorem Le.bind' {α β : Type} {a b : Option α} {f g : α → Option β} (h : Le a b) (hf : ∀ x, Le (f x) (g x)) : Le (a.bind f) (b.bind g) := fun r e => by
  obtain ⟨x, h1, h2⟩ := Al e
  rw [h x h1, Option.bind_some]; exact hf x r h2
theorem Le.ite' {α : Type} {c : Prop} [Decidable c] {a a' b b' : Option α} (h1 : Le a a') (h2 : Le b b') : Le (if c then a else b) (if c then a' else b') := fun r e => by
  by_cases h : c
  · rw [if_pos h] at e ⊢; exact h1 r e
  · rw [if_neg h] at e ⊢; exact h2 r e
theorem Le.orR' {α β : Type} {a b : Option (α ⊕ β)} {f g : α → Option β} (h : Le a b) (hf : ∀ x, Le (f x) (g x)) : Le (FN a f) (FN b g) :=
  Le.bind' h fun x => by
    cases x with
    | inl t => exact hf t
    | inr e => exact Le.rfl' _
def C8 {σ ε : Type} (n : Nat) (step : σ → Option (σ ⊕ ε)) (s : σ) : Option ε := Ha step n s
theorem Jt {σ ε : Type} {S T : σ → Option (σ ⊕ ε)} (h : ∀ s, Le (S s) (T s)) : ∀ (n : Nat) (s : σ), Le (Ha S n s) (Ha T n s)
  | 0, s => Le.rfl' _
  | n + 1, s => fun r e => by
    unfold Ha at e ⊢
    cases hs : S s with
    | none => rw [hs] at e; cases e
    | some q =>
      rw [hs] at e; rw [h s q hs]
      cases q with
      | inl s' => exact Jt h n s' r e
      | inr _ => exact e
theorem Le.loop' {σ ε : Type} {n : Nat} {S T : σ → Option (σ ⊕ ε)} {s : σ} (h : ∀ s, Le (S s) (T s)) : Le (C8 n S s) (AO T s) := fun r e => FS.2 ⟨n, Jt h n s r e⟩
theorem Le.pi2 {α β γ : Type} {f g : α × β → Option γ} (h : ∀ a b, Le (f (a, b)) (g (a, b))) : ∀ x, Le (f x) (g x) := fun x => h x.1 x.2
theorem Le.altS' {α β γ : Type} {y : α ⊕ β} {f f' : α → Option γ} {g g' : β → Option γ} (h : ∀ x, Le (f x) (f' x)) (k : ∀ x, Le (g x) (g' x)) : Le (Q6 y f g) (Q6 y f' g') := by
  cases y with
  | inl x => exact h x
  | inr x => exact k x
theorem PS {β : Type} {g : Nat → Option β} (hm : ∀ n r, g n = some r → g (n + 1) = some r) {n : Nat} {r : β} (h : g n = some r) : Nj g = some r := by
  have up : ∀ (d m : Nat) (q : β), g m = some q → g (m + d) = some q := fun d => by
    induction d with
    | zero => exact fun m q h => h
    | succ d ih => exact fun m q h => hm _ _ (ih m q h)
  refine Ob n h fun m q hq => ?_
  have h1 := up m n r h
  have h2 := up n m q hq
  rw [Nat.add_comm] at h2
  exact Option.some.inj (h2.symm.trans h1)
theorem Le.loopM {σ ε : Type} {S T : σ → Option (σ ⊕ ε)} {s : σ} (h : ∀ s, Le (S s) (T s)) : Le (AO S s) (AO T s) := fun r e => by
  obtain ⟨n, hn⟩ := FS.1 e
  exact FS.2 ⟨n, Jt h n s r hn⟩
def GL (nE : Nat) (p0 : Int × (List (Int × Int × Int × Int × Int × Int)) × (List (Int × Int))) : ((List (Int × Int)) × Int) → Option (((List (Int × Int)) × Int) ⊕ (List (Int × Int)))
  | (x2, x3) => (if x3 < (p0.2.1.length : Int) then (ix p0.2.1 x3).bind fun x4 => (LZ x2 ([(x4.1, x4.2.1), (x4.2.2.1, x4.2.2.2.1)] : List (Int × Int))).bind fun x5 => some (.inl (x5, AC (x3 + 1))) else some (.inr x2))
theorem JR (nE : Nat) (p0 : Int × (List (Int × Int × Int × Int × Int × Int)) × (List (Int × Int))) : ∀ s, Le (GL nE p0 s) (DN p0 s) := by
  rintro ⟨x2, x3⟩
  unfold GL DN
  repeat' with_reducible (first | refine Le.orR' ?_ ?_ | refine Le.bind' ?_ ?_ | refine Le.ite' ?_ ?_ | refine Le.loop' ?_ | refine Le.altS' ?_ ?_ | exact Le.rfl' _ | (refine Le.pi2 ?_; intro _) | intro _)
def GS (nE : Nat) (p0 : Int × (List (Int × Int × Int × Int × Int × Int)) × (List (Int × Int))) : ((List (Int × Int)) × Int) → Option (((List (Int × Int)) × Int) ⊕ (List (Int × Int)))
  | (x7, x8) => (if x8 < (p0.2.2.length : Int) then (ix p0.2.2 x8).bind fun x9 => (LZ x7 ([x9] : List (Int × Int))).bind fun x10 => some (.inl (x10, AC (x8 + 1))) else some (.inr x7))
theorem JU (nE : Nat) (p0 : Int × (List (Int × Int × Int × Int × Int × Int)) × (List (Int × Int))) : ∀ s, Le (GS nE p0 s) (DH p0 s) := by
  rintro ⟨x7, x8⟩
  unfold GS DH
  repeat' with_reducible (first | refine Le.orR' ?_ ?_ | refine Le.bind' ?_ ?_ | refine Le.ite' ?_ ?_ | refine Le.loop' ?_ | refine Le.altS' ?_ ?_ | exact Le.rfl' _ | (refine Le.pi2 ?_; intro _) | intro _)
def Id (nE : Nat) (p0 : Int × (List (Int × Int × Int × Int × Int × Int)) × (List (Int × Int))) : Option (List (Int × Int)) := (C8 nE (GL nE p0) ([], 0)).bind fun x1 => (C8 nE (GS nE p0) (x1, 0)).bind fun x6 => some x6
theorem Lb (nE : Nat) (p0 : Int × (List (Int × Int × Int × Int × Int × Int)) × (List (Int × Int))) : Le (Id nE p0) (FF p0) := by
  unfold Id FF
  repeat' with_reducible (first | refine Le.orR' ?_ ?_ | refine Le.bind' ?_ ?_ | refine Le.ite' ?_ ?_ | refine Le.loop' ?_ | refine Le.altS' ?_ ?_ | apply JR | apply JU | exact Le.rfl' _ | (refine Le.pi2 ?_; intro _) | intro _)
def CI (nE : Nat) (p0 : List (Int × Int × Int × Int × Int × Int)) : Int → Option (Int ⊕ (Unit ⊕ Int))
  | x1 => (if x1 < (p0.length : Int) then (ix p0 x1).bind fun x2 => (if (Ci x2) = true then some (.inr (.inr x1)) else some (.inl (AC (x1 + 1)))) else some (.inr (.inl ())))
theorem Fc (nE : Nat) (p0 : List (Int × Int × Int × Int × Int × Int)) : ∀ s, Le (CI nE p0 s) (A2 p0 s) := by
  intro x1
  unfold CI A2
  repeat' with_reducible (first | refine Le.orR' ?_ ?_ | refine Le.bind' ?_ ?_ | refine Le.ite' ?_ ?_ | refine Le.loop' ?_ | refine Le.altS' ?_ ?_ | exact Le.rfl' _ | (refine Le.pi2 ?_; intro _) | intro _)
def C6 (nE : Nat) (p0 : List (Int × Int × Int × Int × Int × Int)) : Option Int := FN (C8 nE (CI nE p0) 0) fun _ => some (-1)
theorem FL (nE : Nat) (p0 : List (Int × Int × Int × Int × Int × Int)) : Le (C6 nE p0) (BW p0) := by
  unfold C6 BW
  repeat' with_reducible (first | refine Le.orR' ?_ ?_ | refine Le.bind' ?_ ?_ | refine Le.ite' ?_ ?_ | refine Le.loop' ?_ | refine Le.altS' ?_ ?_ | apply Fc | exact Le.rfl' _ | (refine Le.pi2 ?_; intro _) | intro _)
def CG (nE : Nat) (p0 : List (Int × Int × Int × Int × Int × Int)) : Option Bool := (C6 nE p0).bind fun x1 => some (decide (0 ≤ x1))
theorem Fi (nE : Nat) (p0 : List (Int × Int × Int × Int × Int × Int)) : Le (CG nE p0) (BF p0) := by
  unfold CG BF
  repeat' with_reducible (first | refine Le.orR' ?_ ?_ | refine Le.bind' ?_ ?_ | refine Le.ite' ?_ ?_ | refine Le.loop' ?_ | refine Le.altS' ?_ ?_ | apply FL | exact Le.rfl' _ | (refine Le.pi2 ?_; intro _) | intro _)
def Ho (nE : Nat) (p0 : Int × (List (Int × Int × Int × Int × Int × Int)) × (List (Int × Int))) (x2 : (List (Int × Int))) : (Int × (List ((Int × Int) × Unit))) → Option ((Int × (List ((Int × Int) × Unit))) ⊕ ((List ((Int × Int) × Unit)) ⊕ Bool))
  | (x3, x4) => (if x3 < (x2.length : Int) then (ix x2 x3).bind fun x5 => (if (decide (x5.1 < 0) || (decide (p0.1 ≤ x5.1) || (decide (x5.2 < 0) || decide (8 ≤ x5.2)))) = true then some (.inr (.inr false)) else (if ((Kb x4 x5).isSome) = true then some (.inr (.inr false)) else some (.inl (AC (x3 + 1), J6 x4 x5 ())))) else some (.inr (.inl x4)))
theorem Kc (nE : Nat) (p0 : Int × (List (Int × Int × Int × Int × Int × Int)) × (List (Int × Int))) (x2 : (List (Int × Int))) : ∀ s, Le (Ho nE p0 x2 s) (Da p0 x2 s) := by
  rintro ⟨x3, x4⟩
  unfold Ho Da
  repeat' with_reducible (first | refine Le.orR' ?_ ?_ | refine Le.bind' ?_ ?_ | refine Le.ite' ?_ ?_ | refine Le.loop' ?_ | refine Le.altS' ?_ ?_ | exact Le.rfl' _ | (refine Le.pi2 ?_; intro _) | intro _)
def IA (nE : Nat) (p0 : Int × (List (Int × Int × Int × Int × Int × Int)) × (List (Int × Int))) : Option Bool := (if (decide (p0.1 < 1) || (decide (8 < p0.1) || (decide (24 < (p0.2.1.length : Int)) || decide (8 < (p0.2.2.length : Int))))) = true then some false else FN ((Id nE p0).bind fun x2 => C8 nE (Ho nE p0 x2) (0, ([] : List ((Int × Int) × Unit)))) fun x1 => (CG nE p0.2.1).bind fun x6 => some (!x6))
theorem LF (nE : Nat) (p0 : Int × (List (Int × Int × Int × Int × Int × Int)) × (List (Int × Int))) : Le (IA nE p0) (F8 p0) := by
  unfold IA F8
  repeat' with_reducible (first | refine Le.orR' ?_ ?_ | refine Le.bind' ?_ ?_ | refine Le.ite' ?_ ?_ | refine Le.loop' ?_ | refine Le.altS' ?_ ?_ | apply Lb | apply Fi | apply Kc | exact Le.rfl' _ | (refine Le.pi2 ?_; intro _) | intro _)
def DF (nE : Nat) (p0 : List Int) : Int → Option (Int ⊕ (Unit ⊕ Int))
  | x1 => (if x1 < (p0.length : Int) then (ix p0 x1).bind fun x2 => (if (Dw x2) = true then some (.inr (.inr x1)) else some (.inl (AC (x1 + 1)))) else some (.inr (.inl ())))
theorem GV (nE : Nat) (p0 : List Int) : ∀ s, Le (DF nE p0 s) (BH p0 s) := by
  intro x1
  unfold DF BH
  repeat' with_reducible (first | refine Le.orR' ?_ ?_ | refine Le.bind' ?_ ?_ | refine Le.ite' ?_ ?_ | refine Le.loop' ?_ | refine Le.altS' ?_ ?_ | exact Le.rfl' _ | (refine Le.pi2 ?_; intro _) | intro _)
def Eb (nE : Nat) (p0 : List Int) : Option Int := FN (C8 nE (DF nE p0) 0) fun _ => some (-1)
theorem HB (nE : Nat) (p0 : List Int) : Le (Eb nE p0) (CB p0) := by
  unfold Eb CB
  repeat' with_reducible (first | refine Le.orR' ?_ ?_ | refine Le.bind' ?_ ?_ | refine Le.ite' ?_ ?_ | refine Le.loop' ?_ | refine Le.altS' ?_ ?_ | apply GV | exact Le.rfl' _ | (refine Le.pi2 ?_; intro _) | intro _)
def DG (nE : Nat) (p0 : List Int) : Option Bool := (Eb nE p0).bind fun x1 => some (decide (0 ≤ x1))
theorem GW (nE : Nat) (p0 : List Int) : Le (DG nE p0) (B1 p0) := by
  unfold DG B1
  repeat' with_reducible (first | refine Le.orR' ?_ ?_ | refine Le.bind' ?_ ?_ | refine Le.ite' ?_ ?_ | refine Le.loop' ?_ | refine Le.altS' ?_ ?_ | apply HB | exact Le.rfl' _ | (refine Le.pi2 ?_; intro _) | intro _)
def GO (nE : Nat) (p0 : Int × (List (Int × Int × Int × Int × Int × Int)) × (List (Int × Int))) (p1 : List (List Int)) : Int → Option (Int ⊕ (Unit ⊕ Bool))
  | x3 => (if x3 < (p1.length : Int) then (ix p1 x3).bind fun x4 => (if (x4.length : Int) ≠ (p0.2.2.length : Int) then some true else (DG nE x4).bind fun x6 => some x6).bind fun x5 => (if x5 = true then some (.inr (.inr false)) else some (.inl (AC (x3 + 1)))) else some (.inr (.inl ())))
theorem JW (nE : Nat) (p0 : Int × (List (Int × Int × Int × Int × Int × Int)) × (List (Int × Int))) (p1 : List (List Int)) : ∀ s, Le (GO nE p0 p1 s) (Ef p0 p1 s) := by
  intro x3
  unfold GO Ef
  repeat' with_reducible (first | refine Le.orR' ?_ ?_ | refine Le.bind' ?_ ?_ | refine Le.ite' ?_ ?_ | refine Le.loop' ?_ | refine Le.altS' ?_ ?_ | apply GW | exact Le.rfl' _ | (refine Le.pi2 ?_; intro _) | intro _)
def GY (nE : Nat) (p0 : Int × (List (Int × Int × Int × Int × Int × Int)) × (List (Int × Int))) (p1 : List (List Int)) : Option Bool := ((IA nE p0).bind fun x2 => (if (!x2) = true then some true else some (decide ((p1.length : Int) ≠ p0.1)))).bind fun x1 => (if x1 = true then some false else FN (C8 nE (GO nE p0 p1) 0) fun _ => some true)
theorem I5 (nE : Nat) (p0 : Int × (List (Int × Int × Int × Int × Int × Int)) × (List (Int × Int))) (p1 : List (List Int)) : Le (GY nE p0 p1) (ES p0 p1) := by
  unfold GY ES
  repeat' with_reducible (first | refine Le.orR' ?_ ?_ | refine Le.bind' ?_ ?_ | refine Le.ite' ?_ ?_ | refine Le.loop' ?_ | refine Le.altS' ?_ ?_ | apply LF | apply JW | exact Le.rfl' _ | (refine Le.pi2 ?_; intro _) | intro _)
def C9 (nE : Nat) (p0 : List (Int × Int)) (p1 : Int × Int) : Int → Option (Int ⊕ (Unit ⊕ Int))
  | x1 => (if x1 < (p0.length : Int) then (ix p0 x1).bind fun x2 => (if p1.1 = x2.1 ∧ p1.2 = x2.2 then some (.inr (.inr x1)) else some (.inl (AC (x1 + 1)))) else some (.inr (.inl ())))
theorem FV (nE : Nat) (p0 : List (Int × Int)) (p1 : Int × Int) : ∀ s, Le (C9 nE p0 p1 s) (A9 p0 p1 s) := by
  intro x1
  unfold C9 A9
  repeat' with_reducible (first | refine Le.orR' ?_ ?_ | refine Le.bind' ?_ ?_ | refine Le.ite' ?_ ?_ | refine Le.loop' ?_ | refine Le.altS' ?_ ?_ | exact Le.rfl' _ | (refine Le.pi2 ?_; intro _) | intro _)
def Ds (nE : Nat) (p0 : List (Int × Int)) (p1 : Int × Int) : Option Int := FN (C8 nE (C9 nE p0 p1) 0) fun _ => some (-1)
theorem Gm (nE : Nat) (p0 : List (Int × Int)) (p1 : Int × Int) : Le (Ds nE p0 p1) (B5 p0 p1) := by
  unfold Ds B5
  repeat' with_reducible (first | refine Le.orR' ?_ ?_ | refine Le.bind' ?_ ?_ | refine Le.ite' ?_ ?_ | refine Le.loop' ?_ | refine Le.altS' ?_ ?_ | apply FV | exact Le.rfl' _ | (refine Le.pi2 ?_; intro _) | intro _)
def Ia (nE : Nat) (p0 : Int × (List (Int × Int × Int × Int × Int × Int)) × (List (Int × Int))) (p1 : Int) (p2 : Int) : Option Int := (Ds nE p0.2.2 (p1, p2)).bind fun x1 => some x1
theorem KU (nE : Nat) (p0 : Int × (List (Int × Int × Int × Int × Int × Int)) × (List (Int × Int))) (p1 : Int) (p2 : Int) : Le (Ia nE p0 p1 p2) (ER p0 p1 p2) := by
  unfold Ia ER
  repeat' with_reducible (first | refine Le.orR' ?_ ?_ | refine Le.bind' ?_ ?_ | refine Le.ite' ?_ ?_ | refine Le.loop' ?_ | refine Le.altS' ?_ ?_ | apply Gm | exact Le.rfl' _ | (refine Le.pi2 ?_; intro _) | intro _)
def HR (nE : Nat) (p0 : Int × (List (Int × Int × Int × Int × Int × Int)) × (List (Int × Int))) (p1 : Int) (p2 : Int) : Int → Option (Int ⊕ (Unit ⊕ (Int × Int × Int × Bool)))
  | x1 => (if x1 < (p0.2.1.length : Int) then (ix p0.2.1 x1).bind fun x2 => (if p1 = x2.1 ∧ p2 = x2.2.1 then some (.inr (.inr (x2.2.2.1, x2.2.2.2.1, x1, true))) else (if p1 = x2.2.2.1 ∧ p2 = x2.2.2.2.1 then some (.inr (.inr (x2.1, x2.2.1, x1, true))) else some (.inl (AC (x1 + 1))))) else some (.inr (.inl ())))
theorem KA (nE : Nat) (p0 : Int × (List (Int × Int × Int × Int × Int × Int)) × (List (Int × Int))) (p1 : Int) (p2 : Int) : ∀ s, Le (HR nE p0 p1 p2 s) (Dg p0 p1 p2 s) := by
  intro x1
  unfold HR Dg
  repeat' with_reducible (first | refine Le.orR' ?_ ?_ | refine Le.bind' ?_ ?_ | refine Le.ite' ?_ ?_ | refine Le.loop' ?_ | refine Le.altS' ?_ ?_ | exact Le.rfl' _ | (refine Le.pi2 ?_; intro _) | intro _)
def I7 (nE : Nat) (p0 : Int × (List (Int × Int × Int × Int × Int × Int)) × (List (Int × Int))) (p1 : Int) (p2 : Int) : Option (Int × Int × Int × Bool) := FN (C8 nE (HR nE p0 p1 p2) 0) fun _ => some (0, 0, 0, false)
theorem Mm (nE : Nat) (p0 : Int × (List (Int × Int × Int × Int × Int × Int)) × (List (Int × Int))) (p1 : Int) (p2 : Int) : Le (I7 nE p0 p1 p2) (EK p0 p1 p2) := by
  unfold I7 EK
  repeat' with_reducible (first | refine Le.orR' ?_ ?_ | refine Le.bind' ?_ ?_ | refine Le.ite' ?_ ?_ | refine Le.loop' ?_ | refine Le.altS' ?_ ?_ | apply KA | exact Le.rfl' _ | (refine Le.pi2 ?_; intro _) | intro _)
def IJ (nE : Nat) (p0 : Int × (List (Int × Int × Int × Int × Int × Int)) × (List (Int × Int))) (p1 : List (List Int)) (p2 : Int) (p3 : Int) : Option (Int × Bool) := (if p2 < 0 then some true else (if (p1.length : Int) ≤ p2 then some true else (if p3 < 0 then some true else (ix p1 p2).bind fun x2 => some (decide ((x2.length : Int) ≤ p3))))).bind fun x1 => (if x1 = true then some (0, false) else (ix p1 p2).bind fun x3 => (ix x3 p3).bind fun x4 => (I7 nE p0 p2 x4).bind fun x5 => some (x5.1, x5.2.2.2))
theorem Ly (nE : Nat) (p0 : Int × (List (Int × Int × Int × Int × Int × Int)) × (List (Int × Int))) (p1 : List (List Int)) (p2 : Int) (p3 : Int) : Le (IJ nE p0 p1 p2 p3) (Gb p0 p1 p2 p3) := by
  unfold IJ Gb
  repeat' with_reducible (first | refine Le.orR' ?_ ?_ | refine Le.bind' ?_ ?_ | refine Le.ite' ?_ ?_ | refine Le.loop' ?_ | refine Le.altS' ?_ ?_ | apply Mm | exact Le.rfl' _ | (refine Le.pi2 ?_; intro _) | intro _)
def EO (nE : Nat) (p0 : List Int) (p1 : Int) : Int → Option (Int ⊕ (Unit ⊕ Bool))
  | x1 => (if x1 < (p0.length : Int) then (ix p0 x1).bind fun x2 => (if p1 = x2 then some (.inr (.inr true)) else some (.inl (AC (x1 + 1)))) else some (.inr (.inl ())))
theorem Ig (nE : Nat) (p0 : List Int) (p1 : Int) : ∀ s, Le (EO nE p0 p1 s) (CD p0 p1 s) := by
  intro x1
  unfold EO CD
  repeat' with_reducible (first | refine Le.orR' ?_ ?_ | refine Le.bind' ?_ ?_ | refine Le.ite' ?_ ?_ | refine Le.loop' ?_ | refine Le.altS' ?_ ?_ | exact Le.rfl' _ | (refine Le.pi2 ?_; intro _) | intro _)
def FE (nE : Nat) (p0 : List Int) (p1 : Int) : Option Bool := FN (C8 nE (EO nE p0 p1) 0) fun _ => some false
theorem IQ (nE : Nat) (p0 : List Int) (p1 : Int) : Le (FE nE p0 p1) (Dh p0 p1) := by
  unfold FE Dh
  repeat' with_reducible (first | refine Le.orR' ?_ ?_ | refine Le.bind' ?_ ?_ | refine Le.ite' ?_ ?_ | refine Le.loop' ?_ | refine Le.altS' ?_ ?_ | apply Ig | exact Le.rfl' _ | (refine Le.pi2 ?_; intro _) | intro _)
def Ht (nE : Nat) (p0 : Int × (List (Int × Int × Int × Int × Int × Int)) × (List (Int × Int))) (p1 : List (List Int)) (p3 : Int) : (Int × List Int) → Option ((Int × List Int) ⊕ ((List Int) ⊕ (List Int × Int)))
  | (x2, x3) => (ix p1 x2).bind fun x4 => (ix x4 p3).bind fun x5 => (Ia nE p0 x2 x5).bind fun x6 => (if x6 ≠ p3 then (IJ nE p0 p1 x2 p3).bind fun x7 => (if (!x7.2) = true then some (.inr (.inr (([] : List Int), 13))) else (FE nE x3 x7.1).bind fun x8 => (if x8 = true then some (.inr (.inr (([] : List Int), 12))) else (LZ x3 ([x7.1] : List Int)).bind fun x9 => some (.inl (x7.1, x9)))) else some (.inr (.inl x3)))
theorem J2 (nE : Nat) (p0 : Int × (List (Int × Int × Int × Int × Int × Int)) × (List (Int × Int))) (p1 : List (List Int)) (p3 : Int) : ∀ s, Le (Ht nE p0 p1 p3 s) (DD p0 p1 p3 s) := by
  rintro ⟨x2, x3⟩
  unfold Ht DD
  repeat' with_reducible (first | refine Le.orR' ?_ ?_ | refine Le.bind' ?_ ?_ | refine Le.ite' ?_ ?_ | refine Le.loop' ?_ | refine Le.altS' ?_ ?_ | apply KU | apply Ly | apply IQ | exact Le.rfl' _ | (refine Le.pi2 ?_; intro _) | intro _)
def Hx (nE : Nat) (p0 : Int × (List (Int × Int × Int × Int × Int × Int)) × (List (Int × Int))) (p1 : List (List Int)) (p2 : Int) (p3 : Int) : Option (List Int × Int) := FN (C8 nE (Ht nE p0 p1 p3) (p2, ([p2] : List Int))) fun x1 => some (x1, 0)
theorem Jk (nE : Nat) (p0 : Int × (List (Int × Int × Int × Int × Int × Int)) × (List (Int × Int))) (p1 : List (List Int)) (p2 : Int) (p3 : Int) : Le (Hx nE p0 p1 p2 p3) (Fy p0 p1 p2 p3) := by
  unfold Hx Fy
  repeat' with_reducible (first | refine Le.orR' ?_ ?_ | refine Le.bind' ?_ ?_ | refine Le.ite' ?_ ?_ | refine Le.loop' ?_ | refine Le.altS' ?_ ?_ | apply J2 | exact Le.rfl' _ | (refine Le.pi2 ?_; intro _) | intro _)
def Hq (nE : Nat) (p0 : Int × (List (Int × Int × Int × Int × Int × Int)) × (List (Int × Int))) (p1 : List (List Int)) (x2 : Int) (x3 : List Int) : Int → Option (Int ⊕ (Unit ⊕ (Int ⊕ (Unit ⊕ Bool))))
  | x4 => (if x4 < (x3.length : Int) then (Hx nE p0 p1 x2 x4).bind fun x5 => (if x5.2 ≠ 0 then some (.inr (.inr (.inr (.inr false)))) else some (.inl (AC (x4 + 1)))) else some (.inr (.inl ())))
theorem J5 (nE : Nat) (p0 : Int × (List (Int × Int × Int × Int × Int × Int)) × (List (Int × Int))) (p1 : List (List Int)) (x2 : Int) (x3 : List Int) : ∀ s, Le (Hq nE p0 p1 x2 x3 s) (D3 p0 p1 x2 x3 s) := by
  intro x4
  unfold Hq D3
  repeat' with_reducible (first | refine Le.orR' ?_ ?_ | refine Le.bind' ?_ ?_ | refine Le.ite' ?_ ?_ | refine Le.loop' ?_ | refine Le.altS' ?_ ?_ | apply Jk | exact Le.rfl' _ | (refine Le.pi2 ?_; intro _) | intro _)
def Hs (nE : Nat) (p0 : Int × (List (Int × Int × Int × Int × Int × Int)) × (List (Int × Int))) (p1 : List (List Int)) : Int → Option (Int ⊕ (Unit ⊕ Bool))
  | x2 => (if x2 < (p1.length : Int) then FN ((ix p1 x2).bind fun x3 => C8 nE (Hq nE p0 p1 x2 x3) 0) fun _ => some (.inl (AC (x2 + 1))) else some (.inr (.inl ())))
theorem J3 (nE : Nat) (p0 : Int × (List (Int × Int × Int × Int × Int × Int)) × (List (Int × Int))) (p1 : List (List Int)) : ∀ s, Le (Hs nE p0 p1 s) (Ez p0 p1 s) := by
  intro x2
  unfold Hs Ez
  repeat' with_reducible (first | refine Le.orR' ?_ ?_ | refine Le.bind' ?_ ?_ | refine Le.ite' ?_ ?_ | refine Le.loop' ?_ | refine Le.altS' ?_ ?_ | apply J5 | exact Le.rfl' _ | (refine Le.pi2 ?_; intro _) | intro _)
def Hz (nE : Nat) (p0 : Int × (List (Int × Int × Int × Int × Int × Int)) × (List (Int × Int))) (p1 : List (List Int)) : Option Bool := (GY nE p0 p1).bind fun x1 => (if (!x1) = true then some false else FN (C8 nE (Hs nE p0 p1) 0) fun _ => some true)
theorem Lu (nE : Nat) (p0 : Int × (List (Int × Int × Int × Int × Int × Int)) × (List (Int × Int))) (p1 : List (List Int)) : Le (Hz nE p0 p1) (Fx p0 p1) := by
  unfold Hz Fx
  repeat' with_reducible (first | refine Le.orR' ?_ ?_ | refine Le.bind' ?_ ?_ | refine Le.ite' ?_ ?_ | refine Le.loop' ?_ | refine Le.altS' ?_ ?_ | apply I5 | apply J3 | exact Le.rfl' _ | (refine Le.pi2 ?_; intro _) | intro _)
def HP (nE : Nat) (p0 : Int × (List (Int × Int × Int × Int × Int × Int)) × (List (Int × Int))) (p1 : List (List Int)) (p2 : Int) : (List Int × Int) → Option ((List Int × Int) ⊕ (List Int))
  | (x4, x5) => (if x5 < (p1.length : Int) then (Hx nE p0 p1 x5 p2).bind fun x6 => (LZ x4 ([AC ((x6.1.length : Int) - 1)] : List Int)).bind fun x7 => some (.inl (x7, AC (x5 + 1))) else some (.inr x4))
theorem Kx (nE : Nat) (p0 : Int × (List (Int × Int × Int × Int × Int × Int)) × (List (Int × Int))) (p1 : List (List Int)) (p2 : Int) : ∀ s, Le (HP nE p0 p1 p2 s) (Ev p0 p1 p2 s) := by
  rintro ⟨x4, x5⟩
  unfold HP Ev
  repeat' with_reducible (first | refine Le.orR' ?_ ?_ | refine Le.bind' ?_ ?_ | refine Le.ite' ?_ ?_ | refine Le.loop' ?_ | refine Le.altS' ?_ ?_ | apply Jk | exact Le.rfl' _ | (refine Le.pi2 ?_; intro _) | intro _)
def IR (nE : Nat) (p0 : Int × (List (Int × Int × Int × Int × Int × Int)) × (List (Int × Int))) (p1 : List (List Int)) (p2 : Int) : Option (List Int) := ((GY nE p0 p1).bind fun x2 => (if (!x2) = true then some true else (if p2 < 0 then some true else some (decide ((p0.2.2.length : Int) ≤ p2))))).bind fun x1 => (if x1 = true then some ([] : List Int) else (C8 nE (HP nE p0 p1 p2) ([], 0)).bind fun x3 => some x3)
theorem Mn (nE : Nat) (p0 : Int × (List (Int × Int × Int × Int × Int × Int)) × (List (Int × Int))) (p1 : List (List Int)) (p2 : Int) : Le (IR nE p0 p1 p2) (GT p0 p1 p2) := by
  unfold IR GT
  repeat' with_reducible (first | refine Le.orR' ?_ ?_ | refine Le.bind' ?_ ?_ | refine Le.ite' ?_ ?_ | refine Le.loop' ?_ | refine Le.altS' ?_ ?_ | apply I5 | apply Kx | exact Le.rfl' _ | (refine Le.pi2 ?_; intro _) | intro _)
def Gy (nE : Nat) (p0 : Int) : Option Int := (if 4294967296 ≤ p0 then some (GC .u64 p0 32, 32) else some (p0, 0)).bind fun (x1, x2) => (if 65536 ≤ x1 then some (GC .u64 x1 16, AC (x2 + 16)) else some (x1, x2)).bind fun (x3, x4) => (if 256 ≤ x3 then some (GC .u64 x3 8, AC (x4 + 8)) else some (x3, x4)).bind fun (x5, x6) => (ix ([0, 1, 2, 2, 3, 3, 3, 3, 4, 4, 4, 4, 4, 4, 4, 4, 5, 5, 5, 5, 5, 5, 5, 5, 5, 5, 5, 5, 5, 5, 5, 5, 6, 6, 6, 6, 6, 6, 6, 6, 6, 6, 6, 6, 6, 6, 6, 6, 6, 6, 6, 6, 6, 6, 6, 6, 6, 6, 6, 6, 6, 6, 6, 6, 7, 7, 7, 7, 7, 7, 7, 7, 7, 7, 7, 7, 7, 7, 7, 7, 7, 7, 7, 7, 7, 7, 7, 7, 7, 7, 7, 7, 7, 7, 7, 7, 7, 7, 7, 7, 7, 7, 7, 7, 7, 7, 7, 7, 7, 7, 7, 7, 7, 7, 7, 7, 7, 7, 7, 7, 7, 7, 7, 7, 7, 7, 7, 7, 8, 8, 8, 8, 8, 8, 8, 8, 8, 8, 8, 8, 8, 8, 8, 8, 8, 8, 8, 8, 8, 8, 8, 8, 8, 8, 8, 8, 8, 8, 8, 8, 8, 8, 8, 8, 8, 8, 8, 8, 8, 8, 8, 8, 8, 8, 8, 8, 8, 8, 8, 8, 8, 8, 8, 8, 8, 8, 8, 8, 8, 8, 8, 8, 8, 8, 8, 8, 8, 8, 8, 8, 8, 8, 8, 8, 8, 8, 8, 8, 8, 8, 8, 8, 8, 8, 8, 8, 8, 8, 8, 8, 8, 8, 8, 8, 8, 8, 8, 8, 8, 8, 8, 8, 8, 8, 8, 8, 8, 8, 8, 8, 8, 8, 8, 8, 8, 8, 8, 8, 8, 8, 8, 8, 8, 8, 8, 8] : List UInt8) (IntKind.u8.wrap x5)).bind fun x7 => some (AC (x6 + (AC (x7.toNat : Int))))
theorem Js (nE : Nat) (p0 : Int) : Le (Gy nE p0) (Er p0) := by
  unfold Gy Er
  repeat' with_reducible (first | refine Le.orR' ?_ ?_ | refine Le.bind' ?_ ?_ | refine Le.ite' ?_ ?_ | refine Le.loop' ?_ | refine Le.altS' ?_ ?_ | exact Le.rfl' _ | (refine Le.pi2 ?_; intro _) | intro _)
def E5 (nE : Nat) (p0 : Int) : Option Int := (Gy nE p0).bind fun x1 => some x1
theorem GX (nE : Nat) (p0 : Int) : Le (E5 nE p0) (DE p0) := by
  unfold E5 DE
  repeat' with_reducible (first | refine Le.orR' ?_ ?_ | refine Le.bind' ?_ ?_ | refine Le.ite' ?_ ?_ | refine Le.loop' ?_ | refine Le.altS' ?_ ?_ | apply Js | exact Le.rfl' _ | (refine Le.pi2 ?_; intro _) | intro _)
def Hn (nE : Nat) (p0 : List Int) : Int → Option (Int ⊕ (Unit ⊕ Int))
  | x1 => (if x1 < (p0.length : Int) then (ix p0 x1).bind fun x2 => (if x2 ≠ 0 then some (.inr (.inr x2)) else some (.inl (AC (x1 + 1)))) else some (.inr (.inl ())))
theorem J1 (nE : Nat) (p0 : List Int) : ∀ s, Le (Hn nE p0 s) (Dc p0 s) := by
  intro x1
  unfold Hn Dc
  repeat' with_reducible (first | refine Le.orR' ?_ ?_ | refine Le.bind' ?_ ?_ | refine Le.ite' ?_ ?_ | refine Le.loop' ?_ | refine Le.altS' ?_ ?_ | exact Le.rfl' _ | (refine Le.pi2 ?_; intro _) | intro _)
def Iz (nE : Nat) (p0 : List Int) : Option Int := FN (C8 nE (Hn nE p0) 0) fun _ => some 0
theorem Lz (nE : Nat) (p0 : List Int) : Le (Iz nE p0) (Ga p0) := by
  unfold Iz Ga
  repeat' with_reducible (first | refine Le.orR' ?_ ?_ | refine Le.bind' ?_ ?_ | refine Le.ite' ?_ ?_ | refine Le.loop' ?_ | refine Le.altS' ?_ ?_ | apply J1 | exact Le.rfl' _ | (refine Le.pi2 ?_; intro _) | intro _)
def BX (nE : Nat) (p0 : Int × Int × Int × Int) (p1 : Int × Int × Int × Int) : Option Int := (Iz nE ([(AY p0.2.2.2 p1.2.2.2), (AY p0.1 p1.1), (AY p0.2.1 p1.2.1)] : List Int)).bind fun x1 => some x1
theorem B6 (nE : Nat) (p0 : Int × Int × Int × Int) (p1 : Int × Int × Int × Int) : Le (BX nE p0 p1) (BT p0 p1) := by
  unfold BX BT
  repeat' with_reducible (first | refine Le.orR' ?_ ?_ | refine Le.bind' ?_ ?_ | refine Le.ite' ?_ ?_ | refine Le.loop' ?_ | refine Le.altS' ?_ ?_ | apply Lz | exact Le.rfl' _ | (refine Le.pi2 ?_; intro _) | intro _)
def Ct (nE : Nat) (p1 : Int) : ((List (Int × Int × Int × Int)) × Int) → Option (((List (Int × Int × Int × Int)) × Int) ⊕ (List (Int × Int × Int × Int)))
  | (x4, x5) => (if p1 < x5 then (ix x4 x5).bind fun x7 => (ix x4 (AC (x5 - 1))).bind fun x8 => (BX nE x7 x8).bind fun x9 => some (decide (x9 < 0)) else some false).bind fun x6 => (if x6 = true then (ix x4 (AC (x5 - 1))).bind fun x10 => (ix x4 x5).bind fun x11 => (ix x4 x5).bind fun x12 => (ix (Aw x4 x5 x10) (AC (x5 - 1))).bind fun x13 => some (.inl ((Aw (Aw x4 x5 x10) (AC (x5 - 1)) x11), AC (x5 - 1))) else some (.inr x4))
theorem EM (nE : Nat) (p1 : Int) : ∀ s, Le (Ct nE p1 s) (AQ p1 s) := by
  rintro ⟨x4, x5⟩
  unfold Ct AQ
  repeat' with_reducible (first | refine Le.orR' ?_ ?_ | refine Le.bind' ?_ ?_ | refine Le.ite' ?_ ?_ | refine Le.loop' ?_ | refine Le.altS' ?_ ?_ | apply B6 | exact Le.rfl' _ | (refine Le.pi2 ?_; intro _) | intro _)
def Cs (nE : Nat) (p1 : Int) (p2 : Int) : ((List (Int × Int × Int × Int)) × Int) → Option (((List (Int × Int × Int × Int)) × Int) ⊕ (List (Int × Int × Int × Int)))
  | (x1, x2) => (if x2 < p2 then (C8 nE (Ct nE p1) (x1, x2)).bind fun x3 => some (.inl (x3, AC (x2 + 1))) else some (.inr x1))
theorem EL (nE : Nat) (p1 : Int) (p2 : Int) : ∀ s, Le (Cs nE p1 p2 s) (A7 p1 p2 s) := by
  rintro ⟨x1, x2⟩
  unfold Cs A7
  repeat' with_reducible (first | refine Le.orR' ?_ ?_ | refine Le.bind' ?_ ?_ | refine Le.ite' ?_ ?_ | refine Le.loop' ?_ | refine Le.altS' ?_ ?_ | apply EM | exact Le.rfl' _ | (refine Le.pi2 ?_; intro _) | intro _)
def CE (nE : Nat) (p0 : List (Int × Int × Int × Int)) (p1 : Int) (p2 : Int) : Option (List (Int × Int × Int × Int)) := C8 nE (Cs nE p1 p2) (p0, AC (p1 + 1))
theorem E7 (nE : Nat) (p0 : List (Int × Int × Int × Int)) (p1 : Int) (p2 : Int) : Le (CE nE p0 p1 p2) (Bw p0 p1 p2) := by
  unfold CE Bw
  repeat' with_reducible (first | refine Le.orR' ?_ ?_ | refine Le.bind' ?_ ?_ | refine Le.ite' ?_ ?_ | refine Le.loop' ?_ | refine Le.altS' ?_ ?_ | apply EL | exact Le.rfl' _ | (refine Le.pi2 ?_; intro _) | intro _)
def CT (nE : Nat) (p2 : Int) (p3 : Int) : ((List (Int × Int × Int × Int)) × Int) → Option (((List (Int × Int × Int × Int)) × Int) ⊕ (List (Int × Int × Int × Int)))
  | (x1, x2) => (if p2 ≤ (AC ((AC (2 * x2)) + 1)) then some (.inr x1) else ((if (AC ((AC ((AC (2 * x2)) + 1)) + 1)) < p2 then (ix x1 (AC (p3 + (AC ((AC (2 * x2)) + 1))))).bind fun x5 => (ix x1 (AC ((AC (p3 + (AC ((AC (2 * x2)) + 1)))) + 1))).bind fun x6 => (BX nE x5 x6).bind fun x7 => some (decide (x7 < 0)) else some false).bind fun x4 => (if x4 = true then some (AC ((AC ((AC (2 * x2)) + 1)) + 1)) else some (AC ((AC (2 * x2)) + 1)))).bind fun x3 => (ix x1 (AC (p3 + x2))).bind fun x8 => (ix x1 (AC (p3 + x3))).bind fun x9 => (BX nE x8 x9).bind fun x10 => (if (!(decide (x10 < 0))) = true then some (.inr x1) else (ix x1 (AC (p3 + x3))).bind fun x11 => (ix x1 (AC (p3 + x2))).bind fun x12 => (ix x1 (AC (p3 + x2))).bind fun x13 => (ix (Aw x1 (AC (p3 + x2)) x11) (AC (p3 + x3))).bind fun x14 => some (.inl ((Aw (Aw x1 (AC (p3 + x2)) x11) (AC (p3 + x3)) x12), x3))))
theorem Fq (nE : Nat) (p2 : Int) (p3 : Int) : ∀ s, Le (CT nE p2 p3 s) (AN p2 p3 s) := by
  rintro ⟨x1, x2⟩
  unfold CT AN
  repeat' with_reducible (first | refine Le.orR' ?_ ?_ | refine Le.bind' ?_ ?_ | refine Le.ite' ?_ ?_ | refine Le.loop' ?_ | refine Le.altS' ?_ ?_ | apply B6 | exact Le.rfl' _ | (refine Le.pi2 ?_; intro _) | intro _)
def Cq (nE : Nat) (p0 : List (Int × Int × Int × Int)) (p1 : Int) (p2 : Int) (p3 : Int) : Option (List (Int × Int × Int × Int)) := C8 nE (CT nE p2 p3) (p0, p1)
theorem DU (nE : Nat) (p0 : List (Int × Int × Int × Int)) (p1 : Int) (p2 : Int) (p3 : Int) : Le (Cq nE p0 p1 p2 p3) (BG p0 p1 p2 p3) := by
  unfold Cq BG
  repeat' with_reducible (first | refine Le.orR' ?_ ?_ | refine Le.bind' ?_ ?_ | refine Le.ite' ?_ ?_ | refine Le.loop' ?_ | refine Le.altS' ?_ ?_ | apply Fq | exact Le.rfl' _ | (refine Le.pi2 ?_; intro _) | intro _)
def CW (nE : Nat) (p1 : Int) (p2 : Int) : ((List (Int × Int × Int × Int)) × Int) → Option (((List (Int × Int × Int × Int)) × Int) ⊕ (List (Int × Int × Int × Int)))
  | (x2, x3) => (if 0 ≤ x3 then (Cq nE x2 x3 (AC (p2 - p1)) p1).bind fun x4 => some (.inl (x4, AC (x3 - 1))) else some (.inr x2))
theorem Ft (nE : Nat) (p1 : Int) (p2 : Int) : ∀ s, Le (CW nE p1 p2 s) (Bn p1 p2 s) := by
  rintro ⟨x2, x3⟩
  unfold CW Bn
  repeat' with_reducible (first | refine Le.orR' ?_ ?_ | refine Le.bind' ?_ ?_ | refine Le.ite' ?_ ?_ | refine Le.loop' ?_ | refine Le.altS' ?_ ?_ | apply DU | exact Le.rfl' _ | (refine Le.pi2 ?_; intro _) | intro _)
def CS (nE : Nat) (p1 : Int) : ((List (Int × Int × Int × Int)) × Int) → Option (((List (Int × Int × Int × Int)) × Int) ⊕ (List (Int × Int × Int × Int)))
  | (x5, x6) => (if 0 ≤ x6 then (ix x5 (AC (p1 + x6))).bind fun x7 => (ix x5 p1).bind fun x8 => (ix x5 p1).bind fun x9 => (ix (Aw x5 p1 x7) (AC (p1 + x6))).bind fun x10 => (Cq nE (Aw (Aw x5 p1 x7) (AC (p1 + x6)) x8) 0 x6 p1).bind fun x11 => some (.inl (x11, AC (x6 - 1))) else some (.inr x5))
theorem Fs (nE : Nat) (p1 : Int) : ∀ s, Le (CS nE p1 s) (Bm p1 s) := by
  rintro ⟨x5, x6⟩
  unfold CS Bm
  repeat' with_reducible (first | refine Le.orR' ?_ ?_ | refine Le.bind' ?_ ?_ | refine Le.ite' ?_ ?_ | refine Le.loop' ?_ | refine Le.altS' ?_ ?_ | apply DU | exact Le.rfl' _ | (refine Le.pi2 ?_; intro _) | intro _)
def Db (nE : Nat) (p0 : List (Int × Int × Int × Int)) (p1 : Int) (p2 : Int) : Option (List (Int × Int × Int × Int)) := (C8 nE (CW nE p1 p2) (p0, AC (Int.tdiv (AC ((AC (p2 - p1)) - 1)) 2))).bind fun x1 => C8 nE (CS nE p1) (x1, AC ((AC (p2 - p1)) - 1))
theorem FU (nE : Nat) (p0 : List (Int × Int × Int × Int)) (p1 : Int) (p2 : Int) : Le (Db nE p0 p1 p2) (BP p0 p1 p2) := by
  unfold Db BP
  repeat' with_reducible (first | refine Le.orR' ?_ ?_ | refine Le.bind' ?_ ?_ | refine Le.ite' ?_ ?_ | refine Le.loop' ?_ | refine Le.altS' ?_ ?_ | apply Ft | apply Fs | exact Le.rfl' _ | (refine Le.pi2 ?_; intro _) | intro _)
def Cf (nE : Nat) (p0 : List (Int × Int × Int × Int)) (p1 : Int) (p2 : Int) (p3 : Int) : Option (Int × Int × Int) := (ix p0 p2).bind fun x1 => (ix p0 p1).bind fun x2 => (BX nE x1 x2).bind fun x3 => (if x3 < 0 then some (p2, p1, AC (p3 + 1)) else some (p1, p2, p3))
theorem F6 (nE : Nat) (p0 : List (Int × Int × Int × Int)) (p1 : Int) (p2 : Int) (p3 : Int) : Le (Cf nE p0 p1 p2 p3) (Bu p0 p1 p2 p3) := by
  unfold Cf Bu
  repeat' with_reducible (first | refine Le.orR' ?_ ?_ | refine Le.bind' ?_ ?_ | refine Le.ite' ?_ ?_ | refine Le.loop' ?_ | refine Le.altS' ?_ ?_ | apply B6 | exact Le.rfl' _ | (refine Le.pi2 ?_; intro _) | intro _)
def CA (nE : Nat) (p0 : List (Int × Int × Int × Int)) (p1 : Int) (p2 : Int) (p3 : Int) (p4 : Int) : Option (Int × Int) := (Cf nE p0 p1 p2 p4).bind fun x1 => (Cf nE p0 x1.2.1 p3 x1.2.2).bind fun x2 => (Cf nE p0 x1.1 x2.1 x2.2.2).bind fun x3 => some (x3.2.1, x3.2.2)
theorem Eg (nE : Nat) (p0 : List (Int × Int × Int × Int)) (p1 : Int) (p2 : Int) (p3 : Int) (p4 : Int) : Le (CA nE p0 p1 p2 p3 p4) (Bv p0 p1 p2 p3 p4) := by
  unfold CA Bv
  repeat' with_reducible (first | refine Le.orR' ?_ ?_ | refine Le.bind' ?_ ?_ | refine Le.ite' ?_ ?_ | refine Le.loop' ?_ | refine Le.altS' ?_ ?_ | apply F6 | exact Le.rfl' _ | (refine Le.pi2 ?_; intro _) | intro _)
def BR (nE : Nat) (p0 : List (Int × Int × Int × Int)) (p1 : Int) (p2 : Int) : Option (Int × Int) := (CA nE p0 (AC (p1 - 1)) p1 (AC (p1 + 1)) p2).bind fun x1 => some (x1.1, x1.2)
theorem EY (nE : Nat) (p0 : List (Int × Int × Int × Int)) (p1 : Int) (p2 : Int) : Le (BR nE p0 p1 p2) (AW p0 p1 p2) := by
  unfold BR AW
  repeat' with_reducible (first | refine Le.orR' ?_ ?_ | refine Le.bind' ?_ ?_ | refine Le.ite' ?_ ?_ | refine Le.loop' ?_ | refine Le.altS' ?_ ?_ | apply Eg | exact Le.rfl' _ | (refine Le.pi2 ?_; intro _) | intro _)
def CU (nE : Nat) (p0 : List (Int × Int × Int × Int)) (p1 : Int) (p2 : Int) : Option (Int × Int) := (if 8 ≤ (AC (p2 - p1)) then (if 50 ≤ (AC (p2 - p1)) then (BR nE p0 (AC (p1 + (AC ((AC (Int.tdiv (AC (p2 - p1)) 4)) * 1)))) 0).bind fun x7 => (BR nE p0 (AC (p1 + (AC ((AC (Int.tdiv (AC (p2 - p1)) 4)) * 2)))) x7.2).bind fun x8 => (BR nE p0 (AC (p1 + (AC ((AC (Int.tdiv (AC (p2 - p1)) 4)) * 3)))) x8.2).bind fun x9 => some (x7.1, x8.1, x9.1, x9.2) else some (AC (p1 + (AC ((AC (Int.tdiv (AC (p2 - p1)) 4)) * 1))), AC (p1 + (AC ((AC (Int.tdiv (AC (p2 - p1)) 4)) * 2))), AC (p1 + (AC ((AC (Int.tdiv (AC (p2 - p1)) 4)) * 3))), 0)).bind fun (x3, x4, x5, x6) => (CA nE p0 x3 x4 x5 x6).bind fun x10 => some (x10.1, x10.2) else some (AC (p1 + (AC ((AC (Int.tdiv (AC (p2 - p1)) 4)) * 2))), 0)).bind fun (x1, x2) => (if x2 = 0 then some (x1, 1) else (if x2 = 12 then some (x1, 2) else some (x1, 0)))
theorem Fw (nE : Nat) (p0 : List (Int × Int × Int × Int)) (p1 : Int) (p2 : Int) : Le (CU nE p0 p1 p2) (BJ p0 p1 p2) := by
  unfold CU BJ
  repeat' with_reducible (first | refine Le.orR' ?_ ?_ | refine Le.bind' ?_ ?_ | refine Le.ite' ?_ ?_ | refine Le.loop' ?_ | refine Le.altS' ?_ ?_ | apply Eg | apply EY | exact Le.rfl' _ | (refine Le.pi2 ?_; intro _) | intro _)
def Cv (nE : Nat)  : ((List (Int × Int × Int × Int)) × Int × Int) → Option (((List (Int × Int × Int × Int)) × Int × Int) ⊕ (List (Int × Int × Int × Int)))
  | (x1, x2, x3) => (if x2 < x3 then (ix x1 x3).bind fun x4 => (ix x1 x2).bind fun x5 => (ix x1 x2).bind fun x6 => (ix (Aw x1 x2 x4) x3).bind fun x7 => some (.inl ((Aw (Aw x1 x2 x4) x3 x5), AC (x2 + 1), AC (x3 - 1))) else some (.inr x1))
theorem EQ (nE : Nat)  : ∀ s, Le (Cv nE  s) (A3  s) := by
  rintro ⟨x1, x2, x3⟩
  unfold Cv A3
  repeat' with_reducible (first | refine Le.orR' ?_ ?_ | refine Le.bind' ?_ ?_ | refine Le.ite' ?_ ?_ | refine Le.loop' ?_ | refine Le.altS' ?_ ?_ | exact Le.rfl' _ | (refine Le.pi2 ?_; intro _) | intro _)
def CH (nE : Nat) (p0 : List (Int × Int × Int × Int)) (p1 : Int) (p2 : Int) : Option (List (Int × Int × Int × Int)) := C8 nE (Cv nE) (p0, p1, AC (p2 - 1))
theorem Ff (nE : Nat) (p0 : List (Int × Int × Int × Int)) (p1 : Int) (p2 : Int) : Le (CH nE p0 p1 p2) (Bi p0 p1 p2) := by
  unfold CH Bi
  repeat' with_reducible (first | refine Le.orR' ?_ ?_ | refine Le.bind' ?_ ?_ | refine Le.ite' ?_ ?_ | refine Le.loop' ?_ | refine Le.altS' ?_ ?_ | apply EQ | exact Le.rfl' _ | (refine Le.pi2 ?_; intro _) | intro _)
def Cd (nE : Nat) (p2 : Int) (x2 : List (Int × Int × Int × Int)) : Int → Option (Int ⊕ Int)
  | x8 => (if x8 < p2 then (ix x2 x8).bind fun x10 => (ix x2 (AC (x8 - 1))).bind fun x11 => (BX nE x10 x11).bind fun x12 => some (!(decide (x12 < 0))) else some false).bind fun x9 => (if x9 = true then some (.inl (AC (x8 + 1))) else some (.inr x8))
theorem D6 (nE : Nat) (p2 : Int) (x2 : List (Int × Int × Int × Int)) : ∀ s, Le (Cd nE p2 x2 s) (A4 p2 x2 s) := by
  intro x8
  unfold Cd A4
  repeat' with_reducible (first | refine Le.orR' ?_ ?_ | refine Le.bind' ?_ ?_ | refine Le.ite' ?_ ?_ | refine Le.loop' ?_ | refine Le.altS' ?_ ?_ | apply B6 | exact Le.rfl' _ | (refine Le.pi2 ?_; intro _) | intro _)
def Cc (nE : Nat)  : ((List (Int × Int × Int × Int)) × Int) → Option (((List (Int × Int × Int × Int)) × Int) ⊕ (List (Int × Int × Int × Int)))
  | (x18, x19) => (if 1 ≤ x19 then (ix x18 x19).bind fun x20 => (ix x18 (AC (x19 - 1))).bind fun x21 => (BX nE x20 x21).bind fun x22 => (if (!(decide (x22 < 0))) = true then some (.inr x18) else (ix x18 (AC (x19 - 1))).bind fun x23 => (ix x18 x19).bind fun x24 => (ix x18 x19).bind fun x25 => (ix (Aw x18 x19 x23) (AC (x19 - 1))).bind fun x26 => some (.inl ((Aw (Aw x18 x19 x23) (AC (x19 - 1)) x24), AC (x19 - 1)))) else some (.inr x18))
theorem D8 (nE : Nat)  : ∀ s, Le (Cc nE  s) (AD  s) := by
  rintro ⟨x18, x19⟩
  unfold Cc AD
  repeat' with_reducible (first | refine Le.orR' ?_ ?_ | refine Le.bind' ?_ ?_ | refine Le.ite' ?_ ?_ | refine Le.loop' ?_ | refine Le.altS' ?_ ?_ | apply B6 | exact Le.rfl' _ | (refine Le.pi2 ?_; intro _) | intro _)
def Ce (nE : Nat) (p2 : Int) (x7 : Int) : ((List (Int × Int × Int × Int)) × Int) → Option (((List (Int × Int × Int × Int)) × Int) ⊕ (((List (Int × Int × Int × Int)) × Int) ⊕ (((List (Int × Int × Int × Int)) × Int × Int) ⊕ ((List (Int × Int × Int × Int)) ⊕ (Bool × (List (Int × Int × Int × Int)))))))
  | (x27, x28) => (if x28 < p2 then (ix x27 x28).bind fun x29 => (ix x27 (AC (x28 - 1))).bind fun x30 => (BX nE x29 x30).bind fun x31 => (if (!(decide (x31 < 0))) = true then some (.inr (.inl (x27, x7))) else (ix x27 (AC (x28 - 1))).bind fun x32 => (ix x27 x28).bind fun x33 => (ix x27 x28).bind fun x34 => (ix (Aw x27 x28 x32) (AC (x28 - 1))).bind fun x35 => some (.inl ((Aw (Aw x27 x28 x32) (AC (x28 - 1)) x33), AC (x28 + 1)))) else some (.inr (.inl (x27, x7))))
theorem D7 (nE : Nat) (p2 : Int) (x7 : Int) : ∀ s, Le (Ce nE p2 x7 s) (AH p2 x7 s) := by
  rintro ⟨x27, x28⟩
  unfold Ce AH
  repeat' with_reducible (first | refine Le.orR' ?_ ?_ | refine Le.bind' ?_ ?_ | refine Le.ite' ?_ ?_ | refine Le.loop' ?_ | refine Le.altS' ?_ ?_ | apply B6 | exact Le.rfl' _ | (refine Le.pi2 ?_; intro _) | intro _)
def Cb (nE : Nat) (p1 : Int) (p2 : Int) : ((List (Int × Int × Int × Int)) × Int × Int) → Option (((List (Int × Int × Int × Int)) × Int × Int) ⊕ ((List (Int × Int × Int × Int)) ⊕ (Bool × (List (Int × Int × Int × Int)))))
  | (x2, x3, x4) => (if x4 < 5 then FN ((C8 nE (Cd nE p2 x2) x3).bind fun x7 => (if x7 = p2 then some (.inr (.inr (.inr (true, x2)))) else (if (AC (p2 - p1)) < 50 then some (.inr (.inr (.inr (false, x2)))) else (ix x2 (AC (x7 - 1))).bind fun x13 => (ix x2 x7).bind fun x14 => (ix x2 x7).bind fun x15 => (ix (Aw x2 x7 x13) (AC (x7 - 1))).bind fun x16 => (if 2 ≤ (AC (x7 - p1)) then C8 nE (Cc nE) ((Aw (Aw x2 x7 x13) (AC (x7 - 1)) x14), AC (x7 - 1)) else some (Aw (Aw x2 x7 x13) (AC (x7 - 1)) x14)).bind fun x17 => (if 2 ≤ (AC (p2 - x7)) then C8 nE (Ce nE p2 x7) (x17, AC (x7 + 1)) else some (.inl (x17, x7)))))) fun (x5, x6) => some (.inl (x5, x6, AC (x4 + 1))) else some (.inr (.inl x2)))
theorem D9 (nE : Nat) (p1 : Int) (p2 : Int) : ∀ s, Le (Cb nE p1 p2 s) (AG p1 p2 s) := by
  rintro ⟨x2, x3, x4⟩
  unfold Cb AG
  repeat' with_reducible (first | refine Le.orR' ?_ ?_ | refine Le.bind' ?_ ?_ | refine Le.ite' ?_ ?_ | refine Le.loop' ?_ | refine Le.altS' ?_ ?_ | apply D6 | apply D8 | apply D7 | exact Le.rfl' _ | (refine Le.pi2 ?_; intro _) | intro _)
def Ch (nE : Nat) (p0 : List (Int × Int × Int × Int)) (p1 : Int) (p2 : Int) : Option (Bool × (List (Int × Int × Int × Int))) := FN (C8 nE (Cb nE p1 p2) (p0, AC (p1 + 1), 0)) fun x1 => some (false, x1)
theorem Eo (nE : Nat) (p0 : List (Int × Int × Int × Int)) (p1 : Int) (p2 : Int) : Le (Ch nE p0 p1 p2) (A1 p0 p1 p2) := by
  unfold Ch A1
  repeat' with_reducible (first | refine Le.orR' ?_ ?_ | refine Le.bind' ?_ ?_ | refine Le.ite' ?_ ?_ | refine Le.loop' ?_ | refine Le.altS' ?_ ?_ | apply D9 | exact Le.rfl' _ | (refine Le.pi2 ?_; intro _) | intro _)
def Co (nE : Nat) (p1 : Int) (x7 : List (Int × Int × Int × Int)) (x9 : Int) : Int → Option (Int ⊕ Int)
  | x11 => (if x11 ≤ x9 then (ix x7 p1).bind fun x13 => (ix x7 x11).bind fun x14 => (BX nE x13 x14).bind fun x15 => some (!(decide (x15 < 0))) else some false).bind fun x12 => (if x12 = true then some (.inl (AC (x11 + 1))) else some (.inr x11))
theorem EE (nE : Nat) (p1 : Int) (x7 : List (Int × Int × Int × Int)) (x9 : Int) : ∀ s, Le (Co nE p1 x7 x9 s) (Be p1 x7 x9 s) := by
  intro x11
  unfold Co Be
  repeat' with_reducible (first | refine Le.orR' ?_ ?_ | refine Le.bind' ?_ ?_ | refine Le.ite' ?_ ?_ | refine Le.loop' ?_ | refine Le.altS' ?_ ?_ | apply B6 | exact Le.rfl' _ | (refine Le.pi2 ?_; intro _) | intro _)
def Cn (nE : Nat) (p1 : Int) (x7 : List (Int × Int × Int × Int)) (x10 : Int) : Int → Option (Int ⊕ Int)
  | x17 => (if x10 ≤ x17 then (ix x7 p1).bind fun x19 => (ix x7 x17).bind fun x20 => (BX nE x19 x20).bind fun x21 => some (decide (x21 < 0)) else some false).bind fun x18 => (if x18 = true then some (.inl (AC (x17 - 1))) else some (.inr x17))
theorem EF (nE : Nat) (p1 : Int) (x7 : List (Int × Int × Int × Int)) (x10 : Int) : ∀ s, Le (Cn nE p1 x7 x10 s) (Bd p1 x7 x10 s) := by
  intro x17
  unfold Cn Bd
  repeat' with_reducible (first | refine Le.orR' ?_ ?_ | refine Le.bind' ?_ ?_ | refine Le.ite' ?_ ?_ | refine Le.loop' ?_ | refine Le.altS' ?_ ?_ | apply B6 | exact Le.rfl' _ | (refine Le.pi2 ?_; intro _) | intro _)
def Cp (nE : Nat) (p1 : Int) : ((List (Int × Int × Int × Int)) × Int × Int) → Option (((List (Int × Int × Int × Int)) × Int × Int) ⊕ (Int × (List (Int × Int × Int × Int))))
  | (x7, x8, x9) => (C8 nE (Co nE p1 x7 x9) x8).bind fun x10 => (C8 nE (Cn nE p1 x7 x10) x9).bind fun x16 => (if x16 < x10 then some (.inr (x10, x7)) else (ix x7 x16).bind fun x22 => (ix x7 x10).bind fun x23 => (ix x7 x10).bind fun x24 => (ix (Aw x7 x10 x22) x16).bind fun x25 => some (.inl ((Aw (Aw x7 x10 x22) x16 x23), AC (x10 + 1), AC (x16 - 1))))
theorem ED (nE : Nat) (p1 : Int) : ∀ s, Le (Cp nE p1 s) (A5 p1 s) := by
  rintro ⟨x7, x8, x9⟩
  unfold Cp A5
  repeat' with_reducible (first | refine Le.orR' ?_ ?_ | refine Le.bind' ?_ ?_ | refine Le.ite' ?_ ?_ | refine Le.loop' ?_ | refine Le.altS' ?_ ?_ | apply EE | apply EF | exact Le.rfl' _ | (refine Le.pi2 ?_; intro _) | intro _)
def Cx (nE : Nat) (p0 : List (Int × Int × Int × Int)) (p1 : Int) (p2 : Int) (p3 : Int) : Option (Int × (List (Int × Int × Int × Int))) := (ix p0 p3).bind fun x1 => (ix p0 p1).bind fun x2 => (ix p0 p1).bind fun x3 => (ix (Aw p0 p1 x1) p3).bind fun x4 => (C8 nE (Cp nE p1) ((Aw (Aw p0 p1 x1) p3 x2), AC (p1 + 1), AC (p2 - 1))).bind fun (x5, x6) => some (x5, x6)
theorem EV (nE : Nat) (p0 : List (Int × Int × Int × Int)) (p1 : Int) (p2 : Int) (p3 : Int) : Le (Cx nE p0 p1 p2 p3) (Bp p0 p1 p2 p3) := by
  unfold Cx Bp
  repeat' with_reducible (first | refine Le.orR' ?_ ?_ | refine Le.bind' ?_ ?_ | refine Le.ite' ?_ ?_ | refine Le.loop' ?_ | refine Le.altS' ?_ ?_ | apply ED | exact Le.rfl' _ | (refine Le.pi2 ?_; intro _) | intro _)
def CL (nE : Nat) (p0 : List (Int × Int × Int × Int)) (p1 : Int) (p2 : Int) (p3 : Int) (x1 : Int × Int × Int × Int) (x2 : Int × Int × Int × Int) : Int → Option (Int ⊕ Int)
  | x6 => (if x6 ≤ (AC (p2 - 1)) then (ix (Aw (Aw p0 p1 x1) p3 x2) x6).bind fun x8 => (ix (Aw (Aw p0 p1 x1) p3 x2) p1).bind fun x9 => (BX nE x8 x9).bind fun x10 => some (decide (x10 < 0)) else some false).bind fun x7 => (if x7 = true then some (.inl (AC (x6 + 1))) else some (.inr x6))
theorem Fm (nE : Nat) (p0 : List (Int × Int × Int × Int)) (p1 : Int) (p2 : Int) (p3 : Int) (x1 : Int × Int × Int × Int) (x2 : Int × Int × Int × Int) : ∀ s, Le (CL nE p0 p1 p2 p3 x1 x2 s) (Bg p0 p1 p2 p3 x1 x2 s) := by
  intro x6
  unfold CL Bg
  repeat' with_reducible (first | refine Le.orR' ?_ ?_ | refine Le.bind' ?_ ?_ | refine Le.ite' ?_ ?_ | refine Le.loop' ?_ | refine Le.altS' ?_ ?_ | apply B6 | exact Le.rfl' _ | (refine Le.pi2 ?_; intro _) | intro _)
def CM (nE : Nat) (p0 : List (Int × Int × Int × Int)) (p1 : Int) (p3 : Int) (x1 : Int × Int × Int × Int) (x2 : Int × Int × Int × Int) (x5 : Int) : Int → Option (Int ⊕ Int)
  | x12 => (if x5 ≤ x12 then (ix (Aw (Aw p0 p1 x1) p3 x2) x12).bind fun x14 => (ix (Aw (Aw p0 p1 x1) p3 x2) p1).bind fun x15 => (BX nE x14 x15).bind fun x16 => some (!(decide (x16 < 0))) else some false).bind fun x13 => (if x13 = true then some (.inl (AC (x12 - 1))) else some (.inr x12))
theorem Fj (nE : Nat) (p0 : List (Int × Int × Int × Int)) (p1 : Int) (p3 : Int) (x1 : Int × Int × Int × Int) (x2 : Int × Int × Int × Int) (x5 : Int) : ∀ s, Le (CM nE p0 p1 p3 x1 x2 x5 s) (BE p0 p1 p3 x1 x2 x5 s) := by
  intro x12
  unfold CM BE
  repeat' with_reducible (first | refine Le.orR' ?_ ?_ | refine Le.bind' ?_ ?_ | refine Le.ite' ?_ ?_ | refine Le.loop' ?_ | refine Le.altS' ?_ ?_ | apply B6 | exact Le.rfl' _ | (refine Le.pi2 ?_; intro _) | intro _)
def CF (nE : Nat) (p1 : Int) (x27 : List (Int × Int × Int × Int)) (x29 : Int) : Int → Option (Int ⊕ Int)
  | x31 => (if x31 ≤ x29 then (ix x27 x31).bind fun x33 => (ix x27 p1).bind fun x34 => (BX nE x33 x34).bind fun x35 => some (decide (x35 < 0)) else some false).bind fun x32 => (if x32 = true then some (.inl (AC (x31 + 1))) else some (.inr x31))
theorem Fh (nE : Nat) (p1 : Int) (x27 : List (Int × Int × Int × Int)) (x29 : Int) : ∀ s, Le (CF nE p1 x27 x29 s) (BD p1 x27 x29 s) := by
  intro x31
  unfold CF BD
  repeat' with_reducible (first | refine Le.orR' ?_ ?_ | refine Le.bind' ?_ ?_ | refine Le.ite' ?_ ?_ | refine Le.loop' ?_ | refine Le.altS' ?_ ?_ | apply B6 | exact Le.rfl' _ | (refine Le.pi2 ?_; intro _) | intro _)
def CJ (nE : Nat) (p1 : Int) (x27 : List (Int × Int × Int × Int)) (x30 : Int) : Int → Option (Int ⊕ Int)
  | x37 => (if x30 ≤ x37 then (ix x27 x37).bind fun x39 => (ix x27 p1).bind fun x40 => (BX nE x39 x40).bind fun x41 => some (!(decide (x41 < 0))) else some false).bind fun x38 => (if x38 = true then some (.inl (AC (x37 - 1))) else some (.inr x37))
theorem Fg (nE : Nat) (p1 : Int) (x27 : List (Int × Int × Int × Int)) (x30 : Int) : ∀ s, Le (CJ nE p1 x27 x30 s) (BC p1 x27 x30 s) := by
  intro x37
  unfold CJ BC
  repeat' with_reducible (first | refine Le.orR' ?_ ?_ | refine Le.bind' ?_ ?_ | refine Le.ite' ?_ ?_ | refine Le.loop' ?_ | refine Le.altS' ?_ ?_ | apply B6 | exact Le.rfl' _ | (refine Le.pi2 ?_; intro _) | intro _)
def CO (nE : Nat) (p1 : Int) : ((List (Int × Int × Int × Int)) × Int × Int) → Option (((List (Int × Int × Int × Int)) × Int × Int) ⊕ ((List (Int × Int × Int × Int)) × Int))
  | (x27, x28, x29) => (C8 nE (CF nE p1 x27 x29) x28).bind fun x30 => (C8 nE (CJ nE p1 x27 x30) x29).bind fun x36 => (if x36 < x30 then some (.inr (x27, x36)) else (ix x27 x36).bind fun x42 => (ix x27 x30).bind fun x43 => (ix x27 x30).bind fun x44 => (ix (Aw x27 x30 x42) x36).bind fun x45 => some (.inl ((Aw (Aw x27 x30 x42) x36 x43), AC (x30 + 1), AC (x36 - 1))))
theorem Fe (nE : Nat) (p1 : Int) : ∀ s, Le (CO nE p1 s) (A8 p1 s) := by
  rintro ⟨x27, x28, x29⟩
  unfold CO A8
  repeat' with_reducible (first | refine Le.orR' ?_ ?_ | refine Le.bind' ?_ ?_ | refine Le.ite' ?_ ?_ | refine Le.loop' ?_ | refine Le.altS' ?_ ?_ | apply Fh | apply Fg | exact Le.rfl' _ | (refine Le.pi2 ?_; intro _) | intro _)
def C4 (nE : Nat) (p0 : List (Int × Int × Int × Int)) (p1 : Int) (p2 : Int) (p3 : Int) : Option (Int × Bool × (List (Int × Int × Int × Int))) := (ix p0 p3).bind fun x1 => (ix p0 p1).bind fun x2 => (ix p0 p1).bind fun x3 => (ix (Aw p0 p1 x1) p3).bind fun x4 => (C8 nE (CL nE p0 p1 p2 p3 x1 x2) (AC (p1 + 1))).bind fun x5 => (C8 nE (CM nE p0 p1 p3 x1 x2 x5) (AC (p2 - 1))).bind fun x11 => (if x11 < x5 then (ix (Aw (Aw p0 p1 x1) p3 x2) p1).bind fun x17 => (ix (Aw (Aw p0 p1 x1) p3 x2) x11).bind fun x18 => (ix (Aw (Aw p0 p1 x1) p3 x2) x11).bind fun x19 => (ix (Aw (Aw (Aw p0 p1 x1) p3 x2) x11 x17) p1).bind fun x20 => some (x11, true, (Aw (Aw (Aw (Aw p0 p1 x1) p3 x2) x11 x17) p1 x18)) else (ix (Aw (Aw p0 p1 x1) p3 x2) x11).bind fun x21 => (ix (Aw (Aw p0 p1 x1) p3 x2) x5).bind fun x22 => (ix (Aw (Aw p0 p1 x1) p3 x2) x5).bind fun x23 => (ix (Aw (Aw (Aw p0 p1 x1) p3 x2) x5 x21) x11).bind fun x24 => (C8 nE (CO nE p1) ((Aw (Aw (Aw (Aw p0 p1 x1) p3 x2) x5 x21) x11 x22), AC (x5 + 1), AC (x11 - 1))).bind fun (x25, x26) => (ix x25 p1).bind fun x46 => (ix x25 x26).bind fun x47 => (ix x25 x26).bind fun x48 => (ix (Aw x25 x26 x46) p1).bind fun x49 => some (x26, false, (Aw (Aw x25 x26 x46) p1 x47)))
theorem FR (nE : Nat) (p0 : List (Int × Int × Int × Int)) (p1 : Int) (p2 : Int) (p3 : Int) : Le (C4 nE p0 p1 p2 p3) (BN p0 p1 p2 p3) := by
  unfold C4 BN
  repeat' with_reducible (first | refine Le.orR' ?_ ?_ | refine Le.bind' ?_ ?_ | refine Le.ite' ?_ ?_ | refine Le.loop' ?_ | refine Le.altS' ?_ ?_ | apply Fm | apply Fj | apply Fe | exact Le.rfl' _ | (refine Le.pi2 ?_; intro _) | intro _)
def EI (nE : Nat) (p0 : Int) : Option Int := (E5 nE (IntKind.u64.wrap p0)).bind fun x1 => (Qt (Ed .u64 1 x1) x1).bind fun x2 => some x2
theorem H6 (nE : Nat) (p0 : Int) : Le (EI nE p0) (Cl p0) := by
  unfold EI Cl
  repeat' with_reducible (first | refine Le.orR' ?_ ?_ | refine Le.bind' ?_ ?_ | refine Le.ite' ?_ ?_ | refine Le.loop' ?_ | refine Le.altS' ?_ ?_ | apply GX | exact Le.rfl' _ | (refine Le.pi2 ?_; intro _) | intro _)
def Cr (nE : Nat) (p1 : Int) (p2 : Int) (x1 : Int) : ((List (Int × Int × Int × Int)) × Int × Int) → Option (((List (Int × Int × Int × Int)) × Int × Int) ⊕ (List (Int × Int × Int × Int)))
  | (x2, x3, x4) => (if x3 ≤ (AC ((AC (p1 + (AC ((AC (Int.tdiv (AC (p2 - p1)) 4)) * 2)))) + 1)) then (if (AC (p2 - p1)) ≤ (AC (LA .u64 ((Bl x4).1) (IntKind.u64.wrap (x1 - 1)))) then some (AC ((AC (LA .u64 ((Bl x4).1) (IntKind.u64.wrap (x1 - 1)))) - (AC (p2 - p1)))) else some (AC (LA .u64 ((Bl x4).1) (IntKind.u64.wrap (x1 - 1))))).bind fun x5 => (ix x2 (AC (p1 + x5))).bind fun x6 => (ix x2 x3).bind fun x7 => (ix x2 x3).bind fun x8 => (ix (Aw x2 x3 x6) (AC (p1 + x5))).bind fun x9 => some (.inl ((Aw (Aw x2 x3 x6) (AC (p1 + x5)) x7), AC (x3 + 1), (Bl x4).2)) else some (.inr x2))
theorem EH (nE : Nat) (p1 : Int) (p2 : Int) (x1 : Int) : ∀ s, Le (Cr nE p1 p2 x1 s) (A6 p1 p2 x1 s) := by
  rintro ⟨x2, x3, x4⟩
  unfold Cr A6
  repeat' with_reducible (first | refine Le.orR' ?_ ?_ | refine Le.bind' ?_ ?_ | refine Le.ite' ?_ ?_ | refine Le.loop' ?_ | refine Le.altS' ?_ ?_ | exact Le.rfl' _ | (refine Le.pi2 ?_; intro _) | intro _)
def CC (nE : Nat) (p0 : List (Int × Int × Int × Int)) (p1 : Int) (p2 : Int) : Option (List (Int × Int × Int × Int)) := (if 8 ≤ (AC (p2 - p1)) then (EI nE (AC (p2 - p1))).bind fun x1 => C8 nE (Cr nE p1 p2 x1) (p0, AC ((AC (p1 + (AC ((AC (Int.tdiv (AC (p2 - p1)) 4)) * 2)))) - 1), IntKind.u64.wrap (AC (p2 - p1))) else some p0)
theorem E3 (nE : Nat) (p0 : List (Int × Int × Int × Int)) (p1 : Int) (p2 : Int) : Le (CC nE p0 p1 p2) (Bb p0 p1 p2) := by
  unfold CC Bb
  repeat' with_reducible (first | refine Le.orR' ?_ ?_ | refine Le.bind' ?_ ?_ | refine Le.ite' ?_ ?_ | refine Le.loop' ?_ | refine Le.altS' ?_ ?_ | apply H6 | apply EH | exact Le.rfl' _ | (refine Le.pi2 ?_; intro _) | intro _)
def CZ (nE : Nat) (fRec : (List (Int × Int × Int × Int)) → Int → Int → Int → Option (List (Int × Int × Int × Int))) : ((List (Int × Int × Int × Int)) × Int × Int × Int × Bool × Bool) → Option (((List (Int × Int × Int × Int)) × Int × Int × Int × Bool × Bool) ⊕ (List (Int × Int × Int × Int)))
  | (x1, x2, x3, x4, x5, x6) => (if (AC (x3 - x2)) ≤ 12 then (CE nE x1 x2 x3).bind fun x7 => some (.inr x7) else (if x4 = 0 then (Db nE x1 x2 x3).bind fun x8 => some (.inr x8) else (if (!x5) = true then (CC nE x1 x2 x3).bind fun x11 => some (x11, AC (x4 - 1)) else some (x1, x4)).bind fun (x9, x10) => (CU nE x9 x2 x3).bind fun x12 => (if x12.2 = 2 then (CH nE x9 x2 x3).bind fun x16 => some (x16, AC ((AC (x3 - 1)) - (AC (x12.1 - x2))), 1) else some (x9, x12.1, x12.2)).bind fun (x13, x14, x15) => FN (if (x5 && (x6 && decide (x15 = 1))) = true then (Ch nE x13 x2 x3).bind fun x18 => (if x18.1 = true then some (.inr (.inr x18.2)) else some (.inl x18.2)) else some (.inl x13)) fun x17 => (if 0 < x2 then (ix x17 (AC (x2 - 1))).bind fun x20 => (ix x17 x14).bind fun x21 => (BX nE x20 x21).bind fun x22 => some (!(decide (x22 < 0))) else some false).bind fun x19 => (if x19 = true then (Cx nE x17 x2 x3 x14).bind fun x23 => some (.inl (x23.2, x23.1, x3, x10, (x5 && (x6 || true)), (bif x5 then x6 else x6))) else (C4 nE x17 x2 x3 x14).bind fun x24 => (if (AC (x24.1 - x2)) < (AC (x3 - x24.1)) then (fRec x24.2.2 x2 x24.1 x10).bind fun x25 => some (.inl (x25, AC (x24.1 + 1), x3, x10, decide ((AC (Int.tdiv (AC (x3 - x2)) 8)) ≤ (AC (x24.1 - x2))), x24.2.1)) else (fRec x24.2.2 (AC (x24.1 + 1)) x3 x10).bind fun x26 => some (.inl (x26, x2, x24.1, x10, decide ((AC (Int.tdiv (AC (x3 - x2)) 8)) ≤ (AC (x3 - x24.1))), x24.2.1))))))
theorem FH (nE : Nat) {fRec fRec' : (List (Int × Int × Int × Int)) → Int → Int → Int → Option (List (Int × Int × Int × Int))} (hR : ∀ a0 a1 a2 a3, Le (fRec a0 a1 a2 a3) (fRec' a0 a1 a2 a3)) : ∀ s, Le (CZ nE fRec s) (As fRec' s) := by
  rintro ⟨x1, x2, x3, x4, x5, x6⟩
  unfold CZ As
  repeat' with_reducible (first | refine Le.orR' ?_ ?_ | refine Le.bind' ?_ ?_ | refine Le.ite' ?_ ?_ | refine Le.loop' ?_ | refine Le.altS' ?_ ?_ | exact hR _ _ _ _ | apply B6 | apply E7 | apply FU | apply Fw | apply Ff | apply Eo | apply EV | apply FR | apply E3 | exact Le.rfl' _ | (refine Le.pi2 ?_; intro _) | intro _)
theorem FJ {fRec fRec' : (List (Int × Int × Int × Int)) → Int → Int → Int → Option (List (Int × Int × Int × Int))} (hR : ∀ a0 a1 a2 a3, Le (fRec a0 a1 a2 a3) (fRec' a0 a1 a2 a3)) : ∀ s, Le (As fRec s) (As fRec' s) := by
  rintro ⟨x1, x2, x3, x4, x5, x6⟩
  show Le (As fRec (x1, x2, x3, x4, x5, x6)) (As fRec' (x1, x2, x3, x4, x5, x6))
  unfold As
  repeat' with_reducible (first | refine Le.orR' ?_ ?_ | refine Le.bind' ?_ ?_ | refine Le.ite' ?_ ?_ | refine Le.loopM ?_ | refine Le.altS' ?_ ?_ | exact hR _ _ _ _ | exact Le.rfl' _ | (refine Le.pi2 ?_; intro _) | intro _)
def C0 (nE : Nat) (fRec : (List (Int × Int × Int × Int)) → Int → Int → Int → Option (List (Int × Int × Int × Int))) (p0 : List (Int × Int × Int × Int)) (p1 : Int) (p2 : Int) (p3 : Int) : Option (List (Int × Int × Int × Int)) := C8 nE (CZ nE fRec) (p0, p1, p2, p3, true, true)
theorem FB (nE : Nat) {fRec fRec' : (List (Int × Int × Int × Int)) → Int → Int → Int → Option (List (Int × Int × Int × Int))} (hR : ∀ a0 a1 a2 a3, Le (fRec a0 a1 a2 a3) (fRec' a0 a1 a2 a3)) (p0 : List (Int × Int × Int × Int)) (p1 : Int) (p2 : Int) (p3 : Int) : Le (C0 nE fRec p0 p1 p2 p3) (Bo fRec' p0 p1 p2 p3) := by
  unfold C0 Bo
  repeat' with_reducible (first | refine Le.orR' ?_ ?_ | refine Le.bind' ?_ ?_ | refine Le.ite' ?_ ?_ | refine Le.loop' ?_ | refine Le.altS' ?_ ?_ | exact hR _ _ _ _ | apply FH nE hR | exact Le.rfl' _ | (refine Le.pi2 ?_; intro _) | intro _)
theorem FD {fRec fRec' : (List (Int × Int × Int × Int)) → Int → Int → Int → Option (List (Int × Int × Int × Int))} (hR : ∀ a0 a1 a2 a3, Le (fRec a0 a1 a2 a3) (fRec' a0 a1 a2 a3)) (p0 : List (Int × Int × Int × Int)) (p1 : Int) (p2 : Int) (p3 : Int) : Le (Bo fRec p0 p1 p2 p3) (Bo fRec' p0 p1 p2 p3) := by
  unfold Bo
  repeat' with_reducible (first | refine Le.orR' ?_ ?_ | refine Le.bind' ?_ ?_ | refine Le.ite' ?_ ?_ | refine Le.loopM ?_ | refine Le.altS' ?_ ?_ | exact hR _ _ _ _ | apply FJ hR | exact Le.rfl' _ | (refine Le.pi2 ?_; intro _) | intro _)
def C5 (nE : Nat) : Nat → (List (Int × Int × Int × Int)) → Int → Int → Int → Option (List (Int × Int × Int × Int))
  | 0 => fun _ _ _ _ => none
  | n + 1 => C0 nE (C5 nE n)
theorem DP (nE : Nat) : ∀ (m : Nat) a0 a1 a2 a3, Le (C5 nE m a0 a1 a2 a3) (AE m a0 a1 a2 a3)
  | 0, a0, a1, a2, a3 => fun _ h => nomatch h
  | m + 1, a0, a1, a2, a3 => FB nE (DP nE m) a0 a1 a2 a3
theorem DO : ∀ (m : Nat) a0 a1 a2 a3, Le (AE m a0 a1 a2 a3) (AE (m + 1) a0 a1 a2 a3)
  | 0, a0, a1, a2, a3 => fun _ h => nomatch h
  | m + 1, a0, a1, a2, a3 => FD (DO m) a0 a1 a2 a3
def Ee (nE : Nat) (p0 : List (Int × Int × Int × Int)) (p1 : Int) (p2 : Int) (p3 : Int) : Option (List (Int × Int × Int × Int)) := C5 nE nE p0 p1 p2 p3
theorem F1 (nE : Nat) (p0 : List (Int × Int × Int × Int)) (p1 : Int) (p2 : Int) (p3 : Int) : Le (Ee nE p0 p1 p2 p3) (Cj p0 p1 p2 p3) := fun r e => PS (g := fun n => AE n p0 p1 p2 p3) (fun n r h => DO n p0 p1 p2 p3 r h) (n := nE) (DP nE nE p0 p1 p2 p3 r e)
def CK (nE : Nat) (p0 : List (Int × Int × Int × Int)) : Option (List (Int × Int × Int × Int)) := (E5 nE (IntKind.u64.wrap (p0.length : Int))).bind fun x1 => (Ee nE p0 0 (p0.length : Int) x1).bind fun x2 => some x2
theorem Fb (nE : Nat) (p0 : List (Int × Int × Int × Int)) : Le (CK nE p0) (BB p0) := by
  unfold CK BB
  repeat' with_reducible (first | refine Le.orR' ?_ ?_ | refine Le.bind' ?_ ?_ | refine Le.ite' ?_ ?_ | refine Le.loop' ?_ | refine Le.altS' ?_ ?_ | apply GX | apply F1 | exact Le.rfl' _ | (refine Le.pi2 ?_; intro _) | intro _)
def GM (nE : Nat) (p1 : List (List Int)) (p2 : List (List Int)) (x6 : Int) (x8 : List Int) : ((List (Int × Int × Int × Int)) × Int) → Option (((List (Int × Int × Int × Int)) × Int) ⊕ (List (Int × Int × Int × Int)))
  | (x9, x10) => (if x10 < (x8.length : Int) then ((ix x8 x10).bind fun x12 => (ix p2 x10).bind fun x13 => (ix x13 x6).bind fun x14 => (ix p1 x10).bind fun x15 => (ix x15 x6).bind fun x16 => (if x14 ≠ x16 then (LZ x9 ([(x10, x6, x14, x12)] : List (Int × Int × Int × Int))).bind fun x17 => some x17 else some x9)).bind fun x11 => some (.inl (x11, AC (x10 + 1))) else some (.inr x9))
theorem JK (nE : Nat) (p1 : List (List Int)) (p2 : List (List Int)) (x6 : Int) (x8 : List Int) : ∀ s, Le (GM nE p1 p2 x6 x8 s) (CQ p1 p2 x6 x8 s) := by
  rintro ⟨x9, x10⟩
  unfold GM CQ
  repeat' with_reducible (first | refine Le.orR' ?_ ?_ | refine Le.bind' ?_ ?_ | refine Le.ite' ?_ ?_ | refine Le.loop' ?_ | refine Le.altS' ?_ ?_ | exact Le.rfl' _ | (refine Le.pi2 ?_; intro _) | intro _)
def GR (nE : Nat) (p0 : Int × (List (Int × Int × Int × Int × Int × Int)) × (List (Int × Int))) (p1 : List (List Int)) (p2 : List (List Int)) : ((List (Int × Int × Int × Int)) × Int) → Option (((List (Int × Int × Int × Int)) × Int) ⊕ (List (Int × Int × Int × Int)))
  | (x5, x6) => (if x6 < (p0.2.2.length : Int) then ((IR nE p0 p2 x6).bind fun x8 => C8 nE (GM nE p1 p2 x6 x8) (x5, 0)).bind fun x7 => some (.inl (x7, AC (x6 + 1))) else some (.inr x5))
theorem JZ (nE : Nat) (p0 : Int × (List (Int × Int × Int × Int × Int × Int)) × (List (Int × Int))) (p1 : List (List Int)) (p2 : List (List Int)) : ∀ s, Le (GR nE p0 p1 p2 s) (Du p0 p1 p2 s) := by
  rintro ⟨x5, x6⟩
  unfold GR Du
  repeat' with_reducible (first | refine Le.orR' ?_ ?_ | refine Le.bind' ?_ ?_ | refine Le.ite' ?_ ?_ | refine Le.loop' ?_ | refine Le.altS' ?_ ?_ | apply Mn | apply JK | exact Le.rfl' _ | (refine Le.pi2 ?_; intro _) | intro _)
def Ib (nE : Nat) (p0 : Int × (List (Int × Int × Int × Int × Int × Int)) × (List (Int × Int))) (p1 : List (List Int)) (p2 : List (List Int)) : Option ((List (Int × Int × Int × Int)) × Int) := ((Hz nE p0 p1).bind fun x2 => (if (!x2) = true then some true else (Hz nE p0 p2).bind fun x3 => some (!x3))).bind fun x1 => (if x1 = true then some (([] : List (Int × Int × Int × Int)), 2) else (C8 nE (GR nE p0 p1 p2) ([], 0)).bind fun x4 => (CK nE x4).bind fun x18 => some (x18, 0))
theorem Li (nE : Nat) (p0 : Int × (List (Int × Int × Int × Int × Int × Int)) × (List (Int × Int))) (p1 : List (List Int)) (p2 : List (List Int)) : Le (Ib nE p0 p1 p2) (ET p0 p1 p2) := by
  unfold Ib ET
  repeat' with_reducible (first | refine Le.orR' ?_ ?_ | refine Le.bind' ?_ ?_ | refine Le.ite' ?_ ?_ | refine Le.loop' ?_ | refine Le.altS' ?_ ?_ | apply Lu | apply Fb | apply JZ | exact Le.rfl' _ | (refine Le.pi2 ?_; intro _) | intro _)
def C3 (nE : Nat) (p1 : Int) : (List Int × Int) → Option ((List Int × Int) ⊕ (List Int))
  | (x4, x5) => (if p1 < x5 then (ix x4 x5).bind fun x7 => (ix x4 (AC (x5 - 1))).bind fun x8 => some (Gu x7 x8) else some false).bind fun x6 => (if x6 = true then (ix x4 (AC (x5 - 1))).bind fun x9 => (ix x4 x5).bind fun x10 => (ix x4 x5).bind fun x11 => (ix (Aw x4 x5 x9) (AC (x5 - 1))).bind fun x12 => some (.inl ((Aw (Aw x4 x5 x9) (AC (x5 - 1)) x10), AC (x5 - 1))) else some (.inr x4))
theorem FQ (nE : Nat) (p1 : Int) : ∀ s, Le (C3 nE p1 s) (Cu p1 s) := by
  rintro ⟨x4, x5⟩
  unfold C3 Cu
  repeat' with_reducible (first | refine Le.orR' ?_ ?_ | refine Le.bind' ?_ ?_ | refine Le.ite' ?_ ?_ | refine Le.loop' ?_ | refine Le.altS' ?_ ?_ | exact Le.rfl' _ | (refine Le.pi2 ?_; intro _) | intro _)
def C7 (nE : Nat) (p1 : Int) (p2 : Int) : (List Int × Int) → Option ((List Int × Int) ⊕ (List Int))
  | (x1, x2) => (if x2 < p2 then (C8 nE (C3 nE p1) (x1, x2)).bind fun x3 => some (.inl (x3, AC (x2 + 1))) else some (.inr x1))
theorem FP (nE : Nat) (p1 : Int) (p2 : Int) : ∀ s, Le (C7 nE p1 p2 s) (Cw p1 p2 s) := by
  rintro ⟨x1, x2⟩
  unfold C7 Cw
  repeat' with_reducible (first | refine Le.orR' ?_ ?_ | refine Le.bind' ?_ ?_ | refine Le.ite' ?_ ?_ | refine Le.loop' ?_ | refine Le.altS' ?_ ?_ | apply FQ | exact Le.rfl' _ | (refine Le.pi2 ?_; intro _) | intro _)
def Dq (nE : Nat) (p0 : List Int) (p1 : Int) (p2 : Int) : Option (List Int) := C8 nE (C7 nE p1 p2) (p0, AC (p1 + 1))
theorem F9 (nE : Nat) (p0 : List Int) (p1 : Int) (p2 : Int) : Le (Dq nE p0 p1 p2) (Ck p0 p1 p2) := by
  unfold Dq Ck
  repeat' with_reducible (first | refine Le.orR' ?_ ?_ | refine Le.bind' ?_ ?_ | refine Le.ite' ?_ ?_ | refine Le.loop' ?_ | refine Le.altS' ?_ ?_ | apply FP | exact Le.rfl' _ | (refine Le.pi2 ?_; intro _) | intro _)
def DA (nE : Nat) (p0 : List Int) (p1 : Int) (p2 : Int) : Unit → Option (Unit ⊕ (List Int))
  | _ => (if (AC (p2 - p1)) ≤ 12 then (Dq nE p0 p1 p2).bind fun x1 => some (.inr x1) else none)
theorem GI (nE : Nat) (p0 : List Int) (p1 : Int) (p2 : Int) : ∀ s, Le (DA nE p0 p1 p2 s) (Df p0 p1 p2 s) := by
  intro s
  unfold DA Df
  repeat' with_reducible (first | refine Le.orR' ?_ ?_ | refine Le.bind' ?_ ?_ | refine Le.ite' ?_ ?_ | refine Le.loop' ?_ | refine Le.altS' ?_ ?_ | apply F9 | exact Le.rfl' _ | (refine Le.pi2 ?_; intro _) | intro _)
def D2 (nE : Nat) (p0 : List Int) (p1 : Int) (p2 : Int) (p3 : Int) : Option (List Int) := C8 nE (DA nE p0 p1 p2) ()
theorem Hr (nE : Nat) (p0 : List Int) (p1 : Int) (p2 : Int) (p3 : Int) : Le (D2 nE p0 p1 p2 p3) (C2 p0 p1 p2 p3) := by
  unfold D2 C2
  repeat' with_reducible (first | refine Le.orR' ?_ ?_ | refine Le.bind' ?_ ?_ | refine Le.ite' ?_ ?_ | refine Le.loop' ?_ | refine Le.altS' ?_ ?_ | apply GI | exact Le.rfl' _ | (refine Le.pi2 ?_; intro _) | intro _)
def Fk (nE : Nat) (p0 : List Int) : Option (List Int) := (E5 nE (IntKind.u64.wrap (p0.length : Int))).bind fun x1 => (D2 nE p0 0 (p0.length : Int) x1).bind fun x2 => some x2
theorem IB (nE : Nat) (p0 : List Int) : Le (Fk nE p0) (DT p0) := by
  unfold Fk DT
  repeat' with_reducible (first | refine Le.orR' ?_ ?_ | refine Le.bind' ?_ ?_ | refine Le.ite' ?_ ?_ | refine Le.loop' ?_ | refine Le.altS' ?_ ?_ | apply GX | apply Hr | exact Le.rfl' _ | (refine Le.pi2 ?_; intro _) | intro _)
def DY (nE : Nat) (p0 : List Int) (x1 : Int) : (List Int × Int × Int) → Option ((List Int × Int × Int) ⊕ (List Int × Int))
  | (x7, x8, x9) => (I2 x7 x1 (p0.length : Int)).bind fun x10 => (if x9 < (x10.length : Int) then ((ix x10 x9).bind fun x13 => (ix x10 (AC (x9 - 1))).bind fun x14 => (if x13 ≠ x14 then (ix x10 x9).bind fun x15 => (ix x7 x8).bind fun x16 => some ((Aw x7 x8 x15), AC (x8 + 1)) else some (x7, x8))).bind fun (x11, x12) => some (.inl (x11, x12, AC (x9 + 1))) else some (.inr (x7, x8)))
theorem Hj (nE : Nat) (p0 : List Int) (x1 : Int) : ∀ s, Le (DY nE p0 x1 s) (Dy p0 x1 s) := by
  rintro ⟨x7, x8, x9⟩
  unfold DY Dy
  repeat' with_reducible (first | refine Le.orR' ?_ ?_ | refine Le.bind' ?_ ?_ | refine Le.ite' ?_ ?_ | refine Le.loop' ?_ | refine Le.altS' ?_ ?_ | exact Le.rfl' _ | (refine Le.pi2 ?_; intro _) | intro _)
def DX (nE : Nat) (p0 : List Int) : Int → Option (Int ⊕ (Unit ⊕ (List Int)))
  | x1 => (if x1 < (p0.length : Int) then FN ((ix p0 x1).bind fun x2 => (ix p0 (AC (x1 - 1))).bind fun x3 => (if x2 = x3 then (I2 p0 x1 (p0.length : Int)).bind fun x4 => (C8 nE (DY nE p0 x1) (p0, x1, 1)).bind fun (x5, x6) => (I2 x5 x6 (x5.length : Int)).bind fun x17 => (QR x5 x6 (List.replicate (x17.length) (0 : Int))).bind fun x18 => (I2 x18 0 x6).bind fun x19 => some (.inr (.inr (.inr x19))) else some (.inl ()))) fun _ => some (.inl (AC (x1 + 1))) else some (.inr (.inl ())))
theorem Hl (nE : Nat) (p0 : List Int) : ∀ s, Le (DX nE p0 s) (Dz p0 s) := by
  intro x1
  unfold DX Dz
  repeat' with_reducible (first | refine Le.orR' ?_ ?_ | refine Le.bind' ?_ ?_ | refine Le.ite' ?_ ?_ | refine Le.loop' ?_ | refine Le.altS' ?_ ?_ | apply Hj | exact Le.rfl' _ | (refine Le.pi2 ?_; intro _) | intro _)
def EB (nE : Nat) (p0 : List Int) : Option (List Int) := (if (p0.length : Int) < 2 then some p0 else FN (C8 nE (DX nE p0) 1) fun _ => some p0)
theorem HS (nE : Nat) (p0 : List Int) : Le (EB nE p0) (Dt p0) := by
  unfold EB Dt
  repeat' with_reducible (first | refine Le.orR' ?_ ?_ | refine Le.bind' ?_ ?_ | refine Le.ite' ?_ ?_ | refine Le.loop' ?_ | refine Le.altS' ?_ ?_ | apply Hl | exact Le.rfl' _ | (refine Le.pi2 ?_; intro _) | intro _)
def Gv (nE : Nat) (p0 : List Int) : Option (List Int) := (Fk nE p0).bind fun x1 => (EB nE x1).bind fun x2 => some x2
theorem Jo (nE : Nat) (p0 : List Int) : Le (Gv nE p0) (E6 p0) := by
  unfold Gv E6
  repeat' with_reducible (first | refine Le.orR' ?_ ?_ | refine Le.bind' ?_ ?_ | refine Le.ite' ?_ ?_ | refine Le.loop' ?_ | refine Le.altS' ?_ ?_ | apply IB | apply HS | exact Le.rfl' _ | (refine Le.pi2 ?_; intro _) | intro _)
def GA (nE : Nat) (p0 : List (Int × Int × Int × Int)) : (List Int × Int) → Option ((List Int × Int) ⊕ (List Int))
  | (x2, x3) => (if x3 < (p0.length : Int) then (ix p0 x3).bind fun x4 => (LZ x2 ([x4.2.2.2] : List Int)).bind fun x5 => some (.inl (x5, AC (x3 + 1))) else some (.inr x2))
theorem Jw (nE : Nat) (p0 : List (Int × Int × Int × Int)) : ∀ s, Le (GA nE p0 s) (F5 p0 s) := by
  rintro ⟨x2, x3⟩
  unfold GA F5
  repeat' with_reducible (first | refine Le.orR' ?_ ?_ | refine Le.bind' ?_ ?_ | refine Le.ite' ?_ ?_ | refine Le.loop' ?_ | refine Le.altS' ?_ ?_ | exact Le.rfl' _ | (refine Le.pi2 ?_; intro _) | intro _)
def HQ (nE : Nat) (p0 : List (Int × Int × Int × Int)) : Option (List Int) := (C8 nE (GA nE p0) ([], 0)).bind fun x1 => (Gv nE x1).bind fun x6 => some x6
theorem Kz (nE : Nat) (p0 : List (Int × Int × Int × Int)) : Le (HQ nE p0) (GG p0) := by
  unfold HQ GG
  repeat' with_reducible (first | refine Le.orR' ?_ ?_ | refine Le.bind' ?_ ?_ | refine Le.ite' ?_ ?_ | refine Le.loop' ?_ | refine Le.altS' ?_ ?_ | apply Jo | apply Jw | exact Le.rfl' _ | (refine Le.pi2 ?_; intro _) | intro _)
def H3 (nE : Nat) (p0 : List Int) (p1 : List Int) : Int → Option (Int ⊕ (Unit ⊕ Bool))
  | x1 => (if x1 < (p0.length : Int) then (ix p0 x1).bind fun x2 => (ix p1 x1).bind fun x3 => (if x2 ≠ x3 then some (.inr (.inr false)) else some (.inl (AC (x1 + 1)))) else some (.inr (.inl ())))
theorem KQ (nE : Nat) (p0 : List Int) (p1 : List Int) : ∀ s, Le (H3 nE p0 p1 s) (FI p0 p1 s) := by
  intro x1
  unfold H3 FI
  repeat' with_reducible (first | refine Le.orR' ?_ ?_ | refine Le.bind' ?_ ?_ | refine Le.ite' ?_ ?_ | refine Le.loop' ?_ | refine Le.altS' ?_ ?_ | exact Le.rfl' _ | (refine Le.pi2 ?_; intro _) | intro _)
def Jp (nE : Nat) (p0 : List Int) (p1 : List Int) : Option Bool := (if (p0.length : Int) ≠ (p1.length : Int) then some false else FN (C8 nE (H3 nE p0 p1) 0) fun _ => some true)
theorem MI (nE : Nat) (p0 : List Int) (p1 : List Int) : Le (Jp nE p0 p1) (He p0 p1) := by
  unfold Jp He
  repeat' with_reducible (first | refine Le.orR' ?_ ?_ | refine Le.bind' ?_ ?_ | refine Le.ite' ?_ ?_ | refine Le.loop' ?_ | refine Le.altS' ?_ ?_ | apply KQ | exact Le.rfl' _ | (refine Le.pi2 ?_; intro _) | intro _)
def Kp (nE : Nat)  : Option Bool := (Ib nE (3, ([(0, 0, 1, 0, 1, 1), (1, 1, 2, 0, 1, 1), (0, 1, 2, 1, 1, 1)] : List (Int × Int × Int × Int × Int × Int)), ([(2, 7)] : List (Int × Int))) ([([0] : List Int), ([1] : List Int), ([7] : List Int)] : List (List Int)) ([([1] : List Int), ([1] : List Int), ([7] : List Int)] : List (List Int))).bind fun x1 => (if x1.2 = 0 then (if (x1.1.length : Int) = 1 then (ix x1.1 0).bind fun x3 => (if x3.1 = 0 ∧ x3.2.1 = 0 ∧ x3.2.2.1 = 1 ∧ x3.2.2.2 = 1 then (HQ nE x1.1).bind fun x4 => (Jp nE x4 ([1] : List Int)).bind fun x5 => some x5 else some false) else some false) else some false).bind fun x2 => some x2
theorem Mx (nE : Nat)  : Le (Kp nE ) (GQ ) := by
  unfold Kp GQ
  repeat' with_reducible (first | refine Le.orR' ?_ ?_ | refine Le.bind' ?_ ?_ | refine Le.ite' ?_ ?_ | refine Le.loop' ?_ | refine Le.altS' ?_ ?_ | apply Li | apply Kz | apply MI | exact Le.rfl' _ | (refine Le.pi2 ?_; intro _) | intro _)
theorem PK : GQ = some true := Mx 60 _ (by kernel_rfl)
end Go.Proofs.Ythiejmoddfenlaa
