/- Twins with fuel of HB functions: what a twin answers, the function answers. Conditions: none. -/
import Derived.Test.YthiejmoddfenlaafLP
import Derived.Test.YthiejmoddfenlaafC1
namespace Go.Proofs.Ythiejmoddfenlaa
open Go Go.RowKit
set_option linter.unusedVariables false
set_option linter.unusedSimpArgs false
set_option maxRecDepth 20000
set_option maxHeartbeats 1600000
abbrev Le {α : Type} (a b : Option α) : Prop := ∀ r, a = some r → b = some r
theorem Le.rfl' {α : Type} (a : Option α) : Le a a := fun _ h => h
theorem Le.bind' {α β : Type} {a b : Option α} {f g : α → Option β} (h : Le a b) (hf : ∀ x, Le (f x) (g x)) : Le (a.bind f) (b.bind g) := fun r e => by
  obtain ⟨x, h1, h2⟩ := Ai e
  rw [h x h1, Option.bind_some]; exact hf x r h2
theorem Le.ite' {α : Type} {c : Prop} [Decidable c] {a a' b b' : Option α} (h1 : Le a a') (h2 : Le b b') : Le (if c then a else b) (if c then a' else b') := fun r e => by
  by_cases h : c
  · rw [if_pos h] at e ⊢; exact h1 r e
  · rw [if_neg h] at e ⊢; exact h2 r e
theorem Le.orR' {α β : Type} {a b : Option (α ⊕ β)} {f g : α → Option β} (h : Le a b) (hf : ∀ x, Le (f x) (g x)) : Le (F3 a f) (F3 b g) :=
  Le.bind' h fun x => by
    cases x with
    | inl t => exact hf t
    | inr e => exact Le.rfl' _
def C3 {σ ε : Type} (n : Nat) (step : σ → Option (σ ⊕ ε)) (s : σ) : Option ε := GX step n s
theorem Jj {σ ε : Type} {S T : σ → Option (σ ⊕ ε)} (h : ∀ s, Le (S s) (T s)) : ∀ (n : Nat) (s : σ), Le (GX S n s) (GX T n s)
  | 0, s => Le.rfl' _
  | n + 1, s => fun r e => by
    unfold GX at e ⊢
    cases hs : S s with
    | none => rw [hs] at e; cases e
    | some q =>
      rw [hs] at e; rw [h s q hs]
      cases q with
      | inl s' => exact Jj h n s' r e
      | inr _ => exact e
theorem Le.loop' {σ ε : Type} {n : Nat} {S T : σ → Option (σ ⊕ ε)} {s : σ} (h : ∀ s, Le (S s) (T s)) : Le (C3 n S s) (AN T s) := fun r e => FC.2 ⟨n, Jj h n s r e⟩
theorem Le.pi2 {α β γ : Type} {f g : α × β → Option γ} (h : ∀ a b, Le (f (a, b)) (g (a, b))) : ∀ x, Le (f x) (g x) := fun x => h x.1 x.2
theorem Le.altS' {α β γ : Type} {y : α ⊕ β} {f f' : α → Option γ} {g g' : β → Option γ} (h : ∀ x, Le (f x) (f' x)) (k : ∀ x, Le (g x) (g' x)) : Le (Qu y f g) (Qu y f' g') := by
  cases y with
  | inl x => exact h x
  | inr x => exact k x
theorem Pv {β : Type} {g : Nat → Option β} (hm : ∀ n r, g n = some r → g (n + 1) = some r) {n : Nat} {r : β} (h : g n = some r) : MX g = some r := by
  have up : ∀ (d m : Nat) (q : β), g m = some q → g (m + d) = some q := fun d => by
    induction d with
    | zero => exact fun m q h => h
    | succ d ih => exact fun m q h => hm _ _ (ih m q h)
  refine NH n h fun m q hq => ?_
  have h1 := up m n r h
  have h2 := up n m q hq
  rw [Nat.add_comm] at h2
  exact Option.some.inj (h2.symm.trans h1)
theorem Le.loopM {σ ε : Type} {S T : σ → Option (σ ⊕ ε)} {s : σ} (h : ∀ s, Le (S s) (T s)) : Le (AN S s) (AN T s) := fun r e => by
  obtain ⟨n, hn⟩ := FC.1 e
  exact FC.2 ⟨n, Jj h n s r hn⟩
def GQ (nE : Nat) (p0 : Int × (List (Int × Int × Int × Int × Int × Int)) × (List (Int × Int))) : ((List (Int × Int)) × Int) → Option (((List (Int × Int)) × Int) ⊕ (List (Int × Int)))
  | (x2, x3) => (if x3 < (p0.2.1.length : Int) then (ix p0.2.1 x3).bind fun x4 => (Mg x2 ([(x4.1, x4.2.1), (x4.2.2.1, x4.2.2.2.1)] : List (Int × Int))).bind fun x5 => some (.inl (x5, AB (x3 + 1))) else some (.inr x2))
theorem Jx (nE : Nat) (p0 : Int × (List (Int × Int × Int × Int × Int × Int)) × (List (Int × Int))) : ∀ s, Le (GQ nE p0 s) (Dz p0 s) := by
  rintro ⟨x2, x3⟩
  unfold GQ Dz
  repeat' with_reducible (first | refine Le.orR' ?_ ?_ | refine Le.bind' ?_ ?_ | refine Le.ite' ?_ ?_ | refine Le.loop' ?_ | refine Le.altS' ?_ ?_ | exact Le.rfl' _ | (refine Le.pi2 ?_; intro _) | intro _)
def GI (nE : Nat) (p0 : Int × (List (Int × Int × Int × Int × Int × Int)) × (List (Int × Int))) : ((List (Int × Int)) × Int) → Option (((List (Int × Int)) × Int) ⊕ (List (Int × Int)))
  | (x7, x8) => (if x8 < (p0.2.2.length : Int) then (ix p0.2.2 x8).bind fun x9 => (Mg x7 ([x9] : List (Int × Int))).bind fun x10 => some (.inl (x10, AB (x8 + 1))) else some (.inr x7))
theorem JE (nE : Nat) (p0 : Int × (List (Int × Int × Int × Int × Int × Int)) × (List (Int × Int))) : ∀ s, Le (GI nE p0 s) (DF p0 s) := by
  rintro ⟨x7, x8⟩
  unfold GI DF
  repeat' with_reducible (first | refine Le.orR' ?_ ?_ | refine Le.bind' ?_ ?_ | refine Le.ite' ?_ ?_ | refine Le.loop' ?_ | refine Le.altS' ?_ ?_ | exact Le.rfl' _ | (refine Le.pi2 ?_; intro _) | intro _)
def H1 (nE : Nat) (p0 : Int × (List (Int × Int × Int × Int × Int × Int)) × (List (Int × Int))) : Option (List (Int × Int)) := (C3 nE (GQ nE p0) ([], 0)).bind fun x1 => (C3 nE (GI nE p0) (x1, 0)).bind fun x6 => some x6
theorem Ky (nE : Nat) (p0 : Int × (List (Int × Int × Int × Int × Int × Int)) × (List (Int × Int))) : Le (H1 nE p0) (Fo p0) := by
  unfold H1 Fo
  repeat' with_reducible (first | refine Le.orR' ?_ ?_ | refine Le.bind' ?_ ?_ | refine Le.ite' ?_ ?_ | refine Le.loop' ?_ | refine Le.altS' ?_ ?_ | apply Jx | apply JE | exact Le.rfl' _ | (refine Le.pi2 ?_; intro _) | intro _)
def CI (nE : Nat) (p0 : List (Int × Int × Int × Int × Int × Int)) : Int → Option (Int ⊕ (Unit ⊕ Int))
  | x1 => (if x1 < (p0.length : Int) then (ix p0 x1).bind fun x2 => (if (Ch x2) = true then some (.inr (.inr x1)) else some (.inl (AB (x1 + 1)))) else some (.inr (.inl ())))
theorem E3 (nE : Nat) (p0 : List (Int × Int × Int × Int × Int × Int)) : ∀ s, Le (CI nE p0 s) (A0 p0 s) := by
  intro x1
  unfold CI A0
  repeat' with_reducible (first | refine Le.orR' ?_ ?_ | refine Le.bind' ?_ ?_ | refine Le.ite' ?_ ?_ | refine Le.loop' ?_ | refine Le.altS' ?_ ?_ | exact Le.rfl' _ | (refine Le.pi2 ?_; intro _) | intro _)
def C2 (nE : Nat) (p0 : List (Int × Int × Int × Int × Int × Int)) : Option Int := F3 (C3 nE (CI nE p0) 0) fun _ => some (-1)
theorem FE (nE : Nat) (p0 : List (Int × Int × Int × Int × Int × Int)) : Le (C2 nE p0) (BV p0) := by
  unfold C2 BV
  repeat' with_reducible (first | refine Le.orR' ?_ ?_ | refine Le.bind' ?_ ?_ | refine Le.ite' ?_ ?_ | refine Le.loop' ?_ | refine Le.altS' ?_ ?_ | apply E3 | exact Le.rfl' _ | (refine Le.pi2 ?_; intro _) | intro _)
def CK (nE : Nat) (p0 : List (Int × Int × Int × Int × Int × Int)) : Option Bool := (C2 nE p0).bind fun x1 => some (decide (0 ≤ x1))
theorem E6 (nE : Nat) (p0 : List (Int × Int × Int × Int × Int × Int)) : Le (CK nE p0) (Bw p0) := by
  unfold CK Bw
  repeat' with_reducible (first | refine Le.orR' ?_ ?_ | refine Le.bind' ?_ ?_ | refine Le.ite' ?_ ?_ | refine Le.loop' ?_ | refine Le.altS' ?_ ?_ | apply FE | exact Le.rfl' _ | (refine Le.pi2 ?_; intro _) | intro _)
def He (nE : Nat) (p0 : Int × (List (Int × Int × Int × Int × Int × Int)) × (List (Int × Int))) (x2 : (List (Int × Int))) : (Int × (List ((Int × Int) × Unit))) → Option ((Int × (List ((Int × Int) × Unit))) ⊕ ((List ((Int × Int) × Unit)) ⊕ Bool))
  | (x3, x4) => (if x3 < (x2.length : Int) then (ix x2 x3).bind fun x5 => (if (decide (x5.1 < 0) || (decide (p0.1 ≤ x5.1) || (decide (x5.2 < 0) || decide (8 ≤ x5.2)))) = true then some (.inr (.inr false)) else (if ((JO x4 x5).isSome) = true then some (.inr (.inr false)) else some (.inl (AB (x3 + 1), JP x4 x5 ())))) else some (.inr (.inl x4)))
theorem JU (nE : Nat) (p0 : Int × (List (Int × Int × Int × Int × Int × Int)) × (List (Int × Int))) (x2 : (List (Int × Int))) : ∀ s, Le (He nE p0 x2 s) (C5 p0 x2 s) := by
  rintro ⟨x3, x4⟩
  unfold He C5
  repeat' with_reducible (first | refine Le.orR' ?_ ?_ | refine Le.bind' ?_ ?_ | refine Le.ite' ?_ ?_ | refine Le.loop' ?_ | refine Le.altS' ?_ ?_ | exact Le.rfl' _ | (refine Le.pi2 ?_; intro _) | intro _)
def Ix (nE : Nat) (p0 : Int × (List (Int × Int × Int × Int × Int × Int)) × (List (Int × Int))) : Option Bool := (if (decide (p0.1 < 1) || (decide (8 < p0.1) || (decide (24 < (p0.2.1.length : Int)) || decide (8 < (p0.2.2.length : Int))))) = true then some false else F3 ((H1 nE p0).bind fun x2 => C3 nE (He nE p0 x2) (0, ([] : List ((Int × Int) × Unit)))) fun x1 => (CK nE p0.2.1).bind fun x6 => some (!x6))
theorem Lf (nE : Nat) (p0 : Int × (List (Int × Int × Int × Int × Int × Int)) × (List (Int × Int))) : Le (Ix nE p0) (F8 p0) := by
  unfold Ix F8
  repeat' with_reducible (first | refine Le.orR' ?_ ?_ | refine Le.bind' ?_ ?_ | refine Le.ite' ?_ ?_ | refine Le.loop' ?_ | refine Le.altS' ?_ ?_ | apply Ky | apply E6 | apply JU | exact Le.rfl' _ | (refine Le.pi2 ?_; intro _) | intro _)
def DB (nE : Nat) (p0 : List Int) : Int → Option (Int ⊕ (Unit ⊕ Int))
  | x1 => (if x1 < (p0.length : Int) then (ix p0 x1).bind fun x2 => (if (Dr x2) = true then some (.inr (.inr x1)) else some (.inl (AB (x1 + 1)))) else some (.inr (.inl ())))
theorem GH (nE : Nat) (p0 : List Int) : ∀ s, Le (DB nE p0 s) (BD p0 s) := by
  intro x1
  unfold DB BD
  repeat' with_reducible (first | refine Le.orR' ?_ ?_ | refine Le.bind' ?_ ?_ | refine Le.ite' ?_ ?_ | refine Le.loop' ?_ | refine Le.altS' ?_ ?_ | exact Le.rfl' _ | (refine Le.pi2 ?_; intro _) | intro _)
def D8 (nE : Nat) (p0 : List Int) : Option Int := F3 (C3 nE (DB nE p0) 0) fun _ => some (-1)
theorem Hq (nE : Nat) (p0 : List Int) : Le (D8 nE p0) (CB p0) := by
  unfold D8 CB
  repeat' with_reducible (first | refine Le.orR' ?_ ?_ | refine Le.bind' ?_ ?_ | refine Le.ite' ?_ ?_ | refine Le.loop' ?_ | refine Le.altS' ?_ ?_ | apply GH | exact Le.rfl' _ | (refine Le.pi2 ?_; intro _) | intro _)
def DA (nE : Nat) (p0 : List Int) : Option Bool := (D8 nE p0).bind fun x1 => some (decide (0 ≤ x1))
theorem GK (nE : Nat) (p0 : List Int) : Le (DA nE p0) (B5 p0) := by
  unfold DA B5
  repeat' with_reducible (first | refine Le.orR' ?_ ?_ | refine Le.bind' ?_ ?_ | refine Le.ite' ?_ ?_ | refine Le.loop' ?_ | refine Le.altS' ?_ ?_ | apply Hq | exact Le.rfl' _ | (refine Le.pi2 ?_; intro _) | intro _)
def GM (nE : Nat) (p0 : Int × (List (Int × Int × Int × Int × Int × Int)) × (List (Int × Int))) (p1 : List (List Int)) : Int → Option (Int ⊕ (Unit ⊕ Bool))
  | x3 => (if x3 < (p1.length : Int) then (ix p1 x3).bind fun x4 => (if (x4.length : Int) ≠ (p0.2.2.length : Int) then some true else (DA nE x4).bind fun x6 => some x6).bind fun x5 => (if x5 = true then some (.inr (.inr false)) else some (.inl (AB (x3 + 1)))) else some (.inr (.inl ())))
theorem Js (nE : Nat) (p0 : Int × (List (Int × Int × Int × Int × Int × Int)) × (List (Int × Int))) (p1 : List (List Int)) : ∀ s, Le (GM nE p0 p1 s) (D5 p0 p1 s) := by
  intro x3
  unfold GM D5
  repeat' with_reducible (first | refine Le.orR' ?_ ?_ | refine Le.bind' ?_ ?_ | refine Le.ite' ?_ ?_ | refine Le.loop' ?_ | refine Le.altS' ?_ ?_ | apply GK | exact Le.rfl' _ | (refine Le.pi2 ?_; intro _) | intro _)
def GS (nE : Nat) (p0 : Int × (List (Int × Int × Int × Int × Int × Int)) × (List (Int × Int))) (p1 : List (List Int)) : Option Bool := ((Ix nE p0).bind fun x2 => (if (!x2) = true then some true else some (decide ((p1.length : Int) ≠ p0.1)))).bind fun x1 => (if x1 = true then some false else F3 (C3 nE (GM nE p0 p1) 0) fun _ => some true)
theorem IM (nE : Nat) (p0 : Int × (List (Int × Int × Int × Int × Int × Int)) × (List (Int × Int))) (p1 : List (List Int)) : Le (GS nE p0 p1) (EK p0 p1) := by
  unfold GS EK
  repeat' with_reducible (first | refine Le.orR' ?_ ?_ | refine Le.bind' ?_ ?_ | refine Le.ite' ?_ ?_ | refine Le.loop' ?_ | refine Le.altS' ?_ ?_ | apply Lf | apply Js | exact Le.rfl' _ | (refine Le.pi2 ?_; intro _) | intro _)
def C4 (nE : Nat) (p0 : List (Int × Int)) (p1 : Int × Int) : Int → Option (Int ⊕ (Unit ⊕ Int))
  | x1 => (if x1 < (p0.length : Int) then (ix p0 x1).bind fun x2 => (if p1.1 = x2.1 ∧ p1.2 = x2.2 then some (.inr (.inr x1)) else some (.inl (AB (x1 + 1)))) else some (.inr (.inl ())))
theorem FO (nE : Nat) (p0 : List (Int × Int)) (p1 : Int × Int) : ∀ s, Le (C4 nE p0 p1 s) (Ba p0 p1 s) := by
  intro x1
  unfold C4 Ba
  repeat' with_reducible (first | refine Le.orR' ?_ ?_ | refine Le.bind' ?_ ?_ | refine Le.ite' ?_ ?_ | refine Le.loop' ?_ | refine Le.altS' ?_ ?_ | exact Le.rfl' _ | (refine Le.pi2 ?_; intro _) | intro _)
def Do (nE : Nat) (p0 : List (Int × Int)) (p1 : Int × Int) : Option Int := F3 (C3 nE (C4 nE p0 p1) 0) fun _ => some (-1)
theorem Gf (nE : Nat) (p0 : List (Int × Int)) (p1 : Int × Int) : Le (Do nE p0 p1) (B8 p0 p1) := by
  unfold Do B8
  repeat' with_reducible (first | refine Le.orR' ?_ ?_ | refine Le.bind' ?_ ?_ | refine Le.ite' ?_ ?_ | refine Le.loop' ?_ | refine Le.altS' ?_ ?_ | apply FO | exact Le.rfl' _ | (refine Le.pi2 ?_; intro _) | intro _)
def HU (nE : Nat) (p0 : Int × (List (Int × Int × Int × Int × Int × Int)) × (List (Int × Int))) (p1 : Int) (p2 : Int) : Option Int := (Do nE p0.2.2 (p1, p2)).bind fun x1 => some x1
theorem KE (nE : Nat) (p0 : Int × (List (Int × Int × Int × Int × Int × Int)) × (List (Int × Int))) (p1 : Int) (p2 : Int) : Le (HU nE p0 p1 p2) (EJ p0 p1 p2) := by
  unfold HU EJ
  repeat' with_reducible (first | refine Le.orR' ?_ ?_ | refine Le.bind' ?_ ?_ | refine Le.ite' ?_ ?_ | refine Le.loop' ?_ | refine Le.altS' ?_ ?_ | apply Gf | exact Le.rfl' _ | (refine Le.pi2 ?_; intro _) | intro _)
def HJ (nE : Nat) (p0 : Int × (List (Int × Int × Int × Int × Int × Int)) × (List (Int × Int))) (p1 : Int) (p2 : Int) : Int → Option (Int ⊕ (Unit ⊕ (Int × Int × Int × Bool)))
  | x1 => (if x1 < (p0.2.1.length : Int) then (ix p0.2.1 x1).bind fun x2 => (if p1 = x2.1 ∧ p2 = x2.2.1 then some (.inr (.inr (x2.2.2.1, x2.2.2.2.1, x1, true))) else (if p1 = x2.2.2.1 ∧ p2 = x2.2.2.2.1 then some (.inr (.inr (x2.1, x2.2.1, x1, true))) else some (.inl (AB (x1 + 1))))) else some (.inr (.inl ())))
theorem Kf (nE : Nat) (p0 : Int × (List (Int × Int × Int × Int × Int × Int)) × (List (Int × Int))) (p1 : Int) (p2 : Int) : ∀ s, Le (HJ nE p0 p1 p2 s) (Db p0 p1 p2 s) := by
  intro x1
  unfold HJ Db
  repeat' with_reducible (first | refine Le.orR' ?_ ?_ | refine Le.bind' ?_ ?_ | refine Le.ite' ?_ ?_ | refine Le.loop' ?_ | refine Le.altS' ?_ ?_ | exact Le.rfl' _ | (refine Le.pi2 ?_; intro _) | intro _)
def IQ (nE : Nat) (p0 : Int × (List (Int × Int × Int × Int × Int × Int)) × (List (Int × Int))) (p1 : Int) (p2 : Int) : Option (Int × Int × Int × Bool) := F3 (C3 nE (HJ nE p0 p1 p2) 0) fun _ => some (0, 0, 0, false)
theorem Md (nE : Nat) (p0 : Int × (List (Int × Int × Int × Int × Int × Int)) × (List (Int × Int))) (p1 : Int) (p2 : Int) : Le (IQ nE p0 p1 p2) (EF p0 p1 p2) := by
  unfold IQ EF
  repeat' with_reducible (first | refine Le.orR' ?_ ?_ | refine Le.bind' ?_ ?_ | refine Le.ite' ?_ ?_ | refine Le.loop' ?_ | refine Le.altS' ?_ ?_ | apply Kf | exact Le.rfl' _ | (refine Le.pi2 ?_; intro _) | intro _)
def Iu (nE : Nat) (p0 : Int × (List (Int × Int × Int × Int × Int × Int)) × (List (Int × Int))) (p1 : List (List Int)) (p2 : Int) (p3 : Int) : Option (Int × Bool) := (if p2 < 0 then some true else (if (p1.length : Int) ≤ p2 then some true else (if p3 < 0 then some true else (ix p1 p2).bind fun x2 => some (decide ((x2.length : Int) ≤ p3))))).bind fun x1 => (if x1 = true then some (0, false) else (ix p1 p2).bind fun x3 => (ix x3 p3).bind fun x4 => (IQ nE p0 p2 x4).bind fun x5 => some (x5.1, x5.2.2.2))
theorem Lh (nE : Nat) (p0 : Int × (List (Int × Int × Int × Int × Int × Int)) × (List (Int × Int))) (p1 : List (List Int)) (p2 : Int) (p3 : Int) : Le (Iu nE p0 p1 p2 p3) (F7 p0 p1 p2 p3) := by
  unfold Iu F7
  repeat' with_reducible (first | refine Le.orR' ?_ ?_ | refine Le.bind' ?_ ?_ | refine Le.ite' ?_ ?_ | refine Le.loop' ?_ | refine Le.altS' ?_ ?_ | apply Md | exact Le.rfl' _ | (refine Le.pi2 ?_; intro _) | intro _)
def EG (nE : Nat) (p0 : List Int) (p1 : Int) : Int → Option (Int ⊕ (Unit ⊕ Bool))
  | x1 => (if x1 < (p0.length : Int) then (ix p0 x1).bind fun x2 => (if p1 = x2 then some (.inr (.inr true)) else some (.inl (AB (x1 + 1)))) else some (.inr (.inl ())))
theorem HZ (nE : Nat) (p0 : List Int) (p1 : Int) : ∀ s, Le (EG nE p0 p1 s) (CD p0 p1 s) := by
  intro x1
  unfold EG CD
  repeat' with_reducible (first | refine Le.orR' ?_ ?_ | refine Le.bind' ?_ ?_ | refine Le.ite' ?_ ?_ | refine Le.loop' ?_ | refine Le.altS' ?_ ?_ | exact Le.rfl' _ | (refine Le.pi2 ?_; intro _) | intro _)
def Fv (nE : Nat) (p0 : List Int) (p1 : Int) : Option Bool := F3 (C3 nE (EG nE p0 p1) 0) fun _ => some false
theorem IF (nE : Nat) (p0 : List Int) (p1 : Int) : Le (Fv nE p0 p1) (Dd p0 p1) := by
  unfold Fv Dd
  repeat' with_reducible (first | refine Le.orR' ?_ ?_ | refine Le.bind' ?_ ?_ | refine Le.ite' ?_ ?_ | refine Le.loop' ?_ | refine Le.altS' ?_ ?_ | apply HZ | exact Le.rfl' _ | (refine Le.pi2 ?_; intro _) | intro _)
def Hc (nE : Nat) (p0 : Int × (List (Int × Int × Int × Int × Int × Int)) × (List (Int × Int))) (p1 : List (List Int)) (p3 : Int) : (Int × List Int) → Option ((Int × List Int) ⊕ ((List Int) ⊕ (List Int × Int)))
  | (x2, x3) => (ix p1 x2).bind fun x4 => (ix x4 p3).bind fun x5 => (HU nE p0 x2 x5).bind fun x6 => (if x6 ≠ p3 then (Iu nE p0 p1 x2 p3).bind fun x7 => (if (!x7.2) = true then some (.inr (.inr (([] : List Int), 13))) else (Fv nE x3 x7.1).bind fun x8 => (if x8 = true then some (.inr (.inr (([] : List Int), 12))) else (Mg x3 ([x7.1] : List Int)).bind fun x9 => some (.inl (x7.1, x9)))) else some (.inr (.inl x3)))
theorem JV (nE : Nat) (p0 : Int × (List (Int × Int × Int × Int × Int × Int)) × (List (Int × Int))) (p1 : List (List Int)) (p3 : Int) : ∀ s, Le (Hc nE p0 p1 p3 s) (Dx p0 p1 p3 s) := by
  rintro ⟨x2, x3⟩
  unfold Hc Dx
  repeat' with_reducible (first | refine Le.orR' ?_ ?_ | refine Le.bind' ?_ ?_ | refine Le.ite' ?_ ?_ | refine Le.loop' ?_ | refine Le.altS' ?_ ?_ | apply KE | apply Lh | apply IF | exact Le.rfl' _ | (refine Le.pi2 ?_; intro _) | intro _)
def Hv (nE : Nat) (p0 : Int × (List (Int × Int × Int × Int × Int × Int)) × (List (Int × Int))) (p1 : List (List Int)) (p2 : Int) (p3 : Int) : Option (List Int × Int) := F3 (C3 nE (Hc nE p0 p1 p3) (p2, ([p2] : List Int))) fun x1 => some (x1, 0)
theorem I8 (nE : Nat) (p0 : Int × (List (Int × Int × Int × Int × Int × Int)) × (List (Int × Int))) (p1 : List (List Int)) (p2 : Int) (p3 : Int) : Le (Hv nE p0 p1 p2 p3) (Fq p0 p1 p2 p3) := by
  unfold Hv Fq
  repeat' with_reducible (first | refine Le.orR' ?_ ?_ | refine Le.bind' ?_ ?_ | refine Le.ite' ?_ ?_ | refine Le.loop' ?_ | refine Le.altS' ?_ ?_ | apply JV | exact Le.rfl' _ | (refine Le.pi2 ?_; intro _) | intro _)
def Hf (nE : Nat) (p0 : Int × (List (Int × Int × Int × Int × Int × Int)) × (List (Int × Int))) (p1 : List (List Int)) (x2 : Int) (x3 : List Int) : Int → Option (Int ⊕ (Unit ⊕ (Int ⊕ (Unit ⊕ Bool))))
  | x4 => (if x4 < (x3.length : Int) then (Hv nE p0 p1 x2 x4).bind fun x5 => (if x5.2 ≠ 0 then some (.inr (.inr (.inr (.inr false)))) else some (.inl (AB (x4 + 1)))) else some (.inr (.inl ())))
theorem JT (nE : Nat) (p0 : Int × (List (Int × Int × Int × Int × Int × Int)) × (List (Int × Int))) (p1 : List (List Int)) (x2 : Int) (x3 : List Int) : ∀ s, Le (Hf nE p0 p1 x2 x3 s) (DW p0 p1 x2 x3 s) := by
  intro x4
  unfold Hf DW
  repeat' with_reducible (first | refine Le.orR' ?_ ?_ | refine Le.bind' ?_ ?_ | refine Le.ite' ?_ ?_ | refine Le.loop' ?_ | refine Le.altS' ?_ ?_ | apply I8 | exact Le.rfl' _ | (refine Le.pi2 ?_; intro _) | intro _)
def Hl (nE : Nat) (p0 : Int × (List (Int × Int × Int × Int × Int × Int)) × (List (Int × Int))) (p1 : List (List Int)) : Int → Option (Int ⊕ (Unit ⊕ Bool))
  | x2 => (if x2 < (p1.length : Int) then F3 ((ix p1 x2).bind fun x3 => C3 nE (Hf nE p0 p1 x2 x3) 0) fun _ => some (.inl (AB (x2 + 1))) else some (.inr (.inl ())))
theorem JN (nE : Nat) (p0 : Int × (List (Int × Int × Int × Int × Int × Int)) × (List (Int × Int))) (p1 : List (List Int)) : ∀ s, Le (Hl nE p0 p1 s) (Ep p0 p1 s) := by
  intro x2
  unfold Hl Ep
  repeat' with_reducible (first | refine Le.orR' ?_ ?_ | refine Le.bind' ?_ ?_ | refine Le.ite' ?_ ?_ | refine Le.loop' ?_ | refine Le.altS' ?_ ?_ | apply JT | exact Le.rfl' _ | (refine Le.pi2 ?_; intro _) | intro _)
def Hr (nE : Nat) (p0 : Int × (List (Int × Int × Int × Int × Int × Int)) × (List (Int × Int))) (p1 : List (List Int)) : Option Bool := (GS nE p0 p1).bind fun x1 => (if (!x1) = true then some false else F3 (C3 nE (Hl nE p0 p1) 0) fun _ => some true)
theorem Lp (nE : Nat) (p0 : Int × (List (Int × Int × Int × Int × Int × Int)) × (List (Int × Int))) (p1 : List (List Int)) : Le (Hr nE p0 p1) (EP p0 p1) := by
  unfold Hr EP
  repeat' with_reducible (first | refine Le.orR' ?_ ?_ | refine Le.bind' ?_ ?_ | refine Le.ite' ?_ ?_ | refine Le.loop' ?_ | refine Le.altS' ?_ ?_ | apply IM | apply JN | exact Le.rfl' _ | (refine Le.pi2 ?_; intro _) | intro _)
def HA (nE : Nat) (p0 : Int × (List (Int × Int × Int × Int × Int × Int)) × (List (Int × Int))) (p1 : List (List Int)) (p2 : Int) : (List Int × Int) → Option ((List Int × Int) ⊕ (List Int))
  | (x4, x5) => (if x5 < (p1.length : Int) then (Hv nE p0 p1 x5 p2).bind fun x6 => (Mg x4 ([AB ((x6.1.length : Int) - 1)] : List Int)).bind fun x7 => some (.inl (x7, AB (x5 + 1))) else some (.inr x4))
theorem Kn (nE : Nat) (p0 : Int × (List (Int × Int × Int × Int × Int × Int)) × (List (Int × Int))) (p1 : List (List Int)) (p2 : Int) : ∀ s, Le (HA nE p0 p1 p2 s) (Ei p0 p1 p2 s) := by
  rintro ⟨x4, x5⟩
  unfold HA Ei
  repeat' with_reducible (first | refine Le.orR' ?_ ?_ | refine Le.bind' ?_ ?_ | refine Le.ite' ?_ ?_ | refine Le.loop' ?_ | refine Le.altS' ?_ ?_ | apply I8 | exact Le.rfl' _ | (refine Le.pi2 ?_; intro _) | intro _)
def I1 (nE : Nat) (p0 : Int × (List (Int × Int × Int × Int × Int × Int)) × (List (Int × Int))) (p1 : List (List Int)) (p2 : Int) : Option (List Int) := ((GS nE p0 p1).bind fun x2 => (if (!x2) = true then some true else (if p2 < 0 then some true else some (decide ((p0.2.2.length : Int) ≤ p2))))).bind fun x1 => (if x1 = true then some ([] : List Int) else (C3 nE (HA nE p0 p1 p2) ([], 0)).bind fun x3 => some x3)
theorem LZ (nE : Nat) (p0 : Int × (List (Int × Int × Int × Int × Int × Int)) × (List (Int × Int))) (p1 : List (List Int)) (p2 : Int) : Le (I1 nE p0 p1 p2) (GG p0 p1 p2) := by
  unfold I1 GG
  repeat' with_reducible (first | refine Le.orR' ?_ ?_ | refine Le.bind' ?_ ?_ | refine Le.ite' ?_ ?_ | refine Le.loop' ?_ | refine Le.altS' ?_ ?_ | apply IM | apply Kn | exact Le.rfl' _ | (refine Le.pi2 ?_; intro _) | intro _)
def Gp (nE : Nat) (p0 : Int) : Option Int := (if 4294967296 ≤ p0 then some (Gt .u64 p0 32, 32) else some (p0, 0)).bind fun (x1, x2) => (if 65536 ≤ x1 then some (Gt .u64 x1 16, AB (x2 + 16)) else some (x1, x2)).bind fun (x3, x4) => (if 256 ≤ x3 then some (Gt .u64 x3 8, AB (x4 + 8)) else some (x3, x4)).bind fun (x5, x6) => (ix ([0, 1, 2, 2, 3, 3, 3, 3, 4, 4, 4, 4, 4, 4, 4, 4, 5, 5, 5, 5, 5, 5, 5, 5, 5, 5, 5, 5, 5, 5, 5, 5, 6, 6, 6, 6, 6, 6, 6, 6, 6, 6, 6, 6, 6, 6, 6, 6, 6, 6, 6, 6, 6, 6, 6, 6, 6, 6, 6, 6, 6, 6, 6, 6, 7, 7, 7, 7, 7, 7, 7, 7, 7, 7, 7, 7, 7, 7, 7, 7, 7, 7, 7, 7, 7, 7, 7, 7, 7, 7, 7, 7, 7, 7, 7, 7, 7, 7, 7, 7, 7, 7, 7, 7, 7, 7, 7, 7, 7, 7, 7, 7, 7, 7, 7, 7, 7, 7, 7, 7, 7, 7, 7, 7, 7, 7, 7, 7, 8, 8, 8, 8, 8, 8, 8, 8, 8, 8, 8, 8, 8, 8, 8, 8, 8, 8, 8, 8, 8, 8, 8, 8, 8, 8, 8, 8, 8, 8, 8, 8, 8, 8, 8, 8, 8, 8, 8, 8, 8, 8, 8, 8, 8, 8, 8, 8, 8, 8, 8, 8, 8, 8, 8, 8, 8, 8, 8, 8, 8, 8, 8, 8, 8, 8, 8, 8, 8, 8, 8, 8, 8, 8, 8, 8, 8, 8, 8, 8, 8, 8, 8, 8, 8, 8, 8, 8, 8, 8, 8, 8, 8, 8, 8, 8, 8, 8, 8, 8, 8, 8, 8, 8, 8, 8, 8, 8, 8, 8, 8, 8, 8, 8, 8, 8, 8, 8, 8, 8, 8, 8, 8, 8, 8, 8, 8, 8] : List UInt8) (IntKind.u8.wrap x5)).bind fun x7 => some (AB (x6 + (AB (x7.toNat : Int))))
theorem Jg (nE : Nat) (p0 : Int) : Le (Gp nE p0) (Eh p0) := by
  unfold Gp Eh
  repeat' with_reducible (first | refine Le.orR' ?_ ?_ | refine Le.bind' ?_ ?_ | refine Le.ite' ?_ ?_ | refine Le.loop' ?_ | refine Le.altS' ?_ ?_ | exact Le.rfl' _ | (refine Le.pi2 ?_; intro _) | intro _)
def EX (nE : Nat) (p0 : Int) : Option Int := (Gp nE p0).bind fun x1 => some x1
theorem GR (nE : Nat) (p0 : Int) : Le (EX nE p0) (Dy p0) := by
  unfold EX Dy
  repeat' with_reducible (first | refine Le.orR' ?_ ?_ | refine Le.bind' ?_ ?_ | refine Le.ite' ?_ ?_ | refine Le.loop' ?_ | refine Le.altS' ?_ ?_ | apply Jg | exact Le.rfl' _ | (refine Le.pi2 ?_; intro _) | intro _)
def Hj (nE : Nat) (p0 : List Int) : Int → Option (Int ⊕ (Unit ⊕ Int))
  | x1 => (if x1 < (p0.length : Int) then (ix p0 x1).bind fun x2 => (if x2 ≠ 0 then some (.inr (.inr x2)) else some (.inl (AB (x1 + 1)))) else some (.inr (.inl ())))
theorem JR (nE : Nat) (p0 : List Int) : ∀ s, Le (Hj nE p0 s) (C6 p0 s) := by
  intro x1
  unfold Hj C6
  repeat' with_reducible (first | refine Le.orR' ?_ ?_ | refine Le.bind' ?_ ?_ | refine Le.ite' ?_ ?_ | refine Le.loop' ?_ | refine Le.altS' ?_ ?_ | exact Le.rfl' _ | (refine Le.pi2 ?_; intro _) | intro _)
def Ir (nE : Nat) (p0 : List Int) : Option Int := F3 (C3 nE (Hj nE p0) 0) fun _ => some 0
theorem Lj (nE : Nat) (p0 : List Int) : Le (Ir nE p0) (F2 p0) := by
  unfold Ir F2
  repeat' with_reducible (first | refine Le.orR' ?_ ?_ | refine Le.bind' ?_ ?_ | refine Le.ite' ?_ ?_ | refine Le.loop' ?_ | refine Le.altS' ?_ ?_ | apply JR | exact Le.rfl' _ | (refine Le.pi2 ?_; intro _) | intro _)
def BZ (nE : Nat) (p0 : Int × Int × Int × Int) (p1 : Int × Int × Int × Int) : Option Int := (Ir nE ([(AU p0.2.2.2 p1.2.2.2), (AU p0.1 p1.1), (AU p0.2.1 p1.2.1)] : List Int)).bind fun x1 => some x1
theorem B7 (nE : Nat) (p0 : Int × Int × Int × Int) (p1 : Int × Int × Int × Int) : Le (BZ nE p0 p1) (BT p0 p1) := by
  unfold BZ BT
  repeat' with_reducible (first | refine Le.orR' ?_ ?_ | refine Le.bind' ?_ ?_ | refine Le.ite' ?_ ?_ | refine Le.loop' ?_ | refine Le.altS' ?_ ?_ | apply Lj | exact Le.rfl' _ | (refine Le.pi2 ?_; intro _) | intro _)
def Cr (nE : Nat) (p1 : Int) : ((List (Int × Int × Int × Int)) × Int) → Option (((List (Int × Int × Int × Int)) × Int) ⊕ (List (Int × Int × Int × Int)))
  | (x4, x5) => (if p1 < x5 then (ix x4 x5).bind fun x7 => (ix x4 (AB (x5 - 1))).bind fun x8 => (BZ nE x7 x8).bind fun x9 => some (decide (x9 < 0)) else some false).bind fun x6 => (if x6 = true then (ix x4 (AB (x5 - 1))).bind fun x10 => (ix x4 x5).bind fun x11 => (ix x4 x5).bind fun x12 => (ix (Aq x4 x5 x10) (AB (x5 - 1))).bind fun x13 => some (.inl ((Aq (Aq x4 x5 x10) (AB (x5 - 1)) x11), AB (x5 - 1))) else some (.inr x4))
theorem EA (nE : Nat) (p1 : Int) : ∀ s, Le (Cr nE p1 s) (AO p1 s) := by
  rintro ⟨x4, x5⟩
  unfold Cr AO
  repeat' with_reducible (first | refine Le.orR' ?_ ?_ | refine Le.bind' ?_ ?_ | refine Le.ite' ?_ ?_ | refine Le.loop' ?_ | refine Le.altS' ?_ ?_ | apply B7 | exact Le.rfl' _ | (refine Le.pi2 ?_; intro _) | intro _)
def Cs (nE : Nat) (p1 : Int) (p2 : Int) : ((List (Int × Int × Int × Int)) × Int) → Option (((List (Int × Int × Int × Int)) × Int) ⊕ (List (Int × Int × Int × Int)))
  | (x1, x2) => (if x2 < p2 then (C3 nE (Cr nE p1) (x1, x2)).bind fun x3 => some (.inl (x3, AB (x2 + 1))) else some (.inr x1))
theorem EE (nE : Nat) (p1 : Int) (p2 : Int) : ∀ s, Le (Cs nE p1 p2 s) (A8 p1 p2 s) := by
  rintro ⟨x1, x2⟩
  unfold Cs A8
  repeat' with_reducible (first | refine Le.orR' ?_ ?_ | refine Le.bind' ?_ ?_ | refine Le.ite' ?_ ?_ | refine Le.loop' ?_ | refine Le.altS' ?_ ?_ | apply EA | exact Le.rfl' _ | (refine Le.pi2 ?_; intro _) | intro _)
def CC (nE : Nat) (p0 : List (Int × Int × Int × Int)) (p1 : Int) (p2 : Int) : Option (List (Int × Int × Int × Int)) := C3 nE (Cs nE p1 p2) (p0, AB (p1 + 1))
theorem EW (nE : Nat) (p0 : List (Int × Int × Int × Int)) (p1 : Int) (p2 : Int) : Le (CC nE p0 p1 p2) (Bu p0 p1 p2) := by
  unfold CC Bu
  repeat' with_reducible (first | refine Le.orR' ?_ ?_ | refine Le.bind' ?_ ?_ | refine Le.ite' ?_ ?_ | refine Le.loop' ?_ | refine Le.altS' ?_ ?_ | apply EE | exact Le.rfl' _ | (refine Le.pi2 ?_; intro _) | intro _)
def CR (nE : Nat) (p2 : Int) (p3 : Int) : ((List (Int × Int × Int × Int)) × Int) → Option (((List (Int × Int × Int × Int)) × Int) ⊕ (List (Int × Int × Int × Int)))
  | (x1, x2) => (if p2 ≤ (AB ((AB (2 * x2)) + 1)) then some (.inr x1) else ((if (AB ((AB ((AB (2 * x2)) + 1)) + 1)) < p2 then (ix x1 (AB (p3 + (AB ((AB (2 * x2)) + 1))))).bind fun x5 => (ix x1 (AB ((AB (p3 + (AB ((AB (2 * x2)) + 1)))) + 1))).bind fun x6 => (BZ nE x5 x6).bind fun x7 => some (decide (x7 < 0)) else some false).bind fun x4 => (if x4 = true then some (AB ((AB ((AB (2 * x2)) + 1)) + 1)) else some (AB ((AB (2 * x2)) + 1)))).bind fun x3 => (ix x1 (AB (p3 + x2))).bind fun x8 => (ix x1 (AB (p3 + x3))).bind fun x9 => (BZ nE x8 x9).bind fun x10 => (if (!(decide (x10 < 0))) = true then some (.inr x1) else (ix x1 (AB (p3 + x3))).bind fun x11 => (ix x1 (AB (p3 + x2))).bind fun x12 => (ix x1 (AB (p3 + x2))).bind fun x13 => (ix (Aq x1 (AB (p3 + x2)) x11) (AB (p3 + x3))).bind fun x14 => some (.inl ((Aq (Aq x1 (AB (p3 + x2)) x11) (AB (p3 + x3)) x12), x3))))
theorem Fm (nE : Nat) (p2 : Int) (p3 : Int) : ∀ s, Le (CR nE p2 p3 s) (AJ p2 p3 s) := by
  rintro ⟨x1, x2⟩
  unfold CR AJ
  repeat' with_reducible (first | refine Le.orR' ?_ ?_ | refine Le.bind' ?_ ?_ | refine Le.ite' ?_ ?_ | refine Le.loop' ?_ | refine Le.altS' ?_ ?_ | apply B7 | exact Le.rfl' _ | (refine Le.pi2 ?_; intro _) | intro _)
def Cp (nE : Nat) (p0 : List (Int × Int × Int × Int)) (p1 : Int) (p2 : Int) (p3 : Int) : Option (List (Int × Int × Int × Int)) := C3 nE (CR nE p2 p3) (p0, p1)
theorem DO (nE : Nat) (p0 : List (Int × Int × Int × Int)) (p1 : Int) (p2 : Int) (p3 : Int) : Le (Cp nE p0 p1 p2 p3) (BC p0 p1 p2 p3) := by
  unfold Cp BC
  repeat' with_reducible (first | refine Le.orR' ?_ ?_ | refine Le.bind' ?_ ?_ | refine Le.ite' ?_ ?_ | refine Le.loop' ?_ | refine Le.altS' ?_ ?_ | apply Fm | exact Le.rfl' _ | (refine Le.pi2 ?_; intro _) | intro _)
def CS (nE : Nat) (p1 : Int) (p2 : Int) : ((List (Int × Int × Int × Int)) × Int) → Option (((List (Int × Int × Int × Int)) × Int) ⊕ (List (Int × Int × Int × Int)))
  | (x2, x3) => (if 0 ≤ x3 then (Cp nE x2 x3 (AB (p2 - p1)) p1).bind fun x4 => some (.inl (x4, AB (x3 - 1))) else some (.inr x2))
theorem Fi (nE : Nat) (p1 : Int) (p2 : Int) : ∀ s, Le (CS nE p1 p2 s) (Bi p1 p2 s) := by
  rintro ⟨x2, x3⟩
  unfold CS Bi
  repeat' with_reducible (first | refine Le.orR' ?_ ?_ | refine Le.bind' ?_ ?_ | refine Le.ite' ?_ ?_ | refine Le.loop' ?_ | refine Le.altS' ?_ ?_ | apply DO | exact Le.rfl' _ | (refine Le.pi2 ?_; intro _) | intro _)
def CU (nE : Nat) (p1 : Int) : ((List (Int × Int × Int × Int)) × Int) → Option (((List (Int × Int × Int × Int)) × Int) ⊕ (List (Int × Int × Int × Int)))
  | (x5, x6) => (if 0 ≤ x6 then (ix x5 (AB (p1 + x6))).bind fun x7 => (ix x5 p1).bind fun x8 => (ix x5 p1).bind fun x9 => (ix (Aq x5 p1 x7) (AB (p1 + x6))).bind fun x10 => (Cp nE (Aq (Aq x5 p1 x7) (AB (p1 + x6)) x8) 0 x6 p1).bind fun x11 => some (.inl (x11, AB (x6 - 1))) else some (.inr x5))
theorem Fj (nE : Nat) (p1 : Int) : ∀ s, Le (CU nE p1 s) (Bk p1 s) := by
  rintro ⟨x5, x6⟩
  unfold CU Bk
  repeat' with_reducible (first | refine Le.orR' ?_ ?_ | refine Le.bind' ?_ ?_ | refine Le.ite' ?_ ?_ | refine Le.loop' ?_ | refine Le.altS' ?_ ?_ | apply DO | exact Le.rfl' _ | (refine Le.pi2 ?_; intro _) | intro _)
def C8 (nE : Nat) (p0 : List (Int × Int × Int × Int)) (p1 : Int) (p2 : Int) : Option (List (Int × Int × Int × Int)) := (C3 nE (CS nE p1 p2) (p0, AB (Int.tdiv (AB ((AB (p2 - p1)) - 1)) 2))).bind fun x1 => C3 nE (CU nE p1) (x1, AB ((AB (p2 - p1)) - 1))
theorem FQ (nE : Nat) (p0 : List (Int × Int × Int × Int)) (p1 : Int) (p2 : Int) : Le (C8 nE p0 p1 p2) (BO p0 p1 p2) := by
  unfold C8 BO
  repeat' with_reducible (first | refine Le.orR' ?_ ?_ | refine Le.bind' ?_ ?_ | refine Le.ite' ?_ ?_ | refine Le.loop' ?_ | refine Le.altS' ?_ ?_ | apply Fi | apply Fj | exact Le.rfl' _ | (refine Le.pi2 ?_; intro _) | intro _)
def Cg (nE : Nat) (p0 : List (Int × Int × Int × Int)) (p1 : Int) (p2 : Int) (p3 : Int) : Option (Int × Int × Int) := (ix p0 p2).bind fun x1 => (ix p0 p1).bind fun x2 => (BZ nE x1 x2).bind fun x3 => (if x3 < 0 then some (p2, p1, AB (p3 + 1)) else some (p1, p2, p3))
theorem F4 (nE : Nat) (p0 : List (Int × Int × Int × Int)) (p1 : Int) (p2 : Int) (p3 : Int) : Le (Cg nE p0 p1 p2 p3) (Br p0 p1 p2 p3) := by
  unfold Cg Br
  repeat' with_reducible (first | refine Le.orR' ?_ ?_ | refine Le.bind' ?_ ?_ | refine Le.ite' ?_ ?_ | refine Le.loop' ?_ | refine Le.altS' ?_ ?_ | apply B7 | exact Le.rfl' _ | (refine Le.pi2 ?_; intro _) | intro _)
def CA (nE : Nat) (p0 : List (Int × Int × Int × Int)) (p1 : Int) (p2 : Int) (p3 : Int) (p4 : Int) : Option (Int × Int) := (Cg nE p0 p1 p2 p4).bind fun x1 => (Cg nE p0 x1.2.1 p3 x1.2.2).bind fun x2 => (Cg nE p0 x1.1 x2.1 x2.2.2).bind fun x3 => some (x3.2.1, x3.2.2)
theorem D6 (nE : Nat) (p0 : List (Int × Int × Int × Int)) (p1 : Int) (p2 : Int) (p3 : Int) (p4 : Int) : Le (CA nE p0 p1 p2 p3 p4) (Bq p0 p1 p2 p3 p4) := by
  unfold CA Bq
  repeat' with_reducible (first | refine Le.orR' ?_ ?_ | refine Le.bind' ?_ ?_ | refine Le.ite' ?_ ?_ | refine Le.loop' ?_ | refine Le.altS' ?_ ?_ | apply F4 | exact Le.rfl' _ | (refine Le.pi2 ?_; intro _) | intro _)
def BS (nE : Nat) (p0 : List (Int × Int × Int × Int)) (p1 : Int) (p2 : Int) : Option (Int × Int) := (CA nE p0 (AB (p1 - 1)) p1 (AB (p1 + 1)) p2).bind fun x1 => some (x1.1, x1.2)
theorem EN (nE : Nat) (p0 : List (Int × Int × Int × Int)) (p1 : Int) (p2 : Int) : Le (BS nE p0 p1 p2) (AR p0 p1 p2) := by
  unfold BS AR
  repeat' with_reducible (first | refine Le.orR' ?_ ?_ | refine Le.bind' ?_ ?_ | refine Le.ite' ?_ ?_ | refine Le.loop' ?_ | refine Le.altS' ?_ ?_ | apply D6 | exact Le.rfl' _ | (refine Le.pi2 ?_; intro _) | intro _)
def CQ (nE : Nat) (p0 : List (Int × Int × Int × Int)) (p1 : Int) (p2 : Int) : Option (Int × Int) := (if 8 ≤ (AB (p2 - p1)) then (if 50 ≤ (AB (p2 - p1)) then (BS nE p0 (AB (p1 + (AB ((AB (Int.tdiv (AB (p2 - p1)) 4)) * 1)))) 0).bind fun x7 => (BS nE p0 (AB (p1 + (AB ((AB (Int.tdiv (AB (p2 - p1)) 4)) * 2)))) x7.2).bind fun x8 => (BS nE p0 (AB (p1 + (AB ((AB (Int.tdiv (AB (p2 - p1)) 4)) * 3)))) x8.2).bind fun x9 => some (x7.1, x8.1, x9.1, x9.2) else some (AB (p1 + (AB ((AB (Int.tdiv (AB (p2 - p1)) 4)) * 1))), AB (p1 + (AB ((AB (Int.tdiv (AB (p2 - p1)) 4)) * 2))), AB (p1 + (AB ((AB (Int.tdiv (AB (p2 - p1)) 4)) * 3))), 0)).bind fun (x3, x4, x5, x6) => (CA nE p0 x3 x4 x5 x6).bind fun x10 => some (x10.1, x10.2) else some (AB (p1 + (AB ((AB (Int.tdiv (AB (p2 - p1)) 4)) * 2))), 0)).bind fun (x1, x2) => (if x2 = 0 then some (x1, 1) else (if x2 = 12 then some (x1, 2) else some (x1, 0)))
theorem Fg (nE : Nat) (p0 : List (Int × Int × Int × Int)) (p1 : Int) (p2 : Int) : Le (CQ nE p0 p1 p2) (BF p0 p1 p2) := by
  unfold CQ BF
  repeat' with_reducible (first | refine Le.orR' ?_ ?_ | refine Le.bind' ?_ ?_ | refine Le.ite' ?_ ?_ | refine Le.loop' ?_ | refine Le.altS' ?_ ?_ | apply D6 | apply EN | exact Le.rfl' _ | (refine Le.pi2 ?_; intro _) | intro _)
def Cw (nE : Nat)  : ((List (Int × Int × Int × Int)) × Int × Int) → Option (((List (Int × Int × Int × Int)) × Int × Int) ⊕ (List (Int × Int × Int × Int)))
  | (x1, x2, x3) => (if x2 < x3 then (ix x1 x3).bind fun x4 => (ix x1 x2).bind fun x5 => (ix x1 x2).bind fun x6 => (ix (Aq x1 x2 x4) x3).bind fun x7 => some (.inl ((Aq (Aq x1 x2 x4) x3 x5), AB (x2 + 1), AB (x3 - 1))) else some (.inr x1))
theorem EI (nE : Nat)  : ∀ s, Le (Cw nE  s) (A1  s) := by
  rintro ⟨x1, x2, x3⟩
  unfold Cw A1
  repeat' with_reducible (first | refine Le.orR' ?_ ?_ | refine Le.bind' ?_ ?_ | refine Le.ite' ?_ ?_ | refine Le.loop' ?_ | refine Le.altS' ?_ ?_ | exact Le.rfl' _ | (refine Le.pi2 ?_; intro _) | intro _)
def CF (nE : Nat) (p0 : List (Int × Int × Int × Int)) (p1 : Int) (p2 : Int) : Option (List (Int × Int × Int × Int)) := C3 nE (Cw nE) (p0, p1, AB (p2 - 1))
theorem E4 (nE : Nat) (p0 : List (Int × Int × Int × Int)) (p1 : Int) (p2 : Int) : Le (CF nE p0 p1 p2) (Bf p0 p1 p2) := by
  unfold CF Bf
  repeat' with_reducible (first | refine Le.orR' ?_ ?_ | refine Le.bind' ?_ ?_ | refine Le.ite' ?_ ?_ | refine Le.loop' ?_ | refine Le.altS' ?_ ?_ | apply EI | exact Le.rfl' _ | (refine Le.pi2 ?_; intro _) | intro _)
def Ce (nE : Nat) (p2 : Int) (x2 : List (Int × Int × Int × Int)) : Int → Option (Int ⊕ Int)
  | x8 => (if x8 < p2 then (ix x2 x8).bind fun x10 => (ix x2 (AB (x8 - 1))).bind fun x11 => (BZ nE x10 x11).bind fun x12 => some (!(decide (x12 < 0))) else some false).bind fun x9 => (if x9 = true then some (.inl (AB (x8 + 1))) else some (.inr x8))
theorem D0 (nE : Nat) (p2 : Int) (x2 : List (Int × Int × Int × Int)) : ∀ s, Le (Ce nE p2 x2 s) (A3 p2 x2 s) := by
  intro x8
  unfold Ce A3
  repeat' with_reducible (first | refine Le.orR' ?_ ?_ | refine Le.bind' ?_ ?_ | refine Le.ite' ?_ ?_ | refine Le.loop' ?_ | refine Le.altS' ?_ ?_ | apply B7 | exact Le.rfl' _ | (refine Le.pi2 ?_; intro _) | intro _)
def Cf (nE : Nat)  : ((List (Int × Int × Int × Int)) × Int) → Option (((List (Int × Int × Int × Int)) × Int) ⊕ (List (Int × Int × Int × Int)))
  | (x18, x19) => (if 1 ≤ x19 then (ix x18 x19).bind fun x20 => (ix x18 (AB (x19 - 1))).bind fun x21 => (BZ nE x20 x21).bind fun x22 => (if (!(decide (x22 < 0))) = true then some (.inr x18) else (ix x18 (AB (x19 - 1))).bind fun x23 => (ix x18 x19).bind fun x24 => (ix x18 x19).bind fun x25 => (ix (Aq x18 x19 x23) (AB (x19 - 1))).bind fun x26 => some (.inl ((Aq (Aq x18 x19 x23) (AB (x19 - 1)) x24), AB (x19 - 1)))) else some (.inr x18))
theorem D1 (nE : Nat)  : ∀ s, Le (Cf nE  s) (AC  s) := by
  rintro ⟨x18, x19⟩
  unfold Cf AC
  repeat' with_reducible (first | refine Le.orR' ?_ ?_ | refine Le.bind' ?_ ?_ | refine Le.ite' ?_ ?_ | refine Le.loop' ?_ | refine Le.altS' ?_ ?_ | apply B7 | exact Le.rfl' _ | (refine Le.pi2 ?_; intro _) | intro _)
def Cd (nE : Nat) (p2 : Int) (x7 : Int) : ((List (Int × Int × Int × Int)) × Int) → Option (((List (Int × Int × Int × Int)) × Int) ⊕ (((List (Int × Int × Int × Int)) × Int) ⊕ (((List (Int × Int × Int × Int)) × Int × Int) ⊕ ((List (Int × Int × Int × Int)) ⊕ (Bool × (List (Int × Int × Int × Int)))))))
  | (x27, x28) => (if x28 < p2 then (ix x27 x28).bind fun x29 => (ix x27 (AB (x28 - 1))).bind fun x30 => (BZ nE x29 x30).bind fun x31 => (if (!(decide (x31 < 0))) = true then some (.inr (.inl (x27, x7))) else (ix x27 (AB (x28 - 1))).bind fun x32 => (ix x27 x28).bind fun x33 => (ix x27 x28).bind fun x34 => (ix (Aq x27 x28 x32) (AB (x28 - 1))).bind fun x35 => some (.inl ((Aq (Aq x27 x28 x32) (AB (x28 - 1)) x33), AB (x28 + 1)))) else some (.inr (.inl (x27, x7))))
theorem DZ (nE : Nat) (p2 : Int) (x7 : Int) : ∀ s, Le (Cd nE p2 x7 s) (AF p2 x7 s) := by
  rintro ⟨x27, x28⟩
  unfold Cd AF
  repeat' with_reducible (first | refine Le.orR' ?_ ?_ | refine Le.bind' ?_ ?_ | refine Le.ite' ?_ ?_ | refine Le.loop' ?_ | refine Le.altS' ?_ ?_ | apply B7 | exact Le.rfl' _ | (refine Le.pi2 ?_; intro _) | intro _)
def Cc (nE : Nat) (p1 : Int) (p2 : Int) : ((List (Int × Int × Int × Int)) × Int × Int) → Option (((List (Int × Int × Int × Int)) × Int × Int) ⊕ ((List (Int × Int × Int × Int)) ⊕ (Bool × (List (Int × Int × Int × Int)))))
  | (x2, x3, x4) => (if x4 < 5 then F3 ((C3 nE (Ce nE p2 x2) x3).bind fun x7 => (if x7 = p2 then some (.inr (.inr (.inr (true, x2)))) else (if (AB (p2 - p1)) < 50 then some (.inr (.inr (.inr (false, x2)))) else (ix x2 (AB (x7 - 1))).bind fun x13 => (ix x2 x7).bind fun x14 => (ix x2 x7).bind fun x15 => (ix (Aq x2 x7 x13) (AB (x7 - 1))).bind fun x16 => (if 2 ≤ (AB (x7 - p1)) then C3 nE (Cf nE) ((Aq (Aq x2 x7 x13) (AB (x7 - 1)) x14), AB (x7 - 1)) else some (Aq (Aq x2 x7 x13) (AB (x7 - 1)) x14)).bind fun x17 => (if 2 ≤ (AB (p2 - x7)) then C3 nE (Cd nE p2 x7) (x17, AB (x7 + 1)) else some (.inl (x17, x7)))))) fun (x5, x6) => some (.inl (x5, x6, AB (x4 + 1))) else some (.inr (.inl x2)))
theorem D2 (nE : Nat) (p1 : Int) (p2 : Int) : ∀ s, Le (Cc nE p1 p2 s) (AG p1 p2 s) := by
  rintro ⟨x2, x3, x4⟩
  unfold Cc AG
  repeat' with_reducible (first | refine Le.orR' ?_ ?_ | refine Le.bind' ?_ ?_ | refine Le.ite' ?_ ?_ | refine Le.loop' ?_ | refine Le.altS' ?_ ?_ | apply D0 | apply D1 | apply DZ | exact Le.rfl' _ | (refine Le.pi2 ?_; intro _) | intro _)
def Ci (nE : Nat) (p0 : List (Int × Int × Int × Int)) (p1 : Int) (p2 : Int) : Option (Bool × (List (Int × Int × Int × Int))) := F3 (C3 nE (Cc nE p1 p2) (p0, AB (p1 + 1), 0)) fun x1 => some (false, x1)
theorem Eg (nE : Nat) (p0 : List (Int × Int × Int × Int)) (p1 : Int) (p2 : Int) : Le (Ci nE p0 p1 p2) (AZ p0 p1 p2) := by
  unfold Ci AZ
  repeat' with_reducible (first | refine Le.orR' ?_ ?_ | refine Le.bind' ?_ ?_ | refine Le.ite' ?_ ?_ | refine Le.loop' ?_ | refine Le.altS' ?_ ?_ | apply D2 | exact Le.rfl' _ | (refine Le.pi2 ?_; intro _) | intro _)
def Cn (nE : Nat) (p1 : Int) (x7 : List (Int × Int × Int × Int)) (x9 : Int) : Int → Option (Int ⊕ Int)
  | x11 => (if x11 ≤ x9 then (ix x7 p1).bind fun x13 => (ix x7 x11).bind fun x14 => (BZ nE x13 x14).bind fun x15 => some (!(decide (x15 < 0))) else some false).bind fun x12 => (if x12 = true then some (.inl (AB (x11 + 1))) else some (.inr x11))
theorem Ey (nE : Nat) (p1 : Int) (x7 : List (Int × Int × Int × Int)) (x9 : Int) : ∀ s, Le (Cn nE p1 x7 x9 s) (Bd p1 x7 x9 s) := by
  intro x11
  unfold Cn Bd
  repeat' with_reducible (first | refine Le.orR' ?_ ?_ | refine Le.bind' ?_ ?_ | refine Le.ite' ?_ ?_ | refine Le.loop' ?_ | refine Le.altS' ?_ ?_ | apply B7 | exact Le.rfl' _ | (refine Le.pi2 ?_; intro _) | intro _)
def Co (nE : Nat) (p1 : Int) (x7 : List (Int × Int × Int × Int)) (x10 : Int) : Int → Option (Int ⊕ Int)
  | x17 => (if x10 ≤ x17 then (ix x7 p1).bind fun x19 => (ix x7 x17).bind fun x20 => (BZ nE x19 x20).bind fun x21 => some (decide (x21 < 0)) else some false).bind fun x18 => (if x18 = true then some (.inl (AB (x17 - 1))) else some (.inr x17))
theorem Ev (nE : Nat) (p1 : Int) (x7 : List (Int × Int × Int × Int)) (x10 : Int) : ∀ s, Le (Co nE p1 x7 x10 s) (Bc p1 x7 x10 s) := by
  intro x17
  unfold Co Bc
  repeat' with_reducible (first | refine Le.orR' ?_ ?_ | refine Le.bind' ?_ ?_ | refine Le.ite' ?_ ?_ | refine Le.loop' ?_ | refine Le.altS' ?_ ?_ | apply B7 | exact Le.rfl' _ | (refine Le.pi2 ?_; intro _) | intro _)
def Cm (nE : Nat) (p1 : Int) : ((List (Int × Int × Int × Int)) × Int × Int) → Option (((List (Int × Int × Int × Int)) × Int × Int) ⊕ (Int × (List (Int × Int × Int × Int))))
  | (x7, x8, x9) => (C3 nE (Cn nE p1 x7 x9) x8).bind fun x10 => (C3 nE (Co nE p1 x7 x10) x9).bind fun x16 => (if x16 < x10 then some (.inr (x10, x7)) else (ix x7 x16).bind fun x22 => (ix x7 x10).bind fun x23 => (ix x7 x10).bind fun x24 => (ix (Aq x7 x10 x22) x16).bind fun x25 => some (.inl ((Aq (Aq x7 x10 x22) x16 x23), AB (x10 + 1), AB (x16 - 1))))
theorem Ew (nE : Nat) (p1 : Int) : ∀ s, Le (Cm nE p1 s) (A6 p1 s) := by
  rintro ⟨x7, x8, x9⟩
  unfold Cm A6
  repeat' with_reducible (first | refine Le.orR' ?_ ?_ | refine Le.bind' ?_ ?_ | refine Le.ite' ?_ ?_ | refine Le.loop' ?_ | refine Le.altS' ?_ ?_ | apply Ey | apply Ev | exact Le.rfl' _ | (refine Le.pi2 ?_; intro _) | intro _)
def Cz (nE : Nat) (p0 : List (Int × Int × Int × Int)) (p1 : Int) (p2 : Int) (p3 : Int) : Option (Int × (List (Int × Int × Int × Int))) := (ix p0 p3).bind fun x1 => (ix p0 p1).bind fun x2 => (ix p0 p1).bind fun x3 => (ix (Aq p0 p1 x1) p3).bind fun x4 => (C3 nE (Cm nE p1) ((Aq (Aq p0 p1 x1) p3 x2), AB (p1 + 1), AB (p2 - 1))).bind fun (x5, x6) => some (x5, x6)
theorem EQ (nE : Nat) (p0 : List (Int × Int × Int × Int)) (p1 : Int) (p2 : Int) (p3 : Int) : Le (Cz nE p0 p1 p2 p3) (Bp p0 p1 p2 p3) := by
  unfold Cz Bp
  repeat' with_reducible (first | refine Le.orR' ?_ ?_ | refine Le.bind' ?_ ?_ | refine Le.ite' ?_ ?_ | refine Le.loop' ?_ | refine Le.altS' ?_ ?_ | apply Ew | exact Le.rfl' _ | (refine Le.pi2 ?_; intro _) | intro _)
def CG (nE : Nat) (p0 : List (Int × Int × Int × Int)) (p1 : Int) (p2 : Int) (p3 : Int) (x1 : Int × Int × Int × Int) (x2 : Int × Int × Int × Int) : Int → Option (Int ⊕ Int)
  | x6 => (if x6 ≤ (AB (p2 - 1)) then (ix (Aq (Aq p0 p1 x1) p3 x2) x6).bind fun x8 => (ix (Aq (Aq p0 p1 x1) p3 x2) p1).bind fun x9 => (BZ nE x8 x9).bind fun x10 => some (decide (x10 < 0)) else some false).bind fun x7 => (if x7 = true then some (.inl (AB (x6 + 1))) else some (.inr x6))
theorem Fa (nE : Nat) (p0 : List (Int × Int × Int × Int)) (p1 : Int) (p2 : Int) (p3 : Int) (x1 : Int × Int × Int × Int) (x2 : Int × Int × Int × Int) : ∀ s, Le (CG nE p0 p1 p2 p3 x1 x2 s) (Bg p0 p1 p2 p3 x1 x2 s) := by
  intro x6
  unfold CG Bg
  repeat' with_reducible (first | refine Le.orR' ?_ ?_ | refine Le.bind' ?_ ?_ | refine Le.ite' ?_ ?_ | refine Le.loop' ?_ | refine Le.altS' ?_ ?_ | apply B7 | exact Le.rfl' _ | (refine Le.pi2 ?_; intro _) | intro _)
def CM (nE : Nat) (p0 : List (Int × Int × Int × Int)) (p1 : Int) (p3 : Int) (x1 : Int × Int × Int × Int) (x2 : Int × Int × Int × Int) (x5 : Int) : Int → Option (Int ⊕ Int)
  | x12 => (if x5 ≤ x12 then (ix (Aq (Aq p0 p1 x1) p3 x2) x12).bind fun x14 => (ix (Aq (Aq p0 p1 x1) p3 x2) p1).bind fun x15 => (BZ nE x14 x15).bind fun x16 => some (!(decide (x16 < 0))) else some false).bind fun x13 => (if x13 = true then some (.inl (AB (x12 - 1))) else some (.inr x12))
theorem E5 (nE : Nat) (p0 : List (Int × Int × Int × Int)) (p1 : Int) (p3 : Int) (x1 : Int × Int × Int × Int) (x2 : Int × Int × Int × Int) (x5 : Int) : ∀ s, Le (CM nE p0 p1 p3 x1 x2 x5 s) (BB p0 p1 p3 x1 x2 x5 s) := by
  intro x12
  unfold CM BB
  repeat' with_reducible (first | refine Le.orR' ?_ ?_ | refine Le.bind' ?_ ?_ | refine Le.ite' ?_ ?_ | refine Le.loop' ?_ | refine Le.altS' ?_ ?_ | apply B7 | exact Le.rfl' _ | (refine Le.pi2 ?_; intro _) | intro _)
def CO (nE : Nat) (p1 : Int) (x27 : List (Int × Int × Int × Int)) (x29 : Int) : Int → Option (Int ⊕ Int)
  | x31 => (if x31 ≤ x29 then (ix x27 x31).bind fun x33 => (ix x27 p1).bind fun x34 => (BZ nE x33 x34).bind fun x35 => some (decide (x35 < 0)) else some false).bind fun x32 => (if x32 = true then some (.inl (AB (x31 + 1))) else some (.inr x31))
theorem Fc (nE : Nat) (p1 : Int) (x27 : List (Int × Int × Int × Int)) (x29 : Int) : ∀ s, Le (CO nE p1 x27 x29 s) (Bx p1 x27 x29 s) := by
  intro x31
  unfold CO Bx
  repeat' with_reducible (first | refine Le.orR' ?_ ?_ | refine Le.bind' ?_ ?_ | refine Le.ite' ?_ ?_ | refine Le.loop' ?_ | refine Le.altS' ?_ ?_ | apply B7 | exact Le.rfl' _ | (refine Le.pi2 ?_; intro _) | intro _)
def CJ (nE : Nat) (p1 : Int) (x27 : List (Int × Int × Int × Int)) (x30 : Int) : Int → Option (Int ⊕ Int)
  | x37 => (if x30 ≤ x37 then (ix x27 x37).bind fun x39 => (ix x27 p1).bind fun x40 => (BZ nE x39 x40).bind fun x41 => some (!(decide (x41 < 0))) else some false).bind fun x38 => (if x38 = true then some (.inl (AB (x37 - 1))) else some (.inr x37))
theorem E9 (nE : Nat) (p1 : Int) (x27 : List (Int × Int × Int × Int)) (x30 : Int) : ∀ s, Le (CJ nE p1 x27 x30 s) (BA p1 x27 x30 s) := by
  intro x37
  unfold CJ BA
  repeat' with_reducible (first | refine Le.orR' ?_ ?_ | refine Le.bind' ?_ ?_ | refine Le.ite' ?_ ?_ | refine Le.loop' ?_ | refine Le.altS' ?_ ?_ | apply B7 | exact Le.rfl' _ | (refine Le.pi2 ?_; intro _) | intro _)
def CH (nE : Nat) (p1 : Int) : ((List (Int × Int × Int × Int)) × Int × Int) → Option (((List (Int × Int × Int × Int)) × Int × Int) ⊕ ((List (Int × Int × Int × Int)) × Int))
  | (x27, x28, x29) => (C3 nE (CO nE p1 x27 x29) x28).bind fun x30 => (C3 nE (CJ nE p1 x27 x30) x29).bind fun x36 => (if x36 < x30 then some (.inr (x27, x36)) else (ix x27 x36).bind fun x42 => (ix x27 x30).bind fun x43 => (ix x27 x30).bind fun x44 => (ix (Aq x27 x30 x42) x36).bind fun x45 => some (.inl ((Aq (Aq x27 x30 x42) x36 x43), AB (x30 + 1), AB (x36 - 1))))
theorem Fb (nE : Nat) (p1 : Int) : ∀ s, Le (CH nE p1 s) (A9 p1 s) := by
  rintro ⟨x27, x28, x29⟩
  unfold CH A9
  repeat' with_reducible (first | refine Le.orR' ?_ ?_ | refine Le.bind' ?_ ?_ | refine Le.ite' ?_ ?_ | refine Le.loop' ?_ | refine Le.altS' ?_ ?_ | apply Fc | apply E9 | exact Le.rfl' _ | (refine Le.pi2 ?_; intro _) | intro _)
def CZ (nE : Nat) (p0 : List (Int × Int × Int × Int)) (p1 : Int) (p2 : Int) (p3 : Int) : Option (Int × Bool × (List (Int × Int × Int × Int))) := (ix p0 p3).bind fun x1 => (ix p0 p1).bind fun x2 => (ix p0 p1).bind fun x3 => (ix (Aq p0 p1 x1) p3).bind fun x4 => (C3 nE (CG nE p0 p1 p2 p3 x1 x2) (AB (p1 + 1))).bind fun x5 => (C3 nE (CM nE p0 p1 p3 x1 x2 x5) (AB (p2 - 1))).bind fun x11 => (if x11 < x5 then (ix (Aq (Aq p0 p1 x1) p3 x2) p1).bind fun x17 => (ix (Aq (Aq p0 p1 x1) p3 x2) x11).bind fun x18 => (ix (Aq (Aq p0 p1 x1) p3 x2) x11).bind fun x19 => (ix (Aq (Aq (Aq p0 p1 x1) p3 x2) x11 x17) p1).bind fun x20 => some (x11, true, (Aq (Aq (Aq (Aq p0 p1 x1) p3 x2) x11 x17) p1 x18)) else (ix (Aq (Aq p0 p1 x1) p3 x2) x11).bind fun x21 => (ix (Aq (Aq p0 p1 x1) p3 x2) x5).bind fun x22 => (ix (Aq (Aq p0 p1 x1) p3 x2) x5).bind fun x23 => (ix (Aq (Aq (Aq p0 p1 x1) p3 x2) x5 x21) x11).bind fun x24 => (C3 nE (CH nE p1) ((Aq (Aq (Aq (Aq p0 p1 x1) p3 x2) x5 x21) x11 x22), AB (x5 + 1), AB (x11 - 1))).bind fun (x25, x26) => (ix x25 p1).bind fun x46 => (ix x25 x26).bind fun x47 => (ix x25 x26).bind fun x48 => (ix (Aq x25 x26 x46) p1).bind fun x49 => some (x26, false, (Aq (Aq x25 x26 x46) p1 x47)))
theorem FG (nE : Nat) (p0 : List (Int × Int × Int × Int)) (p1 : Int) (p2 : Int) (p3 : Int) : Le (CZ nE p0 p1 p2 p3) (BL p0 p1 p2 p3) := by
  unfold CZ BL
  repeat' with_reducible (first | refine Le.orR' ?_ ?_ | refine Le.bind' ?_ ?_ | refine Le.ite' ?_ ?_ | refine Le.loop' ?_ | refine Le.altS' ?_ ?_ | apply Fa | apply E5 | apply Fb | exact Le.rfl' _ | (refine Le.pi2 ?_; intro _) | intro _)
def EH (nE : Nat) (p0 : Int) : Option Int := (EX nE (IntKind.u64.wrap p0)).bind fun x1 => (Qj (Ec .u64 1 x1) x1).bind fun x2 => some x2
theorem H3 (nE : Nat) (p0 : Int) : Le (EH nE p0) (Cl p0) := by
  unfold EH Cl
  repeat' with_reducible (first | refine Le.orR' ?_ ?_ | refine Le.bind' ?_ ?_ | refine Le.ite' ?_ ?_ | refine Le.loop' ?_ | refine Le.altS' ?_ ?_ | apply GR | exact Le.rfl' _ | (refine Le.pi2 ?_; intro _) | intro _)
def Ct (nE : Nat) (p1 : Int) (p2 : Int) (x1 : Int) : ((List (Int × Int × Int × Int)) × Int × Int) → Option (((List (Int × Int × Int × Int)) × Int × Int) ⊕ (List (Int × Int × Int × Int)))
  | (x2, x3, x4) => (if x3 ≤ (AB ((AB (p1 + (AB ((AB (Int.tdiv (AB (p2 - p1)) 4)) * 2)))) + 1)) then (if (AB (p2 - p1)) ≤ (AB (Ln .u64 ((Bj x4).1) (IntKind.u64.wrap (x1 - 1)))) then some (AB ((AB (Ln .u64 ((Bj x4).1) (IntKind.u64.wrap (x1 - 1)))) - (AB (p2 - p1)))) else some (AB (Ln .u64 ((Bj x4).1) (IntKind.u64.wrap (x1 - 1))))).bind fun x5 => (ix x2 (AB (p1 + x5))).bind fun x6 => (ix x2 x3).bind fun x7 => (ix x2 x3).bind fun x8 => (ix (Aq x2 x3 x6) (AB (p1 + x5))).bind fun x9 => some (.inl ((Aq (Aq x2 x3 x6) (AB (p1 + x5)) x7), AB (x3 + 1), (Bj x4).2)) else some (.inr x2))
theorem EC (nE : Nat) (p1 : Int) (p2 : Int) (x1 : Int) : ∀ s, Le (Ct nE p1 p2 x1 s) (A7 p1 p2 x1 s) := by
  rintro ⟨x2, x3, x4⟩
  unfold Ct A7
  repeat' with_reducible (first | refine Le.orR' ?_ ?_ | refine Le.bind' ?_ ?_ | refine Le.ite' ?_ ?_ | refine Le.loop' ?_ | refine Le.altS' ?_ ?_ | exact Le.rfl' _ | (refine Le.pi2 ?_; intro _) | intro _)
def CE (nE : Nat) (p0 : List (Int × Int × Int × Int)) (p1 : Int) (p2 : Int) : Option (List (Int × Int × Int × Int)) := (if 8 ≤ (AB (p2 - p1)) then (EH nE (AB (p2 - p1))).bind fun x1 => C3 nE (Ct nE p1 p2 x1) (p0, AB ((AB (p1 + (AB ((AB (Int.tdiv (AB (p2 - p1)) 4)) * 2)))) - 1), IntKind.u64.wrap (AB (p2 - p1))) else some p0)
theorem EV (nE : Nat) (p0 : List (Int × Int × Int × Int)) (p1 : Int) (p2 : Int) : Le (CE nE p0 p1 p2) (Bb p0 p1 p2) := by
  unfold CE Bb
  repeat' with_reducible (first | refine Le.orR' ?_ ?_ | refine Le.bind' ?_ ?_ | refine Le.ite' ?_ ?_ | refine Le.loop' ?_ | refine Le.altS' ?_ ?_ | apply H3 | apply EC | exact Le.rfl' _ | (refine Le.pi2 ?_; intro _) | intro _)
def CV (nE : Nat) (fRec : (List (Int × Int × Int × Int)) → Int → Int → Int → Option (List (Int × Int × Int × Int))) : ((List (Int × Int × Int × Int)) × Int × Int × Int × Bool × Bool) → Option (((List (Int × Int × Int × Int)) × Int × Int × Int × Bool × Bool) ⊕ (List (Int × Int × Int × Int)))
  | (x1, x2, x3, x4, x5, x6) => (if (AB (x3 - x2)) ≤ 12 then (CC nE x1 x2 x3).bind fun x7 => some (.inr x7) else (if x4 = 0 then (C8 nE x1 x2 x3).bind fun x8 => some (.inr x8) else (if (!x5) = true then (CE nE x1 x2 x3).bind fun x11 => some (x11, AB (x4 - 1)) else some (x1, x4)).bind fun (x9, x10) => (CQ nE x9 x2 x3).bind fun x12 => (if x12.2 = 2 then (CF nE x9 x2 x3).bind fun x16 => some (x16, AB ((AB (x3 - 1)) - (AB (x12.1 - x2))), 1) else some (x9, x12.1, x12.2)).bind fun (x13, x14, x15) => F3 (if (x5 && (x6 && decide (x15 = 1))) = true then (Ci nE x13 x2 x3).bind fun x18 => (if x18.1 = true then some (.inr (.inr x18.2)) else some (.inl x18.2)) else some (.inl x13)) fun x17 => (if 0 < x2 then (ix x17 (AB (x2 - 1))).bind fun x20 => (ix x17 x14).bind fun x21 => (BZ nE x20 x21).bind fun x22 => some (!(decide (x22 < 0))) else some false).bind fun x19 => (if x19 = true then (Cz nE x17 x2 x3 x14).bind fun x23 => some (.inl (x23.2, x23.1, x3, x10, (x5 && (x6 || true)), (bif x5 then x6 else x6))) else (CZ nE x17 x2 x3 x14).bind fun x24 => (if (AB (x24.1 - x2)) < (AB (x3 - x24.1)) then (fRec x24.2.2 x2 x24.1 x10).bind fun x25 => some (.inl (x25, AB (x24.1 + 1), x3, x10, decide ((AB (Int.tdiv (AB (x3 - x2)) 8)) ≤ (AB (x24.1 - x2))), x24.2.1)) else (fRec x24.2.2 (AB (x24.1 + 1)) x3 x10).bind fun x26 => some (.inl (x26, x2, x24.1, x10, decide ((AB (Int.tdiv (AB (x3 - x2)) 8)) ≤ (AB (x3 - x24.1))), x24.2.1))))))
theorem Fw (nE : Nat) {fRec fRec' : (List (Int × Int × Int × Int)) → Int → Int → Int → Option (List (Int × Int × Int × Int))} (hR : ∀ a0 a1 a2 a3, Le (fRec a0 a1 a2 a3) (fRec' a0 a1 a2 a3)) : ∀ s, Le (CV nE fRec s) (Ap fRec' s) := by
  rintro ⟨x1, x2, x3, x4, x5, x6⟩
  unfold CV Ap
  repeat' with_reducible (first | refine Le.orR' ?_ ?_ | refine Le.bind' ?_ ?_ | refine Le.ite' ?_ ?_ | refine Le.loop' ?_ | refine Le.altS' ?_ ?_ | exact hR _ _ _ _ | apply B7 | apply EW | apply FQ | apply Fg | apply E4 | apply Eg | apply EQ | apply FG | apply EV | exact Le.rfl' _ | (refine Le.pi2 ?_; intro _) | intro _)
theorem FA {fRec fRec' : (List (Int × Int × Int × Int)) → Int → Int → Int → Option (List (Int × Int × Int × Int))} (hR : ∀ a0 a1 a2 a3, Le (fRec a0 a1 a2 a3) (fRec' a0 a1 a2 a3)) : ∀ s, Le (Ap fRec s) (Ap fRec' s) := by
  rintro ⟨x1, x2, x3, x4, x5, x6⟩
  show Le (Ap fRec (x1, x2, x3, x4, x5, x6)) (Ap fRec' (x1, x2, x3, x4, x5, x6))
  unfold Ap
  repeat' with_reducible (first | refine Le.orR' ?_ ?_ | refine Le.bind' ?_ ?_ | refine Le.ite' ?_ ?_ | refine Le.loopM ?_ | refine Le.altS' ?_ ?_ | exact hR _ _ _ _ | exact Le.rfl' _ | (refine Le.pi2 ?_; intro _) | intro _)
def CW (nE : Nat) (fRec : (List (Int × Int × Int × Int)) → Int → Int → Int → Option (List (Int × Int × Int × Int))) (p0 : List (Int × Int × Int × Int)) (p1 : Int) (p2 : Int) (p3 : Int) : Option (List (Int × Int × Int × Int)) := C3 nE (CV nE fRec) (p0, p1, p2, p3, true, true)
theorem Fx (nE : Nat) {fRec fRec' : (List (Int × Int × Int × Int)) → Int → Int → Int → Option (List (Int × Int × Int × Int))} (hR : ∀ a0 a1 a2 a3, Le (fRec a0 a1 a2 a3) (fRec' a0 a1 a2 a3)) (p0 : List (Int × Int × Int × Int)) (p1 : Int) (p2 : Int) (p3 : Int) : Le (CW nE fRec p0 p1 p2 p3) (Bo fRec' p0 p1 p2 p3) := by
  unfold CW Bo
  repeat' with_reducible (first | refine Le.orR' ?_ ?_ | refine Le.bind' ?_ ?_ | refine Le.ite' ?_ ?_ | refine Le.loop' ?_ | refine Le.altS' ?_ ?_ | exact hR _ _ _ _ | apply Fw nE hR | exact Le.rfl' _ | (refine Le.pi2 ?_; intro _) | intro _)
theorem Ft {fRec fRec' : (List (Int × Int × Int × Int)) → Int → Int → Int → Option (List (Int × Int × Int × Int))} (hR : ∀ a0 a1 a2 a3, Le (fRec a0 a1 a2 a3) (fRec' a0 a1 a2 a3)) (p0 : List (Int × Int × Int × Int)) (p1 : Int) (p2 : Int) (p3 : Int) : Le (Bo fRec p0 p1 p2 p3) (Bo fRec' p0 p1 p2 p3) := by
  unfold Bo
  repeat' with_reducible (first | refine Le.orR' ?_ ?_ | refine Le.bind' ?_ ?_ | refine Le.ite' ?_ ?_ | refine Le.loopM ?_ | refine Le.altS' ?_ ?_ | exact hR _ _ _ _ | apply FA hR | exact Le.rfl' _ | (refine Le.pi2 ?_; intro _) | intro _)
def C1 (nE : Nat) : Nat → (List (Int × Int × Int × Int)) → Int → Int → Int → Option (List (Int × Int × Int × Int))
  | 0 => fun _ _ _ _ => none
  | n + 1 => CW nE (C1 nE n)
theorem DH (nE : Nat) : ∀ (m : Nat) a0 a1 a2 a3, Le (C1 nE m a0 a1 a2 a3) (AD m a0 a1 a2 a3)
  | 0, a0, a1, a2, a3 => fun _ h => nomatch h
  | m + 1, a0, a1, a2, a3 => Fx nE (DH nE m) a0 a1 a2 a3
theorem DG : ∀ (m : Nat) a0 a1 a2 a3, Le (AD m a0 a1 a2 a3) (AD (m + 1) a0 a1 a2 a3)
  | 0, a0, a1, a2, a3 => fun _ h => nomatch h
  | m + 1, a0, a1, a2, a3 => Ft (DG m) a0 a1 a2 a3
def D7 (nE : Nat) (p0 : List (Int × Int × Int × Int)) (p1 : Int) (p2 : Int) (p3 : Int) : Option (List (Int × Int × Int × Int)) := C1 nE nE p0 p1 p2 p3
theorem FV (nE : Nat) (p0 : List (Int × Int × Int × Int)) (p1 : Int) (p2 : Int) (p3 : Int) : Le (D7 nE p0 p1 p2 p3) (Cj p0 p1 p2 p3) := fun r e => Pv (g := fun n => AD n p0 p1 p2 p3) (fun n r h => DG n p0 p1 p2 p3 r h) (n := nE) (DH nE nE p0 p1 p2 p3 r e)
def CL (nE : Nat) (p0 : List (Int × Int × Int × Int)) : Option (List (Int × Int × Int × Int)) := (EX nE (IntKind.u64.wrap (p0.length : Int))).bind fun x1 => (D7 nE p0 0 (p0.length : Int) x1).bind fun x2 => some x2
theorem E7 (nE : Nat) (p0 : List (Int × Int × Int × Int)) : Le (CL nE p0) (Bz p0) := by
  unfold CL Bz
  repeat' with_reducible (first | refine Le.orR' ?_ ?_ | refine Le.bind' ?_ ?_ | refine Le.ite' ?_ ?_ | refine Le.loop' ?_ | refine Le.altS' ?_ ?_ | apply GR | apply FV | exact Le.rfl' _ | (refine Le.pi2 ?_; intro _) | intro _)
def GJ (nE : Nat) (p1 : List (List Int)) (p2 : List (List Int)) (x6 : Int) (x8 : List Int) : ((List (Int × Int × Int × Int)) × Int) → Option (((List (Int × Int × Int × Int)) × Int) ⊕ (List (Int × Int × Int × Int)))
  | (x9, x10) => (if x10 < (x8.length : Int) then ((ix x8 x10).bind fun x12 => (ix p2 x10).bind fun x13 => (ix x13 x6).bind fun x14 => (ix p1 x10).bind fun x15 => (ix x15 x6).bind fun x16 => (if x14 ≠ x16 then (Mg x9 ([(x10, x6, x14, x12)] : List (Int × Int × Int × Int))).bind fun x17 => some x17 else some x9)).bind fun x11 => some (.inl (x11, AB (x10 + 1))) else some (.inr x9))
theorem JI (nE : Nat) (p1 : List (List Int)) (p2 : List (List Int)) (x6 : Int) (x8 : List Int) : ∀ s, Le (GJ nE p1 p2 x6 x8 s) (CT p1 p2 x6 x8 s) := by
  rintro ⟨x9, x10⟩
  unfold GJ CT
  repeat' with_reducible (first | refine Le.orR' ?_ ?_ | refine Le.bind' ?_ ?_ | refine Le.ite' ?_ ?_ | refine Le.loop' ?_ | refine Le.altS' ?_ ?_ | exact Le.rfl' _ | (refine Le.pi2 ?_; intro _) | intro _)
def GL (nE : Nat) (p0 : Int × (List (Int × Int × Int × Int × Int × Int)) × (List (Int × Int))) (p1 : List (List Int)) (p2 : List (List Int)) : ((List (Int × Int × Int × Int)) × Int) → Option (((List (Int × Int × Int × Int)) × Int) ⊕ (List (Int × Int × Int × Int)))
  | (x5, x6) => (if x6 < (p0.2.2.length : Int) then ((I1 nE p0 p2 x6).bind fun x8 => C3 nE (GJ nE p1 p2 x6 x8) (x5, 0)).bind fun x7 => some (.inl (x7, AB (x6 + 1))) else some (.inr x5))
theorem Jt (nE : Nat) (p0 : Int × (List (Int × Int × Int × Int × Int × Int)) × (List (Int × Int))) (p1 : List (List Int)) (p2 : List (List Int)) : ∀ s, Le (GL nE p0 p1 p2 s) (Dq p0 p1 p2 s) := by
  rintro ⟨x5, x6⟩
  unfold GL Dq
  repeat' with_reducible (first | refine Le.orR' ?_ ?_ | refine Le.bind' ?_ ?_ | refine Le.ite' ?_ ?_ | refine Le.loop' ?_ | refine Le.altS' ?_ ?_ | apply LZ | apply JI | exact Le.rfl' _ | (refine Le.pi2 ?_; intro _) | intro _)
def HV (nE : Nat) (p0 : Int × (List (Int × Int × Int × Int × Int × Int)) × (List (Int × Int))) (p1 : List (List Int)) (p2 : List (List Int)) : Option ((List (Int × Int × Int × Int)) × Int) := ((Hr nE p0 p1).bind fun x2 => (if (!x2) = true then some true else (Hr nE p0 p2).bind fun x3 => some (!x3))).bind fun x1 => (if x1 = true then some (([] : List (Int × Int × Int × Int)), 2) else (C3 nE (GL nE p0 p1 p2) ([], 0)).bind fun x4 => (CL nE x4).bind fun x18 => some (x18, 0))
theorem KC (nE : Nat) (p0 : Int × (List (Int × Int × Int × Int × Int × Int)) × (List (Int × Int))) (p1 : List (List Int)) (p2 : List (List Int)) : Le (HV nE p0 p1 p2) (EL p0 p1 p2) := by
  unfold HV EL
  repeat' with_reducible (first | refine Le.orR' ?_ ?_ | refine Le.bind' ?_ ?_ | refine Le.ite' ?_ ?_ | refine Le.loop' ?_ | refine Le.altS' ?_ ?_ | apply Lp | apply E7 | apply Jt | exact Le.rfl' _ | (refine Le.pi2 ?_; intro _) | intro _)
def CY (nE : Nat) (p1 : Int) : (List Int × Int) → Option ((List Int × Int) ⊕ (List Int))
  | (x4, x5) => (if p1 < x5 then (ix x4 x5).bind fun x7 => (ix x4 (AB (x5 - 1))).bind fun x8 => some (Gk x7 x8) else some false).bind fun x6 => (if x6 = true then (ix x4 (AB (x5 - 1))).bind fun x9 => (ix x4 x5).bind fun x10 => (ix x4 x5).bind fun x11 => (ix (Aq x4 x5 x9) (AB (x5 - 1))).bind fun x12 => some (.inl ((Aq (Aq x4 x5 x9) (AB (x5 - 1)) x10), AB (x5 - 1))) else some (.inr x4))
theorem FH (nE : Nat) (p1 : Int) : ∀ s, Le (CY nE p1 s) (Cu p1 s) := by
  rintro ⟨x4, x5⟩
  unfold CY Cu
  repeat' with_reducible (first | refine Le.orR' ?_ ?_ | refine Le.bind' ?_ ?_ | refine Le.ite' ?_ ?_ | refine Le.loop' ?_ | refine Le.altS' ?_ ?_ | exact Le.rfl' _ | (refine Le.pi2 ?_; intro _) | intro _)
def C0 (nE : Nat) (p1 : Int) (p2 : Int) : (List Int × Int) → Option ((List Int × Int) ⊕ (List Int))
  | (x1, x2) => (if x2 < p2 then (C3 nE (CY nE p1) (x1, x2)).bind fun x3 => some (.inl (x3, AB (x2 + 1))) else some (.inr x1))
theorem FF (nE : Nat) (p1 : Int) (p2 : Int) : ∀ s, Le (C0 nE p1 p2 s) (Cv p1 p2 s) := by
  rintro ⟨x1, x2⟩
  unfold C0 Cv
  repeat' with_reducible (first | refine Le.orR' ?_ ?_ | refine Le.bind' ?_ ?_ | refine Le.ite' ?_ ?_ | refine Le.loop' ?_ | refine Le.altS' ?_ ?_ | apply FH | exact Le.rfl' _ | (refine Le.pi2 ?_; intro _) | intro _)
def Dh (nE : Nat) (p0 : List Int) (p1 : Int) (p2 : Int) : Option (List Int) := C3 nE (C0 nE p1 p2) (p0, AB (p1 + 1))
theorem F0 (nE : Nat) (p0 : List Int) (p1 : Int) (p2 : Int) : Le (Dh nE p0 p1 p2) (Ck p0 p1 p2) := by
  unfold Dh Ck
  repeat' with_reducible (first | refine Le.orR' ?_ ?_ | refine Le.bind' ?_ ?_ | refine Le.ite' ?_ ?_ | refine Le.loop' ?_ | refine Le.altS' ?_ ?_ | apply FF | exact Le.rfl' _ | (refine Le.pi2 ?_; intro _) | intro _)
def Dw (nE : Nat) (p0 : List Int) (p1 : Int) (p2 : Int) : Unit → Option (Unit ⊕ (List Int))
  | _ => (if (AB (p2 - p1)) ≤ 12 then (Dh nE p0 p1 p2).bind fun x1 => some (.inr x1) else none)
theorem GB (nE : Nat) (p0 : List Int) (p1 : Int) (p2 : Int) : ∀ s, Le (Dw nE p0 p1 p2 s) (Da p0 p1 p2 s) := by
  intro s
  unfold Dw Da
  repeat' with_reducible (first | refine Le.orR' ?_ ?_ | refine Le.bind' ?_ ?_ | refine Le.ite' ?_ ?_ | refine Le.loop' ?_ | refine Le.altS' ?_ ?_ | apply F0 | exact Le.rfl' _ | (refine Le.pi2 ?_; intro _) | intro _)
def DR (nE : Nat) (p0 : List Int) (p1 : Int) (p2 : Int) (p3 : Int) : Option (List Int) := C3 nE (Dw nE p0 p1 p2) ()
theorem Hd (nE : Nat) (p0 : List Int) (p1 : Int) (p2 : Int) (p3 : Int) : Le (DR nE p0 p1 p2 p3) (CX p0 p1 p2 p3) := by
  unfold DR CX
  repeat' with_reducible (first | refine Le.orR' ?_ ?_ | refine Le.bind' ?_ ?_ | refine Le.ite' ?_ ?_ | refine Le.loop' ?_ | refine Le.altS' ?_ ?_ | apply GB | exact Le.rfl' _ | (refine Le.pi2 ?_; intro _) | intro _)
def Fd (nE : Nat) (p0 : List Int) : Option (List Int) := (EX nE (IntKind.u64.wrap (p0.length : Int))).bind fun x1 => (DR nE p0 0 (p0.length : Int) x1).bind fun x2 => some x2
theorem IC (nE : Nat) (p0 : List Int) : Le (Fd nE p0) (DN p0) := by
  unfold Fd DN
  repeat' with_reducible (first | refine Le.orR' ?_ ?_ | refine Le.bind' ?_ ?_ | refine Le.ite' ?_ ?_ | refine Le.loop' ?_ | refine Le.altS' ?_ ?_ | apply GR | apply Hd | exact Le.rfl' _ | (refine Le.pi2 ?_; intro _) | intro _)
def DS (nE : Nat) (p0 : List Int) (x1 : Int) : (List Int × Int × Int) → Option ((List Int × Int × Int) ⊕ (List Int × Int))
  | (x7, x8, x9) => (IP x7 x1 (p0.length : Int)).bind fun x10 => (if x9 < (x10.length : Int) then ((ix x10 x9).bind fun x13 => (ix x10 (AB (x9 - 1))).bind fun x14 => (if x13 ≠ x14 then (ix x10 x9).bind fun x15 => (ix x7 x8).bind fun x16 => some ((Aq x7 x8 x15), AB (x8 + 1)) else some (x7, x8))).bind fun (x11, x12) => some (.inl (x11, x12, AB (x9 + 1))) else some (.inr (x7, x8)))
theorem Hg (nE : Nat) (p0 : List Int) (x1 : Int) : ∀ s, Le (DS nE p0 x1 s) (Du p0 x1 s) := by
  rintro ⟨x7, x8, x9⟩
  unfold DS Du
  repeat' with_reducible (first | refine Le.orR' ?_ ?_ | refine Le.bind' ?_ ?_ | refine Le.ite' ?_ ?_ | refine Le.loop' ?_ | refine Le.altS' ?_ ?_ | exact Le.rfl' _ | (refine Le.pi2 ?_; intro _) | intro _)
def DT (nE : Nat) (p0 : List Int) : Int → Option (Int ⊕ (Unit ⊕ (List Int)))
  | x1 => (if x1 < (p0.length : Int) then F3 ((ix p0 x1).bind fun x2 => (ix p0 (AB (x1 - 1))).bind fun x3 => (if x2 = x3 then (IP p0 x1 (p0.length : Int)).bind fun x4 => (C3 nE (DS nE p0 x1) (p0, x1, 1)).bind fun (x5, x6) => (IP x5 x6 (x5.length : Int)).bind fun x17 => (QB x5 x6 (List.replicate (x17.length) (0 : Int))).bind fun x18 => (IP x18 0 x6).bind fun x19 => some (.inr (.inr (.inr x19))) else some (.inl ()))) fun _ => some (.inl (AB (x1 + 1))) else some (.inr (.inl ())))
theorem Hk (nE : Nat) (p0 : List Int) : ∀ s, Le (DT nE p0 s) (Dt p0 s) := by
  intro x1
  unfold DT Dt
  repeat' with_reducible (first | refine Le.orR' ?_ ?_ | refine Le.bind' ?_ ?_ | refine Le.ite' ?_ ?_ | refine Le.loop' ?_ | refine Le.altS' ?_ ?_ | apply Hg | exact Le.rfl' _ | (refine Le.pi2 ?_; intro _) | intro _)
def Er (nE : Nat) (p0 : List Int) : Option (List Int) := (if (p0.length : Int) < 2 then some p0 else F3 (C3 nE (DT nE p0) 1) fun _ => some p0)
theorem HL (nE : Nat) (p0 : List Int) : Le (Er nE p0) (Dl p0) := by
  unfold Er Dl
  repeat' with_reducible (first | refine Le.orR' ?_ ?_ | refine Le.bind' ?_ ?_ | refine Le.ite' ?_ ?_ | refine Le.loop' ?_ | refine Le.altS' ?_ ?_ | apply Hk | exact Le.rfl' _ | (refine Le.pi2 ?_; intro _) | intro _)
def Gu (nE : Nat) (p0 : List Int) : Option (List Int) := (Fd nE p0).bind fun x1 => (Er nE x1).bind fun x2 => some x2
theorem Jf (nE : Nat) (p0 : List Int) : Le (Gu nE p0) (EY p0) := by
  unfold Gu EY
  repeat' with_reducible (first | refine Le.orR' ?_ ?_ | refine Le.bind' ?_ ?_ | refine Le.ite' ?_ ?_ | refine Le.loop' ?_ | refine Le.altS' ?_ ?_ | apply IC | apply HL | exact Le.rfl' _ | (refine Le.pi2 ?_; intro _) | intro _)
def Gy (nE : Nat) (p0 : List (Int × Int × Int × Int)) : (List Int × Int) → Option ((List Int × Int) ⊕ (List Int))
  | (x2, x3) => (if x3 < (p0.length : Int) then (ix p0 x3).bind fun x4 => (Mg x2 ([x4.2.2.2] : List Int)).bind fun x5 => some (.inl (x5, AB (x3 + 1))) else some (.inr x2))
theorem Ji (nE : Nat) (p0 : List (Int × Int × Int × Int)) : ∀ s, Le (Gy nE p0 s) (FZ p0 s) := by
  rintro ⟨x2, x3⟩
  unfold Gy FZ
  repeat' with_reducible (first | refine Le.orR' ?_ ?_ | refine Le.bind' ?_ ?_ | refine Le.ite' ?_ ?_ | refine Le.loop' ?_ | refine Le.altS' ?_ ?_ | exact Le.rfl' _ | (refine Le.pi2 ?_; intro _) | intro _)
def HC (nE : Nat) (p0 : List (Int × Int × Int × Int)) : Option (List Int) := (C3 nE (Gy nE p0) ([], 0)).bind fun x1 => (Gu nE x1).bind fun x6 => some x6
theorem Kh (nE : Nat) (p0 : List (Int × Int × Int × Int)) : Le (HC nE p0) (Gs p0) := by
  unfold HC Gs
  repeat' with_reducible (first | refine Le.orR' ?_ ?_ | refine Le.bind' ?_ ?_ | refine Le.ite' ?_ ?_ | refine Le.loop' ?_ | refine Le.altS' ?_ ?_ | apply Jf | apply Ji | exact Le.rfl' _ | (refine Le.pi2 ?_; intro _) | intro _)
def H2 (nE : Nat) (p0 : List Int) (p1 : List Int) : Int → Option (Int ⊕ (Unit ⊕ Bool))
  | x1 => (if x1 < (p0.length : Int) then (ix p0 x1).bind fun x2 => (ix p1 x1).bind fun x3 => (if x2 ≠ x3 then some (.inr (.inr false)) else some (.inl (AB (x1 + 1)))) else some (.inr (.inl ())))
theorem KF (nE : Nat) (p0 : List Int) (p1 : List Int) : ∀ s, Le (H2 nE p0 p1 s) (Fp p0 p1 s) := by
  intro x1
  unfold H2 Fp
  repeat' with_reducible (first | refine Le.orR' ?_ ?_ | refine Le.bind' ?_ ?_ | refine Le.ite' ?_ ?_ | refine Le.loop' ?_ | refine Le.altS' ?_ ?_ | exact Le.rfl' _ | (refine Le.pi2 ?_; intro _) | intro _)
def Jo (nE : Nat) (p0 : List Int) (p1 : List Int) : Option Bool := (if (p0.length : Int) ≠ (p1.length : Int) then some false else F3 (C3 nE (H2 nE p0 p1) 0) fun _ => some true)
theorem MK (nE : Nat) (p0 : List Int) (p1 : List Int) : Le (Jo nE p0 p1) (Ha p0 p1) := by
  unfold Jo Ha
  repeat' with_reducible (first | refine Le.orR' ?_ ?_ | refine Le.bind' ?_ ?_ | refine Le.ite' ?_ ?_ | refine Le.loop' ?_ | refine Le.altS' ?_ ?_ | apply KF | exact Le.rfl' _ | (refine Le.pi2 ?_; intro _) | intro _)
def J2 (nE : Nat)  : Option Bool := (HV nE (3, ([(0, 0, 1, 0, 1, 1), (1, 1, 2, 0, 1, 1), (0, 1, 2, 1, 1, 1)] : List (Int × Int × Int × Int × Int × Int)), ([(2, 7)] : List (Int × Int))) ([([0] : List Int), ([1] : List Int), ([7] : List Int)] : List (List Int)) ([([1] : List Int), ([1] : List Int), ([7] : List Int)] : List (List Int))).bind fun x1 => (if x1.2 = 0 then (if (x1.1.length : Int) = 1 then (ix x1.1 0).bind fun x3 => (if x3.1 = 0 ∧ x3.2.1 = 0 ∧ x3.2.2.1 = 1 ∧ x3.2.2.2 = 1 then (HC nE x1.1).bind fun x4 => (Jo nE x4 ([1] : List Int)).bind fun x5 => some x5 else some false) else some false) else some false).bind fun x2 => some x2
theorem Mk (nE : Nat)  : Le (J2 nE ) (GN ) := by
  unfold J2 GN
  repeat' with_reducible (first | refine Le.orR' ?_ ?_ | refine Le.bind' ?_ ?_ | refine Le.ite' ?_ ?_ | refine Le.loop' ?_ | refine Le.altS' ?_ ?_ | apply KC | apply Kh | apply MK | exact Le.rfl' _ | (refine Le.pi2 ?_; intro _) | intro _)
theorem Pm : GN = some true := Mk 60 _ (by kernel_rfl)
end Go.Proofs.Ythiejmoddfenlaa
