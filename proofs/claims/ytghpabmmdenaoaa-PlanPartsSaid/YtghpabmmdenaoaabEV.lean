/- Twins with fuel of Ig functions: what a twin answers, the function answers. Conditions: none. -/
import Derived.Test.YtghpabmmdenaoaabLP
import Derived.Test.YtghpabmmdenaoaabP1
namespace Go.Proofs.Ytghpabmmdenaoaa
open Go Go.RowKit
set_option linter.unusedVariables false
set_option linter.unusedSimpArgs false
set_option maxRecDepth 20000
set_option maxHeartbeats 1600000
abbrev Le {α : Type} (a b : Option α) : Prop := ∀ r, a = some r → b = some r
theorem Le.rfl' {α : Type} (a : Option α) : Le a a := fun _ h => h
theorem Le.bind' {α β : Type} {a b : Option α} {f g : α → Option β} (h : Le a b) (hf : ∀ x, Le (f x) (g x)) : Le (a.bind f) (b.bind g) := fun r e => by
  obtain ⟨x, h1, h2⟩ := Ak e
  rw [h x h1, Option.bind_some]; exact hf x r h2
theorem Le.ite' {α : Type} {c : Prop} [Decidable c] {a a' b b' : Option α} (h1 : Le a a') (h2 : Le b b') : Le (if c then a else b) (if c then a' else b') := fun r e => by
  by_cases h : c
  · rw [if_pos h] at e ⊢; exact h1 r e
  · rw [if_neg h] at e ⊢; exact h2 r e
theorem Le.orR' {α β : Type} {a b : Option (α ⊕ β)} {f g : α → Option β} (h : Le a b) (hf : ∀ x, Le (f x) (g x)) : Le (FO a f) (FO b g) :=
  Le.bind' h fun x => by
    cases x with
    | inl t => exact hf t
    | inr e => exact Le.rfl' _
def DM {σ ε : Type} (n : Nat) (step : σ → Option (σ ⊕ ε)) (s : σ) : Option ε := Ho step n s
theorem JY {σ ε : Type} {S T : σ → Option (σ ⊕ ε)} (h : ∀ s, Le (S s) (T s)) : ∀ (n : Nat) (s : σ), Le (Ho S n s) (Ho T n s)
  | 0, s => Le.rfl' _
  | n + 1, s => fun r e => by
    unfold Ho at e ⊢
    cases hs : S s with
    | none => rw [hs] at e; cases e
    | some q =>
      rw [hs] at e; rw [h s q hs]
      cases q with
      | inl s' => exact JY h n s' r e
      | inr _ => exact e
theorem Le.loop' {σ ε : Type} {n : Nat} {S T : σ → Option (σ ⊕ ε)} {s : σ} (h : ∀ s, Le (S s) (T s)) : Le (DM n S s) (AH T s) := fun r e => FQ.2 ⟨n, JY h n s r e⟩
theorem Le.pi2 {α β γ : Type} {f g : α × β → Option γ} (h : ∀ a b, Le (f (a, b)) (g (a, b))) : ∀ x, Le (f x) (g x) := fun x => h x.1 x.2
theorem Le.altS' {α β γ : Type} {y : α ⊕ β} {f f' : α → Option γ} {g g' : β → Option γ} (h : ∀ x, Le (f x) (f' x)) (k : ∀ x, Le (g x) (g' x)) : Le (Tf y f g) (Tf y f' g') := by
  cases y with
  | inl x => exact h x
  | inr x => exact k x
theorem RY {β : Type} {g : Nat → Option β} (hm : ∀ n r, g n = some r → g (n + 1) = some r) {n : Nat} {r : β} (h : g n = some r) : OY g = some r := by
  have up : ∀ (d m : Nat) (q : β), g m = some q → g (m + d) = some q := fun d => by
    induction d with
    | zero => exact fun m q h => h
    | succ d ih => exact fun m q h => hm _ _ (ih m q h)
  refine PQ n h fun m q hq => ?_
  have h1 := up m n r h
  have h2 := up n m q hq
  rw [Nat.add_comm] at h2
  exact Option.some.inj (h2.symm.trans h1)
theorem Le.loopM {σ ε : Type} {S T : σ → Option (σ ⊕ ε)} {s : σ} (h : ∀ s, Le (S s) (T s)) : Le (AH S s) (AH T s) := fun r e => by
  obtain ⟨n, hn⟩ := FQ.1 e
  exact FQ.2 ⟨n, JY h n s r hn⟩
def GY (nE : Nat) (p0 : Int × (List (Int × Int × Int × Int × Int × Int)) × (List (Int × Int))) : ((List (Int × Int)) × Int) → Option (((List (Int × Int)) × Int) ⊕ (List (Int × Int)))
  | (x2, x3) => (if x3 < (p0.2.1.length : Int) then (ix p0.2.1 x3).bind fun x4 => (KF x2 ([(x4.1, x4.2.1), (x4.2.2.1, x4.2.2.2.1)] : List (Int × Int))).bind fun x5 => some (.inl (x5, Az (x3 + 1))) else some (.inr x2))
theorem J9 (nE : Nat) (p0 : Int × (List (Int × Int × Int × Int × Int × Int)) × (List (Int × Int))) : ∀ s, Le (GY nE p0 s) (DW p0 s) := by
  rintro ⟨x2, x3⟩
  unfold GY DW
  repeat' with_reducible (first | refine Le.orR' ?_ ?_ | refine Le.bind' ?_ ?_ | refine Le.ite' ?_ ?_ | refine Le.loop' ?_ | refine Le.altS' ?_ ?_ | exact Le.rfl' _ | (refine Le.pi2 ?_; intro _) | intro _)
def GU (nE : Nat) (p0 : Int × (List (Int × Int × Int × Int × Int × Int)) × (List (Int × Int))) : ((List (Int × Int)) × Int) → Option (((List (Int × Int)) × Int) ⊕ (List (Int × Int)))
  | (x7, x8) => (if x8 < (p0.2.2.length : Int) then (ix p0.2.2 x8).bind fun x9 => (KF x7 ([x9] : List (Int × Int))).bind fun x10 => some (.inl (x10, Az (x8 + 1))) else some (.inr x7))
theorem KD (nE : Nat) (p0 : Int × (List (Int × Int × Int × Int × Int × Int)) × (List (Int × Int))) : ∀ s, Le (GU nE p0 s) (DN p0 s) := by
  rintro ⟨x7, x8⟩
  unfold GU DN
  repeat' with_reducible (first | refine Le.orR' ?_ ?_ | refine Le.bind' ?_ ?_ | refine Le.ite' ?_ ?_ | refine Le.loop' ?_ | refine Le.altS' ?_ ?_ | exact Le.rfl' _ | (refine Le.pi2 ?_; intro _) | intro _)
def Iu (nE : Nat) (p0 : Int × (List (Int × Int × Int × Int × Int × Int)) × (List (Int × Int))) : Option (List (Int × Int)) := (DM nE (GY nE p0) ([], 0)).bind fun x1 => (DM nE (GU nE p0) (x1, 0)).bind fun x6 => some x6
theorem Mj (nE : Nat) (p0 : Int × (List (Int × Int × Int × Int × Int × Int)) × (List (Int × Int))) : Le (Iu nE p0) (FG p0) := by
  unfold Iu FG
  repeat' with_reducible (first | refine Le.orR' ?_ ?_ | refine Le.bind' ?_ ?_ | refine Le.ite' ?_ ?_ | refine Le.loop' ?_ | refine Le.altS' ?_ ?_ | apply J9 | apply KD | exact Le.rfl' _ | (refine Le.pi2 ?_; intro _) | intro _)
def CS (nE : Nat) (p0 : List (Int × Int × Int × Int × Int × Int)) : Int → Option (Int ⊕ (Unit ⊕ Int))
  | x1 => (if x1 < (p0.length : Int) then (ix p0 x1).bind fun x2 => (if (Cx x2) = true then some (.inr (.inr x1)) else some (.inl (Az (x1 + 1)))) else some (.inr (.inl ())))
theorem Fe (nE : Nat) (p0 : List (Int × Int × Int × Int × Int × Int)) : ∀ s, Le (CS nE p0 s) (A2 p0 s) := by
  intro x1
  unfold CS A2
  repeat' with_reducible (first | refine Le.orR' ?_ ?_ | refine Le.bind' ?_ ?_ | refine Le.ite' ?_ ?_ | refine Le.loop' ?_ | refine Le.altS' ?_ ?_ | exact Le.rfl' _ | (refine Le.pi2 ?_; intro _) | intro _)
def C4 (nE : Nat) (p0 : List (Int × Int × Int × Int × Int × Int)) : Option Int := FO (DM nE (CS nE p0) 0) fun _ => some (-1)
theorem FL (nE : Nat) (p0 : List (Int × Int × Int × Int × Int × Int)) : Le (C4 nE p0) (Cd p0) := by
  unfold C4 Cd
  repeat' with_reducible (first | refine Le.orR' ?_ ?_ | refine Le.bind' ?_ ?_ | refine Le.ite' ?_ ?_ | refine Le.loop' ?_ | refine Le.altS' ?_ ?_ | apply Fe | exact Le.rfl' _ | (refine Le.pi2 ?_; intro _) | intro _)
def CR (nE : Nat) (p0 : List (Int × Int × Int × Int × Int × Int)) : Option Bool := (C4 nE p0).bind fun x1 => some (decide (0 ≤ x1))
theorem Fj (nE : Nat) (p0 : List (Int × Int × Int × Int × Int × Int)) : Le (CR nE p0) (BD p0) := by
  unfold CR BD
  repeat' with_reducible (first | refine Le.orR' ?_ ?_ | refine Le.bind' ?_ ?_ | refine Le.ite' ?_ ?_ | refine Le.loop' ?_ | refine Le.altS' ?_ ?_ | apply FL | exact Le.rfl' _ | (refine Le.pi2 ?_; intro _) | intro _)
def HI (nE : Nat) (p0 : Int × (List (Int × Int × Int × Int × Int × Int)) × (List (Int × Int))) (x2 : (List (Int × Int))) : (Int × (List ((Int × Int) × Unit))) → Option ((Int × (List ((Int × Int) × Unit))) ⊕ ((List ((Int × Int) × Unit)) ⊕ Bool))
  | (x3, x4) => (if x3 < (x2.length : Int) then (ix x2 x3).bind fun x5 => (if (decide (x5.1 < 0) || (decide (p0.1 ≤ x5.1) || (decide (x5.2 < 0) || decide (8 ≤ x5.2)))) = true then some (.inr (.inr false)) else (if ((KZ x4 x5).isSome) = true then some (.inr (.inr false)) else some (.inl (Az (x3 + 1), KX x4 x5 ())))) else some (.inr (.inl x4)))
theorem KP (nE : Nat) (p0 : Int × (List (Int × Int × Int × Int × Int × Int)) × (List (Int × Int))) (x2 : (List (Int × Int))) : ∀ s, Le (HI nE p0 x2 s) (C9 p0 x2 s) := by
  rintro ⟨x3, x4⟩
  unfold HI C9
  repeat' with_reducible (first | refine Le.orR' ?_ ?_ | refine Le.bind' ?_ ?_ | refine Le.ite' ?_ ?_ | refine Le.loop' ?_ | refine Le.altS' ?_ ?_ | exact Le.rfl' _ | (refine Le.pi2 ?_; intro _) | intro _)
def IW (nE : Nat) (p0 : Int × (List (Int × Int × Int × Int × Int × Int)) × (List (Int × Int))) : Option Bool := (if (decide (p0.1 < 1) || (decide (8 < p0.1) || (decide (24 < (p0.2.1.length : Int)) || decide (8 < (p0.2.2.length : Int))))) = true then some false else FO ((Iu nE p0).bind fun x2 => DM nE (HI nE p0 x2) (0, ([] : List ((Int × Int) × Unit)))) fun x1 => (CR nE p0.2.1).bind fun x6 => some (!x6))
theorem MP (nE : Nat) (p0 : Int × (List (Int × Int × Int × Int × Int × Int)) × (List (Int × Int))) : Le (IW nE p0) (Gc p0) := by
  unfold IW Gc
  repeat' with_reducible (first | refine Le.orR' ?_ ?_ | refine Le.bind' ?_ ?_ | refine Le.ite' ?_ ?_ | refine Le.loop' ?_ | refine Le.altS' ?_ ?_ | apply Mj | apply Fj | apply KP | exact Le.rfl' _ | (refine Le.pi2 ?_; intro _) | intro _)
def DS (nE : Nat) (p0 : List Int) : Int → Option (Int ⊕ (Unit ⊕ Int))
  | x1 => (if x1 < (p0.length : Int) then (ix p0 x1).bind fun x2 => (if (Dt x2) = true then some (.inr (.inr x1)) else some (.inl (Az (x1 + 1)))) else some (.inr (.inl ())))
theorem GN (nE : Nat) (p0 : List Int) : ∀ s, Le (DS nE p0 s) (BH p0 s) := by
  intro x1
  unfold DS BH
  repeat' with_reducible (first | refine Le.orR' ?_ ?_ | refine Le.bind' ?_ ?_ | refine Le.ite' ?_ ?_ | refine Le.loop' ?_ | refine Le.altS' ?_ ?_ | exact Le.rfl' _ | (refine Le.pi2 ?_; intro _) | intro _)
def Eh (nE : Nat) (p0 : List Int) : Option Int := FO (DM nE (DS nE p0) 0) fun _ => some (-1)
theorem HS (nE : Nat) (p0 : List Int) : Le (Eh nE p0) (CL p0) := by
  unfold Eh CL
  repeat' with_reducible (first | refine Le.orR' ?_ ?_ | refine Le.bind' ?_ ?_ | refine Le.ite' ?_ ?_ | refine Le.loop' ?_ | refine Le.altS' ?_ ?_ | apply GN | exact Le.rfl' _ | (refine Le.pi2 ?_; intro _) | intro _)
def DU (nE : Nat) (p0 : List Int) : Option Bool := (Eh nE p0).bind fun x1 => some (decide (0 ≤ x1))
theorem GQ (nE : Nat) (p0 : List Int) : Le (DU nE p0) (Cl p0) := by
  unfold DU Cl
  repeat' with_reducible (first | refine Le.orR' ?_ ?_ | refine Le.bind' ?_ ?_ | refine Le.ite' ?_ ?_ | refine Le.loop' ?_ | refine Le.altS' ?_ ?_ | apply HS | exact Le.rfl' _ | (refine Le.pi2 ?_; intro _) | intro _)
def GV (nE : Nat) (p0 : Int × (List (Int × Int × Int × Int × Int × Int)) × (List (Int × Int))) (p1 : List (List Int)) : Int → Option (Int ⊕ (Unit ⊕ Bool))
  | x3 => (if x3 < (p1.length : Int) then (ix p1 x3).bind fun x4 => (if (x4.length : Int) ≠ (p0.2.2.length : Int) then some true else (DU nE x4).bind fun x6 => some x6).bind fun x5 => (if x5 = true then some (.inr (.inr false)) else some (.inl (Az (x3 + 1)))) else some (.inr (.inl ())))
theorem Kq (nE : Nat) (p0 : Int × (List (Int × Int × Int × Int × Int × Int)) × (List (Int × Int))) (p1 : List (List Int)) : ∀ s, Le (GV nE p0 p1 s) (Ei p0 p1 s) := by
  intro x3
  unfold GV Ei
  repeat' with_reducible (first | refine Le.orR' ?_ ?_ | refine Le.bind' ?_ ?_ | refine Le.ite' ?_ ?_ | refine Le.loop' ?_ | refine Le.altS' ?_ ?_ | apply GQ | exact Le.rfl' _ | (refine Le.pi2 ?_; intro _) | intro _)
def G0 (nE : Nat) (p0 : Int × (List (Int × Int × Int × Int × Int × Int)) × (List (Int × Int))) (p1 : List (List Int)) : Option Bool := ((IW nE p0).bind fun x2 => (if (!x2) = true then some true else some (decide ((p1.length : Int) ≠ p0.1)))).bind fun x1 => (if x1 = true then some false else FO (DM nE (GV nE p0 p1) 0) fun _ => some true)
theorem Jo (nE : Nat) (p0 : Int × (List (Int × Int × Int × Int × Int × Int)) × (List (Int × Int))) (p1 : List (List Int)) : Le (G0 nE p0 p1) (EW p0 p1) := by
  unfold G0 EW
  repeat' with_reducible (first | refine Le.orR' ?_ ?_ | refine Le.bind' ?_ ?_ | refine Le.ite' ?_ ?_ | refine Le.loop' ?_ | refine Le.altS' ?_ ?_ | apply MP | apply Kq | exact Le.rfl' _ | (refine Le.pi2 ?_; intro _) | intro _)
def Db (nE : Nat) (p0 : List (Int × Int)) (p1 : Int × Int) : Int → Option (Int ⊕ (Unit ⊕ Int))
  | x1 => (if x1 < (p0.length : Int) then (ix p0 x1).bind fun x2 => (if p1.1 = x2.1 ∧ p1.2 = x2.2 then some (.inr (.inr x1)) else some (.inl (Az (x1 + 1)))) else some (.inr (.inl ())))
theorem FV (nE : Nat) (p0 : List (Int × Int)) (p1 : Int × Int) : ∀ s, Le (Db nE p0 p1 s) (Bf p0 p1 s) := by
  intro x1
  unfold Db Bf
  repeat' with_reducible (first | refine Le.orR' ?_ ?_ | refine Le.bind' ?_ ?_ | refine Le.ite' ?_ ?_ | refine Le.loop' ?_ | refine Le.altS' ?_ ?_ | exact Le.rfl' _ | (refine Le.pi2 ?_; intro _) | intro _)
def Do (nE : Nat) (p0 : List (Int × Int)) (p1 : Int × Int) : Option Int := FO (DM nE (Db nE p0 p1) 0) fun _ => some (-1)
theorem Gp (nE : Nat) (p0 : List (Int × Int)) (p1 : Int × Int) : Le (Do nE p0 p1) (Cm p0 p1) := by
  unfold Do Cm
  repeat' with_reducible (first | refine Le.orR' ?_ ?_ | refine Le.bind' ?_ ?_ | refine Le.ite' ?_ ?_ | refine Le.loop' ?_ | refine Le.altS' ?_ ?_ | apply FV | exact Le.rfl' _ | (refine Le.pi2 ?_; intro _) | intro _)
def IA (nE : Nat) (p0 : Int × (List (Int × Int × Int × Int × Int × Int)) × (List (Int × Int))) (p1 : Int) (p2 : Int) : Option Int := (Do nE p0.2.2 (p1, p2)).bind fun x1 => some x1
theorem LU (nE : Nat) (p0 : Int × (List (Int × Int × Int × Int × Int × Int)) × (List (Int × Int))) (p1 : Int) (p2 : Int) : Le (IA nE p0 p1 p2) (EY p0 p1 p2) := by
  unfold IA EY
  repeat' with_reducible (first | refine Le.orR' ?_ ?_ | refine Le.bind' ?_ ?_ | refine Le.ite' ?_ ?_ | refine Le.loop' ?_ | refine Le.altS' ?_ ?_ | apply Gp | exact Le.rfl' _ | (refine Le.pi2 ?_; intro _) | intro _)
def HV (nE : Nat) (p0 : Int × (List (Int × Int × Int × Int × Int × Int)) × (List (Int × Int))) (p1 : Int) (p2 : Int) : Int → Option (Int ⊕ (Unit ⊕ (Int × Int × Int × Bool)))
  | x1 => (if x1 < (p0.2.1.length : Int) then (ix p0.2.1 x1).bind fun x2 => (if p1 = x2.1 ∧ p2 = x2.2.1 then some (.inr (.inr (x2.2.2.1, x2.2.2.2.1, x1, true))) else (if p1 = x2.2.2.1 ∧ p2 = x2.2.2.2.1 then some (.inr (.inr (x2.1, x2.2.1, x1, true))) else some (.inl (Az (x1 + 1))))) else some (.inr (.inl ())))
theorem LD (nE : Nat) (p0 : Int × (List (Int × Int × Int × Int × Int × Int)) × (List (Int × Int))) (p1 : Int) (p2 : Int) : ∀ s, Le (HV nE p0 p1 p2 s) (DK p0 p1 p2 s) := by
  intro x1
  unfold HV DK
  repeat' with_reducible (first | refine Le.orR' ?_ ?_ | refine Le.bind' ?_ ?_ | refine Le.ite' ?_ ?_ | refine Le.loop' ?_ | refine Le.altS' ?_ ?_ | exact Le.rfl' _ | (refine Le.pi2 ?_; intro _) | intro _)
def Jp (nE : Nat) (p0 : Int × (List (Int × Int × Int × Int × Int × Int)) × (List (Int × Int))) (p1 : Int) (p2 : Int) : Option (Int × Int × Int × Bool) := FO (DM nE (HV nE p0 p1 p2) 0) fun _ => some (0, 0, 0, false)
theorem NH (nE : Nat) (p0 : Int × (List (Int × Int × Int × Int × Int × Int)) × (List (Int × Int))) (p1 : Int) (p2 : Int) : Le (Jp nE p0 p1 p2) (Gl p0 p1 p2) := by
  unfold Jp Gl
  repeat' with_reducible (first | refine Le.orR' ?_ ?_ | refine Le.bind' ?_ ?_ | refine Le.ite' ?_ ?_ | refine Le.loop' ?_ | refine Le.altS' ?_ ?_ | apply LD | exact Le.rfl' _ | (refine Le.pi2 ?_; intro _) | intro _)
def Jb (nE : Nat) (p0 : Int × (List (Int × Int × Int × Int × Int × Int)) × (List (Int × Int))) (p1 : List (List Int)) (p2 : Int) (p3 : Int) : Option (Int × Bool) := (if p2 < 0 then some true else (if (p1.length : Int) ≤ p2 then some true else (if p3 < 0 then some true else (ix p1 p2).bind fun x2 => some (decide ((x2.length : Int) ≤ p3))))).bind fun x1 => (if x1 = true then some (0, false) else (ix p1 p2).bind fun x3 => (ix x3 p3).bind fun x4 => (Jp nE p0 p2 x4).bind fun x5 => some (x5.1, x5.2.2.2))
theorem MR (nE : Nat) (p0 : Int × (List (Int × Int × Int × Int × Int × Int)) × (List (Int × Int))) (p1 : List (List Int)) (p2 : Int) (p3 : Int) : Le (Jb nE p0 p1 p2 p3) (Gg p0 p1 p2 p3) := by
  unfold Jb Gg
  repeat' with_reducible (first | refine Le.orR' ?_ ?_ | refine Le.bind' ?_ ?_ | refine Le.ite' ?_ ?_ | refine Le.loop' ?_ | refine Le.altS' ?_ ?_ | apply NH | exact Le.rfl' _ | (refine Le.pi2 ?_; intro _) | intro _)
def EP (nE : Nat) (p0 : List Int) (p1 : Int) : Int → Option (Int ⊕ (Unit ⊕ Bool))
  | x1 => (if x1 < (p0.length : Int) then (ix p0 x1).bind fun x2 => (if p1 = x2 then some (.inr (.inr true)) else some (.inl (Az (x1 + 1)))) else some (.inr (.inl ())))
theorem IB (nE : Nat) (p0 : List Int) (p1 : Int) : ∀ s, Le (EP nE p0 p1 s) (CO p0 p1 s) := by
  intro x1
  unfold EP CO
  repeat' with_reducible (first | refine Le.orR' ?_ ?_ | refine Le.bind' ?_ ?_ | refine Le.ite' ?_ ?_ | refine Le.loop' ?_ | refine Le.altS' ?_ ?_ | exact Le.rfl' _ | (refine Le.pi2 ?_; intro _) | intro _)
def Fw (nE : Nat) (p0 : List Int) (p1 : Int) : Option Bool := FO (DM nE (EP nE p0 p1) 0) fun _ => some false
theorem Jh (nE : Nat) (p0 : List Int) (p1 : Int) : Le (Fw nE p0 p1) (Df p0 p1) := by
  unfold Fw Df
  repeat' with_reducible (first | refine Le.orR' ?_ ?_ | refine Le.bind' ?_ ?_ | refine Le.ite' ?_ ?_ | refine Le.loop' ?_ | refine Le.altS' ?_ ?_ | apply IB | exact Le.rfl' _ | (refine Le.pi2 ?_; intro _) | intro _)
def Hr (nE : Nat) (p0 : Int × (List (Int × Int × Int × Int × Int × Int)) × (List (Int × Int))) (p1 : List (List Int)) (p3 : Int) : (Int × List Int) → Option ((Int × List Int) ⊕ ((List Int) ⊕ (List Int × Int)))
  | (x2, x3) => (ix p1 x2).bind fun x4 => (ix x4 p3).bind fun x5 => (IA nE p0 x2 x5).bind fun x6 => (if x6 ≠ p3 then (Jb nE p0 p1 x2 p3).bind fun x7 => (if (!x7.2) = true then some (.inr (.inr (([] : List Int), 13))) else (Fw nE x3 x7.1).bind fun x8 => (if x8 = true then some (.inr (.inr (([] : List Int), 12))) else (KF x3 ([x7.1] : List Int)).bind fun x9 => some (.inl (x7.1, x9)))) else some (.inr (.inl x3)))
theorem La (nE : Nat) (p0 : Int × (List (Int × Int × Int × Int × Int × Int)) × (List (Int × Int))) (p1 : List (List Int)) (p3 : Int) : ∀ s, Le (Hr nE p0 p1 p3 s) (DL p0 p1 p3 s) := by
  rintro ⟨x2, x3⟩
  unfold Hr DL
  repeat' with_reducible (first | refine Le.orR' ?_ ?_ | refine Le.bind' ?_ ?_ | refine Le.ite' ?_ ?_ | refine Le.loop' ?_ | refine Le.altS' ?_ ?_ | apply LU | apply MR | apply Jh | exact Le.rfl' _ | (refine Le.pi2 ?_; intro _) | intro _)
def HR (nE : Nat) (p0 : Int × (List (Int × Int × Int × Int × Int × Int)) × (List (Int × Int))) (p1 : List (List Int)) (p2 : Int) (p3 : Int) : Option (List Int × Int) := FO (DM nE (Hr nE p0 p1 p3) (p2, ([p2] : List Int))) fun x1 => some (x1, 0)
theorem JQ (nE : Nat) (p0 : Int × (List (Int × Int × Int × Int × Int × Int)) × (List (Int × Int))) (p1 : List (List Int)) (p2 : Int) (p3 : Int) : Le (HR nE p0 p1 p2 p3) (Fs p0 p1 p2 p3) := by
  unfold HR Fs
  repeat' with_reducible (first | refine Le.orR' ?_ ?_ | refine Le.bind' ?_ ?_ | refine Le.ite' ?_ ?_ | refine Le.loop' ?_ | refine Le.altS' ?_ ?_ | apply La | exact Le.rfl' _ | (refine Le.pi2 ?_; intro _) | intro _)
def HJ (nE : Nat) (p0 : Int × (List (Int × Int × Int × Int × Int × Int)) × (List (Int × Int))) (p1 : List (List Int)) (x2 : Int) (x3 : List Int) : Int → Option (Int ⊕ (Unit ⊕ (Int ⊕ (Unit ⊕ Bool))))
  | x4 => (if x4 < (x3.length : Int) then (HR nE p0 p1 x2 x4).bind fun x5 => (if x5.2 ≠ 0 then some (.inr (.inr (.inr (.inr false)))) else some (.inl (Az (x4 + 1)))) else some (.inr (.inl ())))
theorem KM (nE : Nat) (p0 : Int × (List (Int × Int × Int × Int × Int × Int)) × (List (Int × Int))) (p1 : List (List Int)) (x2 : Int) (x3 : List Int) : ∀ s, Le (HJ nE p0 p1 x2 x3 s) (D9 p0 p1 x2 x3 s) := by
  intro x4
  unfold HJ D9
  repeat' with_reducible (first | refine Le.orR' ?_ ?_ | refine Le.bind' ?_ ?_ | refine Le.ite' ?_ ?_ | refine Le.loop' ?_ | refine Le.altS' ?_ ?_ | apply JQ | exact Le.rfl' _ | (refine Le.pi2 ?_; intro _) | intro _)
def HG (nE : Nat) (p0 : Int × (List (Int × Int × Int × Int × Int × Int)) × (List (Int × Int))) (p1 : List (List Int)) : Int → Option (Int ⊕ (Unit ⊕ Bool))
  | x2 => (if x2 < (p1.length : Int) then FO ((ix p1 x2).bind fun x3 => DM nE (HJ nE p0 p1 x2 x3) 0) fun _ => some (.inl (Az (x2 + 1))) else some (.inr (.inl ())))
theorem Lc (nE : Nat) (p0 : Int × (List (Int × Int × Int × Int × Int × Int)) × (List (Int × Int))) (p1 : List (List Int)) : ∀ s, Le (HG nE p0 p1 s) (EG p0 p1 s) := by
  intro x2
  unfold HG EG
  repeat' with_reducible (first | refine Le.orR' ?_ ?_ | refine Le.bind' ?_ ?_ | refine Le.ite' ?_ ?_ | refine Le.loop' ?_ | refine Le.altS' ?_ ?_ | apply KM | exact Le.rfl' _ | (refine Le.pi2 ?_; intro _) | intro _)
def HN (nE : Nat) (p0 : Int × (List (Int × Int × Int × Int × Int × Int)) × (List (Int × Int))) (p1 : List (List Int)) : Option Bool := (G0 nE p0 p1).bind fun x1 => (if (!x1) = true then some false else FO (DM nE (HG nE p0 p1) 0) fun _ => some true)
theorem M0 (nE : Nat) (p0 : Int × (List (Int × Int × Int × Int × Int × Int)) × (List (Int × Int))) (p1 : List (List Int)) : Le (HN nE p0 p1) (FE p0 p1) := by
  unfold HN FE
  repeat' with_reducible (first | refine Le.orR' ?_ ?_ | refine Le.bind' ?_ ?_ | refine Le.ite' ?_ ?_ | refine Le.loop' ?_ | refine Le.altS' ?_ ?_ | apply Jo | apply Lc | exact Le.rfl' _ | (refine Le.pi2 ?_; intro _) | intro _)
def HY (nE : Nat) (p0 : Int × (List (Int × Int × Int × Int × Int × Int)) × (List (Int × Int))) (p1 : List (List Int)) (p2 : Int) : (List Int × Int) → Option ((List Int × Int) ⊕ (List Int))
  | (x4, x5) => (if x5 < (p1.length : Int) then (HR nE p0 p1 x5 p2).bind fun x6 => (KF x4 ([Az ((x6.1.length : Int) - 1)] : List Int)).bind fun x7 => some (.inl (x7, Az (x5 + 1))) else some (.inr x4))
theorem LE (nE : Nat) (p0 : Int × (List (Int × Int × Int × Int × Int × Int)) × (List (Int × Int))) (p1 : List (List Int)) (p2 : Int) : ∀ s, Le (HY nE p0 p1 p2 s) (EC p0 p1 p2 s) := by
  rintro ⟨x4, x5⟩
  unfold HY EC
  repeat' with_reducible (first | refine Le.orR' ?_ ?_ | refine Le.bind' ?_ ?_ | refine Le.ite' ?_ ?_ | refine Le.loop' ?_ | refine Le.altS' ?_ ?_ | apply JQ | exact Le.rfl' _ | (refine Le.pi2 ?_; intro _) | intro _)
def Ju (nE : Nat) (p0 : Int × (List (Int × Int × Int × Int × Int × Int)) × (List (Int × Int))) (p1 : List (List Int)) (p2 : Int) : Option (List Int) := ((G0 nE p0 p1).bind fun x2 => (if (!x2) = true then some true else (if p2 < 0 then some true else some (decide ((p0.2.2.length : Int) ≤ p2))))).bind fun x1 => (if x1 = true then some ([] : List Int) else (DM nE (HY nE p0 p1 p2) ([], 0)).bind fun x3 => some x3)
theorem N6 (nE : Nat) (p0 : Int × (List (Int × Int × Int × Int × Int × Int)) × (List (Int × Int))) (p1 : List (List Int)) (p2 : Int) : Le (Ju nE p0 p1 p2) (GZ p0 p1 p2) := by
  unfold Ju GZ
  repeat' with_reducible (first | refine Le.orR' ?_ ?_ | refine Le.bind' ?_ ?_ | refine Le.ite' ?_ ?_ | refine Le.loop' ?_ | refine Le.altS' ?_ ?_ | apply Jo | apply LE | exact Le.rfl' _ | (refine Le.pi2 ?_; intro _) | intro _)
def GC (nE : Nat) (p0 : Int) : Option Int := (if 4294967296 ≤ p0 then some (GB .u64 p0 32, 32) else some (p0, 0)).bind fun (x1, x2) => (if 65536 ≤ x1 then some (GB .u64 x1 16, Az (x2 + 16)) else some (x1, x2)).bind fun (x3, x4) => (if 256 ≤ x3 then some (GB .u64 x3 8, Az (x4 + 8)) else some (x3, x4)).bind fun (x5, x6) => (ix ([0, 1, 2, 2, 3, 3, 3, 3, 4, 4, 4, 4, 4, 4, 4, 4, 5, 5, 5, 5, 5, 5, 5, 5, 5, 5, 5, 5, 5, 5, 5, 5, 6, 6, 6, 6, 6, 6, 6, 6, 6, 6, 6, 6, 6, 6, 6, 6, 6, 6, 6, 6, 6, 6, 6, 6, 6, 6, 6, 6, 6, 6, 6, 6, 7, 7, 7, 7, 7, 7, 7, 7, 7, 7, 7, 7, 7, 7, 7, 7, 7, 7, 7, 7, 7, 7, 7, 7, 7, 7, 7, 7, 7, 7, 7, 7, 7, 7, 7, 7, 7, 7, 7, 7, 7, 7, 7, 7, 7, 7, 7, 7, 7, 7, 7, 7, 7, 7, 7, 7, 7, 7, 7, 7, 7, 7, 7, 7, 8, 8, 8, 8, 8, 8, 8, 8, 8, 8, 8, 8, 8, 8, 8, 8, 8, 8, 8, 8, 8, 8, 8, 8, 8, 8, 8, 8, 8, 8, 8, 8, 8, 8, 8, 8, 8, 8, 8, 8, 8, 8, 8, 8, 8, 8, 8, 8, 8, 8, 8, 8, 8, 8, 8, 8, 8, 8, 8, 8, 8, 8, 8, 8, 8, 8, 8, 8, 8, 8, 8, 8, 8, 8, 8, 8, 8, 8, 8, 8, 8, 8, 8, 8, 8, 8, 8, 8, 8, 8, 8, 8, 8, 8, 8, 8, 8, 8, 8, 8, 8, 8, 8, 8, 8, 8, 8, 8, 8, 8, 8, 8, 8, 8, 8, 8, 8, 8, 8, 8, 8, 8, 8, 8, 8, 8, 8, 8] : List UInt8) (IntKind.u8.wrap x5)).bind fun x7 => some (Az (x6 + (Az (x7.toNat : Int))))
theorem J5 (nE : Nat) (p0 : Int) : Le (GC nE p0) (Ew p0) := by
  unfold GC Ew
  repeat' with_reducible (first | refine Le.orR' ?_ ?_ | refine Le.bind' ?_ ?_ | refine Le.ite' ?_ ?_ | refine Le.loop' ?_ | refine Le.altS' ?_ ?_ | exact Le.rfl' _ | (refine Le.pi2 ?_; intro _) | intro _)
def F6 (nE : Nat) (p0 : Int) : Option Int := (GC nE p0).bind fun x1 => some x1
theorem IM (nE : Nat) (p0 : Int) : Le (F6 nE p0) (DI p0) := by
  unfold F6 DI
  repeat' with_reducible (first | refine Le.orR' ?_ ?_ | refine Le.bind' ?_ ?_ | refine Le.ite' ?_ ?_ | refine Le.loop' ?_ | refine Le.altS' ?_ ?_ | apply J5 | exact Le.rfl' _ | (refine Le.pi2 ?_; intro _) | intro _)
def HB (nE : Nat) (p0 : List Int) : Int → Option (Int ⊕ (Unit ⊕ Int))
  | x1 => (if x1 < (p0.length : Int) then (ix p0 x1).bind fun x2 => (if x2 ≠ 0 then some (.inr (.inr x2)) else some (.inl (Az (x1 + 1)))) else some (.inr (.inl ())))
theorem KK (nE : Nat) (p0 : List Int) : ∀ s, Le (HB nE p0 s) (Da p0 s) := by
  intro x1
  unfold HB Da
  repeat' with_reducible (first | refine Le.orR' ?_ ?_ | refine Le.bind' ?_ ?_ | refine Le.ite' ?_ ?_ | refine Le.loop' ?_ | refine Le.altS' ?_ ?_ | exact Le.rfl' _ | (refine Le.pi2 ?_; intro _) | intro _)
def I8 (nE : Nat) (p0 : List Int) : Option Int := FO (DM nE (HB nE p0) 0) fun _ => some 0
theorem MF (nE : Nat) (p0 : List Int) : Le (I8 nE p0) (Gh p0) := by
  unfold I8 Gh
  repeat' with_reducible (first | refine Le.orR' ?_ ?_ | refine Le.bind' ?_ ?_ | refine Le.ite' ?_ ?_ | refine Le.loop' ?_ | refine Le.altS' ?_ ?_ | apply KK | exact Le.rfl' _ | (refine Le.pi2 ?_; intro _) | intro _)
def F9 (nE : Nat) (p0 : Int × Int × Int × Int) (p1 : Int × Int × Int × Int) : Option Int := (I8 nE ([(AY p0.2.2.2 p1.2.2.2), (AY p0.1 p1.1), (AY p0.2.1 p1.2.1)] : List Int)).bind fun x1 => some x1
theorem IG (nE : Nat) (p0 : Int × Int × Int × Int) (p1 : Int × Int × Int × Int) : Le (F9 nE p0 p1) (B8 p0 p1) := by
  unfold F9 B8
  repeat' with_reducible (first | refine Le.orR' ?_ ?_ | refine Le.bind' ?_ ?_ | refine Le.ite' ?_ ?_ | refine Le.loop' ?_ | refine Le.altS' ?_ ?_ | apply MF | exact Le.rfl' _ | (refine Le.pi2 ?_; intro _) | intro _)
def CG (nE : Nat) (p1 : Int) : ((List (Int × Int × Int × Int)) × Int) → Option (((List (Int × Int × Int × Int)) × Int) ⊕ (List (Int × Int × Int × Int)))
  | (x4, x5) => (if p1 < x5 then (ix x4 x5).bind fun x7 => (ix x4 (Az (x5 - 1))).bind fun x8 => (F9 nE x7 x8).bind fun x9 => some (decide (x9 < 0)) else some false).bind fun x6 => (if x6 = true then (ix x4 (Az (x5 - 1))).bind fun x10 => (ix x4 x5).bind fun x11 => (ix x4 x5).bind fun x12 => (ix (AE x4 x5 x10) (Az (x5 - 1))).bind fun x13 => some (.inl ((AE (AE x4 x5 x10) (Az (x5 - 1)) x11), Az (x5 - 1))) else some (.inr x4))
theorem EV (nE : Nat) (p1 : Int) : ∀ s, Le (CG nE p1 s) (AS p1 s) := by
  rintro ⟨x4, x5⟩
  unfold CG AS
  repeat' with_reducible (first | refine Le.orR' ?_ ?_ | refine Le.bind' ?_ ?_ | refine Le.ite' ?_ ?_ | refine Le.loop' ?_ | refine Le.altS' ?_ ?_ | apply IG | exact Le.rfl' _ | (refine Le.pi2 ?_; intro _) | intro _)
def CF (nE : Nat) (p1 : Int) (p2 : Int) : ((List (Int × Int × Int × Int)) × Int) → Option (((List (Int × Int × Int × Int)) × Int) ⊕ (List (Int × Int × Int × Int)))
  | (x1, x2) => (if x2 < p2 then (DM nE (CG nE p1) (x1, x2)).bind fun x3 => some (.inl (x3, Az (x2 + 1))) else some (.inr x1))
theorem ER (nE : Nat) (p1 : Int) (p2 : Int) : ∀ s, Le (CF nE p1 p2 s) (Bb p1 p2 s) := by
  rintro ⟨x1, x2⟩
  unfold CF Bb
  repeat' with_reducible (first | refine Le.orR' ?_ ?_ | refine Le.bind' ?_ ?_ | refine Le.ite' ?_ ?_ | refine Le.loop' ?_ | refine Le.altS' ?_ ?_ | apply EV | exact Le.rfl' _ | (refine Le.pi2 ?_; intro _) | intro _)
def CQ (nE : Nat) (p0 : List (Int × Int × Int × Int)) (p1 : Int) (p2 : Int) : Option (List (Int × Int × Int × Int)) := DM nE (CF nE p1 p2) (p0, Az (p1 + 1))
theorem Fa (nE : Nat) (p0 : List (Int × Int × Int × Int)) (p1 : Int) (p2 : Int) : Le (CQ nE p0 p1 p2) (Bv p0 p1 p2) := by
  unfold CQ Bv
  repeat' with_reducible (first | refine Le.orR' ?_ ?_ | refine Le.bind' ?_ ?_ | refine Le.ite' ?_ ?_ | refine Le.loop' ?_ | refine Le.altS' ?_ ?_ | apply ER | exact Le.rfl' _ | (refine Le.pi2 ?_; intro _) | intro _)
def Ec (nE : Nat) (p0 : List (Int × Int × Int × Int)) (p1 : Int) (p2 : Int) : Option (List (Int × Int × Int × Int)) := none
theorem FY (nE : Nat) (p0 : List (Int × Int × Int × Int)) (p1 : Int) (p2 : Int) : Le (Ec nE p0 p1 p2) (Ce p0 p1 p2) := fun _ h => nomatch h
def DT (nE : Nat) (p0 : List (Int × Int × Int × Int)) (p1 : Int) (p2 : Int) : Option (Int × Int) := none
theorem Fn (nE : Nat) (p0 : List (Int × Int × Int × Int)) (p1 : Int) (p2 : Int) : Le (DT nE p0 p1 p2) (B0 p0 p1 p2) := fun _ h => nomatch h
def DD (nE : Nat) (p0 : List (Int × Int × Int × Int)) (p1 : Int) (p2 : Int) : Option (List (Int × Int × Int × Int)) := none
theorem Fd (nE : Nat) (p0 : List (Int × Int × Int × Int)) (p1 : Int) (p2 : Int) : Le (DD nE p0 p1 p2) (BF p0 p1 p2) := fun _ h => nomatch h
def C6 (nE : Nat) (p0 : List (Int × Int × Int × Int)) (p1 : Int) (p2 : Int) : Option (Bool × (List (Int × Int × Int × Int))) := none
theorem Ev (nE : Nat) (p0 : List (Int × Int × Int × Int)) (p1 : Int) (p2 : Int) : Le (C6 nE p0 p1 p2) (Bc p0 p1 p2) := fun _ h => nomatch h
def Dw (nE : Nat) (p0 : List (Int × Int × Int × Int)) (p1 : Int) (p2 : Int) (p3 : Int) : Option (Int × (List (Int × Int × Int × Int))) := none
theorem E4 (nE : Nat) (p0 : List (Int × Int × Int × Int)) (p1 : Int) (p2 : Int) (p3 : Int) : Le (Dw nE p0 p1 p2 p3) (BP p0 p1 p2 p3) := fun _ h => nomatch h
def D3 (nE : Nat) (p0 : List (Int × Int × Int × Int)) (p1 : Int) (p2 : Int) (p3 : Int) : Option (Int × Bool × (List (Int × Int × Int × Int))) := none
theorem FP (nE : Nat) (p0 : List (Int × Int × Int × Int)) (p1 : Int) (p2 : Int) (p3 : Int) : Le (D3 nE p0 p1 p2 p3) (Cc p0 p1 p2 p3) := fun _ h => nomatch h
def Dz (nE : Nat) (p0 : List (Int × Int × Int × Int)) (p1 : Int) (p2 : Int) : Option (List (Int × Int × Int × Int)) := none
theorem E8 (nE : Nat) (p0 : List (Int × Int × Int × Int)) (p1 : Int) (p2 : Int) : Le (Dz nE p0 p1 p2) (Bx p0 p1 p2) := fun _ h => nomatch h
def CX (nE : Nat) (fRec : (List (Int × Int × Int × Int)) → Int → Int → Int → Option (List (Int × Int × Int × Int))) : ((List (Int × Int × Int × Int)) × Int × Int × Int × Bool × Bool) → Option (((List (Int × Int × Int × Int)) × Int × Int × Int × Bool × Bool) ⊕ (List (Int × Int × Int × Int)))
  | (x1, x2, x3, x4, x5, x6) => (if (Az (x3 - x2)) ≤ 12 then (CQ nE x1 x2 x3).bind fun x7 => some (.inr x7) else (if x4 = 0 then (Ec nE x1 x2 x3).bind fun x8 => some (.inr x8) else (if (!x5) = true then (Dz nE x1 x2 x3).bind fun x11 => some (x11, Az (x4 - 1)) else some (x1, x4)).bind fun (x9, x10) => (DT nE x9 x2 x3).bind fun x12 => (if x12.2 = 2 then (DD nE x9 x2 x3).bind fun x16 => some (x16, Az ((Az (x3 - 1)) - (Az (x12.1 - x2))), 1) else some (x9, x12.1, x12.2)).bind fun (x13, x14, x15) => FO (if (x5 && (x6 && decide (x15 = 1))) = true then (C6 nE x13 x2 x3).bind fun x18 => (if x18.1 = true then some (.inr (.inr x18.2)) else some (.inl x18.2)) else some (.inl x13)) fun x17 => (if 0 < x2 then (ix x17 (Az (x2 - 1))).bind fun x20 => (ix x17 x14).bind fun x21 => (F9 nE x20 x21).bind fun x22 => some (!(decide (x22 < 0))) else some false).bind fun x19 => (if x19 = true then (Dw nE x17 x2 x3 x14).bind fun x23 => some (.inl (x23.2, x23.1, x3, x10, (x5 && (x6 || true)), (bif x5 then x6 else x6))) else (D3 nE x17 x2 x3 x14).bind fun x24 => (if (Az (x24.1 - x2)) < (Az (x3 - x24.1)) then (fRec x24.2.2 x2 x24.1 x10).bind fun x25 => some (.inl (x25, Az (x24.1 + 1), x3, x10, decide ((Az (Int.tdiv (Az (x3 - x2)) 8)) ≤ (Az (x24.1 - x2))), x24.2.1)) else (fRec x24.2.2 (Az (x24.1 + 1)) x3 x10).bind fun x26 => some (.inl (x26, x2, x24.1, x10, decide ((Az (Int.tdiv (Az (x3 - x2)) 8)) ≤ (Az (x3 - x24.1))), x24.2.1))))))
theorem FF (nE : Nat) {fRec fRec' : (List (Int × Int × Int × Int)) → Int → Int → Int → Option (List (Int × Int × Int × Int))} (hR : ∀ a0 a1 a2 a3, Le (fRec a0 a1 a2 a3) (fRec' a0 a1 a2 a3)) : ∀ s, Le (CX nE fRec s) (Au fRec' s) := by
  rintro ⟨x1, x2, x3, x4, x5, x6⟩
  unfold CX Au
  repeat' with_reducible (first | refine Le.orR' ?_ ?_ | refine Le.bind' ?_ ?_ | refine Le.ite' ?_ ?_ | refine Le.loop' ?_ | refine Le.altS' ?_ ?_ | exact hR _ _ _ _ | apply IG | apply Fa | apply FY | apply Fn | apply Fd | apply Ev | apply E4 | apply FP | apply E8 | exact Le.rfl' _ | (refine Le.pi2 ?_; intro _) | intro _)
theorem FH {fRec fRec' : (List (Int × Int × Int × Int)) → Int → Int → Int → Option (List (Int × Int × Int × Int))} (hR : ∀ a0 a1 a2 a3, Le (fRec a0 a1 a2 a3) (fRec' a0 a1 a2 a3)) : ∀ s, Le (Au fRec s) (Au fRec' s) := by
  rintro ⟨x1, x2, x3, x4, x5, x6⟩
  show Le (Au fRec (x1, x2, x3, x4, x5, x6)) (Au fRec' (x1, x2, x3, x4, x5, x6))
  unfold Au
  repeat' with_reducible (first | refine Le.orR' ?_ ?_ | refine Le.bind' ?_ ?_ | refine Le.ite' ?_ ?_ | refine Le.loopM ?_ | refine Le.altS' ?_ ?_ | exact hR _ _ _ _ | exact Le.rfl' _ | (refine Le.pi2 ?_; intro _) | intro _)
def C0 (nE : Nat) (fRec : (List (Int × Int × Int × Int)) → Int → Int → Int → Option (List (Int × Int × Int × Int))) (p0 : List (Int × Int × Int × Int)) (p1 : Int) (p2 : Int) (p3 : Int) : Option (List (Int × Int × Int × Int)) := DM nE (CX nE fRec) (p0, p1, p2, p3, true, true)
theorem Fu (nE : Nat) {fRec fRec' : (List (Int × Int × Int × Int)) → Int → Int → Int → Option (List (Int × Int × Int × Int))} (hR : ∀ a0 a1 a2 a3, Le (fRec a0 a1 a2 a3) (fRec' a0 a1 a2 a3)) (p0 : List (Int × Int × Int × Int)) (p1 : Int) (p2 : Int) (p3 : Int) : Le (C0 nE fRec p0 p1 p2 p3) (Bu fRec' p0 p1 p2 p3) := by
  unfold C0 Bu
  repeat' with_reducible (first | refine Le.orR' ?_ ?_ | refine Le.bind' ?_ ?_ | refine Le.ite' ?_ ?_ | refine Le.loop' ?_ | refine Le.altS' ?_ ?_ | exact hR _ _ _ _ | apply FF nE hR | exact Le.rfl' _ | (refine Le.pi2 ?_; intro _) | intro _)
theorem Ft {fRec fRec' : (List (Int × Int × Int × Int)) → Int → Int → Int → Option (List (Int × Int × Int × Int))} (hR : ∀ a0 a1 a2 a3, Le (fRec a0 a1 a2 a3) (fRec' a0 a1 a2 a3)) (p0 : List (Int × Int × Int × Int)) (p1 : Int) (p2 : Int) (p3 : Int) : Le (Bu fRec p0 p1 p2 p3) (Bu fRec' p0 p1 p2 p3) := by
  unfold Bu
  repeat' with_reducible (first | refine Le.orR' ?_ ?_ | refine Le.bind' ?_ ?_ | refine Le.ite' ?_ ?_ | refine Le.loopM ?_ | refine Le.altS' ?_ ?_ | exact hR _ _ _ _ | apply FH hR | exact Le.rfl' _ | (refine Le.pi2 ?_; intro _) | intro _)
def C5 (nE : Nat) : Nat → (List (Int × Int × Int × Int)) → Int → Int → Int → Option (List (Int × Int × Int × Int))
  | 0 => fun _ _ _ _ => none
  | n + 1 => C0 nE (C5 nE n)
theorem DX (nE : Nat) : ∀ (m : Nat) a0 a1 a2 a3, Le (C5 nE m a0 a1 a2 a3) (AG m a0 a1 a2 a3)
  | 0, a0, a1, a2, a3 => fun _ h => nomatch h
  | m + 1, a0, a1, a2, a3 => Fu nE (DX nE m) a0 a1 a2 a3
theorem DZ : ∀ (m : Nat) a0 a1 a2 a3, Le (AG m a0 a1 a2 a3) (AG (m + 1) a0 a1 a2 a3)
  | 0, a0, a1, a2, a3 => fun _ h => nomatch h
  | m + 1, a0, a1, a2, a3 => Ft (DZ m) a0 a1 a2 a3
def Ej (nE : Nat) (p0 : List (Int × Int × Int × Int)) (p1 : Int) (p2 : Int) (p3 : Int) : Option (List (Int × Int × Int × Int)) := C5 nE nE p0 p1 p2 p3
theorem F3 (nE : Nat) (p0 : List (Int × Int × Int × Int)) (p1 : Int) (p2 : Int) (p3 : Int) : Le (Ej nE p0 p1 p2 p3) (Cw p0 p1 p2 p3) := fun r e => RY (g := fun n => AG n p0 p1 p2 p3) (fun n r h => DZ n p0 p1 p2 p3 r h) (n := nE) (DX nE nE p0 p1 p2 p3 r e)
def CT (nE : Nat) (p0 : List (Int × Int × Int × Int)) : Option (List (Int × Int × Int × Int)) := (F6 nE (IntKind.u64.wrap (p0.length : Int))).bind fun x1 => (Ej nE p0 0 (p0.length : Int) x1).bind fun x2 => some x2
theorem Fg (nE : Nat) (p0 : List (Int × Int × Int × Int)) : Le (CT nE p0) (BE p0) := by
  unfold CT BE
  repeat' with_reducible (first | refine Le.orR' ?_ ?_ | refine Le.bind' ?_ ?_ | refine Le.ite' ?_ ?_ | refine Le.loop' ?_ | refine Le.altS' ?_ ?_ | apply IM | apply F3 | exact Le.rfl' _ | (refine Le.pi2 ?_; intro _) | intro _)
def GT (nE : Nat) (p1 : List (List Int)) (p2 : List (List Int)) (x6 : Int) (x8 : List Int) : ((List (Int × Int × Int × Int)) × Int) → Option (((List (Int × Int × Int × Int)) × Int) ⊕ (List (Int × Int × Int × Int)))
  | (x9, x10) => (if x10 < (x8.length : Int) then ((ix x8 x10).bind fun x12 => (ix p2 x10).bind fun x13 => (ix x13 x6).bind fun x14 => (ix p1 x10).bind fun x15 => (ix x15 x6).bind fun x16 => (if x14 ≠ x16 then (KF x9 ([(x10, x6, x14, x12)] : List (Int × Int × Int × Int))).bind fun x17 => some x17 else some x9)).bind fun x11 => some (.inl (x11, Az (x10 + 1))) else some (.inr x9))
theorem Kc (nE : Nat) (p1 : List (List Int)) (p2 : List (List Int)) (x6 : Int) (x8 : List Int) : ∀ s, Le (GT nE p1 p2 x6 x8 s) (CW p1 p2 x6 x8 s) := by
  rintro ⟨x9, x10⟩
  unfold GT CW
  repeat' with_reducible (first | refine Le.orR' ?_ ?_ | refine Le.bind' ?_ ?_ | refine Le.ite' ?_ ?_ | refine Le.loop' ?_ | refine Le.altS' ?_ ?_ | exact Le.rfl' _ | (refine Le.pi2 ?_; intro _) | intro _)
def GW (nE : Nat) (p0 : Int × (List (Int × Int × Int × Int × Int × Int)) × (List (Int × Int))) (p1 : List (List Int)) (p2 : List (List Int)) : ((List (Int × Int × Int × Int)) × Int) → Option (((List (Int × Int × Int × Int)) × Int) ⊕ (List (Int × Int × Int × Int)))
  | (x5, x6) => (if x6 < (p0.2.2.length : Int) then ((Ju nE p0 p2 x6).bind fun x8 => DM nE (GT nE p1 p2 x6 x8) (x5, 0)).bind fun x7 => some (.inl (x7, Az (x6 + 1))) else some (.inr x5))
theorem Ku (nE : Nat) (p0 : Int × (List (Int × Int × Int × Int × Int × Int)) × (List (Int × Int))) (p1 : List (List Int)) (p2 : List (List Int)) : ∀ s, Le (GW nE p0 p1 p2 s) (Dq p0 p1 p2 s) := by
  rintro ⟨x5, x6⟩
  unfold GW Dq
  repeat' with_reducible (first | refine Le.orR' ?_ ?_ | refine Le.bind' ?_ ?_ | refine Le.ite' ?_ ?_ | refine Le.loop' ?_ | refine Le.altS' ?_ ?_ | apply N6 | apply Kc | exact Le.rfl' _ | (refine Le.pi2 ?_; intro _) | intro _)
def Iv (nE : Nat) (p0 : Int × (List (Int × Int × Int × Int × Int × Int)) × (List (Int × Int))) (p1 : List (List Int)) (p2 : List (List Int)) : Option ((List (Int × Int × Int × Int)) × Int) := ((HN nE p0 p1).bind fun x2 => (if (!x2) = true then some true else (HN nE p0 p2).bind fun x3 => some (!x3))).bind fun x1 => (if x1 = true then some (([] : List (Int × Int × Int × Int)), 2) else (DM nE (GW nE p0 p1 p2) ([], 0)).bind fun x4 => (CT nE x4).bind fun x18 => some (x18, 0))
theorem Mi (nE : Nat) (p0 : Int × (List (Int × Int × Int × Int × Int × Int)) × (List (Int × Int))) (p1 : List (List Int)) (p2 : List (List Int)) : Le (Iv nE p0 p1 p2) (Ea p0 p1 p2) := by
  unfold Iv Ea
  repeat' with_reducible (first | refine Le.orR' ?_ ?_ | refine Le.bind' ?_ ?_ | refine Le.ite' ?_ ?_ | refine Le.loop' ?_ | refine Le.altS' ?_ ?_ | apply M0 | apply Fg | apply Ku | exact Le.rfl' _ | (refine Le.pi2 ?_; intro _) | intro _)
def C3 (nE : Nat) (p1 : Int) : (List Int × Int) → Option ((List Int × Int) ⊕ (List Int))
  | (x4, x5) => (if p1 < x5 then (ix x4 x5).bind fun x7 => (ix x4 (Az (x5 - 1))).bind fun x8 => some (Cs x7 x8) else some false).bind fun x6 => (if x6 = true then (ix x4 (Az (x5 - 1))).bind fun x9 => (ix x4 x5).bind fun x10 => (ix x4 x5).bind fun x11 => (ix (AE x4 x5 x9) (Az (x5 - 1))).bind fun x12 => some (.inl ((AE (AE x4 x5 x9) (Az (x5 - 1)) x10), Az (x5 - 1))) else some (.inr x4))
theorem FN (nE : Nat) (p1 : Int) : ∀ s, Le (C3 nE p1 s) (A7 p1 s) := by
  rintro ⟨x4, x5⟩
  unfold C3 A7
  repeat' with_reducible (first | refine Le.orR' ?_ ?_ | refine Le.bind' ?_ ?_ | refine Le.ite' ?_ ?_ | refine Le.loop' ?_ | refine Le.altS' ?_ ?_ | exact Le.rfl' _ | (refine Le.pi2 ?_; intro _) | intro _)
def C2 (nE : Nat) (p1 : Int) (p2 : Int) : (List Int × Int) → Option ((List Int × Int) ⊕ (List Int))
  | (x1, x2) => (if x2 < p2 then (DM nE (C3 nE p1) (x1, x2)).bind fun x3 => some (.inl (x3, Az (x2 + 1))) else some (.inr x1))
theorem FM (nE : Nat) (p1 : Int) (p2 : Int) : ∀ s, Le (C2 nE p1 p2 s) (Bz p1 p2 s) := by
  rintro ⟨x1, x2⟩
  unfold C2 Bz
  repeat' with_reducible (first | refine Le.orR' ?_ ?_ | refine Le.bind' ?_ ?_ | refine Le.ite' ?_ ?_ | refine Le.loop' ?_ | refine Le.altS' ?_ ?_ | apply FN | exact Le.rfl' _ | (refine Le.pi2 ?_; intro _) | intro _)
def Di (nE : Nat) (p0 : List Int) (p1 : Int) (p2 : Int) : Option (List Int) := DM nE (C2 nE p1 p2) (p0, Az (p1 + 1))
theorem Ga (nE : Nat) (p0 : List Int) (p1 : Int) (p2 : Int) : Le (Di nE p0 p1 p2) (BO p0 p1 p2) := by
  unfold Di BO
  repeat' with_reducible (first | refine Le.orR' ?_ ?_ | refine Le.bind' ?_ ?_ | refine Le.ite' ?_ ?_ | refine Le.loop' ?_ | refine Le.altS' ?_ ?_ | apply FM | exact Le.rfl' _ | (refine Le.pi2 ?_; intro _) | intro _)
def EL (nE : Nat) (p0 : List Int) (p1 : Int) (p2 : Int) : Option (Int × Int) := none
theorem Gu (nE : Nat) (p0 : List Int) (p1 : Int) (p2 : Int) : Le (EL nE p0 p1 p2) (Cg p0 p1 p2) := fun _ h => nomatch h
def Dy (nE : Nat) (p0 : List Int) (p1 : Int) (p2 : Int) : Option (Bool × List Int) := none
theorem E6 (nE : Nat) (p0 : List Int) (p1 : Int) (p2 : Int) : Le (Dy nE p0 p1 p2) (Bw p0 p1 p2) := fun _ h => nomatch h
def DA (nE : Nat) (p0 : List Int) (p1 : Int) (p2 : Int) (p3 : Int) : Unit → Option (Unit ⊕ (List Int))
  | _ => (if (Az (p2 - p1)) ≤ 12 then (Di nE p0 p1 p2).bind fun x1 => some (.inr x1) else (if p3 = 0 then none else (EL nE p0 p1 p2).bind fun x2 => (if x2.2 = 2 then none else FO (if x2.2 = 1 then (Dy nE p0 p1 p2).bind fun x4 => (if x4.1 = true then some (.inr (.inr x4.2)) else some (.inl x4.2)) else some (.inl p0)) fun x3 => (if 0 < p1 then (ix x3 (Az (p1 - 1))).bind fun x6 => (ix x3 x2.1).bind fun x7 => some (!(Cs x6 x7)) else some false).bind fun x5 => none)))
theorem GK (nE : Nat) (p0 : List Int) (p1 : Int) (p2 : Int) (p3 : Int) : ∀ s, Le (DA nE p0 p1 p2 p3 s) (CK p0 p1 p2 p3 s) := by
  intro s
  unfold DA CK
  repeat' with_reducible (first | refine Le.orR' ?_ ?_ | refine Le.bind' ?_ ?_ | refine Le.ite' ?_ ?_ | refine Le.loop' ?_ | refine Le.altS' ?_ ?_ | apply Ga | apply Gu | apply E6 | exact Le.rfl' _ | (refine Le.pi2 ?_; intro _) | intro _)
def D5 (nE : Nat) (p0 : List Int) (p1 : Int) (p2 : Int) (p3 : Int) : Option (List Int) := DM nE (DA nE p0 p1 p2 p3) ()
theorem HK (nE : Nat) (p0 : List Int) (p1 : Int) (p2 : Int) (p3 : Int) : Le (D5 nE p0 p1 p2 p3) (Cv p0 p1 p2 p3) := by
  unfold D5 Cv
  repeat' with_reducible (first | refine Le.orR' ?_ ?_ | refine Le.bind' ?_ ?_ | refine Le.ite' ?_ ?_ | refine Le.loop' ?_ | refine Le.altS' ?_ ?_ | apply GK | exact Le.rfl' _ | (refine Le.pi2 ?_; intro _) | intro _)
def Eo (nE : Nat) (p0 : List Int) : Option (List Int) := (F6 nE (IntKind.u64.wrap (p0.length : Int))).bind fun x1 => (D5 nE p0 0 (p0.length : Int) x1).bind fun x2 => some x2
theorem Gy (nE : Nat) (p0 : List Int) : Le (Eo nE p0) (CM p0) := by
  unfold Eo CM
  repeat' with_reducible (first | refine Le.orR' ?_ ?_ | refine Le.bind' ?_ ?_ | refine Le.ite' ?_ ?_ | refine Le.loop' ?_ | refine Le.altS' ?_ ?_ | apply IM | apply HK | exact Le.rfl' _ | (refine Le.pi2 ?_; intro _) | intro _)
def D6 (nE : Nat) (p0 : List Int) (x1 : Int) : (List Int × Int × Int) → Option ((List Int × Int × Int) ⊕ (List Int × Int))
  | (x7, x8, x9) => (IV x7 x1 (p0.length : Int)).bind fun x10 => (if x9 < (x10.length : Int) then ((ix x10 x9).bind fun x13 => (ix x10 (Az (x9 - 1))).bind fun x14 => (if x13 ≠ x14 then (ix x10 x9).bind fun x15 => (ix x7 x8).bind fun x16 => some ((AE x7 x8 x15), Az (x8 + 1)) else some (x7, x8))).bind fun (x11, x12) => some (.inl (x11, x12, Az (x9 + 1))) else some (.inr (x7, x8)))
theorem Hw (nE : Nat) (p0 : List Int) (x1 : Int) : ∀ s, Le (D6 nE p0 x1 s) (Ca p0 x1 s) := by
  rintro ⟨x7, x8, x9⟩
  unfold D6 Ca
  repeat' with_reducible (first | refine Le.orR' ?_ ?_ | refine Le.bind' ?_ ?_ | refine Le.ite' ?_ ?_ | refine Le.loop' ?_ | refine Le.altS' ?_ ?_ | exact Le.rfl' _ | (refine Le.pi2 ?_; intro _) | intro _)
def D8 (nE : Nat) (p0 : List Int) : Int → Option (Int ⊕ (Unit ⊕ (List Int)))
  | x1 => (if x1 < (p0.length : Int) then FO ((ix p0 x1).bind fun x2 => (ix p0 (Az (x1 - 1))).bind fun x3 => (if x2 = x3 then (IV p0 x1 (p0.length : Int)).bind fun x4 => (DM nE (D6 nE p0 x1) (p0, x1, 1)).bind fun (x5, x6) => (IV x5 x6 (x5.length : Int)).bind fun x17 => (Sz x5 x6 (List.replicate (x17.length) (0 : Int))).bind fun x18 => (IV x18 0 x6).bind fun x19 => some (.inr (.inr (.inr x19))) else some (.inl ()))) fun _ => some (.inl (Az (x1 + 1))) else some (.inr (.inl ())))
theorem Hz (nE : Nat) (p0 : List Int) : ∀ s, Le (D8 nE p0 s) (BQ p0 s) := by
  intro x1
  unfold D8 BQ
  repeat' with_reducible (first | refine Le.orR' ?_ ?_ | refine Le.bind' ?_ ?_ | refine Le.ite' ?_ ?_ | refine Le.loop' ?_ | refine Le.altS' ?_ ?_ | apply Hw | exact Le.rfl' _ | (refine Le.pi2 ?_; intro _) | intro _)
def DH (nE : Nat) (p0 : List Int) : Option (List Int) := (if (p0.length : Int) < 2 then some p0 else FO (DM nE (D8 nE p0) 1) fun _ => some p0)
theorem FR (nE : Nat) (p0 : List Int) : Le (DH nE p0) (Cy p0) := by
  unfold DH Cy
  repeat' with_reducible (first | refine Le.orR' ?_ ?_ | refine Le.bind' ?_ ?_ | refine Le.ite' ?_ ?_ | refine Le.loop' ?_ | refine Le.altS' ?_ ?_ | apply Hz | exact Le.rfl' _ | (refine Le.pi2 ?_; intro _) | intro _)
def Gx (nE : Nat) (p0 : List Int) : Option (List Int) := (Eo nE p0).bind fun x1 => (DH nE x1).bind fun x2 => some x2
theorem J3 (nE : Nat) (p0 : List Int) : Le (Gx nE p0) (D0 p0) := by
  unfold Gx D0
  repeat' with_reducible (first | refine Le.orR' ?_ ?_ | refine Le.bind' ?_ ?_ | refine Le.ite' ?_ ?_ | refine Le.loop' ?_ | refine Le.altS' ?_ ?_ | apply Gy | apply FR | exact Le.rfl' _ | (refine Le.pi2 ?_; intro _) | intro _)
def GA (nE : Nat) (p0 : List (Int × Int × Int × Int)) : (List Int × Int) → Option ((List Int × Int) ⊕ (List Int))
  | (x2, x3) => (if x3 < (p0.length : Int) then (ix p0 x3).bind fun x4 => (KF x2 ([x4.2.2.2] : List Int)).bind fun x5 => some (.inl (x5, Az (x3 + 1))) else some (.inr x2))
theorem J0 (nE : Nat) (p0 : List (Int × Int × Int × Int)) : ∀ s, Le (GA nE p0 s) (Dx p0 s) := by
  rintro ⟨x2, x3⟩
  unfold GA Dx
  repeat' with_reducible (first | refine Le.orR' ?_ ?_ | refine Le.bind' ?_ ?_ | refine Le.ite' ?_ ?_ | refine Le.loop' ?_ | refine Le.altS' ?_ ?_ | exact Le.rfl' _ | (refine Le.pi2 ?_; intro _) | intro _)
def H3 (nE : Nat) (p0 : List (Int × Int × Int × Int)) : Option (List Int) := (DM nE (GA nE p0) ([], 0)).bind fun x1 => (Gx nE x1).bind fun x6 => some x6
theorem LN (nE : Nat) (p0 : List (Int × Int × Int × Int)) : Le (H3 nE p0) (EZ p0) := by
  unfold H3 EZ
  repeat' with_reducible (first | refine Le.orR' ?_ ?_ | refine Le.bind' ?_ ?_ | refine Le.ite' ?_ ?_ | refine Le.loop' ?_ | refine Le.altS' ?_ ?_ | apply J3 | apply J0 | exact Le.rfl' _ | (refine Le.pi2 ?_; intro _) | intro _)
def GE (nE : Nat) (p0 : Int × (List (Int × Int × Int × Int × Int × Int)) × (List (Int × Int))) : (Int × Int) → Option ((Int × Int) ⊕ Int)
  | (x2, x3) => (if x3 < (p0.2.1.length : Int) then (ix p0.2.1 x3).bind fun x4 => some (.inl (max x2 x4.2.2.2.2.2, Az (x3 + 1))) else some (.inr x2))
theorem JV (nE : Nat) (p0 : Int × (List (Int × Int × Int × Int × Int × Int)) × (List (Int × Int))) : ∀ s, Le (GE nE p0 s) (Dv p0 s) := by
  rintro ⟨x2, x3⟩
  unfold GE Dv
  repeat' with_reducible (first | refine Le.orR' ?_ ?_ | refine Le.bind' ?_ ?_ | refine Le.ite' ?_ ?_ | refine Le.loop' ?_ | refine Le.altS' ?_ ?_ | exact Le.rfl' _ | (refine Le.pi2 ?_; intro _) | intro _)
def Ia (nE : Nat) (p0 : Int × (List (Int × Int × Int × Int × Int × Int)) × (List (Int × Int))) : Option Int := (DM nE (GE nE p0) (0, 0)).bind fun x1 => some x1
theorem LB (nE : Nat) (p0 : Int × (List (Int × Int × Int × Int × Int × Int)) × (List (Int × Int))) : Le (Ia nE p0) (Ez p0) := by
  unfold Ia Ez
  repeat' with_reducible (first | refine Le.orR' ?_ ?_ | refine Le.bind' ?_ ?_ | refine Le.ite' ?_ ?_ | refine Le.loop' ?_ | refine Le.altS' ?_ ?_ | apply JV | exact Le.rfl' _ | (refine Le.pi2 ?_; intro _) | intro _)
def Io (nE : Nat) (p0 : Int × (List (Int × Int × Int × Int × Int × Int)) × (List (Int × Int))) : Option Int := (Ia nE p0).bind fun x1 => some (Az (p0.1 * x1))
theorem Ka (nE : Nat) (p0 : Int × (List (Int × Int × Int × Int × Int × Int)) × (List (Int × Int))) : Le (Io nE p0) (Gk p0) := by
  unfold Io Gk
  repeat' with_reducible (first | refine Le.orR' ?_ ?_ | refine Le.bind' ?_ ?_ | refine Le.ite' ?_ ?_ | refine Le.loop' ?_ | refine Le.altS' ?_ ?_ | apply LB | exact Le.rfl' _ | (refine Le.pi2 ?_; intro _) | intro _)
def IX (nE : Nat) (p0 : Int × (List (Int × Int × Int × Int × Int × Int)) × (List (Int × Int))) (p1 : Int) : Option Int := (Io nE p0).bind fun x1 => some (Az ((Az ((Az (2 * p1)) + x1)) + 1))
theorem Lv (nE : Nat) (p0 : Int × (List (Int × Int × Int × Int × Int × Int)) × (List (Int × Int))) (p1 : Int) : Le (IX nE p0 p1) (Hp p0 p1) := by
  unfold IX Hp
  repeat' with_reducible (first | refine Le.orR' ?_ ?_ | refine Le.bind' ?_ ?_ | refine Le.ite' ?_ ?_ | refine Le.loop' ?_ | refine Le.altS' ?_ ?_ | apply Ka | exact Le.rfl' _ | (refine Le.pi2 ?_; intro _) | intro _)
def Hv (nE : Nat) (p0 : Int) (p1 : List (Int × Int × Int)) : Int → Option (Int ⊕ (Unit ⊕ Bool))
  | x1 => (if x1 < (p1.length : Int) then (ix p1 x1).bind fun x2 => (if (decide (x2.1 < 0) || (decide (p0 ≤ x2.1) || (decide (x2.2.1 < 0) || (decide (p0 ≤ x2.2.1) || (decide (x2.2.2 < (-1073741824)) || decide (1073741824 < x2.2.2)))))) = true then some (.inr (.inr false)) else some (.inl (Az (x1 + 1)))) else some (.inr (.inl ())))
theorem KG (nE : Nat) (p0 : Int) (p1 : List (Int × Int × Int)) : ∀ s, Le (Hv nE p0 p1 s) (DG p0 p1 s) := by
  intro x1
  unfold Hv DG
  repeat' with_reducible (first | refine Le.orR' ?_ ?_ | refine Le.bind' ?_ ?_ | refine Le.ite' ?_ ?_ | refine Le.loop' ?_ | refine Le.altS' ?_ ?_ | exact Le.rfl' _ | (refine Le.pi2 ?_; intro _) | intro _)
def I2 (nE : Nat) (p0 : Int) (p1 : List (Int × Int × Int)) : Option Bool := (if (decide (p0 < 0) || (decide (64 < p0) || decide (256 < (p1.length : Int)))) = true then some false else FO (DM nE (Hv nE p0 p1) 0) fun _ => some true)
theorem MZ (nE : Nat) (p0 : Int) (p1 : List (Int × Int × Int)) : Le (I2 nE p0 p1) (Gi p0 p1) := by
  unfold I2 Gi
  repeat' with_reducible (first | refine Le.orR' ?_ ?_ | refine Le.bind' ?_ ?_ | refine Le.ite' ?_ ?_ | refine Le.loop' ?_ | refine Le.altS' ?_ ?_ | apply KG | exact Le.rfl' _ | (refine Le.pi2 ?_; intro _) | intro _)
def Ht (nE : Nat) (p0 : Int) (p1 : List (Int × Int × Int)) (x6 : Int) : (Bool × Int × List Int × List Int) → Option ((Bool × Int × List Int × List Int) ⊕ ((Bool × List Int × List Int) ⊕ ((List Int × List Int) ⊕ ((Int × List Int × List Int) ⊕ (List Int × List Int × Int)))))
  | (x14, x15, x16, x17) => (if x15 < (p1.length : Int) then FO ((ix p1 x15).bind fun x21 => (ix x16 x21.1).bind fun x22 => (ix x16 x21.2.1).bind fun x23 => (if (Az (x22 + x21.2.2)) ≤ x23 then some (.inl (x14, x16, x17)) else (ix x16 x21.2.1).bind fun x24 => (ix x17 x21.2.1).bind fun x25 => (if x6 = p0 then some (.inr (.inr (.inr (.inr (.inr ((AE x16 x21.2.1 (Az (x22 + x21.2.2))), (AE x17 x21.2.1 x15), x21.2.1)))))) else some (.inl (true, (AE x16 x21.2.1 (Az (x22 + x21.2.2))), (AE x17 x21.2.1 x15)))))) fun (x18, x19, x20) => some (.inl (x18, Az (x15 + 1), x19, x20)) else some (.inr (.inl (x14, x16, x17))))
theorem KO (nE : Nat) (p0 : Int) (p1 : List (Int × Int × Int)) (x6 : Int) : ∀ s, Le (Ht nE p0 p1 x6 s) (CD p0 p1 x6 s) := by
  rintro ⟨x14, x15, x16, x17⟩
  unfold Ht CD
  repeat' with_reducible (first | refine Le.orR' ?_ ?_ | refine Le.bind' ?_ ?_ | refine Le.ite' ?_ ?_ | refine Le.loop' ?_ | refine Le.altS' ?_ ?_ | exact Le.rfl' _ | (refine Le.pi2 ?_; intro _) | intro _)
def Hx (nE : Nat) (p0 : Int) (p1 : List (Int × Int × Int)) : (Int × List Int × List Int) → Option ((Int × List Int × List Int) ⊕ (List Int × List Int × Int))
  | (x6, x7, x8) => FO (FO (DM nE (Ht nE p0 p1 x6) (false, 0, x7, x8)) fun (x11, x12, x13) => (if (!x11) = true then some (.inr (.inr (x12, x13, (-1)))) else some (.inl (x12, x13)))) fun (x9, x10) => some (.inl (Az (x6 + 1), x9, x10))
theorem KU (nE : Nat) (p0 : Int) (p1 : List (Int × Int × Int)) : ∀ s, Le (Hx nE p0 p1 s) (DF p0 p1 s) := by
  rintro ⟨x6, x7, x8⟩
  unfold Hx DF
  repeat' with_reducible (first | refine Le.orR' ?_ ?_ | refine Le.bind' ?_ ?_ | refine Le.ite' ?_ ?_ | refine Le.loop' ?_ | refine Le.altS' ?_ ?_ | apply KO | exact Le.rfl' _ | (refine Le.pi2 ?_; intro _) | intro _)
def I0 (nE : Nat) (p0 : Int) (p1 : List (Int × Int × Int)) : Option (List Int × List Int × Int) := (mk p0 (0 : Int)).bind fun x1 => (mk p0 (0 : Int)).bind fun x2 => (DM nE (Hx nE p0 p1) (1, x1, x2)).bind fun (x3, x4, x5) => some (x3, x4, x5)
theorem MJ (nE : Nat) (p0 : Int) (p1 : List (Int × Int × Int)) : Le (I0 nE p0 p1) (Gb p0 p1) := by
  unfold I0 Gb
  repeat' with_reducible (first | refine Le.orR' ?_ ?_ | refine Le.bind' ?_ ?_ | refine Le.ite' ?_ ?_ | refine Le.loop' ?_ | refine Le.altS' ?_ ?_ | apply KU | exact Le.rfl' _ | (refine Le.pi2 ?_; intro _) | intro _)
def HF (nE : Nat) (p0 : Int) (p1 : List (Int × Int × Int)) : Option (List Int × Bool) := (I2 nE p0 p1).bind fun x1 => (if (!x1) = true then some (([] : List Int), false) else (I0 nE p0 p1).bind fun x2 => (if 0 ≤ x2.2.2 then some (([] : List Int), false) else some (x2.1, true)))
theorem KV (nE : Nat) (p0 : Int) (p1 : List (Int × Int × Int)) : Le (HF nE p0 p1) (EF p0 p1) := by
  unfold HF EF
  repeat' with_reducible (first | refine Le.orR' ?_ ?_ | refine Le.bind' ?_ ?_ | refine Le.ite' ?_ ?_ | refine Le.loop' ?_ | refine Le.altS' ?_ ?_ | apply MZ | apply MJ | exact Le.rfl' _ | (refine Le.pi2 ?_; intro _) | intro _)
def Gd (nE : Nat) (p0 : List (Int × Int × Int × Int)) (p1 : Int) : (List Int × Int) → Option ((List Int × Int) ⊕ (List Int))
  | (x2, x3) => (if x3 < (p0.length : Int) then ((ix p0 x3).bind fun x5 => (if x5.2.2.2 = p1 then (KF x2 ([x5.1] : List Int)).bind fun x6 => some x6 else some x2)).bind fun x4 => some (.inl (x4, Az (x3 + 1))) else some (.inr x2))
theorem JN (nE : Nat) (p0 : List (Int × Int × Int × Int)) (p1 : Int) : ∀ s, Le (Gd nE p0 p1 s) (CZ p0 p1 s) := by
  rintro ⟨x2, x3⟩
  unfold Gd CZ
  repeat' with_reducible (first | refine Le.orR' ?_ ?_ | refine Le.bind' ?_ ?_ | refine Le.ite' ?_ ?_ | refine Le.loop' ?_ | refine Le.altS' ?_ ?_ | exact Le.rfl' _ | (refine Le.pi2 ?_; intro _) | intro _)
def Hy (nE : Nat) (p0 : List (Int × Int × Int × Int)) (p1 : Int) : Option (List Int) := (DM nE (Gd nE p0 p1) ([], 0)).bind fun x1 => (Eo nE x1).bind fun x7 => (DH nE x7).bind fun x8 => some x8
theorem KR (nE : Nat) (p0 : List (Int × Int × Int × Int)) (p1 : Int) : Le (Hy nE p0 p1) (EJ p0 p1) := by
  unfold Hy EJ
  repeat' with_reducible (first | refine Le.orR' ?_ ?_ | refine Le.bind' ?_ ?_ | refine Le.ite' ?_ ?_ | refine Le.loop' ?_ | refine Le.altS' ?_ ?_ | apply Gy | apply FR | apply JN | exact Le.rfl' _ | (refine Le.pi2 ?_; intro _) | intro _)
def GX (nE : Nat) (p2 : Int) (x1 : List Int) : ((List (Int × Int × Int)) × Int) → Option (((List (Int × Int × Int)) × Int) ⊕ (List (Int × Int × Int)))
  | (x3, x4) => (if x4 < (Az ((x1.length : Int) - 1)) then (KF x3 ([(x4, Az (x4 + 1), p2)] : List (Int × Int × Int))).bind fun x5 => some (.inl (x5, Az (x4 + 1))) else some (.inr x3))
theorem Km (nE : Nat) (p2 : Int) (x1 : List Int) : ∀ s, Le (GX nE p2 x1 s) (DR p2 x1 s) := by
  rintro ⟨x3, x4⟩
  unfold GX DR
  repeat' with_reducible (first | refine Le.orR' ?_ ?_ | refine Le.bind' ?_ ?_ | refine Le.ite' ?_ ?_ | refine Le.loop' ?_ | refine Le.altS' ?_ ?_ | exact Le.rfl' _ | (refine Le.pi2 ?_; intro _) | intro _)
def GR (nE : Nat) (p0 : List (Int × Int × Int × Int)) (p1 : Int) (x1 : List Int) (x6 : List Int × Bool) : ((List (Int × Int × List Int)) × Int) → Option (((List (Int × Int × List Int)) × Int) ⊕ (List (Int × Int × List Int)))
  | (x8, x9) => (if x9 < (x6.1.length : Int) then (ix x6.1 x9).bind fun x10 => (ix x1 x9).bind fun x11 => (ix x1 x9).bind fun x12 => (Hy nE p0 x12).bind fun x13 => (KF x8 ([(x11, Az (p1 + x10), x13)] : List (Int × Int × List Int))).bind fun x14 => some (.inl (x14, Az (x9 + 1))) else some (.inr x8))
theorem Ko (nE : Nat) (p0 : List (Int × Int × Int × Int)) (p1 : Int) (x1 : List Int) (x6 : List Int × Bool) : ∀ s, Le (GR nE p0 p1 x1 x6 s) (DP p0 p1 x1 x6 s) := by
  rintro ⟨x8, x9⟩
  unfold GR DP
  repeat' with_reducible (first | refine Le.orR' ?_ ?_ | refine Le.bind' ?_ ?_ | refine Le.ite' ?_ ?_ | refine Le.loop' ?_ | refine Le.altS' ?_ ?_ | apply KR | exact Le.rfl' _ | (refine Le.pi2 ?_; intro _) | intro _)
def Iw (nE : Nat) (p0 : List (Int × Int × Int × Int)) (p1 : Int) (p2 : Int) : Option (List (Int × Int × List Int)) := (H3 nE p0).bind fun x1 => (DM nE (GX nE p2 x1) ([], 0)).bind fun x2 => (HF nE (x1.length : Int) x2).bind fun x6 => (DM nE (GR nE p0 p1 x1 x6) ([], 0)).bind fun x7 => some x7
theorem Mm (nE : Nat) (p0 : List (Int × Int × Int × Int)) (p1 : Int) (p2 : Int) : Le (Iw nE p0 p1 p2) (FB p0 p1 p2) := by
  unfold Iw FB
  repeat' with_reducible (first | refine Le.orR' ?_ ?_ | refine Le.bind' ?_ ?_ | refine Le.ite' ?_ ?_ | refine Le.loop' ?_ | refine Le.altS' ?_ ?_ | apply LN | apply KV | apply Km | apply Ko | exact Le.rfl' _ | (refine Le.pi2 ?_; intro _) | intro _)
def JD (nE : Nat) (p0 : Int × (List (Int × Int × Int × Int × Int × Int)) × (List (Int × Int))) (p1 : List (List Int)) (p2 : List (List Int)) (p3 : Int) (p4 : Int) (p5 : Int) : Option (((List (Int × Int × Int × Int)) × (List (Int × Int × List Int)) × Int × Int × Int × Int) × Int) := (if (decide (p3 < 0) || (decide (1099511627776 < p3) || (decide (p4 < 0) || (decide (1048576 < p4) || (decide (p5 < 0) || decide (1048576 < p5)))))) = true then some ((([] : List (Int × Int × Int × Int)), ([] : List (Int × Int × List Int)), 0, 0, 0, 0), 2) else (Iv nE p0 p1 p2).bind fun x1 => (if x1.2 ≠ 0 then some ((([] : List (Int × Int × Int × Int)), ([] : List (Int × Int × List Int)), 0, 0, 0, 0), x1.2) else (if (x1.1.length : Int) = 0 then some ((([] : List (Int × Int × Int × Int)), ([] : List (Int × Int × List Int)), 0, 0, 0, 0), 7) else (Io nE p0).bind fun x2 => (IX nE p0 p4).bind fun x3 => (Iw nE x1.1 (Az ((Az ((Az ((Az (p3 + p5)) + p4)) + x2)) + 1)) x3).bind fun x4 => (ix x4 (Az ((x4.length : Int) - 1))).bind fun x5 => (if 1099511627776 < (Az (x5.2.1 + p4)) then some ((([] : List (Int × Int × Int × Int)), ([] : List (Int × Int × List Int)), 0, 0, 0, 0), 11) else some ((x1.1, x4, p4, x2, Az ((Az ((Az ((Az ((Az ((Az (p3 + p5)) + p4)) + x2)) + 1)) - p4)) - x2), Az (x5.2.1 + p4)), 0)))))
theorem N4 (nE : Nat) (p0 : Int × (List (Int × Int × Int × Int × Int × Int)) × (List (Int × Int))) (p1 : List (List Int)) (p2 : List (List Int)) (p3 : Int) (p4 : Int) (p5 : Int) : Le (JD nE p0 p1 p2 p3 p4 p5) (DY p0 p1 p2 p3 p4 p5) := by
  unfold JD DY
  repeat' with_reducible (first | refine Le.orR' ?_ ?_ | refine Le.bind' ?_ ?_ | refine Le.ite' ?_ ?_ | refine Le.loop' ?_ | refine Le.altS' ?_ ?_ | apply Mi | apply Ka | apply Lv | apply Mm | exact Le.rfl' _ | (refine Le.pi2 ?_; intro _) | intro _)
def Is (nE : Nat) (p0 : Int) : Option Int := (if p0 = 0 then some true else (if p0 = 1 then some true else some (decide (p0 = 3)))).bind fun x1 => (if x1 = true then some 8 else (if p0 = 2 then some 4 else some 0))
theorem Mq (nE : Nat) (p0 : Int) : Le (Is nE p0) (Hm p0) := by
  unfold Is Hm
  repeat' with_reducible (first | refine Le.orR' ?_ ?_ | refine Le.bind' ?_ ?_ | refine Le.ite' ?_ ?_ | refine Le.loop' ?_ | refine Le.altS' ?_ ?_ | exact Le.rfl' _ | (refine Le.pi2 ?_; intro _) | intro _)
def HQ (nE : Nat) (p0 : Int) : Option Int := (Is nE p0).bind fun x1 => (SU (Ek .i64 1 x1) x1).bind fun x2 => some (Az (x2 - 1))
theorem MV (nE : Nat) (p0 : Int) : Le (HQ nE p0) (Gj p0) := by
  unfold HQ Gj
  repeat' with_reducible (first | refine Le.orR' ?_ ?_ | refine Le.bind' ?_ ?_ | refine Le.ite' ?_ ?_ | refine Le.loop' ?_ | refine Le.altS' ?_ ?_ | apply Mq | exact Le.rfl' _ | (refine Le.pi2 ?_; intro _) | intro _)
def JU (nE : Nat) (p0 : Int) (p1 : Int) : Option (Int × (Int × Int × Int × Int) × (Int × Int × Int × Int)) := (if p0 < 0 then some true else (if 4 ≤ p0 then some true else (if p1 < 0 then some true else (HQ nE p0).bind fun x2 => some (decide (x2 < p1))))).bind fun x1 => (if x1 = true then some Ai else (ix ([Ai.2.1.1, Ai.2.1.2.1, Ai.2.1.2.2.1, Ai.2.1.2.2.2] : List Int) p0).bind fun x3 => (HQ nE p0).bind fun x4 => (ix ([Ai.2.2.1, Ai.2.2.2.1, Ai.2.2.2.2.1, Ai.2.2.2.2.2] : List Int) p0).bind fun x5 => some (Ai.1, ((if p0 = 0 then p1 else Ai.2.1.1), (if p0 = 1 then p1 else Ai.2.1.2.1), (if p0 = 2 then p1 else Ai.2.1.2.2.1), (if p0 = 3 then p1 else Ai.2.1.2.2.2)), ((if p0 = 0 then x4 else Ai.2.2.1), (if p0 = 1 then x4 else Ai.2.2.2.1), (if p0 = 2 then x4 else Ai.2.2.2.2.1), (if p0 = 3 then x4 else Ai.2.2.2.2.2))))
theorem OC (nE : Nat) (p0 : Int) (p1 : Int) : Le (JU nE p0 p1) (IL p0 p1) := by
  unfold JU IL
  repeat' with_reducible (first | refine Le.orR' ?_ ?_ | refine Le.bind' ?_ ?_ | refine Le.ite' ?_ ?_ | refine Le.loop' ?_ | refine Le.altS' ?_ ?_ | apply MV | exact Le.rfl' _ | (refine Le.pi2 ?_; intro _) | intro _)
def IY (nE : Nat) (p0 : Int) (p1 : Int) (p2 : Int) (p3 : Int) : Option (Int × (Int × (Int × Int × Int × Int) × (Int × Int × Int × Int)) × (List (Int × Int × Int))) := (JU nE p0 p1).bind fun x1 => some (p2, x1, ([(2, 0, p3)] : List (Int × Int × Int)))
theorem MD (nE : Nat) (p0 : Int) (p1 : Int) (p2 : Int) (p3 : Int) : Le (IY nE p0 p1 p2 p3) (Ge p0 p1 p2 p3) := by
  unfold IY Ge
  repeat' with_reducible (first | refine Le.orR' ?_ ?_ | refine Le.bind' ?_ ?_ | refine Le.ite' ?_ ?_ | refine Le.loop' ?_ | refine Le.altS' ?_ ?_ | apply OC | exact Le.rfl' _ | (refine Le.pi2 ?_; intro _) | intro _)
def HE (nE : Nat) (p0 : List (Int × Int × Int × Int)) (p1 : Int) (p2 : Int) : ((List (Int × (Int × (Int × (Int × Int × Int × Int) × (Int × Int × Int × Int)) × (List (Int × Int × Int))) × Bool)) × Int) → Option (((List (Int × (Int × (Int × (Int × Int × Int × Int) × (Int × Int × Int × Int)) × (List (Int × Int × Int))) × Bool)) × Int) ⊕ (List (Int × (Int × (Int × (Int × Int × Int × Int) × (Int × Int × Int × Int)) × (List (Int × Int × Int))) × Bool)))
  | (x2, x3) => (if x3 < (p0.length : Int) then ((ix p0 x3).bind fun x5 => (if (decide (x5.2.2.2 = p1) && decide (x5.1 = p2)) = true then (IY nE 1 x5.2.1 10 x5.2.2.1).bind fun x6 => (KF x2 ([(3, x6, false)] : List (Int × (Int × (Int × (Int × Int × Int × Int) × (Int × Int × Int × Int)) × (List (Int × Int × Int))) × Bool))).bind fun x7 => some x7 else some x2)).bind fun x4 => some (.inl (x4, Az (x3 + 1))) else some (.inr x2))
theorem Lb (nE : Nat) (p0 : List (Int × Int × Int × Int)) (p1 : Int) (p2 : Int) : ∀ s, Le (HE nE p0 p1 p2 s) (Ed p0 p1 p2 s) := by
  rintro ⟨x2, x3⟩
  unfold HE Ed
  repeat' with_reducible (first | refine Le.orR' ?_ ?_ | refine Le.bind' ?_ ?_ | refine Le.ite' ?_ ?_ | refine Le.loop' ?_ | refine Le.altS' ?_ ?_ | apply MD | exact Le.rfl' _ | (refine Le.pi2 ?_; intro _) | intro _)
def I7 (nE : Nat) (p0 : List (Int × Int × Int × Int)) (p1 : Int) (p2 : Int) : Option (List (Int × (Int × (Int × (Int × Int × Int × Int) × (Int × Int × Int × Int)) × (List (Int × Int × Int))) × Bool)) := (DM nE (HE nE p0 p1 p2) ([], 0)).bind fun x1 => some x1
theorem MT (nE : Nat) (p0 : List (Int × Int × Int × Int)) (p1 : Int) (p2 : Int) : Le (I7 nE p0 p1 p2) (FA p0 p1 p2) := by
  unfold I7 FA
  repeat' with_reducible (first | refine Le.orR' ?_ ?_ | refine Le.bind' ?_ ?_ | refine Le.ite' ?_ ?_ | refine Le.loop' ?_ | refine Le.altS' ?_ ?_ | apply Lb | exact Le.rfl' _ | (refine Le.pi2 ?_; intro _) | intro _)
def HC (nE : Nat) (p0 : (List (Int × Int × Int × Int)) × (List (Int × Int × List Int)) × Int × Int × Int × Int) (x1 : Int × Int × List Int) : ((List (Int × (List (Int × (Int × (Int × (Int × Int × Int × Int) × (Int × Int × Int × Int)) × (List (Int × Int × Int))) × Bool)))) × Int) → Option (((List (Int × (List (Int × (Int × (Int × (Int × Int × Int × Int) × (Int × Int × Int × Int)) × (List (Int × Int × Int))) × Bool)))) × Int) ⊕ (List (Int × (List (Int × (Int × (Int × (Int × Int × Int × Int) × (Int × Int × Int × Int)) × (List (Int × Int × Int))) × Bool)))))
  | (x3, x4) => (if x4 < (x1.2.2.length : Int) then (ix x1.2.2 x4).bind fun x5 => (I7 nE p0.1 x1.1 x5).bind fun x6 => (KF x3 ([(x5, x6)] : List (Int × (List (Int × (Int × (Int × (Int × Int × Int × Int) × (Int × Int × Int × Int)) × (List (Int × Int × Int))) × Bool))))).bind fun x7 => some (.inl (x7, Az (x4 + 1))) else some (.inr x3))
theorem KI (nE : Nat) (p0 : (List (Int × Int × Int × Int)) × (List (Int × Int × List Int)) × Int × Int × Int × Int) (x1 : Int × Int × List Int) : ∀ s, Le (HC nE p0 x1 s) (DE p0 x1 s) := by
  rintro ⟨x3, x4⟩
  unfold HC DE
  repeat' with_reducible (first | refine Le.orR' ?_ ?_ | refine Le.bind' ?_ ?_ | refine Le.ite' ?_ ?_ | refine Le.loop' ?_ | refine Le.altS' ?_ ?_ | apply MT | exact Le.rfl' _ | (refine Le.pi2 ?_; intro _) | intro _)
def Jd (nE : Nat) (p0 : (List (Int × Int × Int × Int)) × (List (Int × Int × List Int)) × Int × Int × Int × Int) (p1 : Int) : Option (List (Int × (List (Int × (Int × (Int × (Int × Int × Int × Int) × (Int × Int × Int × Int)) × (List (Int × Int × Int))) × Bool)))) := (if (decide (p1 < 0) || decide ((p0.2.1.length : Int) ≤ p1)) = true then some ([] : List (Int × (List (Int × (Int × (Int × (Int × Int × Int × Int) × (Int × Int × Int × Int)) × (List (Int × Int × Int))) × Bool)))) else (ix p0.2.1 p1).bind fun x1 => (DM nE (HC nE p0 x1) ([], 0)).bind fun x2 => some x2)
theorem MW (nE : Nat) (p0 : (List (Int × Int × Int × Int)) × (List (Int × Int × List Int)) × Int × Int × Int × Int) (p1 : Int) : Le (Jd nE p0 p1) (CP p0 p1) := by
  unfold Jd CP
  repeat' with_reducible (first | refine Le.orR' ?_ ?_ | refine Le.bind' ?_ ?_ | refine Le.ite' ?_ ?_ | refine Le.loop' ?_ | refine Le.altS' ?_ ?_ | apply KI | exact Le.rfl' _ | (refine Le.pi2 ?_; intro _) | intro _)
def Ls (nE : Nat)  : Option Bool := (JD nE (3, ([(0, 0, 1, 0, 1, 1), (1, 1, 2, 0, 1, 2), (0, 1, 2, 1, 1, 1)] : List (Int × Int × Int × Int × Int × Int)), ([(2, 7)] : List (Int × Int))) ([([0] : List Int), ([1] : List Int), ([7] : List Int)] : List (List Int)) ([([1] : List Int), ([1] : List Int), ([7] : List Int)] : List (List Int)) 100 4 10).bind fun x1 => ((IX nE (3, ([(0, 0, 1, 0, 1, 1), (1, 1, 2, 0, 1, 2), (0, 1, 2, 1, 1, 1)] : List (Int × Int × Int × Int × Int × Int)), ([(2, 7)] : List (Int × Int))) 4).bind fun x3 => (if x3 = 15 then (if x1.2 = 0 then (if (x1.1.2.1.length : Int) = 1 then (ix x1.1.2.1 0).bind fun x4 => (if x4.2.1 = 121 then (if x1.1.2.2.2.2.1 = 111 then (if x1.1.2.2.2.2.2 = 125 then (if (FK x1.1 125) = true then (Jd nE x1.1 0).bind fun x5 => some (decide ((x5.length : Int) = 1)) else some false) else some false) else some false) else some false) else some false) else some false) else some false)).bind fun x2 => some x2
theorem NN (nE : Nat)  : Le (Ls nE ) (Fc ) := by
  unfold Ls Fc
  repeat' with_reducible (first | refine Le.orR' ?_ ?_ | refine Le.bind' ?_ ?_ | refine Le.ite' ?_ ?_ | refine Le.loop' ?_ | refine Le.altS' ?_ ?_ | apply Lv | apply N4 | apply MW | exact Le.rfl' _ | (refine Le.pi2 ?_; intro _) | intro _)
theorem RW : Fc = some true := NN 60 _ (by kernel_rfl)
end Go.Proofs.Ytghpabmmdenaoaa
