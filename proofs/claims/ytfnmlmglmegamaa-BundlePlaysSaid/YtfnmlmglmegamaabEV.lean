/- Twins with fuel of FK functions: what a twin answers, the function answers. Conditions: none. -/
import Derived.Test.YtfnmlmglmegamaabLP
import Derived.Test.YtfnmlmglmegamaabA8
namespace Go.Proofs.Ytfnmlmglmegamaa
open Go Go.RowKit
set_option linter.unusedVariables false
set_option linter.unusedSimpArgs false
set_option maxRecDepth 20000
set_option maxHeartbeats 1600000
abbrev Le {α : Type} (a b : Option α) : Prop := ∀ r, a = some r → b = some r
theorem Le.rfl' {α : Type} (a : Option α) : Le a a := fun _ h => h
theorem Le.bind' {α β : Type} {a b : Option α} {f g : α → Option β} (h : Le a b) (hf : ∀ x, Le (f x) (g x)) : Le (a.bind f) (b.bind g) := fun r e => by
  obtain ⟨x, h1, h2⟩ := Af e
  rw [h x h1, Option.bind_some]; exact hf x r h2
theorem Le.ite' {α : Type} {c : Prop} [Decidable c] {a a' b b' : Option α} (h1 : Le a a') (h2 : Le b b') : Le (if c then a else b) (if c then a' else b') := fun r e => by
  by_cases h : c
  · rw [if_pos h] at e ⊢; exact h1 r e
  · rw [if_neg h] at e ⊢; exact h2 r e
theorem Le.orR' {α β : Type} {a b : Option (α ⊕ β)} {f g : α → Option β} (h : Le a b) (hf : ∀ x, Le (f x) (g x)) : Le (FR a f) (FR b g) :=
  Le.bind' h fun x => by
    cases x with
    | inl t => exact hf t
    | inr e => exact Le.rfl' _
def JZ {σ ε : Type} (n : Nat) (step : σ → Option (σ ⊕ ε)) (s : σ) : Option ε := Ff step n s
theorem Jv {σ ε : Type} {S T : σ → Option (σ ⊕ ε)} (h : ∀ s, Le (S s) (T s)) : ∀ (n : Nat) (s : σ), Le (Ff S n s) (Ff T n s)
  | 0, s => Le.rfl' _
  | n + 1, s => fun r e => by
    unfold Ff at e ⊢
    cases hs : S s with
    | none => rw [hs] at e; cases e
    | some q =>
      rw [hs] at e; rw [h s q hs]
      cases q with
      | inl s' => exact Jv h n s' r e
      | inr _ => exact e
theorem Le.loop' {σ ε : Type} {n : Nat} {S T : σ → Option (σ ⊕ ε)} {s : σ} (h : ∀ s, Le (S s) (T s)) : Le (JZ n S s) (AX T s) := fun r e => F7.2 ⟨n, Jv h n s r e⟩
theorem Le.pi2 {α β γ : Type} {f g : α × β → Option γ} (h : ∀ a b, Le (f (a, b)) (g (a, b))) : ∀ x, Le (f x) (g x) := fun x => h x.1 x.2
theorem Le.altS' {α β γ : Type} {y : α ⊕ β} {f f' : α → Option γ} {g g' : β → Option γ} (h : ∀ x, Le (f x) (f' x)) (k : ∀ x, Le (g x) (g' x)) : Le (Rk y f g) (Rk y f' g') := by
  cases y with
  | inl x => exact h x
  | inr x => exact k x
def FY (nE : Nat) (p0 : Int) : Option Int := (if p0 = 0 then some true else (if p0 = 1 then some true else some (decide (p0 = 3)))).bind fun x1 => (if x1 = true then some 8 else (if p0 = 2 then some 4 else some 0))
theorem IX (nE : Nat) (p0 : Int) : Le (FY nE p0) (DG p0) := by
  unfold FY DG
  repeat' with_reducible (first | refine Le.orR' ?_ ?_ | refine Le.bind' ?_ ?_ | refine Le.ite' ?_ ?_ | refine Le.loop' ?_ | refine Le.altS' ?_ ?_ | exact Le.rfl' _ | (refine Le.pi2 ?_; intro _) | intro _)
def Fg (nE : Nat) (p0 : Int) : Option Int := (FY nE p0).bind fun x1 => (RT (PR .i64 1 x1) x1).bind fun x2 => some (Cc (x2 - 1))
theorem JD (nE : Nat) (p0 : Int) : Le (Fg nE p0) (C7 p0) := by
  unfold Fg C7
  repeat' with_reducible (first | refine Le.orR' ?_ ?_ | refine Le.bind' ?_ ?_ | refine Le.ite' ?_ ?_ | refine Le.loop' ?_ | refine Le.altS' ?_ ?_ | apply IX | exact Le.rfl' _ | (refine Le.pi2 ?_; intro _) | intro _)
def Hp (nE : Nat) (p0 : Int) (p1 : Int) : Option (Int × (Int × Int × Int × Int) × (Int × Int × Int × Int)) := (if p0 < 0 then some true else (if 4 ≤ p0 then some true else (if p1 < 0 then some true else (Fg nE p0).bind fun x2 => some (decide (x2 < p1))))).bind fun x1 => (if x1 = true then some Ah else (ix ([Ah.2.1.1, Ah.2.1.2.1, Ah.2.1.2.2.1, Ah.2.1.2.2.2] : List Int) p0).bind fun x3 => (Fg nE p0).bind fun x4 => (ix ([Ah.2.2.1, Ah.2.2.2.1, Ah.2.2.2.2.1, Ah.2.2.2.2.2] : List Int) p0).bind fun x5 => some (Ah.1, ((if p0 = 0 then p1 else Ah.2.1.1), (if p0 = 1 then p1 else Ah.2.1.2.1), (if p0 = 2 then p1 else Ah.2.1.2.2.1), (if p0 = 3 then p1 else Ah.2.1.2.2.2)), ((if p0 = 0 then x4 else Ah.2.2.1), (if p0 = 1 then x4 else Ah.2.2.2.1), (if p0 = 2 then x4 else Ah.2.2.2.2.1), (if p0 = 3 then x4 else Ah.2.2.2.2.2))))
theorem KN (nE : Nat) (p0 : Int) (p1 : Int) : Le (Hp nE p0 p1) (GR p0 p1) := by
  unfold Hp GR
  repeat' with_reducible (first | refine Le.orR' ?_ ?_ | refine Le.bind' ?_ ?_ | refine Le.ite' ?_ ?_ | refine Le.loop' ?_ | refine Le.altS' ?_ ?_ | apply JD | exact Le.rfl' _ | (refine Le.pi2 ?_; intro _) | intro _)
def Fp (nE : Nat) (p0 : Int) (p1 : Int) (p2 : Int) (p3 : Int) : Option (Int × (Int × (Int × Int × Int × Int) × (Int × Int × Int × Int)) × (List (Int × Int × Int))) := (Hp nE p0 p1).bind fun x1 => some (p2, x1, ([(2, 0, p3)] : List (Int × Int × Int)))
theorem JF (nE : Nat) (p0 : Int) (p1 : Int) (p2 : Int) (p3 : Int) : Le (Fp nE p0 p1 p2 p3) (ER p0 p1 p2 p3) := by
  unfold Fp ER
  repeat' with_reducible (first | refine Le.orR' ?_ ?_ | refine Le.bind' ?_ ?_ | refine Le.ite' ?_ ?_ | refine Le.loop' ?_ | refine Le.altS' ?_ ?_ | apply KN | exact Le.rfl' _ | (refine Le.pi2 ?_; intro _) | intro _)
def CA (nE : Nat) (p0 : List (Int × Int × Int)) : Option (List (Int × Int × Int)) := (JQ ([] : List (Int × Int × Int)) p0).bind fun x1 => some x1
theorem EJ (nE : Nat) (p0 : List (Int × Int × Int)) : Le (CA nE p0) (A8 p0) := by
  unfold CA A8
  repeat' with_reducible (first | refine Le.orR' ?_ ?_ | refine Le.bind' ?_ ?_ | refine Le.ite' ?_ ?_ | refine Le.loop' ?_ | refine Le.altS' ?_ ?_ | exact Le.rfl' _ | (refine Le.pi2 ?_; intro _) | intro _)
def D3 (nE : Nat) (p0 : Int × (Int × (Int × (Int × Int × Int × Int) × (Int × Int × Int × Int)) × (List (Int × Int × Int))) × Bool) : Option (Int × (Int × (Int × (Int × Int × Int × Int) × (Int × Int × Int × Int)) × (List (Int × Int × Int))) × Bool) := (CA nE p0.2.1.2.2).bind fun x1 => some (p0.1, (p0.2.1.1, p0.2.1.2.1, x1), p0.2.2)
theorem Ga (nE : Nat) (p0 : Int × (Int × (Int × (Int × Int × Int × Int) × (Int × Int × Int × Int)) × (List (Int × Int × Int))) × Bool) : Le (D3 nE p0) (CS p0) := by
  unfold D3 CS
  repeat' with_reducible (first | refine Le.orR' ?_ ?_ | refine Le.bind' ?_ ?_ | refine Le.ite' ?_ ?_ | refine Le.loop' ?_ | refine Le.altS' ?_ ?_ | apply EJ | exact Le.rfl' _ | (refine Le.pi2 ?_; intro _) | intro _)
def Co (nE : Nat) (p0 : List (Int × Int × Int)) (p1 : List (Int × Int × Int)) : Int → Option (Int ⊕ (Unit ⊕ Bool))
  | x1 => (if x1 < (p0.length : Int) then (ix p0 x1).bind fun x2 => (ix p1 x1).bind fun x3 => (if (!(decide (x2.1 = x3.1 ∧ x2.2.1 = x3.2.1 ∧ x2.2.2 = x3.2.2))) = true then some (.inr (.inr false)) else some (.inl (Cc (x1 + 1)))) else some (.inr (.inl ())))
theorem D8 (nE : Nat) (p0 : List (Int × Int × Int)) (p1 : List (Int × Int × Int)) : ∀ s, Le (Co nE p0 p1 s) (Bu p0 p1 s) := by
  intro x1
  unfold Co Bu
  repeat' with_reducible (first | refine Le.orR' ?_ ?_ | refine Le.bind' ?_ ?_ | refine Le.ite' ?_ ?_ | refine Le.loop' ?_ | refine Le.altS' ?_ ?_ | exact Le.rfl' _ | (refine Le.pi2 ?_; intro _) | intro _)
def CB (nE : Nat) (p0 : List (Int × Int × Int)) (p1 : List (Int × Int × Int)) : Option Bool := (if (p0.length : Int) ≠ (p1.length : Int) then some false else FR (JZ nE (Co nE p0 p1) 0) fun _ => some true)
theorem EI (nE : Nat) (p0 : List (Int × Int × Int)) (p1 : List (Int × Int × Int)) : Le (CB nE p0 p1) (BF p0 p1) := by
  unfold CB BF
  repeat' with_reducible (first | refine Le.orR' ?_ ?_ | refine Le.bind' ?_ ?_ | refine Le.ite' ?_ ?_ | refine Le.loop' ?_ | refine Le.altS' ?_ ?_ | apply D8 | exact Le.rfl' _ | (refine Le.pi2 ?_; intro _) | intro _)
def Hr (nE : Nat) (p0 : List (Int × Int × Int)) (p1 : List (Int × Int × Int)) : Option Bool := (CB nE p0 p1).bind fun x1 => some x1
theorem La (nE : Nat) (p0 : List (Int × Int × Int)) (p1 : List (Int × Int × Int)) : Le (Hr nE p0 p1) (Fx p0 p1) := by
  unfold Hr Fx
  repeat' with_reducible (first | refine Le.orR' ?_ ?_ | refine Le.bind' ?_ ?_ | refine Le.ite' ?_ ?_ | refine Le.loop' ?_ | refine Le.altS' ?_ ?_ | apply EI | exact Le.rfl' _ | (refine Le.pi2 ?_; intro _) | intro _)
def GH (nE : Nat) (p0 : Int × (Int × (Int × Int × Int × Int) × (Int × Int × Int × Int)) × (List (Int × Int × Int))) (p1 : Int × (Int × (Int × Int × Int × Int) × (Int × Int × Int × Int)) × (List (Int × Int × Int))) : Option Bool := (if (ED p0 p1) = true then (Hr nE p0.2.2 p1.2.2).bind fun x2 => some x2 else some false).bind fun x1 => some x1
theorem Kt (nE : Nat) (p0 : Int × (Int × (Int × Int × Int × Int) × (Int × Int × Int × Int)) × (List (Int × Int × Int))) (p1 : Int × (Int × (Int × Int × Int × Int) × (Int × Int × Int × Int)) × (List (Int × Int × Int))) : Le (GH nE p0 p1) (EV p0 p1) := by
  unfold GH EV
  repeat' with_reducible (first | refine Le.orR' ?_ ?_ | refine Le.bind' ?_ ?_ | refine Le.ite' ?_ ?_ | refine Le.loop' ?_ | refine Le.altS' ?_ ?_ | apply La | exact Le.rfl' _ | (refine Le.pi2 ?_; intro _) | intro _)
def F1 (nE : Nat) (p0 : Int × (Int × (Int × (Int × Int × Int × Int) × (Int × Int × Int × Int)) × (List (Int × Int × Int))) × Bool) (p1 : Int × (Int × (Int × (Int × Int × Int × Int) × (Int × Int × Int × Int)) × (List (Int × Int × Int))) × Bool) : Option Bool := (if p0.1 = p1.1 then (if p0.2.2 = p1.2.2 then (GH nE p0.2.1 p1.2.1).bind fun x2 => some x2 else some false) else some false).bind fun x1 => some x1
theorem I1 (nE : Nat) (p0 : Int × (Int × (Int × (Int × Int × Int × Int) × (Int × Int × Int × Int)) × (List (Int × Int × Int))) × Bool) (p1 : Int × (Int × (Int × (Int × Int × Int × Int) × (Int × Int × Int × Int)) × (List (Int × Int × Int))) × Bool) : Le (F1 nE p0 p1) (DO p0 p1) := by
  unfold F1 DO
  repeat' with_reducible (first | refine Le.orR' ?_ ?_ | refine Le.bind' ?_ ?_ | refine Le.ite' ?_ ?_ | refine Le.loop' ?_ | refine Le.altS' ?_ ?_ | apply Kt | exact Le.rfl' _ | (refine Le.pi2 ?_; intro _) | intro _)
def CO (nE : Nat) (p0 : Int × List (Bool × (Int × (Int × (Int × (Int × Int × Int × Int) × (Int × Int × Int × Int)) × (List (Int × Int × Int))) × Bool))) (p1 : Int) (p2 : Int × (Int × (Int × (Int × Int × Int × Int) × (Int × Int × Int × Int)) × (List (Int × Int × Int))) × Bool) : Option (Int × (Int × List (Bool × (Int × (Int × (Int × (Int × Int × Int × Int) × (Int × Int × Int × Int)) × (List (Int × Int × Int))) × Bool)))) := (if (Ao p0) ≠ 0 then some (16, p0) else (if (decide (p1 < 0) || decide (16 ≤ p1)) = true then some (2, p0) else (NI 16 p0.2 p1).bind fun x1 => (if (!x1.1) = true then (D3 nE p2).bind fun x2 => (NI 16 p0.2 p1).bind fun x3 => some (0, (p0.1, Dv p0.2 p1 (true, x2))) else (NI 16 p0.2 p1).bind fun x4 => (F1 nE x4.2 p2).bind fun x5 => (if (!x5) = true then some (8, p0) else some (0, p0)))))
theorem GW (nE : Nat) (p0 : Int × List (Bool × (Int × (Int × (Int × (Int × Int × Int × Int) × (Int × Int × Int × Int)) × (List (Int × Int × Int))) × Bool))) (p1 : Int) (p2 : Int × (Int × (Int × (Int × Int × Int × Int) × (Int × Int × Int × Int)) × (List (Int × Int × Int))) × Bool) : Le (CO nE p0 p1 p2) (AS p0 p1 p2) := by
  unfold CO AS
  repeat' with_reducible (first | refine Le.orR' ?_ ?_ | refine Le.bind' ?_ ?_ | refine Le.ite' ?_ ?_ | refine Le.loop' ?_ | refine Le.altS' ?_ ?_ | apply Ga | apply I1 | exact Le.rfl' _ | (refine Le.pi2 ?_; intro _) | intro _)
def C6 (nE : Nat) (p0 : Int × List (Bool × (Int × (Int × (Int × (Int × Int × Int × Int) × (Int × Int × Int × Int)) × (List (Int × Int × Int))) × Bool))) : (Int × Int) → Option ((Int × Int) ⊕ Int)
  | (x2, x3) => (if x3 < 16 then ((NI 16 p0.2 x3).bind fun x5 => (if x5.1 = true then some (Cc (x2 + 1)) else some x2)).bind fun x4 => some (.inl (x4, Cc (x3 + 1))) else some (.inr x2))
theorem FN (nE : Nat) (p0 : Int × List (Bool × (Int × (Int × (Int × (Int × Int × Int × Int) × (Int × Int × Int × Int)) × (List (Int × Int × Int))) × Bool))) : ∀ s, Le (C6 nE p0 s) (BS p0 s) := by
  rintro ⟨x2, x3⟩
  unfold C6 BS
  repeat' with_reducible (first | refine Le.orR' ?_ ?_ | refine Le.bind' ?_ ?_ | refine Le.ite' ?_ ?_ | refine Le.loop' ?_ | refine Le.altS' ?_ ?_ | exact Le.rfl' _ | (refine Le.pi2 ?_; intro _) | intro _)
def Cz (nE : Nat) (p0 : Int × List (Bool × (Int × (Int × (Int × (Int × Int × Int × Int) × (Int × Int × Int × Int)) × (List (Int × Int × Int))) × Bool))) : Option Int := (JZ nE (C6 nE p0) (0, 0)).bind fun x1 => some x1
theorem EA (nE : Nat) (p0 : Int × List (Bool × (Int × (Int × (Int × (Int × Int × Int × Int) × (Int × Int × Int × Int)) × (List (Int × Int × Int))) × Bool))) : Le (Cz nE p0) (BD p0) := by
  unfold Cz BD
  repeat' with_reducible (first | refine Le.orR' ?_ ?_ | refine Le.bind' ?_ ?_ | refine Le.ite' ?_ ?_ | refine Le.loop' ?_ | refine Le.altS' ?_ ?_ | apply FN | exact Le.rfl' _ | (refine Le.pi2 ?_; intro _) | intro _)
def BL (nE : Nat) (p0 : List (Bool × (Int × (Int × (Int × (Int × Int × Int × Int) × (Int × Int × Int × Int)) × (List (Int × Int × Int))) × Bool))) : Int → Option (Int ⊕ (Unit ⊕ Int))
  | x1 => (if x1 < (p0.length : Int) then (ix p0 x1).bind fun x2 => (if (CX x2) = true then some (.inr (.inr x1)) else some (.inl (Cc (x1 + 1)))) else some (.inr (.inl ())))
theorem C8 (nE : Nat) (p0 : List (Bool × (Int × (Int × (Int × (Int × Int × Int × Int) × (Int × Int × Int × Int)) × (List (Int × Int × Int))) × Bool))) : ∀ s, Le (BL nE p0 s) (AG p0 s) := by
  intro x1
  unfold BL AG
  repeat' with_reducible (first | refine Le.orR' ?_ ?_ | refine Le.bind' ?_ ?_ | refine Le.ite' ?_ ?_ | refine Le.loop' ?_ | refine Le.altS' ?_ ?_ | exact Le.rfl' _ | (refine Le.pi2 ?_; intro _) | intro _)
def BT (nE : Nat) (p0 : List (Bool × (Int × (Int × (Int × (Int × Int × Int × Int) × (Int × Int × Int × Int)) × (List (Int × Int × Int))) × Bool))) : Option Int := FR (JZ nE (BL nE p0) 0) fun _ => some (-1)
theorem Dj (nE : Nat) (p0 : List (Bool × (Int × (Int × (Int × (Int × Int × Int × Int) × (Int × Int × Int × Int)) × (List (Int × Int × Int))) × Bool))) : Le (BT nE p0) (AV p0) := by
  unfold BT AV
  repeat' with_reducible (first | refine Le.orR' ?_ ?_ | refine Le.bind' ?_ ?_ | refine Le.ite' ?_ ?_ | refine Le.loop' ?_ | refine Le.altS' ?_ ?_ | apply C8 | exact Le.rfl' _ | (refine Le.pi2 ?_; intro _) | intro _)
def BK (nE : Nat) (p0 : List (Bool × (Int × (Int × (Int × (Int × Int × Int × Int) × (Int × Int × Int × Int)) × (List (Int × Int × Int))) × Bool))) : Option Bool := (BT nE p0).bind fun x1 => some (decide (0 ≤ x1))
theorem C5 (nE : Nat) (p0 : List (Bool × (Int × (Int × (Int × (Int × Int × Int × Int) × (Int × Int × Int × Int)) × (List (Int × Int × Int))) × Bool))) : Le (BK nE p0) (AH p0) := by
  unfold BK AH
  repeat' with_reducible (first | refine Le.orR' ?_ ?_ | refine Le.bind' ?_ ?_ | refine Le.ite' ?_ ?_ | refine Le.loop' ?_ | refine Le.altS' ?_ ?_ | apply Dj | exact Le.rfl' _ | (refine Le.pi2 ?_; intro _) | intro _)
def DC (nE : Nat) (p0 : Int × List (Bool × (Int × (Int × (Int × (Int × Int × Int × Int) × (Int × Int × Int × Int)) × (List (Int × Int × Int))) × Bool))) (p1 : Int) : Option (Int × (Int × List (Bool × (Int × (Int × (Int × (Int × Int × Int × Int) × (Int × Int × Int × Int)) × (List (Int × Int × Int))) × Bool)))) := (if (Ao p0) = 2 then some (16, p0) else (if (Ao p0) = 1 then (Cz nE p0).bind fun x2 => some (decide (p1 = x2)) else some false).bind fun x1 => (if x1 = true then some (0, p0) else (if (Ao p0) = 1 then some true else (if p1 < 0 then some true else some (decide (16 < p1)))).bind fun x3 => (if x3 = true then some (2, p0) else (GA 16 p0.2 p1 16).bind fun x4 => (BK nE x4).bind fun x5 => (if x5 = true then some (8, p0) else (Cz nE p0).bind fun x6 => (if x6 < p1 then some (7, p0) else some (0, (1, p0.2)))))))
theorem Gv (nE : Nat) (p0 : Int × List (Bool × (Int × (Int × (Int × (Int × Int × Int × Int) × (Int × Int × Int × Int)) × (List (Int × Int × Int))) × Bool))) (p1 : Int) : Le (DC nE p0 p1) (AQ p0 p1) := by
  unfold DC AQ
  repeat' with_reducible (first | refine Le.orR' ?_ ?_ | refine Le.bind' ?_ ?_ | refine Le.ite' ?_ ?_ | refine Le.loop' ?_ | refine Le.altS' ?_ ?_ | apply EA | apply C5 | exact Le.rfl' _ | (refine Le.pi2 ?_; intro _) | intro _)
def Dg (nE : Nat) (x3 : List (Bool × (Int × (Int × (Int × (Int × Int × Int × Int) × (Int × Int × Int × Int)) × (List (Int × Int × Int))) × Bool))) : ((List (Int × (Int × (Int × (Int × Int × Int × Int) × (Int × Int × Int × Int)) × (List (Int × Int × Int))) × Bool)) × Int) → Option (((List (Int × (Int × (Int × (Int × Int × Int × Int) × (Int × Int × Int × Int)) × (List (Int × Int × Int))) × Bool)) × Int) ⊕ (List (Int × (Int × (Int × (Int × Int × Int × Int) × (Int × Int × Int × Int)) × (List (Int × Int × Int))) × Bool)))
  | (x4, x5) => (if x5 < (x3.length : Int) then (ix x3 x5).bind fun x6 => (D3 nE x6.2).bind fun x7 => (JQ x4 ([x7] : List (Int × (Int × (Int × (Int × Int × Int × Int) × (Int × Int × Int × Int)) × (List (Int × Int × Int))) × Bool))).bind fun x8 => some (.inl (x8, Cc (x5 + 1))) else some (.inr x4))
theorem F0 (nE : Nat) (x3 : List (Bool × (Int × (Int × (Int × (Int × Int × Int × Int) × (Int × Int × Int × Int)) × (List (Int × Int × Int))) × Bool))) : ∀ s, Le (Dg nE x3 s) (B0 x3 s) := by
  rintro ⟨x4, x5⟩
  unfold Dg B0
  repeat' with_reducible (first | refine Le.orR' ?_ ?_ | refine Le.bind' ?_ ?_ | refine Le.ite' ?_ ?_ | refine Le.loop' ?_ | refine Le.altS' ?_ ?_ | apply Ga | exact Le.rfl' _ | (refine Le.pi2 ?_; intro _) | intro _)
def DR (nE : Nat) (p0 : Int × List (Bool × (Int × (Int × (Int × (Int × Int × Int × Int) × (Int × Int × Int × Int)) × (List (Int × Int × Int))) × Bool))) : Option (List (Int × (Int × (Int × (Int × Int × Int × Int) × (Int × Int × Int × Int)) × (List (Int × Int × Int))) × Bool)) := (if (Ao p0) ≠ 1 then some ([] : List (Int × (Int × (Int × (Int × Int × Int × Int) × (Int × Int × Int × Int)) × (List (Int × Int × Int))) × Bool)) else ((Cz nE p0).bind fun x2 => (GA 16 p0.2 0 x2).bind fun x3 => JZ nE (Dg nE x3) ([], 0)).bind fun x1 => some x1)
theorem GC (nE : Nat) (p0 : Int × List (Bool × (Int × (Int × (Int × (Int × Int × Int × Int) × (Int × Int × Int × Int)) × (List (Int × Int × Int))) × Bool))) : Le (DR nE p0) (AY p0) := by
  unfold DR AY
  repeat' with_reducible (first | refine Le.orR' ?_ ?_ | refine Le.bind' ?_ ?_ | refine Le.ite' ?_ ?_ | refine Le.loop' ?_ | refine Le.altS' ?_ ?_ | apply EA | apply F0 | exact Le.rfl' _ | (refine Le.pi2 ?_; intro _) | intro _)
def FZ (nE : Nat) (p0 : List (Int × Int × Int)) (p1 : List (Int × Int × Int)) : Int → Option (Int ⊕ (Unit ⊕ Bool))
  | x1 => (if x1 < (p0.length : Int) then (ix p0 x1).bind fun x2 => (ix p1 x1).bind fun x3 => (if (!(decide (x2.1 = x3.1 ∧ x2.2.1 = x3.2.1 ∧ x2.2.2 = x3.2.2))) = true then some (.inr (.inr false)) else some (.inl (Cc (x1 + 1)))) else some (.inr (.inl ())))
theorem Ju (nE : Nat) (p0 : List (Int × Int × Int)) (p1 : List (Int × Int × Int)) : ∀ s, Le (FZ nE p0 p1 s) (Eg p0 p1 s) := by
  intro x1
  unfold FZ Eg
  repeat' with_reducible (first | refine Le.orR' ?_ ?_ | refine Le.bind' ?_ ?_ | refine Le.ite' ?_ ?_ | refine Le.loop' ?_ | refine Le.altS' ?_ ?_ | exact Le.rfl' _ | (refine Le.pi2 ?_; intro _) | intro _)
def Hl (nE : Nat) (p0 : List (Int × Int × Int)) (p1 : List (Int × Int × Int)) : Option Bool := (if (p0.length : Int) ≠ (p1.length : Int) then some false else FR (JZ nE (FZ nE p0 p1) 0) fun _ => some true)
theorem Ly (nE : Nat) (p0 : List (Int × Int × Int)) (p1 : List (Int × Int × Int)) : Le (Hl nE p0 p1) (FD p0 p1) := by
  unfold Hl FD
  repeat' with_reducible (first | refine Le.orR' ?_ ?_ | refine Le.bind' ?_ ?_ | refine Le.ite' ?_ ?_ | refine Le.loop' ?_ | refine Le.altS' ?_ ?_ | apply Ju | exact Le.rfl' _ | (refine Le.pi2 ?_; intro _) | intro _)
def Hq (nE : Nat) (p0 : Int × (Int × (Int × Int × Int × Int) × (Int × Int × Int × Int)) × (List (Int × Int × Int))) (p1 : Int × (Int × (Int × Int × Int × Int) × (Int × Int × Int × Int)) × (List (Int × Int × Int))) : Option Bool := (if p0.1 = p1.1 then (if p0.2.1.1 = p1.2.1.1 ∧ p0.2.1.2.1.1 = p1.2.1.2.1.1 ∧ p0.2.1.2.1.2.1 = p1.2.1.2.1.2.1 ∧ p0.2.1.2.1.2.2.1 = p1.2.1.2.1.2.2.1 ∧ p0.2.1.2.1.2.2.2 = p1.2.1.2.1.2.2.2 ∧ p0.2.1.2.2.1 = p1.2.1.2.2.1 ∧ p0.2.1.2.2.2.1 = p1.2.1.2.2.2.1 ∧ p0.2.1.2.2.2.2.1 = p1.2.1.2.2.2.2.1 ∧ p0.2.1.2.2.2.2.2 = p1.2.1.2.2.2.2.2 then (Hl nE p0.2.2 p1.2.2).bind fun x2 => some x2 else some false) else some false).bind fun x1 => some x1
theorem Lx (nE : Nat) (p0 : Int × (Int × (Int × Int × Int × Int) × (Int × Int × Int × Int)) × (List (Int × Int × Int))) (p1 : Int × (Int × (Int × Int × Int × Int) × (Int × Int × Int × Int)) × (List (Int × Int × Int))) : Le (Hq nE p0 p1) (E8 p0 p1) := by
  unfold Hq E8
  repeat' with_reducible (first | refine Le.orR' ?_ ?_ | refine Le.bind' ?_ ?_ | refine Le.ite' ?_ ?_ | refine Le.loop' ?_ | refine Le.altS' ?_ ?_ | apply Ly | exact Le.rfl' _ | (refine Le.pi2 ?_; intro _) | intro _)
def Gq (nE : Nat) (p0 : Int × (Int × (Int × (Int × Int × Int × Int) × (Int × Int × Int × Int)) × (List (Int × Int × Int))) × Bool) (p1 : Int × (Int × (Int × (Int × Int × Int × Int) × (Int × Int × Int × Int)) × (List (Int × Int × Int))) × Bool) : Option Bool := (if p0.1 = p1.1 then (if p0.2.2 = p1.2.2 then (Hq nE p0.2.1 p1.2.1).bind fun x2 => some x2 else some false) else some false).bind fun x1 => some x1
theorem KO (nE : Nat) (p0 : Int × (Int × (Int × (Int × Int × Int × Int) × (Int × Int × Int × Int)) × (List (Int × Int × Int))) × Bool) (p1 : Int × (Int × (Int × (Int × Int × Int × Int) × (Int × Int × Int × Int)) × (List (Int × Int × Int))) × Bool) : Le (Gq nE p0 p1) (DH p0 p1) := by
  unfold Gq DH
  repeat' with_reducible (first | refine Le.orR' ?_ ?_ | refine Le.bind' ?_ ?_ | refine Le.ite' ?_ ?_ | refine Le.loop' ?_ | refine Le.altS' ?_ ?_ | apply Lx | exact Le.rfl' _ | (refine Le.pi2 ?_; intro _) | intro _)
def Iv (nE : Nat)  : Option Bool := (Fp nE 1 1 5 0).bind fun x1 => (Fp nE 1 2 5 1).bind fun x2 => (CO nE Ci 1 (1, x2, false)).bind fun x3 => (CO nE x3.2 0 (1, x1, false)).bind fun x4 => (CO nE x4.2 1 (1, x2, false)).bind fun x5 => (DC nE x5.2 2).bind fun x6 => (DR nE x6.2).bind fun x7 => (if x3.1 = 0 then (if x4.1 = x3.1 then (if x5.1 = x3.1 then (if x6.1 = x3.1 then (if (x7.length : Int) = 2 then (ix x7 0).bind fun x9 => (Gq nE x9 (1, x1, false)).bind fun x10 => (if x10 = true then (ix x7 1).bind fun x11 => (Gq nE x11 (1, x2, false)).bind fun x12 => (if x12 = true then some (decide ((Ao x6.2) = 1)) else some false) else some false) else some false) else some false) else some false) else some false) else some false).bind fun x8 => some x8
theorem Kv (nE : Nat)  : Le (Iv nE ) (DV ) := by
  unfold Iv DV
  repeat' with_reducible (first | refine Le.orR' ?_ ?_ | refine Le.bind' ?_ ?_ | refine Le.ite' ?_ ?_ | refine Le.loop' ?_ | refine Le.altS' ?_ ?_ | apply JF | apply GW | apply Gv | apply GC | apply KO | exact Le.rfl' _ | (refine Le.pi2 ?_; intro _) | intro _)
theorem IP : DV = some true := Kv 60 _ (by kernel_rfl)
end Go.Proofs.Ytfnmlmglmegamaa
