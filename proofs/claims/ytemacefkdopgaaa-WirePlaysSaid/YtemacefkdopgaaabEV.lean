/- Twins with fuel of EV functions: what a twin answers, the function answers. Conditions: none. -/
import Derived.Test.YtemacefkdopgaaabLP
import Derived.Test.YtemacefkdopgaaabA6
namespace Go.Proofs.Ytemacefkdopgaaa
open Go Go.RowKit
set_option linter.unusedVariables false
set_option linter.unusedSimpArgs false
set_option maxRecDepth 20000
set_option maxHeartbeats 1600000
abbrev Le {α : Type} (a b : Option α) : Prop := ∀ r, a = some r → b = some r
theorem Le.rfl' {α : Type} (a : Option α) : Le a a := fun _ h => h
theorem Le.bind' {α β : Type} {a b : Option α} {f g : α → Option β} (h : Le a b) (hf : ∀ x, Le (f x) (g x)) : Le (a.bind f) (b.bind g) := fun r e => by
  obtain ⟨x, h1, h2⟩ := An e
  rw [h x h1, Option.bind_some]; exact hf x r h2
theorem Le.ite' {α : Type} {c : Prop} [Decidable c] {a a' b b' : Option α} (h1 : Le a a') (h2 : Le b b') : Le (if c then a else b) (if c then a' else b') := fun r e => by
  by_cases h : c
  · rw [if_pos h] at e ⊢; exact h1 r e
  · rw [if_neg h] at e ⊢; exact h2 r e
theorem Le.orR' {α β : Type} {a b : Option (α ⊕ β)} {f g : α → Option β} (h : Le a b) (hf : ∀ x, Le (f x) (g x)) : Le (Hd a f) (Hd b g) :=
  Le.bind' h fun x => by
    cases x with
    | inl t => exact hf t
    | inr e => exact Le.rfl' _
def GO {σ ε : Type} (n : Nat) (step : σ → Option (σ ⊕ ε)) (s : σ) : Option ε := Ed step n s
theorem FI {σ ε : Type} {S T : σ → Option (σ ⊕ ε)} (h : ∀ s, Le (S s) (T s)) : ∀ (n : Nat) (s : σ), Le (Ed S n s) (Ed T n s)
  | 0, s => Le.rfl' _
  | n + 1, s => fun r e => by
    unfold Ed at e ⊢
    cases hs : S s with
    | none => rw [hs] at e; cases e
    | some q =>
      rw [hs] at e; rw [h s q hs]
      cases q with
      | inl s' => exact FI h n s' r e
      | inr _ => exact e
theorem Le.loop' {σ ε : Type} {n : Nat} {S T : σ → Option (σ ⊕ ε)} {s : σ} (h : ∀ s, Le (S s) (T s)) : Le (GO n S s) (AU T s) := fun r e => DY.2 ⟨n, FI h n s r e⟩
theorem Le.pi2 {α β γ : Type} {f g : α × β → Option γ} (h : ∀ a b, Le (f (a, b)) (g (a, b))) : ∀ x, Le (f x) (g x) := fun x => h x.1 x.2
theorem Le.altS' {α β γ : Type} {y : α ⊕ β} {f f' : α → Option γ} {g g' : β → Option γ} (h : ∀ x, Le (f x) (f' x)) (k : ∀ x, Le (g x) (g' x)) : Le (HO y f g) (HO y f' g') := by
  cases y with
  | inl x => exact h x
  | inr x => exact k x
theorem Kx {β : Type} {g : Nat → Option β} (hm : ∀ n r, g n = some r → g (n + 1) = some r) {n : Nat} {r : β} (h : g n = some r) : Jm g = some r := by
  have up : ∀ (d m : Nat) (q : β), g m = some q → g (m + d) = some q := fun d => by
    induction d with
    | zero => exact fun m q h => h
    | succ d ih => exact fun m q h => hm _ _ (ih m q h)
  refine Ke n h fun m q hq => ?_
  have h1 := up m n r h
  have h2 := up n m q hq
  rw [Nat.add_comm] at h2
  exact Option.some.inj (h2.symm.trans h1)
theorem Le.loopM {σ ε : Type} {S T : σ → Option (σ ⊕ ε)} {s : σ} (h : ∀ s, Le (S s) (T s)) : Le (AU S s) (AU T s) := fun r e => by
  obtain ⟨n, hn⟩ := DY.1 e
  exact DY.2 ⟨n, FI h n s r hn⟩
def DS (nE : Nat) (p0 : Int × (List (Int × Int × Int × Int × Int × Int)) × (List (Int × Int))) : ((List (Int × Int)) × Int) → Option (((List (Int × Int)) × Int) ⊕ (List (Int × Int)))
  | (x2, x3) => (if x3 < (p0.2.1.length : Int) then (ix p0.2.1 x3).bind fun x4 => (app x2 ([(x4.1, x4.2.1), (x4.2.2.1, x4.2.2.2.1)] : List (Int × Int))).bind fun x5 => some (.inl (x5, AD (x3 + 1))) else some (.inr x2))
theorem F0 (nE : Nat) (p0 : Int × (List (Int × Int × Int × Int × Int × Int)) × (List (Int × Int))) : ∀ s, Le (DS nE p0 s) (Cp p0 s) := by
  rintro ⟨x2, x3⟩
  unfold DS Cp
  repeat' with_reducible (first | refine Le.orR' ?_ ?_ | refine Le.bind' ?_ ?_ | refine Le.ite' ?_ ?_ | refine Le.loop' ?_ | refine Le.altS' ?_ ?_ | exact Le.rfl' _ | (refine Le.pi2 ?_; intro _) | intro _)
def DV (nE : Nat) (p0 : Int × (List (Int × Int × Int × Int × Int × Int)) × (List (Int × Int))) : ((List (Int × Int)) × Int) → Option (((List (Int × Int)) × Int) ⊕ (List (Int × Int)))
  | (x7, x8) => (if x8 < (p0.2.2.length : Int) then (ix p0.2.2 x8).bind fun x9 => (app x7 ([x9] : List (Int × Int))).bind fun x10 => some (.inl (x10, AD (x8 + 1))) else some (.inr x7))
theorem FV (nE : Nat) (p0 : Int × (List (Int × Int × Int × Int × Int × Int)) × (List (Int × Int))) : ∀ s, Le (DV nE p0 s) (Co p0 s) := by
  rintro ⟨x7, x8⟩
  unfold DV Co
  repeat' with_reducible (first | refine Le.orR' ?_ ?_ | refine Le.bind' ?_ ?_ | refine Le.ite' ?_ ?_ | refine Le.loop' ?_ | refine Le.altS' ?_ ?_ | exact Le.rfl' _ | (refine Le.pi2 ?_; intro _) | intro _)
def EF (nE : Nat) (p0 : Int × (List (Int × Int × Int × Int × Int × Int)) × (List (Int × Int))) : Option (List (Int × Int)) := (GO nE (DS nE p0) ([], 0)).bind fun x1 => (GO nE (DV nE p0) (x1, 0)).bind fun x6 => some x6
theorem Hb (nE : Nat) (p0 : Int × (List (Int × Int × Int × Int × Int × Int)) × (List (Int × Int))) : Le (EF nE p0) (C3 p0) := by
  unfold EF C3
  repeat' with_reducible (first | refine Le.orR' ?_ ?_ | refine Le.bind' ?_ ?_ | refine Le.ite' ?_ ?_ | refine Le.loop' ?_ | refine Le.altS' ?_ ?_ | apply F0 | apply FV | exact Le.rfl' _ | (refine Le.pi2 ?_; intro _) | intro _)
def BL (nE : Nat) (p0 : List (Int × Int × Int × Int × Int × Int)) : Int → Option (Int ⊕ (Unit ⊕ Int))
  | x1 => (if x1 < (p0.length : Int) then (ix p0 x1).bind fun x2 => (if (Bo x2) = true then some (.inr (.inr x1)) else some (.inl (AD (x1 + 1)))) else some (.inr (.inl ())))
theorem CQ (nE : Nat) (p0 : List (Int × Int × Int × Int × Int × Int)) : ∀ s, Le (BL nE p0 s) (Au p0 s) := by
  intro x1
  unfold BL Au
  repeat' with_reducible (first | refine Le.orR' ?_ ?_ | refine Le.bind' ?_ ?_ | refine Le.ite' ?_ ?_ | refine Le.loop' ?_ | refine Le.altS' ?_ ?_ | exact Le.rfl' _ | (refine Le.pi2 ?_; intro _) | intro _)
def BS (nE : Nat) (p0 : List (Int × Int × Int × Int × Int × Int)) : Option Int := Hd (GO nE (BL nE p0) 0) fun _ => some (-1)
theorem De (nE : Nat) (p0 : List (Int × Int × Int × Int × Int × Int)) : Le (BS nE p0) (A7 p0) := by
  unfold BS A7
  repeat' with_reducible (first | refine Le.orR' ?_ ?_ | refine Le.bind' ?_ ?_ | refine Le.ite' ?_ ?_ | refine Le.loop' ?_ | refine Le.altS' ?_ ?_ | apply CQ | exact Le.rfl' _ | (refine Le.pi2 ?_; intro _) | intro _)
def BK (nE : Nat) (p0 : List (Int × Int × Int × Int × Int × Int)) : Option Bool := (BS nE p0).bind fun x1 => some (decide (0 ≤ x1))
theorem CR (nE : Nat) (p0 : List (Int × Int × Int × Int × Int × Int)) : Le (BK nE p0) (AL p0) := by
  unfold BK AL
  repeat' with_reducible (first | refine Le.orR' ?_ ?_ | refine Le.bind' ?_ ?_ | refine Le.ite' ?_ ?_ | refine Le.loop' ?_ | refine Le.altS' ?_ ?_ | apply De | exact Le.rfl' _ | (refine Le.pi2 ?_; intro _) | intro _)
def D7 (nE : Nat) (p0 : Int × (List (Int × Int × Int × Int × Int × Int)) × (List (Int × Int))) (x2 : (List (Int × Int))) : (Int × (List ((Int × Int) × Unit))) → Option ((Int × (List ((Int × Int) × Unit))) ⊕ ((List ((Int × Int) × Unit)) ⊕ Bool))
  | (x3, x4) => (if x3 < (x2.length : Int) then (ix x2 x3).bind fun x5 => (if (decide (x5.1 < 0) || (decide (p0.1 ≤ x5.1) || (decide (x5.2 < 0) || decide (8 ≤ x5.2)))) = true then some (.inr (.inr false)) else (if ((Gi x4 x5).isSome) = true then some (.inr (.inr false)) else some (.inl (AD (x3 + 1), Gj x4 x5 ())))) else some (.inr (.inl x4)))
theorem Gg (nE : Nat) (p0 : Int × (List (Int × Int × Int × Int × Int × Int)) × (List (Int × Int))) (x2 : (List (Int × Int))) : ∀ s, Le (D7 nE p0 x2 s) (BZ p0 x2 s) := by
  rintro ⟨x3, x4⟩
  unfold D7 BZ
  repeat' with_reducible (first | refine Le.orR' ?_ ?_ | refine Le.bind' ?_ ?_ | refine Le.ite' ?_ ?_ | refine Le.loop' ?_ | refine Le.altS' ?_ ?_ | exact Le.rfl' _ | (refine Le.pi2 ?_; intro _) | intro _)
def EY (nE : Nat) (p0 : Int × (List (Int × Int × Int × Int × Int × Int)) × (List (Int × Int))) : Option Bool := (if (decide (p0.1 < 1) || (decide (8 < p0.1) || (decide (24 < (p0.2.1.length : Int)) || decide (8 < (p0.2.2.length : Int))))) = true then some false else Hd ((EF nE p0).bind fun x2 => GO nE (D7 nE p0 x2) (0, ([] : List ((Int × Int) × Unit)))) fun x1 => (BK nE p0.2.1).bind fun x6 => some (!x6))
theorem Hp (nE : Nat) (p0 : Int × (List (Int × Int × Int × Int × Int × Int)) × (List (Int × Int))) : Le (EY nE p0) (Du p0) := by
  unfold EY Du
  repeat' with_reducible (first | refine Le.orR' ?_ ?_ | refine Le.bind' ?_ ?_ | refine Le.ite' ?_ ?_ | refine Le.loop' ?_ | refine Le.altS' ?_ ?_ | apply Hb | apply CR | apply Gg | exact Le.rfl' _ | (refine Le.pi2 ?_; intro _) | intro _)
def Cd (nE : Nat) (p0 : List (Int × Int × Int × Int × Int × Int)) : Option (List (Int × Int × Int × Int × Int × Int)) := (app ([] : List (Int × Int × Int × Int × Int × Int)) p0).bind fun x1 => some x1
theorem Dy (nE : Nat) (p0 : List (Int × Int × Int × Int × Int × Int)) : Le (Cd nE p0) (Bf p0) := by
  unfold Cd Bf
  repeat' with_reducible (first | refine Le.orR' ?_ ?_ | refine Le.bind' ?_ ?_ | refine Le.ite' ?_ ?_ | refine Le.loop' ?_ | refine Le.altS' ?_ ?_ | exact Le.rfl' _ | (refine Le.pi2 ?_; intro _) | intro _)
def FK (nE : Nat) (p0 : Int × (List (Int × Int × Int × Int × Int × Int)) × (List (Int × Int))) : Option (((Int × (List (Int × Int × Int × Int × Int × Int)) × (List (Int × Int))) × (List (Int × Int × Int × (Int × Int × Int × Int) × Int × Int))) ⊕ Unit) := (EY nE p0).bind fun x1 => (if (!x1) = true then some (.inr ()) else (Cd nE p0.2.1).bind fun x2 => some (.inl ((p0.1, x2, ([] : List (Int × Int))), ([] : List (Int × Int × Int × (Int × Int × Int × Int) × Int × Int)))))
theorem Ie (nE : Nat) (p0 : Int × (List (Int × Int × Int × Int × Int × Int)) × (List (Int × Int))) : Le (FK nE p0) (D5 p0) := by
  unfold FK D5
  repeat' with_reducible (first | refine Le.orR' ?_ ?_ | refine Le.bind' ?_ ?_ | refine Le.ite' ?_ ?_ | refine Le.loop' ?_ | refine Le.altS' ?_ ?_ | apply Hp | apply Dy | exact Le.rfl' _ | (refine Le.pi2 ?_; intro _) | intro _)
def Em (nE : Nat) (p0 : Int × (List (Int × Int × Int × Int × Int × Int)) × (List (Int × Int))) (p1 : Int) (p2 : Int) : Int → Option (Int ⊕ (Unit ⊕ (Int × Int × Int × Bool)))
  | x1 => (if x1 < (p0.2.1.length : Int) then (ix p0.2.1 x1).bind fun x2 => (if p1 = x2.1 ∧ p2 = x2.2.1 then some (.inr (.inr (x2.2.2.1, x2.2.2.2.1, x1, true))) else (if p1 = x2.2.2.1 ∧ p2 = x2.2.2.2.1 then some (.inr (.inr (x2.1, x2.2.1, x1, true))) else some (.inl (AD (x1 + 1))))) else some (.inr (.inl ())))
theorem Gw (nE : Nat) (p0 : Int × (List (Int × Int × Int × Int × Int × Int)) × (List (Int × Int))) (p1 : Int) (p2 : Int) : ∀ s, Le (Em nE p0 p1 p2 s) (B3 p0 p1 p2 s) := by
  intro x1
  unfold Em B3
  repeat' with_reducible (first | refine Le.orR' ?_ ?_ | refine Le.bind' ?_ ?_ | refine Le.ite' ?_ ?_ | refine Le.loop' ?_ | refine Le.altS' ?_ ?_ | exact Le.rfl' _ | (refine Le.pi2 ?_; intro _) | intro _)
def E6 (nE : Nat) (p0 : Int × (List (Int × Int × Int × Int × Int × Int)) × (List (Int × Int))) (p1 : Int) (p2 : Int) : Option (Int × Int × Int × Bool) := Hd (GO nE (Em nE p0 p1 p2) 0) fun _ => some (0, 0, 0, false)
theorem HH (nE : Nat) (p0 : Int × (List (Int × Int × Int × Int × Int × Int)) × (List (Int × Int))) (p1 : Int) (p2 : Int) : Le (E6 nE p0 p1 p2) (Da p0 p1 p2) := by
  unfold E6 Da
  repeat' with_reducible (first | refine Le.orR' ?_ ?_ | refine Le.bind' ?_ ?_ | refine Le.ite' ?_ ?_ | refine Le.loop' ?_ | refine Le.altS' ?_ ?_ | apply Gw | exact Le.rfl' _ | (refine Le.pi2 ?_; intro _) | intro _)
def D0 (nE : Nat) (p0 : (Int × (List (Int × Int × Int × Int × Int × Int)) × (List (Int × Int))) × (List (Int × Int × Int × (Int × Int × Int × Int) × Int × Int))) (p1 : Int) (p2 : Int) (p3 : Int) (p4 : Int) (p5 : Int × Int × Int × Int) : Option (Int × ((Int × (List (Int × Int × Int × Int × Int × Int)) × (List (Int × Int))) × (List (Int × Int × Int × (Int × Int × Int × Int) × Int × Int)))) := (E6 nE p0.1 p2 p3).bind fun x1 => (if (!x1.2.2.2) = true then some (7, p0) else (if 256 ≤ (p0.2.length : Int) then some (6, p0) else (ix p0.1.2.1 x1.2.2.1).bind fun x2 => (app p0.2 ([(p4, x1.1, x1.2.1, p5, AD (p1 + x2.2.2.2.2.1), AD (p1 + x2.2.2.2.2.2))] : List (Int × Int × Int × (Int × Int × Int × Int) × Int × Int))).bind fun x3 => some (0, (p0.1, x3))))
theorem FP (nE : Nat) (p0 : (Int × (List (Int × Int × Int × Int × Int × Int)) × (List (Int × Int))) × (List (Int × Int × Int × (Int × Int × Int × Int) × Int × Int))) (p1 : Int) (p2 : Int) (p3 : Int) (p4 : Int) (p5 : Int × Int × Int × Int) : Le (D0 nE p0 p1 p2 p3 p4 p5) (Cn p0 p1 p2 p3 p4 p5) := by
  unfold D0 Cn
  repeat' with_reducible (first | refine Le.orR' ?_ ?_ | refine Le.bind' ?_ ?_ | refine Le.ite' ?_ ?_ | refine Le.loop' ?_ | refine Le.altS' ?_ ?_ | apply HH | exact Le.rfl' _ | (refine Le.pi2 ?_; intro _) | intro _)
def DC (nE : Nat) (p0 : (Int × (List (Int × Int × Int × Int × Int × Int)) × (List (Int × Int))) × (List (Int × Int × Int × (Int × Int × Int × Int) × Int × Int))) (p1 : Int) : Option ((Int × Int × Int × (Int × Int × Int × Int) × Int × Int) × Int) := (if (decide (p1 < 0) || decide ((p0.2.length : Int) ≤ p1)) = true then some ((0, 0, 0, (0, 0, 0, 0), 0, 0), 7) else (ix p0.2 p1).bind fun x1 => some (x1, 0))
theorem FG (nE : Nat) (p0 : (Int × (List (Int × Int × Int × Int × Int × Int)) × (List (Int × Int))) × (List (Int × Int × Int × (Int × Int × Int × Int) × Int × Int))) (p1 : Int) : Le (DC nE p0 p1) (BP p0 p1) := by
  unfold DC BP
  repeat' with_reducible (first | refine Le.orR' ?_ ?_ | refine Le.bind' ?_ ?_ | refine Le.ite' ?_ ?_ | refine Le.loop' ?_ | refine Le.altS' ?_ ?_ | exact Le.rfl' _ | (refine Le.pi2 ?_; intro _) | intro _)
def Ca (nE : Nat) (p0 : List (Int × Int × Int × (Int × Int × Int × Int) × Int × Int)) (p1 : Int) (p2 : Int) : Option (List (Int × Int × Int × (Int × Int × Int × Int) × Int × Int)) := (Dd p0 p1 p2).bind fun x1 => (if p1 = p2 then some p0 else (Dd p0 0 p1).bind fun x2 => (Dd p0 p2 (p0.length : Int)).bind fun x3 => (Iq p0 (x2.length : Int) x3).bind fun x4 => (Dd x4 0 ((x2.length : Int) + (x3.length : Int))).bind fun x5 => (Dd x4 (x5.length : Int) (p0.length : Int)).bind fun x6 => (Iq x4 (x5.length : Int) (List.replicate (x6.length) ((0, 0, 0, (0, 0, 0, 0), 0, 0) : Int × Int × Int × (Int × Int × Int × Int) × Int × Int))).bind fun x7 => some x5)
theorem Dr (nE : Nat) (p0 : List (Int × Int × Int × (Int × Int × Int × Int) × Int × Int)) (p1 : Int) (p2 : Int) : Le (Ca nE p0 p1 p2) (Bc p0 p1 p2) := by
  unfold Ca Bc
  repeat' with_reducible (first | refine Le.orR' ?_ ?_ | refine Le.bind' ?_ ?_ | refine Le.ite' ?_ ?_ | refine Le.loop' ?_ | refine Le.altS' ?_ ?_ | exact Le.rfl' _ | (refine Le.pi2 ?_; intro _) | intro _)
def CU (nE : Nat) (p0 : (Int × (List (Int × Int × Int × Int × Int × Int)) × (List (Int × Int))) × (List (Int × Int × Int × (Int × Int × Int × Int) × Int × Int))) (p1 : Int) (p2 : Int) : Option ((Int × Int × Int × (Int × Int × Int × Int) × Int × Int) × Int × ((Int × (List (Int × Int × Int × Int × Int × Int)) × (List (Int × Int))) × (List (Int × Int × Int × (Int × Int × Int × Int) × Int × Int)))) := (DC nE p0 p2).bind fun x1 => (if x1.2 ≠ 0 then some ((0, 0, 0, (0, 0, 0, 0), 0, 0), x1.2, p0) else (if p1 < x1.1.2.2.2.2.1 then some ((0, 0, 0, (0, 0, 0, 0), 0, 0), 15, p0) else (Ca nE p0.2 p2 (AD (p2 + 1))).bind fun x2 => some (x1.1, 0, (p0.1, x2))))
theorem FM (nE : Nat) (p0 : (Int × (List (Int × Int × Int × Int × Int × Int)) × (List (Int × Int))) × (List (Int × Int × Int × (Int × Int × Int × Int) × Int × Int))) (p1 : Int) (p2 : Int) : Le (CU nE p0 p1 p2) (B4 p0 p1 p2) := by
  unfold CU B4
  repeat' with_reducible (first | refine Le.orR' ?_ ?_ | refine Le.bind' ?_ ?_ | refine Le.ite' ?_ ?_ | refine Le.loop' ?_ | refine Le.altS' ?_ ?_ | apply FG | apply Dr | exact Le.rfl' _ | (refine Le.pi2 ?_; intro _) | intro _)
def BR (nE : Nat) (p0 : List (Int × Int × Int × (Int × Int × Int × Int) × Int × Int)) : (Int × Int × Int × Int × Int × Int × Int × Int × Int × Int) → Option ((Int × Int × Int × Int × Int × Int × Int × Int × Int × Int) ⊕ (Int × Int × Int × Int × Int × Int × Int × Int × Int))
  | (x11, x12, x13, x14, x15, x16, x17, x18, x19, x20) => (if x11 < (p0.length : Int) then ((ix p0 x11).bind fun x30 => (if (BT x30 (x12, x13, x14, (x15, x16, x17, x18), x19, x20)) < 0 then (ix p0 x11).bind fun x31 => some (x31.1, x31.2.1, x31.2.2.1, x31.2.2.2.1.1, x31.2.2.2.1.2.1, x31.2.2.2.1.2.2.1, x31.2.2.2.1.2.2.2, x31.2.2.2.2.1, x31.2.2.2.2.2) else some (x12, x13, x14, x15, x16, x17, x18, x19, x20))).bind fun (x21, x22, x23, x24, x25, x26, x27, x28, x29) => some (.inl (AD (x11 + 1), x21, x22, x23, x24, x25, x26, x27, x28, x29)) else some (.inr (x12, x13, x14, x15, x16, x17, x18, x19, x20)))
theorem C6 (nE : Nat) (p0 : List (Int × Int × Int × (Int × Int × Int × Int) × Int × Int)) : ∀ s, Le (BR nE p0 s) (A4 p0 s) := by
  rintro ⟨x11, x12, x13, x14, x15, x16, x17, x18, x19, x20⟩
  unfold BR A4
  repeat' with_reducible (first | refine Le.orR' ?_ ?_ | refine Le.bind' ?_ ?_ | refine Le.ite' ?_ ?_ | refine Le.loop' ?_ | refine Le.altS' ?_ ?_ | exact Le.rfl' _ | (refine Le.pi2 ?_; intro _) | intro _)
def B7 (nE : Nat) (p0 : List (Int × Int × Int × (Int × Int × Int × Int) × Int × Int)) : Option (Int × Int × Int × (Int × Int × Int × Int) × Int × Int) := (if (p0.length : Int) < 1 then none else (ix p0 0).bind fun x1 => (GO nE (BR nE p0) (1, x1.1, x1.2.1, x1.2.2.1, x1.2.2.2.1.1, x1.2.2.2.1.2.1, x1.2.2.2.1.2.2.1, x1.2.2.2.1.2.2.2, x1.2.2.2.2.1, x1.2.2.2.2.2)).bind fun (x2, x3, x4, x5, x6, x7, x8, x9, x10) => some (x2, x3, x4, (x5, x6, x7, x8), x9, x10))
theorem Dj (nE : Nat) (p0 : List (Int × Int × Int × (Int × Int × Int × Int) × Int × Int)) : Le (B7 nE p0) (AP p0) := by
  unfold B7 AP
  repeat' with_reducible (first | refine Le.orR' ?_ ?_ | refine Le.bind' ?_ ?_ | refine Le.ite' ?_ ?_ | refine Le.loop' ?_ | refine Le.altS' ?_ ?_ | apply C6 | exact Le.rfl' _ | (refine Le.pi2 ?_; intro _) | intro _)
def CV (nE : Nat) (p0 : (Int × (List (Int × Int × Int × Int × Int × Int)) × (List (Int × Int))) × (List (Int × Int × Int × (Int × Int × Int × Int) × Int × Int))) : Option Int := (if (Bp p0) = 0 then some (-1) else (B7 nE p0.2).bind fun x1 => some x1.2.2.2.2.2)
theorem FN (nE : Nat) (p0 : (Int × (List (Int × Int × Int × Int × Int × Int)) × (List (Int × Int))) × (List (Int × Int × Int × (Int × Int × Int × Int) × Int × Int))) : Le (CV nE p0) (B0 p0) := by
  unfold CV B0
  repeat' with_reducible (first | refine Le.orR' ?_ ?_ | refine Le.bind' ?_ ?_ | refine Le.ite' ?_ ?_ | refine Le.loop' ?_ | refine Le.altS' ?_ ?_ | apply Dj | exact Le.rfl' _ | (refine Le.pi2 ?_; intro _) | intro _)
def Gp (nE : Nat)  : Option Bool := (FK nE (2, ([(0, 0, 1, 3, 2, 5)] : List (Int × Int × Int × Int × Int × Int)), ([] : List (Int × Int)))).bind fun x1 => HO x1 (fun x2 => (D0 nE x2 10 0 0 7 (1, 0, 0, 0)).bind fun x4 => (CU nE x4.2 11 0).bind fun x5 => (CV nE x5.2.2).bind fun x6 => (CU nE x5.2.2 12 0).bind fun x7 => (if x4.1 = 0 then (if x5.2.1 = 15 then (if x6 = 15 then (if x7.2.1 = 0 then (if x7.1.1 = 7 then (if x7.1.2.1 = 1 then (if x7.1.2.2.1 = 3 then (if (Bp x7.2.2) = 0 then (CV nE x7.2.2).bind fun x9 => some (decide (x9 = (-1))) else some false) else some false) else some false) else some false) else some false) else some false) else some false) else some false).bind fun x8 => some x8) (fun x3 => some false)
theorem HL (nE : Nat)  : Le (Gp nE ) (CI ) := by
  unfold Gp CI
  repeat' with_reducible (first | refine Le.orR' ?_ ?_ | refine Le.bind' ?_ ?_ | refine Le.ite' ?_ ?_ | refine Le.loop' ?_ | refine Le.altS' ?_ ?_ | apply Ie | apply FP | apply FM | apply FN | exact Le.rfl' _ | (refine Le.pi2 ?_; intro _) | intro _)
theorem Db {fRec fRec' : (List (Int × Int × Int × (Int × Int × Int × Int) × Int × Int)) → Int → Int → Int → Option (List (Int × Int × Int × (Int × Int × Int × Int) × Int × Int))} (hfRec : ∀ a0 a1 a2 a3, Le (fRec a0 a1 a2 a3) (fRec' a0 a1 a2 a3)) (p0 : List (Int × Int × Int × (Int × Int × Int × Int) × Int × Int)) (p1 : Int) (p2 : Int) (p3 : Int) : Le (AJ fRec p0 p1 p2 p3) (AJ fRec' p0 p1 p2 p3) := by
  unfold AJ
  repeat' with_reducible (first | refine Le.orR' ?_ ?_ | refine Le.bind' ?_ ?_ | refine Le.ite' ?_ ?_ | refine Le.loopM ?_ | refine Le.altS' ?_ ?_ | exact hfRec | exact hfRec _ _ _ _ | exact Le.rfl' _ | (refine Le.pi2 ?_; intro _) | intro _)
theorem Cs : ∀ (m : Nat) a0 a1 a2 a3, Le (Aw m a0 a1 a2 a3) (Aw (m + 1) a0 a1 a2 a3)
  | 0, a0, a1, a2, a3 => fun _ h => nomatch h
  | m + 1, a0, a1, a2, a3 => Db (Cs m) a0 a1 a2 a3
theorem GF : CI = some true := HL 60 _ (by kernel_rfl)
end Go.Proofs.Ytemacefkdopgaaa
