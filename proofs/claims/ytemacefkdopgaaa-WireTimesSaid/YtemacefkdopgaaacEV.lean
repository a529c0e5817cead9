/- Twins with fuel of EJ functions: what a twin answers, the function answers. Conditions: none. -/
import Derived.Test.YtemacefkdopgaaacLP
import Derived.Test.YtemacefkdopgaaacA6
namespace Go.Proofs.Ytemacefkdopgaaa
open Go Go.RowKit
set_option linter.unusedVariables false
set_option linter.unusedSimpArgs false
set_option maxRecDepth 20000
set_option maxHeartbeats 1600000
abbrev Le {α : Type} (a b : Option α) : Prop := ∀ r, a = some r → b = some r
theorem Le.rfl' {α : Type} (a : Option α) : Le a a := fun _ h => h
theorem Le.bind' {α β : Type} {a b : Option α} {f g : α → Option β} (h : Le a b) (hf : ∀ x, Le (f x) (g x)) : Le (a.bind f) (b.bind g) := fun r e => by
  obtain ⟨x, h1, h2⟩ := Al e
  rw [h x h1, Option.bind_some]; exact hf x r h2
theorem Le.ite' {α : Type} {c : Prop} [Decidable c] {a a' b b' : Option α} (h1 : Le a a') (h2 : Le b b') : Le (if c then a else b) (if c then a' else b') := fun r e => by
  by_cases h : c
  · rw [if_pos h] at e ⊢; exact h1 r e
  · rw [if_neg h] at e ⊢; exact h2 r e
theorem Le.orR' {α β : Type} {a b : Option (α ⊕ β)} {f g : α → Option β} (h : Le a b) (hf : ∀ x, Le (f x) (g x)) : Le (F3 a f) (F3 b g) :=
  Le.bind' h fun x => by
    cases x with
    | inl t => exact hf t
    | inr e => exact Le.rfl' _
def GE {σ ε : Type} (n : Nat) (step : σ → Option (σ ⊕ ε)) (s : σ) : Option ε := DY step n s
theorem Fm {σ ε : Type} {S T : σ → Option (σ ⊕ ε)} (h : ∀ s, Le (S s) (T s)) : ∀ (n : Nat) (s : σ), Le (DY S n s) (DY T n s)
  | 0, s => Le.rfl' _
  | n + 1, s => fun r e => by
    unfold DY at e ⊢
    cases hs : S s with
    | none => rw [hs] at e; cases e
    | some q =>
      rw [hs] at e; rw [h s q hs]
      cases q with
      | inl s' => exact Fm h n s' r e
      | inr _ => exact e
theorem Le.loop' {σ ε : Type} {n : Nat} {S T : σ → Option (σ ⊕ ε)} {s : σ} (h : ∀ s, Le (S s) (T s)) : Le (GE n S s) (AM T s) := fun r e => DH.2 ⟨n, Fm h n s r e⟩
theorem Le.pi2 {α β γ : Type} {f g : α × β → Option γ} (h : ∀ a b, Le (f (a, b)) (g (a, b))) : ∀ x, Le (f x) (g x) := fun x => h x.1 x.2
theorem Le.altS' {α β γ : Type} {y : α ⊕ β} {f f' : α → Option γ} {g g' : β → Option γ} (h : ∀ x, Le (f x) (f' x)) (k : ∀ x, Le (g x) (g' x)) : Le (H8 y f g) (H8 y f' g') := by
  cases y with
  | inl x => exact h x
  | inr x => exact k x
theorem JK {β : Type} {g : Nat → Option β} (hm : ∀ n r, g n = some r → g (n + 1) = some r) {n : Nat} {r : β} (h : g n = some r) : IZ g = some r := by
  have up : ∀ (d m : Nat) (q : β), g m = some q → g (m + d) = some q := fun d => by
    induction d with
    | zero => exact fun m q h => h
    | succ d ih => exact fun m q h => hm _ _ (ih m q h)
  refine J3 n h fun m q hq => ?_
  have h1 := up m n r h
  have h2 := up n m q hq
  rw [Nat.add_comm] at h2
  exact Option.some.inj (h2.symm.trans h1)
theorem Le.loopM {σ ε : Type} {S T : σ → Option (σ ⊕ ε)} {s : σ} (h : ∀ s, Le (S s) (T s)) : Le (AM S s) (AM T s) := fun r e => by
  obtain ⟨n, hn⟩ := DH.1 e
  exact DH.2 ⟨n, Fm h n s r hn⟩
def DJ (nE : Nat) (p0 : Int × (List (Int × Int × Int × Int × Int × Int)) × (List (Int × Int))) : ((List (Int × Int)) × Int) → Option (((List (Int × Int)) × Int) ⊕ (List (Int × Int)))
  | (x2, x3) => (if x3 < (p0.2.1.length : Int) then (ix p0.2.1 x3).bind fun x4 => (app x2 ([(x4.1, x4.2.1), (x4.2.2.1, x4.2.2.2.1)] : List (Int × Int))).bind fun x5 => some (.inl (x5, Ay (x3 + 1))) else some (.inr x2))
theorem FA (nE : Nat) (p0 : Int × (List (Int × Int × Int × Int × Int × Int)) × (List (Int × Int))) : ∀ s, Le (DJ nE p0 s) (Ce p0 s) := by
  rintro ⟨x2, x3⟩
  unfold DJ Ce
  repeat' with_reducible (first | refine Le.orR' ?_ ?_ | refine Le.bind' ?_ ?_ | refine Le.ite' ?_ ?_ | refine Le.loop' ?_ | refine Le.altS' ?_ ?_ | exact Le.rfl' _ | (refine Le.pi2 ?_; intro _) | intro _)
def DF (nE : Nat) (p0 : Int × (List (Int × Int × Int × Int × Int × Int)) × (List (Int × Int))) : ((List (Int × Int)) × Int) → Option (((List (Int × Int)) × Int) ⊕ (List (Int × Int)))
  | (x7, x8) => (if x8 < (p0.2.2.length : Int) then (ix p0.2.2 x8).bind fun x9 => (app x7 ([x9] : List (Int × Int))).bind fun x10 => some (.inl (x10, Ay (x8 + 1))) else some (.inr x7))
theorem FE (nE : Nat) (p0 : Int × (List (Int × Int × Int × Int × Int × Int)) × (List (Int × Int))) : ∀ s, Le (DF nE p0 s) (Cg p0 s) := by
  rintro ⟨x7, x8⟩
  unfold DF Cg
  repeat' with_reducible (first | refine Le.orR' ?_ ?_ | refine Le.bind' ?_ ?_ | refine Le.ite' ?_ ?_ | refine Le.loop' ?_ | refine Le.altS' ?_ ?_ | exact Le.rfl' _ | (refine Le.pi2 ?_; intro _) | intro _)
def Em (nE : Nat) (p0 : Int × (List (Int × Int × Int × Int × Int × Int)) × (List (Int × Int))) : Option (List (Int × Int)) := (GE nE (DJ nE p0) ([], 0)).bind fun x1 => (GE nE (DF nE p0) (x1, 0)).bind fun x6 => some x6
theorem Gn (nE : Nat) (p0 : Int × (List (Int × Int × Int × Int × Int × Int)) × (List (Int × Int))) : Le (Em nE p0) (CU p0) := by
  unfold Em CU
  repeat' with_reducible (first | refine Le.orR' ?_ ?_ | refine Le.bind' ?_ ?_ | refine Le.ite' ?_ ?_ | refine Le.loop' ?_ | refine Le.altS' ?_ ?_ | apply FA | apply FE | exact Le.rfl' _ | (refine Le.pi2 ?_; intro _) | intro _)
def Bu (nE : Nat) (p0 : List (Int × Int × Int × Int × Int × Int)) : Int → Option (Int ⊕ (Unit ⊕ Int))
  | x1 => (if x1 < (p0.length : Int) then (ix p0 x1).bind fun x2 => (if (Bf x2) = true then some (.inr (.inr x1)) else some (.inl (Ay (x1 + 1)))) else some (.inr (.inl ())))
theorem CK (nE : Nat) (p0 : List (Int × Int × Int × Int × Int × Int)) : ∀ s, Le (Bu nE p0 s) (Aq p0 s) := by
  intro x1
  unfold Bu Aq
  repeat' with_reducible (first | refine Le.orR' ?_ ?_ | refine Le.bind' ?_ ?_ | refine Le.ite' ?_ ?_ | refine Le.loop' ?_ | refine Le.altS' ?_ ?_ | exact Le.rfl' _ | (refine Le.pi2 ?_; intro _) | intro _)
def BA (nE : Nat) (p0 : List (Int × Int × Int × Int × Int × Int)) : Option Int := F3 (GE nE (Bu nE p0) 0) fun _ => some (-1)
theorem C1 (nE : Nat) (p0 : List (Int × Int × Int × Int × Int × Int)) : Le (BA nE p0) (AX p0) := by
  unfold BA AX
  repeat' with_reducible (first | refine Le.orR' ?_ ?_ | refine Le.bind' ?_ ?_ | refine Le.ite' ?_ ?_ | refine Le.loop' ?_ | refine Le.altS' ?_ ?_ | apply CK | exact Le.rfl' _ | (refine Le.pi2 ?_; intro _) | intro _)
def Br (nE : Nat) (p0 : List (Int × Int × Int × Int × Int × Int)) : Option Bool := (BA nE p0).bind fun x1 => some (decide (0 ≤ x1))
theorem CJ (nE : Nat) (p0 : List (Int × Int × Int × Int × Int × Int)) : Le (Br nE p0) (AG p0) := by
  unfold Br AG
  repeat' with_reducible (first | refine Le.orR' ?_ ?_ | refine Le.bind' ?_ ?_ | refine Le.ite' ?_ ?_ | refine Le.loop' ?_ | refine Le.altS' ?_ ?_ | apply C1 | exact Le.rfl' _ | (refine Le.pi2 ?_; intro _) | intro _)
def DU (nE : Nat) (p0 : Int × (List (Int × Int × Int × Int × Int × Int)) × (List (Int × Int))) (x2 : (List (Int × Int))) : (Int × (List ((Int × Int) × Unit))) → Option ((Int × (List ((Int × Int) × Unit))) ⊕ ((List ((Int × Int) × Unit)) ⊕ Bool))
  | (x3, x4) => (if x3 < (x2.length : Int) then (ix x2 x3).bind fun x5 => (if (decide (x5.1 < 0) || (decide (p0.1 ≤ x5.1) || (decide (x5.2 < 0) || decide (8 ≤ x5.2)))) = true then some (.inr (.inr false)) else (if ((FW x4 x5).isSome) = true then some (.inr (.inr false)) else some (.inl (Ay (x3 + 1), FU x4 x5 ())))) else some (.inr (.inl x4)))
theorem FR (nE : Nat) (p0 : Int × (List (Int × Int × Int × Int × Int × Int)) × (List (Int × Int))) (x2 : (List (Int × Int))) : ∀ s, Le (DU nE p0 x2 s) (BM p0 x2 s) := by
  rintro ⟨x3, x4⟩
  unfold DU BM
  repeat' with_reducible (first | refine Le.orR' ?_ ?_ | refine Le.bind' ?_ ?_ | refine Le.ite' ?_ ?_ | refine Le.loop' ?_ | refine Le.altS' ?_ ?_ | exact Le.rfl' _ | (refine Le.pi2 ?_; intro _) | intro _)
def EF (nE : Nat) (p0 : Int × (List (Int × Int × Int × Int × Int × Int)) × (List (Int × Int))) : Option Bool := (if (decide (p0.1 < 1) || (decide (8 < p0.1) || (decide (24 < (p0.2.1.length : Int)) || decide (8 < (p0.2.2.length : Int))))) = true then some false else F3 ((Em nE p0).bind fun x2 => GE nE (DU nE p0 x2) (0, ([] : List ((Int × Int) × Unit)))) fun x1 => (Br nE p0.2.1).bind fun x6 => some (!x6))
theorem GM (nE : Nat) (p0 : Int × (List (Int × Int × Int × Int × Int × Int)) × (List (Int × Int))) : Le (EF nE p0) (De p0) := by
  unfold EF De
  repeat' with_reducible (first | refine Le.orR' ?_ ?_ | refine Le.bind' ?_ ?_ | refine Le.ite' ?_ ?_ | refine Le.loop' ?_ | refine Le.altS' ?_ ?_ | apply Gn | apply CJ | apply FR | exact Le.rfl' _ | (refine Le.pi2 ?_; intro _) | intro _)
def B4 (nE : Nat) (p0 : List (Int × Int × Int × Int × Int × Int)) : Option (List (Int × Int × Int × Int × Int × Int)) := (app ([] : List (Int × Int × Int × Int × Int × Int)) p0).bind fun x1 => some x1
theorem Dn (nE : Nat) (p0 : List (Int × Int × Int × Int × Int × Int)) : Le (B4 nE p0) (A7 p0) := by
  unfold B4 A7
  repeat' with_reducible (first | refine Le.orR' ?_ ?_ | refine Le.bind' ?_ ?_ | refine Le.ite' ?_ ?_ | refine Le.loop' ?_ | refine Le.altS' ?_ ?_ | exact Le.rfl' _ | (refine Le.pi2 ?_; intro _) | intro _)
def Fn (nE : Nat) (p0 : Int × (List (Int × Int × Int × Int × Int × Int)) × (List (Int × Int))) : Option (((Int × (List (Int × Int × Int × Int × Int × Int)) × (List (Int × Int))) × (List (Int × Int × Int × (Int × Int × Int × Int) × Int × Int))) ⊕ Unit) := (EF nE p0).bind fun x1 => (if (!x1) = true then some (.inr ()) else (B4 nE p0.2.1).bind fun x2 => some (.inl ((p0.1, x2, ([] : List (Int × Int))), ([] : List (Int × Int × Int × (Int × Int × Int × Int) × Int × Int)))))
theorem Hu (nE : Nat) (p0 : Int × (List (Int × Int × Int × Int × Int × Int)) × (List (Int × Int))) : Le (Fn nE p0) (DR p0) := by
  unfold Fn DR
  repeat' with_reducible (first | refine Le.orR' ?_ ?_ | refine Le.bind' ?_ ?_ | refine Le.ite' ?_ ?_ | refine Le.loop' ?_ | refine Le.altS' ?_ ?_ | apply GM | apply Dn | exact Le.rfl' _ | (refine Le.pi2 ?_; intro _) | intro _)
def D8 (nE : Nat) (p0 : Int × (List (Int × Int × Int × Int × Int × Int)) × (List (Int × Int))) (p1 : Int) (p2 : Int) : Int → Option (Int ⊕ (Unit ⊕ (Int × Int × Int × Bool)))
  | x1 => (if x1 < (p0.2.1.length : Int) then (ix p0.2.1 x1).bind fun x2 => (if p1 = x2.1 ∧ p2 = x2.2.1 then some (.inr (.inr (x2.2.2.1, x2.2.2.2.1, x1, true))) else (if p1 = x2.2.2.1 ∧ p2 = x2.2.2.2.1 then some (.inr (.inr (x2.1, x2.2.1, x1, true))) else some (.inl (Ay (x1 + 1))))) else some (.inr (.inl ())))
theorem Ga (nE : Nat) (p0 : Int × (List (Int × Int × Int × Int × Int × Int)) × (List (Int × Int))) (p1 : Int) (p2 : Int) : ∀ s, Le (D8 nE p0 p1 p2 s) (BR p0 p1 p2 s) := by
  intro x1
  unfold D8 BR
  repeat' with_reducible (first | refine Le.orR' ?_ ?_ | refine Le.bind' ?_ ?_ | refine Le.ite' ?_ ?_ | refine Le.loop' ?_ | refine Le.altS' ?_ ?_ | exact Le.rfl' _ | (refine Le.pi2 ?_; intro _) | intro _)
def E1 (nE : Nat) (p0 : Int × (List (Int × Int × Int × Int × Int × Int)) × (List (Int × Int))) (p1 : Int) (p2 : Int) : Option (Int × Int × Int × Bool) := F3 (GE nE (D8 nE p0 p1 p2) 0) fun _ => some (0, 0, 0, false)
theorem Hp (nE : Nat) (p0 : Int × (List (Int × Int × Int × Int × Int × Int)) × (List (Int × Int))) (p1 : Int) (p2 : Int) : Le (E1 nE p0 p1 p2) (Cu p0 p1 p2) := by
  unfold E1 Cu
  repeat' with_reducible (first | refine Le.orR' ?_ ?_ | refine Le.bind' ?_ ?_ | refine Le.ite' ?_ ?_ | refine Le.loop' ?_ | refine Le.altS' ?_ ?_ | apply Ga | exact Le.rfl' _ | (refine Le.pi2 ?_; intro _) | intro _)
def DI (nE : Nat) (p0 : (Int × (List (Int × Int × Int × Int × Int × Int)) × (List (Int × Int))) × (List (Int × Int × Int × (Int × Int × Int × Int) × Int × Int))) (p1 : Int) (p2 : Int) (p3 : Int) (p4 : Int) (p5 : Int × Int × Int × Int) : Option (Int × ((Int × (List (Int × Int × Int × Int × Int × Int)) × (List (Int × Int))) × (List (Int × Int × Int × (Int × Int × Int × Int) × Int × Int)))) := (E1 nE p0.1 p2 p3).bind fun x1 => (if (!x1.2.2.2) = true then some (7, p0) else (if 256 ≤ (p0.2.length : Int) then some (6, p0) else (ix p0.1.2.1 x1.2.2.1).bind fun x2 => (app p0.2 ([(p4, x1.1, x1.2.1, p5, Ay (p1 + x2.2.2.2.2.1), Ay (p1 + x2.2.2.2.2.2))] : List (Int × Int × Int × (Int × Int × Int × Int) × Int × Int))).bind fun x3 => some (0, (p0.1, x3))))
theorem Fs (nE : Nat) (p0 : (Int × (List (Int × Int × Int × Int × Int × Int)) × (List (Int × Int))) × (List (Int × Int × Int × (Int × Int × Int × Int) × Int × Int))) (p1 : Int) (p2 : Int) (p3 : Int) (p4 : Int) (p5 : Int × Int × Int × Int) : Le (DI nE p0 p1 p2 p3 p4 p5) (B5 p0 p1 p2 p3 p4 p5) := by
  unfold DI B5
  repeat' with_reducible (first | refine Le.orR' ?_ ?_ | refine Le.bind' ?_ ?_ | refine Le.ite' ?_ ?_ | refine Le.loop' ?_ | refine Le.altS' ?_ ?_ | apply Hp | exact Le.rfl' _ | (refine Le.pi2 ?_; intro _) | intro _)
def Dt (nE : Nat) (p0 : (Int × (List (Int × Int × Int × Int × Int × Int)) × (List (Int × Int))) × (List (Int × Int × Int × (Int × Int × Int × Int) × Int × Int))) (p1 : Int) : Option ((Int × Int × Int × (Int × Int × Int × Int) × Int × Int) × Int) := (if (decide (p1 < 0) || decide ((p0.2.length : Int) ≤ p1)) = true then some ((0, 0, 0, (0, 0, 0, 0), 0, 0), 7) else (ix p0.2 p1).bind fun x1 => some (x1, 0))
theorem Fh (nE : Nat) (p0 : (Int × (List (Int × Int × Int × Int × Int × Int)) × (List (Int × Int))) × (List (Int × Int × Int × (Int × Int × Int × Int) × Int × Int))) (p1 : Int) : Le (Dt nE p0 p1) (BQ p0 p1) := by
  unfold Dt BQ
  repeat' with_reducible (first | refine Le.orR' ?_ ?_ | refine Le.bind' ?_ ?_ | refine Le.ite' ?_ ?_ | refine Le.loop' ?_ | refine Le.altS' ?_ ?_ | exact Le.rfl' _ | (refine Le.pi2 ?_; intro _) | intro _)
def B0 (nE : Nat) (p0 : List (Int × Int × Int × (Int × Int × Int × Int) × Int × Int)) (p1 : Int) (p2 : Int) : Option (List (Int × Int × Int × (Int × Int × Int × Int) × Int × Int)) := (C3 p0 p1 p2).bind fun x1 => (if p1 = p2 then some p0 else (C3 p0 0 p1).bind fun x2 => (C3 p0 p2 (p0.length : Int)).bind fun x3 => (HS p0 (x2.length : Int) x3).bind fun x4 => (C3 x4 0 ((x2.length : Int) + (x3.length : Int))).bind fun x5 => (C3 x4 (x5.length : Int) (p0.length : Int)).bind fun x6 => (HS x4 (x5.length : Int) (List.replicate (x6.length) ((0, 0, 0, (0, 0, 0, 0), 0, 0) : Int × Int × Int × (Int × Int × Int × Int) × Int × Int))).bind fun x7 => some x5)
theorem Dh (nE : Nat) (p0 : List (Int × Int × Int × (Int × Int × Int × Int) × Int × Int)) (p1 : Int) (p2 : Int) : Le (B0 nE p0 p1 p2) (A3 p0 p1 p2) := by
  unfold B0 A3
  repeat' with_reducible (first | refine Le.orR' ?_ ?_ | refine Le.bind' ?_ ?_ | refine Le.ite' ?_ ?_ | refine Le.loop' ?_ | refine Le.altS' ?_ ?_ | exact Le.rfl' _ | (refine Le.pi2 ?_; intro _) | intro _)
def CQ (nE : Nat) (p0 : (Int × (List (Int × Int × Int × Int × Int × Int)) × (List (Int × Int))) × (List (Int × Int × Int × (Int × Int × Int × Int) × Int × Int))) (p1 : Int) (p2 : Int) : Option ((Int × Int × Int × (Int × Int × Int × Int) × Int × Int) × Int × ((Int × (List (Int × Int × Int × Int × Int × Int)) × (List (Int × Int))) × (List (Int × Int × Int × (Int × Int × Int × Int) × Int × Int)))) := (Dt nE p0 p2).bind fun x1 => (if x1.2 ≠ 0 then some ((0, 0, 0, (0, 0, 0, 0), 0, 0), x1.2, p0) else (if p1 < x1.1.2.2.2.2.1 then some ((0, 0, 0, (0, 0, 0, 0), 0, 0), 15, p0) else (B0 nE p0.2 p2 (Ay (p2 + 1))).bind fun x2 => some (x1.1, 0, (p0.1, x2))))
theorem Fj (nE : Nat) (p0 : (Int × (List (Int × Int × Int × Int × Int × Int)) × (List (Int × Int))) × (List (Int × Int × Int × (Int × Int × Int × Int) × Int × Int))) (p1 : Int) (p2 : Int) : Le (CQ nE p0 p1 p2) (Bv p0 p1 p2) := by
  unfold CQ Bv
  repeat' with_reducible (first | refine Le.orR' ?_ ?_ | refine Le.bind' ?_ ?_ | refine Le.ite' ?_ ?_ | refine Le.loop' ?_ | refine Le.altS' ?_ ?_ | apply Fh | apply Dh | exact Le.rfl' _ | (refine Le.pi2 ?_; intro _) | intro _)
def Bw (nE : Nat) (p0 : List (Int × Int × Int × (Int × Int × Int × Int) × Int × Int)) : (Int × Int × Int × Int × Int × Int × Int × Int × Int × Int) → Option ((Int × Int × Int × Int × Int × Int × Int × Int × Int × Int) ⊕ (Int × Int × Int × Int × Int × Int × Int × Int × Int))
  | (x11, x12, x13, x14, x15, x16, x17, x18, x19, x20) => (if x11 < (p0.length : Int) then ((ix p0 x11).bind fun x30 => (if (BC x30 (x12, x13, x14, (x15, x16, x17, x18), x19, x20)) < 0 then (ix p0 x11).bind fun x31 => some (x31.1, x31.2.1, x31.2.2.1, x31.2.2.2.1.1, x31.2.2.2.1.2.1, x31.2.2.2.1.2.2.1, x31.2.2.2.1.2.2.2, x31.2.2.2.2.1, x31.2.2.2.2.2) else some (x12, x13, x14, x15, x16, x17, x18, x19, x20))).bind fun (x21, x22, x23, x24, x25, x26, x27, x28, x29) => some (.inl (Ay (x11 + 1), x21, x22, x23, x24, x25, x26, x27, x28, x29)) else some (.inr (x12, x13, x14, x15, x16, x17, x18, x19, x20)))
theorem CV (nE : Nat) (p0 : List (Int × Int × Int × (Int × Int × Int × Int) × Int × Int)) : ∀ s, Le (Bw nE p0 s) (AV p0 s) := by
  rintro ⟨x11, x12, x13, x14, x15, x16, x17, x18, x19, x20⟩
  unfold Bw AV
  repeat' with_reducible (first | refine Le.orR' ?_ ?_ | refine Le.bind' ?_ ?_ | refine Le.ite' ?_ ?_ | refine Le.loop' ?_ | refine Le.altS' ?_ ?_ | exact Le.rfl' _ | (refine Le.pi2 ?_; intro _) | intro _)
def BV (nE : Nat) (p0 : List (Int × Int × Int × (Int × Int × Int × Int) × Int × Int)) : Option (Int × Int × Int × (Int × Int × Int × Int) × Int × Int) := (if (p0.length : Int) < 1 then none else (ix p0 0).bind fun x1 => (GE nE (Bw nE p0) (1, x1.1, x1.2.1, x1.2.2.1, x1.2.2.2.1.1, x1.2.2.2.1.2.1, x1.2.2.2.1.2.2.1, x1.2.2.2.1.2.2.2, x1.2.2.2.2.1, x1.2.2.2.2.2)).bind fun (x2, x3, x4, x5, x6, x7, x8, x9, x10) => some (x2, x3, x4, (x5, x6, x7, x8), x9, x10))
theorem Db (nE : Nat) (p0 : List (Int × Int × Int × (Int × Int × Int × Int) × Int × Int)) : Le (BV nE p0) (AH p0) := by
  unfold BV AH
  repeat' with_reducible (first | refine Le.orR' ?_ ?_ | refine Le.bind' ?_ ?_ | refine Le.ite' ?_ ?_ | refine Le.loop' ?_ | refine Le.altS' ?_ ?_ | apply CV | exact Le.rfl' _ | (refine Le.pi2 ?_; intro _) | intro _)
def CL (nE : Nat) (p0 : (Int × (List (Int × Int × Int × Int × Int × Int)) × (List (Int × Int))) × (List (Int × Int × Int × (Int × Int × Int × Int) × Int × Int))) : Option Int := (if (BN p0) = 0 then some (-1) else (BV nE p0.2).bind fun x1 => some x1.2.2.2.2.2)
theorem Fg (nE : Nat) (p0 : (Int × (List (Int × Int × Int × Int × Int × Int)) × (List (Int × Int))) × (List (Int × Int × Int × (Int × Int × Int × Int) × Int × Int))) : Le (CL nE p0) (BS p0) := by
  unfold CL BS
  repeat' with_reducible (first | refine Le.orR' ?_ ?_ | refine Le.bind' ?_ ?_ | refine Le.ite' ?_ ?_ | refine Le.loop' ?_ | refine Le.altS' ?_ ?_ | apply Db | exact Le.rfl' _ | (refine Le.pi2 ?_; intro _) | intro _)
def FZ (nE : Nat)  : Option Bool := (Fn nE (2, ([(0, 0, 1, 3, 2, 5)] : List (Int × Int × Int × Int × Int × Int)), ([] : List (Int × Int)))).bind fun x1 => H8 x1 (fun x2 => (DI nE x2 10 0 0 7 (1, 0, 0, 0)).bind fun x4 => (CQ nE x4.2 11 0).bind fun x5 => (CL nE x5.2.2).bind fun x6 => (CQ nE x5.2.2 12 0).bind fun x7 => (if x4.1 = 0 then (if x5.2.1 = 15 then (if x6 = 15 then (if x7.2.1 = 0 then (if x7.1.1 = 7 then (if x7.1.2.1 = 1 then (if x7.1.2.2.1 = 3 then (if (BN x7.2.2) = 0 then (CL nE x7.2.2).bind fun x9 => some (decide (x9 = (-1))) else some false) else some false) else some false) else some false) else some false) else some false) else some false) else some false).bind fun x8 => some x8) (fun x3 => some false)
theorem Hi (nE : Nat)  : Le (FZ nE ) (C5 ) := by
  unfold FZ C5
  repeat' with_reducible (first | refine Le.orR' ?_ ?_ | refine Le.bind' ?_ ?_ | refine Le.ite' ?_ ?_ | refine Le.loop' ?_ | refine Le.altS' ?_ ?_ | apply Hu | apply Fs | apply Fj | apply Fg | exact Le.rfl' _ | (refine Le.pi2 ?_; intro _) | intro _)
theorem C4 {fRec fRec' : (List (Int × Int × Int × (Int × Int × Int × Int) × Int × Int)) → Int → Int → Int → Option (List (Int × Int × Int × (Int × Int × Int × Int) × Int × Int))} (hfRec : ∀ a0 a1 a2 a3, Le (fRec a0 a1 a2 a3) (fRec' a0 a1 a2 a3)) (p0 : List (Int × Int × Int × (Int × Int × Int × Int) × Int × Int)) (p1 : Int) (p2 : Int) (p3 : Int) : Le (AF fRec p0 p1 p2 p3) (AF fRec' p0 p1 p2 p3) := by
  unfold AF
  repeat' with_reducible (first | refine Le.orR' ?_ ?_ | refine Le.bind' ?_ ?_ | refine Le.ite' ?_ ?_ | refine Le.loopM ?_ | refine Le.altS' ?_ ?_ | exact hfRec | exact hfRec _ _ _ _ | exact Le.rfl' _ | (refine Le.pi2 ?_; intro _) | intro _)
theorem Ck : ∀ (m : Nat) a0 a1 a2 a3, Le (Au m a0 a1 a2 a3) (Au (m + 1) a0 a1 a2 a3)
  | 0, a0, a1, a2, a3 => fun _ h => nomatch h
  | m + 1, a0, a1, a2, a3 => C4 (Ck m) a0 a1 a2 a3
theorem Gj : C5 = some true := Hi 60 _ (by kernel_rfl)
end Go.Proofs.Ytemacefkdopgaaa
