/- Twins with fuel of Ez functions: what a twin answers, the function answers. Conditions: none. -/
import Derived.Test.YtkjjioigbpkifaacLP
import Derived.Test.YtkjjioigbpkifaacA10
namespace Go.Proofs.Ytkjjioigbpkifaa
open Go Go.RowKit
set_option linter.unusedVariables false
set_option linter.unusedSimpArgs false
set_option maxRecDepth 20000
set_option maxHeartbeats 1600000
abbrev Le {α : Type} (a b : Option α) : Prop := ∀ r, a = some r → b = some r
theorem Le.rfl' {α : Type} (a : Option α) : Le a a := fun _ h => h
theorem Le.bind' {α β : Type} {a b : Option α} {f g : α → Option β} (h : Le a b) (hf : ∀ x, Le (f x) (g x)) : Le (a.bind f) (b.bind g) := fun r e => by
  obtain ⟨x, h1, h2⟩ := Ap e
  rw [h x h1, Option.bind_some]; exact hf x r h2
theorem Le.ite' {α : Type} {c : Prop} [Decidable c] {a a' b b' : Option α} (h1 : Le a a') (h2 : Le b b') : Le (if c then a else b) (if c then a' else b') := fun r e => by
  by_cases h : c
  · rw [if_pos h] at e ⊢; exact h1 r e
  · rw [if_neg h] at e ⊢; exact h2 r e
theorem Le.orR' {α β : Type} {a b : Option (α ⊕ β)} {f g : α → Option β} (h : Le a b) (hf : ∀ x, Le (f x) (g x)) : Le (FB a f) (FB b g) :=
  Le.bind' h fun x => by
    cases x with
    | inl t => exact hf t
    | inr e => exact Le.rfl' _
def EV {σ ε : Type} (n : Nat) (step : σ → Option (σ ⊕ ε)) (s : σ) : Option ε := E4 step n s
theorem IQ {σ ε : Type} {S T : σ → Option (σ ⊕ ε)} (h : ∀ s, Le (S s) (T s)) : ∀ (n : Nat) (s : σ), Le (E4 S n s) (E4 T n s)
  | 0, s => Le.rfl' _
  | n + 1, s => fun r e => by
    unfold E4 at e ⊢
    cases hs : S s with
    | none => rw [hs] at e; cases e
    | some q =>
      rw [hs] at e; rw [h s q hs]
      cases q with
      | inl s' => exact IQ h n s' r e
      | inr _ => exact e
theorem Le.loop' {σ ε : Type} {n : Nat} {S T : σ → Option (σ ⊕ ε)} {s : σ} (h : ∀ s, Le (S s) (T s)) : Le (EV n S s) (A9 T s) := fun r e => FT.2 ⟨n, IQ h n s r e⟩
theorem Le.pi2 {α β γ : Type} {f g : α × β → Option γ} (h : ∀ a b, Le (f (a, b)) (g (a, b))) : ∀ x, Le (f x) (g x) := fun x => h x.1 x.2
theorem Le.altS' {α β γ : Type} {y : α ⊕ β} {f f' : α → Option γ} {g g' : β → Option γ} (h : ∀ x, Le (f x) (f' x)) (k : ∀ x, Le (g x) (g' x)) : Le (OA y f g) (OA y f' g') := by
  cases y with
  | inl x => exact h x
  | inr x => exact k x
def FQ (nE : Nat) (p0 : Int) : Option Int := (if p0 = 0 then some true else (if p0 = 1 then some true else some (decide (p0 = 3)))).bind fun x1 => (if x1 = true then some 8 else (if p0 = 2 then some 4 else some 0))
theorem IV (nE : Nat) (p0 : Int) : Le (FQ nE p0) (DL p0) := by
  unfold FQ DL
  repeat' with_reducible (first | refine Le.orR' ?_ ?_ | refine Le.bind' ?_ ?_ | refine Le.ite' ?_ ?_ | refine Le.loop' ?_ | refine Le.altS' ?_ ?_ | exact Le.rfl' _ | (refine Le.pi2 ?_; intro _) | intro _)
def De (nE : Nat) (p0 : Int) : Option Int := (FQ nE p0).bind fun x1 => (OV (NB .i64 1 x1) x1).bind fun x2 => some (BT (x2 - 1))
theorem EH (nE : Nat) (p0 : Int) : Le (De nE p0) (CM p0) := by
  unfold De CM
  repeat' with_reducible (first | refine Le.orR' ?_ ?_ | refine Le.bind' ?_ ?_ | refine Le.ite' ?_ ?_ | refine Le.loop' ?_ | refine Le.altS' ?_ ?_ | apply IV | exact Le.rfl' _ | (refine Le.pi2 ?_; intro _) | intro _)
def Hf (nE : Nat) (p0 : Int) (p1 : Int) : Option (Int × (Int × Int × Int × Int) × (Int × Int × Int × Int)) := (if p0 < 0 then some true else (if 4 ≤ p0 then some true else (if p1 < 0 then some true else (De nE p0).bind fun x2 => some (decide (x2 < p1))))).bind fun x1 => (if x1 = true then some Ac else (ix ([Ac.2.1.1, Ac.2.1.2.1, Ac.2.1.2.2.1, Ac.2.1.2.2.2] : List Int) p0).bind fun x3 => (De nE p0).bind fun x4 => (ix ([Ac.2.2.1, Ac.2.2.2.1, Ac.2.2.2.2.1, Ac.2.2.2.2.2] : List Int) p0).bind fun x5 => some (Ac.1, ((if p0 = 0 then p1 else Ac.2.1.1), (if p0 = 1 then p1 else Ac.2.1.2.1), (if p0 = 2 then p1 else Ac.2.1.2.2.1), (if p0 = 3 then p1 else Ac.2.1.2.2.2)), ((if p0 = 0 then x4 else Ac.2.2.1), (if p0 = 1 then x4 else Ac.2.2.2.1), (if p0 = 2 then x4 else Ac.2.2.2.2.1), (if p0 = 3 then x4 else Ac.2.2.2.2.2))))
theorem Ke (nE : Nat) (p0 : Int) (p1 : Int) : Le (Hf nE p0 p1) (GC p0 p1) := by
  unfold Hf GC
  repeat' with_reducible (first | refine Le.orR' ?_ ?_ | refine Le.bind' ?_ ?_ | refine Le.ite' ?_ ?_ | refine Le.loop' ?_ | refine Le.altS' ?_ ?_ | apply EH | exact Le.rfl' _ | (refine Le.pi2 ?_; intro _) | intro _)
def F6 (nE : Nat) (p0 : Int) (p1 : Int) (p2 : Int) (p3 : Int) : Option (Int × (Int × (Int × Int × Int × Int) × (Int × Int × Int × Int)) × (List (Int × Int × Int))) := (Hf nE p0 p1).bind fun x1 => some (p2, x1, ([(2, 0, p3)] : List (Int × Int × Int)))
theorem Ja (nE : Nat) (p0 : Int) (p1 : Int) (p2 : Int) (p3 : Int) : Le (F6 nE p0 p1 p2 p3) (Fm p0 p1 p2 p3) := by
  unfold F6 Fm
  repeat' with_reducible (first | refine Le.orR' ?_ ?_ | refine Le.bind' ?_ ?_ | refine Le.ite' ?_ ?_ | refine Le.loop' ?_ | refine Le.altS' ?_ ?_ | apply Ke | exact Le.rfl' _ | (refine Le.pi2 ?_; intro _) | intro _)
def Cu (nE : Nat) (p0 : List (Int × Int × Int)) : Option (List (Int × Int × Int)) := (Js ([] : List (Int × Int × Int)) p0).bind fun x1 => some x1
theorem Ep (nE : Nat) (p0 : List (Int × Int × Int)) : Le (Cu nE p0) (Bw p0) := by
  unfold Cu Bw
  repeat' with_reducible (first | refine Le.orR' ?_ ?_ | refine Le.bind' ?_ ?_ | refine Le.ite' ?_ ?_ | refine Le.loop' ?_ | refine Le.altS' ?_ ?_ | exact Le.rfl' _ | (refine Le.pi2 ?_; intro _) | intro _)
def Cw (nE : Nat) (p0 : Int × (Int × (Int × Int × Int × Int) × (Int × Int × Int × Int)) × (List (Int × Int × Int))) : Option (Int × (Int × (Int × Int × Int × Int) × (Int × Int × Int × Int)) × (List (Int × Int × Int))) := (Cu nE p0.2.2).bind fun x1 => some (p0.1, p0.2.1, x1)
theorem CY (nE : Nat) (p0 : Int × (Int × (Int × Int × Int × Int) × (Int × Int × Int × Int)) × (List (Int × Int × Int))) : Le (Cw nE p0) (BF p0) := by
  unfold Cw BF
  repeat' with_reducible (first | refine Le.orR' ?_ ?_ | refine Le.bind' ?_ ?_ | refine Le.ite' ?_ ?_ | refine Le.loop' ?_ | refine Le.altS' ?_ ?_ | apply Ep | exact Le.rfl' _ | (refine Le.pi2 ?_; intro _) | intro _)
def Eh (nE : Nat) (p0 : List (Int × (Int × (Int × Int × Int × Int) × (Int × Int × Int × Int)) × (List (Int × Int × Int)))) (x1 : List (Int × (Int × (Int × Int × Int × Int) × (Int × Int × Int × Int)) × (List (Int × Int × Int)))) : ((List (Int × (Int × (Int × Int × Int × Int) × (Int × Int × Int × Int)) × (List (Int × Int × Int)))) × Int) → Option (((List (Int × (Int × (Int × Int × Int × Int) × (Int × Int × Int × Int)) × (List (Int × Int × Int)))) × Int) ⊕ (List (Int × (Int × (Int × Int × Int × Int) × (Int × Int × Int × Int)) × (List (Int × Int × Int)))))
  | (x3, x4) => (if x4 < ((Hd x1 0 (min p0.length x1.length) p0).length : Int) then (ix x3 x4).bind fun x5 => (Cw nE x5).bind fun x6 => (ix x3 x4).bind fun x7 => some (.inl ((DH x3 x4 x6), BT (x4 + 1))) else some (.inr x3))
theorem Hb (nE : Nat) (p0 : List (Int × (Int × (Int × Int × Int × Int) × (Int × Int × Int × Int)) × (List (Int × Int × Int)))) (x1 : List (Int × (Int × (Int × Int × Int × Int) × (Int × Int × Int × Int)) × (List (Int × Int × Int)))) : ∀ s, Le (Eh nE p0 x1 s) (CQ p0 x1 s) := by
  rintro ⟨x3, x4⟩
  unfold Eh CQ
  repeat' with_reducible (first | refine Le.orR' ?_ ?_ | refine Le.bind' ?_ ?_ | refine Le.ite' ?_ ?_ | refine Le.loop' ?_ | refine Le.altS' ?_ ?_ | apply CY | exact Le.rfl' _ | (refine Le.pi2 ?_; intro _) | intro _)
def DC (nE : Nat) (p0 : List (Int × (Int × (Int × Int × Int × Int) × (Int × Int × Int × Int)) × (List (Int × Int × Int)))) : Option (List (Int × (Int × (Int × Int × Int × Int) × (Int × Int × Int × Int)) × (List (Int × Int × Int)))) := (mk (p0.length : Int) ((0, (0, (0, 0, 0, 0), (0, 0, 0, 0)), []) : Int × (Int × (Int × Int × Int × Int) × (Int × Int × Int × Int)) × (List (Int × Int × Int)))).bind fun x1 => (EV nE (Eh nE p0 x1) (Hd x1 0 (min p0.length x1.length) p0, 0)).bind fun x2 => some x2
theorem EX (nE : Nat) (p0 : List (Int × (Int × (Int × Int × Int × Int) × (Int × Int × Int × Int)) × (List (Int × Int × Int)))) : Le (DC nE p0) (CG p0) := by
  unfold DC CG
  repeat' with_reducible (first | refine Le.orR' ?_ ?_ | refine Le.bind' ?_ ?_ | refine Le.ite' ?_ ?_ | refine Le.loop' ?_ | refine Le.altS' ?_ ?_ | apply Hb | exact Le.rfl' _ | (refine Le.pi2 ?_; intro _) | intro _)
def Ey (nE : Nat) (p0 : Int × (Int × Int × Int × Int) × (Int × Int × Int × Int)) : Int → Option (Int ⊕ (Unit ⊕ Bool))
  | x1 => (if x1 < 4 then (ix ([p0.2.2.1, p0.2.2.2.1, p0.2.2.2.2.1, p0.2.2.2.2.2] : List Int) x1).bind fun x2 => (if x2 < 0 then some true else (De nE x1).bind fun x4 => (if x4 < x2 then some true else (ix ([p0.2.1.1, p0.2.1.2.1, p0.2.1.2.2.1, p0.2.1.2.2.2] : List Int) x1).bind fun x5 => (if x5 < 0 then some true else (ix ([p0.2.1.1, p0.2.1.2.1, p0.2.1.2.2.1, p0.2.1.2.2.2] : List Int) x1).bind fun x6 => some (decide ((FF .i64 x6 x2) ≠ 0))))).bind fun x3 => (if x3 = true then some (.inr (.inr false)) else some (.inl (BT (x1 + 1)))) else some (.inr (.inl ())))
theorem Hi (nE : Nat) (p0 : Int × (Int × Int × Int × Int) × (Int × Int × Int × Int)) : ∀ s, Le (Ey nE p0 s) (C4 p0 s) := by
  intro x1
  unfold Ey C4
  repeat' with_reducible (first | refine Le.orR' ?_ ?_ | refine Le.bind' ?_ ?_ | refine Le.ite' ?_ ?_ | refine Le.loop' ?_ | refine Le.altS' ?_ ?_ | apply EH | exact Le.rfl' _ | (refine Le.pi2 ?_; intro _) | intro _)
def FP (nE : Nat) (p0 : Int × (Int × Int × Int × Int) × (Int × Int × Int × Int)) : Option Bool := (if (decide (p0.1 ≠ (-1)) && (decide (p0.1 < 0) || decide (8 ≤ p0.1))) = true then some false else FB (EV nE (Ey nE p0) 0) fun _ => some true)
theorem IR (nE : Nat) (p0 : Int × (Int × Int × Int × Int) × (Int × Int × Int × Int)) : Le (FP nE p0) (DG p0) := by
  unfold FP DG
  repeat' with_reducible (first | refine Le.orR' ?_ ?_ | refine Le.bind' ?_ ?_ | refine Le.ite' ?_ ?_ | refine Le.loop' ?_ | refine Le.altS' ?_ ?_ | apply Hi | exact Le.rfl' _ | (refine Le.pi2 ?_; intro _) | intro _)
def Gz (nE : Nat) (p0 : Int × Int × Int) (p1 : Int) : Option Bool := (if p0.1 = 1 then (if 0 ≤ p0.2.1 then (if p0.2.1 < 4 then (if 0 ≤ p0.2.2 then (De nE p0.2.1).bind fun x2 => some (decide (p0.2.2 ≤ x2)) else some false) else some false) else some false).bind fun x1 => some x1 else (if p0.1 = 2 then some (decide (p0.2.1 = 0) && (decide (0 ≤ p0.2.2) && decide (p0.2.2 < p1))) else (if p0.1 = 3 then some (decide (p0.2.1 = 0) && decide (p0.2.2 = 0)) else some false)))
theorem JR (nE : Nat) (p0 : Int × Int × Int) (p1 : Int) : Le (Gz nE p0 p1) (EB p0 p1) := by
  unfold Gz EB
  repeat' with_reducible (first | refine Le.orR' ?_ ?_ | refine Le.bind' ?_ ?_ | refine Le.ite' ?_ ?_ | refine Le.loop' ?_ | refine Le.altS' ?_ ?_ | apply EH | exact Le.rfl' _ | (refine Le.pi2 ?_; intro _) | intro _)
def Fh (nE : Nat) (p0 : List (Int × Int × Int)) (p1 : Int) : Int → Option (Int ⊕ (Unit ⊕ Bool))
  | x1 => (if x1 < (p0.length : Int) then (ix p0 x1).bind fun x2 => (Gz nE x2 p1).bind fun x3 => (if (!x3) = true then some (.inr (.inr false)) else some (.inl (BT (x1 + 1)))) else some (.inr (.inl ())))
theorem Il (nE : Nat) (p0 : List (Int × Int × Int)) (p1 : Int) : ∀ s, Le (Fh nE p0 p1 s) (DT p0 p1 s) := by
  intro x1
  unfold Fh DT
  repeat' with_reducible (first | refine Le.orR' ?_ ?_ | refine Le.bind' ?_ ?_ | refine Le.ite' ?_ ?_ | refine Le.loop' ?_ | refine Le.altS' ?_ ?_ | apply JR | exact Le.rfl' _ | (refine Le.pi2 ?_; intro _) | intro _)
def Gy (nE : Nat) (p0 : List (Int × Int × Int)) (p1 : Int) : Option Bool := (if 16 < (p0.length : Int) then some false else FB (EV nE (Fh nE p0 p1) 0) fun _ => some true)
theorem JN (nE : Nat) (p0 : List (Int × Int × Int)) (p1 : Int) : Le (Gy nE p0 p1) (EA p0 p1) := by
  unfold Gy EA
  repeat' with_reducible (first | refine Le.orR' ?_ ?_ | refine Le.bind' ?_ ?_ | refine Le.ite' ?_ ?_ | refine Le.loop' ?_ | refine Le.altS' ?_ ?_ | apply Il | exact Le.rfl' _ | (refine Le.pi2 ?_; intro _) | intro _)
def F9 (nE : Nat) (p0 : Int × (Int × (Int × Int × Int × Int) × (Int × Int × Int × Int)) × (List (Int × Int × Int))) (p1 : Int) : Option Bool := (if 0 ≤ p0.1 then (if p0.1 < 65536 then (FP nE p0.2.1).bind fun x2 => (if x2 = true then (Gy nE p0.2.2 p1).bind fun x3 => some x3 else some false) else some false) else some false).bind fun x1 => some x1
theorem Jl (nE : Nat) (p0 : Int × (Int × (Int × Int × Int × Int) × (Int × Int × Int × Int)) × (List (Int × Int × Int))) (p1 : Int) : Le (F9 nE p0 p1) (Dx p0 p1) := by
  unfold F9 Dx
  repeat' with_reducible (first | refine Le.orR' ?_ ?_ | refine Le.bind' ?_ ?_ | refine Le.ite' ?_ ?_ | refine Le.loop' ?_ | refine Le.altS' ?_ ?_ | apply IR | apply JN | exact Le.rfl' _ | (refine Le.pi2 ?_; intro _) | intro _)
def EW (nE : Nat) (p1 : Int × (Int × Int × Int × Int) × (Int × Int × Int × Int)) : (Int × Int × Int × Int × Int × Int × Int × Int × Int) → Option ((Int × Int × Int × Int × Int × Int × Int × Int × Int) ⊕ ((Int × Int × Int × Int × Int × Int × Int × Int) ⊕ ((Int × (Int × Int × Int × Int) × (Int × Int × Int × Int)) × Bool)))
  | (x10, x11, x12, x13, x14, x15, x16, x17, x18) => (if x10 < 4 then (ix ([x11, x12, x13, x14] : List Int) x10).bind fun x19 => (ix ([p1.2.1.1, p1.2.1.2.1, p1.2.1.2.2.1, p1.2.1.2.2.2] : List Int) x10).bind fun x20 => (ix ([x15, x16, x17, x18] : List Int) x10).bind fun x21 => (ix ([p1.2.2.1, p1.2.2.2.1, p1.2.2.2.2.1, p1.2.2.2.2.2] : List Int) x10).bind fun x22 => (if (HT .i64 (HT .i64 (JK .i64 x19 x20) x21) x22) ≠ 0 then some (.inr (.inr ((0, (0, 0, 0, 0), (0, 0, 0, 0)), false))) else (ix ([x11, x12, x13, x14] : List Int) x10).bind fun x23 => (ix ([p1.2.1.1, p1.2.1.2.1, p1.2.1.2.2.1, p1.2.1.2.2.2] : List Int) x10).bind fun x24 => (ix ([x11, x12, x13, x14] : List Int) x10).bind fun x25 => (ix ([x15, x16, x17, x18] : List Int) x10).bind fun x26 => (ix ([p1.2.2.1, p1.2.2.2.1, p1.2.2.2.2.1, p1.2.2.2.2.2] : List Int) x10).bind fun x27 => (ix ([x15, x16, x17, x18] : List Int) x10).bind fun x28 => some (.inl (BT (x10 + 1), (if x10 = 0 then Fe .i64 x23 x24 else x11), (if x10 = 1 then Fe .i64 x23 x24 else x12), (if x10 = 2 then Fe .i64 x23 x24 else x13), (if x10 = 3 then Fe .i64 x23 x24 else x14), (if x10 = 0 then Fe .i64 x26 x27 else x15), (if x10 = 1 then Fe .i64 x26 x27 else x16), (if x10 = 2 then Fe .i64 x26 x27 else x17), (if x10 = 3 then Fe .i64 x26 x27 else x18)))) else some (.inr (.inl (x11, x12, x13, x14, x15, x16, x17, x18))))
theorem HM (nE : Nat) (p1 : Int × (Int × Int × Int × Int) × (Int × Int × Int × Int)) : ∀ s, Le (EW nE p1 s) (CI p1 s) := by
  rintro ⟨x10, x11, x12, x13, x14, x15, x16, x17, x18⟩
  unfold EW CI
  repeat' with_reducible (first | refine Le.orR' ?_ ?_ | refine Le.bind' ?_ ?_ | refine Le.ite' ?_ ?_ | refine Le.loop' ?_ | refine Le.altS' ?_ ?_ | exact Le.rfl' _ | (refine Le.pi2 ?_; intro _) | intro _)
def E9 (nE : Nat) (p0 : Int × (Int × Int × Int × Int) × (Int × Int × Int × Int)) (p1 : Int × (Int × Int × Int × Int) × (Int × Int × Int × Int)) : Option ((Int × (Int × Int × Int × Int) × (Int × Int × Int × Int)) × Bool) := (if p0.1 = (-1) then some p1.1 else some p0.1).bind fun x1 => (if (decide (p1.1 ≠ (-1)) && decide (x1 ≠ p1.1)) = true then some ((0, (0, 0, 0, 0), (0, 0, 0, 0)), false) else FB (EV nE (EW nE p1) (0, p0.2.1.1, p0.2.1.2.1, p0.2.1.2.2.1, p0.2.1.2.2.2, p0.2.2.1, p0.2.2.2.1, p0.2.2.2.2.1, p0.2.2.2.2.2)) fun (x2, x3, x4, x5, x6, x7, x8, x9) => some ((x1, (x2, x3, x4, x5), (x6, x7, x8, x9)), true))
theorem GY (nE : Nat) (p0 : Int × (Int × Int × Int × Int) × (Int × Int × Int × Int)) (p1 : Int × (Int × Int × Int × Int) × (Int × Int × Int × Int)) : Le (E9 nE p0 p1) (DI p0 p1) := by
  unfold E9 DI
  repeat' with_reducible (first | refine Le.orR' ?_ ?_ | refine Le.bind' ?_ ?_ | refine Le.ite' ?_ ?_ | refine Le.loop' ?_ | refine Le.altS' ?_ ?_ | apply HM | exact Le.rfl' _ | (refine Le.pi2 ?_; intro _) | intro _)
def EY (nE : Nat) (p0 : Int × (Int × (Int × Int × Int × Int) × (Int × Int × Int × Int)) × (List (Int × Int × Int))) (p1 : Int × (Int × (Int × Int × Int × Int) × (Int × Int × Int × Int)) × (List (Int × Int × Int))) : Option Bool := (E9 nE p0.2.1 p1.2.1).bind fun x1 => some (decide (p0.1 = p1.1) && (!(decide (p0.2.1.1 = p1.2.1.1 ∧ p0.2.1.2.1.1 = p1.2.1.2.1.1 ∧ p0.2.1.2.1.2.1 = p1.2.1.2.1.2.1 ∧ p0.2.1.2.1.2.2.1 = p1.2.1.2.1.2.2.1 ∧ p0.2.1.2.1.2.2.2 = p1.2.1.2.1.2.2.2 ∧ p0.2.1.2.2.1 = p1.2.1.2.2.1 ∧ p0.2.1.2.2.2.1 = p1.2.1.2.2.2.1 ∧ p0.2.1.2.2.2.2.1 = p1.2.1.2.2.2.2.1 ∧ p0.2.1.2.2.2.2.2 = p1.2.1.2.2.2.2.2)) && x1.2))
theorem HR (nE : Nat) (p0 : Int × (Int × (Int × Int × Int × Int) × (Int × Int × Int × Int)) × (List (Int × Int × Int))) (p1 : Int × (Int × (Int × Int × Int × Int) × (Int × Int × Int × Int)) × (List (Int × Int × Int))) : Le (EY nE p0 p1) (CV p0 p1) := by
  unfold EY CV
  repeat' with_reducible (first | refine Le.orR' ?_ ?_ | refine Le.bind' ?_ ?_ | refine Le.ite' ?_ ?_ | refine Le.loop' ?_ | refine Le.altS' ?_ ?_ | apply GY | exact Le.rfl' _ | (refine Le.pi2 ?_; intro _) | intro _)
def FN (nE : Nat) (p0 : Int × (Int × (Int × Int × Int × Int) × (Int × Int × Int × Int)) × (List (Int × Int × Int))) (p1 : Int × (Int × (Int × (Int × Int × Int × Int) × (Int × Int × Int × Int)) × (List (Int × Int × Int))) × Bool) : Option Bool := (EY nE p0 p1.2.1).bind fun x1 => some x1
theorem IY (nE : Nat) (p0 : Int × (Int × (Int × Int × Int × Int) × (Int × Int × Int × Int)) × (List (Int × Int × Int))) (p1 : Int × (Int × (Int × (Int × Int × Int × Int) × (Int × Int × Int × Int)) × (List (Int × Int × Int))) × Bool) : Le (FN nE p0 p1) (D5 p0 p1) := by
  unfold FN D5
  repeat' with_reducible (first | refine Le.orR' ?_ ?_ | refine Le.bind' ?_ ?_ | refine Le.ite' ?_ ?_ | refine Le.loop' ?_ | refine Le.altS' ?_ ?_ | apply HR | exact Le.rfl' _ | (refine Le.pi2 ?_; intro _) | intro _)
def BZ (nE : Nat) (p0 : List (Int × (Int × (Int × Int × Int × Int) × (Int × Int × Int × Int)) × (List (Int × Int × Int)))) (p1c0 : Int × (Int × (Int × (Int × Int × Int × Int) × (Int × Int × Int × Int)) × (List (Int × Int × Int))) × Bool) : Int → Option (Int ⊕ (Unit ⊕ Int))
  | x1 => (if x1 < (p0.length : Int) then (ix p0 x1).bind fun x2 => (FN nE x2 p1c0).bind fun x3 => (if x3 = true then some (.inr (.inr x1)) else some (.inl (BT (x1 + 1)))) else some (.inr (.inl ())))
theorem Dm (nE : Nat) (p0 : List (Int × (Int × (Int × Int × Int × Int) × (Int × Int × Int × Int)) × (List (Int × Int × Int)))) (p1c0 : Int × (Int × (Int × (Int × Int × Int × Int) × (Int × Int × Int × Int)) × (List (Int × Int × Int))) × Bool) : ∀ s, Le (BZ nE p0 p1c0 s) (A2 p0 p1c0 s) := by
  intro x1
  unfold BZ A2
  repeat' with_reducible (first | refine Le.orR' ?_ ?_ | refine Le.bind' ?_ ?_ | refine Le.ite' ?_ ?_ | refine Le.loop' ?_ | refine Le.altS' ?_ ?_ | apply IY | exact Le.rfl' _ | (refine Le.pi2 ?_; intro _) | intro _)
def B8 (nE : Nat) (p0 : List (Int × (Int × (Int × Int × Int × Int) × (Int × Int × Int × Int)) × (List (Int × Int × Int)))) (p1c0 : Int × (Int × (Int × (Int × Int × Int × Int) × (Int × Int × Int × Int)) × (List (Int × Int × Int))) × Bool) : Option Int := FB (EV nE (BZ nE p0 p1c0) 0) fun _ => some (-1)
theorem DM (nE : Nat) (p0 : List (Int × (Int × (Int × Int × Int × Int) × (Int × Int × Int × Int)) × (List (Int × Int × Int)))) (p1c0 : Int × (Int × (Int × (Int × Int × Int × Int) × (Int × Int × Int × Int)) × (List (Int × Int × Int))) × Bool) : Le (B8 nE p0 p1c0) (A8 p0 p1c0) := by
  unfold B8 A8
  repeat' with_reducible (first | refine Le.orR' ?_ ?_ | refine Le.bind' ?_ ?_ | refine Le.ite' ?_ ?_ | refine Le.loop' ?_ | refine Le.altS' ?_ ?_ | apply Dm | exact Le.rfl' _ | (refine Le.pi2 ?_; intro _) | intro _)
def BW (nE : Nat) (p0 : List (Int × (Int × (Int × Int × Int × Int) × (Int × Int × Int × Int)) × (List (Int × Int × Int)))) (p1c0 : Int × (Int × (Int × (Int × Int × Int × Int) × (Int × Int × Int × Int)) × (List (Int × Int × Int))) × Bool) : Option Bool := (B8 nE p0 p1c0).bind fun x1 => some (decide (0 ≤ x1))
theorem Dn (nE : Nat) (p0 : List (Int × (Int × (Int × Int × Int × Int) × (Int × Int × Int × Int)) × (List (Int × Int × Int)))) (p1c0 : Int × (Int × (Int × (Int × Int × Int × Int) × (Int × Int × Int × Int)) × (List (Int × Int × Int))) × Bool) : Le (BW nE p0 p1c0) (AN p0 p1c0) := by
  unfold BW AN
  repeat' with_reducible (first | refine Le.orR' ?_ ?_ | refine Le.bind' ?_ ?_ | refine Le.ite' ?_ ?_ | refine Le.loop' ?_ | refine Le.altS' ?_ ?_ | apply DM | exact Le.rfl' _ | (refine Le.pi2 ?_; intro _) | intro _)
def BN (nE : Nat) (p0 : List (Int × (Int × (Int × Int × Int × Int) × (Int × Int × Int × Int)) × (List (Int × Int × Int)))) (p1c0 : Int × (Int × (Int × Int × Int × Int) × (Int × Int × Int × Int)) × (List (Int × Int × Int))) : Int → Option (Int ⊕ (Unit ⊕ Int))
  | x1 => (if x1 < (p0.length : Int) then (ix p0 x1).bind fun x2 => (if (BR x2 p1c0) = true then some (.inr (.inr x1)) else some (.inl (BT (x1 + 1)))) else some (.inr (.inl ())))
theorem Dd (nE : Nat) (p0 : List (Int × (Int × (Int × Int × Int × Int) × (Int × Int × Int × Int)) × (List (Int × Int × Int)))) (p1c0 : Int × (Int × (Int × Int × Int × Int) × (Int × Int × Int × Int)) × (List (Int × Int × Int))) : ∀ s, Le (BN nE p0 p1c0 s) (AX p0 p1c0 s) := by
  intro x1
  unfold BN AX
  repeat' with_reducible (first | refine Le.orR' ?_ ?_ | refine Le.bind' ?_ ?_ | refine Le.ite' ?_ ?_ | refine Le.loop' ?_ | refine Le.altS' ?_ ?_ | exact Le.rfl' _ | (refine Le.pi2 ?_; intro _) | intro _)
def Bx (nE : Nat) (p0 : List (Int × (Int × (Int × Int × Int × Int) × (Int × Int × Int × Int)) × (List (Int × Int × Int)))) (p1c0 : Int × (Int × (Int × Int × Int × Int) × (Int × Int × Int × Int)) × (List (Int × Int × Int))) : Option Int := FB (EV nE (BN nE p0 p1c0) 0) fun _ => some (-1)
theorem Cx (nE : Nat) (p0 : List (Int × (Int × (Int × Int × Int × Int) × (Int × Int × Int × Int)) × (List (Int × Int × Int)))) (p1c0 : Int × (Int × (Int × Int × Int × Int) × (Int × Int × Int × Int)) × (List (Int × Int × Int))) : Le (Bx nE p0 p1c0) (AO p0 p1c0) := by
  unfold Bx AO
  repeat' with_reducible (first | refine Le.orR' ?_ ?_ | refine Le.bind' ?_ ?_ | refine Le.ite' ?_ ?_ | refine Le.loop' ?_ | refine Le.altS' ?_ ?_ | apply Dd | exact Le.rfl' _ | (refine Le.pi2 ?_; intro _) | intro _)
def Be (nE : Nat) (p0 : List (Int × (Int × (Int × Int × Int × Int) × (Int × Int × Int × Int)) × (List (Int × Int × Int)))) (p1c0 : Int × (Int × (Int × Int × Int × Int) × (Int × Int × Int × Int)) × (List (Int × Int × Int))) : Option Bool := (Bx nE p0 p1c0).bind fun x1 => some (decide (0 ≤ x1))
theorem Cm (nE : Nat) (p0 : List (Int × (Int × (Int × Int × Int × Int) × (Int × Int × Int × Int)) × (List (Int × Int × Int)))) (p1c0 : Int × (Int × (Int × Int × Int × Int) × (Int × Int × Int × Int)) × (List (Int × Int × Int))) : Le (Be nE p0 p1c0) (AB p0 p1c0) := by
  unfold Be AB
  repeat' with_reducible (first | refine Le.orR' ?_ ?_ | refine Le.bind' ?_ ?_ | refine Le.ite' ?_ ?_ | refine Le.loop' ?_ | refine Le.altS' ?_ ?_ | apply Cx | exact Le.rfl' _ | (refine Le.pi2 ?_; intro _) | intro _)
def D0 (nE : Nat) (p0 : List (Int × (Int × (Int × Int × Int × Int) × (Int × Int × Int × Int)) × (List (Int × Int × Int)))) (p1 : Int × (Int × (Int × Int × Int × Int) × (Int × Int × Int × Int)) × (List (Int × Int × Int))) (p2c0 : Int × (Int × (Int × Int × Int × Int) × (Int × Int × Int × Int)) × (List (Int × Int × Int))) : ((List (Int × (Int × (Int × Int × Int × Int) × (Int × Int × Int × Int)) × (List (Int × Int × Int)))) × Int) → Option (((List (Int × (Int × (Int × Int × Int × Int) × (Int × Int × Int × Int)) × (List (Int × Int × Int)))) × Int) ⊕ (List (Int × (Int × (Int × Int × Int × Int) × (Int × Int × Int × Int)) × (List (Int × Int × Int)))))
  | (x2, x3) => (if x3 < (p0.length : Int) then ((ix x2 x3).bind fun x5 => (if (BR x5 p2c0) = true then (Cw nE p1).bind fun x6 => (ix x2 x3).bind fun x7 => some (DH x2 x3 (x7.1, x7.2.1, x6.2.2)) else some x2)).bind fun x4 => some (.inl (x4, BT (x3 + 1))) else some (.inr x2))
theorem GQ (nE : Nat) (p0 : List (Int × (Int × (Int × Int × Int × Int) × (Int × Int × Int × Int)) × (List (Int × Int × Int)))) (p1 : Int × (Int × (Int × Int × Int × Int) × (Int × Int × Int × Int)) × (List (Int × Int × Int))) (p2c0 : Int × (Int × (Int × Int × Int × Int) × (Int × Int × Int × Int)) × (List (Int × Int × Int))) : ∀ s, Le (D0 nE p0 p1 p2c0 s) (CJ p0 p1 p2c0 s) := by
  rintro ⟨x2, x3⟩
  unfold D0 CJ
  repeat' with_reducible (first | refine Le.orR' ?_ ?_ | refine Le.bind' ?_ ?_ | refine Le.ite' ?_ ?_ | refine Le.loop' ?_ | refine Le.altS' ?_ ?_ | apply CY | exact Le.rfl' _ | (refine Le.pi2 ?_; intro _) | intro _)
def DY (nE : Nat) (p0 : List (Int × (Int × (Int × Int × Int × Int) × (Int × Int × Int × Int)) × (List (Int × Int × Int)))) (p1 : Int × (Int × (Int × Int × Int × Int) × (Int × Int × Int × Int)) × (List (Int × Int × Int))) (p2c0 : Int × (Int × (Int × Int × Int × Int) × (Int × Int × Int × Int)) × (List (Int × Int × Int))) : Option (List (Int × (Int × (Int × Int × Int × Int) × (Int × Int × Int × Int)) × (List (Int × Int × Int)))) := (EV nE (D0 nE p0 p1 p2c0) (p0, 0)).bind fun x1 => some x1
theorem FU (nE : Nat) (p0 : List (Int × (Int × (Int × Int × Int × Int) × (Int × Int × Int × Int)) × (List (Int × Int × Int)))) (p1 : Int × (Int × (Int × Int × Int × Int) × (Int × Int × Int × Int)) × (List (Int × Int × Int))) (p2c0 : Int × (Int × (Int × Int × Int × Int) × (Int × Int × Int × Int)) × (List (Int × Int × Int))) : Le (DY nE p0 p1 p2c0) (Cj p0 p1 p2c0) := by
  unfold DY Cj
  repeat' with_reducible (first | refine Le.orR' ?_ ?_ | refine Le.bind' ?_ ?_ | refine Le.ite' ?_ ?_ | refine Le.loop' ?_ | refine Le.altS' ?_ ?_ | apply GQ | exact Le.rfl' _ | (refine Le.pi2 ?_; intro _) | intro _)
def BQ (nE : Nat) (p0 : List (Int × (Int × (Int × Int × Int × Int) × (Int × Int × Int × Int)) × (List (Int × Int × Int)))) (p1c0 : Int × (Int × (Int × (Int × Int × Int × Int) × (Int × Int × Int × Int)) × (List (Int × Int × Int))) × Bool) : Int → Option (Int ⊕ (Unit ⊕ Int))
  | x1 => (if x1 < (p0.length : Int) then (ix p0 x1).bind fun x2 => (if (ET x2 p1c0) = true then some (.inr (.inr x1)) else some (.inl (BT (x1 + 1)))) else some (.inr (.inl ())))
theorem Dg (nE : Nat) (p0 : List (Int × (Int × (Int × Int × Int × Int) × (Int × Int × Int × Int)) × (List (Int × Int × Int)))) (p1c0 : Int × (Int × (Int × (Int × Int × Int × Int) × (Int × Int × Int × Int)) × (List (Int × Int × Int))) × Bool) : ∀ s, Le (BQ nE p0 p1c0 s) (AW p0 p1c0 s) := by
  intro x1
  unfold BQ AW
  repeat' with_reducible (first | refine Le.orR' ?_ ?_ | refine Le.bind' ?_ ?_ | refine Le.ite' ?_ ?_ | refine Le.loop' ?_ | refine Le.altS' ?_ ?_ | exact Le.rfl' _ | (refine Le.pi2 ?_; intro _) | intro _)
def B1 (nE : Nat) (p0 : List (Int × (Int × (Int × Int × Int × Int) × (Int × Int × Int × Int)) × (List (Int × Int × Int)))) (p1c0 : Int × (Int × (Int × (Int × Int × Int × Int) × (Int × Int × Int × Int)) × (List (Int × Int × Int))) × Bool) : Option Int := FB (EV nE (BQ nE p0 p1c0) 0) fun _ => some (-1)
theorem Dr (nE : Nat) (p0 : List (Int × (Int × (Int × Int × Int × Int) × (Int × Int × Int × Int)) × (List (Int × Int × Int)))) (p1c0 : Int × (Int × (Int × (Int × Int × Int × Int) × (Int × Int × Int × Int)) × (List (Int × Int × Int))) × Bool) : Le (B1 nE p0 p1c0) (AP p0 p1c0) := by
  unfold B1 AP
  repeat' with_reducible (first | refine Le.orR' ?_ ?_ | refine Le.bind' ?_ ?_ | refine Le.ite' ?_ ?_ | refine Le.loop' ?_ | refine Le.altS' ?_ ?_ | apply Dg | exact Le.rfl' _ | (refine Le.pi2 ?_; intro _) | intro _)
def Cg (nE : Nat) (p0 : List (Int × (Int × (Int × Int × Int × Int) × (Int × Int × Int × Int)) × (List (Int × Int × Int)))) (p1 : Int) (p2 : List (Int × (Int × (Int × Int × Int × Int) × (Int × Int × Int × Int)) × (List (Int × Int × Int)))) : Option (List (Int × (Int × (Int × Int × Int × Int) × (Int × Int × Int × Int)) × (List (Int × Int × Int)))) := (DR p0 p1 (p0.length : Int)).bind fun x1 => (if (p2.length : Int) = 0 then some p0 else (if p1 = (p0.length : Int) then (NK p0.length (p0.length + p2.length)).bind fun x2 => (Js p0 p2).bind fun x3 => some x3 else (if ((p0.length : Nat) : Int) < (BT ((p0.length : Int) + (p2.length : Int))) then (DR p0 0 p1).bind fun x4 => (mk (BT ((BT ((p0.length : Int) + (p2.length : Int))) - p1)) ((0, (0, (0, 0, 0, 0), (0, 0, 0, 0)), []) : Int × (Int × (Int × Int × Int × Int) × (Int × Int × Int × Int)) × (List (Int × Int × Int)))).bind fun x5 => (NK p0.length (x4.length + (BT ((BT ((p0.length : Int) + (p2.length : Int))) - p1)).toNat)).bind fun x6 => (Js x4 x5).bind fun x7 => (DR x7 p1 (x7.length : Int)).bind fun x8 => (DR (Hd x7 p1 (min p2.length x8.length) p2) (BT (p1 + (p2.length : Int))) ((Hd x7 p1 (min p2.length x8.length) p2).length : Int)).bind fun x9 => (DR p0 p1 (p0.length : Int)).bind fun x10 => some (Hd (Hd x7 p1 (min p2.length x8.length) p2) (BT (p1 + (p2.length : Int))) (min x10.length x9.length) x10) else none)))
theorem D2 (nE : Nat) (p0 : List (Int × (Int × (Int × Int × Int × Int) × (Int × Int × Int × Int)) × (List (Int × Int × Int)))) (p1 : Int) (p2 : List (Int × (Int × (Int × Int × Int × Int) × (Int × Int × Int × Int)) × (List (Int × Int × Int)))) : Le (Cg nE p0 p1 p2) (A7 p0 p1 p2) := by
  unfold Cg A7
  repeat' with_reducible (first | refine Le.orR' ?_ ?_ | refine Le.bind' ?_ ?_ | refine Le.ite' ?_ ?_ | refine Le.loop' ?_ | refine Le.altS' ?_ ?_ | exact Le.rfl' _ | (refine Le.pi2 ?_; intro _) | intro _)
def Gv (nE : Nat) (p0 : List (Int × (Int × (Int × Int × Int × Int) × (Int × Int × Int × Int)) × (List (Int × Int × Int)))) (p1 : Int × (Int × (Int × (Int × Int × Int × Int) × (Int × Int × Int × Int)) × (List (Int × Int × Int))) × Bool) (p2 : Int) : Option ((List (Int × (Int × (Int × Int × Int × Int) × (Int × Int × Int × Int)) × (List (Int × Int × Int)))) × Int) := (if p1.2.2 = true then (BW nE p0 (p1.1, p1.2.1, true)).bind fun x3 => some (x3, true) else some (false, false)).bind fun (x1, x2) => (if x1 = true then some (p0, 14) else (Be nE p0 ((Ab p1.2.1).1, ((Ab p1.2.1).2.1.1, ((Ab p1.2.1).2.1.2.1.1, (Ab p1.2.1).2.1.2.1.2.1, (Ab p1.2.1).2.1.2.1.2.2.1, (Ab p1.2.1).2.1.2.1.2.2.2), ((Ab p1.2.1).2.1.2.2.1, (Ab p1.2.1).2.1.2.2.2.1, (Ab p1.2.1).2.1.2.2.2.2.1, (Ab p1.2.1).2.1.2.2.2.2.2)), (Ab p1.2.1).2.2)).bind fun x4 => (if x4 = true then (DY nE p0 p1.2.1 ((Ab p1.2.1).1, ((Ab p1.2.1).2.1.1, ((Ab p1.2.1).2.1.2.1.1, (Ab p1.2.1).2.1.2.1.2.1, (Ab p1.2.1).2.1.2.1.2.2.1, (Ab p1.2.1).2.1.2.1.2.2.2), ((Ab p1.2.1).2.1.2.2.1, (Ab p1.2.1).2.1.2.2.2.1, (Ab p1.2.1).2.1.2.2.2.2.1, (Ab p1.2.1).2.1.2.2.2.2.2)), (Ab p1.2.1).2.2)).bind fun x5 => some (x5, 0) else (if p2 ≤ (p0.length : Int) then some (p0, 6) else (B1 nE p0 (p1.1, p1.2.1, x2)).bind fun x6 => (if x6 < 0 then some (p0.length : Int) else some x6).bind fun x7 => (Cw nE p1.2.1).bind fun x8 => (Cg nE p0 x7 ([x8] : List (Int × (Int × (Int × Int × Int × Int) × (Int × Int × Int × Int)) × (List (Int × Int × Int))))).bind fun x9 => some (x9, 0))))
theorem JV (nE : Nat) (p0 : List (Int × (Int × (Int × Int × Int × Int) × (Int × Int × Int × Int)) × (List (Int × Int × Int)))) (p1 : Int × (Int × (Int × (Int × Int × Int × Int) × (Int × Int × Int × Int)) × (List (Int × Int × Int))) × Bool) (p2 : Int) : Le (Gv nE p0 p1 p2) (Ev p0 p1 p2) := by
  unfold Gv Ev
  repeat' with_reducible (first | refine Le.orR' ?_ ?_ | refine Le.bind' ?_ ?_ | refine Le.ite' ?_ ?_ | refine Le.loop' ?_ | refine Le.altS' ?_ ?_ | apply CY | apply Dn | apply Cm | apply FU | apply Dr | apply D2 | exact Le.rfl' _ | (refine Le.pi2 ?_; intro _) | intro _)
def Fu (nE : Nat) (p0 : Int × (Int × Int × Int × Int) × (Int × Int × Int × Int)) (p1 : Int × (Int × Int × Int × Int) × (Int × Int × Int × Int)) : Option Bool := (E9 nE p0 p1).bind fun x1 => some (x1.2 && decide (x1.1.1 = p0.1 ∧ x1.1.2.1.1 = p0.2.1.1 ∧ x1.1.2.1.2.1 = p0.2.1.2.1 ∧ x1.1.2.1.2.2.1 = p0.2.1.2.2.1 ∧ x1.1.2.1.2.2.2 = p0.2.1.2.2.2 ∧ x1.1.2.2.1 = p0.2.2.1 ∧ x1.1.2.2.2.1 = p0.2.2.2.1 ∧ x1.1.2.2.2.2.1 = p0.2.2.2.2.1 ∧ x1.1.2.2.2.2.2 = p0.2.2.2.2.2))
theorem Im (nE : Nat) (p0 : Int × (Int × Int × Int × Int) × (Int × Int × Int × Int)) (p1 : Int × (Int × Int × Int × Int) × (Int × Int × Int × Int)) : Le (Fu nE p0 p1) (C8 p0 p1) := by
  unfold Fu C8
  repeat' with_reducible (first | refine Le.orR' ?_ ?_ | refine Le.bind' ?_ ?_ | refine Le.ite' ?_ ?_ | refine Le.loop' ?_ | refine Le.altS' ?_ ?_ | apply GY | exact Le.rfl' _ | (refine Le.pi2 ?_; intro _) | intro _)
def C0 (nE : Nat) (p0 : Int × (Int × (Int × Int × Int × Int) × (Int × Int × Int × Int)) × (List (Int × Int × Int))) (p1 : Int × (Int × (Int × Int × Int × Int) × (Int × Int × Int × Int)) × (List (Int × Int × Int))) : Option Bool := (Fu nE p0.2.1 p1.2.1).bind fun x1 => some x1
theorem Ef (nE : Nat) (p0 : Int × (Int × (Int × Int × Int × Int) × (Int × Int × Int × Int)) × (List (Int × Int × Int))) (p1 : Int × (Int × (Int × Int × Int × Int) × (Int × Int × Int × Int)) × (List (Int × Int × Int))) : Le (C0 nE p0 p1) (Cn p0 p1) := by
  unfold C0 Cn
  repeat' with_reducible (first | refine Le.orR' ?_ ?_ | refine Le.bind' ?_ ?_ | refine Le.ite' ?_ ?_ | refine Le.loop' ?_ | refine Le.altS' ?_ ?_ | apply Im | exact Le.rfl' _ | (refine Le.pi2 ?_; intro _) | intro _)
def DK (nE : Nat) (p0 : List (Int × (Int × (Int × Int × Int × Int) × (Int × Int × Int × Int)) × (List (Int × Int × Int)))) (p1 : Int × (Int × (Int × Int × Int × Int) × (Int × Int × Int × Int)) × (List (Int × Int × Int))) (p2c0 : Int × (Int × (Int × Int × Int × Int) × (Int × Int × Int × Int)) × (List (Int × Int × Int))) : ((List (Int × (Int × (Int × Int × Int × Int) × (Int × Int × Int × Int)) × (List (Int × Int × Int)))) × Int) → Option (((List (Int × (Int × (Int × Int × Int × Int) × (Int × Int × Int × Int)) × (List (Int × Int × Int)))) × Int) ⊕ (List (Int × (Int × (Int × Int × Int × Int) × (Int × Int × Int × Int)) × (List (Int × Int × Int)))))
  | (x2, x3) => (if x3 < (p0.length : Int) then ((ix x2 x3).bind fun x5 => (C0 nE x5 p2c0).bind fun x6 => (if x6 = true then (Cw nE p1).bind fun x7 => (ix x2 x3).bind fun x8 => some (DH x2 x3 (x8.1, x8.2.1, x7.2.2)) else some x2)).bind fun x4 => some (.inl (x4, BT (x3 + 1))) else some (.inr x2))
theorem Gj (nE : Nat) (p0 : List (Int × (Int × (Int × Int × Int × Int) × (Int × Int × Int × Int)) × (List (Int × Int × Int)))) (p1 : Int × (Int × (Int × Int × Int × Int) × (Int × Int × Int × Int)) × (List (Int × Int × Int))) (p2c0 : Int × (Int × (Int × Int × Int × Int) × (Int × Int × Int × Int)) × (List (Int × Int × Int))) : ∀ s, Le (DK nE p0 p1 p2c0 s) (Ct p0 p1 p2c0 s) := by
  rintro ⟨x2, x3⟩
  unfold DK Ct
  repeat' with_reducible (first | refine Le.orR' ?_ ?_ | refine Le.bind' ?_ ?_ | refine Le.ite' ?_ ?_ | refine Le.loop' ?_ | refine Le.altS' ?_ ?_ | apply CY | apply Ef | exact Le.rfl' _ | (refine Le.pi2 ?_; intro _) | intro _)
def Ej (nE : Nat) (p0 : List (Int × (Int × (Int × Int × Int × Int) × (Int × Int × Int × Int)) × (List (Int × Int × Int)))) (p1 : Int × (Int × (Int × Int × Int × Int) × (Int × Int × Int × Int)) × (List (Int × Int × Int))) (p2c0 : Int × (Int × (Int × Int × Int × Int) × (Int × Int × Int × Int)) × (List (Int × Int × Int))) : Option (List (Int × (Int × (Int × Int × Int × Int) × (Int × Int × Int × Int)) × (List (Int × Int × Int)))) := (EV nE (DK nE p0 p1 p2c0) (p0, 0)).bind fun x1 => some x1
theorem G0 (nE : Nat) (p0 : List (Int × (Int × (Int × Int × Int × Int) × (Int × Int × Int × Int)) × (List (Int × Int × Int)))) (p1 : Int × (Int × (Int × Int × Int × Int) × (Int × Int × Int × Int)) × (List (Int × Int × Int))) (p2c0 : Int × (Int × (Int × Int × Int × Int) × (Int × Int × Int × Int)) × (List (Int × Int × Int))) : Le (Ej nE p0 p1 p2c0) (Cq p0 p1 p2c0) := by
  unfold Ej Cq
  repeat' with_reducible (first | refine Le.orR' ?_ ?_ | refine Le.bind' ?_ ?_ | refine Le.ite' ?_ ?_ | refine Le.loop' ?_ | refine Le.altS' ?_ ?_ | apply Gj | exact Le.rfl' _ | (refine Le.pi2 ?_; intro _) | intro _)
def BP (nE : Nat) (p0 : List (Int × (Int × (Int × Int × Int × Int) × (Int × Int × Int × Int)) × (List (Int × Int × Int)))) (p1c0 : Int × (Int × (Int × Int × Int × Int) × (Int × Int × Int × Int)) × (List (Int × Int × Int))) : Int → Option (Int ⊕ (Unit ⊕ Int))
  | x1 => (if x1 < (p0.length : Int) then (ix p0 x1).bind fun x2 => (C0 nE x2 p1c0).bind fun x3 => (if x3 = true then some (.inr (.inr x1)) else some (.inl (BT (x1 + 1)))) else some (.inr (.inl ())))
theorem Da (nE : Nat) (p0 : List (Int × (Int × (Int × Int × Int × Int) × (Int × Int × Int × Int)) × (List (Int × Int × Int)))) (p1c0 : Int × (Int × (Int × Int × Int × Int) × (Int × Int × Int × Int)) × (List (Int × Int × Int))) : ∀ s, Le (BP nE p0 p1c0 s) (AU p0 p1c0 s) := by
  intro x1
  unfold BP AU
  repeat' with_reducible (first | refine Le.orR' ?_ ?_ | refine Le.bind' ?_ ?_ | refine Le.ite' ?_ ?_ | refine Le.loop' ?_ | refine Le.altS' ?_ ?_ | apply Ef | exact Le.rfl' _ | (refine Le.pi2 ?_; intro _) | intro _)
def B2 (nE : Nat) (p0 : List (Int × (Int × (Int × Int × Int × Int) × (Int × Int × Int × Int)) × (List (Int × Int × Int)))) (p1c0 : Int × (Int × (Int × Int × Int × Int) × (Int × Int × Int × Int)) × (List (Int × Int × Int))) : Option Int := FB (EV nE (BP nE p0 p1c0) 0) fun _ => some (-1)
theorem Dt (nE : Nat) (p0 : List (Int × (Int × (Int × Int × Int × Int) × (Int × Int × Int × Int)) × (List (Int × Int × Int)))) (p1c0 : Int × (Int × (Int × Int × Int × Int) × (Int × Int × Int × Int)) × (List (Int × Int × Int))) : Le (B2 nE p0 p1c0) (A5 p0 p1c0) := by
  unfold B2 A5
  repeat' with_reducible (first | refine Le.orR' ?_ ?_ | refine Le.bind' ?_ ?_ | refine Le.ite' ?_ ?_ | refine Le.loop' ?_ | refine Le.altS' ?_ ?_ | apply Da | exact Le.rfl' _ | (refine Le.pi2 ?_; intro _) | intro _)
def BU (nE : Nat) (p1c0 : Int × (Int × (Int × Int × Int × Int) × (Int × Int × Int × Int)) × (List (Int × Int × Int))) : ((List (Int × (Int × (Int × Int × Int × Int) × (Int × Int × Int × Int)) × (List (Int × Int × Int)))) × Int × Int) → Option (((List (Int × (Int × (Int × Int × Int × Int) × (Int × Int × Int × Int)) × (List (Int × Int × Int)))) × Int × Int) ⊕ ((List (Int × (Int × (Int × Int × Int × Int) × (Int × Int × Int × Int)) × (List (Int × Int × Int)))) × Int))
  | (x4, x5, x6) => (if x6 < (x4.length : Int) then ((ix x4 x6).bind fun x9 => (C0 nE x9 p1c0).bind fun x10 => (if (!x10) = true then (ix x4 x5).bind fun x11 => some ((DH x4 x5 x9), BT (x5 + 1)) else some (x4, x5))).bind fun (x7, x8) => some (.inl (x7, x8, BT (x6 + 1))) else some (.inr (x4, x5)))
theorem Dj (nE : Nat) (p1c0 : Int × (Int × (Int × Int × Int × Int) × (Int × Int × Int × Int)) × (List (Int × Int × Int))) : ∀ s, Le (BU nE p1c0 s) (AZ p1c0 s) := by
  rintro ⟨x4, x5, x6⟩
  unfold BU AZ
  repeat' with_reducible (first | refine Le.orR' ?_ ?_ | refine Le.bind' ?_ ?_ | refine Le.ite' ?_ ?_ | refine Le.loop' ?_ | refine Le.altS' ?_ ?_ | apply Ef | exact Le.rfl' _ | (refine Le.pi2 ?_; intro _) | intro _)
def B4 (nE : Nat) (p0 : List (Int × (Int × (Int × Int × Int × Int) × (Int × Int × Int × Int)) × (List (Int × Int × Int)))) (p1c0 : Int × (Int × (Int × Int × Int × Int) × (Int × Int × Int × Int)) × (List (Int × Int × Int))) : Option (List (Int × (Int × (Int × Int × Int × Int) × (Int × Int × Int × Int)) × (List (Int × Int × Int)))) := (B2 nE p0 p1c0).bind fun x1 => (if x1 = (-1) then some p0 else (EV nE (BU nE p1c0) (p0, x1, BT (x1 + 1))).bind fun (x2, x3) => (DR x2 x3 (x2.length : Int)).bind fun x12 => (M9 x2 x3 (List.replicate (x12.length) ((0, (0, (0, 0, 0, 0), (0, 0, 0, 0)), []) : Int × (Int × (Int × Int × Int × Int) × (Int × Int × Int × Int)) × (List (Int × Int × Int))))).bind fun x13 => (DR x13 0 x3).bind fun x14 => some x14)
theorem DA (nE : Nat) (p0 : List (Int × (Int × (Int × Int × Int × Int) × (Int × Int × Int × Int)) × (List (Int × Int × Int)))) (p1c0 : Int × (Int × (Int × Int × Int × Int) × (Int × Int × Int × Int)) × (List (Int × Int × Int))) : Le (B4 nE p0 p1c0) (AS p0 p1c0) := by
  unfold B4 AS
  repeat' with_reducible (first | refine Le.orR' ?_ ?_ | refine Le.bind' ?_ ?_ | refine Le.ite' ?_ ?_ | refine Le.loop' ?_ | refine Le.altS' ?_ ?_ | apply Dt | apply Dj | exact Le.rfl' _ | (refine Le.pi2 ?_; intro _) | intro _)
def BL (nE : Nat) (p1c0 : Int × (Int × (Int × Int × Int × Int) × (Int × Int × Int × Int)) × (List (Int × Int × Int))) : ((List (Int × (Int × (Int × Int × Int × Int) × (Int × Int × Int × Int)) × (List (Int × Int × Int)))) × Int × Int) → Option (((List (Int × (Int × (Int × Int × Int × Int) × (Int × Int × Int × Int)) × (List (Int × Int × Int)))) × Int × Int) ⊕ ((List (Int × (Int × (Int × Int × Int × Int) × (Int × Int × Int × Int)) × (List (Int × Int × Int)))) × Int))
  | (x4, x5, x6) => (if x6 < (x4.length : Int) then ((ix x4 x6).bind fun x9 => (if (!(BR x9 p1c0)) = true then (ix x4 x5).bind fun x10 => some ((DH x4 x5 x9), BT (x5 + 1)) else some (x4, x5))).bind fun (x7, x8) => some (.inl (x7, x8, BT (x6 + 1))) else some (.inr (x4, x5)))
theorem C5 (nE : Nat) (p1c0 : Int × (Int × (Int × Int × Int × Int) × (Int × Int × Int × Int)) × (List (Int × Int × Int))) : ∀ s, Le (BL nE p1c0 s) (AQ p1c0 s) := by
  rintro ⟨x4, x5, x6⟩
  unfold BL AQ
  repeat' with_reducible (first | refine Le.orR' ?_ ?_ | refine Le.bind' ?_ ?_ | refine Le.ite' ?_ ?_ | refine Le.loop' ?_ | refine Le.altS' ?_ ?_ | exact Le.rfl' _ | (refine Le.pi2 ?_; intro _) | intro _)
def BV (nE : Nat) (p0 : List (Int × (Int × (Int × Int × Int × Int) × (Int × Int × Int × Int)) × (List (Int × Int × Int)))) (p1c0 : Int × (Int × (Int × Int × Int × Int) × (Int × Int × Int × Int)) × (List (Int × Int × Int))) : Option (List (Int × (Int × (Int × Int × Int × Int) × (Int × Int × Int × Int)) × (List (Int × Int × Int)))) := (Bx nE p0 p1c0).bind fun x1 => (if x1 = (-1) then some p0 else (EV nE (BL nE p1c0) (p0, x1, BT (x1 + 1))).bind fun (x2, x3) => (DR x2 x3 (x2.length : Int)).bind fun x11 => (M9 x2 x3 (List.replicate (x11.length) ((0, (0, (0, 0, 0, 0), (0, 0, 0, 0)), []) : Int × (Int × (Int × Int × Int × Int) × (Int × Int × Int × Int)) × (List (Int × Int × Int))))).bind fun x12 => (DR x12 0 x3).bind fun x13 => some x13)
theorem Do (nE : Nat) (p0 : List (Int × (Int × (Int × Int × Int × Int) × (Int × Int × Int × Int)) × (List (Int × Int × Int)))) (p1c0 : Int × (Int × (Int × Int × Int × Int) × (Int × Int × Int × Int)) × (List (Int × Int × Int))) : Le (BV nE p0 p1c0) (AM p0 p1c0) := by
  unfold BV AM
  repeat' with_reducible (first | refine Le.orR' ?_ ?_ | refine Le.bind' ?_ ?_ | refine Le.ite' ?_ ?_ | refine Le.loop' ?_ | refine Le.altS' ?_ ?_ | apply Cx | apply C5 | exact Le.rfl' _ | (refine Le.pi2 ?_; intro _) | intro _)
def FO (nE : Nat) (p0 : List (Int × (Int × (Int × Int × Int × Int) × (Int × Int × Int × Int)) × (List (Int × Int × Int)))) (p1 : Int × (Int × (Int × (Int × Int × Int × Int) × (Int × Int × Int × Int)) × (List (Int × Int × Int))) × Bool) (p2 : Int) (p3 : Int) : Option ((List (Int × (Int × (Int × Int × Int × Int) × (Int × Int × Int × Int)) × (List (Int × Int × Int)))) × Int) := (DC nE p0).bind fun x1 => (F9 nE p1.2.1 p2).bind fun x2 => (if (!x2) = true then some (x1, 2) else (if p1.1 = 1 then (Oq x1.length (((p0.length : Int)).toNat)).bind fun x3 => (Gv nE x1 p1 p3).bind fun x4 => some (x4.1, x4.2) else (if p1.1 = 2 then (Ej nE x1 p1.2.1 ((Ak p1.2.1).1, ((Ak p1.2.1).2.1.1, ((Ak p1.2.1).2.1.2.1.1, (Ak p1.2.1).2.1.2.1.2.1, (Ak p1.2.1).2.1.2.1.2.2.1, (Ak p1.2.1).2.1.2.1.2.2.2), ((Ak p1.2.1).2.1.2.2.1, (Ak p1.2.1).2.1.2.2.2.1, (Ak p1.2.1).2.1.2.2.2.2.1, (Ak p1.2.1).2.1.2.2.2.2.2)), (Ak p1.2.1).2.2)).bind fun x5 => some (x5, 0) else (if p1.1 = 3 then (Be nE x1 ((Ab p1.2.1).1, ((Ab p1.2.1).2.1.1, ((Ab p1.2.1).2.1.2.1.1, (Ab p1.2.1).2.1.2.1.2.1, (Ab p1.2.1).2.1.2.1.2.2.1, (Ab p1.2.1).2.1.2.1.2.2.2), ((Ab p1.2.1).2.1.2.2.1, (Ab p1.2.1).2.1.2.2.2.1, (Ab p1.2.1).2.1.2.2.2.2.1, (Ab p1.2.1).2.1.2.2.2.2.2)), (Ab p1.2.1).2.2)).bind fun x6 => (if (!x6) = true then some (x1, 7) else (DY nE x1 p1.2.1 ((Ab p1.2.1).1, ((Ab p1.2.1).2.1.1, ((Ab p1.2.1).2.1.2.1.1, (Ab p1.2.1).2.1.2.1.2.1, (Ab p1.2.1).2.1.2.1.2.2.1, (Ab p1.2.1).2.1.2.1.2.2.2), ((Ab p1.2.1).2.1.2.2.1, (Ab p1.2.1).2.1.2.2.2.1, (Ab p1.2.1).2.1.2.2.2.2.1, (Ab p1.2.1).2.1.2.2.2.2.2)), (Ab p1.2.1).2.2)).bind fun x7 => some (x7, 0)) else (if p1.1 = 4 then (B4 nE x1 ((Ak p1.2.1).1, ((Ak p1.2.1).2.1.1, ((Ak p1.2.1).2.1.2.1.1, (Ak p1.2.1).2.1.2.1.2.1, (Ak p1.2.1).2.1.2.1.2.2.1, (Ak p1.2.1).2.1.2.1.2.2.2), ((Ak p1.2.1).2.1.2.2.1, (Ak p1.2.1).2.1.2.2.2.1, (Ak p1.2.1).2.1.2.2.2.2.1, (Ak p1.2.1).2.1.2.2.2.2.2)), (Ak p1.2.1).2.2)).bind fun x8 => some (x8, 0) else (if p1.1 = 5 then (Be nE x1 ((Ab p1.2.1).1, ((Ab p1.2.1).2.1.1, ((Ab p1.2.1).2.1.2.1.1, (Ab p1.2.1).2.1.2.1.2.1, (Ab p1.2.1).2.1.2.1.2.2.1, (Ab p1.2.1).2.1.2.1.2.2.2), ((Ab p1.2.1).2.1.2.2.1, (Ab p1.2.1).2.1.2.2.2.1, (Ab p1.2.1).2.1.2.2.2.2.1, (Ab p1.2.1).2.1.2.2.2.2.2)), (Ab p1.2.1).2.2)).bind fun x9 => (if (!x9) = true then some (x1, 7) else (BV nE x1 ((Ab p1.2.1).1, ((Ab p1.2.1).2.1.1, ((Ab p1.2.1).2.1.2.1.1, (Ab p1.2.1).2.1.2.1.2.1, (Ab p1.2.1).2.1.2.1.2.2.1, (Ab p1.2.1).2.1.2.1.2.2.2), ((Ab p1.2.1).2.1.2.2.1, (Ab p1.2.1).2.1.2.2.2.1, (Ab p1.2.1).2.1.2.2.2.2.1, (Ab p1.2.1).2.1.2.2.2.2.2)), (Ab p1.2.1).2.2)).bind fun x10 => some (x10, 0)) else some (x1, 2)))))))
theorem Iy (nE : Nat) (p0 : List (Int × (Int × (Int × Int × Int × Int) × (Int × Int × Int × Int)) × (List (Int × Int × Int)))) (p1 : Int × (Int × (Int × (Int × Int × Int × Int) × (Int × Int × Int × Int)) × (List (Int × Int × Int))) × Bool) (p2 : Int) (p3 : Int) : Le (FO nE p0 p1 p2 p3) (C7 p0 p1 p2 p3) := by
  unfold FO C7
  repeat' with_reducible (first | refine Le.orR' ?_ ?_ | refine Le.bind' ?_ ?_ | refine Le.ite' ?_ ?_ | refine Le.loop' ?_ | refine Le.altS' ?_ ?_ | apply EX | apply Jl | apply Cm | apply FU | apply JV | apply G0 | apply DA | apply Do | exact Le.rfl' _ | (refine Le.pi2 ?_; intro _) | intro _)
def EZ (nE : Nat) (p0 : List (Int × (Int × (Int × Int × Int × Int) × (Int × Int × Int × Int)) × (List (Int × Int × Int)))) (p1 : List (Int × (Int × (Int × (Int × Int × Int × Int) × (Int × Int × Int × Int)) × (List (Int × Int × Int))) × Bool)) (p2 : Int) (p3 : Int) : ((List (Int × (Int × (Int × Int × Int × Int) × (Int × Int × Int × Int)) × (List (Int × Int × Int)))) × Int) → Option (((List (Int × (Int × (Int × Int × Int × Int) × (Int × Int × Int × Int)) × (List (Int × Int × Int)))) × Int) ⊕ ((List (Int × (Int × (Int × Int × Int × Int) × (Int × Int × Int × Int)) × (List (Int × Int × Int)))) ⊕ ((List (Int × (Int × (Int × Int × Int × Int) × (Int × Int × Int × Int)) × (List (Int × Int × Int)))) × Int × Int)))
  | (x3, x4) => (if x4 < (p1.length : Int) then (ix p1 x4).bind fun x5 => (FO nE x3 x5 p2 p3).bind fun x6 => (if x6.2 ≠ 0 then (DC nE p0).bind fun x7 => some (.inr (.inr (x7, x4, x6.2))) else some (.inl (x6.1, BT (x4 + 1)))) else some (.inr (.inl x3)))
theorem HO (nE : Nat) (p0 : List (Int × (Int × (Int × Int × Int × Int) × (Int × Int × Int × Int)) × (List (Int × Int × Int)))) (p1 : List (Int × (Int × (Int × (Int × Int × Int × Int) × (Int × Int × Int × Int)) × (List (Int × Int × Int))) × Bool)) (p2 : Int) (p3 : Int) : ∀ s, Le (EZ nE p0 p1 p2 p3 s) (CU p0 p1 p2 p3 s) := by
  rintro ⟨x3, x4⟩
  unfold EZ CU
  repeat' with_reducible (first | refine Le.orR' ?_ ?_ | refine Le.bind' ?_ ?_ | refine Le.ite' ?_ ?_ | refine Le.loop' ?_ | refine Le.altS' ?_ ?_ | apply EX | apply Iy | exact Le.rfl' _ | (refine Le.pi2 ?_; intro _) | intro _)
def Gd (nE : Nat) (p0 : List (Int × (Int × (Int × Int × Int × Int) × (Int × Int × Int × Int)) × (List (Int × Int × Int)))) (p1 : List (Int × (Int × (Int × (Int × Int × Int × Int) × (Int × Int × Int × Int)) × (List (Int × Int × Int))) × Bool)) (p2 : Int) (p3 : Int) : Option ((List (Int × (Int × (Int × Int × Int × Int) × (Int × Int × Int × Int)) × (List (Int × Int × Int)))) × Int × Int) := (DC nE p0).bind fun x1 => FB (EV nE (EZ nE p0 p1 p2 p3) (x1, 0)) fun x2 => some (x2, (-1), 0)
theorem Jk (nE : Nat) (p0 : List (Int × (Int × (Int × Int × Int × Int) × (Int × Int × Int × Int)) × (List (Int × Int × Int)))) (p1 : List (Int × (Int × (Int × (Int × Int × Int × Int) × (Int × Int × Int × Int)) × (List (Int × Int × Int))) × Bool)) (p2 : Int) (p3 : Int) : Le (Gd nE p0 p1 p2 p3) (Dw p0 p1 p2 p3) := by
  unfold Gd Dw
  repeat' with_reducible (first | refine Le.orR' ?_ ?_ | refine Le.bind' ?_ ?_ | refine Le.ite' ?_ ?_ | refine Le.loop' ?_ | refine Le.altS' ?_ ?_ | apply EX | apply HO | exact Le.rfl' _ | (refine Le.pi2 ?_; intro _) | intro _)
def E2 (nE : Nat) (p0 : Int × (Int × Int × Int × Int) × (Int × Int × Int × Int)) (p2 : Int × Int × Int × Int) : Int → Option (Int ⊕ (Unit ⊕ Bool))
  | x1 => (if x1 < 4 then (ix ([p0.2.2.1, p0.2.2.2.1, p0.2.2.2.2.1, p0.2.2.2.2.2] : List Int) x1).bind fun x2 => (ix ([p2.1, p2.2.1, p2.2.2.1, p2.2.2.2] : List Int) x1).bind fun x3 => (ix ([p0.2.1.1, p0.2.1.2.1, p0.2.1.2.2.1, p0.2.1.2.2.2] : List Int) x1).bind fun x4 => (if (HT .i64 (JK .i64 x3 x4) x2) ≠ 0 then some (.inr (.inr false)) else some (.inl (BT (x1 + 1)))) else some (.inr (.inl ())))
theorem HN (nE : Nat) (p0 : Int × (Int × Int × Int × Int) × (Int × Int × Int × Int)) (p2 : Int × Int × Int × Int) : ∀ s, Le (E2 nE p0 p2 s) (EL p0 p2 s) := by
  intro x1
  unfold E2 EL
  repeat' with_reducible (first | refine Le.orR' ?_ ?_ | refine Le.bind' ?_ ?_ | refine Le.ite' ?_ ?_ | refine Le.loop' ?_ | refine Le.altS' ?_ ?_ | exact Le.rfl' _ | (refine Le.pi2 ?_; intro _) | intro _)
def Gf (nE : Nat) (p0 : Int × (Int × Int × Int × Int) × (Int × Int × Int × Int)) (p1 : Int) (p2 : Int × Int × Int × Int) : Option Bool := (if (decide (p0.1 ≠ (-1)) && decide (p0.1 ≠ p1)) = true then some false else FB (EV nE (E2 nE p0 p2) 0) fun _ => some true)
theorem Jq (nE : Nat) (p0 : Int × (Int × Int × Int × Int) × (Int × Int × Int × Int)) (p1 : Int) (p2 : Int × Int × Int × Int) : Le (Gf nE p0 p1 p2) (Fg p0 p1 p2) := by
  unfold Gf Fg
  repeat' with_reducible (first | refine Le.orR' ?_ ?_ | refine Le.bind' ?_ ?_ | refine Le.ite' ?_ ?_ | refine Le.loop' ?_ | refine Le.altS' ?_ ?_ | apply HN | exact Le.rfl' _ | (refine Le.pi2 ?_; intro _) | intro _)
def Fs (nE : Nat) (p0 : Int × (Int × (Int × Int × Int × Int) × (Int × Int × Int × Int)) × (List (Int × Int × Int))) (p1 : Int) (p2 : Int × Int × Int × Int) : Option Bool := (Gf nE p0.2.1 p1 p2).bind fun x1 => some x1
theorem Io (nE : Nat) (p0 : Int × (Int × (Int × Int × Int × Int) × (Int × Int × Int × Int)) × (List (Int × Int × Int))) (p1 : Int) (p2 : Int × Int × Int × Int) : Le (Fs nE p0 p1 p2) (Em p0 p1 p2) := by
  unfold Fs Em
  repeat' with_reducible (first | refine Le.orR' ?_ ?_ | refine Le.bind' ?_ ?_ | refine Le.ite' ?_ ?_ | refine Le.loop' ?_ | refine Le.altS' ?_ ?_ | apply Jq | exact Le.rfl' _ | (refine Le.pi2 ?_; intro _) | intro _)
def BO (nE : Nat) (p0 : List (Int × (Int × (Int × Int × Int × Int) × (Int × Int × Int × Int)) × (List (Int × Int × Int)))) (p1c0 : Int) (p1c1 : Int × Int × Int × Int) : Int → Option (Int ⊕ (Unit ⊕ Int))
  | x1 => (if x1 < (p0.length : Int) then (ix p0 x1).bind fun x2 => (Fs nE x2 p1c0 p1c1).bind fun x3 => (if x3 = true then some (.inr (.inr x1)) else some (.inl (BT (x1 + 1)))) else some (.inr (.inl ())))
theorem Db (nE : Nat) (p0 : List (Int × (Int × (Int × Int × Int × Int) × (Int × Int × Int × Int)) × (List (Int × Int × Int)))) (p1c0 : Int) (p1c1 : Int × Int × Int × Int) : ∀ s, Le (BO nE p0 p1c0 p1c1 s) (Bv p0 p1c0 p1c1 s) := by
  intro x1
  unfold BO Bv
  repeat' with_reducible (first | refine Le.orR' ?_ ?_ | refine Le.bind' ?_ ?_ | refine Le.ite' ?_ ?_ | refine Le.loop' ?_ | refine Le.altS' ?_ ?_ | apply Io | exact Le.rfl' _ | (refine Le.pi2 ?_; intro _) | intro _)
def B3 (nE : Nat) (p0 : List (Int × (Int × (Int × Int × Int × Int) × (Int × Int × Int × Int)) × (List (Int × Int × Int)))) (p1c0 : Int) (p1c1 : Int × Int × Int × Int) : Option Int := FB (EV nE (BO nE p0 p1c0 p1c1) 0) fun _ => some (-1)
theorem Du (nE : Nat) (p0 : List (Int × (Int × (Int × Int × Int × Int) × (Int × Int × Int × Int)) × (List (Int × Int × Int)))) (p1c0 : Int) (p1c1 : Int × Int × Int × Int) : Le (B3 nE p0 p1c0 p1c1) (Bm p0 p1c0 p1c1) := by
  unfold B3 Bm
  repeat' with_reducible (first | refine Le.orR' ?_ ?_ | refine Le.bind' ?_ ?_ | refine Le.ite' ?_ ?_ | refine Le.loop' ?_ | refine Le.altS' ?_ ?_ | apply Db | exact Le.rfl' _ | (refine Le.pi2 ?_; intro _) | intro _)
def E7 (nE : Nat) (p0 : List (Int × (Int × (Int × Int × Int × Int) × (Int × Int × Int × Int)) × (List (Int × Int × Int)))) (p1 : Int) (p2 : Int × Int × Int × Int) : Option Int := (B3 nE p0 p1 p2).bind fun x1 => some x1
theorem GZ (nE : Nat) (p0 : List (Int × (Int × (Int × Int × Int × Int) × (Int × Int × Int × Int)) × (List (Int × Int × Int)))) (p1 : Int) (p2 : Int × Int × Int × Int) : Le (E7 nE p0 p1 p2) (EF p0 p1 p2) := by
  unfold E7 EF
  repeat' with_reducible (first | refine Le.orR' ?_ ?_ | refine Le.bind' ?_ ?_ | refine Le.ite' ?_ ?_ | refine Le.loop' ?_ | refine Le.altS' ?_ ?_ | apply Du | exact Le.rfl' _ | (refine Le.pi2 ?_; intro _) | intro _)
def FM (nE : Nat) (p0 : Int) (p1 : Int) : Option Bool := (if 0 ≤ p1 then (De nE p0).bind fun x2 => some (decide (p1 ≤ x2)) else some false).bind fun x1 => some x1
theorem I2 (nE : Nat) (p0 : Int) (p1 : Int) : Le (FM nE p0 p1) (EO p0 p1) := by
  unfold FM EO
  repeat' with_reducible (first | refine Le.orR' ?_ ?_ | refine Le.bind' ?_ ?_ | refine Le.ite' ?_ ?_ | refine Le.loop' ?_ | refine Le.altS' ?_ ?_ | apply EH | exact Le.rfl' _ | (refine Le.pi2 ?_; intro _) | intro _)
def FL (nE : Nat) (p0 : Int × Int × Int × Int) (p1 : Int) (p2 : Int) : Option (Int × Int × Int × Int) := ((if (DO p1) = true then (FM nE p1 p2).bind fun x6 => some x6 else some false).bind fun x5 => (if x5 = true then (ix ([p0.1, p0.2.1, p0.2.2.1, p0.2.2.2] : List Int) p1).bind fun x7 => some ((if p1 = 0 then p2 else p0.1), (if p1 = 1 then p2 else p0.2.1), (if p1 = 2 then p2 else p0.2.2.1), (if p1 = 3 then p2 else p0.2.2.2)) else some (p0.1, p0.2.1, p0.2.2.1, p0.2.2.2))).bind fun (x1, x2, x3, x4) => some (x1, x2, x3, x4)
theorem IU (nE : Nat) (p0 : Int × Int × Int × Int) (p1 : Int) (p2 : Int) : Le (FL nE p0 p1 p2) (ER p0 p1 p2) := by
  unfold FL ER
  repeat' with_reducible (first | refine Le.orR' ?_ ?_ | refine Le.bind' ?_ ?_ | refine Le.ite' ?_ ?_ | refine Le.loop' ?_ | refine Le.altS' ?_ ?_ | apply I2 | exact Le.rfl' _ | (refine Le.pi2 ?_; intro _) | intro _)
def Gb (nE : Nat) (p0 : List (Int × Int × Int)) (p1 : Int × Int × Int × Int) : ((List (Int × (Int × Int × Int × Int))) × Int × Int × Int × Int × Int) → Option (((List (Int × (Int × Int × Int × Int))) × Int × Int × Int × Int × Int) ⊕ ((List (Int × (Int × Int × Int × Int))) × Int × Int × Int × Int))
  | (x6, x7, x8, x9, x10, x11) => (if x7 < (p0.length : Int) then ((ix p0 x7).bind fun x17 => (if x17.1 = 1 then (FL nE (x8, x9, x10, x11) x17.2.1 x17.2.2).bind fun x18 => some (x6, x18.1, x18.2.1, x18.2.2.1, x18.2.2.2) else (if x17.1 = 2 then (Js x6 ([(x17.2.2, (x8, x9, x10, x11))] : List (Int × (Int × Int × Int × Int)))).bind fun x19 => some (x19, x8, x9, x10, x11) else (if x17.1 = 3 then some (x6, p1.1, p1.2.1, p1.2.2.1, p1.2.2.2) else some (x6, x8, x9, x10, x11))))).bind fun (x12, x13, x14, x15, x16) => some (.inl (x12, BT (x7 + 1), x13, x14, x15, x16)) else some (.inr (x6, x8, x9, x10, x11)))
theorem Jh (nE : Nat) (p0 : List (Int × Int × Int)) (p1 : Int × Int × Int × Int) : ∀ s, Le (Gb nE p0 p1 s) (F7 p0 p1 s) := by
  rintro ⟨x6, x7, x8, x9, x10, x11⟩
  unfold Gb F7
  repeat' with_reducible (first | refine Le.orR' ?_ ?_ | refine Le.bind' ?_ ?_ | refine Le.ite' ?_ ?_ | refine Le.loop' ?_ | refine Le.altS' ?_ ?_ | apply IU | exact Le.rfl' _ | (refine Le.pi2 ?_; intro _) | intro _)
def HL (nE : Nat) (p0 : List (Int × Int × Int)) (p1 : Int × Int × Int × Int) : Option (List (Int × (Int × Int × Int × Int))) := (EV nE (Gb nE p0 p1) ([], 0, p1.1, p1.2.1, p1.2.2.1, p1.2.2.2)).bind fun (x1, x2, x3, x4, x5) => some x1
theorem KM (nE : Nat) (p0 : List (Int × Int × Int)) (p1 : Int × Int × Int × Int) : Le (HL nE p0 p1) (HG p0 p1) := by
  unfold HL HG
  repeat' with_reducible (first | refine Le.orR' ?_ ?_ | refine Le.bind' ?_ ?_ | refine Le.ite' ?_ ?_ | refine Le.loop' ?_ | refine Le.altS' ?_ ?_ | apply Jh | exact Le.rfl' _ | (refine Le.pi2 ?_; intro _) | intro _)
def Gt (nE : Nat) (p0 : List (Int × (Int × (Int × Int × Int × Int) × (Int × Int × Int × Int)) × (List (Int × Int × Int)))) (p1 : Int) (p2 : Int × Int × Int × Int) : Option (List (Int × (Int × Int × Int × Int))) := (E7 nE p0 p1 p2).bind fun x1 => (if x1 < 0 then some ([] : List (Int × (Int × Int × Int × Int))) else (ix p0 x1).bind fun x2 => (HL nE x2.2.2 p2).bind fun x3 => some x3)
theorem JY (nE : Nat) (p0 : List (Int × (Int × (Int × Int × Int × Int) × (Int × Int × Int × Int)) × (List (Int × Int × Int)))) (p1 : Int) (p2 : Int × Int × Int × Int) : Le (Gt nE p0 p1 p2) (F3 p0 p1 p2) := by
  unfold Gt F3
  repeat' with_reducible (first | refine Le.orR' ?_ ?_ | refine Le.bind' ?_ ?_ | refine Le.ite' ?_ ?_ | refine Le.loop' ?_ | refine Le.altS' ?_ ?_ | apply GZ | apply KM | exact Le.rfl' _ | (refine Le.pi2 ?_; intro _) | intro _)
def H5 (nE : Nat)  : Option Bool := (F6 nE 1 3 20 2).bind fun x1 => (Gd nE ([] : List (Int × (Int × (Int × Int × Int × Int) × (Int × Int × Int × Int)) × (List (Int × Int × Int)))) ([(1, (10, Ac, ([(2, 0, 1)] : List (Int × Int × Int))), false), (1, x1, false)] : List (Int × (Int × (Int × (Int × Int × Int × Int) × (Int × Int × Int × Int)) × (List (Int × Int × Int))) × Bool)) 4 9).bind fun x2 => (Gt nE x2.1 0 (1, 3, 0, 0)).bind fun x3 => (if (x2.1.length : Int) = 2 then (if x2.2.1 = (-1) then (if x2.2.2 = 0 then (ix x2.1 0).bind fun x5 => (if x5.1 = 20 then (if (x3.length : Int) = 1 then (ix x3 0).bind fun x6 => (if x6.1 = 2 then (E7 nE x2.1 0 (0, 0, 0, 0)).bind fun x7 => some (decide (x7 = 1)) else some false) else some false) else some false) else some false) else some false) else some false).bind fun x4 => some x4
theorem JX (nE : Nat)  : Le (H5 nE ) (D4 ) := by
  unfold H5 D4
  repeat' with_reducible (first | refine Le.orR' ?_ ?_ | refine Le.bind' ?_ ?_ | refine Le.ite' ?_ ?_ | refine Le.loop' ?_ | refine Le.altS' ?_ ?_ | apply Ja | apply Jk | apply GZ | apply JY | exact Le.rfl' _ | (refine Le.pi2 ?_; intro _) | intro _)
theorem Ll : D4 = some true := JX 60 _ (by kernel_rfl)
end Go.Proofs.Ytkjjioigbpkifaa
