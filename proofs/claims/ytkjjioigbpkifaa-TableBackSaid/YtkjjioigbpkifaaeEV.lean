/- Twins with fuel of En functions: what a twin answers, the function answers. Conditions: none. -/
import Derived.Test.YtkjjioigbpkifaaeLP
import Derived.Test.YtkjjioigbpkifaaeA10
namespace Go.Proofs.Ytkjjioigbpkifaa
open Go Go.RowKit
set_option linter.unusedVariables false
set_option linter.unusedSimpArgs false
set_option maxRecDepth 20000
set_option maxHeartbeats 1600000
abbrev Le {α : Type} (a b : Option α) : Prop := ∀ r, a = some r → b = some r
theorem Le.rfl' {α : Type} (a : Option α) : Le a a := fun _ h => h
theorem Le.bind' {α β : Type} {a b : Option α} {f g : α → Option β} (h : Le a b) (hf : ∀ x, Le (f x) (g x)) : Le (a.bind f) (b.bind g) := fun r e => by
  obtain ⟨x, h1, h2⟩ := Ap e
  rw [h x h1, Option.bind_some]; exact hf x r h2
theorem Le.ite' {α : Type} {c : Prop} [Decidable c] {a a' b b' : Option α} (h1 : Le a a') (h2 : Le b b') : Le (if c then a else b) (if c then a' else b') := fun r e => by
  by_cases h : c
  · rw [if_pos h] at e ⊢; exact h1 r e
  · rw [if_neg h] at e ⊢; exact h2 r e
theorem Le.orR' {α β : Type} {a b : Option (α ⊕ β)} {f g : α → Option β} (h : Le a b) (hf : ∀ x, Le (f x) (g x)) : Le (Fp a f) (Fp b g) :=
  Le.bind' h fun x => by
    cases x with
    | inl t => exact hf t
    | inr e => exact Le.rfl' _
def EJ {σ ε : Type} (n : Nat) (step : σ → Option (σ ⊕ ε)) (s : σ) : Option ε := ES step n s
theorem Ij {σ ε : Type} {S T : σ → Option (σ ⊕ ε)} (h : ∀ s, Le (S s) (T s)) : ∀ (n : Nat) (s : σ), Le (ES S n s) (ES T n s)
  | 0, s => Le.rfl' _
  | n + 1, s => fun r e => by
    unfold ES at e ⊢
    cases hs : S s with
    | none => rw [hs] at e; cases e
    | some q =>
      rw [hs] at e; rw [h s q hs]
      cases q with
      | inl s' => exact Ij h n s' r e
      | inr _ => exact e
theorem Le.loop' {σ ε : Type} {n : Nat} {S T : σ → Option (σ ⊕ ε)} {s : σ} (h : ∀ s, Le (S s) (T s)) : Le (EJ n S s) (Bk T s) := fun r e => FM.2 ⟨n, Ij h n s r e⟩
theorem Le.pi2 {α β γ : Type} {f g : α × β → Option γ} (h : ∀ a b, Le (f (a, b)) (g (a, b))) : ∀ x, Le (f x) (g x) := fun x => h x.1 x.2
theorem Le.altS' {α β γ : Type} {y : α ⊕ β} {f f' : α → Option γ} {g g' : β → Option γ} (h : ∀ x, Le (f x) (f' x)) (k : ∀ x, Le (g x) (g' x)) : Le (Oe y f g) (Oe y f' g') := by
  cases y with
  | inl x => exact h x
  | inr x => exact k x
def FB (nE : Nat) (p0 : Int) : Option Int := (if p0 = 0 then some true else (if p0 = 1 then some true else some (decide (p0 = 3)))).bind fun x1 => (if x1 = true then some 8 else (if p0 = 2 then some 4 else some 0))
theorem Il (nE : Nat) (p0 : Int) : Le (FB nE p0) (Dv p0) := by
  unfold FB Dv
  repeat' with_reducible (first | refine Le.orR' ?_ ?_ | refine Le.bind' ?_ ?_ | refine Le.ite' ?_ ?_ | refine Le.loop' ?_ | refine Le.altS' ?_ ?_ | exact Le.rfl' _ | (refine Le.pi2 ?_; intro _) | intro _)
def C5 (nE : Nat) (p0 : Int) : Option Int := (FB nE p0).bind fun x1 => (Ok (Mx .i64 1 x1) x1).bind fun x2 => some (CA (x2 - 1))
theorem Ew (nE : Nat) (p0 : Int) : Le (C5 nE p0) (CD p0) := by
  unfold C5 CD
  repeat' with_reducible (first | refine Le.orR' ?_ ?_ | refine Le.bind' ?_ ?_ | refine Le.ite' ?_ ?_ | refine Le.loop' ?_ | refine Le.altS' ?_ ?_ | apply Il | exact Le.rfl' _ | (refine Le.pi2 ?_; intro _) | intro _)
def GR (nE : Nat) (p0 : Int) (p1 : Int) : Option (Int × (Int × Int × Int × Int) × (Int × Int × Int × Int)) := (if p0 < 0 then some true else (if 4 ≤ p0 then some true else (if p1 < 0 then some true else (C5 nE p0).bind fun x2 => some (decide (x2 < p1))))).bind fun x1 => (if x1 = true then some Ac else (ix ([Ac.2.1.1, Ac.2.1.2.1, Ac.2.1.2.2.1, Ac.2.1.2.2.2] : List Int) p0).bind fun x3 => (C5 nE p0).bind fun x4 => (ix ([Ac.2.2.1, Ac.2.2.2.1, Ac.2.2.2.2.1, Ac.2.2.2.2.2] : List Int) p0).bind fun x5 => some (Ac.1, ((if p0 = 0 then p1 else Ac.2.1.1), (if p0 = 1 then p1 else Ac.2.1.2.1), (if p0 = 2 then p1 else Ac.2.1.2.2.1), (if p0 = 3 then p1 else Ac.2.1.2.2.2)), ((if p0 = 0 then x4 else Ac.2.2.1), (if p0 = 1 then x4 else Ac.2.2.2.1), (if p0 = 2 then x4 else Ac.2.2.2.2.1), (if p0 = 3 then x4 else Ac.2.2.2.2.2))))
theorem JP (nE : Nat) (p0 : Int) (p1 : Int) : Le (GR nE p0 p1) (Gh p0 p1) := by
  unfold GR Gh
  repeat' with_reducible (first | refine Le.orR' ?_ ?_ | refine Le.bind' ?_ ?_ | refine Le.ite' ?_ ?_ | refine Le.loop' ?_ | refine Le.altS' ?_ ?_ | apply Ew | exact Le.rfl' _ | (refine Le.pi2 ?_; intro _) | intro _)
def FY (nE : Nat) (p0 : Int) (p1 : Int) (p2 : Int) (p3 : Int) : Option (Int × (Int × (Int × Int × Int × Int) × (Int × Int × Int × Int)) × (List (Int × Int × Int))) := (GR nE p0 p1).bind fun x1 => some (p2, x1, ([(2, 0, p3)] : List (Int × Int × Int)))
theorem IQ (nE : Nat) (p0 : Int) (p1 : Int) (p2 : Int) (p3 : Int) : Le (FY nE p0 p1 p2 p3) (Fe p0 p1 p2 p3) := by
  unfold FY Fe
  repeat' with_reducible (first | refine Le.orR' ?_ ?_ | refine Le.bind' ?_ ?_ | refine Le.ite' ?_ ?_ | refine Le.loop' ?_ | refine Le.altS' ?_ ?_ | apply JP | exact Le.rfl' _ | (refine Le.pi2 ?_; intro _) | intro _)
def Cm (nE : Nat) (p0 : List (Int × Int × Int)) : Option (List (Int × Int × Int)) := (J0 ([] : List (Int × Int × Int)) p0).bind fun x1 => some x1
theorem Ee (nE : Nat) (p0 : List (Int × Int × Int)) : Le (Cm nE p0) (Bm p0) := by
  unfold Cm Bm
  repeat' with_reducible (first | refine Le.orR' ?_ ?_ | refine Le.bind' ?_ ?_ | refine Le.ite' ?_ ?_ | refine Le.loop' ?_ | refine Le.altS' ?_ ?_ | exact Le.rfl' _ | (refine Le.pi2 ?_; intro _) | intro _)
def Cn (nE : Nat) (p0 : Int × (Int × (Int × Int × Int × Int) × (Int × Int × Int × Int)) × (List (Int × Int × Int))) : Option (Int × (Int × (Int × Int × Int × Int) × (Int × Int × Int × Int)) × (List (Int × Int × Int))) := (Cm nE p0.2.2).bind fun x1 => some (p0.1, p0.2.1, x1)
theorem CO (nE : Nat) (p0 : Int × (Int × (Int × Int × Int × Int) × (Int × Int × Int × Int)) × (List (Int × Int × Int))) : Le (Cn nE p0) (Bv p0) := by
  unfold Cn Bv
  repeat' with_reducible (first | refine Le.orR' ?_ ?_ | refine Le.bind' ?_ ?_ | refine Le.ite' ?_ ?_ | refine Le.loop' ?_ | refine Le.altS' ?_ ?_ | apply Ee | exact Le.rfl' _ | (refine Le.pi2 ?_; intro _) | intro _)
def D3 (nE : Nat) (p0 : List (Int × (Int × (Int × Int × Int × Int) × (Int × Int × Int × Int)) × (List (Int × Int × Int)))) (x1 : List (Int × (Int × (Int × Int × Int × Int) × (Int × Int × Int × Int)) × (List (Int × Int × Int)))) : ((List (Int × (Int × (Int × Int × Int × Int) × (Int × Int × Int × Int)) × (List (Int × Int × Int)))) × Int) → Option (((List (Int × (Int × (Int × Int × Int × Int) × (Int × Int × Int × Int)) × (List (Int × Int × Int)))) × Int) ⊕ (List (Int × (Int × (Int × Int × Int × Int) × (Int × Int × Int × Int)) × (List (Int × Int × Int)))))
  | (x3, x4) => (if x4 < ((GM x1 0 (min p0.length x1.length) p0).length : Int) then (ix x3 x4).bind fun x5 => (Cn nE x5).bind fun x6 => (ix x3 x4).bind fun x7 => some (.inl ((Dq x3 x4 x6), CA (x4 + 1))) else some (.inr x3))
theorem GO (nE : Nat) (p0 : List (Int × (Int × (Int × Int × Int × Int) × (Int × Int × Int × Int)) × (List (Int × Int × Int)))) (x1 : List (Int × (Int × (Int × Int × Int × Int) × (Int × Int × Int × Int)) × (List (Int × Int × Int)))) : ∀ s, Le (D3 nE p0 x1 s) (CF p0 x1 s) := by
  rintro ⟨x3, x4⟩
  unfold D3 CF
  repeat' with_reducible (first | refine Le.orR' ?_ ?_ | refine Le.bind' ?_ ?_ | refine Le.ite' ?_ ?_ | refine Le.loop' ?_ | refine Le.altS' ?_ ?_ | apply CO | exact Le.rfl' _ | (refine Le.pi2 ?_; intro _) | intro _)
def Dz (nE : Nat) (p0 : List (Int × (Int × (Int × Int × Int × Int) × (Int × Int × Int × Int)) × (List (Int × Int × Int)))) : Option (List (Int × (Int × (Int × Int × Int × Int) × (Int × Int × Int × Int)) × (List (Int × Int × Int)))) := (mk (p0.length : Int) ((0, (0, (0, 0, 0, 0), (0, 0, 0, 0)), []) : Int × (Int × (Int × Int × Int × Int) × (Int × Int × Int × Int)) × (List (Int × Int × Int)))).bind fun x1 => (EJ nE (D3 nE p0 x1) (GM x1 0 (min p0.length x1.length) p0, 0)).bind fun x2 => some x2
theorem EQ (nE : Nat) (p0 : List (Int × (Int × (Int × Int × Int × Int) × (Int × Int × Int × Int)) × (List (Int × Int × Int)))) : Le (Dz nE p0) (Cw p0) := by
  unfold Dz Cw
  repeat' with_reducible (first | refine Le.orR' ?_ ?_ | refine Le.bind' ?_ ?_ | refine Le.ite' ?_ ?_ | refine Le.loop' ?_ | refine Le.altS' ?_ ?_ | apply GO | exact Le.rfl' _ | (refine Le.pi2 ?_; intro _) | intro _)
def Ek (nE : Nat) (p0 : Int × (Int × Int × Int × Int) × (Int × Int × Int × Int)) : Int → Option (Int ⊕ (Unit ⊕ Bool))
  | x1 => (if x1 < 4 then (ix ([p0.2.2.1, p0.2.2.2.1, p0.2.2.2.2.1, p0.2.2.2.2.2] : List Int) x1).bind fun x2 => (if x2 < 0 then some true else (C5 nE x1).bind fun x4 => (if x4 < x2 then some true else (ix ([p0.2.1.1, p0.2.1.2.1, p0.2.1.2.2.1, p0.2.1.2.2.2] : List Int) x1).bind fun x5 => (if x5 < 0 then some true else (ix ([p0.2.1.1, p0.2.1.2.1, p0.2.1.2.2.1, p0.2.1.2.2.2] : List Int) x1).bind fun x6 => some (decide ((Ft .i64 x6 x2) ≠ 0))))).bind fun x3 => (if x3 = true then some (.inr (.inr false)) else some (.inl (CA (x1 + 1)))) else some (.inr (.inl ())))
theorem Hk (nE : Nat) (p0 : Int × (Int × Int × Int × Int) × (Int × Int × Int × Int)) : ∀ s, Le (Ek nE p0 s) (CU p0 s) := by
  intro x1
  unfold Ek CU
  repeat' with_reducible (first | refine Le.orR' ?_ ?_ | refine Le.bind' ?_ ?_ | refine Le.ite' ?_ ?_ | refine Le.loop' ?_ | refine Le.altS' ?_ ?_ | apply Ew | exact Le.rfl' _ | (refine Le.pi2 ?_; intro _) | intro _)
def Fy (nE : Nat) (p0 : Int × (Int × Int × Int × Int) × (Int × Int × Int × Int)) : Option Bool := (if (decide (p0.1 ≠ (-1)) && (decide (p0.1 < 0) || decide (8 ≤ p0.1))) = true then some false else Fp (EJ nE (Ek nE p0) 0) fun _ => some true)
theorem Ia (nE : Nat) (p0 : Int × (Int × Int × Int × Int) × (Int × Int × Int × Int)) : Le (Fy nE p0) (Dx p0) := by
  unfold Fy Dx
  repeat' with_reducible (first | refine Le.orR' ?_ ?_ | refine Le.bind' ?_ ?_ | refine Le.ite' ?_ ?_ | refine Le.loop' ?_ | refine Le.altS' ?_ ?_ | apply Hk | exact Le.rfl' _ | (refine Le.pi2 ?_; intro _) | intro _)
def Gs (nE : Nat) (p0 : Int × Int × Int) (p1 : Int) : Option Bool := (if p0.1 = 1 then (if 0 ≤ p0.2.1 then (if p0.2.1 < 4 then (if 0 ≤ p0.2.2 then (C5 nE p0.2.1).bind fun x2 => some (decide (p0.2.2 ≤ x2)) else some false) else some false) else some false).bind fun x1 => some x1 else (if p0.1 = 2 then some (decide (p0.2.1 = 0) && (decide (0 ≤ p0.2.2) && decide (p0.2.2 < p1))) else (if p0.1 = 3 then some (decide (p0.2.1 = 0) && decide (p0.2.2 = 0)) else some false)))
theorem Jz (nE : Nat) (p0 : Int × Int × Int) (p1 : Int) : Le (Gs nE p0 p1) (Ep p0 p1) := by
  unfold Gs Ep
  repeat' with_reducible (first | refine Le.orR' ?_ ?_ | refine Le.bind' ?_ ?_ | refine Le.ite' ?_ ?_ | refine Le.loop' ?_ | refine Le.altS' ?_ ?_ | apply Ew | exact Le.rfl' _ | (refine Le.pi2 ?_; intro _) | intro _)
def Fg (nE : Nat) (p0 : List (Int × Int × Int)) (p1 : Int) : Int → Option (Int ⊕ (Unit ⊕ Bool))
  | x1 => (if x1 < (p0.length : Int) then (ix p0 x1).bind fun x2 => (Gs nE x2 p1).bind fun x3 => (if (!x3) = true then some (.inr (.inr false)) else some (.inl (CA (x1 + 1)))) else some (.inr (.inl ())))
theorem HR (nE : Nat) (p0 : List (Int × Int × Int)) (p1 : Int) : ∀ s, Le (Fg nE p0 p1 s) (DK p0 p1 s) := by
  intro x1
  unfold Fg DK
  repeat' with_reducible (first | refine Le.orR' ?_ ?_ | refine Le.bind' ?_ ?_ | refine Le.ite' ?_ ?_ | refine Le.loop' ?_ | refine Le.altS' ?_ ?_ | apply Jz | exact Le.rfl' _ | (refine Le.pi2 ?_; intro _) | intro _)
def Gn (nE : Nat) (p0 : List (Int × Int × Int)) (p1 : Int) : Option Bool := (if 16 < (p0.length : Int) then some false else Fp (EJ nE (Fg nE p0 p1) 0) fun _ => some true)
theorem Js (nE : Nat) (p0 : List (Int × Int × Int)) (p1 : Int) : Le (Gn nE p0 p1) (Em p0 p1) := by
  unfold Gn Em
  repeat' with_reducible (first | refine Le.orR' ?_ ?_ | refine Le.bind' ?_ ?_ | refine Le.ite' ?_ ?_ | refine Le.loop' ?_ | refine Le.altS' ?_ ?_ | apply HR | exact Le.rfl' _ | (refine Le.pi2 ?_; intro _) | intro _)
def F5 (nE : Nat) (p0 : Int × (Int × (Int × Int × Int × Int) × (Int × Int × Int × Int)) × (List (Int × Int × Int))) (p1 : Int) : Option Bool := (if 0 ≤ p0.1 then (if p0.1 < 65536 then (Fy nE p0.2.1).bind fun x2 => (if x2 = true then (Gn nE p0.2.2 p1).bind fun x3 => some x3 else some false) else some false) else some false).bind fun x1 => some x1
theorem IR (nE : Nat) (p0 : Int × (Int × (Int × Int × Int × Int) × (Int × Int × Int × Int)) × (List (Int × Int × Int))) (p1 : Int) : Le (F5 nE p0 p1) (DW p0 p1) := by
  unfold F5 DW
  repeat' with_reducible (first | refine Le.orR' ?_ ?_ | refine Le.bind' ?_ ?_ | refine Le.ite' ?_ ?_ | refine Le.loop' ?_ | refine Le.altS' ?_ ?_ | apply Ia | apply Js | exact Le.rfl' _ | (refine Le.pi2 ?_; intro _) | intro _)
def EO (nE : Nat) (p1 : Int × (Int × Int × Int × Int) × (Int × Int × Int × Int)) : (Int × Int × Int × Int × Int × Int × Int × Int × Int) → Option ((Int × Int × Int × Int × Int × Int × Int × Int × Int) ⊕ ((Int × Int × Int × Int × Int × Int × Int × Int) ⊕ ((Int × (Int × Int × Int × Int) × (Int × Int × Int × Int)) × Bool)))
  | (x10, x11, x12, x13, x14, x15, x16, x17, x18) => (if x10 < 4 then (ix ([x11, x12, x13, x14] : List Int) x10).bind fun x19 => (ix ([p1.2.1.1, p1.2.1.2.1, p1.2.1.2.2.1, p1.2.1.2.2.2] : List Int) x10).bind fun x20 => (ix ([x15, x16, x17, x18] : List Int) x10).bind fun x21 => (ix ([p1.2.2.1, p1.2.2.2.1, p1.2.2.2.2.1, p1.2.2.2.2.2] : List Int) x10).bind fun x22 => (if (GT .i64 (GT .i64 (Iu .i64 x19 x20) x21) x22) ≠ 0 then some (.inr (.inr ((0, (0, 0, 0, 0), (0, 0, 0, 0)), false))) else (ix ([x11, x12, x13, x14] : List Int) x10).bind fun x23 => (ix ([p1.2.1.1, p1.2.1.2.1, p1.2.1.2.2.1, p1.2.1.2.2.2] : List Int) x10).bind fun x24 => (ix ([x11, x12, x13, x14] : List Int) x10).bind fun x25 => (ix ([x15, x16, x17, x18] : List Int) x10).bind fun x26 => (ix ([p1.2.2.1, p1.2.2.2.1, p1.2.2.2.2.1, p1.2.2.2.2.2] : List Int) x10).bind fun x27 => (ix ([x15, x16, x17, x18] : List Int) x10).bind fun x28 => some (.inl (CA (x10 + 1), (if x10 = 0 then E4 .i64 x23 x24 else x11), (if x10 = 1 then E4 .i64 x23 x24 else x12), (if x10 = 2 then E4 .i64 x23 x24 else x13), (if x10 = 3 then E4 .i64 x23 x24 else x14), (if x10 = 0 then E4 .i64 x26 x27 else x15), (if x10 = 1 then E4 .i64 x26 x27 else x16), (if x10 = 2 then E4 .i64 x26 x27 else x17), (if x10 = 3 then E4 .i64 x26 x27 else x18)))) else some (.inr (.inl (x11, x12, x13, x14, x15, x16, x17, x18))))
theorem HB (nE : Nat) (p1 : Int × (Int × Int × Int × Int) × (Int × Int × Int × Int)) : ∀ s, Le (EO nE p1 s) (Cy p1 s) := by
  rintro ⟨x10, x11, x12, x13, x14, x15, x16, x17, x18⟩
  unfold EO Cy
  repeat' with_reducible (first | refine Le.orR' ?_ ?_ | refine Le.bind' ?_ ?_ | refine Le.ite' ?_ ?_ | refine Le.loop' ?_ | refine Le.altS' ?_ ?_ | exact Le.rfl' _ | (refine Le.pi2 ?_; intro _) | intro _)
def EX (nE : Nat) (p0 : Int × (Int × Int × Int × Int) × (Int × Int × Int × Int)) (p1 : Int × (Int × Int × Int × Int) × (Int × Int × Int × Int)) : Option ((Int × (Int × Int × Int × Int) × (Int × Int × Int × Int)) × Bool) := (if p0.1 = (-1) then some p1.1 else some p0.1).bind fun x1 => (if (decide (p1.1 ≠ (-1)) && decide (x1 ≠ p1.1)) = true then some ((0, (0, 0, 0, 0), (0, 0, 0, 0)), false) else Fp (EJ nE (EO nE p1) (0, p0.2.1.1, p0.2.1.2.1, p0.2.1.2.2.1, p0.2.1.2.2.2, p0.2.2.1, p0.2.2.2.1, p0.2.2.2.2.1, p0.2.2.2.2.2)) fun (x2, x3, x4, x5, x6, x7, x8, x9) => some ((x1, (x2, x3, x4, x5), (x6, x7, x8, x9)), true))
theorem GJ (nE : Nat) (p0 : Int × (Int × Int × Int × Int) × (Int × Int × Int × Int)) (p1 : Int × (Int × Int × Int × Int) × (Int × Int × Int × Int)) : Le (EX nE p0 p1) (Ds p0 p1) := by
  unfold EX Ds
  repeat' with_reducible (first | refine Le.orR' ?_ ?_ | refine Le.bind' ?_ ?_ | refine Le.ite' ?_ ?_ | refine Le.loop' ?_ | refine Le.altS' ?_ ?_ | apply HB | exact Le.rfl' _ | (refine Le.pi2 ?_; intro _) | intro _)
def EN (nE : Nat) (p0 : Int × (Int × (Int × Int × Int × Int) × (Int × Int × Int × Int)) × (List (Int × Int × Int))) (p1 : Int × (Int × (Int × Int × Int × Int) × (Int × Int × Int × Int)) × (List (Int × Int × Int))) : Option Bool := (EX nE p0.2.1 p1.2.1).bind fun x1 => some (decide (p0.1 = p1.1) && (!(decide (p0.2.1.1 = p1.2.1.1 ∧ p0.2.1.2.1.1 = p1.2.1.2.1.1 ∧ p0.2.1.2.1.2.1 = p1.2.1.2.1.2.1 ∧ p0.2.1.2.1.2.2.1 = p1.2.1.2.1.2.2.1 ∧ p0.2.1.2.1.2.2.2 = p1.2.1.2.1.2.2.2 ∧ p0.2.1.2.2.1 = p1.2.1.2.2.1 ∧ p0.2.1.2.2.2.1 = p1.2.1.2.2.2.1 ∧ p0.2.1.2.2.2.2.1 = p1.2.1.2.2.2.2.1 ∧ p0.2.1.2.2.2.2.2 = p1.2.1.2.2.2.2.2)) && x1.2))
theorem Hx (nE : Nat) (p0 : Int × (Int × (Int × Int × Int × Int) × (Int × Int × Int × Int)) × (List (Int × Int × Int))) (p1 : Int × (Int × (Int × Int × Int × Int) × (Int × Int × Int × Int)) × (List (Int × Int × Int))) : Le (EN nE p0 p1) (CJ p0 p1) := by
  unfold EN CJ
  repeat' with_reducible (first | refine Le.orR' ?_ ?_ | refine Le.bind' ?_ ?_ | refine Le.ite' ?_ ?_ | refine Le.loop' ?_ | refine Le.altS' ?_ ?_ | apply GJ | exact Le.rfl' _ | (refine Le.pi2 ?_; intro _) | intro _)
def Fx (nE : Nat) (p0 : Int × (Int × (Int × Int × Int × Int) × (Int × Int × Int × Int)) × (List (Int × Int × Int))) (p1 : Int × (Int × (Int × (Int × Int × Int × Int) × (Int × Int × Int × Int)) × (List (Int × Int × Int))) × Bool) : Option Bool := (EN nE p0 p1.2.1).bind fun x1 => some x1
theorem Im (nE : Nat) (p0 : Int × (Int × (Int × Int × Int × Int) × (Int × Int × Int × Int)) × (List (Int × Int × Int))) (p1 : Int × (Int × (Int × (Int × Int × Int × Int) × (Int × Int × Int × Int)) × (List (Int × Int × Int))) × Bool) : Le (Fx nE p0 p1) (DX p0 p1) := by
  unfold Fx DX
  repeat' with_reducible (first | refine Le.orR' ?_ ?_ | refine Le.bind' ?_ ?_ | refine Le.ite' ?_ ?_ | refine Le.loop' ?_ | refine Le.altS' ?_ ?_ | apply Hx | exact Le.rfl' _ | (refine Le.pi2 ?_; intro _) | intro _)
def BP (nE : Nat) (p0 : List (Int × (Int × (Int × Int × Int × Int) × (Int × Int × Int × Int)) × (List (Int × Int × Int)))) (p1c0 : Int × (Int × (Int × (Int × Int × Int × Int) × (Int × Int × Int × Int)) × (List (Int × Int × Int))) × Bool) : Int → Option (Int ⊕ (Unit ⊕ Int))
  | x1 => (if x1 < (p0.length : Int) then (ix p0 x1).bind fun x2 => (Fx nE x2 p1c0).bind fun x3 => (if x3 = true then some (.inr (.inr x1)) else some (.inl (CA (x1 + 1)))) else some (.inr (.inl ())))
theorem De (nE : Nat) (p0 : List (Int × (Int × (Int × Int × Int × Int) × (Int × Int × Int × Int)) × (List (Int × Int × Int)))) (p1c0 : Int × (Int × (Int × (Int × Int × Int × Int) × (Int × Int × Int × Int)) × (List (Int × Int × Int))) × Bool) : ∀ s, Le (BP nE p0 p1c0 s) (A0 p0 p1c0 s) := by
  intro x1
  unfold BP A0
  repeat' with_reducible (first | refine Le.orR' ?_ ?_ | refine Le.bind' ?_ ?_ | refine Le.ite' ?_ ?_ | refine Le.loop' ?_ | refine Le.altS' ?_ ?_ | apply Im | exact Le.rfl' _ | (refine Le.pi2 ?_; intro _) | intro _)
def B0 (nE : Nat) (p0 : List (Int × (Int × (Int × Int × Int × Int) × (Int × Int × Int × Int)) × (List (Int × Int × Int)))) (p1c0 : Int × (Int × (Int × (Int × Int × Int × Int) × (Int × Int × Int × Int)) × (List (Int × Int × Int))) × Bool) : Option Int := Fp (EJ nE (BP nE p0 p1c0) 0) fun _ => some (-1)
theorem DH (nE : Nat) (p0 : List (Int × (Int × (Int × Int × Int × Int) × (Int × Int × Int × Int)) × (List (Int × Int × Int)))) (p1c0 : Int × (Int × (Int × (Int × Int × Int × Int) × (Int × Int × Int × Int)) × (List (Int × Int × Int))) × Bool) : Le (B0 nE p0 p1c0) (A7 p0 p1c0) := by
  unfold B0 A7
  repeat' with_reducible (first | refine Le.orR' ?_ ?_ | refine Le.bind' ?_ ?_ | refine Le.ite' ?_ ?_ | refine Le.loop' ?_ | refine Le.altS' ?_ ?_ | apply De | exact Le.rfl' _ | (refine Le.pi2 ?_; intro _) | intro _)
def BQ (nE : Nat) (p0 : List (Int × (Int × (Int × Int × Int × Int) × (Int × Int × Int × Int)) × (List (Int × Int × Int)))) (p1c0 : Int × (Int × (Int × (Int × Int × Int × Int) × (Int × Int × Int × Int)) × (List (Int × Int × Int))) × Bool) : Option Bool := (B0 nE p0 p1c0).bind fun x1 => some (decide (0 ≤ x1))
theorem Df (nE : Nat) (p0 : List (Int × (Int × (Int × Int × Int × Int) × (Int × Int × Int × Int)) × (List (Int × Int × Int)))) (p1c0 : Int × (Int × (Int × (Int × Int × Int × Int) × (Int × Int × Int × Int)) × (List (Int × Int × Int))) × Bool) : Le (BQ nE p0 p1c0) (AN p0 p1c0) := by
  unfold BQ AN
  repeat' with_reducible (first | refine Le.orR' ?_ ?_ | refine Le.bind' ?_ ?_ | refine Le.ite' ?_ ?_ | refine Le.loop' ?_ | refine Le.altS' ?_ ?_ | apply DH | exact Le.rfl' _ | (refine Le.pi2 ?_; intro _) | intro _)
def BG (nE : Nat) (p0 : List (Int × (Int × (Int × Int × Int × Int) × (Int × Int × Int × Int)) × (List (Int × Int × Int)))) (p1c0 : Int × (Int × (Int × Int × Int × Int) × (Int × Int × Int × Int)) × (List (Int × Int × Int))) : Int → Option (Int ⊕ (Unit ⊕ Int))
  | x1 => (if x1 < (p0.length : Int) then (ix p0 x1).bind fun x2 => (if (BL x2 p1c0) = true then some (.inr (.inr x1)) else some (.inl (CA (x1 + 1)))) else some (.inr (.inl ())))
theorem C1 (nE : Nat) (p0 : List (Int × (Int × (Int × Int × Int × Int) × (Int × Int × Int × Int)) × (List (Int × Int × Int)))) (p1c0 : Int × (Int × (Int × Int × Int × Int) × (Int × Int × Int × Int)) × (List (Int × Int × Int))) : ∀ s, Le (BG nE p0 p1c0 s) (AX p0 p1c0 s) := by
  intro x1
  unfold BG AX
  repeat' with_reducible (first | refine Le.orR' ?_ ?_ | refine Le.bind' ?_ ?_ | refine Le.ite' ?_ ?_ | refine Le.loop' ?_ | refine Le.altS' ?_ ?_ | exact Le.rfl' _ | (refine Le.pi2 ?_; intro _) | intro _)
def Bn (nE : Nat) (p0 : List (Int × (Int × (Int × Int × Int × Int) × (Int × Int × Int × Int)) × (List (Int × Int × Int)))) (p1c0 : Int × (Int × (Int × Int × Int × Int) × (Int × Int × Int × Int)) × (List (Int × Int × Int))) : Option Int := Fp (EJ nE (BG nE p0 p1c0) 0) fun _ => some (-1)
theorem Co (nE : Nat) (p0 : List (Int × (Int × (Int × Int × Int × Int) × (Int × Int × Int × Int)) × (List (Int × Int × Int)))) (p1c0 : Int × (Int × (Int × Int × Int × Int) × (Int × Int × Int × Int)) × (List (Int × Int × Int))) : Le (Bn nE p0 p1c0) (AP p0 p1c0) := by
  unfold Bn AP
  repeat' with_reducible (first | refine Le.orR' ?_ ?_ | refine Le.bind' ?_ ?_ | refine Le.ite' ?_ ?_ | refine Le.loop' ?_ | refine Le.altS' ?_ ?_ | apply C1 | exact Le.rfl' _ | (refine Le.pi2 ?_; intro _) | intro _)
def Bb (nE : Nat) (p0 : List (Int × (Int × (Int × Int × Int × Int) × (Int × Int × Int × Int)) × (List (Int × Int × Int)))) (p1c0 : Int × (Int × (Int × Int × Int × Int) × (Int × Int × Int × Int)) × (List (Int × Int × Int))) : Option Bool := (Bn nE p0 p1c0).bind fun x1 => some (decide (0 ≤ x1))
theorem Cc (nE : Nat) (p0 : List (Int × (Int × (Int × Int × Int × Int) × (Int × Int × Int × Int)) × (List (Int × Int × Int)))) (p1c0 : Int × (Int × (Int × Int × Int × Int) × (Int × Int × Int × Int)) × (List (Int × Int × Int))) : Le (Bb nE p0 p1c0) (Az p0 p1c0) := by
  unfold Bb Az
  repeat' with_reducible (first | refine Le.orR' ?_ ?_ | refine Le.bind' ?_ ?_ | refine Le.ite' ?_ ?_ | refine Le.loop' ?_ | refine Le.altS' ?_ ?_ | apply Co | exact Le.rfl' _ | (refine Le.pi2 ?_; intro _) | intro _)
def DR (nE : Nat) (p0 : List (Int × (Int × (Int × Int × Int × Int) × (Int × Int × Int × Int)) × (List (Int × Int × Int)))) (p1 : Int × (Int × (Int × Int × Int × Int) × (Int × Int × Int × Int)) × (List (Int × Int × Int))) (p2c0 : Int × (Int × (Int × Int × Int × Int) × (Int × Int × Int × Int)) × (List (Int × Int × Int))) : ((List (Int × (Int × (Int × Int × Int × Int) × (Int × Int × Int × Int)) × (List (Int × Int × Int)))) × Int) → Option (((List (Int × (Int × (Int × Int × Int × Int) × (Int × Int × Int × Int)) × (List (Int × Int × Int)))) × Int) ⊕ (List (Int × (Int × (Int × Int × Int × Int) × (Int × Int × Int × Int)) × (List (Int × Int × Int)))))
  | (x2, x3) => (if x3 < (p0.length : Int) then ((ix x2 x3).bind fun x5 => (if (BL x5 p2c0) = true then (Cn nE p1).bind fun x6 => (ix x2 x3).bind fun x7 => some (Dq x2 x3 (x7.1, x7.2.1, x6.2.2)) else some x2)).bind fun x4 => some (.inl (x4, CA (x3 + 1))) else some (.inr x2))
theorem GH (nE : Nat) (p0 : List (Int × (Int × (Int × Int × Int × Int) × (Int × Int × Int × Int)) × (List (Int × Int × Int)))) (p1 : Int × (Int × (Int × Int × Int × Int) × (Int × Int × Int × Int)) × (List (Int × Int × Int))) (p2c0 : Int × (Int × (Int × Int × Int × Int) × (Int × Int × Int × Int)) × (List (Int × Int × Int))) : ∀ s, Le (DR nE p0 p1 p2c0 s) (Cz p0 p1 p2c0 s) := by
  rintro ⟨x2, x3⟩
  unfold DR Cz
  repeat' with_reducible (first | refine Le.orR' ?_ ?_ | refine Le.bind' ?_ ?_ | refine Le.ite' ?_ ?_ | refine Le.loop' ?_ | refine Le.altS' ?_ ?_ | apply CO | exact Le.rfl' _ | (refine Le.pi2 ?_; intro _) | intro _)
def DQ (nE : Nat) (p0 : List (Int × (Int × (Int × Int × Int × Int) × (Int × Int × Int × Int)) × (List (Int × Int × Int)))) (p1 : Int × (Int × (Int × Int × Int × Int) × (Int × Int × Int × Int)) × (List (Int × Int × Int))) (p2c0 : Int × (Int × (Int × Int × Int × Int) × (Int × Int × Int × Int)) × (List (Int × Int × Int))) : Option (List (Int × (Int × (Int × Int × Int × Int) × (Int × Int × Int × Int)) × (List (Int × Int × Int)))) := (EJ nE (DR nE p0 p1 p2c0) (p0, 0)).bind fun x1 => some x1
theorem FH (nE : Nat) (p0 : List (Int × (Int × (Int × Int × Int × Int) × (Int × Int × Int × Int)) × (List (Int × Int × Int)))) (p1 : Int × (Int × (Int × Int × Int × Int) × (Int × Int × Int × Int)) × (List (Int × Int × Int))) (p2c0 : Int × (Int × (Int × Int × Int × Int) × (Int × Int × Int × Int)) × (List (Int × Int × Int))) : Le (DQ nE p0 p1 p2c0) (B8 p0 p1 p2c0) := by
  unfold DQ B8
  repeat' with_reducible (first | refine Le.orR' ?_ ?_ | refine Le.bind' ?_ ?_ | refine Le.ite' ?_ ?_ | refine Le.loop' ?_ | refine Le.altS' ?_ ?_ | apply GH | exact Le.rfl' _ | (refine Le.pi2 ?_; intro _) | intro _)
def BF (nE : Nat) (p0 : List (Int × (Int × (Int × Int × Int × Int) × (Int × Int × Int × Int)) × (List (Int × Int × Int)))) (p1c0 : Int × (Int × (Int × (Int × Int × Int × Int) × (Int × Int × Int × Int)) × (List (Int × Int × Int))) × Bool) : Int → Option (Int ⊕ (Unit ⊕ Int))
  | x1 => (if x1 < (p0.length : Int) then (ix p0 x1).bind fun x2 => (if (EI x2 p1c0) = true then some (.inr (.inr x1)) else some (.inl (CA (x1 + 1)))) else some (.inr (.inl ())))
theorem C0 (nE : Nat) (p0 : List (Int × (Int × (Int × Int × Int × Int) × (Int × Int × Int × Int)) × (List (Int × Int × Int)))) (p1c0 : Int × (Int × (Int × (Int × Int × Int × Int) × (Int × Int × Int × Int)) × (List (Int × Int × Int))) × Bool) : ∀ s, Le (BF nE p0 p1c0 s) (AU p0 p1c0 s) := by
  intro x1
  unfold BF AU
  repeat' with_reducible (first | refine Le.orR' ?_ ?_ | refine Le.bind' ?_ ?_ | refine Le.ite' ?_ ?_ | refine Le.loop' ?_ | refine Le.altS' ?_ ?_ | exact Le.rfl' _ | (refine Le.pi2 ?_; intro _) | intro _)
def BU (nE : Nat) (p0 : List (Int × (Int × (Int × Int × Int × Int) × (Int × Int × Int × Int)) × (List (Int × Int × Int)))) (p1c0 : Int × (Int × (Int × (Int × Int × Int × Int) × (Int × Int × Int × Int)) × (List (Int × Int × Int))) × Bool) : Option Int := Fp (EJ nE (BF nE p0 p1c0) 0) fun _ => some (-1)
theorem Do (nE : Nat) (p0 : List (Int × (Int × (Int × Int × Int × Int) × (Int × Int × Int × Int)) × (List (Int × Int × Int)))) (p1c0 : Int × (Int × (Int × (Int × Int × Int × Int) × (Int × Int × Int × Int)) × (List (Int × Int × Int))) × Bool) : Le (BU nE p0 p1c0) (AQ p0 p1c0) := by
  unfold BU AQ
  repeat' with_reducible (first | refine Le.orR' ?_ ?_ | refine Le.bind' ?_ ?_ | refine Le.ite' ?_ ?_ | refine Le.loop' ?_ | refine Le.altS' ?_ ?_ | apply C0 | exact Le.rfl' _ | (refine Le.pi2 ?_; intro _) | intro _)
def B6 (nE : Nat) (p0 : List (Int × (Int × (Int × Int × Int × Int) × (Int × Int × Int × Int)) × (List (Int × Int × Int)))) (p1 : Int) (p2 : List (Int × (Int × (Int × Int × Int × Int) × (Int × Int × Int × Int)) × (List (Int × Int × Int)))) : Option (List (Int × (Int × (Int × Int × Int × Int) × (Int × Int × Int × Int)) × (List (Int × Int × Int)))) := (DJ p0 p1 (p0.length : Int)).bind fun x1 => (if (p2.length : Int) = 0 then some p0 else (if p1 = (p0.length : Int) then (M5 p0.length (p0.length + p2.length)).bind fun x2 => (J0 p0 p2).bind fun x3 => some x3 else (if ((p0.length : Nat) : Int) < (CA ((p0.length : Int) + (p2.length : Int))) then (DJ p0 0 p1).bind fun x4 => (mk (CA ((CA ((p0.length : Int) + (p2.length : Int))) - p1)) ((0, (0, (0, 0, 0, 0), (0, 0, 0, 0)), []) : Int × (Int × (Int × Int × Int × Int) × (Int × Int × Int × Int)) × (List (Int × Int × Int)))).bind fun x5 => (M5 p0.length (x4.length + (CA ((CA ((p0.length : Int) + (p2.length : Int))) - p1)).toNat)).bind fun x6 => (J0 x4 x5).bind fun x7 => (DJ x7 p1 (x7.length : Int)).bind fun x8 => (DJ (GM x7 p1 (min p2.length x8.length) p2) (CA (p1 + (p2.length : Int))) ((GM x7 p1 (min p2.length x8.length) p2).length : Int)).bind fun x9 => (DJ p0 p1 (p0.length : Int)).bind fun x10 => some (GM (GM x7 p1 (min p2.length x8.length) p2) (CA (p1 + (p2.length : Int))) (min x10.length x9.length) x10) else none)))
theorem DT (nE : Nat) (p0 : List (Int × (Int × (Int × Int × Int × Int) × (Int × Int × Int × Int)) × (List (Int × Int × Int)))) (p1 : Int) (p2 : List (Int × (Int × (Int × Int × Int × Int) × (Int × Int × Int × Int)) × (List (Int × Int × Int)))) : Le (B6 nE p0 p1 p2) (A6 p0 p1 p2) := by
  unfold B6 A6
  repeat' with_reducible (first | refine Le.orR' ?_ ?_ | refine Le.bind' ?_ ?_ | refine Le.ite' ?_ ?_ | refine Le.loop' ?_ | refine Le.altS' ?_ ?_ | exact Le.rfl' _ | (refine Le.pi2 ?_; intro _) | intro _)
def Gk (nE : Nat) (p0 : List (Int × (Int × (Int × Int × Int × Int) × (Int × Int × Int × Int)) × (List (Int × Int × Int)))) (p1 : Int × (Int × (Int × (Int × Int × Int × Int) × (Int × Int × Int × Int)) × (List (Int × Int × Int))) × Bool) (p2 : Int) : Option ((List (Int × (Int × (Int × Int × Int × Int) × (Int × Int × Int × Int)) × (List (Int × Int × Int)))) × Int) := (if p1.2.2 = true then (BQ nE p0 (p1.1, p1.2.1, true)).bind fun x3 => some (x3, true) else some (false, false)).bind fun (x1, x2) => (if x1 = true then some (p0, 14) else (Bb nE p0 ((Ab p1.2.1).1, ((Ab p1.2.1).2.1.1, ((Ab p1.2.1).2.1.2.1.1, (Ab p1.2.1).2.1.2.1.2.1, (Ab p1.2.1).2.1.2.1.2.2.1, (Ab p1.2.1).2.1.2.1.2.2.2), ((Ab p1.2.1).2.1.2.2.1, (Ab p1.2.1).2.1.2.2.2.1, (Ab p1.2.1).2.1.2.2.2.2.1, (Ab p1.2.1).2.1.2.2.2.2.2)), (Ab p1.2.1).2.2)).bind fun x4 => (if x4 = true then (DQ nE p0 p1.2.1 ((Ab p1.2.1).1, ((Ab p1.2.1).2.1.1, ((Ab p1.2.1).2.1.2.1.1, (Ab p1.2.1).2.1.2.1.2.1, (Ab p1.2.1).2.1.2.1.2.2.1, (Ab p1.2.1).2.1.2.1.2.2.2), ((Ab p1.2.1).2.1.2.2.1, (Ab p1.2.1).2.1.2.2.2.1, (Ab p1.2.1).2.1.2.2.2.2.1, (Ab p1.2.1).2.1.2.2.2.2.2)), (Ab p1.2.1).2.2)).bind fun x5 => some (x5, 0) else (if p2 ≤ (p0.length : Int) then some (p0, 6) else (BU nE p0 (p1.1, p1.2.1, x2)).bind fun x6 => (if x6 < 0 then some (p0.length : Int) else some x6).bind fun x7 => (Cn nE p1.2.1).bind fun x8 => (B6 nE p0 x7 ([x8] : List (Int × (Int × (Int × Int × Int × Int) × (Int × Int × Int × Int)) × (List (Int × Int × Int))))).bind fun x9 => some (x9, 0))))
theorem Jo (nE : Nat) (p0 : List (Int × (Int × (Int × Int × Int × Int) × (Int × Int × Int × Int)) × (List (Int × Int × Int)))) (p1 : Int × (Int × (Int × (Int × Int × Int × Int) × (Int × Int × Int × Int)) × (List (Int × Int × Int))) × Bool) (p2 : Int) : Le (Gk nE p0 p1 p2) (Eo p0 p1 p2) := by
  unfold Gk Eo
  repeat' with_reducible (first | refine Le.orR' ?_ ?_ | refine Le.bind' ?_ ?_ | refine Le.ite' ?_ ?_ | refine Le.loop' ?_ | refine Le.altS' ?_ ?_ | apply CO | apply Df | apply Cc | apply FH | apply Do | apply DT | exact Le.rfl' _ | (refine Le.pi2 ?_; intro _) | intro _)
def Fi (nE : Nat) (p0 : Int × (Int × Int × Int × Int) × (Int × Int × Int × Int)) (p1 : Int × (Int × Int × Int × Int) × (Int × Int × Int × Int)) : Option Bool := (EX nE p0 p1).bind fun x1 => some (x1.2 && decide (x1.1.1 = p0.1 ∧ x1.1.2.1.1 = p0.2.1.1 ∧ x1.1.2.1.2.1 = p0.2.1.2.1 ∧ x1.1.2.1.2.2.1 = p0.2.1.2.2.1 ∧ x1.1.2.1.2.2.2 = p0.2.1.2.2.2 ∧ x1.1.2.2.1 = p0.2.2.1 ∧ x1.1.2.2.2.1 = p0.2.2.2.1 ∧ x1.1.2.2.2.2.1 = p0.2.2.2.2.1 ∧ x1.1.2.2.2.2.2 = p0.2.2.2.2.2))
theorem HW (nE : Nat) (p0 : Int × (Int × Int × Int × Int) × (Int × Int × Int × Int)) (p1 : Int × (Int × Int × Int × Int) × (Int × Int × Int × Int)) : Le (Fi nE p0 p1) (C3 p0 p1) := by
  unfold Fi C3
  repeat' with_reducible (first | refine Le.orR' ?_ ?_ | refine Le.bind' ?_ ?_ | refine Le.ite' ?_ ?_ | refine Le.loop' ?_ | refine Le.altS' ?_ ?_ | apply GJ | exact Le.rfl' _ | (refine Le.pi2 ?_; intro _) | intro _)
def CQ (nE : Nat) (p0 : Int × (Int × (Int × Int × Int × Int) × (Int × Int × Int × Int)) × (List (Int × Int × Int))) (p1 : Int × (Int × (Int × Int × Int × Int) × (Int × Int × Int × Int)) × (List (Int × Int × Int))) : Option Bool := (Fi nE p0.2.1 p1.2.1).bind fun x1 => some x1
theorem D9 (nE : Nat) (p0 : Int × (Int × (Int × Int × Int × Int) × (Int × Int × Int × Int)) × (List (Int × Int × Int))) (p1 : Int × (Int × (Int × Int × Int × Int) × (Int × Int × Int × Int)) × (List (Int × Int × Int))) : Le (CQ nE p0 p1) (Ca p0 p1) := by
  unfold CQ Ca
  repeat' with_reducible (first | refine Le.orR' ?_ ?_ | refine Le.bind' ?_ ?_ | refine Le.ite' ?_ ?_ | refine Le.loop' ?_ | refine Le.altS' ?_ ?_ | apply HW | exact Le.rfl' _ | (refine Le.pi2 ?_; intro _) | intro _)
def DA (nE : Nat) (p0 : List (Int × (Int × (Int × Int × Int × Int) × (Int × Int × Int × Int)) × (List (Int × Int × Int)))) (p1 : Int × (Int × (Int × Int × Int × Int) × (Int × Int × Int × Int)) × (List (Int × Int × Int))) (p2c0 : Int × (Int × (Int × Int × Int × Int) × (Int × Int × Int × Int)) × (List (Int × Int × Int))) : ((List (Int × (Int × (Int × Int × Int × Int) × (Int × Int × Int × Int)) × (List (Int × Int × Int)))) × Int) → Option (((List (Int × (Int × (Int × Int × Int × Int) × (Int × Int × Int × Int)) × (List (Int × Int × Int)))) × Int) ⊕ (List (Int × (Int × (Int × Int × Int × Int) × (Int × Int × Int × Int)) × (List (Int × Int × Int)))))
  | (x2, x3) => (if x3 < (p0.length : Int) then ((ix x2 x3).bind fun x5 => (CQ nE x5 p2c0).bind fun x6 => (if x6 = true then (Cn nE p1).bind fun x7 => (ix x2 x3).bind fun x8 => some (Dq x2 x3 (x8.1, x8.2.1, x7.2.2)) else some x2)).bind fun x4 => some (.inl (x4, CA (x3 + 1))) else some (.inr x2))
theorem Gc (nE : Nat) (p0 : List (Int × (Int × (Int × Int × Int × Int) × (Int × Int × Int × Int)) × (List (Int × Int × Int)))) (p1 : Int × (Int × (Int × Int × Int × Int) × (Int × Int × Int × Int)) × (List (Int × Int × Int))) (p2c0 : Int × (Int × (Int × Int × Int × Int) × (Int × Int × Int × Int)) × (List (Int × Int × Int))) : ∀ s, Le (DA nE p0 p1 p2c0 s) (Cj p0 p1 p2c0 s) := by
  rintro ⟨x2, x3⟩
  unfold DA Cj
  repeat' with_reducible (first | refine Le.orR' ?_ ?_ | refine Le.bind' ?_ ?_ | refine Le.ite' ?_ ?_ | refine Le.loop' ?_ | refine Le.altS' ?_ ?_ | apply CO | apply D9 | exact Le.rfl' _ | (refine Le.pi2 ?_; intro _) | intro _)
def Ea (nE : Nat) (p0 : List (Int × (Int × (Int × Int × Int × Int) × (Int × Int × Int × Int)) × (List (Int × Int × Int)))) (p1 : Int × (Int × (Int × Int × Int × Int) × (Int × Int × Int × Int)) × (List (Int × Int × Int))) (p2c0 : Int × (Int × (Int × Int × Int × Int) × (Int × Int × Int × Int)) × (List (Int × Int × Int))) : Option (List (Int × (Int × (Int × Int × Int × Int) × (Int × Int × Int × Int)) × (List (Int × Int × Int)))) := (EJ nE (DA nE p0 p1 p2c0) (p0, 0)).bind fun x1 => some x1
theorem GU (nE : Nat) (p0 : List (Int × (Int × (Int × Int × Int × Int) × (Int × Int × Int × Int)) × (List (Int × Int × Int)))) (p1 : Int × (Int × (Int × Int × Int × Int) × (Int × Int × Int × Int)) × (List (Int × Int × Int))) (p2c0 : Int × (Int × (Int × Int × Int × Int) × (Int × Int × Int × Int)) × (List (Int × Int × Int))) : Le (Ea nE p0 p1 p2c0) (Cf p0 p1 p2c0) := by
  unfold Ea Cf
  repeat' with_reducible (first | refine Le.orR' ?_ ?_ | refine Le.bind' ?_ ?_ | refine Le.ite' ?_ ?_ | refine Le.loop' ?_ | refine Le.altS' ?_ ?_ | apply Gc | exact Le.rfl' _ | (refine Le.pi2 ?_; intro _) | intro _)
def BH (nE : Nat) (p0 : List (Int × (Int × (Int × Int × Int × Int) × (Int × Int × Int × Int)) × (List (Int × Int × Int)))) (p1c0 : Int × (Int × (Int × Int × Int × Int) × (Int × Int × Int × Int)) × (List (Int × Int × Int))) : Int → Option (Int ⊕ (Unit ⊕ Int))
  | x1 => (if x1 < (p0.length : Int) then (ix p0 x1).bind fun x2 => (CQ nE x2 p1c0).bind fun x3 => (if x3 = true then some (.inr (.inr x1)) else some (.inl (CA (x1 + 1)))) else some (.inr (.inl ())))
theorem C4 (nE : Nat) (p0 : List (Int × (Int × (Int × Int × Int × Int) × (Int × Int × Int × Int)) × (List (Int × Int × Int)))) (p1c0 : Int × (Int × (Int × Int × Int × Int) × (Int × Int × Int × Int)) × (List (Int × Int × Int))) : ∀ s, Le (BH nE p0 p1c0 s) (AW p0 p1c0 s) := by
  intro x1
  unfold BH AW
  repeat' with_reducible (first | refine Le.orR' ?_ ?_ | refine Le.bind' ?_ ?_ | refine Le.ite' ?_ ?_ | refine Le.loop' ?_ | refine Le.altS' ?_ ?_ | apply D9 | exact Le.rfl' _ | (refine Le.pi2 ?_; intro _) | intro _)
def BV (nE : Nat) (p0 : List (Int × (Int × (Int × Int × Int × Int) × (Int × Int × Int × Int)) × (List (Int × Int × Int)))) (p1c0 : Int × (Int × (Int × Int × Int × Int) × (Int × Int × Int × Int)) × (List (Int × Int × Int))) : Option Int := Fp (EJ nE (BH nE p0 p1c0) 0) fun _ => some (-1)
theorem Dn (nE : Nat) (p0 : List (Int × (Int × (Int × Int × Int × Int) × (Int × Int × Int × Int)) × (List (Int × Int × Int)))) (p1c0 : Int × (Int × (Int × Int × Int × Int) × (Int × Int × Int × Int)) × (List (Int × Int × Int))) : Le (BV nE p0 p1c0) (A4 p0 p1c0) := by
  unfold BV A4
  repeat' with_reducible (first | refine Le.orR' ?_ ?_ | refine Le.bind' ?_ ?_ | refine Le.ite' ?_ ?_ | refine Le.loop' ?_ | refine Le.altS' ?_ ?_ | apply C4 | exact Le.rfl' _ | (refine Le.pi2 ?_; intro _) | intro _)
def BO (nE : Nat) (p1c0 : Int × (Int × (Int × Int × Int × Int) × (Int × Int × Int × Int)) × (List (Int × Int × Int))) : ((List (Int × (Int × (Int × Int × Int × Int) × (Int × Int × Int × Int)) × (List (Int × Int × Int)))) × Int × Int) → Option (((List (Int × (Int × (Int × Int × Int × Int) × (Int × Int × Int × Int)) × (List (Int × Int × Int)))) × Int × Int) ⊕ ((List (Int × (Int × (Int × Int × Int × Int) × (Int × Int × Int × Int)) × (List (Int × Int × Int)))) × Int))
  | (x4, x5, x6) => (if x6 < (x4.length : Int) then ((ix x4 x6).bind fun x9 => (CQ nE x9 p1c0).bind fun x10 => (if (!x10) = true then (ix x4 x5).bind fun x11 => some ((Dq x4 x5 x9), CA (x5 + 1)) else some (x4, x5))).bind fun (x7, x8) => some (.inl (x7, x8, CA (x6 + 1))) else some (.inr (x4, x5)))
theorem C7 (nE : Nat) (p1c0 : Int × (Int × (Int × Int × Int × Int) × (Int × Int × Int × Int)) × (List (Int × Int × Int))) : ∀ s, Le (BO nE p1c0 s) (AZ p1c0 s) := by
  rintro ⟨x4, x5, x6⟩
  unfold BO AZ
  repeat' with_reducible (first | refine Le.orR' ?_ ?_ | refine Le.bind' ?_ ?_ | refine Le.ite' ?_ ?_ | refine Le.loop' ?_ | refine Le.altS' ?_ ?_ | apply D9 | exact Le.rfl' _ | (refine Le.pi2 ?_; intro _) | intro _)
def BX (nE : Nat) (p0 : List (Int × (Int × (Int × Int × Int × Int) × (Int × Int × Int × Int)) × (List (Int × Int × Int)))) (p1c0 : Int × (Int × (Int × Int × Int × Int) × (Int × Int × Int × Int)) × (List (Int × Int × Int))) : Option (List (Int × (Int × (Int × Int × Int × Int) × (Int × Int × Int × Int)) × (List (Int × Int × Int)))) := (BV nE p0 p1c0).bind fun x1 => (if x1 = (-1) then some p0 else (EJ nE (BO nE p1c0) (p0, x1, CA (x1 + 1))).bind fun (x2, x3) => (DJ x2 x3 (x2.length : Int)).bind fun x12 => (Mw x2 x3 (List.replicate (x12.length) ((0, (0, (0, 0, 0, 0), (0, 0, 0, 0)), []) : Int × (Int × (Int × Int × Int × Int) × (Int × Int × Int × Int)) × (List (Int × Int × Int))))).bind fun x13 => (DJ x13 0 x3).bind fun x14 => some x14)
theorem Dr (nE : Nat) (p0 : List (Int × (Int × (Int × Int × Int × Int) × (Int × Int × Int × Int)) × (List (Int × Int × Int)))) (p1c0 : Int × (Int × (Int × Int × Int × Int) × (Int × Int × Int × Int)) × (List (Int × Int × Int))) : Le (BX nE p0 p1c0) (AS p0 p1c0) := by
  unfold BX AS
  repeat' with_reducible (first | refine Le.orR' ?_ ?_ | refine Le.bind' ?_ ?_ | refine Le.ite' ?_ ?_ | refine Le.loop' ?_ | refine Le.altS' ?_ ?_ | apply Dn | apply C7 | exact Le.rfl' _ | (refine Le.pi2 ?_; intro _) | intro _)
def BD (nE : Nat) (p1c0 : Int × (Int × (Int × Int × Int × Int) × (Int × Int × Int × Int)) × (List (Int × Int × Int))) : ((List (Int × (Int × (Int × Int × Int × Int) × (Int × Int × Int × Int)) × (List (Int × Int × Int)))) × Int × Int) → Option (((List (Int × (Int × (Int × Int × Int × Int) × (Int × Int × Int × Int)) × (List (Int × Int × Int)))) × Int × Int) ⊕ ((List (Int × (Int × (Int × Int × Int × Int) × (Int × Int × Int × Int)) × (List (Int × Int × Int)))) × Int))
  | (x4, x5, x6) => (if x6 < (x4.length : Int) then ((ix x4 x6).bind fun x9 => (if (!(BL x9 p1c0)) = true then (ix x4 x5).bind fun x10 => some ((Dq x4 x5 x9), CA (x5 + 1)) else some (x4, x5))).bind fun (x7, x8) => some (.inl (x7, x8, CA (x6 + 1))) else some (.inr (x4, x5)))
theorem CW (nE : Nat) (p1c0 : Int × (Int × (Int × Int × Int × Int) × (Int × Int × Int × Int)) × (List (Int × Int × Int))) : ∀ s, Le (BD nE p1c0 s) (AR p1c0 s) := by
  rintro ⟨x4, x5, x6⟩
  unfold BD AR
  repeat' with_reducible (first | refine Le.orR' ?_ ?_ | refine Le.bind' ?_ ?_ | refine Le.ite' ?_ ?_ | refine Le.loop' ?_ | refine Le.altS' ?_ ?_ | exact Le.rfl' _ | (refine Le.pi2 ?_; intro _) | intro _)
def BR (nE : Nat) (p0 : List (Int × (Int × (Int × Int × Int × Int) × (Int × Int × Int × Int)) × (List (Int × Int × Int)))) (p1c0 : Int × (Int × (Int × Int × Int × Int) × (Int × Int × Int × Int)) × (List (Int × Int × Int))) : Option (List (Int × (Int × (Int × Int × Int × Int) × (Int × Int × Int × Int)) × (List (Int × Int × Int)))) := (Bn nE p0 p1c0).bind fun x1 => (if x1 = (-1) then some p0 else (EJ nE (BD nE p1c0) (p0, x1, CA (x1 + 1))).bind fun (x2, x3) => (DJ x2 x3 (x2.length : Int)).bind fun x11 => (Mw x2 x3 (List.replicate (x11.length) ((0, (0, (0, 0, 0, 0), (0, 0, 0, 0)), []) : Int × (Int × (Int × Int × Int × Int) × (Int × Int × Int × Int)) × (List (Int × Int × Int))))).bind fun x12 => (DJ x12 0 x3).bind fun x13 => some x13)
theorem Dg (nE : Nat) (p0 : List (Int × (Int × (Int × Int × Int × Int) × (Int × Int × Int × Int)) × (List (Int × Int × Int)))) (p1c0 : Int × (Int × (Int × Int × Int × Int) × (Int × Int × Int × Int)) × (List (Int × Int × Int))) : Le (BR nE p0 p1c0) (AM p0 p1c0) := by
  unfold BR AM
  repeat' with_reducible (first | refine Le.orR' ?_ ?_ | refine Le.bind' ?_ ?_ | refine Le.ite' ?_ ?_ | refine Le.loop' ?_ | refine Le.altS' ?_ ?_ | apply Co | apply CW | exact Le.rfl' _ | (refine Le.pi2 ?_; intro _) | intro _)
def Fu (nE : Nat) (p0 : List (Int × (Int × (Int × Int × Int × Int) × (Int × Int × Int × Int)) × (List (Int × Int × Int)))) (p1 : Int × (Int × (Int × (Int × Int × Int × Int) × (Int × Int × Int × Int)) × (List (Int × Int × Int))) × Bool) (p2 : Int) (p3 : Int) : Option ((List (Int × (Int × (Int × Int × Int × Int) × (Int × Int × Int × Int)) × (List (Int × Int × Int)))) × Int) := (Dz nE p0).bind fun x1 => (F5 nE p1.2.1 p2).bind fun x2 => (if (!x2) = true then some (x1, 2) else (if p1.1 = 1 then (NN x1.length (((p0.length : Int)).toNat)).bind fun x3 => (Gk nE x1 p1 p3).bind fun x4 => some (x4.1, x4.2) else (if p1.1 = 2 then (Ea nE x1 p1.2.1 ((Aj p1.2.1).1, ((Aj p1.2.1).2.1.1, ((Aj p1.2.1).2.1.2.1.1, (Aj p1.2.1).2.1.2.1.2.1, (Aj p1.2.1).2.1.2.1.2.2.1, (Aj p1.2.1).2.1.2.1.2.2.2), ((Aj p1.2.1).2.1.2.2.1, (Aj p1.2.1).2.1.2.2.2.1, (Aj p1.2.1).2.1.2.2.2.2.1, (Aj p1.2.1).2.1.2.2.2.2.2)), (Aj p1.2.1).2.2)).bind fun x5 => some (x5, 0) else (if p1.1 = 3 then (Bb nE x1 ((Ab p1.2.1).1, ((Ab p1.2.1).2.1.1, ((Ab p1.2.1).2.1.2.1.1, (Ab p1.2.1).2.1.2.1.2.1, (Ab p1.2.1).2.1.2.1.2.2.1, (Ab p1.2.1).2.1.2.1.2.2.2), ((Ab p1.2.1).2.1.2.2.1, (Ab p1.2.1).2.1.2.2.2.1, (Ab p1.2.1).2.1.2.2.2.2.1, (Ab p1.2.1).2.1.2.2.2.2.2)), (Ab p1.2.1).2.2)).bind fun x6 => (if (!x6) = true then some (x1, 7) else (DQ nE x1 p1.2.1 ((Ab p1.2.1).1, ((Ab p1.2.1).2.1.1, ((Ab p1.2.1).2.1.2.1.1, (Ab p1.2.1).2.1.2.1.2.1, (Ab p1.2.1).2.1.2.1.2.2.1, (Ab p1.2.1).2.1.2.1.2.2.2), ((Ab p1.2.1).2.1.2.2.1, (Ab p1.2.1).2.1.2.2.2.1, (Ab p1.2.1).2.1.2.2.2.2.1, (Ab p1.2.1).2.1.2.2.2.2.2)), (Ab p1.2.1).2.2)).bind fun x7 => some (x7, 0)) else (if p1.1 = 4 then (BX nE x1 ((Aj p1.2.1).1, ((Aj p1.2.1).2.1.1, ((Aj p1.2.1).2.1.2.1.1, (Aj p1.2.1).2.1.2.1.2.1, (Aj p1.2.1).2.1.2.1.2.2.1, (Aj p1.2.1).2.1.2.1.2.2.2), ((Aj p1.2.1).2.1.2.2.1, (Aj p1.2.1).2.1.2.2.2.1, (Aj p1.2.1).2.1.2.2.2.2.1, (Aj p1.2.1).2.1.2.2.2.2.2)), (Aj p1.2.1).2.2)).bind fun x8 => some (x8, 0) else (if p1.1 = 5 then (Bb nE x1 ((Ab p1.2.1).1, ((Ab p1.2.1).2.1.1, ((Ab p1.2.1).2.1.2.1.1, (Ab p1.2.1).2.1.2.1.2.1, (Ab p1.2.1).2.1.2.1.2.2.1, (Ab p1.2.1).2.1.2.1.2.2.2), ((Ab p1.2.1).2.1.2.2.1, (Ab p1.2.1).2.1.2.2.2.1, (Ab p1.2.1).2.1.2.2.2.2.1, (Ab p1.2.1).2.1.2.2.2.2.2)), (Ab p1.2.1).2.2)).bind fun x9 => (if (!x9) = true then some (x1, 7) else (BR nE x1 ((Ab p1.2.1).1, ((Ab p1.2.1).2.1.1, ((Ab p1.2.1).2.1.2.1.1, (Ab p1.2.1).2.1.2.1.2.1, (Ab p1.2.1).2.1.2.1.2.2.1, (Ab p1.2.1).2.1.2.1.2.2.2), ((Ab p1.2.1).2.1.2.2.1, (Ab p1.2.1).2.1.2.2.2.1, (Ab p1.2.1).2.1.2.2.2.2.1, (Ab p1.2.1).2.1.2.2.2.2.2)), (Ab p1.2.1).2.2)).bind fun x10 => some (x10, 0)) else some (x1, 2)))))))
theorem Ie (nE : Nat) (p0 : List (Int × (Int × (Int × Int × Int × Int) × (Int × Int × Int × Int)) × (List (Int × Int × Int)))) (p1 : Int × (Int × (Int × (Int × Int × Int × Int) × (Int × Int × Int × Int)) × (List (Int × Int × Int))) × Bool) (p2 : Int) (p3 : Int) : Le (Fu nE p0 p1 p2 p3) (Cx p0 p1 p2 p3) := by
  unfold Fu Cx
  repeat' with_reducible (first | refine Le.orR' ?_ ?_ | refine Le.bind' ?_ ?_ | refine Le.ite' ?_ ?_ | refine Le.loop' ?_ | refine Le.altS' ?_ ?_ | apply EQ | apply IR | apply Cc | apply FH | apply Jo | apply GU | apply Dr | apply Dg | exact Le.rfl' _ | (refine Le.pi2 ?_; intro _) | intro _)
def EP (nE : Nat) (p0 : List (Int × (Int × (Int × Int × Int × Int) × (Int × Int × Int × Int)) × (List (Int × Int × Int)))) (p1 : List (Int × (Int × (Int × (Int × Int × Int × Int) × (Int × Int × Int × Int)) × (List (Int × Int × Int))) × Bool)) (p2 : Int) (p3 : Int) : ((List (Int × (Int × (Int × Int × Int × Int) × (Int × Int × Int × Int)) × (List (Int × Int × Int)))) × Int) → Option (((List (Int × (Int × (Int × Int × Int × Int) × (Int × Int × Int × Int)) × (List (Int × Int × Int)))) × Int) ⊕ ((List (Int × (Int × (Int × Int × Int × Int) × (Int × Int × Int × Int)) × (List (Int × Int × Int)))) ⊕ ((List (Int × (Int × (Int × Int × Int × Int) × (Int × Int × Int × Int)) × (List (Int × Int × Int)))) × Int × Int)))
  | (x3, x4) => (if x4 < (p1.length : Int) then (ix p1 x4).bind fun x5 => (Fu nE x3 x5 p2 p3).bind fun x6 => (if x6.2 ≠ 0 then (Dz nE p0).bind fun x7 => some (.inr (.inr (x7, x4, x6.2))) else some (.inl (x6.1, CA (x4 + 1)))) else some (.inr (.inl x3)))
theorem Hu (nE : Nat) (p0 : List (Int × (Int × (Int × Int × Int × Int) × (Int × Int × Int × Int)) × (List (Int × Int × Int)))) (p1 : List (Int × (Int × (Int × (Int × Int × Int × Int) × (Int × Int × Int × Int)) × (List (Int × Int × Int))) × Bool)) (p2 : Int) (p3 : Int) : ∀ s, Le (EP nE p0 p1 p2 p3 s) (Ev p0 p1 p2 p3 s) := by
  rintro ⟨x3, x4⟩
  unfold EP Ev
  repeat' with_reducible (first | refine Le.orR' ?_ ?_ | refine Le.bind' ?_ ?_ | refine Le.ite' ?_ ?_ | refine Le.loop' ?_ | refine Le.altS' ?_ ?_ | apply EQ | apply Ie | exact Le.rfl' _ | (refine Le.pi2 ?_; intro _) | intro _)
def FX (nE : Nat) (p0 : List (Int × (Int × (Int × Int × Int × Int) × (Int × Int × Int × Int)) × (List (Int × Int × Int)))) (p1 : List (Int × (Int × (Int × (Int × Int × Int × Int) × (Int × Int × Int × Int)) × (List (Int × Int × Int))) × Bool)) (p2 : Int) (p3 : Int) : Option ((List (Int × (Int × (Int × Int × Int × Int) × (Int × Int × Int × Int)) × (List (Int × Int × Int)))) × Int × Int) := (Dz nE p0).bind fun x1 => Fp (EJ nE (EP nE p0 p1 p2 p3) (x1, 0)) fun x2 => some (x2, (-1), 0)
theorem IF (nE : Nat) (p0 : List (Int × (Int × (Int × Int × Int × Int) × (Int × Int × Int × Int)) × (List (Int × Int × Int)))) (p1 : List (Int × (Int × (Int × (Int × Int × Int × Int) × (Int × Int × Int × Int)) × (List (Int × Int × Int))) × Bool)) (p2 : Int) (p3 : Int) : Le (FX nE p0 p1 p2 p3) (E6 p0 p1 p2 p3) := by
  unfold FX E6
  repeat' with_reducible (first | refine Le.orR' ?_ ?_ | refine Le.bind' ?_ ?_ | refine Le.ite' ?_ ?_ | refine Le.loop' ?_ | refine Le.altS' ?_ ?_ | apply EQ | apply Hu | exact Le.rfl' _ | (refine Le.pi2 ?_; intro _) | intro _)
def EK (nE : Nat) (p0 : Int × (Int × Int × Int × Int) × (Int × Int × Int × Int)) (p2 : Int × Int × Int × Int) : Int → Option (Int ⊕ (Unit ⊕ Bool))
  | x1 => (if x1 < 4 then (ix ([p0.2.2.1, p0.2.2.2.1, p0.2.2.2.2.1, p0.2.2.2.2.2] : List Int) x1).bind fun x2 => (ix ([p2.1, p2.2.1, p2.2.2.1, p2.2.2.2] : List Int) x1).bind fun x3 => (ix ([p0.2.1.1, p0.2.1.2.1, p0.2.1.2.2.1, p0.2.1.2.2.2] : List Int) x1).bind fun x4 => (if (GT .i64 (Iu .i64 x3 x4) x2) ≠ 0 then some (.inr (.inr false)) else some (.inl (CA (x1 + 1)))) else some (.inr (.inl ())))
theorem Hv (nE : Nat) (p0 : Int × (Int × Int × Int × Int) × (Int × Int × Int × Int)) (p2 : Int × Int × Int × Int) : ∀ s, Le (EK nE p0 p2 s) (Dd p0 p2 s) := by
  intro x1
  unfold EK Dd
  repeat' with_reducible (first | refine Le.orR' ?_ ?_ | refine Le.bind' ?_ ?_ | refine Le.ite' ?_ ?_ | refine Le.loop' ?_ | refine Le.altS' ?_ ?_ | exact Le.rfl' _ | (refine Le.pi2 ?_; intro _) | intro _)
def FZ (nE : Nat) (p0 : Int × (Int × Int × Int × Int) × (Int × Int × Int × Int)) (p1 : Int) (p2 : Int × Int × Int × Int) : Option Bool := (if (decide (p0.1 ≠ (-1)) && decide (p0.1 ≠ p1)) = true then some false else Fp (EJ nE (EK nE p0 p2) 0) fun _ => some true)
theorem IU (nE : Nat) (p0 : Int × (Int × Int × Int × Int) × (Int × Int × Int × Int)) (p1 : Int) (p2 : Int × Int × Int × Int) : Le (FZ nE p0 p1 p2) (Dw p0 p1 p2) := by
  unfold FZ Dw
  repeat' with_reducible (first | refine Le.orR' ?_ ?_ | refine Le.bind' ?_ ?_ | refine Le.ite' ?_ ?_ | refine Le.loop' ?_ | refine Le.altS' ?_ ?_ | apply Hv | exact Le.rfl' _ | (refine Le.pi2 ?_; intro _) | intro _)
def Fb (nE : Nat) (p0 : Int × (Int × (Int × Int × Int × Int) × (Int × Int × Int × Int)) × (List (Int × Int × Int))) (p1 : Int) (p2 : Int × Int × Int × Int) : Option Bool := (FZ nE p0.2.1 p1 p2).bind fun x1 => some x1
theorem HX (nE : Nat) (p0 : Int × (Int × (Int × Int × Int × Int) × (Int × Int × Int × Int)) × (List (Int × Int × Int))) (p1 : Int) (p2 : Int × Int × Int × Int) : Le (Fb nE p0 p1 p2) (DL p0 p1 p2) := by
  unfold Fb DL
  repeat' with_reducible (first | refine Le.orR' ?_ ?_ | refine Le.bind' ?_ ?_ | refine Le.ite' ?_ ?_ | refine Le.loop' ?_ | refine Le.altS' ?_ ?_ | apply IU | exact Le.rfl' _ | (refine Le.pi2 ?_; intro _) | intro _)
def BI (nE : Nat) (p0 : List (Int × (Int × (Int × Int × Int × Int) × (Int × Int × Int × Int)) × (List (Int × Int × Int)))) (p1c0 : Int) (p1c1 : Int × Int × Int × Int) : Int → Option (Int ⊕ (Unit ⊕ Int))
  | x1 => (if x1 < (p0.length : Int) then (ix p0 x1).bind fun x2 => (Fb nE x2 p1c0 p1c1).bind fun x3 => (if x3 = true then some (.inr (.inr x1)) else some (.inl (CA (x1 + 1)))) else some (.inr (.inl ())))
theorem C2 (nE : Nat) (p0 : List (Int × (Int × (Int × Int × Int × Int) × (Int × Int × Int × Int)) × (List (Int × Int × Int)))) (p1c0 : Int) (p1c1 : Int × Int × Int × Int) : ∀ s, Le (BI nE p0 p1c0 p1c1 s) (AV p0 p1c0 p1c1 s) := by
  intro x1
  unfold BI AV
  repeat' with_reducible (first | refine Le.orR' ?_ ?_ | refine Le.bind' ?_ ?_ | refine Le.ite' ?_ ?_ | refine Le.loop' ?_ | refine Le.altS' ?_ ?_ | apply HX | exact Le.rfl' _ | (refine Le.pi2 ?_; intro _) | intro _)
def BT (nE : Nat) (p0 : List (Int × (Int × (Int × Int × Int × Int) × (Int × Int × Int × Int)) × (List (Int × Int × Int)))) (p1c0 : Int) (p1c1 : Int × Int × Int × Int) : Option Int := Fp (EJ nE (BI nE p0 p1c0 p1c1) 0) fun _ => some (-1)
theorem Dj (nE : Nat) (p0 : List (Int × (Int × (Int × Int × Int × Int) × (Int × Int × Int × Int)) × (List (Int × Int × Int)))) (p1c0 : Int) (p1c1 : Int × Int × Int × Int) : Le (BT nE p0 p1c0 p1c1) (Ba p0 p1c0 p1c1) := by
  unfold BT Ba
  repeat' with_reducible (first | refine Le.orR' ?_ ?_ | refine Le.bind' ?_ ?_ | refine Le.ite' ?_ ?_ | refine Le.loop' ?_ | refine Le.altS' ?_ ?_ | apply C2 | exact Le.rfl' _ | (refine Le.pi2 ?_; intro _) | intro _)
def EV (nE : Nat) (p0 : List (Int × (Int × (Int × Int × Int × Int) × (Int × Int × Int × Int)) × (List (Int × Int × Int)))) (p1 : Int) (p2 : Int × Int × Int × Int) : Option Int := (BT nE p0 p1 p2).bind fun x1 => some x1
theorem GL (nE : Nat) (p0 : List (Int × (Int × (Int × Int × Int × Int) × (Int × Int × Int × Int)) × (List (Int × Int × Int)))) (p1 : Int) (p2 : Int × Int × Int × Int) : Le (EV nE p0 p1 p2) (Dt p0 p1 p2) := by
  unfold EV Dt
  repeat' with_reducible (first | refine Le.orR' ?_ ?_ | refine Le.bind' ?_ ?_ | refine Le.ite' ?_ ?_ | refine Le.loop' ?_ | refine Le.altS' ?_ ?_ | apply Dj | exact Le.rfl' _ | (refine Le.pi2 ?_; intro _) | intro _)
def Fw (nE : Nat) (p0 : Int) (p1 : Int) : Option Bool := (if 0 ≤ p1 then (C5 nE p0).bind fun x2 => some (decide (p1 ≤ x2)) else some false).bind fun x1 => some x1
theorem Ic (nE : Nat) (p0 : Int) (p1 : Int) : Le (Fw nE p0 p1) (Dp p0 p1) := by
  unfold Fw Dp
  repeat' with_reducible (first | refine Le.orR' ?_ ?_ | refine Le.bind' ?_ ?_ | refine Le.ite' ?_ ?_ | refine Le.loop' ?_ | refine Le.altS' ?_ ?_ | apply Ew | exact Le.rfl' _ | (refine Le.pi2 ?_; intro _) | intro _)
def FA (nE : Nat) (p0 : Int × Int × Int × Int) (p1 : Int) (p2 : Int) : Option (Int × Int × Int × Int) := ((if (CI p1) = true then (Fw nE p1 p2).bind fun x6 => some x6 else some false).bind fun x5 => (if x5 = true then (ix ([p0.1, p0.2.1, p0.2.2.1, p0.2.2.2] : List Int) p1).bind fun x7 => some ((if p1 = 0 then p2 else p0.1), (if p1 = 1 then p2 else p0.2.1), (if p1 = 2 then p2 else p0.2.2.1), (if p1 = 3 then p2 else p0.2.2.2)) else some (p0.1, p0.2.1, p0.2.2.1, p0.2.2.2))).bind fun (x1, x2, x3, x4) => some (x1, x2, x3, x4)
theorem IE (nE : Nat) (p0 : Int × Int × Int × Int) (p1 : Int) (p2 : Int) : Le (FA nE p0 p1 p2) (DB p0 p1 p2) := by
  unfold FA DB
  repeat' with_reducible (first | refine Le.orR' ?_ ?_ | refine Le.bind' ?_ ?_ | refine Le.ite' ?_ ?_ | refine Le.loop' ?_ | refine Le.altS' ?_ ?_ | apply Ic | exact Le.rfl' _ | (refine Le.pi2 ?_; intro _) | intro _)
def F4 (nE : Nat) (p0 : List (Int × Int × Int)) (p1 : Int × Int × Int × Int) : ((List (Int × (Int × Int × Int × Int))) × Int × Int × Int × Int × Int) → Option (((List (Int × (Int × Int × Int × Int))) × Int × Int × Int × Int × Int) ⊕ ((List (Int × (Int × Int × Int × Int))) × Int × Int × Int × Int))
  | (x6, x7, x8, x9, x10, x11) => (if x7 < (p0.length : Int) then ((ix p0 x7).bind fun x17 => (if x17.1 = 1 then (FA nE (x8, x9, x10, x11) x17.2.1 x17.2.2).bind fun x18 => some (x6, x18.1, x18.2.1, x18.2.2.1, x18.2.2.2) else (if x17.1 = 2 then (J0 x6 ([(x17.2.2, (x8, x9, x10, x11))] : List (Int × (Int × Int × Int × Int)))).bind fun x19 => some (x19, x8, x9, x10, x11) else (if x17.1 = 3 then some (x6, p1.1, p1.2.1, p1.2.2.1, p1.2.2.2) else some (x6, x8, x9, x10, x11))))).bind fun (x12, x13, x14, x15, x16) => some (.inl (x12, CA (x7 + 1), x13, x14, x15, x16)) else some (.inr (x6, x8, x9, x10, x11)))
theorem IX (nE : Nat) (p0 : List (Int × Int × Int)) (p1 : Int × Int × Int × Int) : ∀ s, Le (F4 nE p0 p1 s) (DV p0 p1 s) := by
  rintro ⟨x6, x7, x8, x9, x10, x11⟩
  unfold F4 DV
  repeat' with_reducible (first | refine Le.orR' ?_ ?_ | refine Le.bind' ?_ ?_ | refine Le.ite' ?_ ?_ | refine Le.loop' ?_ | refine Le.altS' ?_ ?_ | apply IE | exact Le.rfl' _ | (refine Le.pi2 ?_; intro _) | intro _)
def Ht (nE : Nat) (p0 : List (Int × Int × Int)) (p1 : Int × Int × Int × Int) : Option (List (Int × (Int × Int × Int × Int))) := (EJ nE (F4 nE p0 p1) ([], 0, p1.1, p1.2.1, p1.2.2.1, p1.2.2.2)).bind fun (x1, x2, x3, x4, x5) => some x1
theorem Km (nE : Nat) (p0 : List (Int × Int × Int)) (p1 : Int × Int × Int × Int) : Le (Ht nE p0 p1) (F1 p0 p1) := by
  unfold Ht F1
  repeat' with_reducible (first | refine Le.orR' ?_ ?_ | refine Le.bind' ?_ ?_ | refine Le.ite' ?_ ?_ | refine Le.loop' ?_ | refine Le.altS' ?_ ?_ | apply IX | exact Le.rfl' _ | (refine Le.pi2 ?_; intro _) | intro _)
def GA (nE : Nat) (p0 : List (Int × (Int × (Int × Int × Int × Int) × (Int × Int × Int × Int)) × (List (Int × Int × Int)))) (p1 : Int) (p2 : Int × Int × Int × Int) : Option (List (Int × (Int × Int × Int × Int))) := (EV nE p0 p1 p2).bind fun x1 => (if x1 < 0 then some ([] : List (Int × (Int × Int × Int × Int))) else (ix p0 x1).bind fun x2 => (Ht nE x2.2.2 p2).bind fun x3 => some x3)
theorem Jk (nE : Nat) (p0 : List (Int × (Int × (Int × Int × Int × Int) × (Int × Int × Int × Int)) × (List (Int × Int × Int)))) (p1 : Int) (p2 : Int × Int × Int × Int) : Le (GA nE p0 p1 p2) (CS p0 p1 p2) := by
  unfold GA CS
  repeat' with_reducible (first | refine Le.orR' ?_ ?_ | refine Le.bind' ?_ ?_ | refine Le.ite' ?_ ?_ | refine Le.loop' ?_ | refine Le.altS' ?_ ?_ | apply GL | apply Km | exact Le.rfl' _ | (refine Le.pi2 ?_; intro _) | intro _)
def HJ (nE : Nat)  : Option Bool := (FY nE 1 3 20 2).bind fun x1 => (FX nE ([] : List (Int × (Int × (Int × Int × Int × Int) × (Int × Int × Int × Int)) × (List (Int × Int × Int)))) ([(1, (10, Ac, ([(2, 0, 1)] : List (Int × Int × Int))), false), (1, x1, false)] : List (Int × (Int × (Int × (Int × Int × Int × Int) × (Int × Int × Int × Int)) × (List (Int × Int × Int))) × Bool)) 4 9).bind fun x2 => (GA nE x2.1 0 (1, 3, 0, 0)).bind fun x3 => (if (x2.1.length : Int) = 2 then (if x2.2.1 = (-1) then (if x2.2.2 = 0 then (ix x2.1 0).bind fun x5 => (if x5.1 = 20 then (if (x3.length : Int) = 1 then (ix x3 0).bind fun x6 => (if x6.1 = 2 then (EV nE x2.1 0 (0, 0, 0, 0)).bind fun x7 => some (decide (x7 = 1)) else some false) else some false) else some false) else some false) else some false) else some false).bind fun x4 => some x4
theorem Jp (nE : Nat)  : Le (HJ nE ) (Dc ) := by
  unfold HJ Dc
  repeat' with_reducible (first | refine Le.orR' ?_ ?_ | refine Le.bind' ?_ ?_ | refine Le.ite' ?_ ?_ | refine Le.loop' ?_ | refine Le.altS' ?_ ?_ | apply IQ | apply IF | apply GL | apply Jk | exact Le.rfl' _ | (refine Le.pi2 ?_; intro _) | intro _)
theorem KB : Dc = some true := Jp 60 _ (by kernel_rfl)
end Go.Proofs.Ytkjjioigbpkifaa
