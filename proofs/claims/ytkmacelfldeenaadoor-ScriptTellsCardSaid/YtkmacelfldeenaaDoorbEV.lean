/- Twins with fuel of E6 functions: what a twin answers, the function answers. Conditions: none. -/
import Derived.Test.YtkmacelfldeenaaDoorbLP
import Derived.Test.YtkmacelfldeenaaDoorbA2
namespace Go.Proofs.YtkmacelfldeenaaDoor
open Go Go.RowKit
set_option linter.unusedVariables false
set_option linter.unusedSimpArgs false
set_option maxRecDepth 20000
set_option maxHeartbeats 1600000
abbrev Le {α : Type} (a b : Option α) : Prop := ∀ r, a = some r → b = some r
theorem Le.rfl' {α : Type} (a : Option α) : Le a a := fun _ h => h
theorem Le.bind' {α β : Type} {a b : Option α} {f g : α → Option β} (h : Le a b) (hf : ∀ x, Le (f x) (g x)) : Le (a.bind f) (b.bind g) := fun r e => by
  obtain ⟨x, h1, h2⟩ := Al e
  rw [h x h1, Option.bind_some]; exact hf x r h2
theorem Le.ite' {α : Type} {c : Prop} [Decidable c] {a a' b b' : Option α} (h1 : Le a a') (h2 : Le b b') : Le (if c then a else b) (if c then a' else b') := fun r e => by
  by_cases h : c
  · rw [if_pos h] at e ⊢; exact h1 r e
  · rw [if_neg h] at e ⊢; exact h2 r e
theorem Le.orR' {α β : Type} {a b : Option (α ⊕ β)} {f g : α → Option β} (h : Le a b) (hf : ∀ x, Le (f x) (g x)) : Le (Fh a f) (Fh b g) :=
  Le.bind' h fun x => by
    cases x with
    | inl t => exact hf t
    | inr e => exact Le.rfl' _
def Gh {σ ε : Type} (n : Nat) (step : σ → Option (σ ⊕ ε)) (s : σ) : Option ε := Cs step n s
theorem EZ {σ ε : Type} {S T : σ → Option (σ ⊕ ε)} (h : ∀ s, Le (S s) (T s)) : ∀ (n : Nat) (s : σ), Le (Cs S n s) (Cs T n s)
  | 0, s => Le.rfl' _
  | n + 1, s => fun r e => by
    unfold Cs at e ⊢
    cases hs : S s with
    | none => rw [hs] at e; cases e
    | some q =>
      rw [hs] at e; rw [h s q hs]
      cases q with
      | inl s' => exact EZ h n s' r e
      | inr _ => exact e
theorem Le.loop' {σ ε : Type} {n : Nat} {S T : σ → Option (σ ⊕ ε)} {s : σ} (h : ∀ s, Le (S s) (T s)) : Le (Gh n S s) (AH T s) := fun r e => CU.2 ⟨n, EZ h n s r e⟩
theorem Le.pi2 {α β γ : Type} {f g : α × β → Option γ} (h : ∀ a b, Le (f (a, b)) (g (a, b))) : ∀ x, Le (f x) (g x) := fun x => h x.1 x.2
theorem Le.altS' {α β γ : Type} {y : α ⊕ β} {f f' : α → Option γ} {g g' : β → Option γ} (h : ∀ x, Le (f x) (f' x)) (k : ∀ x, Le (g x) (g' x)) : Le (GI y f g) (GI y f' g') := by
  cases y with
  | inl x => exact h x
  | inr x => exact k x
def BU (nE : Nat) (p0 : List UInt8) : Int → Option (Int ⊕ (Unit ⊕ Int))
  | x1 => (if x1 ≤ 11 then (if (Ai x1) = p0 then some (.inr (.inr x1)) else some (.inl (BE (x1 + 1)))) else some (.inr (.inl ())))
theorem Dx (nE : Nat) (p0 : List UInt8) : ∀ s, Le (BU nE p0 s) (AZ p0 s) := by
  intro x1
  unfold BU AZ
  repeat' with_reducible (first | refine Le.orR' ?_ ?_ | refine Le.bind' ?_ ?_ | refine Le.ite' ?_ ?_ | refine Le.loop' ?_ | refine Le.altS' ?_ ?_ | exact Le.rfl' _ | (refine Le.pi2 ?_; intro _) | intro _)
def Cq (nE : Nat) (p0 : List UInt8) : Option Int := Fh (Gh nE (BU nE p0) 1) fun _ => some 0
theorem Ea (nE : Nat) (p0 : List UInt8) : Le (Cq nE p0) (BD p0) := by
  unfold Cq BD
  repeat' with_reducible (first | refine Le.orR' ?_ ?_ | refine Le.bind' ?_ ?_ | refine Le.ite' ?_ ?_ | refine Le.loop' ?_ | refine Le.altS' ?_ ?_ | apply Dx | exact Le.rfl' _ | (refine Le.pi2 ?_; intro _) | intro _)
def Bq (nE : Nat) (p0 : Int) : Option (List UInt8) := (if p0 = 1 then some true else (if p0 = 4 then some true else (if p0 = 5 then some true else (if p0 = 6 then some true else (if p0 = 7 then some true else some (decide (p0 = 9))))))).bind fun x1 => (if x1 = true then some ([78] : List UInt8) else (if p0 = 2 then some true else some (decide (p0 = 8))).bind fun x2 => (if x2 = true then some ([73, 78] : List UInt8) else (if p0 = 10 then some true else some (decide (p0 = 11))).bind fun x3 => (if x3 = true then some ([73] : List UInt8) else some ([] : List UInt8))))
theorem BW (nE : Nat) (p0 : Int) : Le (Bq nE p0) (A3 p0) := by
  unfold Bq A3
  repeat' with_reducible (first | refine Le.orR' ?_ ?_ | refine Le.bind' ?_ ?_ | refine Le.ite' ?_ ?_ | refine Le.loop' ?_ | refine Le.altS' ?_ ?_ | exact Le.rfl' _ | (refine Le.pi2 ?_; intro _) | intro _)
def CZ (nE : Nat) (p0 : Int × Int × Int) : Option Bool := (Bq nE p0.1).bind fun x1 => (if (Ai p0.1) ≠ ([63] : List UInt8) then (if (-1) ≤ p0.2.1 then (if p0.2.1 ≤ 15 then (if (-1000) ≤ p0.2.2 then (if p0.2.2 ≤ 1048576 then (if p0.2.1 = 0 then (if p0.2.2 = 0 then some true else (BK x1 ([78] : List UInt8)).bind fun x3 => some x3) else (BK x1 ([73] : List UInt8)).bind fun x4 => (if x4 = true then (if p0.2.2 = 0 then some true else (BK x1 ([78] : List UInt8)).bind fun x5 => some x5) else some false)) else some false) else some false) else some false) else some false) else some false).bind fun x2 => some x2
theorem Fn (nE : Nat) (p0 : Int × Int × Int) : Le (CZ nE p0) (BA p0) := by
  unfold CZ BA
  repeat' with_reducible (first | refine Le.orR' ?_ ?_ | refine Le.bind' ?_ ?_ | refine Le.ite' ?_ ?_ | refine Le.loop' ?_ | refine Le.altS' ?_ ?_ | apply BW | exact Le.rfl' _ | (refine Le.pi2 ?_; intro _) | intro _)
def B8 (nE : Nat) (p0 : Int × Int × Int) (x2 : List UInt8) : (List UInt8 × Int) → Option ((List UInt8 × Int) ⊕ (List UInt8))
  | (x4, x5) => (if x5 < (x2.length : Int) then ((ix x2 x5).bind fun x7 => (if (x7.toNat : Int) = 73 then some p0.2.1 else some p0.2.2)).bind fun x6 => (F8 x6).bind fun x8 => (DB ([32] : List UInt8) x8).bind fun x9 => (DB x4 x9).bind fun x10 => some (.inl (x10, BE (x5 + 1))) else some (.inr x4))
theorem DV (nE : Nat) (p0 : Int × Int × Int) (x2 : List UInt8) : ∀ s, Le (B8 nE p0 x2 s) (Bc p0 x2 s) := by
  rintro ⟨x4, x5⟩
  unfold B8 Bc
  repeat' with_reducible (first | refine Le.orR' ?_ ?_ | refine Le.bind' ?_ ?_ | refine Le.ite' ?_ ?_ | refine Le.loop' ?_ | refine Le.altS' ?_ ?_ | exact Le.rfl' _ | (refine Le.pi2 ?_; intro _) | intro _)
def Ce (nE : Nat) (p0 : Int × Int × Int) : Option (List UInt8) := (CZ nE p0).bind fun x1 => (if (!x1) = true then some ([] : List UInt8) else (Bq nE p0.1).bind fun x2 => (Gh nE (B8 nE p0 x2) ((Ai p0.1), 0)).bind fun x3 => some x3)
theorem Dg (nE : Nat) (p0 : Int × Int × Int) : Le (Ce nE p0) (Ba p0) := by
  unfold Ce Ba
  repeat' with_reducible (first | refine Le.orR' ?_ ?_ | refine Le.bind' ?_ ?_ | refine Le.ite' ?_ ?_ | refine Le.loop' ?_ | refine Le.altS' ?_ ?_ | apply BW | apply Fn | apply DV | exact Le.rfl' _ | (refine Le.pi2 ?_; intro _) | intro _)
def BF (nE : Nat) (x1 : List (List UInt8)) (x4 : List UInt8) : (Int × Int × Int) → Option ((Int × Int × Int) ⊕ ((Int × Int) ⊕ ((Int × Int × Int) × Bool)))
  | (x7, x8, x9) => (if x7 < (x4.length : Int) then Fh ((ix x1 (BE (x7 + 1))).bind fun x12 => (Gp x12).bind fun x13 => GI x13 (fun x14 => (ix x4 x7).bind fun x16 => (if (x16.toNat : Int) = 73 then some (.inl (x14, x9)) else some (.inl (x8, x14)))) (fun x15 => some (.inr (.inr (.inr ((0, 0, 0), false)))))) fun (x10, x11) => some (.inl (BE (x7 + 1), x10, x11)) else some (.inr (.inl (x8, x9))))
theorem C3 (nE : Nat) (x1 : List (List UInt8)) (x4 : List UInt8) : ∀ s, Le (BF nE x1 x4 s) (Ap x1 x4 s) := by
  rintro ⟨x7, x8, x9⟩
  unfold BF Ap
  repeat' with_reducible (first | refine Le.orR' ?_ ?_ | refine Le.bind' ?_ ?_ | refine Le.ite' ?_ ?_ | refine Le.loop' ?_ | refine Le.altS' ?_ ?_ | exact Le.rfl' _ | (refine Le.pi2 ?_; intro _) | intro _)
def BT (nE : Nat) (p0 : List UInt8) : Option ((Int × Int × Int) × Bool) := (Df p0 ([32] : List UInt8)).bind fun x1 => (ix x1 0).bind fun x2 => (Cq nE x2).bind fun x3 => (Bq nE x3).bind fun x4 => (if (x1.length : Int) ≠ (BE (1 + (x4.length : Int))) then some ((0, 0, 0), false) else Fh (Gh nE (BF nE x1 x4) (0, 0, 0)) fun (x5, x6) => (Ce nE (x3, x5, x6)).bind fun x17 => some ((x3, x5, x6), decide (x17 = p0)))
theorem Dw (nE : Nat) (p0 : List UInt8) : Le (BT nE p0) (AN p0) := by
  unfold BT AN
  repeat' with_reducible (first | refine Le.orR' ?_ ?_ | refine Le.bind' ?_ ?_ | refine Le.ite' ?_ ?_ | refine Le.loop' ?_ | refine Le.altS' ?_ ?_ | apply Ea | apply BW | apply Dg | apply C3 | exact Le.rfl' _ | (refine Le.pi2 ?_; intro _) | intro _)
def BZ (nE : Nat) (x2 : List (List UInt8)) : ((List (Int × Int × Int)) × Int) → Option (((List (Int × Int × Int)) × Int) ⊕ ((List (Int × Int × Int)) ⊕ ((List (Int × Int × Int)) × Int × Int)))
  | (x3, x4) => (if x4 < (x2.length : Int) then Fh ((ix x2 x4).bind fun x6 => (if x6 = ([] : List UInt8) then some true else (ix x6 0).bind fun x8 => some (decide ((x8.toNat : Int) = 35))).bind fun x7 => (if x7 = true then some (.inl x3) else (BT nE x6).bind fun x9 => (if (!x9.2) = true then some (.inr (.inr (.inr (([] : List (Int × Int × Int)), BE (x4 + 1), 10)))) else (DB x3 ([x9.1] : List (Int × Int × Int))).bind fun x10 => some (.inl x10)))) fun x5 => some (.inl (x5, BE (x4 + 1))) else some (.inr (.inl x3)))
theorem DH (nE : Nat) (x2 : List (List UInt8)) : ∀ s, Le (BZ nE x2 s) (AK x2 s) := by
  rintro ⟨x3, x4⟩
  unfold BZ AK
  repeat' with_reducible (first | refine Le.orR' ?_ ?_ | refine Le.bind' ?_ ?_ | refine Le.ite' ?_ ?_ | refine Le.loop' ?_ | refine Le.altS' ?_ ?_ | apply Dw | exact Le.rfl' _ | (refine Le.pi2 ?_; intro _) | intro _)
def Cw (nE : Nat) (p0 : List UInt8) : Option ((List (Int × Int × Int)) × Int × Int) := Fh ((Df p0 ([10] : List UInt8)).bind fun x2 => Gh nE (BZ nE x2) ([], 0)) fun x1 => some (x1, 0, 0)
theorem Ey (nE : Nat) (p0 : List UInt8) : Le (Cw nE p0) (Bj p0) := by
  unfold Cw Bj
  repeat' with_reducible (first | refine Le.orR' ?_ ?_ | refine Le.bind' ?_ ?_ | refine Le.ite' ?_ ?_ | refine Le.loop' ?_ | refine Le.altS' ?_ ?_ | apply DH | exact Le.rfl' _ | (refine Le.pi2 ?_; intro _) | intro _)
def Ek (nE : Nat)  : Option Bool := (Cw nE ([35, 32, 115, 108, 111, 119, 101, 114, 10, 116, 117, 114, 110, 32, 49, 32, 45, 51, 48, 10] : List UInt8)).bind fun x1 => (if x1.2.2 = 0 then (if x1.2.1 = 0 then (if (x1.1.length : Int) = 1 then (ix x1.1 0).bind fun x3 => (if x3.1 = 2 ∧ x3.2.1 = 1 ∧ x3.2.2 = (-30) then (ix x1.1 0).bind fun x4 => (Ce nE x4).bind fun x5 => some (decide (x5 = ([116, 117, 114, 110, 32, 49, 32, 45, 51, 48] : List UInt8))) else some false) else some false) else some false) else some false).bind fun x2 => some x2
theorem FL (nE : Nat)  : Le (Ek nE ) (Cb ) := by
  unfold Ek Cb
  repeat' with_reducible (first | refine Le.orR' ?_ ?_ | refine Le.bind' ?_ ?_ | refine Le.ite' ?_ ?_ | refine Le.loop' ?_ | refine Le.altS' ?_ ?_ | apply Dg | apply Ey | exact Le.rfl' _ | (refine Le.pi2 ?_; intro _) | intro _)
theorem IC : Cb = some true := FL 60 _ (by kernel_rfl)
end Go.Proofs.YtkmacelfldeenaaDoor
