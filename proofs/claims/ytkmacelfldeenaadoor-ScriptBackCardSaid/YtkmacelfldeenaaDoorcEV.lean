/- Twins with fuel of D9 functions: what a twin answers, the function answers. Conditions: none. -/
import Derived.Test.YtkmacelfldeenaaDoorcLP
import Derived.Test.YtkmacelfldeenaaDoorcA2
namespace Go.Proofs.YtkmacelfldeenaaDoor
open Go Go.RowKit
set_option linter.unusedVariables false
set_option linter.unusedSimpArgs false
set_option maxRecDepth 20000
set_option maxHeartbeats 1600000
abbrev Le {α : Type} (a b : Option α) : Prop := ∀ r, a = some r → b = some r
theorem Le.rfl' {α : Type} (a : Option α) : Le a a := fun _ h => h
theorem Le.bind' {α β : Type} {a b : Option α} {f g : α → Option β} (h : Le a b) (hf : ∀ x, Le (f x) (g x)) : Le (a.bind f) (b.bind g) := fun r e => by
  obtain ⟨x, h1, h2⟩ := Ap e
  rw [h x h1, Option.bind_some]; exact hf x r h2
theorem Le.ite' {α : Type} {c : Prop} [Decidable c] {a a' b b' : Option α} (h1 : Le a a') (h2 : Le b b') : Le (if c then a else b) (if c then a' else b') := fun r e => by
  by_cases h : c
  · rw [if_pos h] at e ⊢; exact h1 r e
  · rw [if_neg h] at e ⊢; exact h2 r e
theorem Le.orR' {α β : Type} {a b : Option (α ⊕ β)} {f g : α → Option β} (h : Le a b) (hf : ∀ x, Le (f x) (g x)) : Le (Ez a f) (Ez b g) :=
  Le.bind' h fun x => by
    cases x with
    | inl t => exact hf t
    | inr e => exact Le.rfl' _
def Fj {σ ε : Type} (n : Nat) (step : σ → Option (σ ⊕ ε)) (s : σ) : Option ε := B7 step n s
theorem Ed {σ ε : Type} {S T : σ → Option (σ ⊕ ε)} (h : ∀ s, Le (S s) (T s)) : ∀ (n : Nat) (s : σ), Le (B7 S n s) (B7 T n s)
  | 0, s => Le.rfl' _
  | n + 1, s => fun r e => by
    unfold B7 at e ⊢
    cases hs : S s with
    | none => rw [hs] at e; cases e
    | some q =>
      rw [hs] at e; rw [h s q hs]
      cases q with
      | inl s' => exact Ed h n s' r e
      | inr _ => exact e
theorem Le.loop' {σ ε : Type} {n : Nat} {S T : σ → Option (σ ⊕ ε)} {s : σ} (h : ∀ s, Le (S s) (T s)) : Le (Fj n S s) (AD T s) := fun r e => CD.2 ⟨n, Ed h n s r e⟩
theorem Le.pi2 {α β γ : Type} {f g : α × β → Option γ} (h : ∀ a b, Le (f (a, b)) (g (a, b))) : ∀ x, Le (f x) (g x) := fun x => h x.1 x.2
theorem Le.altS' {α β γ : Type} {y : α ⊕ β} {f f' : α → Option γ} {g g' : β → Option γ} (h : ∀ x, Le (f x) (f' x)) (k : ∀ x, Le (g x) (g' x)) : Le (FB y f g) (FB y f' g') := by
  cases y with
  | inl x => exact h x
  | inr x => exact k x
def BF (nE : Nat) (p0 : List UInt8) : Int → Option (Int ⊕ (Unit ⊕ Int))
  | x1 => (if x1 ≤ 11 then (if (Ai x1) = p0 then some (.inr (.inr x1)) else some (.inl (CF (x1 + 1)))) else some (.inr (.inl ())))
theorem C9 (nE : Nat) (p0 : List UInt8) : ∀ s, Le (BF nE p0 s) (AJ p0 s) := by
  intro x1
  unfold BF AJ
  repeat' with_reducible (first | refine Le.orR' ?_ ?_ | refine Le.bind' ?_ ?_ | refine Le.ite' ?_ ?_ | refine Le.loop' ?_ | refine Le.altS' ?_ ?_ | exact Le.rfl' _ | (refine Le.pi2 ?_; intro _) | intro _)
def B6 (nE : Nat) (p0 : List UInt8) : Option Int := Ez (Fj nE (BF nE p0) 1) fun _ => some 0
theorem DA (nE : Nat) (p0 : List UInt8) : Le (B6 nE p0) (Bn p0) := by
  unfold B6 Bn
  repeat' with_reducible (first | refine Le.orR' ?_ ?_ | refine Le.bind' ?_ ?_ | refine Le.ite' ?_ ?_ | refine Le.loop' ?_ | refine Le.altS' ?_ ?_ | apply C9 | exact Le.rfl' _ | (refine Le.pi2 ?_; intro _) | intro _)
def Bi (nE : Nat) (p0 : Int) : Option (List UInt8) := (if p0 = 1 then some true else (if p0 = 4 then some true else (if p0 = 5 then some true else (if p0 = 6 then some true else (if p0 = 7 then some true else some (decide (p0 = 9))))))).bind fun x1 => (if x1 = true then some ([78] : List UInt8) else (if p0 = 2 then some true else some (decide (p0 = 8))).bind fun x2 => (if x2 = true then some ([73, 78] : List UInt8) else (if p0 = 10 then some true else some (decide (p0 = 11))).bind fun x3 => (if x3 = true then some ([73] : List UInt8) else some ([] : List UInt8))))
theorem BK (nE : Nat) (p0 : Int) : Le (Bi nE p0) (AL p0) := by
  unfold Bi AL
  repeat' with_reducible (first | refine Le.orR' ?_ ?_ | refine Le.bind' ?_ ?_ | refine Le.ite' ?_ ?_ | refine Le.loop' ?_ | refine Le.altS' ?_ ?_ | exact Le.rfl' _ | (refine Le.pi2 ?_; intro _) | intro _)
def CG (nE : Nat) (p0 : Int × Int × Int) : Option Bool := (Bi nE p0.1).bind fun x1 => (if (Ai p0.1) ≠ ([63] : List UInt8) then (if (-1) ≤ p0.2.1 then (if p0.2.1 ≤ 15 then (if (-1000) ≤ p0.2.2 then (if p0.2.2 ≤ 1048576 then (if p0.2.1 = 0 then (if p0.2.2 = 0 then some true else (BA x1 ([78] : List UInt8)).bind fun x3 => some x3) else (BA x1 ([73] : List UInt8)).bind fun x4 => (if x4 = true then (if p0.2.2 = 0 then some true else (BA x1 ([78] : List UInt8)).bind fun x5 => some x5) else some false)) else some false) else some false) else some false) else some false) else some false).bind fun x2 => some x2
theorem Ey (nE : Nat) (p0 : Int × Int × Int) : Le (CG nE p0) (Bu p0) := by
  unfold CG Bu
  repeat' with_reducible (first | refine Le.orR' ?_ ?_ | refine Le.bind' ?_ ?_ | refine Le.ite' ?_ ?_ | refine Le.loop' ?_ | refine Le.altS' ?_ ?_ | apply BK | exact Le.rfl' _ | (refine Le.pi2 ?_; intro _) | intro _)
def BP (nE : Nat) (p0 : Int × Int × Int) (x2 : List UInt8) : (List UInt8 × Int) → Option ((List UInt8 × Int) ⊕ (List UInt8))
  | (x4, x5) => (if x5 < (x2.length : Int) then ((ix x2 x5).bind fun x7 => (if (x7.toNat : Int) = 73 then some p0.2.1 else some p0.2.2)).bind fun x6 => (Fu x6).bind fun x8 => (CR ([32] : List UInt8) x8).bind fun x9 => (CR x4 x9).bind fun x10 => some (.inl (x10, CF (x5 + 1))) else some (.inr x4))
theorem Dv (nE : Nat) (p0 : Int × Int × Int) (x2 : List UInt8) : ∀ s, Le (BP nE p0 x2 s) (AU p0 x2 s) := by
  rintro ⟨x4, x5⟩
  unfold BP AU
  repeat' with_reducible (first | refine Le.orR' ?_ ?_ | refine Le.bind' ?_ ?_ | refine Le.ite' ?_ ?_ | refine Le.loop' ?_ | refine Le.altS' ?_ ?_ | exact Le.rfl' _ | (refine Le.pi2 ?_; intro _) | intro _)
def BX (nE : Nat) (p0 : Int × Int × Int) : Option (List UInt8) := (CG nE p0).bind fun x1 => (if (!x1) = true then some ([] : List UInt8) else (Bi nE p0.1).bind fun x2 => (Fj nE (BP nE p0 x2) ((Ai p0.1), 0)).bind fun x3 => some x3)
theorem CY (nE : Nat) (p0 : Int × Int × Int) : Le (BX nE p0) (AY p0) := by
  unfold BX AY
  repeat' with_reducible (first | refine Le.orR' ?_ ?_ | refine Le.bind' ?_ ?_ | refine Le.ite' ?_ ?_ | refine Le.loop' ?_ | refine Le.altS' ?_ ?_ | apply BK | apply Ey | apply Dv | exact Le.rfl' _ | (refine Le.pi2 ?_; intro _) | intro _)
def Bp (nE : Nat) (x1 : List (List UInt8)) (x4 : List UInt8) : (Int × Int × Int) → Option ((Int × Int × Int) ⊕ ((Int × Int) ⊕ ((Int × Int × Int) × Bool)))
  | (x7, x8, x9) => (if x7 < (x4.length : Int) then Ez ((ix x1 (CF (x7 + 1))).bind fun x12 => (Fb x12).bind fun x13 => FB x13 (fun x14 => (ix x4 x7).bind fun x16 => (if (x16.toNat : Int) = 73 then some (.inl (x14, x9)) else some (.inl (x8, x14)))) (fun x15 => some (.inr (.inr (.inr ((0, 0, 0), false)))))) fun (x10, x11) => some (.inl (CF (x7 + 1), x10, x11)) else some (.inr (.inl (x8, x9))))
theorem CI (nE : Nat) (x1 : List (List UInt8)) (x4 : List UInt8) : ∀ s, Le (Bp nE x1 x4 s) (Am x1 x4 s) := by
  rintro ⟨x7, x8, x9⟩
  unfold Bp Am
  repeat' with_reducible (first | refine Le.orR' ?_ ?_ | refine Le.bind' ?_ ?_ | refine Le.ite' ?_ ?_ | refine Le.loop' ?_ | refine Le.altS' ?_ ?_ | exact Le.rfl' _ | (refine Le.pi2 ?_; intro _) | intro _)
def BG (nE : Nat) (p0 : List UInt8) : Option ((Int × Int × Int) × Bool) := (CS p0 ([32] : List UInt8)).bind fun x1 => (ix x1 0).bind fun x2 => (B6 nE x2).bind fun x3 => (Bi nE x3).bind fun x4 => (if (x1.length : Int) ≠ (CF (1 + (x4.length : Int))) then some ((0, 0, 0), false) else Ez (Fj nE (Bp nE x1 x4) (0, 0, 0)) fun (x5, x6) => (BX nE (x3, x5, x6)).bind fun x17 => some ((x3, x5, x6), decide (x17 = p0)))
theorem Da (nE : Nat) (p0 : List UInt8) : Le (BG nE p0) (AH p0) := by
  unfold BG AH
  repeat' with_reducible (first | refine Le.orR' ?_ ?_ | refine Le.bind' ?_ ?_ | refine Le.ite' ?_ ?_ | refine Le.loop' ?_ | refine Le.altS' ?_ ?_ | apply DA | apply BK | apply CY | apply CI | exact Le.rfl' _ | (refine Le.pi2 ?_; intro _) | intro _)
def BN (nE : Nat) (x2 : List (List UInt8)) : ((List (Int × Int × Int)) × Int) → Option (((List (Int × Int × Int)) × Int) ⊕ ((List (Int × Int × Int)) ⊕ ((List (Int × Int × Int)) × Int × Int)))
  | (x3, x4) => (if x4 < (x2.length : Int) then Ez ((ix x2 x4).bind fun x6 => (if x6 = ([] : List UInt8) then some true else (ix x6 0).bind fun x8 => some (decide ((x8.toNat : Int) = 35))).bind fun x7 => (if x7 = true then some (.inl x3) else (BG nE x6).bind fun x9 => (if (!x9.2) = true then some (.inr (.inr (.inr (([] : List (Int × Int × Int)), CF (x4 + 1), 10)))) else (CR x3 ([x9.1] : List (Int × Int × Int))).bind fun x10 => some (.inl x10)))) fun x5 => some (.inl (x5, CF (x4 + 1))) else some (.inr (.inl x3)))
theorem Dl (nE : Nat) (x2 : List (List UInt8)) : ∀ s, Le (BN nE x2 s) (Az x2 s) := by
  rintro ⟨x3, x4⟩
  unfold BN Az
  repeat' with_reducible (first | refine Le.orR' ?_ ?_ | refine Le.bind' ?_ ?_ | refine Le.ite' ?_ ?_ | refine Le.loop' ?_ | refine Le.altS' ?_ ?_ | apply Da | exact Le.rfl' _ | (refine Le.pi2 ?_; intro _) | intro _)
def Cj (nE : Nat) (p0 : List UInt8) : Option ((List (Int × Int × Int)) × Int × Int) := Ez ((CS p0 ([10] : List UInt8)).bind fun x2 => Fj nE (BN nE x2) ([], 0)) fun x1 => some (x1, 0, 0)
theorem DP (nE : Nat) (p0 : List UInt8) : Le (Cj nE p0) (AN p0) := by
  unfold Cj AN
  repeat' with_reducible (first | refine Le.orR' ?_ ?_ | refine Le.bind' ?_ ?_ | refine Le.ite' ?_ ?_ | refine Le.loop' ?_ | refine Le.altS' ?_ ?_ | apply Dl | exact Le.rfl' _ | (refine Le.pi2 ?_; intro _) | intro _)
def DJ (nE : Nat)  : Option Bool := (Cj nE ([35, 32, 115, 108, 111, 119, 101, 114, 10, 116, 117, 114, 110, 32, 49, 32, 45, 51, 48, 10] : List UInt8)).bind fun x1 => (if x1.2.2 = 0 then (if x1.2.1 = 0 then (if (x1.1.length : Int) = 1 then (ix x1.1 0).bind fun x3 => (if x3.1 = 2 ∧ x3.2.1 = 1 ∧ x3.2.2 = (-30) then (ix x1.1 0).bind fun x4 => (BX nE x4).bind fun x5 => some (decide (x5 = ([116, 117, 114, 110, 32, 49, 32, 45, 51, 48] : List UInt8))) else some false) else some false) else some false) else some false).bind fun x2 => some x2
theorem E3 (nE : Nat)  : Le (DJ nE ) (Bz ) := by
  unfold DJ Bz
  repeat' with_reducible (first | refine Le.orR' ?_ ?_ | refine Le.bind' ?_ ?_ | refine Le.ite' ?_ ?_ | refine Le.loop' ?_ | refine Le.altS' ?_ ?_ | apply CY | apply DP | exact Le.rfl' _ | (refine Le.pi2 ?_; intro _) | intro _)
theorem E0 : Bz = some true := E3 60 _ (by kernel_rfl)
end Go.Proofs.YtkmacelfldeenaaDoor
