/- Twins with fuel of ES functions: what a twin answers, the function answers. Conditions: none. -/
import Derived.Test.YtdllfdmdfdfilaaDoorpLP
import Derived.Test.YtdllfdmdfdfilaaDoorpA2
namespace Go.Proofs.YtdllfdmdfdfilaaDoor
open Go Go.RowKit
set_option linter.unusedVariables false
set_option linter.unusedSimpArgs false
set_option maxRecDepth 20000
set_option maxHeartbeats 1600000
abbrev Le {α : Type} (a b : Option α) : Prop := ∀ r, a = some r → b = some r
theorem Le.rfl' {α : Type} (a : Option α) : Le a a := fun _ h => h
theorem Le.bind' {α β : Type} {a b : Option α} {f g : α → Option β} (h : Le a b) (hf : ∀ x, Le (f x) (g x)) : Le (a.bind f) (b.bind g) := fun r e => by
  obtain ⟨x, h1, h2⟩ := Ap e
  rw [h x h1, Option.bind_some]; exact hf x r h2
theorem Le.ite' {α : Type} {c : Prop} [Decidable c] {a a' b b' : Option α} (h1 : Le a a') (h2 : Le b b') : Le (if c then a else b) (if c then a' else b') := fun r e => by
  by_cases h : c
  · rw [if_pos h] at e ⊢; exact h1 r e
  · rw [if_neg h] at e ⊢; exact h2 r e
theorem Le.orR' {α β : Type} {a b : Option (α ⊕ β)} {f g : α → Option β} (h : Le a b) (hf : ∀ x, Le (f x) (g x)) : Le (Gz a f) (Gz b g) :=
  Le.bind' h fun x => by
    cases x with
    | inl t => exact hf t
    | inr e => exact Le.rfl' _
def G8 {σ ε : Type} (n : Nat) (step : σ → Option (σ ⊕ ε)) (s : σ) : Option ε := Ct step n s
theorem E0 {σ ε : Type} {S T : σ → Option (σ ⊕ ε)} (h : ∀ s, Le (S s) (T s)) : ∀ (n : Nat) (s : σ), Le (Ct S n s) (Ct T n s)
  | 0, s => Le.rfl' _
  | n + 1, s => fun r e => by
    unfold Ct at e ⊢
    cases hs : S s with
    | none => rw [hs] at e; cases e
    | some q =>
      rw [hs] at e; rw [h s q hs]
      cases q with
      | inl s' => exact E0 h n s' r e
      | inr _ => exact e
theorem Le.loop' {σ ε : Type} {n : Nat} {S T : σ → Option (σ ⊕ ε)} {s : σ} (h : ∀ s, Le (S s) (T s)) : Le (G8 n S s) (AP T s) := fun r e => CX.2 ⟨n, E0 h n s r e⟩
theorem Le.pi2 {α β γ : Type} {f g : α × β → Option γ} (h : ∀ a b, Le (f (a, b)) (g (a, b))) : ∀ x, Le (f x) (g x) := fun x => h x.1 x.2
theorem Le.altS' {α β γ : Type} {y : α ⊕ β} {f f' : α → Option γ} {g g' : β → Option γ} (h : ∀ x, Le (f x) (f' x)) (k : ∀ x, Le (g x) (g' x)) : Le (Ho y f g) (Ho y f' g') := by
  cases y with
  | inl x => exact h x
  | inr x => exact k x
def Cb (nE : Nat) (p0 : Int × Int × Bool × Int × Int × Int × Bool × Bool × Int) (p1 : Int × Int × Int × Int) : Option Bool := (if p1.1 = 1 then some (!p0.2.2.1 && (decide (p0.2.2.2.2.2.2.2.2 = 0) && (decide (p1.2.1 = (Bn (p0.1 + 1))) && ((Al p1.2.2.1 15) && (Al p1.2.2.2 1125899906842624))))) else (if (decide (p1.2.1 ≠ p0.1) || (decide (p1.2.2.2 ≠ 0) || decide (p0.2.2.1 = (decide (p1.1 = 7))))) = true then some false else (if p1.1 = 2 then some ((!p0.2.2.2.2.2.2.1 && !p0.2.2.2.2.2.2.2.1) && (decide (p1.2.2.1 = p0.2.2.2.2.2.1) && decide (p1.2.2.1 < 8))) else (if p1.1 = 3 then some ((!p0.2.2.2.2.2.2.1 && !p0.2.2.2.2.2.2.2.1) && (decide (0 < p0.2.2.2.2.2.1) && decide (p1.2.2.1 = 0))) else (if p1.1 = 4 then some (!p0.2.2.2.2.2.2.2.1 && decide (p1.2.2.1 = 0)) else (if p1.1 = 5 then some (p0.2.2.2.2.2.2.1 && (!p0.2.2.2.2.2.2.2.1 && decide (p1.2.2.1 = 0))) else (if p1.1 = 6 then some (p0.2.2.2.2.2.2.2.1 && (Al p1.2.2.1 255)) else (if p1.1 = 7 then (if (Al p1.2.2.1 7) = true then (Jh (Ii .i64 p0.2.2.2.2.2.2.2.2 p1.2.2.1) p1.2.2.1).bind fun x2 => some (decide ((IK .i64 x2 1) = 1)) else some false).bind fun x1 => some x1 else some false))))))))
theorem DN (nE : Nat) (p0 : Int × Int × Bool × Int × Int × Int × Bool × Bool × Int) (p1 : Int × Int × Int × Int) : Le (Cb nE p0 p1) (BE p0 p1) := by
  unfold Cb BE
  repeat' with_reducible (first | refine Le.orR' ?_ ?_ | refine Le.bind' ?_ ?_ | refine Le.ite' ?_ ?_ | refine Le.loop' ?_ | refine Le.altS' ?_ ?_ | exact Le.rfl' _ | (refine Le.pi2 ?_; intro _) | intro _)
def Cz (nE : Nat) (p0 : Int × Int × Bool × Int × Int × Int × Bool × Bool × Int) (p1 : Int × Int × Int × Int) : Option ((Int × Int × Bool × Int × Int × Int × Bool × Bool × Int) × Int) := (Cb nE p0 p1).bind fun x1 => (if (!x1) = true then some (p0, 5) else Gz (if p1.1 = 1 then some (.inr ((p1.2.1, p0.2.1, true, p1.2.2.1, p1.2.2.2, 0, false, false, 0), 0)) else (if p1.1 = 2 then some (.inl (Bn (p0.2.2.2.2.2.1 + 1), p0.2.2.2.2.2.2.1, p0.2.2.2.2.2.2.2.1, p0.2.2.2.2.2.2.2.2)) else (if p1.1 = 3 then some (.inl (p0.2.2.2.2.2.1, true, p0.2.2.2.2.2.2.2.1, p0.2.2.2.2.2.2.2.2)) else (if p1.1 = 4 then some (.inl (p0.2.2.2.2.2.1, p0.2.2.2.2.2.2.1, true, p0.2.2.2.2.2.2.2.2)) else (if p1.1 = 5 then some (.inr ((p0.1, p0.2.2.2.1, false, 0, 0, 0, false, false, 0), 0)) else (if p1.1 = 6 then some (.inr ((p0.1, p0.2.1, false, 0, 0, 0, false, false, p1.2.2.1), 0)) else (if p1.1 = 7 then (Jh (IF .i64 1 p1.2.2.1) p1.2.2.1).bind fun x6 => some (.inl (p0.2.2.2.2.2.1, p0.2.2.2.2.2.2.1, p0.2.2.2.2.2.2.2.1, Dy .i64 p0.2.2.2.2.2.2.2.2 x6)) else some (.inl (p0.2.2.2.2.2.1, p0.2.2.2.2.2.2.1, p0.2.2.2.2.2.2.2.1, p0.2.2.2.2.2.2.2.2))))))))) fun (x2, x3, x4, x5) => some ((p0.1, p0.2.1, p0.2.2.1, p0.2.2.2.1, p0.2.2.2.2.1, x2, x3, x4, x5), 0))
theorem Ev (nE : Nat) (p0 : Int × Int × Bool × Int × Int × Int × Bool × Bool × Int) (p1 : Int × Int × Int × Int) : Le (Cz nE p0 p1) (Cd p0 p1) := by
  unfold Cz Cd
  repeat' with_reducible (first | refine Le.orR' ?_ ?_ | refine Le.bind' ?_ ?_ | refine Le.ite' ?_ ?_ | refine Le.loop' ?_ | refine Le.altS' ?_ ?_ | apply DN | exact Le.rfl' _ | (refine Le.pi2 ?_; intro _) | intro _)
def BP (nE : Nat) (p0 : List (Int × Int × Int × Int)) : (Int × Int × Int × Bool × Int × Int × Int × Bool × Bool × Int) → Option ((Int × Int × Int × Bool × Int × Int × Int × Bool × Bool × Int) ⊕ ((Int × Int × Bool × Int × Int × Int × Bool × Bool × Int) ⊕ ((Int × Int × Bool × Int × Int × Int × Bool × Bool × Int) × Int × Int)))
  | (x10, x11, x12, x13, x14, x15, x16, x17, x18, x19) => (if x10 < (p0.length : Int) then (ix p0 x10).bind fun x20 => (Cz nE (x11, x12, x13, x14, x15, x16, x17, x18, x19) x20).bind fun x21 => (if x21.2 ≠ 0 then some (.inr (.inr ((x11, x12, x13, x14, x15, x16, x17, x18, x19), x10, x21.2))) else some (.inl (Bn (x10 + 1), x21.1.1, x21.1.2.1, x21.1.2.2.1, x21.1.2.2.2.1, x21.1.2.2.2.2.1, x21.1.2.2.2.2.2.1, x21.1.2.2.2.2.2.2.1, x21.1.2.2.2.2.2.2.2.1, x21.1.2.2.2.2.2.2.2.2))) else some (.inr (.inl (x11, x12, x13, x14, x15, x16, x17, x18, x19))))
theorem Dm (nE : Nat) (p0 : List (Int × Int × Int × Int)) : ∀ s, Le (BP nE p0 s) (BF p0 s) := by
  rintro ⟨x10, x11, x12, x13, x14, x15, x16, x17, x18, x19⟩
  unfold BP BF
  repeat' with_reducible (first | refine Le.orR' ?_ ?_ | refine Le.bind' ?_ ?_ | refine Le.ite' ?_ ?_ | refine Le.loop' ?_ | refine Le.altS' ?_ ?_ | apply Ev | exact Le.rfl' _ | (refine Le.pi2 ?_; intro _) | intro _)
def Cj (nE : Nat) (p0 : List (Int × Int × Int × Int)) : Option ((Int × Int × Bool × Int × Int × Int × Bool × Bool × Int) × Int × Int) := Gz (G8 nE (BP nE p0) (0, 0, 0, false, 0, 0, 0, false, false, 0)) fun (x1, x2, x3, x4, x5, x6, x7, x8, x9) => some ((x1, x2, x3, x4, x5, x6, x7, x8, x9), (p0.length : Int), 0)
theorem DY (nE : Nat) (p0 : List (Int × Int × Int × Int)) : Le (Cj nE p0) (BL p0) := by
  unfold Cj BL
  repeat' with_reducible (first | refine Le.orR' ?_ ?_ | refine Le.bind' ?_ ?_ | refine Le.ite' ?_ ?_ | refine Le.loop' ?_ | refine Le.altS' ?_ ?_ | apply Dm | exact Le.rfl' _ | (refine Le.pi2 ?_; intro _) | intro _)
def B7 (nE : Nat) (p0 : List (Int × Int × Int × Int)) (p1 : Int) : (Int × Bool × Bool × Bool × Bool × Bool × Bool × Bool × Bool) → Option ((Int × Bool × Bool × Bool × Bool × Bool × Bool × Bool × Bool) ⊕ (Bool × Bool × Bool × Bool × Bool × Bool × Bool × Bool))
  | (x9, x10, x11, x12, x13, x14, x15, x16, x17) => (if x9 < (p0.length : Int) then ((ix p0 x9).bind fun x26 => (if (decide (x26.2.1 = p1) && (decide (1 ≤ x26.1) && decide (x26.1 ≤ 7))) = true then (ix ([x10, x11, x12, x13, x14, x15, x16, x17] : List Bool) x26.1).bind fun x27 => some ((if x26.1 = 0 then true else x10), (if x26.1 = 1 then true else x11), (if x26.1 = 2 then true else x12), (if x26.1 = 3 then true else x13), (if x26.1 = 4 then true else x14), (if x26.1 = 5 then true else x15), (if x26.1 = 6 then true else x16), (if x26.1 = 7 then true else x17)) else some (x10, x11, x12, x13, x14, x15, x16, x17))).bind fun (x18, x19, x20, x21, x22, x23, x24, x25) => some (.inl (Bn (x9 + 1), x18, x19, x20, x21, x22, x23, x24, x25)) else some (.inr (x10, x11, x12, x13, x14, x15, x16, x17)))
theorem DG (nE : Nat) (p0 : List (Int × Int × Int × Int)) (p1 : Int) : ∀ s, Le (B7 nE p0 p1 s) (BV p0 p1 s) := by
  rintro ⟨x9, x10, x11, x12, x13, x14, x15, x16, x17⟩
  unfold B7 BV
  repeat' with_reducible (first | refine Le.orR' ?_ ?_ | refine Le.bind' ?_ ?_ | refine Le.ite' ?_ ?_ | refine Le.loop' ?_ | refine Le.altS' ?_ ?_ | exact Le.rfl' _ | (refine Le.pi2 ?_; intro _) | intro _)
def CH (nE : Nat) (p0 : List (Int × Int × Int × Int)) (p1 : Int) : Option Int := (G8 nE (B7 nE p0 p1) (0, false, false, false, false, false, false, false, false)).bind fun (x1, x2, x3, x4, x5, x6, x7, x8) => (if (!x2) = true then some 0 else (if x6 = true then some 2 else (if x7 = true then some 3 else some 1)))
theorem EF (nE : Nat) (p0 : List (Int × Int × Int × Int)) (p1 : Int) : Le (CH nE p0 p1) (B8 p0 p1) := by
  unfold CH B8
  repeat' with_reducible (first | refine Le.orR' ?_ ?_ | refine Le.bind' ?_ ?_ | refine Le.ite' ?_ ?_ | refine Le.loop' ?_ | refine Le.altS' ?_ ?_ | apply DG | exact Le.rfl' _ | (refine Le.pi2 ?_; intro _) | intro _)
def CE (nE : Nat) (p0 : Int × Int × Int × Int) : Option (List UInt8) := (CL (Aj p0.1) ([32] : List UInt8)).bind fun x1 => (D4 p0.2.1).bind fun x2 => (CL x1 x2).bind fun x3 => (CL x3 ([32] : List UInt8)).bind fun x4 => (D4 p0.2.2.1).bind fun x5 => (CL x4 x5).bind fun x6 => (CL x6 ([32] : List UInt8)).bind fun x7 => (D4 p0.2.2.2).bind fun x8 => (CL x7 x8).bind fun x9 => some x9
theorem Ey (nE : Nat) (p0 : Int × Int × Int × Int) : Le (CE nE p0) (Bd p0) := by
  unfold CE Bd
  repeat' with_reducible (first | refine Le.orR' ?_ ?_ | refine Le.bind' ?_ ?_ | refine Le.ite' ?_ ?_ | refine Le.loop' ?_ | refine Le.altS' ?_ ?_ | exact Le.rfl' _ | (refine Le.pi2 ?_; intro _) | intro _)
def Ce (nE : Nat) (p0 : List (Int × Int × Int × Int)) : (Int × List UInt8) → Option ((Int × List UInt8) ⊕ (List UInt8))
  | (x2, x3) => (if x2 < (p0.length : Int) then (ix p0 x2).bind fun x4 => (CE nE x4).bind fun x5 => (CL x5 ([10] : List UInt8)).bind fun x6 => (CL x3 x6).bind fun x7 => some (.inl (Bn (x2 + 1), x7)) else some (.inr x3))
theorem DQ (nE : Nat) (p0 : List (Int × Int × Int × Int)) : ∀ s, Le (Ce nE p0 s) (A2 p0 s) := by
  rintro ⟨x2, x3⟩
  unfold Ce A2
  repeat' with_reducible (first | refine Le.orR' ?_ ?_ | refine Le.bind' ?_ ?_ | refine Le.ite' ?_ ?_ | refine Le.loop' ?_ | refine Le.altS' ?_ ?_ | apply Ey | exact Le.rfl' _ | (refine Le.pi2 ?_; intro _) | intro _)
def CF (nE : Nat) (p0 : List (Int × Int × Int × Int)) : Option (List UInt8) := (G8 nE (Ce nE p0) (0, ([] : List UInt8))).bind fun x1 => (Gu x1).bind fun x8 => some x8
theorem Es (nE : Nat) (p0 : List (Int × Int × Int × Int)) : Le (CF nE p0) (Bc p0) := by
  unfold CF Bc
  repeat' with_reducible (first | refine Le.orR' ?_ ?_ | refine Le.bind' ?_ ?_ | refine Le.ite' ?_ ?_ | refine Le.loop' ?_ | refine Le.altS' ?_ ?_ | apply DQ | exact Le.rfl' _ | (refine Le.pi2 ?_; intro _) | intro _)
def Ek (nE : Nat)  : Option Bool := (Cj nE ([(1, 1, 2, 30), (2, 1, 0, 0), (3, 1, 0, 0), (5, 1, 0, 0)] : List (Int × Int × Int × Int))).bind fun x1 => (if x1.2.2 = 0 then (if x1.2.1 = 4 then (if x1.1.1 = 1 ∧ x1.1.2.1 = 2 ∧ x1.1.2.2.1 = false ∧ x1.1.2.2.2.1 = 0 ∧ x1.1.2.2.2.2.1 = 0 ∧ x1.1.2.2.2.2.2.1 = 0 ∧ x1.1.2.2.2.2.2.2.1 = false ∧ x1.1.2.2.2.2.2.2.2.1 = false ∧ x1.1.2.2.2.2.2.2.2.2 = 0 then (CH nE ([(1, 1, 2, 30), (2, 1, 0, 0), (3, 1, 0, 0), (5, 1, 0, 0)] : List (Int × Int × Int × Int)) 1).bind fun x3 => (if x3 = 2 then (CM ([(1, 1, 2, 30), (2, 1, 0, 0), (3, 1, 0, 0), (5, 1, 0, 0)] : List (Int × Int × Int × Int)) 0 2).bind fun x4 => (CF nE x4).bind fun x5 => some (decide (x5 = ([98, 101, 103, 105, 110, 32, 49, 32, 50, 32, 51, 48, 10, 97, 114, 109, 32, 49, 32, 48, 32, 48, 10] : List UInt8))) else some false) else some false) else some false) else some false).bind fun x2 => some x2
theorem FR (nE : Nat)  : Le (Ek nE ) (B3 ) := by
  unfold Ek B3
  repeat' with_reducible (first | refine Le.orR' ?_ ?_ | refine Le.bind' ?_ ?_ | refine Le.ite' ?_ ?_ | refine Le.loop' ?_ | refine Le.altS' ?_ ?_ | apply DY | apply EF | apply Es | exact Le.rfl' _ | (refine Le.pi2 ?_; intro _) | intro _)
theorem GO : B3 = some true := FR 60 _ (by kernel_rfl)
end Go.Proofs.YtdllfdmdfdfilaaDoor
