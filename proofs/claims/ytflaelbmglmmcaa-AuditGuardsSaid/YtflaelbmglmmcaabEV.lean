/- Twins with fuel of Gn functions: what a twin answers, the function answers. Conditions: none. -/
import Derived.Test.YtflaelbmglmmcaabLP
import Derived.Test.YtflaelbmglmmcaabA3
namespace Go.Proofs.Ytflaelbmglmmcaa
open Go Go.RowKit
set_option linter.unusedVariables false
set_option linter.unusedSimpArgs false
set_option maxRecDepth 20000
set_option maxHeartbeats 1600000
abbrev Le {α : Type} (a b : Option α) : Prop := ∀ r, a = some r → b = some r
theorem Le.rfl' {α : Type} (a : Option α) : Le a a := fun _ h => h
theorem Le.bind' {α β : Type} {a b : Option α} {f g : α → Option β} (h : Le a b) (hf : ∀ x, Le (f x) (g x)) : Le (a.bind f) (b.bind g) := fun r e => by
  obtain ⟨x, h1, h2⟩ := An e
  rw [h x h1, Option.bind_some]; exact hf x r h2
theorem Le.ite' {α : Type} {c : Prop} [Decidable c] {a a' b b' : Option α} (h1 : Le a a') (h2 : Le b b') : Le (if c then a else b) (if c then a' else b') := fun r e => by
  by_cases h : c
  · rw [if_pos h] at e ⊢; exact h1 r e
  · rw [if_neg h] at e ⊢; exact h2 r e
theorem Le.orR' {α β : Type} {a b : Option (α ⊕ β)} {f g : α → Option β} (h : Le a b) (hf : ∀ x, Le (f x) (g x)) : Le (F6 a f) (F6 b g) :=
  Le.bind' h fun x => by
    cases x with
    | inl t => exact hf t
    | inr e => exact Le.rfl' _
def Dk {σ ε : Type} (n : Nat) (step : σ → Option (σ ⊕ ε)) (s : σ) : Option ε := DV step n s
theorem GY {σ ε : Type} {S T : σ → Option (σ ⊕ ε)} (h : ∀ s, Le (S s) (T s)) : ∀ (n : Nat) (s : σ), Le (DV S n s) (DV T n s)
  | 0, s => Le.rfl' _
  | n + 1, s => fun r e => by
    unfold DV at e ⊢
    cases hs : S s with
    | none => rw [hs] at e; cases e
    | some q =>
      rw [hs] at e; rw [h s q hs]
      cases q with
      | inl s' => exact GY h n s' r e
      | inr _ => exact e
theorem Le.loop' {σ ε : Type} {n : Nat} {S T : σ → Option (σ ⊕ ε)} {s : σ} (h : ∀ s, Le (S s) (T s)) : Le (Dk n S s) (Bj T s) := fun r e => EJ.2 ⟨n, GY h n s r e⟩
theorem Le.pi2 {α β γ : Type} {f g : α × β → Option γ} (h : ∀ a b, Le (f (a, b)) (g (a, b))) : ∀ x, Le (f x) (g x) := fun x => h x.1 x.2
theorem Le.altS' {α β γ : Type} {y : α ⊕ β} {f f' : α → Option γ} {g g' : β → Option γ} (h : ∀ x, Le (f x) (f' x)) (k : ∀ x, Le (g x) (g' x)) : Le (LD y f g) (LD y f' g') := by
  cases y with
  | inl x => exact h x
  | inr x => exact k x
theorem Le.foldW' {α σ ε : Type} {S T : α → σ → Option (σ ⊕ ε)} (h : ∀ x s, Le (S x s) (T x s)) : ∀ (L : List α) (s : σ), Le (Eo S L s) (Eo T L s)
  | [], s => Le.rfl' _
  | x :: L, s => by
    show Le ((S x s).bind _) ((T x s).bind _)
    refine Le.bind' (h x s) fun o => ?_
    cases o with
    | inl s' => exact Le.foldW' h L s'
    | inr e => exact Le.rfl' _
def A6 (nE : Nat)  : ((List (Int × Int × Int)) × Int × Int) → Option (((List (Int × Int × Int)) × Int × Int) ⊕ (List (Int × Int × Int)))
  | (x1, x2, x3) => (if x2 < x3 then (ix x1 x3).bind fun x4 => (ix x1 x2).bind fun x5 => (ix x1 x2).bind fun x6 => (ix (Ap x1 x2 x4) x3).bind fun x7 => some (.inl ((Ap (Ap x1 x2 x4) x3 x5), D8 (x2 + 1), D8 (x3 - 1))) else some (.inr x1))
theorem Cg (nE : Nat)  : ∀ s, Le (A6 nE  s) (AA  s) := by
  rintro ⟨x1, x2, x3⟩
  unfold A6 AA
  repeat' with_reducible (first | refine Le.orR' ?_ ?_ | refine Le.bind' ?_ ?_ | refine Le.ite' ?_ ?_ | refine Le.loop' ?_ | refine Le.altS' ?_ ?_ | exact Le.rfl' _ | (refine Le.pi2 ?_; intro _) | intro _)
def Bb (nE : Nat) (p0 : List (Int × Int × Int)) : Option (List (Int × Int × Int)) := Dk nE (A6 nE) (p0, 0, D8 ((p0.length : Int) - 1))
theorem Cq (nE : Nat) (p0 : List (Int × Int × Int)) : Le (Bb nE p0) (Aw p0) := by
  unfold Bb Aw
  repeat' with_reducible (first | refine Le.orR' ?_ ?_ | refine Le.bind' ?_ ?_ | refine Le.ite' ?_ ?_ | refine Le.loop' ?_ | refine Le.altS' ?_ ?_ | apply Cg | exact Le.rfl' _ | (refine Le.pi2 ?_; intro _) | intro _)
def Dd (nE : Nat) (p0 : List (Int × Int × Int × Int × Int × Int)) (x2 : Int × Int × Int × Int × Int × Int × Int) : ((List (Int × Int × Int)) × (List (Int × Int))) → Option (((List (Int × Int × Int)) × (List (Int × Int))) ⊕ (List (Int × Int × Int)))
  | (x3, x4) => (if x2.2.1 = 9 then some true else some (decide (x2.2.1 = 10))).bind fun x5 => (if x5 = true then some (.inl (x3, CM x4 x2.2.2.2.1 x2.1)) else (if x2.2.1 = 8 then (if ((CP x4 x2.2.2.2.1).isSome) = true then (ix p0 ((CP x4 x2.2.2.2.1).getD 0)).bind fun x7 => some (BV x2.2 x7) else some 1125899906842624).bind fun x6 => (E9 x3 ([(x2.2.2.2.1, x2.2.2.2.2.2.1, x6)] : List (Int × Int × Int))).bind fun x8 => some (.inl (x8, x4)) else some (.inl (x3, x4))))
theorem FB (nE : Nat) (p0 : List (Int × Int × Int × Int × Int × Int)) (x2 : Int × Int × Int × Int × Int × Int × Int) : ∀ s, Le (Dd nE p0 x2 s) (BR p0 x2 s) := by
  rintro ⟨x3, x4⟩
  unfold Dd BR
  repeat' with_reducible (first | refine Le.orR' ?_ ?_ | refine Le.bind' ?_ ?_ | refine Le.ite' ?_ ?_ | refine Le.loop' ?_ | refine Le.altS' ?_ ?_ | exact Le.rfl' _ | (refine Le.pi2 ?_; intro _) | intro _)
def D5 (nE : Nat) (p0 : List (Int × Int × Int × Int × Int × Int)) : Option (List (Int × Int × Int)) := (back p0).bind fun x1 => F6 (Eo (Dd nE p0) x1 ([], ([] : List (Int × Int)))) fun (x3, x4) => (Bb nE x3).bind fun x9 => some x9
theorem GJ (nE : Nat) (p0 : List (Int × Int × Int × Int × Int × Int)) : Le (D5 nE p0) (BS p0) := by
  unfold D5 BS
  repeat' with_reducible (first | refine Le.orR' ?_ ?_ | refine Le.bind' ?_ ?_ | refine Le.ite' ?_ ?_ | refine Le.loop' ?_ | refine Le.altS' ?_ ?_ | refine Le.foldW' ?_ _ _ | apply Cq | apply FB | exact Le.rfl' _ | (refine Le.pi2 ?_; intro _) | intro _)
def DR (nE : Nat) (x1 : (List (Int × Int × Int))) (x6 : Int × Int × Int × Int × Int × Int) : (Int × (List (Int × Int))) → Option ((Int × (List (Int × Int))) ⊕ (List (Int × Int)))
  | (x7, x8) => (if x7 < (x1.length : Int) then ((ix x1 x7).bind fun x10 => (if x10.1 = x6.2.2.1 then (E9 x8 ([(x6.2.2.2.2.1, x10.2.2)] : List (Int × Int))).bind fun x11 => some x11 else some x8)).bind fun x9 => some (.inl (D8 (x7 + 1), x9)) else some (.inr x8))
theorem Gg (nE : Nat) (x1 : (List (Int × Int × Int))) (x6 : Int × Int × Int × Int × Int × Int) : ∀ s, Le (DR nE x1 x6 s) (BF x1 x6 s) := by
  rintro ⟨x7, x8⟩
  unfold DR BF
  repeat' with_reducible (first | refine Le.orR' ?_ ?_ | refine Le.bind' ?_ ?_ | refine Le.ite' ?_ ?_ | refine Le.loop' ?_ | refine Le.altS' ?_ ?_ | exact Le.rfl' _ | (refine Le.pi2 ?_; intro _) | intro _)
def DP (nE : Nat) (p0 : List (Int × Int × Int × Int × Int × Int)) (x1 : (List (Int × Int × Int))) : (Int × (List (Int × Int))) → Option ((Int × (List (Int × Int))) ⊕ (List (Int × Int)))
  | (x3, x4) => (if x3 < (p0.length : Int) then ((ix p0 x3).bind fun x6 => (if x6.1 ≠ 9 then some x4 else Dk nE (DR nE x1 x6) (0, x4))).bind fun x5 => some (.inl (D8 (x3 + 1), x5)) else some (.inr x4))
theorem Gb (nE : Nat) (p0 : List (Int × Int × Int × Int × Int × Int)) (x1 : (List (Int × Int × Int))) : ∀ s, Le (DP nE p0 x1 s) (BJ p0 x1 s) := by
  rintro ⟨x3, x4⟩
  unfold DP BJ
  repeat' with_reducible (first | refine Le.orR' ?_ ?_ | refine Le.bind' ?_ ?_ | refine Le.ite' ?_ ?_ | refine Le.loop' ?_ | refine Le.altS' ?_ ?_ | apply Gg | exact Le.rfl' _ | (refine Le.pi2 ?_; intro _) | intro _)
def ER (nE : Nat) (p0 : List (Int × Int × Int × Int × Int × Int)) : Option ((List (Int × Int × Int)) × (List (Int × Int))) := (D5 nE p0).bind fun x1 => (Dk nE (DP nE p0 x1) (0, [])).bind fun x2 => some (x1, x2)
theorem Hx (nE : Nat) (p0 : List (Int × Int × Int × Int × Int × Int)) : Le (ER nE p0) (Co p0) := by
  unfold ER Co
  repeat' with_reducible (first | refine Le.orR' ?_ ?_ | refine Le.bind' ?_ ?_ | refine Le.ite' ?_ ?_ | refine Le.loop' ?_ | refine Le.altS' ?_ ?_ | apply GJ | apply Gb | exact Le.rfl' _ | (refine Le.pi2 ?_; intro _) | intro _)
def C8 (nE : Nat) (p0 : (List (Int × Int × Int × Int × (Nat × List Int) × Int × Int × Int)) × (List (Int × Int)) × List Int) (p1 : Int × Int × Int × Int × Int × Int) : Option ((List (Int × Int × Int × Int × (Nat × List Int) × Int × Int × Int)) × (List (Int × Int)) × List Int) := (E9 p0.2.2 ([(Aq p0 p1.2.2.1)] : List Int)).bind fun x1 => (E9 p0.1 ([(p1.2.2.1, p1.2.2.2.2.1, p1.2.2.2.2.2, p1.2.1, (2, []), 0, 0, p1.2.1)] : List (Int × Int × Int × Int × (Nat × List Int) × Int × Int × Int))).bind fun x2 => some (x2, CM p0.2.1 p1.2.2.1 (p0.1.length : Int), x1)
theorem FL (nE : Nat) (p0 : (List (Int × Int × Int × Int × (Nat × List Int) × Int × Int × Int)) × (List (Int × Int)) × List Int) (p1 : Int × Int × Int × Int × Int × Int) : Le (C8 nE p0 p1) (Ct p0 p1) := by
  unfold C8 Ct
  repeat' with_reducible (first | refine Le.orR' ?_ ?_ | refine Le.bind' ?_ ?_ | refine Le.ite' ?_ ?_ | refine Le.loop' ?_ | refine Le.altS' ?_ ?_ | exact Le.rfl' _ | (refine Le.pi2 ?_; intro _) | intro _)
def CL (nE : Nat) (p0 : (List (Int × Int × Int × Int × (Nat × List Int) × Int × Int × Int)) × (List (Int × Int)) × List Int) (p1 : Int) (p2 : Int × Int × Int × Int × Int × Int) : Option ((List (Int × Int × Int × Int × (Nat × List Int) × Int × Int × Int)) × (List (Int × Int)) × List Int) := (ix p0.1 p1).bind fun x1 => (ix p0.1 p1).bind fun x2 => (if p2.1 = 2 then (ix (Ap p0.1 p1 (x2.1, x2.2.1, x2.2.2.1, x2.2.2.2.1, x2.2.2.2.2.1, x2.2.2.2.2.2.1, x2.2.2.2.2.2.2.1, p2.2.1)) p1).bind fun x3 => (Kh x3.2.2.2.2.1.1).bind fun x4 => (E9 x3.2.2.2.2.1.2 ([p2.2.2.2.1] : List Int)).bind fun x5 => (ix (Ap (Ap p0.1 p1 (x2.1, x2.2.1, x2.2.2.1, x2.2.2.2.1, x2.2.2.2.2.1, x2.2.2.2.2.2.1, x2.2.2.2.2.2.2.1, p2.2.1)) p1 (x3.1, x3.2.1, x3.2.2.1, x3.2.2.2.1, (0, []), x3.2.2.2.2.2.1, x3.2.2.2.2.2.2.1, x3.2.2.2.2.2.2.2)) p1).bind fun x6 => some ((Ap (Ap (Ap p0.1 p1 (x2.1, x2.2.1, x2.2.2.1, x2.2.2.2.1, x2.2.2.2.2.1, x2.2.2.2.2.2.1, x2.2.2.2.2.2.2.1, p2.2.1)) p1 (x3.1, x3.2.1, x3.2.2.1, x3.2.2.2.1, (0, []), x3.2.2.2.2.2.1, x3.2.2.2.2.2.2.1, x3.2.2.2.2.2.2.2)) p1 (x6.1, x6.2.1, x6.2.2.1, x6.2.2.2.1, (2, x5), x6.2.2.2.2.2.1, x6.2.2.2.2.2.2.1, x6.2.2.2.2.2.2.2)), p0.2.1, p0.2.2) else (ix (Ap p0.1 p1 (x2.1, x2.2.1, x2.2.2.1, x2.2.2.2.1, x2.2.2.2.2.1, x2.2.2.2.2.2.1, x2.2.2.2.2.2.2.1, p2.2.1)) p1).bind fun x7 => (if p2.1 = 3 then (ix (Ap (Ap p0.1 p1 (x2.1, x2.2.1, x2.2.2.1, x2.2.2.2.1, x2.2.2.2.2.1, x2.2.2.2.2.2.1, x2.2.2.2.2.2.2.1, p2.2.1)) p1 (x7.1, x7.2.1, x7.2.2.1, x7.2.2.2.1, x7.2.2.2.2.1, p2.1, x7.2.2.2.2.2.2.1, x7.2.2.2.2.2.2.2)) p1).bind fun x9 => some (Ap (Ap (Ap p0.1 p1 (x2.1, x2.2.1, x2.2.2.1, x2.2.2.2.1, x2.2.2.2.2.1, x2.2.2.2.2.2.1, x2.2.2.2.2.2.2.1, p2.2.1)) p1 (x7.1, x7.2.1, x7.2.2.1, x7.2.2.2.1, x7.2.2.2.2.1, p2.1, x7.2.2.2.2.2.2.1, x7.2.2.2.2.2.2.2)) p1 (x9.1, x9.2.1, x9.2.2.1, x9.2.2.2.1, x9.2.2.2.2.1, x9.2.2.2.2.2.1, p2.2.2.2.2.1, x9.2.2.2.2.2.2.2)) else some (Ap (Ap p0.1 p1 (x2.1, x2.2.1, x2.2.2.1, x2.2.2.2.1, x2.2.2.2.2.1, x2.2.2.2.2.2.1, x2.2.2.2.2.2.2.1, p2.2.1)) p1 (x7.1, x7.2.1, x7.2.2.1, x7.2.2.2.1, x7.2.2.2.2.1, p2.1, x7.2.2.2.2.2.2.1, x7.2.2.2.2.2.2.2))).bind fun x8 => (ix p0.2.2 p1).bind fun x10 => some (x8, CM p0.2.1 p2.2.2.1 x10, p0.2.2))
theorem Fd (nE : Nat) (p0 : (List (Int × Int × Int × Int × (Nat × List Int) × Int × Int × Int)) × (List (Int × Int)) × List Int) (p1 : Int) (p2 : Int × Int × Int × Int × Int × Int) : Le (CL nE p0 p1 p2) (B9 p0 p1 p2) := by
  unfold CL B9
  repeat' with_reducible (first | refine Le.orR' ?_ ?_ | refine Le.bind' ?_ ?_ | refine Le.ite' ?_ ?_ | refine Le.loop' ?_ | refine Le.altS' ?_ ?_ | exact Le.rfl' _ | (refine Le.pi2 ?_; intro _) | intro _)
def Df (nE : Nat) (p0 : (List (Int × Int × Int × Int × (Nat × List Int) × Int × Int × Int)) × (List (Int × Int)) × List Int) (p1 : Int × Int × Int × Int × Int × Int) : Option ((List (Int × Int × Int × Int × (Nat × List Int) × Int × Int × Int)) × (List (Int × Int)) × List Int) := (if p1.1 = 1 then (C8 nE p0 p1).bind fun x1 => some x1 else (if p1.1 = 2 then some true else (if p1.1 = 3 then some true else some (decide (p1.1 = 4)))).bind fun x2 => (if x2 = true then (if (Aq p0 p1.2.2.1) ≠ (-1) then (CL nE p0 (Aq p0 p1.2.2.1) p1).bind fun x3 => some x3 else some p0) else some p0))
theorem FC (nE : Nat) (p0 : (List (Int × Int × Int × Int × (Nat × List Int) × Int × Int × Int)) × (List (Int × Int)) × List Int) (p1 : Int × Int × Int × Int × Int × Int) : Le (Df nE p0 p1) (Cs p0 p1) := by
  unfold Df Cs
  repeat' with_reducible (first | refine Le.orR' ?_ ?_ | refine Le.bind' ?_ ?_ | refine Le.ite' ?_ ?_ | refine Le.loop' ?_ | refine Le.altS' ?_ ?_ | apply FL | apply Fd | exact Le.rfl' _ | (refine Le.pi2 ?_; intro _) | intro _)
def EA (nE : Nat) (p0 : List (Int × Int × Int × Int × Int × Int)) : (Int × (List (Int × Int × Int × Int × (Nat × List Int) × Int × Int × Int)) × List Int × (List (Int × Int))) → Option ((Int × (List (Int × Int × Int × Int × (Nat × List Int) × Int × Int × Int)) × List Int × (List (Int × Int))) ⊕ ((List (Int × Int × Int × Int × (Nat × List Int) × Int × Int × Int)) × List Int × (List (Int × Int))))
  | (x4, x5, x6, x7) => (if x4 < (p0.length : Int) then (ix p0 x4).bind fun x8 => (Df nE (x5, x7, x6) x8).bind fun x9 => some (.inl (D8 (x4 + 1), x9.1, x9.2.2, x9.2.1)) else some (.inr (x5, x6, x7)))
theorem Hj (nE : Nat) (p0 : List (Int × Int × Int × Int × Int × Int)) : ∀ s, Le (EA nE p0 s) (En p0 s) := by
  rintro ⟨x4, x5, x6, x7⟩
  unfold EA En
  repeat' with_reducible (first | refine Le.orR' ?_ ?_ | refine Le.bind' ?_ ?_ | refine Le.ite' ?_ ?_ | refine Le.loop' ?_ | refine Le.altS' ?_ ?_ | apply FC | exact Le.rfl' _ | (refine Le.pi2 ?_; intro _) | intro _)
def FG (nE : Nat) (p0 : List (Int × Int × Int × Int × Int × Int)) : Option (List (Int × Int × Int × Int × List Int × Int × Int × Int)) := (Dk nE (EA nE p0) (0, [], [], ([] : List (Int × Int)))).bind fun (x1, x2, x3) => (FY Lf x1).bind fun x10 => some x10
theorem Iw (nE : Nat) (p0 : List (Int × Int × Int × Int × Int × Int)) : Le (FG nE p0) (Fc p0) := by
  unfold FG Fc
  repeat' with_reducible (first | refine Le.orR' ?_ ?_ | refine Le.bind' ?_ ?_ | refine Le.ite' ?_ ?_ | refine Le.loop' ?_ | refine Le.altS' ?_ ?_ | apply Hj | exact Le.rfl' _ | (refine Le.pi2 ?_; intro _) | intro _)
def Dq (nE : Nat) (p0 : Int × Int × Int × Int × List Int × Int × Int × Int) : (Int × (List (Int × Unit))) → Option ((Int × (List (Int × Unit))) ⊕ (List (Int × Unit)))
  | (x2, x3) => (if x2 < (p0.2.2.2.2.1.length : Int) then (ix p0.2.2.2.2.1 x2).bind fun x4 => some (.inl (D8 (x2 + 1), CM x3 x4 ())) else some (.inr x3))
theorem F0 (nE : Nat) (p0 : Int × Int × Int × Int × List Int × Int × Int × Int) : ∀ s, Le (Dq nE p0 s) (Dj p0 s) := by
  rintro ⟨x2, x3⟩
  unfold Dq Dj
  repeat' with_reducible (first | refine Le.orR' ?_ ?_ | refine Le.bind' ?_ ?_ | refine Le.ite' ?_ ?_ | refine Le.loop' ?_ | refine Le.altS' ?_ ?_ | exact Le.rfl' _ | (refine Le.pi2 ?_; intro _) | intro _)
def ED (nE : Nat) (p0 : Int × Int × Int × Int × List Int × Int × Int × Int) : Option Bool := (Dk nE (Dq nE p0) (0, ([] : List (Int × Unit)))).bind fun x1 => some (decide ((x1.length : Int) < (p0.2.2.2.2.1.length : Int)))
theorem He (nE : Nat) (p0 : Int × Int × Int × Int × List Int × Int × Int × Int) : Le (ED nE p0) (DK p0) := by
  unfold ED DK
  repeat' with_reducible (first | refine Le.orR' ?_ ?_ | refine Le.bind' ?_ ?_ | refine Le.ite' ?_ ?_ | refine Le.loop' ?_ | refine Le.altS' ?_ ?_ | apply F0 | exact Le.rfl' _ | (refine Le.pi2 ?_; intro _) | intro _)
def AZ (nE : Nat) (p0 : List (Int × Int × Int)) (p1c0 : Int) : Int → Option (Int ⊕ (Unit ⊕ Int))
  | x1 => (if x1 < (p0.length : Int) then (ix p0 x1).bind fun x2 => (if (AQ x2 p1c0) = true then some (.inr (.inr x1)) else some (.inl (D8 (x1 + 1)))) else some (.inr (.inl ())))
theorem Cc (nE : Nat) (p0 : List (Int × Int × Int)) (p1c0 : Int) : ∀ s, Le (AZ nE p0 p1c0 s) (Am p0 p1c0 s) := by
  intro x1
  unfold AZ Am
  repeat' with_reducible (first | refine Le.orR' ?_ ?_ | refine Le.bind' ?_ ?_ | refine Le.ite' ?_ ?_ | refine Le.loop' ?_ | refine Le.altS' ?_ ?_ | exact Le.rfl' _ | (refine Le.pi2 ?_; intro _) | intro _)
def A7 (nE : Nat) (p0 : List (Int × Int × Int)) (p1c0 : Int) : Option Int := F6 (Dk nE (AZ nE p0 p1c0) 0) fun _ => some (-1)
theorem Cj (nE : Nat) (p0 : List (Int × Int × Int)) (p1c0 : Int) : Le (A7 nE p0 p1c0) (AD p0 p1c0) := by
  unfold A7 AD
  repeat' with_reducible (first | refine Le.orR' ?_ ?_ | refine Le.bind' ?_ ?_ | refine Le.ite' ?_ ?_ | refine Le.loop' ?_ | refine Le.altS' ?_ ?_ | apply Cc | exact Le.rfl' _ | (refine Le.pi2 ?_; intro _) | intro _)
def A2 (nE : Nat) (p0 : List (Int × Int × Int)) (p1c0 : Int) : Option Bool := (A7 nE p0 p1c0).bind fun x1 => some (decide (0 ≤ x1))
theorem Cd (nE : Nat) (p0 : List (Int × Int × Int)) (p1c0 : Int) : Le (A2 nE p0 p1c0) (Az p0 p1c0) := by
  unfold A2 Az
  repeat' with_reducible (first | refine Le.orR' ?_ ?_ | refine Le.bind' ?_ ?_ | refine Le.ite' ?_ ?_ | refine Le.loop' ?_ | refine Le.altS' ?_ ?_ | apply Cj | exact Le.rfl' _ | (refine Le.pi2 ?_; intro _) | intro _)
def B7 (nE : Nat) (p0 : (List (Int × Int × Int)) × (List (Int × Int))) (p1 : Int) : Option Bool := (A2 nE p0.1 p1).bind fun x1 => some x1
theorem Ei (nE : Nat) (p0 : (List (Int × Int × Int)) × (List (Int × Int))) (p1 : Int) : Le (B7 nE p0 p1) (AO p0 p1) := by
  unfold B7 AO
  repeat' with_reducible (first | refine Le.orR' ?_ ?_ | refine Le.bind' ?_ ?_ | refine Le.ite' ?_ ?_ | refine Le.loop' ?_ | refine Le.altS' ?_ ?_ | apply Cd | exact Le.rfl' _ | (refine Le.pi2 ?_; intro _) | intro _)
def BX (nE : Nat) (p1 : Int) (x2 : Int × Int × Int) : Unit → Option (Unit ⊕ Int)
  | _ => (if x2.2.2 < p1 then some (.inr x2.2.1) else some (.inl ()))
theorem DW (nE : Nat) (p1 : Int) (x2 : Int × Int × Int) : ∀ s, Le (BX nE p1 x2 s) (BG p1 x2 s) := by
  intro s
  unfold BX BG
  repeat' with_reducible (first | refine Le.orR' ?_ ?_ | refine Le.bind' ?_ ?_ | refine Le.ite' ?_ ?_ | refine Le.loop' ?_ | refine Le.altS' ?_ ?_ | exact Le.rfl' _ | (refine Le.pi2 ?_; intro _) | intro _)
def Ch (nE : Nat) (p0 : (List (Int × Int × Int)) × (List (Int × Int))) (p1 : Int) : Option Int := (back p0.2).bind fun x1 => F6 (Eo (BX nE p1) x1 ()) fun _ => some 0
theorem EB (nE : Nat) (p0 : (List (Int × Int × Int)) × (List (Int × Int))) (p1 : Int) : Le (Ch nE p0 p1) (Bl p0 p1) := by
  unfold Ch Bl
  repeat' with_reducible (first | refine Le.orR' ?_ ?_ | refine Le.bind' ?_ ?_ | refine Le.ite' ?_ ?_ | refine Le.loop' ?_ | refine Le.altS' ?_ ?_ | refine Le.foldW' ?_ _ _ | apply DW | exact Le.rfl' _ | (refine Le.pi2 ?_; intro _) | intro _)
def Dw (nE : Nat) (p0 : Int × (List (Int × Int × Int × Int × Int × Int)) × (List (Int × Int))) : ((List (Int × Int)) × Int) → Option (((List (Int × Int)) × Int) ⊕ (List (Int × Int)))
  | (x2, x3) => (if x3 < (p0.2.1.length : Int) then (ix p0.2.1 x3).bind fun x4 => (E9 x2 ([(x4.1, x4.2.1), (x4.2.2.1, x4.2.2.2.1)] : List (Int × Int))).bind fun x5 => some (.inl (x5, D8 (x3 + 1))) else some (.inr x2))
theorem FR (nE : Nat) (p0 : Int × (List (Int × Int × Int × Int × Int × Int)) × (List (Int × Int))) : ∀ s, Le (Dw nE p0 s) (Dh p0 s) := by
  rintro ⟨x2, x3⟩
  unfold Dw Dh
  repeat' with_reducible (first | refine Le.orR' ?_ ?_ | refine Le.bind' ?_ ?_ | refine Le.ite' ?_ ?_ | refine Le.loop' ?_ | refine Le.altS' ?_ ?_ | exact Le.rfl' _ | (refine Le.pi2 ?_; intro _) | intro _)
def Dt (nE : Nat) (p0 : Int × (List (Int × Int × Int × Int × Int × Int)) × (List (Int × Int))) : ((List (Int × Int)) × Int) → Option (((List (Int × Int)) × Int) ⊕ (List (Int × Int)))
  | (x7, x8) => (if x8 < (p0.2.2.length : Int) then (ix p0.2.2 x8).bind fun x9 => (E9 x7 ([x9] : List (Int × Int))).bind fun x10 => some (.inl (x10, D8 (x8 + 1))) else some (.inr x7))
theorem F7 (nE : Nat) (p0 : Int × (List (Int × Int × Int × Int × Int × Int)) × (List (Int × Int))) : ∀ s, Le (Dt nE p0 s) (C7 p0 s) := by
  rintro ⟨x7, x8⟩
  unfold Dt C7
  repeat' with_reducible (first | refine Le.orR' ?_ ?_ | refine Le.bind' ?_ ?_ | refine Le.ite' ?_ ?_ | refine Le.loop' ?_ | refine Le.altS' ?_ ?_ | exact Le.rfl' _ | (refine Le.pi2 ?_; intro _) | intro _)
def EC (nE : Nat) (p0 : Int × (List (Int × Int × Int × Int × Int × Int)) × (List (Int × Int))) : Option (List (Int × Int)) := (Dk nE (Dw nE p0) ([], 0)).bind fun x1 => (Dk nE (Dt nE p0) (x1, 0)).bind fun x6 => some x6
theorem Hi (nE : Nat) (p0 : Int × (List (Int × Int × Int × Int × Int × Int)) × (List (Int × Int))) : Le (EC nE p0) (DH p0) := by
  unfold EC DH
  repeat' with_reducible (first | refine Le.orR' ?_ ?_ | refine Le.bind' ?_ ?_ | refine Le.ite' ?_ ?_ | refine Le.loop' ?_ | refine Le.altS' ?_ ?_ | apply FR | apply F7 | exact Le.rfl' _ | (refine Le.pi2 ?_; intro _) | intro _)
def Be (nE : Nat) (p0 : List (Int × Int × Int × Int × Int × Int)) : Int → Option (Int ⊕ (Unit ⊕ Int))
  | x1 => (if x1 < (p0.length : Int) then (ix p0 x1).bind fun x2 => (if (CD x2) = true then some (.inr (.inr x1)) else some (.inl (D8 (x1 + 1)))) else some (.inr (.inl ())))
theorem Cy (nE : Nat) (p0 : List (Int × Int × Int × Int × Int × Int)) : ∀ s, Le (Be nE p0 s) (AY p0 s) := by
  intro x1
  unfold Be AY
  repeat' with_reducible (first | refine Le.orR' ?_ ?_ | refine Le.bind' ?_ ?_ | refine Le.ite' ?_ ?_ | refine Le.loop' ?_ | refine Le.altS' ?_ ?_ | exact Le.rfl' _ | (refine Le.pi2 ?_; intro _) | intro _)
def Bh (nE : Nat) (p0 : List (Int × Int × Int × Int × Int × Int)) : Option Int := F6 (Dk nE (Be nE p0) 0) fun _ => some (-1)
theorem CH (nE : Nat) (p0 : List (Int × Int × Int × Int × Int × Int)) : Le (Bh nE p0) (AM p0) := by
  unfold Bh AM
  repeat' with_reducible (first | refine Le.orR' ?_ ?_ | refine Le.bind' ?_ ?_ | refine Le.ite' ?_ ?_ | refine Le.loop' ?_ | refine Le.altS' ?_ ?_ | apply Cy | exact Le.rfl' _ | (refine Le.pi2 ?_; intro _) | intro _)
def Bd (nE : Nat) (p0 : List (Int × Int × Int × Int × Int × Int)) : Option Bool := (Bh nE p0).bind fun x1 => some (decide (0 ≤ x1))
theorem Cx (nE : Nat) (p0 : List (Int × Int × Int × Int × Int × Int)) : Le (Bd nE p0) (AK p0) := by
  unfold Bd AK
  repeat' with_reducible (first | refine Le.orR' ?_ ?_ | refine Le.bind' ?_ ?_ | refine Le.ite' ?_ ?_ | refine Le.loop' ?_ | refine Le.altS' ?_ ?_ | apply CH | exact Le.rfl' _ | (refine Le.pi2 ?_; intro _) | intro _)
def DO (nE : Nat) (p0 : Int × (List (Int × Int × Int × Int × Int × Int)) × (List (Int × Int))) (x2 : (List (Int × Int))) : (Int × (List ((Int × Int) × Unit))) → Option ((Int × (List ((Int × Int) × Unit))) ⊕ ((List ((Int × Int) × Unit)) ⊕ Bool))
  | (x3, x4) => (if x3 < (x2.length : Int) then (ix x2 x3).bind fun x5 => (if (decide (x5.1 < 0) || (decide (p0.1 ≤ x5.1) || (decide (x5.2 < 0) || decide (8 ≤ x5.2)))) = true then some (.inr (.inr false)) else (if ((CP x4 x5).isSome) = true then some (.inr (.inr false)) else some (.inl (D8 (x3 + 1), CM x4 x5 ())))) else some (.inr (.inl x4)))
theorem Gj (nE : Nat) (p0 : Int × (List (Int × Int × Int × Int × Int × Int)) × (List (Int × Int))) (x2 : (List (Int × Int))) : ∀ s, Le (DO nE p0 x2 s) (Dy p0 x2 s) := by
  rintro ⟨x3, x4⟩
  unfold DO Dy
  repeat' with_reducible (first | refine Le.orR' ?_ ?_ | refine Le.bind' ?_ ?_ | refine Le.ite' ?_ ?_ | refine Le.loop' ?_ | refine Le.altS' ?_ ?_ | exact Le.rfl' _ | (refine Le.pi2 ?_; intro _) | intro _)
def ES (nE : Nat) (p0 : Int × (List (Int × Int × Int × Int × Int × Int)) × (List (Int × Int))) : Option Bool := (if (decide (p0.1 < 1) || (decide (8 < p0.1) || (decide (24 < (p0.2.1.length : Int)) || decide (8 < (p0.2.2.length : Int))))) = true then some false else F6 ((EC nE p0).bind fun x2 => Dk nE (DO nE p0 x2) (0, ([] : List ((Int × Int) × Unit)))) fun x1 => (Bd nE p0.2.1).bind fun x6 => some (!x6))
theorem Hw (nE : Nat) (p0 : Int × (List (Int × Int × Int × Int × Int × Int)) × (List (Int × Int))) : Le (ES nE p0) (D7 p0) := by
  unfold ES D7
  repeat' with_reducible (first | refine Le.orR' ?_ ?_ | refine Le.bind' ?_ ?_ | refine Le.ite' ?_ ?_ | refine Le.loop' ?_ | refine Le.altS' ?_ ?_ | apply Hi | apply Cx | apply Gj | exact Le.rfl' _ | (refine Le.pi2 ?_; intro _) | intro _)
def BL (nE : Nat) (p0 : List Int) : Int → Option (Int ⊕ (Unit ⊕ Int))
  | x1 => (if x1 < (p0.length : Int) then (ix p0 x1).bind fun x2 => (if (Cp x2) = true then some (.inr (.inr x1)) else some (.inl (D8 (x1 + 1)))) else some (.inr (.inl ())))
theorem Do (nE : Nat) (p0 : List Int) : ∀ s, Le (BL nE p0 s) (Br p0 s) := by
  intro x1
  unfold BL Br
  repeat' with_reducible (first | refine Le.orR' ?_ ?_ | refine Le.bind' ?_ ?_ | refine Le.ite' ?_ ?_ | refine Le.loop' ?_ | refine Le.altS' ?_ ?_ | exact Le.rfl' _ | (refine Le.pi2 ?_; intro _) | intro _)
def BZ (nE : Nat) (p0 : List Int) : Option Int := F6 (Dk nE (BL nE p0) 0) fun _ => some (-1)
theorem D0 (nE : Nat) (p0 : List Int) : Le (BZ nE p0) (Bo p0) := by
  unfold BZ Bo
  repeat' with_reducible (first | refine Le.orR' ?_ ?_ | refine Le.bind' ?_ ?_ | refine Le.ite' ?_ ?_ | refine Le.loop' ?_ | refine Le.altS' ?_ ?_ | apply Do | exact Le.rfl' _ | (refine Le.pi2 ?_; intro _) | intro _)
def BN (nE : Nat) (p0 : List Int) : Option Bool := (BZ nE p0).bind fun x1 => some (decide (0 ≤ x1))
theorem Dr (nE : Nat) (p0 : List Int) : Le (BN nE p0) (Bc p0) := by
  unfold BN Bc
  repeat' with_reducible (first | refine Le.orR' ?_ ?_ | refine Le.bind' ?_ ?_ | refine Le.ite' ?_ ?_ | refine Le.loop' ?_ | refine Le.altS' ?_ ?_ | apply D0 | exact Le.rfl' _ | (refine Le.pi2 ?_; intro _) | intro _)
def Dv (nE : Nat) (p0 : Int × (List (Int × Int × Int × Int × Int × Int)) × (List (Int × Int))) (p1 : List (List Int)) : Int → Option (Int ⊕ (Unit ⊕ Bool))
  | x3 => (if x3 < (p1.length : Int) then (ix p1 x3).bind fun x4 => (if (x4.length : Int) ≠ (p0.2.2.length : Int) then some true else (BN nE x4).bind fun x6 => some x6).bind fun x5 => (if x5 = true then some (.inr (.inr false)) else some (.inl (D8 (x3 + 1)))) else some (.inr (.inl ())))
theorem FV (nE : Nat) (p0 : Int × (List (Int × Int × Int × Int × Int × Int)) × (List (Int × Int))) (p1 : List (List Int)) : ∀ s, Le (Dv nE p0 p1 s) (Db p0 p1 s) := by
  intro x3
  unfold Dv Db
  repeat' with_reducible (first | refine Le.orR' ?_ ?_ | refine Le.bind' ?_ ?_ | refine Le.ite' ?_ ?_ | refine Le.loop' ?_ | refine Le.altS' ?_ ?_ | apply Dr | exact Le.rfl' _ | (refine Le.pi2 ?_; intro _) | intro _)
def Eu (nE : Nat) (p0 : Int × (List (Int × Int × Int × Int × Int × Int)) × (List (Int × Int))) (p1 : List (List Int)) : Option Bool := ((ES nE p0).bind fun x2 => (if (!x2) = true then some true else some (decide ((p1.length : Int) ≠ p0.1)))).bind fun x1 => (if x1 = true then some false else F6 (Dk nE (Dv nE p0 p1) 0) fun _ => some true)
theorem GQ (nE : Nat) (p0 : Int × (List (Int × Int × Int × Int × Int × Int)) × (List (Int × Int))) (p1 : List (List Int)) : Le (Eu nE p0 p1) (DG p0 p1) := by
  unfold Eu DG
  repeat' with_reducible (first | refine Le.orR' ?_ ?_ | refine Le.bind' ?_ ?_ | refine Le.ite' ?_ ?_ | refine Le.loop' ?_ | refine Le.altS' ?_ ?_ | apply Hw | apply FV | exact Le.rfl' _ | (refine Le.pi2 ?_; intro _) | intro _)
def Bn (nE : Nat) (p0 : List (Int × Int)) (p1 : Int × Int) : Int → Option (Int ⊕ (Unit ⊕ Int))
  | x1 => (if x1 < (p0.length : Int) then (ix p0 x1).bind fun x2 => (if p1.1 = x2.1 ∧ p1.2 = x2.2 then some (.inr (.inr x1)) else some (.inl (D8 (x1 + 1)))) else some (.inr (.inl ())))
theorem CQ (nE : Nat) (p0 : List (Int × Int)) (p1 : Int × Int) : ∀ s, Le (Bn nE p0 p1 s) (Ba p0 p1 s) := by
  intro x1
  unfold Bn Ba
  repeat' with_reducible (first | refine Le.orR' ?_ ?_ | refine Le.bind' ?_ ?_ | refine Le.ite' ?_ ?_ | refine Le.loop' ?_ | refine Le.altS' ?_ ?_ | exact Le.rfl' _ | (refine Le.pi2 ?_; intro _) | intro _)
def Bw (nE : Nat) (p0 : List (Int × Int)) (p1 : Int × Int) : Option Int := F6 (Dk nE (Bn nE p0 p1) 0) fun _ => some (-1)
theorem C4 (nE : Nat) (p0 : List (Int × Int)) (p1 : Int × Int) : Le (Bw nE p0 p1) (A3 p0 p1) := by
  unfold Bw A3
  repeat' with_reducible (first | refine Le.orR' ?_ ?_ | refine Le.bind' ?_ ?_ | refine Le.ite' ?_ ?_ | refine Le.loop' ?_ | refine Le.altS' ?_ ?_ | apply CQ | exact Le.rfl' _ | (refine Le.pi2 ?_; intro _) | intro _)
def Ew (nE : Nat) (p0 : Int × (List (Int × Int × Int × Int × Int × Int)) × (List (Int × Int))) (p1 : Int) (p2 : Int) : Option Int := (Bw nE p0.2.2 (p1, p2)).bind fun x1 => some x1
theorem Ha (nE : Nat) (p0 : Int × (List (Int × Int × Int × Int × Int × Int)) × (List (Int × Int))) (p1 : Int) (p2 : Int) : Le (Ew nE p0 p1 p2) (DJ p0 p1 p2) := by
  unfold Ew DJ
  repeat' with_reducible (first | refine Le.orR' ?_ ?_ | refine Le.bind' ?_ ?_ | refine Le.ite' ?_ ?_ | refine Le.loop' ?_ | refine Le.altS' ?_ ?_ | apply C4 | exact Le.rfl' _ | (refine Le.pi2 ?_; intro _) | intro _)
def Ej (nE : Nat) (p0 : Int × (List (Int × Int × Int × Int × Int × Int)) × (List (Int × Int))) (p1 : Int) (p2 : Int) : Int → Option (Int ⊕ (Unit ⊕ (Int × Int × Int × Bool)))
  | x1 => (if x1 < (p0.2.1.length : Int) then (ix p0.2.1 x1).bind fun x2 => (if p1 = x2.1 ∧ p2 = x2.2.1 then some (.inr (.inr (x2.2.2.1, x2.2.2.2.1, x1, true))) else (if p1 = x2.2.2.1 ∧ p2 = x2.2.2.2.1 then some (.inr (.inr (x2.1, x2.2.1, x1, true))) else some (.inl (D8 (x1 + 1))))) else some (.inr (.inl ())))
theorem GC (nE : Nat) (p0 : Int × (List (Int × Int × Int × Int × Int × Int)) × (List (Int × Int))) (p1 : Int) (p2 : Int) : ∀ s, Le (Ej nE p0 p1 p2 s) (DZ p0 p1 p2 s) := by
  intro x1
  unfold Ej DZ
  repeat' with_reducible (first | refine Le.orR' ?_ ?_ | refine Le.bind' ?_ ?_ | refine Le.ite' ?_ ?_ | refine Le.loop' ?_ | refine Le.altS' ?_ ?_ | exact Le.rfl' _ | (refine Le.pi2 ?_; intro _) | intro _)
def E4 (nE : Nat) (p0 : Int × (List (Int × Int × Int × Int × Int × Int)) × (List (Int × Int))) (p1 : Int) (p2 : Int) : Option (Int × Int × Int × Bool) := F6 (Dk nE (Ej nE p0 p1 p2) 0) fun _ => some (0, 0, 0, false)
theorem Ik (nE : Nat) (p0 : Int × (List (Int × Int × Int × Int × Int × Int)) × (List (Int × Int))) (p1 : Int) (p2 : Int) : Le (E4 nE p0 p1 p2) (EH p0 p1 p2) := by
  unfold E4 EH
  repeat' with_reducible (first | refine Le.orR' ?_ ?_ | refine Le.bind' ?_ ?_ | refine Le.ite' ?_ ?_ | refine Le.loop' ?_ | refine Le.altS' ?_ ?_ | apply GC | exact Le.rfl' _ | (refine Le.pi2 ?_; intro _) | intro _)
def ET (nE : Nat) (p0 : Int × (List (Int × Int × Int × Int × Int × Int)) × (List (Int × Int))) (p1 : List (List Int)) (p2 : Int) (p3 : Int) : Option (Int × Bool) := (if p2 < 0 then some true else (if (p1.length : Int) ≤ p2 then some true else (if p3 < 0 then some true else (ix p1 p2).bind fun x2 => some (decide ((x2.length : Int) ≤ p3))))).bind fun x1 => (if x1 = true then some (0, false) else (ix p1 p2).bind fun x3 => (ix x3 p3).bind fun x4 => (E4 nE p0 p2 x4).bind fun x5 => some (x5.1, x5.2.2.2))
theorem Hu (nE : Nat) (p0 : Int × (List (Int × Int × Int × Int × Int × Int)) × (List (Int × Int))) (p1 : List (List Int)) (p2 : Int) (p3 : Int) : Le (ET nE p0 p1 p2 p3) (D9 p0 p1 p2 p3) := by
  unfold ET D9
  repeat' with_reducible (first | refine Le.orR' ?_ ?_ | refine Le.bind' ?_ ?_ | refine Le.ite' ?_ ?_ | refine Le.loop' ?_ | refine Le.altS' ?_ ?_ | apply Ik | exact Le.rfl' _ | (refine Le.pi2 ?_; intro _) | intro _)
def Ci (nE : Nat) (p0 : List Int) (p1 : Int) : Int → Option (Int ⊕ (Unit ⊕ Bool))
  | x1 => (if x1 < (p0.length : Int) then (ix p0 x1).bind fun x2 => (if p1 = x2 then some (.inr (.inr true)) else some (.inl (D8 (x1 + 1)))) else some (.inr (.inl ())))
theorem EE (nE : Nat) (p0 : List Int) (p1 : Int) : ∀ s, Le (Ci nE p0 p1 s) (B4 p0 p1 s) := by
  intro x1
  unfold Ci B4
  repeat' with_reducible (first | refine Le.orR' ?_ ?_ | refine Le.bind' ?_ ?_ | refine Le.ite' ?_ ?_ | refine Le.loop' ?_ | refine Le.altS' ?_ ?_ | exact Le.rfl' _ | (refine Le.pi2 ?_; intro _) | intro _)
def CE (nE : Nat) (p0 : List Int) (p1 : Int) : Option Bool := F6 (Dk nE (Ci nE p0 p1) 0) fun _ => some false
theorem E3 (nE : Nat) (p0 : List Int) (p1 : Int) : Le (CE nE p0 p1) (BW p0 p1) := by
  unfold CE BW
  repeat' with_reducible (first | refine Le.orR' ?_ ?_ | refine Le.bind' ?_ ?_ | refine Le.ite' ?_ ?_ | refine Le.loop' ?_ | refine Le.altS' ?_ ?_ | apply EE | exact Le.rfl' _ | (refine Le.pi2 ?_; intro _) | intro _)
def DL (nE : Nat) (p0 : Int × (List (Int × Int × Int × Int × Int × Int)) × (List (Int × Int))) (p1 : List (List Int)) (p3 : Int) : (Int × List Int) → Option ((Int × List Int) ⊕ ((List Int) ⊕ (List Int × Int)))
  | (x2, x3) => (ix p1 x2).bind fun x4 => (ix x4 p3).bind fun x5 => (Ew nE p0 x2 x5).bind fun x6 => (if x6 ≠ p3 then (ET nE p0 p1 x2 p3).bind fun x7 => (if (!x7.2) = true then some (.inr (.inr (([] : List Int), 13))) else (CE nE x3 x7.1).bind fun x8 => (if x8 = true then some (.inr (.inr (([] : List Int), 12))) else (E9 x3 ([x7.1] : List Int)).bind fun x9 => some (.inl (x7.1, x9)))) else some (.inr (.inl x3)))
theorem Gk (nE : Nat) (p0 : Int × (List (Int × Int × Int × Int × Int × Int)) × (List (Int × Int))) (p1 : List (List Int)) (p3 : Int) : ∀ s, Le (DL nE p0 p1 p3 s) (DA p0 p1 p3 s) := by
  rintro ⟨x2, x3⟩
  unfold DL DA
  repeat' with_reducible (first | refine Le.orR' ?_ ?_ | refine Le.bind' ?_ ?_ | refine Le.ite' ?_ ?_ | refine Le.loop' ?_ | refine Le.altS' ?_ ?_ | apply Ha | apply Hu | apply E3 | exact Le.rfl' _ | (refine Le.pi2 ?_; intro _) | intro _)
def EW (nE : Nat) (p0 : Int × (List (Int × Int × Int × Int × Int × Int)) × (List (Int × Int))) (p1 : List (List Int)) (p2 : Int) (p3 : Int) : Option (List Int × Int) := F6 (Dk nE (DL nE p0 p1 p3) (p2, ([p2] : List Int))) fun x1 => some (x1, 0)
theorem Ht (nE : Nat) (p0 : Int × (List (Int × Int × Int × Int × Int × Int)) × (List (Int × Int))) (p1 : List (List Int)) (p2 : Int) (p3 : Int) : Le (EW nE p0 p1 p2 p3) (Eb p0 p1 p2 p3) := by
  unfold EW Eb
  repeat' with_reducible (first | refine Le.orR' ?_ ?_ | refine Le.bind' ?_ ?_ | refine Le.ite' ?_ ?_ | refine Le.loop' ?_ | refine Le.altS' ?_ ?_ | apply Gk | exact Le.rfl' _ | (refine Le.pi2 ?_; intro _) | intro _)
def EQ (nE : Nat) (p0 : Int × (List (Int × Int × Int × Int × Int × Int)) × (List (Int × Int))) (p1 : List (List Int)) (p2 : Int) (p3 : Int) : Option (List Int × Int) := ((Eu nE p0 p1).bind fun x2 => (if (!x2) = true then some true else (if p2 < 0 then some true else (if p0.1 ≤ p2 then some true else (if p3 < 0 then some true else some (decide ((p0.2.2.length : Int) ≤ p3))))))).bind fun x1 => (if x1 = true then some (([] : List Int), 2) else (EW nE p0 p1 p2 p3).bind fun x3 => some (x3.1, x3.2))
theorem HA (nE : Nat) (p0 : Int × (List (Int × Int × Int × Int × Int × Int)) × (List (Int × Int))) (p1 : List (List Int)) (p2 : Int) (p3 : Int) : Le (EQ nE p0 p1 p2 p3) (D3 p0 p1 p2 p3) := by
  unfold EQ D3
  repeat' with_reducible (first | refine Le.orR' ?_ ?_ | refine Le.bind' ?_ ?_ | refine Le.ite' ?_ ?_ | refine Le.loop' ?_ | refine Le.altS' ?_ ?_ | apply GQ | apply Ht | exact Le.rfl' _ | (refine Le.pi2 ?_; intro _) | intro _)
def B5 (nE : Nat) (p0 : List Int) (p1 : List Int) : Int → Option (Int ⊕ (Unit ⊕ Bool))
  | x1 => (if x1 < (p0.length : Int) then (ix p0 x1).bind fun x2 => (ix p1 x1).bind fun x3 => (if x2 ≠ x3 then some (.inr (.inr false)) else some (.inl (D8 (x1 + 1)))) else some (.inr (.inl ())))
theorem Ec (nE : Nat) (p0 : List Int) (p1 : List Int) : ∀ s, Le (B5 nE p0 p1 s) (BO p0 p1 s) := by
  intro x1
  unfold B5 BO
  repeat' with_reducible (first | refine Le.orR' ?_ ?_ | refine Le.bind' ?_ ?_ | refine Le.ite' ?_ ?_ | refine Le.loop' ?_ | refine Le.altS' ?_ ?_ | exact Le.rfl' _ | (refine Le.pi2 ?_; intro _) | intro _)
def Cn (nE : Nat) (p0 : List Int) (p1 : List Int) : Option Bool := (if (p0.length : Int) ≠ (p1.length : Int) then some false else F6 (Dk nE (B5 nE p0 p1) 0) fun _ => some true)
theorem EK (nE : Nat) (p0 : List Int) (p1 : List Int) : Le (Cn nE p0 p1) (BM p0 p1) := by
  unfold Cn BM
  repeat' with_reducible (first | refine Le.orR' ?_ ?_ | refine Le.bind' ?_ ?_ | refine Le.ite' ?_ ?_ | refine Le.loop' ?_ | refine Le.altS' ?_ ?_ | apply Ec | exact Le.rfl' _ | (refine Le.pi2 ?_; intro _) | intro _)
def DN (nE : Nat) (p0 : Int × (List (Int × Int × Int × Int × Int × Int)) × (List (Int × Int))) (p1 : List (List (List Int))) (p2 : Int) (p3 : Int × Int × Int × Int × List Int × Int × Int × Int) : Option Bool := (if (decide (p2 < 0) || decide ((p1.length : Int) ≤ p2)) = true then some false else (ix p1 p2).bind fun x1 => (ix p3.2.2.2.2.1 0).bind fun x2 => (EQ nE p0 x1 x2 p3.2.2.1).bind fun x3 => (if x3.2 ≠ 0 then some false else (if (decide (p3.2.2.2.2.2.1 = 0) && decide ((p3.2.2.2.2.1.length : Int) < (x3.1.length : Int))) = true then (H7 x3.1 0 (p3.2.2.2.2.1.length : Int)).bind fun x5 => some x5 else some x3.1).bind fun x4 => (Cn nE p3.2.2.2.2.1 x4).bind fun x6 => some x6))
theorem F9 (nE : Nat) (p0 : Int × (List (Int × Int × Int × Int × Int × Int)) × (List (Int × Int))) (p1 : List (List (List Int))) (p2 : Int) (p3 : Int × Int × Int × Int × List Int × Int × Int × Int) : Le (DN nE p0 p1 p2 p3) (CS p0 p1 p2 p3) := by
  unfold DN CS
  repeat' with_reducible (first | refine Le.orR' ?_ ?_ | refine Le.bind' ?_ ?_ | refine Le.ite' ?_ ?_ | refine Le.loop' ?_ | refine Le.altS' ?_ ?_ | apply HA | apply EK | exact Le.rfl' _ | (refine Le.pi2 ?_; intro _) | intro _)
def Dx (nE : Nat) (p0 : Int × (List (Int × Int × Int × Int × Int × Int)) × (List (Int × Int))) (p1 : List (List (List Int))) (x1 : ((List (Int × Int × Int)) × (List (Int × Int)))) (x3 : (List (Int × Int × Int × Int × List Int × Int × Int × Int))) : ((List (Int × Int)) × Int) → Option (((List (Int × Int)) × Int) ⊕ (List (Int × Int)))
  | (x4, x5) => (if x5 < (x3.length : Int) then ((ix x3 x5).bind fun x7 => ((ED nE x7).bind fun x9 => (if x9 = true then (E9 x4 ([(1, x7.1)] : List (Int × Int))).bind fun x10 => some x10 else some x4)).bind fun x8 => (if x7.2.2.2.2.2.1 = 4 then (E9 x8 ([(2, x7.1)] : List (Int × Int))).bind fun x12 => some x12 else some x8).bind fun x11 => (if (decide (x7.2.2.2.2.2.1 = 3) && decide (x7.2.2.2.2.2.2.1 ≠ x7.2.2.1)) = true then (E9 x11 ([(3, x7.1)] : List (Int × Int))).bind fun x14 => some x14 else some x11).bind fun x13 => (if 0 < (x7.2.2.2.2.1.length : Int) then (B7 nE x1 x7.2.2.2.1).bind fun x16 => (if (!x16) = true then (Ch nE x1 x7.2.2.2.1).bind fun x17 => (DN nE p0 p1 x17 x7).bind fun x18 => some (!x18) else some false) else some false).bind fun x15 => (if x15 = true then (E9 x13 ([(4, x7.1)] : List (Int × Int))).bind fun x19 => some x19 else some x13)).bind fun x6 => some (.inl (x6, D8 (x5 + 1))) else some (.inr x4))
theorem FT (nE : Nat) (p0 : Int × (List (Int × Int × Int × Int × Int × Int)) × (List (Int × Int))) (p1 : List (List (List Int))) (x1 : ((List (Int × Int × Int)) × (List (Int × Int)))) (x3 : (List (Int × Int × Int × Int × List Int × Int × Int × Int))) : ∀ s, Le (Dx nE p0 p1 x1 x3 s) (Dc p0 p1 x1 x3 s) := by
  rintro ⟨x4, x5⟩
  unfold Dx Dc
  repeat' with_reducible (first | refine Le.orR' ?_ ?_ | refine Le.bind' ?_ ?_ | refine Le.ite' ?_ ?_ | refine Le.loop' ?_ | refine Le.altS' ?_ ?_ | apply He | apply Ei | apply EB | apply F9 | exact Le.rfl' _ | (refine Le.pi2 ?_; intro _) | intro _)
def Dz (nE : Nat) (p0 : Int × (List (Int × Int × Int × Int × Int × Int)) × (List (Int × Int))) (p1 : List (List (List Int))) (p2 : List (Int × Int × Int × Int × Int × Int)) : Option (List (Int × Int)) := (ER nE p2).bind fun x1 => ((FG nE p2).bind fun x3 => Dk nE (Dx nE p0 p1 x1 x3) ([], 0)).bind fun x2 => some x2
theorem Hb (nE : Nat) (p0 : Int × (List (Int × Int × Int × Int × Int × Int)) × (List (Int × Int))) (p1 : List (List (List Int))) (p2 : List (Int × Int × Int × Int × Int × Int)) : Le (Dz nE p0 p1 p2) (C0 p0 p1 p2) := by
  unfold Dz C0
  repeat' with_reducible (first | refine Le.orR' ?_ ?_ | refine Le.bind' ?_ ?_ | refine Le.ite' ?_ ?_ | refine Le.loop' ?_ | refine Le.altS' ?_ ?_ | apply Hx | apply Iw | apply FT | exact Le.rfl' _ | (refine Le.pi2 ?_; intro _) | intro _)
def Gw (nE : Nat)  : Option Bool := (Dz nE (1, ([] : List (Int × Int × Int × Int × Int × Int)), ([(0, 3)] : List (Int × Int))) ([([([3] : List Int)] : List (List Int))] : List (List (List Int))) ([(1, 0, 4, 0, 0, 0), (4, 0, 4, 0, 0, 0)] : List (Int × Int × Int × Int × Int × Int))).bind fun x1 => ((Dz nE (1, ([] : List (Int × Int × Int × Int × Int × Int)), ([(0, 3)] : List (Int × Int))) ([([([3] : List Int)] : List (List Int))] : List (List (List Int))) ([(1, 0, 0, 0, 0, 0), (2, 0, 0, 0, 0, 0), (3, 0, 0, 0, 0, 0)] : List (Int × Int × Int × Int × Int × Int))).bind fun x3 => (if (x3.length : Int) = 0 then (if (x1.length : Int) = 1 then (ix x1 0).bind fun x4 => (if x4.1 = 2 ∧ x4.2 = 4 then some (decide ((Ds 2) = ([108, 111, 115, 116] : List UInt8))) else some false) else some false) else some false)).bind fun x2 => some x2
theorem HT (nE : Nat)  : Le (Gw nE ) (C2 ) := by
  unfold Gw C2
  repeat' with_reducible (first | refine Le.orR' ?_ ?_ | refine Le.bind' ?_ ?_ | refine Le.ite' ?_ ?_ | refine Le.loop' ?_ | refine Le.altS' ?_ ?_ | apply Hb | exact Le.rfl' _ | (refine Le.pi2 ?_; intro _) | intro _)
theorem Ke : C2 = some true := HT 60 _ (by kernel_rfl)
end Go.Proofs.Ytflaelbmglmmcaa
