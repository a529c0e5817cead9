/- Twins with fuel of EO functions: what a twin answers, the function answers. Conditions: none. -/
import Derived.Test.YtlgjpoapclifbaaDoorbLP
import Derived.Test.YtlgjpoapclifbaaDoorbA13
namespace Go.Proofs.YtlgjpoapclifbaaDoor
open Go Go.RowKit
set_option linter.unusedVariables false
set_option linter.unusedSimpArgs false
set_option maxRecDepth 20000
set_option maxHeartbeats 1600000
abbrev Le {α : Type} (a b : Option α) : Prop := ∀ r, a = some r → b = some r
theorem Le.rfl' {α : Type} (a : Option α) : Le a a := fun _ h => h
theorem Le.bind' {α β : Type} {a b : Option α} {f g : α → Option β} (h : Le a b) (hf : ∀ x, Le (f x) (g x)) : Le (a.bind f) (b.bind g) := fun r e => by
  obtain ⟨x, h1, h2⟩ := An e
  rw [h x h1, Option.bind_some]; exact hf x r h2
theorem Le.ite' {α : Type} {c : Prop} [Decidable c] {a a' b b' : Option α} (h1 : Le a a') (h2 : Le b b') : Le (if c then a else b) (if c then a' else b') := fun r e => by
  by_cases h : c
  · rw [if_pos h] at e ⊢; exact h1 r e
  · rw [if_neg h] at e ⊢; exact h2 r e
theorem Le.orR' {α β : Type} {a b : Option (α ⊕ β)} {f g : α → Option β} (h : Le a b) (hf : ∀ x, Le (f x) (g x)) : Le (J4 a f) (J4 b g) :=
  Le.bind' h fun x => by
    cases x with
    | inl t => exact hf t
    | inr e => exact Le.rfl' _
def H4 {σ ε : Type} (n : Nat) (step : σ → Option (σ ⊕ ε)) (s : σ) : Option ε := Gn step n s
theorem Jr {σ ε : Type} {S T : σ → Option (σ ⊕ ε)} (h : ∀ s, Le (S s) (T s)) : ∀ (n : Nat) (s : σ), Le (Gn S n s) (Gn T n s)
  | 0, s => Le.rfl' _
  | n + 1, s => fun r e => by
    unfold Gn at e ⊢
    cases hs : S s with
    | none => rw [hs] at e; cases e
    | some q =>
      rw [hs] at e; rw [h s q hs]
      cases q with
      | inl s' => exact Jr h n s' r e
      | inr _ => exact e
theorem Le.loop' {σ ε : Type} {n : Nat} {S T : σ → Option (σ ⊕ ε)} {s : σ} (h : ∀ s, Le (S s) (T s)) : Le (H4 n S s) (Bx T s) := fun r e => FI.2 ⟨n, Jr h n s r e⟩
theorem Le.pi2 {α β γ : Type} {f g : α × β → Option γ} (h : ∀ a b, Le (f (a, b)) (g (a, b))) : ∀ x, Le (f x) (g x) := fun x => h x.1 x.2
theorem Le.altS' {α β γ : Type} {y : α ⊕ β} {f f' : α → Option γ} {g g' : β → Option γ} (h : ∀ x, Le (f x) (f' x)) (k : ∀ x, Le (g x) (g' x)) : Le (BZ y f g) (BZ y f' g') := by
  cases y with
  | inl x => exact h x
  | inr x => exact k x
theorem Dd {β : Type} {g : Nat → Option β} (hm : ∀ n r, g n = some r → g (n + 1) = some r) {n : Nat} {r : β} (h : g n = some r) : Gx g = some r := by
  have up : ∀ (d m : Nat) (q : β), g m = some q → g (m + d) = some q := fun d => by
    induction d with
    | zero => exact fun m q h => h
    | succ d ih => exact fun m q h => hm _ _ (ih m q h)
  refine OP n h fun m q hq => ?_
  have h1 := up m n r h
  have h2 := up n m q hq
  rw [Nat.add_comm] at h2
  exact Option.some.inj (h2.symm.trans h1)
theorem Le.loopM {σ ε : Type} {S T : σ → Option (σ ⊕ ε)} {s : σ} (h : ∀ s, Le (S s) (T s)) : Le (Bx S s) (Bx T s) := fun r e => by
  obtain ⟨n, hn⟩ := FI.1 e
  exact FI.2 ⟨n, Jr h n s r hn⟩
def Hj (nE : Nat) (p0 : List UInt8) : (Int × Bool) → Option ((Int × Bool) ⊕ (Int ⊕ Int))
  | (x2, x3) => (if x2 < (p0.length : Int) then J4 ((ix p0 x2).bind fun x5 => (if (x5.toNat : Int) = 10 then some (.inl false) else (if (x5.toNat : Int) = 35 then some (.inl true) else (if (!x3 && (decide ((x5.toNat : Int) ≠ 32) && decide ((x5.toNat : Int) ≠ 9))) = true then some (.inr (.inr (.inr x2))) else some (.inl x3))))) fun x4 => some (.inl (Co (x2 + 1), x4)) else some (.inr (.inl x2)))
theorem KT (nE : Nat) (p0 : List UInt8) : ∀ s, Le (Hj nE p0 s) (DO p0 s) := by
  rintro ⟨x2, x3⟩
  unfold Hj DO
  repeat' with_reducible (first | refine Le.orR' ?_ ?_ | refine Le.bind' ?_ ?_ | refine Le.ite' ?_ ?_ | refine Le.loop' ?_ | refine Le.altS' ?_ ?_ | exact Le.rfl' _ | (refine Le.pi2 ?_; intro _) | intro _)
def HO (nE : Nat) (p0 : List UInt8) (p1 : Int) : Option Int := J4 (H4 nE (Hj nE p0) (p1, false)) fun x1 => some x1
theorem Kh (nE : Nat) (p0 : List UInt8) (p1 : Int) : Le (HO nE p0 p1) (Ee p0 p1) := by
  unfold HO Ee
  repeat' with_reducible (first | refine Le.orR' ?_ ?_ | refine Le.bind' ?_ ?_ | refine Le.ite' ?_ ?_ | refine Le.loop' ?_ | refine Le.altS' ?_ ?_ | apply KT | exact Le.rfl' _ | (refine Le.pi2 ?_; intro _) | intro _)
def HS (nE : Nat) (p0 : List UInt8) : Int → Option (Int ⊕ Int)
  | x2 => (if x2 < (p0.length : Int) then (ix p0 x2).bind fun x4 => some (D4 (x4.toNat : Int)) else some false).bind fun x3 => (if x3 = true then some (.inl (Co (x2 + 1))) else some (.inr x2))
theorem LO (nE : Nat) (p0 : List UInt8) : ∀ s, Le (HS nE p0 s) (FP p0 s) := by
  intro x2
  unfold HS FP
  repeat' with_reducible (first | refine Le.orR' ?_ ?_ | refine Le.bind' ?_ ?_ | refine Le.ite' ?_ ?_ | refine Le.loop' ?_ | refine Le.altS' ?_ ?_ | exact Le.rfl' _ | (refine Le.pi2 ?_; intro _) | intro _)
def J3 (nE : Nat) (p0 : List UInt8) : Option Int := (H4 nE (HS nE p0) 0).bind fun x1 => some x1
theorem Oc (nE : Nat) (p0 : List UInt8) : Le (J3 nE p0) (HT p0) := by
  unfold J3 HT
  repeat' with_reducible (first | refine Le.orR' ?_ ?_ | refine Le.bind' ?_ ?_ | refine Le.ite' ?_ ?_ | refine Le.loop' ?_ | refine Le.altS' ?_ ?_ | apply LO | exact Le.rfl' _ | (refine Le.pi2 ?_; intro _) | intro _)
def GD (nE : Nat) (p0 : List UInt8) : Int → Option (Int ⊕ Int)
  | x2 => (if x2 < (p0.length : Int) then (ix p0 x2).bind fun x4 => some (EH (x4.toNat : Int)) else some false).bind fun x3 => (if x3 = true then some (.inl (Co (x2 + 1))) else some (.inr x2))
theorem Kx (nE : Nat) (p0 : List UInt8) : ∀ s, Le (GD nE p0 s) (EJ p0 s) := by
  intro x2
  unfold GD EJ
  repeat' with_reducible (first | refine Le.orR' ?_ ?_ | refine Le.bind' ?_ ?_ | refine Le.ite' ?_ ?_ | refine Le.loop' ?_ | refine Le.altS' ?_ ?_ | exact Le.rfl' _ | (refine Le.pi2 ?_; intro _) | intro _)
def ID (nE : Nat) (p0 : List UInt8) : Option Int := (H4 nE (GD nE p0) 0).bind fun x1 => some x1
theorem MP (nE : Nat) (p0 : List UInt8) : Le (ID nE p0) (FO p0) := by
  unfold ID FO
  repeat' with_reducible (first | refine Le.orR' ?_ ?_ | refine Le.bind' ?_ ?_ | refine Le.ite' ?_ ?_ | refine Le.loop' ?_ | refine Le.altS' ?_ ?_ | apply Kx | exact Le.rfl' _ | (refine Le.pi2 ?_; intro _) | intro _)
def Gf (nE : Nat) (p0 : List UInt8) : (Int × Int) → Option ((Int × Int) ⊕ Int)
  | (x4, x5) => (if x5 < (p0.length : Int) then (ix p0 x5).bind fun x6 => some (.inl (Co ((Co (10 * x4)) + (Co (IntKind.u8.wrap ((x6.toNat : Int) - 48)))), Co (x5 + 1))) else some (.inr x4))
theorem J2 (nE : Nat) (p0 : List UInt8) : ∀ s, Le (Gf nE p0 s) (Cf p0 s) := by
  rintro ⟨x4, x5⟩
  unfold Gf Cf
  repeat' with_reducible (first | refine Le.orR' ?_ ?_ | refine Le.bind' ?_ ?_ | refine Le.ite' ?_ ?_ | refine Le.loop' ?_ | refine Le.altS' ?_ ?_ | exact Le.rfl' _ | (refine Le.pi2 ?_; intro _) | intro _)
def HI (nE : Nat) (p0 : List UInt8) : Option ((Int × Int × List UInt8 × Int) × Int) := (if 3 < (p0.length : Int) then some true else (if 1 < (p0.length : Int) then (ix p0 0).bind fun x2 => some (decide ((x2.toNat : Int) = 48)) else some false)).bind fun x1 => (if x1 = true then some ((0, 0, ([] : List UInt8), 0), 0) else (H4 nE (Gf nE p0) (0, 0)).bind fun x3 => some ((2, x3, ([] : List UInt8), 0), (p0.length : Int)))
theorem LV (nE : Nat) (p0 : List UInt8) : Le (HI nE p0) (Cp p0) := by
  unfold HI Cp
  repeat' with_reducible (first | refine Le.orR' ?_ ?_ | refine Le.bind' ?_ ?_ | refine Le.ite' ?_ ?_ | refine Le.loop' ?_ | refine Le.altS' ?_ ?_ | apply J2 | exact Le.rfl' _ | (refine Le.pi2 ?_; intro _) | intro _)
def Cx (nE : Nat) (p0 : List UInt8) (p1 : List UInt8) : Option Bool := (if (p1.length : Int) ≤ (p0.length : Int) then (Fy p0 0 (p1.length : Int)).bind fun x2 => some (decide (x2 = p1)) else some false).bind fun x1 => some x1
theorem Fe (nE : Nat) (p0 : List UInt8) (p1 : List UInt8) : Le (Cx nE p0 p1) (BK p0 p1) := by
  unfold Cx BK
  repeat' with_reducible (first | refine Le.orR' ?_ ?_ | refine Le.bind' ?_ ?_ | refine Le.ite' ?_ ?_ | refine Le.loop' ?_ | refine Le.altS' ?_ ?_ | exact Le.rfl' _ | (refine Le.pi2 ?_; intro _) | intro _)
def ET (nE : Nat) (p0 : List UInt8) (p1 : List UInt8) : Option Bool := (Cx nE p0 p1).bind fun x1 => some x1
theorem Iy (nE : Nat) (p0 : List UInt8) (p1 : List UInt8) : Le (ET nE p0 p1) (Cv p0 p1) := by
  unfold ET Cv
  repeat' with_reducible (first | refine Le.orR' ?_ ?_ | refine Le.bind' ?_ ?_ | refine Le.ite' ?_ ?_ | refine Le.loop' ?_ | refine Le.altS' ?_ ?_ | apply Fe | exact Le.rfl' _ | (refine Le.pi2 ?_; intro _) | intro _)
def GW (nE : Nat) (p0 : List UInt8) : Option Int := (ix p0 0).bind fun x1 => (if (x1.toNat : Int) = 40 then some true else (if (x1.toNat : Int) = 41 then some true else (if (x1.toNat : Int) = 59 then some true else (if (x1.toNat : Int) = 124 then some true else some (decide ((x1.toNat : Int) = 61)))))).bind fun x2 => (if x2 = true then some 1 else (ET nE p0 ([58, 61] : List UInt8)).bind fun x3 => (if x3 = true then some 2 else some 0))
theorem KF (nE : Nat) (p0 : List UInt8) : Le (GW nE p0) (D9 p0) := by
  unfold GW D9
  repeat' with_reducible (first | refine Le.orR' ?_ ?_ | refine Le.bind' ?_ ?_ | refine Le.ite' ?_ ?_ | refine Le.loop' ?_ | refine Le.altS' ?_ ?_ | apply Iy | exact Le.rfl' _ | (refine Le.pi2 ?_; intro _) | intro _)
def Ik (nE : Nat) (p0 : List UInt8) : Option ((Int × Int × List UInt8 × Int) × Int) := (J3 nE p0).bind fun x1 => (if 0 < x1 then (Fy p0 0 x1).bind fun x2 => some ((1, 0, x2, 0), x1) else (ID nE p0).bind fun x3 => (if 0 < x3 then (Fy p0 0 x3).bind fun x4 => (HI nE x4).bind fun x5 => some (x5.1, x5.2) else (GW nE p0).bind fun x6 => (if x6 = 0 then some ((0, 0, ([] : List UInt8), 0), 0) else (Fy p0 0 x6).bind fun x7 => some ((3, 0, x7, 0), x6))))
theorem MK (nE : Nat) (p0 : List UInt8) : Le (Ik nE p0) (Cq p0) := by
  unfold Ik Cq
  repeat' with_reducible (first | refine Le.orR' ?_ ?_ | refine Le.bind' ?_ ?_ | refine Le.ite' ?_ ?_ | refine Le.loop' ?_ | refine Le.altS' ?_ ?_ | apply Oc | apply MP | apply LV | apply KF | exact Le.rfl' _ | (refine Le.pi2 ?_; intro _) | intro _)
def HU (nE : Nat) (p0 : List UInt8) : ((List (Int × Int × List UInt8 × Int)) × Int) → Option (((List (Int × Int × List UInt8 × Int)) × Int) ⊕ ((List (Int × Int × List UInt8 × Int)) ⊕ ((List (Int × Int × List UInt8 × Int)) × Int × Int)))
  | (x3, x4) => (if x4 < (p0.length : Int) then (Fy p0 x4 (p0.length : Int)).bind fun x5 => (Ik nE x5).bind fun x6 => (if x6.2 = 0 then some (.inr (.inr (([] : List (Int × Int × List UInt8 × Int)), x4, 10))) else (if (x3.length : Int) = 500 then some (.inr (.inr (([] : List (Int × Int × List UInt8 × Int)), x4, 6))) else (Eo x3 ([(x6.1.1, x6.1.2.1, x6.1.2.2.1, x4)] : List (Int × Int × List UInt8 × Int))).bind fun x7 => (HO nE p0 (Co (x4 + x6.2))).bind fun x8 => some (.inl (x7, x8)))) else some (.inr (.inl x3)))
theorem L5 (nE : Nat) (p0 : List UInt8) : ∀ s, Le (HU nE p0 s) (Cb p0 s) := by
  rintro ⟨x3, x4⟩
  unfold HU Cb
  repeat' with_reducible (first | refine Le.orR' ?_ ?_ | refine Le.bind' ?_ ?_ | refine Le.ite' ?_ ?_ | refine Le.loop' ?_ | refine Le.altS' ?_ ?_ | apply Kh | apply MK | exact Le.rfl' _ | (refine Le.pi2 ?_; intro _) | intro _)
def JU (nE : Nat) (p0 : List UInt8) : Option ((List (Int × Int × List UInt8 × Int)) × Int × Int) := (if 4000 < (p0.length : Int) then some (([] : List (Int × Int × List UInt8 × Int)), 0, 3) else (HO nE p0 0).bind fun x1 => J4 (H4 nE (HU nE p0) ([], x1)) fun x2 => (Eo x2 ([(4, 0, ([] : List UInt8), (p0.length : Int))] : List (Int × Int × List UInt8 × Int))).bind fun x9 => some (x9, 0, 0))
theorem N6 (nE : Nat) (p0 : List UInt8) : Le (JU nE p0) (FQ p0) := by
  unfold JU FQ
  repeat' with_reducible (first | refine Le.orR' ?_ ?_ | refine Le.bind' ?_ ?_ | refine Le.ite' ?_ ?_ | refine Le.loop' ?_ | refine Le.altS' ?_ ?_ | apply Kh | apply L5 | exact Le.rfl' _ | (refine Le.pi2 ?_; intro _) | intro _)
def HY (nE : Nat) (p0 : List UInt8) : Option (((List (Int × Int × List UInt8 × Int)) × Int) ⊕ (Int × Int)) := (JU nE p0).bind fun x1 => (if x1.2.2 ≠ 0 then some (.inr x1.2) else some (.inl (x1.1, 0)))
theorem L8 (nE : Nat) (p0 : List UInt8) : Le (HY nE p0) (ED p0) := by
  unfold HY ED
  repeat' with_reducible (first | refine Le.orR' ?_ ?_ | refine Le.bind' ?_ ?_ | refine Le.ite' ?_ ?_ | refine Le.loop' ?_ | refine Le.altS' ?_ ?_ | apply N6 | exact Le.rfl' _ | (refine Le.pi2 ?_; intro _) | intro _)
def Ce (nE : Nat) (p0 : (List (Int × Int × List UInt8 × Int)) × Int) : Option (Int × Int × List UInt8 × Int) := (ix p0.1 p0.2).bind fun x1 => some x1
theorem CF (nE : Nat) (p0 : (List (Int × Int × List UInt8 × Int)) × Int) : Le (Ce nE p0) (BM p0) := by
  unfold Ce BM
  repeat' with_reducible (first | refine Le.orR' ?_ ?_ | refine Le.bind' ?_ ?_ | refine Le.ite' ?_ ?_ | refine Le.loop' ?_ | refine Le.altS' ?_ ?_ | exact Le.rfl' _ | (refine Le.pi2 ?_; intro _) | intro _)
def A0 (nE : Nat) (p0 : (List (Int × Int × List UInt8 × Int)) × Int) (p1 : List UInt8) : Option (Bool × ((List (Int × Int × List UInt8 × Int)) × Int)) := (Ce nE p0).bind fun x1 => (if (bif decide (x1.1 ≠ 1) then (decide (x1.1 ≠ 3) || decide (x1.2.2.1 ≠ p1)) else decide (x1.2.2.1 ≠ p1)) = true then some (false, p0) else some (true, (p0.1, Co (p0.2 + 1))))
theorem B4 (nE : Nat) (p0 : (List (Int × Int × List UInt8 × Int)) × Int) (p1 : List UInt8) : Le (A0 nE p0 p1) (AL p0 p1) := by
  unfold A0 AL
  repeat' with_reducible (first | refine Le.orR' ?_ ?_ | refine Le.bind' ?_ ?_ | refine Le.ite' ?_ ?_ | refine Le.loop' ?_ | refine Le.altS' ?_ ?_ | apply CF | exact Le.rfl' _ | (refine Le.pi2 ?_; intro _) | intro _)
def CC (nE : Nat) (p0 : (List (Int × Int × List UInt8 × Int)) × Int) : Option (Int × Int) := (Ce nE p0).bind fun x1 => some (x1.2.2.2, 10)
theorem Do (nE : Nat) (p0 : (List (Int × Int × List UInt8 × Int)) × Int) : Le (CC nE p0) (BQ p0) := by
  unfold CC BQ
  repeat' with_reducible (first | refine Le.orR' ?_ ?_ | refine Le.bind' ?_ ?_ | refine Le.ite' ?_ ?_ | refine Le.loop' ?_ | refine Le.altS' ?_ ?_ | apply CF | exact Le.rfl' _ | (refine Le.pi2 ?_; intro _) | intro _)
def BX (nE : Nat) (p0 : (List (Int × Int × List UInt8 × Int)) × Int) (p1 : List UInt8) : Option (((List (Int × Int × List UInt8 × Int)) × Int) ⊕ ((Int × Int) × ((List (Int × Int × List UInt8 × Int)) × Int))) := (A0 nE p0 p1).bind fun x1 => (if (!x1.1) = true then (CC nE x1.2).bind fun x2 => some (.inr (x2, x1.2)) else some (.inl x1.2))
theorem Eb (nE : Nat) (p0 : (List (Int × Int × List UInt8 × Int)) × Int) (p1 : List UInt8) : Le (BX nE p0 p1) (AA p0 p1) := by
  unfold BX AA
  repeat' with_reducible (first | refine Le.orR' ?_ ?_ | refine Le.bind' ?_ ?_ | refine Le.ite' ?_ ?_ | refine Le.loop' ?_ | refine Le.altS' ?_ ?_ | apply B4 | apply Do | exact Le.rfl' _ | (refine Le.pi2 ?_; intro _) | intro _)
def Dm (nE : Nat) (p0 : (List (Int × Int × List UInt8 × Int)) × Int) (p1 : Int) : Option ((Int × ((List (Int × Int × List UInt8 × Int)) × Int)) ⊕ ((Int × Int) × ((List (Int × Int × List UInt8 × Int)) × Int))) := (Ce nE p0).bind fun x1 => (if (decide ((Bm x1) < 0) || decide (p1 < (Bm x1))) = true then (CC nE p0).bind fun x2 => some (.inr (x2, p0)) else some (.inl ((Bm x1), (p0.1, Co (p0.2 + 1)))))
theorem FB (nE : Nat) (p0 : (List (Int × Int × List UInt8 × Int)) × Int) (p1 : Int) : Le (Dm nE p0 p1) (B5 p0 p1) := by
  unfold Dm B5
  repeat' with_reducible (first | refine Le.orR' ?_ ?_ | refine Le.bind' ?_ ?_ | refine Le.ite' ?_ ?_ | refine Le.loop' ?_ | refine Le.altS' ?_ ?_ | apply CF | apply Do | exact Le.rfl' _ | (refine Le.pi2 ?_; intro _) | intro _)
def Dc (nE : Nat) (p0 : (List (Int × Int × List UInt8 × Int)) × Int) : Option ((Int × ((List (Int × Int × List UInt8 × Int)) × Int)) ⊕ ((Int × Int) × ((List (Int × Int × List UInt8 × Int)) × Int))) := (Ce nE p0).bind fun x1 => (if x1.1 ≠ 2 then (CC nE p0).bind fun x2 => some (.inr (x2, p0)) else some (.inl (x1.2.1, (p0.1, Co (p0.2 + 1)))))
theorem Fo (nE : Nat) (p0 : (List (Int × Int × List UInt8 × Int)) × Int) : Le (Dc nE p0) (Be p0) := by
  unfold Dc Be
  repeat' with_reducible (first | refine Le.orR' ?_ ?_ | refine Le.bind' ?_ ?_ | refine Le.ite' ?_ ?_ | refine Le.loop' ?_ | refine Le.altS' ?_ ?_ | apply CF | apply Do | exact Le.rfl' _ | (refine Le.pi2 ?_; intro _) | intro _)
def Dy (nE : Nat) (fRec_parse_parser_condition : ((List (Int × Int × List UInt8 × Int)) × Int) → Option ((Tr25 × ((List (Int × Int × List UInt8 × Int)) × Int)) ⊕ ((Int × Int) × ((List (Int × Int × List UInt8 × Int)) × Int)))) (fRec : ((List (Int × Int × List UInt8 × Int)) × Int) → Option ((Tr25 × ((List (Int × Int × List UInt8 × Int)) × Int)) ⊕ ((Int × Int) × ((List (Int × Int × List UInt8 × Int)) × Int)))) (p0 : (List (Int × Int × List UInt8 × Int)) × Int) : Option ((Tr25 × ((List (Int × Int × List UInt8 × Int)) × Int)) ⊕ ((Int × Int) × ((List (Int × Int × List UInt8 × Int)) × Int))) := (A0 nE p0 ([116, 114, 117, 101] : List UInt8)).bind fun x1 => (if x1.1 = true then some (.inl (Tr25.of (1, 0, 0, ([] : List Tr25)), x1.2)) else (A0 nE x1.2 ([102, 97, 108, 115, 101] : List UInt8)).bind fun x2 => (if x2.1 = true then some (.inl (Tr25.of (2, 0, 0, ([] : List Tr25)), x2.2)) else (A0 nE x2.2 ([110, 111, 116] : List UInt8)).bind fun x3 => (if x3.1 = true then (fRec x3.2).bind fun x4 => BZ x4 (fun x5 => some (.inl (Tr25.of (4, 0, 0, ([x5.1] : List Tr25)), x5.2))) (fun x6 => some (.inr (x6.1, x6.2))) else (A0 nE x3.2 ([40] : List UInt8)).bind fun x7 => (if x7.1 = true then (fRec_parse_parser_condition x7.2).bind fun x8 => BZ x8 (fun x9 => (BX nE x9.2 ([41] : List UInt8)).bind fun x11 => BZ x11 (fun x12 => some (.inl (x9.1, x12))) (fun x13 => some (.inr (x13.1, x13.2)))) (fun x10 => some (.inr (x10.1, x10.2))) else (Dm nE x7.2 5).bind fun x14 => BZ x14 (fun x15 => (BX nE x15.2 ([61] : List UInt8)).bind fun x17 => BZ x17 (fun x18 => (Dc nE x18).bind fun x20 => BZ x20 (fun x21 => some (.inl (Tr25.of (3, x15.1, x21.1, ([] : List Tr25)), x21.2))) (fun x22 => some (.inr (x22.1, x22.2)))) (fun x19 => some (.inr (x19.1, x19.2)))) (fun x16 => some (.inr (x16.1, x16.2)))))))
theorem GZ (nE : Nat) {fRec_parse_parser_condition fRec_parse_parser_condition' : ((List (Int × Int × List UInt8 × Int)) × Int) → Option ((Tr25 × ((List (Int × Int × List UInt8 × Int)) × Int)) ⊕ ((Int × Int) × ((List (Int × Int × List UInt8 × Int)) × Int)))} (hfRec_parse_parser_condition : ∀ a0, Le (fRec_parse_parser_condition a0) (fRec_parse_parser_condition' a0)) {fRec fRec' : ((List (Int × Int × List UInt8 × Int)) × Int) → Option ((Tr25 × ((List (Int × Int × List UInt8 × Int)) × Int)) ⊕ ((Int × Int) × ((List (Int × Int × List UInt8 × Int)) × Int)))} (hfRec : ∀ a0, Le (fRec a0) (fRec' a0)) (p0 : (List (Int × Int × List UInt8 × Int)) × Int) : Le (Dy nE fRec_parse_parser_condition fRec p0) (BA fRec_parse_parser_condition' fRec' p0) := by
  unfold Dy BA
  repeat' with_reducible (first | refine Le.orR' ?_ ?_ | refine Le.bind' ?_ ?_ | refine Le.ite' ?_ ?_ | refine Le.loop' ?_ | refine Le.altS' ?_ ?_ | exact hfRec_parse_parser_condition | exact hfRec | exact hfRec_parse_parser_condition _ | exact hfRec _ | apply B4 | apply Eb | apply FB | apply Fo | exact Le.rfl' _ | (refine Le.pi2 ?_; intro _) | intro _)
theorem G6 {fRec_parse_parser_condition fRec_parse_parser_condition' : ((List (Int × Int × List UInt8 × Int)) × Int) → Option ((Tr25 × ((List (Int × Int × List UInt8 × Int)) × Int)) ⊕ ((Int × Int) × ((List (Int × Int × List UInt8 × Int)) × Int)))} (hfRec_parse_parser_condition : ∀ a0, Le (fRec_parse_parser_condition a0) (fRec_parse_parser_condition' a0)) {fRec fRec' : ((List (Int × Int × List UInt8 × Int)) × Int) → Option ((Tr25 × ((List (Int × Int × List UInt8 × Int)) × Int)) ⊕ ((Int × Int) × ((List (Int × Int × List UInt8 × Int)) × Int)))} (hfRec : ∀ a0, Le (fRec a0) (fRec' a0)) (p0 : (List (Int × Int × List UInt8 × Int)) × Int) : Le (BA fRec_parse_parser_condition fRec p0) (BA fRec_parse_parser_condition' fRec' p0) := by
  unfold BA
  repeat' with_reducible (first | refine Le.orR' ?_ ?_ | refine Le.bind' ?_ ?_ | refine Le.ite' ?_ ?_ | refine Le.loopM ?_ | refine Le.altS' ?_ ?_ | exact hfRec_parse_parser_condition | exact hfRec | exact hfRec_parse_parser_condition _ | exact hfRec _ | exact Le.rfl' _ | (refine Le.pi2 ?_; intro _) | intro _)
def DJ (nE : Nat) (fRec_parse_parser_condition : ((List (Int × Int × List UInt8 × Int)) × Int) → Option ((Tr25 × ((List (Int × Int × List UInt8 × Int)) × Int)) ⊕ ((Int × Int) × ((List (Int × Int × List UInt8 × Int)) × Int)))) : Nat → ((List (Int × Int × List UInt8 × Int)) × Int) → Option ((Tr25 × ((List (Int × Int × List UInt8 × Int)) × Int)) ⊕ ((Int × Int) × ((List (Int × Int × List UInt8 × Int)) × Int)))
  | 0 => fun _ => none
  | n + 1 => Dy nE fRec_parse_parser_condition (DJ nE fRec_parse_parser_condition n)
theorem EX (nE : Nat) {fRec_parse_parser_condition fRec_parse_parser_condition' : ((List (Int × Int × List UInt8 × Int)) × Int) → Option ((Tr25 × ((List (Int × Int × List UInt8 × Int)) × Int)) ⊕ ((Int × Int) × ((List (Int × Int × List UInt8 × Int)) × Int)))} (hfRec_parse_parser_condition : ∀ a0, Le (fRec_parse_parser_condition a0) (fRec_parse_parser_condition' a0)) : ∀ (m : Nat) a0, Le (DJ nE fRec_parse_parser_condition m a0) (Bh fRec_parse_parser_condition' m a0)
  | 0, a0 => fun _ h => nomatch h
  | m + 1, a0 => GZ nE hfRec_parse_parser_condition (EX nE hfRec_parse_parser_condition m) a0
theorem Cn {fRec_parse_parser_condition fRec_parse_parser_condition' : ((List (Int × Int × List UInt8 × Int)) × Int) → Option ((Tr25 × ((List (Int × Int × List UInt8 × Int)) × Int)) ⊕ ((Int × Int) × ((List (Int × Int × List UInt8 × Int)) × Int)))} (hfRec_parse_parser_condition : ∀ a0, Le (fRec_parse_parser_condition a0) (fRec_parse_parser_condition' a0)) : ∀ (m : Nat) a0, Le (Bh fRec_parse_parser_condition m a0) (Bh fRec_parse_parser_condition' (m + 1) a0)
  | 0, a0 => fun _ h => nomatch h
  | m + 1, a0 => G6 hfRec_parse_parser_condition (Cn hfRec_parse_parser_condition m) a0
def Er (nE : Nat) (fRec_parse_parser_condition : ((List (Int × Int × List UInt8 × Int)) × Int) → Option ((Tr25 × ((List (Int × Int × List UInt8 × Int)) × Int)) ⊕ ((Int × Int) × ((List (Int × Int × List UInt8 × Int)) × Int)))) (p0 : (List (Int × Int × List UInt8 × Int)) × Int) : Option ((Tr25 × ((List (Int × Int × List UInt8 × Int)) × Int)) ⊕ ((Int × Int) × ((List (Int × Int × List UInt8 × Int)) × Int))) := DJ nE fRec_parse_parser_condition nE p0
theorem Fq (nE : Nat) {fRec_parse_parser_condition fRec_parse_parser_condition' : ((List (Int × Int × List UInt8 × Int)) × Int) → Option ((Tr25 × ((List (Int × Int × List UInt8 × Int)) × Int)) ⊕ ((Int × Int) × ((List (Int × Int × List UInt8 × Int)) × Int)))} (hfRec_parse_parser_condition : ∀ a0, Le (fRec_parse_parser_condition a0) (fRec_parse_parser_condition' a0)) (p0 : (List (Int × Int × List UInt8 × Int)) × Int) : Le (Er nE fRec_parse_parser_condition p0) (Ca fRec_parse_parser_condition' p0) := fun r e => Dd (g := fun n => Bh fRec_parse_parser_condition' n p0) (fun n r h => Cn (fun a0 => Le.rfl' _) n p0 r h) (n := nE) (EX nE hfRec_parse_parser_condition nE p0 r e)
theorem Fw {fRec_parse_parser_condition fRec_parse_parser_condition' : ((List (Int × Int × List UInt8 × Int)) × Int) → Option ((Tr25 × ((List (Int × Int × List UInt8 × Int)) × Int)) ⊕ ((Int × Int) × ((List (Int × Int × List UInt8 × Int)) × Int)))} (hfRec_parse_parser_condition : ∀ a0, Le (fRec_parse_parser_condition a0) (fRec_parse_parser_condition' a0)) (p0 : (List (Int × Int × List UInt8 × Int)) × Int) : Le (Ca fRec_parse_parser_condition p0) (Ca fRec_parse_parser_condition' p0) := fun r e => by
  obtain ⟨n, hn⟩ := Ch e
  exact Dd (g := fun n => Bh fRec_parse_parser_condition' n p0) (fun n r h => Cn (fun a0 => Le.rfl' _) n p0 r h) (n := n + 1) (Cn hfRec_parse_parser_condition n p0 r hn)
def CZ (nE : Nat) (fRec_parse_parser_condition : ((List (Int × Int × List UInt8 × Int)) × Int) → Option ((Tr25 × ((List (Int × Int × List UInt8 × Int)) × Int)) ⊕ ((Int × Int) × ((List (Int × Int × List UInt8 × Int)) × Int)))) (p1 : List UInt8) : (List Tr25 × (List (Int × Int × List UInt8 × Int)) × Int) → Option ((List Tr25 × (List (Int × Int × List UInt8 × Int)) × Int) ⊕ ((List Tr25 × (List (Int × Int × List UInt8 × Int)) × Int) ⊕ ((Tr25 × ((List (Int × Int × List UInt8 × Int)) × Int)) ⊕ ((Int × Int) × ((List (Int × Int × List UInt8 × Int)) × Int)))))
  | (x7, x8, x9) => (A0 nE (x8, x9) p1).bind fun x10 => (if x10.1 = true then ((Er nE fRec_parse_parser_condition) x10.2).bind fun x11 => BZ x11 (fun x12 => (Eo x7 ([x12.1] : List Tr25)).bind fun x14 => some (.inl (x14, x12.2.1, x12.2.2))) (fun x13 => some (.inr (.inr (.inr (x13.1, x13.2))))) else some (.inr (.inl (x7, x10.2.1, x10.2.2))))
theorem Gd (nE : Nat) {fRec_parse_parser_condition fRec_parse_parser_condition' : ((List (Int × Int × List UInt8 × Int)) × Int) → Option ((Tr25 × ((List (Int × Int × List UInt8 × Int)) × Int)) ⊕ ((Int × Int) × ((List (Int × Int × List UInt8 × Int)) × Int)))} (hfRec_parse_parser_condition : ∀ a0, Le (fRec_parse_parser_condition a0) (fRec_parse_parser_condition' a0)) (p1 : List UInt8) : ∀ s, Le (CZ nE fRec_parse_parser_condition p1 s) (Bf fRec_parse_parser_condition' p1 s) := by
  rintro ⟨x7, x8, x9⟩
  unfold CZ Bf
  repeat' with_reducible (first | refine Le.orR' ?_ ?_ | refine Le.bind' ?_ ?_ | refine Le.ite' ?_ ?_ | refine Le.loop' ?_ | refine Le.altS' ?_ ?_ | exact hfRec_parse_parser_condition | exact hfRec_parse_parser_condition _ | apply B4 | apply Fq | exact Le.rfl' _ | (refine Le.pi2 ?_; intro _) | intro _)
theorem Gm {fRec_parse_parser_condition fRec_parse_parser_condition' : ((List (Int × Int × List UInt8 × Int)) × Int) → Option ((Tr25 × ((List (Int × Int × List UInt8 × Int)) × Int)) ⊕ ((Int × Int) × ((List (Int × Int × List UInt8 × Int)) × Int)))} (hfRec_parse_parser_condition : ∀ a0, Le (fRec_parse_parser_condition a0) (fRec_parse_parser_condition' a0)) (p1 : List UInt8) : ∀ s, Le (Bf fRec_parse_parser_condition p1 s) (Bf fRec_parse_parser_condition' p1 s) := by
  rintro ⟨x7, x8, x9⟩
  show Le (Bf fRec_parse_parser_condition p1 (x7, x8, x9)) (Bf fRec_parse_parser_condition' p1 (x7, x8, x9))
  unfold Bf
  repeat' with_reducible (first | refine Le.orR' ?_ ?_ | refine Le.bind' ?_ ?_ | refine Le.ite' ?_ ?_ | refine Le.loopM ?_ | refine Le.altS' ?_ ?_ | exact hfRec_parse_parser_condition | exact hfRec_parse_parser_condition _ | apply Fw | exact Le.rfl' _ | (refine Le.pi2 ?_; intro _) | intro _)
def Ds (nE : Nat) (fRec_parse_parser_condition : ((List (Int × Int × List UInt8 × Int)) × Int) → Option ((Tr25 × ((List (Int × Int × List UInt8 × Int)) × Int)) ⊕ ((Int × Int) × ((List (Int × Int × List UInt8 × Int)) × Int)))) (p0 : (List (Int × Int × List UInt8 × Int)) × Int) (p1 : List UInt8) : Option ((Tr25 × ((List (Int × Int × List UInt8 × Int)) × Int)) ⊕ ((Int × Int) × ((List (Int × Int × List UInt8 × Int)) × Int))) := ((Er nE fRec_parse_parser_condition) p0).bind fun x1 => BZ x1 (fun x2 => J4 (H4 nE (CZ nE fRec_parse_parser_condition p1) (([x2.1] : List Tr25), x2.2.1, x2.2.2)) fun (x4, x5, x6) => (if (x4.length : Int) = 1 then (ix x4 0).bind fun x15 => some (.inl (x15, (x5, x6))) else some (.inl (Tr25.of ((Ci x4).un.1, (Ci x4).un.2.1, (Ci x4).un.2.2.1, (Ci x4).un.2.2.2), (x5, x6))))) (fun x3 => some (.inr (x3.1, x3.2)))
theorem G7 (nE : Nat) {fRec_parse_parser_condition fRec_parse_parser_condition' : ((List (Int × Int × List UInt8 × Int)) × Int) → Option ((Tr25 × ((List (Int × Int × List UInt8 × Int)) × Int)) ⊕ ((Int × Int) × ((List (Int × Int × List UInt8 × Int)) × Int)))} (hfRec_parse_parser_condition : ∀ a0, Le (fRec_parse_parser_condition a0) (fRec_parse_parser_condition' a0)) (p0 : (List (Int × Int × List UInt8 × Int)) × Int) (p1 : List UInt8) : Le (Ds nE fRec_parse_parser_condition p0 p1) (BH fRec_parse_parser_condition' p0 p1) := by
  unfold Ds BH
  repeat' with_reducible (first | refine Le.orR' ?_ ?_ | refine Le.bind' ?_ ?_ | refine Le.ite' ?_ ?_ | refine Le.loop' ?_ | refine Le.altS' ?_ ?_ | exact hfRec_parse_parser_condition | exact hfRec_parse_parser_condition _ | apply Fq | apply Gd | exact Le.rfl' _ | (refine Le.pi2 ?_; intro _) | intro _)
theorem G0 {fRec_parse_parser_condition fRec_parse_parser_condition' : ((List (Int × Int × List UInt8 × Int)) × Int) → Option ((Tr25 × ((List (Int × Int × List UInt8 × Int)) × Int)) ⊕ ((Int × Int) × ((List (Int × Int × List UInt8 × Int)) × Int)))} (hfRec_parse_parser_condition : ∀ a0, Le (fRec_parse_parser_condition a0) (fRec_parse_parser_condition' a0)) (p0 : (List (Int × Int × List UInt8 × Int)) × Int) (p1 : List UInt8) : Le (BH fRec_parse_parser_condition p0 p1) (BH fRec_parse_parser_condition' p0 p1) := by
  unfold BH
  repeat' with_reducible (first | refine Le.orR' ?_ ?_ | refine Le.bind' ?_ ?_ | refine Le.ite' ?_ ?_ | refine Le.loopM ?_ | refine Le.altS' ?_ ?_ | exact hfRec_parse_parser_condition | exact hfRec_parse_parser_condition _ | apply Fw | apply Gm | exact Le.rfl' _ | (refine Le.pi2 ?_; intro _) | intro _)
def DC (nE : Nat) (fRec_parse_parser_condition : ((List (Int × Int × List UInt8 × Int)) × Int) → Option ((Tr25 × ((List (Int × Int × List UInt8 × Int)) × Int)) ⊕ ((Int × Int) × ((List (Int × Int × List UInt8 × Int)) × Int)))) (p0 : (List (Int × Int × List UInt8 × Int)) × Int) : Option ((Tr25 × ((List (Int × Int × List UInt8 × Int)) × Int)) ⊕ ((Int × Int) × ((List (Int × Int × List UInt8 × Int)) × Int))) := ((Ds nE fRec_parse_parser_condition) p0 ([97, 110, 100] : List UInt8)).bind fun x1 => BZ x1 (fun x2 => some (.inl (x2.1, x2.2))) (fun x3 => some (.inr (x3.1, x3.2)))
theorem F1 (nE : Nat) {fRec_parse_parser_condition fRec_parse_parser_condition' : ((List (Int × Int × List UInt8 × Int)) × Int) → Option ((Tr25 × ((List (Int × Int × List UInt8 × Int)) × Int)) ⊕ ((Int × Int) × ((List (Int × Int × List UInt8 × Int)) × Int)))} (hfRec_parse_parser_condition : ∀ a0, Le (fRec_parse_parser_condition a0) (fRec_parse_parser_condition' a0)) (p0 : (List (Int × Int × List UInt8 × Int)) × Int) : Le (DC nE fRec_parse_parser_condition p0) (BL fRec_parse_parser_condition' p0) := by
  unfold DC BL
  repeat' with_reducible (first | refine Le.orR' ?_ ?_ | refine Le.bind' ?_ ?_ | refine Le.ite' ?_ ?_ | refine Le.loop' ?_ | refine Le.altS' ?_ ?_ | exact hfRec_parse_parser_condition | exact hfRec_parse_parser_condition _ | apply G7 | exact Le.rfl' _ | (refine Le.pi2 ?_; intro _) | intro _)
theorem F3 {fRec_parse_parser_condition fRec_parse_parser_condition' : ((List (Int × Int × List UInt8 × Int)) × Int) → Option ((Tr25 × ((List (Int × Int × List UInt8 × Int)) × Int)) ⊕ ((Int × Int) × ((List (Int × Int × List UInt8 × Int)) × Int)))} (hfRec_parse_parser_condition : ∀ a0, Le (fRec_parse_parser_condition a0) (fRec_parse_parser_condition' a0)) (p0 : (List (Int × Int × List UInt8 × Int)) × Int) : Le (BL fRec_parse_parser_condition p0) (BL fRec_parse_parser_condition' p0) := by
  unfold BL
  repeat' with_reducible (first | refine Le.orR' ?_ ?_ | refine Le.bind' ?_ ?_ | refine Le.ite' ?_ ?_ | refine Le.loopM ?_ | refine Le.altS' ?_ ?_ | exact hfRec_parse_parser_condition | exact hfRec_parse_parser_condition _ | apply G0 | exact Le.rfl' _ | (refine Le.pi2 ?_; intro _) | intro _)
def De (nE : Nat) (fRec_parse_parser_condition : ((List (Int × Int × List UInt8 × Int)) × Int) → Option ((Tr25 × ((List (Int × Int × List UInt8 × Int)) × Int)) ⊕ ((Int × Int) × ((List (Int × Int × List UInt8 × Int)) × Int)))) (p1 : List UInt8) : (List Tr25 × (List (Int × Int × List UInt8 × Int)) × Int) → Option ((List Tr25 × (List (Int × Int × List UInt8 × Int)) × Int) ⊕ ((List Tr25 × (List (Int × Int × List UInt8 × Int)) × Int) ⊕ ((Tr25 × ((List (Int × Int × List UInt8 × Int)) × Int)) ⊕ ((Int × Int) × ((List (Int × Int × List UInt8 × Int)) × Int)))))
  | (x7, x8, x9) => (A0 nE (x8, x9) p1).bind fun x10 => (if x10.1 = true then ((DC nE fRec_parse_parser_condition) x10.2).bind fun x11 => BZ x11 (fun x12 => (Eo x7 ([x12.1] : List Tr25)).bind fun x14 => some (.inl (x14, x12.2.1, x12.2.2))) (fun x13 => some (.inr (.inr (.inr (x13.1, x13.2))))) else some (.inr (.inl (x7, x10.2.1, x10.2.2))))
theorem GK (nE : Nat) {fRec_parse_parser_condition fRec_parse_parser_condition' : ((List (Int × Int × List UInt8 × Int)) × Int) → Option ((Tr25 × ((List (Int × Int × List UInt8 × Int)) × Int)) ⊕ ((Int × Int) × ((List (Int × Int × List UInt8 × Int)) × Int)))} (hfRec_parse_parser_condition : ∀ a0, Le (fRec_parse_parser_condition a0) (fRec_parse_parser_condition' a0)) (p1 : List UInt8) : ∀ s, Le (De nE fRec_parse_parser_condition p1 s) (Bu fRec_parse_parser_condition' p1 s) := by
  rintro ⟨x7, x8, x9⟩
  unfold De Bu
  repeat' with_reducible (first | refine Le.orR' ?_ ?_ | refine Le.bind' ?_ ?_ | refine Le.ite' ?_ ?_ | refine Le.loop' ?_ | refine Le.altS' ?_ ?_ | exact hfRec_parse_parser_condition | exact hfRec_parse_parser_condition _ | apply B4 | apply F1 | exact Le.rfl' _ | (refine Le.pi2 ?_; intro _) | intro _)
theorem GU {fRec_parse_parser_condition fRec_parse_parser_condition' : ((List (Int × Int × List UInt8 × Int)) × Int) → Option ((Tr25 × ((List (Int × Int × List UInt8 × Int)) × Int)) ⊕ ((Int × Int) × ((List (Int × Int × List UInt8 × Int)) × Int)))} (hfRec_parse_parser_condition : ∀ a0, Le (fRec_parse_parser_condition a0) (fRec_parse_parser_condition' a0)) (p1 : List UInt8) : ∀ s, Le (Bu fRec_parse_parser_condition p1 s) (Bu fRec_parse_parser_condition' p1 s) := by
  rintro ⟨x7, x8, x9⟩
  show Le (Bu fRec_parse_parser_condition p1 (x7, x8, x9)) (Bu fRec_parse_parser_condition' p1 (x7, x8, x9))
  unfold Bu
  repeat' with_reducible (first | refine Le.orR' ?_ ?_ | refine Le.bind' ?_ ?_ | refine Le.ite' ?_ ?_ | refine Le.loopM ?_ | refine Le.altS' ?_ ?_ | exact hfRec_parse_parser_condition | exact hfRec_parse_parser_condition _ | apply F3 | exact Le.rfl' _ | (refine Le.pi2 ?_; intro _) | intro _)
def D7 (nE : Nat) (fRec_parse_parser_condition : ((List (Int × Int × List UInt8 × Int)) × Int) → Option ((Tr25 × ((List (Int × Int × List UInt8 × Int)) × Int)) ⊕ ((Int × Int) × ((List (Int × Int × List UInt8 × Int)) × Int)))) (p0 : (List (Int × Int × List UInt8 × Int)) × Int) (p1 : List UInt8) : Option ((Tr25 × ((List (Int × Int × List UInt8 × Int)) × Int)) ⊕ ((Int × Int) × ((List (Int × Int × List UInt8 × Int)) × Int))) := ((DC nE fRec_parse_parser_condition) p0).bind fun x1 => BZ x1 (fun x2 => J4 (H4 nE (De nE fRec_parse_parser_condition p1) (([x2.1] : List Tr25), x2.2.1, x2.2.2)) fun (x4, x5, x6) => (if (x4.length : Int) = 1 then (ix x4 0).bind fun x15 => some (.inl (x15, (x5, x6))) else some (.inl (Tr25.of ((CA x4).un.1, (CA x4).un.2.1, (CA x4).un.2.2.1, (CA x4).un.2.2.2), (x5, x6))))) (fun x3 => some (.inr (x3.1, x3.2)))
theorem HE (nE : Nat) {fRec_parse_parser_condition fRec_parse_parser_condition' : ((List (Int × Int × List UInt8 × Int)) × Int) → Option ((Tr25 × ((List (Int × Int × List UInt8 × Int)) × Int)) ⊕ ((Int × Int) × ((List (Int × Int × List UInt8 × Int)) × Int)))} (hfRec_parse_parser_condition : ∀ a0, Le (fRec_parse_parser_condition a0) (fRec_parse_parser_condition' a0)) (p0 : (List (Int × Int × List UInt8 × Int)) × Int) (p1 : List UInt8) : Le (D7 nE fRec_parse_parser_condition p0 p1) (BS fRec_parse_parser_condition' p0 p1) := by
  unfold D7 BS
  repeat' with_reducible (first | refine Le.orR' ?_ ?_ | refine Le.bind' ?_ ?_ | refine Le.ite' ?_ ?_ | refine Le.loop' ?_ | refine Le.altS' ?_ ?_ | exact hfRec_parse_parser_condition | exact hfRec_parse_parser_condition _ | apply F1 | apply GK | exact Le.rfl' _ | (refine Le.pi2 ?_; intro _) | intro _)
theorem HG {fRec_parse_parser_condition fRec_parse_parser_condition' : ((List (Int × Int × List UInt8 × Int)) × Int) → Option ((Tr25 × ((List (Int × Int × List UInt8 × Int)) × Int)) ⊕ ((Int × Int) × ((List (Int × Int × List UInt8 × Int)) × Int)))} (hfRec_parse_parser_condition : ∀ a0, Le (fRec_parse_parser_condition a0) (fRec_parse_parser_condition' a0)) (p0 : (List (Int × Int × List UInt8 × Int)) × Int) (p1 : List UInt8) : Le (BS fRec_parse_parser_condition p0 p1) (BS fRec_parse_parser_condition' p0 p1) := by
  unfold BS
  repeat' with_reducible (first | refine Le.orR' ?_ ?_ | refine Le.bind' ?_ ?_ | refine Le.ite' ?_ ?_ | refine Le.loopM ?_ | refine Le.altS' ?_ ?_ | exact hfRec_parse_parser_condition | exact hfRec_parse_parser_condition _ | apply F3 | apply GU | exact Le.rfl' _ | (refine Le.pi2 ?_; intro _) | intro _)
def CW (nE : Nat) (fRec : ((List (Int × Int × List UInt8 × Int)) × Int) → Option ((Tr25 × ((List (Int × Int × List UInt8 × Int)) × Int)) ⊕ ((Int × Int) × ((List (Int × Int × List UInt8 × Int)) × Int)))) (p0 : (List (Int × Int × List UInt8 × Int)) × Int) : Option ((Tr25 × ((List (Int × Int × List UInt8 × Int)) × Int)) ⊕ ((Int × Int) × ((List (Int × Int × List UInt8 × Int)) × Int))) := ((D7 nE fRec) p0 ([111, 114] : List UInt8)).bind fun x1 => BZ x1 (fun x2 => some (.inl (x2.1, x2.2))) (fun x3 => some (.inr (x3.1, x3.2)))
theorem Ge (nE : Nat) {fRec fRec' : ((List (Int × Int × List UInt8 × Int)) × Int) → Option ((Tr25 × ((List (Int × Int × List UInt8 × Int)) × Int)) ⊕ ((Int × Int) × ((List (Int × Int × List UInt8 × Int)) × Int)))} (hfRec : ∀ a0, Le (fRec a0) (fRec' a0)) (p0 : (List (Int × Int × List UInt8 × Int)) × Int) : Le (CW nE fRec p0) (Bg fRec' p0) := by
  unfold CW Bg
  repeat' with_reducible (first | refine Le.orR' ?_ ?_ | refine Le.bind' ?_ ?_ | refine Le.ite' ?_ ?_ | refine Le.loop' ?_ | refine Le.altS' ?_ ?_ | exact hfRec | exact hfRec _ | apply HE | exact Le.rfl' _ | (refine Le.pi2 ?_; intro _) | intro _)
theorem Gh {fRec fRec' : ((List (Int × Int × List UInt8 × Int)) × Int) → Option ((Tr25 × ((List (Int × Int × List UInt8 × Int)) × Int)) ⊕ ((Int × Int) × ((List (Int × Int × List UInt8 × Int)) × Int)))} (hfRec : ∀ a0, Le (fRec a0) (fRec' a0)) (p0 : (List (Int × Int × List UInt8 × Int)) × Int) : Le (Bg fRec p0) (Bg fRec' p0) := by
  unfold Bg
  repeat' with_reducible (first | refine Le.orR' ?_ ?_ | refine Le.bind' ?_ ?_ | refine Le.ite' ?_ ?_ | refine Le.loopM ?_ | refine Le.altS' ?_ ?_ | exact hfRec | exact hfRec _ | apply HG | exact Le.rfl' _ | (refine Le.pi2 ?_; intro _) | intro _)
def C8 (nE : Nat) : Nat → ((List (Int × Int × List UInt8 × Int)) × Int) → Option ((Tr25 × ((List (Int × Int × List UInt8 × Int)) × Int)) ⊕ ((Int × Int) × ((List (Int × Int × List UInt8 × Int)) × Int)))
  | 0 => fun _ => none
  | n + 1 => CW nE (C8 nE n)
theorem Ew (nE : Nat) : ∀ (m : Nat) a0, Le (C8 nE m a0) (AW m a0)
  | 0, a0 => fun _ h => nomatch h
  | m + 1, a0 => Ge nE (Ew nE m) a0
theorem CX : ∀ (m : Nat) a0, Le (AW m a0) (AW (m + 1) a0)
  | 0, a0 => fun _ h => nomatch h
  | m + 1, a0 => Gh (CX m) a0
def Dx (nE : Nat) (p0 : (List (Int × Int × List UInt8 × Int)) × Int) : Option ((Tr25 × ((List (Int × Int × List UInt8 × Int)) × Int)) ⊕ ((Int × Int) × ((List (Int × Int × List UInt8 × Int)) × Int))) := C8 nE nE p0
theorem EM (nE : Nat) (p0 : (List (Int × Int × List UInt8 × Int)) × Int) : Le (Dx nE p0) (BR p0) := fun r e => Dd (g := fun n => AW n p0) (fun n r h => CX n p0 r h) (n := nE) (Ew nE nE p0 r e)
def Ep (nE : Nat) (fRec_parse_parser_step : ((List (Int × Int × List UInt8 × Int)) × Int) → Option ((Tr28 × ((List (Int × Int × List UInt8 × Int)) × Int)) ⊕ ((Int × Int) × ((List (Int × Int × List UInt8 × Int)) × Int)))) (p0 : (List (Int × Int × List UInt8 × Int)) × Int) : Option ((Tr28 × ((List (Int × Int × List UInt8 × Int)) × Int)) ⊕ ((Int × Int) × ((List (Int × Int × List UInt8 × Int)) × Int))) := (Dx nE p0).bind fun x1 => BZ x1 (fun x2 => (BX nE x2.2 ([116, 104, 101, 110] : List UInt8)).bind fun x4 => BZ x4 (fun x5 => (fRec_parse_parser_step x5).bind fun x7 => BZ x7 (fun x8 => (BX nE x8.2 ([101, 108, 115, 101] : List UInt8)).bind fun x10 => BZ x10 (fun x11 => (fRec_parse_parser_step x11).bind fun x13 => BZ x13 (fun x14 => some (.inl (Tr28.of (5, x2.1, 0, 0, ([Tr28.of (x8.1.un.1, Tr25.of (x8.1.un.2.1.un.1, x8.1.un.2.1.un.2.1, x8.1.un.2.1.un.2.2.1, x8.1.un.2.1.un.2.2.2), x8.1.un.2.2.1, x8.1.un.2.2.2.1, x8.1.un.2.2.2.2), Tr28.of (x14.1.un.1, Tr25.of (x14.1.un.2.1.un.1, x14.1.un.2.1.un.2.1, x14.1.un.2.1.un.2.2.1, x14.1.un.2.1.un.2.2.2), x14.1.un.2.2.1, x14.1.un.2.2.2.1, x14.1.un.2.2.2.2)] : List Tr28)), x14.2))) (fun x15 => some (.inr (x15.1, x15.2)))) (fun x12 => some (.inr (x12.1, x12.2)))) (fun x9 => some (.inr (x9.1, x9.2)))) (fun x6 => some (.inr (x6.1, x6.2)))) (fun x3 => some (.inr (x3.1, x3.2)))
theorem HL (nE : Nat) {fRec_parse_parser_step fRec_parse_parser_step' : ((List (Int × Int × List UInt8 × Int)) × Int) → Option ((Tr28 × ((List (Int × Int × List UInt8 × Int)) × Int)) ⊕ ((Int × Int) × ((List (Int × Int × List UInt8 × Int)) × Int)))} (hfRec_parse_parser_step : ∀ a0, Le (fRec_parse_parser_step a0) (fRec_parse_parser_step' a0)) (p0 : (List (Int × Int × List UInt8 × Int)) × Int) : Le (Ep nE fRec_parse_parser_step p0) (BG fRec_parse_parser_step' p0) := by
  unfold Ep BG
  repeat' with_reducible (first | refine Le.orR' ?_ ?_ | refine Le.bind' ?_ ?_ | refine Le.ite' ?_ ?_ | refine Le.loop' ?_ | refine Le.altS' ?_ ?_ | exact hfRec_parse_parser_step | exact hfRec_parse_parser_step _ | apply Eb | apply EM | exact Le.rfl' _ | (refine Le.pi2 ?_; intro _) | intro _)
theorem HM {fRec_parse_parser_step fRec_parse_parser_step' : ((List (Int × Int × List UInt8 × Int)) × Int) → Option ((Tr28 × ((List (Int × Int × List UInt8 × Int)) × Int)) ⊕ ((Int × Int) × ((List (Int × Int × List UInt8 × Int)) × Int)))} (hfRec_parse_parser_step : ∀ a0, Le (fRec_parse_parser_step a0) (fRec_parse_parser_step' a0)) (p0 : (List (Int × Int × List UInt8 × Int)) × Int) : Le (BG fRec_parse_parser_step p0) (BG fRec_parse_parser_step' p0) := by
  unfold BG
  repeat' with_reducible (first | refine Le.orR' ?_ ?_ | refine Le.bind' ?_ ?_ | refine Le.ite' ?_ ?_ | refine Le.loopM ?_ | refine Le.altS' ?_ ?_ | exact hfRec_parse_parser_step | exact hfRec_parse_parser_step _ | exact Le.rfl' _ | (refine Le.pi2 ?_; intro _) | intro _)
def D6 (nE : Nat) (fRec_parse_parser_policy : ((List (Int × Int × List UInt8 × Int)) × Int) → Option ((Tr28 × ((List (Int × Int × List UInt8 × Int)) × Int)) ⊕ ((Int × Int) × ((List (Int × Int × List UInt8 × Int)) × Int)))) (fRec : ((List (Int × Int × List UInt8 × Int)) × Int) → Option ((Tr28 × ((List (Int × Int × List UInt8 × Int)) × Int)) ⊕ ((Int × Int) × ((List (Int × Int × List UInt8 × Int)) × Int)))) (p0 : (List (Int × Int × List UInt8 × Int)) × Int) : Option ((Tr28 × ((List (Int × Int × List UInt8 × Int)) × Int)) ⊕ ((Int × Int) × ((List (Int × Int × List UInt8 × Int)) × Int))) := (A0 nE p0 ([100, 114, 111, 112] : List UInt8)).bind fun x1 => (if x1.1 = true then some (.inl (Tr28.of ((Aj (Tr25.of (2, 0, 0, ([] : List Tr25)))).un.1, Tr25.of ((Aj (Tr25.of (2, 0, 0, ([] : List Tr25)))).un.2.1.un.1, (Aj (Tr25.of (2, 0, 0, ([] : List Tr25)))).un.2.1.un.2.1, (Aj (Tr25.of (2, 0, 0, ([] : List Tr25)))).un.2.1.un.2.2.1, (Aj (Tr25.of (2, 0, 0, ([] : List Tr25)))).un.2.1.un.2.2.2), (Aj (Tr25.of (2, 0, 0, ([] : List Tr25)))).un.2.2.1, (Aj (Tr25.of (2, 0, 0, ([] : List Tr25)))).un.2.2.2.1, (Aj (Tr25.of (2, 0, 0, ([] : List Tr25)))).un.2.2.2.2), x1.2)) else (A0 nE x1.2 ([105, 100] : List UInt8)).bind fun x2 => (if x2.1 = true then some (.inl (Tr28.of ((Aj (Tr25.of (1, 0, 0, ([] : List Tr25)))).un.1, Tr25.of ((Aj (Tr25.of (1, 0, 0, ([] : List Tr25)))).un.2.1.un.1, (Aj (Tr25.of (1, 0, 0, ([] : List Tr25)))).un.2.1.un.2.1, (Aj (Tr25.of (1, 0, 0, ([] : List Tr25)))).un.2.1.un.2.2.1, (Aj (Tr25.of (1, 0, 0, ([] : List Tr25)))).un.2.1.un.2.2.2), (Aj (Tr25.of (1, 0, 0, ([] : List Tr25)))).un.2.2.1, (Aj (Tr25.of (1, 0, 0, ([] : List Tr25)))).un.2.2.2.1, (Aj (Tr25.of (1, 0, 0, ([] : List Tr25)))).un.2.2.2.2), x2.2)) else (A0 nE x2.2 ([119, 104, 101, 110] : List UInt8)).bind fun x3 => (if x3.1 = true then (Dx nE x3.2).bind fun x4 => BZ x4 (fun x5 => some (.inl (Tr28.of ((Aj x5.1).un.1, Tr25.of ((Aj x5.1).un.2.1.un.1, (Aj x5.1).un.2.1.un.2.1, (Aj x5.1).un.2.1.un.2.2.1, (Aj x5.1).un.2.1.un.2.2.2), (Aj x5.1).un.2.2.1, (Aj x5.1).un.2.2.2.1, (Aj x5.1).un.2.2.2.2), x5.2))) (fun x6 => some (.inr (x6.1, x6.2))) else (A0 nE x3.2 ([105, 102] : List UInt8)).bind fun x7 => (if x7.1 = true then ((Ep nE fRec) x7.2).bind fun x8 => BZ x8 (fun x9 => some (.inl (Tr28.of (x9.1.un.1, Tr25.of (x9.1.un.2.1.un.1, x9.1.un.2.1.un.2.1, x9.1.un.2.1.un.2.2.1, x9.1.un.2.1.un.2.2.2), x9.1.un.2.2.1, x9.1.un.2.2.2.1, x9.1.un.2.2.2.2), x9.2))) (fun x10 => some (.inr (x10.1, x10.2))) else (A0 nE x7.2 ([40] : List UInt8)).bind fun x11 => (if x11.1 = true then (fRec_parse_parser_policy x11.2).bind fun x12 => BZ x12 (fun x13 => (BX nE x13.2 ([41] : List UInt8)).bind fun x15 => BZ x15 (fun x16 => some (.inl (Tr28.of (x13.1.un.1, Tr25.of (x13.1.un.2.1.un.1, x13.1.un.2.1.un.2.1, x13.1.un.2.1.un.2.2.1, x13.1.un.2.1.un.2.2.2), x13.1.un.2.2.1, x13.1.un.2.2.2.1, x13.1.un.2.2.2.2), x16))) (fun x17 => some (.inr (x17.1, x17.2)))) (fun x14 => some (.inr (x14.1, x14.2))) else (Dm nE x11.2 4).bind fun x18 => BZ x18 (fun x19 => (BX nE x19.2 ([58, 61] : List UInt8)).bind fun x21 => BZ x21 (fun x22 => (Dc nE x22).bind fun x24 => BZ x24 (fun x25 => some (.inl (Tr28.of (2, Tr25.of (0, 0, 0, ([] : List Tr25)), x19.1, x25.1, ([] : List Tr28)), x25.2))) (fun x26 => some (.inr (x26.1, x26.2)))) (fun x23 => some (.inr (x23.1, x23.2)))) (fun x20 => some (.inr (x20.1, x20.2))))))))
theorem HD (nE : Nat) {fRec_parse_parser_policy fRec_parse_parser_policy' : ((List (Int × Int × List UInt8 × Int)) × Int) → Option ((Tr28 × ((List (Int × Int × List UInt8 × Int)) × Int)) ⊕ ((Int × Int) × ((List (Int × Int × List UInt8 × Int)) × Int)))} (hfRec_parse_parser_policy : ∀ a0, Le (fRec_parse_parser_policy a0) (fRec_parse_parser_policy' a0)) {fRec fRec' : ((List (Int × Int × List UInt8 × Int)) × Int) → Option ((Tr28 × ((List (Int × Int × List UInt8 × Int)) × Int)) ⊕ ((Int × Int) × ((List (Int × Int × List UInt8 × Int)) × Int)))} (hfRec : ∀ a0, Le (fRec a0) (fRec' a0)) (p0 : (List (Int × Int × List UInt8 × Int)) × Int) : Le (D6 nE fRec_parse_parser_policy fRec p0) (BI fRec_parse_parser_policy' fRec' p0) := by
  unfold D6 BI
  repeat' with_reducible (first | refine Le.orR' ?_ ?_ | refine Le.bind' ?_ ?_ | refine Le.ite' ?_ ?_ | refine Le.loop' ?_ | refine Le.altS' ?_ ?_ | exact hfRec_parse_parser_policy | exact hfRec | exact hfRec_parse_parser_policy _ | exact hfRec _ | apply B4 | apply Eb | apply FB | apply Fo | apply EM | apply HL | exact Le.rfl' _ | (refine Le.pi2 ?_; intro _) | intro _)
theorem HF {fRec_parse_parser_policy fRec_parse_parser_policy' : ((List (Int × Int × List UInt8 × Int)) × Int) → Option ((Tr28 × ((List (Int × Int × List UInt8 × Int)) × Int)) ⊕ ((Int × Int) × ((List (Int × Int × List UInt8 × Int)) × Int)))} (hfRec_parse_parser_policy : ∀ a0, Le (fRec_parse_parser_policy a0) (fRec_parse_parser_policy' a0)) {fRec fRec' : ((List (Int × Int × List UInt8 × Int)) × Int) → Option ((Tr28 × ((List (Int × Int × List UInt8 × Int)) × Int)) ⊕ ((Int × Int) × ((List (Int × Int × List UInt8 × Int)) × Int)))} (hfRec : ∀ a0, Le (fRec a0) (fRec' a0)) (p0 : (List (Int × Int × List UInt8 × Int)) × Int) : Le (BI fRec_parse_parser_policy fRec p0) (BI fRec_parse_parser_policy' fRec' p0) := by
  unfold BI
  repeat' with_reducible (first | refine Le.orR' ?_ ?_ | refine Le.bind' ?_ ?_ | refine Le.ite' ?_ ?_ | refine Le.loopM ?_ | refine Le.altS' ?_ ?_ | exact hfRec_parse_parser_policy | exact hfRec | exact hfRec_parse_parser_policy _ | exact hfRec _ | apply HM | exact Le.rfl' _ | (refine Le.pi2 ?_; intro _) | intro _)
def Es (nE : Nat) (fRec_parse_parser_policy : ((List (Int × Int × List UInt8 × Int)) × Int) → Option ((Tr28 × ((List (Int × Int × List UInt8 × Int)) × Int)) ⊕ ((Int × Int) × ((List (Int × Int × List UInt8 × Int)) × Int)))) : Nat → ((List (Int × Int × List UInt8 × Int)) × Int) → Option ((Tr28 × ((List (Int × Int × List UInt8 × Int)) × Int)) ⊕ ((Int × Int) × ((List (Int × Int × List UInt8 × Int)) × Int)))
  | 0 => fun _ => none
  | n + 1 => D6 nE fRec_parse_parser_policy (Es nE fRec_parse_parser_policy n)
theorem Fp (nE : Nat) {fRec_parse_parser_policy fRec_parse_parser_policy' : ((List (Int × Int × List UInt8 × Int)) × Int) → Option ((Tr28 × ((List (Int × Int × List UInt8 × Int)) × Int)) ⊕ ((Int × Int) × ((List (Int × Int × List UInt8 × Int)) × Int)))} (hfRec_parse_parser_policy : ∀ a0, Le (fRec_parse_parser_policy a0) (fRec_parse_parser_policy' a0)) : ∀ (m : Nat) a0, Le (Es nE fRec_parse_parser_policy m a0) (Bo fRec_parse_parser_policy' m a0)
  | 0, a0 => fun _ h => nomatch h
  | m + 1, a0 => HD nE hfRec_parse_parser_policy (Fp nE hfRec_parse_parser_policy m) a0
theorem Cy {fRec_parse_parser_policy fRec_parse_parser_policy' : ((List (Int × Int × List UInt8 × Int)) × Int) → Option ((Tr28 × ((List (Int × Int × List UInt8 × Int)) × Int)) ⊕ ((Int × Int) × ((List (Int × Int × List UInt8 × Int)) × Int)))} (hfRec_parse_parser_policy : ∀ a0, Le (fRec_parse_parser_policy a0) (fRec_parse_parser_policy' a0)) : ∀ (m : Nat) a0, Le (Bo fRec_parse_parser_policy m a0) (Bo fRec_parse_parser_policy' (m + 1) a0)
  | 0, a0 => fun _ h => nomatch h
  | m + 1, a0 => HF hfRec_parse_parser_policy (Cy hfRec_parse_parser_policy m) a0
def ES (nE : Nat) (fRec_parse_parser_policy : ((List (Int × Int × List UInt8 × Int)) × Int) → Option ((Tr28 × ((List (Int × Int × List UInt8 × Int)) × Int)) ⊕ ((Int × Int) × ((List (Int × Int × List UInt8 × Int)) × Int)))) (p0 : (List (Int × Int × List UInt8 × Int)) × Int) : Option ((Tr28 × ((List (Int × Int × List UInt8 × Int)) × Int)) ⊕ ((Int × Int) × ((List (Int × Int × List UInt8 × Int)) × Int))) := Es nE fRec_parse_parser_policy nE p0
theorem F4 (nE : Nat) {fRec_parse_parser_policy fRec_parse_parser_policy' : ((List (Int × Int × List UInt8 × Int)) × Int) → Option ((Tr28 × ((List (Int × Int × List UInt8 × Int)) × Int)) ⊕ ((Int × Int) × ((List (Int × Int × List UInt8 × Int)) × Int)))} (hfRec_parse_parser_policy : ∀ a0, Le (fRec_parse_parser_policy a0) (fRec_parse_parser_policy' a0)) (p0 : (List (Int × Int × List UInt8 × Int)) × Int) : Le (ES nE fRec_parse_parser_policy p0) (Cj fRec_parse_parser_policy' p0) := fun r e => Dd (g := fun n => Bo fRec_parse_parser_policy' n p0) (fun n r h => Cy (fun a0 => Le.rfl' _) n p0 r h) (n := nE) (Fp nE hfRec_parse_parser_policy nE p0 r e)
theorem FW {fRec_parse_parser_policy fRec_parse_parser_policy' : ((List (Int × Int × List UInt8 × Int)) × Int) → Option ((Tr28 × ((List (Int × Int × List UInt8 × Int)) × Int)) ⊕ ((Int × Int) × ((List (Int × Int × List UInt8 × Int)) × Int)))} (hfRec_parse_parser_policy : ∀ a0, Le (fRec_parse_parser_policy a0) (fRec_parse_parser_policy' a0)) (p0 : (List (Int × Int × List UInt8 × Int)) × Int) : Le (Cj fRec_parse_parser_policy p0) (Cj fRec_parse_parser_policy' p0) := fun r e => by
  obtain ⟨n, hn⟩ := Ch e
  exact Dd (g := fun n => Bo fRec_parse_parser_policy' n p0) (fun n r h => Cy (fun a0 => Le.rfl' _) n p0 r h) (n := n + 1) (Cy hfRec_parse_parser_policy n p0 r hn)
def CT (nE : Nat) (fRec_parse_parser_policy : ((List (Int × Int × List UInt8 × Int)) × Int) → Option ((Tr28 × ((List (Int × Int × List UInt8 × Int)) × Int)) ⊕ ((Int × Int) × ((List (Int × Int × List UInt8 × Int)) × Int)))) (p1 : List UInt8) : (List Tr28 × (List (Int × Int × List UInt8 × Int)) × Int) → Option ((List Tr28 × (List (Int × Int × List UInt8 × Int)) × Int) ⊕ ((List Tr28 × (List (Int × Int × List UInt8 × Int)) × Int) ⊕ ((Tr28 × ((List (Int × Int × List UInt8 × Int)) × Int)) ⊕ ((Int × Int) × ((List (Int × Int × List UInt8 × Int)) × Int)))))
  | (x7, x8, x9) => (A0 nE (x8, x9) p1).bind fun x10 => (if x10.1 = true then ((ES nE fRec_parse_parser_policy) x10.2).bind fun x11 => BZ x11 (fun x12 => (Eo x7 ([Tr28.of (x12.1.un.1, Tr25.of (x12.1.un.2.1.un.1, x12.1.un.2.1.un.2.1, x12.1.un.2.1.un.2.2.1, x12.1.un.2.1.un.2.2.2), x12.1.un.2.2.1, x12.1.un.2.2.2.1, x12.1.un.2.2.2.2)] : List Tr28)).bind fun x14 => some (.inl (x14, x12.2.1, x12.2.2))) (fun x13 => some (.inr (.inr (.inr (x13.1, x13.2))))) else some (.inr (.inl (x7, x10.2.1, x10.2.2))))
theorem F2 (nE : Nat) {fRec_parse_parser_policy fRec_parse_parser_policy' : ((List (Int × Int × List UInt8 × Int)) × Int) → Option ((Tr28 × ((List (Int × Int × List UInt8 × Int)) × Int)) ⊕ ((Int × Int) × ((List (Int × Int × List UInt8 × Int)) × Int)))} (hfRec_parse_parser_policy : ∀ a0, Le (fRec_parse_parser_policy a0) (fRec_parse_parser_policy' a0)) (p1 : List UInt8) : ∀ s, Le (CT nE fRec_parse_parser_policy p1 s) (A6 fRec_parse_parser_policy' p1 s) := by
  rintro ⟨x7, x8, x9⟩
  unfold CT A6
  repeat' with_reducible (first | refine Le.orR' ?_ ?_ | refine Le.bind' ?_ ?_ | refine Le.ite' ?_ ?_ | refine Le.loop' ?_ | refine Le.altS' ?_ ?_ | exact hfRec_parse_parser_policy | exact hfRec_parse_parser_policy _ | apply B4 | apply F4 | exact Le.rfl' _ | (refine Le.pi2 ?_; intro _) | intro _)
theorem Ga {fRec_parse_parser_policy fRec_parse_parser_policy' : ((List (Int × Int × List UInt8 × Int)) × Int) → Option ((Tr28 × ((List (Int × Int × List UInt8 × Int)) × Int)) ⊕ ((Int × Int) × ((List (Int × Int × List UInt8 × Int)) × Int)))} (hfRec_parse_parser_policy : ∀ a0, Le (fRec_parse_parser_policy a0) (fRec_parse_parser_policy' a0)) (p1 : List UInt8) : ∀ s, Le (A6 fRec_parse_parser_policy p1 s) (A6 fRec_parse_parser_policy' p1 s) := by
  rintro ⟨x7, x8, x9⟩
  show Le (A6 fRec_parse_parser_policy p1 (x7, x8, x9)) (A6 fRec_parse_parser_policy' p1 (x7, x8, x9))
  unfold A6
  repeat' with_reducible (first | refine Le.orR' ?_ ?_ | refine Le.bind' ?_ ?_ | refine Le.ite' ?_ ?_ | refine Le.loopM ?_ | refine Le.altS' ?_ ?_ | exact hfRec_parse_parser_policy | exact hfRec_parse_parser_policy _ | apply FW | exact Le.rfl' _ | (refine Le.pi2 ?_; intro _) | intro _)
def Df (nE : Nat) (fRec_parse_parser_policy : ((List (Int × Int × List UInt8 × Int)) × Int) → Option ((Tr28 × ((List (Int × Int × List UInt8 × Int)) × Int)) ⊕ ((Int × Int) × ((List (Int × Int × List UInt8 × Int)) × Int)))) (p0 : (List (Int × Int × List UInt8 × Int)) × Int) (p1 : List UInt8) : Option ((Tr28 × ((List (Int × Int × List UInt8 × Int)) × Int)) ⊕ ((Int × Int) × ((List (Int × Int × List UInt8 × Int)) × Int))) := ((ES nE fRec_parse_parser_policy) p0).bind fun x1 => BZ x1 (fun x2 => J4 (H4 nE (CT nE fRec_parse_parser_policy p1) (([Tr28.of (x2.1.un.1, Tr25.of (x2.1.un.2.1.un.1, x2.1.un.2.1.un.2.1, x2.1.un.2.1.un.2.2.1, x2.1.un.2.1.un.2.2.2), x2.1.un.2.2.1, x2.1.un.2.2.2.1, x2.1.un.2.2.2.2)] : List Tr28), x2.2.1, x2.2.2)) fun (x4, x5, x6) => (if (x4.length : Int) = 1 then (ix x4 0).bind fun x15 => some (.inl (Tr28.of (x15.un.1, Tr25.of (x15.un.2.1.un.1, x15.un.2.1.un.2.1, x15.un.2.1.un.2.2.1, x15.un.2.1.un.2.2.2), x15.un.2.2.1, x15.un.2.2.2.1, x15.un.2.2.2.2), (x5, x6))) else some (.inl (Tr28.of ((Bc x4).un.1, Tr25.of ((Bc x4).un.2.1.un.1, (Bc x4).un.2.1.un.2.1, (Bc x4).un.2.1.un.2.2.1, (Bc x4).un.2.1.un.2.2.2), (Bc x4).un.2.2.1, (Bc x4).un.2.2.2.1, (Bc x4).un.2.2.2.2), (x5, x6))))) (fun x3 => some (.inr (x3.1, x3.2)))
theorem GG (nE : Nat) {fRec_parse_parser_policy fRec_parse_parser_policy' : ((List (Int × Int × List UInt8 × Int)) × Int) → Option ((Tr28 × ((List (Int × Int × List UInt8 × Int)) × Int)) ⊕ ((Int × Int) × ((List (Int × Int × List UInt8 × Int)) × Int)))} (hfRec_parse_parser_policy : ∀ a0, Le (fRec_parse_parser_policy a0) (fRec_parse_parser_policy' a0)) (p0 : (List (Int × Int × List UInt8 × Int)) × Int) (p1 : List UInt8) : Le (Df nE fRec_parse_parser_policy p0 p1) (Bv fRec_parse_parser_policy' p0 p1) := by
  unfold Df Bv
  repeat' with_reducible (first | refine Le.orR' ?_ ?_ | refine Le.bind' ?_ ?_ | refine Le.ite' ?_ ?_ | refine Le.loop' ?_ | refine Le.altS' ?_ ?_ | exact hfRec_parse_parser_policy | exact hfRec_parse_parser_policy _ | apply F4 | apply F2 | exact Le.rfl' _ | (refine Le.pi2 ?_; intro _) | intro _)
theorem GM {fRec_parse_parser_policy fRec_parse_parser_policy' : ((List (Int × Int × List UInt8 × Int)) × Int) → Option ((Tr28 × ((List (Int × Int × List UInt8 × Int)) × Int)) ⊕ ((Int × Int) × ((List (Int × Int × List UInt8 × Int)) × Int)))} (hfRec_parse_parser_policy : ∀ a0, Le (fRec_parse_parser_policy a0) (fRec_parse_parser_policy' a0)) (p0 : (List (Int × Int × List UInt8 × Int)) × Int) (p1 : List UInt8) : Le (Bv fRec_parse_parser_policy p0 p1) (Bv fRec_parse_parser_policy' p0 p1) := by
  unfold Bv
  repeat' with_reducible (first | refine Le.orR' ?_ ?_ | refine Le.bind' ?_ ?_ | refine Le.ite' ?_ ?_ | refine Le.loopM ?_ | refine Le.altS' ?_ ?_ | exact hfRec_parse_parser_policy | exact hfRec_parse_parser_policy _ | apply FW | apply Ga | exact Le.rfl' _ | (refine Le.pi2 ?_; intro _) | intro _)
def CR (nE : Nat) (fRec_parse_parser_policy : ((List (Int × Int × List UInt8 × Int)) × Int) → Option ((Tr28 × ((List (Int × Int × List UInt8 × Int)) × Int)) ⊕ ((Int × Int) × ((List (Int × Int × List UInt8 × Int)) × Int)))) (p0 : (List (Int × Int × List UInt8 × Int)) × Int) : Option ((Tr28 × ((List (Int × Int × List UInt8 × Int)) × Int)) ⊕ ((Int × Int) × ((List (Int × Int × List UInt8 × Int)) × Int))) := ((Df nE fRec_parse_parser_policy) p0 ([59] : List UInt8)).bind fun x1 => BZ x1 (fun x2 => some (.inl (Tr28.of (x2.1.un.1, Tr25.of (x2.1.un.2.1.un.1, x2.1.un.2.1.un.2.1, x2.1.un.2.1.un.2.2.1, x2.1.un.2.1.un.2.2.2), x2.1.un.2.2.1, x2.1.un.2.2.2.1, x2.1.un.2.2.2.2), x2.2))) (fun x3 => some (.inr (x3.1, x3.2)))
theorem E0 (nE : Nat) {fRec_parse_parser_policy fRec_parse_parser_policy' : ((List (Int × Int × List UInt8 × Int)) × Int) → Option ((Tr28 × ((List (Int × Int × List UInt8 × Int)) × Int)) ⊕ ((Int × Int) × ((List (Int × Int × List UInt8 × Int)) × Int)))} (hfRec_parse_parser_policy : ∀ a0, Le (fRec_parse_parser_policy a0) (fRec_parse_parser_policy' a0)) (p0 : (List (Int × Int × List UInt8 × Int)) × Int) : Le (CR nE fRec_parse_parser_policy p0) (Bi fRec_parse_parser_policy' p0) := by
  unfold CR Bi
  repeat' with_reducible (first | refine Le.orR' ?_ ?_ | refine Le.bind' ?_ ?_ | refine Le.ite' ?_ ?_ | refine Le.loop' ?_ | refine Le.altS' ?_ ?_ | exact hfRec_parse_parser_policy | exact hfRec_parse_parser_policy _ | apply GG | exact Le.rfl' _ | (refine Le.pi2 ?_; intro _) | intro _)
theorem EW {fRec_parse_parser_policy fRec_parse_parser_policy' : ((List (Int × Int × List UInt8 × Int)) × Int) → Option ((Tr28 × ((List (Int × Int × List UInt8 × Int)) × Int)) ⊕ ((Int × Int) × ((List (Int × Int × List UInt8 × Int)) × Int)))} (hfRec_parse_parser_policy : ∀ a0, Le (fRec_parse_parser_policy a0) (fRec_parse_parser_policy' a0)) (p0 : (List (Int × Int × List UInt8 × Int)) × Int) : Le (Bi fRec_parse_parser_policy p0) (Bi fRec_parse_parser_policy' p0) := by
  unfold Bi
  repeat' with_reducible (first | refine Le.orR' ?_ ?_ | refine Le.bind' ?_ ?_ | refine Le.ite' ?_ ?_ | refine Le.loopM ?_ | refine Le.altS' ?_ ?_ | exact hfRec_parse_parser_policy | exact hfRec_parse_parser_policy _ | apply GM | exact Le.rfl' _ | (refine Le.pi2 ?_; intro _) | intro _)
def C6 (nE : Nat) (fRec_parse_parser_policy : ((List (Int × Int × List UInt8 × Int)) × Int) → Option ((Tr28 × ((List (Int × Int × List UInt8 × Int)) × Int)) ⊕ ((Int × Int) × ((List (Int × Int × List UInt8 × Int)) × Int)))) (p1 : List UInt8) : (List Tr28 × (List (Int × Int × List UInt8 × Int)) × Int) → Option ((List Tr28 × (List (Int × Int × List UInt8 × Int)) × Int) ⊕ ((List Tr28 × (List (Int × Int × List UInt8 × Int)) × Int) ⊕ ((Tr28 × ((List (Int × Int × List UInt8 × Int)) × Int)) ⊕ ((Int × Int) × ((List (Int × Int × List UInt8 × Int)) × Int)))))
  | (x7, x8, x9) => (A0 nE (x8, x9) p1).bind fun x10 => (if x10.1 = true then ((CR nE fRec_parse_parser_policy) x10.2).bind fun x11 => BZ x11 (fun x12 => (Eo x7 ([Tr28.of (x12.1.un.1, Tr25.of (x12.1.un.2.1.un.1, x12.1.un.2.1.un.2.1, x12.1.un.2.1.un.2.2.1, x12.1.un.2.1.un.2.2.2), x12.1.un.2.2.1, x12.1.un.2.2.2.1, x12.1.un.2.2.2.2)] : List Tr28)).bind fun x14 => some (.inl (x14, x12.2.1, x12.2.2))) (fun x13 => some (.inr (.inr (.inr (x13.1, x13.2))))) else some (.inr (.inl (x7, x10.2.1, x10.2.2))))
theorem Gs (nE : Nat) {fRec_parse_parser_policy fRec_parse_parser_policy' : ((List (Int × Int × List UInt8 × Int)) × Int) → Option ((Tr28 × ((List (Int × Int × List UInt8 × Int)) × Int)) ⊕ ((Int × Int) × ((List (Int × Int × List UInt8 × Int)) × Int)))} (hfRec_parse_parser_policy : ∀ a0, Le (fRec_parse_parser_policy a0) (fRec_parse_parser_policy' a0)) (p1 : List UInt8) : ∀ s, Le (C6 nE fRec_parse_parser_policy p1 s) (Bb fRec_parse_parser_policy' p1 s) := by
  rintro ⟨x7, x8, x9⟩
  unfold C6 Bb
  repeat' with_reducible (first | refine Le.orR' ?_ ?_ | refine Le.bind' ?_ ?_ | refine Le.ite' ?_ ?_ | refine Le.loop' ?_ | refine Le.altS' ?_ ?_ | exact hfRec_parse_parser_policy | exact hfRec_parse_parser_policy _ | apply B4 | apply E0 | exact Le.rfl' _ | (refine Le.pi2 ?_; intro _) | intro _)
theorem Gu {fRec_parse_parser_policy fRec_parse_parser_policy' : ((List (Int × Int × List UInt8 × Int)) × Int) → Option ((Tr28 × ((List (Int × Int × List UInt8 × Int)) × Int)) ⊕ ((Int × Int) × ((List (Int × Int × List UInt8 × Int)) × Int)))} (hfRec_parse_parser_policy : ∀ a0, Le (fRec_parse_parser_policy a0) (fRec_parse_parser_policy' a0)) (p1 : List UInt8) : ∀ s, Le (Bb fRec_parse_parser_policy p1 s) (Bb fRec_parse_parser_policy' p1 s) := by
  rintro ⟨x7, x8, x9⟩
  show Le (Bb fRec_parse_parser_policy p1 (x7, x8, x9)) (Bb fRec_parse_parser_policy' p1 (x7, x8, x9))
  unfold Bb
  repeat' with_reducible (first | refine Le.orR' ?_ ?_ | refine Le.bind' ?_ ?_ | refine Le.ite' ?_ ?_ | refine Le.loopM ?_ | refine Le.altS' ?_ ?_ | exact hfRec_parse_parser_policy | exact hfRec_parse_parser_policy _ | apply EW | exact Le.rfl' _ | (refine Le.pi2 ?_; intro _) | intro _)
def DN (nE : Nat) (fRec_parse_parser_policy : ((List (Int × Int × List UInt8 × Int)) × Int) → Option ((Tr28 × ((List (Int × Int × List UInt8 × Int)) × Int)) ⊕ ((Int × Int) × ((List (Int × Int × List UInt8 × Int)) × Int)))) (p0 : (List (Int × Int × List UInt8 × Int)) × Int) (p1 : List UInt8) : Option ((Tr28 × ((List (Int × Int × List UInt8 × Int)) × Int)) ⊕ ((Int × Int) × ((List (Int × Int × List UInt8 × Int)) × Int))) := ((CR nE fRec_parse_parser_policy) p0).bind fun x1 => BZ x1 (fun x2 => J4 (H4 nE (C6 nE fRec_parse_parser_policy p1) (([Tr28.of (x2.1.un.1, Tr25.of (x2.1.un.2.1.un.1, x2.1.un.2.1.un.2.1, x2.1.un.2.1.un.2.2.1, x2.1.un.2.1.un.2.2.2), x2.1.un.2.2.1, x2.1.un.2.2.2.1, x2.1.un.2.2.2.2)] : List Tr28), x2.2.1, x2.2.2)) fun (x4, x5, x6) => (if (x4.length : Int) = 1 then (ix x4 0).bind fun x15 => some (.inl (Tr28.of (x15.un.1, Tr25.of (x15.un.2.1.un.1, x15.un.2.1.un.2.1, x15.un.2.1.un.2.2.1, x15.un.2.1.un.2.2.2), x15.un.2.2.1, x15.un.2.2.2.1, x15.un.2.2.2.2), (x5, x6))) else some (.inl (Tr28.of ((AZ x4).un.1, Tr25.of ((AZ x4).un.2.1.un.1, (AZ x4).un.2.1.un.2.1, (AZ x4).un.2.1.un.2.2.1, (AZ x4).un.2.1.un.2.2.2), (AZ x4).un.2.2.1, (AZ x4).un.2.2.2.1, (AZ x4).un.2.2.2.2), (x5, x6))))) (fun x3 => some (.inr (x3.1, x3.2)))
theorem Hf (nE : Nat) {fRec_parse_parser_policy fRec_parse_parser_policy' : ((List (Int × Int × List UInt8 × Int)) × Int) → Option ((Tr28 × ((List (Int × Int × List UInt8 × Int)) × Int)) ⊕ ((Int × Int) × ((List (Int × Int × List UInt8 × Int)) × Int)))} (hfRec_parse_parser_policy : ∀ a0, Le (fRec_parse_parser_policy a0) (fRec_parse_parser_policy' a0)) (p0 : (List (Int × Int × List UInt8 × Int)) × Int) (p1 : List UInt8) : Le (DN nE fRec_parse_parser_policy p0 p1) (BE fRec_parse_parser_policy' p0 p1) := by
  unfold DN BE
  repeat' with_reducible (first | refine Le.orR' ?_ ?_ | refine Le.bind' ?_ ?_ | refine Le.ite' ?_ ?_ | refine Le.loop' ?_ | refine Le.altS' ?_ ?_ | exact hfRec_parse_parser_policy | exact hfRec_parse_parser_policy _ | apply E0 | apply Gs | exact Le.rfl' _ | (refine Le.pi2 ?_; intro _) | intro _)
theorem Hh {fRec_parse_parser_policy fRec_parse_parser_policy' : ((List (Int × Int × List UInt8 × Int)) × Int) → Option ((Tr28 × ((List (Int × Int × List UInt8 × Int)) × Int)) ⊕ ((Int × Int) × ((List (Int × Int × List UInt8 × Int)) × Int)))} (hfRec_parse_parser_policy : ∀ a0, Le (fRec_parse_parser_policy a0) (fRec_parse_parser_policy' a0)) (p0 : (List (Int × Int × List UInt8 × Int)) × Int) (p1 : List UInt8) : Le (BE fRec_parse_parser_policy p0 p1) (BE fRec_parse_parser_policy' p0 p1) := by
  unfold BE
  repeat' with_reducible (first | refine Le.orR' ?_ ?_ | refine Le.bind' ?_ ?_ | refine Le.ite' ?_ ?_ | refine Le.loopM ?_ | refine Le.altS' ?_ ?_ | exact hfRec_parse_parser_policy | exact hfRec_parse_parser_policy _ | apply EW | apply Gu | exact Le.rfl' _ | (refine Le.pi2 ?_; intro _) | intro _)
def Dt (nE : Nat) (fRec : ((List (Int × Int × List UInt8 × Int)) × Int) → Option ((Tr28 × ((List (Int × Int × List UInt8 × Int)) × Int)) ⊕ ((Int × Int) × ((List (Int × Int × List UInt8 × Int)) × Int)))) (p0 : (List (Int × Int × List UInt8 × Int)) × Int) : Option ((Tr28 × ((List (Int × Int × List UInt8 × Int)) × Int)) ⊕ ((Int × Int) × ((List (Int × Int × List UInt8 × Int)) × Int))) := ((DN nE fRec) p0 ([124] : List UInt8)).bind fun x1 => BZ x1 (fun x2 => some (.inl (Tr28.of (x2.1.un.1, Tr25.of (x2.1.un.2.1.un.1, x2.1.un.2.1.un.2.1, x2.1.un.2.1.un.2.2.1, x2.1.un.2.1.un.2.2.2), x2.1.un.2.2.1, x2.1.un.2.2.2.1, x2.1.un.2.2.2.2), x2.2))) (fun x3 => some (.inr (x3.1, x3.2)))
theorem G5 (nE : Nat) {fRec fRec' : ((List (Int × Int × List UInt8 × Int)) × Int) → Option ((Tr28 × ((List (Int × Int × List UInt8 × Int)) × Int)) ⊕ ((Int × Int) × ((List (Int × Int × List UInt8 × Int)) × Int)))} (hfRec : ∀ a0, Le (fRec a0) (fRec' a0)) (p0 : (List (Int × Int × List UInt8 × Int)) × Int) : Le (Dt nE fRec p0) (BC fRec' p0) := by
  unfold Dt BC
  repeat' with_reducible (first | refine Le.orR' ?_ ?_ | refine Le.bind' ?_ ?_ | refine Le.ite' ?_ ?_ | refine Le.loop' ?_ | refine Le.altS' ?_ ?_ | exact hfRec | exact hfRec _ | apply Hf | exact Le.rfl' _ | (refine Le.pi2 ?_; intro _) | intro _)
theorem G4 {fRec fRec' : ((List (Int × Int × List UInt8 × Int)) × Int) → Option ((Tr28 × ((List (Int × Int × List UInt8 × Int)) × Int)) ⊕ ((Int × Int) × ((List (Int × Int × List UInt8 × Int)) × Int)))} (hfRec : ∀ a0, Le (fRec a0) (fRec' a0)) (p0 : (List (Int × Int × List UInt8 × Int)) × Int) : Le (BC fRec p0) (BC fRec' p0) := by
  unfold BC
  repeat' with_reducible (first | refine Le.orR' ?_ ?_ | refine Le.bind' ?_ ?_ | refine Le.ite' ?_ ?_ | refine Le.loopM ?_ | refine Le.altS' ?_ ?_ | exact hfRec | exact hfRec _ | apply Hh | exact Le.rfl' _ | (refine Le.pi2 ?_; intro _) | intro _)
def DL (nE : Nat) : Nat → ((List (Int × Int × List UInt8 × Int)) × Int) → Option ((Tr28 × ((List (Int × Int × List UInt8 × Int)) × Int)) ⊕ ((Int × Int) × ((List (Int × Int × List UInt8 × Int)) × Int)))
  | 0 => fun _ => none
  | n + 1 => Dt nE (DL nE n)
theorem E6 (nE : Nat) : ∀ (m : Nat) a0, Le (DL nE m a0) (A3 m a0)
  | 0, a0 => fun _ h => nomatch h
  | m + 1, a0 => G5 nE (E6 nE m) a0
theorem Dv : ∀ (m : Nat) a0, Le (A3 m a0) (A3 (m + 1) a0)
  | 0, a0 => fun _ h => nomatch h
  | m + 1, a0 => G4 (Dv m) a0
def FA (nE : Nat) (p0 : (List (Int × Int × List UInt8 × Int)) × Int) : Option ((Tr28 × ((List (Int × Int × List UInt8 × Int)) × Int)) ⊕ ((Int × Int) × ((List (Int × Int × List UInt8 × Int)) × Int))) := DL nE nE p0
theorem HJ (nE : Nat) (p0 : (List (Int × Int × List UInt8 × Int)) × Int) : Le (FA nE p0) (CB p0) := fun r e => Dd (g := fun n => A3 n p0) (fun n r h => Dv n p0 r h) (n := nE) (E6 nE nE p0 r e)
def E9 (nE : Nat) (p0 : (List (Int × Int × List UInt8 × Int)) × Int) : Option (Unit ⊕ (Int × Int)) := (Ce nE p0).bind fun x1 => (if x1.1 ≠ 4 then (CC nE p0).bind fun x2 => some (.inr x2) else some (.inl ()))
theorem IX (nE : Nat) (p0 : (List (Int × Int × List UInt8 × Int)) × Int) : Le (E9 nE p0) (BD p0) := by
  unfold E9 BD
  repeat' with_reducible (first | refine Le.orR' ?_ ?_ | refine Le.bind' ?_ ?_ | refine Le.ite' ?_ ?_ | refine Le.loop' ?_ | refine Le.altS' ?_ ?_ | apply CF | apply Do | exact Le.rfl' _ | (refine Le.pi2 ?_; intro _) | intro _)
def Hl (nE : Nat) (p0 : List UInt8) : Option (Tr28 × Int × Int) := (HY nE p0).bind fun x1 => BZ x1 (fun x2 => (FA nE x2).bind fun x4 => BZ x4 (fun x5 => (E9 nE x5.2).bind fun x7 => BZ x7 (fun x8 => some (Tr28.of ((Tr28.of (x5.1.un.1, Tr25.of (x5.1.un.2.1.un.1, x5.1.un.2.1.un.2.1, x5.1.un.2.1.un.2.2.1, x5.1.un.2.1.un.2.2.2), x5.1.un.2.2.1, x5.1.un.2.2.2.1, x5.1.un.2.2.2.2)).un.1, Tr25.of ((Tr28.of (x5.1.un.1, Tr25.of (x5.1.un.2.1.un.1, x5.1.un.2.1.un.2.1, x5.1.un.2.1.un.2.2.1, x5.1.un.2.1.un.2.2.2), x5.1.un.2.2.1, x5.1.un.2.2.2.1, x5.1.un.2.2.2.2)).un.2.1.un.1, (Tr28.of (x5.1.un.1, Tr25.of (x5.1.un.2.1.un.1, x5.1.un.2.1.un.2.1, x5.1.un.2.1.un.2.2.1, x5.1.un.2.1.un.2.2.2), x5.1.un.2.2.1, x5.1.un.2.2.2.1, x5.1.un.2.2.2.2)).un.2.1.un.2.1, (Tr28.of (x5.1.un.1, Tr25.of (x5.1.un.2.1.un.1, x5.1.un.2.1.un.2.1, x5.1.un.2.1.un.2.2.1, x5.1.un.2.1.un.2.2.2), x5.1.un.2.2.1, x5.1.un.2.2.2.1, x5.1.un.2.2.2.2)).un.2.1.un.2.2.1, (Tr28.of (x5.1.un.1, Tr25.of (x5.1.un.2.1.un.1, x5.1.un.2.1.un.2.1, x5.1.un.2.1.un.2.2.1, x5.1.un.2.1.un.2.2.2), x5.1.un.2.2.1, x5.1.un.2.2.2.1, x5.1.un.2.2.2.2)).un.2.1.un.2.2.2), (Tr28.of (x5.1.un.1, Tr25.of (x5.1.un.2.1.un.1, x5.1.un.2.1.un.2.1, x5.1.un.2.1.un.2.2.1, x5.1.un.2.1.un.2.2.2), x5.1.un.2.2.1, x5.1.un.2.2.2.1, x5.1.un.2.2.2.2)).un.2.2.1, (Tr28.of (x5.1.un.1, Tr25.of (x5.1.un.2.1.un.1, x5.1.un.2.1.un.2.1, x5.1.un.2.1.un.2.2.1, x5.1.un.2.1.un.2.2.2), x5.1.un.2.2.1, x5.1.un.2.2.2.1, x5.1.un.2.2.2.2)).un.2.2.2.1, (Tr28.of (x5.1.un.1, Tr25.of (x5.1.un.2.1.un.1, x5.1.un.2.1.un.2.1, x5.1.un.2.1.un.2.2.1, x5.1.un.2.1.un.2.2.2), x5.1.un.2.2.1, x5.1.un.2.2.2.1, x5.1.un.2.2.2.2)).un.2.2.2.2), 0, 0)) (fun x9 => some (Tr28.of ((Af (Tr28.of (x5.1.un.1, Tr25.of (x5.1.un.2.1.un.1, x5.1.un.2.1.un.2.1, x5.1.un.2.1.un.2.2.1, x5.1.un.2.1.un.2.2.2), x5.1.un.2.2.1, x5.1.un.2.2.2.1, x5.1.un.2.2.2.2)) 0 0 x9).1.un.1, Tr25.of ((Af (Tr28.of (x5.1.un.1, Tr25.of (x5.1.un.2.1.un.1, x5.1.un.2.1.un.2.1, x5.1.un.2.1.un.2.2.1, x5.1.un.2.1.un.2.2.2), x5.1.un.2.2.1, x5.1.un.2.2.2.1, x5.1.un.2.2.2.2)) 0 0 x9).1.un.2.1.un.1, (Af (Tr28.of (x5.1.un.1, Tr25.of (x5.1.un.2.1.un.1, x5.1.un.2.1.un.2.1, x5.1.un.2.1.un.2.2.1, x5.1.un.2.1.un.2.2.2), x5.1.un.2.2.1, x5.1.un.2.2.2.1, x5.1.un.2.2.2.2)) 0 0 x9).1.un.2.1.un.2.1, (Af (Tr28.of (x5.1.un.1, Tr25.of (x5.1.un.2.1.un.1, x5.1.un.2.1.un.2.1, x5.1.un.2.1.un.2.2.1, x5.1.un.2.1.un.2.2.2), x5.1.un.2.2.1, x5.1.un.2.2.2.1, x5.1.un.2.2.2.2)) 0 0 x9).1.un.2.1.un.2.2.1, (Af (Tr28.of (x5.1.un.1, Tr25.of (x5.1.un.2.1.un.1, x5.1.un.2.1.un.2.1, x5.1.un.2.1.un.2.2.1, x5.1.un.2.1.un.2.2.2), x5.1.un.2.2.1, x5.1.un.2.2.2.1, x5.1.un.2.2.2.2)) 0 0 x9).1.un.2.1.un.2.2.2), (Af (Tr28.of (x5.1.un.1, Tr25.of (x5.1.un.2.1.un.1, x5.1.un.2.1.un.2.1, x5.1.un.2.1.un.2.2.1, x5.1.un.2.1.un.2.2.2), x5.1.un.2.2.1, x5.1.un.2.2.2.1, x5.1.un.2.2.2.2)) 0 0 x9).1.un.2.2.1, (Af (Tr28.of (x5.1.un.1, Tr25.of (x5.1.un.2.1.un.1, x5.1.un.2.1.un.2.1, x5.1.un.2.1.un.2.2.1, x5.1.un.2.1.un.2.2.2), x5.1.un.2.2.1, x5.1.un.2.2.2.1, x5.1.un.2.2.2.2)) 0 0 x9).1.un.2.2.2.1, (Af (Tr28.of (x5.1.un.1, Tr25.of (x5.1.un.2.1.un.1, x5.1.un.2.1.un.2.1, x5.1.un.2.1.un.2.2.1, x5.1.un.2.1.un.2.2.2), x5.1.un.2.2.1, x5.1.un.2.2.2.1, x5.1.un.2.2.2.2)) 0 0 x9).1.un.2.2.2.2), (Af (Tr28.of (x5.1.un.1, Tr25.of (x5.1.un.2.1.un.1, x5.1.un.2.1.un.2.1, x5.1.un.2.1.un.2.2.1, x5.1.un.2.1.un.2.2.2), x5.1.un.2.2.1, x5.1.un.2.2.2.1, x5.1.un.2.2.2.2)) 0 0 x9).2.1, (Af (Tr28.of (x5.1.un.1, Tr25.of (x5.1.un.2.1.un.1, x5.1.un.2.1.un.2.1, x5.1.un.2.1.un.2.2.1, x5.1.un.2.1.un.2.2.2), x5.1.un.2.2.1, x5.1.un.2.2.2.1, x5.1.un.2.2.2.2)) 0 0 x9).2.2))) (fun x6 => some (Tr28.of ((Af (Tr28.of (0, Tr25.of (0, 0, 0, ([] : List Tr25)), 0, 0, ([] : List Tr28))) 0 0 x6.1).1.un.1, Tr25.of ((Af (Tr28.of (0, Tr25.of (0, 0, 0, ([] : List Tr25)), 0, 0, ([] : List Tr28))) 0 0 x6.1).1.un.2.1.un.1, (Af (Tr28.of (0, Tr25.of (0, 0, 0, ([] : List Tr25)), 0, 0, ([] : List Tr28))) 0 0 x6.1).1.un.2.1.un.2.1, (Af (Tr28.of (0, Tr25.of (0, 0, 0, ([] : List Tr25)), 0, 0, ([] : List Tr28))) 0 0 x6.1).1.un.2.1.un.2.2.1, (Af (Tr28.of (0, Tr25.of (0, 0, 0, ([] : List Tr25)), 0, 0, ([] : List Tr28))) 0 0 x6.1).1.un.2.1.un.2.2.2), (Af (Tr28.of (0, Tr25.of (0, 0, 0, ([] : List Tr25)), 0, 0, ([] : List Tr28))) 0 0 x6.1).1.un.2.2.1, (Af (Tr28.of (0, Tr25.of (0, 0, 0, ([] : List Tr25)), 0, 0, ([] : List Tr28))) 0 0 x6.1).1.un.2.2.2.1, (Af (Tr28.of (0, Tr25.of (0, 0, 0, ([] : List Tr25)), 0, 0, ([] : List Tr28))) 0 0 x6.1).1.un.2.2.2.2), (Af (Tr28.of (0, Tr25.of (0, 0, 0, ([] : List Tr25)), 0, 0, ([] : List Tr28))) 0 0 x6.1).2.1, (Af (Tr28.of (0, Tr25.of (0, 0, 0, ([] : List Tr25)), 0, 0, ([] : List Tr28))) 0 0 x6.1).2.2))) (fun x3 => some (Tr28.of ((Af (Tr28.of (0, Tr25.of (0, 0, 0, ([] : List Tr25)), 0, 0, ([] : List Tr28))) 0 0 x3).1.un.1, Tr25.of ((Af (Tr28.of (0, Tr25.of (0, 0, 0, ([] : List Tr25)), 0, 0, ([] : List Tr28))) 0 0 x3).1.un.2.1.un.1, (Af (Tr28.of (0, Tr25.of (0, 0, 0, ([] : List Tr25)), 0, 0, ([] : List Tr28))) 0 0 x3).1.un.2.1.un.2.1, (Af (Tr28.of (0, Tr25.of (0, 0, 0, ([] : List Tr25)), 0, 0, ([] : List Tr28))) 0 0 x3).1.un.2.1.un.2.2.1, (Af (Tr28.of (0, Tr25.of (0, 0, 0, ([] : List Tr25)), 0, 0, ([] : List Tr28))) 0 0 x3).1.un.2.1.un.2.2.2), (Af (Tr28.of (0, Tr25.of (0, 0, 0, ([] : List Tr25)), 0, 0, ([] : List Tr28))) 0 0 x3).1.un.2.2.1, (Af (Tr28.of (0, Tr25.of (0, 0, 0, ([] : List Tr25)), 0, 0, ([] : List Tr28))) 0 0 x3).1.un.2.2.2.1, (Af (Tr28.of (0, Tr25.of (0, 0, 0, ([] : List Tr25)), 0, 0, ([] : List Tr28))) 0 0 x3).1.un.2.2.2.2), (Af (Tr28.of (0, Tr25.of (0, 0, 0, ([] : List Tr25)), 0, 0, ([] : List Tr28))) 0 0 x3).2.1, (Af (Tr28.of (0, Tr25.of (0, 0, 0, ([] : List Tr25)), 0, 0, ([] : List Tr28))) 0 0 x3).2.2))
theorem Ln (nE : Nat) (p0 : List UInt8) : Le (Hl nE p0) (DX p0) := by
  unfold Hl DX
  repeat' with_reducible (first | refine Le.orR' ?_ ?_ | refine Le.bind' ?_ ?_ | refine Le.ite' ?_ ?_ | refine Le.loop' ?_ | refine Le.altS' ?_ ?_ | apply L8 | apply HJ | apply IX | exact Le.rfl' _ | (refine Le.pi2 ?_; intro _) | intro _)
def Gz (nE : Nat) (fRec_pred_Text : Tr25 → Option (List UInt8)) (p0 : List Tr25) : (List (List UInt8) × Int) → Option ((List (List UInt8) × Int) ⊕ (List (List UInt8)))
  | (x2, x3) => (if x3 < (p0.length : Int) then (ix p0 x3).bind fun x4 => (fRec_pred_Text x4).bind fun x5 => (if (decide (x4.un.1 = 5) || decide (x4.un.1 = 6)) = true then (Eo ([40] : List UInt8) x5).bind fun x7 => (Eo x7 ([41] : List UInt8)).bind fun x8 => some x8 else some x5).bind fun x6 => (Eo x2 ([x6] : List (List UInt8))).bind fun x9 => some (.inl (x9, Co (x3 + 1))) else some (.inr x2))
theorem KH (nE : Nat) {fRec_pred_Text fRec_pred_Text' : Tr25 → Option (List UInt8)} (hfRec_pred_Text : ∀ a0, Le (fRec_pred_Text a0) (fRec_pred_Text' a0)) (p0 : List Tr25) : ∀ s, Le (Gz nE fRec_pred_Text p0 s) (CY fRec_pred_Text' p0 s) := by
  rintro ⟨x2, x3⟩
  unfold Gz CY
  repeat' with_reducible (first | refine Le.orR' ?_ ?_ | refine Le.bind' ?_ ?_ | refine Le.ite' ?_ ?_ | refine Le.loop' ?_ | refine Le.altS' ?_ ?_ | exact hfRec_pred_Text | exact hfRec_pred_Text _ | exact Le.rfl' _ | (refine Le.pi2 ?_; intro _) | intro _)
theorem KE {fRec_pred_Text fRec_pred_Text' : Tr25 → Option (List UInt8)} (hfRec_pred_Text : ∀ a0, Le (fRec_pred_Text a0) (fRec_pred_Text' a0)) (p0 : List Tr25) : ∀ s, Le (CY fRec_pred_Text p0 s) (CY fRec_pred_Text' p0 s) := by
  rintro ⟨x2, x3⟩
  show Le (CY fRec_pred_Text p0 (x2, x3)) (CY fRec_pred_Text' p0 (x2, x3))
  unfold CY
  repeat' with_reducible (first | refine Le.orR' ?_ ?_ | refine Le.bind' ?_ ?_ | refine Le.ite' ?_ ?_ | refine Le.loopM ?_ | refine Le.altS' ?_ ?_ | exact hfRec_pred_Text | exact hfRec_pred_Text _ | exact Le.rfl' _ | (refine Le.pi2 ?_; intro _) | intro _)
def F5 (nE : Nat) (fRec_pred_Text : Tr25 → Option (List UInt8)) (p0 : List Tr25) (p1 : List UInt8) : Option (List UInt8) := (H4 nE (Gz nE fRec_pred_Text p0) ([], 0)).bind fun x1 => (I6 x1 p1).bind fun x10 => some x10
theorem ML (nE : Nat) {fRec_pred_Text fRec_pred_Text' : Tr25 → Option (List UInt8)} (hfRec_pred_Text : ∀ a0, Le (fRec_pred_Text a0) (fRec_pred_Text' a0)) (p0 : List Tr25) (p1 : List UInt8) : Le (F5 nE fRec_pred_Text p0 p1) (El fRec_pred_Text' p0 p1) := by
  unfold F5 El
  repeat' with_reducible (first | refine Le.orR' ?_ ?_ | refine Le.bind' ?_ ?_ | refine Le.ite' ?_ ?_ | refine Le.loop' ?_ | refine Le.altS' ?_ ?_ | exact hfRec_pred_Text | exact hfRec_pred_Text _ | apply KH | exact Le.rfl' _ | (refine Le.pi2 ?_; intro _) | intro _)
theorem M8 {fRec_pred_Text fRec_pred_Text' : Tr25 → Option (List UInt8)} (hfRec_pred_Text : ∀ a0, Le (fRec_pred_Text a0) (fRec_pred_Text' a0)) (p0 : List Tr25) (p1 : List UInt8) : Le (El fRec_pred_Text p0 p1) (El fRec_pred_Text' p0 p1) := by
  unfold El
  repeat' with_reducible (first | refine Le.orR' ?_ ?_ | refine Le.bind' ?_ ?_ | refine Le.ite' ?_ ?_ | refine Le.loopM ?_ | refine Le.altS' ?_ ?_ | exact hfRec_pred_Text | exact hfRec_pred_Text _ | apply KE | exact Le.rfl' _ | (refine Le.pi2 ?_; intro _) | intro _)
def GV (nE : Nat) (fRec : Tr25 → Option (List UInt8)) (p0 : Tr25) : Option (List UInt8) := (if p0.un.1 = 1 then some ([116, 114, 117, 101] : List UInt8) else (if p0.un.1 = 2 then some ([102, 97, 108, 115, 101] : List UInt8) else (if p0.un.1 = 3 then (Eo (DI p0.un.2.1) ([32, 61, 32] : List UInt8)).bind fun x1 => (L9 p0.un.2.2.1).bind fun x2 => (Eo x1 x2).bind fun x3 => some x3 else (if p0.un.1 = 4 then ((F5 nE fRec) p0.un.2.2.2 ([] : List UInt8)).bind fun x4 => (Eo ([110, 111, 116, 32] : List UInt8) x4).bind fun x5 => some x5 else (if p0.un.1 = 5 then ((F5 nE fRec) p0.un.2.2.2 ([32, 97, 110, 100, 32] : List UInt8)).bind fun x6 => some x6 else (if p0.un.1 = 6 then ((F5 nE fRec) p0.un.2.2.2 ([32, 111, 114, 32] : List UInt8)).bind fun x7 => some x7 else some ([63] : List UInt8)))))))
theorem Kr (nE : Nat) {fRec fRec' : Tr25 → Option (List UInt8)} (hfRec : ∀ a0, Le (fRec a0) (fRec' a0)) (p0 : Tr25) : Le (GV nE fRec p0) (Dl fRec' p0) := by
  unfold GV Dl
  repeat' with_reducible (first | refine Le.orR' ?_ ?_ | refine Le.bind' ?_ ?_ | refine Le.ite' ?_ ?_ | refine Le.loop' ?_ | refine Le.altS' ?_ ?_ | exact hfRec | exact hfRec _ | apply ML | exact Le.rfl' _ | (refine Le.pi2 ?_; intro _) | intro _)
theorem Kp {fRec fRec' : Tr25 → Option (List UInt8)} (hfRec : ∀ a0, Le (fRec a0) (fRec' a0)) (p0 : Tr25) : Le (Dl fRec p0) (Dl fRec' p0) := by
  unfold Dl
  repeat' with_reducible (first | refine Le.orR' ?_ ?_ | refine Le.bind' ?_ ?_ | refine Le.ite' ?_ ?_ | refine Le.loopM ?_ | refine Le.altS' ?_ ?_ | exact hfRec | exact hfRec _ | apply M8 | exact Le.rfl' _ | (refine Le.pi2 ?_; intro _) | intro _)
def Hn (nE : Nat) : Nat → Tr25 → Option (List UInt8)
  | 0 => fun _ => none
  | n + 1 => GV nE (Hn nE n)
theorem Iu (nE : Nat) : ∀ (m : Nat) a0, Le (Hn nE m a0) (DY m a0)
  | 0, a0 => fun _ h => nomatch h
  | m + 1, a0 => Kr nE (Iu nE m) a0
theorem Ii : ∀ (m : Nat) a0, Le (DY m a0) (DY (m + 1) a0)
  | 0, a0 => fun _ h => nomatch h
  | m + 1, a0 => Kp (Ii m) a0
def Ip (nE : Nat) (p0 : Tr25) : Option (List UInt8) := Hn nE nE p0
theorem Jw (nE : Nat) (p0 : Tr25) : Le (Ip nE p0) (IU p0) := fun r e => Dd (g := fun n => DY n p0) (fun n r h => Ii n p0 r h) (n := nE) (Iu nE nE p0 r e)
def EQ (nE : Nat) (p0 : Tr25) : Option (List UInt8) := (if p0.un.1 = 1 then some ([105, 100] : List UInt8) else (if p0.un.1 = 2 then some ([100, 114, 111, 112] : List UInt8) else (Ip nE p0).bind fun x1 => (Eo ([119, 104, 101, 110, 32] : List UInt8) x1).bind fun x2 => some x2))
theorem IE (nE : Nat) (p0 : Tr25) : Le (EQ nE p0) (Dn p0) := by
  unfold EQ Dn
  repeat' with_reducible (first | refine Le.orR' ?_ ?_ | refine Le.bind' ?_ ?_ | refine Le.ite' ?_ ?_ | refine Le.loop' ?_ | refine Le.altS' ?_ ?_ | apply Jw | exact Le.rfl' _ | (refine Le.pi2 ?_; intro _) | intro _)
def D0 (nE : Nat) (fRec_policy_Text : Tr28 → Option (List UInt8)) (p0 : List Tr28) : (List (List UInt8) × Int) → Option ((List (List UInt8) × Int) ⊕ (List (List UInt8)))
  | (x2, x3) => (if x3 < (p0.length : Int) then (ix p0 x3).bind fun x4 => (fRec_policy_Text (Tr28.of (x4.un.1, Tr25.of (x4.un.2.1.un.1, x4.un.2.1.un.2.1, x4.un.2.1.un.2.2.1, x4.un.2.1.un.2.2.2), x4.un.2.2.1, x4.un.2.2.2.1, x4.un.2.2.2.2))).bind fun x5 => (if (decide (x4.un.1 = 3) || (decide (x4.un.1 = 4) || decide (x4.un.1 = 5))) = true then (Eo ([40] : List UInt8) x5).bind fun x7 => (Eo x7 ([41] : List UInt8)).bind fun x8 => some x8 else some x5).bind fun x6 => (Eo x2 ([x6] : List (List UInt8))).bind fun x9 => some (.inl (x9, Co (x3 + 1))) else some (.inr x2))
theorem Hy (nE : Nat) {fRec_policy_Text fRec_policy_Text' : Tr28 → Option (List UInt8)} (hfRec_policy_Text : ∀ a0, Le (fRec_policy_Text a0) (fRec_policy_Text' a0)) (p0 : List Tr28) : ∀ s, Le (D0 nE fRec_policy_Text p0 s) (BP fRec_policy_Text' p0 s) := by
  rintro ⟨x2, x3⟩
  unfold D0 BP
  repeat' with_reducible (first | refine Le.orR' ?_ ?_ | refine Le.bind' ?_ ?_ | refine Le.ite' ?_ ?_ | refine Le.loop' ?_ | refine Le.altS' ?_ ?_ | exact hfRec_policy_Text | exact hfRec_policy_Text _ | exact Le.rfl' _ | (refine Le.pi2 ?_; intro _) | intro _)
theorem Hs {fRec_policy_Text fRec_policy_Text' : Tr28 → Option (List UInt8)} (hfRec_policy_Text : ∀ a0, Le (fRec_policy_Text a0) (fRec_policy_Text' a0)) (p0 : List Tr28) : ∀ s, Le (BP fRec_policy_Text p0 s) (BP fRec_policy_Text' p0 s) := by
  rintro ⟨x2, x3⟩
  show Le (BP fRec_policy_Text p0 (x2, x3)) (BP fRec_policy_Text' p0 (x2, x3))
  unfold BP
  repeat' with_reducible (first | refine Le.orR' ?_ ?_ | refine Le.bind' ?_ ?_ | refine Le.ite' ?_ ?_ | refine Le.loopM ?_ | refine Le.altS' ?_ ?_ | exact hfRec_policy_Text | exact hfRec_policy_Text _ | exact Le.rfl' _ | (refine Le.pi2 ?_; intro _) | intro _)
def CV (nE : Nat) (fRec_policy_Text : Tr28 → Option (List UInt8)) (p0 : List Tr28) : Option (List (List UInt8)) := (H4 nE (D0 nE fRec_policy_Text p0) ([], 0)).bind fun x1 => some x1
theorem Ic (nE : Nat) {fRec_policy_Text fRec_policy_Text' : Tr28 → Option (List UInt8)} (hfRec_policy_Text : ∀ a0, Le (fRec_policy_Text a0) (fRec_policy_Text' a0)) (p0 : List Tr28) : Le (CV nE fRec_policy_Text p0) (B1 fRec_policy_Text' p0) := by
  unfold CV B1
  repeat' with_reducible (first | refine Le.orR' ?_ ?_ | refine Le.bind' ?_ ?_ | refine Le.ite' ?_ ?_ | refine Le.loop' ?_ | refine Le.altS' ?_ ?_ | exact hfRec_policy_Text | exact hfRec_policy_Text _ | apply Hy | exact Le.rfl' _ | (refine Le.pi2 ?_; intro _) | intro _)
theorem Ix {fRec_policy_Text fRec_policy_Text' : Tr28 → Option (List UInt8)} (hfRec_policy_Text : ∀ a0, Le (fRec_policy_Text a0) (fRec_policy_Text' a0)) (p0 : List Tr28) : Le (B1 fRec_policy_Text p0) (B1 fRec_policy_Text' p0) := by
  unfold B1
  repeat' with_reducible (first | refine Le.orR' ?_ ?_ | refine Le.bind' ?_ ?_ | refine Le.ite' ?_ ?_ | refine Le.loopM ?_ | refine Le.altS' ?_ ?_ | exact hfRec_policy_Text | exact hfRec_policy_Text _ | apply Hs | exact Le.rfl' _ | (refine Le.pi2 ?_; intro _) | intro _)
def FJ (nE : Nat) (fRec : Tr28 → Option (List UInt8)) (p0 : Tr28) : Option (List UInt8) := (if p0.un.1 = 1 then (EQ nE (Tr25.of (p0.un.2.1.un.1, p0.un.2.1.un.2.1, p0.un.2.1.un.2.2.1, p0.un.2.1.un.2.2.2))).bind fun x1 => some x1 else (if p0.un.1 = 2 then (Eo (C3 p0.un.2.2.1) ([32, 58, 61, 32] : List UInt8)).bind fun x2 => (L9 p0.un.2.2.2.1).bind fun x3 => (Eo x2 x3).bind fun x4 => some x4 else (if p0.un.1 = 3 then ((CV nE fRec) p0.un.2.2.2.2).bind fun x5 => (I6 x5 ([59, 32] : List UInt8)).bind fun x6 => some x6 else (if p0.un.1 = 4 then ((CV nE fRec) p0.un.2.2.2.2).bind fun x7 => (I6 x7 ([32, 124, 32] : List UInt8)).bind fun x8 => some x8 else (if p0.un.1 = 5 then (Ip nE (Tr25.of (p0.un.2.1.un.1, p0.un.2.1.un.2.1, p0.un.2.1.un.2.2.1, p0.un.2.1.un.2.2.2))).bind fun x9 => (Eo ([105, 102, 32] : List UInt8) x9).bind fun x10 => (Eo x10 ([32, 116, 104, 101, 110, 32] : List UInt8)).bind fun x11 => ((CV nE fRec) p0.un.2.2.2.2).bind fun x12 => (I6 x12 ([32, 101, 108, 115, 101, 32] : List UInt8)).bind fun x13 => (Eo x11 x13).bind fun x14 => some x14 else some ([63] : List UInt8))))))
theorem JI (nE : Nat) {fRec fRec' : Tr28 → Option (List UInt8)} (hfRec : ∀ a0, Le (fRec a0) (fRec' a0)) (p0 : Tr28) : Le (FJ nE fRec p0) (CP fRec' p0) := by
  unfold FJ CP
  repeat' with_reducible (first | refine Le.orR' ?_ ?_ | refine Le.bind' ?_ ?_ | refine Le.ite' ?_ ?_ | refine Le.loop' ?_ | refine Le.altS' ?_ ?_ | exact hfRec | exact hfRec _ | apply Jw | apply IE | apply Ic | exact Le.rfl' _ | (refine Le.pi2 ?_; intro _) | intro _)
theorem JN {fRec fRec' : Tr28 → Option (List UInt8)} (hfRec : ∀ a0, Le (fRec a0) (fRec' a0)) (p0 : Tr28) : Le (CP fRec p0) (CP fRec' p0) := by
  unfold CP
  repeat' with_reducible (first | refine Le.orR' ?_ ?_ | refine Le.bind' ?_ ?_ | refine Le.ite' ?_ ?_ | refine Le.loopM ?_ | refine Le.altS' ?_ ?_ | exact hfRec | exact hfRec _ | apply Ix | exact Le.rfl' _ | (refine Le.pi2 ?_; intro _) | intro _)
def Gl (nE : Nat) : Nat → Tr28 → Option (List UInt8)
  | 0 => fun _ => none
  | n + 1 => FJ nE (Gl nE n)
theorem HB (nE : Nat) : ∀ (m : Nat) a0, Le (Gl nE m a0) (C1 m a0)
  | 0, a0 => fun _ h => nomatch h
  | m + 1, a0 => JI nE (HB nE m) a0
theorem Ht : ∀ (m : Nat) a0, Le (C1 m a0) (C1 (m + 1) a0)
  | 0, a0 => fun _ h => nomatch h
  | m + 1, a0 => JN (Ht m) a0
def Jg (nE : Nat) (p0 : Tr28) : Option (List UInt8) := Gl nE nE p0
theorem Lt (nE : Nat) (p0 : Tr28) : Le (Jg nE p0) (II p0) := fun r e => Dd (g := fun n => C1 n p0) (fun n r h => Ht n p0 r h) (n := nE) (HB nE nE p0 r e)
def Kl (nE : Nat)  : Option Bool := (Hl nE ([100, 115, 116, 32, 58, 61, 32, 51, 59, 32, 112, 111, 114, 116, 32, 58, 61, 32, 49, 32, 124, 32, 100, 114, 111, 112] : List UInt8)).bind fun x1 => (if x1.2.2 = 0 then (if x1.2.1 = 0 then (Jg nE (Tr28.of (x1.1.un.1, Tr25.of (x1.1.un.2.1.un.1, x1.1.un.2.1.un.2.1, x1.1.un.2.1.un.2.2.1, x1.1.un.2.1.un.2.2.2), x1.1.un.2.2.1, x1.1.un.2.2.2.1, x1.1.un.2.2.2.2))).bind fun x3 => (if x3 = ([40, 100, 115, 116, 32, 58, 61, 32, 51, 59, 32, 112, 111, 114, 116, 32, 58, 61, 32, 49, 41, 32, 124, 32, 100, 114, 111, 112] : List UInt8) then (if x1.1.un.1 = 4 then some (decide ((x1.1.un.2.2.2.2.length : Int) = 2)) else some false) else some false) else some false) else some false).bind fun x2 => some x2
theorem MC (nE : Nat)  : Le (Kl nE ) (FL ) := by
  unfold Kl FL
  repeat' with_reducible (first | refine Le.orR' ?_ ?_ | refine Le.bind' ?_ ?_ | refine Le.ite' ?_ ?_ | refine Le.loop' ?_ | refine Le.altS' ?_ ?_ | apply Ln | apply Lt | exact Le.rfl' _ | (refine Le.pi2 ?_; intro _) | intro _)
theorem Ld {fRec_r29_cond fRec_r29_cond' : (List (Int × Int × List UInt8 × Int)) → Int → Option (Tr34 × Int × Bool)} (hfRec_r29_cond : ∀ a0 a1, Le (fRec_r29_cond a0 a1) (fRec_r29_cond' a0 a1)) {fRec fRec' : (List (Int × Int × List UInt8 × Int)) → Int → Option (Tr34 × Int × Bool)} (hfRec : ∀ a0 a1, Le (fRec a0 a1) (fRec' a0 a1)) (p0 : List (Int × Int × List UInt8 × Int)) (p1 : Int) : Le (DR fRec_r29_cond fRec p0 p1) (DR fRec_r29_cond' fRec' p0 p1) := by
  unfold DR
  repeat' with_reducible (first | refine Le.orR' ?_ ?_ | refine Le.bind' ?_ ?_ | refine Le.ite' ?_ ?_ | refine Le.loopM ?_ | refine Le.altS' ?_ ?_ | exact hfRec_r29_cond | exact hfRec | exact hfRec_r29_cond _ _ | exact hfRec _ _ | exact Le.rfl' _ | (refine Le.pi2 ?_; intro _) | intro _)
theorem FT {fRec_r29_cond fRec_r29_cond' : (List (Int × Int × List UInt8 × Int)) → Int → Option (Tr34 × Int × Bool)} (hfRec_r29_cond : ∀ a0 a1, Le (fRec_r29_cond a0 a1) (fRec_r29_cond' a0 a1)) : ∀ (m : Nat) a0 a1, Le (Dw fRec_r29_cond m a0 a1) (Dw fRec_r29_cond' (m + 1) a0 a1)
  | 0, a0, a1 => fun _ h => nomatch h
  | m + 1, a0, a1 => Ld hfRec_r29_cond (FT hfRec_r29_cond m) a0 a1
theorem Ke {fRec_r29_cond fRec_r29_cond' : (List (Int × Int × List UInt8 × Int)) → Int → Option (Tr34 × Int × Bool)} (hfRec_r29_cond : ∀ a0 a1, Le (fRec_r29_cond a0 a1) (fRec_r29_cond' a0 a1)) (p0 : List (Int × Int × List UInt8 × Int)) (p1 : Int) : Le (GH fRec_r29_cond p0 p1) (GH fRec_r29_cond' p0 p1) := fun r e => by
  obtain ⟨n, hn⟩ := Ch e
  exact Dd (g := fun n => Dw fRec_r29_cond' n p0 p1) (fun n r h => FT (fun a0 a1 => Le.rfl' _) n p0 p1 r h) (n := n + 1) (FT hfRec_r29_cond n p0 p1 r hn)
theorem Ku {fRec_r29_cond fRec_r29_cond' : (List (Int × Int × List UInt8 × Int)) → Int → Option (Tr34 × Int × Bool)} (hfRec_r29_cond : ∀ a0 a1, Le (fRec_r29_cond a0 a1) (fRec_r29_cond' a0 a1)) (p0 : List (Int × Int × List UInt8 × Int)) : ∀ s, Le (Dr fRec_r29_cond p0 s) (Dr fRec_r29_cond' p0 s) := by
  rintro ⟨x9, x10, x11, x12, x13, x14, x15⟩
  show Le (Dr fRec_r29_cond p0 (x9, x10, x11, x12, x13, x14, x15)) (Dr fRec_r29_cond' p0 (x9, x10, x11, x12, x13, x14, x15))
  unfold Dr
  repeat' with_reducible (first | refine Le.orR' ?_ ?_ | refine Le.bind' ?_ ?_ | refine Le.ite' ?_ ?_ | refine Le.loopM ?_ | refine Le.altS' ?_ ?_ | exact hfRec_r29_cond | exact hfRec_r29_cond _ _ | apply Ke | exact Le.rfl' _ | (refine Le.pi2 ?_; intro _) | intro _)
theorem JK {fRec_r29_cond fRec_r29_cond' : (List (Int × Int × List UInt8 × Int)) → Int → Option (Tr34 × Int × Bool)} (hfRec_r29_cond : ∀ a0 a1, Le (fRec_r29_cond a0 a1) (fRec_r29_cond' a0 a1)) (p0 : List (Int × Int × List UInt8 × Int)) (p1 : Int) : Le (En fRec_r29_cond p0 p1) (En fRec_r29_cond' p0 p1) := by
  unfold En
  repeat' with_reducible (first | refine Le.orR' ?_ ?_ | refine Le.bind' ?_ ?_ | refine Le.ite' ?_ ?_ | refine Le.loopM ?_ | refine Le.altS' ?_ ?_ | exact hfRec_r29_cond | exact hfRec_r29_cond _ _ | apply Ke | apply Ku | exact Le.rfl' _ | (refine Le.pi2 ?_; intro _) | intro _)
theorem Ll {fRec fRec' : (List (Int × Int × List UInt8 × Int)) → Int → Option (Tr34 × Int × Bool)} (hfRec : ∀ a0 a1, Le (fRec a0 a1) (fRec' a0 a1)) (p0 : List (Int × Int × List UInt8 × Int)) : ∀ s, Le (DV fRec p0 s) (DV fRec' p0 s) := by
  rintro ⟨x9, x10, x11, x12, x13, x14, x15⟩
  show Le (DV fRec p0 (x9, x10, x11, x12, x13, x14, x15)) (DV fRec' p0 (x9, x10, x11, x12, x13, x14, x15))
  unfold DV
  repeat' with_reducible (first | refine Le.orR' ?_ ?_ | refine Le.bind' ?_ ?_ | refine Le.ite' ?_ ?_ | refine Le.loopM ?_ | refine Le.altS' ?_ ?_ | exact hfRec | exact hfRec _ _ | apply JK | exact Le.rfl' _ | (refine Le.pi2 ?_; intro _) | intro _)
theorem KP {fRec fRec' : (List (Int × Int × List UInt8 × Int)) → Int → Option (Tr34 × Int × Bool)} (hfRec : ∀ a0 a1, Le (fRec a0 a1) (fRec' a0 a1)) (p0 : List (Int × Int × List UInt8 × Int)) (p1 : Int) : Le (DW fRec p0 p1) (DW fRec' p0 p1) := by
  unfold DW
  repeat' with_reducible (first | refine Le.orR' ?_ ?_ | refine Le.bind' ?_ ?_ | refine Le.ite' ?_ ?_ | refine Le.loopM ?_ | refine Le.altS' ?_ ?_ | exact hfRec | exact hfRec _ _ | apply JK | apply Ll | exact Le.rfl' _ | (refine Le.pi2 ?_; intro _) | intro _)
theorem Jd : ∀ (m : Nat) a0 a1, Le (CK m a0 a1) (CK (m + 1) a0 a1)
  | 0, a0, a1 => fun _ h => nomatch h
  | m + 1, a0, a1 => KP (Jd m) a0 a1
theorem LL {fRec_r29_step fRec_r29_step' : (List (Int × Int × List UInt8 × Int)) → Int → Option (Tr37 × Int × Bool)} (hfRec_r29_step : ∀ a0 a1, Le (fRec_r29_step a0 a1) (fRec_r29_step' a0 a1)) (p0 : List (Int × Int × List UInt8 × Int)) (p1 : Int) : Le (D3 fRec_r29_step p0 p1) (D3 fRec_r29_step' p0 p1) := by
  unfold D3
  repeat' with_reducible (first | refine Le.orR' ?_ ?_ | refine Le.bind' ?_ ?_ | refine Le.ite' ?_ ?_ | refine Le.loopM ?_ | refine Le.altS' ?_ ?_ | exact hfRec_r29_step | exact hfRec_r29_step _ _ | exact Le.rfl' _ | (refine Le.pi2 ?_; intro _) | intro _)
theorem LF {fRec_r29_rows fRec_r29_rows' : (List (Int × Int × List UInt8 × Int)) → Int → Option (Tr37 × Int × Bool)} (hfRec_r29_rows : ∀ a0 a1, Le (fRec_r29_rows a0 a1) (fRec_r29_rows' a0 a1)) {fRec fRec' : (List (Int × Int × List UInt8 × Int)) → Int → Option (Tr37 × Int × Bool)} (hfRec : ∀ a0 a1, Le (fRec a0 a1) (fRec' a0 a1)) (p0 : List (Int × Int × List UInt8 × Int)) (p1 : Int) : Le (DQ fRec_r29_rows fRec p0 p1) (DQ fRec_r29_rows' fRec' p0 p1) := by
  unfold DQ
  repeat' with_reducible (first | refine Le.orR' ?_ ?_ | refine Le.bind' ?_ ?_ | refine Le.ite' ?_ ?_ | refine Le.loopM ?_ | refine Le.altS' ?_ ?_ | exact hfRec_r29_rows | exact hfRec | exact hfRec_r29_rows _ _ | exact hfRec _ _ | apply LL | exact Le.rfl' _ | (refine Le.pi2 ?_; intro _) | intro _)
theorem FS {fRec_r29_rows fRec_r29_rows' : (List (Int × Int × List UInt8 × Int)) → Int → Option (Tr37 × Int × Bool)} (hfRec_r29_rows : ∀ a0 a1, Le (fRec_r29_rows a0 a1) (fRec_r29_rows' a0 a1)) : ∀ (m : Nat) a0 a1, Le (C5 fRec_r29_rows m a0 a1) (C5 fRec_r29_rows' (m + 1) a0 a1)
  | 0, a0, a1 => fun _ h => nomatch h
  | m + 1, a0, a1 => LF hfRec_r29_rows (FS hfRec_r29_rows m) a0 a1
theorem Kd {fRec_r29_rows fRec_r29_rows' : (List (Int × Int × List UInt8 × Int)) → Int → Option (Tr37 × Int × Bool)} (hfRec_r29_rows : ∀ a0 a1, Le (fRec_r29_rows a0 a1) (fRec_r29_rows' a0 a1)) (p0 : List (Int × Int × List UInt8 × Int)) (p1 : Int) : Le (GJ fRec_r29_rows p0 p1) (GJ fRec_r29_rows' p0 p1) := fun r e => by
  obtain ⟨n, hn⟩ := Ch e
  exact Dd (g := fun n => C5 fRec_r29_rows' n p0 p1) (fun n r h => FS (fun a0 a1 => Le.rfl' _) n p0 p1 r h) (n := n + 1) (FS hfRec_r29_rows n p0 p1 r hn)
theorem L6 {fRec_r29_rows fRec_r29_rows' : (List (Int × Int × List UInt8 × Int)) → Int → Option (Tr37 × Int × Bool)} (hfRec_r29_rows : ∀ a0 a1, Le (fRec_r29_rows a0 a1) (fRec_r29_rows' a0 a1)) (p0 : List (Int × Int × List UInt8 × Int)) : ∀ s, Le (Ea fRec_r29_rows p0 s) (Ea fRec_r29_rows' p0 s) := by
  rintro ⟨x13, x14, x15, x16, x17, x18, x19, x20, x21, x22, x23⟩
  show Le (Ea fRec_r29_rows p0 (x13, x14, x15, x16, x17, x18, x19, x20, x21, x22, x23)) (Ea fRec_r29_rows' p0 (x13, x14, x15, x16, x17, x18, x19, x20, x21, x22, x23))
  unfold Ea
  repeat' with_reducible (first | refine Le.orR' ?_ ?_ | refine Le.bind' ?_ ?_ | refine Le.ite' ?_ ?_ | refine Le.loopM ?_ | refine Le.altS' ?_ ?_ | exact hfRec_r29_rows | exact hfRec_r29_rows _ _ | apply Kd | exact Le.rfl' _ | (refine Le.pi2 ?_; intro _) | intro _)
theorem Lj {fRec_r29_rows fRec_r29_rows' : (List (Int × Int × List UInt8 × Int)) → Int → Option (Tr37 × Int × Bool)} (hfRec_r29_rows : ∀ a0 a1, Le (fRec_r29_rows a0 a1) (fRec_r29_rows' a0 a1)) (p0 : List (Int × Int × List UInt8 × Int)) (p1 : Int) : Le (Fv fRec_r29_rows p0 p1) (Fv fRec_r29_rows' p0 p1) := by
  unfold Fv
  repeat' with_reducible (first | refine Le.orR' ?_ ?_ | refine Le.bind' ?_ ?_ | refine Le.ite' ?_ ?_ | refine Le.loopM ?_ | refine Le.altS' ?_ ?_ | exact hfRec_r29_rows | exact hfRec_r29_rows _ _ | apply Kd | apply L6 | exact Le.rfl' _ | (refine Le.pi2 ?_; intro _) | intro _)
theorem Lp {fRec fRec' : (List (Int × Int × List UInt8 × Int)) → Int → Option (Tr37 × Int × Bool)} (hfRec : ∀ a0 a1, Le (fRec a0 a1) (fRec' a0 a1)) (p0 : List (Int × Int × List UInt8 × Int)) : ∀ s, Le (Dk fRec p0 s) (Dk fRec' p0 s) := by
  rintro ⟨x13, x14, x15, x16, x17, x18, x19, x20, x21, x22, x23⟩
  show Le (Dk fRec p0 (x13, x14, x15, x16, x17, x18, x19, x20, x21, x22, x23)) (Dk fRec' p0 (x13, x14, x15, x16, x17, x18, x19, x20, x21, x22, x23))
  unfold Dk
  repeat' with_reducible (first | refine Le.orR' ?_ ?_ | refine Le.bind' ?_ ?_ | refine Le.ite' ?_ ?_ | refine Le.loopM ?_ | refine Le.altS' ?_ ?_ | exact hfRec | exact hfRec _ _ | apply Lj | exact Le.rfl' _ | (refine Le.pi2 ?_; intro _) | intro _)
theorem KO {fRec fRec' : (List (Int × Int × List UInt8 × Int)) → Int → Option (Tr37 × Int × Bool)} (hfRec : ∀ a0 a1, Le (fRec a0 a1) (fRec' a0 a1)) (p0 : List (Int × Int × List UInt8 × Int)) (p1 : Int) : Le (Dp fRec p0 p1) (Dp fRec' p0 p1) := by
  unfold Dp
  repeat' with_reducible (first | refine Le.orR' ?_ ?_ | refine Le.bind' ?_ ?_ | refine Le.ite' ?_ ?_ | refine Le.loopM ?_ | refine Le.altS' ?_ ?_ | exact hfRec | exact hfRec _ _ | apply Lj | apply Lp | exact Le.rfl' _ | (refine Le.pi2 ?_; intro _) | intro _)
theorem I4 : ∀ (m : Nat) a0 a1, Le (CH m a0 a1) (CH (m + 1) a0 a1)
  | 0, a0, a1 => fun _ h => nomatch h
  | m + 1, a0, a1 => KO (I4 m) a0 a1
theorem J9 {fRec fRec' : Tr25 → Option Tr34} (hfRec : ∀ a0, Le (fRec a0) (fRec' a0)) (p0 : Tr25) : ∀ s, Le (Cm fRec p0 s) (Cm fRec' p0 s) := by
  rintro ⟨x2, x3⟩
  show Le (Cm fRec p0 (x2, x3)) (Cm fRec' p0 (x2, x3))
  unfold Cm
  repeat' with_reducible (first | refine Le.orR' ?_ ?_ | refine Le.bind' ?_ ?_ | refine Le.ite' ?_ ?_ | refine Le.loopM ?_ | refine Le.altS' ?_ ?_ | exact hfRec | exact hfRec _ | exact Le.rfl' _ | (refine Le.pi2 ?_; intro _) | intro _)
theorem JR {fRec fRec' : Tr25 → Option Tr34} (hfRec : ∀ a0, Le (fRec a0) (fRec' a0)) (p0 : Tr25) : Le (C2 fRec p0) (C2 fRec' p0) := by
  unfold C2
  repeat' with_reducible (first | refine Le.orR' ?_ ?_ | refine Le.bind' ?_ ?_ | refine Le.ite' ?_ ?_ | refine Le.loopM ?_ | refine Le.altS' ?_ ?_ | exact hfRec | exact hfRec _ | apply J9 | exact Le.rfl' _ | (refine Le.pi2 ?_; intro _) | intro _)
theorem H0 : ∀ (m : Nat) a0, Le (Cz m a0) (Cz (m + 1) a0)
  | 0, a0 => fun _ h => nomatch h
  | m + 1, a0 => JR (H0 m) a0
theorem J0 {fRec fRec' : Tr28 → Option Tr37} (hfRec : ∀ a0, Le (fRec a0) (fRec' a0)) (p0 : Tr28) : ∀ s, Le (Ct fRec p0 s) (Ct fRec' p0 s) := by
  rintro ⟨x3, x4⟩
  show Le (Ct fRec p0 (x3, x4)) (Ct fRec' p0 (x3, x4))
  unfold Ct
  repeat' with_reducible (first | refine Le.orR' ?_ ?_ | refine Le.bind' ?_ ?_ | refine Le.ite' ?_ ?_ | refine Le.loopM ?_ | refine Le.altS' ?_ ?_ | exact hfRec | exact hfRec _ | exact Le.rfl' _ | (refine Le.pi2 ?_; intro _) | intro _)
theorem JV {fRec fRec' : Tr28 → Option Tr37} (hfRec : ∀ a0, Le (fRec a0) (fRec' a0)) (p0 : Tr28) : Le (C0 fRec p0) (C0 fRec' p0) := by
  unfold C0
  repeat' with_reducible (first | refine Le.orR' ?_ ?_ | refine Le.bind' ?_ ?_ | refine Le.ite' ?_ ?_ | refine Le.loopM ?_ | refine Le.altS' ?_ ?_ | exact hfRec | exact hfRec _ | apply J0 | exact Le.rfl' _ | (refine Le.pi2 ?_; intro _) | intro _)
theorem H3 : ∀ (m : Nat) a0, Le (CL m a0) (CL (m + 1) a0)
  | 0, a0 => fun _ h => nomatch h
  | m + 1, a0 => JV (H3 m) a0
theorem Lv {fRec fRec' : Tr34 → Tr34 → Option Bool} (hfRec : ∀ a0 a1, Le (fRec a0 a1) (fRec' a0 a1)) (p0 : Tr34) (p1 : Tr34) : ∀ s, Le (DU fRec p0 p1 s) (DU fRec' p0 p1 s) := by
  intro x1
  unfold DU
  repeat' with_reducible (first | refine Le.orR' ?_ ?_ | refine Le.bind' ?_ ?_ | refine Le.ite' ?_ ?_ | refine Le.loopM ?_ | refine Le.altS' ?_ ?_ | exact hfRec | exact hfRec _ _ | exact Le.rfl' _ | (refine Le.pi2 ?_; intro _) | intro _)
theorem KR {fRec fRec' : Tr34 → Tr34 → Option Bool} (hfRec : ∀ a0 a1, Le (fRec a0 a1) (fRec' a0 a1)) (p0 : Tr34) (p1 : Tr34) : Le (DT fRec p0 p1) (DT fRec' p0 p1) := by
  unfold DT
  repeat' with_reducible (first | refine Le.orR' ?_ ?_ | refine Le.bind' ?_ ?_ | refine Le.ite' ?_ ?_ | refine Le.loopM ?_ | refine Le.altS' ?_ ?_ | exact hfRec | exact hfRec _ _ | apply Lv | exact Le.rfl' _ | (refine Le.pi2 ?_; intro _) | intro _)
theorem Jh : ∀ (m : Nat) a0 a1, Le (Dz m a0 a1) (Dz (m + 1) a0 a1)
  | 0, a0, a1 => fun _ h => nomatch h
  | m + 1, a0, a1 => KR (Jh m) a0 a1
theorem K8 {fRec fRec' : Tr37 → Tr37 → Option Bool} (hfRec : ∀ a0 a1, Le (fRec a0 a1) (fRec' a0 a1)) (p0 : Tr37) (p1 : Tr37) : ∀ s, Le (DP fRec p0 p1 s) (DP fRec' p0 p1 s) := by
  intro x3
  unfold DP
  repeat' with_reducible (first | refine Le.orR' ?_ ?_ | refine Le.bind' ?_ ?_ | refine Le.ite' ?_ ?_ | refine Le.loopM ?_ | refine Le.altS' ?_ ?_ | exact hfRec | exact hfRec _ _ | exact Le.rfl' _ | (refine Le.pi2 ?_; intro _) | intro _)
theorem Li {fRec fRec' : Tr37 → Tr37 → Option Bool} (hfRec : ∀ a0 a1, Le (fRec a0 a1) (fRec' a0 a1)) (p0 : Tr37) (p1 : Tr37) : Le (DS fRec p0 p1) (DS fRec' p0 p1) := by
  unfold DS
  repeat' with_reducible (first | refine Le.orR' ?_ ?_ | refine Le.bind' ?_ ?_ | refine Le.ite' ?_ ?_ | refine Le.loopM ?_ | refine Le.altS' ?_ ?_ | exact hfRec | exact hfRec _ _ | apply K8 | exact Le.rfl' _ | (refine Le.pi2 ?_; intro _) | intro _)
theorem I8 : ∀ (m : Nat) a0 a1, Le (Du m a0 a1) (Du (m + 1) a0 a1)
  | 0, a0, a1 => fun _ h => nomatch h
  | m + 1, a0, a1 => Li (I8 m) a0 a1
theorem ON : FL = some true := MC 120 _ (by kernel_rfl)
end Go.Proofs.YtlgjpoapclifbaaDoor
