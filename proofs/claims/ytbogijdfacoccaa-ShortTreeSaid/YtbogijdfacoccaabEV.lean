/- Twins with fuel of FV functions: what a twin answers, the function answers. Conditions: none. -/
import Derived.Test.YtbogijdfacoccaabLP
import Derived.Test.YtbogijdfacoccaabA6
namespace Go.Proofs.Ytbogijdfacoccaa
open Go Go.RowKit
set_option linter.unusedVariables false
set_option linter.unusedSimpArgs false
set_option maxRecDepth 20000
set_option maxHeartbeats 1600000
abbrev Le {α : Type} (a b : Option α) : Prop := ∀ r, a = some r → b = some r
theorem Le.rfl' {α : Type} (a : Option α) : Le a a := fun _ h => h
theorem Le.bind' {α β : Type} {a b : Option α} {f g : α → Option β} (h : Le a b) (hf : ∀ x, Le (f x) (g x)) : Le (a.bind f) (b.bind g) := fun r e => by
  obtain ⟨x, h1, h2⟩ := Al e
  rw [h x h1, Option.bind_some]; exact hf x r h2
theorem Le.ite' {α : Type} {c : Prop} [Decidable c] {a a' b b' : Option α} (h1 : Le a a') (h2 : Le b b') : Le (if c then a else b) (if c then a' else b') := fun r e => by
  by_cases h : c
  · rw [if_pos h] at e ⊢; exact h1 r e
  · rw [if_neg h] at e ⊢; exact h2 r e
theorem Le.orR' {α β : Type} {a b : Option (α ⊕ β)} {f g : α → Option β} (h : Le a b) (hf : ∀ x, Le (f x) (g x)) : Le (Jj a f) (Jj b g) :=
  Le.bind' h fun x => by
    cases x with
    | inl t => exact hf t
    | inr e => exact Le.rfl' _
def C0 {σ ε : Type} (n : Nat) (step : σ → Option (σ ⊕ ε)) (s : σ) : Option ε := EB step n s
theorem IF {σ ε : Type} {S T : σ → Option (σ ⊕ ε)} (h : ∀ s, Le (S s) (T s)) : ∀ (n : Nat) (s : σ), Le (EB S n s) (EB T n s)
  | 0, s => Le.rfl' _
  | n + 1, s => fun r e => by
    unfold EB at e ⊢
    cases hs : S s with
    | none => rw [hs] at e; cases e
    | some q =>
      rw [hs] at e; rw [h s q hs]
      cases q with
      | inl s' => exact IF h n s' r e
      | inr _ => exact e
theorem Le.loop' {σ ε : Type} {n : Nat} {S T : σ → Option (σ ⊕ ε)} {s : σ} (h : ∀ s, Le (S s) (T s)) : Le (C0 n S s) (AF T s) := fun r e => EZ.2 ⟨n, IF h n s r e⟩
theorem Le.pi2 {α β γ : Type} {f g : α × β → Option γ} (h : ∀ a b, Le (f (a, b)) (g (a, b))) : ∀ x, Le (f x) (g x) := fun x => h x.1 x.2
theorem Le.altS' {α β γ : Type} {y : α ⊕ β} {f f' : α → Option γ} {g g' : β → Option γ} (h : ∀ x, Le (f x) (f' x)) (k : ∀ x, Le (g x) (g' x)) : Le (Qo y f g) (Qo y f' g') := by
  cases y with
  | inl x => exact h x
  | inr x => exact k x
def Ek (nE : Nat) (p0 : Int × (List (Int × Int × Int × Int × Int × Int)) × (List (Int × Int))) : ((List (Int × Int)) × Int) → Option (((List (Int × Int)) × Int) ⊕ (List (Int × Int)))
  | (x2, x3) => (if x3 < (p0.2.1.length : Int) then (ix p0.2.1 x3).bind fun x4 => (HA x2 ([(x4.1, x4.2.1), (x4.2.2.1, x4.2.2.2.1)] : List (Int × Int))).bind fun x5 => some (.inl (x5, BJ (x3 + 1))) else some (.inr x2))
theorem Hx (nE : Nat) (p0 : Int × (List (Int × Int × Int × Int × Int × Int)) × (List (Int × Int))) : ∀ s, Le (Ek nE p0 s) (Ed p0 s) := by
  rintro ⟨x2, x3⟩
  unfold Ek Ed
  repeat' with_reducible (first | refine Le.orR' ?_ ?_ | refine Le.bind' ?_ ?_ | refine Le.ite' ?_ ?_ | refine Le.loop' ?_ | refine Le.altS' ?_ ?_ | exact Le.rfl' _ | (refine Le.pi2 ?_; intro _) | intro _)
def Ej (nE : Nat) (p0 : Int × (List (Int × Int × Int × Int × Int × Int)) × (List (Int × Int))) : ((List (Int × Int)) × Int) → Option (((List (Int × Int)) × Int) ⊕ (List (Int × Int)))
  | (x7, x8) => (if x8 < (p0.2.2.length : Int) then (ix p0.2.2 x8).bind fun x9 => (HA x7 ([x9] : List (Int × Int))).bind fun x10 => some (.inl (x10, BJ (x8 + 1))) else some (.inr x7))
theorem He (nE : Nat) (p0 : Int × (List (Int × Int × Int × Int × Int × Int)) × (List (Int × Int))) : ∀ s, Le (Ej nE p0 s) (DW p0 s) := by
  rintro ⟨x7, x8⟩
  unfold Ej DW
  repeat' with_reducible (first | refine Le.orR' ?_ ?_ | refine Le.bind' ?_ ?_ | refine Le.ite' ?_ ?_ | refine Le.loop' ?_ | refine Le.altS' ?_ ?_ | exact Le.rfl' _ | (refine Le.pi2 ?_; intro _) | intro _)
def Fw (nE : Nat) (p0 : Int × (List (Int × Int × Int × Int × Int × Int)) × (List (Int × Int))) : Option (List (Int × Int)) := (C0 nE (Ek nE p0) ([], 0)).bind fun x1 => (C0 nE (Ej nE p0) (x1, 0)).bind fun x6 => some x6
theorem Jg (nE : Nat) (p0 : Int × (List (Int × Int × Int × Int × Int × Int)) × (List (Int × Int))) : Le (Fw nE p0) (EA p0) := by
  unfold Fw EA
  repeat' with_reducible (first | refine Le.orR' ?_ ?_ | refine Le.bind' ?_ ?_ | refine Le.ite' ?_ ?_ | refine Le.loop' ?_ | refine Le.altS' ?_ ?_ | apply Hx | apply He | exact Le.rfl' _ | (refine Le.pi2 ?_; intro _) | intro _)
def Bk (nE : Nat) (p0 : List (Int × Int × Int × Int × Int × Int)) : Int → Option (Int ⊕ (Unit ⊕ Int))
  | x1 => (if x1 < (p0.length : Int) then (ix p0 x1).bind fun x2 => (if (Df x2) = true then some (.inr (.inr x1)) else some (.inl (BJ (x1 + 1)))) else some (.inr (.inl ())))
theorem CY (nE : Nat) (p0 : List (Int × Int × Int × Int × Int × Int)) : ∀ s, Le (Bk nE p0 s) (A8 p0 s) := by
  intro x1
  unfold Bk A8
  repeat' with_reducible (first | refine Le.orR' ?_ ?_ | refine Le.bind' ?_ ?_ | refine Le.ite' ?_ ?_ | refine Le.loop' ?_ | refine Le.altS' ?_ ?_ | exact Le.rfl' _ | (refine Le.pi2 ?_; intro _) | intro _)
def Bz (nE : Nat) (p0 : List (Int × Int × Int × Int × Int × Int)) : Option Int := Jj (C0 nE (Bk nE p0) 0) fun _ => some (-1)
theorem Dh (nE : Nat) (p0 : List (Int × Int × Int × Int × Int × Int)) : Le (Bz nE p0) (A1 p0) := by
  unfold Bz A1
  repeat' with_reducible (first | refine Le.orR' ?_ ?_ | refine Le.bind' ?_ ?_ | refine Le.ite' ?_ ?_ | refine Le.loop' ?_ | refine Le.altS' ?_ ?_ | apply CY | exact Le.rfl' _ | (refine Le.pi2 ?_; intro _) | intro _)
def Bm (nE : Nat) (p0 : List (Int × Int × Int × Int × Int × Int)) : Option Bool := (Bz nE p0).bind fun x1 => some (decide (0 ≤ x1))
theorem CW (nE : Nat) (p0 : List (Int × Int × Int × Int × Int × Int)) : Le (Bm nE p0) (AW p0) := by
  unfold Bm AW
  repeat' with_reducible (first | refine Le.orR' ?_ ?_ | refine Le.bind' ?_ ?_ | refine Le.ite' ?_ ?_ | refine Le.loop' ?_ | refine Le.altS' ?_ ?_ | apply Dh | exact Le.rfl' _ | (refine Le.pi2 ?_; intro _) | intro _)
def EO (nE : Nat) (p0 : Int × (List (Int × Int × Int × Int × Int × Int)) × (List (Int × Int))) (x2 : (List (Int × Int))) : (Int × (List ((Int × Int) × Unit))) → Option ((Int × (List ((Int × Int) × Unit))) ⊕ ((List ((Int × Int) × Unit)) ⊕ Bool))
  | (x3, x4) => (if x3 < (x2.length : Int) then (ix x2 x3).bind fun x5 => (if (decide (x5.1 < 0) || (decide (p0.1 ≤ x5.1) || (decide (x5.2 < 0) || decide (8 ≤ x5.2)))) = true then some (.inr (.inr false)) else (if ((Jz x4 x5).isSome) = true then some (.inr (.inr false)) else some (.inl (BJ (x3 + 1), II x4 x5 ())))) else some (.inr (.inl x4)))
theorem HT (nE : Nat) (p0 : Int × (List (Int × Int × Int × Int × Int × Int)) × (List (Int × Int))) (x2 : (List (Int × Int))) : ∀ s, Le (EO nE p0 x2 s) (Eu p0 x2 s) := by
  rintro ⟨x3, x4⟩
  unfold EO Eu
  repeat' with_reducible (first | refine Le.orR' ?_ ?_ | refine Le.bind' ?_ ?_ | refine Le.ite' ?_ ?_ | refine Le.loop' ?_ | refine Le.altS' ?_ ?_ | exact Le.rfl' _ | (refine Le.pi2 ?_; intro _) | intro _)
def FZ (nE : Nat) (p0 : Int × (List (Int × Int × Int × Int × Int × Int)) × (List (Int × Int))) : Option Bool := (if (decide (p0.1 < 1) || (decide (8 < p0.1) || (decide (24 < (p0.2.1.length : Int)) || decide (8 < (p0.2.2.length : Int))))) = true then some false else Jj ((Fw nE p0).bind fun x2 => C0 nE (EO nE p0 x2) (0, ([] : List ((Int × Int) × Unit)))) fun x1 => (Bm nE p0.2.1).bind fun x6 => some (!x6))
theorem Jr (nE : Nat) (p0 : Int × (List (Int × Int × Int × Int × Int × Int)) × (List (Int × Int))) : Le (FZ nE p0) (E4 p0) := by
  unfold FZ E4
  repeat' with_reducible (first | refine Le.orR' ?_ ?_ | refine Le.bind' ?_ ?_ | refine Le.ite' ?_ ?_ | refine Le.loop' ?_ | refine Le.altS' ?_ ?_ | apply Jg | apply CW | apply HT | exact Le.rfl' _ | (refine Le.pi2 ?_; intro _) | intro _)
def El (nE : Nat) (p0 : List Nat) : Int → Option (Int ⊕ (Unit ⊕ Bool))
  | x1 => (if x1 < (p0.length : Int) then (ix p0 x1).bind fun x2 => (if (!(Cy x2)) = true then some (.inr (.inr false)) else some (.inl (BJ (x1 + 1)))) else some (.inr (.inl ())))
theorem Ho (nE : Nat) (p0 : List Nat) : ∀ s, Le (El nE p0 s) (Cm p0 s) := by
  intro x1
  unfold El Cm
  repeat' with_reducible (first | refine Le.orR' ?_ ?_ | refine Le.bind' ?_ ?_ | refine Le.ite' ?_ ?_ | refine Le.loop' ?_ | refine Le.altS' ?_ ?_ | exact Le.rfl' _ | (refine Le.pi2 ?_; intro _) | intro _)
def Fq (nE : Nat) (p0 : List Nat) (p1 : Int) : Option Bool := (if (p0.length : Int) ≠ p1 then some false else Jj (C0 nE (El nE p0) 0) fun _ => some true)
theorem IH (nE : Nat) (p0 : List Nat) (p1 : Int) : Le (Fq nE p0 p1) (C7 p0 p1) := by
  unfold Fq C7
  repeat' with_reducible (first | refine Le.orR' ?_ ?_ | refine Le.bind' ?_ ?_ | refine Le.ite' ?_ ?_ | refine Le.loop' ?_ | refine Le.altS' ?_ ?_ | apply Ho | exact Le.rfl' _ | (refine Le.pi2 ?_; intro _) | intro _)
def Dw (nE : Nat) (p0 : Int × (List (Int × Int × Int × Int × Int × Int)) × (List (Int × Int))) (p1 : List Nat) : Option Bool := ((FZ nE p0).bind fun x2 => (if x2 = true then (Fq nE p1 (p0.2.1.length : Int)).bind fun x3 => some x3 else some false)).bind fun x1 => some x1
theorem E6 (nE : Nat) (p0 : Int × (List (Int × Int × Int × Int × Int × Int)) × (List (Int × Int))) (p1 : List Nat) : Le (Dw nE p0 p1) (Ct p0 p1) := by
  unfold Dw Ct
  repeat' with_reducible (first | refine Le.orR' ?_ ?_ | refine Le.bind' ?_ ?_ | refine Le.ite' ?_ ?_ | refine Le.loop' ?_ | refine Le.altS' ?_ ?_ | apply Jr | apply IH | exact Le.rfl' _ | (refine Le.pi2 ?_; intro _) | intro _)
def E5 (nE : Nat) (p0 : Int) : Option Nat := (if 0 ≤ p0 then some 9218868437227405312 else some 18442240474082181120).bind fun x1 => some (Int.toNat x1)
theorem Gp (nE : Nat) (p0 : Int) : Le (E5 nE p0) (CU p0) := by
  unfold E5 CU
  repeat' with_reducible (first | refine Le.orR' ?_ ?_ | refine Le.bind' ?_ ?_ | refine Le.ite' ?_ ?_ | refine Le.loop' ?_ | refine Le.altS' ?_ ?_ | exact Le.rfl' _ | (refine Le.pi2 ?_; intro _) | intro _)
def BI (nE : Nat)  : (List Nat × Int) → Option ((List Nat × Int) ⊕ (List Nat))
  | (x3, x4) => (if x4 < (x3.length : Int) then (EX x3 x4 (x3.length : Int)).bind fun x5 => (EX x3 0 x4).bind fun x6 => some (.inl (Ji x3 x4 (min x6.length x5.length) x6, BJ (x4 + ((min x6.length x5.length : Nat) : Int)))) else some (.inr x3))
theorem Dx (nE : Nat)  : ∀ s, Le (BI nE  s) (AP  s) := by
  rintro ⟨x3, x4⟩
  unfold BI AP
  repeat' with_reducible (first | refine Le.orR' ?_ ?_ | refine Le.bind' ?_ ?_ | refine Le.ite' ?_ ?_ | refine Le.loop' ?_ | refine Le.altS' ?_ ?_ | exact Le.rfl' _ | (refine Le.pi2 ?_; intro _) | intro _)
def BT (nE : Nat) (p0 : List Nat) (p1 : Int) : Option (List Nat) := (if p1 < 0 then none else (if (decide (0 < ((Aq (IntKind.u64.wrap (p0.length : Int)) (IntKind.u64.wrap p1)).1)) || decide (9223372036854775807 < ((Aq (IntKind.u64.wrap (p0.length : Int)) (IntKind.u64.wrap p1)).2))) = true then none else (mk (BJ ((Aq (IntKind.u64.wrap (p0.length : Int)) (IntKind.u64.wrap p1)).2)) (0 : Nat)).bind fun x1 => (C0 nE (BI nE) (Ji x1 0 (min p0.length x1.length) p0, ((min p0.length x1.length : Nat) : Int))).bind fun x2 => some x2))
theorem D7 (nE : Nat) (p0 : List Nat) (p1 : Int) : Le (BT nE p0 p1) (AJ p0 p1) := by
  unfold BT AJ
  repeat' with_reducible (first | refine Le.orR' ?_ ?_ | refine Le.bind' ?_ ?_ | refine Le.ite' ?_ ?_ | refine Le.loop' ?_ | refine Le.altS' ?_ ?_ | apply Dx | exact Le.rfl' _ | (refine Le.pi2 ?_; intro _) | intro _)
def DS (nE : Nat) (p0 : Int) : Option Int := (if 4294967296 ≤ p0 then some (Ga .u64 p0 32, 32) else some (p0, 0)).bind fun (x1, x2) => (if 65536 ≤ x1 then some (Ga .u64 x1 16, BJ (x2 + 16)) else some (x1, x2)).bind fun (x3, x4) => (if 256 ≤ x3 then some (Ga .u64 x3 8, BJ (x4 + 8)) else some (x3, x4)).bind fun (x5, x6) => (ix ([0, 1, 2, 2, 3, 3, 3, 3, 4, 4, 4, 4, 4, 4, 4, 4, 5, 5, 5, 5, 5, 5, 5, 5, 5, 5, 5, 5, 5, 5, 5, 5, 6, 6, 6, 6, 6, 6, 6, 6, 6, 6, 6, 6, 6, 6, 6, 6, 6, 6, 6, 6, 6, 6, 6, 6, 6, 6, 6, 6, 6, 6, 6, 6, 7, 7, 7, 7, 7, 7, 7, 7, 7, 7, 7, 7, 7, 7, 7, 7, 7, 7, 7, 7, 7, 7, 7, 7, 7, 7, 7, 7, 7, 7, 7, 7, 7, 7, 7, 7, 7, 7, 7, 7, 7, 7, 7, 7, 7, 7, 7, 7, 7, 7, 7, 7, 7, 7, 7, 7, 7, 7, 7, 7, 7, 7, 7, 7, 8, 8, 8, 8, 8, 8, 8, 8, 8, 8, 8, 8, 8, 8, 8, 8, 8, 8, 8, 8, 8, 8, 8, 8, 8, 8, 8, 8, 8, 8, 8, 8, 8, 8, 8, 8, 8, 8, 8, 8, 8, 8, 8, 8, 8, 8, 8, 8, 8, 8, 8, 8, 8, 8, 8, 8, 8, 8, 8, 8, 8, 8, 8, 8, 8, 8, 8, 8, 8, 8, 8, 8, 8, 8, 8, 8, 8, 8, 8, 8, 8, 8, 8, 8, 8, 8, 8, 8, 8, 8, 8, 8, 8, 8, 8, 8, 8, 8, 8, 8, 8, 8, 8, 8, 8, 8, 8, 8, 8, 8, 8, 8, 8, 8, 8, 8, 8, 8, 8, 8, 8, 8, 8, 8, 8, 8, 8, 8] : List UInt8) (IntKind.u8.wrap x5)).bind fun x7 => some (BJ (x6 + (BJ (x7.toNat : Int))))
theorem GW (nE : Nat) (p0 : Int) : Le (DS nE p0) (CT p0) := by
  unfold DS CT
  repeat' with_reducible (first | refine Le.orR' ?_ ?_ | refine Le.bind' ?_ ?_ | refine Le.ite' ?_ ?_ | refine Le.loop' ?_ | refine Le.altS' ?_ ?_ | exact Le.rfl' _ | (refine Le.pi2 ?_; intro _) | intro _)
def DD (nE : Nat) (p0 : Int) : Option Int := (DS nE p0).bind fun x1 => some x1
theorem FL (nE : Nat) (p0 : Int) : Le (DD nE p0) (Cv p0) := by
  unfold DD Cv
  repeat' with_reducible (first | refine Le.orR' ?_ ?_ | refine Le.bind' ?_ ?_ | refine Le.ite' ?_ ?_ | refine Le.loop' ?_ | refine Le.altS' ?_ ?_ | apply GW | exact Le.rfl' _ | (refine Le.pi2 ?_; intro _) | intro _)
def EY (nE : Nat) (p0 : Nat) (p1 : Int) : Option Bool := (if p1 = 0 then some (Gx p0) else (if p1 < 0 then some (Op.negFloat .f64 p0) else some p0)).bind fun x1 => some (Ns x1 9218868437227405311)
theorem JB (nE : Nat) (p0 : Nat) (p1 : Int) : Le (EY nE p0 p1) (Cz p0 p1) := by
  unfold EY Cz
  repeat' with_reducible (first | refine Le.orR' ?_ ?_ | refine Le.bind' ?_ ?_ | refine Le.ite' ?_ ?_ | refine Le.loop' ?_ | refine Le.altS' ?_ ?_ | exact Le.rfl' _ | (refine Le.pi2 ?_; intro _) | intro _)
def Fu (nE : Nat) (p0 : Nat) : Option Int := (if (BW p0) = true then some 0 else (EY nE p0 (-1)).bind fun x1 => (if x1 = true then some 1 else (if (Mv p0 0) = true then some 2 else (EY nE p0 1).bind fun x2 => (if x2 = true then some 6 else (if (Ns p0 0) = true then some 5 else (if (CQ p0) = true then some 3 else some 4))))))
theorem IP (nE : Nat) (p0 : Nat) : Le (Fu nE p0) (C6 p0) := by
  unfold Fu C6
  repeat' with_reducible (first | refine Le.orR' ?_ ?_ | refine Le.bind' ?_ ?_ | refine Le.ite' ?_ ?_ | refine Le.loop' ?_ | refine Le.altS' ?_ ?_ | apply JB | exact Le.rfl' _ | (refine Le.pi2 ?_; intro _) | intro _)
def EV (nE : Nat) (p0 : Nat) : Option Int := (Fu nE p0).bind fun x1 => (if x1 ≠ 0 then some x1 else some 7)
theorem Jn (nE : Nat) (p0 : Nat) : Le (EV nE p0) (Dc p0) := by
  unfold EV Dc
  repeat' with_reducible (first | refine Le.orR' ?_ ?_ | refine Le.bind' ?_ ?_ | refine Le.ite' ?_ ?_ | refine Le.loop' ?_ | refine Le.altS' ?_ ?_ | apply IP | exact Le.rfl' _ | (refine Le.pi2 ?_; intro _) | intro _)
def EN (nE : Nat) (p0 : Nat) (p1 : Nat) : Option Int := (EV nE p0).bind fun x1 => (EV nE p1).bind fun x2 => (if x1 < x2 then some (-1) else (if x2 < x1 then some 1 else (if (Mv p0 p1) = true then some (-1) else (if (Ns p0 p1) = true then some 1 else some 0))))
theorem HL (nE : Nat) (p0 : Nat) (p1 : Nat) : Le (EN nE p0 p1) (Cu p0 p1) := by
  unfold EN Cu
  repeat' with_reducible (first | refine Le.orR' ?_ ?_ | refine Le.bind' ?_ ?_ | refine Le.ite' ?_ ?_ | refine Le.loop' ?_ | refine Le.altS' ?_ ?_ | apply Jn | exact Le.rfl' _ | (refine Le.pi2 ?_; intro _) | intro _)
def EK (nE : Nat) (p0 : Int) (p1 : Int) (p2 : List Nat) : Option Int := (ix p2 p0).bind fun x1 => (ix p2 p1).bind fun x2 => (EN nE x1 x2).bind fun x3 => some x3
theorem HX (nE : Nat) (p0 : Int) (p1 : Int) (p2 : List Nat) : Le (EK nE p0 p1 p2) (Cx p0 p1 p2) := by
  unfold EK Cx
  repeat' with_reducible (first | refine Le.orR' ?_ ?_ | refine Le.bind' ?_ ?_ | refine Le.ite' ?_ ?_ | refine Le.loop' ?_ | refine Le.altS' ?_ ?_ | apply HL | exact Le.rfl' _ | (refine Le.pi2 ?_; intro _) | intro _)
def Bx (nE : Nat) (p1 : Int) (p3c0 : List Nat) : (List Int × Int) → Option ((List Int × Int) ⊕ (List Int))
  | (x4, x5) => (if p1 < x5 then (ix x4 x5).bind fun x7 => (ix x4 (BJ (x5 - 1))).bind fun x8 => (EK nE x7 x8 p3c0).bind fun x9 => some (decide (x9 < 0)) else some false).bind fun x6 => (if x6 = true then (ix x4 (BJ (x5 - 1))).bind fun x10 => (ix x4 x5).bind fun x11 => (ix x4 x5).bind fun x12 => (ix (Az x4 x5 x10) (BJ (x5 - 1))).bind fun x13 => some (.inl ((Az (Az x4 x5 x10) (BJ (x5 - 1)) x11), BJ (x5 - 1))) else some (.inr x4))
theorem Dt (nE : Nat) (p1 : Int) (p3c0 : List Nat) : ∀ s, Le (Bx nE p1 p3c0 s) (AK p1 p3c0 s) := by
  rintro ⟨x4, x5⟩
  unfold Bx AK
  repeat' with_reducible (first | refine Le.orR' ?_ ?_ | refine Le.bind' ?_ ?_ | refine Le.ite' ?_ ?_ | refine Le.loop' ?_ | refine Le.altS' ?_ ?_ | apply HX | exact Le.rfl' _ | (refine Le.pi2 ?_; intro _) | intro _)
def BA (nE : Nat) (p1 : Int) (p2 : Int) (p3c0 : List Nat) : (List Int × Int) → Option ((List Int × Int) ⊕ (List Int))
  | (x1, x2) => (if x2 < p2 then (C0 nE (Bx nE p1 p3c0) (x1, x2)).bind fun x3 => some (.inl (x3, BJ (x2 + 1))) else some (.inr x1))
theorem Dq (nE : Nat) (p1 : Int) (p2 : Int) (p3c0 : List Nat) : ∀ s, Le (BA nE p1 p2 p3c0 s) (AE p1 p2 p3c0 s) := by
  rintro ⟨x1, x2⟩
  unfold BA AE
  repeat' with_reducible (first | refine Le.orR' ?_ ?_ | refine Le.bind' ?_ ?_ | refine Le.ite' ?_ ?_ | refine Le.loop' ?_ | refine Le.altS' ?_ ?_ | apply Dt | exact Le.rfl' _ | (refine Le.pi2 ?_; intro _) | intro _)
def BN (nE : Nat) (p0 : List Int) (p1 : Int) (p2 : Int) (p3c0 : List Nat) : Option (List Int) := C0 nE (BA nE p1 p2 p3c0) (p0, BJ (p1 + 1))
theorem DK (nE : Nat) (p0 : List Int) (p1 : Int) (p2 : Int) (p3c0 : List Nat) : Le (BN nE p0 p1 p2 p3c0) (AY p0 p1 p2 p3c0) := by
  unfold BN AY
  repeat' with_reducible (first | refine Le.orR' ?_ ?_ | refine Le.bind' ?_ ?_ | refine Le.ite' ?_ ?_ | refine Le.loop' ?_ | refine Le.altS' ?_ ?_ | apply Dq | exact Le.rfl' _ | (refine Le.pi2 ?_; intro _) | intro _)
def B0 (nE : Nat) (p0 : List Int) (p1 : Int) (p2 : Int) (p4c0 : List Nat) : Unit → Option (Unit ⊕ (List Int))
  | _ => (if (BJ (p2 - p1)) ≤ 12 then (BN nE p0 p1 p2 p4c0).bind fun x1 => some (.inr x1) else none)
theorem Ee (nE : Nat) (p0 : List Int) (p1 : Int) (p2 : Int) (p4c0 : List Nat) : ∀ s, Le (B0 nE p0 p1 p2 p4c0 s) (Bg p0 p1 p2 p4c0 s) := by
  intro s
  unfold B0 Bg
  repeat' with_reducible (first | refine Le.orR' ?_ ?_ | refine Le.bind' ?_ ?_ | refine Le.ite' ?_ ?_ | refine Le.loop' ?_ | refine Le.altS' ?_ ?_ | apply DK | exact Le.rfl' _ | (refine Le.pi2 ?_; intro _) | intro _)
def Cb (nE : Nat) (p0 : List Int) (p1 : Int) (p2 : Int) (p3 : Int) (p4c0 : List Nat) : Option (List Int) := C0 nE (B0 nE p0 p1 p2 p4c0) ()
theorem EI (nE : Nat) (p0 : List Int) (p1 : Int) (p2 : Int) (p3 : Int) (p4c0 : List Nat) : Le (Cb nE p0 p1 p2 p3 p4c0) (A5 p0 p1 p2 p3 p4c0) := by
  unfold Cb A5
  repeat' with_reducible (first | refine Le.orR' ?_ ?_ | refine Le.bind' ?_ ?_ | refine Le.ite' ?_ ?_ | refine Le.loop' ?_ | refine Le.altS' ?_ ?_ | apply Ee | exact Le.rfl' _ | (refine Le.pi2 ?_; intro _) | intro _)
def Cp (nE : Nat) (p0 : List Int) (p1c0 : List Nat) : Option (List Int) := (DD nE (IntKind.u64.wrap (p0.length : Int))).bind fun x1 => (Cb nE p0 0 (p0.length : Int) x1 p1c0).bind fun x2 => some x2
theorem E3 (nE : Nat) (p0 : List Int) (p1c0 : List Nat) : Le (Cp nE p0 p1c0) (Bb p0 p1c0) := by
  unfold Cp Bb
  repeat' with_reducible (first | refine Le.orR' ?_ ?_ | refine Le.bind' ?_ ?_ | refine Le.ite' ?_ ?_ | refine Le.loop' ?_ | refine Le.altS' ?_ ?_ | apply FL | apply EI | exact Le.rfl' _ | (refine Le.pi2 ?_; intro _) | intro _)
def Be (nE : Nat) (p1 : Int) : ((List (Int × Int × Int)) × Int) → Option (((List (Int × Int × Int)) × Int) ⊕ (List (Int × Int × Int)))
  | (x4, x5) => (if p1 < x5 then (ix x4 x5).bind fun x7 => (ix x4 (BJ (x5 - 1))).bind fun x8 => some (decide ((EF x7 x8) < 0)) else some false).bind fun x6 => (if x6 = true then (ix x4 (BJ (x5 - 1))).bind fun x9 => (ix x4 x5).bind fun x10 => (ix x4 x5).bind fun x11 => (ix (Az x4 x5 x9) (BJ (x5 - 1))).bind fun x12 => some (.inl ((Az (Az x4 x5 x9) (BJ (x5 - 1)) x10), BJ (x5 - 1))) else some (.inr x4))
theorem CL (nE : Nat) (p1 : Int) : ∀ s, Le (Be nE p1 s) (A2 p1 s) := by
  rintro ⟨x4, x5⟩
  unfold Be A2
  repeat' with_reducible (first | refine Le.orR' ?_ ?_ | refine Le.bind' ?_ ?_ | refine Le.ite' ?_ ?_ | refine Le.loop' ?_ | refine Le.altS' ?_ ?_ | exact Le.rfl' _ | (refine Le.pi2 ?_; intro _) | intro _)
def Bd (nE : Nat) (p1 : Int) (p2 : Int) : ((List (Int × Int × Int)) × Int) → Option (((List (Int × Int × Int)) × Int) ⊕ (List (Int × Int × Int)))
  | (x1, x2) => (if x2 < p2 then (C0 nE (Be nE p1) (x1, x2)).bind fun x3 => some (.inl (x3, BJ (x2 + 1))) else some (.inr x1))
theorem CK (nE : Nat) (p1 : Int) (p2 : Int) : ∀ s, Le (Bd nE p1 p2 s) (A3 p1 p2 s) := by
  rintro ⟨x1, x2⟩
  unfold Bd A3
  repeat' with_reducible (first | refine Le.orR' ?_ ?_ | refine Le.bind' ?_ ?_ | refine Le.ite' ?_ ?_ | refine Le.loop' ?_ | refine Le.altS' ?_ ?_ | apply CL | exact Le.rfl' _ | (refine Le.pi2 ?_; intro _) | intro _)
def Bl (nE : Nat) (p0 : List (Int × Int × Int)) (p1 : Int) (p2 : Int) : Option (List (Int × Int × Int)) := C0 nE (Bd nE p1 p2) (p0, BJ (p1 + 1))
theorem CX (nE : Nat) (p0 : List (Int × Int × Int)) (p1 : Int) (p2 : Int) : Le (Bl nE p0 p1 p2) (AV p0 p1 p2) := by
  unfold Bl AV
  repeat' with_reducible (first | refine Le.orR' ?_ ?_ | refine Le.bind' ?_ ?_ | refine Le.ite' ?_ ?_ | refine Le.loop' ?_ | refine Le.altS' ?_ ?_ | apply CK | exact Le.rfl' _ | (refine Le.pi2 ?_; intro _) | intro _)
def BB (nE : Nat) (p0 : List (Int × Int × Int)) (p1 : Int) (p2 : Int) : Unit → Option (Unit ⊕ (List (Int × Int × Int)))
  | _ => (if (BJ (p2 - p1)) ≤ 12 then (Bl nE p0 p1 p2).bind fun x1 => some (.inr x1) else none)
theorem Dg (nE : Nat) (p0 : List (Int × Int × Int)) (p1 : Int) (p2 : Int) : ∀ s, Le (BB nE p0 p1 p2 s) (Bc p0 p1 p2 s) := by
  intro s
  unfold BB Bc
  repeat' with_reducible (first | refine Le.orR' ?_ ?_ | refine Le.bind' ?_ ?_ | refine Le.ite' ?_ ?_ | refine Le.loop' ?_ | refine Le.altS' ?_ ?_ | apply CX | exact Le.rfl' _ | (refine Le.pi2 ?_; intro _) | intro _)
def BM (nE : Nat) (p0 : List (Int × Int × Int)) (p1 : Int) (p2 : Int) (p3 : Int) : Option (List (Int × Int × Int)) := C0 nE (BB nE p0 p1 p2) ()
theorem DH (nE : Nat) (p0 : List (Int × Int × Int)) (p1 : Int) (p2 : Int) (p3 : Int) : Le (BM nE p0 p1 p2 p3) (A9 p0 p1 p2 p3) := by
  unfold BM A9
  repeat' with_reducible (first | refine Le.orR' ?_ ?_ | refine Le.bind' ?_ ?_ | refine Le.ite' ?_ ?_ | refine Le.loop' ?_ | refine Le.altS' ?_ ?_ | apply Dg | exact Le.rfl' _ | (refine Le.pi2 ?_; intro _) | intro _)
def Bw (nE : Nat) (p0 : List (Int × Int × Int)) : Option (List (Int × Int × Int)) := (DD nE (IntKind.u64.wrap (p0.length : Int))).bind fun x1 => (BM nE p0 0 (p0.length : Int) x1).bind fun x2 => some x2
theorem C3 (nE : Nat) (p0 : List (Int × Int × Int)) : Le (Bw nE p0) (AZ p0) := by
  unfold Bw AZ
  repeat' with_reducible (first | refine Le.orR' ?_ ?_ | refine Le.bind' ?_ ?_ | refine Le.ite' ?_ ?_ | refine Le.loop' ?_ | refine Le.altS' ?_ ?_ | apply FL | apply DH | exact Le.rfl' _ | (refine Le.pi2 ?_; intro _) | intro _)
def Fc (nE : Nat) (p0 : Int × (List (Int × Int × Int × Int × Int × Int)) × (List (Int × Int))) (p1 : Int) : ((List (Int × Int × Int)) × Int) → Option (((List (Int × Int × Int)) × Int) ⊕ (List (Int × Int × Int)))
  | (x2, x3) => (if x3 < (p0.2.1.length : Int) then ((ix p0.2.1 x3).bind fun x5 => (if p1 = x5.1 then (HA x2 ([(x5.2.1, x5.2.2.1, x3)] : List (Int × Int × Int))).bind fun x6 => some x6 else (if p1 = x5.2.2.1 then (HA x2 ([(x5.2.2.2.1, x5.1, x3)] : List (Int × Int × Int))).bind fun x7 => some x7 else some x2))).bind fun x4 => some (.inl (x4, BJ (x3 + 1))) else some (.inr x2))
theorem Iw (nE : Nat) (p0 : Int × (List (Int × Int × Int × Int × Int × Int)) × (List (Int × Int))) (p1 : Int) : ∀ s, Le (Fc nE p0 p1 s) (EU p0 p1 s) := by
  rintro ⟨x2, x3⟩
  unfold Fc EU
  repeat' with_reducible (first | refine Le.orR' ?_ ?_ | refine Le.bind' ?_ ?_ | refine Le.ite' ?_ ?_ | refine Le.loop' ?_ | refine Le.altS' ?_ ?_ | exact Le.rfl' _ | (refine Le.pi2 ?_; intro _) | intro _)
def EE (nE : Nat) (p0 : Int × (List (Int × Int × Int × Int × Int × Int)) × (List (Int × Int))) (p1 : Int) : Option (List (Int × Int × Int)) := (C0 nE (Fc nE p0 p1) ([], 0)).bind fun x1 => (Bw nE x1).bind fun x8 => some x8
theorem FP (nE : Nat) (p0 : Int × (List (Int × Int × Int × Int × Int × Int)) × (List (Int × Int))) (p1 : Int) : Le (EE nE p0 p1) (Ds p0 p1) := by
  unfold EE Ds
  repeat' with_reducible (first | refine Le.orR' ?_ ?_ | refine Le.bind' ?_ ?_ | refine Le.ite' ?_ ?_ | refine Le.loop' ?_ | refine Le.altS' ?_ ?_ | apply C3 | apply Iw | exact Le.rfl' _ | (refine Le.pi2 ?_; intro _) | intro _)
def FW (nE : Nat) (p0 : List Nat) (p1 : Int) : Option Bool := (if (B1 p0 p1) = true then (ix p0 p1).bind fun x2 => (E5 nE 1).bind fun x3 => some (Mv x2 x3) else some false).bind fun x1 => some x1
theorem H6 (nE : Nat) (p0 : List Nat) (p1 : Int) : Le (FW nE p0 p1) (Db p0 p1) := by
  unfold FW Db
  repeat' with_reducible (first | refine Le.orR' ?_ ?_ | refine Le.bind' ?_ ?_ | refine Le.ite' ?_ ?_ | refine Le.loop' ?_ | refine Le.altS' ?_ ?_ | apply Gp | exact Le.rfl' _ | (refine Le.pi2 ?_; intro _) | intro _)
def Er (nE : Nat) (p2 : Int) (x4 : List Nat) : (List Int × Int) → Option ((List Int × Int) ⊕ (List Int))
  | (x7, x8) => (if x8 < ((Az x4 p2 0).length : Int) then (HA x7 ([x8] : List Int)).bind fun x9 => some (.inl (x9, BJ (x8 + 1))) else some (.inr x7))
theorem Hz (nE : Nat) (p2 : Int) (x4 : List Nat) : ∀ s, Le (Er nE p2 x4 s) (B3 p2 x4 s) := by
  rintro ⟨x7, x8⟩
  unfold Er B3
  repeat' with_reducible (first | refine Le.orR' ?_ ?_ | refine Le.bind' ?_ ?_ | refine Le.ite' ?_ ?_ | refine Le.loop' ?_ | refine Le.altS' ?_ ?_ | exact Le.rfl' _ | (refine Le.pi2 ?_; intro _) | intro _)
def Ei (nE : Nat) (p1 : List Nat) (x13 : List Int) (x14 : Int) (x16 : (List (Int × Int × Int))) : (Int × List Nat) → Option ((Int × List Nat) ⊕ ((List Int × List Nat) ⊕ (List Nat)))
  | (x17, x18) => (if x17 < (x16.length : Int) then ((ix x16 x17).bind fun x20 => (FW nE p1 x20.2.2).bind fun x21 => (if x21 = true then (ix x18 x20.2.1).bind fun x22 => (ix p1 x20.2.2).bind fun x23 => (ix x18 x14).bind fun x24 => (I0 x22 (AX x23 x24)).bind fun x25 => (ix x18 x20.2.1).bind fun x26 => some (Az x18 x20.2.1 x25) else some x18)).bind fun x19 => some (.inl (BJ (x17 + 1), x19)) else (EX x13 1 (x13.length : Int)).bind fun x27 => some (.inr (.inl (x27, x18))))
theorem HF (nE : Nat) (p1 : List Nat) (x13 : List Int) (x14 : Int) (x16 : (List (Int × Int × Int))) : ∀ s, Le (Ei nE p1 x13 x14 x16 s) (BF p1 x13 x14 x16 s) := by
  rintro ⟨x17, x18⟩
  unfold Ei BF
  repeat' with_reducible (first | refine Le.orR' ?_ ?_ | refine Le.bind' ?_ ?_ | refine Le.ite' ?_ ?_ | refine Le.loop' ?_ | refine Le.altS' ?_ ?_ | apply H6 | exact Le.rfl' _ | (refine Le.pi2 ?_; intro _) | intro _)
def Es (nE : Nat) (p0 : Int × (List (Int × Int × Int × Int × Int × Int)) × (List (Int × Int))) (p1 : List Nat) : (List Int × List Nat) → Option ((List Int × List Nat) ⊕ (List Nat))
  | (x11, x12) => (if 0 < (x11.length : Int) then (Cp nE x11 x12).bind fun x13 => (ix x13 0).bind fun x14 => (EX x13 1 (x13.length : Int)).bind fun x15 => (EE nE p0 x14).bind fun x16 => C0 nE (Ei nE p1 x13 x14 x16) (0, x12) else some (.inr x12))
theorem HJ (nE : Nat) (p0 : Int × (List (Int × Int × Int × Int × Int × Int)) × (List (Int × Int))) (p1 : List Nat) : ∀ s, Le (Es nE p0 p1 s) (B5 p0 p1 s) := by
  rintro ⟨x11, x12⟩
  unfold Es B5
  repeat' with_reducible (first | refine Le.orR' ?_ ?_ | refine Le.bind' ?_ ?_ | refine Le.ite' ?_ ?_ | refine Le.loop' ?_ | refine Le.altS' ?_ ?_ | apply E3 | apply FP | apply HF | exact Le.rfl' _ | (refine Le.pi2 ?_; intro _) | intro _)
def Ev (nE : Nat) (p0 : Int × (List (Int × Int × Int × Int × Int × Int)) × (List (Int × Int))) (p1 : List Nat) (p2 : Int) : Option (List Nat) := ((Dw nE p0 p1).bind fun x2 => (if (!x2) = true then some true else (if p2 < 0 then some true else some (decide (p0.1 ≤ p2))))).bind fun x1 => (if x1 = true then some ([] : List Nat) else (E5 nE 1).bind fun x3 => (BT nE ([x3] : List Nat) p0.1).bind fun x4 => (ix x4 p2).bind fun x5 => (C0 nE (Er nE p2 x4) ([], 0)).bind fun x6 => (C0 nE (Es nE p0 p1) (x6, (Az x4 p2 0))).bind fun x10 => (Qs x10).bind fun x28 => some x10)
theorem Gf (nE : Nat) (p0 : Int × (List (Int × Int × Int × Int × Int × Int)) × (List (Int × Int))) (p1 : List Nat) (p2 : Int) : Le (Ev nE p0 p1 p2) (B4 p0 p1 p2) := by
  unfold Ev B4
  repeat' with_reducible (first | refine Le.orR' ?_ ?_ | refine Le.bind' ?_ ?_ | refine Le.ite' ?_ ?_ | refine Le.loop' ?_ | refine Le.altS' ?_ ?_ | apply E6 | apply Gp | apply D7 | apply Hz | apply HJ | exact Le.rfl' _ | (refine Le.pi2 ?_; intro _) | intro _)
def Cl (nE : Nat)  : (List Int × Int) → Option ((List Int × Int) ⊕ (List Int))
  | (x3, x4) => (if x4 < (x3.length : Int) then (EX x3 x4 (x3.length : Int)).bind fun x5 => (EX x3 0 x4).bind fun x6 => some (.inl (Ji x3 x4 (min x6.length x5.length) x6, BJ (x4 + ((min x6.length x5.length : Nat) : Int)))) else some (.inr x3))
theorem ES (nE : Nat)  : ∀ s, Le (Cl nE  s) (B2  s) := by
  rintro ⟨x3, x4⟩
  unfold Cl B2
  repeat' with_reducible (first | refine Le.orR' ?_ ?_ | refine Le.bind' ?_ ?_ | refine Le.ite' ?_ ?_ | refine Le.loop' ?_ | refine Le.altS' ?_ ?_ | exact Le.rfl' _ | (refine Le.pi2 ?_; intro _) | intro _)
def CE (nE : Nat) (p0 : List Int) (p1 : Int) : Option (List Int) := (if p1 < 0 then none else (if (decide (0 < ((Aq (IntKind.u64.wrap (p0.length : Int)) (IntKind.u64.wrap p1)).1)) || decide (9223372036854775807 < ((Aq (IntKind.u64.wrap (p0.length : Int)) (IntKind.u64.wrap p1)).2))) = true then none else (mk (BJ ((Aq (IntKind.u64.wrap (p0.length : Int)) (IntKind.u64.wrap p1)).2)) (0 : Int)).bind fun x1 => (C0 nE (Cl nE) (Ji x1 0 (min p0.length x1.length) p0, ((min p0.length x1.length : Nat) : Int))).bind fun x2 => some x2))
theorem FA (nE : Nat) (p0 : List Int) (p1 : Int) : Le (CE nE p0 p1) (BU p0 p1) := by
  unfold CE BU
  repeat' with_reducible (first | refine Le.orR' ?_ ?_ | refine Le.bind' ?_ ?_ | refine Le.ite' ?_ ?_ | refine Le.loop' ?_ | refine Le.altS' ?_ ?_ | apply ES | exact Le.rfl' _ | (refine Le.pi2 ?_; intro _) | intro _)
def DT (nE : Nat) (p0 : List Nat) (p1 : List Nat) (p2 : Int) (p3 : Int) (p4 : Int) : Option Bool := ((FW nE p0 p3).bind fun x2 => (if x2 = true then (ix p1 p2).bind fun x3 => (E5 nE 1).bind fun x4 => (if (Mv x3 x4) = true then (ix p0 p3).bind fun x5 => (ix p1 p4).bind fun x6 => (ix p1 p2).bind fun x7 => some (KR (AX x5 x6) x7) else some false) else some false)).bind fun x1 => some x1
theorem F7 (nE : Nat) (p0 : List Nat) (p1 : List Nat) (p2 : Int) (p3 : Int) (p4 : Int) : Le (DT nE p0 p1 p2 p3 p4) (Cq p0 p1 p2 p3 p4) := by
  unfold DT Cq
  repeat' with_reducible (first | refine Le.orR' ?_ ?_ | refine Le.bind' ?_ ?_ | refine Le.ite' ?_ ?_ | refine Le.loop' ?_ | refine Le.altS' ?_ ?_ | apply Gp | apply H6 | exact Le.rfl' _ | (refine Le.pi2 ?_; intro _) | intro _)
def Em (nE : Nat) (p1 : List Nat) (x1 : List Nat) (x7 : Int) (x9 : (List (Int × Int × Int))) : (List Int × List Int × Int) → Option ((List Int × List Int × Int) ⊕ ((List Int × List Int) ⊕ (List Int)))
  | (x10, x11, x12) => (if x12 < (x9.length : Int) then ((ix x9 x12).bind fun x15 => ((ix x10 x15.2.1).bind fun x17 => (if x17 < 0 then (DT nE p1 x1 x15.2.1 x15.2.2 x7).bind fun x18 => some x18 else some false)).bind fun x16 => (if x16 = true then (ix x10 x7).bind fun x19 => (ix x10 x15.2.1).bind fun x20 => (HA x11 ([x15.2.1] : List Int)).bind fun x21 => some ((Az x10 x15.2.1 (BJ (x19 + 1))), x21) else some (x10, x11))).bind fun (x13, x14) => some (.inl (x13, x14, BJ (x12 + 1))) else some (.inr (.inl (x10, x11))))
theorem Hk (nE : Nat) (p1 : List Nat) (x1 : List Nat) (x7 : Int) (x9 : (List (Int × Int × Int))) : ∀ s, Le (Em nE p1 x1 x7 x9 s) (BG p1 x1 x7 x9 s) := by
  rintro ⟨x10, x11, x12⟩
  unfold Em BG
  repeat' with_reducible (first | refine Le.orR' ?_ ?_ | refine Le.bind' ?_ ?_ | refine Le.ite' ?_ ?_ | refine Le.loop' ?_ | refine Le.altS' ?_ ?_ | apply F7 | exact Le.rfl' _ | (refine Le.pi2 ?_; intro _) | intro _)
def Eh (nE : Nat) (p0 : Int × (List (Int × Int × Int × Int × Int × Int)) × (List (Int × Int))) (p1 : List Nat) (x1 : List Nat) : (List Int × List Int) → Option ((List Int × List Int) ⊕ (List Int))
  | (x5, x6) => (if 0 < (x6.length : Int) then (ix x6 0).bind fun x7 => (EX x6 1 (x6.length : Int)).bind fun x8 => (EE nE p0 x7).bind fun x9 => C0 nE (Em nE p1 x1 x7 x9) (x5, x8, 0) else some (.inr x5))
theorem Hj (nE : Nat) (p0 : Int × (List (Int × Int × Int × Int × Int × Int)) × (List (Int × Int))) (p1 : List Nat) (x1 : List Nat) : ∀ s, Le (Eh nE p0 p1 x1 s) (BQ p0 p1 x1 s) := by
  rintro ⟨x5, x6⟩
  unfold Eh BQ
  repeat' with_reducible (first | refine Le.orR' ?_ ?_ | refine Le.bind' ?_ ?_ | refine Le.ite' ?_ ?_ | refine Le.loop' ?_ | refine Le.altS' ?_ ?_ | apply FP | apply Hk | exact Le.rfl' _ | (refine Le.pi2 ?_; intro _) | intro _)
def Fs (nE : Nat) (p0 : Int × (List (Int × Int × Int × Int × Int × Int)) × (List (Int × Int))) (p1 : List Nat) (p2 : Int) : Option (List Int) := (Ev nE p0 p1 p2).bind fun x1 => (if x1.length = 0 then some ([] : List Int) else (CE nE ([(-1)] : List Int) p0.1).bind fun x2 => (ix x2 p2).bind fun x3 => (C0 nE (Eh nE p0 p1 x1) ((Az x2 p2 0), ([p2] : List Int))).bind fun x4 => some x4)
theorem IR (nE : Nat) (p0 : Int × (List (Int × Int × Int × Int × Int × Int)) × (List (Int × Int))) (p1 : List Nat) (p2 : Int) : Le (Fs nE p0 p1 p2) (CM p0 p1 p2) := by
  unfold Fs CM
  repeat' with_reducible (first | refine Le.orR' ?_ ?_ | refine Le.bind' ?_ ?_ | refine Le.ite' ?_ ?_ | refine Le.loop' ?_ | refine Le.altS' ?_ ?_ | apply Gf | apply FA | apply Hj | exact Le.rfl' _ | (refine Le.pi2 ?_; intro _) | intro _)
def EJ (nE : Nat) (p1 : List Nat) (x3 : List Nat) (x4 : List Int) (x7 : Int) (x12 : (List (Int × Int × Int))) : (Int × Int) → Option ((Int × Int) ⊕ Int)
  | (x13, x14) => (if x14 < (x12.length : Int) then ((ix x12 x14).bind fun x16 => (if x13 < 0 then (ix x4 x16.2.1).bind fun x18 => (ix x4 x7).bind fun x19 => (if x18 = (BJ (x19 - 1)) then (DT nE p1 x3 x7 x16.2.2 x16.2.1).bind fun x20 => some x20 else some false) else some false).bind fun x17 => (if x17 = true then some x16.1 else some x13)).bind fun x15 => some (.inl (x15, BJ (x14 + 1))) else some (.inr x13))
theorem HW (nE : Nat) (p1 : List Nat) (x3 : List Nat) (x4 : List Int) (x7 : Int) (x12 : (List (Int × Int × Int))) : ∀ s, Le (EJ nE p1 x3 x4 x7 x12 s) (BP p1 x3 x4 x7 x12 s) := by
  rintro ⟨x13, x14⟩
  unfold EJ BP
  repeat' with_reducible (first | refine Le.orR' ?_ ?_ | refine Le.bind' ?_ ?_ | refine Le.ite' ?_ ?_ | refine Le.loop' ?_ | refine Le.altS' ?_ ?_ | apply F7 | exact Le.rfl' _ | (refine Le.pi2 ?_; intro _) | intro _)
def EM (nE : Nat) (p0 : Int × (List (Int × Int × Int × Int × Int × Int)) × (List (Int × Int))) (p1 : List Nat) (p2 : Int) (x2 : Int × Int) (x3 : List Nat) (x4 : List Int) : (List Int × Int) → Option ((List Int × Int) ⊕ (List Int))
  | (x6, x7) => (if x7 < p0.1 then ((if x7 = x2.1 then (ix p0.2.2 p2).bind fun x10 => some x10.2 else some (-1)).bind fun x9 => ((EE nE p0 x7).bind fun x12 => C0 nE (EJ nE p1 x3 x4 x7 x12) (x9, 0)).bind fun x11 => (HA x6 ([x11] : List Int)).bind fun x21 => some x21).bind fun x8 => some (.inl (x8, BJ (x7 + 1))) else some (.inr x6))
theorem HM (nE : Nat) (p0 : Int × (List (Int × Int × Int × Int × Int × Int)) × (List (Int × Int))) (p1 : List Nat) (p2 : Int) (x2 : Int × Int) (x3 : List Nat) (x4 : List Int) : ∀ s, Le (EM nE p0 p1 p2 x2 x3 x4 s) (Cf p0 p1 p2 x2 x3 x4 s) := by
  rintro ⟨x6, x7⟩
  unfold EM Cf
  repeat' with_reducible (first | refine Le.orR' ?_ ?_ | refine Le.bind' ?_ ?_ | refine Le.ite' ?_ ?_ | refine Le.loop' ?_ | refine Le.altS' ?_ ?_ | apply FP | apply HW | exact Le.rfl' _ | (refine Le.pi2 ?_; intro _) | intro _)
def FU (nE : Nat) (p0 : Int × (List (Int × Int × Int × Int × Int × Int)) × (List (Int × Int))) (p1 : List Nat) (p2 : Int) : Option (List Int × Int) := (Dw nE p0 p1).bind fun x1 => (if (!x1) = true then some (([] : List Int), 2) else (if (decide (p2 < 0) || decide ((p0.2.2.length : Int) ≤ p2)) = true then some (([] : List Int), 7) else (ix p0.2.2 p2).bind fun x2 => (Ev nE p0 p1 x2.1).bind fun x3 => (Fs nE p0 p1 x2.1).bind fun x4 => (C0 nE (EM nE p0 p1 p2 x2 x3 x4) ([], 0)).bind fun x5 => some (x5, 0)))
theorem Jm (nE : Nat) (p0 : Int × (List (Int × Int × Int × Int × Int × Int)) × (List (Int × Int))) (p1 : List Nat) (p2 : Int) : Le (FU nE p0 p1 p2) (C8 p0 p1 p2) := by
  unfold FU C8
  repeat' with_reducible (first | refine Le.orR' ?_ ?_ | refine Le.bind' ?_ ?_ | refine Le.ite' ?_ ?_ | refine Le.loop' ?_ | refine Le.altS' ?_ ?_ | apply E6 | apply Gf | apply IR | apply HM | exact Le.rfl' _ | (refine Le.pi2 ?_; intro _) | intro _)
def Ea (nE : Nat) (x7 : List Int × Int) : ((List (Nat × List Int)) × Int) → Option (((List (Nat × List Int)) × Int) ⊕ ((List (Nat × List Int)) ⊕ (((List (Nat × List Int)) × Int) ⊕ ((List (Nat × List Int)) ⊕ ((List (Nat × List Int)) × Int)))))
  | (x8, x9) => (if x9 < (x7.1.length : Int) then (ix x7.1 x9).bind fun x10 => (if x10 < 0 then some (.inr (.inr (.inr (.inr (([] : List (Nat × List Int)), 7))))) else (ix x8 x9).bind fun x11 => (OX x11.1).bind fun x12 => (HA x11.2 ([x10] : List Int)).bind fun x13 => (ix (Az x8 x9 (0, [])) x9).bind fun x14 => (ix (Az x8 x9 (0, [])) x9).bind fun x15 => some (.inl ((Az (Az x8 x9 (0, [])) x9 (2, x13)), BJ (x9 + 1)))) else some (.inr (.inl x8)))
theorem GX (nE : Nat) (x7 : List Int × Int) : ∀ s, Le (Ea nE x7 s) (DC x7 s) := by
  rintro ⟨x8, x9⟩
  unfold Ea DC
  repeat' with_reducible (first | refine Le.orR' ?_ ?_ | refine Le.bind' ?_ ?_ | refine Le.ite' ?_ ?_ | refine Le.loop' ?_ | refine Le.altS' ?_ ?_ | exact Le.rfl' _ | (refine Le.pi2 ?_; intro _) | intro _)
def D2 (nE : Nat) (p0 : Int × (List (Int × Int × Int × Int × Int × Int)) × (List (Int × Int))) (p1 : List Nat) : ((List (Nat × List Int)) × Int) → Option (((List (Nat × List Int)) × Int) ⊕ ((List (Nat × List Int)) ⊕ ((List (Nat × List Int)) × Int)))
  | (x4, x5) => (if x5 < (p0.2.2.length : Int) then Jj ((FU nE p0 p1 x5).bind fun x7 => C0 nE (Ea nE x7) (x4, 0)) fun x6 => some (.inl (x6, BJ (x5 + 1))) else some (.inr (.inl x4)))
theorem GV (nE : Nat) (p0 : Int × (List (Int × Int × Int × Int × Int × Int)) × (List (Int × Int))) (p1 : List Nat) : ∀ s, Le (D2 nE p0 p1 s) (DF p0 p1 s) := by
  rintro ⟨x4, x5⟩
  unfold D2 DF
  repeat' with_reducible (first | refine Le.orR' ?_ ?_ | refine Le.bind' ?_ ?_ | refine Le.ite' ?_ ?_ | refine Le.loop' ?_ | refine Le.altS' ?_ ?_ | apply Jm | apply GX | exact Le.rfl' _ | (refine Le.pi2 ?_; intro _) | intro _)
def E8 (nE : Nat) (p0 : Int × (List (Int × Int × Int × Int × Int × Int)) × (List (Int × Int))) (p1 : List Nat) : Option ((List (Nat × List Int)) × Int) := (Dw nE p0 p1).bind fun x1 => (if (!x1) = true then some (([] : List (Nat × List Int)), 2) else (mk p0.1 ((2, []) : Nat × List Int)).bind fun x2 => Jj (C0 nE (D2 nE p0 p1) (x2, 0)) fun x3 => some (x3, 0))
theorem Ir (nE : Nat) (p0 : Int × (List (Int × Int × Int × Int × Int × Int)) × (List (Int × Int))) (p1 : List Nat) : Le (E8 nE p0 p1) (D4 p0 p1) := by
  unfold E8 D4
  repeat' with_reducible (first | refine Le.orR' ?_ ?_ | refine Le.bind' ?_ ?_ | refine Le.ite' ?_ ?_ | refine Le.loop' ?_ | refine Le.altS' ?_ ?_ | apply E6 | apply GV | exact Le.rfl' _ | (refine Le.pi2 ?_; intro _) | intro _)
def Ic (nE : Nat)  : Option Bool := (E8 nE (3, ([(0, 0, 1, 0, 1, 1), (0, 1, 2, 0, 1, 1), (2, 1, 1, 1, 1, 1)] : List (Int × Int × Int × Int × Int × Int)), ([(1, 5)] : List (Int × Int))) ([4613937818241073152, 4607182418800017408, 4607182418800017408] : List Nat)).bind fun x1 => (if x1.2 = 0 then (if (x1.1.length : Int) = 3 then (ix x1.1 0).bind fun x3 => (ix x3.2 0).bind fun x4 => (KV x3.1).bind fun x5 => (if x4 = 1 then (ix x1.1 1).bind fun x6 => (ix x6.2 0).bind fun x7 => (KV x6.1).bind fun x8 => (if x7 = 5 then (ix x1.1 2).bind fun x9 => (ix x9.2 0).bind fun x10 => (KV x9.1).bind fun x11 => some (decide (x10 = 1)) else some false) else some false) else some false) else some false).bind fun x2 => some x2
theorem Kg (nE : Nat)  : Le (Ic nE ) (DP ) := by
  unfold Ic DP
  repeat' with_reducible (first | refine Le.orR' ?_ ?_ | refine Le.bind' ?_ ?_ | refine Le.ite' ?_ ?_ | refine Le.loop' ?_ | refine Le.altS' ?_ ?_ | apply Ir | exact Le.rfl' _ | (refine Le.pi2 ?_; intro _) | intro _)
theorem Fm : DP = some true := Kg 60 _ (by kernel_rfl)
end Go.Proofs.Ytbogijdfacoccaa
