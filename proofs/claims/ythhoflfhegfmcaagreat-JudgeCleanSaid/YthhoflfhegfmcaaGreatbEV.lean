/- Twins with fuel of JD functions: what a twin answers, the function answers. Conditions: none. -/
import Derived.Test.YthhoflfhegfmcaaGreatbLP
import Derived.Test.YthhoflfhegfmcaaGreatbA7
namespace Go.Proofs.YthhoflfhegfmcaaGreat
open Go Go.RowKit
set_option linter.unusedVariables false
set_option linter.unusedSimpArgs false
set_option maxRecDepth 20000
set_option maxHeartbeats 1600000
abbrev Le {α : Type} (a b : Option α) : Prop := ∀ r, a = some r → b = some r
theorem Le.rfl' {α : Type} (a : Option α) : Le a a := fun _ h => h
theorem Le.bind' {α β : Type} {a b : Option α} {f g : α → Option β} (h : Le a b) (hf : ∀ x, Le (f x) (g x)) : Le (a.bind f) (b.bind g) := fun r e => by
  obtain ⟨x, h1, h2⟩ := Ac e
  rw [h x h1, Option.bind_some]; exact hf x r h2
theorem Le.ite' {α : Type} {c : Prop} [Decidable c] {a a' b b' : Option α} (h1 : Le a a') (h2 : Le b b') : Le (if c then a else b) (if c then a' else b') := fun r e => by
  by_cases h : c
  · rw [if_pos h] at e ⊢; exact h1 r e
  · rw [if_neg h] at e ⊢; exact h2 r e
theorem Le.orR' {α β : Type} {a b : Option (α ⊕ β)} {f g : α → Option β} (h : Le a b) (hf : ∀ x, Le (f x) (g x)) : Le (GN a f) (GN b g) :=
  Le.bind' h fun x => by
    cases x with
    | inl t => exact hf t
    | inr e => exact Le.rfl' _
def DO {σ ε : Type} (n : Nat) (step : σ → Option (σ ⊕ ε)) (s : σ) : Option ε := Ib step n s
theorem Oj {σ ε : Type} {S T : σ → Option (σ ⊕ ε)} (h : ∀ s, Le (S s) (T s)) : ∀ (n : Nat) (s : σ), Le (Ib S n s) (Ib T n s)
  | 0, s => Le.rfl' _
  | n + 1, s => fun r e => by
    unfold Ib at e ⊢
    cases hs : S s with
    | none => rw [hs] at e; cases e
    | some q =>
      rw [hs] at e; rw [h s q hs]
      cases q with
      | inl s' => exact Oj h n s' r e
      | inr _ => exact e
theorem Le.loop' {σ ε : Type} {n : Nat} {S T : σ → Option (σ ⊕ ε)} {s : σ} (h : ∀ s, Le (S s) (T s)) : Le (DO n S s) (Ap T s) := fun r e => HM.2 ⟨n, Oj h n s r e⟩
theorem Le.pi2 {α β γ : Type} {f g : α × β → Option γ} (h : ∀ a b, Le (f (a, b)) (g (a, b))) : ∀ x, Le (f x) (g x) := fun x => h x.1 x.2
theorem Le.altS' {α β γ : Type} {y : α ⊕ β} {f f' : α → Option γ} {g g' : β → Option γ} (h : ∀ x, Le (f x) (f' x)) (k : ∀ x, Le (g x) (g' x)) : Le (Xs y f g) (Xs y f' g') := by
  cases y with
  | inl x => exact h x
  | inr x => exact k x
def HR (nE : Nat) (p0 : Int × (List (Int × Int × Int × Int × Int × Int)) × (List (Int × Int))) : ((List (Int × Int)) × Int) → Option (((List (Int × Int)) × Int) ⊕ (List (Int × Int)))
  | (x2, x3) => (if x3 < (p0.2.1.length : Int) then (ix p0.2.1 x3).bind fun x4 => (H4 x2 ([(x4.1, x4.2.1), (x4.2.2.1, x4.2.2.2.1)] : List (Int × Int))).bind fun x5 => some (.inl (x5, An (x3 + 1))) else some (.inr x2))
theorem Mp (nE : Nat) (p0 : Int × (List (Int × Int × Int × Int × Int × Int)) × (List (Int × Int))) : ∀ s, Le (HR nE p0 s) (Ef p0 s) := by
  rintro ⟨x2, x3⟩
  unfold HR Ef
  repeat' with_reducible (first | refine Le.orR' ?_ ?_ | refine Le.bind' ?_ ?_ | refine Le.ite' ?_ ?_ | refine Le.loop' ?_ | refine Le.altS' ?_ ?_ | exact Le.rfl' _ | (refine Le.pi2 ?_; intro _) | intro _)
def HO (nE : Nat) (p0 : Int × (List (Int × Int × Int × Int × Int × Int)) × (List (Int × Int))) : ((List (Int × Int)) × Int) → Option (((List (Int × Int)) × Int) ⊕ (List (Int × Int)))
  | (x7, x8) => (if x8 < (p0.2.2.length : Int) then (ix p0.2.2 x8).bind fun x9 => (H4 x7 ([x9] : List (Int × Int))).bind fun x10 => some (.inl (x10, An (x8 + 1))) else some (.inr x7))
theorem Mo (nE : Nat) (p0 : Int × (List (Int × Int × Int × Int × Int × Int)) × (List (Int × Int))) : ∀ s, Le (HO nE p0 s) (Ee p0 s) := by
  rintro ⟨x7, x8⟩
  unfold HO Ee
  repeat' with_reducible (first | refine Le.orR' ?_ ?_ | refine Le.bind' ?_ ?_ | refine Le.ite' ?_ ?_ | refine Le.loop' ?_ | refine Le.altS' ?_ ?_ | exact Le.rfl' _ | (refine Le.pi2 ?_; intro _) | intro _)
def JF (nE : Nat) (p0 : Int × (List (Int × Int × Int × Int × Int × Int)) × (List (Int × Int))) : Option (List (Int × Int)) := (DO nE (HR nE p0) ([], 0)).bind fun x1 => (DO nE (HO nE p0) (x1, 0)).bind fun x6 => some x6
theorem Od (nE : Nat) (p0 : Int × (List (Int × Int × Int × Int × Int × Int)) × (List (Int × Int))) : Le (JF nE p0) (Gq p0) := by
  unfold JF Gq
  repeat' with_reducible (first | refine Le.orR' ?_ ?_ | refine Le.bind' ?_ ?_ | refine Le.ite' ?_ ?_ | refine Le.loop' ?_ | refine Le.altS' ?_ ?_ | apply Mp | apply Mo | exact Le.rfl' _ | (refine Le.pi2 ?_; intro _) | intro _)
def Dl (nE : Nat) (p0 : List (Int × Int × Int × Int × Int × Int)) : Int → Option (Int ⊕ (Unit ⊕ Int))
  | x1 => (if x1 < (p0.length : Int) then (ix p0 x1).bind fun x2 => (if (Cz x2) = true then some (.inr (.inr x1)) else some (.inl (An (x1 + 1)))) else some (.inr (.inl ())))
theorem F7 (nE : Nat) (p0 : List (Int × Int × Int × Int × Int × Int)) : ∀ s, Le (Dl nE p0 s) (AP p0 s) := by
  intro x1
  unfold Dl AP
  repeat' with_reducible (first | refine Le.orR' ?_ ?_ | refine Le.bind' ?_ ?_ | refine Le.ite' ?_ ?_ | refine Le.loop' ?_ | refine Le.altS' ?_ ?_ | exact Le.rfl' _ | (refine Le.pi2 ?_; intro _) | intro _)
def Dw (nE : Nat) (p0 : List (Int × Int × Int × Int × Int × Int)) : Option Int := GN (DO nE (Dl nE p0) 0) fun _ => some (-1)
theorem GC (nE : Nat) (p0 : List (Int × Int × Int × Int × Int × Int)) : Le (Dw nE p0) (BT p0) := by
  unfold Dw BT
  repeat' with_reducible (first | refine Le.orR' ?_ ?_ | refine Le.bind' ?_ ?_ | refine Le.ite' ?_ ?_ | refine Le.loop' ?_ | refine Le.altS' ?_ ?_ | apply F7 | exact Le.rfl' _ | (refine Le.pi2 ?_; intro _) | intro _)
def Dk (nE : Nat) (p0 : List (Int × Int × Int × Int × Int × Int)) : Option Bool := (Dw nE p0).bind fun x1 => some (decide (0 ≤ x1))
theorem Gb (nE : Nat) (p0 : List (Int × Int × Int × Int × Int × Int)) : Le (Dk nE p0) (Bm p0) := by
  unfold Dk Bm
  repeat' with_reducible (first | refine Le.orR' ?_ ?_ | refine Le.bind' ?_ ?_ | refine Le.ite' ?_ ?_ | refine Le.loop' ?_ | refine Le.altS' ?_ ?_ | apply GC | exact Le.rfl' _ | (refine Le.pi2 ?_; intro _) | intro _)
def Ip (nE : Nat) (p0 : Int × (List (Int × Int × Int × Int × Int × Int)) × (List (Int × Int))) (x2 : (List (Int × Int))) : (Int × (List ((Int × Int) × Unit))) → Option ((Int × (List ((Int × Int) × Unit))) ⊕ ((List ((Int × Int) × Unit)) ⊕ Bool))
  | (x3, x4) => (if x3 < (x2.length : Int) then (ix x2 x3).bind fun x5 => (if (decide (x5.1 < 0) || (decide (p0.1 ≤ x5.1) || (decide (x5.2 < 0) || decide (8 ≤ x5.2)))) = true then some (.inr (.inr false)) else (if ((MP x4 x5).isSome) = true then some (.inr (.inr false)) else some (.inl (An (x3 + 1), MJ x4 x5 ())))) else some (.inr (.inl x4)))
theorem ME (nE : Nat) (p0 : Int × (List (Int × Int × Int × Int × Int × Int)) × (List (Int × Int))) (x2 : (List (Int × Int))) : ∀ s, Le (Ip nE p0 x2 s) (Dz p0 x2 s) := by
  rintro ⟨x3, x4⟩
  unfold Ip Dz
  repeat' with_reducible (first | refine Le.orR' ?_ ?_ | refine Le.bind' ?_ ?_ | refine Le.ite' ?_ ?_ | refine Le.loop' ?_ | refine Le.altS' ?_ ?_ | exact Le.rfl' _ | (refine Le.pi2 ?_; intro _) | intro _)
def Ki (nE : Nat) (p0 : Int × (List (Int × Int × Int × Int × Int × Int)) × (List (Int × Int))) : Option Bool := (if (decide (p0.1 < 1) || (decide (8 < p0.1) || (decide (24 < (p0.2.1.length : Int)) || decide (8 < (p0.2.2.length : Int))))) = true then some false else GN ((JF nE p0).bind fun x2 => DO nE (Ip nE p0 x2) (0, ([] : List ((Int × Int) × Unit)))) fun x1 => (Dk nE p0.2.1).bind fun x6 => some (!x6))
theorem ON (nE : Nat) (p0 : Int × (List (Int × Int × Int × Int × Int × Int)) × (List (Int × Int))) : Le (Ki nE p0) (Hf p0) := by
  unfold Ki Hf
  repeat' with_reducible (first | refine Le.orR' ?_ ?_ | refine Le.bind' ?_ ?_ | refine Le.ite' ?_ ?_ | refine Le.loop' ?_ | refine Le.altS' ?_ ?_ | apply Od | apply Gb | apply ME | exact Le.rfl' _ | (refine Le.pi2 ?_; intro _) | intro _)
def Ed (nE : Nat) (p0 : List Int) : Int → Option (Int ⊕ (Unit ⊕ Int))
  | x1 => (if x1 < (p0.length : Int) then (ix p0 x1).bind fun x2 => (if (DV x2) = true then some (.inr (.inr x1)) else some (.inl (An (x1 + 1)))) else some (.inr (.inl ())))
theorem HS (nE : Nat) (p0 : List Int) : ∀ s, Le (Ed nE p0 s) (Bq p0 s) := by
  intro x1
  unfold Ed Bq
  repeat' with_reducible (first | refine Le.orR' ?_ ?_ | refine Le.bind' ?_ ?_ | refine Le.ite' ?_ ?_ | refine Le.loop' ?_ | refine Le.altS' ?_ ?_ | exact Le.rfl' _ | (refine Le.pi2 ?_; intro _) | intro _)
def EI (nE : Nat) (p0 : List Int) : Option Int := GN (DO nE (Ed nE p0) 0) fun _ => some (-1)
theorem ID (nE : Nat) (p0 : List Int) : Le (EI nE p0) (C7 p0) := by
  unfold EI C7
  repeat' with_reducible (first | refine Le.orR' ?_ ?_ | refine Le.bind' ?_ ?_ | refine Le.ite' ?_ ?_ | refine Le.loop' ?_ | refine Le.altS' ?_ ?_ | apply HS | exact Le.rfl' _ | (refine Le.pi2 ?_; intro _) | intro _)
def Eg (nE : Nat) (p0 : List Int) : Option Bool := (EI nE p0).bind fun x1 => some (decide (0 ≤ x1))
theorem HV (nE : Nat) (p0 : List Int) : Le (Eg nE p0) (Ci p0) := by
  unfold Eg Ci
  repeat' with_reducible (first | refine Le.orR' ?_ ?_ | refine Le.bind' ?_ ?_ | refine Le.ite' ?_ ?_ | refine Le.loop' ?_ | refine Le.altS' ?_ ?_ | apply ID | exact Le.rfl' _ | (refine Le.pi2 ?_; intro _) | intro _)
def HN (nE : Nat) (p0 : Int × (List (Int × Int × Int × Int × Int × Int)) × (List (Int × Int))) (p1 : List (List Int)) : Int → Option (Int ⊕ (Unit ⊕ Bool))
  | x3 => (if x3 < (p1.length : Int) then (ix p1 x3).bind fun x4 => (if (x4.length : Int) ≠ (p0.2.2.length : Int) then some true else (Eg nE x4).bind fun x6 => some x6).bind fun x5 => (if x5 = true then some (.inr (.inr false)) else some (.inl (An (x3 + 1)))) else some (.inr (.inl ())))
theorem Mr (nE : Nat) (p0 : Int × (List (Int × Int × Int × Int × Int × Int)) × (List (Int × Int))) (p1 : List (List Int)) : ∀ s, Le (HN nE p0 p1 s) (EN p0 p1 s) := by
  intro x3
  unfold HN EN
  repeat' with_reducible (first | refine Le.orR' ?_ ?_ | refine Le.bind' ?_ ?_ | refine Le.ite' ?_ ?_ | refine Le.loop' ?_ | refine Le.altS' ?_ ?_ | apply HV | exact Le.rfl' _ | (refine Le.pi2 ?_; intro _) | intro _)
def JA (nE : Nat) (p0 : Int × (List (Int × Int × Int × Int × Int × Int)) × (List (Int × Int))) (p1 : List (List Int)) : Option Bool := ((Ki nE p0).bind fun x2 => (if (!x2) = true then some true else some (decide ((p1.length : Int) ≠ p0.1)))).bind fun x1 => (if x1 = true then some false else GN (DO nE (HN nE p0 p1) 0) fun _ => some true)
theorem Ox (nE : Nat) (p0 : Int × (List (Int × Int × Int × Int × Int × Int)) × (List (Int × Int))) (p1 : List (List Int)) : Le (JA nE p0 p1) (FN p0 p1) := by
  unfold JA FN
  repeat' with_reducible (first | refine Le.orR' ?_ ?_ | refine Le.bind' ?_ ?_ | refine Le.ite' ?_ ?_ | refine Le.loop' ?_ | refine Le.altS' ?_ ?_ | apply ON | apply Mr | exact Le.rfl' _ | (refine Le.pi2 ?_; intro _) | intro _)
def DA (nE : Nat) (p0 : List (Int × Int)) (p1 : Int × Int) : Int → Option (Int ⊕ (Unit ⊕ Int))
  | x1 => (if x1 < (p0.length : Int) then (ix p0 x1).bind fun x2 => (if p1.1 = x2.1 ∧ p1.2 = x2.2 then some (.inr (.inr x1)) else some (.inl (An (x1 + 1)))) else some (.inr (.inl ())))
theorem GH (nE : Nat) (p0 : List (Int × Int)) (p1 : Int × Int) : ∀ s, Le (DA nE p0 p1 s) (A3 p0 p1 s) := by
  intro x1
  unfold DA A3
  repeat' with_reducible (first | refine Le.orR' ?_ ?_ | refine Le.bind' ?_ ?_ | refine Le.ite' ?_ ?_ | refine Le.loop' ?_ | refine Le.altS' ?_ ?_ | exact Le.rfl' _ | (refine Le.pi2 ?_; intro _) | intro _)
def DR (nE : Nat) (p0 : List (Int × Int)) (p1 : Int × Int) : Option Int := GN (DO nE (DA nE p0 p1) 0) fun _ => some (-1)
theorem Hm (nE : Nat) (p0 : List (Int × Int)) (p1 : Int × Int) : Le (DR nE p0 p1) (Cl p0 p1) := by
  unfold DR Cl
  repeat' with_reducible (first | refine Le.orR' ?_ ?_ | refine Le.bind' ?_ ?_ | refine Le.ite' ?_ ?_ | refine Le.loop' ?_ | refine Le.altS' ?_ ?_ | apply GH | exact Le.rfl' _ | (refine Le.pi2 ?_; intro _) | intro _)
def H1 (nE : Nat) (p0 : Int × (List (Int × Int × Int × Int × Int × Int)) × (List (Int × Int))) (p1 : Int) (p2 : Int) : Option Int := (DR nE p0.2.2 (p1, p2)).bind fun x1 => some x1
theorem KV (nE : Nat) (p0 : Int × (List (Int × Int × Int × Int × Int × Int)) × (List (Int × Int))) (p1 : Int) (p2 : Int) : Le (H1 nE p0 p1 p2) (EF p0 p1 p2) := by
  unfold H1 EF
  repeat' with_reducible (first | refine Le.orR' ?_ ?_ | refine Le.bind' ?_ ?_ | refine Le.ite' ?_ ?_ | refine Le.loop' ?_ | refine Le.altS' ?_ ?_ | apply Hm | exact Le.rfl' _ | (refine Le.pi2 ?_; intro _) | intro _)
def I4 (nE : Nat) (p0 : Int × (List (Int × Int × Int × Int × Int × Int)) × (List (Int × Int))) (p1 : Int) (p2 : Int) : Int → Option (Int ⊕ (Unit ⊕ (Int × Int × Int × Bool)))
  | x1 => (if x1 < (p0.2.1.length : Int) then (ix p0.2.1 x1).bind fun x2 => (if p1 = x2.1 ∧ p2 = x2.2.1 then some (.inr (.inr (x2.2.2.1, x2.2.2.2.1, x1, true))) else (if p1 = x2.2.2.1 ∧ p2 = x2.2.2.2.1 then some (.inr (.inr (x2.1, x2.2.1, x1, true))) else some (.inl (An (x1 + 1))))) else some (.inr (.inl ())))
theorem Nm (nE : Nat) (p0 : Int × (List (Int × Int × Int × Int × Int × Int)) × (List (Int × Int))) (p1 : Int) (p2 : Int) : ∀ s, Le (I4 nE p0 p1 p2 s) (D8 p0 p1 p2 s) := by
  intro x1
  unfold I4 D8
  repeat' with_reducible (first | refine Le.orR' ?_ ?_ | refine Le.bind' ?_ ?_ | refine Le.ite' ?_ ?_ | refine Le.loop' ?_ | refine Le.altS' ?_ ?_ | exact Le.rfl' _ | (refine Le.pi2 ?_; intro _) | intro _)
def Jl (nE : Nat) (p0 : Int × (List (Int × Int × Int × Int × Int × Int)) × (List (Int × Int))) (p1 : Int) (p2 : Int) : Option (Int × Int × Int × Bool) := GN (DO nE (I4 nE p0 p1 p2) 0) fun _ => some (0, 0, 0, false)
theorem LV (nE : Nat) (p0 : Int × (List (Int × Int × Int × Int × Int × Int)) × (List (Int × Int))) (p1 : Int) (p2 : Int) : Le (Jl nE p0 p1 p2) (F5 p0 p1 p2) := by
  unfold Jl F5
  repeat' with_reducible (first | refine Le.orR' ?_ ?_ | refine Le.bind' ?_ ?_ | refine Le.ite' ?_ ?_ | refine Le.loop' ?_ | refine Le.altS' ?_ ?_ | apply Nm | exact Le.rfl' _ | (refine Le.pi2 ?_; intro _) | intro _)
def Kf (nE : Nat) (p0 : Int × (List (Int × Int × Int × Int × Int × Int)) × (List (Int × Int))) (p1 : List (List Int)) (p2 : Int) (p3 : Int) : Option (Int × Bool) := (if p2 < 0 then some true else (if (p1.length : Int) ≤ p2 then some true else (if p3 < 0 then some true else (ix p1 p2).bind fun x2 => some (decide ((x2.length : Int) ≤ p3))))).bind fun x1 => (if x1 = true then some (0, false) else (ix p1 p2).bind fun x3 => (ix x3 p3).bind fun x4 => (Jl nE p0 p2 x4).bind fun x5 => some (x5.1, x5.2.2.2))
theorem OS (nE : Nat) (p0 : Int × (List (Int × Int × Int × Int × Int × Int)) × (List (Int × Int))) (p1 : List (List Int)) (p2 : Int) (p3 : Int) : Le (Kf nE p0 p1 p2 p3) (He p0 p1 p2 p3) := by
  unfold Kf He
  repeat' with_reducible (first | refine Le.orR' ?_ ?_ | refine Le.bind' ?_ ?_ | refine Le.ite' ?_ ?_ | refine Le.loop' ?_ | refine Le.altS' ?_ ?_ | apply LV | exact Le.rfl' _ | (refine Le.pi2 ?_; intro _) | intro _)
def Fs (nE : Nat) (p0 : List Int) (p1 : Int) : Int → Option (Int ⊕ (Unit ⊕ Bool))
  | x1 => (if x1 < (p0.length : Int) then (ix p0 x1).bind fun x2 => (if p1 = x2 then some (.inr (.inr true)) else some (.inl (An (x1 + 1)))) else some (.inr (.inl ())))
theorem Jx (nE : Nat) (p0 : List Int) (p1 : Int) : ∀ s, Le (Fs nE p0 p1 s) (C8 p0 p1 s) := by
  intro x1
  unfold Fs C8
  repeat' with_reducible (first | refine Le.orR' ?_ ?_ | refine Le.bind' ?_ ?_ | refine Le.ite' ?_ ?_ | refine Le.loop' ?_ | refine Le.altS' ?_ ?_ | exact Le.rfl' _ | (refine Le.pi2 ?_; intro _) | intro _)
def Gz (nE : Nat) (p0 : List Int) (p1 : Int) : Option Bool := GN (DO nE (Fs nE p0 p1) 0) fun _ => some false
theorem Ks (nE : Nat) (p0 : List Int) (p1 : Int) : Le (Gz nE p0 p1) (DI p0 p1) := by
  unfold Gz DI
  repeat' with_reducible (first | refine Le.orR' ?_ ?_ | refine Le.bind' ?_ ?_ | refine Le.ite' ?_ ?_ | refine Le.loop' ?_ | refine Le.altS' ?_ ?_ | apply Jx | exact Le.rfl' _ | (refine Le.pi2 ?_; intro _) | intro _)
def Ir (nE : Nat) (p0 : Int × (List (Int × Int × Int × Int × Int × Int)) × (List (Int × Int))) (p1 : List (List Int)) (p3 : Int) : (Int × List Int) → Option ((Int × List Int) ⊕ ((List Int) ⊕ (List Int × Int)))
  | (x2, x3) => (ix p1 x2).bind fun x4 => (ix x4 p3).bind fun x5 => (H1 nE p0 x2 x5).bind fun x6 => (if x6 ≠ p3 then (Kf nE p0 p1 x2 p3).bind fun x7 => (if (!x7.2) = true then some (.inr (.inr (([] : List Int), 13))) else (Gz nE x3 x7.1).bind fun x8 => (if x8 = true then some (.inr (.inr (([] : List Int), 12))) else (H4 x3 ([x7.1] : List Int)).bind fun x9 => some (.inl (x7.1, x9)))) else some (.inr (.inl x3)))
theorem MI (nE : Nat) (p0 : Int × (List (Int × Int × Int × Int × Int × Int)) × (List (Int × Int))) (p1 : List (List Int)) (p3 : Int) : ∀ s, Le (Ir nE p0 p1 p3 s) (Ea p0 p1 p3 s) := by
  rintro ⟨x2, x3⟩
  unfold Ir Ea
  repeat' with_reducible (first | refine Le.orR' ?_ ?_ | refine Le.bind' ?_ ?_ | refine Le.ite' ?_ ?_ | refine Le.loop' ?_ | refine Le.altS' ?_ ?_ | apply KV | apply OS | apply Ks | exact Le.rfl' _ | (refine Le.pi2 ?_; intro _) | intro _)
def J0 (nE : Nat) (p0 : Int × (List (Int × Int × Int × Int × Int × Int)) × (List (Int × Int))) (p1 : List (List Int)) (p2 : Int) (p3 : Int) : Option (List Int × Int) := GN (DO nE (Ir nE p0 p1 p3) (p2, ([p2] : List Int))) fun x1 => some (x1, 0)
theorem OR (nE : Nat) (p0 : Int × (List (Int × Int × Int × Int × Int × Int)) × (List (Int × Int))) (p1 : List (List Int)) (p2 : Int) (p3 : Int) : Le (J0 nE p0 p1 p2 p3) (Gk p0 p1 p2 p3) := by
  unfold J0 Gk
  repeat' with_reducible (first | refine Le.orR' ?_ ?_ | refine Le.bind' ?_ ?_ | refine Le.ite' ?_ ?_ | refine Le.loop' ?_ | refine Le.altS' ?_ ?_ | apply MI | exact Le.rfl' _ | (refine Le.pi2 ?_; intro _) | intro _)
def Ii (nE : Nat) (p0 : Int × (List (Int × Int × Int × Int × Int × Int)) × (List (Int × Int))) (p1 : List (List Int)) (x2 : Int) (x3 : List Int) : Int → Option (Int ⊕ (Unit ⊕ (Int ⊕ (Unit ⊕ Bool))))
  | x4 => (if x4 < (x3.length : Int) then (J0 nE p0 p1 x2 x4).bind fun x5 => (if x5.2 ≠ 0 then some (.inr (.inr (.inr (.inr false)))) else some (.inl (An (x4 + 1)))) else some (.inr (.inl ())))
theorem Mx (nE : Nat) (p0 : Int × (List (Int × Int × Int × Int × Int × Int)) × (List (Int × Int))) (p1 : List (List Int)) (x2 : Int) (x3 : List Int) : ∀ s, Le (Ii nE p0 p1 x2 x3 s) (EE p0 p1 x2 x3 s) := by
  intro x4
  unfold Ii EE
  repeat' with_reducible (first | refine Le.orR' ?_ ?_ | refine Le.bind' ?_ ?_ | refine Le.ite' ?_ ?_ | refine Le.loop' ?_ | refine Le.altS' ?_ ?_ | apply OR | exact Le.rfl' _ | (refine Le.pi2 ?_; intro _) | intro _)
def Io (nE : Nat) (p0 : Int × (List (Int × Int × Int × Int × Int × Int)) × (List (Int × Int))) (p1 : List (List Int)) : Int → Option (Int ⊕ (Unit ⊕ Bool))
  | x2 => (if x2 < (p1.length : Int) then GN ((ix p1 x2).bind fun x3 => DO nE (Ii nE p0 p1 x2 x3) 0) fun _ => some (.inl (An (x2 + 1))) else some (.inr (.inl ())))
theorem MC (nE : Nat) (p0 : Int × (List (Int × Int × Int × Int × Int × Int)) × (List (Int × Int))) (p1 : List (List Int)) : ∀ s, Le (Io nE p0 p1 s) (E8 p0 p1 s) := by
  intro x2
  unfold Io E8
  repeat' with_reducible (first | refine Le.orR' ?_ ?_ | refine Le.bind' ?_ ?_ | refine Le.ite' ?_ ?_ | refine Le.loop' ?_ | refine Le.altS' ?_ ?_ | apply Mx | exact Le.rfl' _ | (refine Le.pi2 ?_; intro _) | intro _)
def II (nE : Nat) (p0 : Int × (List (Int × Int × Int × Int × Int × Int)) × (List (Int × Int))) (p1 : List (List Int)) : Option Bool := (JA nE p0 p1).bind fun x1 => (if (!x1) = true then some false else GN (DO nE (Io nE p0 p1) 0) fun _ => some true)
theorem OL (nE : Nat) (p0 : Int × (List (Int × Int × Int × Int × Int × Int)) × (List (Int × Int))) (p1 : List (List Int)) : Le (II nE p0 p1) (Fh p0 p1) := by
  unfold II Fh
  repeat' with_reducible (first | refine Le.orR' ?_ ?_ | refine Le.bind' ?_ ?_ | refine Le.ite' ?_ ?_ | refine Le.loop' ?_ | refine Le.altS' ?_ ?_ | apply Ox | apply MC | exact Le.rfl' _ | (refine Le.pi2 ?_; intro _) | intro _)
def EY (nE : Nat) (p0 : List Int) (p1 : Int) : Int → Option (Int ⊕ (Unit ⊕ Int))
  | x1 => (if x1 < (p0.length : Int) then (ix p0 x1).bind fun x2 => (if p1 = x2 then some (.inr (.inr x1)) else some (.inl (An (x1 + 1)))) else some (.inr (.inl ())))
theorem Ja (nE : Nat) (p0 : List Int) (p1 : Int) : ∀ s, Le (EY nE p0 p1 s) (CK p0 p1 s) := by
  intro x1
  unfold EY CK
  repeat' with_reducible (first | refine Le.orR' ?_ ?_ | refine Le.bind' ?_ ?_ | refine Le.ite' ?_ ?_ | refine Le.loop' ?_ | refine Le.altS' ?_ ?_ | exact Le.rfl' _ | (refine Le.pi2 ?_; intro _) | intro _)
def FT (nE : Nat) (p0 : List Int) (p1 : Int) : Option Int := GN (DO nE (EY nE p0 p1) 0) fun _ => some (-1)
theorem JO (nE : Nat) (p0 : List Int) (p1 : Int) : Le (FT nE p0 p1) (DL p0 p1) := by
  unfold FT DL
  repeat' with_reducible (first | refine Le.orR' ?_ ?_ | refine Le.bind' ?_ ?_ | refine Le.ite' ?_ ?_ | refine Le.loop' ?_ | refine Le.altS' ?_ ?_ | apply Ja | exact Le.rfl' _ | (refine Le.pi2 ?_; intro _) | intro _)
def EX (nE : Nat) (p0 : List Int) (p1 : Int) : Option Bool := (FT nE p0 p1).bind fun x1 => some (decide (0 ≤ x1))
theorem IQ (nE : Nat) (p0 : List Int) (p1 : Int) : Le (EX nE p0 p1) (CO p0 p1) := by
  unfold EX CO
  repeat' with_reducible (first | refine Le.orR' ?_ ?_ | refine Le.bind' ?_ ?_ | refine Le.ite' ?_ ?_ | refine Le.loop' ?_ | refine Le.altS' ?_ ?_ | apply JO | exact Le.rfl' _ | (refine Le.pi2 ?_; intro _) | intro _)
def GF (nE : Nat) (p0 : Int × Int × List Int) (p1 : Int × Int × Int × Int) : Option Bool := (if p1.2.2.2 = p0.1 then (EX nE p0.2.2 p1.1).bind fun x2 => some x2 else some false).bind fun x1 => some x1
theorem Jo (nE : Nat) (p0 : Int × Int × List Int) (p1 : Int × Int × Int × Int) : Le (GF nE p0 p1) (DQ p0 p1) := by
  unfold GF DQ
  repeat' with_reducible (first | refine Le.orR' ?_ ?_ | refine Le.bind' ?_ ?_ | refine Le.ite' ?_ ?_ | refine Le.loop' ?_ | refine Le.altS' ?_ ?_ | apply IQ | exact Le.rfl' _ | (refine Le.pi2 ?_; intro _) | intro _)
def Ew (nE : Nat) (p0 : Int × Int × List Int) (p1 : Int × Int × Int × Int) : Option Bool := (GF nE p0 p1).bind fun x1 => some x1
theorem Ik (nE : Nat) (p0 : Int × Int × List Int) (p1 : Int × Int × Int × Int) : Le (Ew nE p0 p1) (CX p0 p1) := by
  unfold Ew CX
  repeat' with_reducible (first | refine Le.orR' ?_ ?_ | refine Le.bind' ?_ ?_ | refine Le.ite' ?_ ?_ | refine Le.loop' ?_ | refine Le.altS' ?_ ?_ | apply Jo | exact Le.rfl' _ | (refine Le.pi2 ?_; intro _) | intro _)
def CQ (nE : Nat) (p0 : List (Int × Int × List Int)) (p1c0 : Int × Int × Int × Int) : Int → Option (Int ⊕ (Unit ⊕ Int))
  | x1 => (if x1 < (p0.length : Int) then (ix p0 x1).bind fun x2 => (Ew nE x2 p1c0).bind fun x3 => (if x3 = true then some (.inr (.inr x1)) else some (.inl (An (x1 + 1)))) else some (.inr (.inl ())))
theorem FK (nE : Nat) (p0 : List (Int × Int × List Int)) (p1c0 : Int × Int × Int × Int) : ∀ s, Le (CQ nE p0 p1c0 s) (Bc p0 p1c0 s) := by
  intro x1
  unfold CQ Bc
  repeat' with_reducible (first | refine Le.orR' ?_ ?_ | refine Le.bind' ?_ ?_ | refine Le.ite' ?_ ?_ | refine Le.loop' ?_ | refine Le.altS' ?_ ?_ | apply Ik | exact Le.rfl' _ | (refine Le.pi2 ?_; intro _) | intro _)
def C9 (nE : Nat) (p0 : List (Int × Int × List Int)) (p1c0 : Int × Int × Int × Int) : Option Int := GN (DO nE (CQ nE p0 p1c0) 0) fun _ => some (-1)
theorem F1 (nE : Nat) (p0 : List (Int × Int × List Int)) (p1c0 : Int × Int × Int × Int) : Le (C9 nE p0 p1c0) (Bx p0 p1c0) := by
  unfold C9 Bx
  repeat' with_reducible (first | refine Le.orR' ?_ ?_ | refine Le.bind' ?_ ?_ | refine Le.ite' ?_ ?_ | refine Le.loop' ?_ | refine Le.altS' ?_ ?_ | apply FK | exact Le.rfl' _ | (refine Le.pi2 ?_; intro _) | intro _)
def CR (nE : Nat) (p0 : List (Int × Int × List Int)) (p1c0 : Int × Int × Int × Int) : Option Bool := (C9 nE p0 p1c0).bind fun x1 => some (decide (0 ≤ x1))
theorem FJ (nE : Nat) (p0 : List (Int × Int × List Int)) (p1c0 : Int × Int × Int × Int) : Le (CR nE p0 p1c0) (Br p0 p1c0) := by
  unfold CR Br
  repeat' with_reducible (first | refine Le.orR' ?_ ?_ | refine Le.bind' ?_ ?_ | refine Le.ite' ?_ ?_ | refine Le.loop' ?_ | refine Le.altS' ?_ ?_ | apply F1 | exact Le.rfl' _ | (refine Le.pi2 ?_; intro _) | intro _)
def D1 (nE : Nat) (p0 : (Int × (List (Int × Int × Int × Int × Int × Int)) × (List (Int × Int))) × List (List Int) × List (List Int) × ((List (Int × Int × Int × Int)) × (List (Int × Int × List Int)) × Int × Int × Int × Int)) (p1 : Int × Int × Int × Int) : Option Bool := (CR nE p0.2.2.2.2.1 p1).bind fun x1 => some x1
theorem Gt (nE : Nat) (p0 : (Int × (List (Int × Int × Int × Int × Int × Int)) × (List (Int × Int))) × List (List Int) × List (List Int) × ((List (Int × Int × Int × Int)) × (List (Int × Int × List Int)) × Int × Int × Int × Int)) (p1 : Int × Int × Int × Int) : Le (D1 nE p0 p1) (Cr p0 p1) := by
  unfold D1 Cr
  repeat' with_reducible (first | refine Le.orR' ?_ ?_ | refine Le.bind' ?_ ?_ | refine Le.ite' ?_ ?_ | refine Le.loop' ?_ | refine Le.altS' ?_ ?_ | apply FJ | exact Le.rfl' _ | (refine Le.pi2 ?_; intro _) | intro _)
def EW (nE : Nat) (p0 : (Int × (List (Int × Int × Int × Int × Int × Int)) × (List (Int × Int))) × List (List Int) × List (List Int) × ((List (Int × Int × Int × Int)) × (List (Int × Int × List Int)) × Int × Int × Int × Int)) (p1 : Int) (p2 : Int) (p3 : Int) : (Int × Int) → Option ((Int × Int) ⊕ Int)
  | (x2, x3) => (if x3 < (p0.2.2.2.1.length : Int) then ((ix p0.2.2.2.1 x3).bind fun x5 => (if x5.1 = p1 then (if x5.2.1 = p2 then (if x5.2.2.1 = p3 then (D1 nE p0 x5).bind fun x7 => some x7 else some false) else some false) else some false).bind fun x6 => (if x6 = true then some (An (x2 + 1)) else some x2)).bind fun x4 => some (.inl (x4, An (x3 + 1))) else some (.inr x2))
theorem I6 (nE : Nat) (p0 : (Int × (List (Int × Int × Int × Int × Int × Int)) × (List (Int × Int))) × List (List Int) × List (List Int) × ((List (Int × Int × Int × Int)) × (List (Int × Int × List Int)) × Int × Int × Int × Int)) (p1 : Int) (p2 : Int) (p3 : Int) : ∀ s, Le (EW nE p0 p1 p2 p3 s) (CL p0 p1 p2 p3 s) := by
  rintro ⟨x2, x3⟩
  unfold EW CL
  repeat' with_reducible (first | refine Le.orR' ?_ ?_ | refine Le.bind' ?_ ?_ | refine Le.ite' ?_ ?_ | refine Le.loop' ?_ | refine Le.altS' ?_ ?_ | apply Gt | exact Le.rfl' _ | (refine Le.pi2 ?_; intro _) | intro _)
def FW (nE : Nat) (p0 : (Int × (List (Int × Int × Int × Int × Int × Int)) × (List (Int × Int))) × List (List Int) × List (List Int) × ((List (Int × Int × Int × Int)) × (List (Int × Int × List Int)) × Int × Int × Int × Int)) (p1 : Int) (p2 : Int) (p3 : Int) : Option Int := (DO nE (EW nE p0 p1 p2 p3) (0, 0)).bind fun x1 => some x1
theorem JU (nE : Nat) (p0 : (Int × (List (Int × Int × Int × Int × Int × Int)) × (List (Int × Int))) × List (List Int) × List (List Int) × ((List (Int × Int × Int × Int)) × (List (Int × Int × List Int)) × Int × Int × Int × Int)) (p1 : Int) (p2 : Int) (p3 : Int) : Le (FW nE p0 p1 p2 p3) (B5 p0 p1 p2 p3) := by
  unfold FW B5
  repeat' with_reducible (first | refine Le.orR' ?_ ?_ | refine Le.bind' ?_ ?_ | refine Le.ite' ?_ ?_ | refine Le.loop' ?_ | refine Le.altS' ?_ ?_ | apply I6 | exact Le.rfl' _ | (refine Le.pi2 ?_; intro _) | intro _)
def EV (nE : Nat) (p0 : (Int × (List (Int × Int × Int × Int × Int × Int)) × (List (Int × Int))) × List (List Int) × List (List Int) × ((List (Int × Int × Int × Int)) × (List (Int × Int × List Int)) × Int × Int × Int × Int)) (x3 : Int) (x5 : List Int) : ((List (Int × Int × Int)) × Int) → Option (((List (Int × Int × Int)) × Int) ⊕ (List (Int × Int × Int)))
  | (x6, x7) => (if x7 < (x5.length : Int) then ((ix x5 x7).bind fun x9 => ((ix p0.2.1 x3).bind fun x11 => (ix x11 x7).bind fun x12 => (if x9 ≠ x12 then (FW nE p0 x3 x7 x9).bind fun x13 => some (decide (x13 ≠ 1)) else some false)).bind fun x10 => (if x10 = true then (H4 x6 ([(2, x3, x7)] : List (Int × Int × Int))).bind fun x14 => some x14 else some x6)).bind fun x8 => some (.inl (x8, An (x7 + 1))) else some (.inr x6))
theorem I5 (nE : Nat) (p0 : (Int × (List (Int × Int × Int × Int × Int × Int)) × (List (Int × Int))) × List (List Int) × List (List Int) × ((List (Int × Int × Int × Int)) × (List (Int × Int × List Int)) × Int × Int × Int × Int)) (x3 : Int) (x5 : List Int) : ∀ s, Le (EV nE p0 x3 x5 s) (Ct p0 x3 x5 s) := by
  rintro ⟨x6, x7⟩
  unfold EV Ct
  repeat' with_reducible (first | refine Le.orR' ?_ ?_ | refine Le.bind' ?_ ?_ | refine Le.ite' ?_ ?_ | refine Le.loop' ?_ | refine Le.altS' ?_ ?_ | apply JU | exact Le.rfl' _ | (refine Le.pi2 ?_; intro _) | intro _)
def EU (nE : Nat) (p0 : (Int × (List (Int × Int × Int × Int × Int × Int)) × (List (Int × Int))) × List (List Int) × List (List Int) × ((List (Int × Int × Int × Int)) × (List (Int × Int × List Int)) × Int × Int × Int × Int)) : ((List (Int × Int × Int)) × Int) → Option (((List (Int × Int × Int)) × Int) ⊕ (List (Int × Int × Int)))
  | (x2, x3) => (if x3 < (p0.2.2.1.length : Int) then ((ix p0.2.2.1 x3).bind fun x5 => DO nE (EV nE p0 x3 x5) (x2, 0)).bind fun x4 => some (.inl (x4, An (x3 + 1))) else some (.inr x2))
theorem IP (nE : Nat) (p0 : (Int × (List (Int × Int × Int × Int × Int × Int)) × (List (Int × Int))) × List (List Int) × List (List Int) × ((List (Int × Int × Int × Int)) × (List (Int × Int × List Int)) × Int × Int × Int × Int)) : ∀ s, Le (EU nE p0 s) (CP p0 s) := by
  rintro ⟨x2, x3⟩
  unfold EU CP
  repeat' with_reducible (first | refine Le.orR' ?_ ?_ | refine Le.bind' ?_ ?_ | refine Le.ite' ?_ ?_ | refine Le.loop' ?_ | refine Le.altS' ?_ ?_ | apply I5 | exact Le.rfl' _ | (refine Le.pi2 ?_; intro _) | intro _)
def FU (nE : Nat) (p0 : (Int × (List (Int × Int × Int × Int × Int × Int)) × (List (Int × Int))) × List (List Int) × List (List Int) × ((List (Int × Int × Int × Int)) × (List (Int × Int × List Int)) × Int × Int × Int × Int)) : Option (List (Int × Int × Int)) := (DO nE (EU nE p0) ([], 0)).bind fun x1 => some x1
theorem JJ (nE : Nat) (p0 : (Int × (List (Int × Int × Int × Int × Int × Int)) × (List (Int × Int))) × List (List Int) × List (List Int) × ((List (Int × Int × Int × Int)) × (List (Int × Int × List Int)) × Int × Int × Int × Int)) : Le (FU nE p0) (Do p0) := by
  unfold FU Do
  repeat' with_reducible (first | refine Le.orR' ?_ ?_ | refine Le.bind' ?_ ?_ | refine Le.ite' ?_ ?_ | refine Le.loop' ?_ | refine Le.altS' ?_ ?_ | apply IP | exact Le.rfl' _ | (refine Le.pi2 ?_; intro _) | intro _)
def Ft (nE : Nat) (p0 : (Int × (List (Int × Int × Int × Int × Int × Int)) × (List (Int × Int))) × List (List Int) × List (List Int) × ((List (Int × Int × Int × Int)) × (List (Int × Int × List Int)) × Int × Int × Int × Int)) : ((List (Int × Int × Int)) × Int) → Option (((List (Int × Int × Int)) × Int) ⊕ (List (Int × Int × Int)))
  | (x2, x3) => (if x3 < (p0.2.2.2.1.length : Int) then ((ix p0.2.2.2.1 x3).bind fun x5 => (if (!(BK p0 x5)) = true then some true else (ix p0.2.2.1 x5.1).bind fun x7 => (ix x7 x5.2.1).bind fun x8 => (if x5.2.2.1 ≠ x8 then some true else (ix p0.2.1 x5.1).bind fun x9 => (ix x9 x5.2.1).bind fun x10 => (if x5.2.2.1 = x10 then some true else (D1 nE p0 x5).bind fun x11 => some (!x11)))).bind fun x6 => (if x6 = true then (H4 x2 ([(3, x3, x5.2.1)] : List (Int × Int × Int))).bind fun x12 => some x12 else some x2)).bind fun x4 => some (.inl (x4, An (x3 + 1))) else some (.inr x2))
theorem Jy (nE : Nat) (p0 : (Int × (List (Int × Int × Int × Int × Int × Int)) × (List (Int × Int))) × List (List Int) × List (List Int) × ((List (Int × Int × Int × Int)) × (List (Int × Int × List Int)) × Int × Int × Int × Int)) : ∀ s, Le (Ft nE p0 s) (Dd p0 s) := by
  rintro ⟨x2, x3⟩
  unfold Ft Dd
  repeat' with_reducible (first | refine Le.orR' ?_ ?_ | refine Le.bind' ?_ ?_ | refine Le.ite' ?_ ?_ | refine Le.loop' ?_ | refine Le.altS' ?_ ?_ | apply Gt | exact Le.rfl' _ | (refine Le.pi2 ?_; intro _) | intro _)
def Gw (nE : Nat) (p0 : (Int × (List (Int × Int × Int × Int × Int × Int)) × (List (Int × Int))) × List (List Int) × List (List Int) × ((List (Int × Int × Int × Int)) × (List (Int × Int × List Int)) × Int × Int × Int × Int)) : Option (List (Int × Int × Int)) := (DO nE (Ft nE p0) ([], 0)).bind fun x1 => some x1
theorem Kr (nE : Nat) (p0 : (Int × (List (Int × Int × Int × Int × Int × Int)) × (List (Int × Int))) × List (List Int) × List (List Int) × ((List (Int × Int × Int × Int)) × (List (Int × Int × List Int)) × Int × Int × Int × Int)) : Le (Gw nE p0) (DF p0) := by
  unfold Gw DF
  repeat' with_reducible (first | refine Le.orR' ?_ ?_ | refine Le.bind' ?_ ?_ | refine Le.ite' ?_ ?_ | refine Le.loop' ?_ | refine Le.altS' ?_ ?_ | apply Jy | exact Le.rfl' _ | (refine Le.pi2 ?_; intro _) | intro _)
def Hq (nE : Nat) (p0 : Int × (List (Int × Int × Int × Int × Int × Int)) × (List (Int × Int))) : (Int × Int) → Option ((Int × Int) ⊕ Int)
  | (x2, x3) => (if x3 < (p0.2.1.length : Int) then (ix p0.2.1 x3).bind fun x4 => some (.inl (max x2 x4.2.2.2.2.2, An (x3 + 1))) else some (.inr x2))
theorem Lr (nE : Nat) (p0 : Int × (List (Int × Int × Int × Int × Int × Int)) × (List (Int × Int))) : ∀ s, Le (Hq nE p0 s) (DY p0 s) := by
  rintro ⟨x2, x3⟩
  unfold Hq DY
  repeat' with_reducible (first | refine Le.orR' ?_ ?_ | refine Le.bind' ?_ ?_ | refine Le.ite' ?_ ?_ | refine Le.loop' ?_ | refine Le.altS' ?_ ?_ | exact Le.rfl' _ | (refine Le.pi2 ?_; intro _) | intro _)
def I1 (nE : Nat) (p0 : Int × (List (Int × Int × Int × Int × Int × Int)) × (List (Int × Int))) : Option Int := (DO nE (Hq nE p0) (0, 0)).bind fun x1 => some x1
theorem Np (nE : Nat) (p0 : Int × (List (Int × Int × Int × Int × Int × Int)) × (List (Int × Int))) : Le (I1 nE p0) (E6 p0) := by
  unfold I1 E6
  repeat' with_reducible (first | refine Le.orR' ?_ ?_ | refine Le.bind' ?_ ?_ | refine Le.ite' ?_ ?_ | refine Le.loop' ?_ | refine Le.altS' ?_ ?_ | apply Lr | exact Le.rfl' _ | (refine Le.pi2 ?_; intro _) | intro _)
def KR (nE : Nat) (p0 : Int × (List (Int × Int × Int × Int × Int × Int)) × (List (Int × Int))) : Option Int := (I1 nE p0).bind fun x1 => some (An (p0.1 * x1))
theorem Pk (nE : Nat) (p0 : Int × (List (Int × Int × Int × Int × Int × Int)) × (List (Int × Int))) : Le (KR nE p0) (Hj p0) := by
  unfold KR Hj
  repeat' with_reducible (first | refine Le.orR' ?_ ?_ | refine Le.bind' ?_ ?_ | refine Le.ite' ?_ ?_ | refine Le.loop' ?_ | refine Le.altS' ?_ ?_ | apply Np | exact Le.rfl' _ | (refine Le.pi2 ?_; intro _) | intro _)
def Lz (nE : Nat) (p0 : Int × (List (Int × Int × Int × Int × Int × Int)) × (List (Int × Int))) (p1 : Int) : Option Int := (KR nE p0).bind fun x1 => some (An ((An ((An (2 * p1)) + x1)) + 1))
theorem P4 (nE : Nat) (p0 : Int × (List (Int × Int × Int × Int × Int × Int)) × (List (Int × Int))) (p1 : Int) : Le (Lz nE p0 p1) (Hw p0 p1) := by
  unfold Lz Hw
  repeat' with_reducible (first | refine Le.orR' ?_ ?_ | refine Le.bind' ?_ ?_ | refine Le.ite' ?_ ?_ | refine Le.loop' ?_ | refine Le.altS' ?_ ?_ | apply Pk | exact Le.rfl' _ | (refine Le.pi2 ?_; intro _) | intro _)
def FH (nE : Nat) (p0 : (Int × (List (Int × Int × Int × Int × Int × Int)) × (List (Int × Int))) × List (List Int) × List (List Int) × ((List (Int × Int × Int × Int)) × (List (Int × Int × List Int)) × Int × Int × Int × Int)) (x1 : Int) : ((List (Int × Int × Int)) × Int) → Option (((List (Int × Int × Int)) × Int) ⊕ (List (Int × Int × Int)))
  | (x3, x4) => (if x4 < (p0.2.2.2.2.1.length : Int) then ((ix p0.2.2.2.2.1 x4).bind fun x6 => (ix p0.2.2.2.2.1 (An (x4 - 1))).bind fun x7 => (if (An ((BG x6.2.1) - (BG x7.2.1))) < x1 then (H4 x3 ([(4, x4, 0)] : List (Int × Int × Int))).bind fun x8 => some x8 else some x3)).bind fun x5 => some (.inl (x5, An (x4 + 1))) else some (.inr x3))
theorem Ju (nE : Nat) (p0 : (Int × (List (Int × Int × Int × Int × Int × Int)) × (List (Int × Int))) × List (List Int) × List (List Int) × ((List (Int × Int × Int × Int)) × (List (Int × Int × List Int)) × Int × Int × Int × Int)) (x1 : Int) : ∀ s, Le (FH nE p0 x1 s) (Db p0 x1 s) := by
  rintro ⟨x3, x4⟩
  unfold FH Db
  repeat' with_reducible (first | refine Le.orR' ?_ ?_ | refine Le.bind' ?_ ?_ | refine Le.ite' ?_ ?_ | refine Le.loop' ?_ | refine Le.altS' ?_ ?_ | exact Le.rfl' _ | (refine Le.pi2 ?_; intro _) | intro _)
def Gy (nE : Nat) (p0 : (Int × (List (Int × Int × Int × Int × Int × Int)) × (List (Int × Int))) × List (List Int) × List (List Int) × ((List (Int × Int × Int × Int)) × (List (Int × Int × List Int)) × Int × Int × Int × Int)) : Option (List (Int × Int × Int)) := (Lz nE p0.1 (min (max p0.2.2.2.2.2.1 0) 1048576)).bind fun x1 => (DO nE (FH nE p0 x1) ([], 1)).bind fun x2 => some x2
theorem Kv (nE : Nat) (p0 : (Int × (List (Int × Int × Int × Int × Int × Int)) × (List (Int × Int))) × List (List Int) × List (List Int) × ((List (Int × Int × Int × Int)) × (List (Int × Int × List Int)) × Int × Int × Int × Int)) : Le (Gy nE p0) (DG p0) := by
  unfold Gy DG
  repeat' with_reducible (first | refine Le.orR' ?_ ?_ | refine Le.bind' ?_ ?_ | refine Le.ite' ?_ ?_ | refine Le.loop' ?_ | refine Le.altS' ?_ ?_ | apply P4 | apply Ju | exact Le.rfl' _ | (refine Le.pi2 ?_; intro _) | intro _)
def FQ (nE : Nat) (p0 : List Int) : Option (List Int) := (H4 ([] : List Int) p0).bind fun x1 => some x1
theorem JR (nE : Nat) (p0 : List Int) : Le (FQ nE p0) (Dm p0) := by
  unfold FQ Dm
  repeat' with_reducible (first | refine Le.orR' ?_ ?_ | refine Le.bind' ?_ ?_ | refine Le.ite' ?_ ?_ | refine Le.loop' ?_ | refine Le.altS' ?_ ?_ | exact Le.rfl' _ | (refine Le.pi2 ?_; intro _) | intro _)
def Hr (nE : Nat) (p0 : List (List Int)) : ((List (Nat × List Int)) × Int) → Option (((List (Nat × List Int)) × Int) ⊕ (List (Nat × List Int)))
  | (x2, x3) => (if x3 < (p0.length : Int) then (ix p0 x3).bind fun x4 => (FQ nE x4).bind fun x5 => (H4 x2 ([(2, x5)] : List (Nat × List Int))).bind fun x6 => some (.inl (x6, An (x3 + 1))) else some (.inr x2))
theorem LF (nE : Nat) (p0 : List (List Int)) : ∀ s, Le (Hr nE p0 s) (Ek p0 s) := by
  rintro ⟨x2, x3⟩
  unfold Hr Ek
  repeat' with_reducible (first | refine Le.orR' ?_ ?_ | refine Le.bind' ?_ ?_ | refine Le.ite' ?_ ?_ | refine Le.loop' ?_ | refine Le.altS' ?_ ?_ | apply JR | exact Le.rfl' _ | (refine Le.pi2 ?_; intro _) | intro _)
def IU (nE : Nat) (p0 : List (List Int)) : Option (List (Nat × List Int)) := (DO nE (Hr nE p0) ([], 0)).bind fun x1 => some x1
theorem Nv (nE : Nat) (p0 : List (List Int)) : Le (IU nE p0) (Ev p0) := by
  unfold IU Ev
  repeat' with_reducible (first | refine Le.orR' ?_ ?_ | refine Le.bind' ?_ ?_ | refine Le.ite' ?_ ?_ | refine Le.loop' ?_ | refine Le.altS' ?_ ?_ | apply LF | exact Le.rfl' _ | (refine Le.pi2 ?_; intro _) | intro _)
def HB (nE : Nat) (x4 : Int) (x6 : List Int) : ((List (Nat × List (Nat × List Int))) × Int) → Option (((List (Nat × List (Nat × List Int))) × Int) ⊕ (List (Nat × List (Nat × List Int))))
  | (x7, x8) => (if x8 < (x6.length : Int) then (ix x6 x8).bind fun x9 => (ix x7 x4).bind fun x10 => (KH x10.1).bind fun x11 => (H4 x10.2 ([(2, ([x9] : List Int))] : List (Nat × List Int))).bind fun x12 => (ix (Ah x7 x4 (0, [])) x4).bind fun x13 => some (.inl ((Ah (Ah x7 x4 (0, [])) x4 (2, x12)), An (x8 + 1))) else some (.inr x7))
theorem Lu (nE : Nat) (x4 : Int) (x6 : List Int) : ∀ s, Le (HB nE x4 x6 s) (DX x4 x6 s) := by
  rintro ⟨x7, x8⟩
  unfold HB DX
  repeat' with_reducible (first | refine Le.orR' ?_ ?_ | refine Le.bind' ?_ ?_ | refine Le.ite' ?_ ?_ | refine Le.loop' ?_ | refine Le.altS' ?_ ?_ | exact Le.rfl' _ | (refine Le.pi2 ?_; intro _) | intro _)
def Hx (nE : Nat) (p0 : List (List Int)) : ((List (Nat × List (Nat × List Int))) × Int) → Option (((List (Nat × List (Nat × List Int))) × Int) ⊕ (List (Nat × List (Nat × List Int))))
  | (x3, x4) => (if x4 < (p0.length : Int) then ((ix p0 x4).bind fun x6 => DO nE (HB nE x4 x6) (x3, 0)).bind fun x5 => some (.inl (x5, An (x4 + 1))) else some (.inr x3))
theorem Lx (nE : Nat) (p0 : List (List Int)) : ∀ s, Le (Hx nE p0 s) (El p0 s) := by
  rintro ⟨x3, x4⟩
  unfold Hx El
  repeat' with_reducible (first | refine Le.orR' ?_ ?_ | refine Le.bind' ?_ ?_ | refine Le.ite' ?_ ?_ | refine Le.loop' ?_ | refine Le.altS' ?_ ?_ | apply Lu | exact Le.rfl' _ | (refine Le.pi2 ?_; intro _) | intro _)
def IR (nE : Nat) (p0 : List (List Int)) : Option (List (Nat × List (Nat × List Int))) := (mk (p0.length : Int) ((2, []) : Nat × List (Nat × List Int))).bind fun x1 => (DO nE (Hx nE p0) (x1, 0)).bind fun x2 => some x2
theorem Nj (nE : Nat) (p0 : List (List Int)) : Le (IR nE p0) (FR p0) := by
  unfold IR FR
  repeat' with_reducible (first | refine Le.orR' ?_ ?_ | refine Le.bind' ?_ ?_ | refine Le.ite' ?_ ?_ | refine Le.loop' ?_ | refine Le.altS' ?_ ?_ | apply Lx | exact Le.rfl' _ | (refine Le.pi2 ?_; intro _) | intro _)
def HY (nE : Nat) (p0 : Int) (p1 : List (Int × Int)) : Int → Option (Int ⊕ (Unit ⊕ Bool))
  | x1 => (if x1 < (p1.length : Int) then (ix p1 x1).bind fun x2 => (if (decide (x2.1 < 0) || (decide (p0 ≤ x2.1) || (decide (x2.2 < 0) || decide (p0 ≤ x2.2)))) = true then some (.inr (.inr false)) else some (.inl (An (x1 + 1)))) else some (.inr (.inl ())))
theorem Mb (nE : Nat) (p0 : Int) (p1 : List (Int × Int)) : ∀ s, Le (HY nE p0 p1 s) (FB p0 p1 s) := by
  intro x1
  unfold HY FB
  repeat' with_reducible (first | refine Le.orR' ?_ ?_ | refine Le.bind' ?_ ?_ | refine Le.ite' ?_ ?_ | refine Le.loop' ?_ | refine Le.altS' ?_ ?_ | exact Le.rfl' _ | (refine Le.pi2 ?_; intro _) | intro _)
def JC (nE : Nat) (p0 : Int) (p1 : List (Int × Int)) : Option Bool := (if (decide (p0 < 0) || decide (16 < p0)) = true then some false else GN (DO nE (HY nE p0 p1) 0) fun _ => some true)
theorem N8 (nE : Nat) (p0 : Int) (p1 : List (Int × Int)) : Le (JC nE p0 p1) (GA p0 p1) := by
  unfold JC GA
  repeat' with_reducible (first | refine Le.orR' ?_ ?_ | refine Le.bind' ?_ ?_ | refine Le.ite' ?_ ?_ | refine Le.loop' ?_ | refine Le.altS' ?_ ?_ | apply Mb | exact Le.rfl' _ | (refine Le.pi2 ?_; intro _) | intro _)
def Fy (nE : Nat) (p0 : Int) (p1 : Int) : Option Int := (Uv (HG .u32 1 p1) p1).bind fun x1 => some (SY .u32 p0 x1)
theorem HE (nE : Nat) (p0 : Int) (p1 : Int) : Le (Fy nE p0 p1) (C6 p0 p1) := by
  unfold Fy C6
  repeat' with_reducible (first | refine Le.orR' ?_ ?_ | refine Le.bind' ?_ ?_ | refine Le.ite' ?_ ?_ | refine Le.loop' ?_ | refine Le.altS' ?_ ?_ | exact Le.rfl' _ | (refine Le.pi2 ?_; intro _) | intro _)
def Ge (nE : Nat) (p0 : List (Int × Int)) : (Int × Int × Int × Int × Int × Int × Int × Int × Int × Int × Int × Int × Int × Int × Int × Int × Int) → Option ((Int × Int × Int × Int × Int × Int × Int × Int × Int × Int × Int × Int × Int × Int × Int × Int × Int) ⊕ (Int × Int × Int × Int × Int × Int × Int × Int × Int × Int × Int × Int × Int × Int × Int × Int))
  | (x17, x18, x19, x20, x21, x22, x23, x24, x25, x26, x27, x28, x29, x30, x31, x32, x33) => (if x17 < (p0.length : Int) then (ix p0 x17).bind fun x34 => (ix ([x18, x19, x20, x21, x22, x23, x24, x25, x26, x27, x28, x29, x30, x31, x32, x33] : List Int) x34.1).bind fun x35 => (Fy nE x35 x34.2).bind fun x36 => (ix ([x18, x19, x20, x21, x22, x23, x24, x25, x26, x27, x28, x29, x30, x31, x32, x33] : List Int) x34.1).bind fun x37 => some (.inl (An (x17 + 1), (if x34.1 = 0 then x36 else x18), (if x34.1 = 1 then x36 else x19), (if x34.1 = 2 then x36 else x20), (if x34.1 = 3 then x36 else x21), (if x34.1 = 4 then x36 else x22), (if x34.1 = 5 then x36 else x23), (if x34.1 = 6 then x36 else x24), (if x34.1 = 7 then x36 else x25), (if x34.1 = 8 then x36 else x26), (if x34.1 = 9 then x36 else x27), (if x34.1 = 10 then x36 else x28), (if x34.1 = 11 then x36 else x29), (if x34.1 = 12 then x36 else x30), (if x34.1 = 13 then x36 else x31), (if x34.1 = 14 then x36 else x32), (if x34.1 = 15 then x36 else x33))) else some (.inr (x18, x19, x20, x21, x22, x23, x24, x25, x26, x27, x28, x29, x30, x31, x32, x33)))
theorem Kb (nE : Nat) (p0 : List (Int × Int)) : ∀ s, Le (Ge nE p0 s) (CH p0 s) := by
  rintro ⟨x17, x18, x19, x20, x21, x22, x23, x24, x25, x26, x27, x28, x29, x30, x31, x32, x33⟩
  unfold Ge CH
  repeat' with_reducible (first | refine Le.orR' ?_ ?_ | refine Le.bind' ?_ ?_ | refine Le.ite' ?_ ?_ | refine Le.loop' ?_ | refine Le.altS' ?_ ?_ | apply HE | exact Le.rfl' _ | (refine Le.pi2 ?_; intro _) | intro _)
def G0 (nE : Nat) (p0 : List (Int × Int)) : Option (Int × Int × Int × Int × Int × Int × Int × Int × Int × Int × Int × Int × Int × Int × Int × Int) := (DO nE (Ge nE p0) (0, 0, 0, 0, 0, 0, 0, 0, 0, 0, 0, 0, 0, 0, 0, 0, 0)).bind fun (x1, x2, x3, x4, x5, x6, x7, x8, x9, x10, x11, x12, x13, x14, x15, x16) => some (x1, x2, x3, x4, x5, x6, x7, x8, x9, x10, x11, x12, x13, x14, x15, x16)
theorem Lh (nE : Nat) (p0 : List (Int × Int)) : Le (G0 nE p0) (D4 p0) := by
  unfold G0 D4
  repeat' with_reducible (first | refine Le.orR' ?_ ?_ | refine Le.bind' ?_ ?_ | refine Le.ite' ?_ ?_ | refine Le.loop' ?_ | refine Le.altS' ?_ ?_ | apply Kb | exact Le.rfl' _ | (refine Le.pi2 ?_; intro _) | intro _)
def Fx (nE : Nat) (p0 : List (Int × Int)) : (Int × Int × Int × Int × Int × Int × Int × Int × Int × Int × Int × Int × Int × Int × Int × Int × Int) → Option ((Int × Int × Int × Int × Int × Int × Int × Int × Int × Int × Int × Int × Int × Int × Int × Int × Int) ⊕ (Int × Int × Int × Int × Int × Int × Int × Int × Int × Int × Int × Int × Int × Int × Int × Int))
  | (x17, x18, x19, x20, x21, x22, x23, x24, x25, x26, x27, x28, x29, x30, x31, x32, x33) => (if x17 < (p0.length : Int) then (ix p0 x17).bind fun x34 => (ix ([x18, x19, x20, x21, x22, x23, x24, x25, x26, x27, x28, x29, x30, x31, x32, x33] : List Int) x34.2).bind fun x35 => (Fy nE x35 x34.1).bind fun x36 => (ix ([x18, x19, x20, x21, x22, x23, x24, x25, x26, x27, x28, x29, x30, x31, x32, x33] : List Int) x34.2).bind fun x37 => some (.inl (An (x17 + 1), (if x34.2 = 0 then x36 else x18), (if x34.2 = 1 then x36 else x19), (if x34.2 = 2 then x36 else x20), (if x34.2 = 3 then x36 else x21), (if x34.2 = 4 then x36 else x22), (if x34.2 = 5 then x36 else x23), (if x34.2 = 6 then x36 else x24), (if x34.2 = 7 then x36 else x25), (if x34.2 = 8 then x36 else x26), (if x34.2 = 9 then x36 else x27), (if x34.2 = 10 then x36 else x28), (if x34.2 = 11 then x36 else x29), (if x34.2 = 12 then x36 else x30), (if x34.2 = 13 then x36 else x31), (if x34.2 = 14 then x36 else x32), (if x34.2 = 15 then x36 else x33))) else some (.inr (x18, x19, x20, x21, x22, x23, x24, x25, x26, x27, x28, x29, x30, x31, x32, x33)))
theorem Jt (nE : Nat) (p0 : List (Int × Int)) : ∀ s, Le (Fx nE p0 s) (Cq p0 s) := by
  rintro ⟨x17, x18, x19, x20, x21, x22, x23, x24, x25, x26, x27, x28, x29, x30, x31, x32, x33⟩
  unfold Fx Cq
  repeat' with_reducible (first | refine Le.orR' ?_ ?_ | refine Le.bind' ?_ ?_ | refine Le.ite' ?_ ?_ | refine Le.loop' ?_ | refine Le.altS' ?_ ?_ | apply HE | exact Le.rfl' _ | (refine Le.pi2 ?_; intro _) | intro _)
def Gn (nE : Nat) (p0 : List (Int × Int)) : Option (Int × Int × Int × Int × Int × Int × Int × Int × Int × Int × Int × Int × Int × Int × Int × Int) := (DO nE (Fx nE p0) (0, 0, 0, 0, 0, 0, 0, 0, 0, 0, 0, 0, 0, 0, 0, 0, 0)).bind fun (x1, x2, x3, x4, x5, x6, x7, x8, x9, x10, x11, x12, x13, x14, x15, x16) => some (x1, x2, x3, x4, x5, x6, x7, x8, x9, x10, x11, x12, x13, x14, x15, x16)
theorem Kw (nE : Nat) (p0 : List (Int × Int)) : Le (Gn nE p0) (DH p0) := by
  unfold Gn DH
  repeat' with_reducible (first | refine Le.orR' ?_ ?_ | refine Le.bind' ?_ ?_ | refine Le.ite' ?_ ?_ | refine Le.loop' ?_ | refine Le.altS' ?_ ?_ | apply Jt | exact Le.rfl' _ | (refine Le.pi2 ?_; intro _) | intro _)
def FX (nE : Nat) (p0 : Int) (p1 : Int) : Option Bool := (Uv (Jk .u32 p0 p1) p1).bind fun x1 => some (decide ((N6 .u32 x1 1) = 1))
theorem JL (nE : Nat) (p0 : Int) (p1 : Int) : Le (FX nE p0 p1) (Eb p0 p1) := by
  unfold FX Eb
  repeat' with_reducible (first | refine Le.orR' ?_ ?_ | refine Le.bind' ?_ ?_ | refine Le.ite' ?_ ?_ | refine Le.loop' ?_ | refine Le.altS' ?_ ?_ | exact Le.rfl' _ | (refine Le.pi2 ?_; intro _) | intro _)
def Gp (nE : Nat)  : (Int × Int × Int × Int × Int × Int × Int × Int × Int × Int × Int × Int × Int × Int × Int × Int × Int) → Option ((Int × Int × Int × Int × Int × Int × Int × Int × Int × Int × Int × Int × Int × Int × Int × Int × Int) ⊕ (Int × Int × Int × Int × Int × Int × Int × Int × Int × Int × Int × Int × Int × Int × Int × Int))
  | (x17, x18, x19, x20, x21, x22, x23, x24, x25, x26, x27, x28, x29, x30, x31, x32, x33) => (if x17 < 16 then (ix ([x18, x19, x20, x21, x22, x23, x24, x25, x26, x27, x28, x29, x30, x31, x32, x33] : List Int) x17).bind fun x34 => some (.inl (An (x17 + 1), (if x17 = 0 then (-1) else x18), (if x17 = 1 then (-1) else x19), (if x17 = 2 then (-1) else x20), (if x17 = 3 then (-1) else x21), (if x17 = 4 then (-1) else x22), (if x17 = 5 then (-1) else x23), (if x17 = 6 then (-1) else x24), (if x17 = 7 then (-1) else x25), (if x17 = 8 then (-1) else x26), (if x17 = 9 then (-1) else x27), (if x17 = 10 then (-1) else x28), (if x17 = 11 then (-1) else x29), (if x17 = 12 then (-1) else x30), (if x17 = 13 then (-1) else x31), (if x17 = 14 then (-1) else x32), (if x17 = 15 then (-1) else x33))) else some (.inr (x18, x19, x20, x21, x22, x23, x24, x25, x26, x27, x28, x29, x30, x31, x32, x33)))
theorem Kq (nE : Nat)  : ∀ s, Le (Gp nE  s) (CD  s) := by
  rintro ⟨x17, x18, x19, x20, x21, x22, x23, x24, x25, x26, x27, x28, x29, x30, x31, x32, x33⟩
  unfold Gp CD
  repeat' with_reducible (first | refine Le.orR' ?_ ?_ | refine Le.bind' ?_ ?_ | refine Le.ite' ?_ ?_ | refine Le.loop' ?_ | refine Le.altS' ?_ ?_ | exact Le.rfl' _ | (refine Le.pi2 ?_; intro _) | intro _)
def Gr (nE : Nat) (p0 : Int) (p1 : Int × Int × Int × Int × Int × Int × Int × Int × Int × Int × Int × Int × Int × Int × Int × Int) (x54 : Int) (x55 : Int) (x56 : Int) : (Int × Int × Int × Int × Int × Int × Int × Int × Int × Int × Int × Int × Int × Int × Int × Int × Int × Int) → Option ((Int × Int × Int × Int × Int × Int × Int × Int × Int × Int × Int × Int × Int × Int × Int × Int × Int × Int) ⊕ (Int × Int × Int × Int × Int × Int × Int × Int × Int × Int × Int × Int × Int × Int × Int × Int × Int))
  | (x107, x108, x109, x110, x111, x112, x113, x114, x115, x116, x117, x118, x119, x120, x121, x122, x123, x124) => (if x108 < p0 then (((FX nE x54 x108).bind fun x143 => (if x143 = true then (FX nE x55 x108).bind fun x144 => some (!x144) else some false)).bind fun x142 => (if x142 = true then (ix ([x109, x110, x111, x112, x113, x114, x115, x116, x117, x118, x119, x120, x121, x122, x123, x124] : List Int) x108).bind fun x145 => (ix ([p1.1, p1.2.1, p1.2.2.1, p1.2.2.2.1, p1.2.2.2.2.1, p1.2.2.2.2.2.1, p1.2.2.2.2.2.2.1, p1.2.2.2.2.2.2.2.1, p1.2.2.2.2.2.2.2.2.1, p1.2.2.2.2.2.2.2.2.2.1, p1.2.2.2.2.2.2.2.2.2.2.1, p1.2.2.2.2.2.2.2.2.2.2.2.1, p1.2.2.2.2.2.2.2.2.2.2.2.2.1, p1.2.2.2.2.2.2.2.2.2.2.2.2.2.1, p1.2.2.2.2.2.2.2.2.2.2.2.2.2.2.1, p1.2.2.2.2.2.2.2.2.2.2.2.2.2.2.2] : List Int) x108).bind fun x146 => some (SY .u32 x107 x146, (if x108 = 0 then An (x56 + 1) else x109), (if x108 = 1 then An (x56 + 1) else x110), (if x108 = 2 then An (x56 + 1) else x111), (if x108 = 3 then An (x56 + 1) else x112), (if x108 = 4 then An (x56 + 1) else x113), (if x108 = 5 then An (x56 + 1) else x114), (if x108 = 6 then An (x56 + 1) else x115), (if x108 = 7 then An (x56 + 1) else x116), (if x108 = 8 then An (x56 + 1) else x117), (if x108 = 9 then An (x56 + 1) else x118), (if x108 = 10 then An (x56 + 1) else x119), (if x108 = 11 then An (x56 + 1) else x120), (if x108 = 12 then An (x56 + 1) else x121), (if x108 = 13 then An (x56 + 1) else x122), (if x108 = 14 then An (x56 + 1) else x123), (if x108 = 15 then An (x56 + 1) else x124)) else some (x107, x109, x110, x111, x112, x113, x114, x115, x116, x117, x118, x119, x120, x121, x122, x123, x124))).bind fun (x125, x126, x127, x128, x129, x130, x131, x132, x133, x134, x135, x136, x137, x138, x139, x140, x141) => some (.inl (x125, An (x108 + 1), x126, x127, x128, x129, x130, x131, x132, x133, x134, x135, x136, x137, x138, x139, x140, x141)) else some (.inr (x107, x109, x110, x111, x112, x113, x114, x115, x116, x117, x118, x119, x120, x121, x122, x123, x124)))
theorem Kt (nE : Nat) (p0 : Int) (p1 : Int × Int × Int × Int × Int × Int × Int × Int × Int × Int × Int × Int × Int × Int × Int × Int) (x54 : Int) (x55 : Int) (x56 : Int) : ∀ s, Le (Gr nE p0 p1 x54 x55 x56 s) (BV p0 p1 x54 x55 x56 s) := by
  rintro ⟨x107, x108, x109, x110, x111, x112, x113, x114, x115, x116, x117, x118, x119, x120, x121, x122, x123, x124⟩
  unfold Gr BV
  repeat' with_reducible (first | refine Le.orR' ?_ ?_ | refine Le.bind' ?_ ?_ | refine Le.ite' ?_ ?_ | refine Le.loop' ?_ | refine Le.altS' ?_ ?_ | apply JL | exact Le.rfl' _ | (refine Le.pi2 ?_; intro _) | intro _)
def GB (nE : Nat) (p0 : Int) (p1 : Int × Int × Int × Int × Int × Int × Int × Int × Int × Int × Int × Int × Int × Int × Int × Int) : (Int × Int × Int × Int × Int × Int × Int × Int × Int × Int × Int × Int × Int × Int × Int × Int × Int × Int × Int) → Option ((Int × Int × Int × Int × Int × Int × Int × Int × Int × Int × Int × Int × Int × Int × Int × Int × Int × Int × Int) ⊕ (Int × Int × Int × Int × Int × Int × Int × Int × Int × Int × Int × Int × Int × Int × Int × Int))
  | (x54, x55, x56, x57, x58, x59, x60, x61, x62, x63, x64, x65, x66, x67, x68, x69, x70, x71, x72) => (if x56 < p0 then ((DO nE (Gr nE p0 p1 x54 x55 x56) (0, 0, x57, x58, x59, x60, x61, x62, x63, x64, x65, x66, x67, x68, x69, x70, x71, x72)).bind fun (x90, x91, x92, x93, x94, x95, x96, x97, x98, x99, x100, x101, x102, x103, x104, x105, x106) => some (x90, x91, x92, x93, x94, x95, x96, x97, x98, x99, x100, x101, x102, x103, x104, x105, x106)).bind fun (x73, x74, x75, x76, x77, x78, x79, x80, x81, x82, x83, x84, x85, x86, x87, x88, x89) => some (.inl (x73, SY .u32 x55 x54, An (x56 + 1), x74, x75, x76, x77, x78, x79, x80, x81, x82, x83, x84, x85, x86, x87, x88, x89)) else some (.inr (x57, x58, x59, x60, x61, x62, x63, x64, x65, x66, x67, x68, x69, x70, x71, x72)))
theorem Ku (nE : Nat) (p0 : Int) (p1 : Int × Int × Int × Int × Int × Int × Int × Int × Int × Int × Int × Int × Int × Int × Int × Int) : ∀ s, Le (GB nE p0 p1 s) (Cp p0 p1 s) := by
  rintro ⟨x54, x55, x56, x57, x58, x59, x60, x61, x62, x63, x64, x65, x66, x67, x68, x69, x70, x71, x72⟩
  unfold GB Cp
  repeat' with_reducible (first | refine Le.orR' ?_ ?_ | refine Le.bind' ?_ ?_ | refine Le.ite' ?_ ?_ | refine Le.loop' ?_ | refine Le.altS' ?_ ?_ | apply Kt | exact Le.rfl' _ | (refine Le.pi2 ?_; intro _) | intro _)
def Hv (nE : Nat) (p0 : Int) (p1 : Int × Int × Int × Int × Int × Int × Int × Int × Int × Int × Int × Int × Int × Int × Int × Int) (p2 : Int) : Option (Int × Int × Int × Int × Int × Int × Int × Int × Int × Int × Int × Int × Int × Int × Int × Int) := (DO nE (Gp nE) (0, 0, 0, 0, 0, 0, 0, 0, 0, 0, 0, 0, 0, 0, 0, 0, 0)).bind fun (x1, x2, x3, x4, x5, x6, x7, x8, x9, x10, x11, x12, x13, x14, x15, x16) => (ix ([x1, x2, x3, x4, x5, x6, x7, x8, x9, x10, x11, x12, x13, x14, x15, x16] : List Int) p2).bind fun x35 => (ix ([p1.1, p1.2.1, p1.2.2.1, p1.2.2.2.1, p1.2.2.2.2.1, p1.2.2.2.2.2.1, p1.2.2.2.2.2.2.1, p1.2.2.2.2.2.2.2.1, p1.2.2.2.2.2.2.2.2.1, p1.2.2.2.2.2.2.2.2.2.1, p1.2.2.2.2.2.2.2.2.2.2.1, p1.2.2.2.2.2.2.2.2.2.2.2.1, p1.2.2.2.2.2.2.2.2.2.2.2.2.1, p1.2.2.2.2.2.2.2.2.2.2.2.2.2.1, p1.2.2.2.2.2.2.2.2.2.2.2.2.2.2.1, p1.2.2.2.2.2.2.2.2.2.2.2.2.2.2.2] : List Int) p2).bind fun x36 => (Fy nE 0 p2).bind fun x37 => (DO nE (GB nE p0 p1) (x36, x37, 0, (if p2 = 0 then 0 else x1), (if p2 = 1 then 0 else x2), (if p2 = 2 then 0 else x3), (if p2 = 3 then 0 else x4), (if p2 = 4 then 0 else x5), (if p2 = 5 then 0 else x6), (if p2 = 6 then 0 else x7), (if p2 = 7 then 0 else x8), (if p2 = 8 then 0 else x9), (if p2 = 9 then 0 else x10), (if p2 = 10 then 0 else x11), (if p2 = 11 then 0 else x12), (if p2 = 12 then 0 else x13), (if p2 = 13 then 0 else x14), (if p2 = 14 then 0 else x15), (if p2 = 15 then 0 else x16))).bind fun (x38, x39, x40, x41, x42, x43, x44, x45, x46, x47, x48, x49, x50, x51, x52, x53) => some (x38, x39, x40, x41, x42, x43, x44, x45, x46, x47, x48, x49, x50, x51, x52, x53)
theorem Lv (nE : Nat) (p0 : Int) (p1 : Int × Int × Int × Int × Int × Int × Int × Int × Int × Int × Int × Int × Int × Int × Int × Int) (p2 : Int) : Le (Hv nE p0 p1 p2) (En p0 p1 p2) := by
  unfold Hv En
  repeat' with_reducible (first | refine Le.orR' ?_ ?_ | refine Le.bind' ?_ ?_ | refine Le.ite' ?_ ?_ | refine Le.loop' ?_ | refine Le.altS' ?_ ?_ | apply HE | apply Kq | apply Ku | exact Le.rfl' _ | (refine Le.pi2 ?_; intro _) | intro _)
def Hc (nE : Nat) (p0 : Int) (p1 : Int) (p2 : Int × Int × Int × Int × Int × Int × Int × Int × Int × Int × Int × Int × Int × Int × Int × Int) : (Int × Int) → Option ((Int × Int) ⊕ Int)
  | (x2, x3) => (if x3 < p0 then (((FX nE p1 x3).bind fun x6 => (if x6 = true then (ix ([p2.1, p2.2.1, p2.2.2.1, p2.2.2.2.1, p2.2.2.2.2.1, p2.2.2.2.2.2.1, p2.2.2.2.2.2.2.1, p2.2.2.2.2.2.2.2.1, p2.2.2.2.2.2.2.2.2.1, p2.2.2.2.2.2.2.2.2.2.1, p2.2.2.2.2.2.2.2.2.2.2.1, p2.2.2.2.2.2.2.2.2.2.2.2.1, p2.2.2.2.2.2.2.2.2.2.2.2.2.1, p2.2.2.2.2.2.2.2.2.2.2.2.2.2.1, p2.2.2.2.2.2.2.2.2.2.2.2.2.2.2.1, p2.2.2.2.2.2.2.2.2.2.2.2.2.2.2.2] : List Int) x3).bind fun x7 => (if 0 ≤ x7 then (if x2 < 0 then some true else (ix ([p2.1, p2.2.1, p2.2.2.1, p2.2.2.2.1, p2.2.2.2.2.1, p2.2.2.2.2.2.1, p2.2.2.2.2.2.2.1, p2.2.2.2.2.2.2.2.1, p2.2.2.2.2.2.2.2.2.1, p2.2.2.2.2.2.2.2.2.2.1, p2.2.2.2.2.2.2.2.2.2.2.1, p2.2.2.2.2.2.2.2.2.2.2.2.1, p2.2.2.2.2.2.2.2.2.2.2.2.2.1, p2.2.2.2.2.2.2.2.2.2.2.2.2.2.1, p2.2.2.2.2.2.2.2.2.2.2.2.2.2.2.1, p2.2.2.2.2.2.2.2.2.2.2.2.2.2.2.2] : List Int) x3).bind fun x8 => (ix ([p2.1, p2.2.1, p2.2.2.1, p2.2.2.2.1, p2.2.2.2.2.1, p2.2.2.2.2.2.1, p2.2.2.2.2.2.2.1, p2.2.2.2.2.2.2.2.1, p2.2.2.2.2.2.2.2.2.1, p2.2.2.2.2.2.2.2.2.2.1, p2.2.2.2.2.2.2.2.2.2.2.1, p2.2.2.2.2.2.2.2.2.2.2.2.1, p2.2.2.2.2.2.2.2.2.2.2.2.2.1, p2.2.2.2.2.2.2.2.2.2.2.2.2.2.1, p2.2.2.2.2.2.2.2.2.2.2.2.2.2.2.1, p2.2.2.2.2.2.2.2.2.2.2.2.2.2.2.2] : List Int) x2).bind fun x9 => some (decide (x8 < x9))) else some false) else some false)).bind fun x5 => (if x5 = true then some x3 else some x2)).bind fun x4 => some (.inl (x4, An (x3 + 1))) else some (.inr x2))
theorem Li (nE : Nat) (p0 : Int) (p1 : Int) (p2 : Int × Int × Int × Int × Int × Int × Int × Int × Int × Int × Int × Int × Int × Int × Int × Int) : ∀ s, Le (Hc nE p0 p1 p2 s) (Cx p0 p1 p2 s) := by
  rintro ⟨x2, x3⟩
  unfold Hc Cx
  repeat' with_reducible (first | refine Le.orR' ?_ ?_ | refine Le.bind' ?_ ?_ | refine Le.ite' ?_ ?_ | refine Le.loop' ?_ | refine Le.altS' ?_ ?_ | apply JL | exact Le.rfl' _ | (refine Le.pi2 ?_; intro _) | intro _)
def GX (nE : Nat) (p0 : Int) (p1 : Int) (p2 : Int × Int × Int × Int × Int × Int × Int × Int × Int × Int × Int × Int × Int × Int × Int × Int) : Option Int := (DO nE (Hc nE p0 p1 p2) ((-1), 0)).bind fun x1 => some x1
theorem JQ (nE : Nat) (p0 : Int) (p1 : Int) (p2 : Int × Int × Int × Int × Int × Int × Int × Int × Int × Int × Int × Int × Int × Int × Int × Int) : Le (GX nE p0 p1 p2) (D7 p0 p1 p2) := by
  unfold GX D7
  repeat' with_reducible (first | refine Le.orR' ?_ ?_ | refine Le.bind' ?_ ?_ | refine Le.ite' ?_ ?_ | refine Le.loop' ?_ | refine Le.altS' ?_ ?_ | apply Li | exact Le.rfl' _ | (refine Le.pi2 ?_; intro _) | intro _)
def Ih (nE : Nat) (p0 : Int) (x2 : (Int × Int × Int × Int × Int × Int × Int × Int × Int × Int × Int × Int × Int × Int × Int × Int)) (x3 : Int) (x5 : (Int × Int × Int × Int × Int × Int × Int × Int × Int × Int × Int × Int × Int × Int × Int × Int)) : (List Int × Int) → Option ((List Int × Int) ⊕ (List Int))
  | (x9, x10) => (if x10 ≠ x3 then (H4 x9 ([x10] : List Int)).bind fun x11 => (ix ([x2.1, x2.2.1, x2.2.2.1, x2.2.2.2.1, x2.2.2.2.2.1, x2.2.2.2.2.2.1, x2.2.2.2.2.2.2.1, x2.2.2.2.2.2.2.2.1, x2.2.2.2.2.2.2.2.2.1, x2.2.2.2.2.2.2.2.2.2.1, x2.2.2.2.2.2.2.2.2.2.2.1, x2.2.2.2.2.2.2.2.2.2.2.2.1, x2.2.2.2.2.2.2.2.2.2.2.2.2.1, x2.2.2.2.2.2.2.2.2.2.2.2.2.2.1, x2.2.2.2.2.2.2.2.2.2.2.2.2.2.2.1, x2.2.2.2.2.2.2.2.2.2.2.2.2.2.2.2] : List Int) x10).bind fun x12 => (GX nE p0 x12 x5).bind fun x13 => some (.inl (x11, x13)) else some (.inr x9))
theorem MG (nE : Nat) (p0 : Int) (x2 : (Int × Int × Int × Int × Int × Int × Int × Int × Int × Int × Int × Int × Int × Int × Int × Int)) (x3 : Int) (x5 : (Int × Int × Int × Int × Int × Int × Int × Int × Int × Int × Int × Int × Int × Int × Int × Int)) : ∀ s, Le (Ih nE p0 x2 x3 x5 s) (Fa p0 x2 x3 x5 s) := by
  rintro ⟨x9, x10⟩
  unfold Ih Fa
  repeat' with_reducible (first | refine Le.orR' ?_ ?_ | refine Le.bind' ?_ ?_ | refine Le.ite' ?_ ?_ | refine Le.loop' ?_ | refine Le.altS' ?_ ?_ | apply JQ | exact Le.rfl' _ | (refine Le.pi2 ?_; intro _) | intro _)
def Ij (nE : Nat) (p0 : Int) (p1 : List (Int × Int)) (x2 : (Int × Int × Int × Int × Int × Int × Int × Int × Int × Int × Int × Int × Int × Int × Int × Int)) : Int → Option (Int ⊕ (Unit ⊕ (List Int)))
  | x3 => (if x3 < p0 then GN ((Gn nE p1).bind fun x4 => (Hv nE p0 x4 x3).bind fun x5 => (ix ([x2.1, x2.2.1, x2.2.2.1, x2.2.2.2.1, x2.2.2.2.2.1, x2.2.2.2.2.2.1, x2.2.2.2.2.2.2.1, x2.2.2.2.2.2.2.2.1, x2.2.2.2.2.2.2.2.2.1, x2.2.2.2.2.2.2.2.2.2.1, x2.2.2.2.2.2.2.2.2.2.2.1, x2.2.2.2.2.2.2.2.2.2.2.2.1, x2.2.2.2.2.2.2.2.2.2.2.2.2.1, x2.2.2.2.2.2.2.2.2.2.2.2.2.2.1, x2.2.2.2.2.2.2.2.2.2.2.2.2.2.2.1, x2.2.2.2.2.2.2.2.2.2.2.2.2.2.2.2] : List Int) x3).bind fun x6 => (GX nE p0 x6 x5).bind fun x7 => (if x7 < 0 then some (.inl ()) else (DO nE (Ih nE p0 x2 x3 x5) (([x3] : List Int), x7)).bind fun x8 => some (.inr (.inr (.inr x8))))) fun _ => some (.inl (An (x3 + 1))) else some (.inr (.inl ())))
theorem MV (nE : Nat) (p0 : Int) (p1 : List (Int × Int)) (x2 : (Int × Int × Int × Int × Int × Int × Int × Int × Int × Int × Int × Int × Int × Int × Int × Int)) : ∀ s, Le (Ij nE p0 p1 x2 s) (F4 p0 p1 x2 s) := by
  intro x3
  unfold Ij F4
  repeat' with_reducible (first | refine Le.orR' ?_ ?_ | refine Le.bind' ?_ ?_ | refine Le.ite' ?_ ?_ | refine Le.loop' ?_ | refine Le.altS' ?_ ?_ | apply Kw | apply Lv | apply JQ | apply MG | exact Le.rfl' _ | (refine Le.pi2 ?_; intro _) | intro _)
def J5 (nE : Nat) (p0 : Int) (p1 : List (Int × Int)) : Option (List Int) := (JC nE p0 p1).bind fun x1 => (if (!x1) = true then some ([] : List Int) else (G0 nE p1).bind fun x2 => GN (DO nE (Ij nE p0 p1 x2) 0) fun _ => some ([] : List Int))
theorem OT (nE : Nat) (p0 : Int) (p1 : List (Int × Int)) : Le (J5 nE p0 p1) (Em p0 p1) := by
  unfold J5 Em
  repeat' with_reducible (first | refine Le.orR' ?_ ?_ | refine Le.bind' ?_ ?_ | refine Le.ite' ?_ ?_ | refine Le.loop' ?_ | refine Le.altS' ?_ ?_ | apply N8 | apply Lh | apply MV | exact Le.rfl' _ | (refine Le.pi2 ?_; intro _) | intro _)
def E9 (nE : Nat) (p0 : (Int × (List (Int × Int × Int × Int × Int × Int)) × (List (Int × Int))) × List (List Int) × List (List Int) × ((List (Int × Int × Int × Int)) × (List (Int × Int × List Int)) × Int × Int × Int × Int)) (p3 : Int) (x5 : Int) (x9 : List Int) : ((List (Int × Int)) × Bool × Int) → Option (((List (Int × Int)) × Bool × Int) ⊕ ((List (Int × Int)) × Bool))
  | (x10, x11, x12) => (if x12 < (x9.length : Int) then ((ix x9 x12).bind fun x15 => (Jl nE p0.1 x5 x15).bind fun x16 => (if x16.2.2.2 = true then (H4 x10 ([(x5, x16.1)] : List (Int × Int))).bind fun x17 => some (x17, x11) else (H1 nE p0.1 x5 x15).bind fun x18 => (if x18 ≠ p3 then some (x10, true) else some (x10, x11)))).bind fun (x13, x14) => some (.inl (x13, x14, An (x12 + 1))) else some (.inr (x10, x11)))
theorem Ji (nE : Nat) (p0 : (Int × (List (Int × Int × Int × Int × Int × Int)) × (List (Int × Int))) × List (List Int) × List (List Int) × ((List (Int × Int × Int × Int)) × (List (Int × Int × List Int)) × Int × Int × Int × Int)) (p3 : Int) (x5 : Int) (x9 : List Int) : ∀ s, Le (E9 nE p0 p3 x5 x9 s) (CA p0 p3 x5 x9 s) := by
  rintro ⟨x10, x11, x12⟩
  unfold E9 CA
  repeat' with_reducible (first | refine Le.orR' ?_ ?_ | refine Le.bind' ?_ ?_ | refine Le.ite' ?_ ?_ | refine Le.loop' ?_ | refine Le.altS' ?_ ?_ | apply KV | apply LV | exact Le.rfl' _ | (refine Le.pi2 ?_; intro _) | intro _)
def E7 (nE : Nat) (p0 : (Int × (List (Int × Int × Int × Int × Int × Int)) × (List (Int × Int))) × List (List Int) × List (List Int) × ((List (Int × Int × Int × Int)) × (List (Int × Int × List Int)) × Int × Int × Int × Int)) (p1 : List (List (List Int))) (p3 : Int) : ((List (Int × Int)) × Bool × Int) → Option (((List (Int × Int)) × Bool × Int) ⊕ ((List (Int × Int)) × Bool))
  | (x3, x4, x5) => (if x5 < (p1.length : Int) then ((ix p1 x5).bind fun x8 => (ix x8 p3).bind fun x9 => DO nE (E9 nE p0 p3 x5 x9) (x3, x4, 0)).bind fun (x6, x7) => some (.inl (x6, x7, An (x5 + 1))) else some (.inr (x3, x4)))
theorem Jh (nE : Nat) (p0 : (Int × (List (Int × Int × Int × Int × Int × Int)) × (List (Int × Int))) × List (List Int) × List (List Int) × ((List (Int × Int × Int × Int)) × (List (Int × Int × List Int)) × Int × Int × Int × Int)) (p1 : List (List (List Int))) (p3 : Int) : ∀ s, Le (E7 nE p0 p1 p3 s) (CY p0 p1 p3 s) := by
  rintro ⟨x3, x4, x5⟩
  unfold E7 CY
  repeat' with_reducible (first | refine Le.orR' ?_ ?_ | refine Le.bind' ?_ ?_ | refine Le.ite' ?_ ?_ | refine Le.loop' ?_ | refine Le.altS' ?_ ?_ | apply Ji | exact Le.rfl' _ | (refine Le.pi2 ?_; intro _) | intro _)
def F8 (nE : Nat) (p0 : (Int × (List (Int × Int × Int × Int × Int × Int)) × (List (Int × Int))) × List (List Int) × List (List Int) × ((List (Int × Int × Int × Int)) × (List (Int × Int × List Int)) × Int × Int × Int × Int)) (p1 : List (List (List Int))) (p2 : Int) (p3 : Int) : Option (List (Int × Int × Int)) := (DO nE (E7 nE p0 p1 p3) ([], false, 0)).bind fun (x1, x2) => (if x2 = true then (H4 ([] : List (Int × Int × Int)) ([(5, p2, p3)] : List (Int × Int × Int))).bind fun x20 => some x20 else some ([])).bind fun x19 => ((J5 nE p0.1.1 x1).bind fun x22 => (if 0 < (x22.length : Int) then (H4 x19 ([(6, p2, p3)] : List (Int × Int × Int))).bind fun x23 => some x23 else some x19)).bind fun x21 => some x21
theorem JZ (nE : Nat) (p0 : (Int × (List (Int × Int × Int × Int × Int × Int)) × (List (Int × Int))) × List (List Int) × List (List Int) × ((List (Int × Int × Int × Int)) × (List (Int × Int × List Int)) × Int × Int × Int × Int)) (p1 : List (List (List Int))) (p2 : Int) (p3 : Int) : Le (F8 nE p0 p1 p2 p3) (Dv p0 p1 p2 p3) := by
  unfold F8 Dv
  repeat' with_reducible (first | refine Le.orR' ?_ ?_ | refine Le.bind' ?_ ?_ | refine Le.ite' ?_ ?_ | refine Le.loop' ?_ | refine Le.altS' ?_ ?_ | apply OT | apply Jh | exact Le.rfl' _ | (refine Le.pi2 ?_; intro _) | intro _)
def EO (nE : Nat) (p0 : (Int × (List (Int × Int × Int × Int × Int × Int)) × (List (Int × Int))) × List (List Int) × List (List Int) × ((List (Int × Int × Int × Int)) × (List (Int × Int × List Int)) × Int × Int × Int × Int)) (x8 : Int × Int × List Int) : ((List (Nat × List Int)) × (List (Nat × List (Nat × List Int))) × Int) → Option (((List (Nat × List Int)) × (List (Nat × List (Nat × List Int))) × Int) ⊕ ((List (Nat × List Int)) × (List (Nat × List (Nat × List Int)))))
  | (x13, x14, x15) => (if x15 < (p0.2.2.2.1.length : Int) then ((ix p0.2.2.2.1 x15).bind fun x18 => (if (BK p0 x18) = true then (GF nE x8 x18).bind fun x22 => some (x13, x14, x22) else some (x13, x14, false)).bind fun (x19, x20, x21) => (if x21 = true then (ix x20 x18.1).bind fun x23 => (ix x23.2 x18.2.1).bind fun x24 => (KH x23.1).bind fun x25 => (KH x24.1).bind fun x26 => (H4 x24.2 ([x18.2.2.1] : List Int)).bind fun x27 => (ix (Ah x23.2 x18.2.1 (0, [])) x18.2.1).bind fun x28 => (ix x19 x18.1).bind fun x29 => (ix x29.2 x18.2.1).bind fun x30 => (Rm x29.1).bind fun x31 => (KH x29.1).bind fun x32 => some ((Ah x19 x18.1 (2, (Ah x29.2 x18.2.1 x18.2.2.1))), (Ah (Ah x20 x18.1 (2, (Ah x23.2 x18.2.1 (0, [])))) x18.1 (2, (Ah (Ah x23.2 x18.2.1 (0, [])) x18.2.1 (2, x27))))) else some (x19, x20))).bind fun (x16, x17) => some (.inl (x16, x17, An (x15 + 1))) else some (.inr (x13, x14)))
theorem Iy (nE : Nat) (p0 : (Int × (List (Int × Int × Int × Int × Int × Int)) × (List (Int × Int))) × List (List Int) × List (List Int) × ((List (Int × Int × Int × Int)) × (List (Int × Int × List Int)) × Int × Int × Int × Int)) (x8 : Int × Int × List Int) : ∀ s, Le (EO nE p0 x8 s) (BZ p0 x8 s) := by
  rintro ⟨x13, x14, x15⟩
  unfold EO BZ
  repeat' with_reducible (first | refine Le.orR' ?_ ?_ | refine Le.bind' ?_ ?_ | refine Le.ite' ?_ ?_ | refine Le.loop' ?_ | refine Le.altS' ?_ ?_ | apply Jo | exact Le.rfl' _ | (refine Le.pi2 ?_; intro _) | intro _)
def EH (nE : Nat) (p0 : (Int × (List (Int × Int × Int × Int × Int × Int)) × (List (Int × Int))) × List (List Int) × List (List Int) × ((List (Int × Int × Int × Int)) × (List (Int × Int × List Int)) × Int × Int × Int × Int)) (x5 : Int) (x11 : List (Nat × List Int)) (x12 : List (Nat × List (Nat × List Int))) : ((List (Int × Int × Int)) × Int) → Option (((List (Int × Int × Int)) × Int) ⊕ ((List (Int × Int × Int)) × (List (Nat × List Int))))
  | (x33, x34) => (if x34 < (p0.1.2.2.length : Int) then (I2 U8 x12).bind fun x35 => (F8 nE p0 x35 x5 x34).bind fun x36 => (H4 x33 x36).bind fun x37 => some (.inl (x37, An (x34 + 1))) else some (.inr (x33, x11)))
theorem IC (nE : Nat) (p0 : (Int × (List (Int × Int × Int × Int × Int × Int)) × (List (Int × Int))) × List (List Int) × List (List Int) × ((List (Int × Int × Int × Int)) × (List (Int × Int × List Int)) × Int × Int × Int × Int)) (x5 : Int) (x11 : List (Nat × List Int)) (x12 : List (Nat × List (Nat × List Int))) : ∀ s, Le (EH nE p0 x5 x11 x12 s) (B0 p0 x5 x11 x12 s) := by
  rintro ⟨x33, x34⟩
  unfold EH B0
  repeat' with_reducible (first | refine Le.orR' ?_ ?_ | refine Le.bind' ?_ ?_ | refine Le.ite' ?_ ?_ | refine Le.loop' ?_ | refine Le.altS' ?_ ?_ | apply JZ | exact Le.rfl' _ | (refine Le.pi2 ?_; intro _) | intro _)
def EL (nE : Nat) (p0 : (Int × (List (Int × Int × Int × Int × Int × Int)) × (List (Int × Int))) × List (List Int) × List (List Int) × ((List (Int × Int × Int × Int)) × (List (Int × Int × List Int)) × Int × Int × Int × Int)) : ((List (Int × Int × Int)) × (List (Nat × List Int)) × Int) → Option (((List (Int × Int × Int)) × (List (Nat × List Int)) × Int) ⊕ (List (Int × Int × Int)))
  | (x3, x4, x5) => (if x5 < (p0.2.2.2.2.1.length : Int) then ((ix p0.2.2.2.2.1 x5).bind fun x8 => (I2 SW x4).bind fun x9 => (IR nE x9).bind fun x10 => (DO nE (EO nE p0 x8) (x4, x10, 0)).bind fun (x11, x12) => DO nE (EH nE p0 x5 x11 x12) (x3, 0)).bind fun (x6, x7) => some (.inl (x6, x7, An (x5 + 1))) else some (.inr x3))
theorem IA (nE : Nat) (p0 : (Int × (List (Int × Int × Int × Int × Int × Int)) × (List (Int × Int))) × List (List Int) × List (List Int) × ((List (Int × Int × Int × Int)) × (List (Int × Int × List Int)) × Int × Int × Int × Int)) : ∀ s, Le (EL nE p0 s) (CC p0 s) := by
  rintro ⟨x3, x4, x5⟩
  unfold EL CC
  repeat' with_reducible (first | refine Le.orR' ?_ ?_ | refine Le.bind' ?_ ?_ | refine Le.ite' ?_ ?_ | refine Le.loop' ?_ | refine Le.altS' ?_ ?_ | apply Nj | apply Iy | apply IC | exact Le.rfl' _ | (refine Le.pi2 ?_; intro _) | intro _)
def Fv (nE : Nat) (p0 : (Int × (List (Int × Int × Int × Int × Int × Int)) × (List (Int × Int))) × List (List Int) × List (List Int) × ((List (Int × Int × Int × Int)) × (List (Int × Int × List Int)) × Int × Int × Int × Int)) : Option (List (Int × Int × Int)) := (IU nE p0.2.1).bind fun x1 => (DO nE (EL nE p0) ([], x1, 0)).bind fun x2 => some x2
theorem JB (nE : Nat) (p0 : (Int × (List (Int × Int × Int × Int × Int × Int)) × (List (Int × Int))) × List (List Int) × List (List Int) × ((List (Int × Int × Int × Int)) × (List (Int × Int × List Int)) × Int × Int × Int × Int)) : Le (Fv nE p0) (Da p0) := by
  unfold Fv Da
  repeat' with_reducible (first | refine Le.orR' ?_ ?_ | refine Le.bind' ?_ ?_ | refine Le.ite' ?_ ?_ | refine Le.loop' ?_ | refine Le.altS' ?_ ?_ | apply Nv | apply IA | exact Le.rfl' _ | (refine Le.pi2 ?_; intro _) | intro _)
def C4 (nE : Nat) (p1 : Int) : Option (List (Int × Int × Int)) := (if p1 < 0 then none else (if 0 < (An (p1 - (An (0 - (([] : List (Int × Int × Int)).length : Int))))) then (J3 ([] : List (Int × Int × Int)) 0 0).bind fun x2 => (X6 0 (An (p1 - (An (0 - (([] : List (Int × Int × Int)).length : Int))))).toNat).bind fun x3 => (mk (An (p1 - (An (0 - (([] : List (Int × Int × Int)).length : Int))))) ((0, 0, 0) : Int × Int × Int)).bind fun x4 => (J3 x4 0 (([] : List (Int × Int × Int)).length : Int)).bind fun x5 => some x5 else some ([])).bind fun x1 => some x1)
theorem FS (nE : Nat) (p1 : Int) : Le (C4 nE p1) (Bh p1) := by
  unfold C4 Bh
  repeat' with_reducible (first | refine Le.orR' ?_ ?_ | refine Le.bind' ?_ ?_ | refine Le.ite' ?_ ?_ | refine Le.loop' ?_ | refine Le.altS' ?_ ?_ | exact Le.rfl' _ | (refine Le.pi2 ?_; intro _) | intro _)
def CG (nE : Nat) (p0 : List (List (Int × Int × Int))) : (Int × Int) → Option ((Int × Int) ⊕ Int)
  | (x2, x3) => (if x3 < (p0.length : Int) then (ix p0 x3).bind fun x4 => (if (An (x2 + (x4.length : Int))) < 0 then none else some (.inl (An (x2 + (x4.length : Int)), An (x3 + 1)))) else some (.inr x2))
theorem E0 (nE : Nat) (p0 : List (List (Int × Int × Int))) : ∀ s, Le (CG nE p0 s) (AR p0 s) := by
  rintro ⟨x2, x3⟩
  unfold CG AR
  repeat' with_reducible (first | refine Le.orR' ?_ ?_ | refine Le.bind' ?_ ?_ | refine Le.ite' ?_ ?_ | refine Le.loop' ?_ | refine Le.altS' ?_ ?_ | exact Le.rfl' _ | (refine Le.pi2 ?_; intro _) | intro _)
def CE (nE : Nat) (p0 : List (List (Int × Int × Int))) : ((List (Int × Int × Int)) × Int) → Option (((List (Int × Int × Int)) × Int) ⊕ (List (Int × Int × Int)))
  | (x7, x8) => (if x8 < (p0.length : Int) then (ix p0 x8).bind fun x9 => (H4 x7 x9).bind fun x10 => some (.inl (x10, An (x8 + 1))) else some (.inr x7))
theorem E4 (nE : Nat) (p0 : List (List (Int × Int × Int))) : ∀ s, Le (CE nE p0 s) (AS p0 s) := by
  rintro ⟨x7, x8⟩
  unfold CE AS
  repeat' with_reducible (first | refine Le.orR' ?_ ?_ | refine Le.bind' ?_ ?_ | refine Le.ite' ?_ ?_ | refine Le.loop' ?_ | refine Le.altS' ?_ ?_ | exact Le.rfl' _ | (refine Le.pi2 ?_; intro _) | intro _)
def CS (nE : Nat) (p0 : List (List (Int × Int × Int))) : Option (List (Int × Int × Int)) := (DO nE (CG nE p0) (0, 0)).bind fun x1 => (C4 nE x1).bind fun x5 => (DO nE (CE nE p0) (x5, 0)).bind fun x6 => some x6
theorem FD (nE : Nat) (p0 : List (List (Int × Int × Int))) : Le (CS nE p0) (Bd p0) := by
  unfold CS Bd
  repeat' with_reducible (first | refine Le.orR' ?_ ?_ | refine Le.bind' ?_ ?_ | refine Le.ite' ?_ ?_ | refine Le.loop' ?_ | refine Le.altS' ?_ ?_ | apply FS | apply E0 | apply E4 | exact Le.rfl' _ | (refine Le.pi2 ?_; intro _) | intro _)
def HZ (nE : Nat) (p0 : Int × (List (Int × Int × Int × Int × Int × Int)) × (List (Int × Int))) (p1 : List (List Int)) (p2 : List (List Int)) (p3 : (List (Int × Int × Int × Int)) × (List (Int × Int × List Int)) × Int × Int × Int × Int) : Option (List (Int × Int × Int)) := ((II nE p0 p1).bind fun x2 => (if (!x2) = true then some true else (II nE p0 p2).bind fun x3 => some (!x3))).bind fun x1 => (if x1 = true then some ([(1, 0, 0)] : List (Int × Int × Int)) else (FU nE (p0, p1, p2, p3)).bind fun x4 => (Gw nE (p0, p1, p2, p3)).bind fun x5 => (Gy nE (p0, p1, p2, p3)).bind fun x6 => (Fv nE (p0, p1, p2, p3)).bind fun x7 => (CS nE ([x4, x5, x6, x7] : List (List (Int × Int × Int)))).bind fun x8 => some x8)
theorem Of (nE : Nat) (p0 : Int × (List (Int × Int × Int × Int × Int × Int)) × (List (Int × Int))) (p1 : List (List Int)) (p2 : List (List Int)) (p3 : (List (Int × Int × Int × Int)) × (List (Int × Int × List Int)) × Int × Int × Int × Int) : Le (HZ nE p0 p1 p2 p3) (ED p0 p1 p2 p3) := by
  unfold HZ ED
  repeat' with_reducible (first | refine Le.orR' ?_ ?_ | refine Le.bind' ?_ ?_ | refine Le.ite' ?_ ?_ | refine Le.loop' ?_ | refine Le.altS' ?_ ?_ | apply OL | apply JJ | apply Kr | apply Kv | apply JB | apply FD | exact Le.rfl' _ | (refine Le.pi2 ?_; intro _) | intro _)
def MW (nE : Nat)  : Option Bool := (HZ nE (3, ([(0, 0, 1, 0, 1, 1), (1, 1, 2, 0, 1, 1), (0, 1, 2, 1, 1, 1)] : List (Int × Int × Int × Int × Int × Int)), ([(2, 7)] : List (Int × Int))) ([([0] : List Int), ([1] : List Int), ([7] : List Int)] : List (List Int)) ([([1] : List Int), ([1] : List Int), ([7] : List Int)] : List (List Int)) (([] : List (Int × Int × Int × Int)), ([] : List (Int × Int × List Int)), 0, 0, 0, 0)).bind fun x1 => (if (x1.length : Int) = 1 then (ix x1 0).bind fun x3 => (if x3.1 = 2 ∧ x3.2.1 = 0 ∧ x3.2.2 = 0 then (if (GZ 6) = ([108, 111, 111, 112] : List UInt8) then (HZ nE (0, ([] : List (Int × Int × Int × Int × Int × Int)), ([] : List (Int × Int))) ([] : List (List Int)) ([] : List (List Int)) (([] : List (Int × Int × Int × Int)), ([] : List (Int × Int × List Int)), 0, 0, 0, 0)).bind fun x4 => some (decide ((x4.length : Int) = 1)) else some false) else some false) else some false).bind fun x2 => some x2
theorem PO (nE : Nat)  : Le (MW nE ) (Hl ) := by
  unfold MW Hl
  repeat' with_reducible (first | refine Le.orR' ?_ ?_ | refine Le.bind' ?_ ?_ | refine Le.ite' ?_ ?_ | refine Le.loop' ?_ | refine Le.altS' ?_ ?_ | apply Of | exact Le.rfl' _ | (refine Le.pi2 ?_; intro _) | intro _)
theorem U6 : Hl = some true := PO 60 _ (by kernel_rfl)
end Go.Proofs.YthhoflfhegfmcaaGreat
