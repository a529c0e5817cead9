/- Twins with fuel of Hp functions: what a twin answers, the function answers. Conditions: none. -/
import Derived.Test.YtjcaadbafjgefaatLP
import Derived.Test.YtjcaadbafjgefaatD3
namespace Go.Proofs.Ytjcaadbafjgefaa
open Go Go.RowKit
set_option linter.unusedVariables false
set_option linter.unusedSimpArgs false
set_option maxRecDepth 20000
set_option maxHeartbeats 1600000
abbrev Le {α : Type} (a b : Option α) : Prop := ∀ r, a = some r → b = some r
theorem Le.rfl' {α : Type} (a : Option α) : Le a a := fun _ h => h
theorem Le.bind' {α β : Type} {a b : Option α} {f g : α → Option β} (h : Le a b) (hf : ∀ x, Le (f x) (g x)) : Le (a.bind f) (b.bind g) := fun r e => by
  obtain ⟨x, h1, h2⟩ := Al e
  rw [h x h1, Option.bind_some]; exact hf x r h2
theorem Le.ite' {α : Type} {c : Prop} [Decidable c] {a a' b b' : Option α} (h1 : Le a a') (h2 : Le b b') : Le (if c then a else b) (if c then a' else b') := fun r e => by
  by_cases h : c
  · rw [if_pos h] at e ⊢; exact h1 r e
  · rw [if_neg h] at e ⊢; exact h2 r e
theorem Le.orR' {α β : Type} {a b : Option (α ⊕ β)} {f g : α → Option β} (h : Le a b) (hf : ∀ x, Le (f x) (g x)) : Le (E6 a f) (E6 b g) :=
  Le.bind' h fun x => by
    cases x with
    | inl t => exact hf t
    | inr e => exact Le.rfl' _
def DQ {σ ε : Type} (n : Nat) (step : σ → Option (σ ⊕ ε)) (s : σ) : Option ε := Hj step n s
theorem JX {σ ε : Type} {S T : σ → Option (σ ⊕ ε)} (h : ∀ s, Le (S s) (T s)) : ∀ (n : Nat) (s : σ), Le (Hj S n s) (Hj T n s)
  | 0, s => Le.rfl' _
  | n + 1, s => fun r e => by
    unfold Hj at e ⊢
    cases hs : S s with
    | none => rw [hs] at e; cases e
    | some q =>
      rw [hs] at e; rw [h s q hs]
      cases q with
      | inl s' => exact JX h n s' r e
      | inr _ => exact e
theorem Le.loop' {σ ε : Type} {n : Nat} {S T : σ → Option (σ ⊕ ε)} {s : σ} (h : ∀ s, Le (S s) (T s)) : Le (DQ n S s) (AE T s) := fun r e => FI.2 ⟨n, JX h n s r e⟩
theorem Le.pi2 {α β γ : Type} {f g : α × β → Option γ} (h : ∀ a b, Le (f (a, b)) (g (a, b))) : ∀ x, Le (f x) (g x) := fun x => h x.1 x.2
theorem Le.altS' {α β γ : Type} {y : α ⊕ β} {f f' : α → Option γ} {g g' : β → Option γ} (h : ∀ x, Le (f x) (f' x)) (k : ∀ x, Le (g x) (g' x)) : Le (Sc y f g) (Sc y f' g') := by
  cases y with
  | inl x => exact h x
  | inr x => exact k x
theorem QO {β : Type} {g : Nat → Option β} (hm : ∀ n r, g n = some r → g (n + 1) = some r) {n : Nat} {r : β} (h : g n = some r) : OU g = some r := by
  have up : ∀ (d m : Nat) (q : β), g m = some q → g (m + d) = some q := fun d => by
    induction d with
    | zero => exact fun m q h => h
    | succ d ih => exact fun m q h => hm _ _ (ih m q h)
  refine Pb n h fun m q hq => ?_
  have h1 := up m n r h
  have h2 := up n m q hq
  rw [Nat.add_comm] at h2
  exact Option.some.inj (h2.symm.trans h1)
theorem Le.loopM {σ ε : Type} {S T : σ → Option (σ ⊕ ε)} {s : σ} (h : ∀ s, Le (S s) (T s)) : Le (AE S s) (AE T s) := fun r e => by
  obtain ⟨n, hn⟩ := FI.1 e
  exact FI.2 ⟨n, JX h n s r hn⟩
def GW (nE : Nat) (p0 : Int × (List (Int × Int × Int × Int × Int × Int)) × (List (Int × Int))) : ((List (Int × Int)) × Int) → Option (((List (Int × Int)) × Int) ⊕ (List (Int × Int)))
  | (x2, x3) => (if x3 < (p0.2.1.length : Int) then (ix p0.2.1 x3).bind fun x4 => (JN x2 ([(x4.1, x4.2.1), (x4.2.2.1, x4.2.2.2.1)] : List (Int × Int))).bind fun x5 => some (.inl (x5, AA (x3 + 1))) else some (.inr x2))
theorem Ks (nE : Nat) (p0 : Int × (List (Int × Int × Int × Int × Int × Int)) × (List (Int × Int))) : ∀ s, Le (GW nE p0 s) (DS p0 s) := by
  rintro ⟨x2, x3⟩
  unfold GW DS
  repeat' with_reducible (first | refine Le.orR' ?_ ?_ | refine Le.bind' ?_ ?_ | refine Le.ite' ?_ ?_ | refine Le.loop' ?_ | refine Le.altS' ?_ ?_ | exact Le.rfl' _ | (refine Le.pi2 ?_; intro _) | intro _)
def G0 (nE : Nat) (p0 : Int × (List (Int × Int × Int × Int × Int × Int)) × (List (Int × Int))) : ((List (Int × Int)) × Int) → Option (((List (Int × Int)) × Int) ⊕ (List (Int × Int)))
  | (x7, x8) => (if x8 < (p0.2.2.length : Int) then (ix p0.2.2 x8).bind fun x9 => (JN x7 ([x9] : List (Int × Int))).bind fun x10 => some (.inl (x10, AA (x8 + 1))) else some (.inr x7))
theorem J6 (nE : Nat) (p0 : Int × (List (Int × Int × Int × Int × Int × Int)) × (List (Int × Int))) : ∀ s, Le (G0 nE p0 s) (DP p0 s) := by
  rintro ⟨x7, x8⟩
  unfold G0 DP
  repeat' with_reducible (first | refine Le.orR' ?_ ?_ | refine Le.bind' ?_ ?_ | refine Le.ite' ?_ ?_ | refine Le.loop' ?_ | refine Le.altS' ?_ ?_ | exact Le.rfl' _ | (refine Le.pi2 ?_; intro _) | intro _)
def Iu (nE : Nat) (p0 : Int × (List (Int × Int × Int × Int × Int × Int)) × (List (Int × Int))) : Option (List (Int × Int)) := (DQ nE (GW nE p0) ([], 0)).bind fun x1 => (DQ nE (G0 nE p0) (x1, 0)).bind fun x6 => some x6
theorem Mj (nE : Nat) (p0 : Int × (List (Int × Int × Int × Int × Int × Int)) × (List (Int × Int))) : Le (Iu nE p0) (Fw p0) := by
  unfold Iu Fw
  repeat' with_reducible (first | refine Le.orR' ?_ ?_ | refine Le.bind' ?_ ?_ | refine Le.ite' ?_ ?_ | refine Le.loop' ?_ | refine Le.altS' ?_ ?_ | apply Ks | apply J6 | exact Le.rfl' _ | (refine Le.pi2 ?_; intro _) | intro _)
def CQ (nE : Nat) (p0 : List (Int × Int × Int × Int × Int × Int)) : Int → Option (Int ⊕ (Unit ⊕ Int))
  | x1 => (if x1 < (p0.length : Int) then (ix p0 x1).bind fun x2 => (if (Ct x2) = true then some (.inr (.inr x1)) else some (.inl (AA (x1 + 1)))) else some (.inr (.inl ())))
theorem E7 (nE : Nat) (p0 : List (Int × Int × Int × Int × Int × Int)) : ∀ s, Le (CQ nE p0 s) (A4 p0 s) := by
  intro x1
  unfold CQ A4
  repeat' with_reducible (first | refine Le.orR' ?_ ?_ | refine Le.bind' ?_ ?_ | refine Le.ite' ?_ ?_ | refine Le.loop' ?_ | refine Le.altS' ?_ ?_ | exact Le.rfl' _ | (refine Le.pi2 ?_; intro _) | intro _)
def C1 (nE : Nat) (p0 : List (Int × Int × Int × Int × Int × Int)) : Option Int := E6 (DQ nE (CQ nE p0) 0) fun _ => some (-1)
theorem FG (nE : Nat) (p0 : List (Int × Int × Int × Int × Int × Int)) : Le (C1 nE p0) (B8 p0) := by
  unfold C1 B8
  repeat' with_reducible (first | refine Le.orR' ?_ ?_ | refine Le.bind' ?_ ?_ | refine Le.ite' ?_ ?_ | refine Le.loop' ?_ | refine Le.altS' ?_ ?_ | apply E7 | exact Le.rfl' _ | (refine Le.pi2 ?_; intro _) | intro _)
def CP (nE : Nat) (p0 : List (Int × Int × Int × Int × Int × Int)) : Option Bool := (C1 nE p0).bind fun x1 => some (decide (0 ≤ x1))
theorem Fd (nE : Nat) (p0 : List (Int × Int × Int × Int × Int × Int)) : Le (CP nE p0) (BC p0) := by
  unfold CP BC
  repeat' with_reducible (first | refine Le.orR' ?_ ?_ | refine Le.bind' ?_ ?_ | refine Le.ite' ?_ ?_ | refine Le.loop' ?_ | refine Le.altS' ?_ ?_ | apply FG | exact Le.rfl' _ | (refine Le.pi2 ?_; intro _) | intro _)
def Hu (nE : Nat) (p0 : Int × (List (Int × Int × Int × Int × Int × Int)) × (List (Int × Int))) (x2 : (List (Int × Int))) : (Int × (List ((Int × Int) × Unit))) → Option ((Int × (List ((Int × Int) × Unit))) ⊕ ((List ((Int × Int) × Unit)) ⊕ Bool))
  | (x3, x4) => (if x3 < (x2.length : Int) then (ix x2 x3).bind fun x5 => (if (decide (x5.1 < 0) || (decide (p0.1 ≤ x5.1) || (decide (x5.2 < 0) || decide (8 ≤ x5.2)))) = true then some (.inr (.inr false)) else (if ((KE x4 x5).isSome) = true then some (.inr (.inr false)) else some (.inl (AA (x3 + 1), KI x4 x5 ())))) else some (.inr (.inl x4)))
theorem KX (nE : Nat) (p0 : Int × (List (Int × Int × Int × Int × Int × Int)) × (List (Int × Int))) (x2 : (List (Int × Int))) : ∀ s, Le (Hu nE p0 x2 s) (C7 p0 x2 s) := by
  rintro ⟨x3, x4⟩
  unfold Hu C7
  repeat' with_reducible (first | refine Le.orR' ?_ ?_ | refine Le.bind' ?_ ?_ | refine Le.ite' ?_ ?_ | refine Le.loop' ?_ | refine Le.altS' ?_ ?_ | exact Le.rfl' _ | (refine Le.pi2 ?_; intro _) | intro _)
def IK (nE : Nat) (p0 : Int × (List (Int × Int × Int × Int × Int × Int)) × (List (Int × Int))) : Option Bool := (if (decide (p0.1 < 1) || (decide (8 < p0.1) || (decide (24 < (p0.2.1.length : Int)) || decide (8 < (p0.2.2.length : Int))))) = true then some false else E6 ((Iu nE p0).bind fun x2 => DQ nE (Hu nE p0 x2) (0, ([] : List ((Int × Int) × Unit)))) fun x1 => (CP nE p0.2.1).bind fun x6 => some (!x6))
theorem Mw (nE : Nat) (p0 : Int × (List (Int × Int × Int × Int × Int × Int)) × (List (Int × Int))) : Le (IK nE p0) (F8 p0) := by
  unfold IK F8
  repeat' with_reducible (first | refine Le.orR' ?_ ?_ | refine Le.bind' ?_ ?_ | refine Le.ite' ?_ ?_ | refine Le.loop' ?_ | refine Le.altS' ?_ ?_ | apply Mj | apply Fd | apply KX | exact Le.rfl' _ | (refine Le.pi2 ?_; intro _) | intro _)
def DI (nE : Nat) (p0 : List Int) : Int → Option (Int ⊕ (Unit ⊕ Int))
  | x1 => (if x1 < (p0.length : Int) then (ix p0 x1).bind fun x2 => (if (Dp x2) = true then some (.inr (.inr x1)) else some (.inl (AA (x1 + 1)))) else some (.inr (.inl ())))
theorem GO (nE : Nat) (p0 : List Int) : ∀ s, Le (DI nE p0 s) (BJ p0 s) := by
  intro x1
  unfold DI BJ
  repeat' with_reducible (first | refine Le.orR' ?_ ?_ | refine Le.bind' ?_ ?_ | refine Le.ite' ?_ ?_ | refine Le.loop' ?_ | refine Le.altS' ?_ ?_ | exact Le.rfl' _ | (refine Le.pi2 ?_; intro _) | intro _)
def Eg (nE : Nat) (p0 : List Int) : Option Int := E6 (DQ nE (DI nE p0) 0) fun _ => some (-1)
theorem HK (nE : Nat) (p0 : List Int) : Le (Eg nE p0) (CJ p0) := by
  unfold Eg CJ
  repeat' with_reducible (first | refine Le.orR' ?_ ?_ | refine Le.bind' ?_ ?_ | refine Le.ite' ?_ ?_ | refine Le.loop' ?_ | refine Le.altS' ?_ ?_ | apply GO | exact Le.rfl' _ | (refine Le.pi2 ?_; intro _) | intro _)
def DN (nE : Nat) (p0 : List Int) : Option Bool := (Eg nE p0).bind fun x1 => some (decide (0 ≤ x1))
theorem GQ (nE : Nat) (p0 : List Int) : Le (DN nE p0) (Ci p0) := by
  unfold DN Ci
  repeat' with_reducible (first | refine Le.orR' ?_ ?_ | refine Le.bind' ?_ ?_ | refine Le.ite' ?_ ?_ | refine Le.loop' ?_ | refine Le.altS' ?_ ?_ | apply HK | exact Le.rfl' _ | (refine Le.pi2 ?_; intro _) | intro _)
def GY (nE : Nat) (p0 : Int × (List (Int × Int × Int × Int × Int × Int)) × (List (Int × Int))) (p1 : List (List Int)) : Int → Option (Int ⊕ (Unit ⊕ Bool))
  | x3 => (if x3 < (p1.length : Int) then (ix p1 x3).bind fun x4 => (if (x4.length : Int) ≠ (p0.2.2.length : Int) then some true else (DN nE x4).bind fun x6 => some x6).bind fun x5 => (if x5 = true then some (.inr (.inr false)) else some (.inl (AA (x3 + 1)))) else some (.inr (.inl ())))
theorem Kt (nE : Nat) (p0 : Int × (List (Int × Int × Int × Int × Int × Int)) × (List (Int × Int))) (p1 : List (List Int)) : ∀ s, Le (GY nE p0 p1 s) (Ef p0 p1 s) := by
  intro x3
  unfold GY Ef
  repeat' with_reducible (first | refine Le.orR' ?_ ?_ | refine Le.bind' ?_ ?_ | refine Le.ite' ?_ ?_ | refine Le.loop' ?_ | refine Le.altS' ?_ ?_ | apply GQ | exact Le.rfl' _ | (refine Le.pi2 ?_; intro _) | intro _)
def Ha (nE : Nat) (p0 : Int × (List (Int × Int × Int × Int × Int × Int)) × (List (Int × Int))) (p1 : List (List Int)) : Option Bool := ((IK nE p0).bind fun x2 => (if (!x2) = true then some true else some (decide ((p1.length : Int) ≠ p0.1)))).bind fun x1 => (if x1 = true then some false else E6 (DQ nE (GY nE p0 p1) 0) fun _ => some true)
theorem Jj (nE : Nat) (p0 : Int × (List (Int × Int × Int × Int × Int × Int)) × (List (Int × Int))) (p1 : List (List Int)) : Le (Ha nE p0 p1) (ER p0 p1) := by
  unfold Ha ER
  repeat' with_reducible (first | refine Le.orR' ?_ ?_ | refine Le.bind' ?_ ?_ | refine Le.ite' ?_ ?_ | refine Le.loop' ?_ | refine Le.altS' ?_ ?_ | apply Mw | apply Kt | exact Le.rfl' _ | (refine Le.pi2 ?_; intro _) | intro _)
def C6 (nE : Nat) (p0 : List (Int × Int)) (p1 : Int × Int) : Int → Option (Int ⊕ (Unit ⊕ Int))
  | x1 => (if x1 < (p0.length : Int) then (ix p0 x1).bind fun x2 => (if p1.1 = x2.1 ∧ p1.2 = x2.2 then some (.inr (.inr x1)) else some (.inl (AA (x1 + 1)))) else some (.inr (.inl ())))
theorem FU (nE : Nat) (p0 : List (Int × Int)) (p1 : Int × Int) : ∀ s, Le (C6 nE p0 p1 s) (Bg p0 p1 s) := by
  intro x1
  unfold C6 Bg
  repeat' with_reducible (first | refine Le.orR' ?_ ?_ | refine Le.bind' ?_ ?_ | refine Le.ite' ?_ ?_ | refine Le.loop' ?_ | refine Le.altS' ?_ ?_ | exact Le.rfl' _ | (refine Le.pi2 ?_; intro _) | intro _)
def Dk (nE : Nat) (p0 : List (Int × Int)) (p1 : Int × Int) : Option Int := E6 (DQ nE (C6 nE p0 p1) 0) fun _ => some (-1)
theorem Gp (nE : Nat) (p0 : List (Int × Int)) (p1 : Int × Int) : Le (Dk nE p0 p1) (Ck p0 p1) := by
  unfold Dk Ck
  repeat' with_reducible (first | refine Le.orR' ?_ ?_ | refine Le.bind' ?_ ?_ | refine Le.ite' ?_ ?_ | refine Le.loop' ?_ | refine Le.altS' ?_ ?_ | apply FU | exact Le.rfl' _ | (refine Le.pi2 ?_; intro _) | intro _)
def Is (nE : Nat) (p0 : Int × (List (Int × Int × Int × Int × Int × Int)) × (List (Int × Int))) (p1 : Int) (p2 : Int) : Option Int := (Dk nE p0.2.2 (p1, p2)).bind fun x1 => some x1
theorem Mk (nE : Nat) (p0 : Int × (List (Int × Int × Int × Int × Int × Int)) × (List (Int × Int))) (p1 : Int) (p2 : Int) : Le (Is nE p0 p1 p2) (EQ p0 p1 p2) := by
  unfold Is EQ
  repeat' with_reducible (first | refine Le.orR' ?_ ?_ | refine Le.bind' ?_ ?_ | refine Le.ite' ?_ ?_ | refine Le.loop' ?_ | refine Le.altS' ?_ ?_ | apply Gp | exact Le.rfl' _ | (refine Le.pi2 ?_; intro _) | intro _)
def H4 (nE : Nat) (p0 : Int × (List (Int × Int × Int × Int × Int × Int)) × (List (Int × Int))) (p1 : Int) (p2 : Int) : Int → Option (Int ⊕ (Unit ⊕ (Int × Int × Int × Bool)))
  | x1 => (if x1 < (p0.2.1.length : Int) then (ix p0.2.1 x1).bind fun x2 => (if p1 = x2.1 ∧ p2 = x2.2.1 then some (.inr (.inr (x2.2.2.1, x2.2.2.2.1, x1, true))) else (if p1 = x2.2.2.1 ∧ p2 = x2.2.2.2.1 then some (.inr (.inr (x2.1, x2.2.1, x1, true))) else some (.inl (AA (x1 + 1))))) else some (.inr (.inl ())))
theorem LH (nE : Nat) (p0 : Int × (List (Int × Int × Int × Int × Int × Int)) × (List (Int × Int))) (p1 : Int) (p2 : Int) : ∀ s, Le (H4 nE p0 p1 p2 s) (C8 p0 p1 p2 s) := by
  intro x1
  unfold H4 C8
  repeat' with_reducible (first | refine Le.orR' ?_ ?_ | refine Le.bind' ?_ ?_ | refine Le.ite' ?_ ?_ | refine Le.loop' ?_ | refine Le.altS' ?_ ?_ | exact Le.rfl' _ | (refine Le.pi2 ?_; intro _) | intro _)
def Jy (nE : Nat) (p0 : Int × (List (Int × Int × Int × Int × Int × Int)) × (List (Int × Int))) (p1 : Int) (p2 : Int) : Option (Int × Int × Int × Bool) := E6 (DQ nE (H4 nE p0 p1 p2) 0) fun _ => some (0, 0, 0, false)
theorem Nx (nE : Nat) (p0 : Int × (List (Int × Int × Int × Int × Int × Int)) × (List (Int × Int))) (p1 : Int) (p2 : Int) : Le (Jy nE p0 p1 p2) (EO p0 p1 p2) := by
  unfold Jy EO
  repeat' with_reducible (first | refine Le.orR' ?_ ?_ | refine Le.bind' ?_ ?_ | refine Le.ite' ?_ ?_ | refine Le.loop' ?_ | refine Le.altS' ?_ ?_ | apply LH | exact Le.rfl' _ | (refine Le.pi2 ?_; intro _) | intro _)
def I0 (nE : Nat) (p0 : Int × (List (Int × Int × Int × Int × Int × Int)) × (List (Int × Int))) (p1 : List (List Int)) (p2 : Int) (p3 : Int) : Option (Int × Bool) := (if p2 < 0 then some true else (if (p1.length : Int) ≤ p2 then some true else (if p3 < 0 then some true else (ix p1 p2).bind fun x2 => some (decide ((x2.length : Int) ≤ p3))))).bind fun x1 => (if x1 = true then some (0, false) else (ix p1 p2).bind fun x3 => (ix x3 p3).bind fun x4 => (Jy nE p0 p2 x4).bind fun x5 => some (x5.1, x5.2.2.2))
theorem MB (nE : Nat) (p0 : Int × (List (Int × Int × Int × Int × Int × Int)) × (List (Int × Int))) (p1 : List (List Int)) (p2 : Int) (p3 : Int) : Le (I0 nE p0 p1 p2 p3) (F7 p0 p1 p2 p3) := by
  unfold I0 F7
  repeat' with_reducible (first | refine Le.orR' ?_ ?_ | refine Le.bind' ?_ ?_ | refine Le.ite' ?_ ?_ | refine Le.loop' ?_ | refine Le.altS' ?_ ?_ | apply Nx | exact Le.rfl' _ | (refine Le.pi2 ?_; intro _) | intro _)
def EM (nE : Nat) (p0 : List Int) (p1 : Int) : Int → Option (Int ⊕ (Unit ⊕ Bool))
  | x1 => (if x1 < (p0.length : Int) then (ix p0 x1).bind fun x2 => (if p1 = x2 then some (.inr (.inr true)) else some (.inl (AA (x1 + 1)))) else some (.inr (.inl ())))
theorem Ir (nE : Nat) (p0 : List Int) (p1 : Int) : ∀ s, Le (EM nE p0 p1 s) (CL p0 p1 s) := by
  intro x1
  unfold EM CL
  repeat' with_reducible (first | refine Le.orR' ?_ ?_ | refine Le.bind' ?_ ?_ | refine Le.ite' ?_ ?_ | refine Le.loop' ?_ | refine Le.altS' ?_ ?_ | exact Le.rfl' _ | (refine Le.pi2 ?_; intro _) | intro _)
def FB (nE : Nat) (p0 : List Int) (p1 : Int) : Option Bool := E6 (DQ nE (EM nE p0 p1) 0) fun _ => some false
theorem I9 (nE : Nat) (p0 : List Int) (p1 : Int) : Le (FB nE p0 p1) (Db p0 p1) := by
  unfold FB Db
  repeat' with_reducible (first | refine Le.orR' ?_ ?_ | refine Le.bind' ?_ ?_ | refine Le.ite' ?_ ?_ | refine Le.loop' ?_ | refine Le.altS' ?_ ?_ | apply Ir | exact Le.rfl' _ | (refine Le.pi2 ?_; intro _) | intro _)
def Ho (nE : Nat) (p0 : Int × (List (Int × Int × Int × Int × Int × Int)) × (List (Int × Int))) (p1 : List (List Int)) (p3 : Int) : (Int × List Int) → Option ((Int × List Int) ⊕ ((List Int) ⊕ (List Int × Int)))
  | (x2, x3) => (ix p1 x2).bind fun x4 => (ix x4 p3).bind fun x5 => (Is nE p0 x2 x5).bind fun x6 => (if x6 ≠ p3 then (I0 nE p0 p1 x2 p3).bind fun x7 => (if (!x7.2) = true then some (.inr (.inr (([] : List Int), 13))) else (FB nE x3 x7.1).bind fun x8 => (if x8 = true then some (.inr (.inr (([] : List Int), 12))) else (JN x3 ([x7.1] : List Int)).bind fun x9 => some (.inl (x7.1, x9)))) else some (.inr (.inl x3)))
theorem KS (nE : Nat) (p0 : Int × (List (Int × Int × Int × Int × Int × Int)) × (List (Int × Int))) (p1 : List (List Int)) (p3 : Int) : ∀ s, Le (Ho nE p0 p1 p3 s) (DG p0 p1 p3 s) := by
  rintro ⟨x2, x3⟩
  unfold Ho DG
  repeat' with_reducible (first | refine Le.orR' ?_ ?_ | refine Le.bind' ?_ ?_ | refine Le.ite' ?_ ?_ | refine Le.loop' ?_ | refine Le.altS' ?_ ?_ | apply Mk | apply MB | apply I9 | exact Le.rfl' _ | (refine Le.pi2 ?_; intro _) | intro _)
def HS (nE : Nat) (p0 : Int × (List (Int × Int × Int × Int × Int × Int)) × (List (Int × Int))) (p1 : List (List Int)) (p2 : Int) (p3 : Int) : Option (List Int × Int) := E6 (DQ nE (Ho nE p0 p1 p3) (p2, ([p2] : List Int))) fun x1 => some (x1, 0)
theorem JI (nE : Nat) (p0 : Int × (List (Int × Int × Int × Int × Int × Int)) × (List (Int × Int))) (p1 : List (List Int)) (p2 : Int) (p3 : Int) : Le (HS nE p0 p1 p2 p3) (Fk p0 p1 p2 p3) := by
  unfold HS Fk
  repeat' with_reducible (first | refine Le.orR' ?_ ?_ | refine Le.bind' ?_ ?_ | refine Le.ite' ?_ ?_ | refine Le.loop' ?_ | refine Le.altS' ?_ ?_ | apply KS | exact Le.rfl' _ | (refine Le.pi2 ?_; intro _) | intro _)
def HF (nE : Nat) (p0 : Int × (List (Int × Int × Int × Int × Int × Int)) × (List (Int × Int))) (p1 : List (List Int)) (x2 : Int) (x3 : List Int) : Int → Option (Int ⊕ (Unit ⊕ (Int ⊕ (Unit ⊕ Bool))))
  | x4 => (if x4 < (x3.length : Int) then (HS nE p0 p1 x2 x4).bind fun x5 => (if x5.2 ≠ 0 then some (.inr (.inr (.inr (.inr false)))) else some (.inl (AA (x4 + 1)))) else some (.inr (.inl ())))
theorem KQ (nE : Nat) (p0 : Int × (List (Int × Int × Int × Int × Int × Int)) × (List (Int × Int))) (p1 : List (List Int)) (x2 : Int) (x3 : List Int) : ∀ s, Le (HF nE p0 p1 x2 x3 s) (D6 p0 p1 x2 x3 s) := by
  intro x4
  unfold HF D6
  repeat' with_reducible (first | refine Le.orR' ?_ ?_ | refine Le.bind' ?_ ?_ | refine Le.ite' ?_ ?_ | refine Le.loop' ?_ | refine Le.altS' ?_ ?_ | apply JI | exact Le.rfl' _ | (refine Le.pi2 ?_; intro _) | intro _)
def Hs (nE : Nat) (p0 : Int × (List (Int × Int × Int × Int × Int × Int)) × (List (Int × Int))) (p1 : List (List Int)) : Int → Option (Int ⊕ (Unit ⊕ Bool))
  | x2 => (if x2 < (p1.length : Int) then E6 ((ix p1 x2).bind fun x3 => DQ nE (HF nE p0 p1 x2 x3) 0) fun _ => some (.inl (AA (x2 + 1))) else some (.inr (.inl ())))
theorem KL (nE : Nat) (p0 : Int × (List (Int × Int × Int × Int × Int × Int)) × (List (Int × Int))) (p1 : List (List Int)) : ∀ s, Le (Hs nE p0 p1 s) (EC p0 p1 s) := by
  intro x2
  unfold Hs EC
  repeat' with_reducible (first | refine Le.orR' ?_ ?_ | refine Le.bind' ?_ ?_ | refine Le.ite' ?_ ?_ | refine Le.loop' ?_ | refine Le.altS' ?_ ?_ | apply KQ | exact Le.rfl' _ | (refine Le.pi2 ?_; intro _) | intro _)
def HQ (nE : Nat) (p0 : Int × (List (Int × Int × Int × Int × Int × Int)) × (List (Int × Int))) (p1 : List (List Int)) : Option Bool := (Ha nE p0 p1).bind fun x1 => (if (!x1) = true then some false else E6 (DQ nE (Hs nE p0 p1) 0) fun _ => some true)
theorem MA (nE : Nat) (p0 : Int × (List (Int × Int × Int × Int × Int × Int)) × (List (Int × Int))) (p1 : List (List Int)) : Le (HQ nE p0 p1) (Fp p0 p1) := by
  unfold HQ Fp
  repeat' with_reducible (first | refine Le.orR' ?_ ?_ | refine Le.bind' ?_ ?_ | refine Le.ite' ?_ ?_ | refine Le.loop' ?_ | refine Le.altS' ?_ ?_ | apply Jj | apply KL | exact Le.rfl' _ | (refine Le.pi2 ?_; intro _) | intro _)
def H6 (nE : Nat) (p0 : Int × (List (Int × Int × Int × Int × Int × Int)) × (List (Int × Int))) (p1 : List (List Int)) (p2 : Int) : (List Int × Int) → Option ((List Int × Int) ⊕ (List Int))
  | (x4, x5) => (if x5 < (p1.length : Int) then (HS nE p0 p1 x5 p2).bind fun x6 => (JN x4 ([AA ((x6.1.length : Int) - 1)] : List Int)).bind fun x7 => some (.inl (x7, AA (x5 + 1))) else some (.inr x4))
theorem LC (nE : Nat) (p0 : Int × (List (Int × Int × Int × Int × Int × Int)) × (List (Int × Int))) (p1 : List (List Int)) (p2 : Int) : ∀ s, Le (H6 nE p0 p1 p2 s) (Eu p0 p1 p2 s) := by
  rintro ⟨x4, x5⟩
  unfold H6 Eu
  repeat' with_reducible (first | refine Le.orR' ?_ ?_ | refine Le.bind' ?_ ?_ | refine Le.ite' ?_ ?_ | refine Le.loop' ?_ | refine Le.altS' ?_ ?_ | apply JI | exact Le.rfl' _ | (refine Le.pi2 ?_; intro _) | intro _)
def Ju (nE : Nat) (p0 : Int × (List (Int × Int × Int × Int × Int × Int)) × (List (Int × Int))) (p1 : List (List Int)) (p2 : Int) : Option (List Int) := ((Ha nE p0 p1).bind fun x2 => (if (!x2) = true then some true else (if p2 < 0 then some true else some (decide ((p0.2.2.length : Int) ≤ p2))))).bind fun x1 => (if x1 = true then some ([] : List Int) else (DQ nE (H6 nE p0 p1 p2) ([], 0)).bind fun x3 => some x3)
theorem Ns (nE : Nat) (p0 : Int × (List (Int × Int × Int × Int × Int × Int)) × (List (Int × Int))) (p1 : List (List Int)) (p2 : Int) : Le (Ju nE p0 p1 p2) (GT p0 p1 p2) := by
  unfold Ju GT
  repeat' with_reducible (first | refine Le.orR' ?_ ?_ | refine Le.bind' ?_ ?_ | refine Le.ite' ?_ ?_ | refine Le.loop' ?_ | refine Le.altS' ?_ ?_ | apply Jj | apply LC | exact Le.rfl' _ | (refine Le.pi2 ?_; intro _) | intro _)
def Gv (nE : Nat) (p0 : Int) : Option Int := (if 4294967296 ≤ p0 then some (Gz .u64 p0 32, 32) else some (p0, 0)).bind fun (x1, x2) => (if 65536 ≤ x1 then some (Gz .u64 x1 16, AA (x2 + 16)) else some (x1, x2)).bind fun (x3, x4) => (if 256 ≤ x3 then some (Gz .u64 x3 8, AA (x4 + 8)) else some (x3, x4)).bind fun (x5, x6) => (ix ([0, 1, 2, 2, 3, 3, 3, 3, 4, 4, 4, 4, 4, 4, 4, 4, 5, 5, 5, 5, 5, 5, 5, 5, 5, 5, 5, 5, 5, 5, 5, 5, 6, 6, 6, 6, 6, 6, 6, 6, 6, 6, 6, 6, 6, 6, 6, 6, 6, 6, 6, 6, 6, 6, 6, 6, 6, 6, 6, 6, 6, 6, 6, 6, 7, 7, 7, 7, 7, 7, 7, 7, 7, 7, 7, 7, 7, 7, 7, 7, 7, 7, 7, 7, 7, 7, 7, 7, 7, 7, 7, 7, 7, 7, 7, 7, 7, 7, 7, 7, 7, 7, 7, 7, 7, 7, 7, 7, 7, 7, 7, 7, 7, 7, 7, 7, 7, 7, 7, 7, 7, 7, 7, 7, 7, 7, 7, 7, 8, 8, 8, 8, 8, 8, 8, 8, 8, 8, 8, 8, 8, 8, 8, 8, 8, 8, 8, 8, 8, 8, 8, 8, 8, 8, 8, 8, 8, 8, 8, 8, 8, 8, 8, 8, 8, 8, 8, 8, 8, 8, 8, 8, 8, 8, 8, 8, 8, 8, 8, 8, 8, 8, 8, 8, 8, 8, 8, 8, 8, 8, 8, 8, 8, 8, 8, 8, 8, 8, 8, 8, 8, 8, 8, 8, 8, 8, 8, 8, 8, 8, 8, 8, 8, 8, 8, 8, 8, 8, 8, 8, 8, 8, 8, 8, 8, 8, 8, 8, 8, 8, 8, 8, 8, 8, 8, 8, 8, 8, 8, 8, 8, 8, 8, 8, 8, 8, 8, 8, 8, 8, 8, 8, 8, 8, 8, 8] : List UInt8) (IntKind.u8.wrap x5)).bind fun x7 => some (AA (x6 + (AA (x7.toNat : Int))))
theorem JZ (nE : Nat) (p0 : Int) : Le (Gv nE p0) (Es p0) := by
  unfold Gv Es
  repeat' with_reducible (first | refine Le.orR' ?_ ?_ | refine Le.bind' ?_ ?_ | refine Le.ite' ?_ ?_ | refine Le.loop' ?_ | refine Le.altS' ?_ ?_ | exact Le.rfl' _ | (refine Le.pi2 ?_; intro _) | intro _)
def F4 (nE : Nat) (p0 : Int) : Option Int := (Gv nE p0).bind fun x1 => some x1
theorem IA (nE : Nat) (p0 : Int) : Le (F4 nE p0) (DD p0) := by
  unfold F4 DD
  repeat' with_reducible (first | refine Le.orR' ?_ ?_ | refine Le.bind' ?_ ?_ | refine Le.ite' ?_ ?_ | refine Le.loop' ?_ | refine Le.altS' ?_ ?_ | apply JZ | exact Le.rfl' _ | (refine Le.pi2 ?_; intro _) | intro _)
def HE (nE : Nat) (p0 : List Int) : Int → Option (Int ⊕ (Unit ⊕ Int))
  | x1 => (if x1 < (p0.length : Int) then (ix p0 x1).bind fun x2 => (if x2 ≠ 0 then some (.inr (.inr x2)) else some (.inl (AA (x1 + 1)))) else some (.inr (.inl ())))
theorem KJ (nE : Nat) (p0 : List Int) : ∀ s, Le (HE nE p0 s) (C5 p0 s) := by
  intro x1
  unfold HE C5
  repeat' with_reducible (first | refine Le.orR' ?_ ?_ | refine Le.bind' ?_ ?_ | refine Le.ite' ?_ ?_ | refine Le.loop' ?_ | refine Le.altS' ?_ ?_ | exact Le.rfl' _ | (refine Le.pi2 ?_; intro _) | intro _)
def II (nE : Nat) (p0 : List Int) : Option Int := E6 (DQ nE (HE nE p0) 0) fun _ => some 0
theorem MH (nE : Nat) (p0 : List Int) : Le (II nE p0) (Ga p0) := by
  unfold II Ga
  repeat' with_reducible (first | refine Le.orR' ?_ ?_ | refine Le.bind' ?_ ?_ | refine Le.ite' ?_ ?_ | refine Le.loop' ?_ | refine Le.altS' ?_ ?_ | apply KJ | exact Le.rfl' _ | (refine Le.pi2 ?_; intro _) | intro _)
def F2 (nE : Nat) (p0 : Int × Int × Int × Int) (p1 : Int × Int × Int × Int) : Option Int := (II nE ([(AZ p0.2.2.2 p1.2.2.2), (AZ p0.1 p1.1), (AZ p0.2.1 p1.2.1)] : List Int)).bind fun x1 => some x1
theorem Ix (nE : Nat) (p0 : Int × Int × Int × Int) (p1 : Int × Int × Int × Int) : Le (F2 nE p0 p1) (B6 p0 p1) := by
  unfold F2 B6
  repeat' with_reducible (first | refine Le.orR' ?_ ?_ | refine Le.bind' ?_ ?_ | refine Le.ite' ?_ ?_ | refine Le.loop' ?_ | refine Le.altS' ?_ ?_ | apply MH | exact Le.rfl' _ | (refine Le.pi2 ?_; intro _) | intro _)
def CC (nE : Nat) (p1 : Int) : ((List (Int × Int × Int × Int)) × Int) → Option (((List (Int × Int × Int × Int)) × Int) ⊕ (List (Int × Int × Int × Int)))
  | (x4, x5) => (if p1 < x5 then (ix x4 x5).bind fun x7 => (ix x4 (AA (x5 - 1))).bind fun x8 => (F2 nE x7 x8).bind fun x9 => some (decide (x9 < 0)) else some false).bind fun x6 => (if x6 = true then (ix x4 (AA (x5 - 1))).bind fun x10 => (ix x4 x5).bind fun x11 => (ix x4 x5).bind fun x12 => (ix (AQ x4 x5 x10) (AA (x5 - 1))).bind fun x13 => some (.inl ((AQ (AQ x4 x5 x10) (AA (x5 - 1)) x11), AA (x5 - 1))) else some (.inr x4))
theorem EL (nE : Nat) (p1 : Int) : ∀ s, Le (CC nE p1 s) (AS p1 s) := by
  rintro ⟨x4, x5⟩
  unfold CC AS
  repeat' with_reducible (first | refine Le.orR' ?_ ?_ | refine Le.bind' ?_ ?_ | refine Le.ite' ?_ ?_ | refine Le.loop' ?_ | refine Le.altS' ?_ ?_ | apply Ix | exact Le.rfl' _ | (refine Le.pi2 ?_; intro _) | intro _)
def CB (nE : Nat) (p1 : Int) (p2 : Int) : ((List (Int × Int × Int × Int)) × Int) → Option (((List (Int × Int × Int × Int)) × Int) ⊕ (List (Int × Int × Int × Int)))
  | (x1, x2) => (if x2 < p2 then (DQ nE (CC nE p1) (x1, x2)).bind fun x3 => some (.inl (x3, AA (x2 + 1))) else some (.inr x1))
theorem EN (nE : Nat) (p1 : Int) (p2 : Int) : ∀ s, Le (CB nE p1 p2 s) (Bd p1 p2 s) := by
  rintro ⟨x1, x2⟩
  unfold CB Bd
  repeat' with_reducible (first | refine Le.orR' ?_ ?_ | refine Le.bind' ?_ ?_ | refine Le.ite' ?_ ?_ | refine Le.loop' ?_ | refine Le.altS' ?_ ?_ | apply EL | exact Le.rfl' _ | (refine Le.pi2 ?_; intro _) | intro _)
def CM (nE : Nat) (p0 : List (Int × Int × Int × Int)) (p1 : Int) (p2 : Int) : Option (List (Int × Int × Int × Int)) := DQ nE (CB nE p1 p2) (p0, AA (p1 + 1))
theorem E0 (nE : Nat) (p0 : List (Int × Int × Int × Int)) (p1 : Int) (p2 : Int) : Le (CM nE p0 p1 p2) (Bv p0 p1 p2) := by
  unfold CM Bv
  repeat' with_reducible (first | refine Le.orR' ?_ ?_ | refine Le.bind' ?_ ?_ | refine Le.ite' ?_ ?_ | refine Le.loop' ?_ | refine Le.altS' ?_ ?_ | apply EN | exact Le.rfl' _ | (refine Le.pi2 ?_; intro _) | intro _)
def D8 (nE : Nat) (p0 : List (Int × Int × Int × Int)) (p1 : Int) (p2 : Int) : Option (List (Int × Int × Int × Int)) := none
theorem FV (nE : Nat) (p0 : List (Int × Int × Int × Int)) (p1 : Int) (p2 : Int) : Le (D8 nE p0 p1 p2) (Cb p0 p1 p2) := fun _ h => nomatch h
def DL (nE : Nat) (p0 : List (Int × Int × Int × Int)) (p1 : Int) (p2 : Int) : Option (Int × Int) := none
theorem Ff (nE : Nat) (p0 : List (Int × Int × Int × Int)) (p1 : Int) (p2 : Int) : Le (DL nE p0 p1 p2) (BW p0 p1 p2) := fun _ h => nomatch h
def Dy (nE : Nat) (p0 : List (Int × Int × Int × Int)) (p1 : Int) (p2 : Int) : Option (List (Int × Int × Int × Int)) := none
theorem Fc (nE : Nat) (p0 : List (Int × Int × Int × Int)) (p1 : Int) (p2 : Int) : Le (Dy nE p0 p1 p2) (BG p0 p1 p2) := fun _ h => nomatch h
def C3 (nE : Nat) (p0 : List (Int × Int × Int × Int)) (p1 : Int) (p2 : Int) : Option (Bool × (List (Int × Int × Int × Int))) := none
theorem Er (nE : Nat) (p0 : List (Int × Int × Int × Int)) (p1 : Int) (p2 : Int) : Le (C3 nE p0 p1 p2) (Be p0 p1 p2) := fun _ h => nomatch h
def Do (nE : Nat) (p0 : List (Int × Int × Int × Int)) (p1 : Int) (p2 : Int) (p3 : Int) : Option (Int × (List (Int × Int × Int × Int))) := none
theorem EY (nE : Nat) (p0 : List (Int × Int × Int × Int)) (p1 : Int) (p2 : Int) (p3 : Int) : Le (Do nE p0 p1 p2 p3) (BO p0 p1 p2 p3) := fun _ h => nomatch h
def D0 (nE : Nat) (p0 : List (Int × Int × Int × Int)) (p1 : Int) (p2 : Int) (p3 : Int) : Option (Int × Bool × (List (Int × Int × Int × Int))) := none
theorem FK (nE : Nat) (p0 : List (Int × Int × Int × Int)) (p1 : Int) (p2 : Int) (p3 : Int) : Le (D0 nE p0 p1 p2 p3) (B9 p0 p1 p2 p3) := fun _ h => nomatch h
def Du (nE : Nat) (p0 : List (Int × Int × Int × Int)) (p1 : Int) (p2 : Int) : Option (List (Int × Int × Int × Int)) := none
theorem E1 (nE : Nat) (p0 : List (Int × Int × Int × Int)) (p1 : Int) (p2 : Int) : Le (Du nE p0 p1 p2) (Bx p0 p1 p2) := fun _ h => nomatch h
def CV (nE : Nat) (fRec : (List (Int × Int × Int × Int)) → Int → Int → Int → Option (List (Int × Int × Int × Int))) : ((List (Int × Int × Int × Int)) × Int × Int × Int × Bool × Bool) → Option (((List (Int × Int × Int × Int)) × Int × Int × Int × Bool × Bool) ⊕ (List (Int × Int × Int × Int)))
  | (x1, x2, x3, x4, x5, x6) => (if (AA (x3 - x2)) ≤ 12 then (CM nE x1 x2 x3).bind fun x7 => some (.inr x7) else (if x4 = 0 then (D8 nE x1 x2 x3).bind fun x8 => some (.inr x8) else (if (!x5) = true then (Du nE x1 x2 x3).bind fun x11 => some (x11, AA (x4 - 1)) else some (x1, x4)).bind fun (x9, x10) => (DL nE x9 x2 x3).bind fun x12 => (if x12.2 = 2 then (Dy nE x9 x2 x3).bind fun x16 => some (x16, AA ((AA (x3 - 1)) - (AA (x12.1 - x2))), 1) else some (x9, x12.1, x12.2)).bind fun (x13, x14, x15) => E6 (if (x5 && (x6 && decide (x15 = 1))) = true then (C3 nE x13 x2 x3).bind fun x18 => (if x18.1 = true then some (.inr (.inr x18.2)) else some (.inl x18.2)) else some (.inl x13)) fun x17 => (if 0 < x2 then (ix x17 (AA (x2 - 1))).bind fun x20 => (ix x17 x14).bind fun x21 => (F2 nE x20 x21).bind fun x22 => some (!(decide (x22 < 0))) else some false).bind fun x19 => (if x19 = true then (Do nE x17 x2 x3 x14).bind fun x23 => some (.inl (x23.2, x23.1, x3, x10, (x5 && (x6 || true)), (bif x5 then x6 else x6))) else (D0 nE x17 x2 x3 x14).bind fun x24 => (if (AA (x24.1 - x2)) < (AA (x3 - x24.1)) then (fRec x24.2.2 x2 x24.1 x10).bind fun x25 => some (.inl (x25, AA (x24.1 + 1), x3, x10, decide ((AA (Int.tdiv (AA (x3 - x2)) 8)) ≤ (AA (x24.1 - x2))), x24.2.1)) else (fRec x24.2.2 (AA (x24.1 + 1)) x3 x10).bind fun x26 => some (.inl (x26, x2, x24.1, x10, decide ((AA (Int.tdiv (AA (x3 - x2)) 8)) ≤ (AA (x3 - x24.1))), x24.2.1))))))
theorem Fo (nE : Nat) {fRec fRec' : (List (Int × Int × Int × Int)) → Int → Int → Int → Option (List (Int × Int × Int × Int))} (hR : ∀ a0 a1 a2 a3, Le (fRec a0 a1 a2 a3) (fRec' a0 a1 a2 a3)) : ∀ s, Le (CV nE fRec s) (Ax fRec' s) := by
  rintro ⟨x1, x2, x3, x4, x5, x6⟩
  unfold CV Ax
  repeat' with_reducible (first | refine Le.orR' ?_ ?_ | refine Le.bind' ?_ ?_ | refine Le.ite' ?_ ?_ | refine Le.loop' ?_ | refine Le.altS' ?_ ?_ | exact hR _ _ _ _ | apply Ix | apply E0 | apply FV | apply Ff | apply Fc | apply Er | apply EY | apply FK | apply E1 | exact Le.rfl' _ | (refine Le.pi2 ?_; intro _) | intro _)
theorem Fs {fRec fRec' : (List (Int × Int × Int × Int)) → Int → Int → Int → Option (List (Int × Int × Int × Int))} (hR : ∀ a0 a1 a2 a3, Le (fRec a0 a1 a2 a3) (fRec' a0 a1 a2 a3)) : ∀ s, Le (Ax fRec s) (Ax fRec' s) := by
  rintro ⟨x1, x2, x3, x4, x5, x6⟩
  show Le (Ax fRec (x1, x2, x3, x4, x5, x6)) (Ax fRec' (x1, x2, x3, x4, x5, x6))
  unfold Ax
  repeat' with_reducible (first | refine Le.orR' ?_ ?_ | refine Le.bind' ?_ ?_ | refine Le.ite' ?_ ?_ | refine Le.loopM ?_ | refine Le.altS' ?_ ?_ | exact hR _ _ _ _ | exact Le.rfl' _ | (refine Le.pi2 ?_; intro _) | intro _)
def CX (nE : Nat) (fRec : (List (Int × Int × Int × Int)) → Int → Int → Int → Option (List (Int × Int × Int × Int))) (p0 : List (Int × Int × Int × Int)) (p1 : Int) (p2 : Int) (p3 : Int) : Option (List (Int × Int × Int × Int)) := DQ nE (CV nE fRec) (p0, p1, p2, p3, true, true)
theorem Fx (nE : Nat) {fRec fRec' : (List (Int × Int × Int × Int)) → Int → Int → Int → Option (List (Int × Int × Int × Int))} (hR : ∀ a0 a1 a2 a3, Le (fRec a0 a1 a2 a3) (fRec' a0 a1 a2 a3)) (p0 : List (Int × Int × Int × Int)) (p1 : Int) (p2 : Int) (p3 : Int) : Le (CX nE fRec p0 p1 p2 p3) (Bq fRec' p0 p1 p2 p3) := by
  unfold CX Bq
  repeat' with_reducible (first | refine Le.orR' ?_ ?_ | refine Le.bind' ?_ ?_ | refine Le.ite' ?_ ?_ | refine Le.loop' ?_ | refine Le.altS' ?_ ?_ | exact hR _ _ _ _ | apply Fo nE hR | exact Le.rfl' _ | (refine Le.pi2 ?_; intro _) | intro _)
theorem Fq {fRec fRec' : (List (Int × Int × Int × Int)) → Int → Int → Int → Option (List (Int × Int × Int × Int))} (hR : ∀ a0 a1 a2 a3, Le (fRec a0 a1 a2 a3) (fRec' a0 a1 a2 a3)) (p0 : List (Int × Int × Int × Int)) (p1 : Int) (p2 : Int) (p3 : Int) : Le (Bq fRec p0 p1 p2 p3) (Bq fRec' p0 p1 p2 p3) := by
  unfold Bq
  repeat' with_reducible (first | refine Le.orR' ?_ ?_ | refine Le.bind' ?_ ?_ | refine Le.ite' ?_ ?_ | refine Le.loopM ?_ | refine Le.altS' ?_ ?_ | exact hR _ _ _ _ | apply Fs hR | exact Le.rfl' _ | (refine Le.pi2 ?_; intro _) | intro _)
def C2 (nE : Nat) : Nat → (List (Int × Int × Int × Int)) → Int → Int → Int → Option (List (Int × Int × Int × Int))
  | 0 => fun _ _ _ _ => none
  | n + 1 => CX nE (C2 nE n)
theorem DV (nE : Nat) : ∀ (m : Nat) a0 a1 a2 a3, Le (C2 nE m a0 a1 a2 a3) (AJ m a0 a1 a2 a3)
  | 0, a0, a1, a2, a3 => fun _ h => nomatch h
  | m + 1, a0, a1, a2, a3 => Fx nE (DV nE m) a0 a1 a2 a3
theorem DU : ∀ (m : Nat) a0 a1 a2 a3, Le (AJ m a0 a1 a2 a3) (AJ (m + 1) a0 a1 a2 a3)
  | 0, a0, a1, a2, a3 => fun _ h => nomatch h
  | m + 1, a0, a1, a2, a3 => Fq (DU m) a0 a1 a2 a3
def Ei (nE : Nat) (p0 : List (Int × Int × Int × Int)) (p1 : Int) (p2 : Int) (p3 : Int) : Option (List (Int × Int × Int × Int)) := C2 nE nE p0 p1 p2 p3
theorem FX (nE : Nat) (p0 : List (Int × Int × Int × Int)) (p1 : Int) (p2 : Int) (p3 : Int) : Le (Ei nE p0 p1 p2 p3) (Cu p0 p1 p2 p3) := fun r e => QO (g := fun n => AJ n p0 p1 p2 p3) (fun n r h => DU n p0 p1 p2 p3 r h) (n := nE) (DV nE nE p0 p1 p2 p3 r e)
def CR (nE : Nat) (p0 : List (Int × Int × Int × Int)) : Option (List (Int × Int × Int × Int)) := (F4 nE (IntKind.u64.wrap (p0.length : Int))).bind fun x1 => (Ei nE p0 0 (p0.length : Int) x1).bind fun x2 => some x2
theorem E9 (nE : Nat) (p0 : List (Int × Int × Int × Int)) : Le (CR nE p0) (BE p0) := by
  unfold CR BE
  repeat' with_reducible (first | refine Le.orR' ?_ ?_ | refine Le.bind' ?_ ?_ | refine Le.ite' ?_ ?_ | refine Le.loop' ?_ | refine Le.altS' ?_ ?_ | apply IA | apply FX | exact Le.rfl' _ | (refine Le.pi2 ?_; intro _) | intro _)
def GV (nE : Nat) (p1 : List (List Int)) (p2 : List (List Int)) (x6 : Int) (x8 : List Int) : ((List (Int × Int × Int × Int)) × Int) → Option (((List (Int × Int × Int × Int)) × Int) ⊕ (List (Int × Int × Int × Int)))
  | (x9, x10) => (if x10 < (x8.length : Int) then ((ix x8 x10).bind fun x12 => (ix p2 x10).bind fun x13 => (ix x13 x6).bind fun x14 => (ix p1 x10).bind fun x15 => (ix x15 x6).bind fun x16 => (if x14 ≠ x16 then (JN x9 ([(x10, x6, x14, x12)] : List (Int × Int × Int × Int))).bind fun x17 => some x17 else some x9)).bind fun x11 => some (.inl (x11, AA (x10 + 1))) else some (.inr x9))
theorem Ko (nE : Nat) (p1 : List (List Int)) (p2 : List (List Int)) (x6 : Int) (x8 : List Int) : ∀ s, Le (GV nE p1 p2 x6 x8 s) (CU p1 p2 x6 x8 s) := by
  rintro ⟨x9, x10⟩
  unfold GV CU
  repeat' with_reducible (first | refine Le.orR' ?_ ?_ | refine Le.bind' ?_ ?_ | refine Le.ite' ?_ ?_ | refine Le.loop' ?_ | refine Le.altS' ?_ ?_ | exact Le.rfl' _ | (refine Le.pi2 ?_; intro _) | intro _)
def GS (nE : Nat) (p0 : Int × (List (Int × Int × Int × Int × Int × Int)) × (List (Int × Int))) (p1 : List (List Int)) (p2 : List (List Int)) : ((List (Int × Int × Int × Int)) × Int) → Option (((List (Int × Int × Int × Int)) × Int) ⊕ (List (Int × Int × Int × Int)))
  | (x5, x6) => (if x6 < (p0.2.2.length : Int) then ((Ju nE p0 p2 x6).bind fun x8 => DQ nE (GV nE p1 p2 x6 x8) (x5, 0)).bind fun x7 => some (.inl (x7, AA (x6 + 1))) else some (.inr x5))
theorem KA (nE : Nat) (p0 : Int × (List (Int × Int × Int × Int × Int × Int)) × (List (Int × Int))) (p1 : List (List Int)) (p2 : List (List Int)) : ∀ s, Le (GS nE p0 p1 p2 s) (Dn p0 p1 p2 s) := by
  rintro ⟨x5, x6⟩
  unfold GS Dn
  repeat' with_reducible (first | refine Le.orR' ?_ ?_ | refine Le.bind' ?_ ?_ | refine Le.ite' ?_ ?_ | refine Le.loop' ?_ | refine Le.altS' ?_ ?_ | apply Ns | apply Ko | exact Le.rfl' _ | (refine Le.pi2 ?_; intro _) | intro _)
def Im (nE : Nat) (p0 : Int × (List (Int × Int × Int × Int × Int × Int)) × (List (Int × Int))) (p1 : List (List Int)) (p2 : List (List Int)) : Option ((List (Int × Int × Int × Int)) × Int) := ((HQ nE p0 p1).bind fun x2 => (if (!x2) = true then some true else (HQ nE p0 p2).bind fun x3 => some (!x3))).bind fun x1 => (if x1 = true then some (([] : List (Int × Int × Int × Int)), 2) else (DQ nE (GS nE p0 p1 p2) ([], 0)).bind fun x4 => (CR nE x4).bind fun x18 => some (x18, 0))
theorem Mr (nE : Nat) (p0 : Int × (List (Int × Int × Int × Int × Int × Int)) × (List (Int × Int))) (p1 : List (List Int)) (p2 : List (List Int)) : Le (Im nE p0 p1 p2) (D9 p0 p1 p2) := by
  unfold Im D9
  repeat' with_reducible (first | refine Le.orR' ?_ ?_ | refine Le.bind' ?_ ?_ | refine Le.ite' ?_ ?_ | refine Le.loop' ?_ | refine Le.altS' ?_ ?_ | apply MA | apply E9 | apply KA | exact Le.rfl' _ | (refine Le.pi2 ?_; intro _) | intro _)
def C0 (nE : Nat) (p1 : Int) : (List Int × Int) → Option ((List Int × Int) ⊕ (List Int))
  | (x4, x5) => (if p1 < x5 then (ix x4 x5).bind fun x7 => (ix x4 (AA (x5 - 1))).bind fun x8 => some (Cq x7 x8) else some false).bind fun x6 => (if x6 = true then (ix x4 (AA (x5 - 1))).bind fun x9 => (ix x4 x5).bind fun x10 => (ix x4 x5).bind fun x11 => (ix (AQ x4 x5 x9) (AA (x5 - 1))).bind fun x12 => some (.inl ((AQ (AQ x4 x5 x9) (AA (x5 - 1)) x10), AA (x5 - 1))) else some (.inr x4))
theorem FO (nE : Nat) (p1 : Int) : ∀ s, Le (C0 nE p1 s) (Ba p1 s) := by
  rintro ⟨x4, x5⟩
  unfold C0 Ba
  repeat' with_reducible (first | refine Le.orR' ?_ ?_ | refine Le.bind' ?_ ?_ | refine Le.ite' ?_ ?_ | refine Le.loop' ?_ | refine Le.altS' ?_ ?_ | exact Le.rfl' _ | (refine Le.pi2 ?_; intro _) | intro _)
def CZ (nE : Nat) (p1 : Int) (p2 : Int) : (List Int × Int) → Option ((List Int × Int) ⊕ (List Int))
  | (x1, x2) => (if x2 < p2 then (DQ nE (C0 nE p1) (x1, x2)).bind fun x3 => some (.inl (x3, AA (x2 + 1))) else some (.inr x1))
theorem FP (nE : Nat) (p1 : Int) (p2 : Int) : ∀ s, Le (CZ nE p1 p2 s) (Bw p1 p2 s) := by
  rintro ⟨x1, x2⟩
  unfold CZ Bw
  repeat' with_reducible (first | refine Le.orR' ?_ ?_ | refine Le.bind' ?_ ?_ | refine Le.ite' ?_ ?_ | refine Le.loop' ?_ | refine Le.altS' ?_ ?_ | apply FO | exact Le.rfl' _ | (refine Le.pi2 ?_; intro _) | intro _)
def Di (nE : Nat) (p0 : List Int) (p1 : Int) (p2 : Int) : Option (List Int) := DQ nE (CZ nE p1 p2) (p0, AA (p1 + 1))
theorem F9 (nE : Nat) (p0 : List Int) (p1 : Int) (p2 : Int) : Le (Di nE p0 p1 p2) (BN p0 p1 p2) := by
  unfold Di BN
  repeat' with_reducible (first | refine Le.orR' ?_ ?_ | refine Le.bind' ?_ ?_ | refine Le.ite' ?_ ?_ | refine Le.loop' ?_ | refine Le.altS' ?_ ?_ | apply FP | exact Le.rfl' _ | (refine Le.pi2 ?_; intro _) | intro _)
def EF (nE : Nat) (p0 : List Int) (p1 : Int) (p2 : Int) : Option (Int × Int) := none
theorem GB (nE : Nat) (p0 : List Int) (p1 : Int) (p2 : Int) : Le (EF nE p0 p1 p2) (Cc p0 p1 p2) := fun _ h => nomatch h
def Ds (nE : Nat) (p0 : List Int) (p1 : Int) (p2 : Int) : Option (Bool × List Int) := none
theorem E3 (nE : Nat) (p0 : List Int) (p1 : Int) (p2 : Int) : Le (Ds nE p0 p1 p2) (Bz p0 p1 p2) := fun _ h => nomatch h
def Dv (nE : Nat) (p0 : List Int) (p1 : Int) (p2 : Int) (p3 : Int) : Unit → Option (Unit ⊕ (List Int))
  | _ => (if (AA (p2 - p1)) ≤ 12 then (Di nE p0 p1 p2).bind fun x1 => some (.inr x1) else (if p3 = 0 then none else (EF nE p0 p1 p2).bind fun x2 => (if x2.2 = 2 then none else E6 (if x2.2 = 1 then (Ds nE p0 p1 p2).bind fun x4 => (if x4.1 = true then some (.inr (.inr x4.2)) else some (.inl x4.2)) else some (.inl p0)) fun x3 => (if 0 < p1 then (ix x3 (AA (p1 - 1))).bind fun x6 => (ix x3 x2.1).bind fun x7 => some (!(Cq x6 x7)) else some false).bind fun x5 => none)))
theorem GK (nE : Nat) (p0 : List Int) (p1 : Int) (p2 : Int) (p3 : Int) : ∀ s, Le (Dv nE p0 p1 p2 p3 s) (CG p0 p1 p2 p3 s) := by
  intro s
  unfold Dv CG
  repeat' with_reducible (first | refine Le.orR' ?_ ?_ | refine Le.bind' ?_ ?_ | refine Le.ite' ?_ ?_ | refine Le.loop' ?_ | refine Le.altS' ?_ ?_ | apply F9 | apply GB | apply E3 | exact Le.rfl' _ | (refine Le.pi2 ?_; intro _) | intro _)
def D2 (nE : Nat) (p0 : List Int) (p1 : Int) (p2 : Int) (p3 : Int) : Option (List Int) := DQ nE (Dv nE p0 p1 p2 p3) ()
theorem Hw (nE : Nat) (p0 : List Int) (p1 : Int) (p2 : Int) (p3 : Int) : Le (D2 nE p0 p1 p2 p3) (Cr p0 p1 p2 p3) := by
  unfold D2 Cr
  repeat' with_reducible (first | refine Le.orR' ?_ ?_ | refine Le.bind' ?_ ?_ | refine Le.ite' ?_ ?_ | refine Le.loop' ?_ | refine Le.altS' ?_ ?_ | apply GK | exact Le.rfl' _ | (refine Le.pi2 ?_; intro _) | intro _)
def En (nE : Nat) (p0 : List Int) : Option (List Int) := (F4 nE (IntKind.u64.wrap (p0.length : Int))).bind fun x1 => (D2 nE p0 0 (p0.length : Int) x1).bind fun x2 => some x2
theorem GF (nE : Nat) (p0 : List Int) : Le (En nE p0) (CK p0) := by
  unfold En CK
  repeat' with_reducible (first | refine Le.orR' ?_ ?_ | refine Le.bind' ?_ ?_ | refine Le.ite' ?_ ?_ | refine Le.loop' ?_ | refine Le.altS' ?_ ?_ | apply IA | apply Hw | exact Le.rfl' _ | (refine Le.pi2 ?_; intro _) | intro _)
def D5 (nE : Nat) (p0 : List Int) (x1 : Int) : (List Int × Int × Int) → Option ((List Int × Int × Int) ⊕ (List Int × Int))
  | (x7, x8, x9) => (IL x7 x1 (p0.length : Int)).bind fun x10 => (if x9 < (x10.length : Int) then ((ix x10 x9).bind fun x13 => (ix x10 (AA (x9 - 1))).bind fun x14 => (if x13 ≠ x14 then (ix x10 x9).bind fun x15 => (ix x7 x8).bind fun x16 => some ((AQ x7 x8 x15), AA (x8 + 1)) else some (x7, x8))).bind fun (x11, x12) => some (.inl (x11, x12, AA (x9 + 1))) else some (.inr (x7, x8)))
theorem Ht (nE : Nat) (p0 : List Int) (x1 : Int) : ∀ s, Le (D5 nE p0 x1 s) (B7 p0 x1 s) := by
  rintro ⟨x7, x8, x9⟩
  unfold D5 B7
  repeat' with_reducible (first | refine Le.orR' ?_ ?_ | refine Le.bind' ?_ ?_ | refine Le.ite' ?_ ?_ | refine Le.loop' ?_ | refine Le.altS' ?_ ?_ | exact Le.rfl' _ | (refine Le.pi2 ?_; intro _) | intro _)
def D3 (nE : Nat) (p0 : List Int) : Int → Option (Int ⊕ (Unit ⊕ (List Int)))
  | x1 => (if x1 < (p0.length : Int) then E6 ((ix p0 x1).bind fun x2 => (ix p0 (AA (x1 - 1))).bind fun x3 => (if x2 = x3 then (IL p0 x1 (p0.length : Int)).bind fun x4 => (DQ nE (D5 nE p0 x1) (p0, x1, 1)).bind fun (x5, x6) => (IL x5 x6 (x5.length : Int)).bind fun x17 => (RB x5 x6 (List.replicate (x17.length) (0 : Int))).bind fun x18 => (IL x18 0 x6).bind fun x19 => some (.inr (.inr (.inr x19))) else some (.inl ()))) fun _ => some (.inl (AA (x1 + 1))) else some (.inr (.inl ())))
theorem HD (nE : Nat) (p0 : List Int) : ∀ s, Le (D3 nE p0 s) (BQ p0 s) := by
  intro x1
  unfold D3 BQ
  repeat' with_reducible (first | refine Le.orR' ?_ ?_ | refine Le.bind' ?_ ?_ | refine Le.ite' ?_ ?_ | refine Le.loop' ?_ | refine Le.altS' ?_ ?_ | apply Ht | exact Le.rfl' _ | (refine Le.pi2 ?_; intro _) | intro _)
def DF (nE : Nat) (p0 : List Int) : Option (List Int) := (if (p0.length : Int) < 2 then some p0 else E6 (DQ nE (D3 nE p0) 1) fun _ => some p0)
theorem FQ (nE : Nat) (p0 : List Int) : Le (DF nE p0) (Cv p0) := by
  unfold DF Cv
  repeat' with_reducible (first | refine Le.orR' ?_ ?_ | refine Le.bind' ?_ ?_ | refine Le.ite' ?_ ?_ | refine Le.loop' ?_ | refine Le.altS' ?_ ?_ | apply HD | exact Le.rfl' _ | (refine Le.pi2 ?_; intro _) | intro _)
def GH (nE : Nat) (p0 : List Int) : Option (List Int) := (En nE p0).bind fun x1 => (DF nE x1).bind fun x2 => some x2
theorem JQ (nE : Nat) (p0 : List Int) : Le (GH nE p0) (DX p0) := by
  unfold GH DX
  repeat' with_reducible (first | refine Le.orR' ?_ ?_ | refine Le.bind' ?_ ?_ | refine Le.ite' ?_ ?_ | refine Le.loop' ?_ | refine Le.altS' ?_ ?_ | apply GF | apply FQ | exact Le.rfl' _ | (refine Le.pi2 ?_; intro _) | intro _)
def GE (nE : Nat) (p0 : List (Int × Int × Int × Int)) : (List Int × Int) → Option ((List Int × Int) ⊕ (List Int))
  | (x2, x3) => (if x3 < (p0.length : Int) then (ix p0 x3).bind fun x4 => (JN x2 ([x4.2.2.2] : List Int)).bind fun x5 => some (.inl (x5, AA (x3 + 1))) else some (.inr x2))
theorem JU (nE : Nat) (p0 : List (Int × Int × Int × Int)) : ∀ s, Le (GE nE p0 s) (Dq p0 s) := by
  rintro ⟨x2, x3⟩
  unfold GE Dq
  repeat' with_reducible (first | refine Le.orR' ?_ ?_ | refine Le.bind' ?_ ?_ | refine Le.ite' ?_ ?_ | refine Le.loop' ?_ | refine Le.altS' ?_ ?_ | exact Le.rfl' _ | (refine Le.pi2 ?_; intro _) | intro _)
def HY (nE : Nat) (p0 : List (Int × Int × Int × Int)) : Option (List Int) := (DQ nE (GE nE p0) ([], 0)).bind fun x1 => (GH nE x1).bind fun x6 => some x6
theorem LD (nE : Nat) (p0 : List (Int × Int × Int × Int)) : Le (HY nE p0) (EU p0) := by
  unfold HY EU
  repeat' with_reducible (first | refine Le.orR' ?_ ?_ | refine Le.bind' ?_ ?_ | refine Le.ite' ?_ ?_ | refine Le.loop' ?_ | refine Le.altS' ?_ ?_ | apply JQ | apply JU | exact Le.rfl' _ | (refine Le.pi2 ?_; intro _) | intro _)
def Gx (nE : Nat) (p0 : Int × (List (Int × Int × Int × Int × Int × Int)) × (List (Int × Int))) : (Int × Int) → Option ((Int × Int) ⊕ Int)
  | (x2, x3) => (if x3 < (p0.2.1.length : Int) then (ix p0.2.1 x3).bind fun x4 => some (.inl (max x2 x4.2.2.2.2.2, AA (x3 + 1))) else some (.inr x2))
theorem JT (nE : Nat) (p0 : Int × (List (Int × Int × Int × Int × Int × Int)) × (List (Int × Int))) : ∀ s, Le (Gx nE p0 s) (Cs p0 s) := by
  rintro ⟨x2, x3⟩
  unfold Gx Cs
  repeat' with_reducible (first | refine Le.orR' ?_ ?_ | refine Le.bind' ?_ ?_ | refine Le.ite' ?_ ?_ | refine Le.loop' ?_ | refine Le.altS' ?_ ?_ | exact Le.rfl' _ | (refine Le.pi2 ?_; intro _) | intro _)
def Ie (nE : Nat) (p0 : Int × (List (Int × Int × Int × Int × Int × Int)) × (List (Int × Int))) : Option Int := (DQ nE (Gx nE p0) (0, 0)).bind fun x1 => some x1
theorem LE (nE : Nat) (p0 : Int × (List (Int × Int × Int × Int × Int × Int)) × (List (Int × Int))) : Le (Ie nE p0) (DH p0) := by
  unfold Ie DH
  repeat' with_reducible (first | refine Le.orR' ?_ ?_ | refine Le.bind' ?_ ?_ | refine Le.ite' ?_ ?_ | refine Le.loop' ?_ | refine Le.altS' ?_ ?_ | apply JT | exact Le.rfl' _ | (refine Le.pi2 ?_; intro _) | intro _)
def Ij (nE : Nat) (p0 : Int × (List (Int × Int × Int × Int × Int × Int)) × (List (Int × Int))) : Option Int := (Ie nE p0).bind fun x1 => some (AA (p0.1 * x1))
theorem Kr (nE : Nat) (p0 : Int × (List (Int × Int × Int × Int × Int × Int)) × (List (Int × Int))) : Le (Ij nE p0) (FH p0) := by
  unfold Ij FH
  repeat' with_reducible (first | refine Le.orR' ?_ ?_ | refine Le.bind' ?_ ?_ | refine Le.ite' ?_ ?_ | refine Le.loop' ?_ | refine Le.altS' ?_ ?_ | apply LE | exact Le.rfl' _ | (refine Le.pi2 ?_; intro _) | intro _)
def IR (nE : Nat) (p0 : Int × (List (Int × Int × Int × Int × Int × Int)) × (List (Int × Int))) (p1 : Int) : Option Int := (Ij nE p0).bind fun x1 => some (AA ((AA ((AA (2 * p1)) + x1)) + 1))
theorem Ln (nE : Nat) (p0 : Int × (List (Int × Int × Int × Int × Int × Int)) × (List (Int × Int))) (p1 : Int) : Le (IR nE p0 p1) (Hf p0 p1) := by
  unfold IR Hf
  repeat' with_reducible (first | refine Le.orR' ?_ ?_ | refine Le.bind' ?_ ?_ | refine Le.ite' ?_ ?_ | refine Le.loop' ?_ | refine Le.altS' ?_ ?_ | apply Kr | exact Le.rfl' _ | (refine Le.pi2 ?_; intro _) | intro _)
def Hz (nE : Nat) (p0 : Int) (p1 : List (Int × Int × Int)) : Int → Option (Int ⊕ (Unit ⊕ Bool))
  | x1 => (if x1 < (p1.length : Int) then (ix p1 x1).bind fun x2 => (if (decide (x2.1 < 0) || (decide (p0 ≤ x2.1) || (decide (x2.2.1 < 0) || (decide (p0 ≤ x2.2.1) || (decide (x2.2.2 < (-1073741824)) || decide (1073741824 < x2.2.2)))))) = true then some (.inr (.inr false)) else some (.inl (AA (x1 + 1)))) else some (.inr (.inl ())))
theorem KF (nE : Nat) (p0 : Int) (p1 : List (Int × Int × Int)) : ∀ s, Le (Hz nE p0 p1 s) (DE p0 p1 s) := by
  intro x1
  unfold Hz DE
  repeat' with_reducible (first | refine Le.orR' ?_ ?_ | refine Le.bind' ?_ ?_ | refine Le.ite' ?_ ?_ | refine Le.loop' ?_ | refine Le.altS' ?_ ?_ | exact Le.rfl' _ | (refine Le.pi2 ?_; intro _) | intro _)
def IZ (nE : Nat) (p0 : Int) (p1 : List (Int × Int × Int)) : Option Bool := (if (decide (p0 < 0) || (decide (64 < p0) || decide (256 < (p1.length : Int)))) = true then some false else E6 (DQ nE (Hz nE p0 p1) 0) fun _ => some true)
theorem MN (nE : Nat) (p0 : Int) (p1 : List (Int × Int × Int)) : Le (IZ nE p0 p1) (Gd p0 p1) := by
  unfold IZ Gd
  repeat' with_reducible (first | refine Le.orR' ?_ ?_ | refine Le.bind' ?_ ?_ | refine Le.ite' ?_ ?_ | refine Le.loop' ?_ | refine Le.altS' ?_ ?_ | apply KF | exact Le.rfl' _ | (refine Le.pi2 ?_; intro _) | intro _)
def Hn (nE : Nat) (p0 : Int) (p1 : List (Int × Int × Int)) (x6 : Int) : (Bool × Int × List Int × List Int) → Option ((Bool × Int × List Int × List Int) ⊕ ((Bool × List Int × List Int) ⊕ ((List Int × List Int) ⊕ ((Int × List Int × List Int) ⊕ (List Int × List Int × Int)))))
  | (x14, x15, x16, x17) => (if x15 < (p1.length : Int) then E6 ((ix p1 x15).bind fun x21 => (ix x16 x21.1).bind fun x22 => (ix x16 x21.2.1).bind fun x23 => (if (AA (x22 + x21.2.2)) ≤ x23 then some (.inl (x14, x16, x17)) else (ix x16 x21.2.1).bind fun x24 => (ix x17 x21.2.1).bind fun x25 => (if x6 = p0 then some (.inr (.inr (.inr (.inr (.inr ((AQ x16 x21.2.1 (AA (x22 + x21.2.2))), (AQ x17 x21.2.1 x15), x21.2.1)))))) else some (.inl (true, (AQ x16 x21.2.1 (AA (x22 + x21.2.2))), (AQ x17 x21.2.1 x15)))))) fun (x18, x19, x20) => some (.inl (x18, AA (x15 + 1), x19, x20)) else some (.inr (.inl (x14, x16, x17))))
theorem KY (nE : Nat) (p0 : Int) (p1 : List (Int × Int × Int)) (x6 : Int) : ∀ s, Le (Hn nE p0 p1 x6 s) (CA p0 p1 x6 s) := by
  rintro ⟨x14, x15, x16, x17⟩
  unfold Hn CA
  repeat' with_reducible (first | refine Le.orR' ?_ ?_ | refine Le.bind' ?_ ?_ | refine Le.ite' ?_ ?_ | refine Le.loop' ?_ | refine Le.altS' ?_ ?_ | exact Le.rfl' _ | (refine Le.pi2 ?_; intro _) | intro _)
def Hv (nE : Nat) (p0 : Int) (p1 : List (Int × Int × Int)) : (Int × List Int × List Int) → Option ((Int × List Int × List Int) ⊕ (List Int × List Int × Int))
  | (x6, x7, x8) => E6 (E6 (DQ nE (Hn nE p0 p1 x6) (false, 0, x7, x8)) fun (x11, x12, x13) => (if (!x11) = true then some (.inr (.inr (x12, x13, (-1)))) else some (.inl (x12, x13)))) fun (x9, x10) => some (.inl (AA (x6 + 1), x9, x10))
theorem KO (nE : Nat) (p0 : Int) (p1 : List (Int × Int × Int)) : ∀ s, Le (Hv nE p0 p1 s) (DB p0 p1 s) := by
  rintro ⟨x6, x7, x8⟩
  unfold Hv DB
  repeat' with_reducible (first | refine Le.orR' ?_ ?_ | refine Le.bind' ?_ ?_ | refine Le.ite' ?_ ?_ | refine Le.loop' ?_ | refine Le.altS' ?_ ?_ | apply KY | exact Le.rfl' _ | (refine Le.pi2 ?_; intro _) | intro _)
def I1 (nE : Nat) (p0 : Int) (p1 : List (Int × Int × Int)) : Option (List Int × List Int × Int) := (mk p0 (0 : Int)).bind fun x1 => (mk p0 (0 : Int)).bind fun x2 => (DQ nE (Hv nE p0 p1) (1, x1, x2)).bind fun (x3, x4, x5) => some (x3, x4, x5)
theorem ML (nE : Nat) (p0 : Int) (p1 : List (Int × Int × Int)) : Le (I1 nE p0 p1) (Gb p0 p1) := by
  unfold I1 Gb
  repeat' with_reducible (first | refine Le.orR' ?_ ?_ | refine Le.bind' ?_ ?_ | refine Le.ite' ?_ ?_ | refine Le.loop' ?_ | refine Le.altS' ?_ ?_ | apply KO | exact Le.rfl' _ | (refine Le.pi2 ?_; intro _) | intro _)
def Hy (nE : Nat) (p0 : Int) (p1 : List (Int × Int × Int)) : Option (List Int × Bool) := (IZ nE p0 p1).bind fun x1 => (if (!x1) = true then some (([] : List Int), false) else (I1 nE p0 p1).bind fun x2 => (if 0 ≤ x2.2.2 then some (([] : List Int), false) else some (x2.1, true)))
theorem KZ (nE : Nat) (p0 : Int) (p1 : List (Int × Int × Int)) : Le (Hy nE p0 p1) (ED p0 p1) := by
  unfold Hy ED
  repeat' with_reducible (first | refine Le.orR' ?_ ?_ | refine Le.bind' ?_ ?_ | refine Le.ite' ?_ ?_ | refine Le.loop' ?_ | refine Le.altS' ?_ ?_ | apply MN | apply ML | exact Le.rfl' _ | (refine Le.pi2 ?_; intro _) | intro _)
def Gg (nE : Nat) (p0 : List (Int × Int × Int × Int)) (p1 : Int) : (List Int × Int) → Option ((List Int × Int) ⊕ (List Int))
  | (x2, x3) => (if x3 < (p0.length : Int) then ((ix p0 x3).bind fun x5 => (if x5.2.2.2 = p1 then (JN x2 ([x5.1] : List Int)).bind fun x6 => some x6 else some x2)).bind fun x4 => some (.inl (x4, AA (x3 + 1))) else some (.inr x2))
theorem JG (nE : Nat) (p0 : List (Int × Int × Int × Int)) (p1 : Int) : ∀ s, Le (Gg nE p0 p1 s) (CW p0 p1 s) := by
  rintro ⟨x2, x3⟩
  unfold Gg CW
  repeat' with_reducible (first | refine Le.orR' ?_ ?_ | refine Le.bind' ?_ ?_ | refine Le.ite' ?_ ?_ | refine Le.loop' ?_ | refine Le.altS' ?_ ?_ | exact Le.rfl' _ | (refine Le.pi2 ?_; intro _) | intro _)
def HB (nE : Nat) (p0 : List (Int × Int × Int × Int)) (p1 : Int) : Option (List Int) := (DQ nE (Gg nE p0 p1) ([], 0)).bind fun x1 => (En nE x1).bind fun x7 => (DF nE x7).bind fun x8 => some x8
theorem KP (nE : Nat) (p0 : List (Int × Int × Int × Int)) (p1 : Int) : Le (HB nE p0 p1) (EE p0 p1) := by
  unfold HB EE
  repeat' with_reducible (first | refine Le.orR' ?_ ?_ | refine Le.bind' ?_ ?_ | refine Le.ite' ?_ ?_ | refine Le.loop' ?_ | refine Le.altS' ?_ ?_ | apply GF | apply FQ | apply JG | exact Le.rfl' _ | (refine Le.pi2 ?_; intro _) | intro _)
def GP (nE : Nat) (p2 : Int) (x1 : List Int) : ((List (Int × Int × Int)) × Int) → Option (((List (Int × Int × Int)) × Int) ⊕ (List (Int × Int × Int)))
  | (x3, x4) => (if x4 < (AA ((x1.length : Int) - 1)) then (JN x3 ([(x4, AA (x4 + 1), p2)] : List (Int × Int × Int))).bind fun x5 => some (.inl (x5, AA (x4 + 1))) else some (.inr x3))
theorem J8 (nE : Nat) (p2 : Int) (x1 : List Int) : ∀ s, Le (GP nE p2 x1 s) (DR p2 x1 s) := by
  rintro ⟨x3, x4⟩
  unfold GP DR
  repeat' with_reducible (first | refine Le.orR' ?_ ?_ | refine Le.bind' ?_ ?_ | refine Le.ite' ?_ ?_ | refine Le.loop' ?_ | refine Le.altS' ?_ ?_ | exact Le.rfl' _ | (refine Le.pi2 ?_; intro _) | intro _)
def GZ (nE : Nat) (p0 : List (Int × Int × Int × Int)) (p1 : Int) (x1 : List Int) (x6 : List Int × Bool) : ((List (Int × Int × List Int)) × Int) → Option (((List (Int × Int × List Int)) × Int) ⊕ (List (Int × Int × List Int)))
  | (x8, x9) => (if x9 < (x6.1.length : Int) then (ix x6.1 x9).bind fun x10 => (ix x1 x9).bind fun x11 => (ix x1 x9).bind fun x12 => (HB nE p0 x12).bind fun x13 => (JN x8 ([(x11, AA (p1 + x10), x13)] : List (Int × Int × List Int))).bind fun x14 => some (.inl (x14, AA (x9 + 1))) else some (.inr x8))
theorem Kb (nE : Nat) (p0 : List (Int × Int × Int × Int)) (p1 : Int) (x1 : List Int) (x6 : List Int × Bool) : ∀ s, Le (GZ nE p0 p1 x1 x6 s) (DK p0 p1 x1 x6 s) := by
  rintro ⟨x8, x9⟩
  unfold GZ DK
  repeat' with_reducible (first | refine Le.orR' ?_ ?_ | refine Le.bind' ?_ ?_ | refine Le.ite' ?_ ?_ | refine Le.loop' ?_ | refine Le.altS' ?_ ?_ | apply KP | exact Le.rfl' _ | (refine Le.pi2 ?_; intro _) | intro _)
def Io (nE : Nat) (p0 : List (Int × Int × Int × Int)) (p1 : Int) (p2 : Int) : Option (List (Int × Int × List Int)) := (HY nE p0).bind fun x1 => (DQ nE (GP nE p2 x1) ([], 0)).bind fun x2 => (Hy nE (x1.length : Int) x2).bind fun x6 => (DQ nE (GZ nE p0 p1 x1 x6) ([], 0)).bind fun x7 => some x7
theorem Mi (nE : Nat) (p0 : List (Int × Int × Int × Int)) (p1 : Int) (p2 : Int) : Le (Io nE p0 p1 p2) (Fn p0 p1 p2) := by
  unfold Io Fn
  repeat' with_reducible (first | refine Le.orR' ?_ ?_ | refine Le.bind' ?_ ?_ | refine Le.ite' ?_ ?_ | refine Le.loop' ?_ | refine Le.altS' ?_ ?_ | apply LD | apply KZ | apply J8 | apply Kb | exact Le.rfl' _ | (refine Le.pi2 ?_; intro _) | intro _)
def Jp (nE : Nat) (p0 : Int × (List (Int × Int × Int × Int × Int × Int)) × (List (Int × Int))) (p1 : List (List Int)) (p2 : List (List Int)) (p3 : Int) (p4 : Int) (p5 : Int) : Option (((List (Int × Int × Int × Int)) × (List (Int × Int × List Int)) × Int × Int × Int × Int) × Int) := (if (decide (p3 < 0) || (decide (1099511627776 < p3) || (decide (p4 < 0) || (decide (1048576 < p4) || (decide (p5 < 0) || decide (1048576 < p5)))))) = true then some ((([] : List (Int × Int × Int × Int)), ([] : List (Int × Int × List Int)), 0, 0, 0, 0), 2) else (Im nE p0 p1 p2).bind fun x1 => (if x1.2 ≠ 0 then some ((([] : List (Int × Int × Int × Int)), ([] : List (Int × Int × List Int)), 0, 0, 0, 0), x1.2) else (if (x1.1.length : Int) = 0 then some ((([] : List (Int × Int × Int × Int)), ([] : List (Int × Int × List Int)), 0, 0, 0, 0), 7) else (Ij nE p0).bind fun x2 => (IR nE p0 p4).bind fun x3 => (Io nE x1.1 (AA ((AA ((AA ((AA (p3 + p5)) + p4)) + x2)) + 1)) x3).bind fun x4 => (ix x4 (AA ((x4.length : Int) - 1))).bind fun x5 => (if 1099511627776 < (AA (x5.2.1 + p4)) then some ((([] : List (Int × Int × Int × Int)), ([] : List (Int × Int × List Int)), 0, 0, 0, 0), 11) else some ((x1.1, x4, p4, x2, AA ((AA ((AA ((AA ((AA ((AA (p3 + p5)) + p4)) + x2)) + 1)) - p4)) - x2), AA (x5.2.1 + p4)), 0)))))
theorem Np (nE : Nat) (p0 : Int × (List (Int × Int × Int × Int × Int × Int)) × (List (Int × Int))) (p1 : List (List Int)) (p2 : List (List Int)) (p3 : Int) (p4 : Int) (p5 : Int) : Le (Jp nE p0 p1 p2 p3 p4 p5) (Dx p0 p1 p2 p3 p4 p5) := by
  unfold Jp Dx
  repeat' with_reducible (first | refine Le.orR' ?_ ?_ | refine Le.bind' ?_ ?_ | refine Le.ite' ?_ ?_ | refine Le.loop' ?_ | refine Le.altS' ?_ ?_ | apply Mr | apply Kr | apply Ln | apply Mi | exact Le.rfl' _ | (refine Le.pi2 ?_; intro _) | intro _)
def Ip (nE : Nat) (p0 : Int) : Option Int := (if p0 = 0 then some true else (if p0 = 1 then some true else some (decide (p0 = 3)))).bind fun x1 => (if x1 = true then some 8 else (if p0 = 2 then some 4 else some 0))
theorem LQ (nE : Nat) (p0 : Int) : Le (Ip nE p0) (Hd p0) := by
  unfold Ip Hd
  repeat' with_reducible (first | refine Le.orR' ?_ ?_ | refine Le.bind' ?_ ?_ | refine Le.ite' ?_ ?_ | refine Le.loop' ?_ | refine Le.altS' ?_ ?_ | exact Le.rfl' _ | (refine Le.pi2 ?_; intro _) | intro _)
def HL (nE : Nat) (p0 : Int) : Option Int := (Ip nE p0).bind fun x1 => (RE (Ej .i64 1 x1) x1).bind fun x2 => some (AA (x2 - 1))
theorem MG (nE : Nat) (p0 : Int) : Le (HL nE p0) (GN p0) := by
  unfold HL GN
  repeat' with_reducible (first | refine Le.orR' ?_ ?_ | refine Le.bind' ?_ ?_ | refine Le.ite' ?_ ?_ | refine Le.loop' ?_ | refine Le.altS' ?_ ?_ | apply LQ | exact Le.rfl' _ | (refine Le.pi2 ?_; intro _) | intro _)
def J0 (nE : Nat) (p0 : Int) (p1 : Int) : Option (Int × (Int × Int × Int × Int) × (Int × Int × Int × Int)) := (if p0 < 0 then some true else (if 4 ≤ p0 then some true else (if p1 < 0 then some true else (HL nE p0).bind fun x2 => some (decide (x2 < p1))))).bind fun x1 => (if x1 = true then some Aj else (ix ([Aj.2.1.1, Aj.2.1.2.1, Aj.2.1.2.2.1, Aj.2.1.2.2.2] : List Int) p0).bind fun x3 => (HL nE p0).bind fun x4 => (ix ([Aj.2.2.1, Aj.2.2.2.1, Aj.2.2.2.2.1, Aj.2.2.2.2.2] : List Int) p0).bind fun x5 => some (Aj.1, ((if p0 = 0 then p1 else Aj.2.1.1), (if p0 = 1 then p1 else Aj.2.1.2.1), (if p0 = 2 then p1 else Aj.2.1.2.2.1), (if p0 = 3 then p1 else Aj.2.1.2.2.2)), ((if p0 = 0 then x4 else Aj.2.2.1), (if p0 = 1 then x4 else Aj.2.2.2.1), (if p0 = 2 then x4 else Aj.2.2.2.2.1), (if p0 = 3 then x4 else Aj.2.2.2.2.2))))
theorem NF (nE : Nat) (p0 : Int) (p1 : Int) : Le (J0 nE p0 p1) (Js p0 p1) := by
  unfold J0 Js
  repeat' with_reducible (first | refine Le.orR' ?_ ?_ | refine Le.bind' ?_ ?_ | refine Le.ite' ?_ ?_ | refine Le.loop' ?_ | refine Le.altS' ?_ ?_ | apply MG | exact Le.rfl' _ | (refine Le.pi2 ?_; intro _) | intro _)
def IQ (nE : Nat) (p0 : Int) (p1 : Int) (p2 : Int) (p3 : Int) : Option (Int × (Int × (Int × Int × Int × Int) × (Int × Int × Int × Int)) × (List (Int × Int × Int))) := (J0 nE p0 p1).bind fun x1 => some (p2, x1, ([(2, 0, p3)] : List (Int × Int × Int)))
theorem MT (nE : Nat) (p0 : Int) (p1 : Int) (p2 : Int) (p3 : Int) : Le (IQ nE p0 p1 p2 p3) (H2 p0 p1 p2 p3) := by
  unfold IQ H2
  repeat' with_reducible (first | refine Le.orR' ?_ ?_ | refine Le.bind' ?_ ?_ | refine Le.ite' ?_ ?_ | refine Le.loop' ?_ | refine Le.altS' ?_ ?_ | apply NF | exact Le.rfl' _ | (refine Le.pi2 ?_; intro _) | intro _)
def Hr (nE : Nat) (p0 : List (Int × Int × Int × Int)) (p1 : Int) (p2 : Int) : ((List (Int × (Int × (Int × (Int × Int × Int × Int) × (Int × Int × Int × Int)) × (List (Int × Int × Int))) × Bool)) × Int) → Option (((List (Int × (Int × (Int × (Int × Int × Int × Int) × (Int × Int × Int × Int)) × (List (Int × Int × Int))) × Bool)) × Int) ⊕ (List (Int × (Int × (Int × (Int × Int × Int × Int) × (Int × Int × Int × Int)) × (List (Int × Int × Int))) × Bool)))
  | (x2, x3) => (if x3 < (p0.length : Int) then ((ix p0 x3).bind fun x5 => (if (decide (x5.2.2.2 = p1) && decide (x5.1 = p2)) = true then (IQ nE 1 x5.2.1 10 x5.2.2.1).bind fun x6 => (JN x2 ([(3, x6, false)] : List (Int × (Int × (Int × (Int × Int × Int × Int) × (Int × Int × Int × Int)) × (List (Int × Int × Int))) × Bool))).bind fun x7 => some x7 else some x2)).bind fun x4 => some (.inl (x4, AA (x3 + 1))) else some (.inr x2))
theorem K0 (nE : Nat) (p0 : List (Int × Int × Int × Int)) (p1 : Int) (p2 : Int) : ∀ s, Le (Hr nE p0 p1 p2 s) (Hc p0 p1 p2 s) := by
  rintro ⟨x2, x3⟩
  unfold Hr Hc
  repeat' with_reducible (first | refine Le.orR' ?_ ?_ | refine Le.bind' ?_ ?_ | refine Le.ite' ?_ ?_ | refine Le.loop' ?_ | refine Le.altS' ?_ ?_ | apply MT | exact Le.rfl' _ | (refine Le.pi2 ?_; intro _) | intro _)
def I2 (nE : Nat) (p0 : List (Int × Int × Int × Int)) (p1 : Int) (p2 : Int) : Option (List (Int × (Int × (Int × (Int × Int × Int × Int) × (Int × Int × Int × Int)) × (List (Int × Int × Int))) × Bool)) := (DQ nE (Hr nE p0 p1 p2) ([], 0)).bind fun x1 => some x1
theorem MK (nE : Nat) (p0 : List (Int × Int × Int × Int)) (p1 : Int) (p2 : Int) : Le (I2 nE p0 p1 p2) (Ib p0 p1 p2) := by
  unfold I2 Ib
  repeat' with_reducible (first | refine Le.orR' ?_ ?_ | refine Le.bind' ?_ ?_ | refine Le.ite' ?_ ?_ | refine Le.loop' ?_ | refine Le.altS' ?_ ?_ | apply K0 | exact Le.rfl' _ | (refine Le.pi2 ?_; intro _) | intro _)
def HA (nE : Nat) (p0 : (List (Int × Int × Int × Int)) × (List (Int × Int × List Int)) × Int × Int × Int × Int) (x1 : Int × Int × List Int) : ((List (Int × (List (Int × (Int × (Int × (Int × Int × Int × Int) × (Int × Int × Int × Int)) × (List (Int × Int × Int))) × Bool)))) × Int) → Option (((List (Int × (List (Int × (Int × (Int × (Int × Int × Int × Int) × (Int × Int × Int × Int)) × (List (Int × Int × Int))) × Bool)))) × Int) ⊕ (List (Int × (List (Int × (Int × (Int × (Int × Int × Int × Int) × (Int × Int × Int × Int)) × (List (Int × Int × Int))) × Bool)))))
  | (x3, x4) => (if x4 < (x1.2.2.length : Int) then (ix x1.2.2 x4).bind fun x5 => (I2 nE p0.1 x1.1 x5).bind fun x6 => (JN x3 ([(x5, x6)] : List (Int × (List (Int × (Int × (Int × (Int × Int × Int × Int) × (Int × Int × Int × Int)) × (List (Int × Int × Int))) × Bool))))).bind fun x7 => some (.inl (x7, AA (x4 + 1))) else some (.inr x3))
theorem KU (nE : Nat) (p0 : (List (Int × Int × Int × Int)) × (List (Int × Int × List Int)) × Int × Int × Int × Int) (x1 : Int × Int × List Int) : ∀ s, Le (HA nE p0 x1 s) (Hb p0 x1 s) := by
  rintro ⟨x3, x4⟩
  unfold HA Hb
  repeat' with_reducible (first | refine Le.orR' ?_ ?_ | refine Le.bind' ?_ ?_ | refine Le.ite' ?_ ?_ | refine Le.loop' ?_ | refine Le.altS' ?_ ?_ | apply MK | exact Le.rfl' _ | (refine Le.pi2 ?_; intro _) | intro _)
def IX (nE : Nat) (p0 : (List (Int × Int × Int × Int)) × (List (Int × Int × List Int)) × Int × Int × Int × Int) (p1 : Int) : Option (List (Int × (List (Int × (Int × (Int × (Int × Int × Int × Int) × (Int × Int × Int × Int)) × (List (Int × Int × Int))) × Bool)))) := (if (decide (p1 < 0) || decide ((p0.2.1.length : Int) ≤ p1)) = true then some ([] : List (Int × (List (Int × (Int × (Int × (Int × Int × Int × Int) × (Int × Int × Int × Int)) × (List (Int × Int × Int))) × Bool)))) else (ix p0.2.1 p1).bind fun x1 => (DQ nE (HA nE p0 x1) ([], 0)).bind fun x2 => some x2)
theorem Mz (nE : Nat) (p0 : (List (Int × Int × Int × Int)) × (List (Int × Int × List Int)) × Int × Int × Int × Int) (p1 : Int) : Le (IX nE p0 p1) (Id p0 p1) := by
  unfold IX Id
  repeat' with_reducible (first | refine Le.orR' ?_ ?_ | refine Le.bind' ?_ ?_ | refine Le.ite' ?_ ?_ | refine Le.loop' ?_ | refine Le.altS' ?_ ?_ | apply KU | exact Le.rfl' _ | (refine Le.pi2 ?_; intro _) | intro _)
def Lg (nE : Nat)  : Option Bool := (Jp nE (3, ([(0, 0, 1, 0, 1, 1), (1, 1, 2, 0, 1, 2), (0, 1, 2, 1, 1, 1)] : List (Int × Int × Int × Int × Int × Int)), ([(2, 7)] : List (Int × Int))) ([([0] : List Int), ([1] : List Int), ([7] : List Int)] : List (List Int)) ([([1] : List Int), ([1] : List Int), ([7] : List Int)] : List (List Int)) 100 4 10).bind fun x1 => ((IR nE (3, ([(0, 0, 1, 0, 1, 1), (1, 1, 2, 0, 1, 2), (0, 1, 2, 1, 1, 1)] : List (Int × Int × Int × Int × Int × Int)), ([(2, 7)] : List (Int × Int))) 4).bind fun x3 => (if x3 = 15 then (if x1.2 = 0 then (if (x1.1.2.1.length : Int) = 1 then (ix x1.1.2.1 0).bind fun x4 => (if x4.2.1 = 121 then (if x1.1.2.2.2.2.1 = 111 then (if x1.1.2.2.2.2.2 = 125 then (if (FN x1.1 125) = true then (IX nE x1.1 0).bind fun x5 => some (decide ((x5.length : Int) = 1)) else some false) else some false) else some false) else some false) else some false) else some false) else some false)).bind fun x2 => some x2
theorem Nl (nE : Nat)  : Le (Lg nE ) (GX ) := by
  unfold Lg GX
  repeat' with_reducible (first | refine Le.orR' ?_ ?_ | refine Le.bind' ?_ ?_ | refine Le.ite' ?_ ?_ | refine Le.loop' ?_ | refine Le.altS' ?_ ?_ | apply Ln | apply Np | apply Mz | exact Le.rfl' _ | (refine Le.pi2 ?_; intro _) | intro _)
theorem QS : GX = some true := Nl 60 _ (by kernel_rfl)
end Go.Proofs.Ytjcaadbafjgefaa
