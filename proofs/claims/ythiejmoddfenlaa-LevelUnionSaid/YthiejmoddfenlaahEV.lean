/- Twins with fuel of HZ functions: what a twin answers, the function answers. Conditions: none. -/
import Derived.Test.YthiejmoddfenlaahLP
import Derived.Test.YthiejmoddfenlaahC1
namespace Go.Proofs.Ythiejmoddfenlaa
open Go Go.RowKit
set_option linter.unusedVariables false
set_option linter.unusedSimpArgs false
set_option maxRecDepth 20000
set_option maxHeartbeats 1600000
abbrev Le {α : Type} (a b : Option α) : Prop := ∀ r, a = some r → b = some r
theorem Le.rfl' {α : Type} (a : Option α) : Le a a := fun _ h => h
theorem Le.bind' {α β : Type} {a b : Option α} {f g : α → Option β} (h : Le a b) (hf : ∀ x, Le (f x) (g x)) : Le (a.bind f) (b.bind g) := fun r e => by
  obtain ⟨x, h1, h2⟩ := Ak e
  rw [h x h1, Option.bind_some]; exact hf x r h2
theorem Le.ite' {α : Type} {c : Prop} [Decidable c] {a a' b b' : Option α} (h1 : Le a a') (h2 : Le b b') : Le (if c then a else b) (if c then a' else b') := fun r e => by
  by_cases h : c
  · rw [if_pos h] at e ⊢; exact h1 r e
  · rw [if_neg h] at e ⊢; exact h2 r e
theorem Le.orR' {α β : Type} {a b : Option (α ⊕ β)} {f g : α → Option β} (h : Le a b) (hf : ∀ x, Le (f x) (g x)) : Le (FB a f) (FB b g) :=
  Le.bind' h fun x => by
    cases x with
    | inl t => exact hf t
    | inr e => exact Le.rfl' _
def Df {σ ε : Type} (n : Nat) (step : σ → Option (σ ⊕ ε)) (s : σ) : Option ε := Hm step n s
theorem JW {σ ε : Type} {S T : σ → Option (σ ⊕ ε)} (h : ∀ s, Le (S s) (T s)) : ∀ (n : Nat) (s : σ), Le (Hm S n s) (Hm T n s)
  | 0, s => Le.rfl' _
  | n + 1, s => fun r e => by
    unfold Hm at e ⊢
    cases hs : S s with
    | none => rw [hs] at e; cases e
    | some q =>
      rw [hs] at e; rw [h s q hs]
      cases q with
      | inl s' => exact JW h n s' r e
      | inr _ => exact e
theorem Le.loop' {σ ε : Type} {n : Nat} {S T : σ → Option (σ ⊕ ε)} {s : σ} (h : ∀ s, Le (S s) (T s)) : Le (Df n S s) (AG T s) := fun r e => FW.2 ⟨n, JW h n s r e⟩
theorem Le.pi2 {α β γ : Type} {f g : α × β → Option γ} (h : ∀ a b, Le (f (a, b)) (g (a, b))) : ∀ x, Le (f x) (g x) := fun x => h x.1 x.2
theorem Le.altS' {α β γ : Type} {y : α ⊕ β} {f f' : α → Option γ} {g g' : β → Option γ} (h : ∀ x, Le (f x) (f' x)) (k : ∀ x, Le (g x) (g' x)) : Le (R5 y f g) (R5 y f' g') := by
  cases y with
  | inl x => exact h x
  | inr x => exact k x
theorem QM {β : Type} {g : Nat → Option β} (hm : ∀ n r, g n = some r → g (n + 1) = some r) {n : Nat} {r : β} (h : g n = some r) : N1 g = some r := by
  have up : ∀ (d m : Nat) (q : β), g m = some q → g (m + d) = some q := fun d => by
    induction d with
    | zero => exact fun m q h => h
    | succ d ih => exact fun m q h => hm _ _ (ih m q h)
  refine OP n h fun m q hq => ?_
  have h1 := up m n r h
  have h2 := up n m q hq
  rw [Nat.add_comm] at h2
  exact Option.some.inj (h2.symm.trans h1)
theorem Le.loopM {σ ε : Type} {S T : σ → Option (σ ⊕ ε)} {s : σ} (h : ∀ s, Le (S s) (T s)) : Le (AG S s) (AG T s) := fun r e => by
  obtain ⟨n, hn⟩ := FW.1 e
  exact FW.2 ⟨n, JW h n s r hn⟩
def Hf (nE : Nat) (p0 : Int × (List (Int × Int × Int × Int × Int × Int)) × (List (Int × Int))) : ((List (Int × Int)) × Int) → Option (((List (Int × Int)) × Int) ⊕ (List (Int × Int)))
  | (x2, x3) => (if x3 < (p0.2.1.length : Int) then (ix p0.2.1 x3).bind fun x4 => (Ld x2 ([(x4.1, x4.2.1), (x4.2.2.1, x4.2.2.2.1)] : List (Int × Int))).bind fun x5 => some (.inl (x5, AB (x3 + 1))) else some (.inr x2))
theorem J8 (nE : Nat) (p0 : Int × (List (Int × Int × Int × Int × Int × Int)) × (List (Int × Int))) : ∀ s, Le (Hf nE p0 s) (DV p0 s) := by
  rintro ⟨x2, x3⟩
  unfold Hf DV
  repeat' with_reducible (first | refine Le.orR' ?_ ?_ | refine Le.bind' ?_ ?_ | refine Le.ite' ?_ ?_ | refine Le.loop' ?_ | refine Le.altS' ?_ ?_ | exact Le.rfl' _ | (refine Le.pi2 ?_; intro _) | intro _)
def Hi (nE : Nat) (p0 : Int × (List (Int × Int × Int × Int × Int × Int)) × (List (Int × Int))) : ((List (Int × Int)) × Int) → Option (((List (Int × Int)) × Int) ⊕ (List (Int × Int)))
  | (x7, x8) => (if x8 < (p0.2.2.length : Int) then (ix p0.2.2 x8).bind fun x9 => (Ld x7 ([x9] : List (Int × Int))).bind fun x10 => some (.inl (x10, AB (x8 + 1))) else some (.inr x7))
theorem J2 (nE : Nat) (p0 : Int × (List (Int × Int × Int × Int × Int × Int)) × (List (Int × Int))) : ∀ s, Le (Hi nE p0 s) (DS p0 s) := by
  rintro ⟨x7, x8⟩
  unfold Hi DS
  repeat' with_reducible (first | refine Le.orR' ?_ ?_ | refine Le.bind' ?_ ?_ | refine Le.ite' ?_ ?_ | refine Le.loop' ?_ | refine Le.altS' ?_ ?_ | exact Le.rfl' _ | (refine Le.pi2 ?_; intro _) | intro _)
def Iw (nE : Nat) (p0 : Int × (List (Int × Int × Int × Int × Int × Int)) × (List (Int × Int))) : Option (List (Int × Int)) := (Df nE (Hf nE p0) ([], 0)).bind fun x1 => (Df nE (Hi nE p0) (x1, 0)).bind fun x6 => some x6
theorem Lu (nE : Nat) (p0 : Int × (List (Int × Int × Int × Int × Int × Int)) × (List (Int × Int))) : Le (Iw nE p0) (FR p0) := by
  unfold Iw FR
  repeat' with_reducible (first | refine Le.orR' ?_ ?_ | refine Le.bind' ?_ ?_ | refine Le.ite' ?_ ?_ | refine Le.loop' ?_ | refine Le.altS' ?_ ?_ | apply J8 | apply J2 | exact Le.rfl' _ | (refine Le.pi2 ?_; intro _) | intro _)
def CR (nE : Nat) (p0 : List (Int × Int × Int × Int × Int × Int)) : Int → Option (Int ⊕ (Unit ⊕ Int))
  | x1 => (if x1 < (p0.length : Int) then (ix p0 x1).bind fun x2 => (if (Cr x2) = true then some (.inr (.inr x1)) else some (.inl (AB (x1 + 1)))) else some (.inr (.inl ())))
theorem Fy (nE : Nat) (p0 : List (Int × Int × Int × Int × Int × Int)) : ∀ s, Le (CR nE p0 s) (A1 p0 s) := by
  intro x1
  unfold CR A1
  repeat' with_reducible (first | refine Le.orR' ?_ ?_ | refine Le.bind' ?_ ?_ | refine Le.ite' ?_ ?_ | refine Le.loop' ?_ | refine Le.altS' ?_ ?_ | exact Le.rfl' _ | (refine Le.pi2 ?_; intro _) | intro _)
def C9 (nE : Nat) (p0 : List (Int × Int × Int × Int × Int × Int)) : Option Int := FB (Df nE (CR nE p0) 0) fun _ => some (-1)
theorem FZ (nE : Nat) (p0 : List (Int × Int × Int × Int × Int × Int)) : Le (C9 nE p0) (BZ p0) := by
  unfold C9 BZ
  repeat' with_reducible (first | refine Le.orR' ?_ ?_ | refine Le.bind' ?_ ?_ | refine Le.ite' ?_ ?_ | refine Le.loop' ?_ | refine Le.altS' ?_ ?_ | apply Fy | exact Le.rfl' _ | (refine Le.pi2 ?_; intro _) | intro _)
def CY (nE : Nat) (p0 : List (Int × Int × Int × Int × Int × Int)) : Option Bool := (C9 nE p0).bind fun x1 => some (decide (0 ≤ x1))
theorem Fo (nE : Nat) (p0 : List (Int × Int × Int × Int × Int × Int)) : Le (CY nE p0) (BF p0) := by
  unfold CY BF
  repeat' with_reducible (first | refine Le.orR' ?_ ?_ | refine Le.bind' ?_ ?_ | refine Le.ite' ?_ ?_ | refine Le.loop' ?_ | refine Le.altS' ?_ ?_ | apply FZ | exact Le.rfl' _ | (refine Le.pi2 ?_; intro _) | intro _)
def HC (nE : Nat) (p0 : Int × (List (Int × Int × Int × Int × Int × Int)) × (List (Int × Int))) (x2 : (List (Int × Int))) : (Int × (List ((Int × Int) × Unit))) → Option ((Int × (List ((Int × Int) × Unit))) ⊕ ((List ((Int × Int) × Unit)) ⊕ Bool))
  | (x3, x4) => (if x3 < (x2.length : Int) then (ix x2 x3).bind fun x5 => (if (decide (x5.1 < 0) || (decide (p0.1 ≤ x5.1) || (decide (x5.2 < 0) || decide (8 ≤ x5.2)))) = true then some (.inr (.inr false)) else (if ((KC x4 x5).isSome) = true then some (.inr (.inr false)) else some (.inl (AB (x3 + 1), Ko x4 x5 ())))) else some (.inr (.inl x4)))
theorem Kv (nE : Nat) (p0 : Int × (List (Int × Int × Int × Int × Int × Int)) × (List (Int × Int))) (x2 : (List (Int × Int))) : ∀ s, Le (HC nE p0 x2 s) (Dj p0 x2 s) := by
  rintro ⟨x3, x4⟩
  unfold HC Dj
  repeat' with_reducible (first | refine Le.orR' ?_ ?_ | refine Le.bind' ?_ ?_ | refine Le.ite' ?_ ?_ | refine Le.loop' ?_ | refine Le.altS' ?_ ?_ | exact Le.rfl' _ | (refine Le.pi2 ?_; intro _) | intro _)
def I9 (nE : Nat) (p0 : Int × (List (Int × Int × Int × Int × Int × Int)) × (List (Int × Int))) : Option Bool := (if (decide (p0.1 < 1) || (decide (8 < p0.1) || (decide (24 < (p0.2.1.length : Int)) || decide (8 < (p0.2.2.length : Int))))) = true then some false else FB ((Iw nE p0).bind fun x2 => Df nE (HC nE p0 x2) (0, ([] : List ((Int × Int) × Unit)))) fun x1 => (CY nE p0.2.1).bind fun x6 => some (!x6))
theorem Mi (nE : Nat) (p0 : Int × (List (Int × Int × Int × Int × Int × Int)) × (List (Int × Int))) : Le (I9 nE p0) (Gp p0) := by
  unfold I9 Gp
  repeat' with_reducible (first | refine Le.orR' ?_ ?_ | refine Le.bind' ?_ ?_ | refine Le.ite' ?_ ?_ | refine Le.loop' ?_ | refine Le.altS' ?_ ?_ | apply Lu | apply Fo | apply Kv | exact Le.rfl' _ | (refine Le.pi2 ?_; intro _) | intro _)
def DN (nE : Nat) (p0 : List Int) : Int → Option (Int ⊕ (Unit ⊕ Int))
  | x1 => (if x1 < (p0.length : Int) then (ix p0 x1).bind fun x2 => (if (DD x2) = true then some (.inr (.inr x1)) else some (.inl (AB (x1 + 1)))) else some (.inr (.inl ())))
theorem GZ (nE : Nat) (p0 : List Int) : ∀ s, Le (DN nE p0 s) (BM p0 s) := by
  intro x1
  unfold DN BM
  repeat' with_reducible (first | refine Le.orR' ?_ ?_ | refine Le.bind' ?_ ?_ | refine Le.ite' ?_ ?_ | refine Le.loop' ?_ | refine Le.altS' ?_ ?_ | exact Le.rfl' _ | (refine Le.pi2 ?_; intro _) | intro _)
def Ej (nE : Nat) (p0 : List Int) : Option Int := FB (Df nE (DN nE p0) 0) fun _ => some (-1)
theorem HP (nE : Nat) (p0 : List Int) : Le (Ej nE p0) (CH p0) := by
  unfold Ej CH
  repeat' with_reducible (first | refine Le.orR' ?_ ?_ | refine Le.bind' ?_ ?_ | refine Le.ite' ?_ ?_ | refine Le.loop' ?_ | refine Le.altS' ?_ ?_ | apply GZ | exact Le.rfl' _ | (refine Le.pi2 ?_; intro _) | intro _)
def DU (nE : Nat) (p0 : List Int) : Option Bool := (Ej nE p0).bind fun x1 => some (decide (0 ≤ x1))
theorem GX (nE : Nat) (p0 : List Int) : Le (DU nE p0) (Cd p0) := by
  unfold DU Cd
  repeat' with_reducible (first | refine Le.orR' ?_ ?_ | refine Le.bind' ?_ ?_ | refine Le.ite' ?_ ?_ | refine Le.loop' ?_ | refine Le.altS' ?_ ?_ | apply HP | exact Le.rfl' _ | (refine Le.pi2 ?_; intro _) | intro _)
def Hd (nE : Nat) (p0 : Int × (List (Int × Int × Int × Int × Int × Int)) × (List (Int × Int))) (p1 : List (List Int)) : Int → Option (Int ⊕ (Unit ⊕ Bool))
  | x3 => (if x3 < (p1.length : Int) then (ix p1 x3).bind fun x4 => (if (x4.length : Int) ≠ (p0.2.2.length : Int) then some true else (DU nE x4).bind fun x6 => some x6).bind fun x5 => (if x5 = true then some (.inr (.inr false)) else some (.inl (AB (x3 + 1)))) else some (.inr (.inl ())))
theorem J5 (nE : Nat) (p0 : Int × (List (Int × Int × Int × Int × Int × Int)) × (List (Int × Int))) (p1 : List (List Int)) : ∀ s, Le (Hd nE p0 p1 s) (Ei p0 p1 s) := by
  intro x3
  unfold Hd Ei
  repeat' with_reducible (first | refine Le.orR' ?_ ?_ | refine Le.bind' ?_ ?_ | refine Le.ite' ?_ ?_ | refine Le.loop' ?_ | refine Le.altS' ?_ ?_ | apply GX | exact Le.rfl' _ | (refine Le.pi2 ?_; intro _) | intro _)
def Hk (nE : Nat) (p0 : Int × (List (Int × Int × Int × Int × Int × Int)) × (List (Int × Int))) (p1 : List (List Int)) : Option Bool := ((I9 nE p0).bind fun x2 => (if (!x2) = true then some true else some (decide ((p1.length : Int) ≠ p0.1)))).bind fun x1 => (if x1 = true then some false else FB (Df nE (Hd nE p0 p1) 0) fun _ => some true)
theorem Jr (nE : Nat) (p0 : Int × (List (Int × Int × Int × Int × Int × Int)) × (List (Int × Int))) (p1 : List (List Int)) : Le (Hk nE p0 p1) (EH p0 p1) := by
  unfold Hk EH
  repeat' with_reducible (first | refine Le.orR' ?_ ?_ | refine Le.bind' ?_ ?_ | refine Le.ite' ?_ ?_ | refine Le.loop' ?_ | refine Le.altS' ?_ ?_ | apply Mi | apply J5 | exact Le.rfl' _ | (refine Le.pi2 ?_; intro _) | intro _)
def Di (nE : Nat) (p0 : List (Int × Int)) (p1 : Int × Int) : Int → Option (Int ⊕ (Unit ⊕ Int))
  | x1 => (if x1 < (p0.length : Int) then (ix p0 x1).bind fun x2 => (if p1.1 = x2.1 ∧ p1.2 = x2.2 then some (.inr (.inr x1)) else some (.inl (AB (x1 + 1)))) else some (.inr (.inl ())))
theorem F8 (nE : Nat) (p0 : List (Int × Int)) (p1 : Int × Int) : ∀ s, Le (Di nE p0 p1 s) (Ba p0 p1 s) := by
  intro x1
  unfold Di Ba
  repeat' with_reducible (first | refine Le.orR' ?_ ?_ | refine Le.bind' ?_ ?_ | refine Le.ite' ?_ ?_ | refine Le.loop' ?_ | refine Le.altS' ?_ ?_ | exact Le.rfl' _ | (refine Le.pi2 ?_; intro _) | intro _)
def Dz (nE : Nat) (p0 : List (Int × Int)) (p1 : Int × Int) : Option Int := FB (Df nE (Di nE p0 p1) 0) fun _ => some (-1)
theorem GB (nE : Nat) (p0 : List (Int × Int)) (p1 : Int × Int) : Le (Dz nE p0 p1) (Cf p0 p1) := by
  unfold Dz Cf
  repeat' with_reducible (first | refine Le.orR' ?_ ?_ | refine Le.bind' ?_ ?_ | refine Le.ite' ?_ ?_ | refine Le.loop' ?_ | refine Le.altS' ?_ ?_ | apply F8 | exact Le.rfl' _ | (refine Le.pi2 ?_; intro _) | intro _)
def Iz (nE : Nat) (p0 : Int × (List (Int × Int × Int × Int × Int × Int)) × (List (Int × Int))) (p1 : Int) (p2 : Int) : Option Int := (Dz nE p0.2.2 (p1, p2)).bind fun x1 => some x1
theorem LU (nE : Nat) (p0 : Int × (List (Int × Int × Int × Int × Int × Int)) × (List (Int × Int))) (p1 : Int) (p2 : Int) : Le (Iz nE p0 p1 p2) (E7 p0 p1 p2) := by
  unfold Iz E7
  repeat' with_reducible (first | refine Le.orR' ?_ ?_ | refine Le.bind' ?_ ?_ | refine Le.ite' ?_ ?_ | refine Le.loop' ?_ | refine Le.altS' ?_ ?_ | apply GB | exact Le.rfl' _ | (refine Le.pi2 ?_; intro _) | intro _)
def H2 (nE : Nat) (p0 : Int × (List (Int × Int × Int × Int × Int × Int)) × (List (Int × Int))) (p1 : Int) (p2 : Int) : Int → Option (Int ⊕ (Unit ⊕ (Int × Int × Int × Bool)))
  | x1 => (if x1 < (p0.2.1.length : Int) then (ix p0.2.1 x1).bind fun x2 => (if p1 = x2.1 ∧ p2 = x2.2.1 then some (.inr (.inr (x2.2.2.1, x2.2.2.2.1, x1, true))) else (if p1 = x2.2.2.1 ∧ p2 = x2.2.2.2.1 then some (.inr (.inr (x2.1, x2.2.1, x1, true))) else some (.inl (AB (x1 + 1))))) else some (.inr (.inl ())))
theorem Lg (nE : Nat) (p0 : Int × (List (Int × Int × Int × Int × Int × Int)) × (List (Int × Int))) (p1 : Int) (p2 : Int) : ∀ s, Le (H2 nE p0 p1 p2 s) (Dl p0 p1 p2 s) := by
  intro x1
  unfold H2 Dl
  repeat' with_reducible (first | refine Le.orR' ?_ ?_ | refine Le.bind' ?_ ?_ | refine Le.ite' ?_ ?_ | refine Le.loop' ?_ | refine Le.altS' ?_ ?_ | exact Le.rfl' _ | (refine Le.pi2 ?_; intro _) | intro _)
def Jt (nE : Nat) (p0 : Int × (List (Int × Int × Int × Int × Int × Int)) × (List (Int × Int))) (p1 : Int) (p2 : Int) : Option (Int × Int × Int × Bool) := FB (Df nE (H2 nE p0 p1 p2) 0) fun _ => some (0, 0, 0, false)
theorem Nd (nE : Nat) (p0 : Int × (List (Int × Int × Int × Int × Int × Int)) × (List (Int × Int))) (p1 : Int) (p2 : Int) : Le (Jt nE p0 p1 p2) (E0 p0 p1 p2) := by
  unfold Jt E0
  repeat' with_reducible (first | refine Le.orR' ?_ ?_ | refine Le.bind' ?_ ?_ | refine Le.ite' ?_ ?_ | refine Le.loop' ?_ | refine Le.altS' ?_ ?_ | apply Lg | exact Le.rfl' _ | (refine Le.pi2 ?_; intro _) | intro _)
def IY (nE : Nat) (p0 : Int × (List (Int × Int × Int × Int × Int × Int)) × (List (Int × Int))) (p1 : List (List Int)) (p2 : Int) (p3 : Int) : Option (Int × Bool) := (if p2 < 0 then some true else (if (p1.length : Int) ≤ p2 then some true else (if p3 < 0 then some true else (ix p1 p2).bind fun x2 => some (decide ((x2.length : Int) ≤ p3))))).bind fun x1 => (if x1 = true then some (0, false) else (ix p1 p2).bind fun x3 => (ix x3 p3).bind fun x4 => (Jt nE p0 p2 x4).bind fun x5 => some (x5.1, x5.2.2.2))
theorem Mq (nE : Nat) (p0 : Int × (List (Int × Int × Int × Int × Int × Int)) × (List (Int × Int))) (p1 : List (List Int)) (p2 : Int) (p3 : Int) : Le (IY nE p0 p1 p2 p3) (Gk p0 p1 p2 p3) := by
  unfold IY Gk
  repeat' with_reducible (first | refine Le.orR' ?_ ?_ | refine Le.bind' ?_ ?_ | refine Le.ite' ?_ ?_ | refine Le.loop' ?_ | refine Le.altS' ?_ ?_ | apply Nd | exact Le.rfl' _ | (refine Le.pi2 ?_; intro _) | intro _)
def E4 (nE : Nat) (p0 : List Int) (p1 : Int) : Int → Option (Int ⊕ (Unit ⊕ Bool))
  | x1 => (if x1 < (p0.length : Int) then (ix p0 x1).bind fun x2 => (if p1 = x2 then some (.inr (.inr true)) else some (.inl (AB (x1 + 1)))) else some (.inr (.inl ())))
theorem In (nE : Nat) (p0 : List Int) (p1 : Int) : ∀ s, Le (E4 nE p0 p1 s) (CI p0 p1 s) := by
  intro x1
  unfold E4 CI
  repeat' with_reducible (first | refine Le.orR' ?_ ?_ | refine Le.bind' ?_ ?_ | refine Le.ite' ?_ ?_ | refine Le.loop' ?_ | refine Le.altS' ?_ ?_ | exact Le.rfl' _ | (refine Le.pi2 ?_; intro _) | intro _)
def FK (nE : Nat) (p0 : List Int) (p1 : Int) : Option Bool := FB (Df nE (E4 nE p0 p1) 0) fun _ => some false
theorem Jd (nE : Nat) (p0 : List Int) (p1 : Int) : Le (FK nE p0 p1) (Dm p0 p1) := by
  unfold FK Dm
  repeat' with_reducible (first | refine Le.orR' ?_ ?_ | refine Le.bind' ?_ ?_ | refine Le.ite' ?_ ?_ | refine Le.loop' ?_ | refine Le.altS' ?_ ?_ | apply In | exact Le.rfl' _ | (refine Le.pi2 ?_; intro _) | intro _)
def HE (nE : Nat) (p0 : Int × (List (Int × Int × Int × Int × Int × Int)) × (List (Int × Int))) (p1 : List (List Int)) (p3 : Int) : (Int × List Int) → Option ((Int × List Int) ⊕ ((List Int) ⊕ (List Int × Int)))
  | (x2, x3) => (ix p1 x2).bind fun x4 => (ix x4 p3).bind fun x5 => (Iz nE p0 x2 x5).bind fun x6 => (if x6 ≠ p3 then (IY nE p0 p1 x2 p3).bind fun x7 => (if (!x7.2) = true then some (.inr (.inr (([] : List Int), 13))) else (FK nE x3 x7.1).bind fun x8 => (if x8 = true then some (.inr (.inr (([] : List Int), 12))) else (Ld x3 ([x7.1] : List Int)).bind fun x9 => some (.inl (x7.1, x9)))) else some (.inr (.inl x3)))
theorem Kp (nE : Nat) (p0 : Int × (List (Int × Int × Int × Int × Int × Int)) × (List (Int × Int))) (p1 : List (List Int)) (p3 : Int) : ∀ s, Le (HE nE p0 p1 p3 s) (DL p0 p1 p3 s) := by
  rintro ⟨x2, x3⟩
  unfold HE DL
  repeat' with_reducible (first | refine Le.orR' ?_ ?_ | refine Le.bind' ?_ ?_ | refine Le.ite' ?_ ?_ | refine Le.loop' ?_ | refine Le.altS' ?_ ?_ | apply LU | apply Mq | apply Jd | exact Le.rfl' _ | (refine Le.pi2 ?_; intro _) | intro _)
def HO (nE : Nat) (p0 : Int × (List (Int × Int × Int × Int × Int × Int)) × (List (Int × Int))) (p1 : List (List Int)) (p2 : Int) (p3 : Int) : Option (List Int × Int) := FB (Df nE (HE nE p0 p1 p3) (p2, ([p2] : List Int))) fun x1 => some (x1, 0)
theorem JM (nE : Nat) (p0 : Int × (List (Int × Int × Int × Int × Int × Int)) × (List (Int × Int))) (p1 : List (List Int)) (p2 : Int) (p3 : Int) : Le (HO nE p0 p1 p2 p3) (FL p0 p1 p2 p3) := by
  unfold HO FL
  repeat' with_reducible (first | refine Le.orR' ?_ ?_ | refine Le.bind' ?_ ?_ | refine Le.ite' ?_ ?_ | refine Le.loop' ?_ | refine Le.altS' ?_ ?_ | apply Kp | exact Le.rfl' _ | (refine Le.pi2 ?_; intro _) | intro _)
def HA (nE : Nat) (p0 : Int × (List (Int × Int × Int × Int × Int × Int)) × (List (Int × Int))) (p1 : List (List Int)) (x2 : Int) (x3 : List Int) : Int → Option (Int ⊕ (Unit ⊕ (Int ⊕ (Unit ⊕ Bool))))
  | x4 => (if x4 < (x3.length : Int) then (HO nE p0 p1 x2 x4).bind fun x5 => (if x5.2 ≠ 0 then some (.inr (.inr (.inr (.inr false)))) else some (.inl (AB (x4 + 1)))) else some (.inr (.inl ())))
theorem Ky (nE : Nat) (p0 : Int × (List (Int × Int × Int × Int × Int × Int)) × (List (Int × Int))) (p1 : List (List Int)) (x2 : Int) (x3 : List Int) : ∀ s, Le (HA nE p0 p1 x2 x3 s) (Ea p0 p1 x2 x3 s) := by
  intro x4
  unfold HA Ea
  repeat' with_reducible (first | refine Le.orR' ?_ ?_ | refine Le.bind' ?_ ?_ | refine Le.ite' ?_ ?_ | refine Le.loop' ?_ | refine Le.altS' ?_ ?_ | apply JM | exact Le.rfl' _ | (refine Le.pi2 ?_; intro _) | intro _)
def Hv (nE : Nat) (p0 : Int × (List (Int × Int × Int × Int × Int × Int)) × (List (Int × Int))) (p1 : List (List Int)) : Int → Option (Int ⊕ (Unit ⊕ Bool))
  | x2 => (if x2 < (p1.length : Int) then FB ((ix p1 x2).bind fun x3 => Df nE (HA nE p0 p1 x2 x3) 0) fun _ => some (.inl (AB (x2 + 1))) else some (.inr (.inl ())))
theorem Kq (nE : Nat) (p0 : Int × (List (Int × Int × Int × Int × Int × Int)) × (List (Int × Int))) (p1 : List (List Int)) : ∀ s, Le (Hv nE p0 p1 s) (EL p0 p1 s) := by
  intro x2
  unfold Hv EL
  repeat' with_reducible (first | refine Le.orR' ?_ ?_ | refine Le.bind' ?_ ?_ | refine Le.ite' ?_ ?_ | refine Le.loop' ?_ | refine Le.altS' ?_ ?_ | apply Ky | exact Le.rfl' _ | (refine Le.pi2 ?_; intro _) | intro _)
def HM (nE : Nat) (p0 : Int × (List (Int × Int × Int × Int × Int × Int)) × (List (Int × Int))) (p1 : List (List Int)) : Option Bool := (Hk nE p0 p1).bind fun x1 => (if (!x1) = true then some false else FB (Df nE (Hv nE p0 p1) 0) fun _ => some true)
theorem Mg (nE : Nat) (p0 : Int × (List (Int × Int × Int × Int × Int × Int)) × (List (Int × Int))) (p1 : List (List Int)) : Le (HM nE p0 p1) (FJ p0 p1) := by
  unfold HM FJ
  repeat' with_reducible (first | refine Le.orR' ?_ ?_ | refine Le.bind' ?_ ?_ | refine Le.ite' ?_ ?_ | refine Le.loop' ?_ | refine Le.altS' ?_ ?_ | apply Jr | apply Kq | exact Le.rfl' _ | (refine Le.pi2 ?_; intro _) | intro _)
def H1 (nE : Nat) (p0 : Int × (List (Int × Int × Int × Int × Int × Int)) × (List (Int × Int))) (p1 : List (List Int)) (p2 : Int) : (List Int × Int) → Option ((List Int × Int) ⊕ (List Int))
  | (x4, x5) => (if x5 < (p1.length : Int) then (HO nE p0 p1 x5 p2).bind fun x6 => (Ld x4 ([AB ((x6.1.length : Int) - 1)] : List Int)).bind fun x7 => some (.inl (x7, AB (x5 + 1))) else some (.inr x4))
theorem Lj (nE : Nat) (p0 : Int × (List (Int × Int × Int × Int × Int × Int)) × (List (Int × Int))) (p1 : List (List Int)) (p2 : Int) : ∀ s, Le (H1 nE p0 p1 p2 s) (EI p0 p1 p2 s) := by
  rintro ⟨x4, x5⟩
  unfold H1 EI
  repeat' with_reducible (first | refine Le.orR' ?_ ?_ | refine Le.bind' ?_ ?_ | refine Le.ite' ?_ ?_ | refine Le.loop' ?_ | refine Le.altS' ?_ ?_ | apply JM | exact Le.rfl' _ | (refine Le.pi2 ?_; intro _) | intro _)
def Jl (nE : Nat) (p0 : Int × (List (Int × Int × Int × Int × Int × Int)) × (List (Int × Int))) (p1 : List (List Int)) (p2 : Int) : Option (List Int) := ((Hk nE p0 p1).bind fun x2 => (if (!x2) = true then some true else (if p2 < 0 then some true else some (decide ((p0.2.2.length : Int) ≤ p2))))).bind fun x1 => (if x1 = true then some ([] : List Int) else (Df nE (H1 nE p0 p1 p2) ([], 0)).bind fun x3 => some x3)
theorem M3 (nE : Nat) (p0 : Int × (List (Int × Int × Int × Int × Int × Int)) × (List (Int × Int))) (p1 : List (List Int)) (p2 : Int) : Le (Jl nE p0 p1 p2) (GW p0 p1 p2) := by
  unfold Jl GW
  repeat' with_reducible (first | refine Le.orR' ?_ ?_ | refine Le.bind' ?_ ?_ | refine Le.ite' ?_ ?_ | refine Le.loop' ?_ | refine Le.altS' ?_ ?_ | apply Jr | apply Lj | exact Le.rfl' _ | (refine Le.pi2 ?_; intro _) | intro _)
def GF (nE : Nat) (p0 : Int) : Option Int := (if 4294967296 ≤ p0 then some (Ge .u64 p0 32, 32) else some (p0, 0)).bind fun (x1, x2) => (if 65536 ≤ x1 then some (Ge .u64 x1 16, AB (x2 + 16)) else some (x1, x2)).bind fun (x3, x4) => (if 256 ≤ x3 then some (Ge .u64 x3 8, AB (x4 + 8)) else some (x3, x4)).bind fun (x5, x6) => (ix ([0, 1, 2, 2, 3, 3, 3, 3, 4, 4, 4, 4, 4, 4, 4, 4, 5, 5, 5, 5, 5, 5, 5, 5, 5, 5, 5, 5, 5, 5, 5, 5, 6, 6, 6, 6, 6, 6, 6, 6, 6, 6, 6, 6, 6, 6, 6, 6, 6, 6, 6, 6, 6, 6, 6, 6, 6, 6, 6, 6, 6, 6, 6, 6, 7, 7, 7, 7, 7, 7, 7, 7, 7, 7, 7, 7, 7, 7, 7, 7, 7, 7, 7, 7, 7, 7, 7, 7, 7, 7, 7, 7, 7, 7, 7, 7, 7, 7, 7, 7, 7, 7, 7, 7, 7, 7, 7, 7, 7, 7, 7, 7, 7, 7, 7, 7, 7, 7, 7, 7, 7, 7, 7, 7, 7, 7, 7, 7, 8, 8, 8, 8, 8, 8, 8, 8, 8, 8, 8, 8, 8, 8, 8, 8, 8, 8, 8, 8, 8, 8, 8, 8, 8, 8, 8, 8, 8, 8, 8, 8, 8, 8, 8, 8, 8, 8, 8, 8, 8, 8, 8, 8, 8, 8, 8, 8, 8, 8, 8, 8, 8, 8, 8, 8, 8, 8, 8, 8, 8, 8, 8, 8, 8, 8, 8, 8, 8, 8, 8, 8, 8, 8, 8, 8, 8, 8, 8, 8, 8, 8, 8, 8, 8, 8, 8, 8, 8, 8, 8, 8, 8, 8, 8, 8, 8, 8, 8, 8, 8, 8, 8, 8, 8, 8, 8, 8, 8, 8, 8, 8, 8, 8, 8, 8, 8, 8, 8, 8, 8, 8, 8, 8, 8, 8, 8, 8] : List UInt8) (IntKind.u8.wrap x5)).bind fun x7 => some (AB (x6 + (AB (x7.toNat : Int))))
theorem JZ (nE : Nat) (p0 : Int) : Le (GF nE p0) (ED p0) := by
  unfold GF ED
  repeat' with_reducible (first | refine Le.orR' ?_ ?_ | refine Le.bind' ?_ ?_ | refine Le.ite' ?_ ?_ | refine Le.loop' ?_ | refine Le.altS' ?_ ?_ | exact Le.rfl' _ | (refine Le.pi2 ?_; intro _) | intro _)
def Fg (nE : Nat) (p0 : Int) : Option Int := (GF nE p0).bind fun x1 => some x1
theorem Hh (nE : Nat) (p0 : Int) : Le (Fg nE p0) (Dx p0) := by
  unfold Fg Dx
  repeat' with_reducible (first | refine Le.orR' ?_ ?_ | refine Le.bind' ?_ ?_ | refine Le.ite' ?_ ?_ | refine Le.loop' ?_ | refine Le.altS' ?_ ?_ | apply JZ | exact Le.rfl' _ | (refine Le.pi2 ?_; intro _) | intro _)
def HD (nE : Nat) (p0 : List Int) : Int → Option (Int ⊕ (Unit ⊕ Int))
  | x1 => (if x1 < (p0.length : Int) then (ix p0 x1).bind fun x2 => (if x2 ≠ 0 then some (.inr (.inr x2)) else some (.inl (AB (x1 + 1)))) else some (.inr (.inl ())))
theorem KB (nE : Nat) (p0 : List Int) : ∀ s, Le (HD nE p0 s) (Dg p0 s) := by
  intro x1
  unfold HD Dg
  repeat' with_reducible (first | refine Le.orR' ?_ ?_ | refine Le.bind' ?_ ?_ | refine Le.ite' ?_ ?_ | refine Le.loop' ?_ | refine Le.altS' ?_ ?_ | exact Le.rfl' _ | (refine Le.pi2 ?_; intro _) | intro _)
def IV (nE : Nat) (p0 : List Int) : Option Int := FB (Df nE (HD nE p0) 0) fun _ => some 0
theorem Me (nE : Nat) (p0 : List Int) : Le (IV nE p0) (Gr p0) := by
  unfold IV Gr
  repeat' with_reducible (first | refine Le.orR' ?_ ?_ | refine Le.bind' ?_ ?_ | refine Le.ite' ?_ ?_ | refine Le.loop' ?_ | refine Le.altS' ?_ ?_ | apply KB | exact Le.rfl' _ | (refine Le.pi2 ?_; intro _) | intro _)
def B4 (nE : Nat) (p0 : Int × Int × Int × Int) (p1 : Int × Int × Int × Int) : Option Int := (IV nE ([(AX p0.2.2.2 p1.2.2.2), (AX p0.1 p1.1), (AX p0.2.1 p1.2.1)] : List Int)).bind fun x1 => some x1
theorem Ce (nE : Nat) (p0 : Int × Int × Int × Int) (p1 : Int × Int × Int × Int) : Le (B4 nE p0 p1) (BU p0 p1) := by
  unfold B4 BU
  repeat' with_reducible (first | refine Le.orR' ?_ ?_ | refine Le.bind' ?_ ?_ | refine Le.ite' ?_ ?_ | refine Le.loop' ?_ | refine Le.altS' ?_ ?_ | apply Me | exact Le.rfl' _ | (refine Le.pi2 ?_; intro _) | intro _)
def Cz (nE : Nat) (p1 : Int) : ((List (Int × Int × Int × Int)) × Int) → Option (((List (Int × Int × Int × Int)) × Int) ⊕ (List (Int × Int × Int × Int)))
  | (x4, x5) => (if p1 < x5 then (ix x4 x5).bind fun x7 => (ix x4 (AB (x5 - 1))).bind fun x8 => (B4 nE x7 x8).bind fun x9 => some (decide (x9 < 0)) else some false).bind fun x6 => (if x6 = true then (ix x4 (AB (x5 - 1))).bind fun x10 => (ix x4 x5).bind fun x11 => (ix x4 x5).bind fun x12 => (ix (Ap x4 x5 x10) (AB (x5 - 1))).bind fun x13 => some (.inl ((Ap (Ap x4 x5 x10) (AB (x5 - 1)) x11), AB (x5 - 1))) else some (.inr x4))
theorem EX (nE : Nat) (p1 : Int) : ∀ s, Le (Cz nE p1 s) (AU p1 s) := by
  rintro ⟨x4, x5⟩
  unfold Cz AU
  repeat' with_reducible (first | refine Le.orR' ?_ ?_ | refine Le.bind' ?_ ?_ | refine Le.ite' ?_ ?_ | refine Le.loop' ?_ | refine Le.altS' ?_ ?_ | apply Ce | exact Le.rfl' _ | (refine Le.pi2 ?_; intro _) | intro _)
def Cy (nE : Nat) (p1 : Int) (p2 : Int) : ((List (Int × Int × Int × Int)) × Int) → Option (((List (Int × Int × Int × Int)) × Int) ⊕ (List (Int × Int × Int × Int)))
  | (x1, x2) => (if x2 < p2 then (Df nE (Cz nE p1) (x1, x2)).bind fun x3 => some (.inl (x3, AB (x2 + 1))) else some (.inr x1))
theorem EV (nE : Nat) (p1 : Int) (p2 : Int) : ∀ s, Le (Cy nE p1 p2 s) (A6 p1 p2 s) := by
  rintro ⟨x1, x2⟩
  unfold Cy A6
  repeat' with_reducible (first | refine Le.orR' ?_ ?_ | refine Le.bind' ?_ ?_ | refine Le.ite' ?_ ?_ | refine Le.loop' ?_ | refine Le.altS' ?_ ?_ | apply EX | exact Le.rfl' _ | (refine Le.pi2 ?_; intro _) | intro _)
def CJ (nE : Nat) (p0 : List (Int × Int × Int × Int)) (p1 : Int) (p2 : Int) : Option (List (Int × Int × Int × Int)) := Df nE (Cy nE p1 p2) (p0, AB (p1 + 1))
theorem Fh (nE : Nat) (p0 : List (Int × Int × Int × Int)) (p1 : Int) (p2 : Int) : Le (CJ nE p0 p1 p2) (Bx p0 p1 p2) := by
  unfold CJ Bx
  repeat' with_reducible (first | refine Le.orR' ?_ ?_ | refine Le.bind' ?_ ?_ | refine Le.ite' ?_ ?_ | refine Le.loop' ?_ | refine Le.altS' ?_ ?_ | apply EV | exact Le.rfl' _ | (refine Le.pi2 ?_; intro _) | intro _)
def C3 (nE : Nat) (p2 : Int) (p3 : Int) : ((List (Int × Int × Int × Int)) × Int) → Option (((List (Int × Int × Int × Int)) × Int) ⊕ (List (Int × Int × Int × Int)))
  | (x1, x2) => (if p2 ≤ (AB ((AB (2 * x2)) + 1)) then some (.inr x1) else ((if (AB ((AB ((AB (2 * x2)) + 1)) + 1)) < p2 then (ix x1 (AB (p3 + (AB ((AB (2 * x2)) + 1))))).bind fun x5 => (ix x1 (AB ((AB (p3 + (AB ((AB (2 * x2)) + 1)))) + 1))).bind fun x6 => (B4 nE x5 x6).bind fun x7 => some (decide (x7 < 0)) else some false).bind fun x4 => (if x4 = true then some (AB ((AB ((AB (2 * x2)) + 1)) + 1)) else some (AB ((AB (2 * x2)) + 1)))).bind fun x3 => (ix x1 (AB (p3 + x2))).bind fun x8 => (ix x1 (AB (p3 + x3))).bind fun x9 => (B4 nE x8 x9).bind fun x10 => (if (!(decide (x10 < 0))) = true then some (.inr x1) else (ix x1 (AB (p3 + x3))).bind fun x11 => (ix x1 (AB (p3 + x2))).bind fun x12 => (ix x1 (AB (p3 + x2))).bind fun x13 => (ix (Ap x1 (AB (p3 + x2)) x11) (AB (p3 + x3))).bind fun x14 => some (.inl ((Ap (Ap x1 (AB (p3 + x2)) x11) (AB (p3 + x3)) x12), x3))))
theorem FH (nE : Nat) (p2 : Int) (p3 : Int) : ∀ s, Le (C3 nE p2 p3 s) (AO p2 p3 s) := by
  rintro ⟨x1, x2⟩
  unfold C3 AO
  repeat' with_reducible (first | refine Le.orR' ?_ ?_ | refine Le.bind' ?_ ?_ | refine Le.ite' ?_ ?_ | refine Le.loop' ?_ | refine Le.altS' ?_ ?_ | apply Ce | exact Le.rfl' _ | (refine Le.pi2 ?_; intro _) | intro _)
def Cw (nE : Nat) (p0 : List (Int × Int × Int × Int)) (p1 : Int) (p2 : Int) (p3 : Int) : Option (List (Int × Int × Int × Int)) := Df nE (C3 nE p2 p3) (p0, p1)
theorem D2 (nE : Nat) (p0 : List (Int × Int × Int × Int)) (p1 : Int) (p2 : Int) (p3 : Int) : Le (Cw nE p0 p1 p2 p3) (BJ p0 p1 p2 p3) := by
  unfold Cw BJ
  repeat' with_reducible (first | refine Le.orR' ?_ ?_ | refine Le.bind' ?_ ?_ | refine Le.ite' ?_ ?_ | refine Le.loop' ?_ | refine Le.altS' ?_ ?_ | apply FH | exact Le.rfl' _ | (refine Le.pi2 ?_; intro _) | intro _)
def C2 (nE : Nat) (p1 : Int) (p2 : Int) : ((List (Int × Int × Int × Int)) × Int) → Option (((List (Int × Int × Int × Int)) × Int) ⊕ (List (Int × Int × Int × Int)))
  | (x2, x3) => (if 0 ≤ x3 then (Cw nE x2 x3 (AB (p2 - p1)) p1).bind fun x4 => some (.inl (x4, AB (x3 - 1))) else some (.inr x2))
theorem FI (nE : Nat) (p1 : Int) (p2 : Int) : ∀ s, Le (C2 nE p1 p2 s) (Bn p1 p2 s) := by
  rintro ⟨x2, x3⟩
  unfold C2 Bn
  repeat' with_reducible (first | refine Le.orR' ?_ ?_ | refine Le.bind' ?_ ?_ | refine Le.ite' ?_ ?_ | refine Le.loop' ?_ | refine Le.altS' ?_ ?_ | apply D2 | exact Le.rfl' _ | (refine Le.pi2 ?_; intro _) | intro _)
def C1 (nE : Nat) (p1 : Int) : ((List (Int × Int × Int × Int)) × Int) → Option (((List (Int × Int × Int × Int)) × Int) ⊕ (List (Int × Int × Int × Int)))
  | (x5, x6) => (if 0 ≤ x6 then (ix x5 (AB (p1 + x6))).bind fun x7 => (ix x5 p1).bind fun x8 => (ix x5 p1).bind fun x9 => (ix (Ap x5 p1 x7) (AB (p1 + x6))).bind fun x10 => (Cw nE (Ap (Ap x5 p1 x7) (AB (p1 + x6)) x8) 0 x6 p1).bind fun x11 => some (.inl (x11, AB (x6 - 1))) else some (.inr x5))
theorem FG (nE : Nat) (p1 : Int) : ∀ s, Le (C1 nE p1 s) (Bo p1 s) := by
  rintro ⟨x5, x6⟩
  unfold C1 Bo
  repeat' with_reducible (first | refine Le.orR' ?_ ?_ | refine Le.bind' ?_ ?_ | refine Le.ite' ?_ ?_ | refine Le.loop' ?_ | refine Le.altS' ?_ ?_ | apply D2 | exact Le.rfl' _ | (refine Le.pi2 ?_; intro _) | intro _)
def Dh (nE : Nat) (p0 : List (Int × Int × Int × Int)) (p1 : Int) (p2 : Int) : Option (List (Int × Int × Int × Int)) := (Df nE (C2 nE p1 p2) (p0, AB (Int.tdiv (AB ((AB (p2 - p1)) - 1)) 2))).bind fun x1 => Df nE (C1 nE p1) (x1, AB ((AB (p2 - p1)) - 1))
theorem F6 (nE : Nat) (p0 : List (Int × Int × Int × Int)) (p1 : Int) (p2 : Int) : Le (Dh nE p0 p1 p2) (BS p0 p1 p2) := by
  unfold Dh BS
  repeat' with_reducible (first | refine Le.orR' ?_ ?_ | refine Le.bind' ?_ ?_ | refine Le.ite' ?_ ?_ | refine Le.loop' ?_ | refine Le.altS' ?_ ?_ | apply FI | apply FG | exact Le.rfl' _ | (refine Le.pi2 ?_; intro _) | intro _)
def Cm (nE : Nat) (p0 : List (Int × Int × Int × Int)) (p1 : Int) (p2 : Int) (p3 : Int) : Option (Int × Int × Int) := (ix p0 p2).bind fun x1 => (ix p0 p1).bind fun x2 => (B4 nE x1 x2).bind fun x3 => (if x3 < 0 then some (p2, p1, AB (p3 + 1)) else some (p1, p2, p3))
theorem Gs (nE : Nat) (p0 : List (Int × Int × Int × Int)) (p1 : Int) (p2 : Int) (p3 : Int) : Le (Cm nE p0 p1 p2 p3) (Bw p0 p1 p2 p3) := by
  unfold Cm Bw
  repeat' with_reducible (first | refine Le.orR' ?_ ?_ | refine Le.bind' ?_ ?_ | refine Le.ite' ?_ ?_ | refine Le.loop' ?_ | refine Le.altS' ?_ ?_ | apply Ce | exact Le.rfl' _ | (refine Le.pi2 ?_; intro _) | intro _)
def CG (nE : Nat) (p0 : List (Int × Int × Int × Int)) (p1 : Int) (p2 : Int) (p3 : Int) (p4 : Int) : Option (Int × Int) := (Cm nE p0 p1 p2 p4).bind fun x1 => (Cm nE p0 x1.2.1 p3 x1.2.2).bind fun x2 => (Cm nE p0 x1.1 x2.1 x2.2.2).bind fun x3 => some (x3.2.1, x3.2.2)
theorem El (nE : Nat) (p0 : List (Int × Int × Int × Int)) (p1 : Int) (p2 : Int) (p3 : Int) (p4 : Int) : Le (CG nE p0 p1 p2 p3 p4) (Bv p0 p1 p2 p3 p4) := by
  unfold CG Bv
  repeat' with_reducible (first | refine Le.orR' ?_ ?_ | refine Le.bind' ?_ ?_ | refine Le.ite' ?_ ?_ | refine Le.loop' ?_ | refine Le.altS' ?_ ?_ | apply Gs | exact Le.rfl' _ | (refine Le.pi2 ?_; intro _) | intro _)
def BT (nE : Nat) (p0 : List (Int × Int × Int × Int)) (p1 : Int) (p2 : Int) : Option (Int × Int) := (CG nE p0 (AB (p1 - 1)) p1 (AB (p1 + 1)) p2).bind fun x1 => some (x1.1, x1.2)
theorem Fc (nE : Nat) (p0 : List (Int × Int × Int × Int)) (p1 : Int) (p2 : Int) : Le (BT nE p0 p1 p2) (AW p0 p1 p2) := by
  unfold BT AW
  repeat' with_reducible (first | refine Le.orR' ?_ ?_ | refine Le.bind' ?_ ?_ | refine Le.ite' ?_ ?_ | refine Le.loop' ?_ | refine Le.altS' ?_ ?_ | apply El | exact Le.rfl' _ | (refine Le.pi2 ?_; intro _) | intro _)
def C0 (nE : Nat) (p0 : List (Int × Int × Int × Int)) (p1 : Int) (p2 : Int) : Option (Int × Int) := (if 8 ≤ (AB (p2 - p1)) then (if 50 ≤ (AB (p2 - p1)) then (BT nE p0 (AB (p1 + (AB ((AB (Int.tdiv (AB (p2 - p1)) 4)) * 1)))) 0).bind fun x7 => (BT nE p0 (AB (p1 + (AB ((AB (Int.tdiv (AB (p2 - p1)) 4)) * 2)))) x7.2).bind fun x8 => (BT nE p0 (AB (p1 + (AB ((AB (Int.tdiv (AB (p2 - p1)) 4)) * 3)))) x8.2).bind fun x9 => some (x7.1, x8.1, x9.1, x9.2) else some (AB (p1 + (AB ((AB (Int.tdiv (AB (p2 - p1)) 4)) * 1))), AB (p1 + (AB ((AB (Int.tdiv (AB (p2 - p1)) 4)) * 2))), AB (p1 + (AB ((AB (Int.tdiv (AB (p2 - p1)) 4)) * 3))), 0)).bind fun (x3, x4, x5, x6) => (CG nE p0 x3 x4 x5 x6).bind fun x10 => some (x10.1, x10.2) else some (AB (p1 + (AB ((AB (Int.tdiv (AB (p2 - p1)) 4)) * 2))), 0)).bind fun (x1, x2) => (if x2 = 0 then some (x1, 1) else (if x2 = 12 then some (x1, 2) else some (x1, 0)))
theorem FD (nE : Nat) (p0 : List (Int × Int × Int × Int)) (p1 : Int) (p2 : Int) : Le (C0 nE p0 p1 p2) (BN p0 p1 p2) := by
  unfold C0 BN
  repeat' with_reducible (first | refine Le.orR' ?_ ?_ | refine Le.bind' ?_ ?_ | refine Le.ite' ?_ ?_ | refine Le.loop' ?_ | refine Le.altS' ?_ ?_ | apply El | apply Fc | exact Le.rfl' _ | (refine Le.pi2 ?_; intro _) | intro _)
def CC (nE : Nat)  : ((List (Int × Int × Int × Int)) × Int × Int) → Option (((List (Int × Int × Int × Int)) × Int × Int) ⊕ (List (Int × Int × Int × Int)))
  | (x1, x2, x3) => (if x2 < x3 then (ix x1 x3).bind fun x4 => (ix x1 x2).bind fun x5 => (ix x1 x2).bind fun x6 => (ix (Ap x1 x2 x4) x3).bind fun x7 => some (.inl ((Ap (Ap x1 x2 x4) x3 x5), AB (x2 + 1), AB (x3 - 1))) else some (.inr x1))
theorem E6 (nE : Nat)  : ∀ s, Le (CC nE  s) (A2  s) := by
  rintro ⟨x1, x2, x3⟩
  unfold CC A2
  repeat' with_reducible (first | refine Le.orR' ?_ ?_ | refine Le.bind' ?_ ?_ | refine Le.ite' ?_ ?_ | refine Le.loop' ?_ | refine Le.altS' ?_ ?_ | exact Le.rfl' _ | (refine Le.pi2 ?_; intro _) | intro _)
def CS (nE : Nat) (p0 : List (Int × Int × Int × Int)) (p1 : Int) (p2 : Int) : Option (List (Int × Int × Int × Int)) := Df nE (CC nE) (p0, p1, AB (p2 - 1))
theorem Fv (nE : Nat) (p0 : List (Int × Int × Int × Int)) (p1 : Int) (p2 : Int) : Le (CS nE p0 p1 p2) (Bl p0 p1 p2) := by
  unfold CS Bl
  repeat' with_reducible (first | refine Le.orR' ?_ ?_ | refine Le.bind' ?_ ?_ | refine Le.ite' ?_ ?_ | refine Le.loop' ?_ | refine Le.altS' ?_ ?_ | apply E6 | exact Le.rfl' _ | (refine Le.pi2 ?_; intro _) | intro _)
def Ci (nE : Nat) (p2 : Int) (x2 : List (Int × Int × Int × Int)) : Int → Option (Int ⊕ Int)
  | x8 => (if x8 < p2 then (ix x2 x8).bind fun x10 => (ix x2 (AB (x8 - 1))).bind fun x11 => (B4 nE x10 x11).bind fun x12 => some (!(decide (x12 < 0))) else some false).bind fun x9 => (if x9 = true then some (.inl (AB (x8 + 1))) else some (.inr x8))
theorem Eg (nE : Nat) (p2 : Int) (x2 : List (Int × Int × Int × Int)) : ∀ s, Le (Ci nE p2 x2 s) (A3 p2 x2 s) := by
  intro x8
  unfold Ci A3
  repeat' with_reducible (first | refine Le.orR' ?_ ?_ | refine Le.bind' ?_ ?_ | refine Le.ite' ?_ ?_ | refine Le.loop' ?_ | refine Le.altS' ?_ ?_ | apply Ce | exact Le.rfl' _ | (refine Le.pi2 ?_; intro _) | intro _)
def Cj (nE : Nat)  : ((List (Int × Int × Int × Int)) × Int) → Option (((List (Int × Int × Int × Int)) × Int) ⊕ (List (Int × Int × Int × Int)))
  | (x18, x19) => (if 1 ≤ x19 then (ix x18 x19).bind fun x20 => (ix x18 (AB (x19 - 1))).bind fun x21 => (B4 nE x20 x21).bind fun x22 => (if (!(decide (x22 < 0))) = true then some (.inr x18) else (ix x18 (AB (x19 - 1))).bind fun x23 => (ix x18 x19).bind fun x24 => (ix x18 x19).bind fun x25 => (ix (Ap x18 x19 x23) (AB (x19 - 1))).bind fun x26 => some (.inl ((Ap (Ap x18 x19 x23) (AB (x19 - 1)) x24), AB (x19 - 1)))) else some (.inr x18))
theorem Ef (nE : Nat)  : ∀ s, Le (Cj nE  s) (AC  s) := by
  rintro ⟨x18, x19⟩
  unfold Cj AC
  repeat' with_reducible (first | refine Le.orR' ?_ ?_ | refine Le.bind' ?_ ?_ | refine Le.ite' ?_ ?_ | refine Le.loop' ?_ | refine Le.altS' ?_ ?_ | apply Ce | exact Le.rfl' _ | (refine Le.pi2 ?_; intro _) | intro _)
def Cl (nE : Nat) (p2 : Int) (x7 : Int) : ((List (Int × Int × Int × Int)) × Int) → Option (((List (Int × Int × Int × Int)) × Int) ⊕ (((List (Int × Int × Int × Int)) × Int) ⊕ (((List (Int × Int × Int × Int)) × Int × Int) ⊕ ((List (Int × Int × Int × Int)) ⊕ (Bool × (List (Int × Int × Int × Int)))))))
  | (x27, x28) => (if x28 < p2 then (ix x27 x28).bind fun x29 => (ix x27 (AB (x28 - 1))).bind fun x30 => (B4 nE x29 x30).bind fun x31 => (if (!(decide (x31 < 0))) = true then some (.inr (.inl (x27, x7))) else (ix x27 (AB (x28 - 1))).bind fun x32 => (ix x27 x28).bind fun x33 => (ix x27 x28).bind fun x34 => (ix (Ap x27 x28 x32) (AB (x28 - 1))).bind fun x35 => some (.inl ((Ap (Ap x27 x28 x32) (AB (x28 - 1)) x33), AB (x28 + 1)))) else some (.inr (.inl (x27, x7))))
theorem Ed (nE : Nat) (p2 : Int) (x7 : Int) : ∀ s, Le (Cl nE p2 x7 s) (AK p2 x7 s) := by
  rintro ⟨x27, x28⟩
  unfold Cl AK
  repeat' with_reducible (first | refine Le.orR' ?_ ?_ | refine Le.bind' ?_ ?_ | refine Le.ite' ?_ ?_ | refine Le.loop' ?_ | refine Le.altS' ?_ ?_ | apply Ce | exact Le.rfl' _ | (refine Le.pi2 ?_; intro _) | intro _)
def Ck (nE : Nat) (p1 : Int) (p2 : Int) : ((List (Int × Int × Int × Int)) × Int × Int) → Option (((List (Int × Int × Int × Int)) × Int × Int) ⊕ ((List (Int × Int × Int × Int)) ⊕ (Bool × (List (Int × Int × Int × Int)))))
  | (x2, x3, x4) => (if x4 < 5 then FB ((Df nE (Ci nE p2 x2) x3).bind fun x7 => (if x7 = p2 then some (.inr (.inr (.inr (true, x2)))) else (if (AB (p2 - p1)) < 50 then some (.inr (.inr (.inr (false, x2)))) else (ix x2 (AB (x7 - 1))).bind fun x13 => (ix x2 x7).bind fun x14 => (ix x2 x7).bind fun x15 => (ix (Ap x2 x7 x13) (AB (x7 - 1))).bind fun x16 => (if 2 ≤ (AB (x7 - p1)) then Df nE (Cj nE) ((Ap (Ap x2 x7 x13) (AB (x7 - 1)) x14), AB (x7 - 1)) else some (Ap (Ap x2 x7 x13) (AB (x7 - 1)) x14)).bind fun x17 => (if 2 ≤ (AB (p2 - x7)) then Df nE (Cl nE p2 x7) (x17, AB (x7 + 1)) else some (.inl (x17, x7)))))) fun (x5, x6) => some (.inl (x5, x6, AB (x4 + 1))) else some (.inr (.inl x2)))
theorem Ee (nE : Nat) (p1 : Int) (p2 : Int) : ∀ s, Le (Ck nE p1 p2 s) (AL p1 p2 s) := by
  rintro ⟨x2, x3, x4⟩
  unfold Ck AL
  repeat' with_reducible (first | refine Le.orR' ?_ ?_ | refine Le.bind' ?_ ?_ | refine Le.ite' ?_ ?_ | refine Le.loop' ?_ | refine Le.altS' ?_ ?_ | apply Eg | apply Ef | apply Ed | exact Le.rfl' _ | (refine Le.pi2 ?_; intro _) | intro _)
def Co (nE : Nat) (p0 : List (Int × Int × Int × Int)) (p1 : Int) (p2 : Int) : Option (Bool × (List (Int × Int × Int × Int))) := FB (Df nE (Ck nE p1 p2) (p0, AB (p1 + 1), 0)) fun x1 => some (false, x1)
theorem EB (nE : Nat) (p0 : List (Int × Int × Int × Int)) (p1 : Int) (p2 : Int) : Le (Co nE p0 p1 p2) (A0 p0 p1 p2) := by
  unfold Co A0
  repeat' with_reducible (first | refine Le.orR' ?_ ?_ | refine Le.bind' ?_ ?_ | refine Le.ite' ?_ ?_ | refine Le.loop' ?_ | refine Le.altS' ?_ ?_ | apply Ee | exact Le.rfl' _ | (refine Le.pi2 ?_; intro _) | intro _)
def Ct (nE : Nat) (p1 : Int) (x7 : List (Int × Int × Int × Int)) (x9 : Int) : Int → Option (Int ⊕ Int)
  | x11 => (if x11 ≤ x9 then (ix x7 p1).bind fun x13 => (ix x7 x11).bind fun x14 => (B4 nE x13 x14).bind fun x15 => some (!(decide (x15 < 0))) else some false).bind fun x12 => (if x12 = true then some (.inl (AB (x11 + 1))) else some (.inr x11))
theorem EQ (nE : Nat) (p1 : Int) (x7 : List (Int × Int × Int × Int)) (x9 : Int) : ∀ s, Le (Ct nE p1 x7 x9 s) (Bg p1 x7 x9 s) := by
  intro x11
  unfold Ct Bg
  repeat' with_reducible (first | refine Le.orR' ?_ ?_ | refine Le.bind' ?_ ?_ | refine Le.ite' ?_ ?_ | refine Le.loop' ?_ | refine Le.altS' ?_ ?_ | apply Ce | exact Le.rfl' _ | (refine Le.pi2 ?_; intro _) | intro _)
def Cu (nE : Nat) (p1 : Int) (x7 : List (Int × Int × Int × Int)) (x10 : Int) : Int → Option (Int ⊕ Int)
  | x17 => (if x10 ≤ x17 then (ix x7 p1).bind fun x19 => (ix x7 x17).bind fun x20 => (B4 nE x19 x20).bind fun x21 => some (decide (x21 < 0)) else some false).bind fun x18 => (if x18 = true then some (.inl (AB (x17 - 1))) else some (.inr x17))
theorem ER (nE : Nat) (p1 : Int) (x7 : List (Int × Int × Int × Int)) (x10 : Int) : ∀ s, Le (Cu nE p1 x7 x10 s) (Bf p1 x7 x10 s) := by
  intro x17
  unfold Cu Bf
  repeat' with_reducible (first | refine Le.orR' ?_ ?_ | refine Le.bind' ?_ ?_ | refine Le.ite' ?_ ?_ | refine Le.loop' ?_ | refine Le.altS' ?_ ?_ | apply Ce | exact Le.rfl' _ | (refine Le.pi2 ?_; intro _) | intro _)
def Cv (nE : Nat) (p1 : Int) : ((List (Int × Int × Int × Int)) × Int × Int) → Option (((List (Int × Int × Int × Int)) × Int × Int) ⊕ (Int × (List (Int × Int × Int × Int))))
  | (x7, x8, x9) => (Df nE (Ct nE p1 x7 x9) x8).bind fun x10 => (Df nE (Cu nE p1 x7 x10) x9).bind fun x16 => (if x16 < x10 then some (.inr (x10, x7)) else (ix x7 x16).bind fun x22 => (ix x7 x10).bind fun x23 => (ix x7 x10).bind fun x24 => (ix (Ap x7 x10 x22) x16).bind fun x25 => some (.inl ((Ap (Ap x7 x10 x22) x16 x23), AB (x10 + 1), AB (x16 - 1))))
theorem EP (nE : Nat) (p1 : Int) : ∀ s, Le (Cv nE p1 s) (A4 p1 s) := by
  rintro ⟨x7, x8, x9⟩
  unfold Cv A4
  repeat' with_reducible (first | refine Le.orR' ?_ ?_ | refine Le.bind' ?_ ?_ | refine Le.ite' ?_ ?_ | refine Le.loop' ?_ | refine Le.altS' ?_ ?_ | apply EQ | apply ER | exact Le.rfl' _ | (refine Le.pi2 ?_; intro _) | intro _)
def CF (nE : Nat) (p0 : List (Int × Int × Int × Int)) (p1 : Int) (p2 : Int) (p3 : Int) : Option (Int × (List (Int × Int × Int × Int))) := (ix p0 p3).bind fun x1 => (ix p0 p1).bind fun x2 => (ix p0 p1).bind fun x3 => (ix (Ap p0 p1 x1) p3).bind fun x4 => (Df nE (Cv nE p1) ((Ap (Ap p0 p1 x1) p3 x2), AB (p1 + 1), AB (p2 - 1))).bind fun (x5, x6) => some (x5, x6)
theorem Fa (nE : Nat) (p0 : List (Int × Int × Int × Int)) (p1 : Int) (p2 : Int) (p3 : Int) : Le (CF nE p0 p1 p2 p3) (Br p0 p1 p2 p3) := by
  unfold CF Br
  repeat' with_reducible (first | refine Le.orR' ?_ ?_ | refine Le.bind' ?_ ?_ | refine Le.ite' ?_ ?_ | refine Le.loop' ?_ | refine Le.altS' ?_ ?_ | apply EP | exact Le.rfl' _ | (refine Le.pi2 ?_; intro _) | intro _)
def CU (nE : Nat) (p0 : List (Int × Int × Int × Int)) (p1 : Int) (p2 : Int) (p3 : Int) (x1 : Int × Int × Int × Int) (x2 : Int × Int × Int × Int) : Int → Option (Int ⊕ Int)
  | x6 => (if x6 ≤ (AB (p2 - 1)) then (ix (Ap (Ap p0 p1 x1) p3 x2) x6).bind fun x8 => (ix (Ap (Ap p0 p1 x1) p3 x2) p1).bind fun x9 => (B4 nE x8 x9).bind fun x10 => some (decide (x10 < 0)) else some false).bind fun x7 => (if x7 = true then some (.inl (AB (x6 + 1))) else some (.inr x6))
theorem Fs (nE : Nat) (p0 : List (Int × Int × Int × Int)) (p1 : Int) (p2 : Int) (p3 : Int) (x1 : Int × Int × Int × Int) (x2 : Int × Int × Int × Int) : ∀ s, Le (CU nE p0 p1 p2 p3 x1 x2 s) (Bk p0 p1 p2 p3 x1 x2 s) := by
  intro x6
  unfold CU Bk
  repeat' with_reducible (first | refine Le.orR' ?_ ?_ | refine Le.bind' ?_ ?_ | refine Le.ite' ?_ ?_ | refine Le.loop' ?_ | refine Le.altS' ?_ ?_ | apply Ce | exact Le.rfl' _ | (refine Le.pi2 ?_; intro _) | intro _)
def CT (nE : Nat) (p0 : List (Int × Int × Int × Int)) (p1 : Int) (p3 : Int) (x1 : Int × Int × Int × Int) (x2 : Int × Int × Int × Int) (x5 : Int) : Int → Option (Int ⊕ Int)
  | x12 => (if x5 ≤ x12 then (ix (Ap (Ap p0 p1 x1) p3 x2) x12).bind fun x14 => (ix (Ap (Ap p0 p1 x1) p3 x2) p1).bind fun x15 => (B4 nE x14 x15).bind fun x16 => some (!(decide (x16 < 0))) else some false).bind fun x13 => (if x13 = true then some (.inl (AB (x12 - 1))) else some (.inr x12))
theorem FA (nE : Nat) (p0 : List (Int × Int × Int × Int)) (p1 : Int) (p3 : Int) (x1 : Int × Int × Int × Int) (x2 : Int × Int × Int × Int) (x5 : Int) : ∀ s, Le (CT nE p0 p1 p3 x1 x2 x5 s) (BG p0 p1 p3 x1 x2 x5 s) := by
  intro x12
  unfold CT BG
  repeat' with_reducible (first | refine Le.orR' ?_ ?_ | refine Le.bind' ?_ ?_ | refine Le.ite' ?_ ?_ | refine Le.loop' ?_ | refine Le.altS' ?_ ?_ | apply Ce | exact Le.rfl' _ | (refine Le.pi2 ?_; intro _) | intro _)
def CQ (nE : Nat) (p1 : Int) (x27 : List (Int × Int × Int × Int)) (x29 : Int) : Int → Option (Int ⊕ Int)
  | x31 => (if x31 ≤ x29 then (ix x27 x31).bind fun x33 => (ix x27 p1).bind fun x34 => (B4 nE x33 x34).bind fun x35 => some (decide (x35 < 0)) else some false).bind fun x32 => (if x32 = true then some (.inl (AB (x31 + 1))) else some (.inr x31))
theorem Fx (nE : Nat) (p1 : Int) (x27 : List (Int × Int × Int × Int)) (x29 : Int) : ∀ s, Le (CQ nE p1 x27 x29 s) (BI p1 x27 x29 s) := by
  intro x31
  unfold CQ BI
  repeat' with_reducible (first | refine Le.orR' ?_ ?_ | refine Le.bind' ?_ ?_ | refine Le.ite' ?_ ?_ | refine Le.loop' ?_ | refine Le.altS' ?_ ?_ | apply Ce | exact Le.rfl' _ | (refine Le.pi2 ?_; intro _) | intro _)
def CW (nE : Nat) (p1 : Int) (x27 : List (Int × Int × Int × Int)) (x30 : Int) : Int → Option (Int ⊕ Int)
  | x37 => (if x30 ≤ x37 then (ix x27 x37).bind fun x39 => (ix x27 p1).bind fun x40 => (B4 nE x39 x40).bind fun x41 => some (!(decide (x41 < 0))) else some false).bind fun x38 => (if x38 = true then some (.inl (AB (x37 - 1))) else some (.inr x37))
theorem Fu (nE : Nat) (p1 : Int) (x27 : List (Int × Int × Int × Int)) (x30 : Int) : ∀ s, Le (CW nE p1 x27 x30 s) (BH p1 x27 x30 s) := by
  intro x37
  unfold CW BH
  repeat' with_reducible (first | refine Le.orR' ?_ ?_ | refine Le.bind' ?_ ?_ | refine Le.ite' ?_ ?_ | refine Le.loop' ?_ | refine Le.altS' ?_ ?_ | apply Ce | exact Le.rfl' _ | (refine Le.pi2 ?_; intro _) | intro _)
def CX (nE : Nat) (p1 : Int) : ((List (Int × Int × Int × Int)) × Int × Int) → Option (((List (Int × Int × Int × Int)) × Int × Int) ⊕ ((List (Int × Int × Int × Int)) × Int))
  | (x27, x28, x29) => (Df nE (CQ nE p1 x27 x29) x28).bind fun x30 => (Df nE (CW nE p1 x27 x30) x29).bind fun x36 => (if x36 < x30 then some (.inr (x27, x36)) else (ix x27 x36).bind fun x42 => (ix x27 x30).bind fun x43 => (ix x27 x30).bind fun x44 => (ix (Ap x27 x30 x42) x36).bind fun x45 => some (.inl ((Ap (Ap x27 x30 x42) x36 x43), AB (x30 + 1), AB (x36 - 1))))
theorem Ft (nE : Nat) (p1 : Int) : ∀ s, Le (CX nE p1 s) (A7 p1 s) := by
  rintro ⟨x27, x28, x29⟩
  unfold CX A7
  repeat' with_reducible (first | refine Le.orR' ?_ ?_ | refine Le.bind' ?_ ?_ | refine Le.ite' ?_ ?_ | refine Le.loop' ?_ | refine Le.altS' ?_ ?_ | apply Fx | apply Fu | exact Le.rfl' _ | (refine Le.pi2 ?_; intro _) | intro _)
def Dc (nE : Nat) (p0 : List (Int × Int × Int × Int)) (p1 : Int) (p2 : Int) (p3 : Int) : Option (Int × Bool × (List (Int × Int × Int × Int))) := (ix p0 p3).bind fun x1 => (ix p0 p1).bind fun x2 => (ix p0 p1).bind fun x3 => (ix (Ap p0 p1 x1) p3).bind fun x4 => (Df nE (CU nE p0 p1 p2 p3 x1 x2) (AB (p1 + 1))).bind fun x5 => (Df nE (CT nE p0 p1 p3 x1 x2 x5) (AB (p2 - 1))).bind fun x11 => (if x11 < x5 then (ix (Ap (Ap p0 p1 x1) p3 x2) p1).bind fun x17 => (ix (Ap (Ap p0 p1 x1) p3 x2) x11).bind fun x18 => (ix (Ap (Ap p0 p1 x1) p3 x2) x11).bind fun x19 => (ix (Ap (Ap (Ap p0 p1 x1) p3 x2) x11 x17) p1).bind fun x20 => some (x11, true, (Ap (Ap (Ap (Ap p0 p1 x1) p3 x2) x11 x17) p1 x18)) else (ix (Ap (Ap p0 p1 x1) p3 x2) x11).bind fun x21 => (ix (Ap (Ap p0 p1 x1) p3 x2) x5).bind fun x22 => (ix (Ap (Ap p0 p1 x1) p3 x2) x5).bind fun x23 => (ix (Ap (Ap (Ap p0 p1 x1) p3 x2) x5 x21) x11).bind fun x24 => (Df nE (CX nE p1) ((Ap (Ap (Ap (Ap p0 p1 x1) p3 x2) x5 x21) x11 x22), AB (x5 + 1), AB (x11 - 1))).bind fun (x25, x26) => (ix x25 p1).bind fun x46 => (ix x25 x26).bind fun x47 => (ix x25 x26).bind fun x48 => (ix (Ap x25 x26 x46) p1).bind fun x49 => some (x26, false, (Ap (Ap x25 x26 x46) p1 x47)))
theorem F0 (nE : Nat) (p0 : List (Int × Int × Int × Int)) (p1 : Int) (p2 : Int) (p3 : Int) : Le (Dc nE p0 p1 p2 p3) (BP p0 p1 p2 p3) := by
  unfold Dc BP
  repeat' with_reducible (first | refine Le.orR' ?_ ?_ | refine Le.bind' ?_ ?_ | refine Le.ite' ?_ ?_ | refine Le.loop' ?_ | refine Le.altS' ?_ ?_ | apply Fs | apply FA | apply Ft | exact Le.rfl' _ | (refine Le.pi2 ?_; intro _) | intro _)
def EZ (nE : Nat) (p0 : Int) : Option Int := (Fg nE (IntKind.u64.wrap p0)).bind fun x1 => (Re (D5 .u64 1 x1) x1).bind fun x2 => some x2
theorem Iq (nE : Nat) (p0 : Int) : Le (EZ nE p0) (Cs p0) := by
  unfold EZ Cs
  repeat' with_reducible (first | refine Le.orR' ?_ ?_ | refine Le.bind' ?_ ?_ | refine Le.ite' ?_ ?_ | refine Le.loop' ?_ | refine Le.altS' ?_ ?_ | apply Hh | exact Le.rfl' _ | (refine Le.pi2 ?_; intro _) | intro _)
def CA (nE : Nat) (p1 : Int) (p2 : Int) (x1 : Int) : ((List (Int × Int × Int × Int)) × Int × Int) → Option (((List (Int × Int × Int × Int)) × Int × Int) ⊕ (List (Int × Int × Int × Int)))
  | (x2, x3, x4) => (if x3 ≤ (AB ((AB (p1 + (AB ((AB (Int.tdiv (AB (p2 - p1)) 4)) * 2)))) + 1)) then (if (AB (p2 - p1)) ≤ (AB (KX .u64 ((Bm x4).1) (IntKind.u64.wrap (x1 - 1)))) then some (AB ((AB (KX .u64 ((Bm x4).1) (IntKind.u64.wrap (x1 - 1)))) - (AB (p2 - p1)))) else some (AB (KX .u64 ((Bm x4).1) (IntKind.u64.wrap (x1 - 1))))).bind fun x5 => (ix x2 (AB (p1 + x5))).bind fun x6 => (ix x2 x3).bind fun x7 => (ix x2 x3).bind fun x8 => (ix (Ap x2 x3 x6) (AB (p1 + x5))).bind fun x9 => some (.inl ((Ap (Ap x2 x3 x6) (AB (p1 + x5)) x7), AB (x3 + 1), (Bm x4).2)) else some (.inr x2))
theorem E3 (nE : Nat) (p1 : Int) (p2 : Int) (x1 : Int) : ∀ s, Le (CA nE p1 p2 x1 s) (A5 p1 p2 x1 s) := by
  rintro ⟨x2, x3, x4⟩
  unfold CA A5
  repeat' with_reducible (first | refine Le.orR' ?_ ?_ | refine Le.bind' ?_ ?_ | refine Le.ite' ?_ ?_ | refine Le.loop' ?_ | refine Le.altS' ?_ ?_ | exact Le.rfl' _ | (refine Le.pi2 ?_; intro _) | intro _)
def CK (nE : Nat) (p0 : List (Int × Int × Int × Int)) (p1 : Int) (p2 : Int) : Option (List (Int × Int × Int × Int)) := (if 8 ≤ (AB (p2 - p1)) then (EZ nE (AB (p2 - p1))).bind fun x1 => Df nE (CA nE p1 p2 x1) (p0, AB ((AB (p1 + (AB ((AB (Int.tdiv (AB (p2 - p1)) 4)) * 2)))) - 1), IntKind.u64.wrap (AB (p2 - p1))) else some p0)
theorem Ff (nE : Nat) (p0 : List (Int × Int × Int × Int)) (p1 : Int) (p2 : Int) : Le (CK nE p0 p1 p2) (Be p0 p1 p2) := by
  unfold CK Be
  repeat' with_reducible (first | refine Le.orR' ?_ ?_ | refine Le.bind' ?_ ?_ | refine Le.ite' ?_ ?_ | refine Le.loop' ?_ | refine Le.altS' ?_ ?_ | apply Iq | apply E3 | exact Le.rfl' _ | (refine Le.pi2 ?_; intro _) | intro _)
def C6 (nE : Nat) (fRec : (List (Int × Int × Int × Int)) → Int → Int → Int → Option (List (Int × Int × Int × Int))) : ((List (Int × Int × Int × Int)) × Int × Int × Int × Bool × Bool) → Option (((List (Int × Int × Int × Int)) × Int × Int × Int × Bool × Bool) ⊕ (List (Int × Int × Int × Int)))
  | (x1, x2, x3, x4, x5, x6) => (if (AB (x3 - x2)) ≤ 12 then (CJ nE x1 x2 x3).bind fun x7 => some (.inr x7) else (if x4 = 0 then (Dh nE x1 x2 x3).bind fun x8 => some (.inr x8) else (if (!x5) = true then (CK nE x1 x2 x3).bind fun x11 => some (x11, AB (x4 - 1)) else some (x1, x4)).bind fun (x9, x10) => (C0 nE x9 x2 x3).bind fun x12 => (if x12.2 = 2 then (CS nE x9 x2 x3).bind fun x16 => some (x16, AB ((AB (x3 - 1)) - (AB (x12.1 - x2))), 1) else some (x9, x12.1, x12.2)).bind fun (x13, x14, x15) => FB (if (x5 && (x6 && decide (x15 = 1))) = true then (Co nE x13 x2 x3).bind fun x18 => (if x18.1 = true then some (.inr (.inr x18.2)) else some (.inl x18.2)) else some (.inl x13)) fun x17 => (if 0 < x2 then (ix x17 (AB (x2 - 1))).bind fun x20 => (ix x17 x14).bind fun x21 => (B4 nE x20 x21).bind fun x22 => some (!(decide (x22 < 0))) else some false).bind fun x19 => (if x19 = true then (CF nE x17 x2 x3 x14).bind fun x23 => some (.inl (x23.2, x23.1, x3, x10, (x5 && (x6 || true)), (bif x5 then x6 else x6))) else (Dc nE x17 x2 x3 x14).bind fun x24 => (if (AB (x24.1 - x2)) < (AB (x3 - x24.1)) then (fRec x24.2.2 x2 x24.1 x10).bind fun x25 => some (.inl (x25, AB (x24.1 + 1), x3, x10, decide ((AB (Int.tdiv (AB (x3 - x2)) 8)) ≤ (AB (x24.1 - x2))), x24.2.1)) else (fRec x24.2.2 (AB (x24.1 + 1)) x3 x10).bind fun x26 => some (.inl (x26, x2, x24.1, x10, decide ((AB (Int.tdiv (AB (x3 - x2)) 8)) ≤ (AB (x3 - x24.1))), x24.2.1))))))
theorem FP (nE : Nat) {fRec fRec' : (List (Int × Int × Int × Int)) → Int → Int → Int → Option (List (Int × Int × Int × Int))} (hR : ∀ a0 a1 a2 a3, Le (fRec a0 a1 a2 a3) (fRec' a0 a1 a2 a3)) : ∀ s, Le (C6 nE fRec s) (Au fRec' s) := by
  rintro ⟨x1, x2, x3, x4, x5, x6⟩
  unfold C6 Au
  repeat' with_reducible (first | refine Le.orR' ?_ ?_ | refine Le.bind' ?_ ?_ | refine Le.ite' ?_ ?_ | refine Le.loop' ?_ | refine Le.altS' ?_ ?_ | exact hR _ _ _ _ | apply Ce | apply Fh | apply F6 | apply FD | apply Fv | apply EB | apply Fa | apply F0 | apply Ff | exact Le.rfl' _ | (refine Le.pi2 ?_; intro _) | intro _)
theorem FM {fRec fRec' : (List (Int × Int × Int × Int)) → Int → Int → Int → Option (List (Int × Int × Int × Int))} (hR : ∀ a0 a1 a2 a3, Le (fRec a0 a1 a2 a3) (fRec' a0 a1 a2 a3)) : ∀ s, Le (Au fRec s) (Au fRec' s) := by
  rintro ⟨x1, x2, x3, x4, x5, x6⟩
  show Le (Au fRec (x1, x2, x3, x4, x5, x6)) (Au fRec' (x1, x2, x3, x4, x5, x6))
  unfold Au
  repeat' with_reducible (first | refine Le.orR' ?_ ?_ | refine Le.bind' ?_ ?_ | refine Le.ite' ?_ ?_ | refine Le.loopM ?_ | refine Le.altS' ?_ ?_ | exact hR _ _ _ _ | exact Le.rfl' _ | (refine Le.pi2 ?_; intro _) | intro _)
def C5 (nE : Nat) (fRec : (List (Int × Int × Int × Int)) → Int → Int → Int → Option (List (Int × Int × Int × Int))) (p0 : List (Int × Int × Int × Int)) (p1 : Int) (p2 : Int) (p3 : Int) : Option (List (Int × Int × Int × Int)) := Df nE (C6 nE fRec) (p0, p1, p2, p3, true, true)
theorem FS (nE : Nat) {fRec fRec' : (List (Int × Int × Int × Int)) → Int → Int → Int → Option (List (Int × Int × Int × Int))} (hR : ∀ a0 a1 a2 a3, Le (fRec a0 a1 a2 a3) (fRec' a0 a1 a2 a3)) (p0 : List (Int × Int × Int × Int)) (p1 : Int) (p2 : Int) (p3 : Int) : Le (C5 nE fRec p0 p1 p2 p3) (Bp fRec' p0 p1 p2 p3) := by
  unfold C5 Bp
  repeat' with_reducible (first | refine Le.orR' ?_ ?_ | refine Le.bind' ?_ ?_ | refine Le.ite' ?_ ?_ | refine Le.loop' ?_ | refine Le.altS' ?_ ?_ | exact hR _ _ _ _ | apply FP nE hR | exact Le.rfl' _ | (refine Le.pi2 ?_; intro _) | intro _)
theorem FU {fRec fRec' : (List (Int × Int × Int × Int)) → Int → Int → Int → Option (List (Int × Int × Int × Int))} (hR : ∀ a0 a1 a2 a3, Le (fRec a0 a1 a2 a3) (fRec' a0 a1 a2 a3)) (p0 : List (Int × Int × Int × Int)) (p1 : Int) (p2 : Int) (p3 : Int) : Le (Bp fRec p0 p1 p2 p3) (Bp fRec' p0 p1 p2 p3) := by
  unfold Bp
  repeat' with_reducible (first | refine Le.orR' ?_ ?_ | refine Le.bind' ?_ ?_ | refine Le.ite' ?_ ?_ | refine Le.loopM ?_ | refine Le.altS' ?_ ?_ | exact hR _ _ _ _ | apply FM hR | exact Le.rfl' _ | (refine Le.pi2 ?_; intro _) | intro _)
def C7 (nE : Nat) : Nat → (List (Int × Int × Int × Int)) → Int → Int → Int → Option (List (Int × Int × Int × Int))
  | 0 => fun _ _ _ _ => none
  | n + 1 => C5 nE (C7 nE n)
theorem DY (nE : Nat) : ∀ (m : Nat) a0 a1 a2 a3, Le (C7 nE m a0 a1 a2 a3) (AD m a0 a1 a2 a3)
  | 0, a0, a1, a2, a3 => fun _ h => nomatch h
  | m + 1, a0, a1, a2, a3 => FS nE (DY nE m) a0 a1 a2 a3
theorem DW : ∀ (m : Nat) a0 a1 a2 a3, Le (AD m a0 a1 a2 a3) (AD (m + 1) a0 a1 a2 a3)
  | 0, a0, a1, a2, a3 => fun _ h => nomatch h
  | m + 1, a0, a1, a2, a3 => FU (DW m) a0 a1 a2 a3
def Em (nE : Nat) (p0 : List (Int × Int × Int × Int)) (p1 : Int) (p2 : Int) (p3 : Int) : Option (List (Int × Int × Int × Int)) := C7 nE nE p0 p1 p2 p3
theorem Gh (nE : Nat) (p0 : List (Int × Int × Int × Int)) (p1 : Int) (p2 : Int) (p3 : Int) : Le (Em nE p0 p1 p2 p3) (Cp p0 p1 p2 p3) := fun r e => QM (g := fun n => AD n p0 p1 p2 p3) (fun n r h => DW n p0 p1 p2 p3 r h) (n := nE) (DY nE nE p0 p1 p2 p3 r e)
def CV (nE : Nat) (p0 : List (Int × Int × Int × Int)) : Option (List (Int × Int × Int × Int)) := (Fg nE (IntKind.u64.wrap (p0.length : Int))).bind fun x1 => (Em nE p0 0 (p0.length : Int) x1).bind fun x2 => some x2
theorem Fp (nE : Nat) (p0 : List (Int × Int × Int × Int)) : Le (CV nE p0) (BE p0) := by
  unfold CV BE
  repeat' with_reducible (first | refine Le.orR' ?_ ?_ | refine Le.bind' ?_ ?_ | refine Le.ite' ?_ ?_ | refine Le.loop' ?_ | refine Le.altS' ?_ ?_ | apply Hh | apply Gh | exact Le.rfl' _ | (refine Le.pi2 ?_; intro _) | intro _)
def Hb (nE : Nat) (p1 : List (List Int)) (p2 : List (List Int)) (x6 : Int) (x8 : List Int) : ((List (Int × Int × Int × Int)) × Int) → Option (((List (Int × Int × Int × Int)) × Int) ⊕ (List (Int × Int × Int × Int)))
  | (x9, x10) => (if x10 < (x8.length : Int) then ((ix x8 x10).bind fun x12 => (ix p2 x10).bind fun x13 => (ix x13 x6).bind fun x14 => (ix p1 x10).bind fun x15 => (ix x15 x6).bind fun x16 => (if x14 ≠ x16 then (Ld x9 ([(x10, x6, x14, x12)] : List (Int × Int × Int × Int))).bind fun x17 => some x17 else some x9)).bind fun x11 => some (.inl (x11, AB (x10 + 1))) else some (.inr x9))
theorem J4 (nE : Nat) (p1 : List (List Int)) (p2 : List (List Int)) (x6 : Int) (x8 : List Int) : ∀ s, Le (Hb nE p1 p2 x6 x8 s) (C4 p1 p2 x6 x8 s) := by
  rintro ⟨x9, x10⟩
  unfold Hb C4
  repeat' with_reducible (first | refine Le.orR' ?_ ?_ | refine Le.bind' ?_ ?_ | refine Le.ite' ?_ ?_ | refine Le.loop' ?_ | refine Le.altS' ?_ ?_ | exact Le.rfl' _ | (refine Le.pi2 ?_; intro _) | intro _)
def Hg (nE : Nat) (p0 : Int × (List (Int × Int × Int × Int × Int × Int)) × (List (Int × Int))) (p1 : List (List Int)) (p2 : List (List Int)) : ((List (Int × Int × Int × Int)) × Int) → Option (((List (Int × Int × Int × Int)) × Int) ⊕ (List (Int × Int × Int × Int)))
  | (x5, x6) => (if x6 < (p0.2.2.length : Int) then ((Jl nE p0 p2 x6).bind fun x8 => Df nE (Hb nE p1 p2 x6 x8) (x5, 0)).bind fun x7 => some (.inl (x7, AB (x6 + 1))) else some (.inr x5))
theorem Kf (nE : Nat) (p0 : Int × (List (Int × Int × Int × Int × Int × Int)) × (List (Int × Int))) (p1 : List (List Int)) (p2 : List (List Int)) : ∀ s, Le (Hg nE p0 p1 p2 s) (DA p0 p1 p2 s) := by
  rintro ⟨x5, x6⟩
  unfold Hg DA
  repeat' with_reducible (first | refine Le.orR' ?_ ?_ | refine Le.bind' ?_ ?_ | refine Le.ite' ?_ ?_ | refine Le.loop' ?_ | refine Le.altS' ?_ ?_ | apply M3 | apply J4 | exact Le.rfl' _ | (refine Le.pi2 ?_; intro _) | intro _)
def Ir (nE : Nat) (p0 : Int × (List (Int × Int × Int × Int × Int × Int)) × (List (Int × Int))) (p1 : List (List Int)) (p2 : List (List Int)) : Option ((List (Int × Int × Int × Int)) × Int) := ((HM nE p0 p1).bind fun x2 => (if (!x2) = true then some true else (HM nE p0 p2).bind fun x3 => some (!x3))).bind fun x1 => (if x1 = true then some (([] : List (Int × Int × Int × Int)), 2) else (Df nE (Hg nE p0 p1 p2) ([], 0)).bind fun x4 => (CV nE x4).bind fun x18 => some (x18, 0))
theorem LA (nE : Nat) (p0 : Int × (List (Int × Int × Int × Int × Int × Int)) × (List (Int × Int))) (p1 : List (List Int)) (p2 : List (List Int)) : Le (Ir nE p0 p1 p2) (E8 p0 p1 p2) := by
  unfold Ir E8
  repeat' with_reducible (first | refine Le.orR' ?_ ?_ | refine Le.bind' ?_ ?_ | refine Le.ite' ?_ ?_ | refine Le.loop' ?_ | refine Le.altS' ?_ ?_ | apply Mg | apply Fp | apply Kf | exact Le.rfl' _ | (refine Le.pi2 ?_; intro _) | intro _)
def Db (nE : Nat) (p1 : Int) : (List Int × Int) → Option ((List Int × Int) ⊕ (List Int))
  | (x4, x5) => (if p1 < x5 then (ix x4 x5).bind fun x7 => (ix x4 (AB (x5 - 1))).bind fun x8 => some (Fe x7 x8) else some false).bind fun x6 => (if x6 = true then (ix x4 (AB (x5 - 1))).bind fun x9 => (ix x4 x5).bind fun x10 => (ix x4 x5).bind fun x11 => (ix (Ap x4 x5 x9) (AB (x5 - 1))).bind fun x12 => some (.inl ((Ap (Ap x4 x5 x9) (AB (x5 - 1)) x10), AB (x5 - 1))) else some (.inr x4))
theorem F3 (nE : Nat) (p1 : Int) : ∀ s, Le (Db nE p1 s) (BQ p1 s) := by
  rintro ⟨x4, x5⟩
  unfold Db BQ
  repeat' with_reducible (first | refine Le.orR' ?_ ?_ | refine Le.bind' ?_ ?_ | refine Le.ite' ?_ ?_ | refine Le.loop' ?_ | refine Le.altS' ?_ ?_ | exact Le.rfl' _ | (refine Le.pi2 ?_; intro _) | intro _)
def C8 (nE : Nat) (p1 : Int) (p2 : Int) : (List Int × Int) → Option ((List Int × Int) ⊕ (List Int))
  | (x1, x2) => (if x2 < p2 then (Df nE (Db nE p1) (x1, x2)).bind fun x3 => some (.inl (x3, AB (x2 + 1))) else some (.inr x1))
theorem F2 (nE : Nat) (p1 : Int) (p2 : Int) : ∀ s, Le (C8 nE p1 p2 s) (BA p1 p2 s) := by
  rintro ⟨x1, x2⟩
  unfold C8 BA
  repeat' with_reducible (first | refine Le.orR' ?_ ?_ | refine Le.bind' ?_ ?_ | refine Le.ite' ?_ ?_ | refine Le.loop' ?_ | refine Le.altS' ?_ ?_ | apply F3 | exact Le.rfl' _ | (refine Le.pi2 ?_; intro _) | intro _)
def Dt (nE : Nat) (p0 : List Int) (p1 : Int) (p2 : Int) : Option (List Int) := Df nE (C8 nE p1 p2) (p0, AB (p1 + 1))
theorem Gm (nE : Nat) (p0 : List Int) (p1 : Int) (p2 : Int) : Le (Dt nE p0 p1 p2) (Cc p0 p1 p2) := by
  unfold Dt Cc
  repeat' with_reducible (first | refine Le.orR' ?_ ?_ | refine Le.bind' ?_ ?_ | refine Le.ite' ?_ ?_ | refine Le.loop' ?_ | refine Le.altS' ?_ ?_ | apply F2 | exact Le.rfl' _ | (refine Le.pi2 ?_; intro _) | intro _)
def DI (nE : Nat) (p0 : List Int) (p1 : Int) (p2 : Int) : Unit → Option (Unit ⊕ (List Int))
  | _ => (if (AB (p2 - p1)) ≤ 12 then (Dt nE p0 p1 p2).bind fun x1 => some (.inr x1) else none)
theorem GU (nE : Nat) (p0 : List Int) (p1 : Int) (p2 : Int) : ∀ s, Le (DI nE p0 p1 p2 s) (CE p0 p1 p2 s) := by
  intro s
  unfold DI CE
  repeat' with_reducible (first | refine Le.orR' ?_ ?_ | refine Le.bind' ?_ ?_ | refine Le.ite' ?_ ?_ | refine Le.loop' ?_ | refine Le.altS' ?_ ?_ | apply Gm | exact Le.rfl' _ | (refine Le.pi2 ?_; intro _) | intro _)
def D7 (nE : Nat) (p0 : List Int) (p1 : Int) (p2 : Int) (p3 : Int) : Option (List Int) := Df nE (DI nE p0 p1 p2) ()
theorem HB (nE : Nat) (p0 : List Int) (p1 : Int) (p2 : Int) (p3 : Int) : Le (D7 nE p0 p1 p2 p3) (Cn p0 p1 p2 p3) := by
  unfold D7 Cn
  repeat' with_reducible (first | refine Le.orR' ?_ ?_ | refine Le.bind' ?_ ?_ | refine Le.ite' ?_ ?_ | refine Le.loop' ?_ | refine Le.altS' ?_ ?_ | apply GU | exact Le.rfl' _ | (refine Le.pi2 ?_; intro _) | intro _)
def Fq (nE : Nat) (p0 : List Int) : Option (List Int) := (Fg nE (IntKind.u64.wrap (p0.length : Int))).bind fun x1 => (D7 nE p0 0 (p0.length : Int) x1).bind fun x2 => some x2
theorem I3 (nE : Nat) (p0 : List Int) : Le (Fq nE p0) (Da p0) := by
  unfold Fq Da
  repeat' with_reducible (first | refine Le.orR' ?_ ?_ | refine Le.bind' ?_ ?_ | refine Le.ite' ?_ ?_ | refine Le.loop' ?_ | refine Le.altS' ?_ ?_ | apply Hh | apply HB | exact Le.rfl' _ | (refine Le.pi2 ?_; intro _) | intro _)
def D9 (nE : Nat) (p0 : List Int) (x1 : Int) : (List Int × Int × Int) → Option ((List Int × Int × Int) ⊕ (List Int × Int))
  | (x7, x8, x9) => (Ja x7 x1 (p0.length : Int)).bind fun x10 => (if x9 < (x10.length : Int) then ((ix x10 x9).bind fun x13 => (ix x10 (AB (x9 - 1))).bind fun x14 => (if x13 ≠ x14 then (ix x10 x9).bind fun x15 => (ix x7 x8).bind fun x16 => some ((Ap x7 x8 x15), AB (x8 + 1)) else some (x7, x8))).bind fun (x11, x12) => some (.inl (x11, x12, AB (x9 + 1))) else some (.inr (x7, x8)))
theorem Hy (nE : Nat) (p0 : List Int) (x1 : Int) : ∀ s, Le (D9 nE p0 x1 s) (BW p0 x1 s) := by
  rintro ⟨x7, x8, x9⟩
  unfold D9 BW
  repeat' with_reducible (first | refine Le.orR' ?_ ?_ | refine Le.bind' ?_ ?_ | refine Le.ite' ?_ ?_ | refine Le.loop' ?_ | refine Le.altS' ?_ ?_ | exact Le.rfl' _ | (refine Le.pi2 ?_; intro _) | intro _)
def D6 (nE : Nat) (p0 : List Int) : Int → Option (Int ⊕ (Unit ⊕ (List Int)))
  | x1 => (if x1 < (p0.length : Int) then FB ((ix p0 x1).bind fun x2 => (ix p0 (AB (x1 - 1))).bind fun x3 => (if x2 = x3 then (Ja p0 x1 (p0.length : Int)).bind fun x4 => (Df nE (D9 nE p0 x1) (p0, x1, 1)).bind fun (x5, x6) => (Ja x5 x6 (x5.length : Int)).bind fun x17 => (RG x5 x6 (List.replicate (x17.length) (0 : Int))).bind fun x18 => (Ja x18 0 x6).bind fun x19 => some (.inr (.inr (.inr x19))) else some (.inl ()))) fun _ => some (.inl (AB (x1 + 1))) else some (.inr (.inl ())))
theorem Hz (nE : Nat) (p0 : List Int) : ∀ s, Le (D6 nE p0 s) (BR p0 s) := by
  intro x1
  unfold D6 BR
  repeat' with_reducible (first | refine Le.orR' ?_ ?_ | refine Le.bind' ?_ ?_ | refine Le.ite' ?_ ?_ | refine Le.loop' ?_ | refine Le.altS' ?_ ?_ | apply Hy | exact Le.rfl' _ | (refine Le.pi2 ?_; intro _) | intro _)
def EM (nE : Nat) (p0 : List Int) : Option (List Int) := (if (p0.length : Int) < 2 then some p0 else FB (Df nE (D6 nE p0) 1) fun _ => some p0)
theorem H6 (nE : Nat) (p0 : List Int) : Le (EM nE p0) (CB p0) := by
  unfold EM CB
  repeat' with_reducible (first | refine Le.orR' ?_ ?_ | refine Le.bind' ?_ ?_ | refine Le.ite' ?_ ?_ | refine Le.loop' ?_ | refine Le.altS' ?_ ?_ | apply Hz | exact Le.rfl' _ | (refine Le.pi2 ?_; intro _) | intro _)
def GJ (nE : Nat) (p0 : List Int) : Option (List Int) := (Fq nE p0).bind fun x1 => (EM nE x1).bind fun x2 => some x2
theorem JY (nE : Nat) (p0 : List Int) : Le (GJ nE p0) (Dk p0) := by
  unfold GJ Dk
  repeat' with_reducible (first | refine Le.orR' ?_ ?_ | refine Le.bind' ?_ ?_ | refine Le.ite' ?_ ?_ | refine Le.loop' ?_ | refine Le.altS' ?_ ?_ | apply I3 | apply H6 | exact Le.rfl' _ | (refine Le.pi2 ?_; intro _) | intro _)
def GI (nE : Nat) (p0 : List (Int × Int × Int × Int)) : (List Int × Int) → Option ((List Int × Int) ⊕ (List Int))
  | (x2, x3) => (if x3 < (p0.length : Int) then (ix p0 x3).bind fun x4 => (Ld x2 ([x4.2.2.2] : List Int)).bind fun x5 => some (.inl (x5, AB (x3 + 1))) else some (.inr x2))
theorem JX (nE : Nat) (p0 : List (Int × Int × Int × Int)) : ∀ s, Le (GI nE p0 s) (Gi p0 s) := by
  rintro ⟨x2, x3⟩
  unfold GI Gi
  repeat' with_reducible (first | refine Le.orR' ?_ ?_ | refine Le.bind' ?_ ?_ | refine Le.ite' ?_ ?_ | refine Le.loop' ?_ | refine Le.altS' ?_ ?_ | exact Le.rfl' _ | (refine Le.pi2 ?_; intro _) | intro _)
def H3 (nE : Nat) (p0 : List (Int × Int × Int × Int)) : Option (List Int) := (Df nE (GI nE p0) ([], 0)).bind fun x1 => (GJ nE x1).bind fun x6 => some x6
theorem La (nE : Nat) (p0 : List (Int × Int × Int × Int)) : Le (H3 nE p0) (GN p0) := by
  unfold H3 GN
  repeat' with_reducible (first | refine Le.orR' ?_ ?_ | refine Le.bind' ?_ ?_ | refine Le.ite' ?_ ?_ | refine Le.loop' ?_ | refine Le.altS' ?_ ?_ | apply JY | apply JX | exact Le.rfl' _ | (refine Le.pi2 ?_; intro _) | intro _)
def IA (nE : Nat) (p0 : List Int) (p1 : List Int) : Int → Option (Int ⊕ (Unit ⊕ Bool))
  | x1 => (if x1 < (p0.length : Int) then (ix p0 x1).bind fun x2 => (ix p1 x1).bind fun x3 => (if x2 ≠ x3 then some (.inr (.inr false)) else some (.inl (AB (x1 + 1)))) else some (.inr (.inl ())))
theorem LG (nE : Nat) (p0 : List Int) (p1 : List Int) : ∀ s, Le (IA nE p0 p1 s) (Ii p0 p1 s) := by
  intro x1
  unfold IA Ii
  repeat' with_reducible (first | refine Le.orR' ?_ ?_ | refine Le.bind' ?_ ?_ | refine Le.ite' ?_ ?_ | refine Le.loop' ?_ | refine Le.altS' ?_ ?_ | exact Le.rfl' _ | (refine Le.pi2 ?_; intro _) | intro _)
def JR (nE : Nat) (p0 : List Int) (p1 : List Int) : Option Bool := (if (p0.length : Int) ≠ (p1.length : Int) then some false else FB (Df nE (IA nE p0 p1) 0) fun _ => some true)
theorem NP (nE : Nat) (p0 : List Int) (p1 : List Int) : Le (JR nE p0 p1) (Jg p0 p1) := by
  unfold JR Jg
  repeat' with_reducible (first | refine Le.orR' ?_ ?_ | refine Le.bind' ?_ ?_ | refine Le.ite' ?_ ?_ | refine Le.loop' ?_ | refine Le.altS' ?_ ?_ | apply LG | exact Le.rfl' _ | (refine Le.pi2 ?_; intro _) | intro _)
def KP (nE : Nat)  : Option Bool := (Ir nE (3, ([(0, 0, 1, 0, 1, 1), (1, 1, 2, 0, 1, 1), (0, 1, 2, 1, 1, 1)] : List (Int × Int × Int × Int × Int × Int)), ([(2, 7)] : List (Int × Int))) ([([0] : List Int), ([1] : List Int), ([7] : List Int)] : List (List Int)) ([([1] : List Int), ([1] : List Int), ([7] : List Int)] : List (List Int))).bind fun x1 => (if x1.2 = 0 then (if (x1.1.length : Int) = 1 then (ix x1.1 0).bind fun x3 => (if x3.1 = 0 ∧ x3.2.1 = 0 ∧ x3.2.2.1 = 1 ∧ x3.2.2.2 = 1 then (H3 nE x1.1).bind fun x4 => (JR nE x4 ([1] : List Int)).bind fun x5 => some x5 else some false) else some false) else some false).bind fun x2 => some x2
theorem M7 (nE : Nat)  : Le (KP nE ) (GY ) := by
  unfold KP GY
  repeat' with_reducible (first | refine Le.orR' ?_ ?_ | refine Le.bind' ?_ ?_ | refine Le.ite' ?_ ?_ | refine Le.loop' ?_ | refine Le.altS' ?_ ?_ | apply LA | apply La | apply NP | exact Le.rfl' _ | (refine Le.pi2 ?_; intro _) | intro _)
theorem QD : GY = some true := M7 60 _ (by kernel_rfl)
end Go.Proofs.Ythiejmoddfenlaa
