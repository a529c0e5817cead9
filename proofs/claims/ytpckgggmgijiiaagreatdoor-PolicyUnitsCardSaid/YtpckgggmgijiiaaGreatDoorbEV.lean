/- Twins with fuel of Ix functions: what a twin answers, the function answers. Conditions: none. -/
import Derived.Test.YtpckgggmgijiiaaGreatDoorbLP
import Derived.Test.YtpckgggmgijiiaaGreatDoorbA7
namespace Go.Proofs.YtpckgggmgijiiaaGreatDoor
open Go Go.RowKit
set_option linter.unusedVariables false
set_option linter.unusedSimpArgs false
set_option maxRecDepth 20000
set_option maxHeartbeats 1600000
abbrev Le {α : Type} (a b : Option α) : Prop := ∀ r, a = some r → b = some r
theorem Le.rfl' {α : Type} (a : Option α) : Le a a := fun _ h => h
theorem Le.bind' {α β : Type} {a b : Option α} {f g : α → Option β} (h : Le a b) (hf : ∀ x, Le (f x) (g x)) : Le (a.bind f) (b.bind g) := fun r e => by
  obtain ⟨x, h1, h2⟩ := Ad e
  rw [h x h1, Option.bind_some]; exact hf x r h2
theorem Le.ite' {α : Type} {c : Prop} [Decidable c] {a a' b b' : Option α} (h1 : Le a a') (h2 : Le b b') : Le (if c then a else b) (if c then a' else b') := fun r e => by
  by_cases h : c
  · rw [if_pos h] at e ⊢; exact h1 r e
  · rw [if_neg h] at e ⊢; exact h2 r e
theorem Le.orR' {α β : Type} {a b : Option (α ⊕ β)} {f g : α → Option β} (h : Le a b) (hf : ∀ x, Le (f x) (g x)) : Le (Ko a f) (Ko b g) :=
  Le.bind' h fun x => by
    cases x with
    | inl t => exact hf t
    | inr e => exact Le.rfl' _
def Id {σ ε : Type} (n : Nat) (step : σ → Option (σ ⊕ ε)) (s : σ) : Option ε := Hh step n s
theorem KS {σ ε : Type} {S T : σ → Option (σ ⊕ ε)} (h : ∀ s, Le (S s) (T s)) : ∀ (n : Nat) (s : σ), Le (Hh S n s) (Hh T n s)
  | 0, s => Le.rfl' _
  | n + 1, s => fun r e => by
    unfold Hh at e ⊢
    cases hs : S s with
    | none => rw [hs] at e; cases e
    | some q =>
      rw [hs] at e; rw [h s q hs]
      cases q with
      | inl s' => exact KS h n s' r e
      | inr _ => exact e
theorem Le.loop' {σ ε : Type} {n : Nat} {S T : σ → Option (σ ⊕ ε)} {s : σ} (h : ∀ s, Le (S s) (T s)) : Le (Id n S s) (AW T s) := fun r e => FP.2 ⟨n, KS h n s r e⟩
theorem Le.pi2 {α β γ : Type} {f g : α × β → Option γ} (h : ∀ a b, Le (f (a, b)) (g (a, b))) : ∀ x, Le (f x) (g x) := fun x => h x.1 x.2
theorem Le.altS' {α β γ : Type} {y : α ⊕ β} {f f' : α → Option γ} {g g' : β → Option γ} (h : ∀ x, Le (f x) (f' x)) (k : ∀ x, Le (g x) (g' x)) : Le (V6 y f g) (V6 y f' g') := by
  cases y with
  | inl x => exact h x
  | inr x => exact k x
theorem Dd {β : Type} {g : Nat → Option β} (hm : ∀ n r, g n = some r → g (n + 1) = some r) {n : Nat} {r : β} (h : g n = some r) : GL g = some r := by
  have up : ∀ (d m : Nat) (q : β), g m = some q → g (m + d) = some q := fun d => by
    induction d with
    | zero => exact fun m q h => h
    | succ d ih => exact fun m q h => hm _ _ (ih m q h)
  refine Sc n h fun m q hq => ?_
  have h1 := up m n r h
  have h2 := up n m q hq
  rw [Nat.add_comm] at h2
  exact Option.some.inj (h2.symm.trans h1)
theorem Le.loopM {σ ε : Type} {S T : σ → Option (σ ⊕ ε)} {s : σ} (h : ∀ s, Le (S s) (T s)) : Le (AW S s) (AW T s) := fun r e => by
  obtain ⟨n, hn⟩ := FP.1 e
  exact FP.2 ⟨n, KS h n s r hn⟩
theorem Le.sall' {κ : Type} {lt : κ → κ → Bool} {f g : κ → Option (List κ)} (h : ∀ x, Le (f x) (g x)) : ∀ (l a : List κ), Le (GC lt f l a) (GC lt g l a)
  | [], a => Le.rfl' _
  | x :: l, a => by
    show Le ((f x).bind _) ((g x).bind _)
    exact Le.bind' (h x) fun r => Le.sall' h l _
theorem N1 {fRec fRec' : Tr24 → Option Bool} (hfRec : ∀ a0, Le (fRec a0) (fRec' a0)) (p0 : Tr24) : ∀ s, Le (E0 fRec p0 s) (E0 fRec' p0 s) := by
  intro x1
  unfold E0
  repeat' with_reducible (first | refine Le.orR' ?_ ?_ | refine Le.bind' ?_ ?_ | refine Le.ite' ?_ ?_ | refine Le.loopM ?_ | refine Le.altS' ?_ ?_ | exact hfRec | exact hfRec _ | exact Le.rfl' _ | (refine Le.pi2 ?_; intro _) | intro _)
theorem NW {fRec fRec' : Tr24 → Option Bool} (hfRec : ∀ a0, Le (fRec a0) (fRec' a0)) (p0 : Tr24) : Le (EW fRec p0) (EW fRec' p0) := by
  unfold EW
  repeat' with_reducible (first | refine Le.orR' ?_ ?_ | refine Le.bind' ?_ ?_ | refine Le.ite' ?_ ?_ | refine Le.loopM ?_ | refine Le.altS' ?_ ?_ | exact hfRec | exact hfRec _ | apply N1 | exact Le.rfl' _ | (refine Le.pi2 ?_; intro _) | intro _)
theorem KP : ∀ (m : Nat) a0, Le (D2 m a0) (D2 (m + 1) a0)
  | 0, a0 => fun _ h => nomatch h
  | m + 1, a0 => NW (KP m) a0
theorem OB {fRec fRec' : Tr24 → Option Int} (hfRec : ∀ a0, Le (fRec a0) (fRec' a0)) (p0 : Tr24) : ∀ s, Le (Dz fRec p0 s) (Dz fRec' p0 s) := by
  rintro ⟨x2, x3⟩
  show Le (Dz fRec p0 (x2, x3)) (Dz fRec' p0 (x2, x3))
  unfold Dz
  repeat' with_reducible (first | refine Le.orR' ?_ ?_ | refine Le.bind' ?_ ?_ | refine Le.ite' ?_ ?_ | refine Le.loopM ?_ | refine Le.altS' ?_ ?_ | exact hfRec | exact hfRec _ | exact Le.rfl' _ | (refine Le.pi2 ?_; intro _) | intro _)
theorem NE {fRec fRec' : Tr24 → Option Int} (hfRec : ∀ a0, Le (fRec a0) (fRec' a0)) (p0 : Tr24) : Le (EY fRec p0) (EY fRec' p0) := by
  unfold EY
  repeat' with_reducible (first | refine Le.orR' ?_ ?_ | refine Le.bind' ?_ ?_ | refine Le.ite' ?_ ?_ | refine Le.loopM ?_ | refine Le.altS' ?_ ?_ | exact hfRec | exact hfRec _ | apply OB | exact Le.rfl' _ | (refine Le.pi2 ?_; intro _) | intro _)
theorem Kz : ∀ (m : Nat) a0, Le (Ea m a0) (Ea (m + 1) a0)
  | 0, a0 => fun _ h => nomatch h
  | m + 1, a0 => NE (Kz m) a0
theorem Nk {fRec fRec' : Tr24 → Option Int} (hfRec : ∀ a0, Le (fRec a0) (fRec' a0)) (p0 : Tr24) : ∀ s, Le (DA fRec p0 s) (DA fRec' p0 s) := by
  rintro ⟨x2, x3⟩
  show Le (DA fRec p0 (x2, x3)) (DA fRec' p0 (x2, x3))
  unfold DA
  repeat' with_reducible (first | refine Le.orR' ?_ ?_ | refine Le.bind' ?_ ?_ | refine Le.ite' ?_ ?_ | refine Le.loopM ?_ | refine Le.altS' ?_ ?_ | exact hfRec | exact hfRec _ | exact Le.rfl' _ | (refine Le.pi2 ?_; intro _) | intro _)
theorem N4 {fRec fRec' : Tr24 → Option Int} (hfRec : ∀ a0, Le (fRec a0) (fRec' a0)) (p0 : Tr24) : Le (ER fRec p0) (ER fRec' p0) := by
  unfold ER
  repeat' with_reducible (first | refine Le.orR' ?_ ?_ | refine Le.bind' ?_ ?_ | refine Le.ite' ?_ ?_ | refine Le.loopM ?_ | refine Le.altS' ?_ ?_ | exact hfRec | exact hfRec _ | apply Nk | exact Le.rfl' _ | (refine Le.pi2 ?_; intro _) | intro _)
theorem KO : ∀ (m : Nat) a0, Le (D3 m a0) (D3 (m + 1) a0)
  | 0, a0 => fun _ h => nomatch h
  | m + 1, a0 => N4 (KO m) a0
theorem Nn {fRec fRec' : Tr24 → Tr24 → Option Bool} (hfRec : ∀ a0 a1, Le (fRec a0 a1) (fRec' a0 a1)) (p0 : Tr24) (p1 : Tr24) : ∀ s, Le (Gz fRec p0 p1 s) (Gz fRec' p0 p1 s) := by
  intro x1
  unfold Gz
  repeat' with_reducible (first | refine Le.orR' ?_ ?_ | refine Le.bind' ?_ ?_ | refine Le.ite' ?_ ?_ | refine Le.loopM ?_ | refine Le.altS' ?_ ?_ | exact hfRec | exact hfRec _ _ | exact Le.rfl' _ | (refine Le.pi2 ?_; intro _) | intro _)
theorem Np {fRec fRec' : Tr24 → Tr24 → Option Bool} (hfRec : ∀ a0 a1, Le (fRec a0 a1) (fRec' a0 a1)) (p0 : Tr24) (p1 : Tr24) : Le (ES fRec p0 p1) (ES fRec' p0 p1) := by
  unfold ES
  repeat' with_reducible (first | refine Le.orR' ?_ ?_ | refine Le.bind' ?_ ?_ | refine Le.ite' ?_ ?_ | refine Le.loopM ?_ | refine Le.altS' ?_ ?_ | exact hfRec | exact hfRec _ _ | apply Nn | exact Le.rfl' _ | (refine Le.pi2 ?_; intro _) | intro _)
theorem KA : ∀ (m : Nat) a0 a1, Le (E9 m a0 a1) (E9 (m + 1) a0 a1)
  | 0, a0, a1 => fun _ h => nomatch h
  | m + 1, a0, a1 => Np (KA m) a0 a1
theorem Of {fRec fRec' : Tr27 → Option Bool} (hfRec : ∀ a0, Le (fRec a0) (fRec' a0)) (p0 : Tr27) : ∀ s, Le (Eu fRec p0 s) (Eu fRec' p0 s) := by
  intro x4
  unfold Eu
  repeat' with_reducible (first | refine Le.orR' ?_ ?_ | refine Le.bind' ?_ ?_ | refine Le.ite' ?_ ?_ | refine Le.loopM ?_ | refine Le.altS' ?_ ?_ | exact hfRec | exact hfRec _ | exact Le.rfl' _ | (refine Le.pi2 ?_; intro _) | intro _)
theorem Od {fRec fRec' : Tr27 → Option Bool} (hfRec : ∀ a0, Le (fRec a0) (fRec' a0)) (p0 : Tr27) : Le (EP fRec p0) (EP fRec' p0) := by
  unfold EP
  repeat' with_reducible (first | refine Le.orR' ?_ ?_ | refine Le.bind' ?_ ?_ | refine Le.ite' ?_ ?_ | refine Le.loopM ?_ | refine Le.altS' ?_ ?_ | exact hfRec | exact hfRec _ | apply Of | exact Le.rfl' _ | (refine Le.pi2 ?_; intro _) | intro _)
theorem KK : ∀ (m : Nat) a0, Le (D8 m a0) (D8 (m + 1) a0)
  | 0, a0 => fun _ h => nomatch h
  | m + 1, a0 => Od (KK m) a0
theorem NL {fRec fRec' : Tr27 → Option Int} (hfRec : ∀ a0, Le (fRec a0) (fRec' a0)) (p0 : Tr27) : ∀ s, Le (Dx fRec p0 s) (Dx fRec' p0 s) := by
  rintro ⟨x2, x3⟩
  show Le (Dx fRec p0 (x2, x3)) (Dx fRec' p0 (x2, x3))
  unfold Dx
  repeat' with_reducible (first | refine Le.orR' ?_ ?_ | refine Le.bind' ?_ ?_ | refine Le.ite' ?_ ?_ | refine Le.loopM ?_ | refine Le.altS' ?_ ?_ | exact hfRec | exact hfRec _ | exact Le.rfl' _ | (refine Le.pi2 ?_; intro _) | intro _)
theorem NP {fRec fRec' : Tr27 → Option Int} (hfRec : ∀ a0, Le (fRec a0) (fRec' a0)) (p0 : Tr27) : Le (ET fRec p0) (ET fRec' p0) := by
  unfold ET
  repeat' with_reducible (first | refine Le.orR' ?_ ?_ | refine Le.bind' ?_ ?_ | refine Le.ite' ?_ ?_ | refine Le.loopM ?_ | refine Le.altS' ?_ ?_ | exact hfRec | exact hfRec _ | apply NL | exact Le.rfl' _ | (refine Le.pi2 ?_; intro _) | intro _)
theorem KI : ∀ (m : Nat) a0, Le (Ec m a0) (Ec (m + 1) a0)
  | 0, a0 => fun _ h => nomatch h
  | m + 1, a0 => NP (KI m) a0
theorem Oy {fRec fRec' : Tr27 → Option Int} (hfRec : ∀ a0, Le (fRec a0) (fRec' a0)) (p0 : Tr27) : ∀ s, Le (Dw fRec p0 s) (Dw fRec' p0 s) := by
  rintro ⟨x4, x5⟩
  show Le (Dw fRec p0 (x4, x5)) (Dw fRec' p0 (x4, x5))
  unfold Dw
  repeat' with_reducible (first | refine Le.orR' ?_ ?_ | refine Le.bind' ?_ ?_ | refine Le.ite' ?_ ?_ | refine Le.loopM ?_ | refine Le.altS' ?_ ?_ | exact hfRec | exact hfRec _ | exact Le.rfl' _ | (refine Le.pi2 ?_; intro _) | intro _)
theorem N8 {fRec fRec' : Tr27 → Option Int} (hfRec : ∀ a0, Le (fRec a0) (fRec' a0)) (p0 : Tr27) : Le (E2 fRec p0) (E2 fRec' p0) := by
  unfold E2
  repeat' with_reducible (first | refine Le.orR' ?_ ?_ | refine Le.bind' ?_ ?_ | refine Le.ite' ?_ ?_ | refine Le.loopM ?_ | refine Le.altS' ?_ ?_ | exact hfRec | exact hfRec _ | apply Oy | exact Le.rfl' _ | (refine Le.pi2 ?_; intro _) | intro _)
theorem KF : ∀ (m : Nat) a0, Le (D9 m a0) (D9 (m + 1) a0)
  | 0, a0 => fun _ h => nomatch h
  | m + 1, a0 => N8 (KF m) a0
theorem NI {fRec fRec' : Tr27 → Option Int} (hfRec : ∀ a0, Le (fRec a0) (fRec' a0)) (p0 : Tr27) : ∀ s, Le (DE fRec p0 s) (DE fRec' p0 s) := by
  rintro ⟨x3, x4⟩
  show Le (DE fRec p0 (x3, x4)) (DE fRec' p0 (x3, x4))
  unfold DE
  repeat' with_reducible (first | refine Le.orR' ?_ ?_ | refine Le.bind' ?_ ?_ | refine Le.ite' ?_ ?_ | refine Le.loopM ?_ | refine Le.altS' ?_ ?_ | exact hfRec | exact hfRec _ | exact Le.rfl' _ | (refine Le.pi2 ?_; intro _) | intro _)
theorem Nu {fRec fRec' : Tr27 → Option Int} (hfRec : ∀ a0, Le (fRec a0) (fRec' a0)) (p0 : Tr27) : Le (EU fRec p0) (EU fRec' p0) := by
  unfold EU
  repeat' with_reducible (first | refine Le.orR' ?_ ?_ | refine Le.bind' ?_ ?_ | refine Le.ite' ?_ ?_ | refine Le.loopM ?_ | refine Le.altS' ?_ ?_ | exact hfRec | exact hfRec _ | apply NI | exact Le.rfl' _ | (refine Le.pi2 ?_; intro _) | intro _)
theorem Kx : ∀ (m : Nat) a0, Le (DJ m a0) (DJ (m + 1) a0)
  | 0, a0 => fun _ h => nomatch h
  | m + 1, a0 => Nu (Kx m) a0
def Jf (nE : Nat) (p0 : Int × Int × Int × Int) (p1 : Int) : Option Int := (if (!(CD p1)) = true then some 0 else (ix ([p0.1, p0.2.1, p0.2.2.1, p0.2.2.2] : List Int) p1).bind fun x1 => some x1)
theorem OW (nE : Nat) (p0 : Int × Int × Int × Int) (p1 : Int) : Le (Jf nE p0 p1) (GU p0 p1) := by
  unfold Jf GU
  repeat' with_reducible (first | refine Le.orR' ?_ ?_ | refine Le.bind' ?_ ?_ | refine Le.ite' ?_ ?_ | refine Le.loop' ?_ | refine Le.altS' ?_ ?_ | exact Le.rfl' _ | (refine Le.pi2 ?_; intro _) | intro _)
def KY (nE : Nat) (p0 : Int) (p1 : Int) (p2 : Int) (p3 : Int × Int × Int × Int) : Option Int := (if p0 = 4 then some p2 else (if p0 = 5 then some p1 else (if (C7 p0) = true then (Jf nE p3 p0).bind fun x1 => some x1 else some (-1))))
theorem Qw (nE : Nat) (p0 : Int) (p1 : Int) (p2 : Int) (p3 : Int × Int × Int × Int) : Le (KY nE p0 p1 p2 p3) (HI p0 p1 p2 p3) := by
  unfold KY HI
  repeat' with_reducible (first | refine Le.orR' ?_ ?_ | refine Le.bind' ?_ ?_ | refine Le.ite' ?_ ?_ | refine Le.loop' ?_ | refine Le.altS' ?_ ?_ | apply OW | exact Le.rfl' _ | (refine Le.pi2 ?_; intro _) | intro _)
def Es (nE : Nat) (fRec_pred_arrival_satisfies : (Int × Int × (Int × Int × Int × Int)) → Tr34 → Option Bool) (p0 : Int × Int × (Int × Int × Int × Int)) (p1 : Tr34) : Option Bool := (fRec_pred_arrival_satisfies p0 p1).bind fun x1 => some (!x1)
theorem GM (nE : Nat) {fRec_pred_arrival_satisfies fRec_pred_arrival_satisfies' : (Int × Int × (Int × Int × Int × Int)) → Tr34 → Option Bool} (hfRec_pred_arrival_satisfies : ∀ a0 a1, Le (fRec_pred_arrival_satisfies a0 a1) (fRec_pred_arrival_satisfies' a0 a1)) (p0 : Int × Int × (Int × Int × Int × Int)) (p1 : Tr34) : Le (Es nE fRec_pred_arrival_satisfies p0 p1) (Ch fRec_pred_arrival_satisfies' p0 p1) := by
  unfold Es Ch
  repeat' with_reducible (first | refine Le.orR' ?_ ?_ | refine Le.bind' ?_ ?_ | refine Le.ite' ?_ ?_ | refine Le.loop' ?_ | refine Le.altS' ?_ ?_ | exact hfRec_pred_arrival_satisfies | exact hfRec_pred_arrival_satisfies _ _ | exact Le.rfl' _ | (refine Le.pi2 ?_; intro _) | intro _)
theorem GO {fRec_pred_arrival_satisfies fRec_pred_arrival_satisfies' : (Int × Int × (Int × Int × Int × Int)) → Tr34 → Option Bool} (hfRec_pred_arrival_satisfies : ∀ a0 a1, Le (fRec_pred_arrival_satisfies a0 a1) (fRec_pred_arrival_satisfies' a0 a1)) (p0 : Int × Int × (Int × Int × Int × Int)) (p1 : Tr34) : Le (Ch fRec_pred_arrival_satisfies p0 p1) (Ch fRec_pred_arrival_satisfies' p0 p1) := by
  unfold Ch
  repeat' with_reducible (first | refine Le.orR' ?_ ?_ | refine Le.bind' ?_ ?_ | refine Le.ite' ?_ ?_ | refine Le.loopM ?_ | refine Le.altS' ?_ ?_ | exact hfRec_pred_arrival_satisfies | exact hfRec_pred_arrival_satisfies _ _ | exact Le.rfl' _ | (refine Le.pi2 ?_; intro _) | intro _)
def CV (nE : Nat) (fRec_pred_arrival_satisfies : (Int × Int × (Int × Int × Int × Int)) → Tr34 → Option Bool) (p0 : List Tr34) (p1f0 : Int × Int × (Int × Int × Int × Int)) : Int → Option (Int ⊕ (Unit ⊕ Int))
  | x1 => (if x1 < (p0.length : Int) then (ix p0 x1).bind fun x2 => ((Es nE fRec_pred_arrival_satisfies) p1f0 x2).bind fun x3 => (if x3 = true then some (.inr (.inr x1)) else some (.inl (AO (x1 + 1)))) else some (.inr (.inl ())))
theorem Fa (nE : Nat) {fRec_pred_arrival_satisfies fRec_pred_arrival_satisfies' : (Int × Int × (Int × Int × Int × Int)) → Tr34 → Option Bool} (hfRec_pred_arrival_satisfies : ∀ a0 a1, Le (fRec_pred_arrival_satisfies a0 a1) (fRec_pred_arrival_satisfies' a0 a1)) (p0 : List Tr34) (p1f0 : Int × Int × (Int × Int × Int × Int)) : ∀ s, Le (CV nE fRec_pred_arrival_satisfies p0 p1f0 s) (AH fRec_pred_arrival_satisfies' p0 p1f0 s) := by
  intro x1
  unfold CV AH
  repeat' with_reducible (first | refine Le.orR' ?_ ?_ | refine Le.bind' ?_ ?_ | refine Le.ite' ?_ ?_ | refine Le.loop' ?_ | refine Le.altS' ?_ ?_ | exact hfRec_pred_arrival_satisfies | exact hfRec_pred_arrival_satisfies _ _ | apply GM | exact Le.rfl' _ | (refine Le.pi2 ?_; intro _) | intro _)
theorem E6 {fRec_pred_arrival_satisfies fRec_pred_arrival_satisfies' : (Int × Int × (Int × Int × Int × Int)) → Tr34 → Option Bool} (hfRec_pred_arrival_satisfies : ∀ a0 a1, Le (fRec_pred_arrival_satisfies a0 a1) (fRec_pred_arrival_satisfies' a0 a1)) (p0 : List Tr34) (p1f0 : Int × Int × (Int × Int × Int × Int)) : ∀ s, Le (AH fRec_pred_arrival_satisfies p0 p1f0 s) (AH fRec_pred_arrival_satisfies' p0 p1f0 s) := by
  intro x1
  unfold AH
  repeat' with_reducible (first | refine Le.orR' ?_ ?_ | refine Le.bind' ?_ ?_ | refine Le.ite' ?_ ?_ | refine Le.loopM ?_ | refine Le.altS' ?_ ?_ | exact hfRec_pred_arrival_satisfies | exact hfRec_pred_arrival_satisfies _ _ | apply GO | exact Le.rfl' _ | (refine Le.pi2 ?_; intro _) | intro _)
def C3 (nE : Nat) (fRec_pred_arrival_satisfies : (Int × Int × (Int × Int × Int × Int)) → Tr34 → Option Bool) (p0 : List Tr34) (p1f0 : Int × Int × (Int × Int × Int × Int)) : Option Int := Ko (Id nE (CV nE fRec_pred_arrival_satisfies p0 p1f0) 0) fun _ => some (-1)
theorem FD (nE : Nat) {fRec_pred_arrival_satisfies fRec_pred_arrival_satisfies' : (Int × Int × (Int × Int × Int × Int)) → Tr34 → Option Bool} (hfRec_pred_arrival_satisfies : ∀ a0 a1, Le (fRec_pred_arrival_satisfies a0 a1) (fRec_pred_arrival_satisfies' a0 a1)) (p0 : List Tr34) (p1f0 : Int × Int × (Int × Int × Int × Int)) : Le (C3 nE fRec_pred_arrival_satisfies p0 p1f0) (Ba fRec_pred_arrival_satisfies' p0 p1f0) := by
  unfold C3 Ba
  repeat' with_reducible (first | refine Le.orR' ?_ ?_ | refine Le.bind' ?_ ?_ | refine Le.ite' ?_ ?_ | refine Le.loop' ?_ | refine Le.altS' ?_ ?_ | exact hfRec_pred_arrival_satisfies | exact hfRec_pred_arrival_satisfies _ _ | apply Fa | exact Le.rfl' _ | (refine Le.pi2 ?_; intro _) | intro _)
theorem FA {fRec_pred_arrival_satisfies fRec_pred_arrival_satisfies' : (Int × Int × (Int × Int × Int × Int)) → Tr34 → Option Bool} (hfRec_pred_arrival_satisfies : ∀ a0 a1, Le (fRec_pred_arrival_satisfies a0 a1) (fRec_pred_arrival_satisfies' a0 a1)) (p0 : List Tr34) (p1f0 : Int × Int × (Int × Int × Int × Int)) : Le (Ba fRec_pred_arrival_satisfies p0 p1f0) (Ba fRec_pred_arrival_satisfies' p0 p1f0) := by
  unfold Ba
  repeat' with_reducible (first | refine Le.orR' ?_ ?_ | refine Le.bind' ?_ ?_ | refine Le.ite' ?_ ?_ | refine Le.loopM ?_ | refine Le.altS' ?_ ?_ | exact hfRec_pred_arrival_satisfies | exact hfRec_pred_arrival_satisfies _ _ | apply E6 | exact Le.rfl' _ | (refine Le.pi2 ?_; intro _) | intro _)
def CU (nE : Nat) (fRec_pred_arrival_satisfies : (Int × Int × (Int × Int × Int × Int)) → Tr34 → Option Bool) (p0 : List Tr34) (p1f0 : Int × Int × (Int × Int × Int × Int)) : Option Bool := ((C3 nE fRec_pred_arrival_satisfies) p0 p1f0).bind fun x1 => some (decide (0 ≤ x1))
theorem E7 (nE : Nat) {fRec_pred_arrival_satisfies fRec_pred_arrival_satisfies' : (Int × Int × (Int × Int × Int × Int)) → Tr34 → Option Bool} (hfRec_pred_arrival_satisfies : ∀ a0 a1, Le (fRec_pred_arrival_satisfies a0 a1) (fRec_pred_arrival_satisfies' a0 a1)) (p0 : List Tr34) (p1f0 : Int × Int × (Int × Int × Int × Int)) : Le (CU nE fRec_pred_arrival_satisfies p0 p1f0) (AV fRec_pred_arrival_satisfies' p0 p1f0) := by
  unfold CU AV
  repeat' with_reducible (first | refine Le.orR' ?_ ?_ | refine Le.bind' ?_ ?_ | refine Le.ite' ?_ ?_ | refine Le.loop' ?_ | refine Le.altS' ?_ ?_ | exact hfRec_pred_arrival_satisfies | exact hfRec_pred_arrival_satisfies _ _ | apply FD | exact Le.rfl' _ | (refine Le.pi2 ?_; intro _) | intro _)
theorem E3 {fRec_pred_arrival_satisfies fRec_pred_arrival_satisfies' : (Int × Int × (Int × Int × Int × Int)) → Tr34 → Option Bool} (hfRec_pred_arrival_satisfies : ∀ a0 a1, Le (fRec_pred_arrival_satisfies a0 a1) (fRec_pred_arrival_satisfies' a0 a1)) (p0 : List Tr34) (p1f0 : Int × Int × (Int × Int × Int × Int)) : Le (AV fRec_pred_arrival_satisfies p0 p1f0) (AV fRec_pred_arrival_satisfies' p0 p1f0) := by
  unfold AV
  repeat' with_reducible (first | refine Le.orR' ?_ ?_ | refine Le.bind' ?_ ?_ | refine Le.ite' ?_ ?_ | refine Le.loopM ?_ | refine Le.altS' ?_ ?_ | exact hfRec_pred_arrival_satisfies | exact hfRec_pred_arrival_satisfies _ _ | apply FA | exact Le.rfl' _ | (refine Le.pi2 ?_; intro _) | intro _)
def CP (nE : Nat) (fRec_pred_arrival_satisfies : (Int × Int × (Int × Int × Int × Int)) → Tr34 → Option Bool) (p0 : List Tr34) (p1f0 : Int × Int × (Int × Int × Int × Int)) : Int → Option (Int ⊕ (Unit ⊕ Int))
  | x1 => (if x1 < (p0.length : Int) then (ix p0 x1).bind fun x2 => (fRec_pred_arrival_satisfies p1f0 x2).bind fun x3 => (if x3 = true then some (.inr (.inr x1)) else some (.inl (AO (x1 + 1)))) else some (.inr (.inl ())))
theorem EH (nE : Nat) {fRec_pred_arrival_satisfies fRec_pred_arrival_satisfies' : (Int × Int × (Int × Int × Int × Int)) → Tr34 → Option Bool} (hfRec_pred_arrival_satisfies : ∀ a0 a1, Le (fRec_pred_arrival_satisfies a0 a1) (fRec_pred_arrival_satisfies' a0 a1)) (p0 : List Tr34) (p1f0 : Int × Int × (Int × Int × Int × Int)) : ∀ s, Le (CP nE fRec_pred_arrival_satisfies p0 p1f0 s) (AE fRec_pred_arrival_satisfies' p0 p1f0 s) := by
  intro x1
  unfold CP AE
  repeat' with_reducible (first | refine Le.orR' ?_ ?_ | refine Le.bind' ?_ ?_ | refine Le.ite' ?_ ?_ | refine Le.loop' ?_ | refine Le.altS' ?_ ?_ | exact hfRec_pred_arrival_satisfies | exact hfRec_pred_arrival_satisfies _ _ | exact Le.rfl' _ | (refine Le.pi2 ?_; intro _) | intro _)
theorem EM {fRec_pred_arrival_satisfies fRec_pred_arrival_satisfies' : (Int × Int × (Int × Int × Int × Int)) → Tr34 → Option Bool} (hfRec_pred_arrival_satisfies : ∀ a0 a1, Le (fRec_pred_arrival_satisfies a0 a1) (fRec_pred_arrival_satisfies' a0 a1)) (p0 : List Tr34) (p1f0 : Int × Int × (Int × Int × Int × Int)) : ∀ s, Le (AE fRec_pred_arrival_satisfies p0 p1f0 s) (AE fRec_pred_arrival_satisfies' p0 p1f0 s) := by
  intro x1
  unfold AE
  repeat' with_reducible (first | refine Le.orR' ?_ ?_ | refine Le.bind' ?_ ?_ | refine Le.ite' ?_ ?_ | refine Le.loopM ?_ | refine Le.altS' ?_ ?_ | exact hfRec_pred_arrival_satisfies | exact hfRec_pred_arrival_satisfies _ _ | exact Le.rfl' _ | (refine Le.pi2 ?_; intro _) | intro _)
def C0 (nE : Nat) (fRec_pred_arrival_satisfies : (Int × Int × (Int × Int × Int × Int)) → Tr34 → Option Bool) (p0 : List Tr34) (p1f0 : Int × Int × (Int × Int × Int × Int)) : Option Int := Ko (Id nE (CP nE fRec_pred_arrival_satisfies p0 p1f0) 0) fun _ => some (-1)
theorem Fk (nE : Nat) {fRec_pred_arrival_satisfies fRec_pred_arrival_satisfies' : (Int × Int × (Int × Int × Int × Int)) → Tr34 → Option Bool} (hfRec_pred_arrival_satisfies : ∀ a0 a1, Le (fRec_pred_arrival_satisfies a0 a1) (fRec_pred_arrival_satisfies' a0 a1)) (p0 : List Tr34) (p1f0 : Int × Int × (Int × Int × Int × Int)) : Le (C0 nE fRec_pred_arrival_satisfies p0 p1f0) (AY fRec_pred_arrival_satisfies' p0 p1f0) := by
  unfold C0 AY
  repeat' with_reducible (first | refine Le.orR' ?_ ?_ | refine Le.bind' ?_ ?_ | refine Le.ite' ?_ ?_ | refine Le.loop' ?_ | refine Le.altS' ?_ ?_ | exact hfRec_pred_arrival_satisfies | exact hfRec_pred_arrival_satisfies _ _ | apply EH | exact Le.rfl' _ | (refine Le.pi2 ?_; intro _) | intro _)
theorem Fh {fRec_pred_arrival_satisfies fRec_pred_arrival_satisfies' : (Int × Int × (Int × Int × Int × Int)) → Tr34 → Option Bool} (hfRec_pred_arrival_satisfies : ∀ a0 a1, Le (fRec_pred_arrival_satisfies a0 a1) (fRec_pred_arrival_satisfies' a0 a1)) (p0 : List Tr34) (p1f0 : Int × Int × (Int × Int × Int × Int)) : Le (AY fRec_pred_arrival_satisfies p0 p1f0) (AY fRec_pred_arrival_satisfies' p0 p1f0) := by
  unfold AY
  repeat' with_reducible (first | refine Le.orR' ?_ ?_ | refine Le.bind' ?_ ?_ | refine Le.ite' ?_ ?_ | refine Le.loopM ?_ | refine Le.altS' ?_ ?_ | exact hfRec_pred_arrival_satisfies | exact hfRec_pred_arrival_satisfies _ _ | apply EM | exact Le.rfl' _ | (refine Le.pi2 ?_; intro _) | intro _)
def CM (nE : Nat) (fRec_pred_arrival_satisfies : (Int × Int × (Int × Int × Int × Int)) → Tr34 → Option Bool) (p0 : List Tr34) (p1f0 : Int × Int × (Int × Int × Int × Int)) : Option Bool := ((C0 nE fRec_pred_arrival_satisfies) p0 p1f0).bind fun x1 => some (decide (0 ≤ x1))
theorem EL (nE : Nat) {fRec_pred_arrival_satisfies fRec_pred_arrival_satisfies' : (Int × Int × (Int × Int × Int × Int)) → Tr34 → Option Bool} (hfRec_pred_arrival_satisfies : ∀ a0 a1, Le (fRec_pred_arrival_satisfies a0 a1) (fRec_pred_arrival_satisfies' a0 a1)) (p0 : List Tr34) (p1f0 : Int × Int × (Int × Int × Int × Int)) : Le (CM nE fRec_pred_arrival_satisfies p0 p1f0) (AR fRec_pred_arrival_satisfies' p0 p1f0) := by
  unfold CM AR
  repeat' with_reducible (first | refine Le.orR' ?_ ?_ | refine Le.bind' ?_ ?_ | refine Le.ite' ?_ ?_ | refine Le.loop' ?_ | refine Le.altS' ?_ ?_ | exact hfRec_pred_arrival_satisfies | exact hfRec_pred_arrival_satisfies _ _ | apply Fk | exact Le.rfl' _ | (refine Le.pi2 ?_; intro _) | intro _)
theorem EG {fRec_pred_arrival_satisfies fRec_pred_arrival_satisfies' : (Int × Int × (Int × Int × Int × Int)) → Tr34 → Option Bool} (hfRec_pred_arrival_satisfies : ∀ a0 a1, Le (fRec_pred_arrival_satisfies a0 a1) (fRec_pred_arrival_satisfies' a0 a1)) (p0 : List Tr34) (p1f0 : Int × Int × (Int × Int × Int × Int)) : Le (AR fRec_pred_arrival_satisfies p0 p1f0) (AR fRec_pred_arrival_satisfies' p0 p1f0) := by
  unfold AR
  repeat' with_reducible (first | refine Le.orR' ?_ ?_ | refine Le.bind' ?_ ?_ | refine Le.ite' ?_ ?_ | refine Le.loopM ?_ | refine Le.altS' ?_ ?_ | exact hfRec_pred_arrival_satisfies | exact hfRec_pred_arrival_satisfies _ _ | apply Fh | exact Le.rfl' _ | (refine Le.pi2 ?_; intro _) | intro _)
def DU (nE : Nat) (fRec : (Int × Int × (Int × Int × Int × Int)) → Tr34 → Option Bool) (p0 : Int × Int × (Int × Int × Int × Int)) (p1 : Tr34) : Option Bool := (if p1.un.1 = 1 then some true else (if p1.un.1 = 3 then (if (C7 p1.un.2.1) = true then (KY nE p1.un.2.1 p0.1 p0.2.1 p0.2.2).bind fun x2 => some (decide (x2 = p1.un.2.2.1)) else some false).bind fun x1 => some x1 else (if p1.un.1 = 4 then (if 0 < (p1.un.2.2.2.length : Int) then (ix p1.un.2.2.2 0).bind fun x4 => ((Es nE fRec) p0 x4).bind fun x5 => some x5 else some false).bind fun x3 => some x3 else (if p1.un.1 = 5 then ((CU nE fRec) p1.un.2.2.2 p0).bind fun x6 => some (!x6) else (if p1.un.1 = 6 then ((CM nE fRec) p1.un.2.2.2 p0).bind fun x7 => some x7 else some false)))))
theorem Ho (nE : Nat) {fRec fRec' : (Int × Int × (Int × Int × Int × Int)) → Tr34 → Option Bool} (hfRec : ∀ a0 a1, Le (fRec a0 a1) (fRec' a0 a1)) (p0 : Int × Int × (Int × Int × Int × Int)) (p1 : Tr34) : Le (DU nE fRec p0 p1) (BD fRec' p0 p1) := by
  unfold DU BD
  repeat' with_reducible (first | refine Le.orR' ?_ ?_ | refine Le.bind' ?_ ?_ | refine Le.ite' ?_ ?_ | refine Le.loop' ?_ | refine Le.altS' ?_ ?_ | exact hfRec | exact hfRec _ _ | apply Qw | apply GM | apply E7 | apply EL | exact Le.rfl' _ | (refine Le.pi2 ?_; intro _) | intro _)
theorem Hr {fRec fRec' : (Int × Int × (Int × Int × Int × Int)) → Tr34 → Option Bool} (hfRec : ∀ a0 a1, Le (fRec a0 a1) (fRec' a0 a1)) (p0 : Int × Int × (Int × Int × Int × Int)) (p1 : Tr34) : Le (BD fRec p0 p1) (BD fRec' p0 p1) := by
  unfold BD
  repeat' with_reducible (first | refine Le.orR' ?_ ?_ | refine Le.bind' ?_ ?_ | refine Le.ite' ?_ ?_ | refine Le.loopM ?_ | refine Le.altS' ?_ ?_ | exact hfRec | exact hfRec _ _ | apply GO | apply E3 | apply EG | exact Le.rfl' _ | (refine Le.pi2 ?_; intro _) | intro _)
def Ee (nE : Nat) : Nat → (Int × Int × (Int × Int × Int × Int)) → Tr34 → Option Bool
  | 0 => fun _ _ => none
  | n + 1 => DU nE (Ee nE n)
theorem Fy (nE : Nat) : ∀ (m : Nat) a0 a1, Le (Ee nE m a0 a1) (Bc m a0 a1)
  | 0, a0, a1 => fun _ h => nomatch h
  | m + 1, a0, a1 => Ho nE (Fy nE m) a0 a1
theorem DS : ∀ (m : Nat) a0 a1, Le (Bc m a0 a1) (Bc (m + 1) a0 a1)
  | 0, a0, a1 => fun _ h => nomatch h
  | m + 1, a0, a1 => Hr (DS m) a0 a1
def F4 (nE : Nat) (p0 : Int × Int × (Int × Int × Int × Int)) (p1 : Tr34) : Option Bool := Ee nE nE p0 p1
theorem H3 (nE : Nat) (p0 : Int × Int × (Int × Int × Int × Int)) (p1 : Tr34) : Le (F4 nE p0 p1) (DV p0 p1) := fun r e => Dd (g := fun n => Bc n p0 p1) (fun n r h => DS n p0 p1 r h) (n := nE) (Fy nE nE p0 p1 r e)
def H5 (nE : Nat) (p0 : Tr34) (p1 : Int) (p2 : Int) (p3 : Int × Int × Int × Int) : Option Bool := (F4 nE (p1, p2, p3) p0).bind fun x1 => some x1
theorem Ly (nE : Nat) (p0 : Tr34) (p1 : Int) (p2 : Int) (p3 : Int × Int × Int × Int) : Le (H5 nE p0 p1 p2 p3) (Gt p0 p1 p2 p3) := by
  unfold H5 Gt
  repeat' with_reducible (first | refine Le.orR' ?_ ?_ | refine Le.bind' ?_ ?_ | refine Le.ite' ?_ ?_ | refine Le.loop' ?_ | refine Le.altS' ?_ ?_ | apply H3 | exact Le.rfl' _ | (refine Le.pi2 ?_; intro _) | intro _)
def IH (nE : Nat) (p0 : Int) : Option Int := (if p0 = 0 then some true else (if p0 = 1 then some true else some (decide (p0 = 3)))).bind fun x1 => (if x1 = true then some 8 else (if p0 = 2 then some 4 else some 0))
theorem Oe (nE : Nat) (p0 : Int) : Le (IH nE p0) (Gw p0) := by
  unfold IH Gw
  repeat' with_reducible (first | refine Le.orR' ?_ ?_ | refine Le.bind' ?_ ?_ | refine Le.ite' ?_ ?_ | refine Le.loop' ?_ | refine Le.altS' ?_ ?_ | exact Le.rfl' _ | (refine Le.pi2 ?_; intro _) | intro _)
def Hw (nE : Nat) (p0 : Int) : Option Int := (IH nE p0).bind fun x1 => (VG (He .i64 1 x1) x1).bind fun x2 => some (AO (x2 - 1))
theorem KL (nE : Nat) (p0 : Int) : Le (Hw nE p0) (D5 p0) := by
  unfold Hw D5
  repeat' with_reducible (first | refine Le.orR' ?_ ?_ | refine Le.bind' ?_ ?_ | refine Le.ite' ?_ ?_ | refine Le.loop' ?_ | refine Le.altS' ?_ ?_ | apply Oe | exact Le.rfl' _ | (refine Le.pi2 ?_; intro _) | intro _)
def IG (nE : Nat) (p0 : Int) (p1 : Int) : Option Bool := (if 0 ≤ p1 then (Hw nE p0).bind fun x2 => some (decide (p1 ≤ x2)) else some false).bind fun x1 => some x1
theorem OD (nE : Nat) (p0 : Int) (p1 : Int) : Le (IG nE p0 p1) (DF p0 p1) := by
  unfold IG DF
  repeat' with_reducible (first | refine Le.orR' ?_ ?_ | refine Le.bind' ?_ ?_ | refine Le.ite' ?_ ?_ | refine Le.loop' ?_ | refine Le.altS' ?_ ?_ | apply KL | exact Le.rfl' _ | (refine Le.pi2 ?_; intro _) | intro _)
def IB (nE : Nat) (p0 : Int × Int × Int × Int) (p1 : Int) (p2 : Int) : Option (Int × Int × Int × Int) := ((if (CD p1) = true then (IG nE p1 p2).bind fun x6 => some x6 else some false).bind fun x5 => (if x5 = true then (ix ([p0.1, p0.2.1, p0.2.2.1, p0.2.2.2] : List Int) p1).bind fun x7 => some ((if p1 = 0 then p2 else p0.1), (if p1 = 1 then p2 else p0.2.1), (if p1 = 2 then p2 else p0.2.2.1), (if p1 = 3 then p2 else p0.2.2.2)) else some (p0.1, p0.2.1, p0.2.2.1, p0.2.2.2))).bind fun (x1, x2, x3, x4) => some (x1, x2, x3, x4)
theorem OE (nE : Nat) (p0 : Int × Int × Int × Int) (p1 : Int) (p2 : Int) : Le (IB nE p0 p1 p2) (C9 p0 p1 p2) := by
  unfold IB C9
  repeat' with_reducible (first | refine Le.orR' ?_ ?_ | refine Le.bind' ?_ ?_ | refine Le.ite' ?_ ?_ | refine Le.loop' ?_ | refine Le.altS' ?_ ?_ | apply OD | exact Le.rfl' _ | (refine Le.pi2 ?_; intro _) | intro _)
def GJ (nE : Nat) (p0 : Int × (Int × Int × Int × Int)) (p1 : Int) (p2 : Int) : Option (Int × (Int × Int × Int × Int)) := (if p1 = 4 then some p2 else some p0.1).bind fun x1 => (IB nE p0.2 p1 p2).bind fun x2 => some (x1, x2)
theorem Lb (nE : Nat) (p0 : Int × (Int × Int × Int × Int)) (p1 : Int) (p2 : Int) : Le (GJ nE p0 p1 p2) (Cd p0 p1 p2) := by
  unfold GJ Cd
  repeat' with_reducible (first | refine Le.orR' ?_ ?_ | refine Le.bind' ?_ ?_ | refine Le.ite' ?_ ?_ | refine Le.loop' ?_ | refine Le.altS' ?_ ?_ | apply OE | exact Le.rfl' _ | (refine Le.pi2 ?_; intro _) | intro _)
def Fc (nE : Nat) (fRec_policy_results : Tr37 → Int → (Int × (Int × Int × Int × Int)) → Option (List (Int × (Int × Int × Int × Int)))) (p1 : Int) (x4 : Tr37) (kx760 : Int × (Int × Int × Int × Int)) : Option (List (Int × (Int × Int × Int × Int))) := (fRec_policy_results (Tr37.of (x4.un.1, Tr34.of (x4.un.2.1.un.1, x4.un.2.1.un.2.1, x4.un.2.1.un.2.2.1, x4.un.2.1.un.2.2.2), x4.un.2.2.1, x4.un.2.2.2.1, x4.un.2.2.2.2)) p1 kx760).bind fun x6 => some x6
theorem IL (nE : Nat) {fRec_policy_results fRec_policy_results' : Tr37 → Int → (Int × (Int × Int × Int × Int)) → Option (List (Int × (Int × Int × Int × Int)))} (hfRec_policy_results : ∀ a0 a1 a2, Le (fRec_policy_results a0 a1 a2) (fRec_policy_results' a0 a1 a2)) (p1 : Int) (x4 : Tr37) (kx760 : Int × (Int × Int × Int × Int)) : Le (Fc nE fRec_policy_results p1 x4 kx760) (Cs fRec_policy_results' p1 x4 kx760) := by
  unfold Fc Cs
  repeat' with_reducible (first | refine Le.orR' ?_ ?_ | refine Le.bind' ?_ ?_ | refine Le.ite' ?_ ?_ | refine Le.loop' ?_ | refine Le.altS' ?_ ?_ | exact hfRec_policy_results | exact hfRec_policy_results _ _ _ | exact Le.rfl' _ | (refine Le.pi2 ?_; intro _) | intro _)
theorem I8 {fRec_policy_results fRec_policy_results' : Tr37 → Int → (Int × (Int × Int × Int × Int)) → Option (List (Int × (Int × Int × Int × Int)))} (hfRec_policy_results : ∀ a0 a1 a2, Le (fRec_policy_results a0 a1 a2) (fRec_policy_results' a0 a1 a2)) (p1 : Int) (x4 : Tr37) (kx760 : Int × (Int × Int × Int × Int)) : Le (Cs fRec_policy_results p1 x4 kx760) (Cs fRec_policy_results' p1 x4 kx760) := by
  unfold Cs
  repeat' with_reducible (first | refine Le.orR' ?_ ?_ | refine Le.bind' ?_ ?_ | refine Le.ite' ?_ ?_ | refine Le.loopM ?_ | refine Le.altS' ?_ ?_ | exact hfRec_policy_results | exact hfRec_policy_results _ _ _ | exact Le.rfl' _ | (refine Le.pi2 ?_; intro _) | intro _)
def Fg (nE : Nat) (fRec_policy_results : Tr37 → Int → (Int × (Int × Int × Int × Int)) → Option (List (Int × (Int × Int × Int × Int)))) (p0 : List Tr37) (p1 : Int) : ((List (Int × (Int × Int × Int × Int))) × Int) → Option (((List (Int × (Int × Int × Int × Int))) × Int) ⊕ (List (Int × (Int × Int × Int × Int))))
  | (x2, x3) => (if x3 < (p0.length : Int) then (ix p0 x3).bind fun x4 => (GC Bi (Fc nE fRec_policy_results p1 x4) x2 ([] : List (Int × (Int × Int × Int × Int)))).bind fun x5 => some (.inl (x5, AO (x3 + 1))) else some (.inr x2))
theorem IK (nE : Nat) {fRec_policy_results fRec_policy_results' : Tr37 → Int → (Int × (Int × Int × Int × Int)) → Option (List (Int × (Int × Int × Int × Int)))} (hfRec_policy_results : ∀ a0 a1 a2, Le (fRec_policy_results a0 a1 a2) (fRec_policy_results' a0 a1 a2)) (p0 : List Tr37) (p1 : Int) : ∀ s, Le (Fg nE fRec_policy_results p0 p1 s) (BM fRec_policy_results' p0 p1 s) := by
  rintro ⟨x2, x3⟩
  unfold Fg BM
  repeat' with_reducible (first | refine Le.orR' ?_ ?_ | refine Le.bind' ?_ ?_ | refine Le.ite' ?_ ?_ | refine Le.loop' ?_ | refine Le.altS' ?_ ?_ | refine Le.sall' ?_ _ _ | exact hfRec_policy_results | exact hfRec_policy_results _ _ _ | apply IL | exact Le.rfl' _ | (refine Le.pi2 ?_; intro _) | intro _)
theorem I1 {fRec_policy_results fRec_policy_results' : Tr37 → Int → (Int × (Int × Int × Int × Int)) → Option (List (Int × (Int × Int × Int × Int)))} (hfRec_policy_results : ∀ a0 a1 a2, Le (fRec_policy_results a0 a1 a2) (fRec_policy_results' a0 a1 a2)) (p0 : List Tr37) (p1 : Int) : ∀ s, Le (BM fRec_policy_results p0 p1 s) (BM fRec_policy_results' p0 p1 s) := by
  rintro ⟨x2, x3⟩
  show Le (BM fRec_policy_results p0 p1 (x2, x3)) (BM fRec_policy_results' p0 p1 (x2, x3))
  unfold BM
  repeat' with_reducible (first | refine Le.orR' ?_ ?_ | refine Le.bind' ?_ ?_ | refine Le.ite' ?_ ?_ | refine Le.loopM ?_ | refine Le.altS' ?_ ?_ | refine Le.sall' ?_ _ _ | exact hfRec_policy_results | exact hfRec_policy_results _ _ _ | apply I8 | exact Le.rfl' _ | (refine Le.pi2 ?_; intro _) | intro _)
def FY (nE : Nat) (fRec_policy_results : Tr37 → Int → (Int × (Int × Int × Int × Int)) → Option (List (Int × (Int × Int × Int × Int)))) (p0 : List Tr37) (p1 : Int) (p2 : Int × (Int × Int × Int × Int)) : Option (List (Int × (Int × Int × Int × Int))) := (Id nE (Fg nE fRec_policy_results p0 p1) ((FN Bi ([] : List (Int × (Int × Int × Int × Int))) p2), 0)).bind fun x1 => some x1
theorem JS (nE : Nat) {fRec_policy_results fRec_policy_results' : Tr37 → Int → (Int × (Int × Int × Int × Int)) → Option (List (Int × (Int × Int × Int × Int)))} (hfRec_policy_results : ∀ a0 a1 a2, Le (fRec_policy_results a0 a1 a2) (fRec_policy_results' a0 a1 a2)) (p0 : List Tr37) (p1 : Int) (p2 : Int × (Int × Int × Int × Int)) : Le (FY nE fRec_policy_results p0 p1 p2) (CK fRec_policy_results' p0 p1 p2) := by
  unfold FY CK
  repeat' with_reducible (first | refine Le.orR' ?_ ?_ | refine Le.bind' ?_ ?_ | refine Le.ite' ?_ ?_ | refine Le.loop' ?_ | refine Le.altS' ?_ ?_ | exact hfRec_policy_results | exact hfRec_policy_results _ _ _ | apply IK | exact Le.rfl' _ | (refine Le.pi2 ?_; intro _) | intro _)
theorem Jz {fRec_policy_results fRec_policy_results' : Tr37 → Int → (Int × (Int × Int × Int × Int)) → Option (List (Int × (Int × Int × Int × Int)))} (hfRec_policy_results : ∀ a0 a1 a2, Le (fRec_policy_results a0 a1 a2) (fRec_policy_results' a0 a1 a2)) (p0 : List Tr37) (p1 : Int) (p2 : Int × (Int × Int × Int × Int)) : Le (CK fRec_policy_results p0 p1 p2) (CK fRec_policy_results' p0 p1 p2) := by
  unfold CK
  repeat' with_reducible (first | refine Le.orR' ?_ ?_ | refine Le.bind' ?_ ?_ | refine Le.ite' ?_ ?_ | refine Le.loopM ?_ | refine Le.altS' ?_ ?_ | exact hfRec_policy_results | exact hfRec_policy_results _ _ _ | apply I1 | exact Le.rfl' _ | (refine Le.pi2 ?_; intro _) | intro _)
def Hm (nE : Nat) (p0 : Tr37) (p1 : Int) (p2 : Int × (Int × Int × Int × Int)) : Option Tr37 := ((H5 nE (Tr34.of (p0.un.2.1.un.1, p0.un.2.1.un.2.1, p0.un.2.1.un.2.2.1, p0.un.2.1.un.2.2.2)) p1 p2.1 p2.2).bind fun x2 => (if x2 = true then some 0 else some 1)).bind fun x1 => (if (p0.un.2.2.2.2.length : Int) ≤ x1 then some (Tr37.of (0, Tr34.of (0, 0, 0, ([] : List Tr34)), 0, 0, ([] : List Tr37))) else (ix p0.un.2.2.2.2 x1).bind fun x3 => some (Tr37.of (x3.un.1, Tr34.of (x3.un.2.1.un.1, x3.un.2.1.un.2.1, x3.un.2.1.un.2.2.1, x3.un.2.1.un.2.2.2), x3.un.2.2.1, x3.un.2.2.2.1, x3.un.2.2.2.2)))
theorem Mg (nE : Nat) (p0 : Tr37) (p1 : Int) (p2 : Int × (Int × Int × Int × Int)) : Le (Hm nE p0 p1 p2) (EC p0 p1 p2) := by
  unfold Hm EC
  repeat' with_reducible (first | refine Le.orR' ?_ ?_ | refine Le.bind' ?_ ?_ | refine Le.ite' ?_ ?_ | refine Le.loop' ?_ | refine Le.altS' ?_ ?_ | apply Ly | exact Le.rfl' _ | (refine Le.pi2 ?_; intro _) | intro _)
def FX (nE : Nat) (fRec : Tr37 → Int → (Int × (Int × Int × Int × Int)) → Option (List (Int × (Int × Int × Int × Int)))) (p0 : Tr37) (p1 : Int) (p2 : Int × (Int × Int × Int × Int)) : ((List (Int × (Int × Int × Int × Int))) × Int) → Option (((List (Int × (Int × Int × Int × Int))) × Int) ⊕ (List (Int × (Int × Int × Int × Int))))
  | (x5, x6) => (if x6 < (p0.un.2.2.2.2.length : Int) then (ix p0.un.2.2.2.2 x6).bind fun x7 => (fRec (Tr37.of (x7.un.1, Tr34.of (x7.un.2.1.un.1, x7.un.2.1.un.2.1, x7.un.2.1.un.2.2.1, x7.un.2.1.un.2.2.2), x7.un.2.2.1, x7.un.2.2.2.1, x7.un.2.2.2.2)) p1 p2).bind fun x8 => some (.inl ((Jg Bi x5 x8), AO (x6 + 1))) else some (.inr x5))
theorem JM (nE : Nat) {fRec fRec' : Tr37 → Int → (Int × (Int × Int × Int × Int)) → Option (List (Int × (Int × Int × Int × Int)))} (hfRec : ∀ a0 a1 a2, Le (fRec a0 a1 a2) (fRec' a0 a1 a2)) (p0 : Tr37) (p1 : Int) (p2 : Int × (Int × Int × Int × Int)) : ∀ s, Le (FX nE fRec p0 p1 p2 s) (Ce fRec' p0 p1 p2 s) := by
  rintro ⟨x5, x6⟩
  unfold FX Ce
  repeat' with_reducible (first | refine Le.orR' ?_ ?_ | refine Le.bind' ?_ ?_ | refine Le.ite' ?_ ?_ | refine Le.loop' ?_ | refine Le.altS' ?_ ?_ | exact hfRec | exact hfRec _ _ _ | exact Le.rfl' _ | (refine Le.pi2 ?_; intro _) | intro _)
theorem J4 {fRec fRec' : Tr37 → Int → (Int × (Int × Int × Int × Int)) → Option (List (Int × (Int × Int × Int × Int)))} (hfRec : ∀ a0 a1 a2, Le (fRec a0 a1 a2) (fRec' a0 a1 a2)) (p0 : Tr37) (p1 : Int) (p2 : Int × (Int × Int × Int × Int)) : ∀ s, Le (Ce fRec p0 p1 p2 s) (Ce fRec' p0 p1 p2 s) := by
  rintro ⟨x5, x6⟩
  show Le (Ce fRec p0 p1 p2 (x5, x6)) (Ce fRec' p0 p1 p2 (x5, x6))
  unfold Ce
  repeat' with_reducible (first | refine Le.orR' ?_ ?_ | refine Le.bind' ?_ ?_ | refine Le.ite' ?_ ?_ | refine Le.loopM ?_ | refine Le.altS' ?_ ?_ | exact hfRec | exact hfRec _ _ _ | exact Le.rfl' _ | (refine Le.pi2 ?_; intro _) | intro _)
def FZ (nE : Nat) (fRec : Tr37 → Int → (Int × (Int × Int × Int × Int)) → Option (List (Int × (Int × Int × Int × Int)))) (p0 : Tr37) (p1 : Int) (p2 : Int × (Int × Int × Int × Int)) : Option (List (Int × (Int × Int × Int × Int))) := Ko (if p0.un.1 = 1 then (H5 nE (Tr34.of (p0.un.2.1.un.1, p0.un.2.1.un.2.1, p0.un.2.1.un.2.2.1, p0.un.2.1.un.2.2.2)) p1 p2.1 p2.2).bind fun x1 => (if x1 = true then some (.inr (FN Bi ([] : List (Int × (Int × Int × Int × Int))) p2)) else some (.inl ())) else (if p0.un.1 = 2 then (GJ nE p2 p0.un.2.2.1 p0.un.2.2.2.1).bind fun x2 => some (.inr (FN Bi ([] : List (Int × (Int × Int × Int × Int))) x2)) else (if p0.un.1 = 3 then ((FY nE fRec) p0.un.2.2.2.2 p1 p2).bind fun x3 => some (.inr x3) else (if p0.un.1 = 4 then (Id nE (FX nE fRec p0 p1 p2) (([] : List (Int × (Int × Int × Int × Int))), 0)).bind fun x4 => some (.inr x4) else (if p0.un.1 = 5 then (Hm nE (Tr37.of (p0.un.1, Tr34.of (p0.un.2.1.un.1, p0.un.2.1.un.2.1, p0.un.2.1.un.2.2.1, p0.un.2.1.un.2.2.2), p0.un.2.2.1, p0.un.2.2.2.1, p0.un.2.2.2.2)) p1 p2).bind fun x9 => (fRec (Tr37.of (x9.un.1, Tr34.of (x9.un.2.1.un.1, x9.un.2.1.un.2.1, x9.un.2.1.un.2.2.1, x9.un.2.1.un.2.2.2), x9.un.2.2.1, x9.un.2.2.2.1, x9.un.2.2.2.2)) p1 p2).bind fun x10 => some (.inr x10) else some (.inl ())))))) fun _ => some ([] : List (Int × (Int × Int × Int × Int)))
theorem JD (nE : Nat) {fRec fRec' : Tr37 → Int → (Int × (Int × Int × Int × Int)) → Option (List (Int × (Int × Int × Int × Int)))} (hfRec : ∀ a0 a1 a2, Le (fRec a0 a1 a2) (fRec' a0 a1 a2)) (p0 : Tr37) (p1 : Int) (p2 : Int × (Int × Int × Int × Int)) : Le (FZ nE fRec p0 p1 p2) (Be fRec' p0 p1 p2) := by
  unfold FZ Be
  repeat' with_reducible (first | refine Le.orR' ?_ ?_ | refine Le.bind' ?_ ?_ | refine Le.ite' ?_ ?_ | refine Le.loop' ?_ | refine Le.altS' ?_ ?_ | exact hfRec | exact hfRec _ _ _ | apply Ly | apply Lb | apply JS | apply Mg | apply JM | exact Le.rfl' _ | (refine Le.pi2 ?_; intro _) | intro _)
theorem J7 {fRec fRec' : Tr37 → Int → (Int × (Int × Int × Int × Int)) → Option (List (Int × (Int × Int × Int × Int)))} (hfRec : ∀ a0 a1 a2, Le (fRec a0 a1 a2) (fRec' a0 a1 a2)) (p0 : Tr37) (p1 : Int) (p2 : Int × (Int × Int × Int × Int)) : Le (Be fRec p0 p1 p2) (Be fRec' p0 p1 p2) := by
  unfold Be
  repeat' with_reducible (first | refine Le.orR' ?_ ?_ | refine Le.bind' ?_ ?_ | refine Le.ite' ?_ ?_ | refine Le.loopM ?_ | refine Le.altS' ?_ ?_ | exact hfRec | exact hfRec _ _ _ | apply Jz | apply J4 | exact Le.rfl' _ | (refine Le.pi2 ?_; intro _) | intro _)
def Ge (nE : Nat) : Nat → Tr37 → Int → (Int × (Int × Int × Int × Int)) → Option (List (Int × (Int × Int × Int × Int)))
  | 0 => fun _ _ _ => none
  | n + 1 => FZ nE (Ge nE n)
theorem Hv (nE : Nat) : ∀ (m : Nat) a0 a1 a2, Le (Ge nE m a0 a1 a2) (Az m a0 a1 a2)
  | 0, a0, a1, a2 => fun _ h => nomatch h
  | m + 1, a0, a1, a2 => JD nE (Hv nE m) a0 a1 a2
theorem F1 : ∀ (m : Nat) a0 a1 a2, Le (Az m a0 a1 a2) (Az (m + 1) a0 a1 a2)
  | 0, a0, a1, a2 => fun _ h => nomatch h
  | m + 1, a0, a1, a2 => J7 (F1 m) a0 a1 a2
def Ma (nE : Nat) (p0 : Tr37) (p1 : Int) (p2 : Int × (Int × Int × Int × Int)) : Option (List (Int × (Int × Int × Int × Int))) := Ge nE nE p0 p1 p2
theorem Lh (nE : Nat) (p0 : Tr37) (p1 : Int) (p2 : Int × (Int × Int × Int × Int)) : Le (Ma nE p0 p1 p2) (Eb p0 p1 p2) := fun r e => Dd (g := fun n => Az n p0 p1 p2) (fun n r h => F1 n p0 p1 p2 r h) (n := nE) (Hv nE nE p0 p1 p2 r e)
def HF (nE : Nat) (fRec_pred_Text : Tr34 → Option (List UInt8)) (p0 : List Tr34) : (List (List UInt8) × Int) → Option ((List (List UInt8) × Int) ⊕ (List (List UInt8)))
  | (x2, x3) => (if x3 < (p0.length : Int) then (ix p0 x3).bind fun x4 => (fRec_pred_Text x4).bind fun x5 => (if (decide (x4.un.1 = 5) || decide (x4.un.1 = 6)) = true then (HG ([40] : List UInt8) x5).bind fun x7 => (HG x7 ([41] : List UInt8)).bind fun x8 => some x8 else some x5).bind fun x6 => (HG x2 ([x6] : List (List UInt8))).bind fun x9 => some (.inl (x9, AO (x3 + 1))) else some (.inr x2))
theorem M8 (nE : Nat) {fRec_pred_Text fRec_pred_Text' : Tr34 → Option (List UInt8)} (hfRec_pred_Text : ∀ a0, Le (fRec_pred_Text a0) (fRec_pred_Text' a0)) (p0 : List Tr34) : ∀ s, Le (HF nE fRec_pred_Text p0 s) (DR fRec_pred_Text' p0 s) := by
  rintro ⟨x2, x3⟩
  unfold HF DR
  repeat' with_reducible (first | refine Le.orR' ?_ ?_ | refine Le.bind' ?_ ?_ | refine Le.ite' ?_ ?_ | refine Le.loop' ?_ | refine Le.altS' ?_ ?_ | exact hfRec_pred_Text | exact hfRec_pred_Text _ | exact Le.rfl' _ | (refine Le.pi2 ?_; intro _) | intro _)
theorem MK {fRec_pred_Text fRec_pred_Text' : Tr34 → Option (List UInt8)} (hfRec_pred_Text : ∀ a0, Le (fRec_pred_Text a0) (fRec_pred_Text' a0)) (p0 : List Tr34) : ∀ s, Le (DR fRec_pred_Text p0 s) (DR fRec_pred_Text' p0 s) := by
  rintro ⟨x2, x3⟩
  show Le (DR fRec_pred_Text p0 (x2, x3)) (DR fRec_pred_Text' p0 (x2, x3))
  unfold DR
  repeat' with_reducible (first | refine Le.orR' ?_ ?_ | refine Le.bind' ?_ ?_ | refine Le.ite' ?_ ?_ | refine Le.loopM ?_ | refine Le.altS' ?_ ?_ | exact hfRec_pred_Text | exact hfRec_pred_Text _ | exact Le.rfl' _ | (refine Le.pi2 ?_; intro _) | intro _)
def Hi (nE : Nat) (fRec_pred_Text : Tr34 → Option (List UInt8)) (p0 : List Tr34) (p1 : List UInt8) : Option (List UInt8) := (Id nE (HF nE fRec_pred_Text p0) ([], 0)).bind fun x1 => (Ky x1 p1).bind fun x10 => some x10
theorem PU (nE : Nat) {fRec_pred_Text fRec_pred_Text' : Tr34 → Option (List UInt8)} (hfRec_pred_Text : ∀ a0, Le (fRec_pred_Text a0) (fRec_pred_Text' a0)) (p0 : List Tr34) (p1 : List UInt8) : Le (Hi nE fRec_pred_Text p0 p1) (Fs fRec_pred_Text' p0 p1) := by
  unfold Hi Fs
  repeat' with_reducible (first | refine Le.orR' ?_ ?_ | refine Le.bind' ?_ ?_ | refine Le.ite' ?_ ?_ | refine Le.loop' ?_ | refine Le.altS' ?_ ?_ | exact hfRec_pred_Text | exact hfRec_pred_Text _ | apply M8 | exact Le.rfl' _ | (refine Le.pi2 ?_; intro _) | intro _)
theorem Pt {fRec_pred_Text fRec_pred_Text' : Tr34 → Option (List UInt8)} (hfRec_pred_Text : ∀ a0, Le (fRec_pred_Text a0) (fRec_pred_Text' a0)) (p0 : List Tr34) (p1 : List UInt8) : Le (Fs fRec_pred_Text p0 p1) (Fs fRec_pred_Text' p0 p1) := by
  unfold Fs
  repeat' with_reducible (first | refine Le.orR' ?_ ?_ | refine Le.bind' ?_ ?_ | refine Le.ite' ?_ ?_ | refine Le.loopM ?_ | refine Le.altS' ?_ ?_ | exact hfRec_pred_Text | exact hfRec_pred_Text _ | apply MK | exact Le.rfl' _ | (refine Le.pi2 ?_; intro _) | intro _)
def HE (nE : Nat) (fRec : Tr34 → Option (List UInt8)) (p0 : Tr34) : Option (List UInt8) := (if p0.un.1 = 1 then some ([116, 114, 117, 101] : List UInt8) else (if p0.un.1 = 2 then some ([102, 97, 108, 115, 101] : List UInt8) else (if p0.un.1 = 3 then (HG (EK p0.un.2.1) ([32, 61, 32] : List UInt8)).bind fun x1 => (Pb p0.un.2.2.1).bind fun x2 => (HG x1 x2).bind fun x3 => some x3 else (if p0.un.1 = 4 then ((Hi nE fRec) p0.un.2.2.2 ([] : List UInt8)).bind fun x4 => (HG ([110, 111, 116, 32] : List UInt8) x4).bind fun x5 => some x5 else (if p0.un.1 = 5 then ((Hi nE fRec) p0.un.2.2.2 ([32, 97, 110, 100, 32] : List UInt8)).bind fun x6 => some x6 else (if p0.un.1 = 6 then ((Hi nE fRec) p0.un.2.2.2 ([32, 111, 114, 32] : List UInt8)).bind fun x7 => some x7 else some ([63] : List UInt8)))))))
theorem MQ (nE : Nat) {fRec fRec' : Tr34 → Option (List UInt8)} (hfRec : ∀ a0, Le (fRec a0) (fRec' a0)) (p0 : Tr34) : Le (HE nE fRec p0) (Ep fRec' p0) := by
  unfold HE Ep
  repeat' with_reducible (first | refine Le.orR' ?_ ?_ | refine Le.bind' ?_ ?_ | refine Le.ite' ?_ ?_ | refine Le.loop' ?_ | refine Le.altS' ?_ ?_ | exact hfRec | exact hfRec _ | apply PU | exact Le.rfl' _ | (refine Le.pi2 ?_; intro _) | intro _)
theorem MW {fRec fRec' : Tr34 → Option (List UInt8)} (hfRec : ∀ a0, Le (fRec a0) (fRec' a0)) (p0 : Tr34) : Le (Ep fRec p0) (Ep fRec' p0) := by
  unfold Ep
  repeat' with_reducible (first | refine Le.orR' ?_ ?_ | refine Le.bind' ?_ ?_ | refine Le.ite' ?_ ?_ | refine Le.loopM ?_ | refine Le.altS' ?_ ?_ | exact hfRec | exact hfRec _ | apply Pt | exact Le.rfl' _ | (refine Le.pi2 ?_; intro _) | intro _)
def Ik (nE : Nat) : Nat → Tr34 → Option (List UInt8)
  | 0 => fun _ => none
  | n + 1 => HE nE (Ik nE n)
theorem JN (nE : Nat) : ∀ (m : Nat) a0, Le (Ik nE m a0) (EZ m a0)
  | 0, a0 => fun _ h => nomatch h
  | m + 1, a0 => MQ nE (JN nE m) a0
theorem JY : ∀ (m : Nat) a0, Le (EZ m a0) (EZ (m + 1) a0)
  | 0, a0 => fun _ h => nomatch h
  | m + 1, a0 => MW (JY m) a0
def J3 (nE : Nat) (p0 : Tr34) : Option (List UInt8) := Ik nE nE p0
theorem Lw (nE : Nat) (p0 : Tr34) : Le (J3 nE p0) (Km p0) := fun r e => Dd (g := fun n => EZ n p0) (fun n r h => JY n p0 r h) (n := nE) (JN nE nE p0 r e)
def FT (nE : Nat) (p0 : Tr34) : Option (List UInt8) := (if p0.un.1 = 1 then some ([105, 100] : List UInt8) else (if p0.un.1 = 2 then some ([100, 114, 111, 112] : List UInt8) else (J3 nE p0).bind fun x1 => (HG ([119, 104, 101, 110, 32] : List UInt8) x1).bind fun x2 => some x2))
theorem J2 (nE : Nat) (p0 : Tr34) : Le (FT nE p0) (Ev p0) := by
  unfold FT Ev
  repeat' with_reducible (first | refine Le.orR' ?_ ?_ | refine Le.bind' ?_ ?_ | refine Le.ite' ?_ ?_ | refine Le.loop' ?_ | refine Le.altS' ?_ ?_ | apply Lw | exact Le.rfl' _ | (refine Le.pi2 ?_; intro _) | intro _)
def Fd (nE : Nat) (fRec_policy_Text : Tr37 → Option (List UInt8)) (p0 : List Tr37) : (List (List UInt8) × Int) → Option ((List (List UInt8) × Int) ⊕ (List (List UInt8)))
  | (x2, x3) => (if x3 < (p0.length : Int) then (ix p0 x3).bind fun x4 => (fRec_policy_Text (Tr37.of (x4.un.1, Tr34.of (x4.un.2.1.un.1, x4.un.2.1.un.2.1, x4.un.2.1.un.2.2.1, x4.un.2.1.un.2.2.2), x4.un.2.2.1, x4.un.2.2.2.1, x4.un.2.2.2.2))).bind fun x5 => (if (decide (x4.un.1 = 3) || (decide (x4.un.1 = 4) || decide (x4.un.1 = 5))) = true then (HG ([40] : List UInt8) x5).bind fun x7 => (HG x7 ([41] : List UInt8)).bind fun x8 => some x8 else some x5).bind fun x6 => (HG x2 ([x6] : List (List UInt8))).bind fun x9 => some (.inl (x9, AO (x3 + 1))) else some (.inr x2))
theorem IX (nE : Nat) {fRec_policy_Text fRec_policy_Text' : Tr37 → Option (List UInt8)} (hfRec_policy_Text : ∀ a0, Le (fRec_policy_Text a0) (fRec_policy_Text' a0)) (p0 : List Tr37) : ∀ s, Le (Fd nE fRec_policy_Text p0 s) (Cr fRec_policy_Text' p0 s) := by
  rintro ⟨x2, x3⟩
  unfold Fd Cr
  repeat' with_reducible (first | refine Le.orR' ?_ ?_ | refine Le.bind' ?_ ?_ | refine Le.ite' ?_ ?_ | refine Le.loop' ?_ | refine Le.altS' ?_ ?_ | exact hfRec_policy_Text | exact hfRec_policy_Text _ | exact Le.rfl' _ | (refine Le.pi2 ?_; intro _) | intro _)
theorem IU {fRec_policy_Text fRec_policy_Text' : Tr37 → Option (List UInt8)} (hfRec_policy_Text : ∀ a0, Le (fRec_policy_Text a0) (fRec_policy_Text' a0)) (p0 : List Tr37) : ∀ s, Le (Cr fRec_policy_Text p0 s) (Cr fRec_policy_Text' p0 s) := by
  rintro ⟨x2, x3⟩
  show Le (Cr fRec_policy_Text p0 (x2, x3)) (Cr fRec_policy_Text' p0 (x2, x3))
  unfold Cr
  repeat' with_reducible (first | refine Le.orR' ?_ ?_ | refine Le.bind' ?_ ?_ | refine Le.ite' ?_ ?_ | refine Le.loopM ?_ | refine Le.altS' ?_ ?_ | exact hfRec_policy_Text | exact hfRec_policy_Text _ | exact Le.rfl' _ | (refine Le.pi2 ?_; intro _) | intro _)
def DN (nE : Nat) (fRec_policy_Text : Tr37 → Option (List UInt8)) (p0 : List Tr37) : Option (List (List UInt8)) := (Id nE (Fd nE fRec_policy_Text p0) ([], 0)).bind fun x1 => some x1
theorem JR (nE : Nat) {fRec_policy_Text fRec_policy_Text' : Tr37 → Option (List UInt8)} (hfRec_policy_Text : ∀ a0, Le (fRec_policy_Text a0) (fRec_policy_Text' a0)) (p0 : List Tr37) : Le (DN nE fRec_policy_Text p0) (CL fRec_policy_Text' p0) := by
  unfold DN CL
  repeat' with_reducible (first | refine Le.orR' ?_ ?_ | refine Le.bind' ?_ ?_ | refine Le.ite' ?_ ?_ | refine Le.loop' ?_ | refine Le.altS' ?_ ?_ | exact hfRec_policy_Text | exact hfRec_policy_Text _ | apply IX | exact Le.rfl' _ | (refine Le.pi2 ?_; intro _) | intro _)
theorem JK {fRec_policy_Text fRec_policy_Text' : Tr37 → Option (List UInt8)} (hfRec_policy_Text : ∀ a0, Le (fRec_policy_Text a0) (fRec_policy_Text' a0)) (p0 : List Tr37) : Le (CL fRec_policy_Text p0) (CL fRec_policy_Text' p0) := by
  unfold CL
  repeat' with_reducible (first | refine Le.orR' ?_ ?_ | refine Le.bind' ?_ ?_ | refine Le.ite' ?_ ?_ | refine Le.loopM ?_ | refine Le.altS' ?_ ?_ | exact hfRec_policy_Text | exact hfRec_policy_Text _ | apply IU | exact Le.rfl' _ | (refine Le.pi2 ?_; intro _) | intro _)
def Ha (nE : Nat) (fRec : Tr37 → Option (List UInt8)) (p0 : Tr37) : Option (List UInt8) := (if p0.un.1 = 1 then (FT nE (Tr34.of (p0.un.2.1.un.1, p0.un.2.1.un.2.1, p0.un.2.1.un.2.2.1, p0.un.2.1.un.2.2.2))).bind fun x1 => some x1 else (if p0.un.1 = 2 then (HG (D0 p0.un.2.2.1) ([32, 58, 61, 32] : List UInt8)).bind fun x2 => (Pb p0.un.2.2.2.1).bind fun x3 => (HG x2 x3).bind fun x4 => some x4 else (if p0.un.1 = 3 then ((DN nE fRec) p0.un.2.2.2.2).bind fun x5 => (Ky x5 ([59, 32] : List UInt8)).bind fun x6 => some x6 else (if p0.un.1 = 4 then ((DN nE fRec) p0.un.2.2.2.2).bind fun x7 => (Ky x7 ([32, 124, 32] : List UInt8)).bind fun x8 => some x8 else (if p0.un.1 = 5 then (J3 nE (Tr34.of (p0.un.2.1.un.1, p0.un.2.1.un.2.1, p0.un.2.1.un.2.2.1, p0.un.2.1.un.2.2.2))).bind fun x9 => (HG ([105, 102, 32] : List UInt8) x9).bind fun x10 => (HG x10 ([32, 116, 104, 101, 110, 32] : List UInt8)).bind fun x11 => ((DN nE fRec) p0.un.2.2.2.2).bind fun x12 => (Ky x12 ([32, 101, 108, 115, 101, 32] : List UInt8)).bind fun x13 => (HG x11 x13).bind fun x14 => some x14 else some ([63] : List UInt8))))))
theorem Lx (nE : Nat) {fRec fRec' : Tr37 → Option (List UInt8)} (hfRec : ∀ a0, Le (fRec a0) (fRec' a0)) (p0 : Tr37) : Le (Ha nE fRec p0) (DC fRec' p0) := by
  unfold Ha DC
  repeat' with_reducible (first | refine Le.orR' ?_ ?_ | refine Le.bind' ?_ ?_ | refine Le.ite' ?_ ?_ | refine Le.loop' ?_ | refine Le.altS' ?_ ?_ | exact hfRec | exact hfRec _ | apply Lw | apply J2 | apply JR | exact Le.rfl' _ | (refine Le.pi2 ?_; intro _) | intro _)
theorem LB {fRec fRec' : Tr37 → Option (List UInt8)} (hfRec : ∀ a0, Le (fRec a0) (fRec' a0)) (p0 : Tr37) : Le (DC fRec p0) (DC fRec' p0) := by
  unfold DC
  repeat' with_reducible (first | refine Le.orR' ?_ ?_ | refine Le.bind' ?_ ?_ | refine Le.ite' ?_ ?_ | refine Le.loopM ?_ | refine Le.altS' ?_ ?_ | exact hfRec | exact hfRec _ | apply JK | exact Le.rfl' _ | (refine Le.pi2 ?_; intro _) | intro _)
def Hl (nE : Nat) : Nat → Tr37 → Option (List UInt8)
  | 0 => fun _ => none
  | n + 1 => Ha nE (Hl nE n)
theorem IY (nE : Nat) : ∀ (m : Nat) a0, Le (Hl nE m a0) (DW m a0)
  | 0, a0 => fun _ h => nomatch h
  | m + 1, a0 => Lx nE (IY nE m) a0
theorem I7 : ∀ (m : Nat) a0, Le (DW m a0) (DW (m + 1) a0)
  | 0, a0 => fun _ h => nomatch h
  | m + 1, a0 => LB (I7 m) a0
def OS (nE : Nat) (p0 : Tr37) : Option (List UInt8) := Hl nE nE p0
theorem NY (nE : Nat) (p0 : Tr37) : Le (OS nE p0) (Hd p0) := fun r e => Dd (g := fun n => DW n p0) (fun n r h => I7 n p0 r h) (n := nE) (IY nE nE p0 r e)
def BK (nE : Nat) (fRec_pred_Same : Tr34 → Tr34 → Option Bool) (p0 : List Tr34) (p1 : List Tr34) : Int → Option (Int ⊕ (Unit ⊕ Bool))
  | x1 => (if x1 < (p0.length : Int) then (ix p0 x1).bind fun x2 => (ix p1 x1).bind fun x3 => (fRec_pred_Same x2 x3).bind fun x4 => (if (!x4) = true then some (.inr (.inr false)) else some (.inl (AO (x1 + 1)))) else some (.inr (.inl ())))
theorem Dj (nE : Nat) {fRec_pred_Same fRec_pred_Same' : Tr34 → Tr34 → Option Bool} (hfRec_pred_Same : ∀ a0 a1, Le (fRec_pred_Same a0 a1) (fRec_pred_Same' a0 a1)) (p0 : List Tr34) (p1 : List Tr34) : ∀ s, Le (BK nE fRec_pred_Same p0 p1 s) (AB fRec_pred_Same' p0 p1 s) := by
  intro x1
  unfold BK AB
  repeat' with_reducible (first | refine Le.orR' ?_ ?_ | refine Le.bind' ?_ ?_ | refine Le.ite' ?_ ?_ | refine Le.loop' ?_ | refine Le.altS' ?_ ?_ | exact hfRec_pred_Same | exact hfRec_pred_Same _ _ | exact Le.rfl' _ | (refine Le.pi2 ?_; intro _) | intro _)
theorem Do {fRec_pred_Same fRec_pred_Same' : Tr34 → Tr34 → Option Bool} (hfRec_pred_Same : ∀ a0 a1, Le (fRec_pred_Same a0 a1) (fRec_pred_Same' a0 a1)) (p0 : List Tr34) (p1 : List Tr34) : ∀ s, Le (AB fRec_pred_Same p0 p1 s) (AB fRec_pred_Same' p0 p1 s) := by
  intro x1
  unfold AB
  repeat' with_reducible (first | refine Le.orR' ?_ ?_ | refine Le.bind' ?_ ?_ | refine Le.ite' ?_ ?_ | refine Le.loopM ?_ | refine Le.altS' ?_ ?_ | exact hfRec_pred_Same | exact hfRec_pred_Same _ _ | exact Le.rfl' _ | (refine Le.pi2 ?_; intro _) | intro _)
def BU (nE : Nat) (fRec_pred_Same : Tr34 → Tr34 → Option Bool) (p0 : List Tr34) (p1 : List Tr34) : Option Bool := (if (p0.length : Int) ≠ (p1.length : Int) then some false else Ko (Id nE (BK nE fRec_pred_Same p0 p1) 0) fun _ => some true)
theorem Dt (nE : Nat) {fRec_pred_Same fRec_pred_Same' : Tr34 → Tr34 → Option Bool} (hfRec_pred_Same : ∀ a0 a1, Le (fRec_pred_Same a0 a1) (fRec_pred_Same' a0 a1)) (p0 : List Tr34) (p1 : List Tr34) : Le (BU nE fRec_pred_Same p0 p1) (Aw fRec_pred_Same' p0 p1) := by
  unfold BU Aw
  repeat' with_reducible (first | refine Le.orR' ?_ ?_ | refine Le.bind' ?_ ?_ | refine Le.ite' ?_ ?_ | refine Le.loop' ?_ | refine Le.altS' ?_ ?_ | exact hfRec_pred_Same | exact hfRec_pred_Same _ _ | apply Dj | exact Le.rfl' _ | (refine Le.pi2 ?_; intro _) | intro _)
theorem Ds {fRec_pred_Same fRec_pred_Same' : Tr34 → Tr34 → Option Bool} (hfRec_pred_Same : ∀ a0 a1, Le (fRec_pred_Same a0 a1) (fRec_pred_Same' a0 a1)) (p0 : List Tr34) (p1 : List Tr34) : Le (Aw fRec_pred_Same p0 p1) (Aw fRec_pred_Same' p0 p1) := by
  unfold Aw
  repeat' with_reducible (first | refine Le.orR' ?_ ?_ | refine Le.bind' ?_ ?_ | refine Le.ite' ?_ ?_ | refine Le.loopM ?_ | refine Le.altS' ?_ ?_ | exact hfRec_pred_Same | exact hfRec_pred_Same _ _ | apply Do | exact Le.rfl' _ | (refine Le.pi2 ?_; intro _) | intro _)
def HY (nE : Nat) (fRec : Tr34 → Tr34 → Option Bool) (p0 : Tr34) (p1 : Tr34) : Option Bool := (if p0.un.1 = p1.un.1 then (if p0.un.2.1 = p1.un.2.1 then (if p0.un.2.2.1 = p1.un.2.2.1 then ((BU nE fRec) p0.un.2.2.2 p1.un.2.2.2).bind fun x2 => some x2 else some false) else some false) else some false).bind fun x1 => some x1
theorem M0 (nE : Nat) {fRec fRec' : Tr34 → Tr34 → Option Bool} (hfRec : ∀ a0 a1, Le (fRec a0 a1) (fRec' a0 a1)) (p0 : Tr34) (p1 : Tr34) : Le (HY nE fRec p0 p1) (Er fRec' p0 p1) := by
  unfold HY Er
  repeat' with_reducible (first | refine Le.orR' ?_ ?_ | refine Le.bind' ?_ ?_ | refine Le.ite' ?_ ?_ | refine Le.loop' ?_ | refine Le.altS' ?_ ?_ | exact hfRec | exact hfRec _ _ | apply Dt | exact Le.rfl' _ | (refine Le.pi2 ?_; intro _) | intro _)
theorem MR {fRec fRec' : Tr34 → Tr34 → Option Bool} (hfRec : ∀ a0 a1, Le (fRec a0 a1) (fRec' a0 a1)) (p0 : Tr34) (p1 : Tr34) : Le (Er fRec p0 p1) (Er fRec' p0 p1) := by
  unfold Er
  repeat' with_reducible (first | refine Le.orR' ?_ ?_ | refine Le.bind' ?_ ?_ | refine Le.ite' ?_ ?_ | refine Le.loopM ?_ | refine Le.altS' ?_ ?_ | exact hfRec | exact hfRec _ _ | apply Ds | exact Le.rfl' _ | (refine Le.pi2 ?_; intro _) | intro _)
def Io (nE : Nat) : Nat → Tr34 → Tr34 → Option Bool
  | 0 => fun _ _ => none
  | n + 1 => HY nE (Io nE n)
theorem Kc (nE : Nat) : ∀ (m : Nat) a0 a1, Le (Io nE m a0 a1) (EX m a0 a1)
  | 0, a0, a1 => fun _ h => nomatch h
  | m + 1, a0, a1 => M0 nE (Kc nE m) a0 a1
theorem JL : ∀ (m : Nat) a0 a1, Le (EX m a0 a1) (EX (m + 1) a0 a1)
  | 0, a0, a1 => fun _ h => nomatch h
  | m + 1, a0, a1 => MR (JL m) a0 a1
def Mx (nE : Nat) (p0 : Tr34) (p1 : Tr34) : Option Bool := Io nE nE p0 p1
theorem Pq (nE : Nat) (p0 : Tr34) (p1 : Tr34) : Le (Mx nE p0 p1) (Mn p0 p1) := fun r e => Dd (g := fun n => EX n p0 p1) (fun n r h => JL n p0 p1 r h) (n := nE) (Kc nE nE p0 p1 r e)
def F9 (nE : Nat) (p0 : Tr34) : Option Bool := (Mx nE p0 (Tr34.of (0, 0, 0, ([] : List Tr34)))).bind fun x1 => some x1
theorem Me (nE : Nat) (p0 : Tr34) : Le (F9 nE p0) (Ft p0) := by
  unfold F9 Ft
  repeat' with_reducible (first | refine Le.orR' ?_ ?_ | refine Le.bind' ?_ ?_ | refine Le.ite' ?_ ?_ | refine Le.loop' ?_ | refine Le.altS' ?_ ?_ | apply Pq | exact Le.rfl' _ | (refine Le.pi2 ?_; intro _) | intro _)
def Jh (nE : Nat) (p0 : Int) : Option Int := (if (decide (p0 = 4) || decide (p0 = 5)) = true then some 7 else (Hw nE p0).bind fun x1 => some x1)
theorem Mz (nE : Nat) (p0 : Int) : Le (Jh nE p0) (Ja p0) := by
  unfold Jh Ja
  repeat' with_reducible (first | refine Le.orR' ?_ ?_ | refine Le.bind' ?_ ?_ | refine Le.ite' ?_ ?_ | refine Le.loop' ?_ | refine Le.altS' ?_ ?_ | apply KL | exact Le.rfl' _ | (refine Le.pi2 ?_; intro _) | intro _)
def Iq (nE : Nat) (p0 : Tr37) : Option Bool := (if p0.un.1 = 2 then ((F9 nE (Tr34.of (p0.un.2.1.un.1, p0.un.2.1.un.2.1, p0.un.2.1.un.2.2.1, p0.un.2.1.un.2.2.2))).bind fun x2 => (if x2 = true then (if (p0.un.2.2.2.2.length : Int) = 0 then (if 0 ≤ p0.un.2.2.1 then (if p0.un.2.2.1 ≤ 4 then (if 0 ≤ p0.un.2.2.2.1 then (Jh nE p0.un.2.2.1).bind fun x3 => some (decide (p0.un.2.2.2.1 ≤ x3)) else some false) else some false) else some false) else some false) else some false)).bind fun x1 => some x1 else (if (decide (p0.un.2.2.1 ≠ 0) || decide (p0.un.2.2.2.1 ≠ 0)) = true then some false else (if p0.un.1 = 1 then some (decide ((p0.un.2.2.2.2.length : Int) = 0)) else (if p0.un.1 = 3 then some true else some (decide (p0.un.1 = 4))).bind fun x4 => (if x4 = true then ((F9 nE (Tr34.of (p0.un.2.1.un.1, p0.un.2.1.un.2.1, p0.un.2.1.un.2.2.1, p0.un.2.1.un.2.2.2))).bind fun x6 => (if x6 = true then (if 2 ≤ (p0.un.2.2.2.2.length : Int) then some (decide ((p0.un.2.2.2.2.length : Int) ≤ 8)) else some false) else some false)).bind fun x5 => some x5 else (if p0.un.1 = 5 then some (decide ((p0.un.2.2.2.2.length : Int) = 2)) else some false)))))
theorem Nx (nE : Nat) (p0 : Tr37) : Le (Iq nE p0) (Hf p0) := by
  unfold Iq Hf
  repeat' with_reducible (first | refine Le.orR' ?_ ?_ | refine Le.bind' ?_ ?_ | refine Le.ite' ?_ ?_ | refine Le.loop' ?_ | refine Le.altS' ?_ ?_ | apply Me | apply Mz | exact Le.rfl' _ | (refine Le.pi2 ?_; intro _) | intro _)
def Jy (nE : Nat) (p0 : Tr34) : Option Bool := (if p0.un.1 = 3 then (if (C7 p0.un.2.1) = true then (if 0 ≤ p0.un.2.2.1 then (Jh nE p0.un.2.1).bind fun x2 => (if p0.un.2.2.1 ≤ x2 then some (decide ((p0.un.2.2.2.length : Int) = 0)) else some false) else some false) else some false).bind fun x1 => some x1 else (if (decide (p0.un.2.1 ≠ 0) || decide (p0.un.2.2.1 ≠ 0)) = true then some false else (if p0.un.1 = 1 then some true else some (decide (p0.un.1 = 2))).bind fun x3 => (if x3 = true then some (decide ((p0.un.2.2.2.length : Int) = 0)) else (if p0.un.1 = 4 then some (decide ((p0.un.2.2.2.length : Int) = 1)) else (if p0.un.1 = 5 then some true else some (decide (p0.un.1 = 6))).bind fun x4 => (if x4 = true then some (decide (2 ≤ (p0.un.2.2.2.length : Int)) && decide ((p0.un.2.2.2.length : Int) ≤ 8)) else some false)))))
theorem Pr (nE : Nat) (p0 : Tr34) : Le (Jy nE p0) (I3 p0) := by
  unfold Jy I3
  repeat' with_reducible (first | refine Le.orR' ?_ ?_ | refine Le.bind' ?_ ?_ | refine Le.ite' ?_ ?_ | refine Le.loop' ?_ | refine Le.altS' ?_ ?_ | apply Mz | exact Le.rfl' _ | (refine Le.pi2 ?_; intro _) | intro _)
def EI (nE : Nat) (fRec : Int → Tr34 → Int → Option (Bool × Int)) (p1 : Tr34) (p2 : Int) : (Int × Int) → Option ((Int × Int) ⊕ (Int ⊕ (Bool × Int)))
  | (x4, x5) => (if x4 < (p1.un.2.2.2.length : Int) then (ix p1.un.2.2.2 x4).bind fun x6 => (fRec x5 x6 (AO (p2 - 1))).bind fun x7 => (if (!x7.1) = true then some (.inr (.inr (false, x7.2))) else some (.inl (AO (x4 + 1), x7.2))) else some (.inr (.inl x5)))
theorem Ir (nE : Nat) {fRec fRec' : Int → Tr34 → Int → Option (Bool × Int)} (hfRec : ∀ a0 a1 a2, Le (fRec a0 a1 a2) (fRec' a0 a1 a2)) (p1 : Tr34) (p2 : Int) : ∀ s, Le (EI nE fRec p1 p2 s) (Ci fRec' p1 p2 s) := by
  rintro ⟨x4, x5⟩
  unfold EI Ci
  repeat' with_reducible (first | refine Le.orR' ?_ ?_ | refine Le.bind' ?_ ?_ | refine Le.ite' ?_ ?_ | refine Le.loop' ?_ | refine Le.altS' ?_ ?_ | exact hfRec | exact hfRec _ _ _ | exact Le.rfl' _ | (refine Le.pi2 ?_; intro _) | intro _)
theorem Iy {fRec fRec' : Int → Tr34 → Int → Option (Bool × Int)} (hfRec : ∀ a0 a1 a2, Le (fRec a0 a1 a2) (fRec' a0 a1 a2)) (p1 : Tr34) (p2 : Int) : ∀ s, Le (Ci fRec p1 p2 s) (Ci fRec' p1 p2 s) := by
  rintro ⟨x4, x5⟩
  show Le (Ci fRec p1 p2 (x4, x5)) (Ci fRec' p1 p2 (x4, x5))
  unfold Ci
  repeat' with_reducible (first | refine Le.orR' ?_ ?_ | refine Le.bind' ?_ ?_ | refine Le.ite' ?_ ?_ | refine Le.loopM ?_ | refine Le.altS' ?_ ?_ | exact hfRec | exact hfRec _ _ _ | exact Le.rfl' _ | (refine Le.pi2 ?_; intro _) | intro _)
def EN (nE : Nat) (fRec : Int → Tr34 → Int → Option (Bool × Int)) (p0 : Int) (p1 : Tr34) (p2 : Int) : Option (Bool × Int) := (if (AO (p0 - 1)) < 0 then some true else (if p2 < 1 then some true else (Jy nE p1).bind fun x2 => some (!x2))).bind fun x1 => (if x1 = true then some (false, AO (p0 - 1)) else Ko (Id nE (EI nE fRec p1 p2) (0, AO (p0 - 1))) fun x3 => some (true, x3))
theorem Iv (nE : Nat) {fRec fRec' : Int → Tr34 → Int → Option (Bool × Int)} (hfRec : ∀ a0 a1 a2, Le (fRec a0 a1 a2) (fRec' a0 a1 a2)) (p0 : Int) (p1 : Tr34) (p2 : Int) : Le (EN nE fRec p0 p1 p2) (CA fRec' p0 p1 p2) := by
  unfold EN CA
  repeat' with_reducible (first | refine Le.orR' ?_ ?_ | refine Le.bind' ?_ ?_ | refine Le.ite' ?_ ?_ | refine Le.loop' ?_ | refine Le.altS' ?_ ?_ | exact hfRec | exact hfRec _ _ _ | apply Pr | apply Ir | exact Le.rfl' _ | (refine Le.pi2 ?_; intro _) | intro _)
theorem IE {fRec fRec' : Int → Tr34 → Int → Option (Bool × Int)} (hfRec : ∀ a0 a1 a2, Le (fRec a0 a1 a2) (fRec' a0 a1 a2)) (p0 : Int) (p1 : Tr34) (p2 : Int) : Le (CA fRec p0 p1 p2) (CA fRec' p0 p1 p2) := by
  unfold CA
  repeat' with_reducible (first | refine Le.orR' ?_ ?_ | refine Le.bind' ?_ ?_ | refine Le.ite' ?_ ?_ | refine Le.loopM ?_ | refine Le.altS' ?_ ?_ | exact hfRec | exact hfRec _ _ _ | apply Iy | exact Le.rfl' _ | (refine Le.pi2 ?_; intro _) | intro _)
def Fb (nE : Nat) : Nat → Int → Tr34 → Int → Option (Bool × Int)
  | 0 => fun _ _ _ => none
  | n + 1 => EN nE (Fb nE n)
theorem Gy (nE : Nat) : ∀ (m : Nat) a0 a1 a2, Le (Fb nE m a0 a1 a2) (CQ m a0 a1 a2)
  | 0, a0, a1, a2 => fun _ h => nomatch h
  | m + 1, a0, a1, a2 => Iv nE (Gy nE m) a0 a1 a2
theorem Gs : ∀ (m : Nat) a0 a1 a2, Le (CQ m a0 a1 a2) (CQ (m + 1) a0 a1 a2)
  | 0, a0, a1, a2 => fun _ h => nomatch h
  | m + 1, a0, a1, a2 => IE (Gs m) a0 a1 a2
def Hg (nE : Nat) (p0 : Int) (p1 : Tr34) (p2 : Int) : Option (Bool × Int) := Fb nE nE p0 p1 p2
theorem Jw (nE : Nat) (p0 : Int) (p1 : Tr34) (p2 : Int) : Le (Hg nE p0 p1 p2) (Gh p0 p1 p2) := fun r e => Dd (g := fun n => CQ n p0 p1 p2) (fun n r h => Gs n p0 p1 p2 r h) (n := nE) (Gy nE nE p0 p1 p2 r e)
def Ji (nE : Nat) (p0 : Tr34) : Option Bool := (Hg nE 64 p0 8).bind fun x1 => some x1.1
theorem OQ (nE : Nat) (p0 : Tr34) : Le (Ji nE p0) (HW p0) := by
  unfold Ji HW
  repeat' with_reducible (first | refine Le.orR' ?_ ?_ | refine Le.bind' ?_ ?_ | refine Le.ite' ?_ ?_ | refine Le.loop' ?_ | refine Le.altS' ?_ ?_ | apply Jw | exact Le.rfl' _ | (refine Le.pi2 ?_; intro _) | intro _)
def HZ (nE : Nat) (fRec : Tr34 → Option Int) (p0 : Tr34) : (Int × Int) → Option ((Int × Int) ⊕ Int)
  | (x2, x3) => (if x3 < (p0.un.2.2.2.length : Int) then (ix p0.un.2.2.2 x3).bind fun x4 => (fRec x4).bind fun x5 => some (.inl (AO (x2 + x5), AO (x3 + 1))) else some (.inr x2))
theorem MX (nE : Nat) {fRec fRec' : Tr34 → Option Int} (hfRec : ∀ a0, Le (fRec a0) (fRec' a0)) (p0 : Tr34) : ∀ s, Le (HZ nE fRec p0 s) (DT fRec' p0 s) := by
  rintro ⟨x2, x3⟩
  unfold HZ DT
  repeat' with_reducible (first | refine Le.orR' ?_ ?_ | refine Le.bind' ?_ ?_ | refine Le.ite' ?_ ?_ | refine Le.loop' ?_ | refine Le.altS' ?_ ?_ | exact hfRec | exact hfRec _ | exact Le.rfl' _ | (refine Le.pi2 ?_; intro _) | intro _)
theorem MV {fRec fRec' : Tr34 → Option Int} (hfRec : ∀ a0, Le (fRec a0) (fRec' a0)) (p0 : Tr34) : ∀ s, Le (DT fRec p0 s) (DT fRec' p0 s) := by
  rintro ⟨x2, x3⟩
  show Le (DT fRec p0 (x2, x3)) (DT fRec' p0 (x2, x3))
  unfold DT
  repeat' with_reducible (first | refine Le.orR' ?_ ?_ | refine Le.bind' ?_ ?_ | refine Le.ite' ?_ ?_ | refine Le.loopM ?_ | refine Le.altS' ?_ ?_ | exact hfRec | exact hfRec _ | exact Le.rfl' _ | (refine Le.pi2 ?_; intro _) | intro _)
def HT (nE : Nat) (fRec : Tr34 → Option Int) (p0 : Tr34) : Option Int := (Id nE (HZ nE fRec p0) (1, 0)).bind fun x1 => some x1
theorem MZ (nE : Nat) {fRec fRec' : Tr34 → Option Int} (hfRec : ∀ a0, Le (fRec a0) (fRec' a0)) (p0 : Tr34) : Le (HT nE fRec p0) (En fRec' p0) := by
  unfold HT En
  repeat' with_reducible (first | refine Le.orR' ?_ ?_ | refine Le.bind' ?_ ?_ | refine Le.ite' ?_ ?_ | refine Le.loop' ?_ | refine Le.altS' ?_ ?_ | exact hfRec | exact hfRec _ | apply MX | exact Le.rfl' _ | (refine Le.pi2 ?_; intro _) | intro _)
theorem MY {fRec fRec' : Tr34 → Option Int} (hfRec : ∀ a0, Le (fRec a0) (fRec' a0)) (p0 : Tr34) : Le (En fRec p0) (En fRec' p0) := by
  unfold En
  repeat' with_reducible (first | refine Le.orR' ?_ ?_ | refine Le.bind' ?_ ?_ | refine Le.ite' ?_ ?_ | refine Le.loopM ?_ | refine Le.altS' ?_ ?_ | exact hfRec | exact hfRec _ | apply MV | exact Le.rfl' _ | (refine Le.pi2 ?_; intro _) | intro _)
def Il (nE : Nat) : Nat → Tr34 → Option Int
  | 0 => fun _ => none
  | n + 1 => HT nE (Il nE n)
theorem Kj (nE : Nat) : ∀ (m : Nat) a0, Le (Il nE m a0) (E1 m a0)
  | 0, a0 => fun _ h => nomatch h
  | m + 1, a0 => MZ nE (Kj nE m) a0
theorem JP : ∀ (m : Nat) a0, Le (E1 m a0) (E1 (m + 1) a0)
  | 0, a0 => fun _ h => nomatch h
  | m + 1, a0 => MY (JP m) a0
def MF (nE : Nat) (p0 : Tr34) : Option Int := Il nE nE p0
theorem PN (nE : Nat) (p0 : Tr34) : Le (MF nE p0) (Mo p0) := fun r e => Dd (g := fun n => E1 n p0) (fun n r h => JP n p0 r h) (n := nE) (Kj nE nE p0 r e)
def Em (nE : Nat) (fRec : Int → Tr37 → Int → Option (Bool × Int)) (p1 : Tr37) (p2 : Int) : (Int × Int) → Option ((Int × Int) ⊕ (Int ⊕ (Bool × Int)))
  | (x7, x8) => (if x7 < (p1.un.2.2.2.2.length : Int) then (ix p1.un.2.2.2.2 x7).bind fun x9 => (fRec x8 (Tr37.of (x9.un.1, Tr34.of (x9.un.2.1.un.1, x9.un.2.1.un.2.1, x9.un.2.1.un.2.2.1, x9.un.2.1.un.2.2.2), x9.un.2.2.1, x9.un.2.2.2.1, x9.un.2.2.2.2)) (AO (p2 - 1))).bind fun x10 => (if (!x10.1) = true then some (.inr (.inr (false, x10.2))) else some (.inl (AO (x7 + 1), x10.2))) else some (.inr (.inl x8)))
theorem HN (nE : Nat) {fRec fRec' : Int → Tr37 → Int → Option (Bool × Int)} (hfRec : ∀ a0 a1 a2, Le (fRec a0 a1 a2) (fRec' a0 a1 a2)) (p1 : Tr37) (p2 : Int) : ∀ s, Le (Em nE fRec p1 p2 s) (B1 fRec' p1 p2 s) := by
  rintro ⟨x7, x8⟩
  unfold Em B1
  repeat' with_reducible (first | refine Le.orR' ?_ ?_ | refine Le.bind' ?_ ?_ | refine Le.ite' ?_ ?_ | refine Le.loop' ?_ | refine Le.altS' ?_ ?_ | exact hfRec | exact hfRec _ _ _ | exact Le.rfl' _ | (refine Le.pi2 ?_; intro _) | intro _)
theorem HH {fRec fRec' : Int → Tr37 → Int → Option (Bool × Int)} (hfRec : ∀ a0 a1 a2, Le (fRec a0 a1 a2) (fRec' a0 a1 a2)) (p1 : Tr37) (p2 : Int) : ∀ s, Le (B1 fRec p1 p2 s) (B1 fRec' p1 p2 s) := by
  rintro ⟨x7, x8⟩
  show Le (B1 fRec p1 p2 (x7, x8)) (B1 fRec' p1 p2 (x7, x8))
  unfold B1
  repeat' with_reducible (first | refine Le.orR' ?_ ?_ | refine Le.bind' ?_ ?_ | refine Le.ite' ?_ ?_ | refine Le.loopM ?_ | refine Le.altS' ?_ ?_ | exact hfRec | exact hfRec _ _ _ | exact Le.rfl' _ | (refine Le.pi2 ?_; intro _) | intro _)
def El (nE : Nat) (fRec : Int → Tr37 → Int → Option (Bool × Int)) (p0 : Int) (p1 : Tr37) (p2 : Int) : Option (Bool × Int) := (if p0 < 1 then some true else (if p2 < 1 then some true else (Iq nE (Tr37.of (p1.un.1, Tr34.of (p1.un.2.1.un.1, p1.un.2.1.un.2.1, p1.un.2.1.un.2.2.1, p1.un.2.1.un.2.2.2), p1.un.2.2.1, p1.un.2.2.2.1, p1.un.2.2.2.2))).bind fun x2 => some (!x2))).bind fun x1 => (if x1 = true then some (false, p0) else Ko (if (decide (p1.un.1 = 1) || decide (p1.un.1 = 5)) = true then (Ji nE (Tr34.of (p1.un.2.1.un.1, p1.un.2.1.un.2.1, p1.un.2.1.un.2.2.1, p1.un.2.1.un.2.2.2))).bind fun x4 => (if (!x4) = true then some (.inr (false, AO (p0 - 1))) else (MF nE (Tr34.of (p1.un.2.1.un.1, p1.un.2.1.un.2.1, p1.un.2.1.un.2.2.1, p1.un.2.1.un.2.2.2))).bind fun x5 => some (.inl (AO ((AO (p0 - 1)) - x5)))) else some (.inl (AO (p0 - 1)))) fun x3 => Ko (Id nE (Em nE fRec p1 p2) (0, x3)) fun x6 => some (decide (0 ≤ x6), x6))
theorem HU (nE : Nat) {fRec fRec' : Int → Tr37 → Int → Option (Bool × Int)} (hfRec : ∀ a0 a1 a2, Le (fRec a0 a1 a2) (fRec' a0 a1 a2)) (p0 : Int) (p1 : Tr37) (p2 : Int) : Le (El nE fRec p0 p1 p2) (Ck fRec' p0 p1 p2) := by
  unfold El Ck
  repeat' with_reducible (first | refine Le.orR' ?_ ?_ | refine Le.bind' ?_ ?_ | refine Le.ite' ?_ ?_ | refine Le.loop' ?_ | refine Le.altS' ?_ ?_ | exact hfRec | exact hfRec _ _ _ | apply Nx | apply OQ | apply PN | apply HN | exact Le.rfl' _ | (refine Le.pi2 ?_; intro _) | intro _)
theorem HX {fRec fRec' : Int → Tr37 → Int → Option (Bool × Int)} (hfRec : ∀ a0 a1 a2, Le (fRec a0 a1 a2) (fRec' a0 a1 a2)) (p0 : Int) (p1 : Tr37) (p2 : Int) : Le (Ck fRec p0 p1 p2) (Ck fRec' p0 p1 p2) := by
  unfold Ck
  repeat' with_reducible (first | refine Le.orR' ?_ ?_ | refine Le.bind' ?_ ?_ | refine Le.ite' ?_ ?_ | refine Le.loopM ?_ | refine Le.altS' ?_ ?_ | exact hfRec | exact hfRec _ _ _ | apply HH | exact Le.rfl' _ | (refine Le.pi2 ?_; intro _) | intro _)
def Ey (nE : Nat) : Nat → Int → Tr37 → Int → Option (Bool × Int)
  | 0 => fun _ _ _ => none
  | n + 1 => El nE (Ey nE n)
theorem FR (nE : Nat) : ∀ (m : Nat) a0 a1 a2, Le (Ey nE m a0 a1 a2) (Cq m a0 a1 a2)
  | 0, a0, a1, a2 => fun _ h => nomatch h
  | m + 1, a0, a1, a2 => HU nE (FR nE m) a0 a1 a2
theorem FQ : ∀ (m : Nat) a0 a1 a2, Le (Cq m a0 a1 a2) (Cq (m + 1) a0 a1 a2)
  | 0, a0, a1, a2 => fun _ h => nomatch h
  | m + 1, a0, a1, a2 => HX (FQ m) a0 a1 a2
def GK (nE : Nat) (p0 : Int) (p1 : Tr37) (p2 : Int) : Option (Bool × Int) := Ey nE nE p0 p1 p2
theorem I6 (nE : Nat) (p0 : Int) (p1 : Tr37) (p2 : Int) : Le (GK nE p0 p1 p2) (FH p0 p1 p2) := fun r e => Dd (g := fun n => Cq n p0 p1 p2) (fun n r h => FQ n p0 p1 p2 r h) (n := nE) (FR nE nE p0 p1 p2 r e)
def GP (nE : Nat) (fRec : Tr37 → Option Int) (p0 : Tr37) : (Int × Int) → Option ((Int × Int) ⊕ Int)
  | (x2, x3) => (if x3 < (p0.un.2.2.2.2.length : Int) then (ix p0.un.2.2.2.2 x3).bind fun x4 => (fRec (Tr37.of (x4.un.1, Tr34.of (x4.un.2.1.un.1, x4.un.2.1.un.2.1, x4.un.2.1.un.2.2.1, x4.un.2.1.un.2.2.2), x4.un.2.2.1, x4.un.2.2.2.1, x4.un.2.2.2.2))).bind fun x5 => some (.inl (min (AO (x2 * x5)) 1000, AO (x3 + 1))) else some (.inr x2))
theorem LS (nE : Nat) {fRec fRec' : Tr37 → Option Int} (hfRec : ∀ a0, Le (fRec a0) (fRec' a0)) (p0 : Tr37) : ∀ s, Le (GP nE fRec p0 s) (Dk fRec' p0 s) := by
  rintro ⟨x2, x3⟩
  unfold GP Dk
  repeat' with_reducible (first | refine Le.orR' ?_ ?_ | refine Le.bind' ?_ ?_ | refine Le.ite' ?_ ?_ | refine Le.loop' ?_ | refine Le.altS' ?_ ?_ | exact hfRec | exact hfRec _ | exact Le.rfl' _ | (refine Le.pi2 ?_; intro _) | intro _)
theorem LO {fRec fRec' : Tr37 → Option Int} (hfRec : ∀ a0, Le (fRec a0) (fRec' a0)) (p0 : Tr37) : ∀ s, Le (Dk fRec p0 s) (Dk fRec' p0 s) := by
  rintro ⟨x2, x3⟩
  show Le (Dk fRec p0 (x2, x3)) (Dk fRec' p0 (x2, x3))
  unfold Dk
  repeat' with_reducible (first | refine Le.orR' ?_ ?_ | refine Le.bind' ?_ ?_ | refine Le.ite' ?_ ?_ | refine Le.loopM ?_ | refine Le.altS' ?_ ?_ | exact hfRec | exact hfRec _ | exact Le.rfl' _ | (refine Le.pi2 ?_; intro _) | intro _)
def GY (nE : Nat) (fRec : Tr37 → Option Int) (p0 : Tr37) : (Int × Int) → Option ((Int × Int) ⊕ Int)
  | (x6, x7) => (if x7 < (p0.un.2.2.2.2.length : Int) then (ix p0.un.2.2.2.2 x7).bind fun x8 => (fRec (Tr37.of (x8.un.1, Tr34.of (x8.un.2.1.un.1, x8.un.2.1.un.2.1, x8.un.2.1.un.2.2.1, x8.un.2.1.un.2.2.2), x8.un.2.2.1, x8.un.2.2.2.1, x8.un.2.2.2.2))).bind fun x9 => some (.inl (min (AO (x6 + x9)) 1000, AO (x7 + 1))) else some (.inr x6))
theorem LL (nE : Nat) {fRec fRec' : Tr37 → Option Int} (hfRec : ∀ a0, Le (fRec a0) (fRec' a0)) (p0 : Tr37) : ∀ s, Le (GY nE fRec p0 s) (Dl fRec' p0 s) := by
  rintro ⟨x6, x7⟩
  unfold GY Dl
  repeat' with_reducible (first | refine Le.orR' ?_ ?_ | refine Le.bind' ?_ ?_ | refine Le.ite' ?_ ?_ | refine Le.loop' ?_ | refine Le.altS' ?_ ?_ | exact hfRec | exact hfRec _ | exact Le.rfl' _ | (refine Le.pi2 ?_; intro _) | intro _)
theorem LI {fRec fRec' : Tr37 → Option Int} (hfRec : ∀ a0, Le (fRec a0) (fRec' a0)) (p0 : Tr37) : ∀ s, Le (Dl fRec p0 s) (Dl fRec' p0 s) := by
  rintro ⟨x6, x7⟩
  show Le (Dl fRec p0 (x6, x7)) (Dl fRec' p0 (x6, x7))
  unfold Dl
  repeat' with_reducible (first | refine Le.orR' ?_ ?_ | refine Le.bind' ?_ ?_ | refine Le.ite' ?_ ?_ | refine Le.loopM ?_ | refine Le.altS' ?_ ?_ | exact hfRec | exact hfRec _ | exact Le.rfl' _ | (refine Le.pi2 ?_; intro _) | intro _)
def G0 (nE : Nat) (fRec : Tr37 → Option Int) (p0 : Tr37) : (Int × Int) → Option ((Int × Int) ⊕ Int)
  | (x10, x11) => (if x11 < (p0.un.2.2.2.2.length : Int) then (ix p0.un.2.2.2.2 x11).bind fun x12 => (fRec (Tr37.of (x12.un.1, Tr34.of (x12.un.2.1.un.1, x12.un.2.1.un.2.1, x12.un.2.1.un.2.2.1, x12.un.2.1.un.2.2.2), x12.un.2.2.1, x12.un.2.2.2.1, x12.un.2.2.2.2))).bind fun x13 => some (.inl (max x10 x13, AO (x11 + 1))) else some (.inr x10))
theorem LD (nE : Nat) {fRec fRec' : Tr37 → Option Int} (hfRec : ∀ a0, Le (fRec a0) (fRec' a0)) (p0 : Tr37) : ∀ s, Le (G0 nE fRec p0 s) (Dm fRec' p0 s) := by
  rintro ⟨x10, x11⟩
  unfold G0 Dm
  repeat' with_reducible (first | refine Le.orR' ?_ ?_ | refine Le.bind' ?_ ?_ | refine Le.ite' ?_ ?_ | refine Le.loop' ?_ | refine Le.altS' ?_ ?_ | exact hfRec | exact hfRec _ | exact Le.rfl' _ | (refine Le.pi2 ?_; intro _) | intro _)
theorem Lg {fRec fRec' : Tr37 → Option Int} (hfRec : ∀ a0, Le (fRec a0) (fRec' a0)) (p0 : Tr37) : ∀ s, Le (Dm fRec p0 s) (Dm fRec' p0 s) := by
  rintro ⟨x10, x11⟩
  show Le (Dm fRec p0 (x10, x11)) (Dm fRec' p0 (x10, x11))
  unfold Dm
  repeat' with_reducible (first | refine Le.orR' ?_ ?_ | refine Le.bind' ?_ ?_ | refine Le.ite' ?_ ?_ | refine Le.loopM ?_ | refine Le.altS' ?_ ?_ | exact hfRec | exact hfRec _ | exact Le.rfl' _ | (refine Le.pi2 ?_; intro _) | intro _)
def GW (nE : Nat) (fRec : Tr37 → Option Int) (p0 : Tr37) : Option Int := (if p0.un.1 = 3 then Id nE (GP nE fRec p0) (1, 0) else (if p0.un.1 = 4 then Id nE (GY nE fRec p0) (0, 0) else (if p0.un.1 = 5 then Id nE (G0 nE fRec p0) (0, 0) else some 1))).bind fun x1 => some x1
theorem Ln (nE : Nat) {fRec fRec' : Tr37 → Option Int} (hfRec : ∀ a0, Le (fRec a0) (fRec' a0)) (p0 : Tr37) : Le (GW nE fRec p0) (Dy fRec' p0) := by
  unfold GW Dy
  repeat' with_reducible (first | refine Le.orR' ?_ ?_ | refine Le.bind' ?_ ?_ | refine Le.ite' ?_ ?_ | refine Le.loop' ?_ | refine Le.altS' ?_ ?_ | exact hfRec | exact hfRec _ | apply LS | apply LL | apply LD | exact Le.rfl' _ | (refine Le.pi2 ?_; intro _) | intro _)
theorem Lp {fRec fRec' : Tr37 → Option Int} (hfRec : ∀ a0, Le (fRec a0) (fRec' a0)) (p0 : Tr37) : Le (Dy fRec p0) (Dy fRec' p0) := by
  unfold Dy
  repeat' with_reducible (first | refine Le.orR' ?_ ?_ | refine Le.bind' ?_ ?_ | refine Le.ite' ?_ ?_ | refine Le.loopM ?_ | refine Le.altS' ?_ ?_ | exact hfRec | exact hfRec _ | apply LO | apply LI | apply Lg | exact Le.rfl' _ | (refine Le.pi2 ?_; intro _) | intro _)
def Hn (nE : Nat) : Nat → Tr37 → Option Int
  | 0 => fun _ => none
  | n + 1 => GW nE (Hn nE n)
theorem IQ (nE : Nat) : ∀ (m : Nat) a0, Le (Hn nE m a0) (DY m a0)
  | 0, a0 => fun _ h => nomatch h
  | m + 1, a0 => Ln nE (IQ nE m) a0
theorem IJ : ∀ (m : Nat) a0, Le (DY m a0) (DY (m + 1) a0)
  | 0, a0 => fun _ h => nomatch h
  | m + 1, a0 => Lp (IJ m) a0
def KQ (nE : Nat) (p0 : Tr37) : Option Int := Hn nE nE p0
theorem JX (nE : Nat) (p0 : Tr37) : Le (KQ nE p0) (Gp p0) := fun r e => Dd (g := fun n => DY n p0) (fun n r h => IJ n p0 r h) (n := nE) (IQ nE nE p0 r e)
def J6 (nE : Nat) (p0 : Tr37) : Option Bool := ((GK nE 64 (Tr37.of (p0.un.1, Tr34.of (p0.un.2.1.un.1, p0.un.2.1.un.2.1, p0.un.2.1.un.2.2.1, p0.un.2.1.un.2.2.2), p0.un.2.2.1, p0.un.2.2.2.1, p0.un.2.2.2.2)) 8).bind fun x3 => (if x3.1 = true then (KQ nE (Tr37.of (p0.un.1, Tr34.of (p0.un.2.1.un.1, p0.un.2.1.un.2.1, p0.un.2.1.un.2.2.1, p0.un.2.1.un.2.2.2), p0.un.2.2.1, p0.un.2.2.2.1, p0.un.2.2.2.2))).bind fun x4 => some (decide (x4 ≤ 64), x3.2) else some (false, x3.2))).bind fun (x1, x2) => some x1
theorem MN (nE : Nat) (p0 : Tr37) : Le (J6 nE p0) (E4 p0) := by
  unfold J6 E4
  repeat' with_reducible (first | refine Le.orR' ?_ ?_ | refine Le.bind' ?_ ?_ | refine Le.ite' ?_ ?_ | refine Le.loop' ?_ | refine Le.altS' ?_ ?_ | apply I6 | apply JX | exact Le.rfl' _ | (refine Le.pi2 ?_; intro _) | intro _)
theorem Oi {fRec fRec' : Tr24 → Option Tr34} (hfRec : ∀ a0, Le (fRec a0) (fRec' a0)) (p0 : Tr24) : ∀ s, Le (DB fRec p0 s) (DB fRec' p0 s) := by
  rintro ⟨x2, x3⟩
  show Le (DB fRec p0 (x2, x3)) (DB fRec' p0 (x2, x3))
  unfold DB
  repeat' with_reducible (first | refine Le.orR' ?_ ?_ | refine Le.bind' ?_ ?_ | refine Le.ite' ?_ ?_ | refine Le.loopM ?_ | refine Le.altS' ?_ ?_ | exact hfRec | exact hfRec _ | exact Le.rfl' _ | (refine Le.pi2 ?_; intro _) | intro _)
theorem Nj {fRec fRec' : Tr24 → Option Tr34} (hfRec : ∀ a0, Le (fRec a0) (fRec' a0)) (p0 : Tr24) : Le (EV fRec p0) (EV fRec' p0) := by
  unfold EV
  repeat' with_reducible (first | refine Le.orR' ?_ ?_ | refine Le.bind' ?_ ?_ | refine Le.ite' ?_ ?_ | refine Le.loopM ?_ | refine Le.altS' ?_ ?_ | exact hfRec | exact hfRec _ | apply Oi | exact Le.rfl' _ | (refine Le.pi2 ?_; intro _) | intro _)
theorem KJ : ∀ (m : Nat) a0, Le (D1 m a0) (D1 (m + 1) a0)
  | 0, a0 => fun _ h => nomatch h
  | m + 1, a0 => Nj (KJ m) a0
theorem N6 {fRec fRec' : Tr27 → Option Tr37} (hfRec : ∀ a0, Le (fRec a0) (fRec' a0)) (p0 : Tr27) : ∀ s, Le (DX fRec p0 s) (DX fRec' p0 s) := by
  rintro ⟨x3, x4⟩
  show Le (DX fRec p0 (x3, x4)) (DX fRec' p0 (x3, x4))
  unfold DX
  repeat' with_reducible (first | refine Le.orR' ?_ ?_ | refine Le.bind' ?_ ?_ | refine Le.ite' ?_ ?_ | refine Le.loopM ?_ | refine Le.altS' ?_ ?_ | exact hfRec | exact hfRec _ | exact Le.rfl' _ | (refine Le.pi2 ?_; intro _) | intro _)
theorem NR {fRec fRec' : Tr27 → Option Tr37} (hfRec : ∀ a0, Le (fRec a0) (fRec' a0)) (p0 : Tr27) : Le (EQ fRec p0) (EQ fRec' p0) := by
  unfold EQ
  repeat' with_reducible (first | refine Le.orR' ?_ ?_ | refine Le.bind' ?_ ?_ | refine Le.ite' ?_ ?_ | refine Le.loopM ?_ | refine Le.altS' ?_ ?_ | exact hfRec | exact hfRec _ | apply N6 | exact Le.rfl' _ | (refine Le.pi2 ?_; intro _) | intro _)
theorem KE : ∀ (m : Nat) a0, Le (EA m a0) (EA (m + 1) a0)
  | 0, a0 => fun _ h => nomatch h
  | m + 1, a0 => NR (KE m) a0
theorem Mr {fRec fRec' : Tr34 → Option Tr24} (hfRec : ∀ a0, Le (fRec a0) (fRec' a0)) (p0 : Tr34) : ∀ s, Le (Cv fRec p0 s) (Cv fRec' p0 s) := by
  rintro ⟨x2, x3⟩
  show Le (Cv fRec p0 (x2, x3)) (Cv fRec' p0 (x2, x3))
  unfold Cv
  repeat' with_reducible (first | refine Le.orR' ?_ ?_ | refine Le.bind' ?_ ?_ | refine Le.ite' ?_ ?_ | refine Le.loopM ?_ | refine Le.altS' ?_ ?_ | exact hfRec | exact hfRec _ | exact Le.rfl' _ | (refine Le.pi2 ?_; intro _) | intro _)
theorem Md {fRec fRec' : Tr34 → Option Tr24} (hfRec : ∀ a0, Le (fRec a0) (fRec' a0)) (p0 : Tr34) : Le (Dh fRec p0) (Dh fRec' p0) := by
  unfold Dh
  repeat' with_reducible (first | refine Le.orR' ?_ ?_ | refine Le.bind' ?_ ?_ | refine Le.ite' ?_ ?_ | refine Le.loopM ?_ | refine Le.altS' ?_ ?_ | exact hfRec | exact hfRec _ | apply Mr | exact Le.rfl' _ | (refine Le.pi2 ?_; intro _) | intro _)
theorem Hp : ∀ (m : Nat) a0, Le (CE m a0) (CE (m + 1) a0)
  | 0, a0 => fun _ h => nomatch h
  | m + 1, a0 => Md (Hp m) a0
theorem Mk {fRec fRec' : Tr37 → Option Tr27} (hfRec : ∀ a0, Le (fRec a0) (fRec' a0)) (p0 : Tr37) : ∀ s, Le (CW fRec p0 s) (CW fRec' p0 s) := by
  rintro ⟨x3, x4⟩
  show Le (CW fRec p0 (x3, x4)) (CW fRec' p0 (x3, x4))
  unfold CW
  repeat' with_reducible (first | refine Le.orR' ?_ ?_ | refine Le.bind' ?_ ?_ | refine Le.ite' ?_ ?_ | refine Le.loopM ?_ | refine Le.altS' ?_ ?_ | exact hfRec | exact hfRec _ | exact Le.rfl' _ | (refine Le.pi2 ?_; intro _) | intro _)
theorem Mp {fRec fRec' : Tr37 → Option Tr27} (hfRec : ∀ a0, Le (fRec a0) (fRec' a0)) (p0 : Tr37) : Le (Di fRec p0) (Di fRec' p0) := by
  unfold Di
  repeat' with_reducible (first | refine Le.orR' ?_ ?_ | refine Le.bind' ?_ ?_ | refine Le.ite' ?_ ?_ | refine Le.loopM ?_ | refine Le.altS' ?_ ?_ | exact hfRec | exact hfRec _ | apply Mk | exact Le.rfl' _ | (refine Le.pi2 ?_; intro _) | intro _)
theorem Hq : ∀ (m : Nat) a0, Le (C1 m a0) (C1 (m + 1) a0)
  | 0, a0 => fun _ h => nomatch h
  | m + 1, a0 => Mp (Hq m) a0
end Go.Proofs.YtpckgggmgijiiaaGreatDoor
