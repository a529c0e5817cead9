/- Twins with fuel of HQ functions: what a twin answers, the function answers. Conditions: none. -/
import Derived.Test.YtgoifghhcekahaaGreatDoordLP
import Derived.Test.YtgoifghhcekahaaGreatDoordB8
namespace Go.Proofs.YtgoifghhcekahaaGreatDoor
open Go Go.RowKit
set_option linter.unusedVariables false
set_option linter.unusedSimpArgs false
set_option maxRecDepth 20000
set_option maxHeartbeats 1600000
abbrev Le {α : Type} (a b : Option α) : Prop := ∀ r, a = some r → b = some r
theorem Le.rfl' {α : Type} (a : Option α) : Le a a := fun _ h => h
theorem Le.bind' {α β : Type} {a b : Option α} {f g : α → Option β} (h : Le a b) (hf : ∀ x, Le (f x) (g x)) : Le (a.bind f) (b.bind g) := fun r e => by
  obtain ⟨x, h1, h2⟩ := Af e
  rw [h x h1, Option.bind_some]; exact hf x r h2
theorem Le.ite' {α : Type} {c : Prop} [Decidable c] {a a' b b' : Option α} (h1 : Le a a') (h2 : Le b b') : Le (if c then a else b) (if c then a' else b') := fun r e => by
  by_cases h : c
  · rw [if_pos h] at e ⊢; exact h1 r e
  · rw [if_neg h] at e ⊢; exact h2 r e
theorem Le.orR' {α β : Type} {a b : Option (α ⊕ β)} {f g : α → Option β} (h : Le a b) (hf : ∀ x, Le (f x) (g x)) : Le (HA a f) (HA b g) :=
  Le.bind' h fun x => by
    cases x with
    | inl t => exact hf t
    | inr e => exact Le.rfl' _
def OQ {σ ε : Type} (n : Nat) (step : σ → Option (σ ⊕ ε)) (s : σ) : Option ε := Hh step n s
theorem KU {σ ε : Type} {S T : σ → Option (σ ⊕ ε)} (h : ∀ s, Le (S s) (T s)) : ∀ (n : Nat) (s : σ), Le (Hh S n s) (Hh T n s)
  | 0, s => Le.rfl' _
  | n + 1, s => fun r e => by
    unfold Hh at e ⊢
    cases hs : S s with
    | none => rw [hs] at e; cases e
    | some q =>
      rw [hs] at e; rw [h s q hs]
      cases q with
      | inl s' => exact KU h n s' r e
      | inr _ => exact e
theorem Le.loop' {σ ε : Type} {n : Nat} {S T : σ → Option (σ ⊕ ε)} {s : σ} (h : ∀ s, Le (S s) (T s)) : Le (OQ n S s) (AB T s) := fun r e => FX.2 ⟨n, KU h n s r e⟩
theorem Le.pi2 {α β γ : Type} {f g : α × β → Option γ} (h : ∀ a b, Le (f (a, b)) (g (a, b))) : ∀ x, Le (f x) (g x) := fun x => h x.1 x.2
theorem Le.altS' {α β γ : Type} {y : α ⊕ β} {f f' : α → Option γ} {g g' : β → Option γ} (h : ∀ x, Le (f x) (f' x)) (k : ∀ x, Le (g x) (g' x)) : Le (YE y f g) (YE y f' g') := by
  cases y with
  | inl x => exact h x
  | inr x => exact k x
theorem CB {β : Type} {g : Nat → Option β} (hm : ∀ n r, g n = some r → g (n + 1) = some r) {n : Nat} {r : β} (h : g n = some r) : FT g = some r := by
  have up : ∀ (d m : Nat) (q : β), g m = some q → g (m + d) = some q := fun d => by
    induction d with
    | zero => exact fun m q h => h
    | succ d ih => exact fun m q h => hm _ _ (ih m q h)
  refine TF n h fun m q hq => ?_
  have h1 := up m n r h
  have h2 := up n m q hq
  rw [Nat.add_comm] at h2
  exact Option.some.inj (h2.symm.trans h1)
theorem Le.loopM {σ ε : Type} {S T : σ → Option (σ ⊕ ε)} {s : σ} (h : ∀ s, Le (S s) (T s)) : Le (AB S s) (AB T s) := fun r e => by
  obtain ⟨n, hn⟩ := FX.1 e
  exact FX.2 ⟨n, KU h n s r hn⟩
theorem NI {fRec fRec' : Tr28 → Option Int} (hfRec : ∀ a0, Le (fRec a0) (fRec' a0)) (p0 : Tr28) : ∀ s, Le (DO fRec p0 s) (DO fRec' p0 s) := by
  rintro ⟨x2, x3⟩
  show Le (DO fRec p0 (x2, x3)) (DO fRec' p0 (x2, x3))
  unfold DO
  repeat' with_reducible (first | apply Le.orR' | apply Le.bind' | apply Le.ite' | apply Le.loopM | apply Le.altS' | exact hfRec | exact hfRec _ | exact Le.rfl' _ | (refine Le.pi2 ?_; intro _) | intro _)
theorem ON {fRec fRec' : Tr28 → Option Int} (hfRec : ∀ a0, Le (fRec a0) (fRec' a0)) (p0 : Tr28) : Le (EZ fRec p0) (EZ fRec' p0) := by
  unfold EZ
  repeat' with_reducible (first | apply Le.orR' | apply Le.bind' | apply Le.ite' | apply Le.loopM | apply Le.altS' | exact hfRec | exact hfRec _ | apply NI | exact Le.rfl' _ | (refine Le.pi2 ?_; intro _) | intro _)
theorem KA : ∀ (m : Nat) a0, Le (Ej m a0) (Ej (m + 1) a0)
  | 0, a0 => fun _ h => nomatch h
  | m + 1, a0 => ON (KA m) a0
theorem N8 {fRec fRec' : Tr31 → Option Int} (hfRec : ∀ a0, Le (fRec a0) (fRec' a0)) (p0 : Tr31) : ∀ s, Le (DN fRec p0 s) (DN fRec' p0 s) := by
  rintro ⟨x4, x5⟩
  show Le (DN fRec p0 (x4, x5)) (DN fRec' p0 (x4, x5))
  unfold DN
  repeat' with_reducible (first | apply Le.orR' | apply Le.bind' | apply Le.ite' | apply Le.loopM | apply Le.altS' | exact hfRec | exact hfRec _ | exact Le.rfl' _ | (refine Le.pi2 ?_; intro _) | intro _)
theorem Og {fRec fRec' : Tr31 → Option Int} (hfRec : ∀ a0, Le (fRec a0) (fRec' a0)) (p0 : Tr31) : Le (E2 fRec p0) (E2 fRec' p0) := by
  unfold E2
  repeat' with_reducible (first | apply Le.orR' | apply Le.bind' | apply Le.ite' | apply Le.loopM | apply Le.altS' | exact hfRec | exact hfRec _ | apply N8 | exact Le.rfl' _ | (refine Le.pi2 ?_; intro _) | intro _)
theorem KN : ∀ (m : Nat) a0, Le (El m a0) (El (m + 1) a0)
  | 0, a0 => fun _ h => nomatch h
  | m + 1, a0 => Og (KN m) a0
def GO (nE : Nat) (fRec_check_Cut : Tr36 → Int → Option Tr36) (p0 : List Tr36) (p1 : Int) : (List Tr36 × Int) → Option ((List Tr36 × Int) ⊕ (List Tr36))
  | (x2, x3) => (if x3 < (p0.length : Int) then (ix p0 x3).bind fun x4 => (fRec_check_Cut x4 p1).bind fun x5 => (GP x2 ([x5] : List Tr36)).bind fun x6 => some (.inl (x6, AJ (x3 + 1))) else some (.inr x2))
theorem Lf (nE : Nat) {fRec_check_Cut fRec_check_Cut' : Tr36 → Int → Option Tr36} (hfRec_check_Cut : ∀ a0 a1, Le (fRec_check_Cut a0 a1) (fRec_check_Cut' a0 a1)) (p0 : List Tr36) (p1 : Int) : ∀ s, Le (GO nE fRec_check_Cut p0 p1 s) (Cs fRec_check_Cut' p0 p1 s) := by
  rintro ⟨x2, x3⟩
  unfold GO Cs
  repeat' with_reducible (first | apply Le.orR' | apply Le.bind' | apply Le.ite' | apply Le.loop' | apply Le.altS' | exact hfRec_check_Cut | exact hfRec_check_Cut _ _ | exact Le.rfl' _ | (refine Le.pi2 ?_; intro _) | intro _)
theorem KX {fRec_check_Cut fRec_check_Cut' : Tr36 → Int → Option Tr36} (hfRec_check_Cut : ∀ a0 a1, Le (fRec_check_Cut a0 a1) (fRec_check_Cut' a0 a1)) (p0 : List Tr36) (p1 : Int) : ∀ s, Le (Cs fRec_check_Cut p0 p1 s) (Cs fRec_check_Cut' p0 p1 s) := by
  rintro ⟨x2, x3⟩
  show Le (Cs fRec_check_Cut p0 p1 (x2, x3)) (Cs fRec_check_Cut' p0 p1 (x2, x3))
  unfold Cs
  repeat' with_reducible (first | apply Le.orR' | apply Le.bind' | apply Le.ite' | apply Le.loopM | apply Le.altS' | exact hfRec_check_Cut | exact hfRec_check_Cut _ _ | exact Le.rfl' _ | (refine Le.pi2 ?_; intro _) | intro _)
def HK (nE : Nat) (fRec_check_Cut : Tr36 → Int → Option Tr36) (p0 : List Tr36) (p1 : Int) : Option (List Tr36) := (OQ nE (GO nE fRec_check_Cut p0 p1) ([], 0)).bind fun x1 => some x1
theorem MV (nE : Nat) {fRec_check_Cut fRec_check_Cut' : Tr36 → Int → Option Tr36} (hfRec_check_Cut : ∀ a0 a1, Le (fRec_check_Cut a0 a1) (fRec_check_Cut' a0 a1)) (p0 : List Tr36) (p1 : Int) : Le (HK nE fRec_check_Cut p0 p1) (DD fRec_check_Cut' p0 p1) := by
  unfold HK DD
  repeat' with_reducible (first | apply Le.orR' | apply Le.bind' | apply Le.ite' | apply Le.loop' | apply Le.altS' | exact hfRec_check_Cut | exact hfRec_check_Cut _ _ | apply Lf | exact Le.rfl' _ | (refine Le.pi2 ?_; intro _) | intro _)
theorem M0 {fRec_check_Cut fRec_check_Cut' : Tr36 → Int → Option Tr36} (hfRec_check_Cut : ∀ a0 a1, Le (fRec_check_Cut a0 a1) (fRec_check_Cut' a0 a1)) (p0 : List Tr36) (p1 : Int) : Le (DD fRec_check_Cut p0 p1) (DD fRec_check_Cut' p0 p1) := by
  unfold DD
  repeat' with_reducible (first | apply Le.orR' | apply Le.bind' | apply Le.ite' | apply Le.loopM | apply Le.altS' | exact hfRec_check_Cut | exact hfRec_check_Cut _ _ | apply KX | exact Le.rfl' _ | (refine Le.pi2 ?_; intro _) | intro _)
def CJ (nE : Nat) (p0 : List Tr36) (p1c0 : Int) : Int → Option (Int ⊕ (Unit ⊕ Int))
  | x1 => (if x1 < (p0.length : Int) then (ix p0 x1).bind fun x2 => (if (Ec x2 p1c0) = true then some (.inr (.inr x1)) else some (.inl (AJ (x1 + 1)))) else some (.inr (.inl ())))
theorem Fk (nE : Nat) (p0 : List Tr36) (p1c0 : Int) : ∀ s, Le (CJ nE p0 p1c0 s) (Ba p0 p1c0 s) := by
  intro x1
  unfold CJ Ba
  repeat' with_reducible (first | apply Le.orR' | apply Le.bind' | apply Le.ite' | apply Le.loop' | apply Le.altS' | exact Le.rfl' _ | (refine Le.pi2 ?_; intro _) | intro _)
def CZ (nE : Nat) (p0 : List Tr36) (p1c0 : Int) : Option Int := HA (OQ nE (CJ nE p0 p1c0) 0) fun _ => some (-1)
theorem FI (nE : Nat) (p0 : List Tr36) (p1c0 : Int) : Le (CZ nE p0 p1c0) (BA p0 p1c0) := by
  unfold CZ BA
  repeat' with_reducible (first | apply Le.orR' | apply Le.bind' | apply Le.ite' | apply Le.loop' | apply Le.altS' | apply Fk | exact Le.rfl' _ | (refine Le.pi2 ?_; intro _) | intro _)
def CK (nE : Nat) (p0 : List Tr36) (p1c0 : Int) : Option Bool := (CZ nE p0 p1c0).bind fun x1 => some (decide (0 ≤ x1))
theorem Fo (nE : Nat) (p0 : List Tr36) (p1c0 : Int) : Le (CK nE p0 p1c0) (Bp p0 p1c0) := by
  unfold CK Bp
  repeat' with_reducible (first | apply Le.orR' | apply Le.bind' | apply Le.ite' | apply Le.loop' | apply Le.altS' | apply FI | exact Le.rfl' _ | (refine Le.pi2 ?_; intro _) | intro _)
def F5 (nE : Nat) (p0 : List Tr36) (p1c0 : Int) : (List Tr36 × Int) → Option ((List Tr36 × Int) ⊕ (List Tr36))
  | (x2, x3) => (if x3 < (p0.length : Int) then ((ix p0 x3).bind fun x5 => (if (Dx x5 p1c0) = true then (GP x2 ([x5] : List Tr36)).bind fun x6 => some x6 else some x2)).bind fun x4 => some (.inl (x4, AJ (x3 + 1))) else some (.inr x2))
theorem Jz (nE : Nat) (p0 : List Tr36) (p1c0 : Int) : ∀ s, Le (F5 nE p0 p1c0 s) (C5 p0 p1c0 s) := by
  rintro ⟨x2, x3⟩
  unfold F5 C5
  repeat' with_reducible (first | apply Le.orR' | apply Le.bind' | apply Le.ite' | apply Le.loop' | apply Le.altS' | exact Le.rfl' _ | (refine Le.pi2 ?_; intro _) | intro _)
def Hb (nE : Nat) (p0 : List Tr36) (p1c0 : Int) : Option (List Tr36) := (OQ nE (F5 nE p0 p1c0) ([], 0)).bind fun x1 => some x1
theorem LX (nE : Nat) (p0 : List Tr36) (p1c0 : Int) : Le (Hb nE p0 p1c0) (Ed p0 p1c0) := by
  unfold Hb Ed
  repeat' with_reducible (first | apply Le.orR' | apply Le.bind' | apply Le.ite' | apply Le.loop' | apply Le.altS' | apply Jz | exact Le.rfl' _ | (refine Le.pi2 ?_; intro _) | intro _)
def Fi (nE : Nat) (p0 : Int) (p1 : List Tr36) (p2 : Int) (p3 : Int) : Option Tr36 := (CK nE p1 p3).bind fun x1 => (if x1 = true then some (Tr36.of (p3, 0, 0, ([] : List Tr36))) else (Hb nE p1 p2).bind fun x2 => (if (x2.length : Int) = 0 then some (Tr36.of (p2, 0, 0, ([] : List Tr36))) else (if (x2.length : Int) = 1 then (ix x2 0).bind fun x3 => some x3 else some (Tr36.of (p0, 0, 0, x2)))))
theorem Kj (nE : Nat) (p0 : Int) (p1 : List Tr36) (p2 : Int) (p3 : Int) : Le (Fi nE p0 p1 p2 p3) (Di p0 p1 p2 p3) := by
  unfold Fi Di
  repeat' with_reducible (first | apply Le.orR' | apply Le.bind' | apply Le.ite' | apply Le.loop' | apply Le.altS' | apply Fo | apply LX | exact Le.rfl' _ | (refine Le.pi2 ?_; intro _) | intro _)
def HW (nE : Nat) (fRec : Tr36 → Int → Option Tr36) (p0 : Tr36) (p1 : Int) : Option Tr36 := ((HK nE fRec) p0.un.2.2.2 p1).bind fun x1 => HA (if p0.un.1 = 3 then (if p0.un.2.1 = 5 then some (.inr (Tr36.of ((AG (decide (p0.un.2.2.1 = p1))).un.1, (AG (decide (p0.un.2.2.1 = p1))).un.2.1, (AG (decide (p0.un.2.2.1 = p1))).un.2.2.1, (AG (decide (p0.un.2.2.1 = p1))).un.2.2.2))) else some (.inl ())) else (if p0.un.1 = 4 then (if (x1.length : Int) = 1 then (ix x1 0).bind fun x3 => some (decide (x3.un.1 = 1)) else some false).bind fun x2 => (if x2 = true then some (.inr (Tr36.of ((AG false).un.1, (AG false).un.2.1, (AG false).un.2.2.1, (AG false).un.2.2.2))) else (if (x1.length : Int) = 1 then (ix x1 0).bind fun x5 => some (decide (x5.un.1 = 2)) else some false).bind fun x4 => (if x4 = true then some (.inr (Tr36.of ((AG true).un.1, (AG true).un.2.1, (AG true).un.2.2.1, (AG true).un.2.2.2))) else some (.inl ()))) else (if p0.un.1 = 5 then (Fi nE p0.un.1 x1 1 2).bind fun x6 => some (.inr x6) else (if p0.un.1 = 6 then (Fi nE p0.un.1 x1 2 1).bind fun x7 => some (.inr x7) else some (.inl ()))))) fun _ => some (Tr36.of (p0.un.1, p0.un.2.1, p0.un.2.2.1, x1))
theorem Nr (nE : Nat) {fRec fRec' : Tr36 → Int → Option Tr36} (hfRec : ∀ a0 a1, Le (fRec a0 a1) (fRec' a0 a1)) (p0 : Tr36) (p1 : Int) : Le (HW nE fRec p0 p1) (DA fRec' p0 p1) := by
  unfold HW DA
  repeat' with_reducible (first | apply Le.orR' | apply Le.bind' | apply Le.ite' | apply Le.loop' | apply Le.altS' | exact hfRec | exact hfRec _ _ | apply MV | apply Kj | exact Le.rfl' _ | (refine Le.pi2 ?_; intro _) | intro _)
theorem Nm {fRec fRec' : Tr36 → Int → Option Tr36} (hfRec : ∀ a0 a1, Le (fRec a0 a1) (fRec' a0 a1)) (p0 : Tr36) (p1 : Int) : Le (DA fRec p0 p1) (DA fRec' p0 p1) := by
  unfold DA
  repeat' with_reducible (first | apply Le.orR' | apply Le.bind' | apply Le.ite' | apply Le.loopM | apply Le.altS' | exact hfRec | exact hfRec _ _ | apply M0 | exact Le.rfl' _ | (refine Le.pi2 ?_; intro _) | intro _)
def Il (nE : Nat) : Nat → Tr36 → Int → Option Tr36
  | 0 => fun _ _ => none
  | n + 1 => HW nE (Il nE n)
theorem J4 (nE : Nat) : ∀ (m : Nat) a0 a1, Le (Il nE m a0 a1) (C6 m a0 a1)
  | 0, a0, a1 => fun _ h => nomatch h
  | m + 1, a0, a1 => Nr nE (J4 nE m) a0 a1
theorem HY : ∀ (m : Nat) a0 a1, Le (C6 m a0 a1) (C6 (m + 1) a0 a1)
  | 0, a0, a1 => fun _ h => nomatch h
  | m + 1, a0, a1 => Nm (HY m) a0 a1
def MK (nE : Nat) (p0 : Tr36) (p1 : Int) : Option Tr36 := Il nE nE p0 p1
theorem Q2 (nE : Nat) (p0 : Tr36) (p1 : Int) : Le (MK nE p0 p1) (IW p0 p1) := fun r e => CB (g := fun n => C6 n p0 p1) (fun n r h => HY n p0 p1 r h) (n := nE) (J4 nE nE p0 p1 r e)
def Ir (nE : Nat) (fRec : Tr39 → Int → Option Tr39) (p0 : Tr39) (p1 : Int) : (List Tr39 × Int) → Option ((List Tr39 × Int) ⊕ (List Tr39))
  | (x11, x12) => (if x12 < (p0.un.2.2.2.2.length : Int) then (ix p0.un.2.2.2.2 x12).bind fun x13 => (fRec (Tr39.of (x13.un.1, Tr36.of (x13.un.2.1.un.1, x13.un.2.1.un.2.1, x13.un.2.1.un.2.2.1, x13.un.2.1.un.2.2.2), x13.un.2.2.1, x13.un.2.2.2.1, x13.un.2.2.2.2)) p1).bind fun x14 => (GP x11 ([Tr39.of (x14.un.1, Tr36.of (x14.un.2.1.un.1, x14.un.2.1.un.2.1, x14.un.2.1.un.2.2.1, x14.un.2.1.un.2.2.2), x14.un.2.2.1, x14.un.2.2.2.1, x14.un.2.2.2.2)] : List Tr39)).bind fun x15 => some (.inl (x15, AJ (x12 + 1))) else some (.inr x11))
theorem NV (nE : Nat) {fRec fRec' : Tr39 → Int → Option Tr39} (hfRec : ∀ a0 a1, Le (fRec a0 a1) (fRec' a0 a1)) (p0 : Tr39) (p1 : Int) : ∀ s, Le (Ir nE fRec p0 p1 s) (Dj fRec' p0 p1 s) := by
  rintro ⟨x11, x12⟩
  unfold Ir Dj
  repeat' with_reducible (first | apply Le.orR' | apply Le.bind' | apply Le.ite' | apply Le.loop' | apply Le.altS' | exact hfRec | exact hfRec _ _ | exact Le.rfl' _ | (refine Le.pi2 ?_; intro _) | intro _)
theorem NA {fRec fRec' : Tr39 → Int → Option Tr39} (hfRec : ∀ a0 a1, Le (fRec a0 a1) (fRec' a0 a1)) (p0 : Tr39) (p1 : Int) : ∀ s, Le (Dj fRec p0 p1 s) (Dj fRec' p0 p1 s) := by
  rintro ⟨x11, x12⟩
  show Le (Dj fRec p0 p1 (x11, x12)) (Dj fRec' p0 p1 (x11, x12))
  unfold Dj
  repeat' with_reducible (first | apply Le.orR' | apply Le.bind' | apply Le.ite' | apply Le.loopM | apply Le.altS' | exact hfRec | exact hfRec _ _ | exact Le.rfl' _ | (refine Le.pi2 ?_; intro _) | intro _)
def IB (nE : Nat) (fRec : Tr39 → Int → Option Tr39) (p0 : Tr39) (p1 : Int) : Option Tr39 := (if (decide (p0.un.1 = 1) || decide (p0.un.1 = 5)) = true then (MK nE (Tr36.of (p0.un.2.1.un.1, p0.un.2.1.un.2.1, p0.un.2.1.un.2.2.1, p0.un.2.1.un.2.2.2)) p1).bind fun x5 => some (x5.un.1, x5.un.2.1, x5.un.2.2.1, x5.un.2.2.2) else some (p0.un.2.1.un.1, p0.un.2.1.un.2.1, p0.un.2.1.un.2.2.1, p0.un.2.1.un.2.2.2)).bind fun (x1, x2, x3, x4) => (if (decide (p0.un.1 = 5) && (decide ((p0.un.2.2.2.2.length : Int) = 2) && decide (x1 = 1))) = true then (ix p0.un.2.2.2.2 0).bind fun x6 => (fRec (Tr39.of (x6.un.1, Tr36.of (x6.un.2.1.un.1, x6.un.2.1.un.2.1, x6.un.2.1.un.2.2.1, x6.un.2.1.un.2.2.2), x6.un.2.2.1, x6.un.2.2.2.1, x6.un.2.2.2.2)) p1).bind fun x7 => some (Tr39.of (x7.un.1, Tr36.of (x7.un.2.1.un.1, x7.un.2.1.un.2.1, x7.un.2.1.un.2.2.1, x7.un.2.1.un.2.2.2), x7.un.2.2.1, x7.un.2.2.2.1, x7.un.2.2.2.2)) else (if (decide (p0.un.1 = 5) && (decide ((p0.un.2.2.2.2.length : Int) = 2) && decide (x1 = 2))) = true then (ix p0.un.2.2.2.2 1).bind fun x8 => (fRec (Tr39.of (x8.un.1, Tr36.of (x8.un.2.1.un.1, x8.un.2.1.un.2.1, x8.un.2.1.un.2.2.1, x8.un.2.1.un.2.2.2), x8.un.2.2.1, x8.un.2.2.2.1, x8.un.2.2.2.2)) p1).bind fun x9 => some (Tr39.of (x9.un.1, Tr36.of (x9.un.2.1.un.1, x9.un.2.1.un.2.1, x9.un.2.1.un.2.2.1, x9.un.2.1.un.2.2.2), x9.un.2.2.1, x9.un.2.2.2.1, x9.un.2.2.2.2)) else (OQ nE (Ir nE fRec p0 p1) ([], 0)).bind fun x10 => some (Tr39.of (p0.un.1, Tr36.of (x1, x2, x3, x4), p0.un.2.2.1, p0.un.2.2.2.1, x10))))
theorem Nz (nE : Nat) {fRec fRec' : Tr39 → Int → Option Tr39} (hfRec : ∀ a0 a1, Le (fRec a0 a1) (fRec' a0 a1)) (p0 : Tr39) (p1 : Int) : Le (IB nE fRec p0 p1) (D5 fRec' p0 p1) := by
  unfold IB D5
  repeat' with_reducible (first | apply Le.orR' | apply Le.bind' | apply Le.ite' | apply Le.loop' | apply Le.altS' | exact hfRec | exact hfRec _ _ | apply Q2 | apply NV | exact Le.rfl' _ | (refine Le.pi2 ?_; intro _) | intro _)
theorem OR {fRec fRec' : Tr39 → Int → Option Tr39} (hfRec : ∀ a0 a1, Le (fRec a0 a1) (fRec' a0 a1)) (p0 : Tr39) (p1 : Int) : Le (D5 fRec p0 p1) (D5 fRec' p0 p1) := by
  unfold D5
  repeat' with_reducible (first | apply Le.orR' | apply Le.bind' | apply Le.ite' | apply Le.loopM | apply Le.altS' | exact hfRec | exact hfRec _ _ | apply NA | exact Le.rfl' _ | (refine Le.pi2 ?_; intro _) | intro _)
def I4 (nE : Nat) : Nat → Tr39 → Int → Option Tr39
  | 0 => fun _ _ => none
  | n + 1 => IB nE (I4 nE n)
theorem Ku (nE : Nat) : ∀ (m : Nat) a0 a1, Le (I4 nE m a0 a1) (C3 m a0 a1)
  | 0, a0, a1 => fun _ h => nomatch h
  | m + 1, a0, a1 => Nz nE (Ku nE m) a0 a1
theorem IA : ∀ (m : Nat) a0 a1, Le (C3 m a0 a1) (C3 (m + 1) a0 a1)
  | 0, a0, a1 => fun _ h => nomatch h
  | m + 1, a0, a1 => OR (IA m) a0 a1
def So (nE : Nat) (p0 : Tr39) (p1 : Int) : Option Tr39 := I4 nE nE p0 p1
theorem MC (nE : Nat) (p0 : Tr39) (p1 : Int) : Le (So nE p0 p1) (Ga p0 p1) := fun r e => CB (g := fun n => C3 n p0 p1) (fun n r h => IA n p0 p1 r h) (n := nE) (Ku nE nE p0 p1 r e)
def HM (nE : Nat) (fRec_pred_Text : Tr36 → Option (List UInt8)) (p0 : List Tr36) : (List (List UInt8) × Int) → Option ((List (List UInt8) × Int) ⊕ (List (List UInt8)))
  | (x2, x3) => (if x3 < (p0.length : Int) then (ix p0 x3).bind fun x4 => (fRec_pred_Text x4).bind fun x5 => (if (decide (x4.un.1 = 5) || decide (x4.un.1 = 6)) = true then (GP ([40] : List UInt8) x5).bind fun x7 => (GP x7 ([41] : List UInt8)).bind fun x8 => some x8 else some x5).bind fun x6 => (GP x2 ([x6] : List (List UInt8))).bind fun x9 => some (.inl (x9, AJ (x3 + 1))) else some (.inr x2))
theorem MU (nE : Nat) {fRec_pred_Text fRec_pred_Text' : Tr36 → Option (List UInt8)} (hfRec_pred_Text : ∀ a0, Le (fRec_pred_Text a0) (fRec_pred_Text' a0)) (p0 : List Tr36) : ∀ s, Le (HM nE fRec_pred_Text p0 s) (D1 fRec_pred_Text' p0 s) := by
  rintro ⟨x2, x3⟩
  unfold HM D1
  repeat' with_reducible (first | apply Le.orR' | apply Le.bind' | apply Le.ite' | apply Le.loop' | apply Le.altS' | exact hfRec_pred_Text | exact hfRec_pred_Text _ | exact Le.rfl' _ | (refine Le.pi2 ?_; intro _) | intro _)
theorem Nn {fRec_pred_Text fRec_pred_Text' : Tr36 → Option (List UInt8)} (hfRec_pred_Text : ∀ a0, Le (fRec_pred_Text a0) (fRec_pred_Text' a0)) (p0 : List Tr36) : ∀ s, Le (D1 fRec_pred_Text p0 s) (D1 fRec_pred_Text' p0 s) := by
  rintro ⟨x2, x3⟩
  show Le (D1 fRec_pred_Text p0 (x2, x3)) (D1 fRec_pred_Text' p0 (x2, x3))
  unfold D1
  repeat' with_reducible (first | apply Le.orR' | apply Le.bind' | apply Le.ite' | apply Le.loopM | apply Le.altS' | exact hfRec_pred_Text | exact hfRec_pred_Text _ | exact Le.rfl' _ | (refine Le.pi2 ?_; intro _) | intro _)
def Hs (nE : Nat) (fRec_pred_Text : Tr36 → Option (List UInt8)) (p0 : List Tr36) (p1 : List UInt8) : Option (List UInt8) := (OQ nE (HM nE fRec_pred_Text p0) ([], 0)).bind fun x1 => (Kr x1 p1).bind fun x10 => some x10
theorem Qh (nE : Nat) {fRec_pred_Text fRec_pred_Text' : Tr36 → Option (List UInt8)} (hfRec_pred_Text : ∀ a0, Le (fRec_pred_Text a0) (fRec_pred_Text' a0)) (p0 : List Tr36) (p1 : List UInt8) : Le (Hs nE fRec_pred_Text p0 p1) (FB fRec_pred_Text' p0 p1) := by
  unfold Hs FB
  repeat' with_reducible (first | apply Le.orR' | apply Le.bind' | apply Le.ite' | apply Le.loop' | apply Le.altS' | exact hfRec_pred_Text | exact hfRec_pred_Text _ | apply MU | exact Le.rfl' _ | (refine Le.pi2 ?_; intro _) | intro _)
theorem Qe {fRec_pred_Text fRec_pred_Text' : Tr36 → Option (List UInt8)} (hfRec_pred_Text : ∀ a0, Le (fRec_pred_Text a0) (fRec_pred_Text' a0)) (p0 : List Tr36) (p1 : List UInt8) : Le (FB fRec_pred_Text p0 p1) (FB fRec_pred_Text' p0 p1) := by
  unfold FB
  repeat' with_reducible (first | apply Le.orR' | apply Le.bind' | apply Le.ite' | apply Le.loopM | apply Le.altS' | exact hfRec_pred_Text | exact hfRec_pred_Text _ | apply Nn | exact Le.rfl' _ | (refine Le.pi2 ?_; intro _) | intro _)
def H0 (nE : Nat) (fRec : Tr36 → Option (List UInt8)) (p0 : Tr36) : Option (List UInt8) := (if p0.un.1 = 1 then some ([116, 114, 117, 101] : List UInt8) else (if p0.un.1 = 2 then some ([102, 97, 108, 115, 101] : List UInt8) else (if p0.un.1 = 3 then (GP (EP p0.un.2.1) ([32, 61, 32] : List UInt8)).bind fun x1 => (PW p0.un.2.2.1).bind fun x2 => (GP x1 x2).bind fun x3 => some x3 else (if p0.un.1 = 4 then ((Hs nE fRec) p0.un.2.2.2 ([] : List UInt8)).bind fun x4 => (GP ([110, 111, 116, 32] : List UInt8) x4).bind fun x5 => some x5 else (if p0.un.1 = 5 then ((Hs nE fRec) p0.un.2.2.2 ([32, 97, 110, 100, 32] : List UInt8)).bind fun x6 => some x6 else (if p0.un.1 = 6 then ((Hs nE fRec) p0.un.2.2.2 ([32, 111, 114, 32] : List UInt8)).bind fun x7 => some x7 else some ([63] : List UInt8)))))))
theorem Ng (nE : Nat) {fRec fRec' : Tr36 → Option (List UInt8)} (hfRec : ∀ a0, Le (fRec a0) (fRec' a0)) (p0 : Tr36) : Le (H0 nE fRec p0) (Ew fRec' p0) := by
  unfold H0 Ew
  repeat' with_reducible (first | apply Le.orR' | apply Le.bind' | apply Le.ite' | apply Le.loop' | apply Le.altS' | exact hfRec | exact hfRec _ | apply Qh | exact Le.rfl' _ | (refine Le.pi2 ?_; intro _) | intro _)
theorem MT {fRec fRec' : Tr36 → Option (List UInt8)} (hfRec : ∀ a0, Le (fRec a0) (fRec' a0)) (p0 : Tr36) : Le (Ew fRec p0) (Ew fRec' p0) := by
  unfold Ew
  repeat' with_reducible (first | apply Le.orR' | apply Le.bind' | apply Le.ite' | apply Le.loopM | apply Le.altS' | exact hfRec | exact hfRec _ | apply Qe | exact Le.rfl' _ | (refine Le.pi2 ?_; intro _) | intro _)
def Io (nE : Nat) : Nat → Tr36 → Option (List UInt8)
  | 0 => fun _ => none
  | n + 1 => H0 nE (Io nE n)
theorem JN (nE : Nat) : ∀ (m : Nat) a0, Le (Io nE m a0) (E7 m a0)
  | 0, a0 => fun _ h => nomatch h
  | m + 1, a0 => Ng nE (JN nE m) a0
theorem Jt : ∀ (m : Nat) a0, Le (E7 m a0) (E7 (m + 1) a0)
  | 0, a0 => fun _ h => nomatch h
  | m + 1, a0 => MT (Jt m) a0
def JE (nE : Nat) (p0 : Tr36) : Option (List UInt8) := Io nE nE p0
theorem Lu (nE : Nat) (p0 : Tr36) : Le (JE nE p0) (Kc p0) := fun r e => CB (g := fun n => E7 n p0) (fun n r h => Jt n p0 r h) (n := nE) (JN nE nE p0 r e)
def F1 (nE : Nat) (p0 : Tr36) : Option (List UInt8) := (if p0.un.1 = 1 then some ([105, 100] : List UInt8) else (if p0.un.1 = 2 then some ([100, 114, 111, 112] : List UInt8) else (JE nE p0).bind fun x1 => (GP ([119, 104, 101, 110, 32] : List UInt8) x1).bind fun x2 => some x2))
theorem JB (nE : Nat) (p0 : Tr36) : Le (F1 nE p0) (Ey p0) := by
  unfold F1 Ey
  repeat' with_reducible (first | apply Le.orR' | apply Le.bind' | apply Le.ite' | apply Le.loop' | apply Le.altS' | apply Lu | exact Le.rfl' _ | (refine Le.pi2 ?_; intro _) | intro _)
def Fq (nE : Nat) (fRec_policy_Text : Tr39 → Option (List UInt8)) (p0 : List Tr39) : (List (List UInt8) × Int) → Option ((List (List UInt8) × Int) ⊕ (List (List UInt8)))
  | (x2, x3) => (if x3 < (p0.length : Int) then (ix p0 x3).bind fun x4 => (fRec_policy_Text (Tr39.of (x4.un.1, Tr36.of (x4.un.2.1.un.1, x4.un.2.1.un.2.1, x4.un.2.1.un.2.2.1, x4.un.2.1.un.2.2.2), x4.un.2.2.1, x4.un.2.2.2.1, x4.un.2.2.2.2))).bind fun x5 => (if (decide (x4.un.1 = 3) || (decide (x4.un.1 = 4) || decide (x4.un.1 = 5))) = true then (GP ([40] : List UInt8) x5).bind fun x7 => (GP x7 ([41] : List UInt8)).bind fun x8 => some x8 else some x5).bind fun x6 => (GP x2 ([x6] : List (List UInt8))).bind fun x9 => some (.inl (x9, AJ (x3 + 1))) else some (.inr x2))
theorem IF (nE : Nat) {fRec_policy_Text fRec_policy_Text' : Tr39 → Option (List UInt8)} (hfRec_policy_Text : ∀ a0, Le (fRec_policy_Text a0) (fRec_policy_Text' a0)) (p0 : List Tr39) : ∀ s, Le (Fq nE fRec_policy_Text p0 s) (Cc fRec_policy_Text' p0 s) := by
  rintro ⟨x2, x3⟩
  unfold Fq Cc
  repeat' with_reducible (first | apply Le.orR' | apply Le.bind' | apply Le.ite' | apply Le.loop' | apply Le.altS' | exact hfRec_policy_Text | exact hfRec_policy_Text _ | exact Le.rfl' _ | (refine Le.pi2 ?_; intro _) | intro _)
theorem IR {fRec_policy_Text fRec_policy_Text' : Tr39 → Option (List UInt8)} (hfRec_policy_Text : ∀ a0, Le (fRec_policy_Text a0) (fRec_policy_Text' a0)) (p0 : List Tr39) : ∀ s, Le (Cc fRec_policy_Text p0 s) (Cc fRec_policy_Text' p0 s) := by
  rintro ⟨x2, x3⟩
  show Le (Cc fRec_policy_Text p0 (x2, x3)) (Cc fRec_policy_Text' p0 (x2, x3))
  unfold Cc
  repeat' with_reducible (first | apply Le.orR' | apply Le.bind' | apply Le.ite' | apply Le.loopM | apply Le.altS' | exact hfRec_policy_Text | exact hfRec_policy_Text _ | exact Le.rfl' _ | (refine Le.pi2 ?_; intro _) | intro _)
def D0 (nE : Nat) (fRec_policy_Text : Tr39 → Option (List UInt8)) (p0 : List Tr39) : Option (List (List UInt8)) := (OQ nE (Fq nE fRec_policy_Text p0) ([], 0)).bind fun x1 => some x1
theorem JA (nE : Nat) {fRec_policy_Text fRec_policy_Text' : Tr39 → Option (List UInt8)} (hfRec_policy_Text : ∀ a0, Le (fRec_policy_Text a0) (fRec_policy_Text' a0)) (p0 : List Tr39) : Le (D0 nE fRec_policy_Text p0) (CC fRec_policy_Text' p0) := by
  unfold D0 CC
  repeat' with_reducible (first | apply Le.orR' | apply Le.bind' | apply Le.ite' | apply Le.loop' | apply Le.altS' | exact hfRec_policy_Text | exact hfRec_policy_Text _ | apply IF | exact Le.rfl' _ | (refine Le.pi2 ?_; intro _) | intro _)
theorem JT {fRec_policy_Text fRec_policy_Text' : Tr39 → Option (List UInt8)} (hfRec_policy_Text : ∀ a0, Le (fRec_policy_Text a0) (fRec_policy_Text' a0)) (p0 : List Tr39) : Le (CC fRec_policy_Text p0) (CC fRec_policy_Text' p0) := by
  unfold CC
  repeat' with_reducible (first | apply Le.orR' | apply Le.bind' | apply Le.ite' | apply Le.loopM | apply Le.altS' | exact hfRec_policy_Text | exact hfRec_policy_Text _ | apply IR | exact Le.rfl' _ | (refine Le.pi2 ?_; intro _) | intro _)
def GZ (nE : Nat) (fRec : Tr39 → Option (List UInt8)) (p0 : Tr39) : Option (List UInt8) := (if p0.un.1 = 1 then (F1 nE (Tr36.of (p0.un.2.1.un.1, p0.un.2.1.un.2.1, p0.un.2.1.un.2.2.1, p0.un.2.1.un.2.2.2))).bind fun x1 => some x1 else (if p0.un.1 = 2 then (GP (Ea p0.un.2.2.1) ([32, 58, 61, 32] : List UInt8)).bind fun x2 => (PW p0.un.2.2.2.1).bind fun x3 => (GP x2 x3).bind fun x4 => some x4 else (if p0.un.1 = 3 then ((D0 nE fRec) p0.un.2.2.2.2).bind fun x5 => (Kr x5 ([59, 32] : List UInt8)).bind fun x6 => some x6 else (if p0.un.1 = 4 then ((D0 nE fRec) p0.un.2.2.2.2).bind fun x7 => (Kr x7 ([32, 124, 32] : List UInt8)).bind fun x8 => some x8 else (if p0.un.1 = 5 then (JE nE (Tr36.of (p0.un.2.1.un.1, p0.un.2.1.un.2.1, p0.un.2.1.un.2.2.1, p0.un.2.1.un.2.2.2))).bind fun x9 => (GP ([105, 102, 32] : List UInt8) x9).bind fun x10 => (GP x10 ([32, 116, 104, 101, 110, 32] : List UInt8)).bind fun x11 => ((D0 nE fRec) p0.un.2.2.2.2).bind fun x12 => (Kr x12 ([32, 101, 108, 115, 101, 32] : List UInt8)).bind fun x13 => (GP x11 x13).bind fun x14 => some x14 else some ([63] : List UInt8))))))
theorem LP (nE : Nat) {fRec fRec' : Tr39 → Option (List UInt8)} (hfRec : ∀ a0, Le (fRec a0) (fRec' a0)) (p0 : Tr39) : Le (GZ nE fRec p0) (DR fRec' p0) := by
  unfold GZ DR
  repeat' with_reducible (first | apply Le.orR' | apply Le.bind' | apply Le.ite' | apply Le.loop' | apply Le.altS' | exact hfRec | exact hfRec _ | apply Lu | apply JB | apply JA | exact Le.rfl' _ | (refine Le.pi2 ?_; intro _) | intro _)
theorem LY {fRec fRec' : Tr39 → Option (List UInt8)} (hfRec : ∀ a0, Le (fRec a0) (fRec' a0)) (p0 : Tr39) : Le (DR fRec p0) (DR fRec' p0) := by
  unfold DR
  repeat' with_reducible (first | apply Le.orR' | apply Le.bind' | apply Le.ite' | apply Le.loopM | apply Le.altS' | exact hfRec | exact hfRec _ | apply JT | exact Le.rfl' _ | (refine Le.pi2 ?_; intro _) | intro _)
def Hy (nE : Nat) : Nat → Tr39 → Option (List UInt8)
  | 0 => fun _ => none
  | n + 1 => GZ nE (Hy nE n)
theorem II (nE : Nat) : ∀ (m : Nat) a0, Le (Hy nE m a0) (D8 m a0)
  | 0, a0 => fun _ h => nomatch h
  | m + 1, a0 => LP nE (II nE m) a0
theorem IQ : ∀ (m : Nat) a0, Le (D8 m a0) (D8 (m + 1) a0)
  | 0, a0 => fun _ h => nomatch h
  | m + 1, a0 => LY (IQ m) a0
def Pd (nE : Nat) (p0 : Tr39) : Option (List UInt8) := Hy nE nE p0
theorem J6 (nE : Nat) (p0 : Tr39) : Le (Pd nE p0) (E9 p0) := fun r e => CB (g := fun n => D8 n p0) (fun n r h => IQ n p0 r h) (n := nE) (II nE nE p0 r e)
theorem Kl {fRec fRec' : Tr36 → Int → Option (List Int)} (hfRec : ∀ a0 a1, Le (fRec a0 a1) (fRec' a0 a1)) (p0 : Tr36) (p1 : Int) : ∀ s, Le (Cz fRec p0 p1 s) (Cz fRec' p0 p1 s) := by
  rintro ⟨x4, x5⟩
  show Le (Cz fRec p0 p1 (x4, x5)) (Cz fRec' p0 p1 (x4, x5))
  unfold Cz
  repeat' with_reducible (first | apply Le.orR' | apply Le.bind' | apply Le.ite' | apply Le.loopM | apply Le.altS' | exact hfRec | exact hfRec _ _ | exact Le.rfl' _ | (refine Le.pi2 ?_; intro _) | intro _)
theorem Kn {fRec fRec' : Tr36 → Int → Option (List Int)} (hfRec : ∀ a0 a1, Le (fRec a0 a1) (fRec' a0 a1)) (p0 : Tr36) (p1 : Int) : Le (Dk fRec p0 p1) (Dk fRec' p0 p1) := by
  unfold Dk
  repeat' with_reducible (first | apply Le.orR' | apply Le.bind' | apply Le.ite' | apply Le.loopM | apply Le.altS' | exact hfRec | exact hfRec _ _ | apply Kl | exact Le.rfl' _ | (refine Le.pi2 ?_; intro _) | intro _)
theorem HV : ∀ (m : Nat) a0 a1, Le (CI m a0 a1) (CI (m + 1) a0 a1)
  | 0, a0, a1 => fun _ h => nomatch h
  | m + 1, a0, a1 => Kn (HV m) a0 a1
theorem LV {fRec fRec' : Tr39 → Int → Option (List Int)} (hfRec : ∀ a0 a1, Le (fRec a0 a1) (fRec' a0 a1)) (p0 : Tr39) (p1 : Int) : ∀ s, Le (CW fRec p0 p1 s) (CW fRec' p0 p1 s) := by
  rintro ⟨x5, x6⟩
  show Le (CW fRec p0 p1 (x5, x6)) (CW fRec' p0 p1 (x5, x6))
  unfold CW
  repeat' with_reducible (first | apply Le.orR' | apply Le.bind' | apply Le.ite' | apply Le.loopM | apply Le.altS' | exact hfRec | exact hfRec _ _ | exact Le.rfl' _ | (refine Le.pi2 ?_; intro _) | intro _)
theorem Lj {fRec fRec' : Tr39 → Int → Option (List Int)} (hfRec : ∀ a0 a1, Le (fRec a0 a1) (fRec' a0 a1)) (p0 : Tr39) (p1 : Int) : Le (DG fRec p0 p1) (DG fRec' p0 p1) := by
  unfold DG
  repeat' with_reducible (first | apply Le.orR' | apply Le.bind' | apply Le.ite' | apply Le.loopM | apply Le.altS' | exact hfRec | exact hfRec _ _ | apply LV | exact Le.rfl' _ | (refine Le.pi2 ?_; intro _) | intro _)
theorem I0 : ∀ (m : Nat) a0 a1, Le (Dc m a0 a1) (Dc (m + 1) a0 a1)
  | 0, a0, a1 => fun _ h => nomatch h
  | m + 1, a0, a1 => Lj (I0 m) a0 a1
theorem Dr {fRec_pred_Same fRec_pred_Same' : Tr36 → Tr36 → Option Bool} (hfRec_pred_Same : ∀ a0 a1, Le (fRec_pred_Same a0 a1) (fRec_pred_Same' a0 a1)) (p0 : List Tr36) (p1 : List Tr36) : ∀ s, Le (AE fRec_pred_Same p0 p1 s) (AE fRec_pred_Same' p0 p1 s) := by
  intro x1
  unfold AE
  repeat' with_reducible (first | apply Le.orR' | apply Le.bind' | apply Le.ite' | apply Le.loopM | apply Le.altS' | exact hfRec_pred_Same | exact hfRec_pred_Same _ _ | exact Le.rfl' _ | (refine Le.pi2 ?_; intro _) | intro _)
theorem Dv {fRec_pred_Same fRec_pred_Same' : Tr36 → Tr36 → Option Bool} (hfRec_pred_Same : ∀ a0 a1, Le (fRec_pred_Same a0 a1) (fRec_pred_Same' a0 a1)) (p0 : List Tr36) (p1 : List Tr36) : Le (AH fRec_pred_Same p0 p1) (AH fRec_pred_Same' p0 p1) := by
  unfold AH
  repeat' with_reducible (first | apply Le.orR' | apply Le.bind' | apply Le.ite' | apply Le.loopM | apply Le.altS' | exact hfRec_pred_Same | exact hfRec_pred_Same _ _ | apply Dr | exact Le.rfl' _ | (refine Le.pi2 ?_; intro _) | intro _)
theorem Nf {fRec fRec' : Tr36 → Tr36 → Option Bool} (hfRec : ∀ a0 a1, Le (fRec a0 a1) (fRec' a0 a1)) (p0 : Tr36) (p1 : Tr36) : Le (EE fRec p0 p1) (EE fRec' p0 p1) := by
  unfold EE
  repeat' with_reducible (first | apply Le.orR' | apply Le.bind' | apply Le.ite' | apply Le.loopM | apply Le.altS' | exact hfRec | exact hfRec _ _ | apply Dv | exact Le.rfl' _ | (refine Le.pi2 ?_; intro _) | intro _)
theorem JF : ∀ (m : Nat) a0 a1, Le (D9 m a0 a1) (D9 (m + 1) a0 a1)
  | 0, a0, a1 => fun _ h => nomatch h
  | m + 1, a0, a1 => Nf (JF m) a0 a1
theorem Iv {fRec fRec' : Int → Tr36 → Int → Option (Bool × Int)} (hfRec : ∀ a0 a1 a2, Le (fRec a0 a1 a2) (fRec' a0 a1 a2)) (p1 : Tr36) (p2 : Int) : ∀ s, Le (Be fRec p1 p2 s) (Be fRec' p1 p2 s) := by
  rintro ⟨x4, x5⟩
  show Le (Be fRec p1 p2 (x4, x5)) (Be fRec' p1 p2 (x4, x5))
  unfold Be
  repeat' with_reducible (first | apply Le.orR' | apply Le.bind' | apply Le.ite' | apply Le.loopM | apply Le.altS' | exact hfRec | exact hfRec _ _ _ | exact Le.rfl' _ | (refine Le.pi2 ?_; intro _) | intro _)
theorem Im {fRec fRec' : Int → Tr36 → Int → Option (Bool × Int)} (hfRec : ∀ a0 a1 a2, Le (fRec a0 a1 a2) (fRec' a0 a1 a2)) (p0 : Int) (p1 : Tr36) (p2 : Int) : Le (Cq fRec p0 p1 p2) (Cq fRec' p0 p1 p2) := by
  unfold Cq
  repeat' with_reducible (first | apply Le.orR' | apply Le.bind' | apply Le.ite' | apply Le.loopM | apply Le.altS' | exact hfRec | exact hfRec _ _ _ | apply Iv | exact Le.rfl' _ | (refine Le.pi2 ?_; intro _) | intro _)
theorem ET : ∀ (m : Nat) a0 a1 a2, Le (A8 m a0 a1 a2) (A8 (m + 1) a0 a1 a2)
  | 0, a0, a1, a2 => fun _ h => nomatch h
  | m + 1, a0, a1, a2 => Im (ET m) a0 a1 a2
theorem Na {fRec fRec' : Tr36 → Option Int} (hfRec : ∀ a0, Le (fRec a0) (fRec' a0)) (p0 : Tr36) : ∀ s, Le (Dp fRec p0 s) (Dp fRec' p0 s) := by
  rintro ⟨x2, x3⟩
  show Le (Dp fRec p0 (x2, x3)) (Dp fRec' p0 (x2, x3))
  unfold Dp
  repeat' with_reducible (first | apply Le.orR' | apply Le.bind' | apply Le.ite' | apply Le.loopM | apply Le.altS' | exact hfRec | exact hfRec _ | exact Le.rfl' _ | (refine Le.pi2 ?_; intro _) | intro _)
theorem MZ {fRec fRec' : Tr36 → Option Int} (hfRec : ∀ a0, Le (fRec a0) (fRec' a0)) (p0 : Tr36) : Le (ED fRec p0) (ED fRec' p0) := by
  unfold ED
  repeat' with_reducible (first | apply Le.orR' | apply Le.bind' | apply Le.ite' | apply Le.loopM | apply Le.altS' | exact hfRec | exact hfRec _ | apply Na | exact Le.rfl' _ | (refine Le.pi2 ?_; intro _) | intro _)
theorem JJ : ∀ (m : Nat) a0, Le (DQ m a0) (DQ (m + 1) a0)
  | 0, a0 => fun _ h => nomatch h
  | m + 1, a0 => MZ (JJ m) a0
theorem H1 {fRec fRec' : Int → Tr39 → Int → Option (Bool × Int)} (hfRec : ∀ a0 a1 a2, Le (fRec a0 a1 a2) (fRec' a0 a1 a2)) (p1 : Tr39) (p2 : Int) : ∀ s, Le (A0 fRec p1 p2 s) (A0 fRec' p1 p2 s) := by
  rintro ⟨x7, x8⟩
  show Le (A0 fRec p1 p2 (x7, x8)) (A0 fRec' p1 p2 (x7, x8))
  unfold A0
  repeat' with_reducible (first | apply Le.orR' | apply Le.bind' | apply Le.ite' | apply Le.loopM | apply Le.altS' | exact hfRec | exact hfRec _ _ _ | exact Le.rfl' _ | (refine Le.pi2 ?_; intro _) | intro _)
theorem HS {fRec fRec' : Int → Tr39 → Int → Option (Bool × Int)} (hfRec : ∀ a0 a1 a2, Le (fRec a0 a1 a2) (fRec' a0 a1 a2)) (p0 : Int) (p1 : Tr39) (p2 : Int) : Le (B6 fRec p0 p1 p2) (B6 fRec' p0 p1 p2) := by
  unfold B6
  repeat' with_reducible (first | apply Le.orR' | apply Le.bind' | apply Le.ite' | apply Le.loopM | apply Le.altS' | exact hfRec | exact hfRec _ _ _ | apply H1 | exact Le.rfl' _ | (refine Le.pi2 ?_; intro _) | intro _)
theorem Ep : ∀ (m : Nat) a0 a1 a2, Le (AU m a0 a1 a2) (AU (m + 1) a0 a1 a2)
  | 0, a0, a1, a2 => fun _ h => nomatch h
  | m + 1, a0, a1, a2 => HS (Ep m) a0 a1 a2
theorem LZ {fRec fRec' : Tr39 → Option Int} (hfRec : ∀ a0, Le (fRec a0) (fRec' a0)) (p0 : Tr39) : ∀ s, Le (CY fRec p0 s) (CY fRec' p0 s) := by
  rintro ⟨x2, x3⟩
  show Le (CY fRec p0 (x2, x3)) (CY fRec' p0 (x2, x3))
  unfold CY
  repeat' with_reducible (first | apply Le.orR' | apply Le.bind' | apply Le.ite' | apply Le.loopM | apply Le.altS' | exact hfRec | exact hfRec _ | exact Le.rfl' _ | (refine Le.pi2 ?_; intro _) | intro _)
theorem LD {fRec fRec' : Tr39 → Option Int} (hfRec : ∀ a0, Le (fRec a0) (fRec' a0)) (p0 : Tr39) : ∀ s, Le (CU fRec p0 s) (CU fRec' p0 s) := by
  rintro ⟨x6, x7⟩
  show Le (CU fRec p0 (x6, x7)) (CU fRec' p0 (x6, x7))
  unfold CU
  repeat' with_reducible (first | apply Le.orR' | apply Le.bind' | apply Le.ite' | apply Le.loopM | apply Le.altS' | exact hfRec | exact hfRec _ | exact Le.rfl' _ | (refine Le.pi2 ?_; intro _) | intro _)
theorem LK {fRec fRec' : Tr39 → Option Int} (hfRec : ∀ a0, Le (fRec a0) (fRec' a0)) (p0 : Tr39) : ∀ s, Le (CX fRec p0 s) (CX fRec' p0 s) := by
  rintro ⟨x10, x11⟩
  show Le (CX fRec p0 (x10, x11)) (CX fRec' p0 (x10, x11))
  unfold CX
  repeat' with_reducible (first | apply Le.orR' | apply Le.bind' | apply Le.ite' | apply Le.loopM | apply Le.altS' | exact hfRec | exact hfRec _ | exact Le.rfl' _ | (refine Le.pi2 ?_; intro _) | intro _)
theorem Lw {fRec fRec' : Tr39 → Option Int} (hfRec : ∀ a0, Le (fRec a0) (fRec' a0)) (p0 : Tr39) : Le (DM fRec p0) (DM fRec' p0) := by
  unfold DM
  repeat' with_reducible (first | apply Le.orR' | apply Le.bind' | apply Le.ite' | apply Le.loopM | apply Le.altS' | exact hfRec | exact hfRec _ | apply LZ | apply LD | apply LK | exact Le.rfl' _ | (refine Le.pi2 ?_; intro _) | intro _)
theorem ID : ∀ (m : Nat) a0, Le (B9 m a0) (B9 (m + 1) a0)
  | 0, a0 => fun _ h => nomatch h
  | m + 1, a0 => Lw (ID m) a0
theorem NB {fRec fRec' : Tr28 → Option Tr36} (hfRec : ∀ a0, Le (fRec a0) (fRec' a0)) (p0 : Tr28) : ∀ s, Le (DH fRec p0 s) (DH fRec' p0 s) := by
  rintro ⟨x2, x3⟩
  show Le (DH fRec p0 (x2, x3)) (DH fRec' p0 (x2, x3))
  unfold DH
  repeat' with_reducible (first | apply Le.orR' | apply Le.bind' | apply Le.ite' | apply Le.loopM | apply Le.altS' | exact hfRec | exact hfRec _ | exact Le.rfl' _ | (refine Le.pi2 ?_; intro _) | intro _)
theorem OJ {fRec fRec' : Tr28 → Option Tr36} (hfRec : ∀ a0, Le (fRec a0) (fRec' a0)) (p0 : Tr28) : Le (E0 fRec p0) (E0 fRec' p0) := by
  unfold E0
  repeat' with_reducible (first | apply Le.orR' | apply Le.bind' | apply Le.ite' | apply Le.loopM | apply Le.altS' | exact hfRec | exact hfRec _ | apply NB | exact Le.rfl' _ | (refine Le.pi2 ?_; intro _) | intro _)
theorem Kw : ∀ (m : Nat) a0, Le (En m a0) (En (m + 1) a0)
  | 0, a0 => fun _ h => nomatch h
  | m + 1, a0 => OJ (Kw m) a0
theorem Ow {fRec fRec' : Tr31 → Option Tr39} (hfRec : ∀ a0, Le (fRec a0) (fRec' a0)) (p0 : Tr31) : ∀ s, Le (D7 fRec p0 s) (D7 fRec' p0 s) := by
  rintro ⟨x3, x4⟩
  show Le (D7 fRec p0 (x3, x4)) (D7 fRec' p0 (x3, x4))
  unfold D7
  repeat' with_reducible (first | apply Le.orR' | apply Le.bind' | apply Le.ite' | apply Le.loopM | apply Le.altS' | exact hfRec | exact hfRec _ | exact Le.rfl' _ | (refine Le.pi2 ?_; intro _) | intro _)
theorem NO {fRec fRec' : Tr31 → Option Tr39} (hfRec : ∀ a0, Le (fRec a0) (fRec' a0)) (p0 : Tr31) : Le (Fg fRec p0) (Fg fRec' p0) := by
  unfold Fg
  repeat' with_reducible (first | apply Le.orR' | apply Le.bind' | apply Le.ite' | apply Le.loopM | apply Le.altS' | exact hfRec | exact hfRec _ | apply Ow | exact Le.rfl' _ | (refine Le.pi2 ?_; intro _) | intro _)
theorem KC : ∀ (m : Nat) a0, Le (EI m a0) (EI (m + 1) a0)
  | 0, a0 => fun _ h => nomatch h
  | m + 1, a0 => NO (KC m) a0
theorem OO {fRec fRec' : Tr28 → Option Bool} (hfRec : ∀ a0, Le (fRec a0) (fRec' a0)) (p0 : Tr28) : ∀ s, Le (E3 fRec p0 s) (E3 fRec' p0 s) := by
  intro x1
  unfold E3
  repeat' with_reducible (first | apply Le.orR' | apply Le.bind' | apply Le.ite' | apply Le.loopM | apply Le.altS' | exact hfRec | exact hfRec _ | exact Le.rfl' _ | (refine Le.pi2 ?_; intro _) | intro _)
theorem N6 {fRec fRec' : Tr28 → Option Bool} (hfRec : ∀ a0, Le (fRec a0) (fRec' a0)) (p0 : Tr28) : Le (Ff fRec p0) (Ff fRec' p0) := by
  unfold Ff
  repeat' with_reducible (first | apply Le.orR' | apply Le.bind' | apply Le.ite' | apply Le.loopM | apply Le.altS' | exact hfRec | exact hfRec _ | apply OO | exact Le.rfl' _ | (refine Le.pi2 ?_; intro _) | intro _)
theorem KP : ∀ (m : Nat) a0, Le (Ee m a0) (Ee (m + 1) a0)
  | 0, a0 => fun _ h => nomatch h
  | m + 1, a0 => N6 (KP m) a0
theorem O6 {fRec fRec' : Tr28 → Option Int} (hfRec : ∀ a0, Le (fRec a0) (fRec' a0)) (p0 : Tr28) : ∀ s, Le (DP fRec p0 s) (DP fRec' p0 s) := by
  rintro ⟨x2, x3⟩
  show Le (DP fRec p0 (x2, x3)) (DP fRec' p0 (x2, x3))
  unfold DP
  repeat' with_reducible (first | apply Le.orR' | apply Le.bind' | apply Le.ite' | apply Le.loopM | apply Le.altS' | exact hfRec | exact hfRec _ | exact Le.rfl' _ | (refine Le.pi2 ?_; intro _) | intro _)
theorem N7 {fRec fRec' : Tr28 → Option Int} (hfRec : ∀ a0, Le (fRec a0) (fRec' a0)) (p0 : Tr28) : Le (EY fRec p0) (EY fRec' p0) := by
  unfold EY
  repeat' with_reducible (first | apply Le.orR' | apply Le.bind' | apply Le.ite' | apply Le.loopM | apply Le.altS' | exact hfRec | exact hfRec _ | apply O6 | exact Le.rfl' _ | (refine Le.pi2 ?_; intro _) | intro _)
theorem Ky : ∀ (m : Nat) a0, Le (Ek m a0) (Ek (m + 1) a0)
  | 0, a0 => fun _ h => nomatch h
  | m + 1, a0 => N7 (Ky m) a0
theorem NN {fRec fRec' : Tr28 → Tr28 → Option Bool} (hfRec : ∀ a0 a1, Le (fRec a0 a1) (fRec' a0 a1)) (p0 : Tr28) (p1 : Tr28) : ∀ s, Le (E6 fRec p0 p1 s) (E6 fRec' p0 p1 s) := by
  intro x1
  unfold E6
  repeat' with_reducible (first | apply Le.orR' | apply Le.bind' | apply Le.ite' | apply Le.loopM | apply Le.altS' | exact hfRec | exact hfRec _ _ | exact Le.rfl' _ | (refine Le.pi2 ?_; intro _) | intro _)
theorem OT {fRec fRec' : Tr28 → Tr28 → Option Bool} (hfRec : ∀ a0 a1, Le (fRec a0 a1) (fRec' a0 a1)) (p0 : Tr28) (p1 : Tr28) : Le (E4 fRec p0 p1) (E4 fRec' p0 p1) := by
  unfold E4
  repeat' with_reducible (first | apply Le.orR' | apply Le.bind' | apply Le.ite' | apply Le.loopM | apply Le.altS' | exact hfRec | exact hfRec _ _ | apply NN | exact Le.rfl' _ | (refine Le.pi2 ?_; intro _) | intro _)
theorem KO : ∀ (m : Nat) a0 a1, Le (EN m a0 a1) (EN (m + 1) a0 a1)
  | 0, a0, a1 => fun _ h => nomatch h
  | m + 1, a0, a1 => OT (KO m) a0 a1
theorem O2 {fRec fRec' : Tr31 → Option Bool} (hfRec : ∀ a0, Le (fRec a0) (fRec' a0)) (p0 : Tr31) : ∀ s, Le (Fd fRec p0 s) (Fd fRec' p0 s) := by
  intro x4
  unfold Fd
  repeat' with_reducible (first | apply Le.orR' | apply Le.bind' | apply Le.ite' | apply Le.loopM | apply Le.altS' | exact hfRec | exact hfRec _ | exact Le.rfl' _ | (refine Le.pi2 ?_; intro _) | intro _)
theorem N4 {fRec fRec' : Tr31 → Option Bool} (hfRec : ∀ a0, Le (fRec a0) (fRec' a0)) (p0 : Tr31) : Le (E5 fRec p0) (E5 fRec' p0) := by
  unfold E5
  repeat' with_reducible (first | apply Le.orR' | apply Le.bind' | apply Le.ite' | apply Le.loopM | apply Le.altS' | exact hfRec | exact hfRec _ | apply O2 | exact Le.rfl' _ | (refine Le.pi2 ?_; intro _) | intro _)
theorem KK : ∀ (m : Nat) a0, Le (Eg m a0) (Eg (m + 1) a0)
  | 0, a0 => fun _ h => nomatch h
  | m + 1, a0 => N4 (KK m) a0
theorem NE {fRec fRec' : Tr31 → Option Int} (hfRec : ∀ a0, Le (fRec a0) (fRec' a0)) (p0 : Tr31) : ∀ s, Le (DI fRec p0 s) (DI fRec' p0 s) := by
  rintro ⟨x2, x3⟩
  show Le (DI fRec p0 (x2, x3)) (DI fRec' p0 (x2, x3))
  unfold DI
  repeat' with_reducible (first | apply Le.orR' | apply Le.bind' | apply Le.ite' | apply Le.loopM | apply Le.altS' | exact hfRec | exact hfRec _ | exact Le.rfl' _ | (refine Le.pi2 ?_; intro _) | intro _)
theorem Oh {fRec fRec' : Tr31 → Option Int} (hfRec : ∀ a0, Le (fRec a0) (fRec' a0)) (p0 : Tr31) : Le (E1 fRec p0) (E1 fRec' p0) := by
  unfold E1
  repeat' with_reducible (first | apply Le.orR' | apply Le.bind' | apply Le.ite' | apply Le.loopM | apply Le.altS' | exact hfRec | exact hfRec _ | apply NE | exact Le.rfl' _ | (refine Le.pi2 ?_; intro _) | intro _)
theorem Kv : ∀ (m : Nat) a0, Le (Ei m a0) (Ei (m + 1) a0)
  | 0, a0 => fun _ h => nomatch h
  | m + 1, a0 => Oh (Kv m) a0
theorem Of {fRec fRec' : Tr31 → Option Int} (hfRec : ∀ a0, Le (fRec a0) (fRec' a0)) (p0 : Tr31) : ∀ s, Le (DJ fRec p0 s) (DJ fRec' p0 s) := by
  rintro ⟨x3, x4⟩
  show Le (DJ fRec p0 (x3, x4)) (DJ fRec' p0 (x3, x4))
  unfold DJ
  repeat' with_reducible (first | apply Le.orR' | apply Le.bind' | apply Le.ite' | apply Le.loopM | apply Le.altS' | exact hfRec | exact hfRec _ | exact Le.rfl' _ | (refine Le.pi2 ?_; intro _) | intro _)
theorem O7 {fRec fRec' : Tr31 → Option Int} (hfRec : ∀ a0, Le (fRec a0) (fRec' a0)) (p0 : Tr31) : Le (Fc fRec p0) (Fc fRec' p0) := by
  unfold Fc
  repeat' with_reducible (first | apply Le.orR' | apply Le.bind' | apply Le.ite' | apply Le.loopM | apply Le.altS' | exact hfRec | exact hfRec _ | apply Of | exact Le.rfl' _ | (refine Le.pi2 ?_; intro _) | intro _)
theorem KG : ∀ (m : Nat) a0, Le (DZ m a0) (DZ (m + 1) a0)
  | 0, a0 => fun _ h => nomatch h
  | m + 1, a0 => O7 (KG m) a0
theorem Oy {fRec fRec' : Tr28 → Int → Int → Option Bool} (hfRec : ∀ a0 a1 a2, Le (fRec a0 a1 a2) (fRec' a0 a1 a2)) (p0 : Tr28) (p1 : Int) (p2 : Int) : ∀ s, Le (Fe fRec p0 p1 p2 s) (Fe fRec' p0 p1 p2 s) := by
  intro x1
  unfold Fe
  repeat' with_reducible (first | apply Le.orR' | apply Le.bind' | apply Le.ite' | apply Le.loopM | apply Le.altS' | exact hfRec | exact hfRec _ _ _ | exact Le.rfl' _ | (refine Le.pi2 ?_; intro _) | intro _)
theorem O1 {fRec fRec' : Tr28 → Int → Int → Option Bool} (hfRec : ∀ a0 a1 a2, Le (fRec a0 a1 a2) (fRec' a0 a1 a2)) (p0 : Tr28) (p1 : Int) (p2 : Int) : Le (Fb fRec p0 p1 p2) (Fb fRec' p0 p1 p2) := by
  unfold Fb
  repeat' with_reducible (first | apply Le.orR' | apply Le.bind' | apply Le.ite' | apply Le.loopM | apply Le.altS' | exact hfRec | exact hfRec _ _ _ | apply Oy | exact Le.rfl' _ | (refine Le.pi2 ?_; intro _) | intro _)
theorem KM : ∀ (m : Nat) a0 a1 a2, Le (EM m a0 a1 a2) (EM (m + 1) a0 a1 a2)
  | 0, a0, a1, a2 => fun _ h => nomatch h
  | m + 1, a0, a1, a2 => O1 (KM m) a0 a1 a2
theorem Pn {fRec fRec' : Tr31 → Int → Int → Option Bool} (hfRec : ∀ a0 a1 a2, Le (fRec a0 a1 a2) (fRec' a0 a1 a2)) (p0 : Tr31) (p1 : Int) (p2 : Int) : ∀ s, Le (FM fRec p0 p1 p2 s) (FM fRec' p0 p1 p2 s) := by
  intro x5
  unfold FM
  repeat' with_reducible (first | apply Le.orR' | apply Le.bind' | apply Le.ite' | apply Le.loopM | apply Le.altS' | exact hfRec | exact hfRec _ _ _ | exact Le.rfl' _ | (refine Le.pi2 ?_; intro _) | intro _)
theorem Px {fRec fRec' : Tr31 → Int → Int → Option Bool} (hfRec : ∀ a0 a1 a2, Le (fRec a0 a1 a2) (fRec' a0 a1 a2)) (p0 : Tr31) (p1 : Int) (p2 : Int) : Le (FR fRec p0 p1 p2) (FR fRec' p0 p1 p2) := by
  unfold FR
  repeat' with_reducible (first | apply Le.orR' | apply Le.bind' | apply Le.ite' | apply Le.loopM | apply Le.altS' | exact hfRec | exact hfRec _ _ _ | apply Pn | exact Le.rfl' _ | (refine Le.pi2 ?_; intro _) | intro _)
theorem Lx : ∀ (m : Nat) a0 a1 a2, Le (FC m a0 a1 a2) (FC (m + 1) a0 a1 a2)
  | 0, a0, a1, a2 => fun _ h => nomatch h
  | m + 1, a0, a1, a2 => Px (Lx m) a0 a1 a2
theorem Mg {fRec fRec' : Tr36 → Option Tr28} (hfRec : ∀ a0, Le (fRec a0) (fRec' a0)) (p0 : Tr36) : ∀ s, Le (Dd fRec p0 s) (Dd fRec' p0 s) := by
  rintro ⟨x2, x3⟩
  show Le (Dd fRec p0 (x2, x3)) (Dd fRec' p0 (x2, x3))
  unfold Dd
  repeat' with_reducible (first | apply Le.orR' | apply Le.bind' | apply Le.ite' | apply Le.loopM | apply Le.altS' | exact hfRec | exact hfRec _ | exact Le.rfl' _ | (refine Le.pi2 ?_; intro _) | intro _)
theorem Md {fRec fRec' : Tr36 → Option Tr28} (hfRec : ∀ a0, Le (fRec a0) (fRec' a0)) (p0 : Tr36) : Le (D4 fRec p0) (D4 fRec' p0) := by
  unfold D4
  repeat' with_reducible (first | apply Le.orR' | apply Le.bind' | apply Le.ite' | apply Le.loopM | apply Le.altS' | exact hfRec | exact hfRec _ | apply Mg | exact Le.rfl' _ | (refine Le.pi2 ?_; intro _) | intro _)
theorem Jh : ∀ (m : Nat) a0, Le (Dq m a0) (Dq (m + 1) a0)
  | 0, a0 => fun _ h => nomatch h
  | m + 1, a0 => Md (Jh m) a0
theorem Mk {fRec fRec' : Tr39 → Option Tr31} (hfRec : ∀ a0, Le (fRec a0) (fRec' a0)) (p0 : Tr39) : ∀ s, Le (Dm fRec p0 s) (Dm fRec' p0 s) := by
  rintro ⟨x3, x4⟩
  show Le (Dm fRec p0 (x3, x4)) (Dm fRec' p0 (x3, x4))
  unfold Dm
  repeat' with_reducible (first | apply Le.orR' | apply Le.bind' | apply Le.ite' | apply Le.loopM | apply Le.altS' | exact hfRec | exact hfRec _ | exact Le.rfl' _ | (refine Le.pi2 ?_; intro _) | intro _)
theorem Mt {fRec fRec' : Tr39 → Option Tr31} (hfRec : ∀ a0, Le (fRec a0) (fRec' a0)) (p0 : Tr39) : Le (D6 fRec p0) (D6 fRec' p0) := by
  unfold D6
  repeat' with_reducible (first | apply Le.orR' | apply Le.bind' | apply Le.ite' | apply Le.loopM | apply Le.altS' | exact hfRec | exact hfRec _ | apply Mk | exact Le.rfl' _ | (refine Le.pi2 ?_; intro _) | intro _)
theorem Jl : ∀ (m : Nat) a0, Le (DB m a0) (DB (m + 1) a0)
  | 0, a0 => fun _ h => nomatch h
  | m + 1, a0 => Mt (Jl m) a0
theorem Pi {fRec fRec' : Tr28 → Int → Option Tr28} (hfRec : ∀ a0 a1, Le (fRec a0 a1) (fRec' a0 a1)) (p0 : Tr28) (p1 : Int) (x3 : Int) (x4 : Int) : ∀ s, Le (C4 fRec p0 p1 x3 x4 s) (C4 fRec' p0 p1 x3 x4 s) := by
  rintro ⟨x6, x7⟩
  show Le (C4 fRec p0 p1 x3 x4 (x6, x7)) (C4 fRec' p0 p1 x3 x4 (x6, x7))
  unfold C4
  repeat' with_reducible (first | apply Le.orR' | apply Le.bind' | apply Le.ite' | apply Le.loopM | apply Le.altS' | exact hfRec | exact hfRec _ _ | exact Le.rfl' _ | (refine Le.pi2 ?_; intro _) | intro _)
theorem Pa {fRec fRec' : Tr28 → Int → Option Tr28} (hfRec : ∀ a0 a1, Le (fRec a0 a1) (fRec' a0 a1)) (p0 : Tr28) (p1 : Int) : Le (FN fRec p0 p1) (FN fRec' p0 p1) := by
  unfold FN
  repeat' with_reducible (first | apply Le.orR' | apply Le.bind' | apply Le.ite' | apply Le.loopM | apply Le.altS' | exact hfRec | exact hfRec _ _ | apply Pi | exact Le.rfl' _ | (refine Le.pi2 ?_; intro _) | intro _)
theorem LL : ∀ (m : Nat) a0 a1, Le (ER m a0 a1) (ER (m + 1) a0 a1)
  | 0, a0, a1 => fun _ h => nomatch h
  | m + 1, a0, a1 => Pa (LL m) a0 a1
theorem Qw {fRec fRec' : Tr31 → Int → Option Tr31} (hfRec : ∀ a0 a1, Le (fRec a0 a1) (fRec' a0 a1)) (p0 : Tr31) (p1 : Int) : ∀ s, Le (EQ fRec p0 p1 s) (EQ fRec' p0 p1 s) := by
  rintro ⟨x12, x13⟩
  show Le (EQ fRec p0 p1 (x12, x13)) (EQ fRec' p0 p1 (x12, x13))
  unfold EQ
  repeat' with_reducible (first | apply Le.orR' | apply Le.bind' | apply Le.ite' | apply Le.loopM | apply Le.altS' | exact hfRec | exact hfRec _ _ | exact Le.rfl' _ | (refine Le.pi2 ?_; intro _) | intro _)
theorem QY {fRec fRec' : Tr31 → Int → Option Tr31} (hfRec : ∀ a0 a1, Le (fRec a0 a1) (fRec' a0 a1)) (p0 : Tr31) (p1 : Int) : Le (Gn fRec p0 p1) (Gn fRec' p0 p1) := by
  unfold Gn
  repeat' with_reducible (first | apply Le.orR' | apply Le.bind' | apply Le.ite' | apply Le.loopM | apply Le.altS' | exact hfRec | exact hfRec _ _ | apply Qw | exact Le.rfl' _ | (refine Le.pi2 ?_; intro _) | intro _)
theorem ME : ∀ (m : Nat) a0 a1, Le (EC m a0 a1) (EC (m + 1) a0 a1)
  | 0, a0, a1 => fun _ h => nomatch h
  | m + 1, a0, a1 => QY (ME m) a0 a1
theorem Oj {fRec fRec' : Tr31 → Tr31 → Option Bool} (hfRec : ∀ a0 a1, Le (fRec a0 a1) (fRec' a0 a1)) (p0 : Tr31) (p1 : Tr31) : ∀ s, Le (E8 fRec p0 p1 s) (E8 fRec' p0 p1 s) := by
  intro x3
  unfold E8
  repeat' with_reducible (first | apply Le.orR' | apply Le.bind' | apply Le.ite' | apply Le.loopM | apply Le.altS' | exact hfRec | exact hfRec _ _ | exact Le.rfl' _ | (refine Le.pi2 ?_; intro _) | intro _)
theorem OZ {fRec fRec' : Tr31 → Tr31 → Option Bool} (hfRec : ∀ a0 a1, Le (fRec a0 a1) (fRec' a0 a1)) (p0 : Tr31) (p1 : Tr31) : Le (Fa fRec p0 p1) (Fa fRec' p0 p1) := by
  unfold Fa
  repeat' with_reducible (first | apply Le.orR' | apply Le.bind' | apply Le.ite' | apply Le.loopM | apply Le.altS' | exact hfRec | exact hfRec _ _ | apply Oj | exact Le.rfl' _ | (refine Le.pi2 ?_; intro _) | intro _)
theorem Kx : ∀ (m : Nat) a0 a1, Le (EK m a0 a1) (EK (m + 1) a0 a1)
  | 0, a0, a1 => fun _ h => nomatch h
  | m + 1, a0, a1 => OZ (Kx m) a0 a1
end Go.Proofs.YtgoifghhcekahaaGreatDoor
