/- Twins with fuel of Og functions: what a twin answers, the function answers. Conditions: none. -/
import Derived.Test.YtgoifghhcekahaaGreatDooreLP
import Derived.Test.YtgoifghhcekahaaGreatDooreA3
namespace Go.Proofs.YtgoifghhcekahaaGreatDoor
open Go Go.RowKit
set_option linter.unusedVariables false
set_option linter.unusedSimpArgs false
set_option maxRecDepth 20000
set_option maxHeartbeats 1600000
abbrev Le {α : Type} (a b : Option α) : Prop := ∀ r,a = some r → b = some r
theorem Le.rfl' {α : Type} (a : Option α) : Le a a := fun _ h => h
theorem Le.bind' {α β : Type} {a b : Option α} {f g : α → Option β} (h : Le a b) (hf : ∀ x,Le (f x) (g x)) : Le (a.bind f) (b.bind g) := fun r e => by
  obtain ⟨x,h1,h2⟩ := Cc e
  rw [h x h1,Option.bind_some]; exact hf x r h2
theorem Le.ite' {α : Type} {c : Prop} [Decidable c] {a a' b b' : Option α} (h1 : Le a a') (h2 : Le b b') : Le (if c then a else b) (if c then a' else b') := fun r e => by
  by_cases h : c
  · rw [if_pos h] at e ⊢; exact h1 r e
  · rw [if_neg h] at e ⊢; exact h2 r e
theorem Le.orR' {α β : Type} {a b : Option (α ⊕ β)} {f g : α → Option β} (h : Le a b) (hf : ∀ x,Le (f x) (g x)) : Le (Hc a f) (Hc b g) :=
  Le.bind' h fun x => by
    cases x with
    | inl t => exact hf t
    | inr e => exact Le.rfl' _
def QZ {σ ε : Type} (n : Nat) (step : σ → Option (σ ⊕ ε)) (s : σ) : Option ε := Ib step n s
theorem MJ {σ ε : Type} {S T : σ → Option (σ ⊕ ε)} (h : ∀ s,Le (S s) (T s)) : ∀ (n : Nat) (s : σ),Le (Ib S n s) (Ib T n s)
  | 0,s => Le.rfl' _
  | n + 1,s => fun r e => by
    unfold Ib at e ⊢
    cases hs : S s with
    | none => rw [hs] at e; cases e
    | some q =>
      rw [hs] at e; rw [h s q hs]
      cases q with
      | inl s' => exact MJ h n s' r e
      | inr _ => exact e
theorem Le.loop' {σ ε : Type} {n : Nat} {S T : σ → Option (σ ⊕ ε)} {s : σ} (h : ∀ s,Le (S s) (T s)) : Le (QZ n S s) (Ac T s) := fun r e => GD.2 ⟨n,MJ h n s r e⟩
theorem Le.pi2 {α β γ : Type} {f g : α × β → Option γ} (h : ∀ a b,Le (f (a,b)) (g (a,b))) : ∀ x,Le (f x) (g x) := fun x => h x.1 x.2
theorem C7 {β : Type} {g : Nat → Option β} (hm : ∀ n r,g n = some r → g (n + 1) = some r) {n : Nat} {r : β} (h : g n = some r) : GY g = some r := by
  have up : ∀ (d m : Nat) (q : β),g m = some q → g (m + d) = some q := fun d => by
    induction d with
    | zero => exact fun m q h => h
    | succ d ih => exact fun m q h => hm _ _ (ih m q h)
  refine Wh n h fun m q hq => ?_
  have h1 := up m n r h
  have h2 := up n m q hq
  rw [Nat.add_comm] at h2
  exact Option.some.inj (h2.symm.trans h1)
theorem Le.loopM {σ ε : Type} {S T : σ → Option (σ ⊕ ε)} {s : σ} (h : ∀ s,Le (S s) (T s)) : Le (Ac S s) (Ac T s) := fun r e => by
  obtain ⟨n,hn⟩ := GD.1 e
  exact GD.2 ⟨n,MJ h n s r hn⟩
theorem Le.sall' {κ : Type} {lt : κ → κ → Bool} {f g : κ → Option (List κ)} (h : ∀ x,Le (f x) (g x)) : ∀ (l a : List κ),Le (Jj lt f l a) (Jj lt g l a)
  | [],a => Le.rfl' _
  | x :: l,a => by
    show Le ((f x).bind _) ((g x).bind _)
    exact Le.bind' (h x) fun r => Le.sall' h l _
theorem PS {fRec fRec' : Tr28 → Option Bool} (hfRec : ∀ a0,Le (fRec a0) (fRec' a0)) (p0 : Tr28) : ∀ s,Le (E2 fRec p0 s) (E2 fRec' p0 s) := by
  intro x1
  unfold E2
  repeat' with_reducible (first | apply Le.bind' | apply Le.ite' | exact hfRec | exact hfRec _ | exact Le.rfl' _ | intro _)
theorem Qv {fRec fRec' : Tr28 → Option Bool} (hfRec : ∀ a0,Le (fRec a0) (fRec' a0)) (p0 : Tr28) : Le (EZ fRec p0) (EZ fRec' p0) := by
  unfold EZ
  repeat' with_reducible (first | apply Le.orR' | apply Le.ite' | apply Le.loopM | exact hfRec | exact hfRec _ | apply PS | exact Le.rfl' _ | intro _)
theorem Mq : ∀ (m : Nat) a0,Le (Fc m a0) (Fc (m + 1) a0)
  | 0,a0 => fun _ h => nomatch h
  | m + 1,a0 => Qv (Mq m) a0
theorem QG {fRec fRec' : Tr28 → Option Int} (hfRec : ∀ a0,Le (fRec a0) (fRec' a0)) (p0 : Tr28) : ∀ s,Le (DL fRec p0 s) (DL fRec' p0 s) := by
  rintro ⟨x2,x3⟩
  show Le (DL fRec p0 (x2,x3)) (DL fRec' p0 (x2,x3))
  unfold DL
  repeat' with_reducible (first | apply Le.bind' | apply Le.ite' | exact hfRec | exact hfRec _ | exact Le.rfl' _ | intro _)
theorem PM {fRec fRec' : Tr28 → Option Int} (hfRec : ∀ a0,Le (fRec a0) (fRec' a0)) (p0 : Tr28) : Le (EX fRec p0) (EX fRec' p0) := by
  unfold EX
  repeat' with_reducible (first | apply Le.bind' | apply Le.loopM | exact hfRec | exact hfRec _ | apply QG | exact Le.rfl' _ | intro _)
theorem Mt : ∀ (m : Nat) a0,Le (Fe m a0) (Fe (m + 1) a0)
  | 0,a0 => fun _ h => nomatch h
  | m + 1,a0 => PM (Mt m) a0
theorem Qq {fRec fRec' : Tr28 → Option Int} (hfRec : ∀ a0,Le (fRec a0) (fRec' a0)) (p0 : Tr28) : ∀ s,Le (DM fRec p0 s) (DM fRec' p0 s) := by
  rintro ⟨x2,x3⟩
  show Le (DM fRec p0 (x2,x3)) (DM fRec' p0 (x2,x3))
  unfold DM
  repeat' with_reducible (first | apply Le.bind' | apply Le.ite' | exact hfRec | exact hfRec _ | exact Le.rfl' _ | intro _)
theorem Qd {fRec fRec' : Tr28 → Option Int} (hfRec : ∀ a0,Le (fRec a0) (fRec' a0)) (p0 : Tr28) : Le (ES fRec p0) (ES fRec' p0) := by
  unfold ES
  repeat' with_reducible (first | apply Le.bind' | apply Le.loopM | exact hfRec | exact hfRec _ | apply Qq | exact Le.rfl' _ | intro _)
theorem Mc : ∀ (m : Nat) a0,Le (E7 m a0) (E7 (m + 1) a0)
  | 0,a0 => fun _ h => nomatch h
  | m + 1,a0 => Qd (Mc m) a0
theorem Qo {fRec fRec' : Tr28 → Tr28 → Option Bool} (hfRec : ∀ a0 a1,Le (fRec a0 a1) (fRec' a0 a1)) (p0 : Tr28) (p1 : Tr28) : ∀ s,Le (ET fRec p0 p1 s) (ET fRec' p0 p1 s) := by
  intro x1
  unfold ET
  repeat' with_reducible (first | apply Le.bind' | apply Le.ite' | exact hfRec | exact hfRec _ _ | exact Le.rfl' _ | intro _)
theorem PZ {fRec fRec' : Tr28 → Tr28 → Option Bool} (hfRec : ∀ a0 a1,Le (fRec a0 a1) (fRec' a0 a1)) (p0 : Tr28) (p1 : Tr28) : Le (EV fRec p0 p1) (EV fRec' p0 p1) := by
  unfold EV
  repeat' with_reducible (first | apply Le.orR' | apply Le.ite' | apply Le.loopM | exact hfRec | exact hfRec _ _ | apply Qo | exact Le.rfl' _ | intro _)
theorem Mn : ∀ (m : Nat) a0 a1,Le (FK m a0 a1) (FK (m + 1) a0 a1)
  | 0,a0,a1 => fun _ h => nomatch h
  | m + 1,a0,a1 => PZ (Mn m) a0 a1
theorem QK {fRec fRec' : Tr31 → Option Bool} (hfRec : ∀ a0,Le (fRec a0) (fRec' a0)) (p0 : Tr31) : ∀ s,Le (FG fRec p0 s) (FG fRec' p0 s) := by
  intro x4
  unfold FG
  repeat' with_reducible (first | apply Le.bind' | apply Le.ite' | exact hfRec | exact hfRec _ | exact Le.rfl' _ | intro _)
theorem Qh {fRec fRec' : Tr31 → Option Bool} (hfRec : ∀ a0,Le (fRec a0) (fRec' a0)) (p0 : Tr31) : Le (FF fRec p0) (FF fRec' p0) := by
  unfold FF
  repeat' with_reducible (first | apply Le.orR' | apply Le.bind' | apply Le.ite' | apply Le.loopM | exact hfRec | exact hfRec _ | apply QK | exact Le.rfl' _ | intro _)
theorem My : ∀ (m : Nat) a0,Le (EB m a0) (EB (m + 1) a0)
  | 0,a0 => fun _ h => nomatch h
  | m + 1,a0 => Qh (My m) a0
theorem Qs {fRec fRec' : Tr31 → Option Int} (hfRec : ∀ a0,Le (fRec a0) (fRec' a0)) (p0 : Tr31) : ∀ s,Le (Ez fRec p0 s) (Ez fRec' p0 s) := by
  rintro ⟨x2,x3⟩
  show Le (Ez fRec p0 (x2,x3)) (Ez fRec' p0 (x2,x3))
  unfold Ez
  repeat' with_reducible (first | apply Le.bind' | apply Le.ite' | exact hfRec | exact hfRec _ | exact Le.rfl' _ | intro _)
theorem Pu {fRec fRec' : Tr31 → Option Int} (hfRec : ∀ a0,Le (fRec a0) (fRec' a0)) (p0 : Tr31) : Le (Gu fRec p0) (Gu fRec' p0) := by
  unfold Gu
  repeat' with_reducible (first | apply Le.bind' | apply Le.loopM | exact hfRec | exact hfRec _ | apply Qs | exact Le.rfl' _ | intro _)
theorem Mm : ∀ (m : Nat) a0,Le (E5 m a0) (E5 (m + 1) a0)
  | 0,a0 => fun _ h => nomatch h
  | m + 1,a0 => Pu (Mm m) a0
theorem P2 {fRec fRec' : Tr31 → Option Int} (hfRec : ∀ a0,Le (fRec a0) (fRec' a0)) (p0 : Tr31) : ∀ s,Le (Eu fRec p0 s) (Eu fRec' p0 s) := by
  rintro ⟨x4,x5⟩
  show Le (Eu fRec p0 (x4,x5)) (Eu fRec' p0 (x4,x5))
  unfold Eu
  repeat' with_reducible (first | apply Le.bind' | apply Le.ite' | exact hfRec | exact hfRec _ | exact Le.rfl' _ | intro _)
theorem Qt {fRec fRec' : Tr31 → Option Int} (hfRec : ∀ a0,Le (fRec a0) (fRec' a0)) (p0 : Tr31) : Le (Gq fRec p0) (Gq fRec' p0) := by
  unfold Gq
  repeat' with_reducible (first | apply Le.bind' | apply Le.ite' | apply Le.loopM | exact hfRec | exact hfRec _ | apply P2 | exact Le.rfl' _ | intro _)
theorem Mj : ∀ (m : Nat) a0,Le (E8 m a0) (E8 (m + 1) a0)
  | 0,a0 => fun _ h => nomatch h
  | m + 1,a0 => Qt (Mj m) a0
theorem QF {fRec fRec' : Tr31 → Option Int} (hfRec : ∀ a0,Le (fRec a0) (fRec' a0)) (p0 : Tr31) : ∀ s,Le (Es fRec p0 s) (Es fRec' p0 s) := by
  rintro ⟨x3,x4⟩
  show Le (Es fRec p0 (x3,x4)) (Es fRec' p0 (x3,x4))
  unfold Es
  repeat' with_reducible (first | apply Le.bind' | apply Le.ite' | exact hfRec | exact hfRec _ | exact Le.rfl' _ | intro _)
theorem QE {fRec fRec' : Tr31 → Option Int} (hfRec : ∀ a0,Le (fRec a0) (fRec' a0)) (p0 : Tr31) : Le (Gg fRec p0) (Gg fRec' p0) := by
  unfold Gg
  repeat' with_reducible (first | apply Le.bind' | apply Le.ite' | apply Le.loopM | exact hfRec | exact hfRec _ | apply QF | exact Le.rfl' _ | intro _)
theorem Me : ∀ (m : Nat) a0,Le (EG m a0) (EG (m + 1) a0)
  | 0,a0 => fun _ h => nomatch h
  | m + 1,a0 => QE (Me m) a0
def HB (nE : Nat) (fRec_check_Cut : Tr36 → Int → Option Tr36) (p0 : List Tr36) (p1 : Int) : (List Tr36 × Int) → Option ((List Tr36 × Int) ⊕ (List Tr36))
  | (x2,x3) => (if x3 < (p0.length : Int) then (ix p0 x3).bind fun x4 => (fRec_check_Cut x4 p1).bind fun x5 => (Fy x2 ([x5] : List Tr36)).bind fun x6 => some (.inl (x6,Ae (x3 + 1))) else some (.inr x2))
theorem MQ (nE : Nat) {fRec_check_Cut fRec_check_Cut' : Tr36 → Int → Option Tr36} (hfRec_check_Cut : ∀ a0 a1,Le (fRec_check_Cut a0 a1) (fRec_check_Cut' a0 a1)) (p0 : List Tr36) (p1 : Int) : ∀ s,Le (HB nE fRec_check_Cut p0 p1 s) (B8 fRec_check_Cut' p0 p1 s) := by
  rintro ⟨x2,x3⟩
  unfold HB B8
  repeat' with_reducible (first | apply Le.bind' | apply Le.ite' | exact hfRec_check_Cut | exact hfRec_check_Cut _ _ | exact Le.rfl' _ | intro _)
theorem MA {fRec_check_Cut fRec_check_Cut' : Tr36 → Int → Option Tr36} (hfRec_check_Cut : ∀ a0 a1,Le (fRec_check_Cut a0 a1) (fRec_check_Cut' a0 a1)) (p0 : List Tr36) (p1 : Int) : ∀ s,Le (B8 fRec_check_Cut p0 p1 s) (B8 fRec_check_Cut' p0 p1 s) := by
  rintro ⟨x2,x3⟩
  show Le (B8 fRec_check_Cut p0 p1 (x2,x3)) (B8 fRec_check_Cut' p0 p1 (x2,x3))
  unfold B8
  repeat' with_reducible (first | apply Le.bind' | apply Le.ite' | exact hfRec_check_Cut | exact hfRec_check_Cut _ _ | exact Le.rfl' _ | intro _)
def IL (nE : Nat) (fRec_check_Cut : Tr36 → Int → Option Tr36) (p0 : List Tr36) (p1 : Int) : Option (List Tr36) := (QZ nE (HB nE fRec_check_Cut p0 p1) ([],0)).bind fun x1 => some x1
theorem O2 (nE : Nat) {fRec_check_Cut fRec_check_Cut' : Tr36 → Int → Option Tr36} (hfRec_check_Cut : ∀ a0 a1,Le (fRec_check_Cut a0 a1) (fRec_check_Cut' a0 a1)) (p0 : List Tr36) (p1 : Int) : Le (IL nE fRec_check_Cut p0 p1) (Do fRec_check_Cut' p0 p1) := by
  unfold IL Do
  repeat' with_reducible (first | apply Le.bind' | apply Le.loop' | exact hfRec_check_Cut | exact hfRec_check_Cut _ _ | apply MQ | exact Le.rfl' _ | intro _)
theorem O4 {fRec_check_Cut fRec_check_Cut' : Tr36 → Int → Option Tr36} (hfRec_check_Cut : ∀ a0 a1,Le (fRec_check_Cut a0 a1) (fRec_check_Cut' a0 a1)) (p0 : List Tr36) (p1 : Int) : Le (Do fRec_check_Cut p0 p1) (Do fRec_check_Cut' p0 p1) := by
  unfold Do
  repeat' with_reducible (first | apply Le.bind' | apply Le.loopM | exact hfRec_check_Cut | exact hfRec_check_Cut _ _ | apply MA | exact Le.rfl' _ | intro _)
def CH (nE : Nat) (p0 : List Tr36) (p1c0 : Int) : Int → Option (Int ⊕ (Unit ⊕ Int))
  | x1 => (if x1 < (p0.length : Int) then (ix p0 x1).bind fun x2 => (if (EH x2 p1c0) = true then some (.inr (.inr x1)) else some (.inl (Ae (x1 + 1)))) else some (.inr (.inl ())))
theorem FQ (nE : Nat) (p0 : List Tr36) (p1c0 : Int) : ∀ s,Le (CH nE p0 p1c0 s) (AJ p0 p1c0 s) := by
  intro x1
  unfold CH AJ
  repeat' with_reducible (first | apply Le.bind' | apply Le.ite' | exact Le.rfl' _ | intro _)
def C0 (nE : Nat) (p0 : List Tr36) (p1c0 : Int) : Option Int := Hc (QZ nE (CH nE p0 p1c0) 0) fun _ => some (-1)
theorem Gb (nE : Nat) (p0 : List Tr36) (p1c0 : Int) : Le (C0 nE p0 p1c0) (A3 p0 p1c0) := by
  unfold C0 A3
  repeat' with_reducible (first | apply Le.orR' | apply Le.loop' | apply FQ | exact Le.rfl' _ | intro _)
def CF (nE : Nat) (p0 : List Tr36) (p1c0 : Int) : Option Bool := (C0 nE p0 p1c0).bind fun x1 => some (decide (0 ≤ x1))
theorem FO (nE : Nat) (p0 : List Tr36) (p1c0 : Int) : Le (CF nE p0 p1c0) (A6 p0 p1c0) := by
  unfold CF A6
  repeat' with_reducible (first | apply Le.bind' | apply Gb | exact Le.rfl' _ | intro _)
def GJ (nE : Nat) (p0 : List Tr36) (p1c0 : Int) : (List Tr36 × Int) → Option ((List Tr36 × Int) ⊕ (List Tr36))
  | (x2,x3) => (if x3 < (p0.length : Int) then ((ix p0 x3).bind fun x5 => (if (D4 x5 p1c0) = true then (Fy x2 ([x5] : List Tr36)).bind fun x6 => some x6 else some x2)).bind fun x4 => some (.inl (x4,Ae (x3 + 1))) else some (.inr x2))
theorem KL (nE : Nat) (p0 : List Tr36) (p1c0 : Int) : ∀ s,Le (GJ nE p0 p1c0 s) (CW p0 p1c0 s) := by
  rintro ⟨x2,x3⟩
  unfold GJ CW
  repeat' with_reducible (first | apply Le.bind' | apply Le.ite' | exact Le.rfl' _ | intro _)
def HV (nE : Nat) (p0 : List Tr36) (p1c0 : Int) : Option (List Tr36) := (QZ nE (GJ nE p0 p1c0) ([],0)).bind fun x1 => some x1
theorem NT (nE : Nat) (p0 : List Tr36) (p1c0 : Int) : Le (HV nE p0 p1c0) (DF p0 p1c0) := by
  unfold HV DF
  repeat' with_reducible (first | apply Le.bind' | apply Le.loop' | apply KL | exact Le.rfl' _ | intro _)
def FN (nE : Nat) (p0 : Int) (p1 : List Tr36) (p2 : Int) (p3 : Int) : Option Tr36 := (CF nE p1 p3).bind fun x1 => (if x1 = true then some (Tr36.of (p3,0,0,([] : List Tr36))) else (HV nE p1 p2).bind fun x2 => (if (x2.length : Int) = 0 then some (Tr36.of (p2,0,0,([] : List Tr36))) else (if (x2.length : Int) = 1 then (ix x2 0).bind fun x3 => some x3 else some (Tr36.of (p0,0,0,x2)))))
theorem LZ (nE : Nat) (p0 : Int) (p1 : List Tr36) (p2 : Int) (p3 : Int) : Le (FN nE p0 p1 p2 p3) (Cn p0 p1 p2 p3) := by
  unfold FN Cn
  repeat' with_reducible (first | apply Le.bind' | apply Le.ite' | apply FO | apply NT | exact Le.rfl' _ | intro _)
def IX (nE : Nat) (fRec : Tr36 → Int → Option Tr36) (p0 : Tr36) (p1 : Int) : Option Tr36 := ((IL nE fRec) p0.un.2.2.2 p1).bind fun x1 => Hc (if p0.un.1 = 3 then (if p0.un.2.1 = 5 then some (.inr (Tr36.of ((Ao (decide (p0.un.2.2.1 = p1))).un.1,(Ao (decide (p0.un.2.2.1 = p1))).un.2.1,(Ao (decide (p0.un.2.2.1 = p1))).un.2.2.1,(Ao (decide (p0.un.2.2.1 = p1))).un.2.2.2))) else some (.inl ())) else (if p0.un.1 = 4 then (if (x1.length : Int) = 1 then (ix x1 0).bind fun x3 => some (decide (x3.un.1 = 1)) else some false).bind fun x2 => (if x2 = true then some (.inr (Tr36.of ((Ao false).un.1,(Ao false).un.2.1,(Ao false).un.2.2.1,(Ao false).un.2.2.2))) else (if (x1.length : Int) = 1 then (ix x1 0).bind fun x5 => some (decide (x5.un.1 = 2)) else some false).bind fun x4 => (if x4 = true then some (.inr (Tr36.of ((Ao true).un.1,(Ao true).un.2.1,(Ao true).un.2.2.1,(Ao true).un.2.2.2))) else some (.inl ()))) else (if p0.un.1 = 5 then (FN nE p0.un.1 x1 1 2).bind fun x6 => some (.inr x6) else (if p0.un.1 = 6 then (FN nE p0.un.1 x1 2 1).bind fun x7 => some (.inr x7) else some (.inl ()))))) fun _ => some (Tr36.of (p0.un.1,p0.un.2.1,p0.un.2.2.1,x1))
theorem OL (nE : Nat) {fRec fRec' : Tr36 → Int → Option Tr36} (hfRec : ∀ a0 a1,Le (fRec a0 a1) (fRec' a0 a1)) (p0 : Tr36) (p1 : Int) : Le (IX nE fRec p0 p1) (DE fRec' p0 p1) := by
  unfold IX DE
  repeat' with_reducible (first | apply Le.orR' | apply Le.bind' | apply Le.ite' | exact hfRec | exact hfRec _ _ | apply O2 | apply LZ | exact Le.rfl' _ | intro _)
theorem OG {fRec fRec' : Tr36 → Int → Option Tr36} (hfRec : ∀ a0 a1,Le (fRec a0 a1) (fRec' a0 a1)) (p0 : Tr36) (p1 : Int) : Le (DE fRec p0 p1) (DE fRec' p0 p1) := by
  unfold DE
  repeat' with_reducible (first | apply Le.orR' | apply Le.bind' | apply Le.ite' | exact hfRec | exact hfRec _ _ | apply O4 | exact Le.rfl' _ | intro _)
def Jk (nE : Nat) : Nat → Tr36 → Int → Option Tr36
  | 0 => fun _ _ => none
  | n + 1 => IX nE (Jk nE n)
theorem K0 (nE : Nat) : ∀ (m : Nat) a0 a1,Le (Jk nE m a0 a1) (Dv m a0 a1)
  | 0,a0,a1 => fun _ h => nomatch h
  | m + 1,a0,a1 => OL nE (K0 nE m) a0 a1
theorem IG : ∀ (m : Nat) a0 a1,Le (Dv m a0 a1) (Dv (m + 1) a0 a1)
  | 0,a0,a1 => fun _ h => nomatch h
  | m + 1,a0,a1 => OG (IG m) a0 a1
def Ow (nE : Nat) (p0 : Tr36) (p1 : Int) : Option Tr36 := Jk nE nE p0 p1
theorem Tj (nE : Nat) (p0 : Tr36) (p1 : Int) : Le (Ow nE p0 p1) (J3 p0 p1) := fun r e => C7 (g := fun n => Dv n p0 p1) (fun n r h => IG n p0 p1 r h) (n := nE) (K0 nE nE p0 p1 r e)
def Js (nE : Nat) (fRec : Tr39 → Int → Option Tr39) (p0 : Tr39) (p1 : Int) : (List Tr39 × Int) → Option ((List Tr39 × Int) ⊕ (List Tr39))
  | (x11,x12) => (if x12 < (p0.un.2.2.2.2.length : Int) then (ix p0.un.2.2.2.2 x12).bind fun x13 => (fRec (Tr39.of (x13.un.1,f36 x13.un.2.1,x13.un.2.2.1,x13.un.2.2.2.1,x13.un.2.2.2.2)) p1).bind fun x14 => (Fy x11 ([Tr39.of (x14.un.1,f36 x14.un.2.1,x14.un.2.2.1,x14.un.2.2.2.1,x14.un.2.2.2.2)] : List Tr39)).bind fun x15 => some (.inl (x15,Ae (x12 + 1))) else some (.inr x11))
theorem Q4 (nE : Nat) {fRec fRec' : Tr39 → Int → Option Tr39} (hfRec : ∀ a0 a1,Le (fRec a0 a1) (fRec' a0 a1)) (p0 : Tr39) (p1 : Int) : ∀ s,Le (Js nE fRec p0 p1 s) (DK fRec' p0 p1 s) := by
  rintro ⟨x11,x12⟩
  unfold Js DK
  repeat' with_reducible (first | apply Le.bind' | apply Le.ite' | exact hfRec | exact hfRec _ _ | exact Le.rfl' _ | intro _)
theorem Pw {fRec fRec' : Tr39 → Int → Option Tr39} (hfRec : ∀ a0 a1,Le (fRec a0 a1) (fRec' a0 a1)) (p0 : Tr39) (p1 : Int) : ∀ s,Le (DK fRec p0 p1 s) (DK fRec' p0 p1 s) := by
  rintro ⟨x11,x12⟩
  show Le (DK fRec p0 p1 (x11,x12)) (DK fRec' p0 p1 (x11,x12))
  unfold DK
  repeat' with_reducible (first | apply Le.bind' | apply Le.ite' | exact hfRec | exact hfRec _ _ | exact Le.rfl' _ | intro _)
def Ju (nE : Nat) (fRec : Tr39 → Int → Option Tr39) (p0 : Tr39) (p1 : Int) : Option Tr39 := (if (decide (p0.un.1 = 1) || decide (p0.un.1 = 5)) = true then (Ow nE (f36 p0.un.2.1) p1).bind fun x5 => some (x5.un.1,x5.un.2.1,x5.un.2.2.1,x5.un.2.2.2) else some (p0.un.2.1.un.1,p0.un.2.1.un.2.1,p0.un.2.1.un.2.2.1,p0.un.2.1.un.2.2.2)).bind fun (x1,x2,x3,x4) => (if (decide (p0.un.1 = 5) && (decide ((p0.un.2.2.2.2.length : Int) = 2) && decide (x1 = 1))) = true then (ix p0.un.2.2.2.2 0).bind fun x6 => (fRec (Tr39.of (x6.un.1,f36 x6.un.2.1,x6.un.2.2.1,x6.un.2.2.2.1,x6.un.2.2.2.2)) p1).bind fun x7 => some (Tr39.of (x7.un.1,f36 x7.un.2.1,x7.un.2.2.1,x7.un.2.2.2.1,x7.un.2.2.2.2)) else (if (decide (p0.un.1 = 5) && (decide ((p0.un.2.2.2.2.length : Int) = 2) && decide (x1 = 2))) = true then (ix p0.un.2.2.2.2 1).bind fun x8 => (fRec (Tr39.of (x8.un.1,f36 x8.un.2.1,x8.un.2.2.1,x8.un.2.2.2.1,x8.un.2.2.2.2)) p1).bind fun x9 => some (Tr39.of (x9.un.1,f36 x9.un.2.1,x9.un.2.2.1,x9.un.2.2.2.1,x9.un.2.2.2.2)) else (QZ nE (Js nE fRec p0 p1) ([],0)).bind fun x10 => some (Tr39.of (p0.un.1,Tr36.of (x1,x2,x3,x4),p0.un.2.2.1,p0.un.2.2.2.1,x10))))
theorem PX (nE : Nat) {fRec fRec' : Tr39 → Int → Option Tr39} (hfRec : ∀ a0 a1,Le (fRec a0 a1) (fRec' a0 a1)) (p0 : Tr39) (p1 : Int) : Le (Ju nE fRec p0 p1) (ER fRec' p0 p1) := by
  unfold Ju ER
  repeat' with_reducible (first | apply Le.bind' | apply Le.ite' | apply Le.loop' | exact hfRec | exact hfRec _ _ | apply Tj | apply Q4 | exact Le.rfl' _ | (refine Le.pi2 ?_; intro _) | intro _)
theorem Qb {fRec fRec' : Tr39 → Int → Option Tr39} (hfRec : ∀ a0 a1,Le (fRec a0 a1) (fRec' a0 a1)) (p0 : Tr39) (p1 : Int) : Le (ER fRec p0 p1) (ER fRec' p0 p1) := by
  unfold ER
  repeat' with_reducible (first | apply Le.bind' | apply Le.ite' | apply Le.loopM | exact hfRec | exact hfRec _ _ | apply Pw | exact Le.rfl' _ | (refine Le.pi2 ?_; intro _) | intro _)
def Kg (nE : Nat) : Nat → Tr39 → Int → Option Tr39
  | 0 => fun _ _ => none
  | n + 1 => Ju nE (Kg nE n)
theorem Mu (nE : Nat) : ∀ (m : Nat) a0 a1,Le (Kg nE m a0 a1) (Dr m a0 a1)
  | 0,a0,a1 => fun _ h => nomatch h
  | m + 1,a0,a1 => PX nE (Mu nE m) a0 a1
theorem Jt : ∀ (m : Nat) a0 a1,Le (Dr m a0 a1) (Dr (m + 1) a0 a1)
  | 0,a0,a1 => fun _ h => nomatch h
  | m + 1,a0,a1 => Qb (Jt m) a0 a1
def VQ (nE : Nat) (p0 : Tr39) (p1 : Int) : Option Tr39 := Kg nE nE p0 p1
theorem Ou (nE : Nat) (p0 : Tr39) (p1 : Int) : Le (VQ nE p0 p1) (GZ p0 p1) := fun r e => C7 (g := fun n => Dr n p0 p1) (fun n r h => Jt n p0 p1 r h) (n := nE) (Mu nE nE p0 p1 r e)
def IV (nE : Nat) (fRec_pred_Text : Tr36 → Option (List UInt8)) (p0 : List Tr36) : (List (List UInt8) × Int) → Option ((List (List UInt8) × Int) ⊕ (List (List UInt8)))
  | (x2,x3) => (if x3 < (p0.length : Int) then (ix p0 x3).bind fun x4 => (fRec_pred_Text x4).bind fun x5 => (if (decide (x4.un.1 = 5) || decide (x4.un.1 = 6)) = true then (Fy ([40] : List UInt8) x5).bind fun x7 => (Fy x7 ([41] : List UInt8)).bind fun x8 => some x8 else some x5).bind fun x6 => (Fy x2 ([x6] : List (List UInt8))).bind fun x9 => some (.inl (x9,Ae (x3 + 1))) else some (.inr x2))
theorem OM (nE : Nat) {fRec_pred_Text fRec_pred_Text' : Tr36 → Option (List UInt8)} (hfRec_pred_Text : ∀ a0,Le (fRec_pred_Text a0) (fRec_pred_Text' a0)) (p0 : List Tr36) : ∀ s,Le (IV nE fRec_pred_Text p0 s) (D9 fRec_pred_Text' p0 s) := by
  rintro ⟨x2,x3⟩
  unfold IV D9
  repeat' with_reducible (first | apply Le.bind' | apply Le.ite' | exact hfRec_pred_Text | exact hfRec_pred_Text _ | exact Le.rfl' _ | intro _)
theorem OS {fRec_pred_Text fRec_pred_Text' : Tr36 → Option (List UInt8)} (hfRec_pred_Text : ∀ a0,Le (fRec_pred_Text a0) (fRec_pred_Text' a0)) (p0 : List Tr36) : ∀ s,Le (D9 fRec_pred_Text p0 s) (D9 fRec_pred_Text' p0 s) := by
  rintro ⟨x2,x3⟩
  show Le (D9 fRec_pred_Text p0 (x2,x3)) (D9 fRec_pred_Text' p0 (x2,x3))
  unfold D9
  repeat' with_reducible (first | apply Le.bind' | apply Le.ite' | exact hfRec_pred_Text | exact hfRec_pred_Text _ | exact Le.rfl' _ | intro _)
def Ia (nE : Nat) (fRec_pred_Text : Tr36 → Option (List UInt8)) (p0 : List Tr36) (p1 : List UInt8) : Option (List UInt8) := (QZ nE (IV nE fRec_pred_Text p0) ([],0)).bind fun x1 => (Kv x1 p1).bind fun x10 => some x10
theorem ST (nE : Nat) {fRec_pred_Text fRec_pred_Text' : Tr36 → Option (List UInt8)} (hfRec_pred_Text : ∀ a0,Le (fRec_pred_Text a0) (fRec_pred_Text' a0)) (p0 : List Tr36) (p1 : List UInt8) : Le (Ia nE fRec_pred_Text p0 p1) (Fs fRec_pred_Text' p0 p1) := by
  unfold Ia Fs
  repeat' with_reducible (first | apply Le.bind' | apply Le.loop' | exact hfRec_pred_Text | exact hfRec_pred_Text _ | apply OM | exact Le.rfl' _ | intro _)
theorem Tn {fRec_pred_Text fRec_pred_Text' : Tr36 → Option (List UInt8)} (hfRec_pred_Text : ∀ a0,Le (fRec_pred_Text a0) (fRec_pred_Text' a0)) (p0 : List Tr36) (p1 : List UInt8) : Le (Fs fRec_pred_Text p0 p1) (Fs fRec_pred_Text' p0 p1) := by
  unfold Fs
  repeat' with_reducible (first | apply Le.bind' | apply Le.loopM | exact hfRec_pred_Text | exact hfRec_pred_Text _ | apply OS | exact Le.rfl' _ | intro _)
def IJ (nE : Nat) (fRec : Tr36 → Option (List UInt8)) (p0 : Tr36) : Option (List UInt8) := (if p0.un.1 = 1 then some ([116,114,117,101] : List UInt8) else (if p0.un.1 = 2 then some ([102,97,108,115,101] : List UInt8) else (if p0.un.1 = 3 then (Fy (Fv p0.un.2.1) ([32,61,32] : List UInt8)).bind fun x1 => (QV p0.un.2.2.1).bind fun x2 => (Fy x1 x2).bind fun x3 => some x3 else (if p0.un.1 = 4 then ((Ia nE fRec) p0.un.2.2.2 ([] : List UInt8)).bind fun x4 => (Fy ([110,111,116,32] : List UInt8) x4).bind fun x5 => some x5 else (if p0.un.1 = 5 then ((Ia nE fRec) p0.un.2.2.2 ([32,97,110,100,32] : List UInt8)).bind fun x6 => some x6 else (if p0.un.1 = 6 then ((Ia nE fRec) p0.un.2.2.2 ([32,111,114,32] : List UInt8)).bind fun x7 => some x7 else some ([63] : List UInt8)))))))
theorem OI (nE : Nat) {fRec fRec' : Tr36 → Option (List UInt8)} (hfRec : ∀ a0,Le (fRec a0) (fRec' a0)) (p0 : Tr36) : Le (IJ nE fRec p0) (FJ fRec' p0) := by
  unfold IJ FJ
  repeat' with_reducible (first | apply Le.bind' | apply Le.ite' | exact hfRec | exact hfRec _ | apply ST | exact Le.rfl' _ | intro _)
theorem OT {fRec fRec' : Tr36 → Option (List UInt8)} (hfRec : ∀ a0,Le (fRec a0) (fRec' a0)) (p0 : Tr36) : Le (FJ fRec p0) (FJ fRec' p0) := by
  unfold FJ
  repeat' with_reducible (first | apply Le.bind' | apply Le.ite' | exact hfRec | exact hfRec _ | apply Tn | exact Le.rfl' _ | intro _)
def Jq (nE : Nat) : Nat → Tr36 → Option (List UInt8)
  | 0 => fun _ => none
  | n + 1 => IJ nE (Jq nE n)
theorem LG (nE : Nat) : ∀ (m : Nat) a0,Le (Jq nE m a0) (Gt m a0)
  | 0,a0 => fun _ h => nomatch h
  | m + 1,a0 => OI nE (LG nE m) a0
theorem LE : ∀ (m : Nat) a0,Le (Gt m a0) (Gt (m + 1) a0)
  | 0,a0 => fun _ h => nomatch h
  | m + 1,a0 => OT (LE m) a0
def LC (nE : Nat) (p0 : Tr36) : Option (List UInt8) := Jq nE nE p0
theorem Nk (nE : Nat) (p0 : Tr36) : Le (LC nE p0) (JX p0) := fun r e => C7 (g := fun n => Gt n p0) (fun n r h => LE n p0 r h) (n := nE) (LG nE nE p0 r e)
def GL (nE : Nat) (p0 : Tr36) : Option (List UInt8) := (if p0.un.1 = 1 then some ([105,100] : List UInt8) else (if p0.un.1 = 2 then some ([100,114,111,112] : List UInt8) else (LC nE p0).bind fun x1 => (Fy ([119,104,101,110,32] : List UInt8) x1).bind fun x2 => some x2))
theorem Lp (nE : Nat) (p0 : Tr36) : Le (GL nE p0) (Ef p0) := by
  unfold GL Ef
  repeat' with_reducible (first | apply Le.bind' | apply Le.ite' | apply Nk | exact Le.rfl' _ | intro _)
def FM (nE : Nat) (fRec_policy_Text : Tr39 → Option (List UInt8)) (p0 : List Tr39) : (List (List UInt8) × Int) → Option ((List (List UInt8) × Int) ⊕ (List (List UInt8)))
  | (x2,x3) => (if x3 < (p0.length : Int) then (ix p0 x3).bind fun x4 => (fRec_policy_Text (Tr39.of (x4.un.1,f36 x4.un.2.1,x4.un.2.2.1,x4.un.2.2.2.1,x4.un.2.2.2.2))).bind fun x5 => (if (decide (x4.un.1 = 3) || (decide (x4.un.1 = 4) || decide (x4.un.1 = 5))) = true then (Fy ([40] : List UInt8) x5).bind fun x7 => (Fy x7 ([41] : List UInt8)).bind fun x8 => some x8 else some x5).bind fun x6 => (Fy x2 ([x6] : List (List UInt8))).bind fun x9 => some (.inl (x9,Ae (x3 + 1))) else some (.inr x2))
theorem JF (nE : Nat) {fRec_policy_Text fRec_policy_Text' : Tr39 → Option (List UInt8)} (hfRec_policy_Text : ∀ a0,Le (fRec_policy_Text a0) (fRec_policy_Text' a0)) (p0 : List Tr39) : ∀ s,Le (FM nE fRec_policy_Text p0 s) (CB fRec_policy_Text' p0 s) := by
  rintro ⟨x2,x3⟩
  unfold FM CB
  repeat' with_reducible (first | apply Le.bind' | apply Le.ite' | exact hfRec_policy_Text | exact hfRec_policy_Text _ | exact Le.rfl' _ | intro _)
theorem JO {fRec_policy_Text fRec_policy_Text' : Tr39 → Option (List UInt8)} (hfRec_policy_Text : ∀ a0,Le (fRec_policy_Text a0) (fRec_policy_Text' a0)) (p0 : List Tr39) : ∀ s,Le (CB fRec_policy_Text p0 s) (CB fRec_policy_Text' p0 s) := by
  rintro ⟨x2,x3⟩
  show Le (CB fRec_policy_Text p0 (x2,x3)) (CB fRec_policy_Text' p0 (x2,x3))
  unfold CB
  repeat' with_reducible (first | apply Le.bind' | apply Le.ite' | exact hfRec_policy_Text | exact hfRec_policy_Text _ | exact Le.rfl' _ | intro _)
def Ek (nE : Nat) (fRec_policy_Text : Tr39 → Option (List UInt8)) (p0 : List Tr39) : Option (List (List UInt8)) := (QZ nE (FM nE fRec_policy_Text p0) ([],0)).bind fun x1 => some x1
theorem Ly (nE : Nat) {fRec_policy_Text fRec_policy_Text' : Tr39 → Option (List UInt8)} (hfRec_policy_Text : ∀ a0,Le (fRec_policy_Text a0) (fRec_policy_Text' a0)) (p0 : List Tr39) : Le (Ek nE fRec_policy_Text p0) (CT fRec_policy_Text' p0) := by
  unfold Ek CT
  repeat' with_reducible (first | apply Le.bind' | apply Le.loop' | exact hfRec_policy_Text | exact hfRec_policy_Text _ | apply JF | exact Le.rfl' _ | intro _)
theorem Ls {fRec_policy_Text fRec_policy_Text' : Tr39 → Option (List UInt8)} (hfRec_policy_Text : ∀ a0,Le (fRec_policy_Text a0) (fRec_policy_Text' a0)) (p0 : List Tr39) : Le (CT fRec_policy_Text p0) (CT fRec_policy_Text' p0) := by
  unfold CT
  repeat' with_reducible (first | apply Le.bind' | apply Le.loopM | exact hfRec_policy_Text | exact hfRec_policy_Text _ | apply JO | exact Le.rfl' _ | intro _)
def HW (nE : Nat) (fRec : Tr39 → Option (List UInt8)) (p0 : Tr39) : Option (List UInt8) := (if p0.un.1 = 1 then (GL nE (f36 p0.un.2.1)).bind fun x1 => some x1 else (if p0.un.1 = 2 then (Fy (EA p0.un.2.2.1) ([32,58,61,32] : List UInt8)).bind fun x2 => (QV p0.un.2.2.2.1).bind fun x3 => (Fy x2 x3).bind fun x4 => some x4 else (if p0.un.1 = 3 then ((Ek nE fRec) p0.un.2.2.2.2).bind fun x5 => (Kv x5 ([59,32] : List UInt8)).bind fun x6 => some x6 else (if p0.un.1 = 4 then ((Ek nE fRec) p0.un.2.2.2.2).bind fun x7 => (Kv x7 ([32,124,32] : List UInt8)).bind fun x8 => some x8 else (if p0.un.1 = 5 then (LC nE (f36 p0.un.2.1)).bind fun x9 => (Fy ([105,102,32] : List UInt8) x9).bind fun x10 => (Fy x10 ([32,116,104,101,110,32] : List UInt8)).bind fun x11 => ((Ek nE fRec) p0.un.2.2.2.2).bind fun x12 => (Kv x12 ([32,101,108,115,101,32] : List UInt8)).bind fun x13 => (Fy x11 x13).bind fun x14 => some x14 else some ([63] : List UInt8))))))
theorem Nd (nE : Nat) {fRec fRec' : Tr39 → Option (List UInt8)} (hfRec : ∀ a0,Le (fRec a0) (fRec' a0)) (p0 : Tr39) : Le (HW nE fRec p0) (EE fRec' p0) := by
  unfold HW EE
  repeat' with_reducible (first | apply Le.bind' | apply Le.ite' | exact hfRec | exact hfRec _ | apply Nk | apply Lp | apply Ly | exact Le.rfl' _ | intro _)
theorem M9 {fRec fRec' : Tr39 → Option (List UInt8)} (hfRec : ∀ a0,Le (fRec a0) (fRec' a0)) (p0 : Tr39) : Le (EE fRec p0) (EE fRec' p0) := by
  unfold EE
  repeat' with_reducible (first | apply Le.bind' | apply Le.ite' | exact hfRec | exact hfRec _ | apply Ls | exact Le.rfl' _ | intro _)
def Ik (nE : Nat) : Nat → Tr39 → Option (List UInt8)
  | 0 => fun _ => none
  | n + 1 => HW nE (Ik nE n)
theorem JW (nE : Nat) : ∀ (m : Nat) a0,Le (Ik nE m a0) (Fb m a0)
  | 0,a0 => fun _ h => nomatch h
  | m + 1,a0 => Nd nE (JW nE m) a0
theorem JL : ∀ (m : Nat) a0,Le (Fb m a0) (Fb (m + 1) a0)
  | 0,a0 => fun _ h => nomatch h
  | m + 1,a0 => M9 (JL m) a0
def Rw (nE : Nat) (p0 : Tr39) : Option (List UInt8) := Ik nE nE p0
theorem Lv (nE : Nat) (p0 : Tr39) : Le (Rw nE p0) (FD p0) := fun r e => C7 (g := fun n => Fb n p0) (fun n r h => JL n p0 r h) (n := nE) (JW nE nE p0 r e)
theorem LX {fRec fRec' : Tr36 → Int → Option (List Int)} (hfRec : ∀ a0 a1,Le (fRec a0 a1) (fRec' a0 a1)) (p0 : Tr36) (p1 : Int) : ∀ s,Le (B9 fRec p0 p1 s) (B9 fRec' p0 p1 s) := by
  rintro ⟨x4,x5⟩
  show Le (B9 fRec p0 p1 (x4,x5)) (B9 fRec' p0 p1 (x4,x5))
  unfold B9
  repeat' with_reducible (first | apply Le.bind' | apply Le.ite' | exact hfRec | exact hfRec _ _ | exact Le.rfl' _ | intro _)
theorem L8 {fRec fRec' : Tr36 → Int → Option (List Int)} (hfRec : ∀ a0 a1,Le (fRec a0 a1) (fRec' a0 a1)) (p0 : Tr36) (p1 : Int) : Le (C4 fRec p0 p1) (C4 fRec' p0 p1) := by
  unfold C4
  repeat' with_reducible (first | apply Le.bind' | apply Le.ite' | apply Le.loopM | exact hfRec | exact hfRec _ _ | apply LX | exact Le.rfl' _ | intro _)
theorem IB : ∀ (m : Nat) a0 a1,Le (C3 m a0 a1) (C3 (m + 1) a0 a1)
  | 0,a0,a1 => fun _ h => nomatch h
  | m + 1,a0,a1 => L8 (IB m) a0 a1
theorem M0 {fRec fRec' : Tr39 → Int → Option (List Int)} (hfRec : ∀ a0 a1,Le (fRec a0 a1) (fRec' a0 a1)) (p0 : Tr39) (p1 : Int) : ∀ s,Le (Di fRec p0 p1 s) (Di fRec' p0 p1 s) := by
  rintro ⟨x5,x6⟩
  show Le (Di fRec p0 p1 (x5,x6)) (Di fRec' p0 p1 (x5,x6))
  unfold Di
  repeat' with_reducible (first | apply Le.bind' | apply Le.ite' | exact hfRec | exact hfRec _ _ | exact Le.rfl' _ | intro _)
theorem NU {fRec fRec' : Tr39 → Int → Option (List Int)} (hfRec : ∀ a0 a1,Le (fRec a0 a1) (fRec' a0 a1)) (p0 : Tr39) (p1 : Int) : Le (EF fRec p0 p1) (EF fRec' p0 p1) := by
  unfold EF
  repeat' with_reducible (first | apply Le.bind' | apply Le.ite' | apply Le.loopM | exact hfRec | exact hfRec _ _ | apply M0 | exact Le.rfl' _ | intro _)
theorem JQ : ∀ (m : Nat) a0 a1,Le (DA m a0 a1) (DA (m + 1) a0 a1)
  | 0,a0,a1 => fun _ h => nomatch h
  | m + 1,a0,a1 => NU (JQ m) a0 a1
theorem DB {fRec_pred_Same fRec_pred_Same' : Tr36 → Tr36 → Option Bool} (hfRec_pred_Same : ∀ a0 a1,Le (fRec_pred_Same a0 a1) (fRec_pred_Same' a0 a1)) (p0 : List Tr36) (p1 : List Tr36) : ∀ s,Le (Ah fRec_pred_Same p0 p1 s) (Ah fRec_pred_Same' p0 p1 s) := by
  intro x1
  unfold Ah
  repeat' with_reducible (first | apply Le.bind' | apply Le.ite' | exact hfRec_pred_Same | exact hfRec_pred_Same _ _ | exact Le.rfl' _ | intro _)
theorem DX {fRec_pred_Same fRec_pred_Same' : Tr36 → Tr36 → Option Bool} (hfRec_pred_Same : ∀ a0 a1,Le (fRec_pred_Same a0 a1) (fRec_pred_Same' a0 a1)) (p0 : List Tr36) (p1 : List Tr36) : Le (Al fRec_pred_Same p0 p1) (Al fRec_pred_Same' p0 p1) := by
  unfold Al
  repeat' with_reducible (first | apply Le.orR' | apply Le.ite' | apply Le.loopM | exact hfRec_pred_Same | exact hfRec_pred_Same _ _ | apply DB | exact Le.rfl' _ | intro _)
theorem OX {fRec fRec' : Tr36 → Tr36 → Option Bool} (hfRec : ∀ a0 a1,Le (fRec a0 a1) (fRec' a0 a1)) (p0 : Tr36) (p1 : Tr36) : Le (FI fRec p0 p1) (FI fRec' p0 p1) := by
  unfold FI
  repeat' with_reducible (first | apply Le.bind' | apply Le.ite' | exact hfRec | exact hfRec _ _ | apply DX | exact Le.rfl' _ | intro _)
theorem Lg : ∀ (m : Nat) a0 a1,Le (EW m a0 a1) (EW (m + 1) a0 a1)
  | 0,a0,a1 => fun _ h => nomatch h
  | m + 1,a0,a1 => OX (Lg m) a0 a1
theorem Jw {fRec fRec' : Int → Tr36 → Int → Option (Bool × Int)} (hfRec : ∀ a0 a1 a2,Le (fRec a0 a1 a2) (fRec' a0 a1 a2)) (p1 : Tr36) (p2 : Int) : ∀ s,Le (AR fRec p1 p2 s) (AR fRec' p1 p2 s) := by
  rintro ⟨x4,x5⟩
  show Le (AR fRec p1 p2 (x4,x5)) (AR fRec' p1 p2 (x4,x5))
  unfold AR
  repeat' with_reducible (first | apply Le.bind' | apply Le.ite' | exact hfRec | exact hfRec _ _ _ | exact Le.rfl' _ | intro _)
theorem Jy {fRec fRec' : Int → Tr36 → Int → Option (Bool × Int)} (hfRec : ∀ a0 a1 a2,Le (fRec a0 a1 a2) (fRec' a0 a1 a2)) (p0 : Int) (p1 : Tr36) (p2 : Int) : Le (BZ fRec p0 p1 p2) (BZ fRec' p0 p1 p2) := by
  unfold BZ
  repeat' with_reducible (first | apply Le.orR' | apply Le.bind' | apply Le.ite' | apply Le.loopM | exact hfRec | exact hfRec _ _ _ | apply Jw | exact Le.rfl' _ | intro _)
theorem Fj : ∀ (m : Nat) a0 a1 a2,Le (AZ m a0 a1 a2) (AZ (m + 1) a0 a1 a2)
  | 0,a0,a1,a2 => fun _ h => nomatch h
  | m + 1,a0,a1,a2 => Jy (Fj m) a0 a1 a2
theorem ON {fRec fRec' : Tr36 → Option Int} (hfRec : ∀ a0,Le (fRec a0) (fRec' a0)) (p0 : Tr36) : ∀ s,Le (Dm fRec p0 s) (Dm fRec' p0 s) := by
  rintro ⟨x2,x3⟩
  show Le (Dm fRec p0 (x2,x3)) (Dm fRec' p0 (x2,x3))
  unfold Dm
  repeat' with_reducible (first | apply Le.bind' | apply Le.ite' | exact hfRec | exact hfRec _ | exact Le.rfl' _ | intro _)
theorem OP {fRec fRec' : Tr36 → Option Int} (hfRec : ∀ a0,Le (fRec a0) (fRec' a0)) (p0 : Tr36) : Le (Eo fRec p0) (Eo fRec' p0) := by
  unfold Eo
  repeat' with_reducible (first | apply Le.bind' | apply Le.loopM | exact hfRec | exact hfRec _ | apply ON | exact Le.rfl' _ | intro _)
theorem Lf : ∀ (m : Nat) a0,Le (Ew m a0) (Ew (m + 1) a0)
  | 0,a0 => fun _ h => nomatch h
  | m + 1,a0 => OP (Lf m) a0
theorem Iz {fRec fRec' : Int → Tr39 → Int → Option (Bool × Int)} (hfRec : ∀ a0 a1 a2,Le (fRec a0 a1 a2) (fRec' a0 a1 a2)) (p1 : Tr39) (p2 : Int) : ∀ s,Le (AM fRec p1 p2 s) (AM fRec' p1 p2 s) := by
  rintro ⟨x7,x8⟩
  show Le (AM fRec p1 p2 (x7,x8)) (AM fRec' p1 p2 (x7,x8))
  unfold AM
  repeat' with_reducible (first | apply Le.bind' | apply Le.ite' | exact hfRec | exact hfRec _ _ _ | exact Le.rfl' _ | intro _)
theorem IM {fRec fRec' : Int → Tr39 → Int → Option (Bool × Int)} (hfRec : ∀ a0 a1 a2,Le (fRec a0 a1 a2) (fRec' a0 a1 a2)) (p0 : Int) (p1 : Tr39) (p2 : Int) : Le (Cm fRec p0 p1 p2) (Cm fRec' p0 p1 p2) := by
  unfold Cm
  repeat' with_reducible (first | apply Le.orR' | apply Le.bind' | apply Le.ite' | apply Le.loopM | exact hfRec | exact hfRec _ _ _ | apply Iz | exact Le.rfl' _ | intro _)
theorem EM : ∀ (m : Nat) a0 a1 a2,Le (AF m a0 a1 a2) (AF (m + 1) a0 a1 a2)
  | 0,a0,a1,a2 => fun _ h => nomatch h
  | m + 1,a0,a1,a2 => IM (EM m) a0 a1 a2
theorem Ng {fRec fRec' : Tr39 → Option Int} (hfRec : ∀ a0,Le (fRec a0) (fRec' a0)) (p0 : Tr39) : ∀ s,Le (Dj fRec p0 s) (Dj fRec' p0 s) := by
  rintro ⟨x2,x3⟩
  show Le (Dj fRec p0 (x2,x3)) (Dj fRec' p0 (x2,x3))
  unfold Dj
  repeat' with_reducible (first | apply Le.bind' | apply Le.ite' | exact hfRec | exact hfRec _ | exact Le.rfl' _ | intro _)
theorem NM {fRec fRec' : Tr39 → Option Int} (hfRec : ∀ a0,Le (fRec a0) (fRec' a0)) (p0 : Tr39) : ∀ s,Le (Dh fRec p0 s) (Dh fRec' p0 s) := by
  rintro ⟨x6,x7⟩
  show Le (Dh fRec p0 (x6,x7)) (Dh fRec' p0 (x6,x7))
  unfold Dh
  repeat' with_reducible (first | apply Le.bind' | apply Le.ite' | exact hfRec | exact hfRec _ | exact Le.rfl' _ | intro _)
theorem NQ {fRec fRec' : Tr39 → Option Int} (hfRec : ∀ a0,Le (fRec a0) (fRec' a0)) (p0 : Tr39) : ∀ s,Le (Dk fRec p0 s) (Dk fRec' p0 s) := by
  rintro ⟨x10,x11⟩
  show Le (Dk fRec p0 (x10,x11)) (Dk fRec' p0 (x10,x11))
  unfold Dk
  repeat' with_reducible (first | apply Le.bind' | apply Le.ite' | exact hfRec | exact hfRec _ | exact Le.rfl' _ | intro _)
theorem MZ {fRec fRec' : Tr39 → Option Int} (hfRec : ∀ a0,Le (fRec a0) (fRec' a0)) (p0 : Tr39) : Le (EJ fRec p0) (EJ fRec' p0) := by
  unfold EJ
  repeat' with_reducible (first | apply Le.bind' | apply Le.ite' | apply Le.loopM | exact hfRec | exact hfRec _ | apply Ng | apply NM | apply NQ | exact Le.rfl' _ | intro _)
theorem JG : ∀ (m : Nat) a0,Le (Ce m a0) (Ce (m + 1) a0)
  | 0,a0 => fun _ h => nomatch h
  | m + 1,a0 => MZ (JG m) a0
theorem Ps {fRec fRec' : Tr28 → Option Tr36} (hfRec : ∀ a0,Le (fRec a0) (fRec' a0)) (p0 : Tr28) : ∀ s,Le (DN fRec p0 s) (DN fRec' p0 s) := by
  rintro ⟨x2,x3⟩
  show Le (DN fRec p0 (x2,x3)) (DN fRec' p0 (x2,x3))
  unfold DN
  repeat' with_reducible (first | apply Le.bind' | apply Le.ite' | exact hfRec | exact hfRec _ | exact Le.rfl' _ | intro _)
theorem Qy {fRec fRec' : Tr28 → Option Tr36} (hfRec : ∀ a0,Le (fRec a0) (fRec' a0)) (p0 : Tr28) : Le (E3 fRec p0) (E3 fRec' p0) := by
  unfold E3
  repeat' with_reducible (first | apply Le.bind' | apply Le.loopM | exact hfRec | exact hfRec _ | apply Ps | exact Le.rfl' _ | intro _)
theorem Mp : ∀ (m : Nat) a0,Le (E4 m a0) (E4 (m + 1) a0)
  | 0,a0 => fun _ h => nomatch h
  | m + 1,a0 => Qy (Mp m) a0
theorem Qm {fRec fRec' : Tr31 → Option Tr39} (hfRec : ∀ a0,Le (fRec a0) (fRec' a0)) (p0 : Tr31) : ∀ s,Le (Ev fRec p0 s) (Ev fRec' p0 s) := by
  rintro ⟨x3,x4⟩
  show Le (Ev fRec p0 (x3,x4)) (Ev fRec' p0 (x3,x4))
  unfold Ev
  repeat' with_reducible (first | apply Le.bind' | apply Le.ite' | exact hfRec | exact hfRec _ | exact Le.rfl' _ | intro _)
theorem Px {fRec fRec' : Tr31 → Option Tr39} (hfRec : ∀ a0,Le (fRec a0) (fRec' a0)) (p0 : Tr31) : Le (FH fRec p0) (FH fRec' p0) := by
  unfold FH
  repeat' with_reducible (first | apply Le.bind' | apply Le.loopM | exact hfRec | exact hfRec _ | apply Qm | exact Le.rfl' _ | intro _)
theorem Mg : ∀ (m : Nat) a0,Le (Fd m a0) (Fd (m + 1) a0)
  | 0,a0 => fun _ h => nomatch h
  | m + 1,a0 => Px (Mg m) a0
theorem HI {fRec_pred_arrival_satisfies fRec_pred_arrival_satisfies' : (Int × Sq) → Tr36 → Option Bool} (hfRec_pred_arrival_satisfies : ∀ a0 a1,Le (fRec_pred_arrival_satisfies a0 a1) (fRec_pred_arrival_satisfies' a0 a1)) (p0 : Int × Sq) (p1 : Tr36) : Le (BE fRec_pred_arrival_satisfies p0 p1) (BE fRec_pred_arrival_satisfies' p0 p1) := by
  unfold BE
  repeat' with_reducible (first | apply Le.bind' | exact hfRec_pred_arrival_satisfies | exact hfRec_pred_arrival_satisfies _ _ | exact Le.rfl' _ | intro _)
theorem Fo {fRec_pred_arrival_satisfies fRec_pred_arrival_satisfies' : (Int × Sq) → Tr36 → Option Bool} (hfRec_pred_arrival_satisfies : ∀ a0 a1,Le (fRec_pred_arrival_satisfies a0 a1) (fRec_pred_arrival_satisfies' a0 a1)) (p0 : List Tr36) (p1f0 : Int × Sq) : ∀ s,Le (Av fRec_pred_arrival_satisfies p0 p1f0 s) (Av fRec_pred_arrival_satisfies' p0 p1f0 s) := by
  intro x1
  unfold Av
  repeat' with_reducible (first | apply Le.bind' | apply Le.ite' | exact hfRec_pred_arrival_satisfies | exact hfRec_pred_arrival_satisfies _ _ | apply HI | exact Le.rfl' _ | intro _)
theorem FT {fRec_pred_arrival_satisfies fRec_pred_arrival_satisfies' : (Int × Sq) → Tr36 → Option Bool} (hfRec_pred_arrival_satisfies : ∀ a0 a1,Le (fRec_pred_arrival_satisfies a0 a1) (fRec_pred_arrival_satisfies' a0 a1)) (p0 : List Tr36) (p1f0 : Int × Sq) : Le (AK fRec_pred_arrival_satisfies p0 p1f0) (AK fRec_pred_arrival_satisfies' p0 p1f0) := by
  unfold AK
  repeat' with_reducible (first | apply Le.orR' | apply Le.loopM | exact hfRec_pred_arrival_satisfies | exact hfRec_pred_arrival_satisfies _ _ | apply Fo | exact Le.rfl' _ | intro _)
theorem Fu {fRec_pred_arrival_satisfies fRec_pred_arrival_satisfies' : (Int × Sq) → Tr36 → Option Bool} (hfRec_pred_arrival_satisfies : ∀ a0 a1,Le (fRec_pred_arrival_satisfies a0 a1) (fRec_pred_arrival_satisfies' a0 a1)) (p0 : List Tr36) (p1f0 : Int × Sq) : Le (AO fRec_pred_arrival_satisfies p0 p1f0) (AO fRec_pred_arrival_satisfies' p0 p1f0) := by
  unfold AO
  repeat' with_reducible (first | apply Le.bind' | exact hfRec_pred_arrival_satisfies | exact hfRec_pred_arrival_satisfies _ _ | apply FT | exact Le.rfl' _ | intro _)
theorem Fx {fRec_pred_arrival_satisfies fRec_pred_arrival_satisfies' : (Int × Sq) → Tr36 → Option Bool} (hfRec_pred_arrival_satisfies : ∀ a0 a1,Le (fRec_pred_arrival_satisfies a0 a1) (fRec_pred_arrival_satisfies' a0 a1)) (p0 : List Tr36) (p1f0 : Int × Sq) : ∀ s,Le (Aw fRec_pred_arrival_satisfies p0 p1f0 s) (Aw fRec_pred_arrival_satisfies' p0 p1f0 s) := by
  intro x1
  unfold Aw
  repeat' with_reducible (first | apply Le.bind' | apply Le.ite' | exact hfRec_pred_arrival_satisfies | exact hfRec_pred_arrival_satisfies _ _ | exact Le.rfl' _ | intro _)
theorem FW {fRec_pred_arrival_satisfies fRec_pred_arrival_satisfies' : (Int × Sq) → Tr36 → Option Bool} (hfRec_pred_arrival_satisfies : ∀ a0 a1,Le (fRec_pred_arrival_satisfies a0 a1) (fRec_pred_arrival_satisfies' a0 a1)) (p0 : List Tr36) (p1f0 : Int × Sq) : Le (AL fRec_pred_arrival_satisfies p0 p1f0) (AL fRec_pred_arrival_satisfies' p0 p1f0) := by
  unfold AL
  repeat' with_reducible (first | apply Le.orR' | apply Le.loopM | exact hfRec_pred_arrival_satisfies | exact hfRec_pred_arrival_satisfies _ _ | apply Fx | exact Le.rfl' _ | intro _)
theorem Fm {fRec_pred_arrival_satisfies fRec_pred_arrival_satisfies' : (Int × Sq) → Tr36 → Option Bool} (hfRec_pred_arrival_satisfies : ∀ a0 a1,Le (fRec_pred_arrival_satisfies a0 a1) (fRec_pred_arrival_satisfies' a0 a1)) (p0 : List Tr36) (p1f0 : Int × Sq) : Le (AQ fRec_pred_arrival_satisfies p0 p1f0) (AQ fRec_pred_arrival_satisfies' p0 p1f0) := by
  unfold AQ
  repeat' with_reducible (first | apply Le.bind' | exact hfRec_pred_arrival_satisfies | exact hfRec_pred_arrival_satisfies _ _ | apply FW | exact Le.rfl' _ | intro _)
theorem Ih {fRec fRec' : (Int × Sq) → Tr36 → Option Bool} (hfRec : ∀ a0 a1,Le (fRec a0 a1) (fRec' a0 a1)) (p0 : Int × Sq) (p1 : Tr36) : Le (Bn fRec p0 p1) (Bn fRec' p0 p1) := by
  unfold Bn
  repeat' with_reducible (first | apply Le.bind' | apply Le.ite' | exact hfRec | exact hfRec _ _ | apply HI | apply Fu | apply Fm | exact Le.rfl' _ | intro _)
theorem F8 : ∀ (m : Nat) a0 a1,Le (A5 m a0 a1) (A5 (m + 1) a0 a1)
  | 0,a0,a1 => fun _ h => nomatch h
  | m + 1,a0,a1 => Ih (F8 m) a0 a1
theorem JT {fRec_policy_results fRec_policy_results' : Tr39 → Int → Sq → Option (List Sq)} (hfRec_policy_results : ∀ a0 a1 a2,Le (fRec_policy_results a0 a1 a2) (fRec_policy_results' a0 a1 a2)) (p1 : Int) (x4 : Tr39) (kx5681 : Sq) : Le (C2 fRec_policy_results p1 x4 kx5681) (C2 fRec_policy_results' p1 x4 kx5681) := by
  unfold C2
  repeat' with_reducible (first | apply Le.bind' | exact hfRec_policy_results | exact hfRec_policy_results _ _ _ | exact Le.rfl' _ | intro _)
theorem J4 {fRec_policy_results fRec_policy_results' : Tr39 → Int → Sq → Option (List Sq)} (hfRec_policy_results : ∀ a0 a1 a2,Le (fRec_policy_results a0 a1 a2) (fRec_policy_results' a0 a1 a2)) (p0 : List Tr39) (p1 : Int) : ∀ s,Le (BK fRec_policy_results p0 p1 s) (BK fRec_policy_results' p0 p1 s) := by
  rintro ⟨x2,x3⟩
  show Le (BK fRec_policy_results p0 p1 (x2,x3)) (BK fRec_policy_results' p0 p1 (x2,x3))
  unfold BK
  repeat' with_reducible (first | apply Le.bind' | apply Le.ite' | refine Le.sall' ?_ _ _ | exact hfRec_policy_results | exact hfRec_policy_results _ _ _ | apply JT | exact Le.rfl' _ | intro _)
theorem LA {fRec_policy_results fRec_policy_results' : Tr39 → Int → Sq → Option (List Sq)} (hfRec_policy_results : ∀ a0 a1 a2,Le (fRec_policy_results a0 a1 a2) (fRec_policy_results' a0 a1 a2)) (p0 : List Tr39) (p1 : Int) (p2 : Sq) : Le (De fRec_policy_results p0 p1 p2) (De fRec_policy_results' p0 p1 p2) := by
  unfold De
  repeat' with_reducible (first | apply Le.bind' | apply Le.loopM | exact hfRec_policy_results | exact hfRec_policy_results _ _ _ | apply J4 | exact Le.rfl' _ | intro _)
theorem KU {fRec fRec' : Tr39 → Int → Sq → Option (List Sq)} (hfRec : ∀ a0 a1 a2,Le (fRec a0 a1 a2) (fRec' a0 a1 a2)) (p0 : Tr39) (p1 : Int) (p2 : Sq) : ∀ s,Le (Cr fRec p0 p1 p2 s) (Cr fRec' p0 p1 p2 s) := by
  rintro ⟨x5,x6⟩
  show Le (Cr fRec p0 p1 p2 (x5,x6)) (Cr fRec' p0 p1 p2 (x5,x6))
  unfold Cr
  repeat' with_reducible (first | apply Le.bind' | apply Le.ite' | exact hfRec | exact hfRec _ _ _ | exact Le.rfl' _ | intro _)
theorem Li {fRec fRec' : Tr39 → Int → Sq → Option (List Sq)} (hfRec : ∀ a0 a1 a2,Le (fRec a0 a1 a2) (fRec' a0 a1 a2)) (p0 : Tr39) (p1 : Int) (p2 : Sq) : Le (AU fRec p0 p1 p2) (AU fRec' p0 p1 p2) := by
  unfold AU
  repeat' with_reducible (first | apply Le.orR' | apply Le.bind' | apply Le.ite' | apply Le.loopM | exact hfRec | exact hfRec _ _ _ | apply LA | apply KU | exact Le.rfl' _ | intro _)
theorem GO : ∀ (m : Nat) a0 a1 a2,Le (Ai m a0 a1 a2) (Ai (m + 1) a0 a1 a2)
  | 0,a0,a1,a2 => fun _ h => nomatch h
  | m + 1,a0,a1,a2 => Li (GO m) a0 a1 a2
end Go.Proofs.YtgoifghhcekahaaGreatDoor
