/- Twins with fuel of JA functions: what a twin answers, the function answers. Conditions: none. -/
import Derived.Test.YtgoifghhcekahaaGreatDoorbLP
import Derived.Test.YtgoifghhcekahaaGreatDoorbA9
namespace Go.Proofs.YtgoifghhcekahaaGreatDoor
open Go Go.RowKit
set_option linter.unusedVariables false
set_option linter.unusedSimpArgs false
set_option maxRecDepth 20000
set_option maxHeartbeats 1600000
abbrev Le {α : Type} (a b : Option α) : Prop := ∀ r, a = some r → b = some r
theorem Le.rfl' {α : Type} (a : Option α) : Le a a := fun _ h => h
theorem Le.bind' {α β : Type} {a b : Option α} {f g : α → Option β} (h : Le a b) (hf : ∀ x, Le (f x) (g x)) : Le (a.bind f) (b.bind g) := fun r e => by
  obtain ⟨x, h1, h2⟩ := Am e
  rw [h x h1, Option.bind_some]; exact hf x r h2
theorem Le.ite' {α : Type} {c : Prop} [Decidable c] {a a' b b' : Option α} (h1 : Le a a') (h2 : Le b b') : Le (if c then a else b) (if c then a' else b') := fun r e => by
  by_cases h : c
  · rw [if_pos h] at e ⊢; exact h1 r e
  · rw [if_neg h] at e ⊢; exact h2 r e
theorem Le.orR' {α β : Type} {a b : Option (α ⊕ β)} {f g : α → Option β} (h : Le a b) (hf : ∀ x, Le (f x) (g x)) : Le (Je a f) (Je b g) :=
  Le.bind' h fun x => by
    cases x with
    | inl t => exact hf t
    | inr e => exact Le.rfl' _
def Di {σ ε : Type} (n : Nat) (step : σ → Option (σ ⊕ ε)) (s : σ) : Option ε := Jm step n s
theorem M4 {σ ε : Type} {S T : σ → Option (σ ⊕ ε)} (h : ∀ s, Le (S s) (T s)) : ∀ (n : Nat) (s : σ), Le (Jm S n s) (Jm T n s)
  | 0, s => Le.rfl' _
  | n + 1, s => fun r e => by
    unfold Jm at e ⊢
    cases hs : S s with
    | none => rw [hs] at e; cases e
    | some q =>
      rw [hs] at e; rw [h s q hs]
      cases q with
      | inl s' => exact M4 h n s' r e
      | inr _ => exact e
theorem Le.loop' {σ ε : Type} {n : Nat} {S T : σ → Option (σ ⊕ ε)} {s : σ} (h : ∀ s, Le (S s) (T s)) : Le (Di n S s) (A6 T s) := fun r e => Hb.2 ⟨n, M4 h n s r e⟩
theorem Le.pi2 {α β γ : Type} {f g : α × β → Option γ} (h : ∀ a b, Le (f (a, b)) (g (a, b))) : ∀ x, Le (f x) (g x) := fun x => h x.1 x.2
theorem Le.altS' {α β γ : Type} {y : α ⊕ β} {f f' : α → Option γ} {g g' : β → Option γ} (h : ∀ x, Le (f x) (f' x)) (k : ∀ x, Le (g x) (g' x)) : Le (WE y f g) (WE y f' g') := by
  cases y with
  | inl x => exact h x
  | inr x => exact k x
theorem DJ {β : Type} {g : Nat → Option β} (hm : ∀ n r, g n = some r → g (n + 1) = some r) {n : Nat} {r : β} (h : g n = some r) : Jl g = some r := by
  have up : ∀ (d m : Nat) (q : β), g m = some q → g (m + d) = some q := fun d => by
    induction d with
    | zero => exact fun m q h => h
    | succ d ih => exact fun m q h => hm _ _ (ih m q h)
  refine ST n h fun m q hq => ?_
  have h1 := up m n r h
  have h2 := up n m q hq
  rw [Nat.add_comm] at h2
  exact Option.some.inj (h2.symm.trans h1)
theorem Le.loopM {σ ε : Type} {S T : σ → Option (σ ⊕ ε)} {s : σ} (h : ∀ s, Le (S s) (T s)) : Le (A6 S s) (A6 T s) := fun r e => by
  obtain ⟨n, hn⟩ := Hb.1 e
  exact Hb.2 ⟨n, M4 h n s r hn⟩
theorem Qa {fRec fRec' : Tr28 → Option Bool} (hfRec : ∀ a0, Le (fRec a0) (fRec' a0)) (p0 : Tr28) : ∀ s, Le (F2 fRec p0 s) (F2 fRec' p0 s) := by
  intro x1
  unfold F2
  repeat' with_reducible (first | apply Le.orR' | apply Le.bind' | apply Le.ite' | apply Le.loopM | apply Le.altS' | exact hfRec | exact hfRec _ | exact Le.rfl' _ | (refine Le.pi2 ?_; intro _) | intro _)
theorem PL {fRec fRec' : Tr28 → Option Bool} (hfRec : ∀ a0, Le (fRec a0) (fRec' a0)) (p0 : Tr28) : Le (F5 fRec p0) (F5 fRec' p0) := by
  unfold F5
  repeat' with_reducible (first | apply Le.orR' | apply Le.bind' | apply Le.ite' | apply Le.loopM | apply Le.altS' | exact hfRec | exact hfRec _ | apply Qa | exact Le.rfl' _ | (refine Le.pi2 ?_; intro _) | intro _)
theorem MG : ∀ (m : Nat) a0, Le (E3 m a0) (E3 (m + 1) a0)
  | 0, a0 => fun _ h => nomatch h
  | m + 1, a0 => PL (MG m) a0
theorem Qs {fRec fRec' : Tr28 → Option Int} (hfRec : ∀ a0, Le (fRec a0) (fRec' a0)) (p0 : Tr28) : ∀ s, Le (Ey fRec p0 s) (Ey fRec' p0 s) := by
  rintro ⟨x2, x3⟩
  show Le (Ey fRec p0 (x2, x3)) (Ey fRec' p0 (x2, x3))
  unfold Ey
  repeat' with_reducible (first | apply Le.orR' | apply Le.bind' | apply Le.ite' | apply Le.loopM | apply Le.altS' | exact hfRec | exact hfRec _ | exact Le.rfl' _ | (refine Le.pi2 ?_; intro _) | intro _)
theorem PR {fRec fRec' : Tr28 → Option Int} (hfRec : ∀ a0, Le (fRec a0) (fRec' a0)) (p0 : Tr28) : Le (FU fRec p0) (FU fRec' p0) := by
  unfold FU
  repeat' with_reducible (first | apply Le.orR' | apply Le.bind' | apply Le.ite' | apply Le.loopM | apply Le.altS' | exact hfRec | exact hfRec _ | apply Qs | exact Le.rfl' _ | (refine Le.pi2 ?_; intro _) | intro _)
theorem MK : ∀ (m : Nat) a0, Le (E7 m a0) (E7 (m + 1) a0)
  | 0, a0 => fun _ h => nomatch h
  | m + 1, a0 => PR (MK m) a0
theorem Qi {fRec fRec' : Tr28 → Option Int} (hfRec : ∀ a0, Le (fRec a0) (fRec' a0)) (p0 : Tr28) : ∀ s, Le (Er fRec p0 s) (Er fRec' p0 s) := by
  rintro ⟨x2, x3⟩
  show Le (Er fRec p0 (x2, x3)) (Er fRec' p0 (x2, x3))
  unfold Er
  repeat' with_reducible (first | apply Le.orR' | apply Le.bind' | apply Le.ite' | apply Le.loopM | apply Le.altS' | exact hfRec | exact hfRec _ | exact Le.rfl' _ | (refine Le.pi2 ?_; intro _) | intro _)
theorem Pk {fRec fRec' : Tr28 → Option Int} (hfRec : ∀ a0, Le (fRec a0) (fRec' a0)) (p0 : Tr28) : Le (F1 fRec p0) (F1 fRec' p0) := by
  unfold F1
  repeat' with_reducible (first | apply Le.orR' | apply Le.bind' | apply Le.ite' | apply Le.loopM | apply Le.altS' | exact hfRec | exact hfRec _ | apply Qi | exact Le.rfl' _ | (refine Le.pi2 ?_; intro _) | intro _)
theorem MZ : ∀ (m : Nat) a0, Le (E0 m a0) (E0 (m + 1) a0)
  | 0, a0 => fun _ h => nomatch h
  | m + 1, a0 => Pk (MZ m) a0
def Id (nE : Nat) (fRec_check_Cut : Tr36 → Int → Option Tr36) (p0 : List Tr36) (p1 : Int) : (List Tr36 × Int) → Option ((List Tr36 × Int) ⊕ (List Tr36))
  | (x2, x3) => (if x3 < (p0.length : Int) then (ix p0 x3).bind fun x4 => (fRec_check_Cut x4 p1).bind fun x5 => (Ig x2 ([x5] : List Tr36)).bind fun x6 => some (.inl (x6, AG (x3 + 1))) else some (.inr x2))
theorem M7 (nE : Nat) {fRec_check_Cut fRec_check_Cut' : Tr36 → Int → Option Tr36} (hfRec_check_Cut : ∀ a0 a1, Le (fRec_check_Cut a0 a1) (fRec_check_Cut' a0 a1)) (p0 : List Tr36) (p1 : Int) : ∀ s, Le (Id nE fRec_check_Cut p0 p1 s) (CP fRec_check_Cut' p0 p1 s) := by
  rintro ⟨x2, x3⟩
  unfold Id CP
  repeat' with_reducible (first | apply Le.orR' | apply Le.bind' | apply Le.ite' | apply Le.loop' | apply Le.altS' | exact hfRec_check_Cut | exact hfRec_check_Cut _ _ | exact Le.rfl' _ | (refine Le.pi2 ?_; intro _) | intro _)
theorem Nh {fRec_check_Cut fRec_check_Cut' : Tr36 → Int → Option Tr36} (hfRec_check_Cut : ∀ a0 a1, Le (fRec_check_Cut a0 a1) (fRec_check_Cut' a0 a1)) (p0 : List Tr36) (p1 : Int) : ∀ s, Le (CP fRec_check_Cut p0 p1 s) (CP fRec_check_Cut' p0 p1 s) := by
  rintro ⟨x2, x3⟩
  show Le (CP fRec_check_Cut p0 p1 (x2, x3)) (CP fRec_check_Cut' p0 p1 (x2, x3))
  unfold CP
  repeat' with_reducible (first | apply Le.orR' | apply Le.bind' | apply Le.ite' | apply Le.loopM | apply Le.altS' | exact hfRec_check_Cut | exact hfRec_check_Cut _ _ | exact Le.rfl' _ | (refine Le.pi2 ?_; intro _) | intro _)
def JR (nE : Nat) (fRec_check_Cut : Tr36 → Int → Option Tr36) (p0 : List Tr36) (p1 : Int) : Option (List Tr36) := (Di nE (Id nE fRec_check_Cut p0 p1) ([], 0)).bind fun x1 => some x1
theorem O9 (nE : Nat) {fRec_check_Cut fRec_check_Cut' : Tr36 → Int → Option Tr36} (hfRec_check_Cut : ∀ a0 a1, Le (fRec_check_Cut a0 a1) (fRec_check_Cut' a0 a1)) (p0 : List Tr36) (p1 : Int) : Le (JR nE fRec_check_Cut p0 p1) (Ep fRec_check_Cut' p0 p1) := by
  unfold JR Ep
  repeat' with_reducible (first | apply Le.orR' | apply Le.bind' | apply Le.ite' | apply Le.loop' | apply Le.altS' | exact hfRec_check_Cut | exact hfRec_check_Cut _ _ | apply M7 | exact Le.rfl' _ | (refine Le.pi2 ?_; intro _) | intro _)
theorem O0 {fRec_check_Cut fRec_check_Cut' : Tr36 → Int → Option Tr36} (hfRec_check_Cut : ∀ a0 a1, Le (fRec_check_Cut a0 a1) (fRec_check_Cut' a0 a1)) (p0 : List Tr36) (p1 : Int) : Le (Ep fRec_check_Cut p0 p1) (Ep fRec_check_Cut' p0 p1) := by
  unfold Ep
  repeat' with_reducible (first | apply Le.orR' | apply Le.bind' | apply Le.ite' | apply Le.loopM | apply Le.altS' | exact hfRec_check_Cut | exact hfRec_check_Cut _ _ | apply Nh | exact Le.rfl' _ | (refine Le.pi2 ?_; intro _) | intro _)
def C1 (nE : Nat) (p0 : List Tr36) (p1c0 : Int) : Int → Option (Int ⊕ (Unit ⊕ Int))
  | x1 => (if x1 < (p0.length : Int) then (ix p0 x1).bind fun x2 => (if (E4 x2 p1c0) = true then some (.inr (.inr x1)) else some (.inl (AG (x1 + 1)))) else some (.inr (.inl ())))
theorem Ge (nE : Nat) (p0 : List Tr36) (p1c0 : Int) : ∀ s, Le (C1 nE p0 p1c0 s) (Bv p0 p1c0 s) := by
  intro x1
  unfold C1 Bv
  repeat' with_reducible (first | apply Le.orR' | apply Le.bind' | apply Le.ite' | apply Le.loop' | apply Le.altS' | exact Le.rfl' _ | (refine Le.pi2 ?_; intro _) | intro _)
def Dh (nE : Nat) (p0 : List Tr36) (p1c0 : Int) : Option Int := Je (Di nE (C1 nE p0 p1c0) 0) fun _ => some (-1)
theorem GL (nE : Nat) (p0 : List Tr36) (p1c0 : Int) : Le (Dh nE p0 p1c0) (B0 p0 p1c0) := by
  unfold Dh B0
  repeat' with_reducible (first | apply Le.orR' | apply Le.bind' | apply Le.ite' | apply Le.loop' | apply Le.altS' | apply Ge | exact Le.rfl' _ | (refine Le.pi2 ?_; intro _) | intro _)
def C4 (nE : Nat) (p0 : List Tr36) (p1c0 : Int) : Option Bool := (Dh nE p0 p1c0).bind fun x1 => some (decide (0 ≤ x1))
theorem F7 (nE : Nat) (p0 : List Tr36) (p1c0 : Int) : Le (C4 nE p0 p1c0) (BN p0 p1c0) := by
  unfold C4 BN
  repeat' with_reducible (first | apply Le.orR' | apply Le.bind' | apply Le.ite' | apply Le.loop' | apply Le.altS' | apply GL | exact Le.rfl' _ | (refine Le.pi2 ?_; intro _) | intro _)
def Hp (nE : Nat) (p0 : List Tr36) (p1c0 : Int) : (List Tr36 × Int) → Option ((List Tr36 × Int) ⊕ (List Tr36))
  | (x2, x3) => (if x3 < (p0.length : Int) then ((ix p0 x3).bind fun x5 => (if (Ej x5 p1c0) = true then (Ig x2 ([x5] : List Tr36)).bind fun x6 => some x6 else some x2)).bind fun x4 => some (.inl (x4, AG (x3 + 1))) else some (.inr x2))
theorem LM (nE : Nat) (p0 : List Tr36) (p1c0 : Int) : ∀ s, Le (Hp nE p0 p1c0 s) (Dw p0 p1c0 s) := by
  rintro ⟨x2, x3⟩
  unfold Hp Dw
  repeat' with_reducible (first | apply Le.orR' | apply Le.bind' | apply Le.ite' | apply Le.loop' | apply Le.altS' | exact Le.rfl' _ | (refine Le.pi2 ?_; intro _) | intro _)
def IJ (nE : Nat) (p0 : List Tr36) (p1c0 : Int) : Option (List Tr36) := (Di nE (Hp nE p0 p1c0) ([], 0)).bind fun x1 => some x1
theorem NB (nE : Nat) (p0 : List Tr36) (p1c0 : Int) : Le (IJ nE p0 p1c0) (EZ p0 p1c0) := by
  unfold IJ EZ
  repeat' with_reducible (first | apply Le.orR' | apply Le.bind' | apply Le.ite' | apply Le.loop' | apply Le.altS' | apply LM | exact Le.rfl' _ | (refine Le.pi2 ?_; intro _) | intro _)
def Gb (nE : Nat) (p0 : Int) (p1 : List Tr36) (p2 : Int) (p3 : Int) : Option Tr36 := (C4 nE p1 p3).bind fun x1 => (if x1 = true then some (Tr36.of (p3, 0, 0, ([] : List Tr36))) else (IJ nE p1 p2).bind fun x2 => (if (x2.length : Int) = 0 then some (Tr36.of (p2, 0, 0, ([] : List Tr36))) else (if (x2.length : Int) = 1 then (ix x2 0).bind fun x3 => some x3 else some (Tr36.of (p0, 0, 0, x2)))))
theorem Mv (nE : Nat) (p0 : Int) (p1 : List Tr36) (p2 : Int) (p3 : Int) : Le (Gb nE p0 p1 p2 p3) (DI p0 p1 p2 p3) := by
  unfold Gb DI
  repeat' with_reducible (first | apply Le.orR' | apply Le.bind' | apply Le.ite' | apply Le.loop' | apply Le.altS' | apply F7 | apply NB | exact Le.rfl' _ | (refine Le.pi2 ?_; intro _) | intro _)
def JX (nE : Nat) (fRec : Tr36 → Int → Option Tr36) (p0 : Tr36) (p1 : Int) : Option Tr36 := ((JR nE fRec) p0.un.2.2.2 p1).bind fun x1 => Je (if p0.un.1 = 3 then (if p0.un.2.1 = 5 then some (.inr (Tr36.of ((AF (decide (p0.un.2.2.1 = p1))).un.1, (AF (decide (p0.un.2.2.1 = p1))).un.2.1, (AF (decide (p0.un.2.2.1 = p1))).un.2.2.1, (AF (decide (p0.un.2.2.1 = p1))).un.2.2.2))) else some (.inl ())) else (if p0.un.1 = 4 then (if (x1.length : Int) = 1 then (ix x1 0).bind fun x3 => some (decide (x3.un.1 = 1)) else some false).bind fun x2 => (if x2 = true then some (.inr (Tr36.of ((AF false).un.1, (AF false).un.2.1, (AF false).un.2.2.1, (AF false).un.2.2.2))) else (if (x1.length : Int) = 1 then (ix x1 0).bind fun x5 => some (decide (x5.un.1 = 2)) else some false).bind fun x4 => (if x4 = true then some (.inr (Tr36.of ((AF true).un.1, (AF true).un.2.1, (AF true).un.2.2.1, (AF true).un.2.2.2))) else some (.inl ()))) else (if p0.un.1 = 5 then (Gb nE p0.un.1 x1 1 2).bind fun x6 => some (.inr x6) else (if p0.un.1 = 6 then (Gb nE p0.un.1 x1 2 1).bind fun x7 => some (.inr x7) else some (.inl ()))))) fun _ => some (Tr36.of (p0.un.1, p0.un.2.1, p0.un.2.2.1, x1))
theorem OP (nE : Nat) {fRec fRec' : Tr36 → Int → Option Tr36} (hfRec : ∀ a0 a1, Le (fRec a0 a1) (fRec' a0 a1)) (p0 : Tr36) (p1 : Int) : Le (JX nE fRec p0 p1) (Eo fRec' p0 p1) := by
  unfold JX Eo
  repeat' with_reducible (first | apply Le.orR' | apply Le.bind' | apply Le.ite' | apply Le.loop' | apply Le.altS' | exact hfRec | exact hfRec _ _ | apply O9 | apply Mv | exact Le.rfl' _ | (refine Le.pi2 ?_; intro _) | intro _)
theorem OU {fRec fRec' : Tr36 → Int → Option Tr36} (hfRec : ∀ a0 a1, Le (fRec a0 a1) (fRec' a0 a1)) (p0 : Tr36) (p1 : Int) : Le (Eo fRec p0 p1) (Eo fRec' p0 p1) := by
  unfold Eo
  repeat' with_reducible (first | apply Le.orR' | apply Le.bind' | apply Le.ite' | apply Le.loopM | apply Le.altS' | exact hfRec | exact hfRec _ _ | apply O0 | exact Le.rfl' _ | (refine Le.pi2 ?_; intro _) | intro _)
def Kq (nE : Nat) : Nat → Tr36 → Int → Option Tr36
  | 0 => fun _ _ => none
  | n + 1 => JX nE (Kq nE n)
theorem Mm (nE : Nat) : ∀ (m : Nat) a0 a1, Le (Kq nE m a0 a1) (Dv m a0 a1)
  | 0, a0, a1 => fun _ h => nomatch h
  | m + 1, a0, a1 => OP nE (Mm nE m) a0 a1
theorem J9 : ∀ (m : Nat) a0 a1, Le (Dv m a0 a1) (Dv (m + 1) a0 a1)
  | 0, a0, a1 => fun _ h => nomatch h
  | m + 1, a0, a1 => OU (J9 m) a0 a1
def Ol (nE : Nat) (p0 : Tr36) (p1 : Int) : Option Tr36 := Kq nE nE p0 p1
theorem RI (nE : Nat) (p0 : Tr36) (p1 : Int) : Le (Ol nE p0 p1) (KQ p0 p1) := fun r e => DJ (g := fun n => Dv n p0 p1) (fun n r h => J9 n p0 p1 r h) (n := nE) (Mm nE nE p0 p1 r e)
def Kz (nE : Nat) (fRec : Tr39 → Int → Option Tr39) (p0 : Tr39) (p1 : Int) : (List Tr39 × Int) → Option ((List Tr39 × Int) ⊕ (List Tr39))
  | (x11, x12) => (if x12 < (p0.un.2.2.2.2.length : Int) then (ix p0.un.2.2.2.2 x12).bind fun x13 => (fRec (Tr39.of (x13.un.1, Tr36.of (x13.un.2.1.un.1, x13.un.2.1.un.2.1, x13.un.2.1.un.2.2.1, x13.un.2.1.un.2.2.2), x13.un.2.2.1, x13.un.2.2.2.1, x13.un.2.2.2.2)) p1).bind fun x14 => (Ig x11 ([Tr39.of (x14.un.1, Tr36.of (x14.un.2.1.un.1, x14.un.2.1.un.2.1, x14.un.2.1.un.2.2.1, x14.un.2.1.un.2.2.2), x14.un.2.2.1, x14.un.2.2.2.1, x14.un.2.2.2.2)] : List Tr39)).bind fun x15 => some (.inl (x15, AG (x12 + 1))) else some (.inr x11))
theorem P1 (nE : Nat) {fRec fRec' : Tr39 → Int → Option Tr39} (hfRec : ∀ a0 a1, Le (fRec a0 a1) (fRec' a0 a1)) (p0 : Tr39) (p1 : Int) : ∀ s, Le (Kz nE fRec p0 p1 s) (Fs fRec' p0 p1 s) := by
  rintro ⟨x11, x12⟩
  unfold Kz Fs
  repeat' with_reducible (first | apply Le.orR' | apply Le.bind' | apply Le.ite' | apply Le.loop' | apply Le.altS' | exact hfRec | exact hfRec _ _ | exact Le.rfl' _ | (refine Le.pi2 ?_; intro _) | intro _)
theorem P7 {fRec fRec' : Tr39 → Int → Option Tr39} (hfRec : ∀ a0 a1, Le (fRec a0 a1) (fRec' a0 a1)) (p0 : Tr39) (p1 : Int) : ∀ s, Le (Fs fRec p0 p1 s) (Fs fRec' p0 p1 s) := by
  rintro ⟨x11, x12⟩
  show Le (Fs fRec p0 p1 (x11, x12)) (Fs fRec' p0 p1 (x11, x12))
  unfold Fs
  repeat' with_reducible (first | apply Le.orR' | apply Le.bind' | apply Le.ite' | apply Le.loopM | apply Le.altS' | exact hfRec | exact hfRec _ _ | exact Le.rfl' _ | (refine Le.pi2 ?_; intro _) | intro _)
def KF (nE : Nat) (fRec : Tr39 → Int → Option Tr39) (p0 : Tr39) (p1 : Int) : Option Tr39 := (if (decide (p0.un.1 = 1) || decide (p0.un.1 = 5)) = true then (Ol nE (Tr36.of (p0.un.2.1.un.1, p0.un.2.1.un.2.1, p0.un.2.1.un.2.2.1, p0.un.2.1.un.2.2.2)) p1).bind fun x5 => some (x5.un.1, x5.un.2.1, x5.un.2.2.1, x5.un.2.2.2) else some (p0.un.2.1.un.1, p0.un.2.1.un.2.1, p0.un.2.1.un.2.2.1, p0.un.2.1.un.2.2.2)).bind fun (x1, x2, x3, x4) => (if (decide (p0.un.1 = 5) && (decide ((p0.un.2.2.2.2.length : Int) = 2) && decide (x1 = 1))) = true then (ix p0.un.2.2.2.2 0).bind fun x6 => (fRec (Tr39.of (x6.un.1, Tr36.of (x6.un.2.1.un.1, x6.un.2.1.un.2.1, x6.un.2.1.un.2.2.1, x6.un.2.1.un.2.2.2), x6.un.2.2.1, x6.un.2.2.2.1, x6.un.2.2.2.2)) p1).bind fun x7 => some (Tr39.of (x7.un.1, Tr36.of (x7.un.2.1.un.1, x7.un.2.1.un.2.1, x7.un.2.1.un.2.2.1, x7.un.2.1.un.2.2.2), x7.un.2.2.1, x7.un.2.2.2.1, x7.un.2.2.2.2)) else (if (decide (p0.un.1 = 5) && (decide ((p0.un.2.2.2.2.length : Int) = 2) && decide (x1 = 2))) = true then (ix p0.un.2.2.2.2 1).bind fun x8 => (fRec (Tr39.of (x8.un.1, Tr36.of (x8.un.2.1.un.1, x8.un.2.1.un.2.1, x8.un.2.1.un.2.2.1, x8.un.2.1.un.2.2.2), x8.un.2.2.1, x8.un.2.2.2.1, x8.un.2.2.2.2)) p1).bind fun x9 => some (Tr39.of (x9.un.1, Tr36.of (x9.un.2.1.un.1, x9.un.2.1.un.2.1, x9.un.2.1.un.2.2.1, x9.un.2.1.un.2.2.2), x9.un.2.2.1, x9.un.2.2.2.1, x9.un.2.2.2.2)) else (Di nE (Kz nE fRec p0 p1) ([], 0)).bind fun x10 => some (Tr39.of (p0.un.1, Tr36.of (x1, x2, x3, x4), p0.un.2.2.1, p0.un.2.2.2.1, x10))))
theorem PD (nE : Nat) {fRec fRec' : Tr39 → Int → Option Tr39} (hfRec : ∀ a0 a1, Le (fRec a0 a1) (fRec' a0 a1)) (p0 : Tr39) (p1 : Int) : Le (KF nE fRec p0 p1) (FV fRec' p0 p1) := by
  unfold KF FV
  repeat' with_reducible (first | apply Le.orR' | apply Le.bind' | apply Le.ite' | apply Le.loop' | apply Le.altS' | exact hfRec | exact hfRec _ _ | apply RI | apply P1 | exact Le.rfl' _ | (refine Le.pi2 ?_; intro _) | intro _)
theorem P9 {fRec fRec' : Tr39 → Int → Option Tr39} (hfRec : ∀ a0 a1, Le (fRec a0 a1) (fRec' a0 a1)) (p0 : Tr39) (p1 : Int) : Le (FV fRec p0 p1) (FV fRec' p0 p1) := by
  unfold FV
  repeat' with_reducible (first | apply Le.orR' | apply Le.bind' | apply Le.ite' | apply Le.loopM | apply Le.altS' | exact hfRec | exact hfRec _ _ | apply P7 | exact Le.rfl' _ | (refine Le.pi2 ?_; intro _) | intro _)
def Lm (nE : Nat) : Nat → Tr39 → Int → Option Tr39
  | 0 => fun _ _ => none
  | n + 1 => KF nE (Lm nE n)
theorem MT (nE : Nat) : ∀ (m : Nat) a0 a1, Le (Lm nE m a0 a1) (GV m a0 a1)
  | 0, a0, a1 => fun _ h => nomatch h
  | m + 1, a0, a1 => PD nE (MT nE m) a0 a1
theorem MQ : ∀ (m : Nat) a0 a1, Le (GV m a0 a1) (GV (m + 1) a0 a1)
  | 0, a0, a1 => fun _ h => nomatch h
  | m + 1, a0, a1 => P9 (MQ m) a0 a1
def M8 (nE : Nat) (p0 : Tr39) (p1 : Int) : Option Tr39 := Lm nE nE p0 p1
theorem RW (nE : Nat) (p0 : Tr39) (p1 : Int) : Le (M8 nE p0 p1) (Nr p0 p1) := fun r e => DJ (g := fun n => GV n p0 p1) (fun n r h => MQ n p0 p1 r h) (n := nE) (MT nE nE p0 p1 r e)
def J1 (nE : Nat) (fRec_pred_Text : Tr36 → Option (List UInt8)) (p0 : List Tr36) : (List (List UInt8) × Int) → Option ((List (List UInt8) × Int) ⊕ (List (List UInt8)))
  | (x2, x3) => (if x3 < (p0.length : Int) then (ix p0 x3).bind fun x4 => (fRec_pred_Text x4).bind fun x5 => (if (decide (x4.un.1 = 5) || decide (x4.un.1 = 6)) = true then (Ig ([40] : List UInt8) x5).bind fun x7 => (Ig x7 ([41] : List UInt8)).bind fun x8 => some x8 else some x5).bind fun x6 => (Ig x2 ([x6] : List (List UInt8))).bind fun x9 => some (.inl (x9, AG (x3 + 1))) else some (.inr x2))
theorem OR (nE : Nat) {fRec_pred_Text fRec_pred_Text' : Tr36 → Option (List UInt8)} (hfRec_pred_Text : ∀ a0, Le (fRec_pred_Text a0) (fRec_pred_Text' a0)) (p0 : List Tr36) : ∀ s, Le (J1 nE fRec_pred_Text p0 s) (EO fRec_pred_Text' p0 s) := by
  rintro ⟨x2, x3⟩
  unfold J1 EO
  repeat' with_reducible (first | apply Le.orR' | apply Le.bind' | apply Le.ite' | apply Le.loop' | apply Le.altS' | exact hfRec_pred_Text | exact hfRec_pred_Text _ | exact Le.rfl' _ | (refine Le.pi2 ?_; intro _) | intro _)
theorem OO {fRec_pred_Text fRec_pred_Text' : Tr36 → Option (List UInt8)} (hfRec_pred_Text : ∀ a0, Le (fRec_pred_Text a0) (fRec_pred_Text' a0)) (p0 : List Tr36) : ∀ s, Le (EO fRec_pred_Text p0 s) (EO fRec_pred_Text' p0 s) := by
  rintro ⟨x2, x3⟩
  show Le (EO fRec_pred_Text p0 (x2, x3)) (EO fRec_pred_Text' p0 (x2, x3))
  unfold EO
  repeat' with_reducible (first | apply Le.orR' | apply Le.bind' | apply Le.ite' | apply Le.loopM | apply Le.altS' | exact hfRec_pred_Text | exact hfRec_pred_Text _ | exact Le.rfl' _ | (refine Le.pi2 ?_; intro _) | intro _)
def Ja (nE : Nat) (fRec_pred_Text : Tr36 → Option (List UInt8)) (p0 : List Tr36) (p1 : List UInt8) : Option (List UInt8) := (Di nE (J1 nE fRec_pred_Text p0) ([], 0)).bind fun x1 => (MP x1 p1).bind fun x10 => some x10
theorem Ri (nE : Nat) {fRec_pred_Text fRec_pred_Text' : Tr36 → Option (List UInt8)} (hfRec_pred_Text : ∀ a0, Le (fRec_pred_Text a0) (fRec_pred_Text' a0)) (p0 : List Tr36) (p1 : List UInt8) : Le (Ja nE fRec_pred_Text p0 p1) (Gr fRec_pred_Text' p0 p1) := by
  unfold Ja Gr
  repeat' with_reducible (first | apply Le.orR' | apply Le.bind' | apply Le.ite' | apply Le.loop' | apply Le.altS' | exact hfRec_pred_Text | exact hfRec_pred_Text _ | apply OR | exact Le.rfl' _ | (refine Le.pi2 ?_; intro _) | intro _)
theorem Rq {fRec_pred_Text fRec_pred_Text' : Tr36 → Option (List UInt8)} (hfRec_pred_Text : ∀ a0, Le (fRec_pred_Text a0) (fRec_pred_Text' a0)) (p0 : List Tr36) (p1 : List UInt8) : Le (Gr fRec_pred_Text p0 p1) (Gr fRec_pred_Text' p0 p1) := by
  unfold Gr
  repeat' with_reducible (first | apply Le.orR' | apply Le.bind' | apply Le.ite' | apply Le.loopM | apply Le.altS' | exact hfRec_pred_Text | exact hfRec_pred_Text _ | apply OO | exact Le.rfl' _ | (refine Le.pi2 ?_; intro _) | intro _)
def JP (nE : Nat) (fRec : Tr36 → Option (List UInt8)) (p0 : Tr36) : Option (List UInt8) := (if p0.un.1 = 1 then some ([116, 114, 117, 101] : List UInt8) else (if p0.un.1 = 2 then some ([102, 97, 108, 115, 101] : List UInt8) else (if p0.un.1 = 3 then (Ig (FO p0.un.2.1) ([32, 61, 32] : List UInt8)).bind fun x1 => (Q6 p0.un.2.2.1).bind fun x2 => (Ig x1 x2).bind fun x3 => some x3 else (if p0.un.1 = 4 then ((Ja nE fRec) p0.un.2.2.2 ([] : List UInt8)).bind fun x4 => (Ig ([110, 111, 116, 32] : List UInt8) x4).bind fun x5 => some x5 else (if p0.un.1 = 5 then ((Ja nE fRec) p0.un.2.2.2 ([32, 97, 110, 100, 32] : List UInt8)).bind fun x6 => some x6 else (if p0.un.1 = 6 then ((Ja nE fRec) p0.un.2.2.2 ([32, 111, 114, 32] : List UInt8)).bind fun x7 => some x7 else some ([63] : List UInt8)))))))
theorem Pa (nE : Nat) {fRec fRec' : Tr36 → Option (List UInt8)} (hfRec : ∀ a0, Le (fRec a0) (fRec' a0)) (p0 : Tr36) : Le (JP nE fRec p0) (Fi fRec' p0) := by
  unfold JP Fi
  repeat' with_reducible (first | apply Le.orR' | apply Le.bind' | apply Le.ite' | apply Le.loop' | apply Le.altS' | exact hfRec | exact hfRec _ | apply Ri | exact Le.rfl' _ | (refine Le.pi2 ?_; intro _) | intro _)
theorem Pb {fRec fRec' : Tr36 → Option (List UInt8)} (hfRec : ∀ a0, Le (fRec a0) (fRec' a0)) (p0 : Tr36) : Le (Fi fRec p0) (Fi fRec' p0) := by
  unfold Fi
  repeat' with_reducible (first | apply Le.orR' | apply Le.bind' | apply Le.ite' | apply Le.loopM | apply Le.altS' | exact hfRec | exact hfRec _ | apply Rq | exact Le.rfl' _ | (refine Le.pi2 ?_; intro _) | intro _)
def KE (nE : Nat) : Nat → Tr36 → Option (List UInt8)
  | 0 => fun _ => none
  | n + 1 => JP nE (KE nE n)
theorem Me (nE : Nat) : ∀ (m : Nat) a0, Le (KE nE m a0) (FX m a0)
  | 0, a0 => fun _ h => nomatch h
  | m + 1, a0 => Pa nE (Me nE m) a0
theorem Mi : ∀ (m : Nat) a0, Le (FX m a0) (FX (m + 1) a0)
  | 0, a0 => fun _ h => nomatch h
  | m + 1, a0 => Pb (Mi m) a0
def Mc (nE : Nat) (p0 : Tr36) : Option (List UInt8) := KE nE nE p0
theorem NR (nE : Nat) (p0 : Tr36) : Le (Mc nE p0) (Mo p0) := fun r e => DJ (g := fun n => FX n p0) (fun n r h => Mi n p0 r h) (n := nE) (Me nE nE p0 r e)
def Hk (nE : Nat) (p0 : Tr36) : Option (List UInt8) := (if p0.un.1 = 1 then some ([105, 100] : List UInt8) else (if p0.un.1 = 2 then some ([100, 114, 111, 112] : List UInt8) else (Mc nE p0).bind fun x1 => (Ig ([119, 104, 101, 110, 32] : List UInt8) x1).bind fun x2 => some x2))
theorem LN (nE : Nat) (p0 : Tr36) : Le (Hk nE p0) (Fq p0) := by
  unfold Hk Fq
  repeat' with_reducible (first | apply Le.orR' | apply Le.bind' | apply Le.ite' | apply Le.loop' | apply Le.altS' | apply NR | exact Le.rfl' _ | (refine Le.pi2 ?_; intro _) | intro _)
def Gf (nE : Nat) (fRec_policy_Text : Tr39 → Option (List UInt8)) (p0 : List Tr39) : (List (List UInt8) × Int) → Option ((List (List UInt8) × Int) ⊕ (List (List UInt8)))
  | (x2, x3) => (if x3 < (p0.length : Int) then (ix p0 x3).bind fun x4 => (fRec_policy_Text (Tr39.of (x4.un.1, Tr36.of (x4.un.2.1.un.1, x4.un.2.1.un.2.1, x4.un.2.1.un.2.2.1, x4.un.2.1.un.2.2.2), x4.un.2.2.1, x4.un.2.2.2.1, x4.un.2.2.2.2))).bind fun x5 => (if (decide (x4.un.1 = 3) || (decide (x4.un.1 = 4) || decide (x4.un.1 = 5))) = true then (Ig ([40] : List UInt8) x5).bind fun x7 => (Ig x7 ([41] : List UInt8)).bind fun x8 => some x8 else some x5).bind fun x6 => (Ig x2 ([x6] : List (List UInt8))).bind fun x9 => some (.inl (x9, AG (x3 + 1))) else some (.inr x2))
theorem KO (nE : Nat) {fRec_policy_Text fRec_policy_Text' : Tr39 → Option (List UInt8)} (hfRec_policy_Text : ∀ a0, Le (fRec_policy_Text a0) (fRec_policy_Text' a0)) (p0 : List Tr39) : ∀ s, Le (Gf nE fRec_policy_Text p0 s) (CD fRec_policy_Text' p0 s) := by
  rintro ⟨x2, x3⟩
  unfold Gf CD
  repeat' with_reducible (first | apply Le.orR' | apply Le.bind' | apply Le.ite' | apply Le.loop' | apply Le.altS' | exact hfRec_policy_Text | exact hfRec_policy_Text _ | exact Le.rfl' _ | (refine Le.pi2 ?_; intro _) | intro _)
theorem KV {fRec_policy_Text fRec_policy_Text' : Tr39 → Option (List UInt8)} (hfRec_policy_Text : ∀ a0, Le (fRec_policy_Text a0) (fRec_policy_Text' a0)) (p0 : List Tr39) : ∀ s, Le (CD fRec_policy_Text p0 s) (CD fRec_policy_Text' p0 s) := by
  rintro ⟨x2, x3⟩
  show Le (CD fRec_policy_Text p0 (x2, x3)) (CD fRec_policy_Text' p0 (x2, x3))
  unfold CD
  repeat' with_reducible (first | apply Le.orR' | apply Le.bind' | apply Le.ite' | apply Le.loopM | apply Le.altS' | exact hfRec_policy_Text | exact hfRec_policy_Text _ | exact Le.rfl' _ | (refine Le.pi2 ?_; intro _) | intro _)
def EL (nE : Nat) (fRec_policy_Text : Tr39 → Option (List UInt8)) (p0 : List Tr39) : Option (List (List UInt8)) := (Di nE (Gf nE fRec_policy_Text p0) ([], 0)).bind fun x1 => some x1
theorem LK (nE : Nat) {fRec_policy_Text fRec_policy_Text' : Tr39 → Option (List UInt8)} (hfRec_policy_Text : ∀ a0, Le (fRec_policy_Text a0) (fRec_policy_Text' a0)) (p0 : List Tr39) : Le (EL nE fRec_policy_Text p0) (CU fRec_policy_Text' p0) := by
  unfold EL CU
  repeat' with_reducible (first | apply Le.orR' | apply Le.bind' | apply Le.ite' | apply Le.loop' | apply Le.altS' | exact hfRec_policy_Text | exact hfRec_policy_Text _ | apply KO | exact Le.rfl' _ | (refine Le.pi2 ?_; intro _) | intro _)
theorem LI {fRec_policy_Text fRec_policy_Text' : Tr39 → Option (List UInt8)} (hfRec_policy_Text : ∀ a0, Le (fRec_policy_Text a0) (fRec_policy_Text' a0)) (p0 : List Tr39) : Le (CU fRec_policy_Text p0) (CU fRec_policy_Text' p0) := by
  unfold CU
  repeat' with_reducible (first | apply Le.orR' | apply Le.bind' | apply Le.ite' | apply Le.loopM | apply Le.altS' | exact hfRec_policy_Text | exact hfRec_policy_Text _ | apply KV | exact Le.rfl' _ | (refine Le.pi2 ?_; intro _) | intro _)
def IW (nE : Nat) (fRec : Tr39 → Option (List UInt8)) (p0 : Tr39) : Option (List UInt8) := (if p0.un.1 = 1 then (Hk nE (Tr36.of (p0.un.2.1.un.1, p0.un.2.1.un.2.1, p0.un.2.1.un.2.2.1, p0.un.2.1.un.2.2.2))).bind fun x1 => some x1 else (if p0.un.1 = 2 then (Ig (EX p0.un.2.2.1) ([32, 58, 61, 32] : List UInt8)).bind fun x2 => (Q6 p0.un.2.2.2.1).bind fun x3 => (Ig x2 x3).bind fun x4 => some x4 else (if p0.un.1 = 3 then ((EL nE fRec) p0.un.2.2.2.2).bind fun x5 => (MP x5 ([59, 32] : List UInt8)).bind fun x6 => some x6 else (if p0.un.1 = 4 then ((EL nE fRec) p0.un.2.2.2.2).bind fun x7 => (MP x7 ([32, 124, 32] : List UInt8)).bind fun x8 => some x8 else (if p0.un.1 = 5 then (Mc nE (Tr36.of (p0.un.2.1.un.1, p0.un.2.1.un.2.1, p0.un.2.1.un.2.2.1, p0.un.2.1.un.2.2.2))).bind fun x9 => (Ig ([105, 102, 32] : List UInt8) x9).bind fun x10 => (Ig x10 ([32, 116, 104, 101, 110, 32] : List UInt8)).bind fun x11 => ((EL nE fRec) p0.un.2.2.2.2).bind fun x12 => (MP x12 ([32, 101, 108, 115, 101, 32] : List UInt8)).bind fun x13 => (Ig x11 x13).bind fun x14 => some x14 else some ([63] : List UInt8))))))
theorem Nq (nE : Nat) {fRec fRec' : Tr39 → Option (List UInt8)} (hfRec : ∀ a0, Le (fRec a0) (fRec' a0)) (p0 : Tr39) : Le (IW nE fRec p0) (Ev fRec' p0) := by
  unfold IW Ev
  repeat' with_reducible (first | apply Le.orR' | apply Le.bind' | apply Le.ite' | apply Le.loop' | apply Le.altS' | exact hfRec | exact hfRec _ | apply NR | apply LN | apply LK | exact Le.rfl' _ | (refine Le.pi2 ?_; intro _) | intro _)
theorem N0 {fRec fRec' : Tr39 → Option (List UInt8)} (hfRec : ∀ a0, Le (fRec a0) (fRec' a0)) (p0 : Tr39) : Le (Ev fRec p0) (Ev fRec' p0) := by
  unfold Ev
  repeat' with_reducible (first | apply Le.orR' | apply Le.bind' | apply Le.ite' | apply Le.loopM | apply Le.altS' | exact hfRec | exact hfRec _ | apply LI | exact Le.rfl' _ | (refine Le.pi2 ?_; intro _) | intro _)
def Jw (nE : Nat) : Nat → Tr39 → Option (List UInt8)
  | 0 => fun _ => none
  | n + 1 => IW nE (Jw nE n)
theorem KR (nE : Nat) : ∀ (m : Nat) a0, Le (Jw nE m a0) (EW m a0)
  | 0, a0 => fun _ h => nomatch h
  | m + 1, a0 => Nq nE (KR nE m) a0
theorem Lc : ∀ (m : Nat) a0, Le (EW m a0) (EW (m + 1) a0)
  | 0, a0 => fun _ h => nomatch h
  | m + 1, a0 => N0 (Lc m) a0
def KD (nE : Nat) (p0 : Tr39) : Option (List UInt8) := Jw nE nE p0
theorem PA (nE : Nat) (p0 : Tr39) : Le (KD nE p0) (Ki p0) := fun r e => DJ (g := fun n => EW n p0) (fun n r h => Lc n p0 r h) (n := nE) (KR nE nE p0 r e)
def HC (nE : Nat) (fRec : Tr36 → Int → Option (List Int)) (p0 : Tr36) (p1 : Int) : (List Int × Int) → Option ((List Int × Int) ⊕ (List Int))
  | (x4, x5) => (if x5 < (p0.un.2.2.2.length : Int) then (ix p0.un.2.2.2 x5).bind fun x6 => (fRec x6 p1).bind fun x7 => (Ig x4 x7).bind fun x8 => some (.inl (x8, AG (x5 + 1))) else some (.inr x4))
theorem Mt (nE : Nat) {fRec fRec' : Tr36 → Int → Option (List Int)} (hfRec : ∀ a0 a1, Le (fRec a0 a1) (fRec' a0 a1)) (p0 : Tr36) (p1 : Int) : ∀ s, Le (HC nE fRec p0 p1 s) (Cs fRec' p0 p1 s) := by
  rintro ⟨x4, x5⟩
  unfold HC Cs
  repeat' with_reducible (first | apply Le.orR' | apply Le.bind' | apply Le.ite' | apply Le.loop' | apply Le.altS' | exact hfRec | exact hfRec _ _ | exact Le.rfl' _ | (refine Le.pi2 ?_; intro _) | intro _)
theorem Mw {fRec fRec' : Tr36 → Int → Option (List Int)} (hfRec : ∀ a0 a1, Le (fRec a0 a1) (fRec' a0 a1)) (p0 : Tr36) (p1 : Int) : ∀ s, Le (Cs fRec p0 p1 s) (Cs fRec' p0 p1 s) := by
  rintro ⟨x4, x5⟩
  show Le (Cs fRec p0 p1 (x4, x5)) (Cs fRec' p0 p1 (x4, x5))
  unfold Cs
  repeat' with_reducible (first | apply Le.orR' | apply Le.bind' | apply Le.ite' | apply Le.loopM | apply Le.altS' | exact hfRec | exact hfRec _ _ | exact Le.rfl' _ | (refine Le.pi2 ?_; intro _) | intro _)
def HI (nE : Nat) (fRec : Tr36 → Int → Option (List Int)) (p0 : Tr36) (p1 : Int) : Option (List Int) := (if (decide (p0.un.1 = 3) && decide (p0.un.2.1 = p1)) = true then (Ig ([] : List Int) ([p0.un.2.2.1] : List Int)).bind fun x2 => some x2 else some ([])).bind fun x1 => (Di nE (HC nE fRec p0 p1) (x1, 0)).bind fun x3 => some x3
theorem Mx (nE : Nat) {fRec fRec' : Tr36 → Int → Option (List Int)} (hfRec : ∀ a0 a1, Le (fRec a0 a1) (fRec' a0 a1)) (p0 : Tr36) (p1 : Int) : Le (HI nE fRec p0 p1) (C5 fRec' p0 p1) := by
  unfold HI C5
  repeat' with_reducible (first | apply Le.orR' | apply Le.bind' | apply Le.ite' | apply Le.loop' | apply Le.altS' | exact hfRec | exact hfRec _ _ | apply Mt | exact Le.rfl' _ | (refine Le.pi2 ?_; intro _) | intro _)
theorem My {fRec fRec' : Tr36 → Int → Option (List Int)} (hfRec : ∀ a0 a1, Le (fRec a0 a1) (fRec' a0 a1)) (p0 : Tr36) (p1 : Int) : Le (C5 fRec p0 p1) (C5 fRec' p0 p1) := by
  unfold C5
  repeat' with_reducible (first | apply Le.orR' | apply Le.bind' | apply Le.ite' | apply Le.loopM | apply Le.altS' | exact hfRec | exact hfRec _ _ | apply Mw | exact Le.rfl' _ | (refine Le.pi2 ?_; intro _) | intro _)
def H2 (nE : Nat) : Nat → Tr36 → Int → Option (List Int)
  | 0 => fun _ _ => none
  | n + 1 => HI nE (H2 nE n)
theorem JS (nE : Nat) : ∀ (m : Nat) a0 a1, Le (H2 nE m a0 a1) (CC m a0 a1)
  | 0, a0, a1 => fun _ h => nomatch h
  | m + 1, a0, a1 => Mx nE (JS nE m) a0 a1
theorem HH : ∀ (m : Nat) a0 a1, Le (CC m a0 a1) (CC (m + 1) a0 a1)
  | 0, a0, a1 => fun _ h => nomatch h
  | m + 1, a0, a1 => My (HH m) a0 a1
def LA (nE : Nat) (p0 : Tr36) (p1 : Int) : Option (List Int) := H2 nE nE p0 p1
theorem N5 (nE : Nat) (p0 : Tr36) (p1 : Int) : Le (LA nE p0 p1) (I2 p0 p1) := fun r e => DJ (g := fun n => CC n p0 p1) (fun n r h => HH n p0 p1 r h) (n := nE) (JS nE nE p0 p1 r e)
def Ie (nE : Nat) (p0 : Int) : Option Int := (if 4294967296 ≤ p0 then some (H3 .u64 p0 32, 32) else some (p0, 0)).bind fun (x1, x2) => (if 65536 ≤ x1 then some (H3 .u64 x1 16, AG (x2 + 16)) else some (x1, x2)).bind fun (x3, x4) => (if 256 ≤ x3 then some (H3 .u64 x3 8, AG (x4 + 8)) else some (x3, x4)).bind fun (x5, x6) => (ix ([0, 1, 2, 2, 3, 3, 3, 3, 4, 4, 4, 4, 4, 4, 4, 4, 5, 5, 5, 5, 5, 5, 5, 5, 5, 5, 5, 5, 5, 5, 5, 5, 6, 6, 6, 6, 6, 6, 6, 6, 6, 6, 6, 6, 6, 6, 6, 6, 6, 6, 6, 6, 6, 6, 6, 6, 6, 6, 6, 6, 6, 6, 6, 6, 7, 7, 7, 7, 7, 7, 7, 7, 7, 7, 7, 7, 7, 7, 7, 7, 7, 7, 7, 7, 7, 7, 7, 7, 7, 7, 7, 7, 7, 7, 7, 7, 7, 7, 7, 7, 7, 7, 7, 7, 7, 7, 7, 7, 7, 7, 7, 7, 7, 7, 7, 7, 7, 7, 7, 7, 7, 7, 7, 7, 7, 7, 7, 7, 8, 8, 8, 8, 8, 8, 8, 8, 8, 8, 8, 8, 8, 8, 8, 8, 8, 8, 8, 8, 8, 8, 8, 8, 8, 8, 8, 8, 8, 8, 8, 8, 8, 8, 8, 8, 8, 8, 8, 8, 8, 8, 8, 8, 8, 8, 8, 8, 8, 8, 8, 8, 8, 8, 8, 8, 8, 8, 8, 8, 8, 8, 8, 8, 8, 8, 8, 8, 8, 8, 8, 8, 8, 8, 8, 8, 8, 8, 8, 8, 8, 8, 8, 8, 8, 8, 8, 8, 8, 8, 8, 8, 8, 8, 8, 8, 8, 8, 8, 8, 8, 8, 8, 8, 8, 8, 8, 8, 8, 8, 8, 8, 8, 8, 8, 8, 8, 8, 8, 8, 8, 8, 8, 8, 8, 8, 8, 8] : List UInt8) (IntKind.u8.wrap x5)).bind fun x7 => some (AG (x6 + (AG (x7.toNat : Int))))
theorem Nd (nE : Nat) (p0 : Int) : Le (Ie nE p0) (Fe p0) := by
  unfold Ie Fe
  repeat' with_reducible (first | apply Le.orR' | apply Le.bind' | apply Le.ite' | apply Le.loop' | apply Le.altS' | exact Le.rfl' _ | (refine Le.pi2 ?_; intro _) | intro _)
def Hy (nE : Nat) (p0 : Int) : Option Int := (Ie nE p0).bind fun x1 => some x1
theorem KL (nE : Nat) (p0 : Int) : Le (Hy nE p0) (EU p0) := by
  unfold Hy EU
  repeat' with_reducible (first | apply Le.orR' | apply Le.bind' | apply Le.ite' | apply Le.loop' | apply Le.altS' | apply Nd | exact Le.rfl' _ | (refine Le.pi2 ?_; intro _) | intro _)
def Do (nE : Nat) (p1 : Int) : (List Int × Int) → Option ((List Int × Int) ⊕ (List Int))
  | (x4, x5) => (if p1 < x5 then (ix x4 x5).bind fun x7 => (ix x4 (AG (x5 - 1))).bind fun x8 => some (AX x7 x8) else some false).bind fun x6 => (if x6 = true then (ix x4 (AG (x5 - 1))).bind fun x9 => (ix x4 x5).bind fun x10 => (ix x4 x5).bind fun x11 => (ix (AL x4 x5 x9) (AG (x5 - 1))).bind fun x12 => some (.inl ((AL (AL x4 x5 x9) (AG (x5 - 1)) x10), AG (x5 - 1))) else some (.inr x4))
theorem He (nE : Nat) (p1 : Int) : ∀ s, Le (Do nE p1 s) (Ba p1 s) := by
  rintro ⟨x4, x5⟩
  unfold Do Ba
  repeat' with_reducible (first | apply Le.orR' | apply Le.bind' | apply Le.ite' | apply Le.loop' | apply Le.altS' | exact Le.rfl' _ | (refine Le.pi2 ?_; intro _) | intro _)
def Ds (nE : Nat) (p1 : Int) (p2 : Int) : (List Int × Int) → Option ((List Int × Int) ⊕ (List Int))
  | (x1, x2) => (if x2 < p2 then (Di nE (Do nE p1) (x1, x2)).bind fun x3 => some (.inl (x3, AG (x2 + 1))) else some (.inr x1))
theorem Hf (nE : Nat) (p1 : Int) (p2 : Int) : ∀ s, Le (Ds nE p1 p2 s) (BD p1 p2 s) := by
  rintro ⟨x1, x2⟩
  unfold Ds BD
  repeat' with_reducible (first | apply Le.orR' | apply Le.bind' | apply Le.ite' | apply Le.loop' | apply Le.altS' | apply He | exact Le.rfl' _ | (refine Le.pi2 ?_; intro _) | intro _)
def DL (nE : Nat) (p0 : List Int) (p1 : Int) (p2 : Int) : Option (List Int) := Di nE (Ds nE p1 p2) (p0, AG (p1 + 1))
theorem HB (nE : Nat) (p0 : List Int) (p1 : Int) (p2 : Int) : Le (DL nE p0 p1 p2) (B6 p0 p1 p2) := by
  unfold DL B6
  repeat' with_reducible (first | apply Le.orR' | apply Le.bind' | apply Le.ite' | apply Le.loop' | apply Le.altS' | apply Hf | exact Le.rfl' _ | (refine Le.pi2 ?_; intro _) | intro _)
def Ea (nE : Nat) (p2 : Int) (p3 : Int) : (List Int × Int) → Option ((List Int × Int) ⊕ (List Int))
  | (x1, x2) => (if p2 ≤ (AG ((AG (2 * x2)) + 1)) then some (.inr x1) else ((if (AG ((AG ((AG (2 * x2)) + 1)) + 1)) < p2 then (ix x1 (AG (p3 + (AG ((AG (2 * x2)) + 1))))).bind fun x5 => (ix x1 (AG ((AG (p3 + (AG ((AG (2 * x2)) + 1)))) + 1))).bind fun x6 => some (AX x5 x6) else some false).bind fun x4 => (if x4 = true then some (AG ((AG ((AG (2 * x2)) + 1)) + 1)) else some (AG ((AG (2 * x2)) + 1)))).bind fun x3 => (ix x1 (AG (p3 + x2))).bind fun x7 => (ix x1 (AG (p3 + x3))).bind fun x8 => (if (!(AX x7 x8)) = true then some (.inr x1) else (ix x1 (AG (p3 + x3))).bind fun x9 => (ix x1 (AG (p3 + x2))).bind fun x10 => (ix x1 (AG (p3 + x2))).bind fun x11 => (ix (AL x1 (AG (p3 + x2)) x9) (AG (p3 + x3))).bind fun x12 => some (.inl ((AL (AL x1 (AG (p3 + x2)) x9) (AG (p3 + x3)) x10), x3))))
theorem Io (nE : Nat) (p2 : Int) (p3 : Int) : ∀ s, Le (Ea nE p2 p3 s) (A8 p2 p3 s) := by
  rintro ⟨x1, x2⟩
  unfold Ea A8
  repeat' with_reducible (first | apply Le.orR' | apply Le.bind' | apply Le.ite' | apply Le.loop' | apply Le.altS' | exact Le.rfl' _ | (refine Le.pi2 ?_; intro _) | intro _)
def DD (nE : Nat) (p0 : List Int) (p1 : Int) (p2 : Int) (p3 : Int) : Option (List Int) := Di nE (Ea nE p2 p3) (p0, p1)
theorem F0 (nE : Nat) (p0 : List Int) (p1 : Int) (p2 : Int) (p3 : Int) : Le (DD nE p0 p1 p2 p3) (Cf p0 p1 p2 p3) := by
  unfold DD Cf
  repeat' with_reducible (first | apply Le.orR' | apply Le.bind' | apply Le.ite' | apply Le.loop' | apply Le.altS' | apply Io | exact Le.rfl' _ | (refine Le.pi2 ?_; intro _) | intro _)
def D9 (nE : Nat) (p1 : Int) (p2 : Int) : (List Int × Int) → Option ((List Int × Int) ⊕ (List Int))
  | (x2, x3) => (if 0 ≤ x3 then (DD nE x2 x3 (AG (p2 - p1)) p1).bind fun x4 => some (.inl (x4, AG (x3 - 1))) else some (.inr x2))
theorem Im (nE : Nat) (p1 : Int) (p2 : Int) : ∀ s, Le (D9 nE p1 p2 s) (BW p1 p2 s) := by
  rintro ⟨x2, x3⟩
  unfold D9 BW
  repeat' with_reducible (first | apply Le.orR' | apply Le.bind' | apply Le.ite' | apply Le.loop' | apply Le.altS' | apply F0 | exact Le.rfl' _ | (refine Le.pi2 ?_; intro _) | intro _)
def D8 (nE : Nat) (p1 : Int) : (List Int × Int) → Option ((List Int × Int) ⊕ (List Int))
  | (x5, x6) => (if 0 ≤ x6 then (ix x5 (AG (p1 + x6))).bind fun x7 => (ix x5 p1).bind fun x8 => (ix x5 p1).bind fun x9 => (ix (AL x5 p1 x7) (AG (p1 + x6))).bind fun x10 => (DD nE (AL (AL x5 p1 x7) (AG (p1 + x6)) x8) 0 x6 p1).bind fun x11 => some (.inl (x11, AG (x6 - 1))) else some (.inr x5))
theorem Ih (nE : Nat) (p1 : Int) : ∀ s, Le (D8 nE p1 s) (BX p1 s) := by
  rintro ⟨x5, x6⟩
  unfold D8 BX
  repeat' with_reducible (first | apply Le.orR' | apply Le.bind' | apply Le.ite' | apply Le.loop' | apply Le.altS' | apply F0 | exact Le.rfl' _ | (refine Le.pi2 ?_; intro _) | intro _)
def EI (nE : Nat) (p0 : List Int) (p1 : Int) (p2 : Int) : Option (List Int) := (Di nE (D9 nE p1 p2) (p0, AG (Int.tdiv (AG ((AG (p2 - p1)) - 1)) 2))).bind fun x1 => Di nE (D8 nE p1) (x1, AG ((AG (p2 - p1)) - 1))
theorem Jk (nE : Nat) (p0 : List Int) (p1 : Int) (p2 : Int) : Le (EI nE p0 p1 p2) (Cy p0 p1 p2) := by
  unfold EI Cy
  repeat' with_reducible (first | apply Le.orR' | apply Le.bind' | apply Le.ite' | apply Le.loop' | apply Le.altS' | apply Im | apply Ih | exact Le.rfl' _ | (refine Le.pi2 ?_; intro _) | intro _)
def Dg (nE : Nat) (p0 : List Int) (p1 : Int) (p2 : Int) (p3 : Int) : Option (Int × Int × Int) := (ix p0 p2).bind fun x1 => (ix p0 p1).bind fun x2 => (if (AX x1 x2) = true then some (p2, p1, AG (p3 + 1)) else some (p1, p2, p3))
theorem JH (nE : Nat) (p0 : List Int) (p1 : Int) (p2 : Int) (p3 : Int) : Le (Dg nE p0 p1 p2 p3) (Cd p0 p1 p2 p3) := by
  unfold Dg Cd
  repeat' with_reducible (first | apply Le.orR' | apply Le.bind' | apply Le.ite' | apply Le.loop' | apply Le.altS' | exact Le.rfl' _ | (refine Le.pi2 ?_; intro _) | intro _)
def DT (nE : Nat) (p0 : List Int) (p1 : Int) (p2 : Int) (p3 : Int) (p4 : Int) : Option (Int × Int) := (Dg nE p0 p1 p2 p4).bind fun x1 => (Dg nE p0 x1.2.1 p3 x1.2.2).bind fun x2 => (Dg nE p0 x1.1 x2.1 x2.2.2).bind fun x3 => some (x3.2.1, x3.2.2)
theorem GH (nE : Nat) (p0 : List Int) (p1 : Int) (p2 : Int) (p3 : Int) (p4 : Int) : Le (DT nE p0 p1 p2 p3 p4) (Ce p0 p1 p2 p3 p4) := by
  unfold DT Ce
  repeat' with_reducible (first | apply Le.orR' | apply Le.bind' | apply Le.ite' | apply Le.loop' | apply Le.altS' | apply JH | exact Le.rfl' _ | (refine Le.pi2 ?_; intro _) | intro _)
def Cw (nE : Nat) (p0 : List Int) (p1 : Int) (p2 : Int) : Option (Int × Int) := (DT nE p0 (AG (p1 - 1)) p1 (AG (p1 + 1)) p2).bind fun x1 => some (x1.1, x1.2)
theorem Hw (nE : Nat) (p0 : List Int) (p1 : Int) (p2 : Int) : Le (Cw nE p0 p1 p2) (Bh p0 p1 p2) := by
  unfold Cw Bh
  repeat' with_reducible (first | apply Le.orR' | apply Le.bind' | apply Le.ite' | apply Le.loop' | apply Le.altS' | apply GH | exact Le.rfl' _ | (refine Le.pi2 ?_; intro _) | intro _)
def D6 (nE : Nat) (p0 : List Int) (p1 : Int) (p2 : Int) : Option (Int × Int) := (if 8 ≤ (AG (p2 - p1)) then (if 50 ≤ (AG (p2 - p1)) then (Cw nE p0 (AG (p1 + (AG ((AG (Int.tdiv (AG (p2 - p1)) 4)) * 1)))) 0).bind fun x7 => (Cw nE p0 (AG (p1 + (AG ((AG (Int.tdiv (AG (p2 - p1)) 4)) * 2)))) x7.2).bind fun x8 => (Cw nE p0 (AG (p1 + (AG ((AG (Int.tdiv (AG (p2 - p1)) 4)) * 3)))) x8.2).bind fun x9 => some (x7.1, x8.1, x9.1, x9.2) else some (AG (p1 + (AG ((AG (Int.tdiv (AG (p2 - p1)) 4)) * 1))), AG (p1 + (AG ((AG (Int.tdiv (AG (p2 - p1)) 4)) * 2))), AG (p1 + (AG ((AG (Int.tdiv (AG (p2 - p1)) 4)) * 3))), 0)).bind fun (x3, x4, x5, x6) => (DT nE p0 x3 x4 x5 x6).bind fun x10 => some (x10.1, x10.2) else some (AG (p1 + (AG ((AG (Int.tdiv (AG (p2 - p1)) 4)) * 2))), 0)).bind fun (x1, x2) => (if x2 = 0 then some (x1, 1) else (if x2 = 12 then some (x1, 2) else some (x1, 0)))
theorem Ii (nE : Nat) (p0 : List Int) (p1 : Int) (p2 : Int) : Le (D6 nE p0 p1 p2) (Cg p0 p1 p2) := by
  unfold D6 Cg
  repeat' with_reducible (first | apply Le.orR' | apply Le.bind' | apply Le.ite' | apply Le.loop' | apply Le.altS' | apply GH | apply Hw | exact Le.rfl' _ | (refine Le.pi2 ?_; intro _) | intro _)
def DC (nE : Nat)  : (List Int × Int × Int) → Option ((List Int × Int × Int) ⊕ (List Int))
  | (x1, x2, x3) => (if x2 < x3 then (ix x1 x3).bind fun x4 => (ix x1 x2).bind fun x5 => (ix x1 x2).bind fun x6 => (ix (AL x1 x2 x4) x3).bind fun x7 => some (.inl ((AL (AL x1 x2 x4) x3 x5), AG (x2 + 1), AG (x3 - 1))) else some (.inr x1))
theorem Hm (nE : Nat)  : ∀ s, Le (DC nE  s) (Bq  s) := by
  rintro ⟨x1, x2, x3⟩
  unfold DC Bq
  repeat' with_reducible (first | apply Le.orR' | apply Le.bind' | apply Le.ite' | apply Le.loop' | apply Le.altS' | exact Le.rfl' _ | (refine Le.pi2 ?_; intro _) | intro _)
def DY (nE : Nat) (p0 : List Int) (p1 : Int) (p2 : Int) : Option (List Int) := Di nE (DC nE) (p0, p1, AG (p2 - 1))
theorem HT (nE : Nat) (p0 : List Int) (p1 : Int) (p2 : Int) : Le (DY nE p0 p1 p2) (BU p0 p1 p2) := by
  unfold DY BU
  repeat' with_reducible (first | apply Le.orR' | apply Le.bind' | apply Le.ite' | apply Le.loop' | apply Le.altS' | apply Hm | exact Le.rfl' _ | (refine Le.pi2 ?_; intro _) | intro _)
def CY (nE : Nat) (p2 : Int) (x2 : List Int) : Int → Option (Int ⊕ Int)
  | x8 => (if x8 < p2 then (ix x2 x8).bind fun x10 => (ix x2 (AG (x8 - 1))).bind fun x11 => some (!(AX x10 x11)) else some false).bind fun x9 => (if x9 = true then some (.inl (AG (x8 + 1))) else some (.inr x8))
theorem FK (nE : Nat) (p2 : Int) (x2 : List Int) : ∀ s, Le (CY nE p2 x2 s) (Bp p2 x2 s) := by
  intro x8
  unfold CY Bp
  repeat' with_reducible (first | apply Le.orR' | apply Le.bind' | apply Le.ite' | apply Le.loop' | apply Le.altS' | exact Le.rfl' _ | (refine Le.pi2 ?_; intro _) | intro _)
def CW (nE : Nat)  : (List Int × Int) → Option ((List Int × Int) ⊕ (List Int))
  | (x17, x18) => (if 1 ≤ x18 then (ix x17 x18).bind fun x19 => (ix x17 (AG (x18 - 1))).bind fun x20 => (if (!(AX x19 x20)) = true then some (.inr x17) else (ix x17 (AG (x18 - 1))).bind fun x21 => (ix x17 x18).bind fun x22 => (ix x17 x18).bind fun x23 => (ix (AL x17 x18 x21) (AG (x18 - 1))).bind fun x24 => some (.inl ((AL (AL x17 x18 x21) (AG (x18 - 1)) x22), AG (x18 - 1)))) else some (.inr x17))
theorem FA (nE : Nat)  : ∀ s, Le (CW nE  s) (AY  s) := by
  rintro ⟨x17, x18⟩
  unfold CW AY
  repeat' with_reducible (first | apply Le.orR' | apply Le.bind' | apply Le.ite' | apply Le.loop' | apply Le.altS' | exact Le.rfl' _ | (refine Le.pi2 ?_; intro _) | intro _)
def CV (nE : Nat) (p2 : Int) (x7 : Int) : (List Int × Int) → Option ((List Int × Int) ⊕ ((List Int × Int) ⊕ ((List Int × Int × Int) ⊕ ((List Int) ⊕ (Bool × List Int)))))
  | (x25, x26) => (if x26 < p2 then (ix x25 x26).bind fun x27 => (ix x25 (AG (x26 - 1))).bind fun x28 => (if (!(AX x27 x28)) = true then some (.inr (.inl (x25, x7))) else (ix x25 (AG (x26 - 1))).bind fun x29 => (ix x25 x26).bind fun x30 => (ix x25 x26).bind fun x31 => (ix (AL x25 x26 x29) (AG (x26 - 1))).bind fun x32 => some (.inl ((AL (AL x25 x26 x29) (AG (x26 - 1)) x30), AG (x26 + 1)))) else some (.inr (.inl (x25, x7))))
theorem FP (nE : Nat) (p2 : Int) (x7 : Int) : ∀ s, Le (CV nE p2 x7 s) (A2 p2 x7 s) := by
  rintro ⟨x25, x26⟩
  unfold CV A2
  repeat' with_reducible (first | apply Le.orR' | apply Le.bind' | apply Le.ite' | apply Le.loop' | apply Le.altS' | exact Le.rfl' _ | (refine Le.pi2 ?_; intro _) | intro _)
def CX (nE : Nat) (p1 : Int) (p2 : Int) : (List Int × Int × Int) → Option ((List Int × Int × Int) ⊕ ((List Int) ⊕ (Bool × List Int)))
  | (x2, x3, x4) => (if x4 < 5 then Je ((Di nE (CY nE p2 x2) x3).bind fun x7 => (if x7 = p2 then some (.inr (.inr (.inr (true, x2)))) else (if (AG (p2 - p1)) < 50 then some (.inr (.inr (.inr (false, x2)))) else (ix x2 (AG (x7 - 1))).bind fun x12 => (ix x2 x7).bind fun x13 => (ix x2 x7).bind fun x14 => (ix (AL x2 x7 x12) (AG (x7 - 1))).bind fun x15 => (if 2 ≤ (AG (x7 - p1)) then Di nE (CW nE) ((AL (AL x2 x7 x12) (AG (x7 - 1)) x13), AG (x7 - 1)) else some (AL (AL x2 x7 x12) (AG (x7 - 1)) x13)).bind fun x16 => (if 2 ≤ (AG (p2 - x7)) then Di nE (CV nE p2 x7) (x16, AG (x7 + 1)) else some (.inl (x16, x7)))))) fun (x5, x6) => some (.inl (x5, x6, AG (x4 + 1))) else some (.inr (.inl x2)))
theorem FI (nE : Nat) (p1 : Int) (p2 : Int) : ∀ s, Le (CX nE p1 p2 s) (A1 p1 p2 s) := by
  rintro ⟨x2, x3, x4⟩
  unfold CX A1
  repeat' with_reducible (first | apply Le.orR' | apply Le.bind' | apply Le.ite' | apply Le.loop' | apply Le.altS' | apply FK | apply FA | apply FP | exact Le.rfl' _ | (refine Le.pi2 ?_; intro _) | intro _)
def C7 (nE : Nat) (p0 : List Int) (p1 : Int) (p2 : Int) : Option (Bool × List Int) := Je (Di nE (CX nE p1 p2) (p0, AG (p1 + 1), 0)) fun x1 => some (false, x1)
theorem Gi (nE : Nat) (p0 : List Int) (p1 : Int) (p2 : Int) : Le (C7 nE p0 p1 p2) (Bl p0 p1 p2) := by
  unfold C7 Bl
  repeat' with_reducible (first | apply Le.orR' | apply Le.bind' | apply Le.ite' | apply Le.loop' | apply Le.altS' | apply FI | exact Le.rfl' _ | (refine Le.pi2 ?_; intro _) | intro _)
def Dk (nE : Nat) (p1 : Int) (x7 : List Int) (x9 : Int) : Int → Option (Int ⊕ Int)
  | x11 => (if x11 ≤ x9 then (ix x7 p1).bind fun x13 => (ix x7 x11).bind fun x14 => some (!(AX x13 x14)) else some false).bind fun x12 => (if x12 = true then some (.inl (AG (x11 + 1))) else some (.inr x11))
theorem GW (nE : Nat) (p1 : Int) (x7 : List Int) (x9 : Int) : ∀ s, Le (Dk nE p1 x7 x9 s) (BJ p1 x7 x9 s) := by
  intro x11
  unfold Dk BJ
  repeat' with_reducible (first | apply Le.orR' | apply Le.bind' | apply Le.ite' | apply Le.loop' | apply Le.altS' | exact Le.rfl' _ | (refine Le.pi2 ?_; intro _) | intro _)
def Dl (nE : Nat) (p1 : Int) (x7 : List Int) (x10 : Int) : Int → Option (Int ⊕ Int)
  | x16 => (if x10 ≤ x16 then (ix x7 p1).bind fun x18 => (ix x7 x16).bind fun x19 => some (AX x18 x19) else some false).bind fun x17 => (if x17 = true then some (.inl (AG (x16 - 1))) else some (.inr x16))
theorem GR (nE : Nat) (p1 : Int) (x7 : List Int) (x10 : Int) : ∀ s, Le (Dl nE p1 x7 x10 s) (BI p1 x7 x10 s) := by
  intro x16
  unfold Dl BI
  repeat' with_reducible (first | apply Le.orR' | apply Le.bind' | apply Le.ite' | apply Le.loop' | apply Le.altS' | exact Le.rfl' _ | (refine Le.pi2 ?_; intro _) | intro _)
def Dm (nE : Nat) (p1 : Int) : (List Int × Int × Int) → Option ((List Int × Int × Int) ⊕ (Int × List Int))
  | (x7, x8, x9) => (Di nE (Dk nE p1 x7 x9) x8).bind fun x10 => (Di nE (Dl nE p1 x7 x10) x9).bind fun x15 => (if x15 < x10 then some (.inr (x10, x7)) else (ix x7 x15).bind fun x20 => (ix x7 x10).bind fun x21 => (ix x7 x10).bind fun x22 => (ix (AL x7 x10 x20) x15).bind fun x23 => some (.inl ((AL (AL x7 x10 x20) x15 x21), AG (x10 + 1), AG (x15 - 1))))
theorem GO (nE : Nat) (p1 : Int) : ∀ s, Le (Dm nE p1 s) (Bu p1 s) := by
  rintro ⟨x7, x8, x9⟩
  unfold Dm Bu
  repeat' with_reducible (first | apply Le.orR' | apply Le.bind' | apply Le.ite' | apply Le.loop' | apply Le.altS' | apply GW | apply GR | exact Le.rfl' _ | (refine Le.pi2 ?_; intro _) | intro _)
def DG (nE : Nat) (p0 : List Int) (p1 : Int) (p2 : Int) (p3 : Int) : Option (Int × List Int) := (ix p0 p3).bind fun x1 => (ix p0 p1).bind fun x2 => (ix p0 p1).bind fun x3 => (ix (AL p0 p1 x1) p3).bind fun x4 => (Di nE (Dm nE p1) ((AL (AL p0 p1 x1) p3 x2), AG (p1 + 1), AG (p2 - 1))).bind fun (x5, x6) => some (x5, x6)
theorem Hv (nE : Nat) (p0 : List Int) (p1 : Int) (p2 : Int) (p3 : Int) : Le (DG nE p0 p1 p2 p3) (BZ p0 p1 p2 p3) := by
  unfold DG BZ
  repeat' with_reducible (first | apply Le.orR' | apply Le.bind' | apply Le.ite' | apply Le.loop' | apply Le.altS' | apply GO | exact Le.rfl' _ | (refine Le.pi2 ?_; intro _) | intro _)
def DV (nE : Nat) (p0 : List Int) (p1 : Int) (p2 : Int) (p3 : Int) (x1 : Int) (x2 : Int) : Int → Option (Int ⊕ Int)
  | x6 => (if x6 ≤ (AG (p2 - 1)) then (ix (AL (AL p0 p1 x1) p3 x2) x6).bind fun x8 => (ix (AL (AL p0 p1 x1) p3 x2) p1).bind fun x9 => some (AX x8 x9) else some false).bind fun x7 => (if x7 = true then some (.inl (AG (x6 + 1))) else some (.inr x6))
theorem HU (nE : Nat) (p0 : List Int) (p1 : Int) (p2 : Int) (p3 : Int) (x1 : Int) (x2 : Int) : ∀ s, Le (DV nE p0 p1 p2 p3 x1 x2 s) (BT p0 p1 p2 p3 x1 x2 s) := by
  intro x6
  unfold DV BT
  repeat' with_reducible (first | apply Le.orR' | apply Le.bind' | apply Le.ite' | apply Le.loop' | apply Le.altS' | exact Le.rfl' _ | (refine Le.pi2 ?_; intro _) | intro _)
def DQ (nE : Nat) (p0 : List Int) (p1 : Int) (p3 : Int) (x1 : Int) (x2 : Int) (x5 : Int) : Int → Option (Int ⊕ Int)
  | x11 => (if x5 ≤ x11 then (ix (AL (AL p0 p1 x1) p3 x2) x11).bind fun x13 => (ix (AL (AL p0 p1 x1) p3 x2) p1).bind fun x14 => some (!(AX x13 x14)) else some false).bind fun x12 => (if x12 = true then some (.inl (AG (x11 - 1))) else some (.inr x11))
theorem HS (nE : Nat) (p0 : List Int) (p1 : Int) (p3 : Int) (x1 : Int) (x2 : Int) (x5 : Int) : ∀ s, Le (DQ nE p0 p1 p3 x1 x2 x5 s) (Cb p0 p1 p3 x1 x2 x5 s) := by
  intro x11
  unfold DQ Cb
  repeat' with_reducible (first | apply Le.orR' | apply Le.bind' | apply Le.ite' | apply Le.loop' | apply Le.altS' | exact Le.rfl' _ | (refine Le.pi2 ?_; intro _) | intro _)
def DP (nE : Nat) (p1 : Int) (x25 : List Int) (x27 : Int) : Int → Option (Int ⊕ Int)
  | x29 => (if x29 ≤ x27 then (ix x25 x29).bind fun x31 => (ix x25 p1).bind fun x32 => some (AX x31 x32) else some false).bind fun x30 => (if x30 = true then some (.inl (AG (x29 + 1))) else some (.inr x29))
theorem HR (nE : Nat) (p1 : Int) (x25 : List Int) (x27 : Int) : ∀ s, Le (DP nE p1 x25 x27 s) (Ca p1 x25 x27 s) := by
  intro x29
  unfold DP Ca
  repeat' with_reducible (first | apply Le.orR' | apply Le.bind' | apply Le.ite' | apply Le.loop' | apply Le.altS' | exact Le.rfl' _ | (refine Le.pi2 ?_; intro _) | intro _)
def DW (nE : Nat) (p1 : Int) (x25 : List Int) (x28 : Int) : Int → Option (Int ⊕ Int)
  | x34 => (if x28 ≤ x34 then (ix x25 x34).bind fun x36 => (ix x25 p1).bind fun x37 => some (!(AX x36 x37)) else some false).bind fun x35 => (if x35 = true then some (.inl (AG (x34 - 1))) else some (.inr x34))
theorem HV (nE : Nat) (p1 : Int) (x25 : List Int) (x28 : Int) : ∀ s, Le (DW nE p1 x25 x28 s) (B9 p1 x25 x28 s) := by
  intro x34
  unfold DW B9
  repeat' with_reducible (first | apply Le.orR' | apply Le.bind' | apply Le.ite' | apply Le.loop' | apply Le.altS' | exact Le.rfl' _ | (refine Le.pi2 ?_; intro _) | intro _)
def DX (nE : Nat) (p1 : Int) : (List Int × Int × Int) → Option ((List Int × Int × Int) ⊕ (List Int × Int))
  | (x25, x26, x27) => (Di nE (DP nE p1 x25 x27) x26).bind fun x28 => (Di nE (DW nE p1 x25 x28) x27).bind fun x33 => (if x33 < x28 then some (.inr (x25, x33)) else (ix x25 x33).bind fun x38 => (ix x25 x28).bind fun x39 => (ix x25 x28).bind fun x40 => (ix (AL x25 x28 x38) x33).bind fun x41 => some (.inl ((AL (AL x25 x28 x38) x33 x39), AG (x28 + 1), AG (x33 - 1))))
theorem HX (nE : Nat) (p1 : Int) : ∀ s, Le (DX nE p1 s) (BH p1 s) := by
  rintro ⟨x25, x26, x27⟩
  unfold DX BH
  repeat' with_reducible (first | apply Le.orR' | apply Le.bind' | apply Le.ite' | apply Le.loop' | apply Le.altS' | apply HR | apply HV | exact Le.rfl' _ | (refine Le.pi2 ?_; intro _) | intro _)
def EE (nE : Nat) (p0 : List Int) (p1 : Int) (p2 : Int) (p3 : Int) : Option (Int × Bool × List Int) := (ix p0 p3).bind fun x1 => (ix p0 p1).bind fun x2 => (ix p0 p1).bind fun x3 => (ix (AL p0 p1 x1) p3).bind fun x4 => (Di nE (DV nE p0 p1 p2 p3 x1 x2) (AG (p1 + 1))).bind fun x5 => (Di nE (DQ nE p0 p1 p3 x1 x2 x5) (AG (p2 - 1))).bind fun x10 => (if x10 < x5 then (ix (AL (AL p0 p1 x1) p3 x2) p1).bind fun x15 => (ix (AL (AL p0 p1 x1) p3 x2) x10).bind fun x16 => (ix (AL (AL p0 p1 x1) p3 x2) x10).bind fun x17 => (ix (AL (AL (AL p0 p1 x1) p3 x2) x10 x15) p1).bind fun x18 => some (x10, true, (AL (AL (AL (AL p0 p1 x1) p3 x2) x10 x15) p1 x16)) else (ix (AL (AL p0 p1 x1) p3 x2) x10).bind fun x19 => (ix (AL (AL p0 p1 x1) p3 x2) x5).bind fun x20 => (ix (AL (AL p0 p1 x1) p3 x2) x5).bind fun x21 => (ix (AL (AL (AL p0 p1 x1) p3 x2) x5 x19) x10).bind fun x22 => (Di nE (DX nE p1) ((AL (AL (AL (AL p0 p1 x1) p3 x2) x5 x19) x10 x20), AG (x5 + 1), AG (x10 - 1))).bind fun (x23, x24) => (ix x23 p1).bind fun x42 => (ix x23 x24).bind fun x43 => (ix x23 x24).bind fun x44 => (ix (AL x23 x24 x42) p1).bind fun x45 => some (x24, false, (AL (AL x23 x24 x42) p1 x43)))
theorem IX (nE : Nat) (p0 : List Int) (p1 : Int) (p2 : Int) (p3 : Int) : Le (EE nE p0 p1 p2 p3) (Cp p0 p1 p2 p3) := by
  unfold EE Cp
  repeat' with_reducible (first | apply Le.orR' | apply Le.bind' | apply Le.ite' | apply Le.loop' | apply Le.altS' | apply HU | apply HS | apply HX | exact Le.rfl' _ | (refine Le.pi2 ?_; intro _) | intro _)
def FJ (nE : Nat) (p0 : Int) : Option Int := (Hy nE (IntKind.u64.wrap p0)).bind fun x1 => (Vo (EY .u64 1 x1) x1).bind fun x2 => some x2
theorem Kl (nE : Nat) (p0 : Int) : Le (FJ nE p0) (CO p0) := by
  unfold FJ CO
  repeat' with_reducible (first | apply Le.orR' | apply Le.bind' | apply Le.ite' | apply Le.loop' | apply Le.altS' | apply KL | exact Le.rfl' _ | (refine Le.pi2 ?_; intro _) | intro _)
def Dp (nE : Nat) (p1 : Int) (p2 : Int) (x1 : Int) : (List Int × Int × Int) → Option ((List Int × Int × Int) ⊕ (List Int))
  | (x2, x3, x4) => (if x3 ≤ (AG ((AG (p1 + (AG ((AG (Int.tdiv (AG (p2 - p1)) 4)) * 2)))) + 1)) then (if (AG (p2 - p1)) ≤ (AG (QC .u64 ((Br x4).1) (IntKind.u64.wrap (x1 - 1)))) then some (AG ((AG (QC .u64 ((Br x4).1) (IntKind.u64.wrap (x1 - 1)))) - (AG (p2 - p1)))) else some (AG (QC .u64 ((Br x4).1) (IntKind.u64.wrap (x1 - 1))))).bind fun x5 => (ix x2 (AG (p1 + x5))).bind fun x6 => (ix x2 x3).bind fun x7 => (ix x2 x3).bind fun x8 => (ix (AL x2 x3 x6) (AG (p1 + x5))).bind fun x9 => some (.inl ((AL (AL x2 x3 x6) (AG (p1 + x5)) x7), AG (x3 + 1), (Br x4).2)) else some (.inr x2))
theorem Hc (nE : Nat) (p1 : Int) (p2 : Int) (x1 : Int) : ∀ s, Le (Dp nE p1 p2 x1 s) (BC p1 p2 x1 s) := by
  rintro ⟨x2, x3, x4⟩
  unfold Dp BC
  repeat' with_reducible (first | apply Le.orR' | apply Le.bind' | apply Le.ite' | apply Le.loop' | apply Le.altS' | exact Le.rfl' _ | (refine Le.pi2 ?_; intro _) | intro _)
def DM (nE : Nat) (p0 : List Int) (p1 : Int) (p2 : Int) : Option (List Int) := (if 8 ≤ (AG (p2 - p1)) then (FJ nE (AG (p2 - p1))).bind fun x1 => Di nE (Dp nE p1 p2 x1) (p0, AG ((AG (p1 + (AG ((AG (Int.tdiv (AG (p2 - p1)) 4)) * 2)))) - 1), IntKind.u64.wrap (AG (p2 - p1))) else some p0)
theorem HE (nE : Nat) (p0 : List Int) (p1 : Int) (p2 : Int) : Le (DM nE p0 p1 p2) (BM p0 p1 p2) := by
  unfold DM BM
  repeat' with_reducible (first | apply Le.orR' | apply Le.bind' | apply Le.ite' | apply Le.loop' | apply Le.altS' | apply Kl | apply Hc | exact Le.rfl' _ | (refine Le.pi2 ?_; intro _) | intro _)
def Ek (nE : Nat) (fRec : (List Int) → Int → Int → Int → Option (List Int)) : (List Int × Int × Int × Int × Bool × Bool) → Option ((List Int × Int × Int × Int × Bool × Bool) ⊕ (List Int))
  | (x1, x2, x3, x4, x5, x6) => (if (AG (x3 - x2)) ≤ 12 then (DL nE x1 x2 x3).bind fun x7 => some (.inr x7) else (if x4 = 0 then (EI nE x1 x2 x3).bind fun x8 => some (.inr x8) else (if (!x5) = true then (DM nE x1 x2 x3).bind fun x11 => some (x11, AG (x4 - 1)) else some (x1, x4)).bind fun (x9, x10) => (D6 nE x9 x2 x3).bind fun x12 => (if x12.2 = 2 then (DY nE x9 x2 x3).bind fun x16 => some (x16, AG ((AG (x3 - 1)) - (AG (x12.1 - x2))), 1) else some (x9, x12.1, x12.2)).bind fun (x13, x14, x15) => Je (if (x5 && (x6 && decide (x15 = 1))) = true then (C7 nE x13 x2 x3).bind fun x18 => (if x18.1 = true then some (.inr (.inr x18.2)) else some (.inl x18.2)) else some (.inl x13)) fun x17 => (if 0 < x2 then (ix x17 (AG (x2 - 1))).bind fun x20 => (ix x17 x14).bind fun x21 => some (!(AX x20 x21)) else some false).bind fun x19 => (if x19 = true then (DG nE x17 x2 x3 x14).bind fun x22 => some (.inl (x22.2, x22.1, x3, x10, (x5 && (x6 || true)), (bif x5 then x6 else x6))) else (EE nE x17 x2 x3 x14).bind fun x23 => (if (AG (x23.1 - x2)) < (AG (x3 - x23.1)) then (fRec x23.2.2 x2 x23.1 x10).bind fun x24 => some (.inl (x24, AG (x23.1 + 1), x3, x10, decide ((AG (Int.tdiv (AG (x3 - x2)) 8)) ≤ (AG (x23.1 - x2))), x23.2.1)) else (fRec x23.2.2 (AG (x23.1 + 1)) x3 x10).bind fun x25 => some (.inl (x25, x2, x23.1, x10, decide ((AG (Int.tdiv (AG (x3 - x2)) 8)) ≤ (AG (x3 - x23.1))), x23.2.1))))))
theorem Is (nE : Nat) {fRec fRec' : (List Int) → Int → Int → Int → Option (List Int)} (hfRec : ∀ a0 a1 a2 a3, Le (fRec a0 a1 a2 a3) (fRec' a0 a1 a2 a3)) : ∀ s, Le (Ek nE fRec s) (AD fRec' s) := by
  rintro ⟨x1, x2, x3, x4, x5, x6⟩
  unfold Ek AD
  repeat' with_reducible (first | apply Le.orR' | apply Le.bind' | apply Le.ite' | apply Le.loop' | apply Le.altS' | exact hfRec | exact hfRec _ _ _ _ | apply HB | apply Jk | apply Ii | apply HT | apply Gi | apply Hv | apply IX | apply HE | exact Le.rfl' _ | (refine Le.pi2 ?_; intro _) | intro _)
theorem Iu {fRec fRec' : (List Int) → Int → Int → Int → Option (List Int)} (hfRec : ∀ a0 a1 a2 a3, Le (fRec a0 a1 a2 a3) (fRec' a0 a1 a2 a3)) : ∀ s, Le (AD fRec s) (AD fRec' s) := by
  rintro ⟨x1, x2, x3, x4, x5, x6⟩
  show Le (AD fRec (x1, x2, x3, x4, x5, x6)) (AD fRec' (x1, x2, x3, x4, x5, x6))
  unfold AD
  repeat' with_reducible (first | apply Le.orR' | apply Le.bind' | apply Le.ite' | apply Le.loopM | apply Le.altS' | exact hfRec | exact hfRec _ _ _ _ | exact Le.rfl' _ | (refine Le.pi2 ?_; intro _) | intro _)
def Em (nE : Nat) (fRec : (List Int) → Int → Int → Int → Option (List Int)) (p0 : List Int) (p1 : Int) (p2 : Int) (p3 : Int) : Option (List Int) := Di nE (Ek nE fRec) (p0, p1, p2, p3, true, true)
theorem Ir (nE : Nat) {fRec fRec' : (List Int) → Int → Int → Int → Option (List Int)} (hfRec : ∀ a0 a1 a2 a3, Le (fRec a0 a1 a2 a3) (fRec' a0 a1 a2 a3)) (p0 : List Int) (p1 : Int) (p2 : Int) (p3 : Int) : Le (Em nE fRec p0 p1 p2 p3) (B5 fRec' p0 p1 p2 p3) := by
  unfold Em B5
  repeat' with_reducible (first | apply Le.orR' | apply Le.bind' | apply Le.ite' | apply Le.loop' | apply Le.altS' | exact hfRec | exact hfRec _ _ _ _ | apply Is | exact Le.rfl' _ | (refine Le.pi2 ?_; intro _) | intro _)
theorem Iy {fRec fRec' : (List Int) → Int → Int → Int → Option (List Int)} (hfRec : ∀ a0 a1 a2 a3, Le (fRec a0 a1 a2 a3) (fRec' a0 a1 a2 a3)) (p0 : List Int) (p1 : Int) (p2 : Int) (p3 : Int) : Le (B5 fRec p0 p1 p2 p3) (B5 fRec' p0 p1 p2 p3) := by
  unfold B5
  repeat' with_reducible (first | apply Le.orR' | apply Le.bind' | apply Le.ite' | apply Le.loopM | apply Le.altS' | exact hfRec | exact hfRec _ _ _ _ | apply Iu | exact Le.rfl' _ | (refine Le.pi2 ?_; intro _) | intro _)
def Es (nE : Nat) : Nat → (List Int) → Int → Int → Int → Option (List Int)
  | 0 => fun _ _ _ _ => none
  | n + 1 => Em nE (Es nE n)
theorem Fy (nE : Nat) : ∀ (m : Nat) a0 a1 a2 a3, Le (Es nE m a0 a1 a2 a3) (A4 m a0 a1 a2 a3)
  | 0, a0, a1, a2, a3 => fun _ h => nomatch h
  | m + 1, a0, a1, a2, a3 => Ir nE (Fy nE m) a0 a1 a2 a3
theorem FF : ∀ (m : Nat) a0 a1 a2 a3, Le (A4 m a0 a1 a2 a3) (A4 (m + 1) a0 a1 a2 a3)
  | 0, a0, a1, a2, a3 => fun _ h => nomatch h
  | m + 1, a0, a1, a2, a3 => Iy (FF m) a0 a1 a2 a3
def GG (nE : Nat) (p0 : List Int) (p1 : Int) (p2 : Int) (p3 : Int) : Option (List Int) := Es nE nE p0 p1 p2 p3
theorem JC (nE : Nat) (p0 : List Int) (p1 : Int) (p2 : Int) (p3 : Int) : Le (GG nE p0 p1 p2 p3) (Dn p0 p1 p2 p3) := fun r e => DJ (g := fun n => A4 n p0 p1 p2 p3) (fun n r h => FF n p0 p1 p2 p3 r h) (n := nE) (Fy nE nE p0 p1 p2 p3 r e)
def Fa (nE : Nat) (p0 : List Int) : Option (List Int) := (Hy nE (IntKind.u64.wrap (p0.length : Int))).bind fun x1 => (GG nE p0 0 (p0.length : Int) x1).bind fun x2 => some x2
theorem H8 (nE : Nat) (p0 : List Int) : Le (Fa nE p0) (C6 p0) := by
  unfold Fa C6
  repeat' with_reducible (first | apply Le.orR' | apply Le.bind' | apply Le.ite' | apply Le.loop' | apply Le.altS' | apply KL | apply JC | exact Le.rfl' _ | (refine Le.pi2 ?_; intro _) | intro _)
def EM (nE : Nat) (p0 : List Int) (x1 : Int) : (List Int × Int × Int) → Option ((List Int × Int × Int) ⊕ (List Int × Int))
  | (x7, x8, x9) => (Lh x7 x1 (p0.length : Int)).bind fun x10 => (if x9 < (x10.length : Int) then ((ix x10 x9).bind fun x13 => (ix x10 (AG (x9 - 1))).bind fun x14 => (if x13 ≠ x14 then (ix x10 x9).bind fun x15 => (ix x7 x8).bind fun x16 => some ((AL x7 x8 x15), AG (x8 + 1)) else some (x7, x8))).bind fun (x11, x12) => some (.inl (x11, x12, AG (x9 + 1))) else some (.inr (x7, x8)))
theorem Jt (nE : Nat) (p0 : List Int) (x1 : Int) : ∀ s, Le (EM nE p0 x1 s) (B7 p0 x1 s) := by
  rintro ⟨x7, x8, x9⟩
  unfold EM B7
  repeat' with_reducible (first | apply Le.orR' | apply Le.bind' | apply Le.ite' | apply Le.loop' | apply Le.altS' | exact Le.rfl' _ | (refine Le.pi2 ?_; intro _) | intro _)
def EN (nE : Nat) (p0 : List Int) : Int → Option (Int ⊕ (Unit ⊕ (List Int)))
  | x1 => (if x1 < (p0.length : Int) then Je ((ix p0 x1).bind fun x2 => (ix p0 (AG (x1 - 1))).bind fun x3 => (if x2 = x3 then (Lh p0 x1 (p0.length : Int)).bind fun x4 => (Di nE (EM nE p0 x1) (p0, x1, 1)).bind fun (x5, x6) => (Lh x5 x6 (x5.length : Int)).bind fun x17 => (Vx x5 x6 (List.replicate (x17.length) (0 : Int))).bind fun x18 => (Lh x18 0 x6).bind fun x19 => some (.inr (.inr (.inr x19))) else some (.inl ()))) fun _ => some (.inl (AG (x1 + 1))) else some (.inr (.inl ())))
theorem Jy (nE : Nat) (p0 : List Int) : ∀ s, Le (EN nE p0 s) (BR p0 s) := by
  intro x1
  unfold EN BR
  repeat' with_reducible (first | apply Le.orR' | apply Le.bind' | apply Le.ite' | apply Le.loop' | apply Le.altS' | apply Jt | exact Le.rfl' _ | (refine Le.pi2 ?_; intro _) | intro _)
def En (nE : Nat) (p0 : List Int) : Option (List Int) := (if (p0.length : Int) < 2 then some p0 else Je (Di nE (EN nE p0) 1) fun _ => some p0)
theorem Hg (nE : Nat) (p0 : List Int) : Le (En nE p0) (CH p0) := by
  unfold En CH
  repeat' with_reducible (first | apply Le.orR' | apply Le.bind' | apply Le.ite' | apply Le.loop' | apply Le.altS' | apply Jy | exact Le.rfl' _ | (refine Le.pi2 ?_; intro _) | intro _)
def Kw (nE : Nat) (p0 : Tr36) (p1 : Int) : Option (List Int) := (LA nE p0 p1).bind fun x1 => (Fa nE x1).bind fun x2 => (En nE x2).bind fun x3 => some x3
theorem Qd (nE : Nat) (p0 : Tr36) (p1 : Int) : Le (Kw nE p0 p1) (FZ p0 p1) := by
  unfold Kw FZ
  repeat' with_reducible (first | apply Le.orR' | apply Le.bind' | apply Le.ite' | apply Le.loop' | apply Le.altS' | apply N5 | apply H8 | apply Hg | exact Le.rfl' _ | (refine Le.pi2 ?_; intro _) | intro _)
def ID (nE : Nat) (fRec : Tr39 → Int → Option (List Int)) (p0 : Tr39) (p1 : Int) : (List Int × Int) → Option ((List Int × Int) ⊕ (List Int))
  | (x5, x6) => (if x6 < (p0.un.2.2.2.2.length : Int) then (ix p0.un.2.2.2.2 x6).bind fun x7 => (fRec (Tr39.of (x7.un.1, Tr36.of (x7.un.2.1.un.1, x7.un.2.1.un.2.1, x7.un.2.1.un.2.2.1, x7.un.2.1.un.2.2.2), x7.un.2.2.1, x7.un.2.2.2.1, x7.un.2.2.2.2)) p1).bind fun x8 => (Ig x5 x8).bind fun x9 => some (.inl (x9, AG (x6 + 1))) else some (.inr x5))
theorem Ny (nE : Nat) {fRec fRec' : Tr39 → Int → Option (List Int)} (hfRec : ∀ a0 a1, Le (fRec a0 a1) (fRec' a0 a1)) (p0 : Tr39) (p1 : Int) : ∀ s, Le (ID nE fRec p0 p1 s) (DS fRec' p0 p1 s) := by
  rintro ⟨x5, x6⟩
  unfold ID DS
  repeat' with_reducible (first | apply Le.orR' | apply Le.bind' | apply Le.ite' | apply Le.loop' | apply Le.altS' | exact hfRec | exact hfRec _ _ | exact Le.rfl' _ | (refine Le.pi2 ?_; intro _) | intro _)
theorem NN {fRec fRec' : Tr39 → Int → Option (List Int)} (hfRec : ∀ a0 a1, Le (fRec a0 a1) (fRec' a0 a1)) (p0 : Tr39) (p1 : Int) : ∀ s, Le (DS fRec p0 p1 s) (DS fRec' p0 p1 s) := by
  rintro ⟨x5, x6⟩
  show Le (DS fRec p0 p1 (x5, x6)) (DS fRec' p0 p1 (x5, x6))
  unfold DS
  repeat' with_reducible (first | apply Le.orR' | apply Le.bind' | apply Le.ite' | apply Le.loopM | apply Le.altS' | exact hfRec | exact hfRec _ _ | exact Le.rfl' _ | (refine Le.pi2 ?_; intro _) | intro _)
def IQ (nE : Nat) (fRec : Tr39 → Int → Option (List Int)) (p0 : Tr39) (p1 : Int) : Option (List Int) := (Kw nE (Tr36.of (p0.un.2.1.un.1, p0.un.2.1.un.2.1, p0.un.2.1.un.2.2.1, p0.un.2.1.un.2.2.2)) p1).bind fun x1 => (if (decide (p0.un.1 = 2) && decide (p0.un.2.2.1 = p1)) = true then (Ig x1 ([p0.un.2.2.2.1] : List Int)).bind fun x3 => some x3 else some x1).bind fun x2 => (Di nE (ID nE fRec p0 p1) (x2, 0)).bind fun x4 => some x4
theorem NA (nE : Nat) {fRec fRec' : Tr39 → Int → Option (List Int)} (hfRec : ∀ a0 a1, Le (fRec a0 a1) (fRec' a0 a1)) (p0 : Tr39) (p1 : Int) : Le (IQ nE fRec p0 p1) (EB fRec' p0 p1) := by
  unfold IQ EB
  repeat' with_reducible (first | apply Le.orR' | apply Le.bind' | apply Le.ite' | apply Le.loop' | apply Le.altS' | exact hfRec | exact hfRec _ _ | apply Qd | apply Ny | exact Le.rfl' _ | (refine Le.pi2 ?_; intro _) | intro _)
theorem NJ {fRec fRec' : Tr39 → Int → Option (List Int)} (hfRec : ∀ a0 a1, Le (fRec a0 a1) (fRec' a0 a1)) (p0 : Tr39) (p1 : Int) : Le (EB fRec p0 p1) (EB fRec' p0 p1) := by
  unfold EB
  repeat' with_reducible (first | apply Le.orR' | apply Le.bind' | apply Le.ite' | apply Le.loopM | apply Le.altS' | exact hfRec | exact hfRec _ _ | apply NN | exact Le.rfl' _ | (refine Le.pi2 ?_; intro _) | intro _)
def Jr (nE : Nat) : Nat → Tr39 → Int → Option (List Int)
  | 0 => fun _ _ => none
  | n + 1 => IQ nE (Jr nE n)
theorem KX (nE : Nat) : ∀ (m : Nat) a0 a1, Le (Jr nE m a0 a1) (EV m a0 a1)
  | 0, a0, a1 => fun _ h => nomatch h
  | m + 1, a0, a1 => NA nE (KX nE m) a0 a1
theorem KN : ∀ (m : Nat) a0 a1, Le (EV m a0 a1) (EV (m + 1) a0 a1)
  | 0, a0, a1 => fun _ h => nomatch h
  | m + 1, a0, a1 => NJ (KN m) a0 a1
def MV (nE : Nat) (p0 : Tr39) (p1 : Int) : Option (List Int) := Jr nE nE p0 p1
theorem Ql (nE : Nat) (p0 : Tr39) (p1 : Int) : Le (MV nE p0 p1) (LY p0 p1) := fun r e => DJ (g := fun n => EV n p0 p1) (fun n r h => KN n p0 p1 r h) (n := nE) (KX nE nE p0 p1 r e)
def Gq (nE : Nat) (p0 : Tr39) (p1 : Int) : Option (List Int) := (MV nE (Tr39.of (p0.un.1, Tr36.of (p0.un.2.1.un.1, p0.un.2.1.un.2.1, p0.un.2.1.un.2.2.1, p0.un.2.1.un.2.2.2), p0.un.2.2.1, p0.un.2.2.2.1, p0.un.2.2.2.2)) p1).bind fun x1 => (Fa nE x1).bind fun x2 => (En nE x2).bind fun x3 => some x3
theorem KS (nE : Nat) (p0 : Tr39) (p1 : Int) : Le (Gq nE p0 p1) (Fw p0 p1) := by
  unfold Gq Fw
  repeat' with_reducible (first | apply Le.orR' | apply Le.bind' | apply Le.ite' | apply Le.loop' | apply Le.altS' | apply H8 | apply Hg | apply Ql | exact Le.rfl' _ | (refine Le.pi2 ?_; intro _) | intro _)
def IV (nE : Nat) (p0 : Tr39) : (Int × Int) → Option ((Int × Int) ⊕ Int)
  | (x2, x3) => (if x3 ≤ 4 then (Gq nE (Tr39.of (p0.un.1, Tr36.of (p0.un.2.1.un.1, p0.un.2.1.un.2.1, p0.un.2.1.un.2.2.1, p0.un.2.1.un.2.2.2), p0.un.2.2.1, p0.un.2.2.2.1, p0.un.2.2.2.2)) x3).bind fun x4 => some (.inl (min (AG (x2 * (AG ((x4.length : Int) + 1)))) 100000, AG (x3 + 1))) else some (.inr x2))
theorem NU (nE : Nat) (p0 : Tr39) : ∀ s, Le (IV nE p0 s) (H5 p0 s) := by
  rintro ⟨x2, x3⟩
  unfold IV H5
  repeat' with_reducible (first | apply Le.orR' | apply Le.bind' | apply Le.ite' | apply Le.loop' | apply Le.altS' | apply KS | exact Le.rfl' _ | (refine Le.pi2 ?_; intro _) | intro _)
def IZ (nE : Nat) (p0 : Tr39) : Option Int := (Di nE (IV nE p0) (1, 0)).bind fun x1 => some x1
theorem Mb (nE : Nat) (p0 : Tr39) : Le (IZ nE p0) (HO p0) := by
  unfold IZ HO
  repeat' with_reducible (first | apply Le.orR' | apply Le.bind' | apply Le.ite' | apply Le.loop' | apply Le.altS' | apply NU | exact Le.rfl' _ | (refine Le.pi2 ?_; intro _) | intro _)
def IM (nE : Nat) (p0 : Int × (List (Int × Int × Int × Int × Int × Int)) × (List (Int × Int))) : ((List (Int × Int)) × Int) → Option (((List (Int × Int)) × Int) ⊕ (List (Int × Int)))
  | (x2, x3) => (if x3 < (p0.2.1.length : Int) then (ix p0.2.1 x3).bind fun x4 => (Ig x2 ([(x4.1, x4.2.1), (x4.2.2.1, x4.2.2.2.1)] : List (Int × Int))).bind fun x5 => some (.inl (x5, AG (x3 + 1))) else some (.inr x2))
theorem Np (nE : Nat) (p0 : Int × (List (Int × Int × Int × Int × Int × Int)) × (List (Int × Int))) : ∀ s, Le (IM nE p0 s) (Ij p0 s) := by
  rintro ⟨x2, x3⟩
  unfold IM Ij
  repeat' with_reducible (first | apply Le.orR' | apply Le.bind' | apply Le.ite' | apply Le.loop' | apply Le.altS' | exact Le.rfl' _ | (refine Le.pi2 ?_; intro _) | intro _)
def IE (nE : Nat) (p0 : Int × (List (Int × Int × Int × Int × Int × Int)) × (List (Int × Int))) : ((List (Int × Int)) × Int) → Option (((List (Int × Int)) × Int) ⊕ (List (Int × Int)))
  | (x7, x8) => (if x8 < (p0.2.2.length : Int) then (ix p0.2.2 x8).bind fun x9 => (Ig x7 ([x9] : List (Int × Int))).bind fun x10 => some (.inl (x10, AG (x8 + 1))) else some (.inr x7))
theorem NQ (nE : Nat) (p0 : Int × (List (Int × Int × Int × Int × Int × Int)) × (List (Int × Int))) : ∀ s, Le (IE nE p0 s) (Iq p0 s) := by
  rintro ⟨x7, x8⟩
  unfold IE Iq
  repeat' with_reducible (first | apply Le.orR' | apply Le.bind' | apply Le.ite' | apply Le.loop' | apply Le.altS' | exact Le.rfl' _ | (refine Le.pi2 ?_; intro _) | intro _)
def KB (nE : Nat) (p0 : Int × (List (Int × Int × Int × Int × Int × Int)) × (List (Int × Int))) : Option (List (Int × Int)) := (Di nE (IM nE p0) ([], 0)).bind fun x1 => (Di nE (IE nE p0) (x1, 0)).bind fun x6 => some x6
theorem P2 (nE : Nat) (p0 : Int × (List (Int × Int × Int × Int × Int × Int)) × (List (Int × Int))) : Le (KB nE p0) (Jp p0) := by
  unfold KB Jp
  repeat' with_reducible (first | apply Le.orR' | apply Le.bind' | apply Le.ite' | apply Le.loop' | apply Le.altS' | apply Np | apply NQ | exact Le.rfl' _ | (refine Le.pi2 ?_; intro _) | intro _)
def C9 (nE : Nat) (p0 : List (Int × Int × Int × Int × Int × Int)) : Int → Option (Int ⊕ (Unit ⊕ Int))
  | x1 => (if x1 < (p0.length : Int) then (ix p0 x1).bind fun x2 => (if (GU x2) = true then some (.inr (.inr x1)) else some (.inl (AG (x1 + 1)))) else some (.inr (.inl ())))
theorem Gt (nE : Nat) (p0 : List (Int × Int × Int × Int × Int × Int)) : ∀ s, Le (C9 nE p0 s) (CL p0 s) := by
  intro x1
  unfold C9 CL
  repeat' with_reducible (first | apply Le.orR' | apply Le.bind' | apply Le.ite' | apply Le.loop' | apply Le.altS' | exact Le.rfl' _ | (refine Le.pi2 ?_; intro _) | intro _)
def Dr (nE : Nat) (p0 : List (Int × Int × Int × Int × Int × Int)) : Option Int := Je (Di nE (C9 nE p0) 0) fun _ => some (-1)
theorem Hd (nE : Nat) (p0 : List (Int × Int × Int × Int × Int × Int)) : Le (Dr nE p0) (Cx p0) := by
  unfold Dr Cx
  repeat' with_reducible (first | apply Le.orR' | apply Le.bind' | apply Le.ite' | apply Le.loop' | apply Le.altS' | apply Gt | exact Le.rfl' _ | (refine Le.pi2 ?_; intro _) | intro _)
def Db (nE : Nat) (p0 : List (Int × Int × Int × Int × Int × Int)) : Option Bool := (Dr nE p0).bind fun x1 => some (decide (0 ≤ x1))
theorem Gu (nE : Nat) (p0 : List (Int × Int × Int × Int × Int × Int)) : Le (Db nE p0) (Ch p0) := by
  unfold Db Ch
  repeat' with_reducible (first | apply Le.orR' | apply Le.bind' | apply Le.ite' | apply Le.loop' | apply Le.altS' | apply Hd | exact Le.rfl' _ | (refine Le.pi2 ?_; intro _) | intro _)
def Jx (nE : Nat) (p0 : Int × (List (Int × Int × Int × Int × Int × Int)) × (List (Int × Int))) (x2 : (List (Int × Int))) : (Int × (List ((Int × Int) × Unit))) → Option ((Int × (List ((Int × Int) × Unit))) ⊕ ((List ((Int × Int) × Unit)) ⊕ Bool))
  | (x3, x4) => (if x3 < (x2.length : Int) then (ix x2 x3).bind fun x5 => (if (decide (x5.1 < 0) || (decide (p0.1 ≤ x5.1) || (decide (x5.2 < 0) || decide (8 ≤ x5.2)))) = true then some (.inr (.inr false)) else (if ((QM x4 x5).isSome) = true then some (.inr (.inr false)) else some (.inl (AG (x3 + 1), PG x4 x5 ())))) else some (.inr (.inl x4)))
theorem N7 (nE : Nat) (p0 : Int × (List (Int × Int × Int × Int × Int × Int)) × (List (Int × Int))) (x2 : (List (Int × Int))) : ∀ s, Le (Jx nE p0 x2 s) (I4 p0 x2 s) := by
  rintro ⟨x3, x4⟩
  unfold Jx I4
  repeat' with_reducible (first | apply Le.orR' | apply Le.bind' | apply Le.ite' | apply Le.loop' | apply Le.altS' | exact Le.rfl' _ | (refine Le.pi2 ?_; intro _) | intro _)
def Lp (nE : Nat) (p0 : Int × (List (Int × Int × Int × Int × Int × Int)) × (List (Int × Int))) : Option Bool := (if (decide (p0.1 < 1) || (decide (8 < p0.1) || (decide (24 < (p0.2.1.length : Int)) || decide (8 < (p0.2.2.length : Int))))) = true then some false else Je ((KB nE p0).bind fun x2 => Di nE (Jx nE p0 x2) (0, ([] : List ((Int × Int) × Unit)))) fun x1 => (Db nE p0.2.1).bind fun x6 => some (!x6))
theorem QL (nE : Nat) (p0 : Int × (List (Int × Int × Int × Int × Int × Int)) × (List (Int × Int))) : Le (Lp nE p0) (JV p0) := by
  unfold Lp JV
  repeat' with_reducible (first | apply Le.orR' | apply Le.bind' | apply Le.ite' | apply Le.loop' | apply Le.altS' | apply P2 | apply Gu | apply N7 | exact Le.rfl' _ | (refine Le.pi2 ?_; intro _) | intro _)
def B1 (nE : Nat) (fRec_pred_Same : Tr36 → Tr36 → Option Bool) (p0 : List Tr36) (p1 : List Tr36) : Int → Option (Int ⊕ (Unit ⊕ Bool))
  | x1 => (if x1 < (p0.length : Int) then (ix p0 x1).bind fun x2 => (ix p1 x1).bind fun x3 => (fRec_pred_Same x2 x3).bind fun x4 => (if (!x4) = true then some (.inr (.inr false)) else some (.inl (AG (x1 + 1)))) else some (.inr (.inl ())))
theorem DU (nE : Nat) {fRec_pred_Same fRec_pred_Same' : Tr36 → Tr36 → Option Bool} (hfRec_pred_Same : ∀ a0 a1, Le (fRec_pred_Same a0 a1) (fRec_pred_Same' a0 a1)) (p0 : List Tr36) (p1 : List Tr36) : ∀ s, Le (B1 nE fRec_pred_Same p0 p1 s) (AZ fRec_pred_Same' p0 p1 s) := by
  intro x1
  unfold B1 AZ
  repeat' with_reducible (first | apply Le.orR' | apply Le.bind' | apply Le.ite' | apply Le.loop' | apply Le.altS' | exact hfRec_pred_Same | exact hfRec_pred_Same _ _ | exact Le.rfl' _ | (refine Le.pi2 ?_; intro _) | intro _)
theorem D3 {fRec_pred_Same fRec_pred_Same' : Tr36 → Tr36 → Option Bool} (hfRec_pred_Same : ∀ a0 a1, Le (fRec_pred_Same a0 a1) (fRec_pred_Same' a0 a1)) (p0 : List Tr36) (p1 : List Tr36) : ∀ s, Le (AZ fRec_pred_Same p0 p1 s) (AZ fRec_pred_Same' p0 p1 s) := by
  intro x1
  unfold AZ
  repeat' with_reducible (first | apply Le.orR' | apply Le.bind' | apply Le.ite' | apply Le.loopM | apply Le.altS' | exact hfRec_pred_Same | exact hfRec_pred_Same _ _ | exact Le.rfl' _ | (refine Le.pi2 ?_; intro _) | intro _)
def B8 (nE : Nat) (fRec_pred_Same : Tr36 → Tr36 → Option Bool) (p0 : List Tr36) (p1 : List Tr36) : Option Bool := (if (p0.length : Int) ≠ (p1.length : Int) then some false else Je (Di nE (B1 nE fRec_pred_Same p0 p1) 0) fun _ => some true)
theorem Ec (nE : Nat) {fRec_pred_Same fRec_pred_Same' : Tr36 → Tr36 → Option Bool} (hfRec_pred_Same : ∀ a0 a1, Le (fRec_pred_Same a0 a1) (fRec_pred_Same' a0 a1)) (p0 : List Tr36) (p1 : List Tr36) : Le (B8 nE fRec_pred_Same p0 p1) (AW fRec_pred_Same' p0 p1) := by
  unfold B8 AW
  repeat' with_reducible (first | apply Le.orR' | apply Le.bind' | apply Le.ite' | apply Le.loop' | apply Le.altS' | exact hfRec_pred_Same | exact hfRec_pred_Same _ _ | apply DU | exact Le.rfl' _ | (refine Le.pi2 ?_; intro _) | intro _)
theorem Ef {fRec_pred_Same fRec_pred_Same' : Tr36 → Tr36 → Option Bool} (hfRec_pred_Same : ∀ a0 a1, Le (fRec_pred_Same a0 a1) (fRec_pred_Same' a0 a1)) (p0 : List Tr36) (p1 : List Tr36) : Le (AW fRec_pred_Same p0 p1) (AW fRec_pred_Same' p0 p1) := by
  unfold AW
  repeat' with_reducible (first | apply Le.orR' | apply Le.bind' | apply Le.ite' | apply Le.loopM | apply Le.altS' | exact hfRec_pred_Same | exact hfRec_pred_Same _ _ | apply D3 | exact Le.rfl' _ | (refine Le.pi2 ?_; intro _) | intro _)
def J5 (nE : Nat) (fRec : Tr36 → Tr36 → Option Bool) (p0 : Tr36) (p1 : Tr36) : Option Bool := (if p0.un.1 = p1.un.1 then (if p0.un.2.1 = p1.un.2.1 then (if p0.un.2.2.1 = p1.un.2.2.1 then ((B8 nE fRec) p0.un.2.2.2 p1.un.2.2.2).bind fun x2 => some x2 else some false) else some false) else some false).bind fun x1 => some x1
theorem OT (nE : Nat) {fRec fRec' : Tr36 → Tr36 → Option Bool} (hfRec : ∀ a0 a1, Le (fRec a0 a1) (fRec' a0 a1)) (p0 : Tr36) (p1 : Tr36) : Le (J5 nE fRec p0 p1) (Fk fRec' p0 p1) := by
  unfold J5 Fk
  repeat' with_reducible (first | apply Le.orR' | apply Le.bind' | apply Le.ite' | apply Le.loop' | apply Le.altS' | exact hfRec | exact hfRec _ _ | apply Ec | exact Le.rfl' _ | (refine Le.pi2 ?_; intro _) | intro _)
theorem O8 {fRec fRec' : Tr36 → Tr36 → Option Bool} (hfRec : ∀ a0 a1, Le (fRec a0 a1) (fRec' a0 a1)) (p0 : Tr36) (p1 : Tr36) : Le (Fk fRec p0 p1) (Fk fRec' p0 p1) := by
  unfold Fk
  repeat' with_reducible (first | apply Le.orR' | apply Le.bind' | apply Le.ite' | apply Le.loopM | apply Le.altS' | exact hfRec | exact hfRec _ _ | apply Ef | exact Le.rfl' _ | (refine Le.pi2 ?_; intro _) | intro _)
def Kv (nE : Nat) : Nat → Tr36 → Tr36 → Option Bool
  | 0 => fun _ _ => none
  | n + 1 => J5 nE (Kv nE n)
theorem LV (nE : Nat) : ∀ (m : Nat) a0 a1, Le (Kv nE m a0 a1) (FY m a0 a1)
  | 0, a0, a1 => fun _ h => nomatch h
  | m + 1, a0, a1 => OT nE (LV nE m) a0 a1
theorem Mn : ∀ (m : Nat) a0 a1, Le (FY m a0 a1) (FY (m + 1) a0 a1)
  | 0, a0, a1 => fun _ h => nomatch h
  | m + 1, a0, a1 => O8 (Mn m) a0 a1
def Ox (nE : Nat) (p0 : Tr36) (p1 : Tr36) : Option Bool := Kv nE nE p0 p1
theorem Rh (nE : Nat) (p0 : Tr36) (p1 : Tr36) : Le (Ox nE p0 p1) (N4 p0 p1) := fun r e => DJ (g := fun n => FY n p0 p1) (fun n r h => Mn n p0 p1 r h) (n := nE) (LV nE nE p0 p1 r e)
def Hz (nE : Nat) (p0 : Tr36) : Option Bool := (Ox nE p0 (Tr36.of (0, 0, 0, ([] : List Tr36)))).bind fun x1 => some x1
theorem N8 (nE : Nat) (p0 : Tr36) : Le (Hz nE p0) (Gs p0) := by
  unfold Hz Gs
  repeat' with_reducible (first | apply Le.orR' | apply Le.bind' | apply Le.ite' | apply Le.loop' | apply Le.altS' | apply Rh | exact Le.rfl' _ | (refine Le.pi2 ?_; intro _) | intro _)
def Kr (nE : Nat) (p0 : Int) : Option Int := (if p0 = 0 then some true else (if p0 = 1 then some true else some (decide (p0 = 3)))).bind fun x1 => (if x1 = true then some 8 else (if p0 = 2 then some 4 else some 0))
theorem Pi (nE : Nat) (p0 : Int) : Le (Kr nE p0) (HP p0) := by
  unfold Kr HP
  repeat' with_reducible (first | apply Le.orR' | apply Le.bind' | apply Le.ite' | apply Le.loop' | apply Le.altS' | exact Le.rfl' _ | (refine Le.pi2 ?_; intro _) | intro _)
def Lj (nE : Nat) (p0 : Int) : Option Int := (Kr nE p0).bind fun x1 => (Vo (EY .i64 1 x1) x1).bind fun x2 => some (AG (x2 - 1))
theorem QN (nE : Nat) (p0 : Int) : Le (Lj nE p0) (IU p0) := by
  unfold Lj IU
  repeat' with_reducible (first | apply Le.orR' | apply Le.bind' | apply Le.ite' | apply Le.loop' | apply Le.altS' | apply Pi | exact Le.rfl' _ | (refine Le.pi2 ?_; intro _) | intro _)
def Lf (nE : Nat) (p0 : Int) : Option Int := (if (decide (p0 = 4) || decide (p0 = 5)) = true then some 7 else (Lj nE p0).bind fun x1 => some x1)
theorem Oo (nE : Nat) (p0 : Int) : Le (Lf nE p0) (Jd p0) := by
  unfold Lf Jd
  repeat' with_reducible (first | apply Le.orR' | apply Le.bind' | apply Le.ite' | apply Le.loop' | apply Le.altS' | apply QN | exact Le.rfl' _ | (refine Le.pi2 ?_; intro _) | intro _)
def KA (nE : Nat) (p0 : Tr39) : Option Bool := (if p0.un.1 = 2 then ((Hz nE (Tr36.of (p0.un.2.1.un.1, p0.un.2.1.un.2.1, p0.un.2.1.un.2.2.1, p0.un.2.1.un.2.2.2))).bind fun x2 => (if x2 = true then (if (p0.un.2.2.2.2.length : Int) = 0 then (if 0 ≤ p0.un.2.2.1 then (if p0.un.2.2.1 ≤ 4 then (if 0 ≤ p0.un.2.2.2.1 then (Lf nE p0.un.2.2.1).bind fun x3 => some (decide (p0.un.2.2.2.1 ≤ x3)) else some false) else some false) else some false) else some false) else some false)).bind fun x1 => some x1 else (if (decide (p0.un.2.2.1 ≠ 0) || decide (p0.un.2.2.2.1 ≠ 0)) = true then some false else (if p0.un.1 = 1 then some (decide ((p0.un.2.2.2.2.length : Int) = 0)) else (if p0.un.1 = 3 then some true else some (decide (p0.un.1 = 4))).bind fun x4 => (if x4 = true then ((Hz nE (Tr36.of (p0.un.2.1.un.1, p0.un.2.1.un.2.1, p0.un.2.1.un.2.2.1, p0.un.2.1.un.2.2.2))).bind fun x6 => (if x6 = true then (if 2 ≤ (p0.un.2.2.2.2.length : Int) then some (decide ((p0.un.2.2.2.2.length : Int) ≤ 8)) else some false) else some false)).bind fun x5 => some x5 else (if p0.un.1 = 5 then some (decide ((p0.un.2.2.2.2.length : Int) = 2)) else some false)))))
theorem PX (nE : Nat) (p0 : Tr39) : Le (KA nE p0) (Jo p0) := by
  unfold KA Jo
  repeat' with_reducible (first | apply Le.orR' | apply Le.bind' | apply Le.ite' | apply Le.loop' | apply Le.altS' | apply N8 | apply Oo | exact Le.rfl' _ | (refine Le.pi2 ?_; intro _) | intro _)
def LU (nE : Nat) (p0 : Tr36) : Option Bool := (if p0.un.1 = 3 then (if (DH p0.un.2.1) = true then (if 0 ≤ p0.un.2.2.1 then (Lf nE p0.un.2.1).bind fun x2 => (if p0.un.2.2.1 ≤ x2 then some (decide ((p0.un.2.2.2.length : Int) = 0)) else some false) else some false) else some false).bind fun x1 => some x1 else (if (decide (p0.un.2.1 ≠ 0) || decide (p0.un.2.2.1 ≠ 0)) = true then some false else (if p0.un.1 = 1 then some true else some (decide (p0.un.1 = 2))).bind fun x3 => (if x3 = true then some (decide ((p0.un.2.2.2.length : Int) = 0)) else (if p0.un.1 = 4 then some (decide ((p0.un.2.2.2.length : Int) = 1)) else (if p0.un.1 = 5 then some true else some (decide (p0.un.1 = 6))).bind fun x4 => (if x4 = true then some (decide (2 ≤ (p0.un.2.2.2.length : Int)) && decide ((p0.un.2.2.2.length : Int) ≤ 8)) else some false)))))
theorem Rf (nE : Nat) (p0 : Tr36) : Le (LU nE p0) (IC p0) := by
  unfold LU IC
  repeat' with_reducible (first | apply Le.orR' | apply Le.bind' | apply Le.ite' | apply Le.loop' | apply Le.altS' | apply Oo | exact Le.rfl' _ | (refine Le.pi2 ?_; intro _) | intro _)
def FM (nE : Nat) (fRec : Int → Tr36 → Int → Option (Bool × Int)) (p1 : Tr36) (p2 : Int) : (Int × Int) → Option ((Int × Int) ⊕ (Int ⊕ (Bool × Int)))
  | (x4, x5) => (if x4 < (p1.un.2.2.2.length : Int) then (ix p1.un.2.2.2 x4).bind fun x6 => (fRec x5 x6 (AG (p2 - 1))).bind fun x7 => (if (!x7.1) = true then some (.inr (.inr (false, x7.2))) else some (.inl (AG (x4 + 1), x7.2))) else some (.inr (.inl x5)))
theorem Ku (nE : Nat) {fRec fRec' : Int → Tr36 → Int → Option (Bool × Int)} (hfRec : ∀ a0 a1 a2, Le (fRec a0 a1 a2) (fRec' a0 a1 a2)) (p1 : Tr36) (p2 : Int) : ∀ s, Le (FM nE fRec p1 p2 s) (Bm fRec' p1 p2 s) := by
  rintro ⟨x4, x5⟩
  unfold FM Bm
  repeat' with_reducible (first | apply Le.orR' | apply Le.bind' | apply Le.ite' | apply Le.loop' | apply Le.altS' | exact hfRec | exact hfRec _ _ _ | exact Le.rfl' _ | (refine Le.pi2 ?_; intro _) | intro _)
theorem Ko {fRec fRec' : Int → Tr36 → Int → Option (Bool × Int)} (hfRec : ∀ a0 a1 a2, Le (fRec a0 a1 a2) (fRec' a0 a1 a2)) (p1 : Tr36) (p2 : Int) : ∀ s, Le (Bm fRec p1 p2 s) (Bm fRec' p1 p2 s) := by
  rintro ⟨x4, x5⟩
  show Le (Bm fRec p1 p2 (x4, x5)) (Bm fRec' p1 p2 (x4, x5))
  unfold Bm
  repeat' with_reducible (first | apply Le.orR' | apply Le.bind' | apply Le.ite' | apply Le.loopM | apply Le.altS' | exact hfRec | exact hfRec _ _ _ | exact Le.rfl' _ | (refine Le.pi2 ?_; intro _) | intro _)
def FE (nE : Nat) (fRec : Int → Tr36 → Int → Option (Bool × Int)) (p0 : Int) (p1 : Tr36) (p2 : Int) : Option (Bool × Int) := (if (AG (p0 - 1)) < 0 then some true else (if p2 < 1 then some true else (LU nE p1).bind fun x2 => some (!x2))).bind fun x1 => (if x1 = true then some (false, AG (p0 - 1)) else Je (Di nE (FM nE fRec p1 p2) (0, AG (p0 - 1))) fun x3 => some (true, x3))
theorem Kp (nE : Nat) {fRec fRec' : Int → Tr36 → Int → Option (Bool × Int)} (hfRec : ∀ a0 a1 a2, Le (fRec a0 a1 a2) (fRec' a0 a1 a2)) (p0 : Int) (p1 : Tr36) (p2 : Int) : Le (FE nE fRec p0 p1 p2) (Ck fRec' p0 p1 p2) := by
  unfold FE Ck
  repeat' with_reducible (first | apply Le.orR' | apply Le.bind' | apply Le.ite' | apply Le.loop' | apply Le.altS' | exact hfRec | exact hfRec _ _ _ | apply Rf | apply Ku | exact Le.rfl' _ | (refine Le.pi2 ?_; intro _) | intro _)
theorem KC {fRec fRec' : Int → Tr36 → Int → Option (Bool × Int)} (hfRec : ∀ a0 a1 a2, Le (fRec a0 a1 a2) (fRec' a0 a1 a2)) (p0 : Int) (p1 : Tr36) (p2 : Int) : Le (Ck fRec p0 p1 p2) (Ck fRec' p0 p1 p2) := by
  unfold Ck
  repeat' with_reducible (first | apply Le.orR' | apply Le.bind' | apply Le.ite' | apply Le.loopM | apply Le.altS' | exact hfRec | exact hfRec _ _ _ | apply Ko | exact Le.rfl' _ | (refine Le.pi2 ?_; intro _) | intro _)
def Gc (nE : Nat) : Nat → Int → Tr36 → Int → Option (Bool × Int)
  | 0 => fun _ _ _ => none
  | n + 1 => FE nE (Gc nE n)
theorem HM (nE : Nat) : ∀ (m : Nat) a0 a1 a2, Le (Gc nE m a0 a1 a2) (Bd m a0 a1 a2)
  | 0, a0, a1, a2 => fun _ h => nomatch h
  | m + 1, a0, a1, a2 => Kp nE (HM nE m) a0 a1 a2
theorem EG : ∀ (m : Nat) a0 a1 a2, Le (Bd m a0 a1 a2) (Bd (m + 1) a0 a1 a2)
  | 0, a0, a1, a2 => fun _ h => nomatch h
  | m + 1, a0, a1, a2 => KC (EG m) a0 a1 a2
def Jf (nE : Nat) (p0 : Int) (p1 : Tr36) (p2 : Int) : Option (Bool × Int) := Gc nE nE p0 p1 p2
theorem LE (nE : Nat) (p0 : Int) (p1 : Tr36) (p2 : Int) : Le (Jf nE p0 p1 p2) (E5 p0 p1 p2) := fun r e => DJ (g := fun n => Bd n p0 p1 p2) (fun n r h => EG n p0 p1 p2 r h) (n := nE) (HM nE nE p0 p1 p2 r e)
def Lu (nE : Nat) (p0 : Tr36) : Option Bool := (Jf nE 64 p0 8).bind fun x1 => some x1.1
theorem Qw (nE : Nat) (p0 : Tr36) : Le (Lu nE p0) (GZ p0) := by
  unfold Lu GZ
  repeat' with_reducible (first | apply Le.orR' | apply Le.bind' | apply Le.ite' | apply Le.loop' | apply Le.altS' | apply LE | exact Le.rfl' _ | (refine Le.pi2 ?_; intro _) | intro _)
def JU (nE : Nat) (fRec : Tr36 → Option Int) (p0 : Tr36) : (Int × Int) → Option ((Int × Int) ⊕ Int)
  | (x2, x3) => (if x3 < (p0.un.2.2.2.length : Int) then (ix p0.un.2.2.2 x3).bind fun x4 => (fRec x4).bind fun x5 => some (.inl (AG (x2 + x5), AG (x3 + 1))) else some (.inr x2))
theorem OV (nE : Nat) {fRec fRec' : Tr36 → Option Int} (hfRec : ∀ a0, Le (fRec a0) (fRec' a0)) (p0 : Tr36) : ∀ s, Le (JU nE fRec p0 s) (EP fRec' p0 s) := by
  rintro ⟨x2, x3⟩
  unfold JU EP
  repeat' with_reducible (first | apply Le.orR' | apply Le.bind' | apply Le.ite' | apply Le.loop' | apply Le.altS' | exact hfRec | exact hfRec _ | exact Le.rfl' _ | (refine Le.pi2 ?_; intro _) | intro _)
theorem O5 {fRec fRec' : Tr36 → Option Int} (hfRec : ∀ a0, Le (fRec a0) (fRec' a0)) (p0 : Tr36) : ∀ s, Le (EP fRec p0 s) (EP fRec' p0 s) := by
  rintro ⟨x2, x3⟩
  show Le (EP fRec p0 (x2, x3)) (EP fRec' p0 (x2, x3))
  unfold EP
  repeat' with_reducible (first | apply Le.orR' | apply Le.bind' | apply Le.ite' | apply Le.loopM | apply Le.altS' | exact hfRec | exact hfRec _ | exact Le.rfl' _ | (refine Le.pi2 ?_; intro _) | intro _)
def JM (nE : Nat) (fRec : Tr36 → Option Int) (p0 : Tr36) : Option Int := (Di nE (JU nE fRec p0) (1, 0)).bind fun x1 => some x1
theorem O4 (nE : Nat) {fRec fRec' : Tr36 → Option Int} (hfRec : ∀ a0, Le (fRec a0) (fRec' a0)) (p0 : Tr36) : Le (JM nE fRec p0) (Fh fRec' p0) := by
  unfold JM Fh
  repeat' with_reducible (first | apply Le.orR' | apply Le.bind' | apply Le.ite' | apply Le.loop' | apply Le.altS' | exact hfRec | exact hfRec _ | apply OV | exact Le.rfl' _ | (refine Le.pi2 ?_; intro _) | intro _)
theorem ON {fRec fRec' : Tr36 → Option Int} (hfRec : ∀ a0, Le (fRec a0) (fRec' a0)) (p0 : Tr36) : Le (Fh fRec p0) (Fh fRec' p0) := by
  unfold Fh
  repeat' with_reducible (first | apply Le.orR' | apply Le.bind' | apply Le.ite' | apply Le.loopM | apply Le.altS' | exact hfRec | exact hfRec _ | apply O5 | exact Le.rfl' _ | (refine Le.pi2 ?_; intro _) | intro _)
def Ky (nE : Nat) : Nat → Tr36 → Option Int
  | 0 => fun _ => none
  | n + 1 => JM nE (Ky nE n)
theorem Mh (nE : Nat) : ∀ (m : Nat) a0, Le (Ky nE m a0) (FT m a0)
  | 0, a0 => fun _ h => nomatch h
  | m + 1, a0 => O4 nE (Mh nE m) a0
theorem Mg : ∀ (m : Nat) a0, Le (FT m a0) (FT (m + 1) a0)
  | 0, a0 => fun _ h => nomatch h
  | m + 1, a0 => ON (Mg m) a0
def OC (nE : Nat) (p0 : Tr36) : Option Int := Ky nE nE p0
theorem Rr (nE : Nat) (p0 : Tr36) : Le (OC nE p0) (Oh p0) := fun r e => DJ (g := fun n => FT n p0) (fun n r h => Mg n p0 r h) (n := nE) (Mh nE nE p0 r e)
def Fc (nE : Nat) (fRec : Int → Tr39 → Int → Option (Bool × Int)) (p1 : Tr39) (p2 : Int) : (Int × Int) → Option ((Int × Int) ⊕ (Int ⊕ (Bool × Int)))
  | (x7, x8) => (if x7 < (p1.un.2.2.2.2.length : Int) then (ix p1.un.2.2.2.2 x7).bind fun x9 => (fRec x8 (Tr39.of (x9.un.1, Tr36.of (x9.un.2.1.un.1, x9.un.2.1.un.2.1, x9.un.2.1.un.2.2.1, x9.un.2.1.un.2.2.2), x9.un.2.2.1, x9.un.2.2.2.1, x9.un.2.2.2.2)) (AG (p2 - 1))).bind fun x10 => (if (!x10.1) = true then some (.inr (.inr (false, x10.2))) else some (.inl (AG (x7 + 1), x10.2))) else some (.inr (.inl x8)))
theorem JQ (nE : Nat) {fRec fRec' : Int → Tr39 → Int → Option (Bool × Int)} (hfRec : ∀ a0 a1 a2, Le (fRec a0 a1 a2) (fRec' a0 a1 a2)) (p1 : Tr39) (p2 : Int) : ∀ s, Le (Fc nE fRec p1 p2 s) (Cj fRec' p1 p2 s) := by
  rintro ⟨x7, x8⟩
  unfold Fc Cj
  repeat' with_reducible (first | apply Le.orR' | apply Le.bind' | apply Le.ite' | apply Le.loop' | apply Le.altS' | exact hfRec | exact hfRec _ _ _ | exact Le.rfl' _ | (refine Le.pi2 ?_; intro _) | intro _)
theorem J6 {fRec fRec' : Int → Tr39 → Int → Option (Bool × Int)} (hfRec : ∀ a0 a1 a2, Le (fRec a0 a1 a2) (fRec' a0 a1 a2)) (p1 : Tr39) (p2 : Int) : ∀ s, Le (Cj fRec p1 p2 s) (Cj fRec' p1 p2 s) := by
  rintro ⟨x7, x8⟩
  show Le (Cj fRec p1 p2 (x7, x8)) (Cj fRec' p1 p2 (x7, x8))
  unfold Cj
  repeat' with_reducible (first | apply Le.orR' | apply Le.bind' | apply Le.ite' | apply Le.loopM | apply Le.altS' | exact hfRec | exact hfRec _ _ _ | exact Le.rfl' _ | (refine Le.pi2 ?_; intro _) | intro _)
def Fb (nE : Nat) (fRec : Int → Tr39 → Int → Option (Bool × Int)) (p0 : Int) (p1 : Tr39) (p2 : Int) : Option (Bool × Int) := (if p0 < 1 then some true else (if p2 < 1 then some true else (KA nE (Tr39.of (p1.un.1, Tr36.of (p1.un.2.1.un.1, p1.un.2.1.un.2.1, p1.un.2.1.un.2.2.1, p1.un.2.1.un.2.2.2), p1.un.2.2.1, p1.un.2.2.2.1, p1.un.2.2.2.2))).bind fun x2 => some (!x2))).bind fun x1 => (if x1 = true then some (false, p0) else Je (if (decide (p1.un.1 = 1) || decide (p1.un.1 = 5)) = true then (Lu nE (Tr36.of (p1.un.2.1.un.1, p1.un.2.1.un.2.1, p1.un.2.1.un.2.2.1, p1.un.2.1.un.2.2.2))).bind fun x4 => (if (!x4) = true then some (.inr (false, AG (p0 - 1))) else (OC nE (Tr36.of (p1.un.2.1.un.1, p1.un.2.1.un.2.1, p1.un.2.1.un.2.2.1, p1.un.2.1.un.2.2.2))).bind fun x5 => some (.inl (AG ((AG (p0 - 1)) - x5)))) else some (.inl (AG (p0 - 1)))) fun x3 => Je (Di nE (Fc nE fRec p1 p2) (0, x3)) fun x6 => some (decide (0 ≤ x6), x6))
theorem JZ (nE : Nat) {fRec fRec' : Int → Tr39 → Int → Option (Bool × Int)} (hfRec : ∀ a0 a1 a2, Le (fRec a0 a1 a2) (fRec' a0 a1 a2)) (p0 : Int) (p1 : Tr39) (p2 : Int) : Le (Fb nE fRec p0 p1 p2) (Cz fRec' p0 p1 p2) := by
  unfold Fb Cz
  repeat' with_reducible (first | apply Le.orR' | apply Le.bind' | apply Le.ite' | apply Le.loop' | apply Le.altS' | exact hfRec | exact hfRec _ _ _ | apply PX | apply Qw | apply Rr | apply JQ | exact Le.rfl' _ | (refine Le.pi2 ?_; intro _) | intro _)
theorem JN {fRec fRec' : Int → Tr39 → Int → Option (Bool × Int)} (hfRec : ∀ a0 a1 a2, Le (fRec a0 a1 a2) (fRec' a0 a1 a2)) (p0 : Int) (p1 : Tr39) (p2 : Int) : Le (Cz fRec p0 p1 p2) (Cz fRec' p0 p1 p2) := by
  unfold Cz
  repeat' with_reducible (first | apply Le.orR' | apply Le.bind' | apply Le.ite' | apply Le.loopM | apply Le.altS' | exact hfRec | exact hfRec _ _ _ | apply J6 | exact Le.rfl' _ | (refine Le.pi2 ?_; intro _) | intro _)
def Fu (nE : Nat) : Nat → Int → Tr39 → Int → Option (Bool × Int)
  | 0 => fun _ _ _ => none
  | n + 1 => Fb nE (Fu nE n)
theorem Hi (nE : Nat) : ∀ (m : Nat) a0 a1 a2, Le (Fu nE m a0 a1 a2) (CF m a0 a1 a2)
  | 0, a0, a1, a2 => fun _ h => nomatch h
  | m + 1, a0, a1, a2 => JZ nE (Hi nE m) a0 a1 a2
theorem Hh : ∀ (m : Nat) a0 a1 a2, Le (CF m a0 a1 a2) (CF (m + 1) a0 a1 a2)
  | 0, a0, a1, a2 => fun _ h => nomatch h
  | m + 1, a0, a1, a2 => JN (Hh m) a0 a1 a2
def H0 (nE : Nat) (p0 : Int) (p1 : Tr39) (p2 : Int) : Option (Bool × Int) := Fu nE nE p0 p1 p2
theorem KW (nE : Nat) (p0 : Int) (p1 : Tr39) (p2 : Int) : Le (H0 nE p0 p1 p2) (GT p0 p1 p2) := fun r e => DJ (g := fun n => CF n p0 p1 p2) (fun n r h => Hh n p0 p1 p2 r h) (n := nE) (Hi nE nE p0 p1 p2 r e)
def IF (nE : Nat) (fRec : Tr39 → Option Int) (p0 : Tr39) : (Int × Int) → Option ((Int × Int) ⊕ Int)
  | (x2, x3) => (if x3 < (p0.un.2.2.2.2.length : Int) then (ix p0.un.2.2.2.2 x3).bind fun x4 => (fRec (Tr39.of (x4.un.1, Tr36.of (x4.un.2.1.un.1, x4.un.2.1.un.2.1, x4.un.2.1.un.2.2.1, x4.un.2.1.un.2.2.2), x4.un.2.2.1, x4.un.2.2.2.1, x4.un.2.2.2.2))).bind fun x5 => some (.inl (min (AG (x2 * x5)) 1000, AG (x3 + 1))) else some (.inr x2))
theorem NT (nE : Nat) {fRec fRec' : Tr39 → Option Int} (hfRec : ∀ a0, Le (fRec a0) (fRec' a0)) (p0 : Tr39) : ∀ s, Le (IF nE fRec p0 s) (D0 fRec' p0 s) := by
  rintro ⟨x2, x3⟩
  unfold IF D0
  repeat' with_reducible (first | apply Le.orR' | apply Le.bind' | apply Le.ite' | apply Le.loop' | apply Le.altS' | exact hfRec | exact hfRec _ | exact Le.rfl' _ | (refine Le.pi2 ?_; intro _) | intro _)
theorem NG {fRec fRec' : Tr39 → Option Int} (hfRec : ∀ a0, Le (fRec a0) (fRec' a0)) (p0 : Tr39) : ∀ s, Le (D0 fRec p0 s) (D0 fRec' p0 s) := by
  rintro ⟨x2, x3⟩
  show Le (D0 fRec p0 (x2, x3)) (D0 fRec' p0 (x2, x3))
  unfold D0
  repeat' with_reducible (first | apply Le.orR' | apply Le.bind' | apply Le.ite' | apply Le.loopM | apply Le.altS' | exact hfRec | exact hfRec _ | exact Le.rfl' _ | (refine Le.pi2 ?_; intro _) | intro _)
def IH (nE : Nat) (fRec : Tr39 → Option Int) (p0 : Tr39) : (Int × Int) → Option ((Int × Int) ⊕ Int)
  | (x6, x7) => (if x7 < (p0.un.2.2.2.2.length : Int) then (ix p0.un.2.2.2.2 x7).bind fun x8 => (fRec (Tr39.of (x8.un.1, Tr36.of (x8.un.2.1.un.1, x8.un.2.1.un.2.1, x8.un.2.1.un.2.2.1, x8.un.2.1.un.2.2.2), x8.un.2.2.1, x8.un.2.2.2.1, x8.un.2.2.2.2))).bind fun x9 => some (.inl (min (AG (x6 + x9)) 1000, AG (x7 + 1))) else some (.inr x6))
theorem Nv (nE : Nat) {fRec fRec' : Tr39 → Option Int} (hfRec : ∀ a0, Le (fRec a0) (fRec' a0)) (p0 : Tr39) : ∀ s, Le (IH nE fRec p0 s) (DR fRec' p0 s) := by
  rintro ⟨x6, x7⟩
  unfold IH DR
  repeat' with_reducible (first | apply Le.orR' | apply Le.bind' | apply Le.ite' | apply Le.loop' | apply Le.altS' | exact hfRec | exact hfRec _ | exact Le.rfl' _ | (refine Le.pi2 ?_; intro _) | intro _)
theorem NK {fRec fRec' : Tr39 → Option Int} (hfRec : ∀ a0, Le (fRec a0) (fRec' a0)) (p0 : Tr39) : ∀ s, Le (DR fRec p0 s) (DR fRec' p0 s) := by
  rintro ⟨x6, x7⟩
  show Le (DR fRec p0 (x6, x7)) (DR fRec' p0 (x6, x7))
  unfold DR
  repeat' with_reducible (first | apply Le.orR' | apply Le.bind' | apply Le.ite' | apply Le.loopM | apply Le.altS' | exact hfRec | exact hfRec _ | exact Le.rfl' _ | (refine Le.pi2 ?_; intro _) | intro _)
def IP (nE : Nat) (fRec : Tr39 → Option Int) (p0 : Tr39) : (Int × Int) → Option ((Int × Int) ⊕ Int)
  | (x10, x11) => (if x11 < (p0.un.2.2.2.2.length : Int) then (ix p0.un.2.2.2.2 x11).bind fun x12 => (fRec (Tr39.of (x12.un.1, Tr36.of (x12.un.2.1.un.1, x12.un.2.1.un.2.1, x12.un.2.1.un.2.2.1, x12.un.2.1.un.2.2.2), x12.un.2.2.1, x12.un.2.2.2.1, x12.un.2.2.2.2))).bind fun x13 => some (.inl (max x10 x13, AG (x11 + 1))) else some (.inr x10))
theorem ND (nE : Nat) {fRec fRec' : Tr39 → Option Int} (hfRec : ∀ a0, Le (fRec a0) (fRec' a0)) (p0 : Tr39) : ∀ s, Le (IP nE fRec p0 s) (D2 fRec' p0 s) := by
  rintro ⟨x10, x11⟩
  unfold IP D2
  repeat' with_reducible (first | apply Le.orR' | apply Le.bind' | apply Le.ite' | apply Le.loop' | apply Le.altS' | exact hfRec | exact hfRec _ | exact Le.rfl' _ | (refine Le.pi2 ?_; intro _) | intro _)
theorem Nu {fRec fRec' : Tr39 → Option Int} (hfRec : ∀ a0, Le (fRec a0) (fRec' a0)) (p0 : Tr39) : ∀ s, Le (D2 fRec p0 s) (D2 fRec' p0 s) := by
  rintro ⟨x10, x11⟩
  show Le (D2 fRec p0 (x10, x11)) (D2 fRec' p0 (x10, x11))
  unfold D2
  repeat' with_reducible (first | apply Le.orR' | apply Le.bind' | apply Le.ite' | apply Le.loopM | apply Le.altS' | exact hfRec | exact hfRec _ | exact Le.rfl' _ | (refine Le.pi2 ?_; intro _) | intro _)
def IY (nE : Nat) (fRec : Tr39 → Option Int) (p0 : Tr39) : Option Int := (if p0.un.1 = 3 then Di nE (IF nE fRec p0) (1, 0) else (if p0.un.1 = 4 then Di nE (IH nE fRec p0) (0, 0) else (if p0.un.1 = 5 then Di nE (IP nE fRec p0) (0, 0) else some 1))).bind fun x1 => some x1
theorem NV (nE : Nat) {fRec fRec' : Tr39 → Option Int} (hfRec : ∀ a0, Le (fRec a0) (fRec' a0)) (p0 : Tr39) : Le (IY nE fRec p0) (Ew fRec' p0) := by
  unfold IY Ew
  repeat' with_reducible (first | apply Le.orR' | apply Le.bind' | apply Le.ite' | apply Le.loop' | apply Le.altS' | exact hfRec | exact hfRec _ | apply NT | apply Nv | apply ND | exact Le.rfl' _ | (refine Le.pi2 ?_; intro _) | intro _)
theorem Nm {fRec fRec' : Tr39 → Option Int} (hfRec : ∀ a0, Le (fRec a0) (fRec' a0)) (p0 : Tr39) : Le (Ew fRec p0) (Ew fRec' p0) := by
  unfold Ew
  repeat' with_reducible (first | apply Le.orR' | apply Le.bind' | apply Le.ite' | apply Le.loopM | apply Le.altS' | exact hfRec | exact hfRec _ | apply NG | apply NK | apply Nu | exact Le.rfl' _ | (refine Le.pi2 ?_; intro _) | intro _)
def Jq (nE : Nat) : Nat → Tr39 → Option Int
  | 0 => fun _ => none
  | n + 1 => IY nE (Jq nE n)
theorem La (nE : Nat) : ∀ (m : Nat) a0, Le (Jq nE m a0) (ET m a0)
  | 0, a0 => fun _ h => nomatch h
  | m + 1, a0 => NV nE (La nE m) a0
theorem KM : ∀ (m : Nat) a0, Le (ET m a0) (ET (m + 1) a0)
  | 0, a0 => fun _ h => nomatch h
  | m + 1, a0 => Nm (KM m) a0
def MI (nE : Nat) (p0 : Tr39) : Option Int := Jq nE nE p0
theorem PF (nE : Nat) (p0 : Tr39) : Le (MI nE p0) (LQ p0) := fun r e => DJ (g := fun n => ET n p0) (fun n r h => KM n p0 r h) (n := nE) (La nE nE p0 r e)
def JT (nE : Nat) (p0 : Tr39) : Option Bool := ((H0 nE 64 (Tr39.of (p0.un.1, Tr36.of (p0.un.2.1.un.1, p0.un.2.1.un.2.1, p0.un.2.1.un.2.2.1, p0.un.2.1.un.2.2.2), p0.un.2.2.1, p0.un.2.2.2.1, p0.un.2.2.2.2)) 8).bind fun x3 => (if x3.1 = true then (MI nE (Tr39.of (p0.un.1, Tr36.of (p0.un.2.1.un.1, p0.un.2.1.un.2.1, p0.un.2.1.un.2.2.1, p0.un.2.1.un.2.2.2), p0.un.2.2.1, p0.un.2.2.2.1, p0.un.2.2.2.2))).bind fun x4 => some (decide (x4 ≤ 64), x3.2) else some (false, x3.2))).bind fun (x1, x2) => some x1
theorem Pd (nE : Nat) (p0 : Tr39) : Le (JT nE p0) (Ic p0) := by
  unfold JT Ic
  repeat' with_reducible (first | apply Le.orR' | apply Le.bind' | apply Le.ite' | apply Le.loop' | apply Le.altS' | apply KW | apply PF | exact Le.rfl' _ | (refine Le.pi2 ?_; intro _) | intro _)
def C3 (nE : Nat) (p0 : List (Int × Int × Int × Int × Int × Int)) (p1c0 : Int) : Int → Option (Int ⊕ (Unit ⊕ Int))
  | x1 => (if x1 < (p0.length : Int) then (ix p0 x1).bind fun x2 => (if (Ht x2 p1c0) = true then some (.inr (.inr x1)) else some (.inl (AG (x1 + 1)))) else some (.inr (.inl ())))
theorem Ga (nE : Nat) (p0 : List (Int × Int × Int × Int × Int × Int)) (p1c0 : Int) : ∀ s, Le (C3 nE p0 p1c0 s) (CB p0 p1c0 s) := by
  intro x1
  unfold C3 CB
  repeat' with_reducible (first | apply Le.orR' | apply Le.bind' | apply Le.ite' | apply Le.loop' | apply Le.altS' | exact Le.rfl' _ | (refine Le.pi2 ?_; intro _) | intro _)
def Dj (nE : Nat) (p0 : List (Int × Int × Int × Int × Int × Int)) (p1c0 : Int) : Option Int := Je (Di nE (C3 nE p0 p1c0) 0) fun _ => some (-1)
theorem GK (nE : Nat) (p0 : List (Int × Int × Int × Int × Int × Int)) (p1c0 : Int) : Le (Dj nE p0 p1c0) (Cm p0 p1c0) := by
  unfold Dj Cm
  repeat' with_reducible (first | apply Le.orR' | apply Le.bind' | apply Le.ite' | apply Le.loop' | apply Le.altS' | apply Ga | exact Le.rfl' _ | (refine Le.pi2 ?_; intro _) | intro _)
def C2 (nE : Nat) (p0 : List (Int × Int × Int × Int × Int × Int)) (p1c0 : Int) : Option Bool := (Dj nE p0 p1c0).bind fun x1 => some (decide (0 ≤ x1))
theorem Gg (nE : Nat) (p0 : List (Int × Int × Int × Int × Int × Int)) (p1c0 : Int) : Le (C2 nE p0 p1c0) (Cc p0 p1c0) := by
  unfold C2 Cc
  repeat' with_reducible (first | apply Le.orR' | apply Le.bind' | apply Le.ite' | apply Le.loop' | apply Le.altS' | apply GK | exact Le.rfl' _ | (refine Le.pi2 ?_; intro _) | intro _)
def Da (nE : Nat) (p0 : List (Int × Int)) (p1c0 : Int) : Int → Option (Int ⊕ (Unit ⊕ Int))
  | x1 => (if x1 < (p0.length : Int) then (ix p0 x1).bind fun x2 => (if (Hs x2 p1c0) = true then some (.inr (.inr x1)) else some (.inl (AG (x1 + 1)))) else some (.inr (.inl ())))
theorem Gv (nE : Nat) (p0 : List (Int × Int)) (p1c0 : Int) : ∀ s, Le (Da nE p0 p1c0 s) (CJ p0 p1c0 s) := by
  intro x1
  unfold Da CJ
  repeat' with_reducible (first | apply Le.orR' | apply Le.bind' | apply Le.ite' | apply Le.loop' | apply Le.altS' | exact Le.rfl' _ | (refine Le.pi2 ?_; intro _) | intro _)
def Dq (nE : Nat) (p0 : List (Int × Int)) (p1c0 : Int) : Option Int := Je (Di nE (Da nE p0 p1c0) 0) fun _ => some (-1)
theorem G0 (nE : Nat) (p0 : List (Int × Int)) (p1c0 : Int) : Le (Dq nE p0 p1c0) (Cv p0 p1c0) := by
  unfold Dq Cv
  repeat' with_reducible (first | apply Le.orR' | apply Le.bind' | apply Le.ite' | apply Le.loop' | apply Le.altS' | apply Gv | exact Le.rfl' _ | (refine Le.pi2 ?_; intro _) | intro _)
def Dc (nE : Nat) (p0 : List (Int × Int)) (p1c0 : Int) : Option Bool := (Dq nE p0 p1c0).bind fun x1 => some (decide (0 ≤ x1))
theorem Gw (nE : Nat) (p0 : List (Int × Int)) (p1c0 : Int) : Le (Dc nE p0 p1c0) (Ci p0 p1c0) := by
  unfold Dc Ci
  repeat' with_reducible (first | apply Le.orR' | apply Le.bind' | apply Le.ite' | apply Le.loop' | apply Le.altS' | apply G0 | exact Le.rfl' _ | (refine Le.pi2 ?_; intro _) | intro _)
def Kj (nE : Nat) (p0 : Int × (List (Int × Int × Int × Int × Int × Int)) × (List (Int × Int))) (p1 : Int) : Option Bool := ((C2 nE p0.2.1 p1).bind fun x2 => (if x2 = true then some true else (Dc nE p0.2.2 p1).bind fun x3 => some x3)).bind fun x1 => some x1
theorem Qj (nE : Nat) (p0 : Int × (List (Int × Int × Int × Int × Int × Int)) × (List (Int × Int))) (p1 : Int) : Le (Kj nE p0 p1) (Jh p0 p1) := by
  unfold Kj Jh
  repeat' with_reducible (first | apply Le.orR' | apply Le.bind' | apply Le.ite' | apply Le.loop' | apply Le.altS' | apply Gg | apply Gw | exact Le.rfl' _ | (refine Le.pi2 ?_; intro _) | intro _)
def Hn (nE : Nat) (p0 : Int) (p1 : Int × (List (Int × Int × Int × Int × Int × Int)) × (List (Int × Int))) : Option Bool := (Kj nE p1 p0).bind fun x1 => some (!x1)
theorem Mj (nE : Nat) (p0 : Int) (p1 : Int × (List (Int × Int × Int × Int × Int × Int)) × (List (Int × Int))) : Le (Hn nE p0 p1) (Fo p0 p1) := by
  unfold Hn Fo
  repeat' with_reducible (first | apply Le.orR' | apply Le.bind' | apply Le.ite' | apply Le.loop' | apply Le.altS' | apply Qj | exact Le.rfl' _ | (refine Le.pi2 ?_; intro _) | intro _)
def Eu (nE : Nat) (p0 : List Int) (p1c0 : Int × (List (Int × Int × Int × Int × Int × Int)) × (List (Int × Int))) : Int → Option (Int ⊕ (Unit ⊕ Int))
  | x1 => (if x1 < (p0.length : Int) then (ix p0 x1).bind fun x2 => (Hn nE x2 p1c0).bind fun x3 => (if x3 = true then some (.inr (.inr x1)) else some (.inl (AG (x1 + 1)))) else some (.inr (.inl ())))
theorem II (nE : Nat) (p0 : List Int) (p1c0 : Int × (List (Int × Int × Int × Int × Int × Int)) × (List (Int × Int))) : ∀ s, Le (Eu nE p0 p1c0 s) (DK p0 p1c0 s) := by
  intro x1
  unfold Eu DK
  repeat' with_reducible (first | apply Le.orR' | apply Le.bind' | apply Le.ite' | apply Le.loop' | apply Le.altS' | apply Mj | exact Le.rfl' _ | (refine Le.pi2 ?_; intro _) | intro _)
def E2 (nE : Nat) (p0 : List Int) (p1c0 : Int × (List (Int × Int × Int × Int × Int × Int)) × (List (Int × Int))) : Option Int := Je (Di nE (Eu nE p0 p1c0) 0) fun _ => some (-1)
theorem JG (nE : Nat) (p0 : List Int) (p1c0 : Int × (List (Int × Int × Int × Int × Int × Int)) × (List (Int × Int))) : Le (E2 nE p0 p1c0) (DB p0 p1c0) := by
  unfold E2 DB
  repeat' with_reducible (first | apply Le.orR' | apply Le.bind' | apply Le.ite' | apply Le.loop' | apply Le.altS' | apply II | exact Le.rfl' _ | (refine Le.pi2 ?_; intro _) | intro _)
def EA (nE : Nat) (p0 : List Int) (p1c0 : Int × (List (Int × Int × Int × Int × Int × Int)) × (List (Int × Int))) : Option Bool := (E2 nE p0 p1c0).bind fun x1 => some (decide (0 ≤ x1))
theorem IG (nE : Nat) (p0 : List Int) (p1c0 : Int × (List (Int × Int × Int × Int × Int × Int)) × (List (Int × Int))) : Le (EA nE p0 p1c0) (C8 p0 p1c0) := by
  unfold EA C8
  repeat' with_reducible (first | apply Le.orR' | apply Le.bind' | apply Le.ite' | apply Le.loop' | apply Le.altS' | apply JG | exact Le.rfl' _ | (refine Le.pi2 ?_; intro _) | intro _)
def D7 (nE : Nat) (p0 : List Int) (p1c0 : Int × (List (Int × Int × Int × Int × Int × Int)) × (List (Int × Int))) : Int → Option (Int ⊕ (Unit ⊕ Int))
  | x1 => (if x1 < (p0.length : Int) then (ix p0 x1).bind fun x2 => (if (Ft x2 p1c0) = true then some (.inr (.inr x1)) else some (.inl (AG (x1 + 1)))) else some (.inr (.inl ())))
theorem H1 (nE : Nat) (p0 : List Int) (p1c0 : Int × (List (Int × Int × Int × Int × Int × Int)) × (List (Int × Int))) : ∀ s, Le (D7 nE p0 p1c0 s) (Dx p0 p1c0 s) := by
  intro x1
  unfold D7 Dx
  repeat' with_reducible (first | apply Le.orR' | apply Le.bind' | apply Le.ite' | apply Le.loop' | apply Le.altS' | exact Le.rfl' _ | (refine Le.pi2 ?_; intro _) | intro _)
def EJ (nE : Nat) (p0 : List Int) (p1c0 : Int × (List (Int × Int × Int × Int × Int × Int)) × (List (Int × Int))) : Option Int := Je (Di nE (D7 nE p0 p1c0) 0) fun _ => some (-1)
theorem I9 (nE : Nat) (p0 : List Int) (p1c0 : Int × (List (Int × Int × Int × Int × Int × Int)) × (List (Int × Int))) : Le (EJ nE p0 p1c0) (Df p0 p1c0) := by
  unfold EJ Df
  repeat' with_reducible (first | apply Le.orR' | apply Le.bind' | apply Le.ite' | apply Le.loop' | apply Le.altS' | apply H1 | exact Le.rfl' _ | (refine Le.pi2 ?_; intro _) | intro _)
def Eb (nE : Nat) (p0 : List Int) (p1c0 : Int × (List (Int × Int × Int × Int × Int × Int)) × (List (Int × Int))) : Option Bool := (EJ nE p0 p1c0).bind fun x1 => some (decide (0 ≤ x1))
theorem Ib (nE : Nat) (p0 : List Int) (p1c0 : Int × (List (Int × Int × Int × Int × Int × Int)) × (List (Int × Int))) : Le (Eb nE p0 p1c0) (CZ p0 p1c0) := by
  unfold Eb CZ
  repeat' with_reducible (first | apply Le.orR' | apply Le.bind' | apply Le.ite' | apply Le.loop' | apply Le.altS' | apply I9 | exact Le.rfl' _ | (refine Le.pi2 ?_; intro _) | intro _)
def H6 (nE : Nat) (p0 : Int × (List (Int × Int × Int × Int × Int × Int)) × (List (Int × Int))) (p1 : Tr39) : Option Bool := ((Gq nE (Tr39.of (p1.un.1, Tr36.of (p1.un.2.1.un.1, p1.un.2.1.un.2.1, p1.un.2.1.un.2.2.1, p1.un.2.1.un.2.2.2), p1.un.2.2.1, p1.un.2.2.2.1, p1.un.2.2.2.2)) 4).bind fun x2 => (EA nE x2 p0).bind fun x3 => (if x3 = true then some true else (Gq nE (Tr39.of (p1.un.1, Tr36.of (p1.un.2.1.un.1, p1.un.2.1.un.2.1, p1.un.2.1.un.2.2.1, p1.un.2.1.un.2.2.2), p1.un.2.2.1, p1.un.2.2.2.1, p1.un.2.2.2.2)) 5).bind fun x4 => (Eb nE x4 p0).bind fun x5 => some x5)).bind fun x1 => some x1
theorem M6 (nE : Nat) (p0 : Int × (List (Int × Int × Int × Int × Int × Int)) × (List (Int × Int))) (p1 : Tr39) : Le (H6 nE p0 p1) (Gj p0 p1) := by
  unfold H6 Gj
  repeat' with_reducible (first | apply Le.orR' | apply Le.bind' | apply Le.ite' | apply Le.loop' | apply Le.altS' | apply KS | apply IG | apply Ib | exact Le.rfl' _ | (refine Le.pi2 ?_; intro _) | intro _)
def I3 (nE : Nat) (p0 : Int × (List (Int × Int × Int × Int × Int × Int)) × (List (Int × Int))) (p1 : Tr39) : Option Int := (Lp nE p0).bind fun x1 => (if (!x1) = true then some 2 else (JT nE (Tr39.of (p1.un.1, Tr36.of (p1.un.2.1.un.1, p1.un.2.1.un.2.1, p1.un.2.1.un.2.2.1, p1.un.2.1.un.2.2.2), p1.un.2.2.1, p1.un.2.2.2.1, p1.un.2.2.2.2))).bind fun x2 => (if (!x2) = true then some 17 else (H6 nE p0 (Tr39.of (p1.un.1, Tr36.of (p1.un.2.1.un.1, p1.un.2.1.un.2.1, p1.un.2.1.un.2.2.1, p1.un.2.1.un.2.2.2), p1.un.2.2.1, p1.un.2.2.2.1, p1.un.2.2.2.2))).bind fun x3 => (if x3 = true then some 13 else (IZ nE (Tr39.of (p1.un.1, Tr36.of (p1.un.2.1.un.1, p1.un.2.1.un.2.1, p1.un.2.1.un.2.2.1, p1.un.2.1.un.2.2.2), p1.un.2.2.1, p1.un.2.2.2.1, p1.un.2.2.2.2))).bind fun x4 => (if 4096 < x4 then some 6 else some 0))))
theorem PS (nE : Nat) (p0 : Int × (List (Int × Int × Int × Int × Int × Int)) × (List (Int × Int))) (p1 : Tr39) : Le (I3 nE p0 p1) (HN p0 p1) := by
  unfold I3 HN
  repeat' with_reducible (first | apply Le.orR' | apply Le.bind' | apply Le.ite' | apply Le.loop' | apply Le.altS' | apply Mb | apply QL | apply Pd | apply M6 | exact Le.rfl' _ | (refine Le.pi2 ?_; intro _) | intro _)
def Oy (nE : Nat)  : Option Bool := ((M8 nE (Tr39.of (1, Tr36.of (5, 0, 0, ([Tr36.of (3, 5, 2, ([] : List Tr36)), Tr36.of (3, 1, 1, ([] : List Tr36))] : List Tr36)), 0, 0, ([] : List Tr39))) 2).bind fun x2 => (KD nE (Tr39.of (x2.un.1, Tr36.of (x2.un.2.1.un.1, x2.un.2.1.un.2.1, x2.un.2.1.un.2.2.1, x2.un.2.1.un.2.2.2), x2.un.2.2.1, x2.un.2.2.2.1, x2.un.2.2.2.2))).bind fun x3 => (if x3 = ([119, 104, 101, 110, 32, 100, 115, 116, 32, 61, 32, 49] : List UInt8) then (M8 nE (Tr39.of (1, Tr36.of (5, 0, 0, ([Tr36.of (3, 5, 2, ([] : List Tr36)), Tr36.of (3, 1, 1, ([] : List Tr36))] : List Tr36)), 0, 0, ([] : List Tr39))) 1).bind fun x4 => (KD nE (Tr39.of (x4.un.1, Tr36.of (x4.un.2.1.un.1, x4.un.2.1.un.2.1, x4.un.2.1.un.2.2.1, x4.un.2.1.un.2.2.2), x4.un.2.2.1, x4.un.2.2.2.1, x4.un.2.2.2.2))).bind fun x5 => (if x5 = ([100, 114, 111, 112] : List UInt8) then (IZ nE (Tr39.of (1, Tr36.of (5, 0, 0, ([Tr36.of (3, 5, 2, ([] : List Tr36)), Tr36.of (3, 1, 1, ([] : List Tr36))] : List Tr36)), 0, 0, ([] : List Tr39)))).bind fun x6 => (if x6 = 2 then (I3 nE (3, ([] : List (Int × Int × Int × Int × Int × Int)), ([] : List (Int × Int))) (Tr39.of (1, Tr36.of (5, 0, 0, ([Tr36.of (3, 5, 2, ([] : List Tr36)), Tr36.of (3, 1, 1, ([] : List Tr36))] : List Tr36)), 0, 0, ([] : List Tr39)))).bind fun x7 => (if x7 = 0 then (I3 nE (2, ([] : List (Int × Int × Int × Int × Int × Int)), ([] : List (Int × Int))) (Tr39.of (1, Tr36.of (5, 0, 0, ([Tr36.of (3, 5, 2, ([] : List Tr36)), Tr36.of (3, 1, 1, ([] : List Tr36))] : List Tr36)), 0, 0, ([] : List Tr39)))).bind fun x8 => some (decide (x8 = 13)) else some false) else some false) else some false) else some false)).bind fun x1 => some x1
theorem Rd (nE : Nat)  : Le (Oy nE ) (IB ) := by
  unfold Oy IB
  repeat' with_reducible (first | apply Le.orR' | apply Le.bind' | apply Le.ite' | apply Le.loop' | apply Le.altS' | apply RW | apply PA | apply Mb | apply PS | exact Le.rfl' _ | (refine Le.pi2 ?_; intro _) | intro _)
theorem Qp {fRec fRec' : Tr28 → Option Tr36} (hfRec : ∀ a0, Le (fRec a0) (fRec' a0)) (p0 : Tr28) : ∀ s, Le (ED fRec p0 s) (ED fRec' p0 s) := by
  rintro ⟨x2, x3⟩
  show Le (ED fRec p0 (x2, x3)) (ED fRec' p0 (x2, x3))
  unfold ED
  repeat' with_reducible (first | apply Le.orR' | apply Le.bind' | apply Le.ite' | apply Le.loopM | apply Le.altS' | exact hfRec | exact hfRec _ | exact Le.rfl' _ | (refine Le.pi2 ?_; intro _) | intro _)
theorem P3 {fRec fRec' : Tr28 → Option Tr36} (hfRec : ∀ a0, Le (fRec a0) (fRec' a0)) (p0 : Tr28) : Le (F3 fRec p0) (F3 fRec' p0) := by
  unfold F3
  repeat' with_reducible (first | apply Le.orR' | apply Le.bind' | apply Le.ite' | apply Le.loopM | apply Le.altS' | exact hfRec | exact hfRec _ | apply Qp | exact Le.rfl' _ | (refine Le.pi2 ?_; intro _) | intro _)
theorem MW : ∀ (m : Nat) a0, Le (E6 m a0) (E6 (m + 1) a0)
  | 0, a0 => fun _ h => nomatch h
  | m + 1, a0 => P3 (MW m) a0
theorem Od {fRec fRec' : Tr36 → Option Tr28} (hfRec : ∀ a0, Le (fRec a0) (fRec' a0)) (p0 : Tr36) : ∀ s, Le (DA fRec p0 s) (DA fRec' p0 s) := by
  rintro ⟨x2, x3⟩
  show Le (DA fRec p0 (x2, x3)) (DA fRec' p0 (x2, x3))
  unfold DA
  repeat' with_reducible (first | apply Le.orR' | apply Le.bind' | apply Le.ite' | apply Le.loopM | apply Le.altS' | exact hfRec | exact hfRec _ | exact Le.rfl' _ | (refine Le.pi2 ?_; intro _) | intro _)
theorem Oc {fRec fRec' : Tr36 → Option Tr28} (hfRec : ∀ a0, Le (fRec a0) (fRec' a0)) (p0 : Tr36) : Le (ES fRec p0) (ES fRec' p0) := by
  unfold ES
  repeat' with_reducible (first | apply Le.orR' | apply Le.bind' | apply Le.ite' | apply Le.loopM | apply Le.altS' | exact hfRec | exact hfRec _ | apply Od | exact Le.rfl' _ | (refine Le.pi2 ?_; intro _) | intro _)
theorem Ly : ∀ (m : Nat) a0, Le (DZ m a0) (DZ (m + 1) a0)
  | 0, a0 => fun _ h => nomatch h
  | m + 1, a0 => Oc (Ly m) a0
theorem Qz {fRec fRec' : Tr28 → Int → Option Tr28} (hfRec : ∀ a0 a1, Le (fRec a0 a1) (fRec' a0 a1)) (p0 : Tr28) (p1 : Int) (x3 : Int) (x4 : Int) : ∀ s, Le (Du fRec p0 p1 x3 x4 s) (Du fRec' p0 p1 x3 x4 s) := by
  rintro ⟨x6, x7⟩
  show Le (Du fRec p0 p1 x3 x4 (x6, x7)) (Du fRec' p0 p1 x3 x4 (x6, x7))
  unfold Du
  repeat' with_reducible (first | apply Le.orR' | apply Le.bind' | apply Le.ite' | apply Le.loopM | apply Le.altS' | exact hfRec | exact hfRec _ _ | exact Le.rfl' _ | (refine Le.pi2 ?_; intro _) | intro _)
theorem QK {fRec fRec' : Tr28 → Int → Option Tr28} (hfRec : ∀ a0 a1, Le (fRec a0 a1) (fRec' a0 a1)) (p0 : Tr28) (p1 : Int) : Le (GQ fRec p0 p1) (GQ fRec' p0 p1) := by
  unfold GQ
  repeat' with_reducible (first | apply Le.orR' | apply Le.bind' | apply Le.ite' | apply Le.loopM | apply Le.altS' | exact hfRec | exact hfRec _ _ | apply Qz | exact Le.rfl' _ | (refine Le.pi2 ?_; intro _) | intro _)
theorem Nl : ∀ (m : Nat) a0 a1, Le (FH m a0 a1) (FH (m + 1) a0 a1)
  | 0, a0, a1 => fun _ h => nomatch h
  | m + 1, a0, a1 => QK (Nl m) a0 a1
theorem Pu {fRec fRec' : Tr28 → Tr28 → Option Bool} (hfRec : ∀ a0 a1, Le (fRec a0 a1) (fRec' a0 a1)) (p0 : Tr28) (p1 : Tr28) : ∀ s, Le (FW fRec p0 p1 s) (FW fRec' p0 p1 s) := by
  intro x1
  unfold FW
  repeat' with_reducible (first | apply Le.orR' | apply Le.bind' | apply Le.ite' | apply Le.loopM | apply Le.altS' | exact hfRec | exact hfRec _ _ | exact Le.rfl' _ | (refine Le.pi2 ?_; intro _) | intro _)
theorem P0 {fRec fRec' : Tr28 → Tr28 → Option Bool} (hfRec : ∀ a0 a1, Le (fRec a0 a1) (fRec' a0 a1)) (p0 : Tr28) (p1 : Tr28) : Le (FS fRec p0 p1) (FS fRec' p0 p1) := by
  unfold FS
  repeat' with_reducible (first | apply Le.orR' | apply Le.bind' | apply Le.ite' | apply Le.loopM | apply Le.altS' | exact hfRec | exact hfRec _ _ | apply Pu | exact Le.rfl' _ | (refine Le.pi2 ?_; intro _) | intro _)
theorem ME : ∀ (m : Nat) a0 a1, Le (Fv m a0 a1) (Fv (m + 1) a0 a1)
  | 0, a0, a1 => fun _ h => nomatch h
  | m + 1, a0, a1 => P0 (ME m) a0 a1
theorem IA {fRec_pred_arrival_satisfies fRec_pred_arrival_satisfies' : (Int × Int × (Int × Int × Int × Int)) → Tr36 → Option Bool} (hfRec_pred_arrival_satisfies : ∀ a0 a1, Le (fRec_pred_arrival_satisfies a0 a1) (fRec_pred_arrival_satisfies' a0 a1)) (p0 : Int × Int × (Int × Int × Int × Int)) (p1 : Tr36) : Le (C0 fRec_pred_arrival_satisfies p0 p1) (C0 fRec_pred_arrival_satisfies' p0 p1) := by
  unfold C0
  repeat' with_reducible (first | apply Le.orR' | apply Le.bind' | apply Le.ite' | apply Le.loopM | apply Le.altS' | exact hfRec_pred_arrival_satisfies | exact hfRec_pred_arrival_satisfies _ _ | exact Le.rfl' _ | (refine Le.pi2 ?_; intro _) | intro _)
theorem FL {fRec_pred_arrival_satisfies fRec_pred_arrival_satisfies' : (Int × Int × (Int × Int × Int × Int)) → Tr36 → Option Bool} (hfRec_pred_arrival_satisfies : ∀ a0 a1, Le (fRec_pred_arrival_satisfies a0 a1) (fRec_pred_arrival_satisfies' a0 a1)) (p0 : List Tr36) (p1f0 : Int × Int × (Int × Int × Int × Int)) : ∀ s, Le (Bc fRec_pred_arrival_satisfies p0 p1f0 s) (Bc fRec_pred_arrival_satisfies' p0 p1f0 s) := by
  intro x1
  unfold Bc
  repeat' with_reducible (first | apply Le.orR' | apply Le.bind' | apply Le.ite' | apply Le.loopM | apply Le.altS' | exact hfRec_pred_arrival_satisfies | exact hfRec_pred_arrival_satisfies _ _ | apply IA | exact Le.rfl' _ | (refine Le.pi2 ?_; intro _) | intro _)
theorem Gh {fRec_pred_arrival_satisfies fRec_pred_arrival_satisfies' : (Int × Int × (Int × Int × Int × Int)) → Tr36 → Option Bool} (hfRec_pred_arrival_satisfies : ∀ a0 a1, Le (fRec_pred_arrival_satisfies a0 a1) (fRec_pred_arrival_satisfies' a0 a1)) (p0 : List Tr36) (p1f0 : Int × Int × (Int × Int × Int × Int)) : Le (BA fRec_pred_arrival_satisfies p0 p1f0) (BA fRec_pred_arrival_satisfies' p0 p1f0) := by
  unfold BA
  repeat' with_reducible (first | apply Le.orR' | apply Le.bind' | apply Le.ite' | apply Le.loopM | apply Le.altS' | exact hfRec_pred_arrival_satisfies | exact hfRec_pred_arrival_satisfies _ _ | apply FL | exact Le.rfl' _ | (refine Le.pi2 ?_; intro _) | intro _)
theorem FG {fRec_pred_arrival_satisfies fRec_pred_arrival_satisfies' : (Int × Int × (Int × Int × Int × Int)) → Tr36 → Option Bool} (hfRec_pred_arrival_satisfies : ∀ a0 a1, Le (fRec_pred_arrival_satisfies a0 a1) (fRec_pred_arrival_satisfies' a0 a1)) (p0 : List Tr36) (p1f0 : Int × Int × (Int × Int × Int × Int)) : Le (Bo fRec_pred_arrival_satisfies p0 p1f0) (Bo fRec_pred_arrival_satisfies' p0 p1f0) := by
  unfold Bo
  repeat' with_reducible (first | apply Le.orR' | apply Le.bind' | apply Le.ite' | apply Le.loopM | apply Le.altS' | exact hfRec_pred_arrival_satisfies | exact hfRec_pred_arrival_satisfies _ _ | apply Gh | exact Le.rfl' _ | (refine Le.pi2 ?_; intro _) | intro _)
theorem FN {fRec_pred_arrival_satisfies fRec_pred_arrival_satisfies' : (Int × Int × (Int × Int × Int × Int)) → Tr36 → Option Bool} (hfRec_pred_arrival_satisfies : ∀ a0 a1, Le (fRec_pred_arrival_satisfies a0 a1) (fRec_pred_arrival_satisfies' a0 a1)) (p0 : List Tr36) (p1f0 : Int × Int × (Int × Int × Int × Int)) : ∀ s, Le (Bb fRec_pred_arrival_satisfies p0 p1f0 s) (Bb fRec_pred_arrival_satisfies' p0 p1f0 s) := by
  intro x1
  unfold Bb
  repeat' with_reducible (first | apply Le.orR' | apply Le.bind' | apply Le.ite' | apply Le.loopM | apply Le.altS' | exact hfRec_pred_arrival_satisfies | exact hfRec_pred_arrival_satisfies _ _ | exact Le.rfl' _ | (refine Le.pi2 ?_; intro _) | intro _)
theorem Gl {fRec_pred_arrival_satisfies fRec_pred_arrival_satisfies' : (Int × Int × (Int × Int × Int × Int)) → Tr36 → Option Bool} (hfRec_pred_arrival_satisfies : ∀ a0 a1, Le (fRec_pred_arrival_satisfies a0 a1) (fRec_pred_arrival_satisfies' a0 a1)) (p0 : List Tr36) (p1f0 : Int × Int × (Int × Int × Int × Int)) : Le (BB fRec_pred_arrival_satisfies p0 p1f0) (BB fRec_pred_arrival_satisfies' p0 p1f0) := by
  unfold BB
  repeat' with_reducible (first | apply Le.orR' | apply Le.bind' | apply Le.ite' | apply Le.loopM | apply Le.altS' | exact hfRec_pred_arrival_satisfies | exact hfRec_pred_arrival_satisfies _ _ | apply FN | exact Le.rfl' _ | (refine Le.pi2 ?_; intro _) | intro _)
theorem FC {fRec_pred_arrival_satisfies fRec_pred_arrival_satisfies' : (Int × Int × (Int × Int × Int × Int)) → Tr36 → Option Bool} (hfRec_pred_arrival_satisfies : ∀ a0 a1, Le (fRec_pred_arrival_satisfies a0 a1) (fRec_pred_arrival_satisfies' a0 a1)) (p0 : List Tr36) (p1f0 : Int × Int × (Int × Int × Int × Int)) : Le (Bn fRec_pred_arrival_satisfies p0 p1f0) (Bn fRec_pred_arrival_satisfies' p0 p1f0) := by
  unfold Bn
  repeat' with_reducible (first | apply Le.orR' | apply Le.bind' | apply Le.ite' | apply Le.loopM | apply Le.altS' | exact hfRec_pred_arrival_satisfies | exact hfRec_pred_arrival_satisfies _ _ | apply Gl | exact Le.rfl' _ | (refine Le.pi2 ?_; intro _) | intro _)
theorem JB {fRec fRec' : (Int × Int × (Int × Int × Int × Int)) → Tr36 → Option Bool} (hfRec : ∀ a0 a1, Le (fRec a0 a1) (fRec' a0 a1)) (p0 : Int × Int × (Int × Int × Int × Int)) (p1 : Tr36) : Le (Cl fRec p0 p1) (Cl fRec' p0 p1) := by
  unfold Cl
  repeat' with_reducible (first | apply Le.orR' | apply Le.bind' | apply Le.ite' | apply Le.loopM | apply Le.altS' | exact hfRec | exact hfRec _ _ | apply IA | apply FG | apply FC | exact Le.rfl' _ | (refine Le.pi2 ?_; intro _) | intro _)
theorem GE : ∀ (m : Nat) a0 a1, Le (BE m a0 a1) (BE (m + 1) a0 a1)
  | 0, a0, a1 => fun _ h => nomatch h
  | m + 1, a0, a1 => JB (GE m) a0 a1
theorem Tb : IB = some true := Rd 100 _ (by kernel_rfl)
end Go.Proofs.YtgoifghhcekahaaGreatDoor
