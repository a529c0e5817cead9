/- Twins with fuel of Gx functions: what a twin answers, the function answers. Conditions: none. -/
import Derived.Test.YtepfcpffbabgmaaDoorcLP
import Derived.Test.YtepfcpffbabgmaaDoorcA8
namespace Go.Proofs.YtepfcpffbabgmaaDoor
open Go Go.RowKit
set_option linter.unusedVariables false
set_option linter.unusedSimpArgs false
set_option maxRecDepth 20000
set_option maxHeartbeats 1600000
abbrev Le {α : Type} (a b : Option α) : Prop := ∀ r, a = some r → b = some r
theorem Le.rfl' {α : Type} (a : Option α) : Le a a := fun _ h => h
theorem Le.bind' {α β : Type} {a b : Option α} {f g : α → Option β} (h : Le a b) (hf : ∀ x, Le (f x) (g x)) : Le (a.bind f) (b.bind g) := fun r e => by
  obtain ⟨x, h1, h2⟩ := Am e
  rw [h x h1, Option.bind_some]; exact hf x r h2
theorem Le.ite' {α : Type} {c : Prop} [Decidable c] {a a' b b' : Option α} (h1 : Le a a') (h2 : Le b b') : Le (if c then a else b) (if c then a' else b') := fun r e => by
  by_cases h : c
  · rw [if_pos h] at e ⊢; exact h1 r e
  · rw [if_neg h] at e ⊢; exact h2 r e
theorem Le.orR' {α β : Type} {a b : Option (α ⊕ β)} {f g : α → Option β} (h : Le a b) (hf : ∀ x, Le (f x) (g x)) : Le (IX a f) (IX b g) :=
  Le.bind' h fun x => by
    cases x with
    | inl t => exact hf t
    | inr e => exact Le.rfl' _
def Lp {σ ε : Type} (n : Nat) (step : σ → Option (σ ⊕ ε)) (s : σ) : Option ε := F2 step n s
theorem IE {σ ε : Type} {S T : σ → Option (σ ⊕ ε)} (h : ∀ s, Le (S s) (T s)) : ∀ (n : Nat) (s : σ), Le (F2 S n s) (F2 T n s)
  | 0, s => Le.rfl' _
  | n + 1, s => fun r e => by
    unfold F2 at e ⊢
    cases hs : S s with
    | none => rw [hs] at e; cases e
    | some q =>
      rw [hs] at e; rw [h s q hs]
      cases q with
      | inl s' => exact IE h n s' r e
      | inr _ => exact e
theorem Le.loop' {σ ε : Type} {n : Nat} {S T : σ → Option (σ ⊕ ε)} {s : σ} (h : ∀ s, Le (S s) (T s)) : Le (Lp n S s) (A3 T s) := fun r e => E0.2 ⟨n, IE h n s r e⟩
theorem Le.pi2 {α β γ : Type} {f g : α × β → Option γ} (h : ∀ a b, Le (f (a, b)) (g (a, b))) : ∀ x, Le (f x) (g x) := fun x => h x.1 x.2
theorem Le.altS' {α β γ : Type} {y : α ⊕ β} {f f' : α → Option γ} {g g' : β → Option γ} (h : ∀ x, Le (f x) (f' x)) (k : ∀ x, Le (g x) (g' x)) : Le (RL y f g) (RL y f' g') := by
  cases y with
  | inl x => exact h x
  | inr x => exact k x
theorem CL {β : Type} {g : Nat → Option β} (hm : ∀ n r, g n = some r → g (n + 1) = some r) {n : Nat} {r : β} (h : g n = some r) : Fx g = some r := by
  have up : ∀ (d m : Nat) (q : β), g m = some q → g (m + d) = some q := fun d => by
    induction d with
    | zero => exact fun m q h => h
    | succ d ih => exact fun m q h => hm _ _ (ih m q h)
  refine MJ n h fun m q hq => ?_
  have h1 := up m n r h
  have h2 := up n m q hq
  rw [Nat.add_comm] at h2
  exact Option.some.inj (h2.symm.trans h1)
theorem Le.loopM {σ ε : Type} {S T : σ → Option (σ ⊕ ε)} {s : σ} (h : ∀ s, Le (S s) (T s)) : Le (A3 S s) (A3 T s) := fun r e => by
  obtain ⟨n, hn⟩ := E0.1 e
  exact E0.2 ⟨n, IE h n s r hn⟩
theorem KI {fRec fRec' : Tr24 → Option Tr31} (hfRec : ∀ a0, Le (fRec a0) (fRec' a0)) (p0 : Tr24) : ∀ s, Le (Dr fRec p0 s) (Dr fRec' p0 s) := by
  rintro ⟨x2, x3⟩
  show Le (Dr fRec p0 (x2, x3)) (Dr fRec' p0 (x2, x3))
  unfold Dr
  repeat' with_reducible (first | refine Le.orR' ?_ ?_ | refine Le.bind' ?_ ?_ | refine Le.ite' ?_ ?_ | refine Le.loopM ?_ | refine Le.altS' ?_ ?_ | exact hfRec | exact hfRec _ | exact Le.rfl' _ | (refine Le.pi2 ?_; intro _) | intro _)
theorem KO {fRec fRec' : Tr24 → Option Tr31} (hfRec : ∀ a0, Le (fRec a0) (fRec' a0)) (p0 : Tr24) : Le (Em fRec p0) (Em fRec' p0) := by
  unfold Em
  repeat' with_reducible (first | refine Le.orR' ?_ ?_ | refine Le.bind' ?_ ?_ | refine Le.ite' ?_ ?_ | refine Le.loopM ?_ | refine Le.altS' ?_ ?_ | exact hfRec | exact hfRec _ | apply KI | exact Le.rfl' _ | (refine Le.pi2 ?_; intro _) | intro _)
theorem Is : ∀ (m : Nat) a0, Le (DN m a0) (DN (m + 1) a0)
  | 0, a0 => fun _ h => nomatch h
  | m + 1, a0 => KO (Is m) a0
theorem Lv {fRec fRec' : Tr24 → Option Int} (hfRec : ∀ a0, Le (fRec a0) (fRec' a0)) (p0 : Tr24) : ∀ s, Le (Dk fRec p0 s) (Dk fRec' p0 s) := by
  rintro ⟨x2, x3⟩
  show Le (Dk fRec p0 (x2, x3)) (Dk fRec' p0 (x2, x3))
  unfold Dk
  repeat' with_reducible (first | refine Le.orR' ?_ ?_ | refine Le.bind' ?_ ?_ | refine Le.ite' ?_ ?_ | refine Le.loopM ?_ | refine Le.altS' ?_ ?_ | exact hfRec | exact hfRec _ | exact Le.rfl' _ | (refine Le.pi2 ?_; intro _) | intro _)
theorem Ls {fRec fRec' : Tr24 → Option Int} (hfRec : ∀ a0, Le (fRec a0) (fRec' a0)) (p0 : Tr24) : Le (Ei fRec p0) (Ei fRec' p0) := by
  unfold Ei
  repeat' with_reducible (first | refine Le.orR' ?_ ?_ | refine Le.bind' ?_ ?_ | refine Le.ite' ?_ ?_ | refine Le.loopM ?_ | refine Le.altS' ?_ ?_ | exact hfRec | exact hfRec _ | apply Lv | exact Le.rfl' _ | (refine Le.pi2 ?_; intro _) | intro _)
theorem Ir : ∀ (m : Nat) a0, Le (DK m a0) (DK (m + 1) a0)
  | 0, a0 => fun _ h => nomatch h
  | m + 1, a0 => Ls (Ir m) a0
theorem Ie {fRec fRec' : Tr31 → Int → Option (List Int)} (hfRec : ∀ a0 a1, Le (fRec a0 a1) (fRec' a0 a1)) (p0 : Tr31) (p1 : Int) : ∀ s, Le (Ck fRec p0 p1 s) (Ck fRec' p0 p1 s) := by
  rintro ⟨x4, x5⟩
  show Le (Ck fRec p0 p1 (x4, x5)) (Ck fRec' p0 p1 (x4, x5))
  unfold Ck
  repeat' with_reducible (first | refine Le.orR' ?_ ?_ | refine Le.bind' ?_ ?_ | refine Le.ite' ?_ ?_ | refine Le.loopM ?_ | refine Le.altS' ?_ ?_ | exact hfRec | exact hfRec _ _ | exact Le.rfl' _ | (refine Le.pi2 ?_; intro _) | intro _)
theorem Ig {fRec fRec' : Tr31 → Int → Option (List Int)} (hfRec : ∀ a0 a1, Le (fRec a0 a1) (fRec' a0 a1)) (p0 : Tr31) (p1 : Int) : Le (CX fRec p0 p1) (CX fRec' p0 p1) := by
  unfold CX
  repeat' with_reducible (first | refine Le.orR' ?_ ?_ | refine Le.bind' ?_ ?_ | refine Le.ite' ?_ ?_ | refine Le.loopM ?_ | refine Le.altS' ?_ ?_ | exact hfRec | exact hfRec _ _ | apply Ie | exact Le.rfl' _ | (refine Le.pi2 ?_; intro _) | intro _)
theorem Gl : ∀ (m : Nat) a0 a1, Le (Cu m a0 a1) (Cu (m + 1) a0 a1)
  | 0, a0, a1 => fun _ h => nomatch h
  | m + 1, a0, a1 => Ig (Gl m) a0 a1
def Gq (nE : Nat) (fRec_pred_negated : Tr31 → Option Tr31) (p0 : List Tr31) : (List Tr31 × Int) → Option ((List Tr31 × Int) ⊕ (List Tr31))
  | (x2, x3) => (if x3 < (p0.length : Int) then (ix p0 x3).bind fun x4 => (fRec_pred_negated x4).bind fun x5 => (F7 x2 ([x5] : List Tr31)).bind fun x6 => some (.inl (x6, A1 (x3 + 1))) else some (.inr x2))
theorem J7 (nE : Nat) {fRec_pred_negated fRec_pred_negated' : Tr31 → Option Tr31} (hfRec_pred_negated : ∀ a0, Le (fRec_pred_negated a0) (fRec_pred_negated' a0)) (p0 : List Tr31) : ∀ s, Le (Gq nE fRec_pred_negated p0 s) (CS fRec_pred_negated' p0 s) := by
  rintro ⟨x2, x3⟩
  unfold Gq CS
  repeat' with_reducible (first | refine Le.orR' ?_ ?_ | refine Le.bind' ?_ ?_ | refine Le.ite' ?_ ?_ | refine Le.loop' ?_ | refine Le.altS' ?_ ?_ | exact hfRec_pred_negated | exact hfRec_pred_negated _ | exact Le.rfl' _ | (refine Le.pi2 ?_; intro _) | intro _)
theorem J2 {fRec_pred_negated fRec_pred_negated' : Tr31 → Option Tr31} (hfRec_pred_negated : ∀ a0, Le (fRec_pred_negated a0) (fRec_pred_negated' a0)) (p0 : List Tr31) : ∀ s, Le (CS fRec_pred_negated p0 s) (CS fRec_pred_negated' p0 s) := by
  rintro ⟨x2, x3⟩
  show Le (CS fRec_pred_negated p0 (x2, x3)) (CS fRec_pred_negated' p0 (x2, x3))
  unfold CS
  repeat' with_reducible (first | refine Le.orR' ?_ ?_ | refine Le.bind' ?_ ?_ | refine Le.ite' ?_ ?_ | refine Le.loopM ?_ | refine Le.altS' ?_ ?_ | exact hfRec_pred_negated | exact hfRec_pred_negated _ | exact Le.rfl' _ | (refine Le.pi2 ?_; intro _) | intro _)
def GD (nE : Nat) (fRec_pred_negated : Tr31 → Option Tr31) (p0 : List Tr31) : Option (List Tr31) := (Lp nE (Gq nE fRec_pred_negated p0) ([], 0)).bind fun x1 => some x1
theorem Mk (nE : Nat) {fRec_pred_negated fRec_pred_negated' : Tr31 → Option Tr31} (hfRec_pred_negated : ∀ a0, Le (fRec_pred_negated a0) (fRec_pred_negated' a0)) (p0 : List Tr31) : Le (GD nE fRec_pred_negated p0) (Ed fRec_pred_negated' p0) := by
  unfold GD Ed
  repeat' with_reducible (first | refine Le.orR' ?_ ?_ | refine Le.bind' ?_ ?_ | refine Le.ite' ?_ ?_ | refine Le.loop' ?_ | refine Le.altS' ?_ ?_ | exact hfRec_pred_negated | exact hfRec_pred_negated _ | apply J7 | exact Le.rfl' _ | (refine Le.pi2 ?_; intro _) | intro _)
theorem Mo {fRec_pred_negated fRec_pred_negated' : Tr31 → Option Tr31} (hfRec_pred_negated : ∀ a0, Le (fRec_pred_negated a0) (fRec_pred_negated' a0)) (p0 : List Tr31) : Le (Ed fRec_pred_negated p0) (Ed fRec_pred_negated' p0) := by
  unfold Ed
  repeat' with_reducible (first | refine Le.orR' ?_ ?_ | refine Le.bind' ?_ ?_ | refine Le.ite' ?_ ?_ | refine Le.loopM ?_ | refine Le.altS' ?_ ?_ | exact hfRec_pred_negated | exact hfRec_pred_negated _ | apply J2 | exact Le.rfl' _ | (refine Le.pi2 ?_; intro _) | intro _)
def Fu (nE : Nat) (fRec_pred_Push : Tr31 → Option Tr31) (fRec : Tr31 → Option Tr31) (p0 : Tr31) : Option Tr31 := (if p0.un.1 = 1 then some (Tr31.of (2, 0, 0, ([] : List Tr31))) else (if p0.un.1 = 2 then some (Tr31.of (1, 0, 0, ([] : List Tr31))) else (if (decide (p0.un.1 = 4) && decide (0 < (p0.un.2.2.2.length : Int))) = true then (ix p0.un.2.2.2 0).bind fun x1 => (fRec_pred_Push x1).bind fun x2 => some x2 else (if p0.un.1 = 5 then ((GD nE fRec) p0.un.2.2.2).bind fun x3 => some (Tr31.of (6, 0, 0, x3)) else (if p0.un.1 = 6 then ((GD nE fRec) p0.un.2.2.2).bind fun x4 => some (Tr31.of (5, 0, 0, x4)) else (fRec_pred_Push p0).bind fun x5 => some (Tr31.of (4, 0, 0, ([x5] : List Tr31))))))))
theorem IG (nE : Nat) {fRec_pred_Push fRec_pred_Push' : Tr31 → Option Tr31} (hfRec_pred_Push : ∀ a0, Le (fRec_pred_Push a0) (fRec_pred_Push' a0)) {fRec fRec' : Tr31 → Option Tr31} (hfRec : ∀ a0, Le (fRec a0) (fRec' a0)) (p0 : Tr31) : Le (Fu nE fRec_pred_Push fRec p0) (CI fRec_pred_Push' fRec' p0) := by
  unfold Fu CI
  repeat' with_reducible (first | refine Le.orR' ?_ ?_ | refine Le.bind' ?_ ?_ | refine Le.ite' ?_ ?_ | refine Le.loop' ?_ | refine Le.altS' ?_ ?_ | exact hfRec_pred_Push | exact hfRec | exact hfRec_pred_Push _ | exact hfRec _ | apply Mk | exact Le.rfl' _ | (refine Le.pi2 ?_; intro _) | intro _)
theorem Iy {fRec_pred_Push fRec_pred_Push' : Tr31 → Option Tr31} (hfRec_pred_Push : ∀ a0, Le (fRec_pred_Push a0) (fRec_pred_Push' a0)) {fRec fRec' : Tr31 → Option Tr31} (hfRec : ∀ a0, Le (fRec a0) (fRec' a0)) (p0 : Tr31) : Le (CI fRec_pred_Push fRec p0) (CI fRec_pred_Push' fRec' p0) := by
  unfold CI
  repeat' with_reducible (first | refine Le.orR' ?_ ?_ | refine Le.bind' ?_ ?_ | refine Le.ite' ?_ ?_ | refine Le.loopM ?_ | refine Le.altS' ?_ ?_ | exact hfRec_pred_Push | exact hfRec | exact hfRec_pred_Push _ | exact hfRec _ | apply Mo | exact Le.rfl' _ | (refine Le.pi2 ?_; intro _) | intro _)
def FJ (nE : Nat) (fRec_pred_Push : Tr31 → Option Tr31) : Nat → Tr31 → Option Tr31
  | 0 => fun _ => none
  | n + 1 => Fu nE fRec_pred_Push (FJ nE fRec_pred_Push n)
theorem GH (nE : Nat) {fRec_pred_Push fRec_pred_Push' : Tr31 → Option Tr31} (hfRec_pred_Push : ∀ a0, Le (fRec_pred_Push a0) (fRec_pred_Push' a0)) : ∀ (m : Nat) a0, Le (FJ nE fRec_pred_Push m a0) (Cm fRec_pred_Push' m a0)
  | 0, a0 => fun _ h => nomatch h
  | m + 1, a0 => IG nE hfRec_pred_Push (GH nE hfRec_pred_Push m) a0
theorem DW {fRec_pred_Push fRec_pred_Push' : Tr31 → Option Tr31} (hfRec_pred_Push : ∀ a0, Le (fRec_pred_Push a0) (fRec_pred_Push' a0)) : ∀ (m : Nat) a0, Le (Cm fRec_pred_Push m a0) (Cm fRec_pred_Push' (m + 1) a0)
  | 0, a0 => fun _ h => nomatch h
  | m + 1, a0 => Iy hfRec_pred_Push (DW hfRec_pred_Push m) a0
def HD (nE : Nat) (fRec_pred_Push : Tr31 → Option Tr31) (p0 : Tr31) : Option Tr31 := FJ nE fRec_pred_Push nE p0
theorem J9 (nE : Nat) {fRec_pred_Push fRec_pred_Push' : Tr31 → Option Tr31} (hfRec_pred_Push : ∀ a0, Le (fRec_pred_Push a0) (fRec_pred_Push' a0)) (p0 : Tr31) : Le (HD nE fRec_pred_Push p0) (E1 fRec_pred_Push' p0) := fun r e => CL (g := fun n => Cm fRec_pred_Push' n p0) (fun n r h => DW (fun a0 => Le.rfl' _) n p0 r h) (n := nE) (GH nE hfRec_pred_Push nE p0 r e)
theorem J8 {fRec_pred_Push fRec_pred_Push' : Tr31 → Option Tr31} (hfRec_pred_Push : ∀ a0, Le (fRec_pred_Push a0) (fRec_pred_Push' a0)) (p0 : Tr31) : Le (E1 fRec_pred_Push p0) (E1 fRec_pred_Push' p0) := fun r e => by
  obtain ⟨n, hn⟩ := Cs e
  exact CL (g := fun n => Cm fRec_pred_Push' n p0) (fun n r h => DW (fun a0 => Le.rfl' _) n p0 r h) (n := n + 1) (DW hfRec_pred_Push n p0 r hn)
def FI (nE : Nat) (fRec_pred_Push : Tr31 → Option Tr31) (p0 : List Tr31) : (List Tr31 × Int) → Option ((List Tr31 × Int) ⊕ (List Tr31))
  | (x2, x3) => (if x3 < (p0.length : Int) then (ix p0 x3).bind fun x4 => (fRec_pred_Push x4).bind fun x5 => (F7 x2 ([x5] : List Tr31)).bind fun x6 => some (.inl (x6, A1 (x3 + 1))) else some (.inr x2))
theorem IR (nE : Nat) {fRec_pred_Push fRec_pred_Push' : Tr31 → Option Tr31} (hfRec_pred_Push : ∀ a0, Le (fRec_pred_Push a0) (fRec_pred_Push' a0)) (p0 : List Tr31) : ∀ s, Le (FI nE fRec_pred_Push p0 s) (Ct fRec_pred_Push' p0 s) := by
  rintro ⟨x2, x3⟩
  unfold FI Ct
  repeat' with_reducible (first | refine Le.orR' ?_ ?_ | refine Le.bind' ?_ ?_ | refine Le.ite' ?_ ?_ | refine Le.loop' ?_ | refine Le.altS' ?_ ?_ | exact hfRec_pred_Push | exact hfRec_pred_Push _ | exact Le.rfl' _ | (refine Le.pi2 ?_; intro _) | intro _)
theorem I1 {fRec_pred_Push fRec_pred_Push' : Tr31 → Option Tr31} (hfRec_pred_Push : ∀ a0, Le (fRec_pred_Push a0) (fRec_pred_Push' a0)) (p0 : List Tr31) : ∀ s, Le (Ct fRec_pred_Push p0 s) (Ct fRec_pred_Push' p0 s) := by
  rintro ⟨x2, x3⟩
  show Le (Ct fRec_pred_Push p0 (x2, x3)) (Ct fRec_pred_Push' p0 (x2, x3))
  unfold Ct
  repeat' with_reducible (first | refine Le.orR' ?_ ?_ | refine Le.bind' ?_ ?_ | refine Le.ite' ?_ ?_ | refine Le.loopM ?_ | refine Le.altS' ?_ ?_ | exact hfRec_pred_Push | exact hfRec_pred_Push _ | exact Le.rfl' _ | (refine Le.pi2 ?_; intro _) | intro _)
def GV (nE : Nat) (fRec_pred_Push : Tr31 → Option Tr31) (p0 : List Tr31) : Option (List Tr31) := (Lp nE (FI nE fRec_pred_Push p0) ([], 0)).bind fun x1 => some x1
theorem Kh (nE : Nat) {fRec_pred_Push fRec_pred_Push' : Tr31 → Option Tr31} (hfRec_pred_Push : ∀ a0, Le (fRec_pred_Push a0) (fRec_pred_Push' a0)) (p0 : List Tr31) : Le (GV nE fRec_pred_Push p0) (DC fRec_pred_Push' p0) := by
  unfold GV DC
  repeat' with_reducible (first | refine Le.orR' ?_ ?_ | refine Le.bind' ?_ ?_ | refine Le.ite' ?_ ?_ | refine Le.loop' ?_ | refine Le.altS' ?_ ?_ | exact hfRec_pred_Push | exact hfRec_pred_Push _ | apply IR | exact Le.rfl' _ | (refine Le.pi2 ?_; intro _) | intro _)
theorem Lc {fRec_pred_Push fRec_pred_Push' : Tr31 → Option Tr31} (hfRec_pred_Push : ∀ a0, Le (fRec_pred_Push a0) (fRec_pred_Push' a0)) (p0 : List Tr31) : Le (DC fRec_pred_Push p0) (DC fRec_pred_Push' p0) := by
  unfold DC
  repeat' with_reducible (first | refine Le.orR' ?_ ?_ | refine Le.bind' ?_ ?_ | refine Le.ite' ?_ ?_ | refine Le.loopM ?_ | refine Le.altS' ?_ ?_ | exact hfRec_pred_Push | exact hfRec_pred_Push _ | apply I1 | exact Le.rfl' _ | (refine Le.pi2 ?_; intro _) | intro _)
def Gw (nE : Nat) (fRec : Tr31 → Option Tr31) (p0 : Tr31) : Option Tr31 := (if (decide (p0.un.1 = 4) && decide (0 < (p0.un.2.2.2.length : Int))) = true then (ix p0.un.2.2.2 0).bind fun x1 => ((HD nE fRec) x1).bind fun x2 => some x2 else ((GV nE fRec) p0.un.2.2.2).bind fun x3 => some (Tr31.of (p0.un.1, p0.un.2.1, p0.un.2.2.1, x3)))
theorem JO (nE : Nat) {fRec fRec' : Tr31 → Option Tr31} (hfRec : ∀ a0, Le (fRec a0) (fRec' a0)) (p0 : Tr31) : Le (Gw nE fRec p0) (Di fRec' p0) := by
  unfold Gw Di
  repeat' with_reducible (first | refine Le.orR' ?_ ?_ | refine Le.bind' ?_ ?_ | refine Le.ite' ?_ ?_ | refine Le.loop' ?_ | refine Le.altS' ?_ ?_ | exact hfRec | exact hfRec _ | apply J9 | apply Kh | exact Le.rfl' _ | (refine Le.pi2 ?_; intro _) | intro _)
theorem J5 {fRec fRec' : Tr31 → Option Tr31} (hfRec : ∀ a0, Le (fRec a0) (fRec' a0)) (p0 : Tr31) : Le (Di fRec p0) (Di fRec' p0) := by
  unfold Di
  repeat' with_reducible (first | refine Le.orR' ?_ ?_ | refine Le.bind' ?_ ?_ | refine Le.ite' ?_ ?_ | refine Le.loopM ?_ | refine Le.altS' ?_ ?_ | exact hfRec | exact hfRec _ | apply J8 | apply Lc | exact Le.rfl' _ | (refine Le.pi2 ?_; intro _) | intro _)
def GS (nE : Nat) : Nat → Tr31 → Option Tr31
  | 0 => fun _ => none
  | n + 1 => Gw nE (GS nE n)
theorem HC (nE : Nat) : ∀ (m : Nat) a0, Le (GS nE m a0) (CY m a0)
  | 0, a0 => fun _ h => nomatch h
  | m + 1, a0 => JO nE (HC nE m) a0
theorem Gr : ∀ (m : Nat) a0, Le (CY m a0) (CY (m + 1) a0)
  | 0, a0 => fun _ h => nomatch h
  | m + 1, a0 => J5 (Gr m) a0
def JI (nE : Nat) (p0 : Tr31) : Option Tr31 := GS nE nE p0
theorem Mh (nE : Nat) (p0 : Tr31) : Le (JI nE p0) (GY p0) := fun r e => CL (g := fun n => CY n p0) (fun n r h => Gr n p0 r h) (n := nE) (HC nE nE p0 r e)
def Gn (nE : Nat) (fRec_pred_Text : Tr31 → Option (List UInt8)) (p0 : List Tr31) : (List (List UInt8) × Int) → Option ((List (List UInt8) × Int) ⊕ (List (List UInt8)))
  | (x2, x3) => (if x3 < (p0.length : Int) then (ix p0 x3).bind fun x4 => (fRec_pred_Text x4).bind fun x5 => (if (decide (x4.un.1 = 5) || decide (x4.un.1 = 6)) = true then (F7 ([40] : List UInt8) x5).bind fun x7 => (F7 x7 ([41] : List UInt8)).bind fun x8 => some x8 else some x5).bind fun x6 => (F7 x2 ([x6] : List (List UInt8))).bind fun x9 => some (.inl (x9, A1 (x3 + 1))) else some (.inr x2))
theorem JS (nE : Nat) {fRec_pred_Text fRec_pred_Text' : Tr31 → Option (List UInt8)} (hfRec_pred_Text : ∀ a0, Le (fRec_pred_Text a0) (fRec_pred_Text' a0)) (p0 : List Tr31) : ∀ s, Le (Gn nE fRec_pred_Text p0 s) (CR fRec_pred_Text' p0 s) := by
  rintro ⟨x2, x3⟩
  unfold Gn CR
  repeat' with_reducible (first | refine Le.orR' ?_ ?_ | refine Le.bind' ?_ ?_ | refine Le.ite' ?_ ?_ | refine Le.loop' ?_ | refine Le.altS' ?_ ?_ | exact hfRec_pred_Text | exact hfRec_pred_Text _ | exact Le.rfl' _ | (refine Le.pi2 ?_; intro _) | intro _)
theorem JY {fRec_pred_Text fRec_pred_Text' : Tr31 → Option (List UInt8)} (hfRec_pred_Text : ∀ a0, Le (fRec_pred_Text a0) (fRec_pred_Text' a0)) (p0 : List Tr31) : ∀ s, Le (CR fRec_pred_Text p0 s) (CR fRec_pred_Text' p0 s) := by
  rintro ⟨x2, x3⟩
  show Le (CR fRec_pred_Text p0 (x2, x3)) (CR fRec_pred_Text' p0 (x2, x3))
  unfold CR
  repeat' with_reducible (first | refine Le.orR' ?_ ?_ | refine Le.bind' ?_ ?_ | refine Le.ite' ?_ ?_ | refine Le.loopM ?_ | refine Le.altS' ?_ ?_ | exact hfRec_pred_Text | exact hfRec_pred_Text _ | exact Le.rfl' _ | (refine Le.pi2 ?_; intro _) | intro _)
def FV (nE : Nat) (fRec_pred_Text : Tr31 → Option (List UInt8)) (p0 : List Tr31) (p1 : List UInt8) : Option (List UInt8) := (Lp nE (Gn nE fRec_pred_Text p0) ([], 0)).bind fun x1 => (M7 x1 p1).bind fun x10 => some x10
theorem MG (nE : Nat) {fRec_pred_Text fRec_pred_Text' : Tr31 → Option (List UInt8)} (hfRec_pred_Text : ∀ a0, Le (fRec_pred_Text a0) (fRec_pred_Text' a0)) (p0 : List Tr31) (p1 : List UInt8) : Le (FV nE fRec_pred_Text p0 p1) (DT fRec_pred_Text' p0 p1) := by
  unfold FV DT
  repeat' with_reducible (first | refine Le.orR' ?_ ?_ | refine Le.bind' ?_ ?_ | refine Le.ite' ?_ ?_ | refine Le.loop' ?_ | refine Le.altS' ?_ ?_ | exact hfRec_pred_Text | exact hfRec_pred_Text _ | apply JS | exact Le.rfl' _ | (refine Le.pi2 ?_; intro _) | intro _)
theorem ML {fRec_pred_Text fRec_pred_Text' : Tr31 → Option (List UInt8)} (hfRec_pred_Text : ∀ a0, Le (fRec_pred_Text a0) (fRec_pred_Text' a0)) (p0 : List Tr31) (p1 : List UInt8) : Le (DT fRec_pred_Text p0 p1) (DT fRec_pred_Text' p0 p1) := by
  unfold DT
  repeat' with_reducible (first | refine Le.orR' ?_ ?_ | refine Le.bind' ?_ ?_ | refine Le.ite' ?_ ?_ | refine Le.loopM ?_ | refine Le.altS' ?_ ?_ | exact hfRec_pred_Text | exact hfRec_pred_Text _ | apply JY | exact Le.rfl' _ | (refine Le.pi2 ?_; intro _) | intro _)
def Gp (nE : Nat) (fRec : Tr31 → Option (List UInt8)) (p0 : Tr31) : Option (List UInt8) := (if p0.un.1 = 1 then some ([116, 114, 117, 101] : List UInt8) else (if p0.un.1 = 2 then some ([102, 97, 108, 115, 101] : List UInt8) else (if p0.un.1 = 3 then (F7 (CP p0.un.2.1) ([32, 61, 32] : List UInt8)).bind fun x1 => (Nz p0.un.2.2.1).bind fun x2 => (F7 x1 x2).bind fun x3 => some x3 else (if p0.un.1 = 4 then ((FV nE fRec) p0.un.2.2.2 ([] : List UInt8)).bind fun x4 => (F7 ([110, 111, 116, 32] : List UInt8) x4).bind fun x5 => some x5 else (if p0.un.1 = 5 then ((FV nE fRec) p0.un.2.2.2 ([32, 97, 110, 100, 32] : List UInt8)).bind fun x6 => some x6 else (if p0.un.1 = 6 then ((FV nE fRec) p0.un.2.2.2 ([32, 111, 114, 32] : List UInt8)).bind fun x7 => some x7 else some ([63] : List UInt8)))))))
theorem J3 (nE : Nat) {fRec fRec' : Tr31 → Option (List UInt8)} (hfRec : ∀ a0, Le (fRec a0) (fRec' a0)) (p0 : Tr31) : Le (Gp nE fRec p0) (Dj fRec' p0) := by
  unfold Gp Dj
  repeat' with_reducible (first | refine Le.orR' ?_ ?_ | refine Le.bind' ?_ ?_ | refine Le.ite' ?_ ?_ | refine Le.loop' ?_ | refine Le.altS' ?_ ?_ | exact hfRec | exact hfRec _ | apply MG | exact Le.rfl' _ | (refine Le.pi2 ?_; intro _) | intro _)
theorem J6 {fRec fRec' : Tr31 → Option (List UInt8)} (hfRec : ∀ a0, Le (fRec a0) (fRec' a0)) (p0 : Tr31) : Le (Dj fRec p0) (Dj fRec' p0) := by
  unfold Dj
  repeat' with_reducible (first | refine Le.orR' ?_ ?_ | refine Le.bind' ?_ ?_ | refine Le.ite' ?_ ?_ | refine Le.loopM ?_ | refine Le.altS' ?_ ?_ | exact hfRec | exact hfRec _ | apply ML | exact Le.rfl' _ | (refine Le.pi2 ?_; intro _) | intro _)
def GK (nE : Nat) : Nat → Tr31 → Option (List UInt8)
  | 0 => fun _ => none
  | n + 1 => Gp nE (GK nE n)
theorem HP (nE : Nat) : ∀ (m : Nat) a0, Le (GK nE m a0) (C9 m a0)
  | 0, a0 => fun _ h => nomatch h
  | m + 1, a0 => J3 nE (HP nE m) a0
theorem Gi : ∀ (m : Nat) a0, Le (C9 m a0) (C9 (m + 1) a0)
  | 0, a0 => fun _ h => nomatch h
  | m + 1, a0 => J6 (Gi m) a0
def HU (nE : Nat) (p0 : Tr31) : Option (List UInt8) := GK nE nE p0
theorem MX (nE : Nat) (p0 : Tr31) : Le (HU nE p0) (Gg p0) := fun r e => CL (g := fun n => C9 n p0) (fun n r h => Gi n p0 r h) (n := nE) (HP nE nE p0 r e)
def Hh (nE : Nat) (p0 : Int × Int × Int × Int) (p1 : Int) : Option Int := (if (!(E2 p1)) = true then some 0 else (ix ([p0.1, p0.2.1, p0.2.2.1, p0.2.2.2] : List Int) p1).bind fun x1 => some x1)
theorem LB (nE : Nat) (p0 : Int × Int × Int × Int) (p1 : Int) : Le (Hh nE p0 p1) (FD p0 p1) := by
  unfold Hh FD
  repeat' with_reducible (first | refine Le.orR' ?_ ?_ | refine Le.bind' ?_ ?_ | refine Le.ite' ?_ ?_ | refine Le.loop' ?_ | refine Le.altS' ?_ ?_ | exact Le.rfl' _ | (refine Le.pi2 ?_; intro _) | intro _)
def IF (nE : Nat) (p0 : Int) (p1 : Int) (p2 : Int) (p3 : Int × Int × Int × Int) : Option Int := (if p0 = 4 then some p2 else (if p0 = 5 then some p1 else (if (CE p0) = true then (Hh nE p3 p0).bind fun x1 => some x1 else some (-1))))
theorem M3 (nE : Nat) (p0 : Int) (p1 : Int) (p2 : Int) (p3 : Int × Int × Int × Int) : Le (IF nE p0 p1 p2 p3) (FS p0 p1 p2 p3) := by
  unfold IF FS
  repeat' with_reducible (first | refine Le.orR' ?_ ?_ | refine Le.bind' ?_ ?_ | refine Le.ite' ?_ ?_ | refine Le.loop' ?_ | refine Le.altS' ?_ ?_ | apply LB | exact Le.rfl' _ | (refine Le.pi2 ?_; intro _) | intro _)
def DZ (nE : Nat) (fRec_pred_arrival_satisfies : (Int × Int × (Int × Int × Int × Int)) → Tr31 → Option Bool) (p0 : Int × Int × (Int × Int × Int × Int)) (p1 : Tr31) : Option Bool := (fRec_pred_arrival_satisfies p0 p1).bind fun x1 => some (!x1)
theorem FA (nE : Nat) {fRec_pred_arrival_satisfies fRec_pred_arrival_satisfies' : (Int × Int × (Int × Int × Int × Int)) → Tr31 → Option Bool} (hfRec_pred_arrival_satisfies : ∀ a0 a1, Le (fRec_pred_arrival_satisfies a0 a1) (fRec_pred_arrival_satisfies' a0 a1)) (p0 : Int × Int × (Int × Int × Int × Int)) (p1 : Tr31) : Le (DZ nE fRec_pred_arrival_satisfies p0 p1) (B1 fRec_pred_arrival_satisfies' p0 p1) := by
  unfold DZ B1
  repeat' with_reducible (first | refine Le.orR' ?_ ?_ | refine Le.bind' ?_ ?_ | refine Le.ite' ?_ ?_ | refine Le.loop' ?_ | refine Le.altS' ?_ ?_ | exact hfRec_pred_arrival_satisfies | exact hfRec_pred_arrival_satisfies _ _ | exact Le.rfl' _ | (refine Le.pi2 ?_; intro _) | intro _)
theorem FB {fRec_pred_arrival_satisfies fRec_pred_arrival_satisfies' : (Int × Int × (Int × Int × Int × Int)) → Tr31 → Option Bool} (hfRec_pred_arrival_satisfies : ∀ a0 a1, Le (fRec_pred_arrival_satisfies a0 a1) (fRec_pred_arrival_satisfies' a0 a1)) (p0 : Int × Int × (Int × Int × Int × Int)) (p1 : Tr31) : Le (B1 fRec_pred_arrival_satisfies p0 p1) (B1 fRec_pred_arrival_satisfies' p0 p1) := by
  unfold B1
  repeat' with_reducible (first | refine Le.orR' ?_ ?_ | refine Le.bind' ?_ ?_ | refine Le.ite' ?_ ?_ | refine Le.loopM ?_ | refine Le.altS' ?_ ?_ | exact hfRec_pred_arrival_satisfies | exact hfRec_pred_arrival_satisfies _ _ | exact Le.rfl' _ | (refine Le.pi2 ?_; intro _) | intro _)
def Cx (nE : Nat) (fRec_pred_arrival_satisfies : (Int × Int × (Int × Int × Int × Int)) → Tr31 → Option Bool) (p0 : List Tr31) (p1f0 : Int × Int × (Int × Int × Int × Int)) : Int → Option (Int ⊕ (Unit ⊕ Int))
  | x1 => (if x1 < (p0.length : Int) then (ix p0 x1).bind fun x2 => ((DZ nE fRec_pred_arrival_satisfies) p1f0 x2).bind fun x3 => (if x3 = true then some (.inr (.inr x1)) else some (.inl (A1 (x1 + 1)))) else some (.inr (.inl ())))
theorem Ey (nE : Nat) {fRec_pred_arrival_satisfies fRec_pred_arrival_satisfies' : (Int × Int × (Int × Int × Int × Int)) → Tr31 → Option Bool} (hfRec_pred_arrival_satisfies : ∀ a0 a1, Le (fRec_pred_arrival_satisfies a0 a1) (fRec_pred_arrival_satisfies' a0 a1)) (p0 : List Tr31) (p1f0 : Int × Int × (Int × Int × Int × Int)) : ∀ s, Le (Cx nE fRec_pred_arrival_satisfies p0 p1f0 s) (AV fRec_pred_arrival_satisfies' p0 p1f0 s) := by
  intro x1
  unfold Cx AV
  repeat' with_reducible (first | refine Le.orR' ?_ ?_ | refine Le.bind' ?_ ?_ | refine Le.ite' ?_ ?_ | refine Le.loop' ?_ | refine Le.altS' ?_ ?_ | exact hfRec_pred_arrival_satisfies | exact hfRec_pred_arrival_satisfies _ _ | apply FA | exact Le.rfl' _ | (refine Le.pi2 ?_; intro _) | intro _)
theorem Es {fRec_pred_arrival_satisfies fRec_pred_arrival_satisfies' : (Int × Int × (Int × Int × Int × Int)) → Tr31 → Option Bool} (hfRec_pred_arrival_satisfies : ∀ a0 a1, Le (fRec_pred_arrival_satisfies a0 a1) (fRec_pred_arrival_satisfies' a0 a1)) (p0 : List Tr31) (p1f0 : Int × Int × (Int × Int × Int × Int)) : ∀ s, Le (AV fRec_pred_arrival_satisfies p0 p1f0 s) (AV fRec_pred_arrival_satisfies' p0 p1f0 s) := by
  intro x1
  unfold AV
  repeat' with_reducible (first | refine Le.orR' ?_ ?_ | refine Le.bind' ?_ ?_ | refine Le.ite' ?_ ?_ | refine Le.loopM ?_ | refine Le.altS' ?_ ?_ | exact hfRec_pred_arrival_satisfies | exact hfRec_pred_arrival_satisfies _ _ | apply FB | exact Le.rfl' _ | (refine Le.pi2 ?_; intro _) | intro _)
def CH (nE : Nat) (fRec_pred_arrival_satisfies : (Int × Int × (Int × Int × Int × Int)) → Tr31 → Option Bool) (p0 : List Tr31) (p1f0 : Int × Int × (Int × Int × Int × Int)) : Option Int := IX (Lp nE (Cx nE fRec_pred_arrival_satisfies p0 p1f0) 0) fun _ => some (-1)
theorem EP (nE : Nat) {fRec_pred_arrival_satisfies fRec_pred_arrival_satisfies' : (Int × Int × (Int × Int × Int × Int)) → Tr31 → Option Bool} (hfRec_pred_arrival_satisfies : ∀ a0 a1, Le (fRec_pred_arrival_satisfies a0 a1) (fRec_pred_arrival_satisfies' a0 a1)) (p0 : List Tr31) (p1f0 : Int × Int × (Int × Int × Int × Int)) : Le (CH nE fRec_pred_arrival_satisfies p0 p1f0) (Bc fRec_pred_arrival_satisfies' p0 p1f0) := by
  unfold CH Bc
  repeat' with_reducible (first | refine Le.orR' ?_ ?_ | refine Le.bind' ?_ ?_ | refine Le.ite' ?_ ?_ | refine Le.loop' ?_ | refine Le.altS' ?_ ?_ | exact hfRec_pred_arrival_satisfies | exact hfRec_pred_arrival_satisfies _ _ | apply Ey | exact Le.rfl' _ | (refine Le.pi2 ?_; intro _) | intro _)
theorem EQ {fRec_pred_arrival_satisfies fRec_pred_arrival_satisfies' : (Int × Int × (Int × Int × Int × Int)) → Tr31 → Option Bool} (hfRec_pred_arrival_satisfies : ∀ a0 a1, Le (fRec_pred_arrival_satisfies a0 a1) (fRec_pred_arrival_satisfies' a0 a1)) (p0 : List Tr31) (p1f0 : Int × Int × (Int × Int × Int × Int)) : Le (Bc fRec_pred_arrival_satisfies p0 p1f0) (Bc fRec_pred_arrival_satisfies' p0 p1f0) := by
  unfold Bc
  repeat' with_reducible (first | refine Le.orR' ?_ ?_ | refine Le.bind' ?_ ?_ | refine Le.ite' ?_ ?_ | refine Le.loopM ?_ | refine Le.altS' ?_ ?_ | exact hfRec_pred_arrival_satisfies | exact hfRec_pred_arrival_satisfies _ _ | apply Es | exact Le.rfl' _ | (refine Le.pi2 ?_; intro _) | intro _)
def Cv (nE : Nat) (fRec_pred_arrival_satisfies : (Int × Int × (Int × Int × Int × Int)) → Tr31 → Option Bool) (p0 : List Tr31) (p1f0 : Int × Int × (Int × Int × Int × Int)) : Option Bool := ((CH nE fRec_pred_arrival_satisfies) p0 p1f0).bind fun x1 => some (decide (0 ≤ x1))
theorem Ez (nE : Nat) {fRec_pred_arrival_satisfies fRec_pred_arrival_satisfies' : (Int × Int × (Int × Int × Int × Int)) → Tr31 → Option Bool} (hfRec_pred_arrival_satisfies : ∀ a0 a1, Le (fRec_pred_arrival_satisfies a0 a1) (fRec_pred_arrival_satisfies' a0 a1)) (p0 : List Tr31) (p1f0 : Int × Int × (Int × Int × Int × Int)) : Le (Cv nE fRec_pred_arrival_satisfies p0 p1f0) (A4 fRec_pred_arrival_satisfies' p0 p1f0) := by
  unfold Cv A4
  repeat' with_reducible (first | refine Le.orR' ?_ ?_ | refine Le.bind' ?_ ?_ | refine Le.ite' ?_ ?_ | refine Le.loop' ?_ | refine Le.altS' ?_ ?_ | exact hfRec_pred_arrival_satisfies | exact hfRec_pred_arrival_satisfies _ _ | apply EP | exact Le.rfl' _ | (refine Le.pi2 ?_; intro _) | intro _)
theorem EB {fRec_pred_arrival_satisfies fRec_pred_arrival_satisfies' : (Int × Int × (Int × Int × Int × Int)) → Tr31 → Option Bool} (hfRec_pred_arrival_satisfies : ∀ a0 a1, Le (fRec_pred_arrival_satisfies a0 a1) (fRec_pred_arrival_satisfies' a0 a1)) (p0 : List Tr31) (p1f0 : Int × Int × (Int × Int × Int × Int)) : Le (A4 fRec_pred_arrival_satisfies p0 p1f0) (A4 fRec_pred_arrival_satisfies' p0 p1f0) := by
  unfold A4
  repeat' with_reducible (first | refine Le.orR' ?_ ?_ | refine Le.bind' ?_ ?_ | refine Le.ite' ?_ ?_ | refine Le.loopM ?_ | refine Le.altS' ?_ ?_ | exact hfRec_pred_arrival_satisfies | exact hfRec_pred_arrival_satisfies _ _ | apply EQ | exact Le.rfl' _ | (refine Le.pi2 ?_; intro _) | intro _)
def Cp (nE : Nat) (fRec_pred_arrival_satisfies : (Int × Int × (Int × Int × Int × Int)) → Tr31 → Option Bool) (p0 : List Tr31) (p1f0 : Int × Int × (Int × Int × Int × Int)) : Int → Option (Int ⊕ (Unit ⊕ Int))
  | x1 => (if x1 < (p0.length : Int) then (ix p0 x1).bind fun x2 => (fRec_pred_arrival_satisfies p1f0 x2).bind fun x3 => (if x3 = true then some (.inr (.inr x1)) else some (.inl (A1 (x1 + 1)))) else some (.inr (.inl ())))
theorem Ec (nE : Nat) {fRec_pred_arrival_satisfies fRec_pred_arrival_satisfies' : (Int × Int × (Int × Int × Int × Int)) → Tr31 → Option Bool} (hfRec_pred_arrival_satisfies : ∀ a0 a1, Le (fRec_pred_arrival_satisfies a0 a1) (fRec_pred_arrival_satisfies' a0 a1)) (p0 : List Tr31) (p1f0 : Int × Int × (Int × Int × Int × Int)) : ∀ s, Le (Cp nE fRec_pred_arrival_satisfies p0 p1f0 s) (AN fRec_pred_arrival_satisfies' p0 p1f0 s) := by
  intro x1
  unfold Cp AN
  repeat' with_reducible (first | refine Le.orR' ?_ ?_ | refine Le.bind' ?_ ?_ | refine Le.ite' ?_ ?_ | refine Le.loop' ?_ | refine Le.altS' ?_ ?_ | exact hfRec_pred_arrival_satisfies | exact hfRec_pred_arrival_satisfies _ _ | exact Le.rfl' _ | (refine Le.pi2 ?_; intro _) | intro _)
theorem Ea {fRec_pred_arrival_satisfies fRec_pred_arrival_satisfies' : (Int × Int × (Int × Int × Int × Int)) → Tr31 → Option Bool} (hfRec_pred_arrival_satisfies : ∀ a0 a1, Le (fRec_pred_arrival_satisfies a0 a1) (fRec_pred_arrival_satisfies' a0 a1)) (p0 : List Tr31) (p1f0 : Int × Int × (Int × Int × Int × Int)) : ∀ s, Le (AN fRec_pred_arrival_satisfies p0 p1f0 s) (AN fRec_pred_arrival_satisfies' p0 p1f0 s) := by
  intro x1
  unfold AN
  repeat' with_reducible (first | refine Le.orR' ?_ ?_ | refine Le.bind' ?_ ?_ | refine Le.ite' ?_ ?_ | refine Le.loopM ?_ | refine Le.altS' ?_ ?_ | exact hfRec_pred_arrival_satisfies | exact hfRec_pred_arrival_satisfies _ _ | exact Le.rfl' _ | (refine Le.pi2 ?_; intro _) | intro _)
def Cz (nE : Nat) (fRec_pred_arrival_satisfies : (Int × Int × (Int × Int × Int × Int)) → Tr31 → Option Bool) (p0 : List Tr31) (p1f0 : Int × Int × (Int × Int × Int × Int)) : Option Int := IX (Lp nE (Cp nE fRec_pred_arrival_satisfies p0 p1f0) 0) fun _ => some (-1)
theorem EG (nE : Nat) {fRec_pred_arrival_satisfies fRec_pred_arrival_satisfies' : (Int × Int × (Int × Int × Int × Int)) → Tr31 → Option Bool} (hfRec_pred_arrival_satisfies : ∀ a0 a1, Le (fRec_pred_arrival_satisfies a0 a1) (fRec_pred_arrival_satisfies' a0 a1)) (p0 : List Tr31) (p1f0 : Int × Int × (Int × Int × Int × Int)) : Le (Cz nE fRec_pred_arrival_satisfies p0 p1f0) (A7 fRec_pred_arrival_satisfies' p0 p1f0) := by
  unfold Cz A7
  repeat' with_reducible (first | refine Le.orR' ?_ ?_ | refine Le.bind' ?_ ?_ | refine Le.ite' ?_ ?_ | refine Le.loop' ?_ | refine Le.altS' ?_ ?_ | exact hfRec_pred_arrival_satisfies | exact hfRec_pred_arrival_satisfies _ _ | apply Ec | exact Le.rfl' _ | (refine Le.pi2 ?_; intro _) | intro _)
theorem EI {fRec_pred_arrival_satisfies fRec_pred_arrival_satisfies' : (Int × Int × (Int × Int × Int × Int)) → Tr31 → Option Bool} (hfRec_pred_arrival_satisfies : ∀ a0 a1, Le (fRec_pred_arrival_satisfies a0 a1) (fRec_pred_arrival_satisfies' a0 a1)) (p0 : List Tr31) (p1f0 : Int × Int × (Int × Int × Int × Int)) : Le (A7 fRec_pred_arrival_satisfies p0 p1f0) (A7 fRec_pred_arrival_satisfies' p0 p1f0) := by
  unfold A7
  repeat' with_reducible (first | refine Le.orR' ?_ ?_ | refine Le.bind' ?_ ?_ | refine Le.ite' ?_ ?_ | refine Le.loopM ?_ | refine Le.altS' ?_ ?_ | exact hfRec_pred_arrival_satisfies | exact hfRec_pred_arrival_satisfies _ _ | apply Ea | exact Le.rfl' _ | (refine Le.pi2 ?_; intro _) | intro _)
def Co (nE : Nat) (fRec_pred_arrival_satisfies : (Int × Int × (Int × Int × Int × Int)) → Tr31 → Option Bool) (p0 : List Tr31) (p1f0 : Int × Int × (Int × Int × Int × Int)) : Option Bool := ((Cz nE fRec_pred_arrival_satisfies) p0 p1f0).bind fun x1 => some (decide (0 ≤ x1))
theorem D9 (nE : Nat) {fRec_pred_arrival_satisfies fRec_pred_arrival_satisfies' : (Int × Int × (Int × Int × Int × Int)) → Tr31 → Option Bool} (hfRec_pred_arrival_satisfies : ∀ a0 a1, Le (fRec_pred_arrival_satisfies a0 a1) (fRec_pred_arrival_satisfies' a0 a1)) (p0 : List Tr31) (p1f0 : Int × Int × (Int × Int × Int × Int)) : Le (Co nE fRec_pred_arrival_satisfies p0 p1f0) (AZ fRec_pred_arrival_satisfies' p0 p1f0) := by
  unfold Co AZ
  repeat' with_reducible (first | refine Le.orR' ?_ ?_ | refine Le.bind' ?_ ?_ | refine Le.ite' ?_ ?_ | refine Le.loop' ?_ | refine Le.altS' ?_ ?_ | exact hfRec_pred_arrival_satisfies | exact hfRec_pred_arrival_satisfies _ _ | apply EG | exact Le.rfl' _ | (refine Le.pi2 ?_; intro _) | intro _)
theorem D5 {fRec_pred_arrival_satisfies fRec_pred_arrival_satisfies' : (Int × Int × (Int × Int × Int × Int)) → Tr31 → Option Bool} (hfRec_pred_arrival_satisfies : ∀ a0 a1, Le (fRec_pred_arrival_satisfies a0 a1) (fRec_pred_arrival_satisfies' a0 a1)) (p0 : List Tr31) (p1f0 : Int × Int × (Int × Int × Int × Int)) : Le (AZ fRec_pred_arrival_satisfies p0 p1f0) (AZ fRec_pred_arrival_satisfies' p0 p1f0) := by
  unfold AZ
  repeat' with_reducible (first | refine Le.orR' ?_ ?_ | refine Le.bind' ?_ ?_ | refine Le.ite' ?_ ?_ | refine Le.loopM ?_ | refine Le.altS' ?_ ?_ | exact hfRec_pred_arrival_satisfies | exact hfRec_pred_arrival_satisfies _ _ | apply EI | exact Le.rfl' _ | (refine Le.pi2 ?_; intro _) | intro _)
def Dz (nE : Nat) (fRec : (Int × Int × (Int × Int × Int × Int)) → Tr31 → Option Bool) (p0 : Int × Int × (Int × Int × Int × Int)) (p1 : Tr31) : Option Bool := (if p1.un.1 = 1 then some true else (if p1.un.1 = 3 then (if (CE p1.un.2.1) = true then (IF nE p1.un.2.1 p0.1 p0.2.1 p0.2.2).bind fun x2 => some (decide (x2 = p1.un.2.2.1)) else some false).bind fun x1 => some x1 else (if p1.un.1 = 4 then (if 0 < (p1.un.2.2.2.length : Int) then (ix p1.un.2.2.2 0).bind fun x4 => ((DZ nE fRec) p0 x4).bind fun x5 => some x5 else some false).bind fun x3 => some x3 else (if p1.un.1 = 5 then ((Cv nE fRec) p1.un.2.2.2 p0).bind fun x6 => some (!x6) else (if p1.un.1 = 6 then ((Co nE fRec) p1.un.2.2.2 p0).bind fun x7 => some x7 else some false)))))
theorem F4 (nE : Nat) {fRec fRec' : (Int × Int × (Int × Int × Int × Int)) → Tr31 → Option Bool} (hfRec : ∀ a0 a1, Le (fRec a0 a1) (fRec' a0 a1)) (p0 : Int × Int × (Int × Int × Int × Int)) (p1 : Tr31) : Le (Dz nE fRec p0 p1) (Bu fRec' p0 p1) := by
  unfold Dz Bu
  repeat' with_reducible (first | refine Le.orR' ?_ ?_ | refine Le.bind' ?_ ?_ | refine Le.ite' ?_ ?_ | refine Le.loop' ?_ | refine Le.altS' ?_ ?_ | exact hfRec | exact hfRec _ _ | apply M3 | apply FA | apply Ez | apply D9 | exact Le.rfl' _ | (refine Le.pi2 ?_; intro _) | intro _)
theorem F3 {fRec fRec' : (Int × Int × (Int × Int × Int × Int)) → Tr31 → Option Bool} (hfRec : ∀ a0 a1, Le (fRec a0 a1) (fRec' a0 a1)) (p0 : Int × Int × (Int × Int × Int × Int)) (p1 : Tr31) : Le (Bu fRec p0 p1) (Bu fRec' p0 p1) := by
  unfold Bu
  repeat' with_reducible (first | refine Le.orR' ?_ ?_ | refine Le.bind' ?_ ?_ | refine Le.ite' ?_ ?_ | refine Le.loopM ?_ | refine Le.altS' ?_ ?_ | exact hfRec | exact hfRec _ _ | apply FB | apply EB | apply D5 | exact Le.rfl' _ | (refine Le.pi2 ?_; intro _) | intro _)
def DJ (nE : Nat) : Nat → (Int × Int × (Int × Int × Int × Int)) → Tr31 → Option Bool
  | 0 => fun _ _ => none
  | n + 1 => Dz nE (DJ nE n)
theorem EO (nE : Nat) : ∀ (m : Nat) a0 a1, Le (DJ nE m a0 a1) (Bf m a0 a1)
  | 0, a0, a1 => fun _ h => nomatch h
  | m + 1, a0, a1 => F4 nE (EO nE m) a0 a1
theorem DB : ∀ (m : Nat) a0 a1, Le (Bf m a0 a1) (Bf (m + 1) a0 a1)
  | 0, a0, a1 => fun _ h => nomatch h
  | m + 1, a0, a1 => F3 (DB m) a0 a1
def Fa (nE : Nat) (p0 : Int × Int × (Int × Int × Int × Int)) (p1 : Tr31) : Option Bool := DJ nE nE p0 p1
theorem Gy (nE : Nat) (p0 : Int × Int × (Int × Int × Int × Int)) (p1 : Tr31) : Le (Fa nE p0 p1) (Dy p0 p1) := fun r e => CL (g := fun n => Bf n p0 p1) (fun n r h => DB n p0 p1 r h) (n := nE) (EO nE nE p0 p1 r e)
def GB (nE : Nat) (p0 : Tr31) (p1 : Int) (p2 : Int) (p3 : Int × Int × Int × Int) : Option Bool := (Fa nE (p1, p2, p3) p0).bind fun x1 => some x1
theorem Mx (nE : Nat) (p0 : Tr31) (p1 : Int) (p2 : Int) (p3 : Int × Int × Int × Int) : Le (GB nE p0 p1 p2 p3) (EY p0 p1 p2 p3) := by
  unfold GB EY
  repeat' with_reducible (first | refine Le.orR' ?_ ?_ | refine Le.bind' ?_ ?_ | refine Le.ite' ?_ ?_ | refine Le.loop' ?_ | refine Le.altS' ?_ ?_ | apply Gy | exact Le.rfl' _ | (refine Le.pi2 ?_; intro _) | intro _)
def GO (nE : Nat) (p0 : Int) : Option Int := (if p0 = 0 then some true else (if p0 = 1 then some true else some (decide (p0 = 3)))).bind fun x1 => (if x1 = true then some 8 else (if p0 = 2 then some 4 else some 0))
theorem Kz (nE : Nat) (p0 : Int) : Le (GO nE p0) (Fg p0) := by
  unfold GO Fg
  repeat' with_reducible (first | refine Le.orR' ?_ ?_ | refine Le.bind' ?_ ?_ | refine Le.ite' ?_ ?_ | refine Le.loop' ?_ | refine Le.altS' ?_ ?_ | exact Le.rfl' _ | (refine Le.pi2 ?_; intro _) | intro _)
def Hm (nE : Nat) (p0 : Int) : Option Int := (GO nE p0).bind fun x1 => (Rn (DP .i64 1 x1) x1).bind fun x2 => some (A1 (x2 - 1))
theorem LD (nE : Nat) (p0 : Int) : Le (Hm nE p0) (FK p0) := by
  unfold Hm FK
  repeat' with_reducible (first | refine Le.orR' ?_ ?_ | refine Le.bind' ?_ ?_ | refine Le.ite' ?_ ?_ | refine Le.loop' ?_ | refine Le.altS' ?_ ?_ | apply Kz | exact Le.rfl' _ | (refine Le.pi2 ?_; intro _) | intro _)
def Ix (nE : Nat) (p0 : Int) : Option Int := (if (decide (p0 = 4) || decide (p0 = 5)) = true then some 7 else (Hm nE p0).bind fun x1 => some x1)
theorem ND (nE : Nat) (p0 : Int) : Le (Ix nE p0) (F0 p0) := by
  unfold Ix F0
  repeat' with_reducible (first | refine Le.orR' ?_ ?_ | refine Le.bind' ?_ ?_ | refine Le.ite' ?_ ?_ | refine Le.loop' ?_ | refine Le.altS' ?_ ?_ | apply LD | exact Le.rfl' _ | (refine Le.pi2 ?_; intro _) | intro _)
def HE (nE : Nat) (p0 : Tr31) : Option Bool := (if p0.un.1 = 3 then (if (CE p0.un.2.1) = true then (if 0 ≤ p0.un.2.2.1 then (Ix nE p0.un.2.1).bind fun x2 => (if p0.un.2.2.1 ≤ x2 then some (decide ((p0.un.2.2.2.length : Int) = 0)) else some false) else some false) else some false).bind fun x1 => some x1 else (if (decide (p0.un.2.1 ≠ 0) || decide (p0.un.2.2.1 ≠ 0)) = true then some false else (if p0.un.1 = 1 then some true else some (decide (p0.un.1 = 2))).bind fun x3 => (if x3 = true then some (decide ((p0.un.2.2.2.length : Int) = 0)) else (if p0.un.1 = 4 then some (decide ((p0.un.2.2.2.length : Int) = 1)) else (if p0.un.1 = 5 then some true else some (decide (p0.un.1 = 6))).bind fun x4 => (if x4 = true then some (decide (2 ≤ (p0.un.2.2.2.length : Int)) && decide ((p0.un.2.2.2.length : Int) ≤ 8)) else some false)))))
theorem MS (nE : Nat) (p0 : Tr31) : Le (HE nE p0) (FE p0) := by
  unfold HE FE
  repeat' with_reducible (first | refine Le.orR' ?_ ?_ | refine Le.bind' ?_ ?_ | refine Le.ite' ?_ ?_ | refine Le.loop' ?_ | refine Le.altS' ?_ ?_ | apply ND | exact Le.rfl' _ | (refine Le.pi2 ?_; intro _) | intro _)
def D7 (nE : Nat) (fRec : Int → Tr31 → Int → Option (Bool × Int)) (p1 : Tr31) (p2 : Int) : (Int × Int) → Option ((Int × Int) ⊕ (Int ⊕ (Bool × Int)))
  | (x4, x5) => (if x4 < (p1.un.2.2.2.length : Int) then (ix p1.un.2.2.2 x4).bind fun x6 => (fRec x5 x6 (A1 (p2 - 1))).bind fun x7 => (if (!x7.1) = true then some (.inr (.inr (false, x7.2))) else some (.inl (A1 (x4 + 1), x7.2))) else some (.inr (.inl x5)))
theorem GN (nE : Nat) {fRec fRec' : Int → Tr31 → Int → Option (Bool × Int)} (hfRec : ∀ a0 a1 a2, Le (fRec a0 a1 a2) (fRec' a0 a1 a2)) (p1 : Tr31) (p2 : Int) : ∀ s, Le (D7 nE fRec p1 p2 s) (Bj fRec' p1 p2 s) := by
  rintro ⟨x4, x5⟩
  unfold D7 Bj
  repeat' with_reducible (first | refine Le.orR' ?_ ?_ | refine Le.bind' ?_ ?_ | refine Le.ite' ?_ ?_ | refine Le.loop' ?_ | refine Le.altS' ?_ ?_ | exact hfRec | exact hfRec _ _ _ | exact Le.rfl' _ | (refine Le.pi2 ?_; intro _) | intro _)
theorem GM {fRec fRec' : Int → Tr31 → Int → Option (Bool × Int)} (hfRec : ∀ a0 a1 a2, Le (fRec a0 a1 a2) (fRec' a0 a1 a2)) (p1 : Tr31) (p2 : Int) : ∀ s, Le (Bj fRec p1 p2 s) (Bj fRec' p1 p2 s) := by
  rintro ⟨x4, x5⟩
  show Le (Bj fRec p1 p2 (x4, x5)) (Bj fRec' p1 p2 (x4, x5))
  unfold Bj
  repeat' with_reducible (first | refine Le.orR' ?_ ?_ | refine Le.bind' ?_ ?_ | refine Le.ite' ?_ ?_ | refine Le.loopM ?_ | refine Le.altS' ?_ ?_ | exact hfRec | exact hfRec _ _ _ | exact Le.rfl' _ | (refine Le.pi2 ?_; intro _) | intro _)
def D8 (nE : Nat) (fRec : Int → Tr31 → Int → Option (Bool × Int)) (p0 : Int) (p1 : Tr31) (p2 : Int) : Option (Bool × Int) := (if (A1 (p0 - 1)) < 0 then some true else (if p2 < 1 then some true else (HE nE p1).bind fun x2 => some (!x2))).bind fun x1 => (if x1 = true then some (false, A1 (p0 - 1)) else IX (Lp nE (D7 nE fRec p1 p2) (0, A1 (p0 - 1))) fun x3 => some (true, x3))
theorem GL (nE : Nat) {fRec fRec' : Int → Tr31 → Int → Option (Bool × Int)} (hfRec : ∀ a0 a1 a2, Le (fRec a0 a1 a2) (fRec' a0 a1 a2)) (p0 : Int) (p1 : Tr31) (p2 : Int) : Le (D8 nE fRec p0 p1 p2) (BP fRec' p0 p1 p2) := by
  unfold D8 BP
  repeat' with_reducible (first | refine Le.orR' ?_ ?_ | refine Le.bind' ?_ ?_ | refine Le.ite' ?_ ?_ | refine Le.loop' ?_ | refine Le.altS' ?_ ?_ | exact hfRec | exact hfRec _ _ _ | apply MS | apply GN | exact Le.rfl' _ | (refine Le.pi2 ?_; intro _) | intro _)
theorem GT {fRec fRec' : Int → Tr31 → Int → Option (Bool × Int)} (hfRec : ∀ a0 a1 a2, Le (fRec a0 a1 a2) (fRec' a0 a1 a2)) (p0 : Int) (p1 : Tr31) (p2 : Int) : Le (BP fRec p0 p1 p2) (BP fRec' p0 p1 p2) := by
  unfold BP
  repeat' with_reducible (first | refine Le.orR' ?_ ?_ | refine Le.bind' ?_ ?_ | refine Le.ite' ?_ ?_ | refine Le.loopM ?_ | refine Le.altS' ?_ ?_ | exact hfRec | exact hfRec _ _ _ | apply GM | exact Le.rfl' _ | (refine Le.pi2 ?_; intro _) | intro _)
def Eu (nE : Nat) : Nat → Int → Tr31 → Int → Option (Bool × Int)
  | 0 => fun _ _ _ => none
  | n + 1 => D8 nE (Eu nE n)
theorem Fh (nE : Nat) : ∀ (m : Nat) a0 a1 a2, Le (Eu nE m a0 a1 a2) (Bb m a0 a1 a2)
  | 0, a0, a1, a2 => fun _ h => nomatch h
  | m + 1, a0, a1, a2 => GL nE (Fh nE m) a0 a1 a2
theorem Dt : ∀ (m : Nat) a0 a1 a2, Le (Bb m a0 a1 a2) (Bb (m + 1) a0 a1 a2)
  | 0, a0, a1, a2 => fun _ h => nomatch h
  | m + 1, a0, a1, a2 => GT (Dt m) a0 a1 a2
def FT (nE : Nat) (p0 : Int) (p1 : Tr31) (p2 : Int) : Option (Bool × Int) := Eu nE nE p0 p1 p2
theorem Hv (nE : Nat) (p0 : Int) (p1 : Tr31) (p2 : Int) : Le (FT nE p0 p1 p2) (DI p0 p1 p2) := fun r e => CL (g := fun n => Bb n p0 p1 p2) (fun n r h => Dt n p0 p1 p2 r h) (n := nE) (Fh nE nE p0 p1 p2 r e)
def Hk (nE : Nat) (p0 : Tr31) : Option Bool := (FT nE 64 p0 8).bind fun x1 => some x1.1
theorem Ly (nE : Nat) (p0 : Tr31) : Le (Hk nE p0) (EV p0) := by
  unfold Hk EV
  repeat' with_reducible (first | refine Le.orR' ?_ ?_ | refine Le.bind' ?_ ?_ | refine Le.ite' ?_ ?_ | refine Le.loop' ?_ | refine Le.altS' ?_ ?_ | apply Hv | exact Le.rfl' _ | (refine Le.pi2 ?_; intro _) | intro _)
def Jz (nE : Nat)  : Option Bool := ((JI nE (Tr31.of (4, 0, 0, ([Tr31.of (6, 0, 0, ([Tr31.of (3, 1, 1, ([] : List Tr31)), Tr31.of (3, 1, 2, ([] : List Tr31))] : List Tr31))] : List Tr31)))).bind fun x2 => (HU nE x2).bind fun x3 => (if x3 = ([110, 111, 116, 32, 100, 115, 116, 32, 61, 32, 49, 32, 97, 110, 100, 32, 110, 111, 116, 32, 100, 115, 116, 32, 61, 32, 50] : List UInt8) then (HU nE (Tr31.of (4, 0, 0, ([Tr31.of (6, 0, 0, ([Tr31.of (3, 1, 1, ([] : List Tr31)), Tr31.of (3, 1, 2, ([] : List Tr31))] : List Tr31))] : List Tr31)))).bind fun x4 => (if x4 = ([110, 111, 116, 32, 40, 100, 115, 116, 32, 61, 32, 49, 32, 111, 114, 32, 100, 115, 116, 32, 61, 32, 50, 41] : List UInt8) then (GB nE (Tr31.of (4, 0, 0, ([Tr31.of (6, 0, 0, ([Tr31.of (3, 1, 1, ([] : List Tr31)), Tr31.of (3, 1, 2, ([] : List Tr31))] : List Tr31))] : List Tr31))) 0 0 (0, 3, 0, 0)).bind fun x5 => (if x5 = true then (GB nE (Tr31.of (4, 0, 0, ([Tr31.of (6, 0, 0, ([Tr31.of (3, 1, 1, ([] : List Tr31)), Tr31.of (3, 1, 2, ([] : List Tr31))] : List Tr31))] : List Tr31))) 0 0 (0, 2, 0, 0)).bind fun x6 => (if (!x6) = true then (Hk nE (Tr31.of (4, 0, 0, ([Tr31.of (6, 0, 0, ([Tr31.of (3, 1, 1, ([] : List Tr31)), Tr31.of (3, 1, 2, ([] : List Tr31))] : List Tr31))] : List Tr31)))).bind fun x7 => some x7 else some false) else some false) else some false) else some false)).bind fun x1 => some x1
theorem MD (nE : Nat)  : Le (Jz nE ) (Fj ) := by
  unfold Jz Fj
  repeat' with_reducible (first | refine Le.orR' ?_ ?_ | refine Le.bind' ?_ ?_ | refine Le.ite' ?_ ?_ | refine Le.loop' ?_ | refine Le.altS' ?_ ?_ | apply Mh | apply MX | apply Mx | apply Ly | exact Le.rfl' _ | (refine Le.pi2 ?_; intro _) | intro _)
theorem KU {fRec fRec' : Tr24 → Option Bool} (hfRec : ∀ a0, Le (fRec a0) (fRec' a0)) (p0 : Tr24) : ∀ s, Le (Er fRec p0 s) (Er fRec' p0 s) := by
  intro x1
  unfold Er
  repeat' with_reducible (first | refine Le.orR' ?_ ?_ | refine Le.bind' ?_ ?_ | refine Le.ite' ?_ ?_ | refine Le.loopM ?_ | refine Le.altS' ?_ ?_ | exact hfRec | exact hfRec _ | exact Le.rfl' _ | (refine Le.pi2 ?_; intro _) | intro _)
theorem KJ {fRec fRec' : Tr24 → Option Bool} (hfRec : ∀ a0, Le (fRec a0) (fRec' a0)) (p0 : Tr24) : Le (Ek fRec p0) (Ek fRec' p0) := by
  unfold Ek
  repeat' with_reducible (first | refine Le.orR' ?_ ?_ | refine Le.bind' ?_ ?_ | refine Le.ite' ?_ ?_ | refine Le.loopM ?_ | refine Le.altS' ?_ ?_ | exact hfRec | exact hfRec _ | apply KU | exact Le.rfl' _ | (refine Le.pi2 ?_; intro _) | intro _)
theorem Ip : ∀ (m : Nat) a0, Le (DF m a0) (DF (m + 1) a0)
  | 0, a0 => fun _ h => nomatch h
  | m + 1, a0 => KJ (Ip m) a0
theorem Kn {fRec fRec' : Tr24 → Option Int} (hfRec : ∀ a0, Le (fRec a0) (fRec' a0)) (p0 : Tr24) : ∀ s, Le (Dp fRec p0 s) (Dp fRec' p0 s) := by
  rintro ⟨x2, x3⟩
  show Le (Dp fRec p0 (x2, x3)) (Dp fRec' p0 (x2, x3))
  unfold Dp
  repeat' with_reducible (first | refine Le.orR' ?_ ?_ | refine Le.bind' ?_ ?_ | refine Le.ite' ?_ ?_ | refine Le.loopM ?_ | refine Le.altS' ?_ ?_ | exact hfRec | exact hfRec _ | exact Le.rfl' _ | (refine Le.pi2 ?_; intro _) | intro _)
theorem KH {fRec fRec' : Tr24 → Option Int} (hfRec : ∀ a0, Le (fRec a0) (fRec' a0)) (p0 : Tr24) : Le (El fRec p0) (El fRec' p0) := by
  unfold El
  repeat' with_reducible (first | refine Le.orR' ?_ ?_ | refine Le.bind' ?_ ?_ | refine Le.ite' ?_ ?_ | refine Le.loopM ?_ | refine Le.altS' ?_ ?_ | exact hfRec | exact hfRec _ | apply Kn | exact Le.rfl' _ | (refine Le.pi2 ?_; intro _) | intro _)
theorem Il : ∀ (m : Nat) a0, Le (DM m a0) (DM (m + 1) a0)
  | 0, a0 => fun _ h => nomatch h
  | m + 1, a0 => KH (Il m) a0
theorem J4 {fRec fRec' : Tr31 → Option Int} (hfRec : ∀ a0, Le (fRec a0) (fRec' a0)) (p0 : Tr31) : ∀ s, Le (C1 fRec p0 s) (C1 fRec' p0 s) := by
  rintro ⟨x2, x3⟩
  show Le (C1 fRec p0 (x2, x3)) (C1 fRec' p0 (x2, x3))
  unfold C1
  repeat' with_reducible (first | refine Le.orR' ?_ ?_ | refine Le.bind' ?_ ?_ | refine Le.ite' ?_ ?_ | refine Le.loopM ?_ | refine Le.altS' ?_ ?_ | exact hfRec | exact hfRec _ | exact Le.rfl' _ | (refine Le.pi2 ?_; intro _) | intro _)
theorem JQ {fRec fRec' : Tr31 → Option Int} (hfRec : ∀ a0, Le (fRec a0) (fRec' a0)) (p0 : Tr31) : Le (DY fRec p0) (DY fRec' p0) := by
  unfold DY
  repeat' with_reducible (first | refine Le.orR' ?_ ?_ | refine Le.bind' ?_ ?_ | refine Le.ite' ?_ ?_ | refine Le.loopM ?_ | refine Le.altS' ?_ ?_ | exact hfRec | exact hfRec _ | apply J4 | exact Le.rfl' _ | (refine Le.pi2 ?_; intro _) | intro _)
theorem HR : ∀ (m : Nat) a0, Le (Dn m a0) (Dn (m + 1) a0)
  | 0, a0 => fun _ h => nomatch h
  | m + 1, a0 => JQ (HR m) a0
theorem JR {fRec fRec' : Tr31 → Option Int} (hfRec : ∀ a0, Le (fRec a0) (fRec' a0)) (p0 : Tr31) : ∀ s, Le (C2 fRec p0 s) (C2 fRec' p0 s) := by
  rintro ⟨x2, x3⟩
  show Le (C2 fRec p0 (x2, x3)) (C2 fRec' p0 (x2, x3))
  unfold C2
  repeat' with_reducible (first | refine Le.orR' ?_ ?_ | refine Le.bind' ?_ ?_ | refine Le.ite' ?_ ?_ | refine Le.loopM ?_ | refine Le.altS' ?_ ?_ | exact hfRec | exact hfRec _ | exact Le.rfl' _ | (refine Le.pi2 ?_; intro _) | intro _)
theorem JU {fRec fRec' : Tr31 → Option Int} (hfRec : ∀ a0, Le (fRec a0) (fRec' a0)) (p0 : Tr31) : Le (DX fRec p0) (DX fRec' p0) := by
  unfold DX
  repeat' with_reducible (first | refine Le.orR' ?_ ?_ | refine Le.bind' ?_ ?_ | refine Le.ite' ?_ ?_ | refine Le.loopM ?_ | refine Le.altS' ?_ ?_ | exact hfRec | exact hfRec _ | apply JR | exact Le.rfl' _ | (refine Le.pi2 ?_; intro _) | intro _)
theorem HW : ∀ (m : Nat) a0, Le (Do m a0) (Do (m + 1) a0)
  | 0, a0 => fun _ h => nomatch h
  | m + 1, a0 => JU (HW m) a0
theorem C6 {fRec_pred_Same fRec_pred_Same' : Tr31 → Tr31 → Option Bool} (hfRec_pred_Same : ∀ a0 a1, Le (fRec_pred_Same a0 a1) (fRec_pred_Same' a0 a1)) (p0 : List Tr31) (p1 : List Tr31) : ∀ s, Le (AF fRec_pred_Same p0 p1 s) (AF fRec_pred_Same' p0 p1 s) := by
  intro x1
  unfold AF
  repeat' with_reducible (first | refine Le.orR' ?_ ?_ | refine Le.bind' ?_ ?_ | refine Le.ite' ?_ ?_ | refine Le.loopM ?_ | refine Le.altS' ?_ ?_ | exact hfRec_pred_Same | exact hfRec_pred_Same _ _ | exact Le.rfl' _ | (refine Le.pi2 ?_; intro _) | intro _)
theorem Dd {fRec_pred_Same fRec_pred_Same' : Tr31 → Tr31 → Option Bool} (hfRec_pred_Same : ∀ a0 a1, Le (fRec_pred_Same a0 a1) (fRec_pred_Same' a0 a1)) (p0 : List Tr31) (p1 : List Tr31) : Le (AK fRec_pred_Same p0 p1) (AK fRec_pred_Same' p0 p1) := by
  unfold AK
  repeat' with_reducible (first | refine Le.orR' ?_ ?_ | refine Le.bind' ?_ ?_ | refine Le.ite' ?_ ?_ | refine Le.loopM ?_ | refine Le.altS' ?_ ?_ | exact hfRec_pred_Same | exact hfRec_pred_Same _ _ | apply C6 | exact Le.rfl' _ | (refine Le.pi2 ?_; intro _) | intro _)
theorem JX {fRec fRec' : Tr31 → Tr31 → Option Bool} (hfRec : ∀ a0 a1, Le (fRec a0 a1) (fRec' a0 a1)) (p0 : Tr31) (p1 : Tr31) : Le (DU fRec p0 p1) (DU fRec' p0 p1) := by
  unfold DU
  repeat' with_reducible (first | refine Le.orR' ?_ ?_ | refine Le.bind' ?_ ?_ | refine Le.ite' ?_ ?_ | refine Le.loopM ?_ | refine Le.altS' ?_ ?_ | exact hfRec | exact hfRec _ _ | apply Dd | exact Le.rfl' _ | (refine Le.pi2 ?_; intro _) | intro _)
theorem HO : ∀ (m : Nat) a0 a1, Le (DE m a0 a1) (DE (m + 1) a0 a1)
  | 0, a0, a1 => fun _ h => nomatch h
  | m + 1, a0, a1 => JX (HO m) a0 a1
theorem KS {fRec fRec' : Tr24 → Tr24 → Option Bool} (hfRec : ∀ a0 a1, Le (fRec a0 a1) (fRec' a0 a1)) (p0 : Tr24) (p1 : Tr24) : ∀ s, Le (Eg fRec p0 p1 s) (Eg fRec' p0 p1 s) := by
  intro x1
  unfold Eg
  repeat' with_reducible (first | refine Le.orR' ?_ ?_ | refine Le.bind' ?_ ?_ | refine Le.ite' ?_ ?_ | refine Le.loopM ?_ | refine Le.altS' ?_ ?_ | exact hfRec | exact hfRec _ _ | exact Le.rfl' _ | (refine Le.pi2 ?_; intro _) | intro _)
theorem Ko {fRec fRec' : Tr24 → Tr24 → Option Bool} (hfRec : ∀ a0 a1, Le (fRec a0 a1) (fRec' a0 a1)) (p0 : Tr24) (p1 : Tr24) : Le (Eo fRec p0 p1) (Eo fRec' p0 p1) := by
  unfold Eo
  repeat' with_reducible (first | refine Le.orR' ?_ ?_ | refine Le.bind' ?_ ?_ | refine Le.ite' ?_ ?_ | refine Le.loopM ?_ | refine Le.altS' ?_ ?_ | exact hfRec | exact hfRec _ _ | apply KS | exact Le.rfl' _ | (refine Le.pi2 ?_; intro _) | intro _)
theorem Im : ∀ (m : Nat) a0 a1, Le (D1 m a0 a1) (D1 (m + 1) a0 a1)
  | 0, a0, a1 => fun _ h => nomatch h
  | m + 1, a0, a1 => Ko (Im m) a0 a1
theorem Ll {fRec fRec' : Tr24 → Int → Int → (Int × Int × Int × Int) → Option Bool} (hfRec : ∀ a0 a1 a2 a3, Le (fRec a0 a1 a2 a3) (fRec' a0 a1 a2 a3)) (p0 : Tr24) (p1 : Int) (p2 : Int) (p3 : Int × Int × Int × Int) : ∀ s, Le (Dq fRec p0 p1 p2 p3 s) (Dq fRec' p0 p1 p2 p3 s) := by
  rintro ⟨x7, x8⟩
  show Le (Dq fRec p0 p1 p2 p3 (x7, x8)) (Dq fRec' p0 p1 p2 p3 (x7, x8))
  unfold Dq
  repeat' with_reducible (first | refine Le.orR' ?_ ?_ | refine Le.bind' ?_ ?_ | refine Le.ite' ?_ ?_ | refine Le.loopM ?_ | refine Le.altS' ?_ ?_ | exact hfRec | exact hfRec _ _ _ _ | exact Le.rfl' _ | (refine Le.pi2 ?_; intro _) | intro _)
theorem Kv {fRec fRec' : Tr24 → Int → Int → (Int × Int × Int × Int) → Option Bool} (hfRec : ∀ a0 a1 a2 a3, Le (fRec a0 a1 a2 a3) (fRec' a0 a1 a2 a3)) (p0 : Tr24) (p1 : Int) (p2 : Int) (p3 : Int × Int × Int × Int) : Le (Ej fRec p0 p1 p2 p3) (Ej fRec' p0 p1 p2 p3) := by
  unfold Ej
  repeat' with_reducible (first | refine Le.orR' ?_ ?_ | refine Le.bind' ?_ ?_ | refine Le.ite' ?_ ?_ | refine Le.loopM ?_ | refine Le.altS' ?_ ?_ | exact hfRec | exact hfRec _ _ _ _ | apply Ll | exact Le.rfl' _ | (refine Le.pi2 ?_; intro _) | intro _)
theorem Iv : ∀ (m : Nat) a0 a1 a2 a3, Le (Dv m a0 a1 a2 a3) (Dv (m + 1) a0 a1 a2 a3)
  | 0, a0, a1, a2, a3 => fun _ h => nomatch h
  | m + 1, a0, a1, a2, a3 => Kv (Iv m) a0 a1 a2 a3
theorem Ji {fRec fRec' : Tr31 → Option Tr24} (hfRec : ∀ a0, Le (fRec a0) (fRec' a0)) (p0 : Tr31) : ∀ s, Le (CQ fRec p0 s) (CQ fRec' p0 s) := by
  rintro ⟨x2, x3⟩
  show Le (CQ fRec p0 (x2, x3)) (CQ fRec' p0 (x2, x3))
  unfold CQ
  repeat' with_reducible (first | refine Le.orR' ?_ ?_ | refine Le.bind' ?_ ?_ | refine Le.ite' ?_ ?_ | refine Le.loopM ?_ | refine Le.altS' ?_ ?_ | exact hfRec | exact hfRec _ | exact Le.rfl' _ | (refine Le.pi2 ?_; intro _) | intro _)
theorem Jq {fRec fRec' : Tr31 → Option Tr24} (hfRec : ∀ a0, Le (fRec a0) (fRec' a0)) (p0 : Tr31) : Le (DD fRec p0) (DD fRec' p0) := by
  unfold DD
  repeat' with_reducible (first | refine Le.orR' ?_ ?_ | refine Le.bind' ?_ ?_ | refine Le.ite' ?_ ?_ | refine Le.loopM ?_ | refine Le.altS' ?_ ?_ | exact hfRec | exact hfRec _ | apply Ji | exact Le.rfl' _ | (refine Le.pi2 ?_; intro _) | intro _)
theorem Hr : ∀ (m : Nat) a0, Le (C3 m a0) (C3 (m + 1) a0)
  | 0, a0 => fun _ h => nomatch h
  | m + 1, a0 => Jq (Hr m) a0
theorem Ks {fRec fRec' : Tr24 → Option Tr24} (hfRec : ∀ a0, Le (fRec a0) (fRec' a0)) (x1 : Tr24) : ∀ s, Le (Dl fRec x1 s) (Dl fRec' x1 s) := by
  rintro ⟨x6, x7⟩
  show Le (Dl fRec x1 (x6, x7)) (Dl fRec' x1 (x6, x7))
  unfold Dl
  repeat' with_reducible (first | refine Le.orR' ?_ ?_ | refine Le.bind' ?_ ?_ | refine Le.ite' ?_ ?_ | refine Le.loopM ?_ | refine Le.altS' ?_ ?_ | exact hfRec | exact hfRec _ | exact Le.rfl' _ | (refine Le.pi2 ?_; intro _) | intro _)
theorem Lg {fRec fRec' : Tr24 → Option Tr24} (hfRec : ∀ a0, Le (fRec a0) (fRec' a0)) (p0 : Tr24) : ∀ s, Le (C8 fRec p0 s) (C8 fRec' p0 s) := by
  rintro ⟨x12, x13⟩
  show Le (C8 fRec p0 (x12, x13)) (C8 fRec' p0 (x12, x13))
  unfold C8
  repeat' with_reducible (first | refine Le.orR' ?_ ?_ | refine Le.bind' ?_ ?_ | refine Le.ite' ?_ ?_ | refine Le.loopM ?_ | refine Le.altS' ?_ ?_ | exact hfRec | exact hfRec _ | exact Le.rfl' _ | (refine Le.pi2 ?_; intro _) | intro _)
theorem Ki {fRec fRec' : Tr24 → Option Tr24} (hfRec : ∀ a0, Le (fRec a0) (fRec' a0)) (p0 : Tr24) : Le (En fRec p0) (En fRec' p0) := by
  unfold En
  repeat' with_reducible (first | refine Le.orR' ?_ ?_ | refine Le.bind' ?_ ?_ | refine Le.ite' ?_ ?_ | refine Le.loopM ?_ | refine Le.altS' ?_ ?_ | exact hfRec | exact hfRec _ | apply Ks | apply Lg | exact Le.rfl' _ | (refine Le.pi2 ?_; intro _) | intro _)
theorem Io : ∀ (m : Nat) a0, Le (CV m a0) (CV (m + 1) a0)
  | 0, a0 => fun _ h => nomatch h
  | m + 1, a0 => Ki (Io m) a0
theorem KV {fRec fRec' : Tr24 → Int → Int → Option Bool} (hfRec : ∀ a0 a1 a2, Le (fRec a0 a1 a2) (fRec' a0 a1 a2)) (p0 : Tr24) (p1 : Int) (p2 : Int) : ∀ s, Le (Ef fRec p0 p1 p2 s) (Ef fRec' p0 p1 p2 s) := by
  intro x1
  unfold Ef
  repeat' with_reducible (first | refine Le.orR' ?_ ?_ | refine Le.bind' ?_ ?_ | refine Le.ite' ?_ ?_ | refine Le.loopM ?_ | refine Le.altS' ?_ ?_ | exact hfRec | exact hfRec _ _ _ | exact Le.rfl' _ | (refine Le.pi2 ?_; intro _) | intro _)
theorem Lt {fRec fRec' : Tr24 → Int → Int → Option Bool} (hfRec : ∀ a0 a1 a2, Le (fRec a0 a1 a2) (fRec' a0 a1 a2)) (p0 : Tr24) (p1 : Int) (p2 : Int) : Le (Eh fRec p0 p1 p2) (Eh fRec' p0 p1 p2) := by
  unfold Eh
  repeat' with_reducible (first | refine Le.orR' ?_ ?_ | refine Le.bind' ?_ ?_ | refine Le.ite' ?_ ?_ | refine Le.loopM ?_ | refine Le.altS' ?_ ?_ | exact hfRec | exact hfRec _ _ _ | apply KV | exact Le.rfl' _ | (refine Le.pi2 ?_; intro _) | intro _)
theorem Ik : ∀ (m : Nat) a0 a1 a2, Le (D0 m a0 a1 a2) (D0 (m + 1) a0 a1 a2)
  | 0, a0, a1, a2 => fun _ h => nomatch h
  | m + 1, a0, a1, a2 => Lt (Ik m) a0 a1 a2
theorem La {fRec fRec' : Tr24 → Option (List UInt8)} (hfRec : ∀ a0, Le (fRec a0) (fRec' a0)) (p0 : Tr24) (x5 : List UInt8) : ∀ s, Le (Db fRec p0 x5 s) (Db fRec' p0 x5 s) := by
  rintro ⟨x7, x8⟩
  show Le (Db fRec p0 x5 (x7, x8)) (Db fRec' p0 x5 (x7, x8))
  unfold Db
  repeat' with_reducible (first | refine Le.orR' ?_ ?_ | refine Le.bind' ?_ ?_ | refine Le.ite' ?_ ?_ | refine Le.loopM ?_ | refine Le.altS' ?_ ?_ | exact hfRec | exact hfRec _ | exact Le.rfl' _ | (refine Le.pi2 ?_; intro _) | intro _)
theorem Kr {fRec fRec' : Tr24 → Option (List UInt8)} (hfRec : ∀ a0, Le (fRec a0) (fRec' a0)) (p0 : Tr24) : Le (Ep fRec p0) (Ep fRec' p0) := by
  unfold Ep
  repeat' with_reducible (first | refine Le.orR' ?_ ?_ | refine Le.bind' ?_ ?_ | refine Le.ite' ?_ ?_ | refine Le.loopM ?_ | refine Le.altS' ?_ ?_ | exact hfRec | exact hfRec _ | apply La | exact Le.rfl' _ | (refine Le.pi2 ?_; intro _) | intro _)
theorem Iq : ∀ (m : Nat) a0, Le (Df m a0) (Df (m + 1) a0)
  | 0, a0 => fun _ h => nomatch h
  | m + 1, a0 => Kr (Iq m) a0
theorem Kd : Fj = some true := MD 60 _ (by kernel_rfl)
end Go.Proofs.YtepfcpffbabgmaaDoor
