/- Twins with fuel of EY functions: what a twin answers, the function answers. Conditions: none. -/
import Derived.Test.YtepfcpffbabgmaaDoorbLP
import Derived.Test.YtepfcpffbabgmaaDoorbA8
namespace Go.Proofs.YtepfcpffbabgmaaDoor
open Go Go.RowKit
set_option linter.unusedVariables false
set_option linter.unusedSimpArgs false
set_option maxRecDepth 20000
set_option maxHeartbeats 1600000
abbrev Le {α : Type} (a b : Option α) : Prop := ∀ r, a = some r → b = some r
theorem Le.rfl' {α : Type} (a : Option α) : Le a a := fun _ h => h
theorem Le.bind' {α β : Type} {a b : Option α} {f g : α → Option β} (h : Le a b) (hf : ∀ x, Le (f x) (g x)) : Le (a.bind f) (b.bind g) := fun r e => by
  obtain ⟨x, h1, h2⟩ := Aj e
  rw [h x h1, Option.bind_some]; exact hf x r h2
theorem Le.ite' {α : Type} {c : Prop} [Decidable c] {a a' b b' : Option α} (h1 : Le a a') (h2 : Le b b') : Le (if c then a else b) (if c then a' else b') := fun r e => by
  by_cases h : c
  · rw [if_pos h] at e ⊢; exact h1 r e
  · rw [if_neg h] at e ⊢; exact h2 r e
theorem Le.orR' {α β : Type} {a b : Option (α ⊕ β)} {f g : α → Option β} (h : Le a b) (hf : ∀ x, Le (f x) (g x)) : Le (Im a f) (Im b g) :=
  Le.bind' h fun x => by
    cases x with
    | inl t => exact hf t
    | inr e => exact Le.rfl' _
def IF {σ ε : Type} (n : Nat) (step : σ → Option (σ ⊕ ε)) (s : σ) : Option ε := Ey step n s
theorem GO {σ ε : Type} {S T : σ → Option (σ ⊕ ε)} (h : ∀ s, Le (S s) (T s)) : ∀ (n : Nat) (s : σ), Le (Ey S n s) (Ey T n s)
  | 0, s => Le.rfl' _
  | n + 1, s => fun r e => by
    unfold Ey at e ⊢
    cases hs : S s with
    | none => rw [hs] at e; cases e
    | some q =>
      rw [hs] at e; rw [h s q hs]
      cases q with
      | inl s' => exact GO h n s' r e
      | inr _ => exact e
theorem Le.loop' {σ ε : Type} {n : Nat} {S T : σ → Option (σ ⊕ ε)} {s : σ} (h : ∀ s, Le (S s) (T s)) : Le (IF n S s) (AZ T s) := fun r e => DR.2 ⟨n, GO h n s r e⟩
theorem Le.pi2 {α β γ : Type} {f g : α × β → Option γ} (h : ∀ a b, Le (f (a, b)) (g (a, b))) : ∀ x, Le (f x) (g x) := fun x => h x.1 x.2
theorem Le.altS' {α β γ : Type} {y : α ⊕ β} {f f' : α → Option γ} {g g' : β → Option γ} (h : ∀ x, Le (f x) (f' x)) (k : ∀ x, Le (g x) (g' x)) : Le (NH y f g) (NH y f' g') := by
  cases y with
  | inl x => exact h x
  | inr x => exact k x
theorem Ev {β : Type} {g : Nat → Option β} (hm : ∀ n r, g n = some r → g (n + 1) = some r) {n : Nat} {r : β} (h : g n = some r) : GN g = some r := by
  have up : ∀ (d m : Nat) (q : β), g m = some q → g (m + d) = some q := fun d => by
    induction d with
    | zero => exact fun m q h => h
    | succ d ih => exact fun m q h => hm _ _ (ih m q h)
  refine KS n h fun m q hq => ?_
  have h1 := up m n r h
  have h2 := up n m q hq
  rw [Nat.add_comm] at h2
  exact Option.some.inj (h2.symm.trans h1)
theorem Le.loopM {σ ε : Type} {S T : σ → Option (σ ⊕ ε)} {s : σ} (h : ∀ s, Le (S s) (T s)) : Le (AZ S s) (AZ T s) := fun r e => by
  obtain ⟨n, hn⟩ := DR.1 e
  exact DR.2 ⟨n, GO h n s r hn⟩
theorem ID {fRec fRec' : Tr24 → Option Tr31} (hfRec : ∀ a0, Le (fRec a0) (fRec' a0)) (p0 : Tr24) : ∀ s, Le (CG fRec p0 s) (CG fRec' p0 s) := by
  rintro ⟨x2, x3⟩
  show Le (CG fRec p0 (x2, x3)) (CG fRec' p0 (x2, x3))
  unfold CG
  repeat' with_reducible (first | refine Le.orR' ?_ ?_ | refine Le.bind' ?_ ?_ | refine Le.ite' ?_ ?_ | refine Le.loopM ?_ | refine Le.altS' ?_ ?_ | exact hfRec | exact hfRec _ | exact Le.rfl' _ | (refine Le.pi2 ?_; intro _) | intro _)
theorem Iy {fRec fRec' : Tr24 → Option Tr31} (hfRec : ∀ a0, Le (fRec a0) (fRec' a0)) (p0 : Tr24) : Le (Dj fRec p0) (Dj fRec' p0) := by
  unfold Dj
  repeat' with_reducible (first | refine Le.orR' ?_ ?_ | refine Le.bind' ?_ ?_ | refine Le.ite' ?_ ?_ | refine Le.loopM ?_ | refine Le.altS' ?_ ?_ | exact hfRec | exact hfRec _ | apply ID | exact Le.rfl' _ | (refine Le.pi2 ?_; intro _) | intro _)
theorem GK : ∀ (m : Nat) a0, Le (CT m a0) (CT (m + 1) a0)
  | 0, a0 => fun _ h => nomatch h
  | m + 1, a0 => Iy (GK m) a0
theorem Ik {fRec fRec' : Tr24 → Option Int} (hfRec : ∀ a0, Le (fRec a0) (fRec' a0)) (p0 : Tr24) : ∀ s, Le (CF fRec p0 s) (CF fRec' p0 s) := by
  rintro ⟨x2, x3⟩
  show Le (CF fRec p0 (x2, x3)) (CF fRec' p0 (x2, x3))
  unfold CF
  repeat' with_reducible (first | refine Le.orR' ?_ ?_ | refine Le.bind' ?_ ?_ | refine Le.ite' ?_ ?_ | refine Le.loopM ?_ | refine Le.altS' ?_ ?_ | exact hfRec | exact hfRec _ | exact Le.rfl' _ | (refine Le.pi2 ?_; intro _) | intro _)
theorem Ie {fRec fRec' : Tr24 → Option Int} (hfRec : ∀ a0, Le (fRec a0) (fRec' a0)) (p0 : Tr24) : Le (Dn fRec p0) (Dn fRec' p0) := by
  unfold Dn
  repeat' with_reducible (first | refine Le.orR' ?_ ?_ | refine Le.bind' ?_ ?_ | refine Le.ite' ?_ ?_ | refine Le.loopM ?_ | refine Le.altS' ?_ ?_ | exact hfRec | exact hfRec _ | apply Ik | exact Le.rfl' _ | (refine Le.pi2 ?_; intro _) | intro _)
theorem GJ : ∀ (m : Nat) a0, Le (CX m a0) (CX (m + 1) a0)
  | 0, a0 => fun _ h => nomatch h
  | m + 1, a0 => Ie (GJ m) a0
theorem GA {fRec fRec' : Tr31 → Int → Option (List Int)} (hfRec : ∀ a0 a1, Le (fRec a0 a1) (fRec' a0 a1)) (p0 : Tr31) (p1 : Int) : ∀ s, Le (BX fRec p0 p1 s) (BX fRec' p0 p1 s) := by
  rintro ⟨x4, x5⟩
  show Le (BX fRec p0 p1 (x4, x5)) (BX fRec' p0 p1 (x4, x5))
  unfold BX
  repeat' with_reducible (first | refine Le.orR' ?_ ?_ | refine Le.bind' ?_ ?_ | refine Le.ite' ?_ ?_ | refine Le.loopM ?_ | refine Le.altS' ?_ ?_ | exact hfRec | exact hfRec _ _ | exact Le.rfl' _ | (refine Le.pi2 ?_; intro _) | intro _)
theorem GB {fRec fRec' : Tr31 → Int → Option (List Int)} (hfRec : ∀ a0 a1, Le (fRec a0 a1) (fRec' a0 a1)) (p0 : Tr31) (p1 : Int) : Le (Cs fRec p0 p1) (Cs fRec' p0 p1) := by
  unfold Cs
  repeat' with_reducible (first | refine Le.orR' ?_ ?_ | refine Le.bind' ?_ ?_ | refine Le.ite' ?_ ?_ | refine Le.loopM ?_ | refine Le.altS' ?_ ?_ | exact hfRec | exact hfRec _ _ | apply GA | exact Le.rfl' _ | (refine Le.pi2 ?_; intro _) | intro _)
theorem E0 : ∀ (m : Nat) a0 a1, Le (Cf m a0 a1) (Cf (m + 1) a0 a1)
  | 0, a0, a1 => fun _ h => nomatch h
  | m + 1, a0, a1 => GB (E0 m) a0 a1
def E5 (nE : Nat) (fRec_pred_negated : Tr31 → Option Tr31) (p0 : List Tr31) : (List Tr31 × Int) → Option ((List Tr31 × Int) ⊕ (List Tr31))
  | (x2, x3) => (if x3 < (p0.length : Int) then (ix p0 x3).bind fun x4 => (fRec_pred_negated x4).bind fun x5 => (HC x2 ([x5] : List Tr31)).bind fun x6 => some (.inl (x6, AJ (x3 + 1))) else some (.inr x2))
theorem H2 (nE : Nat) {fRec_pred_negated fRec_pred_negated' : Tr31 → Option Tr31} (hfRec_pred_negated : ∀ a0, Le (fRec_pred_negated a0) (fRec_pred_negated' a0)) (p0 : List Tr31) : ∀ s, Le (E5 nE fRec_pred_negated p0 s) (CP fRec_pred_negated' p0 s) := by
  rintro ⟨x2, x3⟩
  unfold E5 CP
  repeat' with_reducible (first | refine Le.orR' ?_ ?_ | refine Le.bind' ?_ ?_ | refine Le.ite' ?_ ?_ | refine Le.loop' ?_ | refine Le.altS' ?_ ?_ | exact hfRec_pred_negated | exact hfRec_pred_negated _ | exact Le.rfl' _ | (refine Le.pi2 ?_; intro _) | intro _)
theorem H1 {fRec_pred_negated fRec_pred_negated' : Tr31 → Option Tr31} (hfRec_pred_negated : ∀ a0, Le (fRec_pred_negated a0) (fRec_pred_negated' a0)) (p0 : List Tr31) : ∀ s, Le (CP fRec_pred_negated p0 s) (CP fRec_pred_negated' p0 s) := by
  rintro ⟨x2, x3⟩
  show Le (CP fRec_pred_negated p0 (x2, x3)) (CP fRec_pred_negated' p0 (x2, x3))
  unfold CP
  repeat' with_reducible (first | refine Le.orR' ?_ ?_ | refine Le.bind' ?_ ?_ | refine Le.ite' ?_ ?_ | refine Le.loopM ?_ | refine Le.altS' ?_ ?_ | exact hfRec_pred_negated | exact hfRec_pred_negated _ | exact Le.rfl' _ | (refine Le.pi2 ?_; intro _) | intro _)
def Ff (nE : Nat) (fRec_pred_negated : Tr31 → Option Tr31) (p0 : List Tr31) : Option (List Tr31) := (IF nE (E5 nE fRec_pred_negated p0) ([], 0)).bind fun x1 => some x1
theorem Jx (nE : Nat) {fRec_pred_negated fRec_pred_negated' : Tr31 → Option Tr31} (hfRec_pred_negated : ∀ a0, Le (fRec_pred_negated a0) (fRec_pred_negated' a0)) (p0 : List Tr31) : Le (Ff nE fRec_pred_negated p0) (DQ fRec_pred_negated' p0) := by
  unfold Ff DQ
  repeat' with_reducible (first | refine Le.orR' ?_ ?_ | refine Le.bind' ?_ ?_ | refine Le.ite' ?_ ?_ | refine Le.loop' ?_ | refine Le.altS' ?_ ?_ | exact hfRec_pred_negated | exact hfRec_pred_negated _ | apply H2 | exact Le.rfl' _ | (refine Le.pi2 ?_; intro _) | intro _)
theorem Jr {fRec_pred_negated fRec_pred_negated' : Tr31 → Option Tr31} (hfRec_pred_negated : ∀ a0, Le (fRec_pred_negated a0) (fRec_pred_negated' a0)) (p0 : List Tr31) : Le (DQ fRec_pred_negated p0) (DQ fRec_pred_negated' p0) := by
  unfold DQ
  repeat' with_reducible (first | refine Le.orR' ?_ ?_ | refine Le.bind' ?_ ?_ | refine Le.ite' ?_ ?_ | refine Le.loopM ?_ | refine Le.altS' ?_ ?_ | exact hfRec_pred_negated | exact hfRec_pred_negated _ | apply H1 | exact Le.rfl' _ | (refine Le.pi2 ?_; intro _) | intro _)
def Ec (nE : Nat) (fRec_pred_Push : Tr31 → Option Tr31) (fRec : Tr31 → Option Tr31) (p0 : Tr31) : Option Tr31 := (if p0.un.1 = 1 then some (Tr31.of (2, 0, 0, ([] : List Tr31))) else (if p0.un.1 = 2 then some (Tr31.of (1, 0, 0, ([] : List Tr31))) else (if (decide (p0.un.1 = 4) && decide (0 < (p0.un.2.2.2.length : Int))) = true then (ix p0.un.2.2.2 0).bind fun x1 => (fRec_pred_Push x1).bind fun x2 => some x2 else (if p0.un.1 = 5 then ((Ff nE fRec) p0.un.2.2.2).bind fun x3 => some (Tr31.of (6, 0, 0, x3)) else (if p0.un.1 = 6 then ((Ff nE fRec) p0.un.2.2.2).bind fun x4 => some (Tr31.of (5, 0, 0, x4)) else (fRec_pred_Push p0).bind fun x5 => some (Tr31.of (4, 0, 0, ([x5] : List Tr31))))))))
theorem GP (nE : Nat) {fRec_pred_Push fRec_pred_Push' : Tr31 → Option Tr31} (hfRec_pred_Push : ∀ a0, Le (fRec_pred_Push a0) (fRec_pred_Push' a0)) {fRec fRec' : Tr31 → Option Tr31} (hfRec : ∀ a0, Le (fRec a0) (fRec' a0)) (p0 : Tr31) : Le (Ec nE fRec_pred_Push fRec p0) (Cy fRec_pred_Push' fRec' p0) := by
  unfold Ec Cy
  repeat' with_reducible (first | refine Le.orR' ?_ ?_ | refine Le.bind' ?_ ?_ | refine Le.ite' ?_ ?_ | refine Le.loop' ?_ | refine Le.altS' ?_ ?_ | exact hfRec_pred_Push | exact hfRec | exact hfRec_pred_Push _ | exact hfRec _ | apply Jx | exact Le.rfl' _ | (refine Le.pi2 ?_; intro _) | intro _)
theorem GQ {fRec_pred_Push fRec_pred_Push' : Tr31 → Option Tr31} (hfRec_pred_Push : ∀ a0, Le (fRec_pred_Push a0) (fRec_pred_Push' a0)) {fRec fRec' : Tr31 → Option Tr31} (hfRec : ∀ a0, Le (fRec a0) (fRec' a0)) (p0 : Tr31) : Le (Cy fRec_pred_Push fRec p0) (Cy fRec_pred_Push' fRec' p0) := by
  unfold Cy
  repeat' with_reducible (first | refine Le.orR' ?_ ?_ | refine Le.bind' ?_ ?_ | refine Le.ite' ?_ ?_ | refine Le.loopM ?_ | refine Le.altS' ?_ ?_ | exact hfRec_pred_Push | exact hfRec | exact hfRec_pred_Push _ | exact hfRec _ | apply Jr | exact Le.rfl' _ | (refine Le.pi2 ?_; intro _) | intro _)
def Ek (nE : Nat) (fRec_pred_Push : Tr31 → Option Tr31) : Nat → Tr31 → Option Tr31
  | 0 => fun _ => none
  | n + 1 => Ec nE fRec_pred_Push (Ek nE fRec_pred_Push n)
theorem Fa (nE : Nat) {fRec_pred_Push fRec_pred_Push' : Tr31 → Option Tr31} (hfRec_pred_Push : ∀ a0, Le (fRec_pred_Push a0) (fRec_pred_Push' a0)) : ∀ (m : Nat) a0, Le (Ek nE fRec_pred_Push m a0) (Cx fRec_pred_Push' m a0)
  | 0, a0 => fun _ h => nomatch h
  | m + 1, a0 => GP nE hfRec_pred_Push (Fa nE hfRec_pred_Push m) a0
theorem DH {fRec_pred_Push fRec_pred_Push' : Tr31 → Option Tr31} (hfRec_pred_Push : ∀ a0, Le (fRec_pred_Push a0) (fRec_pred_Push' a0)) : ∀ (m : Nat) a0, Le (Cx fRec_pred_Push m a0) (Cx fRec_pred_Push' (m + 1) a0)
  | 0, a0 => fun _ h => nomatch h
  | m + 1, a0 => GQ hfRec_pred_Push (DH hfRec_pred_Push m) a0
def Gr (nE : Nat) (fRec_pred_Push : Tr31 → Option Tr31) (p0 : Tr31) : Option Tr31 := Ek nE fRec_pred_Push nE p0
theorem HS (nE : Nat) {fRec_pred_Push fRec_pred_Push' : Tr31 → Option Tr31} (hfRec_pred_Push : ∀ a0, Le (fRec_pred_Push a0) (fRec_pred_Push' a0)) (p0 : Tr31) : Le (Gr nE fRec_pred_Push p0) (Ea fRec_pred_Push' p0) := fun r e => Ev (g := fun n => Cx fRec_pred_Push' n p0) (fun n r h => DH (fun a0 => Le.rfl' _) n p0 r h) (n := nE) (Fa nE hfRec_pred_Push nE p0 r e)
theorem HU {fRec_pred_Push fRec_pred_Push' : Tr31 → Option Tr31} (hfRec_pred_Push : ∀ a0, Le (fRec_pred_Push a0) (fRec_pred_Push' a0)) (p0 : Tr31) : Le (Ea fRec_pred_Push p0) (Ea fRec_pred_Push' p0) := fun r e => by
  obtain ⟨n, hn⟩ := DC e
  exact Ev (g := fun n => Cx fRec_pred_Push' n p0) (fun n r h => DH (fun a0 => Le.rfl' _) n p0 r h) (n := n + 1) (DH hfRec_pred_Push n p0 r hn)
def En (nE : Nat) (fRec_pred_Push : Tr31 → Option Tr31) (p0 : List Tr31) : (List Tr31 × Int) → Option ((List Tr31 × Int) ⊕ (List Tr31))
  | (x2, x3) => (if x3 < (p0.length : Int) then (ix p0 x3).bind fun x4 => (fRec_pred_Push x4).bind fun x5 => (HC x2 ([x5] : List Tr31)).bind fun x6 => some (.inl (x6, AJ (x3 + 1))) else some (.inr x2))
theorem Hd (nE : Nat) {fRec_pred_Push fRec_pred_Push' : Tr31 → Option Tr31} (hfRec_pred_Push : ∀ a0, Le (fRec_pred_Push a0) (fRec_pred_Push' a0)) (p0 : List Tr31) : ∀ s, Le (En nE fRec_pred_Push p0 s) (Cv fRec_pred_Push' p0 s) := by
  rintro ⟨x2, x3⟩
  unfold En Cv
  repeat' with_reducible (first | refine Le.orR' ?_ ?_ | refine Le.bind' ?_ ?_ | refine Le.ite' ?_ ?_ | refine Le.loop' ?_ | refine Le.altS' ?_ ?_ | exact hfRec_pred_Push | exact hfRec_pred_Push _ | exact Le.rfl' _ | (refine Le.pi2 ?_; intro _) | intro _)
theorem GX {fRec_pred_Push fRec_pred_Push' : Tr31 → Option Tr31} (hfRec_pred_Push : ∀ a0, Le (fRec_pred_Push a0) (fRec_pred_Push' a0)) (p0 : List Tr31) : ∀ s, Le (Cv fRec_pred_Push p0 s) (Cv fRec_pred_Push' p0 s) := by
  rintro ⟨x2, x3⟩
  show Le (Cv fRec_pred_Push p0 (x2, x3)) (Cv fRec_pred_Push' p0 (x2, x3))
  unfold Cv
  repeat' with_reducible (first | refine Le.orR' ?_ ?_ | refine Le.bind' ?_ ?_ | refine Le.ite' ?_ ?_ | refine Le.loopM ?_ | refine Le.altS' ?_ ?_ | exact hfRec_pred_Push | exact hfRec_pred_Push _ | exact Le.rfl' _ | (refine Le.pi2 ?_; intro _) | intro _)
def Fm (nE : Nat) (fRec_pred_Push : Tr31 → Option Tr31) (p0 : List Tr31) : Option (List Tr31) := (IF nE (En nE fRec_pred_Push p0) ([], 0)).bind fun x1 => some x1
theorem Ia (nE : Nat) {fRec_pred_Push fRec_pred_Push' : Tr31 → Option Tr31} (hfRec_pred_Push : ∀ a0, Le (fRec_pred_Push a0) (fRec_pred_Push' a0)) (p0 : List Tr31) : Le (Fm nE fRec_pred_Push p0) (Dl fRec_pred_Push' p0) := by
  unfold Fm Dl
  repeat' with_reducible (first | refine Le.orR' ?_ ?_ | refine Le.bind' ?_ ?_ | refine Le.ite' ?_ ?_ | refine Le.loop' ?_ | refine Le.altS' ?_ ?_ | exact hfRec_pred_Push | exact hfRec_pred_Push _ | apply Hd | exact Le.rfl' _ | (refine Le.pi2 ?_; intro _) | intro _)
theorem IB {fRec_pred_Push fRec_pred_Push' : Tr31 → Option Tr31} (hfRec_pred_Push : ∀ a0, Le (fRec_pred_Push a0) (fRec_pred_Push' a0)) (p0 : List Tr31) : Le (Dl fRec_pred_Push p0) (Dl fRec_pred_Push' p0) := by
  unfold Dl
  repeat' with_reducible (first | refine Le.orR' ?_ ?_ | refine Le.bind' ?_ ?_ | refine Le.ite' ?_ ?_ | refine Le.loopM ?_ | refine Le.altS' ?_ ?_ | exact hfRec_pred_Push | exact hfRec_pred_Push _ | apply GX | exact Le.rfl' _ | (refine Le.pi2 ?_; intro _) | intro _)
def EU (nE : Nat) (fRec : Tr31 → Option Tr31) (p0 : Tr31) : Option Tr31 := (if (decide (p0.un.1 = 4) && decide (0 < (p0.un.2.2.2.length : Int))) = true then (ix p0.un.2.2.2 0).bind fun x1 => ((Gr nE fRec) x1).bind fun x2 => some x2 else ((Fm nE fRec) p0.un.2.2.2).bind fun x3 => some (Tr31.of (p0.un.1, p0.un.2.1, p0.un.2.2.1, x3)))
theorem HQ (nE : Nat) {fRec fRec' : Tr31 → Option Tr31} (hfRec : ∀ a0, Le (fRec a0) (fRec' a0)) (p0 : Tr31) : Le (EU nE fRec p0) (C3 fRec' p0) := by
  unfold EU C3
  repeat' with_reducible (first | refine Le.orR' ?_ ?_ | refine Le.bind' ?_ ?_ | refine Le.ite' ?_ ?_ | refine Le.loop' ?_ | refine Le.altS' ?_ ?_ | exact hfRec | exact hfRec _ | apply HS | apply Ia | exact Le.rfl' _ | (refine Le.pi2 ?_; intro _) | intro _)
theorem HY {fRec fRec' : Tr31 → Option Tr31} (hfRec : ∀ a0, Le (fRec a0) (fRec' a0)) (p0 : Tr31) : Le (C3 fRec p0) (C3 fRec' p0) := by
  unfold C3
  repeat' with_reducible (first | refine Le.orR' ?_ ?_ | refine Le.bind' ?_ ?_ | refine Le.ite' ?_ ?_ | refine Le.loopM ?_ | refine Le.altS' ?_ ?_ | exact hfRec | exact hfRec _ | apply HU | apply IB | exact Le.rfl' _ | (refine Le.pi2 ?_; intro _) | intro _)
def Fu (nE : Nat) : Nat → Tr31 → Option Tr31
  | 0 => fun _ => none
  | n + 1 => EU nE (Fu nE n)
theorem Gj (nE : Nat) : ∀ (m : Nat) a0, Le (Fu nE m a0) (Dk m a0)
  | 0, a0 => fun _ h => nomatch h
  | m + 1, a0 => HQ nE (Gj nE m) a0
theorem Gd : ∀ (m : Nat) a0, Le (Dk m a0) (Dk (m + 1) a0)
  | 0, a0 => fun _ h => nomatch h
  | m + 1, a0 => HY (Gd m) a0
def Hz (nE : Nat) (p0 : Tr31) : Option Tr31 := Fu nE nE p0
theorem JI (nE : Nat) (p0 : Tr31) : Le (Hz nE p0) (Hm p0) := fun r e => Ev (g := fun n => Dk n p0) (fun n r h => Gd n p0 r h) (n := nE) (Gj nE nE p0 r e)
def E4 (nE : Nat) (fRec_pred_Text : Tr31 → Option (List UInt8)) (p0 : List Tr31) : (List (List UInt8) × Int) → Option ((List (List UInt8) × Int) ⊕ (List (List UInt8)))
  | (x2, x3) => (if x3 < (p0.length : Int) then (ix p0 x3).bind fun x4 => (fRec_pred_Text x4).bind fun x5 => (if (decide (x4.un.1 = 5) || decide (x4.un.1 = 6)) = true then (HC ([40] : List UInt8) x5).bind fun x7 => (HC x7 ([41] : List UInt8)).bind fun x8 => some x8 else some x5).bind fun x6 => (HC x2 ([x6] : List (List UInt8))).bind fun x9 => some (.inl (x9, AJ (x3 + 1))) else some (.inr x2))
theorem HV (nE : Nat) {fRec_pred_Text fRec_pred_Text' : Tr31 → Option (List UInt8)} (hfRec_pred_Text : ∀ a0, Le (fRec_pred_Text a0) (fRec_pred_Text' a0)) (p0 : List Tr31) : ∀ s, Le (E4 nE fRec_pred_Text p0 s) (CM fRec_pred_Text' p0 s) := by
  rintro ⟨x2, x3⟩
  unfold E4 CM
  repeat' with_reducible (first | refine Le.orR' ?_ ?_ | refine Le.bind' ?_ ?_ | refine Le.ite' ?_ ?_ | refine Le.loop' ?_ | refine Le.altS' ?_ ?_ | exact hfRec_pred_Text | exact hfRec_pred_Text _ | exact Le.rfl' _ | (refine Le.pi2 ?_; intro _) | intro _)
theorem HZ {fRec_pred_Text fRec_pred_Text' : Tr31 → Option (List UInt8)} (hfRec_pred_Text : ∀ a0, Le (fRec_pred_Text a0) (fRec_pred_Text' a0)) (p0 : List Tr31) : ∀ s, Le (CM fRec_pred_Text p0 s) (CM fRec_pred_Text' p0 s) := by
  rintro ⟨x2, x3⟩
  show Le (CM fRec_pred_Text p0 (x2, x3)) (CM fRec_pred_Text' p0 (x2, x3))
  unfold CM
  repeat' with_reducible (first | refine Le.orR' ?_ ?_ | refine Le.bind' ?_ ?_ | refine Le.ite' ?_ ?_ | refine Le.loopM ?_ | refine Le.altS' ?_ ?_ | exact hfRec_pred_Text | exact hfRec_pred_Text _ | exact Le.rfl' _ | (refine Le.pi2 ?_; intro _) | intro _)
def EH (nE : Nat) (fRec_pred_Text : Tr31 → Option (List UInt8)) (p0 : List Tr31) (p1 : List UInt8) : Option (List UInt8) := (IF nE (E4 nE fRec_pred_Text p0) ([], 0)).bind fun x1 => (KZ x1 p1).bind fun x10 => some x10
theorem Jl (nE : Nat) {fRec_pred_Text fRec_pred_Text' : Tr31 → Option (List UInt8)} (hfRec_pred_Text : ∀ a0, Le (fRec_pred_Text a0) (fRec_pred_Text' a0)) (p0 : List Tr31) (p1 : List UInt8) : Le (EH nE fRec_pred_Text p0 p1) (DD fRec_pred_Text' p0 p1) := by
  unfold EH DD
  repeat' with_reducible (first | refine Le.orR' ?_ ?_ | refine Le.bind' ?_ ?_ | refine Le.ite' ?_ ?_ | refine Le.loop' ?_ | refine Le.altS' ?_ ?_ | exact hfRec_pred_Text | exact hfRec_pred_Text _ | apply HV | exact Le.rfl' _ | (refine Le.pi2 ?_; intro _) | intro _)
theorem Ju {fRec_pred_Text fRec_pred_Text' : Tr31 → Option (List UInt8)} (hfRec_pred_Text : ∀ a0, Le (fRec_pred_Text a0) (fRec_pred_Text' a0)) (p0 : List Tr31) (p1 : List UInt8) : Le (DD fRec_pred_Text p0 p1) (DD fRec_pred_Text' p0 p1) := by
  unfold DD
  repeat' with_reducible (first | refine Le.orR' ?_ ?_ | refine Le.bind' ?_ ?_ | refine Le.ite' ?_ ?_ | refine Le.loopM ?_ | refine Le.altS' ?_ ?_ | exact hfRec_pred_Text | exact hfRec_pred_Text _ | apply HZ | exact Le.rfl' _ | (refine Le.pi2 ?_; intro _) | intro _)
def EV (nE : Nat) (fRec : Tr31 → Option (List UInt8)) (p0 : Tr31) : Option (List UInt8) := (if p0.un.1 = 1 then some ([116, 114, 117, 101] : List UInt8) else (if p0.un.1 = 2 then some ([102, 97, 108, 115, 101] : List UInt8) else (if p0.un.1 = 3 then (HC (De p0.un.2.1) ([32, 61, 32] : List UInt8)).bind fun x1 => (KN p0.un.2.2.1).bind fun x2 => (HC x1 x2).bind fun x3 => some x3 else (if p0.un.1 = 4 then ((EH nE fRec) p0.un.2.2.2 ([] : List UInt8)).bind fun x4 => (HC ([110, 111, 116, 32] : List UInt8) x4).bind fun x5 => some x5 else (if p0.un.1 = 5 then ((EH nE fRec) p0.un.2.2.2 ([32, 97, 110, 100, 32] : List UInt8)).bind fun x6 => some x6 else (if p0.un.1 = 6 then ((EH nE fRec) p0.un.2.2.2 ([32, 111, 114, 32] : List UInt8)).bind fun x7 => some x7 else some ([63] : List UInt8)))))))
theorem HX (nE : Nat) {fRec fRec' : Tr31 → Option (List UInt8)} (hfRec : ∀ a0, Le (fRec a0) (fRec' a0)) (p0 : Tr31) : Le (EV nE fRec p0) (C2 fRec' p0) := by
  unfold EV C2
  repeat' with_reducible (first | refine Le.orR' ?_ ?_ | refine Le.bind' ?_ ?_ | refine Le.ite' ?_ ?_ | refine Le.loop' ?_ | refine Le.altS' ?_ ?_ | exact hfRec | exact hfRec _ | apply Jl | exact Le.rfl' _ | (refine Le.pi2 ?_; intro _) | intro _)
theorem HM {fRec fRec' : Tr31 → Option (List UInt8)} (hfRec : ∀ a0, Le (fRec a0) (fRec' a0)) (p0 : Tr31) : Le (C2 fRec p0) (C2 fRec' p0) := by
  unfold C2
  repeat' with_reducible (first | refine Le.orR' ?_ ?_ | refine Le.bind' ?_ ?_ | refine Le.ite' ?_ ?_ | refine Le.loopM ?_ | refine Le.altS' ?_ ?_ | exact hfRec | exact hfRec _ | apply Ju | exact Le.rfl' _ | (refine Le.pi2 ?_; intro _) | intro _)
def Ft (nE : Nat) : Nat → Tr31 → Option (List UInt8)
  | 0 => fun _ => none
  | n + 1 => EV nE (Ft nE n)
theorem Gp (nE : Nat) : ∀ (m : Nat) a0, Le (Ft nE m a0) (Dm m a0)
  | 0, a0 => fun _ h => nomatch h
  | m + 1, a0 => HX nE (Gp nE m) a0
theorem F6 : ∀ (m : Nat) a0, Le (Dm m a0) (Dm (m + 1) a0)
  | 0, a0 => fun _ h => nomatch h
  | m + 1, a0 => HM (F6 m) a0
def Gb (nE : Nat) (p0 : Tr31) : Option (List UInt8) := Ft nE nE p0
theorem JG (nE : Nat) (p0 : Tr31) : Le (Gb nE p0) (Gx p0) := fun r e => Ev (g := fun n => Dm n p0) (fun n r h => F6 n p0 r h) (n := nE) (Gp nE nE p0 r e)
def FH (nE : Nat) (p0 : Int × Int × Int × Int) (p1 : Int) : Option Int := (if (!(DS p1)) = true then some 0 else (ix ([p0.1, p0.2.1, p0.2.2.1, p0.2.2.2] : List Int) p1).bind fun x1 => some x1)
theorem IP (nE : Nat) (p0 : Int × Int × Int × Int) (p1 : Int) : Le (FH nE p0 p1) (Em p0 p1) := by
  unfold FH Em
  repeat' with_reducible (first | refine Le.orR' ?_ ?_ | refine Le.bind' ?_ ?_ | refine Le.ite' ?_ ?_ | refine Le.loop' ?_ | refine Le.altS' ?_ ?_ | exact Le.rfl' _ | (refine Le.pi2 ?_; intro _) | intro _)
def GM (nE : Nat) (p0 : Int) (p1 : Int) (p2 : Int) (p3 : Int × Int × Int × Int) : Option Int := (if p0 = 4 then some p2 else (if p0 = 5 then some p1 else (if (Cn p0) = true then (FH nE p3 p0).bind fun x1 => some x1 else some (-1))))
theorem JY (nE : Nat) (p0 : Int) (p1 : Int) (p2 : Int) (p3 : Int × Int × Int × Int) : Le (GM nE p0 p1 p2 p3) (EX p0 p1 p2 p3) := by
  unfold GM EX
  repeat' with_reducible (first | refine Le.orR' ?_ ?_ | refine Le.bind' ?_ ?_ | refine Le.ite' ?_ ?_ | refine Le.loop' ?_ | refine Le.altS' ?_ ?_ | apply IP | exact Le.rfl' _ | (refine Le.pi2 ?_; intro _) | intro _)
def C5 (nE : Nat) (fRec_pred_arrival_satisfies : (Int × Int × (Int × Int × Int × Int)) → Tr31 → Option Bool) (p0 : Int × Int × (Int × Int × Int × Int)) (p1 : Tr31) : Option Bool := (fRec_pred_arrival_satisfies p0 p1).bind fun x1 => some (!x1)
theorem Ei (nE : Nat) {fRec_pred_arrival_satisfies fRec_pred_arrival_satisfies' : (Int × Int × (Int × Int × Int × Int)) → Tr31 → Option Bool} (hfRec_pred_arrival_satisfies : ∀ a0 a1, Le (fRec_pred_arrival_satisfies a0 a1) (fRec_pred_arrival_satisfies' a0 a1)) (p0 : Int × Int × (Int × Int × Int × Int)) (p1 : Tr31) : Le (C5 nE fRec_pred_arrival_satisfies p0 p1) (BC fRec_pred_arrival_satisfies' p0 p1) := by
  unfold C5 BC
  repeat' with_reducible (first | refine Le.orR' ?_ ?_ | refine Le.bind' ?_ ?_ | refine Le.ite' ?_ ?_ | refine Le.loop' ?_ | refine Le.altS' ?_ ?_ | exact hfRec_pred_arrival_satisfies | exact hfRec_pred_arrival_satisfies _ _ | exact Le.rfl' _ | (refine Le.pi2 ?_; intro _) | intro _)
theorem Ej {fRec_pred_arrival_satisfies fRec_pred_arrival_satisfies' : (Int × Int × (Int × Int × Int × Int)) → Tr31 → Option Bool} (hfRec_pred_arrival_satisfies : ∀ a0 a1, Le (fRec_pred_arrival_satisfies a0 a1) (fRec_pred_arrival_satisfies' a0 a1)) (p0 : Int × Int × (Int × Int × Int × Int)) (p1 : Tr31) : Le (BC fRec_pred_arrival_satisfies p0 p1) (BC fRec_pred_arrival_satisfies' p0 p1) := by
  unfold BC
  repeat' with_reducible (first | refine Le.orR' ?_ ?_ | refine Le.bind' ?_ ?_ | refine Le.ite' ?_ ?_ | refine Le.loopM ?_ | refine Le.altS' ?_ ?_ | exact hfRec_pred_arrival_satisfies | exact hfRec_pred_arrival_satisfies _ _ | exact Le.rfl' _ | (refine Le.pi2 ?_; intro _) | intro _)
def Ce (nE : Nat) (fRec_pred_arrival_satisfies : (Int × Int × (Int × Int × Int × Int)) → Tr31 → Option Bool) (p0 : List Tr31) (p1f0 : Int × Int × (Int × Int × Int × Int)) : Int → Option (Int ⊕ (Unit ⊕ Int))
  | x1 => (if x1 < (p0.length : Int) then (ix p0 x1).bind fun x2 => ((C5 nE fRec_pred_arrival_satisfies) p1f0 x2).bind fun x3 => (if x3 = true then some (.inr (.inr x1)) else some (.inl (AJ (x1 + 1)))) else some (.inr (.inl ())))
theorem Du (nE : Nat) {fRec_pred_arrival_satisfies fRec_pred_arrival_satisfies' : (Int × Int × (Int × Int × Int × Int)) → Tr31 → Option Bool} (hfRec_pred_arrival_satisfies : ∀ a0 a1, Le (fRec_pred_arrival_satisfies a0 a1) (fRec_pred_arrival_satisfies' a0 a1)) (p0 : List Tr31) (p1f0 : Int × Int × (Int × Int × Int × Int)) : ∀ s, Le (Ce nE fRec_pred_arrival_satisfies p0 p1f0 s) (Ax fRec_pred_arrival_satisfies' p0 p1f0 s) := by
  intro x1
  unfold Ce Ax
  repeat' with_reducible (first | refine Le.orR' ?_ ?_ | refine Le.bind' ?_ ?_ | refine Le.ite' ?_ ?_ | refine Le.loop' ?_ | refine Le.altS' ?_ ?_ | exact hfRec_pred_arrival_satisfies | exact hfRec_pred_arrival_satisfies _ _ | apply Ei | exact Le.rfl' _ | (refine Le.pi2 ?_; intro _) | intro _)
theorem Dp {fRec_pred_arrival_satisfies fRec_pred_arrival_satisfies' : (Int × Int × (Int × Int × Int × Int)) → Tr31 → Option Bool} (hfRec_pred_arrival_satisfies : ∀ a0 a1, Le (fRec_pred_arrival_satisfies a0 a1) (fRec_pred_arrival_satisfies' a0 a1)) (p0 : List Tr31) (p1f0 : Int × Int × (Int × Int × Int × Int)) : ∀ s, Le (Ax fRec_pred_arrival_satisfies p0 p1f0 s) (Ax fRec_pred_arrival_satisfies' p0 p1f0 s) := by
  intro x1
  unfold Ax
  repeat' with_reducible (first | refine Le.orR' ?_ ?_ | refine Le.bind' ?_ ?_ | refine Le.ite' ?_ ?_ | refine Le.loopM ?_ | refine Le.altS' ?_ ?_ | exact hfRec_pred_arrival_satisfies | exact hfRec_pred_arrival_satisfies _ _ | apply Ej | exact Le.rfl' _ | (refine Le.pi2 ?_; intro _) | intro _)
def Cj (nE : Nat) (fRec_pred_arrival_satisfies : (Int × Int × (Int × Int × Int × Int)) → Tr31 → Option Bool) (p0 : List Tr31) (p1f0 : Int × Int × (Int × Int × Int × Int)) : Option Int := Im (IF nE (Ce nE fRec_pred_arrival_satisfies p0 p1f0) 0) fun _ => some (-1)
theorem DJ (nE : Nat) {fRec_pred_arrival_satisfies fRec_pred_arrival_satisfies' : (Int × Int × (Int × Int × Int × Int)) → Tr31 → Option Bool} (hfRec_pred_arrival_satisfies : ∀ a0 a1, Le (fRec_pred_arrival_satisfies a0 a1) (fRec_pred_arrival_satisfies' a0 a1)) (p0 : List Tr31) (p1f0 : Int × Int × (Int × Int × Int × Int)) : Le (Cj nE fRec_pred_arrival_satisfies p0 p1f0) (AL fRec_pred_arrival_satisfies' p0 p1f0) := by
  unfold Cj AL
  repeat' with_reducible (first | refine Le.orR' ?_ ?_ | refine Le.bind' ?_ ?_ | refine Le.ite' ?_ ?_ | refine Le.loop' ?_ | refine Le.altS' ?_ ?_ | exact hfRec_pred_arrival_satisfies | exact hfRec_pred_arrival_satisfies _ _ | apply Du | exact Le.rfl' _ | (refine Le.pi2 ?_; intro _) | intro _)
theorem DK {fRec_pred_arrival_satisfies fRec_pred_arrival_satisfies' : (Int × Int × (Int × Int × Int × Int)) → Tr31 → Option Bool} (hfRec_pred_arrival_satisfies : ∀ a0 a1, Le (fRec_pred_arrival_satisfies a0 a1) (fRec_pred_arrival_satisfies' a0 a1)) (p0 : List Tr31) (p1f0 : Int × Int × (Int × Int × Int × Int)) : Le (AL fRec_pred_arrival_satisfies p0 p1f0) (AL fRec_pred_arrival_satisfies' p0 p1f0) := by
  unfold AL
  repeat' with_reducible (first | refine Le.orR' ?_ ?_ | refine Le.bind' ?_ ?_ | refine Le.ite' ?_ ?_ | refine Le.loopM ?_ | refine Le.altS' ?_ ?_ | exact hfRec_pred_arrival_satisfies | exact hfRec_pred_arrival_satisfies _ _ | apply Dp | exact Le.rfl' _ | (refine Le.pi2 ?_; intro _) | intro _)
def Cc (nE : Nat) (fRec_pred_arrival_satisfies : (Int × Int × (Int × Int × Int × Int)) → Tr31 → Option Bool) (p0 : List Tr31) (p1f0 : Int × Int × (Int × Int × Int × Int)) : Option Bool := ((Cj nE fRec_pred_arrival_satisfies) p0 p1f0).bind fun x1 => some (decide (0 ≤ x1))
theorem Ds (nE : Nat) {fRec_pred_arrival_satisfies fRec_pred_arrival_satisfies' : (Int × Int × (Int × Int × Int × Int)) → Tr31 → Option Bool} (hfRec_pred_arrival_satisfies : ∀ a0 a1, Le (fRec_pred_arrival_satisfies a0 a1) (fRec_pred_arrival_satisfies' a0 a1)) (p0 : List Tr31) (p1f0 : Int × Int × (Int × Int × Int × Int)) : Le (Cc nE fRec_pred_arrival_satisfies p0 p1f0) (AE fRec_pred_arrival_satisfies' p0 p1f0) := by
  unfold Cc AE
  repeat' with_reducible (first | refine Le.orR' ?_ ?_ | refine Le.bind' ?_ ?_ | refine Le.ite' ?_ ?_ | refine Le.loop' ?_ | refine Le.altS' ?_ ?_ | exact hfRec_pred_arrival_satisfies | exact hfRec_pred_arrival_satisfies _ _ | apply DJ | exact Le.rfl' _ | (refine Le.pi2 ?_; intro _) | intro _)
theorem Dr {fRec_pred_arrival_satisfies fRec_pred_arrival_satisfies' : (Int × Int × (Int × Int × Int × Int)) → Tr31 → Option Bool} (hfRec_pred_arrival_satisfies : ∀ a0 a1, Le (fRec_pred_arrival_satisfies a0 a1) (fRec_pred_arrival_satisfies' a0 a1)) (p0 : List Tr31) (p1f0 : Int × Int × (Int × Int × Int × Int)) : Le (AE fRec_pred_arrival_satisfies p0 p1f0) (AE fRec_pred_arrival_satisfies' p0 p1f0) := by
  unfold AE
  repeat' with_reducible (first | refine Le.orR' ?_ ?_ | refine Le.bind' ?_ ?_ | refine Le.ite' ?_ ?_ | refine Le.loopM ?_ | refine Le.altS' ?_ ?_ | exact hfRec_pred_arrival_satisfies | exact hfRec_pred_arrival_satisfies _ _ | apply DK | exact Le.rfl' _ | (refine Le.pi2 ?_; intro _) | intro _)
def B6 (nE : Nat) (fRec_pred_arrival_satisfies : (Int × Int × (Int × Int × Int × Int)) → Tr31 → Option Bool) (p0 : List Tr31) (p1f0 : Int × Int × (Int × Int × Int × Int)) : Int → Option (Int ⊕ (Unit ⊕ Int))
  | x1 => (if x1 < (p0.length : Int) then (ix p0 x1).bind fun x2 => (fRec_pred_arrival_satisfies p1f0 x2).bind fun x3 => (if x3 = true then some (.inr (.inr x1)) else some (.inl (AJ (x1 + 1)))) else some (.inr (.inl ())))
theorem Dc (nE : Nat) {fRec_pred_arrival_satisfies fRec_pred_arrival_satisfies' : (Int × Int × (Int × Int × Int × Int)) → Tr31 → Option Bool} (hfRec_pred_arrival_satisfies : ∀ a0 a1, Le (fRec_pred_arrival_satisfies a0 a1) (fRec_pred_arrival_satisfies' a0 a1)) (p0 : List Tr31) (p1f0 : Int × Int × (Int × Int × Int × Int)) : ∀ s, Le (B6 nE fRec_pred_arrival_satisfies p0 p1f0 s) (Av fRec_pred_arrival_satisfies' p0 p1f0 s) := by
  intro x1
  unfold B6 Av
  repeat' with_reducible (first | refine Le.orR' ?_ ?_ | refine Le.bind' ?_ ?_ | refine Le.ite' ?_ ?_ | refine Le.loop' ?_ | refine Le.altS' ?_ ?_ | exact hfRec_pred_arrival_satisfies | exact hfRec_pred_arrival_satisfies _ _ | exact Le.rfl' _ | (refine Le.pi2 ?_; intro _) | intro _)
theorem Db {fRec_pred_arrival_satisfies fRec_pred_arrival_satisfies' : (Int × Int × (Int × Int × Int × Int)) → Tr31 → Option Bool} (hfRec_pred_arrival_satisfies : ∀ a0 a1, Le (fRec_pred_arrival_satisfies a0 a1) (fRec_pred_arrival_satisfies' a0 a1)) (p0 : List Tr31) (p1f0 : Int × Int × (Int × Int × Int × Int)) : ∀ s, Le (Av fRec_pred_arrival_satisfies p0 p1f0 s) (Av fRec_pred_arrival_satisfies' p0 p1f0 s) := by
  intro x1
  unfold Av
  repeat' with_reducible (first | refine Le.orR' ?_ ?_ | refine Le.bind' ?_ ?_ | refine Le.ite' ?_ ?_ | refine Le.loopM ?_ | refine Le.altS' ?_ ?_ | exact hfRec_pred_arrival_satisfies | exact hfRec_pred_arrival_satisfies _ _ | exact Le.rfl' _ | (refine Le.pi2 ?_; intro _) | intro _)
def Ch (nE : Nat) (fRec_pred_arrival_satisfies : (Int × Int × (Int × Int × Int × Int)) → Tr31 → Option Bool) (p0 : List Tr31) (p1f0 : Int × Int × (Int × Int × Int × Int)) : Option Int := Im (IF nE (B6 nE fRec_pred_arrival_satisfies p0 p1f0) 0) fun _ => some (-1)
theorem Dy (nE : Nat) {fRec_pred_arrival_satisfies fRec_pred_arrival_satisfies' : (Int × Int × (Int × Int × Int × Int)) → Tr31 → Option Bool} (hfRec_pred_arrival_satisfies : ∀ a0 a1, Le (fRec_pred_arrival_satisfies a0 a1) (fRec_pred_arrival_satisfies' a0 a1)) (p0 : List Tr31) (p1f0 : Int × Int × (Int × Int × Int × Int)) : Le (Ch nE fRec_pred_arrival_satisfies p0 p1f0) (AF fRec_pred_arrival_satisfies' p0 p1f0) := by
  unfold Ch AF
  repeat' with_reducible (first | refine Le.orR' ?_ ?_ | refine Le.bind' ?_ ?_ | refine Le.ite' ?_ ?_ | refine Le.loop' ?_ | refine Le.altS' ?_ ?_ | exact hfRec_pred_arrival_satisfies | exact hfRec_pred_arrival_satisfies _ _ | apply Dc | exact Le.rfl' _ | (refine Le.pi2 ?_; intro _) | intro _)
theorem Dx {fRec_pred_arrival_satisfies fRec_pred_arrival_satisfies' : (Int × Int × (Int × Int × Int × Int)) → Tr31 → Option Bool} (hfRec_pred_arrival_satisfies : ∀ a0 a1, Le (fRec_pred_arrival_satisfies a0 a1) (fRec_pred_arrival_satisfies' a0 a1)) (p0 : List Tr31) (p1f0 : Int × Int × (Int × Int × Int × Int)) : Le (AF fRec_pred_arrival_satisfies p0 p1f0) (AF fRec_pred_arrival_satisfies' p0 p1f0) := by
  unfold AF
  repeat' with_reducible (first | refine Le.orR' ?_ ?_ | refine Le.bind' ?_ ?_ | refine Le.ite' ?_ ?_ | refine Le.loopM ?_ | refine Le.altS' ?_ ?_ | exact hfRec_pred_arrival_satisfies | exact hfRec_pred_arrival_satisfies _ _ | apply Db | exact Le.rfl' _ | (refine Le.pi2 ?_; intro _) | intro _)
def B5 (nE : Nat) (fRec_pred_arrival_satisfies : (Int × Int × (Int × Int × Int × Int)) → Tr31 → Option Bool) (p0 : List Tr31) (p1f0 : Int × Int × (Int × Int × Int × Int)) : Option Bool := ((Ch nE fRec_pred_arrival_satisfies) p0 p1f0).bind fun x1 => some (decide (0 ≤ x1))
theorem Dg (nE : Nat) {fRec_pred_arrival_satisfies fRec_pred_arrival_satisfies' : (Int × Int × (Int × Int × Int × Int)) → Tr31 → Option Bool} (hfRec_pred_arrival_satisfies : ∀ a0 a1, Le (fRec_pred_arrival_satisfies a0 a1) (fRec_pred_arrival_satisfies' a0 a1)) (p0 : List Tr31) (p1f0 : Int × Int × (Int × Int × Int × Int)) : Le (B5 nE fRec_pred_arrival_satisfies p0 p1f0) (AC fRec_pred_arrival_satisfies' p0 p1f0) := by
  unfold B5 AC
  repeat' with_reducible (first | refine Le.orR' ?_ ?_ | refine Le.bind' ?_ ?_ | refine Le.ite' ?_ ?_ | refine Le.loop' ?_ | refine Le.altS' ?_ ?_ | exact hfRec_pred_arrival_satisfies | exact hfRec_pred_arrival_satisfies _ _ | apply Dy | exact Le.rfl' _ | (refine Le.pi2 ?_; intro _) | intro _)
theorem Dh {fRec_pred_arrival_satisfies fRec_pred_arrival_satisfies' : (Int × Int × (Int × Int × Int × Int)) → Tr31 → Option Bool} (hfRec_pred_arrival_satisfies : ∀ a0 a1, Le (fRec_pred_arrival_satisfies a0 a1) (fRec_pred_arrival_satisfies' a0 a1)) (p0 : List Tr31) (p1f0 : Int × Int × (Int × Int × Int × Int)) : Le (AC fRec_pred_arrival_satisfies p0 p1f0) (AC fRec_pred_arrival_satisfies' p0 p1f0) := by
  unfold AC
  repeat' with_reducible (first | refine Le.orR' ?_ ?_ | refine Le.bind' ?_ ?_ | refine Le.ite' ?_ ?_ | refine Le.loopM ?_ | refine Le.altS' ?_ ?_ | exact hfRec_pred_arrival_satisfies | exact hfRec_pred_arrival_satisfies _ _ | apply Dx | exact Le.rfl' _ | (refine Le.pi2 ?_; intro _) | intro _)
def CR (nE : Nat) (fRec : (Int × Int × (Int × Int × Int × Int)) → Tr31 → Option Bool) (p0 : Int × Int × (Int × Int × Int × Int)) (p1 : Tr31) : Option Bool := (if p1.un.1 = 1 then some true else (if p1.un.1 = 3 then (if (Cn p1.un.2.1) = true then (GM nE p1.un.2.1 p0.1 p0.2.1 p0.2.2).bind fun x2 => some (decide (x2 = p1.un.2.2.1)) else some false).bind fun x1 => some x1 else (if p1.un.1 = 4 then (if 0 < (p1.un.2.2.2.length : Int) then (ix p1.un.2.2.2 0).bind fun x4 => ((C5 nE fRec) p0 x4).bind fun x5 => some x5 else some false).bind fun x3 => some x3 else (if p1.un.1 = 5 then ((Cc nE fRec) p1.un.2.2.2 p0).bind fun x6 => some (!x6) else (if p1.un.1 = 6 then ((B5 nE fRec) p1.un.2.2.2 p0).bind fun x7 => some x7 else some false)))))
theorem EM (nE : Nat) {fRec fRec' : (Int × Int × (Int × Int × Int × Int)) → Tr31 → Option Bool} (hfRec : ∀ a0 a1, Le (fRec a0 a1) (fRec' a0 a1)) (p0 : Int × Int × (Int × Int × Int × Int)) (p1 : Tr31) : Le (CR nE fRec p0 p1) (Ba fRec' p0 p1) := by
  unfold CR Ba
  repeat' with_reducible (first | refine Le.orR' ?_ ?_ | refine Le.bind' ?_ ?_ | refine Le.ite' ?_ ?_ | refine Le.loop' ?_ | refine Le.altS' ?_ ?_ | exact hfRec | exact hfRec _ _ | apply JY | apply Ei | apply Ds | apply Dg | exact Le.rfl' _ | (refine Le.pi2 ?_; intro _) | intro _)
theorem EL {fRec fRec' : (Int × Int × (Int × Int × Int × Int)) → Tr31 → Option Bool} (hfRec : ∀ a0 a1, Le (fRec a0 a1) (fRec' a0 a1)) (p0 : Int × Int × (Int × Int × Int × Int)) (p1 : Tr31) : Le (Ba fRec p0 p1) (Ba fRec' p0 p1) := by
  unfold Ba
  repeat' with_reducible (first | refine Le.orR' ?_ ?_ | refine Le.bind' ?_ ?_ | refine Le.ite' ?_ ?_ | refine Le.loopM ?_ | refine Le.altS' ?_ ?_ | exact hfRec | exact hfRec _ _ | apply Ej | apply Dr | apply Dh | exact Le.rfl' _ | (refine Le.pi2 ?_; intro _) | intro _)
def C0 (nE : Nat) : Nat → (Int × Int × (Int × Int × Int × Int)) → Tr31 → Option Bool
  | 0 => fun _ _ => none
  | n + 1 => CR nE (C0 nE n)
theorem DG (nE : Nat) : ∀ (m : Nat) a0 a1, Le (C0 nE m a0 a1) (AN m a0 a1)
  | 0, a0, a1 => fun _ h => nomatch h
  | m + 1, a0, a1 => EM nE (DG nE m) a0 a1
theorem CO : ∀ (m : Nat) a0 a1, Le (AN m a0 a1) (AN (m + 1) a0 a1)
  | 0, a0, a1 => fun _ h => nomatch h
  | m + 1, a0, a1 => EL (CO m) a0 a1
def DW (nE : Nat) (p0 : Int × Int × (Int × Int × Int × Int)) (p1 : Tr31) : Option Bool := C0 nE nE p0 p1
theorem E9 (nE : Nat) (p0 : Int × Int × (Int × Int × Int × Int)) (p1 : Tr31) : Le (DW nE p0 p1) (CQ p0 p1) := fun r e => Ev (g := fun n => AN n p0 p1) (fun n r h => CO n p0 p1 r h) (n := nE) (DG nE nE p0 p1 r e)
def Fe (nE : Nat) (p0 : Tr31) (p1 : Int) (p2 : Int) (p3 : Int × Int × Int × Int) : Option Bool := (DW nE (p1, p2, p3) p0).bind fun x1 => some x1
theorem JH (nE : Nat) (p0 : Tr31) (p1 : Int) (p2 : Int) (p3 : Int × Int × Int × Int) : Le (Fe nE p0 p1 p2 p3) (Dz p0 p1 p2 p3) := by
  unfold Fe Dz
  repeat' with_reducible (first | refine Le.orR' ?_ ?_ | refine Le.bind' ?_ ?_ | refine Le.ite' ?_ ?_ | refine Le.loop' ?_ | refine Le.altS' ?_ ?_ | apply E9 | exact Le.rfl' _ | (refine Le.pi2 ?_; intro _) | intro _)
def Fj (nE : Nat) (p0 : Int) : Option Int := (if p0 = 0 then some true else (if p0 = 1 then some true else some (decide (p0 = 3)))).bind fun x1 => (if x1 = true then some 8 else (if p0 = 2 then some 4 else some 0))
theorem IH (nE : Nat) (p0 : Int) : Le (Fj nE p0) (EE p0) := by
  unfold Fj EE
  repeat' with_reducible (first | refine Le.orR' ?_ ?_ | refine Le.bind' ?_ ?_ | refine Le.ite' ?_ ?_ | refine Le.loop' ?_ | refine Le.altS' ?_ ?_ | exact Le.rfl' _ | (refine Le.pi2 ?_; intro _) | intro _)
def FO (nE : Nat) (p0 : Int) : Option Int := (Fj nE p0).bind fun x1 => (Nk (CV .i64 1 x1) x1).bind fun x2 => some (AJ (x2 - 1))
theorem I2 (nE : Nat) (p0 : Int) : Le (FO nE p0) (E2 p0) := by
  unfold FO E2
  repeat' with_reducible (first | refine Le.orR' ?_ ?_ | refine Le.bind' ?_ ?_ | refine Le.ite' ?_ ?_ | refine Le.loop' ?_ | refine Le.altS' ?_ ?_ | apply IH | exact Le.rfl' _ | (refine Le.pi2 ?_; intro _) | intro _)
def GS (nE : Nat) (p0 : Int) : Option Int := (if (decide (p0 = 4) || decide (p0 = 5)) = true then some 7 else (FO nE p0).bind fun x1 => some x1)
theorem Kj (nE : Nat) (p0 : Int) : Le (GS nE p0) (Gq p0) := by
  unfold GS Gq
  repeat' with_reducible (first | refine Le.orR' ?_ ?_ | refine Le.bind' ?_ ?_ | refine Le.ite' ?_ ?_ | refine Le.loop' ?_ | refine Le.altS' ?_ ?_ | apply I2 | exact Le.rfl' _ | (refine Le.pi2 ?_; intro _) | intro _)
def Gn (nE : Nat) (p0 : Tr31) : Option Bool := (if p0.un.1 = 3 then (if (Cn p0.un.2.1) = true then (if 0 ≤ p0.un.2.2.1 then (GS nE p0.un.2.1).bind fun x2 => (if p0.un.2.2.1 ≤ x2 then some (decide ((p0.un.2.2.2.length : Int) = 0)) else some false) else some false) else some false).bind fun x1 => some x1 else (if (decide (p0.un.2.1 ≠ 0) || decide (p0.un.2.2.1 ≠ 0)) = true then some false else (if p0.un.1 = 1 then some true else some (decide (p0.un.1 = 2))).bind fun x3 => (if x3 = true then some (decide ((p0.un.2.2.2.length : Int) = 0)) else (if p0.un.1 = 4 then some (decide ((p0.un.2.2.2.length : Int) = 1)) else (if p0.un.1 = 5 then some true else some (decide (p0.un.1 = 6))).bind fun x4 => (if x4 = true then some (decide (2 ≤ (p0.un.2.2.2.length : Int)) && decide ((p0.un.2.2.2.length : Int) ≤ 8)) else some false)))))
theorem Jw (nE : Nat) (p0 : Tr31) : Le (Gn nE p0) (FE p0) := by
  unfold Gn FE
  repeat' with_reducible (first | refine Le.orR' ?_ ?_ | refine Le.bind' ?_ ?_ | refine Le.ite' ?_ ?_ | refine Le.loop' ?_ | refine Le.altS' ?_ ?_ | apply Kj | exact Le.rfl' _ | (refine Le.pi2 ?_; intro _) | intro _)
def Dd (nE : Nat) (fRec : Int → Tr31 → Int → Option (Bool × Int)) (p1 : Tr31) (p2 : Int) : (Int × Int) → Option ((Int × Int) ⊕ (Int ⊕ (Bool × Int)))
  | (x4, x5) => (if x4 < (p1.un.2.2.2.length : Int) then (ix p1.un.2.2.2 x4).bind fun x6 => (fRec x5 x6 (AJ (p2 - 1))).bind fun x7 => (if (!x7.1) = true then some (.inr (.inr (false, x7.2))) else some (.inl (AJ (x4 + 1), x7.2))) else some (.inr (.inl x5)))
theorem Fk (nE : Nat) {fRec fRec' : Int → Tr31 → Int → Option (Bool × Int)} (hfRec : ∀ a0 a1 a2, Le (fRec a0 a1 a2) (fRec' a0 a1 a2)) (p1 : Tr31) (p2 : Int) : ∀ s, Le (Dd nE fRec p1 p2 s) (BD fRec' p1 p2 s) := by
  rintro ⟨x4, x5⟩
  unfold Dd BD
  repeat' with_reducible (first | refine Le.orR' ?_ ?_ | refine Le.bind' ?_ ?_ | refine Le.ite' ?_ ?_ | refine Le.loop' ?_ | refine Le.altS' ?_ ?_ | exact hfRec | exact hfRec _ _ _ | exact Le.rfl' _ | (refine Le.pi2 ?_; intro _) | intro _)
theorem Fq {fRec fRec' : Int → Tr31 → Int → Option (Bool × Int)} (hfRec : ∀ a0 a1 a2, Le (fRec a0 a1 a2) (fRec' a0 a1 a2)) (p1 : Tr31) (p2 : Int) : ∀ s, Le (BD fRec p1 p2 s) (BD fRec' p1 p2 s) := by
  rintro ⟨x4, x5⟩
  show Le (BD fRec p1 p2 (x4, x5)) (BD fRec' p1 p2 (x4, x5))
  unfold BD
  repeat' with_reducible (first | refine Le.orR' ?_ ?_ | refine Le.bind' ?_ ?_ | refine Le.ite' ?_ ?_ | refine Le.loopM ?_ | refine Le.altS' ?_ ?_ | exact hfRec | exact hfRec _ _ _ | exact Le.rfl' _ | (refine Le.pi2 ?_; intro _) | intro _)
def C9 (nE : Nat) (fRec : Int → Tr31 → Int → Option (Bool × Int)) (p0 : Int) (p1 : Tr31) (p2 : Int) : Option (Bool × Int) := (if (AJ (p0 - 1)) < 0 then some true else (if p2 < 1 then some true else (Gn nE p1).bind fun x2 => some (!x2))).bind fun x1 => (if x1 = true then some (false, AJ (p0 - 1)) else Im (IF nE (Dd nE fRec p1 p2) (0, AJ (p0 - 1))) fun x3 => some (true, x3))
theorem Fs (nE : Nat) {fRec fRec' : Int → Tr31 → Int → Option (Bool × Int)} (hfRec : ∀ a0 a1 a2, Le (fRec a0 a1 a2) (fRec' a0 a1 a2)) (p0 : Int) (p1 : Tr31) (p2 : Int) : Le (C9 nE fRec p0 p1 p2) (BT fRec' p0 p1 p2) := by
  unfold C9 BT
  repeat' with_reducible (first | refine Le.orR' ?_ ?_ | refine Le.bind' ?_ ?_ | refine Le.ite' ?_ ?_ | refine Le.loop' ?_ | refine Le.altS' ?_ ?_ | exact hfRec | exact hfRec _ _ _ | apply Jw | apply Fk | exact Le.rfl' _ | (refine Le.pi2 ?_; intro _) | intro _)
theorem Fg {fRec fRec' : Int → Tr31 → Int → Option (Bool × Int)} (hfRec : ∀ a0 a1 a2, Le (fRec a0 a1 a2) (fRec' a0 a1 a2)) (p0 : Int) (p1 : Tr31) (p2 : Int) : Le (BT fRec p0 p1 p2) (BT fRec' p0 p1 p2) := by
  unfold BT
  repeat' with_reducible (first | refine Le.orR' ?_ ?_ | refine Le.bind' ?_ ?_ | refine Le.ite' ?_ ?_ | refine Le.loopM ?_ | refine Le.altS' ?_ ?_ | exact hfRec | exact hfRec _ _ _ | apply Fq | exact Le.rfl' _ | (refine Le.pi2 ?_; intro _) | intro _)
def Dq (nE : Nat) : Nat → Int → Tr31 → Int → Option (Bool × Int)
  | 0 => fun _ _ _ => none
  | n + 1 => C9 nE (Dq nE n)
theorem D6 (nE : Nat) : ∀ (m : Nat) a0 a1 a2, Le (Dq nE m a0 a1 a2) (B9 m a0 a1 a2)
  | 0, a0, a1, a2 => fun _ h => nomatch h
  | m + 1, a0, a1, a2 => Fs nE (D6 nE m) a0 a1 a2
theorem D4 : ∀ (m : Nat) a0 a1 a2, Le (B9 m a0 a1 a2) (B9 (m + 1) a0 a1 a2)
  | 0, a0, a1, a2 => fun _ h => nomatch h
  | m + 1, a0, a1, a2 => Fg (D4 m) a0 a1 a2
def EA (nE : Nat) (p0 : Int) (p1 : Tr31) (p2 : Int) : Option (Bool × Int) := Dq nE nE p0 p1 p2
theorem FX (nE : Nat) (p0 : Int) (p1 : Tr31) (p2 : Int) : Le (EA nE p0 p1 p2) (D2 p0 p1 p2) := fun r e => Ev (g := fun n => B9 n p0 p1 p2) (fun n r h => D4 n p0 p1 p2 r h) (n := nE) (D6 nE nE p0 p1 p2 r e)
def FP (nE : Nat) (p0 : Tr31) : Option Bool := (EA nE 64 p0 8).bind fun x1 => some x1.1
theorem I0 (nE : Nat) (p0 : Tr31) : Le (FP nE p0) (EW p0) := by
  unfold FP EW
  repeat' with_reducible (first | refine Le.orR' ?_ ?_ | refine Le.bind' ?_ ?_ | refine Le.ite' ?_ ?_ | refine Le.loop' ?_ | refine Le.altS' ?_ ?_ | apply FX | exact Le.rfl' _ | (refine Le.pi2 ?_; intro _) | intro _)
def HJ (nE : Nat)  : Option Bool := ((Hz nE (Tr31.of (4, 0, 0, ([Tr31.of (6, 0, 0, ([Tr31.of (3, 1, 1, ([] : List Tr31)), Tr31.of (3, 1, 2, ([] : List Tr31))] : List Tr31))] : List Tr31)))).bind fun x2 => (Gb nE x2).bind fun x3 => (if x3 = ([110, 111, 116, 32, 100, 115, 116, 32, 61, 32, 49, 32, 97, 110, 100, 32, 110, 111, 116, 32, 100, 115, 116, 32, 61, 32, 50] : List UInt8) then (Gb nE (Tr31.of (4, 0, 0, ([Tr31.of (6, 0, 0, ([Tr31.of (3, 1, 1, ([] : List Tr31)), Tr31.of (3, 1, 2, ([] : List Tr31))] : List Tr31))] : List Tr31)))).bind fun x4 => (if x4 = ([110, 111, 116, 32, 40, 100, 115, 116, 32, 61, 32, 49, 32, 111, 114, 32, 100, 115, 116, 32, 61, 32, 50, 41] : List UInt8) then (Fe nE (Tr31.of (4, 0, 0, ([Tr31.of (6, 0, 0, ([Tr31.of (3, 1, 1, ([] : List Tr31)), Tr31.of (3, 1, 2, ([] : List Tr31))] : List Tr31))] : List Tr31))) 0 0 (0, 3, 0, 0)).bind fun x5 => (if x5 = true then (Fe nE (Tr31.of (4, 0, 0, ([Tr31.of (6, 0, 0, ([Tr31.of (3, 1, 1, ([] : List Tr31)), Tr31.of (3, 1, 2, ([] : List Tr31))] : List Tr31))] : List Tr31))) 0 0 (0, 2, 0, 0)).bind fun x6 => (if (!x6) = true then (FP nE (Tr31.of (4, 0, 0, ([Tr31.of (6, 0, 0, ([Tr31.of (3, 1, 1, ([] : List Tr31)), Tr31.of (3, 1, 2, ([] : List Tr31))] : List Tr31))] : List Tr31)))).bind fun x7 => some x7 else some false) else some false) else some false) else some false)).bind fun x1 => some x1
theorem Jp (nE : Nat)  : Le (HJ nE ) (Eo ) := by
  unfold HJ Eo
  repeat' with_reducible (first | refine Le.orR' ?_ ?_ | refine Le.bind' ?_ ?_ | refine Le.ite' ?_ ?_ | refine Le.loop' ?_ | refine Le.altS' ?_ ?_ | apply JI | apply JG | apply JH | apply I0 | exact Le.rfl' _ | (refine Le.pi2 ?_; intro _) | intro _)
theorem JL : Eo = some true := Jp 60 _ (by kernel_rfl)
end Go.Proofs.YtepfcpffbabgmaaDoor
