/- Twins with fuel of O7 functions: what a twin answers, the function answers. Conditions: none. -/
import Derived.Test.YtpckgggmgijiiaaGreatDooreLP
import Derived.Test.YtpckgggmgijiiaaGreatDooreA3
namespace Go.Proofs.YtpckgggmgijiiaaGreatDoor
open Go Go.RowKit
set_option linter.unusedVariables false
set_option linter.unusedSimpArgs false
set_option maxRecDepth 20000
set_option maxHeartbeats 1600000
abbrev Le {α : Type} (a b : Option α) : Prop := ∀ r,a = some r → b = some r
theorem Le.rfl' {α : Type} (a : Option α) : Le a a := fun _ h => h
theorem Le.bind' {α β : Type} {a b : Option α} {f g : α → Option β} (h : Le a b) (hf : ∀ x,Le (f x) (g x)) : Le (a.bind f) (b.bind g) := fun r e => by
  obtain ⟨x,h1,h2⟩ := A1 e
  rw [h x h1,Option.bind_some]; exact hf x r h2
theorem Le.ite' {α : Type} {c : Prop} [Decidable c] {a a' b b' : Option α} (h1 : Le a a') (h2 : Le b b') : Le (if c then a else b) (if c then a' else b') := fun r e => by
  by_cases h : c
  · rw [if_pos h] at e ⊢; exact h1 r e
  · rw [if_neg h] at e ⊢; exact h2 r e
theorem Le.orR' {α β : Type} {a b : Option (α ⊕ β)} {f g : α → Option β} (h : Le a b) (hf : ∀ x,Le (f x) (g x)) : Le (Hw a f) (Hw b g) :=
  Le.bind' h fun x => by
    cases x with
    | inl t => exact hf t
    | inr e => exact Le.rfl' _
def Ju {σ ε : Type} (n : Nat) (step : σ → Option (σ ⊕ ε)) (s : σ) : Option ε := HW step n s
theorem M9 {σ ε : Type} {S T : σ → Option (σ ⊕ ε)} (h : ∀ s,Le (S s) (T s)) : ∀ (n : Nat) (s : σ),Le (HW S n s) (HW T n s)
  | 0,s => Le.rfl' _
  | n + 1,s => fun r e => by
    unfold HW at e ⊢
    cases hs : S s with
    | none => rw [hs] at e; cases e
    | some q =>
      rw [hs] at e; rw [h s q hs]
      cases q with
      | inl s' => exact M9 h n s' r e
      | inr _ => exact e
theorem Le.loop' {σ ε : Type} {n : Nat} {S T : σ → Option (σ ⊕ ε)} {s : σ} (h : ∀ s,Le (S s) (T s)) : Le (Ju n S s) (Af T s) := fun r e => Gi.2 ⟨n,M9 h n s r e⟩
theorem Le.pi2 {α β γ : Type} {f g : α × β → Option γ} (h : ∀ a b,Le (f (a,b)) (g (a,b))) : ∀ x,Le (f x) (g x) := fun x => h x.1 x.2
theorem Bq {β : Type} {g : Nat → Option β} (hm : ∀ n r,g n = some r → g (n + 1) = some r) {n : Nat} {r : β} (h : g n = some r) : E2 g = some r := by
  have up : ∀ (d m : Nat) (q : β),g m = some q → g (m + d) = some q := fun d => by
    induction d with
    | zero => exact fun m q h => h
    | succ d ih => exact fun m q h => hm _ _ (ih m q h)
  refine UO n h fun m q hq => ?_
  have h1 := up m n r h
  have h2 := up n m q hq
  rw [Nat.add_comm] at h2
  exact Option.some.inj (h2.symm.trans h1)
theorem Le.loopM {σ ε : Type} {S T : σ → Option (σ ⊕ ε)} {s : σ} (h : ∀ s,Le (S s) (T s)) : Le (Af S s) (Af T s) := fun r e => by
  obtain ⟨n,hn⟩ := Gi.1 e
  exact Gi.2 ⟨n,M9 h n s r hn⟩
theorem Le.sall' {κ : Type} {lt : κ → κ → Bool} {f g : κ → Option (List κ)} (h : ∀ x,Le (f x) (g x)) : ∀ (l a : List κ),Le (Gj lt f l a) (Gj lt g l a)
  | [],a => Le.rfl' _
  | x :: l,a => by
    show Le ((f x).bind _) ((g x).bind _)
    exact Le.bind' (h x) fun r => Le.sall' h l _
theorem RO {fRec fRec' : Tr24 → Option Int} (hfRec : ∀ a0,Le (fRec a0) (fRec' a0)) (p0 : Tr24) : ∀ s,Le (Di fRec p0 s) (Di fRec' p0 s) := by
  rintro ⟨x2,x3⟩
  show Le (Di fRec p0 (x2,x3)) (Di fRec' p0 (x2,x3))
  unfold Di
  repeat' with_reducible (first | apply Le.bind' | apply Le.ite' | exact hfRec | exact hfRec _ | exact Le.rfl' _ | intro _)
theorem RF {fRec fRec' : Tr24 → Option Int} (hfRec : ∀ a0,Le (fRec a0) (fRec' a0)) (p0 : Tr24) : Le (EH fRec p0) (EH fRec' p0) := by
  unfold EH
  repeat' with_reducible (first | apply Le.bind' | apply Le.loopM | exact hfRec | exact hfRec _ | apply RO | exact Le.rfl' _ | intro _)
theorem MW : ∀ (m : Nat) a0,Le (ET m a0) (ET (m + 1) a0)
  | 0,a0 => fun _ h => nomatch h
  | m + 1,a0 => RF (MW m) a0
theorem PF {fRec fRec' : Tr27 → Option Int} (hfRec : ∀ a0,Le (fRec a0) (fRec' a0)) (p0 : Tr27) : ∀ s,Le (DD fRec p0 s) (DD fRec' p0 s) := by
  rintro ⟨x3,x4⟩
  show Le (DD fRec p0 (x3,x4)) (DD fRec' p0 (x3,x4))
  unfold DD
  repeat' with_reducible (first | apply Le.bind' | apply Le.ite' | exact hfRec | exact hfRec _ | exact Le.rfl' _ | intro _)
theorem PH {fRec fRec' : Tr27 → Option Int} (hfRec : ∀ a0,Le (fRec a0) (fRec' a0)) (p0 : Tr27) : Le (Ft fRec p0) (Ft fRec' p0) := by
  unfold Ft
  repeat' with_reducible (first | apply Le.bind' | apply Le.loopM | exact hfRec | exact hfRec _ | apply PF | exact Le.rfl' _ | intro _)
theorem LP : ∀ (m : Nat) a0,Le (D2 m a0) (D2 (m + 1) a0)
  | 0,a0 => fun _ h => nomatch h
  | m + 1,a0 => PH (LP m) a0
def KG (nE : Nat) (p0 : Int × Int × Int × Int) (p1 : Int) : Option Int := (if (!(Cv p1)) = true then some 0 else (ix ([p0.1,p0.2.1,p0.2.2.1,p0.2.2.2] : List Int) p1).bind fun x1 => some x1)
theorem SJ (nE : Nat) (p0 : Int × Int × Int × Int) (p1 : Int) : Le (KG nE p0 p1) (G7 p0 p1) := by
  unfold KG G7
  repeat' with_reducible (first | apply Le.bind' | apply Le.ite' | exact Le.rfl' _ | intro _)
def Nb (nE : Nat) (p0 : Int) (p1 : Int) (p2 : Int) (p3 : Int × Int × Int × Int) : Option Int := (if p0 = 4 then some p2 else (if p0 = 5 then some p1 else (if (Dw p0) = true then (KG nE p3 p0).bind fun x1 => some x1 else some (-1))))
theorem Vt (nE : Nat) (p0 : Int) (p1 : Int) (p2 : Int) (p3 : Int × Int × Int × Int) : Le (Nb nE p0 p1 p2 p3) (Jb p0 p1 p2 p3) := by
  unfold Nb Jb
  repeat' with_reducible (first | apply Le.bind' | apply Le.ite' | apply SJ | exact Le.rfl' _ | intro _)
def ED (nE : Nat) (fRec_pred_arrival_satisfies : (Int × Sq) → Tr34 → Option Bool) (p0 : Int × Sq) (p1 : Tr34) : Option Bool := (fRec_pred_arrival_satisfies p0 p1).bind fun x1 => some (!x1)
theorem Hz (nE : Nat) {fRec_pred_arrival_satisfies fRec_pred_arrival_satisfies' : (Int × Sq) → Tr34 → Option Bool} (hfRec_pred_arrival_satisfies : ∀ a0 a1,Le (fRec_pred_arrival_satisfies a0 a1) (fRec_pred_arrival_satisfies' a0 a1)) (p0 : Int × Sq) (p1 : Tr34) : Le (ED nE fRec_pred_arrival_satisfies p0 p1) (A8 fRec_pred_arrival_satisfies' p0 p1) := by
  unfold ED A8
  repeat' with_reducible (first | apply Le.bind' | exact hfRec_pred_arrival_satisfies | exact hfRec_pred_arrival_satisfies _ _ | exact Le.rfl' _ | intro _)
theorem Hy {fRec_pred_arrival_satisfies fRec_pred_arrival_satisfies' : (Int × Sq) → Tr34 → Option Bool} (hfRec_pred_arrival_satisfies : ∀ a0 a1,Le (fRec_pred_arrival_satisfies a0 a1) (fRec_pred_arrival_satisfies' a0 a1)) (p0 : Int × Sq) (p1 : Tr34) : Le (A8 fRec_pred_arrival_satisfies p0 p1) (A8 fRec_pred_arrival_satisfies' p0 p1) := by
  unfold A8
  repeat' with_reducible (first | apply Le.bind' | exact hfRec_pred_arrival_satisfies | exact hfRec_pred_arrival_satisfies _ _ | exact Le.rfl' _ | intro _)
def Ch (nE : Nat) (fRec_pred_arrival_satisfies : (Int × Sq) → Tr34 → Option Bool) (p0 : List Tr34) (p1f0 : Int × Sq) : Int → Option (Int ⊕ (Unit ⊕ Int))
  | x1 => (if x1 < (p0.length : Int) then (ix p0 x1).bind fun x2 => ((ED nE fRec_pred_arrival_satisfies) p1f0 x2).bind fun x3 => (if x3 = true then some (.inr (.inr x1)) else some (.inl (Aq (x1 + 1)))) else some (.inr (.inl ())))
theorem Fq (nE : Nat) {fRec_pred_arrival_satisfies fRec_pred_arrival_satisfies' : (Int × Sq) → Tr34 → Option Bool} (hfRec_pred_arrival_satisfies : ∀ a0 a1,Le (fRec_pred_arrival_satisfies a0 a1) (fRec_pred_arrival_satisfies' a0 a1)) (p0 : List Tr34) (p1f0 : Int × Sq) : ∀ s,Le (Ch nE fRec_pred_arrival_satisfies p0 p1f0 s) (Ak fRec_pred_arrival_satisfies' p0 p1f0 s) := by
  intro x1
  unfold Ch Ak
  repeat' with_reducible (first | apply Le.bind' | apply Le.ite' | exact hfRec_pred_arrival_satisfies | exact hfRec_pred_arrival_satisfies _ _ | apply Hz | exact Le.rfl' _ | intro _)
theorem Fu {fRec_pred_arrival_satisfies fRec_pred_arrival_satisfies' : (Int × Sq) → Tr34 → Option Bool} (hfRec_pred_arrival_satisfies : ∀ a0 a1,Le (fRec_pred_arrival_satisfies a0 a1) (fRec_pred_arrival_satisfies' a0 a1)) (p0 : List Tr34) (p1f0 : Int × Sq) : ∀ s,Le (Ak fRec_pred_arrival_satisfies p0 p1f0 s) (Ak fRec_pred_arrival_satisfies' p0 p1f0 s) := by
  intro x1
  unfold Ak
  repeat' with_reducible (first | apply Le.bind' | apply Le.ite' | exact hfRec_pred_arrival_satisfies | exact hfRec_pred_arrival_satisfies _ _ | apply Hy | exact Le.rfl' _ | intro _)
def Cx (nE : Nat) (fRec_pred_arrival_satisfies : (Int × Sq) → Tr34 → Option Bool) (p0 : List Tr34) (p1f0 : Int × Sq) : Option Int := Hw (Ju nE (Ch nE fRec_pred_arrival_satisfies p0 p1f0) 0) fun _ => some (-1)
theorem FY (nE : Nat) {fRec_pred_arrival_satisfies fRec_pred_arrival_satisfies' : (Int × Sq) → Tr34 → Option Bool} (hfRec_pred_arrival_satisfies : ∀ a0 a1,Le (fRec_pred_arrival_satisfies a0 a1) (fRec_pred_arrival_satisfies' a0 a1)) (p0 : List Tr34) (p1f0 : Int × Sq) : Le (Cx nE fRec_pred_arrival_satisfies p0 p1f0) (Az fRec_pred_arrival_satisfies' p0 p1f0) := by
  unfold Cx Az
  repeat' with_reducible (first | apply Le.orR' | apply Le.loop' | exact hfRec_pred_arrival_satisfies | exact hfRec_pred_arrival_satisfies _ _ | apply Fq | exact Le.rfl' _ | intro _)
theorem FZ {fRec_pred_arrival_satisfies fRec_pred_arrival_satisfies' : (Int × Sq) → Tr34 → Option Bool} (hfRec_pred_arrival_satisfies : ∀ a0 a1,Le (fRec_pred_arrival_satisfies a0 a1) (fRec_pred_arrival_satisfies' a0 a1)) (p0 : List Tr34) (p1f0 : Int × Sq) : Le (Az fRec_pred_arrival_satisfies p0 p1f0) (Az fRec_pred_arrival_satisfies' p0 p1f0) := by
  unfold Az
  repeat' with_reducible (first | apply Le.orR' | apply Le.loopM | exact hfRec_pred_arrival_satisfies | exact hfRec_pred_arrival_satisfies _ _ | apply Fu | exact Le.rfl' _ | intro _)
def Cf (nE : Nat) (fRec_pred_arrival_satisfies : (Int × Sq) → Tr34 → Option Bool) (p0 : List Tr34) (p1f0 : Int × Sq) : Option Bool := ((Cx nE fRec_pred_arrival_satisfies) p0 p1f0).bind fun x1 => some (decide (0 ≤ x1))
theorem FD (nE : Nat) {fRec_pred_arrival_satisfies fRec_pred_arrival_satisfies' : (Int × Sq) → Tr34 → Option Bool} (hfRec_pred_arrival_satisfies : ∀ a0 a1,Le (fRec_pred_arrival_satisfies a0 a1) (fRec_pred_arrival_satisfies' a0 a1)) (p0 : List Tr34) (p1f0 : Int × Sq) : Le (Cf nE fRec_pred_arrival_satisfies p0 p1f0) (AA fRec_pred_arrival_satisfies' p0 p1f0) := by
  unfold Cf AA
  repeat' with_reducible (first | apply Le.bind' | exact hfRec_pred_arrival_satisfies | exact hfRec_pred_arrival_satisfies _ _ | apply FY | exact Le.rfl' _ | intro _)
theorem FF {fRec_pred_arrival_satisfies fRec_pred_arrival_satisfies' : (Int × Sq) → Tr34 → Option Bool} (hfRec_pred_arrival_satisfies : ∀ a0 a1,Le (fRec_pred_arrival_satisfies a0 a1) (fRec_pred_arrival_satisfies' a0 a1)) (p0 : List Tr34) (p1f0 : Int × Sq) : Le (AA fRec_pred_arrival_satisfies p0 p1f0) (AA fRec_pred_arrival_satisfies' p0 p1f0) := by
  unfold AA
  repeat' with_reducible (first | apply Le.bind' | exact hfRec_pred_arrival_satisfies | exact hfRec_pred_arrival_satisfies _ _ | apply FZ | exact Le.rfl' _ | intro _)
def Ca (nE : Nat) (fRec_pred_arrival_satisfies : (Int × Sq) → Tr34 → Option Bool) (p0 : List Tr34) (p1f0 : Int × Sq) : Int → Option (Int ⊕ (Unit ⊕ Int))
  | x1 => (if x1 < (p0.length : Int) then (ix p0 x1).bind fun x2 => (fRec_pred_arrival_satisfies p1f0 x2).bind fun x3 => (if x3 = true then some (.inr (.inr x1)) else some (.inl (Aq (x1 + 1)))) else some (.inr (.inl ())))
theorem Fb (nE : Nat) {fRec_pred_arrival_satisfies fRec_pred_arrival_satisfies' : (Int × Sq) → Tr34 → Option Bool} (hfRec_pred_arrival_satisfies : ∀ a0 a1,Le (fRec_pred_arrival_satisfies a0 a1) (fRec_pred_arrival_satisfies' a0 a1)) (p0 : List Tr34) (p1f0 : Int × Sq) : ∀ s,Le (Ca nE fRec_pred_arrival_satisfies p0 p1f0 s) (Aj fRec_pred_arrival_satisfies' p0 p1f0 s) := by
  intro x1
  unfold Ca Aj
  repeat' with_reducible (first | apply Le.bind' | apply Le.ite' | exact hfRec_pred_arrival_satisfies | exact hfRec_pred_arrival_satisfies _ _ | exact Le.rfl' _ | intro _)
theorem E7 {fRec_pred_arrival_satisfies fRec_pred_arrival_satisfies' : (Int × Sq) → Tr34 → Option Bool} (hfRec_pred_arrival_satisfies : ∀ a0 a1,Le (fRec_pred_arrival_satisfies a0 a1) (fRec_pred_arrival_satisfies' a0 a1)) (p0 : List Tr34) (p1f0 : Int × Sq) : ∀ s,Le (Aj fRec_pred_arrival_satisfies p0 p1f0 s) (Aj fRec_pred_arrival_satisfies' p0 p1f0 s) := by
  intro x1
  unfold Aj
  repeat' with_reducible (first | apply Le.bind' | apply Le.ite' | exact hfRec_pred_arrival_satisfies | exact hfRec_pred_arrival_satisfies _ _ | exact Le.rfl' _ | intro _)
def Cr (nE : Nat) (fRec_pred_arrival_satisfies : (Int × Sq) → Tr34 → Option Bool) (p0 : List Tr34) (p1f0 : Int × Sq) : Option Int := Hw (Ju nE (Ca nE fRec_pred_arrival_satisfies p0 p1f0) 0) fun _ => some (-1)
theorem FG (nE : Nat) {fRec_pred_arrival_satisfies fRec_pred_arrival_satisfies' : (Int × Sq) → Tr34 → Option Bool} (hfRec_pred_arrival_satisfies : ∀ a0 a1,Le (fRec_pred_arrival_satisfies a0 a1) (fRec_pred_arrival_satisfies' a0 a1)) (p0 : List Tr34) (p1f0 : Int × Sq) : Le (Cr nE fRec_pred_arrival_satisfies p0 p1f0) (Au fRec_pred_arrival_satisfies' p0 p1f0) := by
  unfold Cr Au
  repeat' with_reducible (first | apply Le.orR' | apply Le.loop' | exact hfRec_pred_arrival_satisfies | exact hfRec_pred_arrival_satisfies _ _ | apply Fb | exact Le.rfl' _ | intro _)
theorem FL {fRec_pred_arrival_satisfies fRec_pred_arrival_satisfies' : (Int × Sq) → Tr34 → Option Bool} (hfRec_pred_arrival_satisfies : ∀ a0 a1,Le (fRec_pred_arrival_satisfies a0 a1) (fRec_pred_arrival_satisfies' a0 a1)) (p0 : List Tr34) (p1f0 : Int × Sq) : Le (Au fRec_pred_arrival_satisfies p0 p1f0) (Au fRec_pred_arrival_satisfies' p0 p1f0) := by
  unfold Au
  repeat' with_reducible (first | apply Le.orR' | apply Le.loopM | exact hfRec_pred_arrival_satisfies | exact hfRec_pred_arrival_satisfies _ _ | apply E7 | exact Le.rfl' _ | intro _)
def B9 (nE : Nat) (fRec_pred_arrival_satisfies : (Int × Sq) → Tr34 → Option Bool) (p0 : List Tr34) (p1f0 : Int × Sq) : Option Bool := ((Cr nE fRec_pred_arrival_satisfies) p0 p1f0).bind fun x1 => some (decide (0 ≤ x1))
theorem Fc (nE : Nat) {fRec_pred_arrival_satisfies fRec_pred_arrival_satisfies' : (Int × Sq) → Tr34 → Option Bool} (hfRec_pred_arrival_satisfies : ∀ a0 a1,Le (fRec_pred_arrival_satisfies a0 a1) (fRec_pred_arrival_satisfies' a0 a1)) (p0 : List Tr34) (p1f0 : Int × Sq) : Le (B9 nE fRec_pred_arrival_satisfies p0 p1f0) (Av fRec_pred_arrival_satisfies' p0 p1f0) := by
  unfold B9 Av
  repeat' with_reducible (first | apply Le.bind' | exact hfRec_pred_arrival_satisfies | exact hfRec_pred_arrival_satisfies _ _ | apply FG | exact Le.rfl' _ | intro _)
theorem E6 {fRec_pred_arrival_satisfies fRec_pred_arrival_satisfies' : (Int × Sq) → Tr34 → Option Bool} (hfRec_pred_arrival_satisfies : ∀ a0 a1,Le (fRec_pred_arrival_satisfies a0 a1) (fRec_pred_arrival_satisfies' a0 a1)) (p0 : List Tr34) (p1f0 : Int × Sq) : Le (Av fRec_pred_arrival_satisfies p0 p1f0) (Av fRec_pred_arrival_satisfies' p0 p1f0) := by
  unfold Av
  repeat' with_reducible (first | apply Le.bind' | exact hfRec_pred_arrival_satisfies | exact hfRec_pred_arrival_satisfies _ _ | apply FL | exact Le.rfl' _ | intro _)
def DV (nE : Nat) (fRec : (Int × Sq) → Tr34 → Option Bool) (p0 : Int × Sq) (p1 : Tr34) : Option Bool := (if p1.un.1 = 1 then some true else (if p1.un.1 = 3 then (if (Dw p1.un.2.1) = true then (Nb nE p1.un.2.1 p0.1 p0.2.1 p0.2.2).bind fun x2 => some (decide (x2 = p1.un.2.2.1)) else some false).bind fun x1 => some x1 else (if p1.un.1 = 4 then (if 0 < (p1.un.2.2.2.length : Int) then (ix p1.un.2.2.2 0).bind fun x4 => ((ED nE fRec) p0 x4).bind fun x5 => some x5 else some false).bind fun x3 => some x3 else (if p1.un.1 = 5 then ((Cf nE fRec) p1.un.2.2.2 p0).bind fun x6 => some (!x6) else (if p1.un.1 = 6 then ((B9 nE fRec) p1.un.2.2.2 p0).bind fun x7 => some x7 else some false)))))
theorem Ij (nE : Nat) {fRec fRec' : (Int × Sq) → Tr34 → Option Bool} (hfRec : ∀ a0 a1,Le (fRec a0 a1) (fRec' a0 a1)) (p0 : Int × Sq) (p1 : Tr34) : Le (DV nE fRec p0 p1) (AY fRec' p0 p1) := by
  unfold DV AY
  repeat' with_reducible (first | apply Le.bind' | apply Le.ite' | exact hfRec | exact hfRec _ _ | apply Vt | apply Hz | apply FD | apply Fc | exact Le.rfl' _ | intro _)
theorem Ip {fRec fRec' : (Int × Sq) → Tr34 → Option Bool} (hfRec : ∀ a0 a1,Le (fRec a0 a1) (fRec' a0 a1)) (p0 : Int × Sq) (p1 : Tr34) : Le (AY fRec p0 p1) (AY fRec' p0 p1) := by
  unfold AY
  repeat' with_reducible (first | apply Le.bind' | apply Le.ite' | exact hfRec | exact hfRec _ _ | apply Hy | apply FF | apply E6 | exact Le.rfl' _ | intro _)
def D9 (nE : Nat) : Nat → (Int × Sq) → Tr34 → Option Bool
  | 0 => fun _ _ => none
  | n + 1 => DV nE (D9 nE n)
theorem FU (nE : Nat) : ∀ (m : Nat) a0 a1,Le (D9 nE m a0 a1) (AM m a0 a1)
  | 0,a0,a1 => fun _ h => nomatch h
  | m + 1,a0,a1 => Ij nE (FU nE m) a0 a1
theorem DW : ∀ (m : Nat) a0 a1,Le (AM m a0 a1) (AM (m + 1) a0 a1)
  | 0,a0,a1 => fun _ h => nomatch h
  | m + 1,a0,a1 => Ip (DW m) a0 a1
def GD (nE : Nat) (p0 : Int × Sq) (p1 : Tr34) : Option Bool := D9 nE nE p0 p1
theorem Je (nE : Nat) (p0 : Int × Sq) (p1 : Tr34) : Le (GD nE p0 p1) (Da p0 p1) := fun r e => Bq (g := fun n => AM n p0 p1) (fun n r h => DW n p0 p1 r h) (n := nE) (FU nE nE p0 p1 r e)
def Jj (nE : Nat) (p0 : Tr34) (p1 : Int) (p2 : Int) (p3 : Int × Int × Int × Int) : Option Bool := (GD nE (p1,p2,p3) p0).bind fun x1 => some x1
theorem OE (nE : Nat) (p0 : Tr34) (p1 : Int) (p2 : Int) (p3 : Int × Int × Int × Int) : Le (Jj nE p0 p1 p2 p3) (Fe p0 p1 p2 p3) := by
  unfold Jj Fe
  repeat' with_reducible (first | apply Le.bind' | apply Je | exact Le.rfl' _ | intro _)
def JM (nE : Nat) (p0 : Int) : Option Int := (if p0 = 0 then some true else (if p0 = 1 then some true else some (decide (p0 = 3)))).bind fun x1 => (if x1 = true then some 8 else (if p0 = 2 then some 4 else some 0))
theorem Q6 (nE : Nat) (p0 : Int) : Le (JM nE p0) (Ge p0) := by
  unfold JM Ge
  repeat' with_reducible (first | apply Le.bind' | apply Le.ite' | exact Le.rfl' _ | intro _)
def Iu (nE : Nat) (p0 : Int) : Option Int := (JM nE p0).bind fun x1 => (jL (Jg .i64 1 x1) x1).bind fun x2 => some (Aq (x2 - 1))
theorem MV (nE : Nat) (p0 : Int) : Le (Iu nE p0) (Ga p0) := by
  unfold Iu Ga
  repeat' with_reducible (first | apply Le.bind' | apply Q6 | exact Le.rfl' _ | intro _)
def JD (nE : Nat) (p0 : Int) (p1 : Int) : Option Bool := (if 0 ≤ p1 then (Iu nE p0).bind fun x2 => some (decide (p1 ≤ x2)) else some false).bind fun x1 => some x1
theorem Rw (nE : Nat) (p0 : Int) (p1 : Int) : Le (JD nE p0 p1) (Ev p0 p1) := by
  unfold JD Ev
  repeat' with_reducible (first | apply Le.bind' | apply Le.ite' | apply MV | exact Le.rfl' _ | intro _)
def Jz (nE : Nat) (p0 : Int × Int × Int × Int) (p1 : Int) (p2 : Int) : Option (Int × Int × Int × Int) := ((if (Cv p1) = true then (JD nE p1 p2).bind fun x6 => some x6 else some false).bind fun x5 => (if x5 = true then (ix ([p0.1,p0.2.1,p0.2.2.1,p0.2.2.2] : List Int) p1).bind fun x7 => some ((if p1 = 0 then p2 else p0.1),(if p1 = 1 then p2 else p0.2.1),(if p1 = 2 then p2 else p0.2.2.1),(if p1 = 3 then p2 else p0.2.2.2)) else some (p0.1,p0.2.1,p0.2.2.1,p0.2.2.2))).bind fun (x1,x2,x3,x4) => some (x1,x2,x3,x4)
theorem Q4 (nE : Nat) (p0 : Int × Int × Int × Int) (p1 : Int) (p2 : Int) : Le (Jz nE p0 p1 p2) (D0 p0 p1 p2) := by
  unfold Jz D0
  repeat' with_reducible (first | apply Le.bind' | apply Le.ite' | apply Rw | exact Le.rfl' _ | (refine Le.pi2 ?_; intro _) | intro _)
def Hm (nE : Nat) (p0 : Sq) (p1 : Int) (p2 : Int) : Option Sq := (if p1 = 4 then some p2 else some p0.1).bind fun x1 => (Jz nE p0.2 p1 p2).bind fun x2 => some (x1,x2)
theorem Nm (nE : Nat) (p0 : Sq) (p1 : Int) (p2 : Int) : Le (Hm nE p0 p1 p2) (Cz p0 p1 p2) := by
  unfold Hm Cz
  repeat' with_reducible (first | apply Le.bind' | apply Le.ite' | apply Q4 | exact Le.rfl' _ | intro _)
def Fy (nE : Nat) (fRec_policy_results : Tr37 → Int → Sq → Option (List Sq)) (p1 : Int) (x4 : Tr37) (kx327 : Sq) : Option (List Sq) := (fRec_policy_results (Tr37.of (x4.un.1,f34 x4.un.2.1,x4.un.2.2.1,x4.un.2.2.2.1,x4.un.2.2.2.2)) p1 kx327).bind fun x6 => some x6
theorem Ko (nE : Nat) {fRec_policy_results fRec_policy_results' : Tr37 → Int → Sq → Option (List Sq)} (hfRec_policy_results : ∀ a0 a1 a2,Le (fRec_policy_results a0 a1 a2) (fRec_policy_results' a0 a1 a2)) (p1 : Int) (x4 : Tr37) (kx327 : Sq) : Le (Fy nE fRec_policy_results p1 x4 kx327) (BR fRec_policy_results' p1 x4 kx327) := by
  unfold Fy BR
  repeat' with_reducible (first | apply Le.bind' | exact hfRec_policy_results | exact hfRec_policy_results _ _ _ | exact Le.rfl' _ | intro _)
theorem JR {fRec_policy_results fRec_policy_results' : Tr37 → Int → Sq → Option (List Sq)} (hfRec_policy_results : ∀ a0 a1 a2,Le (fRec_policy_results a0 a1 a2) (fRec_policy_results' a0 a1 a2)) (p1 : Int) (x4 : Tr37) (kx327 : Sq) : Le (BR fRec_policy_results p1 x4 kx327) (BR fRec_policy_results' p1 x4 kx327) := by
  unfold BR
  repeat' with_reducible (first | apply Le.bind' | exact hfRec_policy_results | exact hfRec_policy_results _ _ _ | exact Le.rfl' _ | intro _)
def Fs (nE : Nat) (fRec_policy_results : Tr37 → Int → Sq → Option (List Sq)) (p0 : List Tr37) (p1 : Int) : ((List Sq) × Int) → Option (((List Sq) × Int) ⊕ (List Sq))
  | (x2,x3) => (if x3 < (p0.length : Int) then (ix p0 x3).bind fun x4 => (Gj AC (Fy nE fRec_policy_results p1 x4) x2 ([] : List Sq)).bind fun x5 => some (.inl (x5,Aq (x3 + 1))) else some (.inr x2))
theorem J1 (nE : Nat) {fRec_policy_results fRec_policy_results' : Tr37 → Int → Sq → Option (List Sq)} (hfRec_policy_results : ∀ a0 a1 a2,Le (fRec_policy_results a0 a1 a2) (fRec_policy_results' a0 a1 a2)) (p0 : List Tr37) (p1 : Int) : ∀ s,Le (Fs nE fRec_policy_results p0 p1 s) (Bc fRec_policy_results' p0 p1 s) := by
  rintro ⟨x2,x3⟩
  unfold Fs Bc
  repeat' with_reducible (first | apply Le.bind' | apply Le.ite' | refine Le.sall' ?_ _ _ | exact hfRec_policy_results | exact hfRec_policy_results _ _ _ | apply Ko | exact Le.rfl' _ | intro _)
theorem Kj {fRec_policy_results fRec_policy_results' : Tr37 → Int → Sq → Option (List Sq)} (hfRec_policy_results : ∀ a0 a1 a2,Le (fRec_policy_results a0 a1 a2) (fRec_policy_results' a0 a1 a2)) (p0 : List Tr37) (p1 : Int) : ∀ s,Le (Bc fRec_policy_results p0 p1 s) (Bc fRec_policy_results' p0 p1 s) := by
  rintro ⟨x2,x3⟩
  show Le (Bc fRec_policy_results p0 p1 (x2,x3)) (Bc fRec_policy_results' p0 p1 (x2,x3))
  unfold Bc
  repeat' with_reducible (first | apply Le.bind' | apply Le.ite' | refine Le.sall' ?_ _ _ | exact hfRec_policy_results | exact hfRec_policy_results _ _ _ | apply JR | exact Le.rfl' _ | intro _)
def Gu (nE : Nat) (fRec_policy_results : Tr37 → Int → Sq → Option (List Sq)) (p0 : List Tr37) (p1 : Int) (p2 : Sq) : Option (List Sq) := (Ju nE (Fs nE fRec_policy_results p0 p1) ((EK AC ([] : List Sq) p2),0)).bind fun x1 => some x1
theorem Ly (nE : Nat) {fRec_policy_results fRec_policy_results' : Tr37 → Int → Sq → Option (List Sq)} (hfRec_policy_results : ∀ a0 a1 a2,Le (fRec_policy_results a0 a1 a2) (fRec_policy_results' a0 a1 a2)) (p0 : List Tr37) (p1 : Int) (p2 : Sq) : Le (Gu nE fRec_policy_results p0 p1 p2) (B1 fRec_policy_results' p0 p1 p2) := by
  unfold Gu B1
  repeat' with_reducible (first | apply Le.bind' | apply Le.loop' | exact hfRec_policy_results | exact hfRec_policy_results _ _ _ | apply J1 | exact Le.rfl' _ | intro _)
theorem L6 {fRec_policy_results fRec_policy_results' : Tr37 → Int → Sq → Option (List Sq)} (hfRec_policy_results : ∀ a0 a1 a2,Le (fRec_policy_results a0 a1 a2) (fRec_policy_results' a0 a1 a2)) (p0 : List Tr37) (p1 : Int) (p2 : Sq) : Le (B1 fRec_policy_results p0 p1 p2) (B1 fRec_policy_results' p0 p1 p2) := by
  unfold B1
  repeat' with_reducible (first | apply Le.bind' | apply Le.loopM | exact hfRec_policy_results | exact hfRec_policy_results _ _ _ | apply Kj | exact Le.rfl' _ | intro _)
def Ic (nE : Nat) (p0 : Tr37) (p1 : Int) (p2 : Sq) : Option Tr37 := ((Jj nE (f34 p0.un.2.1) p1 p2.1 p2.2).bind fun x2 => (if x2 = true then some 0 else some 1)).bind fun x1 => (if (p0.un.2.2.2.2.length : Int) ≤ x1 then some (Tr37.of (0,Tr34.of (0,0,0,([] : List Tr34)),0,0,([] : List Tr37))) else (ix p0.un.2.2.2.2 x1).bind fun x3 => some (Tr37.of (x3.un.1,f34 x3.un.2.1,x3.un.2.2.1,x3.un.2.2.2.1,x3.un.2.2.2.2)))
theorem O3 (nE : Nat) (p0 : Tr37) (p1 : Int) (p2 : Sq) : Le (Ic nE p0 p1 p2) (EM p0 p1 p2) := by
  unfold Ic EM
  repeat' with_reducible (first | apply Le.bind' | apply Le.ite' | apply OE | exact Le.rfl' _ | intro _)
def Gv (nE : Nat) (fRec : Tr37 → Int → Sq → Option (List Sq)) (p0 : Tr37) (p1 : Int) (p2 : Sq) : ((List Sq) × Int) → Option (((List Sq) × Int) ⊕ (List Sq))
  | (x5,x6) => (if x6 < (p0.un.2.2.2.2.length : Int) then (ix p0.un.2.2.2.2 x6).bind fun x7 => (fRec (Tr37.of (x7.un.1,f34 x7.un.2.1,x7.un.2.2.1,x7.un.2.2.2.1,x7.un.2.2.2.2)) p1 p2).bind fun x8 => some (.inl ((Iw AC x5 x8),Aq (x6 + 1))) else some (.inr x5))
theorem Lm (nE : Nat) {fRec fRec' : Tr37 → Int → Sq → Option (List Sq)} (hfRec : ∀ a0 a1 a2,Le (fRec a0 a1 a2) (fRec' a0 a1 a2)) (p0 : Tr37) (p1 : Int) (p2 : Sq) : ∀ s,Le (Gv nE fRec p0 p1 p2 s) (BE fRec' p0 p1 p2 s) := by
  rintro ⟨x5,x6⟩
  unfold Gv BE
  repeat' with_reducible (first | apply Le.bind' | apply Le.ite' | exact hfRec | exact hfRec _ _ _ | exact Le.rfl' _ | intro _)
theorem Ma {fRec fRec' : Tr37 → Int → Sq → Option (List Sq)} (hfRec : ∀ a0 a1 a2,Le (fRec a0 a1 a2) (fRec' a0 a1 a2)) (p0 : Tr37) (p1 : Int) (p2 : Sq) : ∀ s,Le (BE fRec p0 p1 p2 s) (BE fRec' p0 p1 p2 s) := by
  rintro ⟨x5,x6⟩
  show Le (BE fRec p0 p1 p2 (x5,x6)) (BE fRec' p0 p1 p2 (x5,x6))
  unfold BE
  repeat' with_reducible (first | apply Le.bind' | apply Le.ite' | exact hfRec | exact hfRec _ _ _ | exact Le.rfl' _ | intro _)
def Gr (nE : Nat) (fRec : Tr37 → Int → Sq → Option (List Sq)) (p0 : Tr37) (p1 : Int) (p2 : Sq) : Option (List Sq) := Hw (if p0.un.1 = 1 then (Jj nE (f34 p0.un.2.1) p1 p2.1 p2.2).bind fun x1 => (if x1 = true then some (.inr (EK AC ([] : List Sq) p2)) else some (.inl ())) else (if p0.un.1 = 2 then (Hm nE p2 p0.un.2.2.1 p0.un.2.2.2.1).bind fun x2 => some (.inr (EK AC ([] : List Sq) x2)) else (if p0.un.1 = 3 then ((Gu nE fRec) p0.un.2.2.2.2 p1 p2).bind fun x3 => some (.inr x3) else (if p0.un.1 = 4 then (Ju nE (Gv nE fRec p0 p1 p2) (([] : List Sq),0)).bind fun x4 => some (.inr x4) else (if p0.un.1 = 5 then (Ic nE (Tr37.of (p0.un.1,f34 p0.un.2.1,p0.un.2.2.1,p0.un.2.2.2.1,p0.un.2.2.2.2)) p1 p2).bind fun x9 => (fRec (Tr37.of (x9.un.1,f34 x9.un.2.1,x9.un.2.2.1,x9.un.2.2.2.1,x9.un.2.2.2.2)) p1 p2).bind fun x10 => some (.inr x10) else some (.inl ())))))) fun _ => some ([] : List Sq)
theorem LG (nE : Nat) {fRec fRec' : Tr37 → Int → Sq → Option (List Sq)} (hfRec : ∀ a0 a1 a2,Le (fRec a0 a1 a2) (fRec' a0 a1 a2)) (p0 : Tr37) (p1 : Int) (p2 : Sq) : Le (Gr nE fRec p0 p1 p2) (AO fRec' p0 p1 p2) := by
  unfold Gr AO
  repeat' with_reducible (first | apply Le.orR' | apply Le.bind' | apply Le.ite' | apply Le.loop' | exact hfRec | exact hfRec _ _ _ | apply OE | apply Nm | apply Ly | apply O3 | apply Lm | exact Le.rfl' _ | intro _)
theorem LJ {fRec fRec' : Tr37 → Int → Sq → Option (List Sq)} (hfRec : ∀ a0 a1 a2,Le (fRec a0 a1 a2) (fRec' a0 a1 a2)) (p0 : Tr37) (p1 : Int) (p2 : Sq) : Le (AO fRec p0 p1 p2) (AO fRec' p0 p1 p2) := by
  unfold AO
  repeat' with_reducible (first | apply Le.orR' | apply Le.bind' | apply Le.ite' | apply Le.loopM | exact hfRec | exact hfRec _ _ _ | apply L6 | apply Ma | exact Le.rfl' _ | intro _)
def G0 (nE : Nat) : Nat → Tr37 → Int → Sq → Option (List Sq)
  | 0 => fun _ _ _ => none
  | n + 1 => Gr nE (G0 nE n)
theorem Ir (nE : Nat) : ∀ (m : Nat) a0 a1 a2,Le (G0 nE m a0 a1 a2) (AQ m a0 a1 a2)
  | 0,a0,a1,a2 => fun _ h => nomatch h
  | m + 1,a0,a1,a2 => LG nE (Ir nE m) a0 a1 a2
theorem Gt : ∀ (m : Nat) a0 a1 a2,Le (AQ m a0 a1 a2) (AQ (m + 1) a0 a1 a2)
  | 0,a0,a1,a2 => fun _ h => nomatch h
  | m + 1,a0,a1,a2 => LJ (Gt m) a0 a1 a2
def Pk (nE : Nat) (p0 : Tr37) (p1 : Int) (p2 : Sq) : Option (List Sq) := G0 nE nE p0 p1 p2
theorem NF (nE : Nat) (p0 : Tr37) (p1 : Int) (p2 : Sq) : Le (Pk nE p0 p1 p2) (El p0 p1 p2) := fun r e => Bq (g := fun n => AQ n p0 p1 p2) (fun n r h => Gt n p0 p1 p2 r h) (n := nE) (Ir nE nE p0 p1 p2 r e)
def IX (nE : Nat) (fRec_pred_Text : Tr34 → Option (List UInt8)) (p0 : List Tr34) : (List (List UInt8) × Int) → Option ((List (List UInt8) × Int) ⊕ (List (List UInt8)))
  | (x2,x3) => (if x3 < (p0.length : Int) then (ix p0 x3).bind fun x4 => (fRec_pred_Text x4).bind fun x5 => (if (decide (x4.un.1 = 5) || decide (x4.un.1 = 6)) = true then (Dg ([40] : List UInt8) x5).bind fun x7 => (Dg x7 ([41] : List UInt8)).bind fun x8 => some x8 else some x5).bind fun x6 => (Dg x2 ([x6] : List (List UInt8))).bind fun x9 => some (.inl (x9,Aq (x3 + 1))) else some (.inr x2))
theorem PD (nE : Nat) {fRec_pred_Text fRec_pred_Text' : Tr34 → Option (List UInt8)} (hfRec_pred_Text : ∀ a0,Le (fRec_pred_Text a0) (fRec_pred_Text' a0)) (p0 : List Tr34) : ∀ s,Le (IX nE fRec_pred_Text p0 s) (CC fRec_pred_Text' p0 s) := by
  rintro ⟨x2,x3⟩
  unfold IX CC
  repeat' with_reducible (first | apply Le.bind' | apply Le.ite' | exact hfRec_pred_Text | exact hfRec_pred_Text _ | exact Le.rfl' _ | intro _)
theorem P6 {fRec_pred_Text fRec_pred_Text' : Tr34 → Option (List UInt8)} (hfRec_pred_Text : ∀ a0,Le (fRec_pred_Text a0) (fRec_pred_Text' a0)) (p0 : List Tr34) : ∀ s,Le (CC fRec_pred_Text p0 s) (CC fRec_pred_Text' p0 s) := by
  rintro ⟨x2,x3⟩
  show Le (CC fRec_pred_Text p0 (x2,x3)) (CC fRec_pred_Text' p0 (x2,x3))
  unfold CC
  repeat' with_reducible (first | apply Le.bind' | apply Le.ite' | exact hfRec_pred_Text | exact hfRec_pred_Text _ | exact Le.rfl' _ | intro _)
def H5 (nE : Nat) (fRec_pred_Text : Tr34 → Option (List UInt8)) (p0 : List Tr34) (p1 : List UInt8) : Option (List UInt8) := (Ju nE (IX nE fRec_pred_Text p0) ([],0)).bind fun x1 => (I2 x1 p1).bind fun x10 => some x10
theorem T2 (nE : Nat) {fRec_pred_Text fRec_pred_Text' : Tr34 → Option (List UInt8)} (hfRec_pred_Text : ∀ a0,Le (fRec_pred_Text a0) (fRec_pred_Text' a0)) (p0 : List Tr34) (p1 : List UInt8) : Le (H5 nE fRec_pred_Text p0 p1) (D6 fRec_pred_Text' p0 p1) := by
  unfold H5 D6
  repeat' with_reducible (first | apply Le.bind' | apply Le.loop' | exact hfRec_pred_Text | exact hfRec_pred_Text _ | apply PD | exact Le.rfl' _ | intro _)
theorem Ud {fRec_pred_Text fRec_pred_Text' : Tr34 → Option (List UInt8)} (hfRec_pred_Text : ∀ a0,Le (fRec_pred_Text a0) (fRec_pred_Text' a0)) (p0 : List Tr34) (p1 : List UInt8) : Le (D6 fRec_pred_Text p0 p1) (D6 fRec_pred_Text' p0 p1) := by
  unfold D6
  repeat' with_reducible (first | apply Le.bind' | apply Le.loopM | exact hfRec_pred_Text | exact hfRec_pred_Text _ | apply P6 | exact Le.rfl' _ | intro _)
def IG (nE : Nat) (fRec : Tr34 → Option (List UInt8)) (p0 : Tr34) : Option (List UInt8) := (if p0.un.1 = 1 then some ([116,114,117,101] : List UInt8) else (if p0.un.1 = 2 then some ([102,97,108,115,101] : List UInt8) else (if p0.un.1 = 3 then (Dg (CQ p0.un.2.1) ([32,61,32] : List UInt8)).bind fun x1 => (Px p0.un.2.2.1).bind fun x2 => (Dg x1 x2).bind fun x3 => some x3 else (if p0.un.1 = 4 then ((H5 nE fRec) p0.un.2.2.2 ([] : List UInt8)).bind fun x4 => (Dg ([110,111,116,32] : List UInt8) x4).bind fun x5 => some x5 else (if p0.un.1 = 5 then ((H5 nE fRec) p0.un.2.2.2 ([32,97,110,100,32] : List UInt8)).bind fun x6 => some x6 else (if p0.un.1 = 6 then ((H5 nE fRec) p0.un.2.2.2 ([32,111,114,32] : List UInt8)).bind fun x7 => some x7 else some ([63] : List UInt8)))))))
theorem PC (nE : Nat) {fRec fRec' : Tr34 → Option (List UInt8)} (hfRec : ∀ a0,Le (fRec a0) (fRec' a0)) (p0 : Tr34) : Le (IG nE fRec p0) (DU fRec' p0) := by
  unfold IG DU
  repeat' with_reducible (first | apply Le.bind' | apply Le.ite' | exact hfRec | exact hfRec _ | apply T2 | exact Le.rfl' _ | intro _)
theorem P1 {fRec fRec' : Tr34 → Option (List UInt8)} (hfRec : ∀ a0,Le (fRec a0) (fRec' a0)) (p0 : Tr34) : Le (DU fRec p0) (DU fRec' p0) := by
  unfold DU
  repeat' with_reducible (first | apply Le.bind' | apply Le.ite' | exact hfRec | exact hfRec _ | apply Ud | exact Le.rfl' _ | intro _)
def JP (nE : Nat) : Nat → Tr34 → Option (List UInt8)
  | 0 => fun _ => none
  | n + 1 => IG nE (JP nE n)
theorem LQ (nE : Nat) : ∀ (m : Nat) a0,Le (JP nE m a0) (DK m a0)
  | 0,a0 => fun _ h => nomatch h
  | m + 1,a0 => PC nE (LQ nE m) a0
theorem IQ : ∀ (m : Nat) a0,Le (DK m a0) (DK (m + 1) a0)
  | 0,a0 => fun _ h => nomatch h
  | m + 1,a0 => P1 (IQ m) a0
def LS (nE : Nat) (p0 : Tr34) : Option (List UInt8) := JP nE nE p0
theorem NV (nE : Nat) (p0 : Tr34) : Le (LS nE p0) (IB p0) := fun r e => Bq (g := fun n => DK n p0) (fun n r h => IQ n p0 r h) (n := nE) (LQ nE nE p0 r e)
def Gs (nE : Nat) (p0 : Tr34) : Option (List UInt8) := (if p0.un.1 = 1 then some ([105,100] : List UInt8) else (if p0.un.1 = 2 then some ([100,114,111,112] : List UInt8) else (LS nE p0).bind fun x1 => (Dg ([119,104,101,110,32] : List UInt8) x1).bind fun x2 => some x2))
theorem Md (nE : Nat) (p0 : Tr34) : Le (Gs nE p0) (Db p0) := by
  unfold Gs Db
  repeat' with_reducible (first | apply Le.bind' | apply Le.ite' | apply NV | exact Le.rfl' _ | intro _)
def Fp (nE : Nat) (fRec_policy_Text : Tr37 → Option (List UInt8)) (p0 : List Tr37) : (List (List UInt8) × Int) → Option ((List (List UInt8) × Int) ⊕ (List (List UInt8)))
  | (x2,x3) => (if x3 < (p0.length : Int) then (ix p0 x3).bind fun x4 => (fRec_policy_Text (Tr37.of (x4.un.1,f34 x4.un.2.1,x4.un.2.2.1,x4.un.2.2.2.1,x4.un.2.2.2.2))).bind fun x5 => (if (decide (x4.un.1 = 3) || (decide (x4.un.1 = 4) || decide (x4.un.1 = 5))) = true then (Dg ([40] : List UInt8) x5).bind fun x7 => (Dg x7 ([41] : List UInt8)).bind fun x8 => some x8 else some x5).bind fun x6 => (Dg x2 ([x6] : List (List UInt8))).bind fun x9 => some (.inl (x9,Aq (x3 + 1))) else some (.inr x2))
theorem Kv (nE : Nat) {fRec_policy_Text fRec_policy_Text' : Tr37 → Option (List UInt8)} (hfRec_policy_Text : ∀ a0,Le (fRec_policy_Text a0) (fRec_policy_Text' a0)) (p0 : List Tr37) : ∀ s,Le (Fp nE fRec_policy_Text p0 s) (Bu fRec_policy_Text' p0 s) := by
  rintro ⟨x2,x3⟩
  unfold Fp Bu
  repeat' with_reducible (first | apply Le.bind' | apply Le.ite' | exact hfRec_policy_Text | exact hfRec_policy_Text _ | exact Le.rfl' _ | intro _)
theorem Kg {fRec_policy_Text fRec_policy_Text' : Tr37 → Option (List UInt8)} (hfRec_policy_Text : ∀ a0,Le (fRec_policy_Text a0) (fRec_policy_Text' a0)) (p0 : List Tr37) : ∀ s,Le (Bu fRec_policy_Text p0 s) (Bu fRec_policy_Text' p0 s) := by
  rintro ⟨x2,x3⟩
  show Le (Bu fRec_policy_Text p0 (x2,x3)) (Bu fRec_policy_Text' p0 (x2,x3))
  unfold Bu
  repeat' with_reducible (first | apply Le.bind' | apply Le.ite' | exact hfRec_policy_Text | exact hfRec_policy_Text _ | exact Le.rfl' _ | intro _)
def DS (nE : Nat) (fRec_policy_Text : Tr37 → Option (List UInt8)) (p0 : List Tr37) : Option (List (List UInt8)) := (Ju nE (Fp nE fRec_policy_Text p0) ([],0)).bind fun x1 => some x1
theorem Lz (nE : Nat) {fRec_policy_Text fRec_policy_Text' : Tr37 → Option (List UInt8)} (hfRec_policy_Text : ∀ a0,Le (fRec_policy_Text a0) (fRec_policy_Text' a0)) (p0 : List Tr37) : Le (DS nE fRec_policy_Text p0) (BS fRec_policy_Text' p0) := by
  unfold DS BS
  repeat' with_reducible (first | apply Le.bind' | apply Le.loop' | exact hfRec_policy_Text | exact hfRec_policy_Text _ | apply Kv | exact Le.rfl' _ | intro _)
theorem LV {fRec_policy_Text fRec_policy_Text' : Tr37 → Option (List UInt8)} (hfRec_policy_Text : ∀ a0,Le (fRec_policy_Text a0) (fRec_policy_Text' a0)) (p0 : List Tr37) : Le (BS fRec_policy_Text p0) (BS fRec_policy_Text' p0) := by
  unfold BS
  repeat' with_reducible (first | apply Le.bind' | apply Le.loopM | exact hfRec_policy_Text | exact hfRec_policy_Text _ | apply Kg | exact Le.rfl' _ | intro _)
def HH (nE : Nat) (fRec : Tr37 → Option (List UInt8)) (p0 : Tr37) : Option (List UInt8) := (if p0.un.1 = 1 then (Gs nE (f34 p0.un.2.1)).bind fun x1 => some x1 else (if p0.un.1 = 2 then (Dg (Cm p0.un.2.2.1) ([32,58,61,32] : List UInt8)).bind fun x2 => (Px p0.un.2.2.2.1).bind fun x3 => (Dg x2 x3).bind fun x4 => some x4 else (if p0.un.1 = 3 then ((DS nE fRec) p0.un.2.2.2.2).bind fun x5 => (I2 x5 ([59,32] : List UInt8)).bind fun x6 => some x6 else (if p0.un.1 = 4 then ((DS nE fRec) p0.un.2.2.2.2).bind fun x7 => (I2 x7 ([32,124,32] : List UInt8)).bind fun x8 => some x8 else (if p0.un.1 = 5 then (LS nE (f34 p0.un.2.1)).bind fun x9 => (Dg ([105,102,32] : List UInt8) x9).bind fun x10 => (Dg x10 ([32,116,104,101,110,32] : List UInt8)).bind fun x11 => ((DS nE fRec) p0.un.2.2.2.2).bind fun x12 => (I2 x12 ([32,101,108,115,101,32] : List UInt8)).bind fun x13 => (Dg x11 x13).bind fun x14 => some x14 else some ([63] : List UInt8))))))
theorem NB (nE : Nat) {fRec fRec' : Tr37 → Option (List UInt8)} (hfRec : ∀ a0,Le (fRec a0) (fRec' a0)) (p0 : Tr37) : Le (HH nE fRec p0) (C9 fRec' p0) := by
  unfold HH C9
  repeat' with_reducible (first | apply Le.bind' | apply Le.ite' | exact hfRec | exact hfRec _ | apply NV | apply Md | apply Lz | exact Le.rfl' _ | intro _)
theorem Nx {fRec fRec' : Tr37 → Option (List UInt8)} (hfRec : ∀ a0,Le (fRec a0) (fRec' a0)) (p0 : Tr37) : Le (C9 fRec p0) (C9 fRec' p0) := by
  unfold C9
  repeat' with_reducible (first | apply Le.bind' | apply Le.ite' | exact hfRec | exact hfRec _ | apply LV | exact Le.rfl' _ | intro _)
def Il (nE : Nat) : Nat → Tr37 → Option (List UInt8)
  | 0 => fun _ => none
  | n + 1 => HH nE (Il nE n)
theorem J4 (nE : Nat) : ∀ (m : Nat) a0,Le (Il nE m a0) (CP m a0)
  | 0,a0 => fun _ h => nomatch h
  | m + 1,a0 => NB nE (J4 nE m) a0
theorem HQ : ∀ (m : Nat) a0,Le (CP m a0) (CP (m + 1) a0)
  | 0,a0 => fun _ h => nomatch h
  | m + 1,a0 => Nx (HQ m) a0
def Sm (nE : Nat) (p0 : Tr37) : Option (List UInt8) := Il nE nE p0
theorem R4 (nE : Nat) (p0 : Tr37) : Le (Sm nE p0) (Fo p0) := fun r e => Bq (g := fun n => CP n p0) (fun n r h => HQ n p0 r h) (n := nE) (J4 nE nE p0 r e)
def Bb (nE : Nat) (fRec_pred_Same : Tr34 → Tr34 → Option Bool) (p0 : List Tr34) (p1 : List Tr34) : Int → Option (Int ⊕ (Unit ⊕ Bool))
  | x1 => (if x1 < (p0.length : Int) then (ix p0 x1).bind fun x2 => (ix p1 x1).bind fun x3 => (fRec_pred_Same x2 x3).bind fun x4 => (if (!x4) = true then some (.inr (.inr false)) else some (.inl (Aq (x1 + 1)))) else some (.inr (.inl ())))
theorem C7 (nE : Nat) {fRec_pred_Same fRec_pred_Same' : Tr34 → Tr34 → Option Bool} (hfRec_pred_Same : ∀ a0 a1,Le (fRec_pred_Same a0 a1) (fRec_pred_Same' a0 a1)) (p0 : List Tr34) (p1 : List Tr34) : ∀ s,Le (Bb nE fRec_pred_Same p0 p1 s) (Ab fRec_pred_Same' p0 p1 s) := by
  intro x1
  unfold Bb Ab
  repeat' with_reducible (first | apply Le.bind' | apply Le.ite' | exact hfRec_pred_Same | exact hfRec_pred_Same _ _ | exact Le.rfl' _ | intro _)
theorem Dd {fRec_pred_Same fRec_pred_Same' : Tr34 → Tr34 → Option Bool} (hfRec_pred_Same : ∀ a0 a1,Le (fRec_pred_Same a0 a1) (fRec_pred_Same' a0 a1)) (p0 : List Tr34) (p1 : List Tr34) : ∀ s,Le (Ab fRec_pred_Same p0 p1 s) (Ab fRec_pred_Same' p0 p1 s) := by
  intro x1
  unfold Ab
  repeat' with_reducible (first | apply Le.bind' | apply Le.ite' | exact hfRec_pred_Same | exact hfRec_pred_Same _ _ | exact Le.rfl' _ | intro _)
def Bn (nE : Nat) (fRec_pred_Same : Tr34 → Tr34 → Option Bool) (p0 : List Tr34) (p1 : List Tr34) : Option Bool := (if (p0.length : Int) ≠ (p1.length : Int) then some false else Hw (Ju nE (Bb nE fRec_pred_Same p0 p1) 0) fun _ => some true)
theorem Du (nE : Nat) {fRec_pred_Same fRec_pred_Same' : Tr34 → Tr34 → Option Bool} (hfRec_pred_Same : ∀ a0 a1,Le (fRec_pred_Same a0 a1) (fRec_pred_Same' a0 a1)) (p0 : List Tr34) (p1 : List Tr34) : Le (Bn nE fRec_pred_Same p0 p1) (Ae fRec_pred_Same' p0 p1) := by
  unfold Bn Ae
  repeat' with_reducible (first | apply Le.orR' | apply Le.ite' | apply Le.loop' | exact hfRec_pred_Same | exact hfRec_pred_Same _ _ | apply C7 | exact Le.rfl' _ | intro _)
theorem Ds {fRec_pred_Same fRec_pred_Same' : Tr34 → Tr34 → Option Bool} (hfRec_pred_Same : ∀ a0 a1,Le (fRec_pred_Same a0 a1) (fRec_pred_Same' a0 a1)) (p0 : List Tr34) (p1 : List Tr34) : Le (Ae fRec_pred_Same p0 p1) (Ae fRec_pred_Same' p0 p1) := by
  unfold Ae
  repeat' with_reducible (first | apply Le.orR' | apply Le.ite' | apply Le.loopM | exact hfRec_pred_Same | exact hfRec_pred_Same _ _ | apply Dd | exact Le.rfl' _ | intro _)
def II (nE : Nat) (fRec : Tr34 → Tr34 → Option Bool) (p0 : Tr34) (p1 : Tr34) : Option Bool := (if p0.un.1 = p1.un.1 then (if p0.un.2.1 = p1.un.2.1 then (if p0.un.2.2.1 = p1.un.2.2.1 then ((Bn nE fRec) p0.un.2.2.2 p1.un.2.2.2).bind fun x2 => some x2 else some false) else some false) else some false).bind fun x1 => some x1
theorem PI (nE : Nat) {fRec fRec' : Tr34 → Tr34 → Option Bool} (hfRec : ∀ a0 a1,Le (fRec a0 a1) (fRec' a0 a1)) (p0 : Tr34) (p1 : Tr34) : Le (II nE fRec p0 p1) (DT fRec' p0 p1) := by
  unfold II DT
  repeat' with_reducible (first | apply Le.bind' | apply Le.ite' | exact hfRec | exact hfRec _ _ | apply Du | exact Le.rfl' _ | intro _)
theorem P0 {fRec fRec' : Tr34 → Tr34 → Option Bool} (hfRec : ∀ a0 a1,Le (fRec a0 a1) (fRec' a0 a1)) (p0 : Tr34) (p1 : Tr34) : Le (DT fRec p0 p1) (DT fRec' p0 p1) := by
  unfold DT
  repeat' with_reducible (first | apply Le.bind' | apply Le.ite' | exact hfRec | exact hfRec _ _ | apply Ds | exact Le.rfl' _ | intro _)
def Jx (nE : Nat) : Nat → Tr34 → Tr34 → Option Bool
  | 0 => fun _ _ => none
  | n + 1 => II nE (Jx nE n)
theorem LL (nE : Nat) : ∀ (m : Nat) a0 a1,Le (Jx nE m a0 a1) (DF m a0 a1)
  | 0,a0,a1 => fun _ h => nomatch h
  | m + 1,a0,a1 => PI nE (LL nE m) a0 a1
theorem IJ : ∀ (m : Nat) a0 a1,Le (DF m a0 a1) (DF (m + 1) a0 a1)
  | 0,a0,a1 => fun _ h => nomatch h
  | m + 1,a0,a1 => P0 (IJ m) a0 a1
def Pl (nE : Nat) (p0 : Tr34) (p1 : Tr34) : Option Bool := Jx nE nE p0 p1
theorem Uw (nE : Nat) (p0 : Tr34) (p1 : Tr34) : Le (Pl nE p0 p1) (Iy p0 p1) := fun r e => Bq (g := fun n => DF n p0 p1) (fun n r h => IJ n p0 p1 r h) (n := nE) (LL nE nE p0 p1 r e)
def GN (nE : Nat) (p0 : Tr34) : Option Bool := (Pl nE p0 (Tr34.of (0,0,0,([] : List Tr34)))).bind fun x1 => some x1
theorem Pf (nE : Nat) (p0 : Tr34) : Le (GN nE p0) (D3 p0) := by
  unfold GN D3
  repeat' with_reducible (first | apply Le.bind' | apply Uw | exact Le.rfl' _ | intro _)
def KL (nE : Nat) (p0 : Int) : Option Int := (if (decide (p0 = 4) || decide (p0 = 5)) = true then some 7 else (Iu nE p0).bind fun x1 => some x1)
theorem Pn (nE : Nat) (p0 : Int) : Le (KL nE p0) (Jd p0) := by
  unfold KL Jd
  repeat' with_reducible (first | apply Le.bind' | apply Le.ite' | apply MV | exact Le.rfl' _ | intro _)
def JO (nE : Nat) (p0 : Tr37) : Option Bool := (if p0.un.1 = 2 then ((GN nE (f34 p0.un.2.1)).bind fun x2 => (if x2 = true then (if (p0.un.2.2.2.2.length : Int) = 0 then (if 0 ≤ p0.un.2.2.1 then (if p0.un.2.2.1 ≤ 4 then (if 0 ≤ p0.un.2.2.2.1 then (KL nE p0.un.2.2.1).bind fun x3 => some (decide (p0.un.2.2.2.1 ≤ x3)) else some false) else some false) else some false) else some false) else some false)).bind fun x1 => some x1 else (if (decide (p0.un.2.2.1 ≠ 0) || decide (p0.un.2.2.2.1 ≠ 0)) = true then some false else (if p0.un.1 = 1 then some (decide ((p0.un.2.2.2.2.length : Int) = 0)) else (if p0.un.1 = 3 then some true else some (decide (p0.un.1 = 4))).bind fun x4 => (if x4 = true then ((GN nE (f34 p0.un.2.1)).bind fun x6 => (if x6 = true then (if 2 ≤ (p0.un.2.2.2.2.length : Int) then some (decide ((p0.un.2.2.2.2.length : Int) ≤ 8)) else some false) else some false)).bind fun x5 => some x5 else (if p0.un.1 = 5 then some (decide ((p0.un.2.2.2.2.length : Int) = 2)) else some false)))))
theorem QB (nE : Nat) (p0 : Tr37) : Le (JO nE p0) (Hb p0) := by
  unfold JO Hb
  repeat' with_reducible (first | apply Le.bind' | apply Le.ite' | apply Pf | apply Pn | exact Le.rfl' _ | intro _)
def Lv (nE : Nat) (p0 : Tr34) : Option Bool := (if p0.un.1 = 3 then (if (Dw p0.un.2.1) = true then (if 0 ≤ p0.un.2.2.1 then (KL nE p0.un.2.1).bind fun x2 => (if p0.un.2.2.1 ≤ x2 then some (decide ((p0.un.2.2.2.length : Int) = 0)) else some false) else some false) else some false).bind fun x1 => some x1 else (if (decide (p0.un.2.1 ≠ 0) || decide (p0.un.2.2.1 ≠ 0)) = true then some false else (if p0.un.1 = 1 then some true else some (decide (p0.un.1 = 2))).bind fun x3 => (if x3 = true then some (decide ((p0.un.2.2.2.length : Int) = 0)) else (if p0.un.1 = 4 then some (decide ((p0.un.2.2.2.length : Int) = 1)) else (if p0.un.1 = 5 then some true else some (decide (p0.un.1 = 6))).bind fun x4 => (if x4 = true then some (decide (2 ≤ (p0.un.2.2.2.length : Int)) && decide ((p0.un.2.2.2.length : Int) ≤ 8)) else some false)))))
theorem Uo (nE : Nat) (p0 : Tr34) : Le (Lv nE p0) (HP p0) := by
  unfold Lv HP
  repeat' with_reducible (first | apply Le.bind' | apply Le.ite' | apply Pn | exact Le.rfl' _ | intro _)
def E5 (nE : Nat) (fRec : Int → Tr34 → Int → Option (Bool × Int)) (p1 : Tr34) (p2 : Int) : (Int × Int) → Option ((Int × Int) ⊕ (Int ⊕ (Bool × Int)))
  | (x4,x5) => (if x4 < (p1.un.2.2.2.length : Int) then (ix p1.un.2.2.2 x4).bind fun x6 => (fRec x5 x6 (Aq (p2 - 1))).bind fun x7 => (if (!x7.1) = true then some (.inr (.inr (false,x7.2))) else some (.inl (Aq (x4 + 1),x7.2))) else some (.inr (.inl x5)))
theorem JA (nE : Nat) {fRec fRec' : Int → Tr34 → Int → Option (Bool × Int)} (hfRec : ∀ a0 a1 a2,Le (fRec a0 a1 a2) (fRec' a0 a1 a2)) (p1 : Tr34) (p2 : Int) : ∀ s,Le (E5 nE fRec p1 p2 s) (AH fRec' p1 p2 s) := by
  rintro ⟨x4,x5⟩
  unfold E5 AH
  repeat' with_reducible (first | apply Le.bind' | apply Le.ite' | exact hfRec | exact hfRec _ _ _ | exact Le.rfl' _ | intro _)
theorem JL {fRec fRec' : Int → Tr34 → Int → Option (Bool × Int)} (hfRec : ∀ a0 a1 a2,Le (fRec a0 a1 a2) (fRec' a0 a1 a2)) (p1 : Tr34) (p2 : Int) : ∀ s,Le (AH fRec p1 p2 s) (AH fRec' p1 p2 s) := by
  rintro ⟨x4,x5⟩
  show Le (AH fRec p1 p2 (x4,x5)) (AH fRec' p1 p2 (x4,x5))
  unfold AH
  repeat' with_reducible (first | apply Le.bind' | apply Le.ite' | exact hfRec | exact hfRec _ _ _ | exact Le.rfl' _ | intro _)
def Fa (nE : Nat) (fRec : Int → Tr34 → Int → Option (Bool × Int)) (p0 : Int) (p1 : Tr34) (p2 : Int) : Option (Bool × Int) := (if (Aq (p0 - 1)) < 0 then some true else (if p2 < 1 then some true else (Lv nE p1).bind fun x2 => some (!x2))).bind fun x1 => (if x1 = true then some (false,Aq (p0 - 1)) else Hw (Ju nE (E5 nE fRec p1 p2) (0,Aq (p0 - 1))) fun x3 => some (true,x3))
theorem JK (nE : Nat) {fRec fRec' : Int → Tr34 → Int → Option (Bool × Int)} (hfRec : ∀ a0 a1 a2,Le (fRec a0 a1 a2) (fRec' a0 a1 a2)) (p0 : Int) (p1 : Tr34) (p2 : Int) : Le (Fa nE fRec p0 p1 p2) (Bi fRec' p0 p1 p2) := by
  unfold Fa Bi
  repeat' with_reducible (first | apply Le.orR' | apply Le.bind' | apply Le.ite' | apply Le.loop' | exact hfRec | exact hfRec _ _ _ | apply Uo | apply JA | exact Le.rfl' _ | intro _)
theorem JQ {fRec fRec' : Int → Tr34 → Int → Option (Bool × Int)} (hfRec : ∀ a0 a1 a2,Le (fRec a0 a1 a2) (fRec' a0 a1 a2)) (p0 : Int) (p1 : Tr34) (p2 : Int) : Le (Bi fRec p0 p1 p2) (Bi fRec' p0 p1 p2) := by
  unfold Bi
  repeat' with_reducible (first | apply Le.orR' | apply Le.bind' | apply Le.ite' | apply Le.loopM | exact hfRec | exact hfRec _ _ _ | apply JL | exact Le.rfl' _ | intro _)
def Fx (nE : Nat) : Nat → Int → Tr34 → Int → Option (Bool × Int)
  | 0 => fun _ _ _ => none
  | n + 1 => Fa nE (Fx nE n)
theorem Hc (nE : Nat) : ∀ (m : Nat) a0 a1 a2,Le (Fx nE m a0 a1 a2) (AK m a0 a1 a2)
  | 0,a0,a1,a2 => fun _ h => nomatch h
  | m + 1,a0,a1,a2 => JK nE (Hc nE m) a0 a1 a2
theorem DL : ∀ (m : Nat) a0 a1 a2,Le (AK m a0 a1 a2) (AK (m + 1) a0 a1 a2)
  | 0,a0,a1,a2 => fun _ h => nomatch h
  | m + 1,a0,a1,a2 => JQ (DL m) a0 a1 a2
def H2 (nE : Nat) (p0 : Int) (p1 : Tr34) (p2 : Int) : Option (Bool × Int) := Fx nE nE p0 p1 p2
theorem Lc (nE : Nat) (p0 : Int) (p1 : Tr34) (p2 : Int) : Le (H2 nE p0 p1 p2) (Dz p0 p1 p2) := fun r e => Bq (g := fun n => AK n p0 p1 p2) (fun n r h => DL n p0 p1 p2 r h) (n := nE) (Hc nE nE p0 p1 p2 r e)
def KU (nE : Nat) (p0 : Tr34) : Option Bool := (H2 nE 64 p0 8).bind fun x1 => some x1.1
theorem S7 (nE : Nat) (p0 : Tr34) : Le (KU nE p0) (Fv p0) := by
  unfold KU Fv
  repeat' with_reducible (first | apply Le.bind' | apply Lc | exact Le.rfl' _ | intro _)
def I9 (nE : Nat) (fRec : Tr34 → Option Int) (p0 : Tr34) : (Int × Int) → Option ((Int × Int) ⊕ Int)
  | (x2,x3) => (if x3 < (p0.un.2.2.2.length : Int) then (ix p0.un.2.2.2 x3).bind fun x4 => (fRec x4).bind fun x5 => some (.inl (Aq (x2 + x5),Aq (x3 + 1))) else some (.inr x2))
theorem PU (nE : Nat) {fRec fRec' : Tr34 → Option Int} (hfRec : ∀ a0,Le (fRec a0) (fRec' a0)) (p0 : Tr34) : ∀ s,Le (I9 nE fRec p0 s) (Cu fRec' p0 s) := by
  rintro ⟨x2,x3⟩
  unfold I9 Cu
  repeat' with_reducible (first | apply Le.bind' | apply Le.ite' | exact hfRec | exact hfRec _ | exact Le.rfl' _ | intro _)
theorem P5 {fRec fRec' : Tr34 → Option Int} (hfRec : ∀ a0,Le (fRec a0) (fRec' a0)) (p0 : Tr34) : ∀ s,Le (Cu fRec p0 s) (Cu fRec' p0 s) := by
  rintro ⟨x2,x3⟩
  show Le (Cu fRec p0 (x2,x3)) (Cu fRec' p0 (x2,x3))
  unfold Cu
  repeat' with_reducible (first | apply Le.bind' | apply Le.ite' | exact hfRec | exact hfRec _ | exact Le.rfl' _ | intro _)
def Jc (nE : Nat) (fRec : Tr34 → Option Int) (p0 : Tr34) : Option Int := (Ju nE (I9 nE fRec p0) (1,0)).bind fun x1 => some x1
theorem PR (nE : Nat) {fRec fRec' : Tr34 → Option Int} (hfRec : ∀ a0,Le (fRec a0) (fRec' a0)) (p0 : Tr34) : Le (Jc nE fRec p0) (C6 fRec' p0) := by
  unfold Jc C6
  repeat' with_reducible (first | apply Le.bind' | apply Le.loop' | exact hfRec | exact hfRec _ | apply PU | exact Le.rfl' _ | intro _)
theorem PE {fRec fRec' : Tr34 → Option Int} (hfRec : ∀ a0,Le (fRec a0) (fRec' a0)) (p0 : Tr34) : Le (C6 fRec p0) (C6 fRec' p0) := by
  unfold C6
  repeat' with_reducible (first | apply Le.bind' | apply Le.loopM | exact hfRec | exact hfRec _ | apply P5 | exact Le.rfl' _ | intro _)
def JG (nE : Nat) : Nat → Tr34 → Option Int
  | 0 => fun _ => none
  | n + 1 => Jc nE (JG nE n)
theorem LB (nE : Nat) : ∀ (m : Nat) a0,Le (JG nE m a0) (Dj m a0)
  | 0,a0 => fun _ h => nomatch h
  | m + 1,a0 => PR nE (LB nE m) a0
theorem IR : ∀ (m : Nat) a0,Le (Dj m a0) (Dj (m + 1) a0)
  | 0,a0 => fun _ h => nomatch h
  | m + 1,a0 => PE (IR m) a0
def Pv (nE : Nat) (p0 : Tr34) : Option Int := JG nE nE p0
theorem Uy (nE : Nat) (p0 : Tr34) : Le (Pv nE p0) (HA p0) := fun r e => Bq (g := fun n => Dj n p0) (fun n r h => IR n p0 r h) (n := nE) (LB nE nE p0 r e)
def Ep (nE : Nat) (fRec : Int → Tr37 → Int → Option (Bool × Int)) (p1 : Tr37) (p2 : Int) : (Int × Int) → Option ((Int × Int) ⊕ (Int ⊕ (Bool × Int)))
  | (x7,x8) => (if x7 < (p1.un.2.2.2.2.length : Int) then (ix p1.un.2.2.2.2 x7).bind fun x9 => (fRec x8 (Tr37.of (x9.un.1,f34 x9.un.2.1,x9.un.2.2.1,x9.un.2.2.2.1,x9.un.2.2.2.2)) (Aq (p2 - 1))).bind fun x10 => (if (!x10.1) = true then some (.inr (.inr (false,x10.2))) else some (.inl (Aq (x7 + 1),x10.2))) else some (.inr (.inl x8)))
theorem IZ (nE : Nat) {fRec fRec' : Int → Tr37 → Int → Option (Bool × Int)} (hfRec : ∀ a0 a1 a2,Le (fRec a0 a1 a2) (fRec' a0 a1 a2)) (p1 : Tr37) (p2 : Int) : ∀ s,Le (Ep nE fRec p1 p2 s) (AD fRec' p1 p2 s) := by
  rintro ⟨x7,x8⟩
  unfold Ep AD
  repeat' with_reducible (first | apply Le.bind' | apply Le.ite' | exact hfRec | exact hfRec _ _ _ | exact Le.rfl' _ | intro _)
theorem I7 {fRec fRec' : Int → Tr37 → Int → Option (Bool × Int)} (hfRec : ∀ a0 a1 a2,Le (fRec a0 a1 a2) (fRec' a0 a1 a2)) (p1 : Tr37) (p2 : Int) : ∀ s,Le (AD fRec p1 p2 s) (AD fRec' p1 p2 s) := by
  rintro ⟨x7,x8⟩
  show Le (AD fRec p1 p2 (x7,x8)) (AD fRec' p1 p2 (x7,x8))
  unfold AD
  repeat' with_reducible (first | apply Le.bind' | apply Le.ite' | exact hfRec | exact hfRec _ _ _ | exact Le.rfl' _ | intro _)
def Eo (nE : Nat) (fRec : Int → Tr37 → Int → Option (Bool × Int)) (p0 : Int) (p1 : Tr37) (p2 : Int) : Option (Bool × Int) := (if p0 < 1 then some true else (if p2 < 1 then some true else (JO nE (Tr37.of (p1.un.1,f34 p1.un.2.1,p1.un.2.2.1,p1.un.2.2.2.1,p1.un.2.2.2.2))).bind fun x2 => some (!x2))).bind fun x1 => (if x1 = true then some (false,p0) else Hw (if (decide (p1.un.1 = 1) || decide (p1.un.1 = 5)) = true then (KU nE (f34 p1.un.2.1)).bind fun x4 => (if (!x4) = true then some (.inr (false,Aq (p0 - 1))) else (Pv nE (f34 p1.un.2.1)).bind fun x5 => some (.inl (Aq ((Aq (p0 - 1)) - x5)))) else some (.inl (Aq (p0 - 1)))) fun x3 => Hw (Ju nE (Ep nE fRec p1 p2) (0,x3)) fun x6 => some (decide (0 ≤ x6),x6))
theorem IW (nE : Nat) {fRec fRec' : Int → Tr37 → Int → Option (Bool × Int)} (hfRec : ∀ a0 a1 a2,Le (fRec a0 a1 a2) (fRec' a0 a1 a2)) (p0 : Int) (p1 : Tr37) (p2 : Int) : Le (Eo nE fRec p0 p1 p2) (Bx fRec' p0 p1 p2) := by
  unfold Eo Bx
  repeat' with_reducible (first | apply Le.orR' | apply Le.bind' | apply Le.ite' | apply Le.loop' | exact hfRec | exact hfRec _ _ _ | apply QB | apply S7 | apply Uy | apply IZ | exact Le.rfl' _ | intro _)
theorem IH {fRec fRec' : Int → Tr37 → Int → Option (Bool × Int)} (hfRec : ∀ a0 a1 a2,Le (fRec a0 a1 a2) (fRec' a0 a1 a2)) (p0 : Int) (p1 : Tr37) (p2 : Int) : Le (Bx fRec p0 p1 p2) (Bx fRec' p0 p1 p2) := by
  unfold Bx
  repeat' with_reducible (first | apply Le.orR' | apply Le.bind' | apply Le.ite' | apply Le.loopM | exact hfRec | exact hfRec _ _ _ | apply I7 | exact Le.rfl' _ | intro _)
def EU (nE : Nat) : Nat → Int → Tr37 → Int → Option (Bool × Int)
  | 0 => fun _ _ _ => none
  | n + 1 => Eo nE (EU nE n)
theorem Gq (nE : Nat) : ∀ (m : Nat) a0 a1 a2,Le (EU nE m a0 a1 a2) (Ax m a0 a1 a2)
  | 0,a0,a1,a2 => fun _ h => nomatch h
  | m + 1,a0,a1,a2 => IW nE (Gq nE m) a0 a1 a2
theorem Dq : ∀ (m : Nat) a0 a1 a2,Le (Ax m a0 a1 a2) (Ax (m + 1) a0 a1 a2)
  | 0,a0,a1,a2 => fun _ h => nomatch h
  | m + 1,a0,a1,a2 => IH (Dq m) a0 a1 a2
def Hp (nE : Nat) (p0 : Int) (p1 : Tr37) (p2 : Int) : Option (Bool × Int) := EU nE nE p0 p1 p2
theorem Km (nE : Nat) (p0 : Int) (p1 : Tr37) (p2 : Int) : Le (Hp nE p0 p1 p2) (DH p0 p1 p2) := fun r e => Bq (g := fun n => Ax n p0 p1 p2) (fun n r h => Dq n p0 p1 p2 r h) (n := nE) (Gq nE nE p0 p1 p2 r e)
def HM (nE : Nat) (fRec : Tr37 → Option Int) (p0 : Tr37) : (Int × Int) → Option ((Int × Int) ⊕ Int)
  | (x2,x3) => (if x3 < (p0.un.2.2.2.2.length : Int) then (ix p0.un.2.2.2.2 x3).bind fun x4 => (fRec (Tr37.of (x4.un.1,f34 x4.un.2.1,x4.un.2.2.1,x4.un.2.2.2.1,x4.un.2.2.2.2))).bind fun x5 => some (.inl (min (Aq (x2 * x5)) 1000,Aq (x3 + 1))) else some (.inr x2))
theorem Ow (nE : Nat) {fRec fRec' : Tr37 → Option Int} (hfRec : ∀ a0,Le (fRec a0) (fRec' a0)) (p0 : Tr37) : ∀ s,Le (HM nE fRec p0 s) (Ci fRec' p0 s) := by
  rintro ⟨x2,x3⟩
  unfold HM Ci
  repeat' with_reducible (first | apply Le.bind' | apply Le.ite' | exact hfRec | exact hfRec _ | exact Le.rfl' _ | intro _)
theorem Nu {fRec fRec' : Tr37 → Option Int} (hfRec : ∀ a0,Le (fRec a0) (fRec' a0)) (p0 : Tr37) : ∀ s,Le (Ci fRec p0 s) (Ci fRec' p0 s) := by
  rintro ⟨x2,x3⟩
  show Le (Ci fRec p0 (x2,x3)) (Ci fRec' p0 (x2,x3))
  unfold Ci
  repeat' with_reducible (first | apply Le.bind' | apply Le.ite' | exact hfRec | exact hfRec _ | exact Le.rfl' _ | intro _)
def HG (nE : Nat) (fRec : Tr37 → Option Int) (p0 : Tr37) : (Int × Int) → Option ((Int × Int) ⊕ Int)
  | (x6,x7) => (if x7 < (p0.un.2.2.2.2.length : Int) then (ix p0.un.2.2.2.2 x7).bind fun x8 => (fRec (Tr37.of (x8.un.1,f34 x8.un.2.1,x8.un.2.2.1,x8.un.2.2.2.1,x8.un.2.2.2.2))).bind fun x9 => some (.inl (min (Aq (x6 + x9)) 1000,Aq (x7 + 1))) else some (.inr x6))
theorem Oa (nE : Nat) {fRec fRec' : Tr37 → Option Int} (hfRec : ∀ a0,Le (fRec a0) (fRec' a0)) (p0 : Tr37) : ∀ s,Le (HG nE fRec p0 s) (Cg fRec' p0 s) := by
  rintro ⟨x6,x7⟩
  unfold HG Cg
  repeat' with_reducible (first | apply Le.bind' | apply Le.ite' | exact hfRec | exact hfRec _ | exact Le.rfl' _ | intro _)
theorem NI {fRec fRec' : Tr37 → Option Int} (hfRec : ∀ a0,Le (fRec a0) (fRec' a0)) (p0 : Tr37) : ∀ s,Le (Cg fRec p0 s) (Cg fRec' p0 s) := by
  rintro ⟨x6,x7⟩
  show Le (Cg fRec p0 (x6,x7)) (Cg fRec' p0 (x6,x7))
  unfold Cg
  repeat' with_reducible (first | apply Le.bind' | apply Le.ite' | exact hfRec | exact hfRec _ | exact Le.rfl' _ | intro _)
def HR (nE : Nat) (fRec : Tr37 → Option Int) (p0 : Tr37) : (Int × Int) → Option ((Int × Int) ⊕ Int)
  | (x10,x11) => (if x11 < (p0.un.2.2.2.2.length : Int) then (ix p0.un.2.2.2.2 x11).bind fun x12 => (fRec (Tr37.of (x12.un.1,f34 x12.un.2.1,x12.un.2.2.1,x12.un.2.2.2.1,x12.un.2.2.2.2))).bind fun x13 => some (.inl (max x10 x13,Aq (x11 + 1))) else some (.inr x10))
theorem Oy (nE : Nat) {fRec fRec' : Tr37 → Option Int} (hfRec : ∀ a0,Le (fRec a0) (fRec' a0)) (p0 : Tr37) : ∀ s,Le (HR nE fRec p0 s) (Cj fRec' p0 s) := by
  rintro ⟨x10,x11⟩
  unfold HR Cj
  repeat' with_reducible (first | apply Le.bind' | apply Le.ite' | exact hfRec | exact hfRec _ | exact Le.rfl' _ | intro _)
theorem N0 {fRec fRec' : Tr37 → Option Int} (hfRec : ∀ a0,Le (fRec a0) (fRec' a0)) (p0 : Tr37) : ∀ s,Le (Cj fRec p0 s) (Cj fRec' p0 s) := by
  rintro ⟨x10,x11⟩
  show Le (Cj fRec p0 (x10,x11)) (Cj fRec' p0 (x10,x11))
  unfold Cj
  repeat' with_reducible (first | apply Le.bind' | apply Le.ite' | exact hfRec | exact hfRec _ | exact Le.rfl' _ | intro _)
def HN (nE : Nat) (fRec : Tr37 → Option Int) (p0 : Tr37) : Option Int := (if p0.un.1 = 3 then Ju nE (HM nE fRec p0) (1,0) else (if p0.un.1 = 4 then Ju nE (HG nE fRec p0) (0,0) else (if p0.un.1 = 5 then Ju nE (HR nE fRec p0) (0,0) else some 1))).bind fun x1 => some x1
theorem Nv (nE : Nat) {fRec fRec' : Tr37 → Option Int} (hfRec : ∀ a0,Le (fRec a0) (fRec' a0)) (p0 : Tr37) : Le (HN nE fRec p0) (Dc fRec' p0) := by
  unfold HN Dc
  repeat' with_reducible (first | apply Le.bind' | apply Le.ite' | apply Le.loop' | exact hfRec | exact hfRec _ | apply Ow | apply Oa | apply Oy | exact Le.rfl' _ | intro _)
theorem NK {fRec fRec' : Tr37 → Option Int} (hfRec : ∀ a0,Le (fRec a0) (fRec' a0)) (p0 : Tr37) : Le (Dc fRec p0) (Dc fRec' p0) := by
  unfold Dc
  repeat' with_reducible (first | apply Le.bind' | apply Le.ite' | apply Le.loopM | exact hfRec | exact hfRec _ | apply Nu | apply NI | apply N0 | exact Le.rfl' _ | intro _)
def Ii (nE : Nat) : Nat → Tr37 → Option Int
  | 0 => fun _ => none
  | n + 1 => HN nE (Ii nE n)
theorem J9 (nE : Nat) : ∀ (m : Nat) a0,Le (Ii nE m a0) (BD m a0)
  | 0,a0 => fun _ h => nomatch h
  | m + 1,a0 => Nv nE (J9 nE m) a0
theorem HC : ∀ (m : Nat) a0,Le (BD m a0) (BD (m + 1) a0)
  | 0,a0 => fun _ h => nomatch h
  | m + 1,a0 => NK (HC m) a0
def M3 (nE : Nat) (p0 : Tr37) : Option Int := Ii nE nE p0
theorem LK (nE : Nat) (p0 : Tr37) : Le (M3 nE p0) (EA p0) := fun r e => Bq (g := fun n => BD n p0) (fun n r h => HC n p0 r h) (n := nE) (J9 nE nE p0 r e)
def LZ (nE : Nat) (p0 : Tr37) : Option Bool := ((Hp nE 64 (Tr37.of (p0.un.1,f34 p0.un.2.1,p0.un.2.2.1,p0.un.2.2.2.1,p0.un.2.2.2.2)) 8).bind fun x3 => (if x3.1 = true then (M3 nE (Tr37.of (p0.un.1,f34 p0.un.2.1,p0.un.2.2.1,p0.un.2.2.2.1,p0.un.2.2.2.2))).bind fun x4 => some (decide (x4 ≤ 64),x3.2) else some (false,x3.2))).bind fun (x1,x2) => some x1
theorem PO (nE : Nat) (p0 : Tr37) : Le (LZ nE p0) (DE p0) := by
  unfold LZ DE
  repeat' with_reducible (first | apply Le.bind' | apply Le.ite' | apply Km | apply LK | exact Le.rfl' _ | (refine Le.pi2 ?_; intro _) | intro _)
theorem Qz {fRec fRec' : Tr24 → Option Tr34} (hfRec : ∀ a0,Le (fRec a0) (fRec' a0)) (p0 : Tr24) : ∀ s,Le (Dl fRec p0 s) (Dl fRec' p0 s) := by
  rintro ⟨x2,x3⟩
  show Le (Dl fRec p0 (x2,x3)) (Dl fRec' p0 (x2,x3))
  unfold Dl
  repeat' with_reducible (first | apply Le.bind' | apply Le.ite' | exact hfRec | exact hfRec _ | exact Le.rfl' _ | intro _)
theorem Rk {fRec fRec' : Tr24 → Option Tr34} (hfRec : ∀ a0,Le (fRec a0) (fRec' a0)) (p0 : Tr24) : Le (EB fRec p0) (EB fRec' p0) := by
  unfold EB
  repeat' with_reducible (first | apply Le.bind' | apply Le.loopM | exact hfRec | exact hfRec _ | apply Qz | exact Le.rfl' _ | intro _)
theorem M5 : ∀ (m : Nat) a0,Le (EX m a0) (EX (m + 1) a0)
  | 0,a0 => fun _ h => nomatch h
  | m + 1,a0 => Rk (M5 m) a0
theorem Q8 {fRec fRec' : Tr27 → Option Tr37} (hfRec : ∀ a0,Le (fRec a0) (fRec' a0)) (p0 : Tr27) : ∀ s,Le (D4 fRec p0 s) (D4 fRec' p0 s) := by
  rintro ⟨x3,x4⟩
  show Le (D4 fRec p0 (x3,x4)) (D4 fRec' p0 (x3,x4))
  unfold D4
  repeat' with_reducible (first | apply Le.bind' | apply Le.ite' | exact hfRec | exact hfRec _ | exact Le.rfl' _ | intro _)
theorem Rr {fRec fRec' : Tr27 → Option Tr37} (hfRec : ∀ a0,Le (fRec a0) (fRec' a0)) (p0 : Tr27) : Le (Fm fRec p0) (Fm fRec' p0) := by
  unfold Fm
  repeat' with_reducible (first | apply Le.bind' | apply Le.loopM | exact hfRec | exact hfRec _ | apply Q8 | exact Le.rfl' _ | intro _)
theorem MU : ∀ (m : Nat) a0,Le (EY m a0) (EY (m + 1) a0)
  | 0,a0 => fun _ h => nomatch h
  | m + 1,a0 => Rr (MU m) a0
theorem QU {fRec fRec' : Tr24 → Option Bool} (hfRec : ∀ a0,Le (fRec a0) (fRec' a0)) (p0 : Tr24) : ∀ s,Le (EJ fRec p0 s) (EJ fRec' p0 s) := by
  intro x1
  unfold EJ
  repeat' with_reducible (first | apply Le.bind' | apply Le.ite' | exact hfRec | exact hfRec _ | exact Le.rfl' _ | intro _)
theorem RQ {fRec fRec' : Tr24 → Option Bool} (hfRec : ∀ a0,Le (fRec a0) (fRec' a0)) (p0 : Tr24) : Le (Ez fRec p0) (Ez fRec' p0) := by
  unfold Ez
  repeat' with_reducible (first | apply Le.orR' | apply Le.ite' | apply Le.loopM | exact hfRec | exact hfRec _ | apply QU | exact Le.rfl' _ | intro _)
theorem MK : ∀ (m : Nat) a0,Le (EQ m a0) (EQ (m + 1) a0)
  | 0,a0 => fun _ h => nomatch h
  | m + 1,a0 => RQ (MK m) a0
theorem Ro {fRec fRec' : Tr24 → Option Int} (hfRec : ∀ a0,Le (fRec a0) (fRec' a0)) (p0 : Tr24) : ∀ s,Le (Dh fRec p0 s) (Dh fRec' p0 s) := by
  rintro ⟨x2,x3⟩
  show Le (Dh fRec p0 (x2,x3)) (Dh fRec' p0 (x2,x3))
  unfold Dh
  repeat' with_reducible (first | apply Le.bind' | apply Le.ite' | exact hfRec | exact hfRec _ | exact Le.rfl' _ | intro _)
theorem RA {fRec fRec' : Tr24 → Option Int} (hfRec : ∀ a0,Le (fRec a0) (fRec' a0)) (p0 : Tr24) : Le (Ew fRec p0) (Ew fRec' p0) := by
  unfold Ew
  repeat' with_reducible (first | apply Le.bind' | apply Le.loopM | exact hfRec | exact hfRec _ | apply Ro | exact Le.rfl' _ | intro _)
theorem MJ : ∀ (m : Nat) a0,Le (EO m a0) (EO (m + 1) a0)
  | 0,a0 => fun _ h => nomatch h
  | m + 1,a0 => RA (MJ m) a0
theorem Sd {fRec fRec' : Tr24 → Tr24 → Option Bool} (hfRec : ∀ a0 a1,Le (fRec a0 a1) (fRec' a0 a1)) (p0 : Tr24) (p1 : Tr24) : ∀ s,Le (EI fRec p0 p1 s) (EI fRec' p0 p1 s) := by
  intro x1
  unfold EI
  repeat' with_reducible (first | apply Le.bind' | apply Le.ite' | exact hfRec | exact hfRec _ _ | exact Le.rfl' _ | intro _)
theorem RR {fRec fRec' : Tr24 → Tr24 → Option Bool} (hfRec : ∀ a0 a1,Le (fRec a0 a1) (fRec' a0 a1)) (p0 : Tr24) (p1 : Tr24) : Le (Ey fRec p0 p1) (Ey fRec' p0 p1) := by
  unfold Ey
  repeat' with_reducible (first | apply Le.orR' | apply Le.ite' | apply Le.loopM | exact hfRec | exact hfRec _ _ | apply Sd | exact Le.rfl' _ | intro _)
theorem ML : ∀ (m : Nat) a0 a1,Le (FC m a0 a1) (FC (m + 1) a0 a1)
  | 0,a0,a1 => fun _ h => nomatch h
  | m + 1,a0,a1 => RR (ML m) a0 a1
theorem Q3 {fRec fRec' : Tr27 → Option Bool} (hfRec : ∀ a0,Le (fRec a0) (fRec' a0)) (p0 : Tr27) : ∀ s,Le (Fj fRec p0 s) (Fj fRec' p0 s) := by
  intro x4
  unfold Fj
  repeat' with_reducible (first | apply Le.bind' | apply Le.ite' | exact hfRec | exact hfRec _ | exact Le.rfl' _ | intro _)
theorem QI {fRec fRec' : Tr27 → Option Bool} (hfRec : ∀ a0,Le (fRec a0) (fRec' a0)) (p0 : Tr27) : Le (Fh fRec p0) (Fh fRec' p0) := by
  unfold Fh
  repeat' with_reducible (first | apply Le.orR' | apply Le.bind' | apply Le.ite' | apply Le.loopM | exact hfRec | exact hfRec _ | apply Q3 | exact Le.rfl' _ | intro _)
theorem MZ : ∀ (m : Nat) a0,Le (Ea m a0) (Ea (m + 1) a0)
  | 0,a0 => fun _ h => nomatch h
  | m + 1,a0 => QI (MZ m) a0
theorem RH {fRec fRec' : Tr27 → Option Int} (hfRec : ∀ a0,Le (fRec a0) (fRec' a0)) (p0 : Tr27) : ∀ s,Le (DZ fRec p0 s) (DZ fRec' p0 s) := by
  rintro ⟨x2,x3⟩
  show Le (DZ fRec p0 (x2,x3)) (DZ fRec' p0 (x2,x3))
  unfold DZ
  repeat' with_reducible (first | apply Le.bind' | apply Le.ite' | exact hfRec | exact hfRec _ | exact Le.rfl' _ | intro _)
theorem RS {fRec fRec' : Tr27 → Option Int} (hfRec : ∀ a0,Le (fRec a0) (fRec' a0)) (p0 : Tr27) : Le (F3 fRec p0) (F3 fRec' p0) := by
  unfold F3
  repeat' with_reducible (first | apply Le.bind' | apply Le.loopM | exact hfRec | exact hfRec _ | apply RH | exact Le.rfl' _ | intro _)
theorem MI : ∀ (m : Nat) a0,Le (EW m a0) (EW (m + 1) a0)
  | 0,a0 => fun _ h => nomatch h
  | m + 1,a0 => RS (MI m) a0
theorem RI {fRec fRec' : Tr27 → Option Int} (hfRec : ∀ a0,Le (fRec a0) (fRec' a0)) (p0 : Tr27) : ∀ s,Le (D5 fRec p0 s) (D5 fRec' p0 s) := by
  rintro ⟨x4,x5⟩
  show Le (D5 fRec p0 (x4,x5)) (D5 fRec' p0 (x4,x5))
  unfold D5
  repeat' with_reducible (first | apply Le.bind' | apply Le.ite' | exact hfRec | exact hfRec _ | exact Le.rfl' _ | intro _)
theorem QG {fRec fRec' : Tr27 → Option Int} (hfRec : ∀ a0,Le (fRec a0) (fRec' a0)) (p0 : Tr27) : Le (Gb fRec p0) (Gb fRec' p0) := by
  unfold Gb
  repeat' with_reducible (first | apply Le.bind' | apply Le.ite' | apply Le.loopM | exact hfRec | exact hfRec _ | apply RI | exact Le.rfl' _ | intro _)
theorem M4 : ∀ (m : Nat) a0,Le (ES m a0) (ES (m + 1) a0)
  | 0,a0 => fun _ h => nomatch h
  | m + 1,a0 => QG (M4 m) a0
theorem RK {fRec fRec' : Tr27 → Option Int} (hfRec : ∀ a0,Le (fRec a0) (fRec' a0)) (p0 : Tr27) : ∀ s,Le (D1 fRec p0 s) (D1 fRec' p0 s) := by
  rintro ⟨x3,x4⟩
  show Le (D1 fRec p0 (x3,x4)) (D1 fRec' p0 (x3,x4))
  unfold D1
  repeat' with_reducible (first | apply Le.bind' | apply Le.ite' | exact hfRec | exact hfRec _ | exact Le.rfl' _ | intro _)
theorem Qy {fRec fRec' : Tr27 → Option Int} (hfRec : ∀ a0,Le (fRec a0) (fRec' a0)) (p0 : Tr27) : Le (F0 fRec p0) (F0 fRec' p0) := by
  unfold F0
  repeat' with_reducible (first | apply Le.bind' | apply Le.ite' | apply Le.loopM | exact hfRec | exact hfRec _ | apply RK | exact Le.rfl' _ | intro _)
theorem MN : ∀ (m : Nat) a0,Le (Ec m a0) (Ec (m + 1) a0)
  | 0,a0 => fun _ h => nomatch h
  | m + 1,a0 => Qy (MN m) a0
theorem OQ {fRec fRec' : Tr37 → Option Int} (hfRec : ∀ a0,Le (fRec a0) (fRec' a0)) (p0 : Tr37) : ∀ s,Le (CS fRec p0 s) (CS fRec' p0 s) := by
  rintro ⟨x4,x5⟩
  show Le (CS fRec p0 (x4,x5)) (CS fRec' p0 (x4,x5))
  unfold CS
  repeat' with_reducible (first | apply Le.bind' | apply Le.ite' | exact hfRec | exact hfRec _ | exact Le.rfl' _ | intro _)
theorem ON {fRec fRec' : Tr37 → Option Int} (hfRec : ∀ a0,Le (fRec a0) (fRec' a0)) (p0 : Tr37) : Le (Ef fRec p0) (Ef fRec' p0) := by
  unfold Ef
  repeat' with_reducible (first | apply Le.bind' | apply Le.ite' | apply Le.loopM | exact hfRec | exact hfRec _ | apply OQ | exact Le.rfl' _ | intro _)
theorem Kc : ∀ (m : Nat) a0,Le (C5 m a0) (C5 (m + 1) a0)
  | 0,a0 => fun _ h => nomatch h
  | m + 1,a0 => ON (Kc m) a0
theorem N7 {fRec fRec' : Tr37 → Option Int} (hfRec : ∀ a0,Le (fRec a0) (fRec' a0)) (p0 : Tr37) : ∀ s,Le (CO fRec p0 s) (CO fRec' p0 s) := by
  rintro ⟨x2,x3⟩
  show Le (CO fRec p0 (x2,x3)) (CO fRec' p0 (x2,x3))
  unfold CO
  repeat' with_reducible (first | apply Le.bind' | apply Le.ite' | exact hfRec | exact hfRec _ | exact Le.rfl' _ | intro _)
theorem N9 {fRec fRec' : Tr37 → Option Int} (hfRec : ∀ a0,Le (fRec a0) (fRec' a0)) (p0 : Tr37) : Le (Ej fRec p0) (Ej fRec' p0) := by
  unfold Ej
  repeat' with_reducible (first | apply Le.bind' | apply Le.loopM | exact hfRec | exact hfRec _ | apply N7 | exact Le.rfl' _ | intro _)
theorem Kb : ∀ (m : Nat) a0,Le (C3 m a0) (C3 (m + 1) a0)
  | 0,a0 => fun _ h => nomatch h
  | m + 1,a0 => N9 (Kb m) a0
theorem CW {fRec_policy_Same fRec_policy_Same' : Tr37 → Tr37 → Option Bool} (hfRec_policy_Same : ∀ a0 a1,Le (fRec_policy_Same a0 a1) (fRec_policy_Same' a0 a1)) (p0 : List Tr37) (p1 : List Tr37) : ∀ s,Le (Ai fRec_policy_Same p0 p1 s) (Ai fRec_policy_Same' p0 p1 s) := by
  intro x1
  unfold Ai
  repeat' with_reducible (first | apply Le.bind' | apply Le.ite' | exact hfRec_policy_Same | exact hfRec_policy_Same _ _ | exact Le.rfl' _ | intro _)
theorem C2 {fRec_policy_Same fRec_policy_Same' : Tr37 → Tr37 → Option Bool} (hfRec_policy_Same : ∀ a0 a1,Le (fRec_policy_Same a0 a1) (fRec_policy_Same' a0 a1)) (p0 : List Tr37) (p1 : List Tr37) : Le (Ao fRec_policy_Same p0 p1) (Ao fRec_policy_Same' p0 p1) := by
  unfold Ao
  repeat' with_reducible (first | apply Le.orR' | apply Le.ite' | apply Le.loopM | exact hfRec_policy_Same | exact hfRec_policy_Same _ _ | apply CW | exact Le.rfl' _ | intro _)
theorem OL {fRec fRec' : Tr37 → Tr37 → Option Bool} (hfRec : ∀ a0 a1,Le (fRec a0 a1) (fRec' a0 a1)) (p0 : Tr37) (p1 : Tr37) : Le (Ee fRec p0 p1) (Ee fRec' p0 p1) := by
  unfold Ee
  repeat' with_reducible (first | apply Le.bind' | apply Le.ite' | exact hfRec | exact hfRec _ _ | apply C2 | exact Le.rfl' _ | intro _)
theorem J5 : ∀ (m : Nat) a0 a1,Le (DC m a0 a1) (DC (m + 1) a0 a1)
  | 0,a0,a1 => fun _ h => nomatch h
  | m + 1,a0,a1 => OL (J5 m) a0 a1
theorem Qo {fRec fRec' : Tr27 → Tr27 → Option Bool} (hfRec : ∀ a0 a1,Le (fRec a0 a1) (fRec' a0 a1)) (p0 : Tr27) (p1 : Tr27) : ∀ s,Le (F2 fRec p0 p1 s) (F2 fRec' p0 p1 s) := by
  intro x3
  unfold F2
  repeat' with_reducible (first | apply Le.bind' | apply Le.ite' | exact hfRec | exact hfRec _ _ | exact Le.rfl' _ | intro _)
theorem QK {fRec fRec' : Tr27 → Tr27 → Option Bool} (hfRec : ∀ a0 a1,Le (fRec a0 a1) (fRec' a0 a1)) (p0 : Tr27) (p1 : Tr27) : Le (F8 fRec p0 p1) (F8 fRec' p0 p1) := by
  unfold F8
  repeat' with_reducible (first | apply Le.orR' | apply Le.bind' | apply Le.ite' | apply Le.loopM | exact hfRec | exact hfRec _ _ | apply Qo | exact Le.rfl' _ | intro _)
theorem M7 : ∀ (m : Nat) a0 a1,Le (Fw m a0 a1) (Fw (m + 1) a0 a1)
  | 0,a0,a1 => fun _ h => nomatch h
  | m + 1,a0,a1 => QK (M7 m) a0 a1
theorem QC {fRec fRec' : Tr24 → Int → Int → (Int × Int × Int × Int) → Option Bool} (hfRec : ∀ a0 a1 a2 a3,Le (fRec a0 a1 a2 a3) (fRec' a0 a1 a2 a3)) (p0 : Tr24) (p1 : Int) (p2 : Int) (p3 : Int × Int × Int × Int) : ∀ s,Le (Dk fRec p0 p1 p2 p3 s) (Dk fRec' p0 p1 p2 p3 s) := by
  rintro ⟨x7,x8⟩
  show Le (Dk fRec p0 p1 p2 p3 (x7,x8)) (Dk fRec' p0 p1 p2 p3 (x7,x8))
  unfold Dk
  repeat' with_reducible (first | apply Le.bind' | apply Le.ite' | exact hfRec | exact hfRec _ _ _ _ | exact Le.rfl' _ | intro _)
theorem Ra {fRec fRec' : Tr24 → Int → Int → (Int × Int × Int × Int) → Option Bool} (hfRec : ∀ a0 a1 a2 a3,Le (fRec a0 a1 a2 a3) (fRec' a0 a1 a2 a3)) (p0 : Tr24) (p1 : Int) (p2 : Int) (p3 : Int × Int × Int × Int) : Le (EC fRec p0 p1 p2 p3) (EC fRec' p0 p1 p2 p3) := by
  unfold EC
  repeat' with_reducible (first | apply Le.bind' | apply Le.ite' | apply Le.loopM | exact hfRec | exact hfRec _ _ _ _ | apply QC | exact Le.rfl' _ | intro _)
theorem MG : ∀ (m : Nat) a0 a1 a2 a3,Le (Eg m a0 a1 a2 a3) (Eg (m + 1) a0 a1 a2 a3)
  | 0,a0,a1,a2,a3 => fun _ h => nomatch h
  | m + 1,a0,a1,a2,a3 => Ra (MG m) a0 a1 a2 a3
theorem Sp {fRec fRec' : Tr27 → Int → Int → (Int × Int × Int × Int) → Option (List Sq)} (hfRec : ∀ a0 a1 a2 a3,Le (fRec a0 a1 a2 a3) (fRec' a0 a1 a2 a3)) (p0 : Tr27) (p1 : Int) (x8 : List Sq) (x9 : Int) : ∀ s,Le (FE fRec p0 p1 x8 x9 s) (FE fRec' p0 p1 x8 x9 s) := by
  rintro ⟨x12,x13⟩
  show Le (FE fRec p0 p1 x8 x9 (x12,x13)) (FE fRec' p0 p1 x8 x9 (x12,x13))
  unfold FE
  repeat' with_reducible (first | apply Le.bind' | apply Le.ite' | exact hfRec | exact hfRec _ _ _ _ | exact Le.rfl' _ | intro _)
theorem Sx {fRec fRec' : Tr27 → Int → Int → (Int × Int × Int × Int) → Option (List Sq)} (hfRec : ∀ a0 a1 a2 a3,Le (fRec a0 a1 a2 a3) (fRec' a0 a1 a2 a3)) (p0 : Tr27) (p1 : Int) : ∀ s,Le (EV fRec p0 p1 s) (EV fRec' p0 p1 s) := by
  rintro ⟨x8,x9⟩
  show Le (EV fRec p0 p1 (x8,x9)) (EV fRec' p0 p1 (x8,x9))
  unfold EV
  repeat' with_reducible (first | apply Le.bind' | apply Le.ite' | apply Le.loopM | exact hfRec | exact hfRec _ _ _ _ | apply Sp | exact Le.rfl' _ | intro _)
theorem SC {fRec fRec' : Tr27 → Int → Int → (Int × Int × Int × Int) → Option (List Sq)} (hfRec : ∀ a0 a1 a2 a3,Le (fRec a0 a1 a2 a3) (fRec' a0 a1 a2 a3)) (p0 : Tr27) (p1 : Int) (p2 : Int) (p3 : Int × Int × Int × Int) : ∀ s,Le (EN fRec p0 p1 p2 p3 s) (EN fRec' p0 p1 p2 p3 s) := by
  rintro ⟨x19,x20⟩
  show Le (EN fRec p0 p1 p2 p3 (x19,x20)) (EN fRec' p0 p1 p2 p3 (x19,x20))
  unfold EN
  repeat' with_reducible (first | apply Le.bind' | apply Le.ite' | exact hfRec | exact hfRec _ _ _ _ | exact Le.rfl' _ | intro _)
theorem SE {fRec fRec' : Tr27 → Int → Int → (Int × Int × Int × Int) → Option (List Sq)} (hfRec : ∀ a0 a1 a2 a3,Le (fRec a0 a1 a2 a3) (fRec' a0 a1 a2 a3)) (p0 : Tr27) (p1 : Int) (p2 : Int) (p3 : Int × Int × Int × Int) : Le (CI fRec p0 p1 p2 p3) (CI fRec' p0 p1 p2 p3) := by
  unfold CI
  repeat' with_reducible (first | apply Le.orR' | apply Le.bind' | apply Le.ite' | apply Le.loopM | exact hfRec | exact hfRec _ _ _ _ | apply Sx | apply SC | exact Le.rfl' _ | intro _)
theorem NO : ∀ (m : Nat) a0 a1 a2 a3,Le (DM m a0 a1 a2 a3) (DM (m + 1) a0 a1 a2 a3)
  | 0,a0,a1,a2,a3 => fun _ h => nomatch h
  | m + 1,a0,a1,a2,a3 => SE (NO m) a0 a1 a2 a3
theorem MF {fRec fRec' : Tr34 → Int → Option (List Int)} (hfRec : ∀ a0 a1,Le (fRec a0 a1) (fRec' a0 a1)) (p0 : Tr34) (p1 : Int) : ∀ s,Le (BP fRec p0 p1 s) (BP fRec' p0 p1 s) := by
  rintro ⟨x4,x5⟩
  show Le (BP fRec p0 p1 (x4,x5)) (BP fRec' p0 p1 (x4,x5))
  unfold BP
  repeat' with_reducible (first | apply Le.bind' | apply Le.ite' | exact hfRec | exact hfRec _ _ | exact Le.rfl' _ | intro _)
theorem My {fRec fRec' : Tr34 → Int → Option (List Int)} (hfRec : ∀ a0 a1,Le (fRec a0 a1) (fRec' a0 a1)) (p0 : Tr34) (p1 : Int) : Le (CG fRec p0 p1) (CG fRec' p0 p1) := by
  unfold CG
  repeat' with_reducible (first | apply Le.bind' | apply Le.ite' | apply Le.loopM | exact hfRec | exact hfRec _ _ | apply MF | exact Le.rfl' _ | intro _)
theorem I8 : ∀ (m : Nat) a0 a1,Le (Cy m a0 a1) (Cy (m + 1) a0 a1)
  | 0,a0,a1 => fun _ h => nomatch h
  | m + 1,a0,a1 => My (I8 m) a0 a1
theorem NT {fRec fRec' : Tr37 → Int → Option (List Int)} (hfRec : ∀ a0 a1,Le (fRec a0 a1) (fRec' a0 a1)) (p0 : Tr37) (p1 : Int) : ∀ s,Le (CU fRec p0 p1 s) (CU fRec' p0 p1 s) := by
  rintro ⟨x5,x6⟩
  show Le (CU fRec p0 p1 (x5,x6)) (CU fRec' p0 p1 (x5,x6))
  unfold CU
  repeat' with_reducible (first | apply Le.bind' | apply Le.ite' | exact hfRec | exact hfRec _ _ | exact Le.rfl' _ | intro _)
theorem Og {fRec fRec' : Tr37 → Int → Option (List Int)} (hfRec : ∀ a0 a1,Le (fRec a0 a1) (fRec' a0 a1)) (p0 : Tr37) (p1 : Int) : Le (Ei fRec p0 p1) (Ei fRec' p0 p1) := by
  unfold Ei
  repeat' with_reducible (first | apply Le.bind' | apply Le.ite' | apply Le.loopM | exact hfRec | exact hfRec _ _ | apply NT | exact Le.rfl' _ | intro _)
theorem Kw : ∀ (m : Nat) a0 a1,Le (C4 m a0 a1) (C4 (m + 1) a0 a1)
  | 0,a0,a1 => fun _ h => nomatch h
  | m + 1,a0,a1 => Og (Kw m) a0 a1
theorem QE {fRec fRec' : Tr24 → Int → Int → Option Bool} (hfRec : ∀ a0 a1 a2,Le (fRec a0 a1 a2) (fRec' a0 a1 a2)) (p0 : Tr24) (p1 : Int) (p2 : Int) : ∀ s,Le (EE fRec p0 p1 p2 s) (EE fRec' p0 p1 p2 s) := by
  intro x1
  unfold EE
  repeat' with_reducible (first | apply Le.bind' | apply Le.ite' | exact hfRec | exact hfRec _ _ _ | exact Le.rfl' _ | intro _)
theorem Rh {fRec fRec' : Tr24 → Int → Int → Option Bool} (hfRec : ∀ a0 a1 a2,Le (fRec a0 a1 a2) (fRec' a0 a1 a2)) (p0 : Tr24) (p1 : Int) (p2 : Int) : Le (EG fRec p0 p1 p2) (EG fRec' p0 p1 p2) := by
  unfold EG
  repeat' with_reducible (first | apply Le.orR' | apply Le.ite' | apply Le.loopM | exact hfRec | exact hfRec _ _ _ | apply QE | exact Le.rfl' _ | intro _)
theorem MP : ∀ (m : Nat) a0 a1 a2,Le (FB m a0 a1 a2) (FB (m + 1) a0 a1 a2)
  | 0,a0,a1,a2 => fun _ h => nomatch h
  | m + 1,a0,a1,a2 => Rh (MP m) a0 a1 a2
theorem SO {fRec fRec' : Tr27 → Int → Int → Option Bool} (hfRec : ∀ a0 a1 a2,Le (fRec a0 a1 a2) (fRec' a0 a1 a2)) (p0 : Tr27) (p1 : Int) (p2 : Int) : ∀ s,Le (GP fRec p0 p1 p2 s) (GP fRec' p0 p1 p2 s) := by
  intro x5
  unfold GP
  repeat' with_reducible (first | apply Le.bind' | apply Le.ite' | exact hfRec | exact hfRec _ _ _ | exact Le.rfl' _ | intro _)
theorem SQ {fRec fRec' : Tr27 → Int → Int → Option Bool} (hfRec : ∀ a0 a1 a2,Le (fRec a0 a1 a2) (fRec' a0 a1 a2)) (p0 : Tr27) (p1 : Int) (p2 : Int) : Le (GV fRec p0 p1 p2) (GV fRec' p0 p1 p2) := by
  unfold GV
  repeat' with_reducible (first | apply Le.orR' | apply Le.bind' | apply Le.ite' | apply Le.loopM | exact hfRec | exact hfRec _ _ _ | apply SO | exact Le.rfl' _ | intro _)
theorem NQ : ∀ (m : Nat) a0 a1 a2,Le (Gg m a0 a1 a2) (Gg (m + 1) a0 a1 a2)
  | 0,a0,a1,a2 => fun _ h => nomatch h
  | m + 1,a0,a1,a2 => SQ (NQ m) a0 a1 a2
theorem QF {fRec fRec' : Tr24 → Option (List UInt8)} (hfRec : ∀ a0,Le (fRec a0) (fRec' a0)) (p0 : Tr24) (x5 : List UInt8) : ∀ s,Le (C0 fRec p0 x5 s) (C0 fRec' p0 x5 s) := by
  rintro ⟨x7,x8⟩
  show Le (C0 fRec p0 x5 (x7,x8)) (C0 fRec' p0 x5 (x7,x8))
  unfold C0
  repeat' with_reducible (first | apply Le.bind' | apply Le.ite' | exact hfRec | exact hfRec _ | exact Le.rfl' _ | intro _)
theorem RW {fRec fRec' : Tr24 → Option (List UInt8)} (hfRec : ∀ a0,Le (fRec a0) (fRec' a0)) (p0 : Tr24) : Le (EF fRec p0) (EF fRec' p0) := by
  unfold EF
  repeat' with_reducible (first | apply Le.bind' | apply Le.ite' | apply Le.loopM | exact hfRec | exact hfRec _ | apply QF | exact Le.rfl' _ | intro _)
theorem MS : ∀ (m : Nat) a0,Le (DQ m a0) (DQ (m + 1) a0)
  | 0,a0 => fun _ h => nomatch h
  | m + 1,a0 => RW (MS m) a0
theorem QO {fRec fRec' : Tr27 → Option (List UInt8)} (hfRec : ∀ a0,Le (fRec a0) (fRec' a0)) (p0 : Tr27) (x9 : List UInt8) : ∀ s,Le (CL fRec p0 x9 s) (CL fRec' p0 x9 s) := by
  rintro ⟨x14,x15⟩
  show Le (CL fRec p0 x9 (x14,x15)) (CL fRec' p0 x9 (x14,x15))
  unfold CL
  repeat' with_reducible (first | apply Le.bind' | apply Le.ite' | exact hfRec | exact hfRec _ | exact Le.rfl' _ | intro _)
theorem QT {fRec fRec' : Tr27 → Option (List UInt8)} (hfRec : ∀ a0,Le (fRec a0) (fRec' a0)) (p0 : Tr27) : Le (Gd fRec p0) (Gd fRec' p0) := by
  unfold Gd
  repeat' with_reducible (first | apply Le.bind' | apply Le.ite' | apply Le.loopM | exact hfRec | exact hfRec _ | apply QO | exact Le.rfl' _ | (refine Le.pi2 ?_; intro _) | intro _)
theorem M6 : ∀ (m : Nat) a0,Le (CX m a0) (CX (m + 1) a0)
  | 0,a0 => fun _ h => nomatch h
  | m + 1,a0 => QT (M6 m) a0
end Go.Proofs.YtpckgggmgijiiaaGreatDoor
