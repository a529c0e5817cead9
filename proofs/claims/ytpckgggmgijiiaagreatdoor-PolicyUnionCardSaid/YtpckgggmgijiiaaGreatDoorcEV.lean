/- Twins with fuel of Jw functions: what a twin answers, the function answers. Conditions: none. -/
import Derived.Test.YtpckgggmgijiiaaGreatDoorcLP
import Derived.Test.YtpckgggmgijiiaaGreatDoorcU6
namespace Go.Proofs.YtpckgggmgijiiaaGreatDoor
open Go Go.RowKit
set_option linter.unusedVariables false
set_option linter.unusedSimpArgs false
set_option maxRecDepth 20000
set_option maxHeartbeats 1600000
abbrev Le {α : Type} (a b : Option α) : Prop := ∀ r, a = some r → b = some r
theorem Le.rfl' {α : Type} (a : Option α) : Le a a := fun _ h => h
theorem Le.bind' {α β : Type} {a b : Option α} {f g : α → Option β} (h : Le a b) (hf : ∀ x, Le (f x) (g x)) : Le (a.bind f) (b.bind g) := fun r e => by
  obtain ⟨x, h1, h2⟩ := Ag e
  rw [h x h1, Option.bind_some]; exact hf x r h2
theorem Le.ite' {α : Type} {c : Prop} [Decidable c] {a a' b b' : Option α} (h1 : Le a a') (h2 : Le b b') : Le (if c then a else b) (if c then a' else b') := fun r e => by
  by_cases h : c
  · rw [if_pos h] at e ⊢; exact h1 r e
  · rw [if_neg h] at e ⊢; exact h2 r e
theorem Le.orR' {α β : Type} {a b : Option (α ⊕ β)} {f g : α → Option β} (h : Le a b) (hf : ∀ x, Le (f x) (g x)) : Le (Ku a f) (Ku b g) :=
  Le.bind' h fun x => by
    cases x with
    | inl t => exact hf t
    | inr e => exact Le.rfl' _
def I8 {σ ε : Type} (n : Nat) (step : σ → Option (σ ⊕ ε)) (s : σ) : Option ε := Ie step n s
theorem L6 {σ ε : Type} {S T : σ → Option (σ ⊕ ε)} (h : ∀ s, Le (S s) (T s)) : ∀ (n : Nat) (s : σ), Le (Ie S n s) (Ie T n s)
  | 0, s => Le.rfl' _
  | n + 1, s => fun r e => by
    unfold Ie at e ⊢
    cases hs : S s with
    | none => rw [hs] at e; cases e
    | some q =>
      rw [hs] at e; rw [h s q hs]
      cases q with
      | inl s' => exact L6 h n s' r e
      | inr _ => exact e
theorem Le.loop' {σ ε : Type} {n : Nat} {S T : σ → Option (σ ⊕ ε)} {s : σ} (h : ∀ s, Le (S s) (T s)) : Le (I8 n S s) (Ba T s) := fun r e => GD.2 ⟨n, L6 h n s r e⟩
theorem Le.pi2 {α β γ : Type} {f g : α × β → Option γ} (h : ∀ a b, Le (f (a, b)) (g (a, b))) : ∀ x, Le (f x) (g x) := fun x => h x.1 x.2
theorem Le.altS' {α β γ : Type} {y : α ⊕ β} {f f' : α → Option γ} {g g' : β → Option γ} (h : ∀ x, Le (f x) (f' x)) (k : ∀ x, Le (g x) (g' x)) : Le (Xi y f g) (Xi y f' g') := by
  cases y with
  | inl x => exact h x
  | inr x => exact k x
theorem Dv {β : Type} {g : Nat → Option β} (hm : ∀ n r, g n = some r → g (n + 1) = some r) {n : Nat} {r : β} (h : g n = some r) : HC g = some r := by
  have up : ∀ (d m : Nat) (q : β), g m = some q → g (m + d) = some q := fun d => by
    induction d with
    | zero => exact fun m q h => h
    | succ d ih => exact fun m q h => hm _ _ (ih m q h)
  refine SK n h fun m q hq => ?_
  have h1 := up m n r h
  have h2 := up n m q hq
  rw [Nat.add_comm] at h2
  exact Option.some.inj (h2.symm.trans h1)
theorem Le.loopM {σ ε : Type} {S T : σ → Option (σ ⊕ ε)} {s : σ} (h : ∀ s, Le (S s) (T s)) : Le (Ba S s) (Ba T s) := fun r e => by
  obtain ⟨n, hn⟩ := GD.1 e
  exact GD.2 ⟨n, L6 h n s r hn⟩
theorem Le.sall' {κ : Type} {lt : κ → κ → Bool} {f g : κ → Option (List κ)} (h : ∀ x, Le (f x) (g x)) : ∀ (l a : List κ), Le (FT lt f l a) (FT lt g l a)
  | [], a => Le.rfl' _
  | x :: l, a => by
    show Le ((f x).bind _) ((g x).bind _)
    exact Le.bind' (h x) fun r => Le.sall' h l _
theorem OP {fRec fRec' : Tr24 → Option Bool} (hfRec : ∀ a0, Le (fRec a0) (fRec' a0)) (p0 : Tr24) : ∀ s, Le (Fy fRec p0 s) (Fy fRec' p0 s) := by
  intro x1
  unfold Fy
  repeat' with_reducible (first | apply Le.orR' | apply Le.bind' | apply Le.ite' | apply Le.loopM | apply Le.altS' | exact hfRec | exact hfRec _ | exact Le.rfl' _ | (refine Le.pi2 ?_; intro _) | intro _)
theorem Ol {fRec fRec' : Tr24 → Option Bool} (hfRec : ∀ a0, Le (fRec a0) (fRec' a0)) (p0 : Tr24) : Le (Ft fRec p0) (Ft fRec' p0) := by
  unfold Ft
  repeat' with_reducible (first | apply Le.orR' | apply Le.bind' | apply Le.ite' | apply Le.loopM | apply Le.altS' | exact hfRec | exact hfRec _ | apply OP | exact Le.rfl' _ | (refine Le.pi2 ?_; intro _) | intro _)
theorem LF : ∀ (m : Nat) a0, Le (Eo m a0) (Eo (m + 1) a0)
  | 0, a0 => fun _ h => nomatch h
  | m + 1, a0 => Ol (LF m) a0
theorem OY {fRec fRec' : Tr24 → Option Int} (hfRec : ∀ a0, Le (fRec a0) (fRec' a0)) (p0 : Tr24) : ∀ s, Le (DL fRec p0 s) (DL fRec' p0 s) := by
  rintro ⟨x2, x3⟩
  show Le (DL fRec p0 (x2, x3)) (DL fRec' p0 (x2, x3))
  unfold DL
  repeat' with_reducible (first | apply Le.orR' | apply Le.bind' | apply Le.ite' | apply Le.loopM | apply Le.altS' | exact hfRec | exact hfRec _ | exact Le.rfl' _ | (refine Le.pi2 ?_; intro _) | intro _)
theorem N9 {fRec fRec' : Tr24 → Option Int} (hfRec : ∀ a0, Le (fRec a0) (fRec' a0)) (p0 : Tr24) : Le (Fm fRec p0) (Fm fRec' p0) := by
  unfold Fm
  repeat' with_reducible (first | apply Le.orR' | apply Le.bind' | apply Le.ite' | apply Le.loopM | apply Le.altS' | exact hfRec | exact hfRec _ | apply OY | exact Le.rfl' _ | (refine Le.pi2 ?_; intro _) | intro _)
theorem LA : ∀ (m : Nat) a0, Le (Es m a0) (Es (m + 1) a0)
  | 0, a0 => fun _ h => nomatch h
  | m + 1, a0 => N9 (LA m) a0
theorem Od {fRec fRec' : Tr24 → Option Int} (hfRec : ∀ a0, Le (fRec a0) (fRec' a0)) (p0 : Tr24) : ∀ s, Le (DN fRec p0 s) (DN fRec' p0 s) := by
  rintro ⟨x2, x3⟩
  show Le (DN fRec p0 (x2, x3)) (DN fRec' p0 (x2, x3))
  unfold DN
  repeat' with_reducible (first | apply Le.orR' | apply Le.bind' | apply Le.ite' | apply Le.loopM | apply Le.altS' | exact hfRec | exact hfRec _ | exact Le.rfl' _ | (refine Le.pi2 ?_; intro _) | intro _)
theorem OK {fRec fRec' : Tr24 → Option Int} (hfRec : ∀ a0, Le (fRec a0) (fRec' a0)) (p0 : Tr24) : Le (FB fRec p0) (FB fRec' p0) := by
  unfold FB
  repeat' with_reducible (first | apply Le.orR' | apply Le.bind' | apply Le.ite' | apply Le.loopM | apply Le.altS' | exact hfRec | exact hfRec _ | apply Od | exact Le.rfl' _ | (refine Le.pi2 ?_; intro _) | intro _)
theorem Ll : ∀ (m : Nat) a0, Le (En m a0) (En (m + 1) a0)
  | 0, a0 => fun _ h => nomatch h
  | m + 1, a0 => OK (Ll m) a0
theorem Pb {fRec fRec' : Tr24 → Tr24 → Option Bool} (hfRec : ∀ a0 a1, Le (fRec a0 a1) (fRec' a0 a1)) (p0 : Tr24) (p1 : Tr24) : ∀ s, Le (Ho fRec p0 p1 s) (Ho fRec' p0 p1 s) := by
  intro x1
  unfold Ho
  repeat' with_reducible (first | apply Le.orR' | apply Le.bind' | apply Le.ite' | apply Le.loopM | apply Le.altS' | exact hfRec | exact hfRec _ _ | exact Le.rfl' _ | (refine Le.pi2 ?_; intro _) | intro _)
theorem OS {fRec fRec' : Tr24 → Tr24 → Option Bool} (hfRec : ∀ a0 a1, Le (fRec a0 a1) (fRec' a0 a1)) (p0 : Tr24) (p1 : Tr24) : Le (Fq fRec p0 p1) (Fq fRec' p0 p1) := by
  unfold Fq
  repeat' with_reducible (first | apply Le.orR' | apply Le.bind' | apply Le.ite' | apply Le.loopM | apply Le.altS' | exact hfRec | exact hfRec _ _ | apply Pb | exact Le.rfl' _ | (refine Le.pi2 ?_; intro _) | intro _)
theorem Lx : ∀ (m : Nat) a0 a1, Le (FM m a0 a1) (FM (m + 1) a0 a1)
  | 0, a0, a1 => fun _ h => nomatch h
  | m + 1, a0, a1 => OS (Lx m) a0 a1
theorem O6 {fRec fRec' : Tr27 → Option Bool} (hfRec : ∀ a0, Le (fRec a0) (fRec' a0)) (p0 : Tr27) : ∀ s, Le (ER fRec p0 s) (ER fRec' p0 s) := by
  intro x4
  unfold ER
  repeat' with_reducible (first | apply Le.orR' | apply Le.bind' | apply Le.ite' | apply Le.loopM | apply Le.altS' | exact hfRec | exact hfRec _ | exact Le.rfl' _ | (refine Le.pi2 ?_; intro _) | intro _)
theorem Oj {fRec fRec' : Tr27 → Option Bool} (hfRec : ∀ a0, Le (fRec a0) (fRec' a0)) (p0 : Tr27) : Le (Fo fRec p0) (Fo fRec' p0) := by
  unfold Fo
  repeat' with_reducible (first | apply Le.orR' | apply Le.bind' | apply Le.ite' | apply Le.loopM | apply Le.altS' | exact hfRec | exact hfRec _ | apply O6 | exact Le.rfl' _ | (refine Le.pi2 ?_; intro _) | intro _)
theorem Ls : ∀ (m : Nat) a0, Le (El m a0) (El (m + 1) a0)
  | 0, a0 => fun _ h => nomatch h
  | m + 1, a0 => Oj (Ls m) a0
theorem OV {fRec fRec' : Tr27 → Option Int} (hfRec : ∀ a0, Le (fRec a0) (fRec' a0)) (p0 : Tr27) : ∀ s, Le (DO fRec p0 s) (DO fRec' p0 s) := by
  rintro ⟨x2, x3⟩
  show Le (DO fRec p0 (x2, x3)) (DO fRec' p0 (x2, x3))
  unfold DO
  repeat' with_reducible (first | apply Le.orR' | apply Le.bind' | apply Le.ite' | apply Le.loopM | apply Le.altS' | exact hfRec | exact hfRec _ | exact Le.rfl' _ | (refine Le.pi2 ?_; intro _) | intro _)
theorem Pc {fRec fRec' : Tr27 → Option Int} (hfRec : ∀ a0, Le (fRec a0) (fRec' a0)) (p0 : Tr27) : Le (Fk fRec p0) (Fk fRec' p0) := by
  unfold Fk
  repeat' with_reducible (first | apply Le.orR' | apply Le.bind' | apply Le.ite' | apply Le.loopM | apply Le.altS' | exact hfRec | exact hfRec _ | apply OV | exact Le.rfl' _ | (refine Le.pi2 ?_; intro _) | intro _)
theorem Lt : ∀ (m : Nat) a0, Le (Em m a0) (Em (m + 1) a0)
  | 0, a0 => fun _ h => nomatch h
  | m + 1, a0 => Pc (Lt m) a0
theorem OX {fRec fRec' : Tr27 → Option Int} (hfRec : ∀ a0, Le (fRec a0) (fRec' a0)) (p0 : Tr27) : ∀ s, Le (DS fRec p0 s) (DS fRec' p0 s) := by
  rintro ⟨x4, x5⟩
  show Le (DS fRec p0 (x4, x5)) (DS fRec' p0 (x4, x5))
  unfold DS
  repeat' with_reducible (first | apply Le.orR' | apply Le.bind' | apply Le.ite' | apply Le.loopM | apply Le.altS' | exact hfRec | exact hfRec _ | exact Le.rfl' _ | (refine Le.pi2 ?_; intro _) | intro _)
theorem OM {fRec fRec' : Tr27 → Option Int} (hfRec : ∀ a0, Le (fRec a0) (fRec' a0)) (p0 : Tr27) : Le (Fv fRec p0) (Fv fRec' p0) := by
  unfold Fv
  repeat' with_reducible (first | apply Le.orR' | apply Le.bind' | apply Le.ite' | apply Le.loopM | apply Le.altS' | exact hfRec | exact hfRec _ | apply OX | exact Le.rfl' _ | (refine Le.pi2 ?_; intro _) | intro _)
theorem Lm : ∀ (m : Nat) a0, Le (Ey m a0) (Ey (m + 1) a0)
  | 0, a0 => fun _ h => nomatch h
  | m + 1, a0 => OM (Lm m) a0
theorem O7 {fRec fRec' : Tr27 → Option Int} (hfRec : ∀ a0, Le (fRec a0) (fRec' a0)) (p0 : Tr27) : ∀ s, Le (DP fRec p0 s) (DP fRec' p0 s) := by
  rintro ⟨x3, x4⟩
  show Le (DP fRec p0 (x3, x4)) (DP fRec' p0 (x3, x4))
  unfold DP
  repeat' with_reducible (first | apply Le.orR' | apply Le.bind' | apply Le.ite' | apply Le.loopM | apply Le.altS' | exact hfRec | exact hfRec _ | exact Le.rfl' _ | (refine Le.pi2 ?_; intro _) | intro _)
theorem OU {fRec fRec' : Tr27 → Option Int} (hfRec : ∀ a0, Le (fRec a0) (fRec' a0)) (p0 : Tr27) : Le (Fs fRec p0) (Fs fRec' p0) := by
  unfold Fs
  repeat' with_reducible (first | apply Le.orR' | apply Le.bind' | apply Le.ite' | apply Le.loopM | apply Le.altS' | exact hfRec | exact hfRec _ | apply O7 | exact Le.rfl' _ | (refine Le.pi2 ?_; intro _) | intro _)
theorem LB : ∀ (m : Nat) a0, Le (D0 m a0) (D0 (m + 1) a0)
  | 0, a0 => fun _ h => nomatch h
  | m + 1, a0 => OU (LB m) a0
def J3 (nE : Nat) (p0 : Int × Int × Int × Int) (p1 : Int) : Option Int := (if (!(Dm p1)) = true then some 0 else (ix ([p0.1, p0.2.1, p0.2.2.1, p0.2.2.2] : List Int) p1).bind fun x1 => some x1)
theorem Py (nE : Nat) (p0 : Int × Int × Int × Int) (p1 : Int) : Le (J3 nE p0 p1) (HR p0 p1) := by
  unfold J3 HR
  repeat' with_reducible (first | apply Le.orR' | apply Le.bind' | apply Le.ite' | apply Le.loop' | apply Le.altS' | exact Le.rfl' _ | (refine Le.pi2 ?_; intro _) | intro _)
def LJ (nE : Nat) (p0 : Int) (p1 : Int) (p2 : Int) (p3 : Int × Int × Int × Int) : Option Int := (if p0 = 4 then some p2 else (if p0 = 5 then some p1 else (if (Dg p0) = true then (J3 nE p3 p0).bind fun x1 => some x1 else some (-1))))
theorem QY (nE : Nat) (p0 : Int) (p1 : Int) (p2 : Int) (p3 : Int × Int × Int × Int) : Le (LJ nE p0 p1 p2 p3) (IJ p0 p1 p2 p3) := by
  unfold LJ IJ
  repeat' with_reducible (first | apply Le.orR' | apply Le.bind' | apply Le.ite' | apply Le.loop' | apply Le.altS' | apply Py | exact Le.rfl' _ | (refine Le.pi2 ?_; intro _) | intro _)
def EV (nE : Nat) (fRec_pred_arrival_satisfies : (Int × Int × (Int × Int × Int × Int)) → Tr34 → Option Bool) (p0 : Int × Int × (Int × Int × Int × Int)) (p1 : Tr34) : Option Bool := (fRec_pred_arrival_satisfies p0 p1).bind fun x1 => some (!x1)
theorem HI (nE : Nat) {fRec_pred_arrival_satisfies fRec_pred_arrival_satisfies' : (Int × Int × (Int × Int × Int × Int)) → Tr34 → Option Bool} (hfRec_pred_arrival_satisfies : ∀ a0 a1, Le (fRec_pred_arrival_satisfies a0 a1) (fRec_pred_arrival_satisfies' a0 a1)) (p0 : Int × Int × (Int × Int × Int × Int)) (p1 : Tr34) : Le (EV nE fRec_pred_arrival_satisfies p0 p1) (Cp fRec_pred_arrival_satisfies' p0 p1) := by
  unfold EV Cp
  repeat' with_reducible (first | apply Le.orR' | apply Le.bind' | apply Le.ite' | apply Le.loop' | apply Le.altS' | exact hfRec_pred_arrival_satisfies | exact hfRec_pred_arrival_satisfies _ _ | exact Le.rfl' _ | (refine Le.pi2 ?_; intro _) | intro _)
theorem HM {fRec_pred_arrival_satisfies fRec_pred_arrival_satisfies' : (Int × Int × (Int × Int × Int × Int)) → Tr34 → Option Bool} (hfRec_pred_arrival_satisfies : ∀ a0 a1, Le (fRec_pred_arrival_satisfies a0 a1) (fRec_pred_arrival_satisfies' a0 a1)) (p0 : Int × Int × (Int × Int × Int × Int)) (p1 : Tr34) : Le (Cp fRec_pred_arrival_satisfies p0 p1) (Cp fRec_pred_arrival_satisfies' p0 p1) := by
  unfold Cp
  repeat' with_reducible (first | apply Le.orR' | apply Le.bind' | apply Le.ite' | apply Le.loopM | apply Le.altS' | exact hfRec_pred_arrival_satisfies | exact hfRec_pred_arrival_satisfies _ _ | exact Le.rfl' _ | (refine Le.pi2 ?_; intro _) | intro _)
def C3 (nE : Nat) (fRec_pred_arrival_satisfies : (Int × Int × (Int × Int × Int × Int)) → Tr34 → Option Bool) (p0 : List Tr34) (p1f0 : Int × Int × (Int × Int × Int × Int)) : Int → Option (Int ⊕ (Unit ⊕ Int))
  | x1 => (if x1 < (p0.length : Int) then (ix p0 x1).bind fun x2 => ((EV nE fRec_pred_arrival_satisfies) p1f0 x2).bind fun x3 => (if x3 = true then some (.inr (.inr x1)) else some (.inl (AU (x1 + 1)))) else some (.inr (.inl ())))
theorem FN (nE : Nat) {fRec_pred_arrival_satisfies fRec_pred_arrival_satisfies' : (Int × Int × (Int × Int × Int × Int)) → Tr34 → Option Bool} (hfRec_pred_arrival_satisfies : ∀ a0 a1, Le (fRec_pred_arrival_satisfies a0 a1) (fRec_pred_arrival_satisfies' a0 a1)) (p0 : List Tr34) (p1f0 : Int × Int × (Int × Int × Int × Int)) : ∀ s, Le (C3 nE fRec_pred_arrival_satisfies p0 p1f0 s) (AN fRec_pred_arrival_satisfies' p0 p1f0 s) := by
  intro x1
  unfold C3 AN
  repeat' with_reducible (first | apply Le.orR' | apply Le.bind' | apply Le.ite' | apply Le.loop' | apply Le.altS' | exact hfRec_pred_arrival_satisfies | exact hfRec_pred_arrival_satisfies _ _ | apply HI | exact Le.rfl' _ | (refine Le.pi2 ?_; intro _) | intro _)
theorem FD {fRec_pred_arrival_satisfies fRec_pred_arrival_satisfies' : (Int × Int × (Int × Int × Int × Int)) → Tr34 → Option Bool} (hfRec_pred_arrival_satisfies : ∀ a0 a1, Le (fRec_pred_arrival_satisfies a0 a1) (fRec_pred_arrival_satisfies' a0 a1)) (p0 : List Tr34) (p1f0 : Int × Int × (Int × Int × Int × Int)) : ∀ s, Le (AN fRec_pred_arrival_satisfies p0 p1f0 s) (AN fRec_pred_arrival_satisfies' p0 p1f0 s) := by
  intro x1
  unfold AN
  repeat' with_reducible (first | apply Le.orR' | apply Le.bind' | apply Le.ite' | apply Le.loopM | apply Le.altS' | exact hfRec_pred_arrival_satisfies | exact hfRec_pred_arrival_satisfies _ _ | apply HM | exact Le.rfl' _ | (refine Le.pi2 ?_; intro _) | intro _)
def Db (nE : Nat) (fRec_pred_arrival_satisfies : (Int × Int × (Int × Int × Int × Int)) → Tr34 → Option Bool) (p0 : List Tr34) (p1f0 : Int × Int × (Int × Int × Int × Int)) : Option Int := Ku (I8 nE (C3 nE fRec_pred_arrival_satisfies p0 p1f0) 0) fun _ => some (-1)
theorem Gj (nE : Nat) {fRec_pred_arrival_satisfies fRec_pred_arrival_satisfies' : (Int × Int × (Int × Int × Int × Int)) → Tr34 → Option Bool} (hfRec_pred_arrival_satisfies : ∀ a0 a1, Le (fRec_pred_arrival_satisfies a0 a1) (fRec_pred_arrival_satisfies' a0 a1)) (p0 : List Tr34) (p1f0 : Int × Int × (Int × Int × Int × Int)) : Le (Db nE fRec_pred_arrival_satisfies p0 p1f0) (Bh fRec_pred_arrival_satisfies' p0 p1f0) := by
  unfold Db Bh
  repeat' with_reducible (first | apply Le.orR' | apply Le.bind' | apply Le.ite' | apply Le.loop' | apply Le.altS' | exact hfRec_pred_arrival_satisfies | exact hfRec_pred_arrival_satisfies _ _ | apply FN | exact Le.rfl' _ | (refine Le.pi2 ?_; intro _) | intro _)
theorem Gi {fRec_pred_arrival_satisfies fRec_pred_arrival_satisfies' : (Int × Int × (Int × Int × Int × Int)) → Tr34 → Option Bool} (hfRec_pred_arrival_satisfies : ∀ a0 a1, Le (fRec_pred_arrival_satisfies a0 a1) (fRec_pred_arrival_satisfies' a0 a1)) (p0 : List Tr34) (p1f0 : Int × Int × (Int × Int × Int × Int)) : Le (Bh fRec_pred_arrival_satisfies p0 p1f0) (Bh fRec_pred_arrival_satisfies' p0 p1f0) := by
  unfold Bh
  repeat' with_reducible (first | apply Le.orR' | apply Le.bind' | apply Le.ite' | apply Le.loopM | apply Le.altS' | exact hfRec_pred_arrival_satisfies | exact hfRec_pred_arrival_satisfies _ _ | apply FD | exact Le.rfl' _ | (refine Le.pi2 ?_; intro _) | intro _)
def C4 (nE : Nat) (fRec_pred_arrival_satisfies : (Int × Int × (Int × Int × Int × Int)) → Tr34 → Option Bool) (p0 : List Tr34) (p1f0 : Int × Int × (Int × Int × Int × Int)) : Option Bool := ((Db nE fRec_pred_arrival_satisfies) p0 p1f0).bind fun x1 => some (decide (0 ≤ x1))
theorem FG (nE : Nat) {fRec_pred_arrival_satisfies fRec_pred_arrival_satisfies' : (Int × Int × (Int × Int × Int × Int)) → Tr34 → Option Bool} (hfRec_pred_arrival_satisfies : ∀ a0 a1, Le (fRec_pred_arrival_satisfies a0 a1) (fRec_pred_arrival_satisfies' a0 a1)) (p0 : List Tr34) (p1f0 : Int × Int × (Int × Int × Int × Int)) : Le (C4 nE fRec_pred_arrival_satisfies p0 p1f0) (A8 fRec_pred_arrival_satisfies' p0 p1f0) := by
  unfold C4 A8
  repeat' with_reducible (first | apply Le.orR' | apply Le.bind' | apply Le.ite' | apply Le.loop' | apply Le.altS' | exact hfRec_pred_arrival_satisfies | exact hfRec_pred_arrival_satisfies _ _ | apply Gj | exact Le.rfl' _ | (refine Le.pi2 ?_; intro _) | intro _)
theorem FP {fRec_pred_arrival_satisfies fRec_pred_arrival_satisfies' : (Int × Int × (Int × Int × Int × Int)) → Tr34 → Option Bool} (hfRec_pred_arrival_satisfies : ∀ a0 a1, Le (fRec_pred_arrival_satisfies a0 a1) (fRec_pred_arrival_satisfies' a0 a1)) (p0 : List Tr34) (p1f0 : Int × Int × (Int × Int × Int × Int)) : Le (A8 fRec_pred_arrival_satisfies p0 p1f0) (A8 fRec_pred_arrival_satisfies' p0 p1f0) := by
  unfold A8
  repeat' with_reducible (first | apply Le.orR' | apply Le.bind' | apply Le.ite' | apply Le.loopM | apply Le.altS' | exact hfRec_pred_arrival_satisfies | exact hfRec_pred_arrival_satisfies _ _ | apply Gi | exact Le.rfl' _ | (refine Le.pi2 ?_; intro _) | intro _)
def CV (nE : Nat) (fRec_pred_arrival_satisfies : (Int × Int × (Int × Int × Int × Int)) → Tr34 → Option Bool) (p0 : List Tr34) (p1f0 : Int × Int × (Int × Int × Int × Int)) : Int → Option (Int ⊕ (Unit ⊕ Int))
  | x1 => (if x1 < (p0.length : Int) then (ix p0 x1).bind fun x2 => (fRec_pred_arrival_satisfies p1f0 x2).bind fun x3 => (if x3 = true then some (.inr (.inr x1)) else some (.inl (AU (x1 + 1)))) else some (.inr (.inl ())))
theorem E8 (nE : Nat) {fRec_pred_arrival_satisfies fRec_pred_arrival_satisfies' : (Int × Int × (Int × Int × Int × Int)) → Tr34 → Option Bool} (hfRec_pred_arrival_satisfies : ∀ a0 a1, Le (fRec_pred_arrival_satisfies a0 a1) (fRec_pred_arrival_satisfies' a0 a1)) (p0 : List Tr34) (p1f0 : Int × Int × (Int × Int × Int × Int)) : ∀ s, Le (CV nE fRec_pred_arrival_satisfies p0 p1f0 s) (AJ fRec_pred_arrival_satisfies' p0 p1f0 s) := by
  intro x1
  unfold CV AJ
  repeat' with_reducible (first | apply Le.orR' | apply Le.bind' | apply Le.ite' | apply Le.loop' | apply Le.altS' | exact hfRec_pred_arrival_satisfies | exact hfRec_pred_arrival_satisfies _ _ | exact Le.rfl' _ | (refine Le.pi2 ?_; intro _) | intro _)
theorem Fg {fRec_pred_arrival_satisfies fRec_pred_arrival_satisfies' : (Int × Int × (Int × Int × Int × Int)) → Tr34 → Option Bool} (hfRec_pred_arrival_satisfies : ∀ a0 a1, Le (fRec_pred_arrival_satisfies a0 a1) (fRec_pred_arrival_satisfies' a0 a1)) (p0 : List Tr34) (p1f0 : Int × Int × (Int × Int × Int × Int)) : ∀ s, Le (AJ fRec_pred_arrival_satisfies p0 p1f0 s) (AJ fRec_pred_arrival_satisfies' p0 p1f0 s) := by
  intro x1
  unfold AJ
  repeat' with_reducible (first | apply Le.orR' | apply Le.bind' | apply Le.ite' | apply Le.loopM | apply Le.altS' | exact hfRec_pred_arrival_satisfies | exact hfRec_pred_arrival_satisfies _ _ | exact Le.rfl' _ | (refine Le.pi2 ?_; intro _) | intro _)
def C6 (nE : Nat) (fRec_pred_arrival_satisfies : (Int × Int × (Int × Int × Int × Int)) → Tr34 → Option Bool) (p0 : List Tr34) (p1f0 : Int × Int × (Int × Int × Int × Int)) : Option Int := Ku (I8 nE (CV nE fRec_pred_arrival_satisfies p0 p1f0) 0) fun _ => some (-1)
theorem FW (nE : Nat) {fRec_pred_arrival_satisfies fRec_pred_arrival_satisfies' : (Int × Int × (Int × Int × Int × Int)) → Tr34 → Option Bool} (hfRec_pred_arrival_satisfies : ∀ a0 a1, Le (fRec_pred_arrival_satisfies a0 a1) (fRec_pred_arrival_satisfies' a0 a1)) (p0 : List Tr34) (p1f0 : Int × Int × (Int × Int × Int × Int)) : Le (C6 nE fRec_pred_arrival_satisfies p0 p1f0) (Bb fRec_pred_arrival_satisfies' p0 p1f0) := by
  unfold C6 Bb
  repeat' with_reducible (first | apply Le.orR' | apply Le.bind' | apply Le.ite' | apply Le.loop' | apply Le.altS' | exact hfRec_pred_arrival_satisfies | exact hfRec_pred_arrival_satisfies _ _ | apply E8 | exact Le.rfl' _ | (refine Le.pi2 ?_; intro _) | intro _)
theorem FV {fRec_pred_arrival_satisfies fRec_pred_arrival_satisfies' : (Int × Int × (Int × Int × Int × Int)) → Tr34 → Option Bool} (hfRec_pred_arrival_satisfies : ∀ a0 a1, Le (fRec_pred_arrival_satisfies a0 a1) (fRec_pred_arrival_satisfies' a0 a1)) (p0 : List Tr34) (p1f0 : Int × Int × (Int × Int × Int × Int)) : Le (Bb fRec_pred_arrival_satisfies p0 p1f0) (Bb fRec_pred_arrival_satisfies' p0 p1f0) := by
  unfold Bb
  repeat' with_reducible (first | apply Le.orR' | apply Le.bind' | apply Le.ite' | apply Le.loopM | apply Le.altS' | exact hfRec_pred_arrival_satisfies | exact hfRec_pred_arrival_satisfies _ _ | apply Fg | exact Le.rfl' _ | (refine Le.pi2 ?_; intro _) | intro _)
def CW (nE : Nat) (fRec_pred_arrival_satisfies : (Int × Int × (Int × Int × Int × Int)) → Tr34 → Option Bool) (p0 : List Tr34) (p1f0 : Int × Int × (Int × Int × Int × Int)) : Option Bool := ((C6 nE fRec_pred_arrival_satisfies) p0 p1f0).bind fun x1 => some (decide (0 ≤ x1))
theorem Fb (nE : Nat) {fRec_pred_arrival_satisfies fRec_pred_arrival_satisfies' : (Int × Int × (Int × Int × Int × Int)) → Tr34 → Option Bool} (hfRec_pred_arrival_satisfies : ∀ a0 a1, Le (fRec_pred_arrival_satisfies a0 a1) (fRec_pred_arrival_satisfies' a0 a1)) (p0 : List Tr34) (p1f0 : Int × Int × (Int × Int × Int × Int)) : Le (CW nE fRec_pred_arrival_satisfies p0 p1f0) (AV fRec_pred_arrival_satisfies' p0 p1f0) := by
  unfold CW AV
  repeat' with_reducible (first | apply Le.orR' | apply Le.bind' | apply Le.ite' | apply Le.loop' | apply Le.altS' | exact hfRec_pred_arrival_satisfies | exact hfRec_pred_arrival_satisfies _ _ | apply FW | exact Le.rfl' _ | (refine Le.pi2 ?_; intro _) | intro _)
theorem Fc {fRec_pred_arrival_satisfies fRec_pred_arrival_satisfies' : (Int × Int × (Int × Int × Int × Int)) → Tr34 → Option Bool} (hfRec_pred_arrival_satisfies : ∀ a0 a1, Le (fRec_pred_arrival_satisfies a0 a1) (fRec_pred_arrival_satisfies' a0 a1)) (p0 : List Tr34) (p1f0 : Int × Int × (Int × Int × Int × Int)) : Le (AV fRec_pred_arrival_satisfies p0 p1f0) (AV fRec_pred_arrival_satisfies' p0 p1f0) := by
  unfold AV
  repeat' with_reducible (first | apply Le.orR' | apply Le.bind' | apply Le.ite' | apply Le.loopM | apply Le.altS' | exact hfRec_pred_arrival_satisfies | exact hfRec_pred_arrival_satisfies _ _ | apply FV | exact Le.rfl' _ | (refine Le.pi2 ?_; intro _) | intro _)
def D8 (nE : Nat) (fRec : (Int × Int × (Int × Int × Int × Int)) → Tr34 → Option Bool) (p0 : Int × Int × (Int × Int × Int × Int)) (p1 : Tr34) : Option Bool := (if p1.un.1 = 1 then some true else (if p1.un.1 = 3 then (if (Dg p1.un.2.1) = true then (LJ nE p1.un.2.1 p0.1 p0.2.1 p0.2.2).bind fun x2 => some (decide (x2 = p1.un.2.2.1)) else some false).bind fun x1 => some x1 else (if p1.un.1 = 4 then (if 0 < (p1.un.2.2.2.length : Int) then (ix p1.un.2.2.2 0).bind fun x4 => ((EV nE fRec) p0 x4).bind fun x5 => some x5 else some false).bind fun x3 => some x3 else (if p1.un.1 = 5 then ((C4 nE fRec) p1.un.2.2.2 p0).bind fun x6 => some (!x6) else (if p1.un.1 = 6 then ((CW nE fRec) p1.un.2.2.2 p0).bind fun x7 => some x7 else some false)))))
theorem Ii (nE : Nat) {fRec fRec' : (Int × Int × (Int × Int × Int × Int)) → Tr34 → Option Bool} (hfRec : ∀ a0 a1, Le (fRec a0 a1) (fRec' a0 a1)) (p0 : Int × Int × (Int × Int × Int × Int)) (p1 : Tr34) : Le (D8 nE fRec p0 p1) (BM fRec' p0 p1) := by
  unfold D8 BM
  repeat' with_reducible (first | apply Le.orR' | apply Le.bind' | apply Le.ite' | apply Le.loop' | apply Le.altS' | exact hfRec | exact hfRec _ _ | apply QY | apply HI | apply FG | apply Fb | exact Le.rfl' _ | (refine Le.pi2 ?_; intro _) | intro _)
theorem Ik {fRec fRec' : (Int × Int × (Int × Int × Int × Int)) → Tr34 → Option Bool} (hfRec : ∀ a0 a1, Le (fRec a0 a1) (fRec' a0 a1)) (p0 : Int × Int × (Int × Int × Int × Int)) (p1 : Tr34) : Le (BM fRec p0 p1) (BM fRec' p0 p1) := by
  unfold BM
  repeat' with_reducible (first | apply Le.orR' | apply Le.bind' | apply Le.ite' | apply Le.loopM | apply Le.altS' | exact hfRec | exact hfRec _ _ | apply HM | apply FP | apply Fc | exact Le.rfl' _ | (refine Le.pi2 ?_; intro _) | intro _)
def Ek (nE : Nat) : Nat → (Int × Int × (Int × Int × Int × Int)) → Tr34 → Option Bool
  | 0 => fun _ _ => none
  | n + 1 => D8 nE (Ek nE n)
theorem Gf (nE : Nat) : ∀ (m : Nat) a0 a1, Le (Ek nE m a0 a1) (Bk m a0 a1)
  | 0, a0, a1 => fun _ h => nomatch h
  | m + 1, a0, a1 => Ii nE (Gf nE m) a0 a1
theorem D6 : ∀ (m : Nat) a0 a1, Le (Bk m a0 a1) (Bk (m + 1) a0 a1)
  | 0, a0, a1 => fun _ h => nomatch h
  | m + 1, a0, a1 => Ik (D6 m) a0 a1
def GX (nE : Nat) (p0 : Int × Int × (Int × Int × Int × Int)) (p1 : Tr34) : Option Bool := Ek nE nE p0 p1
theorem IZ (nE : Nat) (p0 : Int × Int × (Int × Int × Int × Int)) (p1 : Tr34) : Le (GX nE p0 p1) (D7 p0 p1) := fun r e => Dv (g := fun n => Bk n p0 p1) (fun n r h => D6 n p0 p1 r h) (n := nE) (Gf nE nE p0 p1 r e)
def Ja (nE : Nat) (p0 : Tr34) (p1 : Int) (p2 : Int) (p3 : Int × Int × Int × Int) : Option Bool := (GX nE (p1, p2, p3) p0).bind fun x1 => some x1
theorem MI (nE : Nat) (p0 : Tr34) (p1 : Int) (p2 : Int) (p3 : Int × Int × Int × Int) : Le (Ja nE p0 p1 p2 p3) (Hq p0 p1 p2 p3) := by
  unfold Ja Hq
  repeat' with_reducible (first | apply Le.orR' | apply Le.bind' | apply Le.ite' | apply Le.loop' | apply Le.altS' | apply IZ | exact Le.rfl' _ | (refine Le.pi2 ?_; intro _) | intro _)
def Jl (nE : Nat) (p0 : Int) : Option Int := (if p0 = 0 then some true else (if p0 = 1 then some true else some (decide (p0 = 3)))).bind fun x1 => (if x1 = true then some 8 else (if p0 = 2 then some 4 else some 0))
theorem Oo (nE : Nat) (p0 : Int) : Le (Jl nE p0) (Hp p0) := by
  unfold Jl Hp
  repeat' with_reducible (first | apply Le.orR' | apply Le.bind' | apply Le.ite' | apply Le.loop' | apply Le.altS' | exact Le.rfl' _ | (refine Le.pi2 ?_; intro _) | intro _)
def Ip (nE : Nat) (p0 : Int) : Option Int := (Jl nE p0).bind fun x1 => (VN (Ic .i64 1 x1) x1).bind fun x2 => some (AU (x2 - 1))
theorem Lu (nE : Nat) (p0 : Int) : Le (Ip nE p0) (Hj p0) := by
  unfold Ip Hj
  repeat' with_reducible (first | apply Le.orR' | apply Le.bind' | apply Le.ite' | apply Le.loop' | apply Le.altS' | apply Oo | exact Le.rfl' _ | (refine Le.pi2 ?_; intro _) | intro _)
def Jd (nE : Nat) (p0 : Int) (p1 : Int) : Option Bool := (if 0 ≤ p1 then (Ip nE p0).bind fun x2 => some (decide (p1 ≤ x2)) else some false).bind fun x1 => some x1
theorem Oh (nE : Nat) (p0 : Int) (p1 : Int) : Le (Jd nE p0 p1) (Gu p0 p1) := by
  unfold Jd Gu
  repeat' with_reducible (first | apply Le.orR' | apply Le.bind' | apply Le.ite' | apply Le.loop' | apply Le.altS' | apply Lu | exact Le.rfl' _ | (refine Le.pi2 ?_; intro _) | intro _)
def Jm (nE : Nat) (p0 : Int × Int × Int × Int) (p1 : Int) (p2 : Int) : Option (Int × Int × Int × Int) := ((if (Dm p1) = true then (Jd nE p1 p2).bind fun x6 => some x6 else some false).bind fun x5 => (if x5 = true then (ix ([p0.1, p0.2.1, p0.2.2.1, p0.2.2.2] : List Int) p1).bind fun x7 => some ((if p1 = 0 then p2 else p0.1), (if p1 = 1 then p2 else p0.2.1), (if p1 = 2 then p2 else p0.2.2.1), (if p1 = 3 then p2 else p0.2.2.2)) else some (p0.1, p0.2.1, p0.2.2.1, p0.2.2.2))).bind fun (x1, x2, x3, x4) => some (x1, x2, x3, x4)
theorem N8 (nE : Nat) (p0 : Int × Int × Int × Int) (p1 : Int) (p2 : Int) : Le (Jm nE p0 p1 p2) (GB p0 p1 p2) := by
  unfold Jm GB
  repeat' with_reducible (first | apply Le.orR' | apply Le.bind' | apply Le.ite' | apply Le.loop' | apply Le.altS' | apply Oh | exact Le.rfl' _ | (refine Le.pi2 ?_; intro _) | intro _)
def Hz (nE : Nat) (p0 : Int × (Int × Int × Int × Int)) (p1 : Int) (p2 : Int) : Option (Int × (Int × Int × Int × Int)) := (if p1 = 4 then some p2 else some p0.1).bind fun x1 => (Jm nE p0.2 p1 p2).bind fun x2 => some (x1, x2)
theorem LT (nE : Nat) (p0 : Int × (Int × Int × Int × Int)) (p1 : Int) (p2 : Int) : Le (Hz nE p0 p1 p2) (Dz p0 p1 p2) := by
  unfold Hz Dz
  repeat' with_reducible (first | apply Le.orR' | apply Le.bind' | apply Le.ite' | apply Le.loop' | apply Le.altS' | apply N8 | exact Le.rfl' _ | (refine Le.pi2 ?_; intro _) | intro _)
def FL (nE : Nat) (fRec_policy_results : Tr37 → Int → (Int × (Int × Int × Int × Int)) → Option (List (Int × (Int × Int × Int × Int)))) (p1 : Int) (x4 : Tr37) (kx762 : Int × (Int × Int × Int × Int)) : Option (List (Int × (Int × Int × Int × Int))) := (fRec_policy_results (Tr37.of (x4.un.1, Tr34.of (x4.un.2.1.un.1, x4.un.2.1.un.2.1, x4.un.2.1.un.2.2.1, x4.un.2.1.un.2.2.2), x4.un.2.2.1, x4.un.2.2.2.1, x4.un.2.2.2.2)) p1 kx762).bind fun x6 => some x6
theorem JN (nE : Nat) {fRec_policy_results fRec_policy_results' : Tr37 → Int → (Int × (Int × Int × Int × Int)) → Option (List (Int × (Int × Int × Int × Int)))} (hfRec_policy_results : ∀ a0 a1 a2, Le (fRec_policy_results a0 a1 a2) (fRec_policy_results' a0 a1 a2)) (p1 : Int) (x4 : Tr37) (kx762 : Int × (Int × Int × Int × Int)) : Le (FL nE fRec_policy_results p1 x4 kx762) (CB fRec_policy_results' p1 x4 kx762) := by
  unfold FL CB
  repeat' with_reducible (first | apply Le.orR' | apply Le.bind' | apply Le.ite' | apply Le.loop' | apply Le.altS' | exact hfRec_policy_results | exact hfRec_policy_results _ _ _ | exact Le.rfl' _ | (refine Le.pi2 ?_; intro _) | intro _)
theorem JQ {fRec_policy_results fRec_policy_results' : Tr37 → Int → (Int × (Int × Int × Int × Int)) → Option (List (Int × (Int × Int × Int × Int)))} (hfRec_policy_results : ∀ a0 a1 a2, Le (fRec_policy_results a0 a1 a2) (fRec_policy_results' a0 a1 a2)) (p1 : Int) (x4 : Tr37) (kx762 : Int × (Int × Int × Int × Int)) : Le (CB fRec_policy_results p1 x4 kx762) (CB fRec_policy_results' p1 x4 kx762) := by
  unfold CB
  repeat' with_reducible (first | apply Le.orR' | apply Le.bind' | apply Le.ite' | apply Le.loopM | apply Le.altS' | exact hfRec_policy_results | exact hfRec_policy_results _ _ _ | exact Le.rfl' _ | (refine Le.pi2 ?_; intro _) | intro _)
def FE (nE : Nat) (fRec_policy_results : Tr37 → Int → (Int × (Int × Int × Int × Int)) → Option (List (Int × (Int × Int × Int × Int)))) (p0 : List Tr37) (p1 : Int) : ((List (Int × (Int × Int × Int × Int))) × Int) → Option (((List (Int × (Int × Int × Int × Int))) × Int) ⊕ (List (Int × (Int × Int × Int × Int))))
  | (x2, x3) => (if x3 < (p0.length : Int) then (ix p0 x3).bind fun x4 => (FT AY (FL nE fRec_policy_results p1 x4) x2 ([] : List (Int × (Int × Int × Int × Int)))).bind fun x5 => some (.inl (x5, AU (x3 + 1))) else some (.inr x2))
theorem JL (nE : Nat) {fRec_policy_results fRec_policy_results' : Tr37 → Int → (Int × (Int × Int × Int × Int)) → Option (List (Int × (Int × Int × Int × Int)))} (hfRec_policy_results : ∀ a0 a1 a2, Le (fRec_policy_results a0 a1 a2) (fRec_policy_results' a0 a1 a2)) (p0 : List Tr37) (p1 : Int) : ∀ s, Le (FE nE fRec_policy_results p0 p1 s) (BT fRec_policy_results' p0 p1 s) := by
  rintro ⟨x2, x3⟩
  unfold FE BT
  repeat' with_reducible (first | apply Le.orR' | apply Le.bind' | apply Le.ite' | apply Le.loop' | apply Le.altS' | refine Le.sall' ?_ _ _ | exact hfRec_policy_results | exact hfRec_policy_results _ _ _ | apply JN | exact Le.rfl' _ | (refine Le.pi2 ?_; intro _) | intro _)
theorem Jy {fRec_policy_results fRec_policy_results' : Tr37 → Int → (Int × (Int × Int × Int × Int)) → Option (List (Int × (Int × Int × Int × Int)))} (hfRec_policy_results : ∀ a0 a1 a2, Le (fRec_policy_results a0 a1 a2) (fRec_policy_results' a0 a1 a2)) (p0 : List Tr37) (p1 : Int) : ∀ s, Le (BT fRec_policy_results p0 p1 s) (BT fRec_policy_results' p0 p1 s) := by
  rintro ⟨x2, x3⟩
  show Le (BT fRec_policy_results p0 p1 (x2, x3)) (BT fRec_policy_results' p0 p1 (x2, x3))
  unfold BT
  repeat' with_reducible (first | apply Le.orR' | apply Le.bind' | apply Le.ite' | apply Le.loopM | apply Le.altS' | refine Le.sall' ?_ _ _ | exact hfRec_policy_results | exact hfRec_policy_results _ _ _ | apply JQ | exact Le.rfl' _ | (refine Le.pi2 ?_; intro _) | intro _)
def GO (nE : Nat) (fRec_policy_results : Tr37 → Int → (Int × (Int × Int × Int × Int)) → Option (List (Int × (Int × Int × Int × Int)))) (p0 : List Tr37) (p1 : Int) (p2 : Int × (Int × Int × Int × Int)) : Option (List (Int × (Int × Int × Int × Int))) := (I8 nE (FE nE fRec_policy_results p0 p1) ((GE AY ([] : List (Int × (Int × Int × Int × Int))) p2), 0)).bind fun x1 => some x1
theorem Ko (nE : Nat) {fRec_policy_results fRec_policy_results' : Tr37 → Int → (Int × (Int × Int × Int × Int)) → Option (List (Int × (Int × Int × Int × Int)))} (hfRec_policy_results : ∀ a0 a1 a2, Le (fRec_policy_results a0 a1 a2) (fRec_policy_results' a0 a1 a2)) (p0 : List Tr37) (p1 : Int) (p2 : Int × (Int × Int × Int × Int)) : Le (GO nE fRec_policy_results p0 p1 p2) (CR fRec_policy_results' p0 p1 p2) := by
  unfold GO CR
  repeat' with_reducible (first | apply Le.orR' | apply Le.bind' | apply Le.ite' | apply Le.loop' | apply Le.altS' | exact hfRec_policy_results | exact hfRec_policy_results _ _ _ | apply JL | exact Le.rfl' _ | (refine Le.pi2 ?_; intro _) | intro _)
theorem Kz {fRec_policy_results fRec_policy_results' : Tr37 → Int → (Int × (Int × Int × Int × Int)) → Option (List (Int × (Int × Int × Int × Int)))} (hfRec_policy_results : ∀ a0 a1 a2, Le (fRec_policy_results a0 a1 a2) (fRec_policy_results' a0 a1 a2)) (p0 : List Tr37) (p1 : Int) (p2 : Int × (Int × Int × Int × Int)) : Le (CR fRec_policy_results p0 p1 p2) (CR fRec_policy_results' p0 p1 p2) := by
  unfold CR
  repeat' with_reducible (first | apply Le.orR' | apply Le.bind' | apply Le.ite' | apply Le.loopM | apply Le.altS' | exact hfRec_policy_results | exact hfRec_policy_results _ _ _ | apply Jy | exact Le.rfl' _ | (refine Le.pi2 ?_; intro _) | intro _)
def Im (nE : Nat) (p0 : Tr37) (p1 : Int) (p2 : Int × (Int × Int × Int × Int)) : Option Tr37 := ((Ja nE (Tr34.of (p0.un.2.1.un.1, p0.un.2.1.un.2.1, p0.un.2.1.un.2.2.1, p0.un.2.1.un.2.2.2)) p1 p2.1 p2.2).bind fun x2 => (if x2 = true then some 0 else some 1)).bind fun x1 => (if (p0.un.2.2.2.2.length : Int) ≤ x1 then some (Tr37.of (0, Tr34.of (0, 0, 0, ([] : List Tr34)), 0, 0, ([] : List Tr37))) else (ix p0.un.2.2.2.2 x1).bind fun x3 => some (Tr37.of (x3.un.1, Tr34.of (x3.un.2.1.un.1, x3.un.2.1.un.2.1, x3.un.2.1.un.2.2.1, x3.un.2.1.un.2.2.2), x3.un.2.2.1, x3.un.2.2.2.1, x3.un.2.2.2.2)))
theorem Nf (nE : Nat) (p0 : Tr37) (p1 : Int) (p2 : Int × (Int × Int × Int × Int)) : Le (Im nE p0 p1 p2) (E2 p0 p1 p2) := by
  unfold Im E2
  repeat' with_reducible (first | apply Le.orR' | apply Le.bind' | apply Le.ite' | apply Le.loop' | apply Le.altS' | apply MI | exact Le.rfl' _ | (refine Le.pi2 ?_; intro _) | intro _)
def GN (nE : Nat) (fRec : Tr37 → Int → (Int × (Int × Int × Int × Int)) → Option (List (Int × (Int × Int × Int × Int)))) (p0 : Tr37) (p1 : Int) (p2 : Int × (Int × Int × Int × Int)) : ((List (Int × (Int × Int × Int × Int))) × Int) → Option (((List (Int × (Int × Int × Int × Int))) × Int) ⊕ (List (Int × (Int × Int × Int × Int))))
  | (x5, x6) => (if x6 < (p0.un.2.2.2.2.length : Int) then (ix p0.un.2.2.2.2 x6).bind fun x7 => (fRec (Tr37.of (x7.un.1, Tr34.of (x7.un.2.1.un.1, x7.un.2.1.un.2.1, x7.un.2.1.un.2.2.1, x7.un.2.1.un.2.2.2), x7.un.2.2.1, x7.un.2.2.2.1, x7.un.2.2.2.2)) p1 p2).bind fun x8 => some (.inl ((Ig AY x5 x8), AU (x6 + 1))) else some (.inr x5))
theorem KQ (nE : Nat) {fRec fRec' : Tr37 → Int → (Int × (Int × Int × Int × Int)) → Option (List (Int × (Int × Int × Int × Int)))} (hfRec : ∀ a0 a1 a2, Le (fRec a0 a1 a2) (fRec' a0 a1 a2)) (p0 : Tr37) (p1 : Int) (p2 : Int × (Int × Int × Int × Int)) : ∀ s, Le (GN nE fRec p0 p1 p2 s) (Cn fRec' p0 p1 p2 s) := by
  rintro ⟨x5, x6⟩
  unfold GN Cn
  repeat' with_reducible (first | apply Le.orR' | apply Le.bind' | apply Le.ite' | apply Le.loop' | apply Le.altS' | exact hfRec | exact hfRec _ _ _ | exact Le.rfl' _ | (refine Le.pi2 ?_; intro _) | intro _)
theorem Km {fRec fRec' : Tr37 → Int → (Int × (Int × Int × Int × Int)) → Option (List (Int × (Int × Int × Int × Int)))} (hfRec : ∀ a0 a1 a2, Le (fRec a0 a1 a2) (fRec' a0 a1 a2)) (p0 : Tr37) (p1 : Int) (p2 : Int × (Int × Int × Int × Int)) : ∀ s, Le (Cn fRec p0 p1 p2 s) (Cn fRec' p0 p1 p2 s) := by
  rintro ⟨x5, x6⟩
  show Le (Cn fRec p0 p1 p2 (x5, x6)) (Cn fRec' p0 p1 p2 (x5, x6))
  unfold Cn
  repeat' with_reducible (first | apply Le.orR' | apply Le.bind' | apply Le.ite' | apply Le.loopM | apply Le.altS' | exact hfRec | exact hfRec _ _ _ | exact Le.rfl' _ | (refine Le.pi2 ?_; intro _) | intro _)
def GS (nE : Nat) (fRec : Tr37 → Int → (Int × (Int × Int × Int × Int)) → Option (List (Int × (Int × Int × Int × Int)))) (p0 : Tr37) (p1 : Int) (p2 : Int × (Int × Int × Int × Int)) : Option (List (Int × (Int × Int × Int × Int))) := Ku (if p0.un.1 = 1 then (Ja nE (Tr34.of (p0.un.2.1.un.1, p0.un.2.1.un.2.1, p0.un.2.1.un.2.2.1, p0.un.2.1.un.2.2.2)) p1 p2.1 p2.2).bind fun x1 => (if x1 = true then some (.inr (GE AY ([] : List (Int × (Int × Int × Int × Int))) p2)) else some (.inl ())) else (if p0.un.1 = 2 then (Hz nE p2 p0.un.2.2.1 p0.un.2.2.2.1).bind fun x2 => some (.inr (GE AY ([] : List (Int × (Int × Int × Int × Int))) x2)) else (if p0.un.1 = 3 then ((GO nE fRec) p0.un.2.2.2.2 p1 p2).bind fun x3 => some (.inr x3) else (if p0.un.1 = 4 then (I8 nE (GN nE fRec p0 p1 p2) (([] : List (Int × (Int × Int × Int × Int))), 0)).bind fun x4 => some (.inr x4) else (if p0.un.1 = 5 then (Im nE (Tr37.of (p0.un.1, Tr34.of (p0.un.2.1.un.1, p0.un.2.1.un.2.1, p0.un.2.1.un.2.2.1, p0.un.2.1.un.2.2.2), p0.un.2.2.1, p0.un.2.2.2.1, p0.un.2.2.2.2)) p1 p2).bind fun x9 => (fRec (Tr37.of (x9.un.1, Tr34.of (x9.un.2.1.un.1, x9.un.2.1.un.2.1, x9.un.2.1.un.2.2.1, x9.un.2.1.un.2.2.2), x9.un.2.2.1, x9.un.2.2.2.1, x9.un.2.2.2.2)) p1 p2).bind fun x10 => some (.inr x10) else some (.inl ())))))) fun _ => some ([] : List (Int × (Int × Int × Int × Int)))
theorem KL (nE : Nat) {fRec fRec' : Tr37 → Int → (Int × (Int × Int × Int × Int)) → Option (List (Int × (Int × Int × Int × Int)))} (hfRec : ∀ a0 a1 a2, Le (fRec a0 a1 a2) (fRec' a0 a1 a2)) (p0 : Tr37) (p1 : Int) (p2 : Int × (Int × Int × Int × Int)) : Le (GS nE fRec p0 p1 p2) (Bq fRec' p0 p1 p2) := by
  unfold GS Bq
  repeat' with_reducible (first | apply Le.orR' | apply Le.bind' | apply Le.ite' | apply Le.loop' | apply Le.altS' | exact hfRec | exact hfRec _ _ _ | apply MI | apply LT | apply Ko | apply Nf | apply KQ | exact Le.rfl' _ | (refine Le.pi2 ?_; intro _) | intro _)
theorem Kv {fRec fRec' : Tr37 → Int → (Int × (Int × Int × Int × Int)) → Option (List (Int × (Int × Int × Int × Int)))} (hfRec : ∀ a0 a1 a2, Le (fRec a0 a1 a2) (fRec' a0 a1 a2)) (p0 : Tr37) (p1 : Int) (p2 : Int × (Int × Int × Int × Int)) : Le (Bq fRec p0 p1 p2) (Bq fRec' p0 p1 p2) := by
  unfold Bq
  repeat' with_reducible (first | apply Le.orR' | apply Le.bind' | apply Le.ite' | apply Le.loopM | apply Le.altS' | exact hfRec | exact hfRec _ _ _ | apply Kz | apply Km | exact Le.rfl' _ | (refine Le.pi2 ?_; intro _) | intro _)
def Hf (nE : Nat) : Nat → Tr37 → Int → (Int × (Int × Int × Int × Int)) → Option (List (Int × (Int × Int × Int × Int)))
  | 0 => fun _ _ _ => none
  | n + 1 => GS nE (Hf nE n)
theorem Io (nE : Nat) : ∀ (m : Nat) a0 a1 a2, Le (Hf nE m a0 a1 a2) (Aj m a0 a1 a2)
  | 0, a0, a1, a2 => fun _ h => nomatch h
  | m + 1, a0, a1, a2 => KL nE (Io nE m) a0 a1 a2
theorem E6 : ∀ (m : Nat) a0 a1 a2, Le (Aj m a0 a1 a2) (Aj (m + 1) a0 a1 a2)
  | 0, a0, a1, a2 => fun _ h => nomatch h
  | m + 1, a0, a1, a2 => Kv (E6 m) a0 a1 a2
def M6 (nE : Nat) (p0 : Tr37) (p1 : Int) (p2 : Int × (Int × Int × Int × Int)) : Option (List (Int × (Int × Int × Int × Int))) := Hf nE nE p0 p1 p2
theorem Mq (nE : Nat) (p0 : Tr37) (p1 : Int) (p2 : Int × (Int × Int × Int × Int)) : Le (M6 nE p0 p1 p2) (Eu p0 p1 p2) := fun r e => Dv (g := fun n => Aj n p0 p1 p2) (fun n r h => E6 n p0 p1 p2 r h) (n := nE) (Io nE nE p0 p1 p2 r e)
def IA (nE : Nat) (fRec_pred_Text : Tr34 → Option (List UInt8)) (p0 : List Tr34) : (List (List UInt8) × Int) → Option ((List (List UInt8) × Int) ⊕ (List (List UInt8)))
  | (x2, x3) => (if x3 < (p0.length : Int) then (ix p0 x3).bind fun x4 => (fRec_pred_Text x4).bind fun x5 => (if (decide (x4.un.1 = 5) || decide (x4.un.1 = 6)) = true then (IF ([40] : List UInt8) x5).bind fun x7 => (IF x7 ([41] : List UInt8)).bind fun x8 => some x8 else some x5).bind fun x6 => (IF x2 ([x6] : List (List UInt8))).bind fun x9 => some (.inl (x9, AU (x3 + 1))) else some (.inr x2))
theorem NR (nE : Nat) {fRec_pred_Text fRec_pred_Text' : Tr34 → Option (List UInt8)} (hfRec_pred_Text : ∀ a0, Le (fRec_pred_Text a0) (fRec_pred_Text' a0)) (p0 : List Tr34) : ∀ s, Le (IA nE fRec_pred_Text p0 s) (D5 fRec_pred_Text' p0 s) := by
  rintro ⟨x2, x3⟩
  unfold IA D5
  repeat' with_reducible (first | apply Le.orR' | apply Le.bind' | apply Le.ite' | apply Le.loop' | apply Le.altS' | exact hfRec_pred_Text | exact hfRec_pred_Text _ | exact Le.rfl' _ | (refine Le.pi2 ?_; intro _) | intro _)
theorem NU {fRec_pred_Text fRec_pred_Text' : Tr34 → Option (List UInt8)} (hfRec_pred_Text : ∀ a0, Le (fRec_pred_Text a0) (fRec_pred_Text' a0)) (p0 : List Tr34) : ∀ s, Le (D5 fRec_pred_Text p0 s) (D5 fRec_pred_Text' p0 s) := by
  rintro ⟨x2, x3⟩
  show Le (D5 fRec_pred_Text p0 (x2, x3)) (D5 fRec_pred_Text' p0 (x2, x3))
  unfold D5
  repeat' with_reducible (first | apply Le.orR' | apply Le.bind' | apply Le.ite' | apply Le.loopM | apply Le.altS' | exact hfRec_pred_Text | exact hfRec_pred_Text _ | exact Le.rfl' _ | (refine Le.pi2 ?_; intro _) | intro _)
def H6 (nE : Nat) (fRec_pred_Text : Tr34 → Option (List UInt8)) (p0 : List Tr34) (p1 : List UInt8) : Option (List UInt8) := (I8 nE (IA nE fRec_pred_Text p0) ([], 0)).bind fun x1 => (LE x1 p1).bind fun x10 => some x10
theorem QC (nE : Nat) {fRec_pred_Text fRec_pred_Text' : Tr34 → Option (List UInt8)} (hfRec_pred_Text : ∀ a0, Le (fRec_pred_Text a0) (fRec_pred_Text' a0)) (p0 : List Tr34) (p1 : List UInt8) : Le (H6 nE fRec_pred_Text p0 p1) (FZ fRec_pred_Text' p0 p1) := by
  unfold H6 FZ
  repeat' with_reducible (first | apply Le.orR' | apply Le.bind' | apply Le.ite' | apply Le.loop' | apply Le.altS' | exact hfRec_pred_Text | exact hfRec_pred_Text _ | apply NR | exact Le.rfl' _ | (refine Le.pi2 ?_; intro _) | intro _)
theorem QD {fRec_pred_Text fRec_pred_Text' : Tr34 → Option (List UInt8)} (hfRec_pred_Text : ∀ a0, Le (fRec_pred_Text a0) (fRec_pred_Text' a0)) (p0 : List Tr34) (p1 : List UInt8) : Le (FZ fRec_pred_Text p0 p1) (FZ fRec_pred_Text' p0 p1) := by
  unfold FZ
  repeat' with_reducible (first | apply Le.orR' | apply Le.bind' | apply Le.ite' | apply Le.loopM | apply Le.altS' | exact hfRec_pred_Text | exact hfRec_pred_Text _ | apply NU | exact Le.rfl' _ | (refine Le.pi2 ?_; intro _) | intro _)
def IC (nE : Nat) (fRec : Tr34 → Option (List UInt8)) (p0 : Tr34) : Option (List UInt8) := (if p0.un.1 = 1 then some ([116, 114, 117, 101] : List UInt8) else (if p0.un.1 = 2 then some ([102, 97, 108, 115, 101] : List UInt8) else (if p0.un.1 = 3 then (IF (Fe p0.un.2.1) ([32, 61, 32] : List UInt8)).bind fun x1 => (PH p0.un.2.2.1).bind fun x2 => (IF x1 x2).bind fun x3 => some x3 else (if p0.un.1 = 4 then ((H6 nE fRec) p0.un.2.2.2 ([] : List UInt8)).bind fun x4 => (IF ([110, 111, 116, 32] : List UInt8) x4).bind fun x5 => some x5 else (if p0.un.1 = 5 then ((H6 nE fRec) p0.un.2.2.2 ([32, 97, 110, 100, 32] : List UInt8)).bind fun x6 => some x6 else (if p0.un.1 = 6 then ((H6 nE fRec) p0.un.2.2.2 ([32, 111, 114, 32] : List UInt8)).bind fun x7 => some x7 else some ([63] : List UInt8)))))))
theorem NS (nE : Nat) {fRec fRec' : Tr34 → Option (List UInt8)} (hfRec : ∀ a0, Le (fRec a0) (fRec' a0)) (p0 : Tr34) : Le (IC nE fRec p0) (EQ fRec' p0) := by
  unfold IC EQ
  repeat' with_reducible (first | apply Le.orR' | apply Le.bind' | apply Le.ite' | apply Le.loop' | apply Le.altS' | exact hfRec | exact hfRec _ | apply QC | exact Le.rfl' _ | (refine Le.pi2 ?_; intro _) | intro _)
theorem NQ {fRec fRec' : Tr34 → Option (List UInt8)} (hfRec : ∀ a0, Le (fRec a0) (fRec' a0)) (p0 : Tr34) : Le (EQ fRec p0) (EQ fRec' p0) := by
  unfold EQ
  repeat' with_reducible (first | apply Le.orR' | apply Le.bind' | apply Le.ite' | apply Le.loopM | apply Le.altS' | exact hfRec | exact hfRec _ | apply QD | exact Le.rfl' _ | (refine Le.pi2 ?_; intro _) | intro _)
def Js (nE : Nat) : Nat → Tr34 → Option (List UInt8)
  | 0 => fun _ => none
  | n + 1 => IC nE (Js nE n)
theorem KS (nE : Nat) : ∀ (m : Nat) a0, Le (Js nE m a0) (Fw m a0)
  | 0, a0 => fun _ h => nomatch h
  | m + 1, a0 => NS nE (KS nE m) a0
theorem Kq : ∀ (m : Nat) a0, Le (Fw m a0) (Fw (m + 1) a0)
  | 0, a0 => fun _ h => nomatch h
  | m + 1, a0 => NQ (Kq m) a0
def Kj (nE : Nat) (p0 : Tr34) : Option (List UInt8) := Js nE nE p0
theorem Me (nE : Nat) (p0 : Tr34) : Le (Kj nE p0) (Ld p0) := fun r e => Dv (g := fun n => Fw n p0) (fun n r h => Kq n p0 r h) (n := nE) (KS nE nE p0 r e)
def GQ (nE : Nat) (p0 : Tr34) : Option (List UInt8) := (if p0.un.1 = 1 then some ([105, 100] : List UInt8) else (if p0.un.1 = 2 then some ([100, 114, 111, 112] : List UInt8) else (Kj nE p0).bind fun x1 => (IF ([119, 104, 101, 110, 32] : List UInt8) x1).bind fun x2 => some x2))
theorem Ki (nE : Nat) (p0 : Tr34) : Le (GQ nE p0) (ET p0) := by
  unfold GQ ET
  repeat' with_reducible (first | apply Le.orR' | apply Le.bind' | apply Le.ite' | apply Le.loop' | apply Le.altS' | apply Me | exact Le.rfl' _ | (refine Le.pi2 ?_; intro _) | intro _)
def FF (nE : Nat) (fRec_policy_Text : Tr37 → Option (List UInt8)) (p0 : List Tr37) : (List (List UInt8) × Int) → Option ((List (List UInt8) × Int) ⊕ (List (List UInt8)))
  | (x2, x3) => (if x3 < (p0.length : Int) then (ix p0 x3).bind fun x4 => (fRec_policy_Text (Tr37.of (x4.un.1, Tr34.of (x4.un.2.1.un.1, x4.un.2.1.un.2.1, x4.un.2.1.un.2.2.1, x4.un.2.1.un.2.2.2), x4.un.2.2.1, x4.un.2.2.2.1, x4.un.2.2.2.2))).bind fun x5 => (if (decide (x4.un.1 = 3) || (decide (x4.un.1 = 4) || decide (x4.un.1 = 5))) = true then (IF ([40] : List UInt8) x5).bind fun x7 => (IF x7 ([41] : List UInt8)).bind fun x8 => some x8 else some x5).bind fun x6 => (IF x2 ([x6] : List (List UInt8))).bind fun x9 => some (.inl (x9, AU (x3 + 1))) else some (.inr x2))
theorem JP (nE : Nat) {fRec_policy_Text fRec_policy_Text' : Tr37 → Option (List UInt8)} (hfRec_policy_Text : ∀ a0, Le (fRec_policy_Text a0) (fRec_policy_Text' a0)) (p0 : List Tr37) : ∀ s, Le (FF nE fRec_policy_Text p0 s) (Cz fRec_policy_Text' p0 s) := by
  rintro ⟨x2, x3⟩
  unfold FF Cz
  repeat' with_reducible (first | apply Le.orR' | apply Le.bind' | apply Le.ite' | apply Le.loop' | apply Le.altS' | exact hfRec_policy_Text | exact hfRec_policy_Text _ | exact Le.rfl' _ | (refine Le.pi2 ?_; intro _) | intro _)
theorem JA {fRec_policy_Text fRec_policy_Text' : Tr37 → Option (List UInt8)} (hfRec_policy_Text : ∀ a0, Le (fRec_policy_Text a0) (fRec_policy_Text' a0)) (p0 : List Tr37) : ∀ s, Le (Cz fRec_policy_Text p0 s) (Cz fRec_policy_Text' p0 s) := by
  rintro ⟨x2, x3⟩
  show Le (Cz fRec_policy_Text p0 (x2, x3)) (Cz fRec_policy_Text' p0 (x2, x3))
  unfold Cz
  repeat' with_reducible (first | apply Le.orR' | apply Le.bind' | apply Le.ite' | apply Le.loopM | apply Le.altS' | exact hfRec_policy_Text | exact hfRec_policy_Text _ | exact Le.rfl' _ | (refine Le.pi2 ?_; intro _) | intro _)
def D1 (nE : Nat) (fRec_policy_Text : Tr37 → Option (List UInt8)) (p0 : List Tr37) : Option (List (List UInt8)) := (I8 nE (FF nE fRec_policy_Text p0) ([], 0)).bind fun x1 => some x1
theorem KR (nE : Nat) {fRec_policy_Text fRec_policy_Text' : Tr37 → Option (List UInt8)} (hfRec_policy_Text : ∀ a0, Le (fRec_policy_Text a0) (fRec_policy_Text' a0)) (p0 : List Tr37) : Le (D1 nE fRec_policy_Text p0) (CS fRec_policy_Text' p0) := by
  unfold D1 CS
  repeat' with_reducible (first | apply Le.orR' | apply Le.bind' | apply Le.ite' | apply Le.loop' | apply Le.altS' | exact hfRec_policy_Text | exact hfRec_policy_Text _ | apply JP | exact Le.rfl' _ | (refine Le.pi2 ?_; intro _) | intro _)
theorem KO {fRec_policy_Text fRec_policy_Text' : Tr37 → Option (List UInt8)} (hfRec_policy_Text : ∀ a0, Le (fRec_policy_Text a0) (fRec_policy_Text' a0)) (p0 : List Tr37) : Le (CS fRec_policy_Text p0) (CS fRec_policy_Text' p0) := by
  unfold CS
  repeat' with_reducible (first | apply Le.orR' | apply Le.bind' | apply Le.ite' | apply Le.loopM | apply Le.altS' | exact hfRec_policy_Text | exact hfRec_policy_Text _ | apply JA | exact Le.rfl' _ | (refine Le.pi2 ?_; intro _) | intro _)
def HO (nE : Nat) (fRec : Tr37 → Option (List UInt8)) (p0 : Tr37) : Option (List UInt8) := (if p0.un.1 = 1 then (GQ nE (Tr34.of (p0.un.2.1.un.1, p0.un.2.1.un.2.1, p0.un.2.1.un.2.2.1, p0.un.2.1.un.2.2.2))).bind fun x1 => some x1 else (if p0.un.1 = 2 then (IF (Ei p0.un.2.2.1) ([32, 58, 61, 32] : List UInt8)).bind fun x2 => (PH p0.un.2.2.2.1).bind fun x3 => (IF x2 x3).bind fun x4 => some x4 else (if p0.un.1 = 3 then ((D1 nE fRec) p0.un.2.2.2.2).bind fun x5 => (LE x5 ([59, 32] : List UInt8)).bind fun x6 => some x6 else (if p0.un.1 = 4 then ((D1 nE fRec) p0.un.2.2.2.2).bind fun x7 => (LE x7 ([32, 124, 32] : List UInt8)).bind fun x8 => some x8 else (if p0.un.1 = 5 then (Kj nE (Tr34.of (p0.un.2.1.un.1, p0.un.2.1.un.2.1, p0.un.2.1.un.2.2.1, p0.un.2.1.un.2.2.2))).bind fun x9 => (IF ([105, 102, 32] : List UInt8) x9).bind fun x10 => (IF x10 ([32, 116, 104, 101, 110, 32] : List UInt8)).bind fun x11 => ((D1 nE fRec) p0.un.2.2.2.2).bind fun x12 => (LE x12 ([32, 101, 108, 115, 101, 32] : List UInt8)).bind fun x13 => (IF x11 x13).bind fun x14 => some x14 else some ([63] : List UInt8))))))
theorem MH (nE : Nat) {fRec fRec' : Tr37 → Option (List UInt8)} (hfRec : ∀ a0, Le (fRec a0) (fRec' a0)) (p0 : Tr37) : Le (HO nE fRec p0) (DK fRec' p0) := by
  unfold HO DK
  repeat' with_reducible (first | apply Le.orR' | apply Le.bind' | apply Le.ite' | apply Le.loop' | apply Le.altS' | exact hfRec | exact hfRec _ | apply Me | apply Ki | apply KR | exact Le.rfl' _ | (refine Le.pi2 ?_; intro _) | intro _)
theorem Mt {fRec fRec' : Tr37 → Option (List UInt8)} (hfRec : ∀ a0, Le (fRec a0) (fRec' a0)) (p0 : Tr37) : Le (DK fRec p0) (DK fRec' p0) := by
  unfold DK
  repeat' with_reducible (first | apply Le.orR' | apply Le.bind' | apply Le.ite' | apply Le.loopM | apply Le.altS' | exact hfRec | exact hfRec _ | apply KO | exact Le.rfl' _ | (refine Le.pi2 ?_; intro _) | intro _)
def Ih (nE : Nat) : Nat → Tr37 → Option (List UInt8)
  | 0 => fun _ => none
  | n + 1 => HO nE (Ih nE n)
theorem JO (nE : Nat) : ∀ (m : Nat) a0, Le (Ih nE m a0) (Eb m a0)
  | 0, a0 => fun _ h => nomatch h
  | m + 1, a0 => MH nE (JO nE m) a0
theorem JB : ∀ (m : Nat) a0, Le (Eb m a0) (Eb (m + 1) a0)
  | 0, a0 => fun _ h => nomatch h
  | m + 1, a0 => Mt (JB m) a0
def Pw (nE : Nat) (p0 : Tr37) : Option (List UInt8) := Ih nE nE p0
theorem Ph (nE : Nat) (p0 : Tr37) : Le (Pw nE p0) (Ib p0) := fun r e => Dv (g := fun n => Eb n p0) (fun n r h => JB n p0 r h) (n := nE) (JO nE nE p0 r e)
def BS (nE : Nat) (fRec_pred_Same : Tr34 → Tr34 → Option Bool) (p0 : List Tr34) (p1 : List Tr34) : Int → Option (Int ⊕ (Unit ⊕ Bool))
  | x1 => (if x1 < (p0.length : Int) then (ix p0 x1).bind fun x2 => (ix p1 x1).bind fun x3 => (fRec_pred_Same x2 x3).bind fun x4 => (if (!x4) = true then some (.inr (.inr false)) else some (.inl (AU (x1 + 1)))) else some (.inr (.inl ())))
theorem Dp (nE : Nat) {fRec_pred_Same fRec_pred_Same' : Tr34 → Tr34 → Option Bool} (hfRec_pred_Same : ∀ a0 a1, Le (fRec_pred_Same a0 a1) (fRec_pred_Same' a0 a1)) (p0 : List Tr34) (p1 : List Tr34) : ∀ s, Le (BS nE fRec_pred_Same p0 p1 s) (AD fRec_pred_Same' p0 p1 s) := by
  intro x1
  unfold BS AD
  repeat' with_reducible (first | apply Le.orR' | apply Le.bind' | apply Le.ite' | apply Le.loop' | apply Le.altS' | exact hfRec_pred_Same | exact hfRec_pred_Same _ _ | exact Le.rfl' _ | (refine Le.pi2 ?_; intro _) | intro _)
theorem Ds {fRec_pred_Same fRec_pred_Same' : Tr34 → Tr34 → Option Bool} (hfRec_pred_Same : ∀ a0 a1, Le (fRec_pred_Same a0 a1) (fRec_pred_Same' a0 a1)) (p0 : List Tr34) (p1 : List Tr34) : ∀ s, Le (AD fRec_pred_Same p0 p1 s) (AD fRec_pred_Same' p0 p1 s) := by
  intro x1
  unfold AD
  repeat' with_reducible (first | apply Le.orR' | apply Le.bind' | apply Le.ite' | apply Le.loopM | apply Le.altS' | exact hfRec_pred_Same | exact hfRec_pred_Same _ _ | exact Le.rfl' _ | (refine Le.pi2 ?_; intro _) | intro _)
def B5 (nE : Nat) (fRec_pred_Same : Tr34 → Tr34 → Option Bool) (p0 : List Tr34) (p1 : List Tr34) : Option Bool := (if (p0.length : Int) ≠ (p1.length : Int) then some false else Ku (I8 nE (BS nE fRec_pred_Same p0 p1) 0) fun _ => some true)
theorem DB (nE : Nat) {fRec_pred_Same fRec_pred_Same' : Tr34 → Tr34 → Option Bool} (hfRec_pred_Same : ∀ a0 a1, Le (fRec_pred_Same a0 a1) (fRec_pred_Same' a0 a1)) (p0 : List Tr34) (p1 : List Tr34) : Le (B5 nE fRec_pred_Same p0 p1) (Ay fRec_pred_Same' p0 p1) := by
  unfold B5 Ay
  repeat' with_reducible (first | apply Le.orR' | apply Le.bind' | apply Le.ite' | apply Le.loop' | apply Le.altS' | exact hfRec_pred_Same | exact hfRec_pred_Same _ _ | apply Dp | exact Le.rfl' _ | (refine Le.pi2 ?_; intro _) | intro _)
theorem DE {fRec_pred_Same fRec_pred_Same' : Tr34 → Tr34 → Option Bool} (hfRec_pred_Same : ∀ a0 a1, Le (fRec_pred_Same a0 a1) (fRec_pred_Same' a0 a1)) (p0 : List Tr34) (p1 : List Tr34) : Le (Ay fRec_pred_Same p0 p1) (Ay fRec_pred_Same' p0 p1) := by
  unfold Ay
  repeat' with_reducible (first | apply Le.orR' | apply Le.bind' | apply Le.ite' | apply Le.loopM | apply Le.altS' | exact hfRec_pred_Same | exact hfRec_pred_Same _ _ | apply Ds | exact Le.rfl' _ | (refine Le.pi2 ?_; intro _) | intro _)
def IP (nE : Nat) (fRec : Tr34 → Tr34 → Option Bool) (p0 : Tr34) (p1 : Tr34) : Option Bool := (if p0.un.1 = p1.un.1 then (if p0.un.2.1 = p1.un.2.1 then (if p0.un.2.2.1 = p1.un.2.2.1 then ((B5 nE fRec) p0.un.2.2.2 p1.un.2.2.2).bind fun x2 => some x2 else some false) else some false) else some false).bind fun x1 => some x1
theorem NH (nE : Nat) {fRec fRec' : Tr34 → Tr34 → Option Bool} (hfRec : ∀ a0 a1, Le (fRec a0 a1) (fRec' a0 a1)) (p0 : Tr34) (p1 : Tr34) : Le (IP nE fRec p0 p1) (EW fRec' p0 p1) := by
  unfold IP EW
  repeat' with_reducible (first | apply Le.orR' | apply Le.bind' | apply Le.ite' | apply Le.loop' | apply Le.altS' | exact hfRec | exact hfRec _ _ | apply DB | exact Le.rfl' _ | (refine Le.pi2 ?_; intro _) | intro _)
theorem ND {fRec fRec' : Tr34 → Tr34 → Option Bool} (hfRec : ∀ a0 a1, Le (fRec a0 a1) (fRec' a0 a1)) (p0 : Tr34) (p1 : Tr34) : Le (EW fRec p0 p1) (EW fRec' p0 p1) := by
  unfold EW
  repeat' with_reducible (first | apply Le.orR' | apply Le.bind' | apply Le.ite' | apply Le.loopM | apply Le.altS' | exact hfRec | exact hfRec _ _ | apply DE | exact Le.rfl' _ | (refine Le.pi2 ?_; intro _) | intro _)
def Jo (nE : Nat) : Nat → Tr34 → Tr34 → Option Bool
  | 0 => fun _ _ => none
  | n + 1 => IP nE (Jo nE n)
theorem KD (nE : Nat) : ∀ (m : Nat) a0 a1, Le (Jo nE m a0 a1) (FA m a0 a1)
  | 0, a0, a1 => fun _ h => nomatch h
  | m + 1, a0, a1 => NH nE (KD nE m) a0 a1
theorem Kl : ∀ (m : Nat) a0 a1, Le (FA m a0 a1) (FA (m + 1) a0 a1)
  | 0, a0, a1 => fun _ h => nomatch h
  | m + 1, a0, a1 => ND (Kl m) a0 a1
def Nh (nE : Nat) (p0 : Tr34) (p1 : Tr34) : Option Bool := Jo nE nE p0 p1
theorem P3 (nE : Nat) (p0 : Tr34) (p1 : Tr34) : Le (Nh nE p0 p1) (M5 p0 p1) := fun r e => Dv (g := fun n => FA n p0 p1) (fun n r h => Kl n p0 p1 r h) (n := nE) (KD nE nE p0 p1 r e)
def Ha (nE : Nat) (p0 : Tr34) : Option Bool := (Nh nE p0 (Tr34.of (0, 0, 0, ([] : List Tr34)))).bind fun x1 => some x1
theorem M7 (nE : Nat) (p0 : Tr34) : Le (Ha nE p0) (FY p0) := by
  unfold Ha FY
  repeat' with_reducible (first | apply Le.orR' | apply Le.bind' | apply Le.ite' | apply Le.loop' | apply Le.altS' | apply P3 | exact Le.rfl' _ | (refine Le.pi2 ?_; intro _) | intro _)
def JV (nE : Nat) (p0 : Int) : Option Int := (if (decide (p0 = 4) || decide (p0 = 5)) = true then some 7 else (Ip nE p0).bind fun x1 => some x1)
theorem NB (nE : Nat) (p0 : Int) : Le (JV nE p0) (Jx p0) := by
  unfold JV Jx
  repeat' with_reducible (first | apply Le.orR' | apply Le.bind' | apply Le.ite' | apply Le.loop' | apply Le.altS' | apply Lu | exact Le.rfl' _ | (refine Le.pi2 ?_; intro _) | intro _)
def Jn (nE : Nat) (p0 : Tr37) : Option Bool := (if p0.un.1 = 2 then ((Ha nE (Tr34.of (p0.un.2.1.un.1, p0.un.2.1.un.2.1, p0.un.2.1.un.2.2.1, p0.un.2.1.un.2.2.2))).bind fun x2 => (if x2 = true then (if (p0.un.2.2.2.2.length : Int) = 0 then (if 0 ≤ p0.un.2.2.1 then (if p0.un.2.2.1 ≤ 4 then (if 0 ≤ p0.un.2.2.2.1 then (JV nE p0.un.2.2.1).bind fun x3 => some (decide (p0.un.2.2.2.1 ≤ x3)) else some false) else some false) else some false) else some false) else some false)).bind fun x1 => some x1 else (if (decide (p0.un.2.2.1 ≠ 0) || decide (p0.un.2.2.2.1 ≠ 0)) = true then some false else (if p0.un.1 = 1 then some (decide ((p0.un.2.2.2.2.length : Int) = 0)) else (if p0.un.1 = 3 then some true else some (decide (p0.un.1 = 4))).bind fun x4 => (if x4 = true then ((Ha nE (Tr34.of (p0.un.2.1.un.1, p0.un.2.1.un.2.1, p0.un.2.1.un.2.2.1, p0.un.2.1.un.2.2.2))).bind fun x6 => (if x6 = true then (if 2 ≤ (p0.un.2.2.2.2.length : Int) then some (decide ((p0.un.2.2.2.2.length : Int) ≤ 8)) else some false) else some false)).bind fun x5 => some x5 else (if p0.un.1 = 5 then some (decide ((p0.un.2.2.2.2.length : Int) = 2)) else some false)))))
theorem O5 (nE : Nat) (p0 : Tr37) : Le (Jn nE p0) (H2 p0) := by
  unfold Jn H2
  repeat' with_reducible (first | apply Le.orR' | apply Le.bind' | apply Le.ite' | apply Le.loop' | apply Le.altS' | apply M7 | apply NB | exact Le.rfl' _ | (refine Le.pi2 ?_; intro _) | intro _)
def Ky (nE : Nat) (p0 : Tr34) : Option Bool := (if p0.un.1 = 3 then (if (Dg p0.un.2.1) = true then (if 0 ≤ p0.un.2.2.1 then (JV nE p0.un.2.1).bind fun x2 => (if p0.un.2.2.1 ≤ x2 then some (decide ((p0.un.2.2.2.length : Int) = 0)) else some false) else some false) else some false).bind fun x1 => some x1 else (if (decide (p0.un.2.1 ≠ 0) || decide (p0.un.2.2.1 ≠ 0)) = true then some false else (if p0.un.1 = 1 then some true else some (decide (p0.un.1 = 2))).bind fun x3 => (if x3 = true then some (decide ((p0.un.2.2.2.length : Int) = 0)) else (if p0.un.1 = 4 then some (decide ((p0.un.2.2.2.length : Int) = 1)) else (if p0.un.1 = 5 then some true else some (decide (p0.un.1 = 6))).bind fun x4 => (if x4 = true then some (decide (2 ≤ (p0.un.2.2.2.length : Int)) && decide ((p0.un.2.2.2.length : Int) ≤ 8)) else some false)))))
theorem P8 (nE : Nat) (p0 : Tr34) : Le (Ky nE p0) (JK p0) := by
  unfold Ky JK
  repeat' with_reducible (first | apply Le.orR' | apply Le.bind' | apply Le.ite' | apply Le.loop' | apply Le.altS' | apply NB | exact Le.rfl' _ | (refine Le.pi2 ?_; intro _) | intro _)
def E9 (nE : Nat) (fRec : Int → Tr34 → Int → Option (Bool × Int)) (p1 : Tr34) (p2 : Int) : (Int × Int) → Option ((Int × Int) ⊕ (Int ⊕ (Bool × Int)))
  | (x4, x5) => (if x4 < (p1.un.2.2.2.length : Int) then (ix p1.un.2.2.2 x4).bind fun x6 => (fRec x5 x6 (AU (p2 - 1))).bind fun x7 => (if (!x7.1) = true then some (.inr (.inr (false, x7.2))) else some (.inl (AU (x4 + 1), x7.2))) else some (.inr (.inl x5)))
theorem Jj (nE : Nat) {fRec fRec' : Int → Tr34 → Int → Option (Bool × Int)} (hfRec : ∀ a0 a1 a2, Le (fRec a0 a1 a2) (fRec' a0 a1 a2)) (p1 : Tr34) (p2 : Int) : ∀ s, Le (E9 nE fRec p1 p2 s) (Cr fRec' p1 p2 s) := by
  rintro ⟨x4, x5⟩
  unfold E9 Cr
  repeat' with_reducible (first | apply Le.orR' | apply Le.bind' | apply Le.ite' | apply Le.loop' | apply Le.altS' | exact hfRec | exact hfRec _ _ _ | exact Le.rfl' _ | (refine Le.pi2 ?_; intro _) | intro _)
theorem Jp {fRec fRec' : Int → Tr34 → Int → Option (Bool × Int)} (hfRec : ∀ a0 a1 a2, Le (fRec a0 a1 a2) (fRec' a0 a1 a2)) (p1 : Tr34) (p2 : Int) : ∀ s, Le (Cr fRec p1 p2 s) (Cr fRec' p1 p2 s) := by
  rintro ⟨x4, x5⟩
  show Le (Cr fRec p1 p2 (x4, x5)) (Cr fRec' p1 p2 (x4, x5))
  unfold Cr
  repeat' with_reducible (first | apply Le.orR' | apply Le.bind' | apply Le.ite' | apply Le.loopM | apply Le.altS' | exact hfRec | exact hfRec _ _ _ | exact Le.rfl' _ | (refine Le.pi2 ?_; intro _) | intro _)
def E7 (nE : Nat) (fRec : Int → Tr34 → Int → Option (Bool × Int)) (p0 : Int) (p1 : Tr34) (p2 : Int) : Option (Bool × Int) := (if (AU (p0 - 1)) < 0 then some true else (if p2 < 1 then some true else (Ky nE p1).bind fun x2 => some (!x2))).bind fun x1 => (if x1 = true then some (false, AU (p0 - 1)) else Ku (I8 nE (E9 nE fRec p1 p2) (0, AU (p0 - 1))) fun x3 => some (true, x3))
theorem Jq (nE : Nat) {fRec fRec' : Int → Tr34 → Int → Option (Bool × Int)} (hfRec : ∀ a0 a1 a2, Le (fRec a0 a1 a2) (fRec' a0 a1 a2)) (p0 : Int) (p1 : Tr34) (p2 : Int) : Le (E7 nE fRec p0 p1 p2) (CL fRec' p0 p1 p2) := by
  unfold E7 CL
  repeat' with_reducible (first | apply Le.orR' | apply Le.bind' | apply Le.ite' | apply Le.loop' | apply Le.altS' | exact hfRec | exact hfRec _ _ _ | apply P8 | apply Jj | exact Le.rfl' _ | (refine Le.pi2 ?_; intro _) | intro _)
theorem Je {fRec fRec' : Int → Tr34 → Int → Option (Bool × Int)} (hfRec : ∀ a0 a1 a2, Le (fRec a0 a1 a2) (fRec' a0 a1 a2)) (p0 : Int) (p1 : Tr34) (p2 : Int) : Le (CL fRec p0 p1 p2) (CL fRec' p0 p1 p2) := by
  unfold CL
  repeat' with_reducible (first | apply Le.orR' | apply Le.bind' | apply Le.ite' | apply Le.loopM | apply Le.altS' | exact hfRec | exact hfRec _ _ _ | apply Jp | exact Le.rfl' _ | (refine Le.pi2 ?_; intro _) | intro _)
def FH (nE : Nat) : Nat → Int → Tr34 → Int → Option (Bool × Int)
  | 0 => fun _ _ _ => none
  | n + 1 => E7 nE (FH nE n)
theorem Hs (nE : Nat) : ∀ (m : Nat) a0 a1 a2, Le (FH nE m a0 a1 a2) (CY m a0 a1 a2)
  | 0, a0, a1, a2 => fun _ h => nomatch h
  | m + 1, a0, a1, a2 => Jq nE (Hs nE m) a0 a1 a2
theorem Hr : ∀ (m : Nat) a0 a1 a2, Le (CY m a0 a1 a2) (CY (m + 1) a0 a1 a2)
  | 0, a0, a1, a2 => fun _ h => nomatch h
  | m + 1, a0, a1, a2 => Je (Hr m) a0 a1 a2
def Id (nE : Nat) (p0 : Int) (p1 : Tr34) (p2 : Int) : Option (Bool × Int) := FH nE nE p0 p1 p2
theorem Kd (nE : Nat) (p0 : Int) (p1 : Tr34) (p2 : Int) : Le (Id nE p0 p1 p2) (Hd p0 p1 p2) := fun r e => Dv (g := fun n => CY n p0 p1 p2) (fun n r h => Hr n p0 p1 p2 r h) (n := nE) (Hs nE nE p0 p1 p2 r e)
def J0 (nE : Nat) (p0 : Tr34) : Option Bool := (Id nE 64 p0 8).bind fun x1 => some x1.1
theorem Pz (nE : Nat) (p0 : Tr34) : Le (J0 nE p0) (IV p0) := by
  unfold J0 IV
  repeat' with_reducible (first | apply Le.orR' | apply Le.bind' | apply Le.ite' | apply Le.loop' | apply Le.altS' | apply Kd | exact Le.rfl' _ | (refine Le.pi2 ?_; intro _) | intro _)
def IH (nE : Nat) (fRec : Tr34 → Option Int) (p0 : Tr34) : (Int × Int) → Option ((Int × Int) ⊕ Int)
  | (x2, x3) => (if x3 < (p0.un.2.2.2.length : Int) then (ix p0.un.2.2.2 x3).bind fun x4 => (fRec x4).bind fun x5 => some (.inl (AU (x2 + x5), AU (x3 + 1))) else some (.inr x2))
theorem NY (nE : Nat) {fRec fRec' : Tr34 → Option Int} (hfRec : ∀ a0, Le (fRec a0) (fRec' a0)) (p0 : Tr34) : ∀ s, Le (IH nE fRec p0 s) (D9 fRec' p0 s) := by
  rintro ⟨x2, x3⟩
  unfold IH D9
  repeat' with_reducible (first | apply Le.orR' | apply Le.bind' | apply Le.ite' | apply Le.loop' | apply Le.altS' | exact hfRec | exact hfRec _ | exact Le.rfl' _ | (refine Le.pi2 ?_; intro _) | intro _)
theorem NF {fRec fRec' : Tr34 → Option Int} (hfRec : ∀ a0, Le (fRec a0) (fRec' a0)) (p0 : Tr34) : ∀ s, Le (D9 fRec p0 s) (D9 fRec' p0 s) := by
  rintro ⟨x2, x3⟩
  show Le (D9 fRec p0 (x2, x3)) (D9 fRec' p0 (x2, x3))
  unfold D9
  repeat' with_reducible (first | apply Le.orR' | apply Le.bind' | apply Le.ite' | apply Le.loopM | apply Le.altS' | exact hfRec | exact hfRec _ | exact Le.rfl' _ | (refine Le.pi2 ?_; intro _) | intro _)
def IB (nE : Nat) (fRec : Tr34 → Option Int) (p0 : Tr34) : Option Int := (I8 nE (IH nE fRec p0) (1, 0)).bind fun x1 => some x1
theorem NG (nE : Nat) {fRec fRec' : Tr34 → Option Int} (hfRec : ∀ a0, Le (fRec a0) (fRec' a0)) (p0 : Tr34) : Le (IB nE fRec p0) (EU fRec' p0) := by
  unfold IB EU
  repeat' with_reducible (first | apply Le.orR' | apply Le.bind' | apply Le.ite' | apply Le.loop' | apply Le.altS' | exact hfRec | exact hfRec _ | apply NY | exact Le.rfl' _ | (refine Le.pi2 ?_; intro _) | intro _)
theorem NK {fRec fRec' : Tr34 → Option Int} (hfRec : ∀ a0, Le (fRec a0) (fRec' a0)) (p0 : Tr34) : Le (EU fRec p0) (EU fRec' p0) := by
  unfold EU
  repeat' with_reducible (first | apply Le.orR' | apply Le.bind' | apply Le.ite' | apply Le.loopM | apply Le.altS' | exact hfRec | exact hfRec _ | apply NF | exact Le.rfl' _ | (refine Le.pi2 ?_; intro _) | intro _)
def Jg (nE : Nat) : Nat → Tr34 → Option Int
  | 0 => fun _ => none
  | n + 1 => IB nE (Jg nE n)
theorem KN (nE : Nat) : ∀ (m : Nat) a0, Le (Jg nE m a0) (FC m a0)
  | 0, a0 => fun _ h => nomatch h
  | m + 1, a0 => NG nE (KN nE m) a0
theorem KA : ∀ (m : Nat) a0, Le (FC m a0) (FC (m + 1) a0)
  | 0, a0 => fun _ h => nomatch h
  | m + 1, a0 => NK (KA m) a0
def Nn (nE : Nat) (p0 : Tr34) : Option Int := Jg nE nE p0
theorem QG (nE : Nat) (p0 : Tr34) : Le (Nn nE p0) (Nb p0) := fun r e => Dv (g := fun n => FC n p0) (fun n r h => KA n p0 r h) (n := nE) (KN nE nE p0 r e)
def EO (nE : Nat) (fRec : Int → Tr37 → Int → Option (Bool × Int)) (p1 : Tr37) (p2 : Int) : (Int × Int) → Option ((Int × Int) ⊕ (Int ⊕ (Bool × Int)))
  | (x7, x8) => (if x7 < (p1.un.2.2.2.2.length : Int) then (ix p1.un.2.2.2.2 x7).bind fun x9 => (fRec x8 (Tr37.of (x9.un.1, Tr34.of (x9.un.2.1.un.1, x9.un.2.1.un.2.1, x9.un.2.1.un.2.2.1, x9.un.2.1.un.2.2.2), x9.un.2.2.1, x9.un.2.2.2.1, x9.un.2.2.2.2)) (AU (p2 - 1))).bind fun x10 => (if (!x10.1) = true then some (.inr (.inr (false, x10.2))) else some (.inl (AU (x7 + 1), x10.2))) else some (.inr (.inl x8)))
theorem IX (nE : Nat) {fRec fRec' : Int → Tr37 → Int → Option (Bool × Int)} (hfRec : ∀ a0 a1 a2, Le (fRec a0 a1 a2) (fRec' a0 a1 a2)) (p1 : Tr37) (p2 : Int) : ∀ s, Le (EO nE fRec p1 p2 s) (Cd fRec' p1 p2 s) := by
  rintro ⟨x7, x8⟩
  unfold EO Cd
  repeat' with_reducible (first | apply Le.orR' | apply Le.bind' | apply Le.ite' | apply Le.loop' | apply Le.altS' | exact hfRec | exact hfRec _ _ _ | exact Le.rfl' _ | (refine Le.pi2 ?_; intro _) | intro _)
theorem IE {fRec fRec' : Int → Tr37 → Int → Option (Bool × Int)} (hfRec : ∀ a0 a1 a2, Le (fRec a0 a1 a2) (fRec' a0 a1 a2)) (p1 : Tr37) (p2 : Int) : ∀ s, Le (Cd fRec p1 p2 s) (Cd fRec' p1 p2 s) := by
  rintro ⟨x7, x8⟩
  show Le (Cd fRec p1 p2 (x7, x8)) (Cd fRec' p1 p2 (x7, x8))
  unfold Cd
  repeat' with_reducible (first | apply Le.orR' | apply Le.bind' | apply Le.ite' | apply Le.loopM | apply Le.altS' | exact hfRec | exact hfRec _ _ _ | exact Le.rfl' _ | (refine Le.pi2 ?_; intro _) | intro _)
def EP (nE : Nat) (fRec : Int → Tr37 → Int → Option (Bool × Int)) (p0 : Int) (p1 : Tr37) (p2 : Int) : Option (Bool × Int) := (if p0 < 1 then some true else (if p2 < 1 then some true else (Jn nE (Tr37.of (p1.un.1, Tr34.of (p1.un.2.1.un.1, p1.un.2.1.un.2.1, p1.un.2.1.un.2.2.1, p1.un.2.1.un.2.2.2), p1.un.2.2.1, p1.un.2.2.2.1, p1.un.2.2.2.2))).bind fun x2 => some (!x2))).bind fun x1 => (if x1 = true then some (false, p0) else Ku (if (decide (p1.un.1 = 1) || decide (p1.un.1 = 5)) = true then (J0 nE (Tr34.of (p1.un.2.1.un.1, p1.un.2.1.un.2.1, p1.un.2.1.un.2.2.1, p1.un.2.1.un.2.2.2))).bind fun x4 => (if (!x4) = true then some (.inr (false, AU (p0 - 1))) else (Nn nE (Tr34.of (p1.un.2.1.un.1, p1.un.2.1.un.2.1, p1.un.2.1.un.2.2.1, p1.un.2.1.un.2.2.2))).bind fun x5 => some (.inl (AU ((AU (p0 - 1)) - x5)))) else some (.inl (AU (p0 - 1)))) fun x3 => Ku (I8 nE (EO nE fRec p1 p2) (0, x3)) fun x6 => some (decide (0 ≤ x6), x6))
theorem IG (nE : Nat) {fRec fRec' : Int → Tr37 → Int → Option (Bool × Int)} (hfRec : ∀ a0 a1 a2, Le (fRec a0 a1 a2) (fRec' a0 a1 a2)) (p0 : Int) (p1 : Tr37) (p2 : Int) : Le (EP nE fRec p0 p1 p2) (Cu fRec' p0 p1 p2) := by
  unfold EP Cu
  repeat' with_reducible (first | apply Le.orR' | apply Le.bind' | apply Le.ite' | apply Le.loop' | apply Le.altS' | exact hfRec | exact hfRec _ _ _ | apply O5 | apply Pz | apply QG | apply IX | exact Le.rfl' _ | (refine Le.pi2 ?_; intro _) | intro _)
theorem II {fRec fRec' : Int → Tr37 → Int → Option (Bool × Int)} (hfRec : ∀ a0 a1 a2, Le (fRec a0 a1 a2) (fRec' a0 a1 a2)) (p0 : Int) (p1 : Tr37) (p2 : Int) : Le (Cu fRec p0 p1 p2) (Cu fRec' p0 p1 p2) := by
  unfold Cu
  repeat' with_reducible (first | apply Le.orR' | apply Le.bind' | apply Le.ite' | apply Le.loopM | apply Le.altS' | exact hfRec | exact hfRec _ _ _ | apply IE | exact Le.rfl' _ | (refine Le.pi2 ?_; intro _) | intro _)
def E3 (nE : Nat) : Nat → Int → Tr37 → Int → Option (Bool × Int)
  | 0 => fun _ _ _ => none
  | n + 1 => EP nE (E3 nE n)
theorem GJ (nE : Nat) : ∀ (m : Nat) a0 a1 a2, Le (E3 nE m a0 a1 a2) (CA m a0 a1 a2)
  | 0, a0, a1, a2 => fun _ h => nomatch h
  | m + 1, a0, a1, a2 => IG nE (GJ nE m) a0 a1 a2
theorem GI : ∀ (m : Nat) a0 a1 a2, Le (CA m a0 a1 a2) (CA (m + 1) a0 a1 a2)
  | 0, a0, a1, a2 => fun _ h => nomatch h
  | m + 1, a0, a1, a2 => II (GI m) a0 a1 a2
def Hy (nE : Nat) (p0 : Int) (p1 : Tr37) (p2 : Int) : Option (Bool × Int) := E3 nE nE p0 p1 p2
theorem JG (nE : Nat) (p0 : Int) (p1 : Tr37) (p2 : Int) : Le (Hy nE p0 p1 p2) (Gy p0 p1 p2) := fun r e => Dv (g := fun n => CA n p0 p1 p2) (fun n r h => GI n p0 p1 p2 r h) (n := nE) (GJ nE nE p0 p1 p2 r e)
def HW (nE : Nat) (fRec : Tr37 → Option Int) (p0 : Tr37) : (Int × Int) → Option ((Int × Int) ⊕ Int)
  | (x2, x3) => (if x3 < (p0.un.2.2.2.2.length : Int) then (ix p0.un.2.2.2.2 x3).bind fun x4 => (fRec (Tr37.of (x4.un.1, Tr34.of (x4.un.2.1.un.1, x4.un.2.1.un.2.1, x4.un.2.1.un.2.2.1, x4.un.2.1.un.2.2.2), x4.un.2.2.1, x4.un.2.2.2.1, x4.un.2.2.2.2))).bind fun x5 => some (.inl (min (AU (x2 * x5)) 1000, AU (x3 + 1))) else some (.inr x2))
theorem Mc (nE : Nat) {fRec fRec' : Tr37 → Option Int} (hfRec : ∀ a0, Le (fRec a0) (fRec' a0)) (p0 : Tr37) : ∀ s, Le (HW nE fRec p0 s) (Dt fRec' p0 s) := by
  rintro ⟨x2, x3⟩
  unfold HW Dt
  repeat' with_reducible (first | apply Le.orR' | apply Le.bind' | apply Le.ite' | apply Le.loop' | apply Le.altS' | exact hfRec | exact hfRec _ | exact Le.rfl' _ | (refine Le.pi2 ?_; intro _) | intro _)
theorem MK {fRec fRec' : Tr37 → Option Int} (hfRec : ∀ a0, Le (fRec a0) (fRec' a0)) (p0 : Tr37) : ∀ s, Le (Dt fRec p0 s) (Dt fRec' p0 s) := by
  rintro ⟨x2, x3⟩
  show Le (Dt fRec p0 (x2, x3)) (Dt fRec' p0 (x2, x3))
  unfold Dt
  repeat' with_reducible (first | apply Le.orR' | apply Le.bind' | apply Le.ite' | apply Le.loopM | apply Le.altS' | exact hfRec | exact hfRec _ | exact Le.rfl' _ | (refine Le.pi2 ?_; intro _) | intro _)
def HX (nE : Nat) (fRec : Tr37 → Option Int) (p0 : Tr37) : (Int × Int) → Option ((Int × Int) ⊕ Int)
  | (x6, x7) => (if x7 < (p0.un.2.2.2.2.length : Int) then (ix p0.un.2.2.2.2 x7).bind fun x8 => (fRec (Tr37.of (x8.un.1, Tr34.of (x8.un.2.1.un.1, x8.un.2.1.un.2.1, x8.un.2.1.un.2.2.1, x8.un.2.1.un.2.2.2), x8.un.2.2.1, x8.un.2.2.2.1, x8.un.2.2.2.2))).bind fun x9 => some (.inl (min (AU (x6 + x9)) 1000, AU (x7 + 1))) else some (.inr x6))
theorem Mf (nE : Nat) {fRec fRec' : Tr37 → Option Int} (hfRec : ∀ a0, Le (fRec a0) (fRec' a0)) (p0 : Tr37) : ∀ s, Le (HX nE fRec p0 s) (Dw fRec' p0 s) := by
  rintro ⟨x6, x7⟩
  unfold HX Dw
  repeat' with_reducible (first | apply Le.orR' | apply Le.bind' | apply Le.ite' | apply Le.loop' | apply Le.altS' | exact hfRec | exact hfRec _ | exact Le.rfl' _ | (refine Le.pi2 ?_; intro _) | intro _)
theorem Mk {fRec fRec' : Tr37 → Option Int} (hfRec : ∀ a0, Le (fRec a0) (fRec' a0)) (p0 : Tr37) : ∀ s, Le (Dw fRec p0 s) (Dw fRec' p0 s) := by
  rintro ⟨x6, x7⟩
  show Le (Dw fRec p0 (x6, x7)) (Dw fRec' p0 (x6, x7))
  unfold Dw
  repeat' with_reducible (first | apply Le.orR' | apply Le.bind' | apply Le.ite' | apply Le.loopM | apply Le.altS' | exact hfRec | exact hfRec _ | exact Le.rfl' _ | (refine Le.pi2 ?_; intro _) | intro _)
def HP (nE : Nat) (fRec : Tr37 → Option Int) (p0 : Tr37) : (Int × Int) → Option ((Int × Int) ⊕ Int)
  | (x10, x11) => (if x11 < (p0.un.2.2.2.2.length : Int) then (ix p0.un.2.2.2.2 x11).bind fun x12 => (fRec (Tr37.of (x12.un.1, Tr34.of (x12.un.2.1.un.1, x12.un.2.1.un.2.1, x12.un.2.1.un.2.2.1, x12.un.2.1.un.2.2.2), x12.un.2.2.1, x12.un.2.2.2.1, x12.un.2.2.2.2))).bind fun x13 => some (.inl (max x10 x13, AU (x11 + 1))) else some (.inr x10))
theorem MB (nE : Nat) {fRec fRec' : Tr37 → Option Int} (hfRec : ∀ a0, Le (fRec a0) (fRec' a0)) (p0 : Tr37) : ∀ s, Le (HP nE fRec p0 s) (Du fRec' p0 s) := by
  rintro ⟨x10, x11⟩
  unfold HP Du
  repeat' with_reducible (first | apply Le.orR' | apply Le.bind' | apply Le.ite' | apply Le.loop' | apply Le.altS' | exact hfRec | exact hfRec _ | exact Le.rfl' _ | (refine Le.pi2 ?_; intro _) | intro _)
theorem Mh {fRec fRec' : Tr37 → Option Int} (hfRec : ∀ a0, Le (fRec a0) (fRec' a0)) (p0 : Tr37) : ∀ s, Le (Du fRec p0 s) (Du fRec' p0 s) := by
  rintro ⟨x10, x11⟩
  show Le (Du fRec p0 (x10, x11)) (Du fRec' p0 (x10, x11))
  unfold Du
  repeat' with_reducible (first | apply Le.orR' | apply Le.bind' | apply Le.ite' | apply Le.loopM | apply Le.altS' | exact hfRec | exact hfRec _ | exact Le.rfl' _ | (refine Le.pi2 ?_; intro _) | intro _)
def HS (nE : Nat) (fRec : Tr37 → Option Int) (p0 : Tr37) : Option Int := (if p0.un.1 = 3 then I8 nE (HW nE fRec p0) (1, 0) else (if p0.un.1 = 4 then I8 nE (HX nE fRec p0) (0, 0) else (if p0.un.1 = 5 then I8 nE (HP nE fRec p0) (0, 0) else some 1))).bind fun x1 => some x1
theorem Mw (nE : Nat) {fRec fRec' : Tr37 → Option Int} (hfRec : ∀ a0, Le (fRec a0) (fRec' a0)) (p0 : Tr37) : Le (HS nE fRec p0) (DM fRec' p0) := by
  unfold HS DM
  repeat' with_reducible (first | apply Le.orR' | apply Le.bind' | apply Le.ite' | apply Le.loop' | apply Le.altS' | exact hfRec | exact hfRec _ | apply Mc | apply Mf | apply MB | exact Le.rfl' _ | (refine Le.pi2 ?_; intro _) | intro _)
theorem MG {fRec fRec' : Tr37 → Option Int} (hfRec : ∀ a0, Le (fRec a0) (fRec' a0)) (p0 : Tr37) : Le (DM fRec p0) (DM fRec' p0) := by
  unfold DM
  repeat' with_reducible (first | apply Le.orR' | apply Le.bind' | apply Le.ite' | apply Le.loopM | apply Le.altS' | exact hfRec | exact hfRec _ | apply MK | apply Mk | apply Mh | exact Le.rfl' _ | (refine Le.pi2 ?_; intro _) | intro _)
def Ij (nE : Nat) : Nat → Tr37 → Option Int
  | 0 => fun _ => none
  | n + 1 => HS nE (Ij nE n)
theorem JI (nE : Nat) : ∀ (m : Nat) a0, Le (Ij nE m a0) (Eh m a0)
  | 0, a0 => fun _ h => nomatch h
  | m + 1, a0 => Mw nE (JI nE m) a0
theorem Jz : ∀ (m : Nat) a0, Le (Eh m a0) (Eh (m + 1) a0)
  | 0, a0 => fun _ h => nomatch h
  | m + 1, a0 => MG (Jz m) a0
def LD (nE : Nat) (p0 : Tr37) : Option Int := Ij nE nE p0
theorem K0 (nE : Nat) (p0 : Tr37) : Le (LD nE p0) (Hn p0) := fun r e => Dv (g := fun n => Eh n p0) (fun n r h => Jz n p0 r h) (n := nE) (JI nE nE p0 r e)
def KH (nE : Nat) (p0 : Tr37) : Option Bool := ((Hy nE 64 (Tr37.of (p0.un.1, Tr34.of (p0.un.2.1.un.1, p0.un.2.1.un.2.1, p0.un.2.1.un.2.2.1, p0.un.2.1.un.2.2.2), p0.un.2.2.1, p0.un.2.2.2.1, p0.un.2.2.2.2)) 8).bind fun x3 => (if x3.1 = true then (LD nE (Tr37.of (p0.un.1, Tr34.of (p0.un.2.1.un.1, p0.un.2.1.un.2.1, p0.un.2.1.un.2.2.1, p0.un.2.1.un.2.2.2), p0.un.2.2.1, p0.un.2.2.2.1, p0.un.2.2.2.2))).bind fun x4 => some (decide (x4 ≤ 64), x3.2) else some (false, x3.2))).bind fun (x1, x2) => some x1
theorem NT (nE : Nat) (p0 : Tr37) : Le (KH nE p0) (FJ p0) := by
  unfold KH FJ
  repeat' with_reducible (first | apply Le.orR' | apply Le.bind' | apply Le.ite' | apply Le.loop' | apply Le.altS' | apply JG | apply K0 | exact Le.rfl' _ | (refine Le.pi2 ?_; intro _) | intro _)
theorem Om {fRec fRec' : Tr24 → Option Tr34} (hfRec : ∀ a0, Le (fRec a0) (fRec' a0)) (p0 : Tr24) : ∀ s, Le (DR fRec p0 s) (DR fRec' p0 s) := by
  rintro ⟨x2, x3⟩
  show Le (DR fRec p0 (x2, x3)) (DR fRec' p0 (x2, x3))
  unfold DR
  repeat' with_reducible (first | apply Le.orR' | apply Le.bind' | apply Le.ite' | apply Le.loopM | apply Le.altS' | exact hfRec | exact hfRec _ | exact Le.rfl' _ | (refine Le.pi2 ?_; intro _) | intro _)
theorem Of {fRec fRec' : Tr24 → Option Tr34} (hfRec : ∀ a0, Le (fRec a0) (fRec' a0)) (p0 : Tr24) : Le (Fp fRec p0) (Fp fRec' p0) := by
  unfold Fp
  repeat' with_reducible (first | apply Le.orR' | apply Le.bind' | apply Le.ite' | apply Le.loopM | apply Le.altS' | exact hfRec | exact hfRec _ | apply Om | exact Le.rfl' _ | (refine Le.pi2 ?_; intro _) | intro _)
theorem LG : ∀ (m : Nat) a0, Le (Ev m a0) (Ev (m + 1) a0)
  | 0, a0 => fun _ h => nomatch h
  | m + 1, a0 => Of (LG m) a0
theorem Ok {fRec fRec' : Tr27 → Option Tr37} (hfRec : ∀ a0, Le (fRec a0) (fRec' a0)) (p0 : Tr27) : ∀ s, Le (Ee fRec p0 s) (Ee fRec' p0 s) := by
  rintro ⟨x3, x4⟩
  show Le (Ee fRec p0 (x3, x4)) (Ee fRec' p0 (x3, x4))
  unfold Ee
  repeat' with_reducible (first | apply Le.orR' | apply Le.bind' | apply Le.ite' | apply Le.loopM | apply Le.altS' | exact hfRec | exact hfRec _ | exact Le.rfl' _ | (refine Le.pi2 ?_; intro _) | intro _)
theorem Pl {fRec fRec' : Tr27 → Option Tr37} (hfRec : ∀ a0, Le (fRec a0) (fRec' a0)) (p0 : Tr27) : Le (Fu fRec p0) (Fu fRec' p0) := by
  unfold Fu
  repeat' with_reducible (first | apply Le.orR' | apply Le.bind' | apply Le.ite' | apply Le.loopM | apply Le.altS' | exact hfRec | exact hfRec _ | apply Ok | exact Le.rfl' _ | (refine Le.pi2 ?_; intro _) | intro _)
theorem Lw : ∀ (m : Nat) a0, Le (EZ m a0) (EZ (m + 1) a0)
  | 0, a0 => fun _ h => nomatch h
  | m + 1, a0 => Pl (Lw m) a0
theorem M8 {fRec fRec' : Tr34 → Option Tr24} (hfRec : ∀ a0, Le (fRec a0) (fRec' a0)) (p0 : Tr34) : ∀ s, Le (Dl fRec p0 s) (Dl fRec' p0 s) := by
  rintro ⟨x2, x3⟩
  show Le (Dl fRec p0 (x2, x3)) (Dl fRec' p0 (x2, x3))
  unfold Dl
  repeat' with_reducible (first | apply Le.orR' | apply Le.bind' | apply Le.ite' | apply Le.loopM | apply Le.altS' | exact hfRec | exact hfRec _ | exact Le.rfl' _ | (refine Le.pi2 ?_; intro _) | intro _)
theorem Nc {fRec fRec' : Tr34 → Option Tr24} (hfRec : ∀ a0, Le (fRec a0) (fRec' a0)) (p0 : Tr34) : Le (Ed fRec p0) (Ed fRec' p0) := by
  unfold Ed
  repeat' with_reducible (first | apply Le.orR' | apply Le.bind' | apply Le.ite' | apply Le.loopM | apply Le.altS' | exact hfRec | exact hfRec _ | apply M8 | exact Le.rfl' _ | (refine Le.pi2 ?_; intro _) | intro _)
theorem J9 : ∀ (m : Nat) a0, Le (Dr m a0) (Dr (m + 1) a0)
  | 0, a0 => fun _ h => nomatch h
  | m + 1, a0 => Nc (J9 m) a0
theorem M4 {fRec fRec' : Tr37 → Option Tr27} (hfRec : ∀ a0, Le (fRec a0) (fRec' a0)) (p0 : Tr37) : ∀ s, Le (Do fRec p0 s) (Do fRec' p0 s) := by
  rintro ⟨x3, x4⟩
  show Le (Do fRec p0 (x3, x4)) (Do fRec' p0 (x3, x4))
  unfold Do
  repeat' with_reducible (first | apply Le.orR' | apply Le.bind' | apply Le.ite' | apply Le.loopM | apply Le.altS' | exact hfRec | exact hfRec _ | exact Le.rfl' _ | (refine Le.pi2 ?_; intro _) | intro _)
theorem Ng {fRec fRec' : Tr37 → Option Tr27} (hfRec : ∀ a0, Le (fRec a0) (fRec' a0)) (p0 : Tr37) : Le (Ef fRec p0) (Ef fRec' p0) := by
  unfold Ef
  repeat' with_reducible (first | apply Le.orR' | apply Le.bind' | apply Le.ite' | apply Le.loopM | apply Le.altS' | exact hfRec | exact hfRec _ | apply M4 | exact Le.rfl' _ | (refine Le.pi2 ?_; intro _) | intro _)
theorem J7 : ∀ (m : Nat) a0, Le (DI m a0) (DI (m + 1) a0)
  | 0, a0 => fun _ h => nomatch h
  | m + 1, a0 => Ng (J7 m) a0
end Go.Proofs.YtpckgggmgijiiaaGreatDoor
