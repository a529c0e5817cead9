/- Twins with fuel of IC functions: what a twin answers, the function answers. Conditions: none. -/
import Derived.Test.YtpckgggmgijiiaaGreatDoorbLP
import Derived.Test.YtpckgggmgijiiaaGreatDoorbA7
namespace Go.Proofs.YtpckgggmgijiiaaGreatDoor
open Go Go.RowKit
set_option linter.unusedVariables false
set_option linter.unusedSimpArgs false
set_option maxRecDepth 20000
set_option maxHeartbeats 1600000
abbrev Le {α : Type} (a b : Option α) : Prop := ∀ r, a = some r → b = some r
theorem Le.rfl' {α : Type} (a : Option α) : Le a a := fun _ h => h
theorem Le.bind' {α β : Type} {a b : Option α} {f g : α → Option β} (h : Le a b) (hf : ∀ x, Le (f x) (g x)) : Le (a.bind f) (b.bind g) := fun r e => by
  obtain ⟨x, h1, h2⟩ := Ad e
  rw [h x h1, Option.bind_some]; exact hf x r h2
theorem Le.ite' {α : Type} {c : Prop} [Decidable c] {a a' b b' : Option α} (h1 : Le a a') (h2 : Le b b') : Le (if c then a else b) (if c then a' else b') := fun r e => by
  by_cases h : c
  · rw [if_pos h] at e ⊢; exact h1 r e
  · rw [if_neg h] at e ⊢; exact h2 r e
theorem Le.orR' {α β : Type} {a b : Option (α ⊕ β)} {f g : α → Option β} (h : Le a b) (hf : ∀ x, Le (f x) (g x)) : Le (Kq a f) (Kq b g) :=
  Le.bind' h fun x => by
    cases x with
    | inl t => exact hf t
    | inr e => exact Le.rfl' _
def H3 {σ ε : Type} (n : Nat) (step : σ → Option (σ ⊕ ε)) (s : σ) : Option ε := Hc step n s
theorem KZ {σ ε : Type} {S T : σ → Option (σ ⊕ ε)} (h : ∀ s, Le (S s) (T s)) : ∀ (n : Nat) (s : σ), Le (Hc S n s) (Hc T n s)
  | 0, s => Le.rfl' _
  | n + 1, s => fun r e => by
    unfold Hc at e ⊢
    cases hs : S s with
    | none => rw [hs] at e; cases e
    | some q =>
      rw [hs] at e; rw [h s q hs]
      cases q with
      | inl s' => exact KZ h n s' r e
      | inr _ => exact e
theorem Le.loop' {σ ε : Type} {n : Nat} {S T : σ → Option (σ ⊕ ε)} {s : σ} (h : ∀ s, Le (S s) (T s)) : Le (H3 n S s) (AY T s) := fun r e => FK.2 ⟨n, KZ h n s r e⟩
theorem Le.pi2 {α β γ : Type} {f g : α × β → Option γ} (h : ∀ a b, Le (f (a, b)) (g (a, b))) : ∀ x, Le (f x) (g x) := fun x => h x.1 x.2
theorem Le.altS' {α β γ : Type} {y : α ⊕ β} {f f' : α → Option γ} {g g' : β → Option γ} (h : ∀ x, Le (f x) (f' x)) (k : ∀ x, Le (g x) (g' x)) : Le (WN y f g) (WN y f' g') := by
  cases y with
  | inl x => exact h x
  | inr x => exact k x
theorem Di {β : Type} {g : Nat → Option β} (hm : ∀ n r, g n = some r → g (n + 1) = some r) {n : Nat} {r : β} (h : g n = some r) : GI g = some r := by
  have up : ∀ (d m : Nat) (q : β), g m = some q → g (m + d) = some q := fun d => by
    induction d with
    | zero => exact fun m q h => h
    | succ d ih => exact fun m q h => hm _ _ (ih m q h)
  refine RS n h fun m q hq => ?_
  have h1 := up m n r h
  have h2 := up n m q hq
  rw [Nat.add_comm] at h2
  exact Option.some.inj (h2.symm.trans h1)
theorem Le.loopM {σ ε : Type} {S T : σ → Option (σ ⊕ ε)} {s : σ} (h : ∀ s, Le (S s) (T s)) : Le (AY S s) (AY T s) := fun r e => by
  obtain ⟨n, hn⟩ := FK.1 e
  exact FK.2 ⟨n, KZ h n s r hn⟩
theorem Le.sall' {κ : Type} {lt : κ → κ → Bool} {f g : κ → Option (List κ)} (h : ∀ x, Le (f x) (g x)) : ∀ (l a : List κ), Le (GG lt f l a) (GG lt g l a)
  | [], a => Le.rfl' _
  | x :: l, a => by
    show Le ((f x).bind _) ((g x).bind _)
    exact Le.bind' (h x) fun r => Le.sall' h l _
theorem NA {fRec fRec' : Tr24 → Option Bool} (hfRec : ∀ a0, Le (fRec a0) (fRec' a0)) (p0 : Tr24) : ∀ s, Le (EW fRec p0 s) (EW fRec' p0 s) := by
  intro x1
  unfold EW
  repeat' with_reducible (first | refine Le.orR' ?_ ?_ | refine Le.bind' ?_ ?_ | refine Le.ite' ?_ ?_ | refine Le.loopM ?_ | refine Le.altS' ?_ ?_ | exact hfRec | exact hfRec _ | exact Le.rfl' _ | (refine Le.pi2 ?_; intro _) | intro _)
theorem Oh {fRec fRec' : Tr24 → Option Bool} (hfRec : ∀ a0, Le (fRec a0) (fRec' a0)) (p0 : Tr24) : Le (ET fRec p0) (ET fRec' p0) := by
  unfold ET
  repeat' with_reducible (first | refine Le.orR' ?_ ?_ | refine Le.bind' ?_ ?_ | refine Le.ite' ?_ ?_ | refine Le.loopM ?_ | refine Le.altS' ?_ ?_ | exact hfRec | exact hfRec _ | apply NA | exact Le.rfl' _ | (refine Le.pi2 ?_; intro _) | intro _)
theorem KG : ∀ (m : Nat) a0, Le (D8 m a0) (D8 (m + 1) a0)
  | 0, a0 => fun _ h => nomatch h
  | m + 1, a0 => Oh (KG m) a0
theorem NU {fRec fRec' : Tr24 → Option Int} (hfRec : ∀ a0, Le (fRec a0) (fRec' a0)) (p0 : Tr24) : ∀ s, Le (DB fRec p0 s) (DB fRec' p0 s) := by
  rintro ⟨x2, x3⟩
  show Le (DB fRec p0 (x2, x3)) (DB fRec' p0 (x2, x3))
  unfold DB
  repeat' with_reducible (first | refine Le.orR' ?_ ?_ | refine Le.bind' ?_ ?_ | refine Le.ite' ?_ ?_ | refine Le.loopM ?_ | refine Le.altS' ?_ ?_ | exact hfRec | exact hfRec _ | exact Le.rfl' _ | (refine Le.pi2 ?_; intro _) | intro _)
theorem Np {fRec fRec' : Tr24 → Option Int} (hfRec : ∀ a0, Le (fRec a0) (fRec' a0)) (p0 : Tr24) : Le (EZ fRec p0) (EZ fRec' p0) := by
  unfold EZ
  repeat' with_reducible (first | refine Le.orR' ?_ ?_ | refine Le.bind' ?_ ?_ | refine Le.ite' ?_ ?_ | refine Le.loopM ?_ | refine Le.altS' ?_ ?_ | exact hfRec | exact hfRec _ | apply NU | exact Le.rfl' _ | (refine Le.pi2 ?_; intro _) | intro _)
theorem KD : ∀ (m : Nat) a0, Le (D7 m a0) (D7 (m + 1) a0)
  | 0, a0 => fun _ h => nomatch h
  | m + 1, a0 => Np (KD m) a0
theorem Nx {fRec fRec' : Tr24 → Option Int} (hfRec : ∀ a0, Le (fRec a0) (fRec' a0)) (p0 : Tr24) : ∀ s, Le (Dw fRec p0 s) (Dw fRec' p0 s) := by
  rintro ⟨x2, x3⟩
  show Le (Dw fRec p0 (x2, x3)) (Dw fRec' p0 (x2, x3))
  unfold Dw
  repeat' with_reducible (first | refine Le.orR' ?_ ?_ | refine Le.bind' ?_ ?_ | refine Le.ite' ?_ ?_ | refine Le.loopM ?_ | refine Le.altS' ?_ ?_ | exact hfRec | exact hfRec _ | exact Le.rfl' _ | (refine Le.pi2 ?_; intro _) | intro _)
theorem Om {fRec fRec' : Tr24 → Option Int} (hfRec : ∀ a0, Le (fRec a0) (fRec' a0)) (p0 : Tr24) : Le (EQ fRec p0) (EQ fRec' p0) := by
  unfold EQ
  repeat' with_reducible (first | refine Le.orR' ?_ ?_ | refine Le.bind' ?_ ?_ | refine Le.ite' ?_ ?_ | refine Le.loopM ?_ | refine Le.altS' ?_ ?_ | exact hfRec | exact hfRec _ | apply Nx | exact Le.rfl' _ | (refine Le.pi2 ?_; intro _) | intro _)
theorem KB : ∀ (m : Nat) a0, Le (D1 m a0) (D1 (m + 1) a0)
  | 0, a0 => fun _ h => nomatch h
  | m + 1, a0 => Om (KB m) a0
theorem Nw {fRec fRec' : Tr24 → Tr24 → Option Bool} (hfRec : ∀ a0 a1, Le (fRec a0 a1) (fRec' a0 a1)) (p0 : Tr24) (p1 : Tr24) : ∀ s, Le (EO fRec p0 p1 s) (EO fRec' p0 p1 s) := by
  intro x1
  unfold EO
  repeat' with_reducible (first | refine Le.orR' ?_ ?_ | refine Le.bind' ?_ ?_ | refine Le.ite' ?_ ?_ | refine Le.loopM ?_ | refine Le.altS' ?_ ?_ | exact hfRec | exact hfRec _ _ | exact Le.rfl' _ | (refine Le.pi2 ?_; intro _) | intro _)
theorem Nm {fRec fRec' : Tr24 → Tr24 → Option Bool} (hfRec : ∀ a0 a1, Le (fRec a0 a1) (fRec' a0 a1)) (p0 : Tr24) (p1 : Tr24) : Le (E1 fRec p0 p1) (E1 fRec' p0 p1) := by
  unfold E1
  repeat' with_reducible (first | refine Le.orR' ?_ ?_ | refine Le.bind' ?_ ?_ | refine Le.ite' ?_ ?_ | refine Le.loopM ?_ | refine Le.altS' ?_ ?_ | exact hfRec | exact hfRec _ _ | apply Nw | exact Le.rfl' _ | (refine Le.pi2 ?_; intro _) | intro _)
theorem KQ : ∀ (m : Nat) a0 a1, Le (Eu m a0 a1) (Eu (m + 1) a0 a1)
  | 0, a0, a1 => fun _ h => nomatch h
  | m + 1, a0, a1 => Nm (KQ m) a0 a1
theorem NW {fRec fRec' : Tr27 → Option Bool} (hfRec : ∀ a0, Le (fRec a0) (fRec' a0)) (p0 : Tr27) : ∀ s, Le (ER fRec p0 s) (ER fRec' p0 s) := by
  intro x4
  unfold ER
  repeat' with_reducible (first | refine Le.orR' ?_ ?_ | refine Le.bind' ?_ ?_ | refine Le.ite' ?_ ?_ | refine Le.loopM ?_ | refine Le.altS' ?_ ?_ | exact hfRec | exact hfRec _ | exact Le.rfl' _ | (refine Le.pi2 ?_; intro _) | intro _)
theorem OA {fRec fRec' : Tr27 → Option Bool} (hfRec : ∀ a0, Le (fRec a0) (fRec' a0)) (p0 : Tr27) : Le (E2 fRec p0) (E2 fRec' p0) := by
  unfold E2
  repeat' with_reducible (first | refine Le.orR' ?_ ?_ | refine Le.bind' ?_ ?_ | refine Le.ite' ?_ ?_ | refine Le.loopM ?_ | refine Le.altS' ?_ ?_ | exact hfRec | exact hfRec _ | apply NW | exact Le.rfl' _ | (refine Le.pi2 ?_; intro _) | intro _)
theorem KK : ∀ (m : Nat) a0, Le (Eb m a0) (Eb (m + 1) a0)
  | 0, a0 => fun _ h => nomatch h
  | m + 1, a0 => OA (KK m) a0
theorem Ns {fRec fRec' : Tr27 → Option Int} (hfRec : ∀ a0, Le (fRec a0) (fRec' a0)) (p0 : Tr27) : ∀ s, Le (Dz fRec p0 s) (Dz fRec' p0 s) := by
  rintro ⟨x2, x3⟩
  show Le (Dz fRec p0 (x2, x3)) (Dz fRec' p0 (x2, x3))
  unfold Dz
  repeat' with_reducible (first | refine Le.orR' ?_ ?_ | refine Le.bind' ?_ ?_ | refine Le.ite' ?_ ?_ | refine Le.loopM ?_ | refine Le.altS' ?_ ?_ | exact hfRec | exact hfRec _ | exact Le.rfl' _ | (refine Le.pi2 ?_; intro _) | intro _)
theorem Ok {fRec fRec' : Tr27 → Option Int} (hfRec : ∀ a0, Le (fRec a0) (fRec' a0)) (p0 : Tr27) : Le (ES fRec p0) (ES fRec' p0) := by
  unfold ES
  repeat' with_reducible (first | refine Le.orR' ?_ ?_ | refine Le.bind' ?_ ?_ | refine Le.ite' ?_ ?_ | refine Le.loopM ?_ | refine Le.altS' ?_ ?_ | exact hfRec | exact hfRec _ | apply Ns | exact Le.rfl' _ | (refine Le.pi2 ?_; intro _) | intro _)
theorem KJ : ∀ (m : Nat) a0, Le (DZ m a0) (DZ (m + 1) a0)
  | 0, a0 => fun _ h => nomatch h
  | m + 1, a0 => Ok (KJ m) a0
theorem NG {fRec fRec' : Tr27 → Option Int} (hfRec : ∀ a0, Le (fRec a0) (fRec' a0)) (p0 : Tr27) : ∀ s, Le (Dv fRec p0 s) (Dv fRec' p0 s) := by
  rintro ⟨x4, x5⟩
  show Le (Dv fRec p0 (x4, x5)) (Dv fRec' p0 (x4, x5))
  unfold Dv
  repeat' with_reducible (first | refine Le.orR' ?_ ?_ | refine Le.bind' ?_ ?_ | refine Le.ite' ?_ ?_ | refine Le.loopM ?_ | refine Le.altS' ?_ ?_ | exact hfRec | exact hfRec _ | exact Le.rfl' _ | (refine Le.pi2 ?_; intro _) | intro _)
theorem OG {fRec fRec' : Tr27 → Option Int} (hfRec : ∀ a0, Le (fRec a0) (fRec' a0)) (p0 : Tr27) : Le (EY fRec p0) (EY fRec' p0) := by
  unfold EY
  repeat' with_reducible (first | refine Le.orR' ?_ ?_ | refine Le.bind' ?_ ?_ | refine Le.ite' ?_ ?_ | refine Le.loopM ?_ | refine Le.altS' ?_ ?_ | exact hfRec | exact hfRec _ | apply NG | exact Le.rfl' _ | (refine Le.pi2 ?_; intro _) | intro _)
theorem Kz : ∀ (m : Nat) a0, Le (D0 m a0) (D0 (m + 1) a0)
  | 0, a0 => fun _ h => nomatch h
  | m + 1, a0 => OG (Kz m) a0
theorem Nt {fRec fRec' : Tr27 → Option Int} (hfRec : ∀ a0, Le (fRec a0) (fRec' a0)) (p0 : Tr27) : ∀ s, Le (Dt fRec p0 s) (Dt fRec' p0 s) := by
  rintro ⟨x3, x4⟩
  show Le (Dt fRec p0 (x3, x4)) (Dt fRec' p0 (x3, x4))
  unfold Dt
  repeat' with_reducible (first | refine Le.orR' ?_ ?_ | refine Le.bind' ?_ ?_ | refine Le.ite' ?_ ?_ | refine Le.loopM ?_ | refine Le.altS' ?_ ?_ | exact hfRec | exact hfRec _ | exact Le.rfl' _ | (refine Le.pi2 ?_; intro _) | intro _)
theorem Ny {fRec fRec' : Tr27 → Option Int} (hfRec : ∀ a0, Le (fRec a0) (fRec' a0)) (p0 : Tr27) : Le (E3 fRec p0) (E3 fRec' p0) := by
  unfold E3
  repeat' with_reducible (first | refine Le.orR' ?_ ?_ | refine Le.bind' ?_ ?_ | refine Le.ite' ?_ ?_ | refine Le.loopM ?_ | refine Le.altS' ?_ ?_ | exact hfRec | exact hfRec _ | apply Nt | exact Le.rfl' _ | (refine Le.pi2 ?_; intro _) | intro _)
theorem KO : ∀ (m : Nat) a0, Le (DG m a0) (DG (m + 1) a0)
  | 0, a0 => fun _ h => nomatch h
  | m + 1, a0 => Ny (KO m) a0
def Ja (nE : Nat) (p0 : Int × Int × Int × Int) (p1 : Int) : Option Int := (if (!(CB p1)) = true then some 0 else (ix ([p0.1, p0.2.1, p0.2.2.1, p0.2.2.2] : List Int) p1).bind fun x1 => some x1)
theorem OQ (nE : Nat) (p0 : Int × Int × Int × Int) (p1 : Int) : Le (Ja nE p0 p1) (GW p0 p1) := by
  unfold Ja GW
  repeat' with_reducible (first | refine Le.orR' ?_ ?_ | refine Le.bind' ?_ ?_ | refine Le.ite' ?_ ?_ | refine Le.loop' ?_ | refine Le.altS' ?_ ?_ | exact Le.rfl' _ | (refine Le.pi2 ?_; intro _) | intro _)
def La (nE : Nat) (p0 : Int) (p1 : Int) (p2 : Int) (p3 : Int × Int × Int × Int) : Option Int := (if p0 = 4 then some p2 else (if p0 = 5 then some p1 else (if (C2 p0) = true then (Ja nE p3 p0).bind fun x1 => some x1 else some (-1))))
theorem QM (nE : Nat) (p0 : Int) (p1 : Int) (p2 : Int) (p3 : Int × Int × Int × Int) : Le (La nE p0 p1 p2 p3) (HL p0 p1 p2 p3) := by
  unfold La HL
  repeat' with_reducible (first | refine Le.orR' ?_ ?_ | refine Le.bind' ?_ ?_ | refine Le.ite' ?_ ?_ | refine Le.loop' ?_ | refine Le.altS' ?_ ?_ | apply OQ | exact Le.rfl' _ | (refine Le.pi2 ?_; intro _) | intro _)
def En (nE : Nat) (fRec_pred_arrival_satisfies : (Int × Int × (Int × Int × Int × Int)) → Tr34 → Option Bool) (p0 : Int × Int × (Int × Int × Int × Int)) (p1 : Tr34) : Option Bool := (fRec_pred_arrival_satisfies p0 p1).bind fun x1 => some (!x1)
theorem GK (nE : Nat) {fRec_pred_arrival_satisfies fRec_pred_arrival_satisfies' : (Int × Int × (Int × Int × Int × Int)) → Tr34 → Option Bool} (hfRec_pred_arrival_satisfies : ∀ a0 a1, Le (fRec_pred_arrival_satisfies a0 a1) (fRec_pred_arrival_satisfies' a0 a1)) (p0 : Int × Int × (Int × Int × Int × Int)) (p1 : Tr34) : Le (En nE fRec_pred_arrival_satisfies p0 p1) (Cf fRec_pred_arrival_satisfies' p0 p1) := by
  unfold En Cf
  repeat' with_reducible (first | refine Le.orR' ?_ ?_ | refine Le.bind' ?_ ?_ | refine Le.ite' ?_ ?_ | refine Le.loop' ?_ | refine Le.altS' ?_ ?_ | exact hfRec_pred_arrival_satisfies | exact hfRec_pred_arrival_satisfies _ _ | exact Le.rfl' _ | (refine Le.pi2 ?_; intro _) | intro _)
theorem GJ {fRec_pred_arrival_satisfies fRec_pred_arrival_satisfies' : (Int × Int × (Int × Int × Int × Int)) → Tr34 → Option Bool} (hfRec_pred_arrival_satisfies : ∀ a0 a1, Le (fRec_pred_arrival_satisfies a0 a1) (fRec_pred_arrival_satisfies' a0 a1)) (p0 : Int × Int × (Int × Int × Int × Int)) (p1 : Tr34) : Le (Cf fRec_pred_arrival_satisfies p0 p1) (Cf fRec_pred_arrival_satisfies' p0 p1) := by
  unfold Cf
  repeat' with_reducible (first | refine Le.orR' ?_ ?_ | refine Le.bind' ?_ ?_ | refine Le.ite' ?_ ?_ | refine Le.loopM ?_ | refine Le.altS' ?_ ?_ | exact hfRec_pred_arrival_satisfies | exact hfRec_pred_arrival_satisfies _ _ | exact Le.rfl' _ | (refine Le.pi2 ?_; intro _) | intro _)
def CR (nE : Nat) (fRec_pred_arrival_satisfies : (Int × Int × (Int × Int × Int × Int)) → Tr34 → Option Bool) (p0 : List Tr34) (p1f0 : Int × Int × (Int × Int × Int × Int)) : Int → Option (Int ⊕ (Unit ⊕ Int))
  | x1 => (if x1 < (p0.length : Int) then (ix p0 x1).bind fun x2 => ((En nE fRec_pred_arrival_satisfies) p1f0 x2).bind fun x3 => (if x3 = true then some (.inr (.inr x1)) else some (.inl (AO (x1 + 1)))) else some (.inr (.inl ())))
theorem E9 (nE : Nat) {fRec_pred_arrival_satisfies fRec_pred_arrival_satisfies' : (Int × Int × (Int × Int × Int × Int)) → Tr34 → Option Bool} (hfRec_pred_arrival_satisfies : ∀ a0 a1, Le (fRec_pred_arrival_satisfies a0 a1) (fRec_pred_arrival_satisfies' a0 a1)) (p0 : List Tr34) (p1f0 : Int × Int × (Int × Int × Int × Int)) : ∀ s, Le (CR nE fRec_pred_arrival_satisfies p0 p1f0 s) (AH fRec_pred_arrival_satisfies' p0 p1f0 s) := by
  intro x1
  unfold CR AH
  repeat' with_reducible (first | refine Le.orR' ?_ ?_ | refine Le.bind' ?_ ?_ | refine Le.ite' ?_ ?_ | refine Le.loop' ?_ | refine Le.altS' ?_ ?_ | exact hfRec_pred_arrival_satisfies | exact hfRec_pred_arrival_satisfies _ _ | apply GK | exact Le.rfl' _ | (refine Le.pi2 ?_; intro _) | intro _)
theorem Fc {fRec_pred_arrival_satisfies fRec_pred_arrival_satisfies' : (Int × Int × (Int × Int × Int × Int)) → Tr34 → Option Bool} (hfRec_pred_arrival_satisfies : ∀ a0 a1, Le (fRec_pred_arrival_satisfies a0 a1) (fRec_pred_arrival_satisfies' a0 a1)) (p0 : List Tr34) (p1f0 : Int × Int × (Int × Int × Int × Int)) : ∀ s, Le (AH fRec_pred_arrival_satisfies p0 p1f0 s) (AH fRec_pred_arrival_satisfies' p0 p1f0 s) := by
  intro x1
  unfold AH
  repeat' with_reducible (first | refine Le.orR' ?_ ?_ | refine Le.bind' ?_ ?_ | refine Le.ite' ?_ ?_ | refine Le.loopM ?_ | refine Le.altS' ?_ ?_ | exact hfRec_pred_arrival_satisfies | exact hfRec_pred_arrival_satisfies _ _ | apply GJ | exact Le.rfl' _ | (refine Le.pi2 ?_; intro _) | intro _)
def CY (nE : Nat) (fRec_pred_arrival_satisfies : (Int × Int × (Int × Int × Int × Int)) → Tr34 → Option Bool) (p0 : List Tr34) (p1f0 : Int × Int × (Int × Int × Int × Int)) : Option Int := Kq (H3 nE (CR nE fRec_pred_arrival_satisfies p0 p1f0) 0) fun _ => some (-1)
theorem Fy (nE : Nat) {fRec_pred_arrival_satisfies fRec_pred_arrival_satisfies' : (Int × Int × (Int × Int × Int × Int)) → Tr34 → Option Bool} (hfRec_pred_arrival_satisfies : ∀ a0 a1, Le (fRec_pred_arrival_satisfies a0 a1) (fRec_pred_arrival_satisfies' a0 a1)) (p0 : List Tr34) (p1f0 : Int × Int × (Int × Int × Int × Int)) : Le (CY nE fRec_pred_arrival_satisfies p0 p1f0) (A8 fRec_pred_arrival_satisfies' p0 p1f0) := by
  unfold CY A8
  repeat' with_reducible (first | refine Le.orR' ?_ ?_ | refine Le.bind' ?_ ?_ | refine Le.ite' ?_ ?_ | refine Le.loop' ?_ | refine Le.altS' ?_ ?_ | exact hfRec_pred_arrival_satisfies | exact hfRec_pred_arrival_satisfies _ _ | apply E9 | exact Le.rfl' _ | (refine Le.pi2 ?_; intro _) | intro _)
theorem FB {fRec_pred_arrival_satisfies fRec_pred_arrival_satisfies' : (Int × Int × (Int × Int × Int × Int)) → Tr34 → Option Bool} (hfRec_pred_arrival_satisfies : ∀ a0 a1, Le (fRec_pred_arrival_satisfies a0 a1) (fRec_pred_arrival_satisfies' a0 a1)) (p0 : List Tr34) (p1f0 : Int × Int × (Int × Int × Int × Int)) : Le (A8 fRec_pred_arrival_satisfies p0 p1f0) (A8 fRec_pred_arrival_satisfies' p0 p1f0) := by
  unfold A8
  repeat' with_reducible (first | refine Le.orR' ?_ ?_ | refine Le.bind' ?_ ?_ | refine Le.ite' ?_ ?_ | refine Le.loopM ?_ | refine Le.altS' ?_ ?_ | exact hfRec_pred_arrival_satisfies | exact hfRec_pred_arrival_satisfies _ _ | apply Fc | exact Le.rfl' _ | (refine Le.pi2 ?_; intro _) | intro _)
def CS (nE : Nat) (fRec_pred_arrival_satisfies : (Int × Int × (Int × Int × Int × Int)) → Tr34 → Option Bool) (p0 : List Tr34) (p1f0 : Int × Int × (Int × Int × Int × Int)) : Option Bool := ((CY nE fRec_pred_arrival_satisfies) p0 p1f0).bind fun x1 => some (decide (0 ≤ x1))
theorem Fd (nE : Nat) {fRec_pred_arrival_satisfies fRec_pred_arrival_satisfies' : (Int × Int × (Int × Int × Int × Int)) → Tr34 → Option Bool} (hfRec_pred_arrival_satisfies : ∀ a0 a1, Le (fRec_pred_arrival_satisfies a0 a1) (fRec_pred_arrival_satisfies' a0 a1)) (p0 : List Tr34) (p1f0 : Int × Int × (Int × Int × Int × Int)) : Le (CS nE fRec_pred_arrival_satisfies p0 p1f0) (AV fRec_pred_arrival_satisfies' p0 p1f0) := by
  unfold CS AV
  repeat' with_reducible (first | refine Le.orR' ?_ ?_ | refine Le.bind' ?_ ?_ | refine Le.ite' ?_ ?_ | refine Le.loop' ?_ | refine Le.altS' ?_ ?_ | exact hfRec_pred_arrival_satisfies | exact hfRec_pred_arrival_satisfies _ _ | apply Fy | exact Le.rfl' _ | (refine Le.pi2 ?_; intro _) | intro _)
theorem Fb {fRec_pred_arrival_satisfies fRec_pred_arrival_satisfies' : (Int × Int × (Int × Int × Int × Int)) → Tr34 → Option Bool} (hfRec_pred_arrival_satisfies : ∀ a0 a1, Le (fRec_pred_arrival_satisfies a0 a1) (fRec_pred_arrival_satisfies' a0 a1)) (p0 : List Tr34) (p1f0 : Int × Int × (Int × Int × Int × Int)) : Le (AV fRec_pred_arrival_satisfies p0 p1f0) (AV fRec_pred_arrival_satisfies' p0 p1f0) := by
  unfold AV
  repeat' with_reducible (first | refine Le.orR' ?_ ?_ | refine Le.bind' ?_ ?_ | refine Le.ite' ?_ ?_ | refine Le.loopM ?_ | refine Le.altS' ?_ ?_ | exact hfRec_pred_arrival_satisfies | exact hfRec_pred_arrival_satisfies _ _ | apply FB | exact Le.rfl' _ | (refine Le.pi2 ?_; intro _) | intro _)
def CJ (nE : Nat) (fRec_pred_arrival_satisfies : (Int × Int × (Int × Int × Int × Int)) → Tr34 → Option Bool) (p0 : List Tr34) (p1f0 : Int × Int × (Int × Int × Int × Int)) : Int → Option (Int ⊕ (Unit ⊕ Int))
  | x1 => (if x1 < (p0.length : Int) then (ix p0 x1).bind fun x2 => (fRec_pred_arrival_satisfies p1f0 x2).bind fun x3 => (if x3 = true then some (.inr (.inr x1)) else some (.inl (AO (x1 + 1)))) else some (.inr (.inl ())))
theorem EF (nE : Nat) {fRec_pred_arrival_satisfies fRec_pred_arrival_satisfies' : (Int × Int × (Int × Int × Int × Int)) → Tr34 → Option Bool} (hfRec_pred_arrival_satisfies : ∀ a0 a1, Le (fRec_pred_arrival_satisfies a0 a1) (fRec_pred_arrival_satisfies' a0 a1)) (p0 : List Tr34) (p1f0 : Int × Int × (Int × Int × Int × Int)) : ∀ s, Le (CJ nE fRec_pred_arrival_satisfies p0 p1f0 s) (AF fRec_pred_arrival_satisfies' p0 p1f0 s) := by
  intro x1
  unfold CJ AF
  repeat' with_reducible (first | refine Le.orR' ?_ ?_ | refine Le.bind' ?_ ?_ | refine Le.ite' ?_ ?_ | refine Le.loop' ?_ | refine Le.altS' ?_ ?_ | exact hfRec_pred_arrival_satisfies | exact hfRec_pred_arrival_satisfies _ _ | exact Le.rfl' _ | (refine Le.pi2 ?_; intro _) | intro _)
theorem EM {fRec_pred_arrival_satisfies fRec_pred_arrival_satisfies' : (Int × Int × (Int × Int × Int × Int)) → Tr34 → Option Bool} (hfRec_pred_arrival_satisfies : ∀ a0 a1, Le (fRec_pred_arrival_satisfies a0 a1) (fRec_pred_arrival_satisfies' a0 a1)) (p0 : List Tr34) (p1f0 : Int × Int × (Int × Int × Int × Int)) : ∀ s, Le (AF fRec_pred_arrival_satisfies p0 p1f0 s) (AF fRec_pred_arrival_satisfies' p0 p1f0 s) := by
  intro x1
  unfold AF
  repeat' with_reducible (first | refine Le.orR' ?_ ?_ | refine Le.bind' ?_ ?_ | refine Le.ite' ?_ ?_ | refine Le.loopM ?_ | refine Le.altS' ?_ ?_ | exact hfRec_pred_arrival_satisfies | exact hfRec_pred_arrival_satisfies _ _ | exact Le.rfl' _ | (refine Le.pi2 ?_; intro _) | intro _)
def CV (nE : Nat) (fRec_pred_arrival_satisfies : (Int × Int × (Int × Int × Int × Int)) → Tr34 → Option Bool) (p0 : List Tr34) (p1f0 : Int × Int × (Int × Int × Int × Int)) : Option Int := Kq (H3 nE (CJ nE fRec_pred_arrival_satisfies p0 p1f0) 0) fun _ => some (-1)
theorem Fm (nE : Nat) {fRec_pred_arrival_satisfies fRec_pred_arrival_satisfies' : (Int × Int × (Int × Int × Int × Int)) → Tr34 → Option Bool} (hfRec_pred_arrival_satisfies : ∀ a0 a1, Le (fRec_pred_arrival_satisfies a0 a1) (fRec_pred_arrival_satisfies' a0 a1)) (p0 : List Tr34) (p1f0 : Int × Int × (Int × Int × Int × Int)) : Le (CV nE fRec_pred_arrival_satisfies p0 p1f0) (AX fRec_pred_arrival_satisfies' p0 p1f0) := by
  unfold CV AX
  repeat' with_reducible (first | refine Le.orR' ?_ ?_ | refine Le.bind' ?_ ?_ | refine Le.ite' ?_ ?_ | refine Le.loop' ?_ | refine Le.altS' ?_ ?_ | exact hfRec_pred_arrival_satisfies | exact hfRec_pred_arrival_satisfies _ _ | apply EF | exact Le.rfl' _ | (refine Le.pi2 ?_; intro _) | intro _)
theorem Fh {fRec_pred_arrival_satisfies fRec_pred_arrival_satisfies' : (Int × Int × (Int × Int × Int × Int)) → Tr34 → Option Bool} (hfRec_pred_arrival_satisfies : ∀ a0 a1, Le (fRec_pred_arrival_satisfies a0 a1) (fRec_pred_arrival_satisfies' a0 a1)) (p0 : List Tr34) (p1f0 : Int × Int × (Int × Int × Int × Int)) : Le (AX fRec_pred_arrival_satisfies p0 p1f0) (AX fRec_pred_arrival_satisfies' p0 p1f0) := by
  unfold AX
  repeat' with_reducible (first | refine Le.orR' ?_ ?_ | refine Le.bind' ?_ ?_ | refine Le.ite' ?_ ?_ | refine Le.loopM ?_ | refine Le.altS' ?_ ?_ | exact hfRec_pred_arrival_satisfies | exact hfRec_pred_arrival_satisfies _ _ | apply EM | exact Le.rfl' _ | (refine Le.pi2 ?_; intro _) | intro _)
def CL (nE : Nat) (fRec_pred_arrival_satisfies : (Int × Int × (Int × Int × Int × Int)) → Tr34 → Option Bool) (p0 : List Tr34) (p1f0 : Int × Int × (Int × Int × Int × Int)) : Option Bool := ((CV nE fRec_pred_arrival_satisfies) p0 p1f0).bind fun x1 => some (decide (0 ≤ x1))
theorem EH (nE : Nat) {fRec_pred_arrival_satisfies fRec_pred_arrival_satisfies' : (Int × Int × (Int × Int × Int × Int)) → Tr34 → Option Bool} (hfRec_pred_arrival_satisfies : ∀ a0 a1, Le (fRec_pred_arrival_satisfies a0 a1) (fRec_pred_arrival_satisfies' a0 a1)) (p0 : List Tr34) (p1f0 : Int × Int × (Int × Int × Int × Int)) : Le (CL nE fRec_pred_arrival_satisfies p0 p1f0) (AP fRec_pred_arrival_satisfies' p0 p1f0) := by
  unfold CL AP
  repeat' with_reducible (first | refine Le.orR' ?_ ?_ | refine Le.bind' ?_ ?_ | refine Le.ite' ?_ ?_ | refine Le.loop' ?_ | refine Le.altS' ?_ ?_ | exact hfRec_pred_arrival_satisfies | exact hfRec_pred_arrival_satisfies _ _ | apply Fm | exact Le.rfl' _ | (refine Le.pi2 ?_; intro _) | intro _)
theorem EG {fRec_pred_arrival_satisfies fRec_pred_arrival_satisfies' : (Int × Int × (Int × Int × Int × Int)) → Tr34 → Option Bool} (hfRec_pred_arrival_satisfies : ∀ a0 a1, Le (fRec_pred_arrival_satisfies a0 a1) (fRec_pred_arrival_satisfies' a0 a1)) (p0 : List Tr34) (p1f0 : Int × Int × (Int × Int × Int × Int)) : Le (AP fRec_pred_arrival_satisfies p0 p1f0) (AP fRec_pred_arrival_satisfies' p0 p1f0) := by
  unfold AP
  repeat' with_reducible (first | refine Le.orR' ?_ ?_ | refine Le.bind' ?_ ?_ | refine Le.ite' ?_ ?_ | refine Le.loopM ?_ | refine Le.altS' ?_ ?_ | exact hfRec_pred_arrival_satisfies | exact hfRec_pred_arrival_satisfies _ _ | apply Fh | exact Le.rfl' _ | (refine Le.pi2 ?_; intro _) | intro _)
def DP (nE : Nat) (fRec : (Int × Int × (Int × Int × Int × Int)) → Tr34 → Option Bool) (p0 : Int × Int × (Int × Int × Int × Int)) (p1 : Tr34) : Option Bool := (if p1.un.1 = 1 then some true else (if p1.un.1 = 3 then (if (C2 p1.un.2.1) = true then (La nE p1.un.2.1 p0.1 p0.2.1 p0.2.2).bind fun x2 => some (decide (x2 = p1.un.2.2.1)) else some false).bind fun x1 => some x1 else (if p1.un.1 = 4 then (if 0 < (p1.un.2.2.2.length : Int) then (ix p1.un.2.2.2 0).bind fun x4 => ((En nE fRec) p0 x4).bind fun x5 => some x5 else some false).bind fun x3 => some x3 else (if p1.un.1 = 5 then ((CS nE fRec) p1.un.2.2.2 p0).bind fun x6 => some (!x6) else (if p1.un.1 = 6 then ((CL nE fRec) p1.un.2.2.2 p0).bind fun x7 => some x7 else some false)))))
theorem Hn (nE : Nat) {fRec fRec' : (Int × Int × (Int × Int × Int × Int)) → Tr34 → Option Bool} (hfRec : ∀ a0 a1, Le (fRec a0 a1) (fRec' a0 a1)) (p0 : Int × Int × (Int × Int × Int × Int)) (p1 : Tr34) : Le (DP nE fRec p0 p1) (BC fRec' p0 p1) := by
  unfold DP BC
  repeat' with_reducible (first | refine Le.orR' ?_ ?_ | refine Le.bind' ?_ ?_ | refine Le.ite' ?_ ?_ | refine Le.loop' ?_ | refine Le.altS' ?_ ?_ | exact hfRec | exact hfRec _ _ | apply QM | apply GK | apply Fd | apply EH | exact Le.rfl' _ | (refine Le.pi2 ?_; intro _) | intro _)
theorem Hl {fRec fRec' : (Int × Int × (Int × Int × Int × Int)) → Tr34 → Option Bool} (hfRec : ∀ a0 a1, Le (fRec a0 a1) (fRec' a0 a1)) (p0 : Int × Int × (Int × Int × Int × Int)) (p1 : Tr34) : Le (BC fRec p0 p1) (BC fRec' p0 p1) := by
  unfold BC
  repeat' with_reducible (first | refine Le.orR' ?_ ?_ | refine Le.bind' ?_ ?_ | refine Le.ite' ?_ ?_ | refine Le.loopM ?_ | refine Le.altS' ?_ ?_ | exact hfRec | exact hfRec _ _ | apply GJ | apply Fb | apply EG | exact Le.rfl' _ | (refine Le.pi2 ?_; intro _) | intro _)
def Ea (nE : Nat) : Nat → (Int × Int × (Int × Int × Int × Int)) → Tr34 → Option Bool
  | 0 => fun _ _ => none
  | n + 1 => DP nE (Ea nE n)
theorem Fx (nE : Nat) : ∀ (m : Nat) a0 a1, Le (Ea nE m a0 a1) (Bb m a0 a1)
  | 0, a0, a1 => fun _ h => nomatch h
  | m + 1, a0, a1 => Hn nE (Fx nE m) a0 a1
theorem DQ : ∀ (m : Nat) a0 a1, Le (Bb m a0 a1) (Bb (m + 1) a0 a1)
  | 0, a0, a1 => fun _ h => nomatch h
  | m + 1, a0, a1 => Hl (DQ m) a0 a1
def F5 (nE : Nat) (p0 : Int × Int × (Int × Int × Int × Int)) (p1 : Tr34) : Option Bool := Ea nE nE p0 p1
theorem HY (nE : Nat) (p0 : Int × Int × (Int × Int × Int × Int)) (p1 : Tr34) : Le (F5 nE p0 p1) (DO p0 p1) := fun r e => Di (g := fun n => Bb n p0 p1) (fun n r h => DQ n p0 p1 r h) (n := nE) (Fx nE nE p0 p1 r e)
def Ia (nE : Nat) (p0 : Tr34) (p1 : Int) (p2 : Int) (p3 : Int × Int × Int × Int) : Option Bool := (F5 nE (p1, p2, p3) p0).bind fun x1 => some x1
theorem Lv (nE : Nat) (p0 : Tr34) (p1 : Int) (p2 : Int) (p3 : Int × Int × Int × Int) : Le (Ia nE p0 p1 p2 p3) (Gv p0 p1 p2 p3) := by
  unfold Ia Gv
  repeat' with_reducible (first | refine Le.orR' ?_ ?_ | refine Le.bind' ?_ ?_ | refine Le.ite' ?_ ?_ | refine Le.loop' ?_ | refine Le.altS' ?_ ?_ | apply HY | exact Le.rfl' _ | (refine Le.pi2 ?_; intro _) | intro _)
def Iz (nE : Nat) (p0 : Int) : Option Int := (if p0 = 0 then some true else (if p0 = 1 then some true else some (decide (p0 = 3)))).bind fun x1 => (if x1 = true then some 8 else (if p0 = 2 then some 4 else some 0))
theorem N9 (nE : Nat) (p0 : Int) : Le (Iz nE p0) (Gp p0) := by
  unfold Iz Gp
  repeat' with_reducible (first | refine Le.orR' ?_ ?_ | refine Le.bind' ?_ ?_ | refine Le.ite' ?_ ?_ | refine Le.loop' ?_ | refine Le.altS' ?_ ?_ | exact Le.rfl' _ | (refine Le.pi2 ?_; intro _) | intro _)
def Ht (nE : Nat) (p0 : Int) : Option Int := (Iz nE p0).bind fun x1 => (Wa (Hi .i64 1 x1) x1).bind fun x2 => some (AO (x2 - 1))
theorem KL (nE : Nat) (p0 : Int) : Le (Ht nE p0) (D5 p0) := by
  unfold Ht D5
  repeat' with_reducible (first | refine Le.orR' ?_ ?_ | refine Le.bind' ?_ ?_ | refine Le.ite' ?_ ?_ | refine Le.loop' ?_ | refine Le.altS' ?_ ?_ | apply N9 | exact Le.rfl' _ | (refine Le.pi2 ?_; intro _) | intro _)
def ID (nE : Nat) (p0 : Int) (p1 : Int) : Option Bool := (if 0 ≤ p1 then (Ht nE p0).bind fun x2 => some (decide (p1 ≤ x2)) else some false).bind fun x1 => some x1
theorem Oi (nE : Nat) (p0 : Int) (p1 : Int) : Le (ID nE p0 p1) (DC p0 p1) := by
  unfold ID DC
  repeat' with_reducible (first | refine Le.orR' ?_ ?_ | refine Le.bind' ?_ ?_ | refine Le.ite' ?_ ?_ | refine Le.loop' ?_ | refine Le.altS' ?_ ?_ | apply KL | exact Le.rfl' _ | (refine Le.pi2 ?_; intro _) | intro _)
def Im (nE : Nat) (p0 : Int × Int × Int × Int) (p1 : Int) (p2 : Int) : Option (Int × Int × Int × Int) := ((if (CB p1) = true then (ID nE p1 p2).bind fun x6 => some x6 else some false).bind fun x5 => (if x5 = true then (ix ([p0.1, p0.2.1, p0.2.2.1, p0.2.2.2] : List Int) p1).bind fun x7 => some ((if p1 = 0 then p2 else p0.1), (if p1 = 1 then p2 else p0.2.1), (if p1 = 2 then p2 else p0.2.2.1), (if p1 = 3 then p2 else p0.2.2.2)) else some (p0.1, p0.2.1, p0.2.2.1, p0.2.2.2))).bind fun (x1, x2, x3, x4) => some (x1, x2, x3, x4)
theorem Og (nE : Nat) (p0 : Int × Int × Int × Int) (p1 : Int) (p2 : Int) : Le (Im nE p0 p1 p2) (C4 p0 p1 p2) := by
  unfold Im C4
  repeat' with_reducible (first | refine Le.orR' ?_ ?_ | refine Le.bind' ?_ ?_ | refine Le.ite' ?_ ?_ | refine Le.loop' ?_ | refine Le.altS' ?_ ?_ | apply Oi | exact Le.rfl' _ | (refine Le.pi2 ?_; intro _) | intro _)
def GE (nE : Nat) (p0 : Int × (Int × Int × Int × Int)) (p1 : Int) (p2 : Int) : Option (Int × (Int × Int × Int × Int)) := (if p1 = 4 then some p2 else some p0.1).bind fun x1 => (Im nE p0.2 p1 p2).bind fun x2 => some (x1, x2)
theorem Ld (nE : Nat) (p0 : Int × (Int × Int × Int × Int)) (p1 : Int) (p2 : Int) : Le (GE nE p0 p1 p2) (Cd p0 p1 p2) := by
  unfold GE Cd
  repeat' with_reducible (first | refine Le.orR' ?_ ?_ | refine Le.bind' ?_ ?_ | refine Le.ite' ?_ ?_ | refine Le.loop' ?_ | refine Le.altS' ?_ ?_ | apply Og | exact Le.rfl' _ | (refine Le.pi2 ?_; intro _) | intro _)
def Fe (nE : Nat) (fRec_policy_results : Tr37 → Int → (Int × (Int × Int × Int × Int)) → Option (List (Int × (Int × Int × Int × Int)))) (p1 : Int) (x4 : Tr37) (kx760 : Int × (Int × Int × Int × Int)) : Option (List (Int × (Int × Int × Int × Int))) := (fRec_policy_results (Tr37.of (x4.un.1, Tr34.of (x4.un.2.1.un.1, x4.un.2.1.un.2.1, x4.un.2.1.un.2.2.1, x4.un.2.1.un.2.2.2), x4.un.2.2.1, x4.un.2.2.2.1, x4.un.2.2.2.2)) p1 kx760).bind fun x6 => some x6
theorem IX (nE : Nat) {fRec_policy_results fRec_policy_results' : Tr37 → Int → (Int × (Int × Int × Int × Int)) → Option (List (Int × (Int × Int × Int × Int)))} (hfRec_policy_results : ∀ a0 a1 a2, Le (fRec_policy_results a0 a1 a2) (fRec_policy_results' a0 a1 a2)) (p1 : Int) (x4 : Tr37) (kx760 : Int × (Int × Int × Int × Int)) : Le (Fe nE fRec_policy_results p1 x4 kx760) (Cq fRec_policy_results' p1 x4 kx760) := by
  unfold Fe Cq
  repeat' with_reducible (first | refine Le.orR' ?_ ?_ | refine Le.bind' ?_ ?_ | refine Le.ite' ?_ ?_ | refine Le.loop' ?_ | refine Le.altS' ?_ ?_ | exact hfRec_policy_results | exact hfRec_policy_results _ _ _ | exact Le.rfl' _ | (refine Le.pi2 ?_; intro _) | intro _)
theorem IV {fRec_policy_results fRec_policy_results' : Tr37 → Int → (Int × (Int × Int × Int × Int)) → Option (List (Int × (Int × Int × Int × Int)))} (hfRec_policy_results : ∀ a0 a1 a2, Le (fRec_policy_results a0 a1 a2) (fRec_policy_results' a0 a1 a2)) (p1 : Int) (x4 : Tr37) (kx760 : Int × (Int × Int × Int × Int)) : Le (Cq fRec_policy_results p1 x4 kx760) (Cq fRec_policy_results' p1 x4 kx760) := by
  unfold Cq
  repeat' with_reducible (first | refine Le.orR' ?_ ?_ | refine Le.bind' ?_ ?_ | refine Le.ite' ?_ ?_ | refine Le.loopM ?_ | refine Le.altS' ?_ ?_ | exact hfRec_policy_results | exact hfRec_policy_results _ _ _ | exact Le.rfl' _ | (refine Le.pi2 ?_; intro _) | intro _)
def E6 (nE : Nat) (fRec_policy_results : Tr37 → Int → (Int × (Int × Int × Int × Int)) → Option (List (Int × (Int × Int × Int × Int)))) (p0 : List Tr37) (p1 : Int) : ((List (Int × (Int × Int × Int × Int))) × Int) → Option (((List (Int × (Int × Int × Int × Int))) × Int) ⊕ (List (Int × (Int × Int × Int × Int))))
  | (x2, x3) => (if x3 < (p0.length : Int) then (ix p0 x3).bind fun x4 => (GG Bh (Fe nE fRec_policy_results p1 x4) x2 ([] : List (Int × (Int × Int × Int × Int)))).bind fun x5 => some (.inl (x5, AO (x3 + 1))) else some (.inr x2))
theorem IL (nE : Nat) {fRec_policy_results fRec_policy_results' : Tr37 → Int → (Int × (Int × Int × Int × Int)) → Option (List (Int × (Int × Int × Int × Int)))} (hfRec_policy_results : ∀ a0 a1 a2, Le (fRec_policy_results a0 a1 a2) (fRec_policy_results' a0 a1 a2)) (p0 : List Tr37) (p1 : Int) : ∀ s, Le (E6 nE fRec_policy_results p0 p1 s) (BM fRec_policy_results' p0 p1 s) := by
  rintro ⟨x2, x3⟩
  unfold E6 BM
  repeat' with_reducible (first | refine Le.orR' ?_ ?_ | refine Le.bind' ?_ ?_ | refine Le.ite' ?_ ?_ | refine Le.loop' ?_ | refine Le.altS' ?_ ?_ | refine Le.sall' ?_ _ _ | exact hfRec_policy_results | exact hfRec_policy_results _ _ _ | apply IX | exact Le.rfl' _ | (refine Le.pi2 ?_; intro _) | intro _)
theorem IU {fRec_policy_results fRec_policy_results' : Tr37 → Int → (Int × (Int × Int × Int × Int)) → Option (List (Int × (Int × Int × Int × Int)))} (hfRec_policy_results : ∀ a0 a1 a2, Le (fRec_policy_results a0 a1 a2) (fRec_policy_results' a0 a1 a2)) (p0 : List Tr37) (p1 : Int) : ∀ s, Le (BM fRec_policy_results p0 p1 s) (BM fRec_policy_results' p0 p1 s) := by
  rintro ⟨x2, x3⟩
  show Le (BM fRec_policy_results p0 p1 (x2, x3)) (BM fRec_policy_results' p0 p1 (x2, x3))
  unfold BM
  repeat' with_reducible (first | refine Le.orR' ?_ ?_ | refine Le.bind' ?_ ?_ | refine Le.ite' ?_ ?_ | refine Le.loopM ?_ | refine Le.altS' ?_ ?_ | refine Le.sall' ?_ _ _ | exact hfRec_policy_results | exact hfRec_policy_results _ _ _ | apply IV | exact Le.rfl' _ | (refine Le.pi2 ?_; intro _) | intro _)
def FX (nE : Nat) (fRec_policy_results : Tr37 → Int → (Int × (Int × Int × Int × Int)) → Option (List (Int × (Int × Int × Int × Int)))) (p0 : List Tr37) (p1 : Int) (p2 : Int × (Int × Int × Int × Int)) : Option (List (Int × (Int × Int × Int × Int))) := (H3 nE (E6 nE fRec_policy_results p0 p1) ((FM Bh ([] : List (Int × (Int × Int × Int × Int))) p2), 0)).bind fun x1 => some x1
theorem JU (nE : Nat) {fRec_policy_results fRec_policy_results' : Tr37 → Int → (Int × (Int × Int × Int × Int)) → Option (List (Int × (Int × Int × Int × Int)))} (hfRec_policy_results : ∀ a0 a1 a2, Le (fRec_policy_results a0 a1 a2) (fRec_policy_results' a0 a1 a2)) (p0 : List Tr37) (p1 : Int) (p2 : Int × (Int × Int × Int × Int)) : Le (FX nE fRec_policy_results p0 p1 p2) (CI fRec_policy_results' p0 p1 p2) := by
  unfold FX CI
  repeat' with_reducible (first | refine Le.orR' ?_ ?_ | refine Le.bind' ?_ ?_ | refine Le.ite' ?_ ?_ | refine Le.loop' ?_ | refine Le.altS' ?_ ?_ | exact hfRec_policy_results | exact hfRec_policy_results _ _ _ | apply IL | exact Le.rfl' _ | (refine Le.pi2 ?_; intro _) | intro _)
theorem JH {fRec_policy_results fRec_policy_results' : Tr37 → Int → (Int × (Int × Int × Int × Int)) → Option (List (Int × (Int × Int × Int × Int)))} (hfRec_policy_results : ∀ a0 a1 a2, Le (fRec_policy_results a0 a1 a2) (fRec_policy_results' a0 a1 a2)) (p0 : List Tr37) (p1 : Int) (p2 : Int × (Int × Int × Int × Int)) : Le (CI fRec_policy_results p0 p1 p2) (CI fRec_policy_results' p0 p1 p2) := by
  unfold CI
  repeat' with_reducible (first | refine Le.orR' ?_ ?_ | refine Le.bind' ?_ ?_ | refine Le.ite' ?_ ?_ | refine Le.loopM ?_ | refine Le.altS' ?_ ?_ | exact hfRec_policy_results | exact hfRec_policy_results _ _ _ | apply IU | exact Le.rfl' _ | (refine Le.pi2 ?_; intro _) | intro _)
def Hm (nE : Nat) (p0 : Tr37) (p1 : Int) (p2 : Int × (Int × Int × Int × Int)) : Option Tr37 := ((Ia nE (Tr34.of (p0.un.2.1.un.1, p0.un.2.1.un.2.1, p0.un.2.1.un.2.2.1, p0.un.2.1.un.2.2.2)) p1 p2.1 p2.2).bind fun x2 => (if x2 = true then some 0 else some 1)).bind fun x1 => (if (p0.un.2.2.2.2.length : Int) ≤ x1 then some (Tr37.of (0, Tr34.of (0, 0, 0, ([] : List Tr34)), 0, 0, ([] : List Tr37))) else (ix p0.un.2.2.2.2 x1).bind fun x3 => some (Tr37.of (x3.un.1, Tr34.of (x3.un.2.1.un.1, x3.un.2.1.un.2.1, x3.un.2.1.un.2.2.1, x3.un.2.1.un.2.2.2), x3.un.2.2.1, x3.un.2.2.2.1, x3.un.2.2.2.2)))
theorem Mw (nE : Nat) (p0 : Tr37) (p1 : Int) (p2 : Int × (Int × Int × Int × Int)) : Le (Hm nE p0 p1 p2) (Ey p0 p1 p2) := by
  unfold Hm Ey
  repeat' with_reducible (first | refine Le.orR' ?_ ?_ | refine Le.bind' ?_ ?_ | refine Le.ite' ?_ ?_ | refine Le.loop' ?_ | refine Le.altS' ?_ ?_ | apply Lv | exact Le.rfl' _ | (refine Le.pi2 ?_; intro _) | intro _)
def FT (nE : Nat) (fRec : Tr37 → Int → (Int × (Int × Int × Int × Int)) → Option (List (Int × (Int × Int × Int × Int)))) (p0 : Tr37) (p1 : Int) (p2 : Int × (Int × Int × Int × Int)) : ((List (Int × (Int × Int × Int × Int))) × Int) → Option (((List (Int × (Int × Int × Int × Int))) × Int) ⊕ (List (Int × (Int × Int × Int × Int))))
  | (x5, x6) => (if x6 < (p0.un.2.2.2.2.length : Int) then (ix p0.un.2.2.2.2 x6).bind fun x7 => (fRec (Tr37.of (x7.un.1, Tr34.of (x7.un.2.1.un.1, x7.un.2.1.un.2.1, x7.un.2.1.un.2.2.1, x7.un.2.1.un.2.2.2), x7.un.2.2.1, x7.un.2.2.2.1, x7.un.2.2.2.2)) p1 p2).bind fun x8 => some (.inl ((Jf Bh x5 x8), AO (x6 + 1))) else some (.inr x5))
theorem Kk (nE : Nat) {fRec fRec' : Tr37 → Int → (Int × (Int × Int × Int × Int)) → Option (List (Int × (Int × Int × Int × Int)))} (hfRec : ∀ a0 a1 a2, Le (fRec a0 a1 a2) (fRec' a0 a1 a2)) (p0 : Tr37) (p1 : Int) (p2 : Int × (Int × Int × Int × Int)) : ∀ s, Le (FT nE fRec p0 p1 p2 s) (Cc fRec' p0 p1 p2 s) := by
  rintro ⟨x5, x6⟩
  unfold FT Cc
  repeat' with_reducible (first | refine Le.orR' ?_ ?_ | refine Le.bind' ?_ ?_ | refine Le.ite' ?_ ?_ | refine Le.loop' ?_ | refine Le.altS' ?_ ?_ | exact hfRec | exact hfRec _ _ _ | exact Le.rfl' _ | (refine Le.pi2 ?_; intro _) | intro _)
theorem JG {fRec fRec' : Tr37 → Int → (Int × (Int × Int × Int × Int)) → Option (List (Int × (Int × Int × Int × Int)))} (hfRec : ∀ a0 a1 a2, Le (fRec a0 a1 a2) (fRec' a0 a1 a2)) (p0 : Tr37) (p1 : Int) (p2 : Int × (Int × Int × Int × Int)) : ∀ s, Le (Cc fRec p0 p1 p2 s) (Cc fRec' p0 p1 p2 s) := by
  rintro ⟨x5, x6⟩
  show Le (Cc fRec p0 p1 p2 (x5, x6)) (Cc fRec' p0 p1 p2 (x5, x6))
  unfold Cc
  repeat' with_reducible (first | refine Le.orR' ?_ ?_ | refine Le.bind' ?_ ?_ | refine Le.ite' ?_ ?_ | refine Le.loopM ?_ | refine Le.altS' ?_ ?_ | exact hfRec | exact hfRec _ _ _ | exact Le.rfl' _ | (refine Le.pi2 ?_; intro _) | intro _)
def FW (nE : Nat) (fRec : Tr37 → Int → (Int × (Int × Int × Int × Int)) → Option (List (Int × (Int × Int × Int × Int)))) (p0 : Tr37) (p1 : Int) (p2 : Int × (Int × Int × Int × Int)) : Option (List (Int × (Int × Int × Int × Int))) := Kq (if p0.un.1 = 1 then (Ia nE (Tr34.of (p0.un.2.1.un.1, p0.un.2.1.un.2.1, p0.un.2.1.un.2.2.1, p0.un.2.1.un.2.2.2)) p1 p2.1 p2.2).bind fun x1 => (if x1 = true then some (.inr (FM Bh ([] : List (Int × (Int × Int × Int × Int))) p2)) else some (.inl ())) else (if p0.un.1 = 2 then (GE nE p2 p0.un.2.2.1 p0.un.2.2.2.1).bind fun x2 => some (.inr (FM Bh ([] : List (Int × (Int × Int × Int × Int))) x2)) else (if p0.un.1 = 3 then ((FX nE fRec) p0.un.2.2.2.2 p1 p2).bind fun x3 => some (.inr x3) else (if p0.un.1 = 4 then (H3 nE (FT nE fRec p0 p1 p2) (([] : List (Int × (Int × Int × Int × Int))), 0)).bind fun x4 => some (.inr x4) else (if p0.un.1 = 5 then (Hm nE (Tr37.of (p0.un.1, Tr34.of (p0.un.2.1.un.1, p0.un.2.1.un.2.1, p0.un.2.1.un.2.2.1, p0.un.2.1.un.2.2.2), p0.un.2.2.1, p0.un.2.2.2.1, p0.un.2.2.2.2)) p1 p2).bind fun x9 => (fRec (Tr37.of (x9.un.1, Tr34.of (x9.un.2.1.un.1, x9.un.2.1.un.2.1, x9.un.2.1.un.2.2.1, x9.un.2.1.un.2.2.2), x9.un.2.2.1, x9.un.2.2.2.1, x9.un.2.2.2.2)) p1 p2).bind fun x10 => some (.inr x10) else some (.inl ())))))) fun _ => some ([] : List (Int × (Int × Int × Int × Int)))
theorem Jy (nE : Nat) {fRec fRec' : Tr37 → Int → (Int × (Int × Int × Int × Int)) → Option (List (Int × (Int × Int × Int × Int)))} (hfRec : ∀ a0 a1 a2, Le (fRec a0 a1 a2) (fRec' a0 a1 a2)) (p0 : Tr37) (p1 : Int) (p2 : Int × (Int × Int × Int × Int)) : Le (FW nE fRec p0 p1 p2) (Ba fRec' p0 p1 p2) := by
  unfold FW Ba
  repeat' with_reducible (first | refine Le.orR' ?_ ?_ | refine Le.bind' ?_ ?_ | refine Le.ite' ?_ ?_ | refine Le.loop' ?_ | refine Le.altS' ?_ ?_ | exact hfRec | exact hfRec _ _ _ | apply Lv | apply Ld | apply JU | apply Mw | apply Kk | exact Le.rfl' _ | (refine Le.pi2 ?_; intro _) | intro _)
theorem JC {fRec fRec' : Tr37 → Int → (Int × (Int × Int × Int × Int)) → Option (List (Int × (Int × Int × Int × Int)))} (hfRec : ∀ a0 a1 a2, Le (fRec a0 a1 a2) (fRec' a0 a1 a2)) (p0 : Tr37) (p1 : Int) (p2 : Int × (Int × Int × Int × Int)) : Le (Ba fRec p0 p1 p2) (Ba fRec' p0 p1 p2) := by
  unfold Ba
  repeat' with_reducible (first | refine Le.orR' ?_ ?_ | refine Le.bind' ?_ ?_ | refine Le.ite' ?_ ?_ | refine Le.loopM ?_ | refine Le.altS' ?_ ?_ | exact hfRec | exact hfRec _ _ _ | apply JH | apply JG | exact Le.rfl' _ | (refine Le.pi2 ?_; intro _) | intro _)
def Gd (nE : Nat) : Nat → Tr37 → Int → (Int × (Int × Int × Int × Int)) → Option (List (Int × (Int × Int × Int × Int)))
  | 0 => fun _ _ _ => none
  | n + 1 => FW nE (Gd nE n)
theorem Hs (nE : Nat) : ∀ (m : Nat) a0 a1 a2, Le (Gd nE m a0 a1 a2) (Az m a0 a1 a2)
  | 0, a0, a1, a2 => fun _ h => nomatch h
  | m + 1, a0, a1, a2 => Jy nE (Hs nE m) a0 a1 a2
theorem FR : ∀ (m : Nat) a0 a1 a2, Le (Az m a0 a1 a2) (Az (m + 1) a0 a1 a2)
  | 0, a0, a1, a2 => fun _ h => nomatch h
  | m + 1, a0, a1, a2 => JC (FR m) a0 a1 a2
def Me (nE : Nat) (p0 : Tr37) (p1 : Int) (p2 : Int × (Int × Int × Int × Int)) : Option (List (Int × (Int × Int × Int × Int))) := Gd nE nE p0 p1 p2
theorem LV (nE : Nat) (p0 : Tr37) (p1 : Int) (p2 : Int × (Int × Int × Int × Int)) : Le (Me nE p0 p1 p2) (D4 p0 p1 p2) := fun r e => Di (g := fun n => Az n p0 p1 p2) (fun n r h => FR n p0 p1 p2 r h) (n := nE) (Hs nE nE p0 p1 p2 r e)
def HI (nE : Nat) (fRec_pred_Text : Tr34 → Option (List UInt8)) (p0 : List Tr34) : (List (List UInt8) × Int) → Option ((List (List UInt8) × Int) ⊕ (List (List UInt8)))
  | (x2, x3) => (if x3 < (p0.length : Int) then (ix p0 x3).bind fun x4 => (fRec_pred_Text x4).bind fun x5 => (if (decide (x4.un.1 = 5) || decide (x4.un.1 = 6)) = true then (HH ([40] : List UInt8) x5).bind fun x7 => (HH x7 ([41] : List UInt8)).bind fun x8 => some x8 else some x5).bind fun x6 => (HH x2 ([x6] : List (List UInt8))).bind fun x9 => some (.inl (x9, AO (x3 + 1))) else some (.inr x2))
theorem MU (nE : Nat) {fRec_pred_Text fRec_pred_Text' : Tr34 → Option (List UInt8)} (hfRec_pred_Text : ∀ a0, Le (fRec_pred_Text a0) (fRec_pred_Text' a0)) (p0 : List Tr34) : ∀ s, Le (HI nE fRec_pred_Text p0 s) (DR fRec_pred_Text' p0 s) := by
  rintro ⟨x2, x3⟩
  unfold HI DR
  repeat' with_reducible (first | refine Le.orR' ?_ ?_ | refine Le.bind' ?_ ?_ | refine Le.ite' ?_ ?_ | refine Le.loop' ?_ | refine Le.altS' ?_ ?_ | exact hfRec_pred_Text | exact hfRec_pred_Text _ | exact Le.rfl' _ | (refine Le.pi2 ?_; intro _) | intro _)
theorem MV {fRec_pred_Text fRec_pred_Text' : Tr34 → Option (List UInt8)} (hfRec_pred_Text : ∀ a0, Le (fRec_pred_Text a0) (fRec_pred_Text' a0)) (p0 : List Tr34) : ∀ s, Le (DR fRec_pred_Text p0 s) (DR fRec_pred_Text' p0 s) := by
  rintro ⟨x2, x3⟩
  show Le (DR fRec_pred_Text p0 (x2, x3)) (DR fRec_pred_Text' p0 (x2, x3))
  unfold DR
  repeat' with_reducible (first | refine Le.orR' ?_ ?_ | refine Le.bind' ?_ ?_ | refine Le.ite' ?_ ?_ | refine Le.loopM ?_ | refine Le.altS' ?_ ?_ | exact hfRec_pred_Text | exact hfRec_pred_Text _ | exact Le.rfl' _ | (refine Le.pi2 ?_; intro _) | intro _)
def Hb (nE : Nat) (fRec_pred_Text : Tr34 → Option (List UInt8)) (p0 : List Tr34) (p1 : List UInt8) : Option (List UInt8) := (H3 nE (HI nE fRec_pred_Text p0) ([], 0)).bind fun x1 => (KP x1 p1).bind fun x10 => some x10
theorem Px (nE : Nat) {fRec_pred_Text fRec_pred_Text' : Tr34 → Option (List UInt8)} (hfRec_pred_Text : ∀ a0, Le (fRec_pred_Text a0) (fRec_pred_Text' a0)) (p0 : List Tr34) (p1 : List UInt8) : Le (Hb nE fRec_pred_Text p0 p1) (Fq fRec_pred_Text' p0 p1) := by
  unfold Hb Fq
  repeat' with_reducible (first | refine Le.orR' ?_ ?_ | refine Le.bind' ?_ ?_ | refine Le.ite' ?_ ?_ | refine Le.loop' ?_ | refine Le.altS' ?_ ?_ | exact hfRec_pred_Text | exact hfRec_pred_Text _ | apply MU | exact Le.rfl' _ | (refine Le.pi2 ?_; intro _) | intro _)
theorem PD {fRec_pred_Text fRec_pred_Text' : Tr34 → Option (List UInt8)} (hfRec_pred_Text : ∀ a0, Le (fRec_pred_Text a0) (fRec_pred_Text' a0)) (p0 : List Tr34) (p1 : List UInt8) : Le (Fq fRec_pred_Text p0 p1) (Fq fRec_pred_Text' p0 p1) := by
  unfold Fq
  repeat' with_reducible (first | refine Le.orR' ?_ ?_ | refine Le.bind' ?_ ?_ | refine Le.ite' ?_ ?_ | refine Le.loopM ?_ | refine Le.altS' ?_ ?_ | exact hfRec_pred_Text | exact hfRec_pred_Text _ | apply MV | exact Le.rfl' _ | (refine Le.pi2 ?_; intro _) | intro _)
def HV (nE : Nat) (fRec : Tr34 → Option (List UInt8)) (p0 : Tr34) : Option (List UInt8) := (if p0.un.1 = 1 then some ([116, 114, 117, 101] : List UInt8) else (if p0.un.1 = 2 then some ([102, 97, 108, 115, 101] : List UInt8) else (if p0.un.1 = 3 then (HH (EK p0.un.2.1) ([32, 61, 32] : List UInt8)).bind fun x1 => (O6 p0.un.2.2.1).bind fun x2 => (HH x1 x2).bind fun x3 => some x3 else (if p0.un.1 = 4 then ((Hb nE fRec) p0.un.2.2.2 ([] : List UInt8)).bind fun x4 => (HH ([110, 111, 116, 32] : List UInt8) x4).bind fun x5 => some x5 else (if p0.un.1 = 5 then ((Hb nE fRec) p0.un.2.2.2 ([32, 97, 110, 100, 32] : List UInt8)).bind fun x6 => some x6 else (if p0.un.1 = 6 then ((Hb nE fRec) p0.un.2.2.2 ([32, 111, 114, 32] : List UInt8)).bind fun x7 => some x7 else some ([63] : List UInt8)))))))
theorem MY (nE : Nat) {fRec fRec' : Tr34 → Option (List UInt8)} (hfRec : ∀ a0, Le (fRec a0) (fRec' a0)) (p0 : Tr34) : Le (HV nE fRec p0) (Er fRec' p0) := by
  unfold HV Er
  repeat' with_reducible (first | refine Le.orR' ?_ ?_ | refine Le.bind' ?_ ?_ | refine Le.ite' ?_ ?_ | refine Le.loop' ?_ | refine Le.altS' ?_ ?_ | exact hfRec | exact hfRec _ | apply Px | exact Le.rfl' _ | (refine Le.pi2 ?_; intro _) | intro _)
theorem Nb {fRec fRec' : Tr34 → Option (List UInt8)} (hfRec : ∀ a0, Le (fRec a0) (fRec' a0)) (p0 : Tr34) : Le (Er fRec p0) (Er fRec' p0) := by
  unfold Er
  repeat' with_reducible (first | refine Le.orR' ?_ ?_ | refine Le.bind' ?_ ?_ | refine Le.ite' ?_ ?_ | refine Le.loopM ?_ | refine Le.altS' ?_ ?_ | exact hfRec | exact hfRec _ | apply PD | exact Le.rfl' _ | (refine Le.pi2 ?_; intro _) | intro _)
def Iu (nE : Nat) : Nat → Tr34 → Option (List UInt8)
  | 0 => fun _ => none
  | n + 1 => HV nE (Iu nE n)
theorem JN (nE : Nat) : ∀ (m : Nat) a0, Le (Iu nE m a0) (EU m a0)
  | 0, a0 => fun _ h => nomatch h
  | m + 1, a0 => MY nE (JN nE m) a0
theorem J1 : ∀ (m : Nat) a0, Le (EU m a0) (EU (m + 1) a0)
  | 0, a0 => fun _ h => nomatch h
  | m + 1, a0 => Nb (J1 m) a0
def Ka (nE : Nat) (p0 : Tr34) : Option (List UInt8) := Iu nE nE p0
theorem LN (nE : Nat) (p0 : Tr34) : Le (Ka nE p0) (Kn p0) := fun r e => Di (g := fun n => EU n p0) (fun n r h => J1 n p0 r h) (n := nE) (JN nE nE p0 r e)
def FU (nE : Nat) (p0 : Tr34) : Option (List UInt8) := (if p0.un.1 = 1 then some ([105, 100] : List UInt8) else (if p0.un.1 = 2 then some ([100, 114, 111, 112] : List UInt8) else (Ka nE p0).bind fun x1 => (HH ([119, 104, 101, 110, 32] : List UInt8) x1).bind fun x2 => some x2))
theorem JW (nE : Nat) (p0 : Tr34) : Le (FU nE p0) (El p0) := by
  unfold FU El
  repeat' with_reducible (first | refine Le.orR' ?_ ?_ | refine Le.bind' ?_ ?_ | refine Le.ite' ?_ ?_ | refine Le.loop' ?_ | refine Le.altS' ?_ ?_ | apply LN | exact Le.rfl' _ | (refine Le.pi2 ?_; intro _) | intro _)
def Fg (nE : Nat) (fRec_policy_Text : Tr37 → Option (List UInt8)) (p0 : List Tr37) : (List (List UInt8) × Int) → Option ((List (List UInt8) × Int) ⊕ (List (List UInt8)))
  | (x2, x3) => (if x3 < (p0.length : Int) then (ix p0 x3).bind fun x4 => (fRec_policy_Text (Tr37.of (x4.un.1, Tr34.of (x4.un.2.1.un.1, x4.un.2.1.un.2.1, x4.un.2.1.un.2.2.1, x4.un.2.1.un.2.2.2), x4.un.2.2.1, x4.un.2.2.2.1, x4.un.2.2.2.2))).bind fun x5 => (if (decide (x4.un.1 = 3) || (decide (x4.un.1 = 4) || decide (x4.un.1 = 5))) = true then (HH ([40] : List UInt8) x5).bind fun x7 => (HH x7 ([41] : List UInt8)).bind fun x8 => some x8 else some x5).bind fun x6 => (HH x2 ([x6] : List (List UInt8))).bind fun x9 => some (.inl (x9, AO (x3 + 1))) else some (.inr x2))
theorem I1 (nE : Nat) {fRec_policy_Text fRec_policy_Text' : Tr37 → Option (List UInt8)} (hfRec_policy_Text : ∀ a0, Le (fRec_policy_Text a0) (fRec_policy_Text' a0)) (p0 : List Tr37) : ∀ s, Le (Fg nE fRec_policy_Text p0 s) (Cn fRec_policy_Text' p0 s) := by
  rintro ⟨x2, x3⟩
  unfold Fg Cn
  repeat' with_reducible (first | refine Le.orR' ?_ ?_ | refine Le.bind' ?_ ?_ | refine Le.ite' ?_ ?_ | refine Le.loop' ?_ | refine Le.altS' ?_ ?_ | exact hfRec_policy_Text | exact hfRec_policy_Text _ | exact Le.rfl' _ | (refine Le.pi2 ?_; intro _) | intro _)
theorem I3 {fRec_policy_Text fRec_policy_Text' : Tr37 → Option (List UInt8)} (hfRec_policy_Text : ∀ a0, Le (fRec_policy_Text a0) (fRec_policy_Text' a0)) (p0 : List Tr37) : ∀ s, Le (Cn fRec_policy_Text p0 s) (Cn fRec_policy_Text' p0 s) := by
  rintro ⟨x2, x3⟩
  show Le (Cn fRec_policy_Text p0 (x2, x3)) (Cn fRec_policy_Text' p0 (x2, x3))
  unfold Cn
  repeat' with_reducible (first | refine Le.orR' ?_ ?_ | refine Le.bind' ?_ ?_ | refine Le.ite' ?_ ?_ | refine Le.loopM ?_ | refine Le.altS' ?_ ?_ | exact hfRec_policy_Text | exact hfRec_policy_Text _ | exact Le.rfl' _ | (refine Le.pi2 ?_; intro _) | intro _)
def DK (nE : Nat) (fRec_policy_Text : Tr37 → Option (List UInt8)) (p0 : List Tr37) : Option (List (List UInt8)) := (H3 nE (Fg nE fRec_policy_Text p0) ([], 0)).bind fun x1 => some x1
theorem JA (nE : Nat) {fRec_policy_Text fRec_policy_Text' : Tr37 → Option (List UInt8)} (hfRec_policy_Text : ∀ a0, Le (fRec_policy_Text a0) (fRec_policy_Text' a0)) (p0 : List Tr37) : Le (DK nE fRec_policy_Text p0) (CH fRec_policy_Text' p0) := by
  unfold DK CH
  repeat' with_reducible (first | refine Le.orR' ?_ ?_ | refine Le.bind' ?_ ?_ | refine Le.ite' ?_ ?_ | refine Le.loop' ?_ | refine Le.altS' ?_ ?_ | exact hfRec_policy_Text | exact hfRec_policy_Text _ | apply I1 | exact Le.rfl' _ | (refine Le.pi2 ?_; intro _) | intro _)
theorem Kh {fRec_policy_Text fRec_policy_Text' : Tr37 → Option (List UInt8)} (hfRec_policy_Text : ∀ a0, Le (fRec_policy_Text a0) (fRec_policy_Text' a0)) (p0 : List Tr37) : Le (CH fRec_policy_Text p0) (CH fRec_policy_Text' p0) := by
  unfold CH
  repeat' with_reducible (first | refine Le.orR' ?_ ?_ | refine Le.bind' ?_ ?_ | refine Le.ite' ?_ ?_ | refine Le.loopM ?_ | refine Le.altS' ?_ ?_ | exact hfRec_policy_Text | exact hfRec_policy_Text _ | apply I3 | exact Le.rfl' _ | (refine Le.pi2 ?_; intro _) | intro _)
def GX (nE : Nat) (fRec : Tr37 → Option (List UInt8)) (p0 : Tr37) : Option (List UInt8) := (if p0.un.1 = 1 then (FU nE (Tr34.of (p0.un.2.1.un.1, p0.un.2.1.un.2.1, p0.un.2.1.un.2.2.1, p0.un.2.1.un.2.2.2))).bind fun x1 => some x1 else (if p0.un.1 = 2 then (HH (DY p0.un.2.2.1) ([32, 58, 61, 32] : List UInt8)).bind fun x2 => (O6 p0.un.2.2.2.1).bind fun x3 => (HH x2 x3).bind fun x4 => some x4 else (if p0.un.1 = 3 then ((DK nE fRec) p0.un.2.2.2.2).bind fun x5 => (KP x5 ([59, 32] : List UInt8)).bind fun x6 => some x6 else (if p0.un.1 = 4 then ((DK nE fRec) p0.un.2.2.2.2).bind fun x7 => (KP x7 ([32, 124, 32] : List UInt8)).bind fun x8 => some x8 else (if p0.un.1 = 5 then (Ka nE (Tr34.of (p0.un.2.1.un.1, p0.un.2.1.un.2.1, p0.un.2.1.un.2.2.1, p0.un.2.1.un.2.2.2))).bind fun x9 => (HH ([105, 102, 32] : List UInt8) x9).bind fun x10 => (HH x10 ([32, 116, 104, 101, 110, 32] : List UInt8)).bind fun x11 => ((DK nE fRec) p0.un.2.2.2.2).bind fun x12 => (KP x12 ([32, 101, 108, 115, 101, 32] : List UInt8)).bind fun x13 => (HH x11 x13).bind fun x14 => some x14 else some ([63] : List UInt8))))))
theorem LG (nE : Nat) {fRec fRec' : Tr37 → Option (List UInt8)} (hfRec : ∀ a0, Le (fRec a0) (fRec' a0)) (p0 : Tr37) : Le (GX nE fRec p0) (Dy fRec' p0) := by
  unfold GX Dy
  repeat' with_reducible (first | refine Le.orR' ?_ ?_ | refine Le.bind' ?_ ?_ | refine Le.ite' ?_ ?_ | refine Le.loop' ?_ | refine Le.altS' ?_ ?_ | exact hfRec | exact hfRec _ | apply LN | apply JW | apply JA | exact Le.rfl' _ | (refine Le.pi2 ?_; intro _) | intro _)
theorem Lr {fRec fRec' : Tr37 → Option (List UInt8)} (hfRec : ∀ a0, Le (fRec a0) (fRec' a0)) (p0 : Tr37) : Le (Dy fRec p0) (Dy fRec' p0) := by
  unfold Dy
  repeat' with_reducible (first | refine Le.orR' ?_ ?_ | refine Le.bind' ?_ ?_ | refine Le.ite' ?_ ?_ | refine Le.loopM ?_ | refine Le.altS' ?_ ?_ | exact hfRec | exact hfRec _ | apply Kh | exact Le.rfl' _ | (refine Le.pi2 ?_; intro _) | intro _)
def Ho (nE : Nat) : Nat → Tr37 → Option (List UInt8)
  | 0 => fun _ => none
  | n + 1 => GX nE (Ho nE n)
theorem I8 (nE : Nat) : ∀ (m : Nat) a0, Le (Ho nE m a0) (DT m a0)
  | 0, a0 => fun _ h => nomatch h
  | m + 1, a0 => LG nE (I8 nE m) a0
theorem IZ : ∀ (m : Nat) a0, Le (DT m a0) (DT (m + 1) a0)
  | 0, a0 => fun _ h => nomatch h
  | m + 1, a0 => Lr (IZ m) a0
def O1 (nE : Nat) (p0 : Tr37) : Option (List UInt8) := Ho nE nE p0
theorem Oo (nE : Nat) (p0 : Tr37) : Le (O1 nE p0) (Hh p0) := fun r e => Di (g := fun n => DT n p0) (fun n r h => IZ n p0 r h) (n := nE) (I8 nE nE p0 r e)
def BJ (nE : Nat) (fRec_pred_Same : Tr34 → Tr34 → Option Bool) (p0 : List Tr34) (p1 : List Tr34) : Int → Option (Int ⊕ (Unit ⊕ Bool))
  | x1 => (if x1 < (p0.length : Int) then (ix p0 x1).bind fun x2 => (ix p1 x1).bind fun x3 => (fRec_pred_Same x2 x3).bind fun x4 => (if (!x4) = true then some (.inr (.inr false)) else some (.inl (AO (x1 + 1)))) else some (.inr (.inl ())))
theorem Dk (nE : Nat) {fRec_pred_Same fRec_pred_Same' : Tr34 → Tr34 → Option Bool} (hfRec_pred_Same : ∀ a0 a1, Le (fRec_pred_Same a0 a1) (fRec_pred_Same' a0 a1)) (p0 : List Tr34) (p1 : List Tr34) : ∀ s, Le (BJ nE fRec_pred_Same p0 p1 s) (AB fRec_pred_Same' p0 p1 s) := by
  intro x1
  unfold BJ AB
  repeat' with_reducible (first | refine Le.orR' ?_ ?_ | refine Le.bind' ?_ ?_ | refine Le.ite' ?_ ?_ | refine Le.loop' ?_ | refine Le.altS' ?_ ?_ | exact hfRec_pred_Same | exact hfRec_pred_Same _ _ | exact Le.rfl' _ | (refine Le.pi2 ?_; intro _) | intro _)
theorem Df {fRec_pred_Same fRec_pred_Same' : Tr34 → Tr34 → Option Bool} (hfRec_pred_Same : ∀ a0 a1, Le (fRec_pred_Same a0 a1) (fRec_pred_Same' a0 a1)) (p0 : List Tr34) (p1 : List Tr34) : ∀ s, Le (AB fRec_pred_Same p0 p1 s) (AB fRec_pred_Same' p0 p1 s) := by
  intro x1
  unfold AB
  repeat' with_reducible (first | refine Le.orR' ?_ ?_ | refine Le.bind' ?_ ?_ | refine Le.ite' ?_ ?_ | refine Le.loopM ?_ | refine Le.altS' ?_ ?_ | exact hfRec_pred_Same | exact hfRec_pred_Same _ _ | exact Le.rfl' _ | (refine Le.pi2 ?_; intro _) | intro _)
def BT (nE : Nat) (fRec_pred_Same : Tr34 → Tr34 → Option Bool) (p0 : List Tr34) (p1 : List Tr34) : Option Bool := (if (p0.length : Int) ≠ (p1.length : Int) then some false else Kq (H3 nE (BJ nE fRec_pred_Same p0 p1) 0) fun _ => some true)
theorem Dp (nE : Nat) {fRec_pred_Same fRec_pred_Same' : Tr34 → Tr34 → Option Bool} (hfRec_pred_Same : ∀ a0 a1, Le (fRec_pred_Same a0 a1) (fRec_pred_Same' a0 a1)) (p0 : List Tr34) (p1 : List Tr34) : Le (BT nE fRec_pred_Same p0 p1) (Aw fRec_pred_Same' p0 p1) := by
  unfold BT Aw
  repeat' with_reducible (first | refine Le.orR' ?_ ?_ | refine Le.bind' ?_ ?_ | refine Le.ite' ?_ ?_ | refine Le.loop' ?_ | refine Le.altS' ?_ ?_ | exact hfRec_pred_Same | exact hfRec_pred_Same _ _ | apply Dk | exact Le.rfl' _ | (refine Le.pi2 ?_; intro _) | intro _)
theorem Do {fRec_pred_Same fRec_pred_Same' : Tr34 → Tr34 → Option Bool} (hfRec_pred_Same : ∀ a0 a1, Le (fRec_pred_Same a0 a1) (fRec_pred_Same' a0 a1)) (p0 : List Tr34) (p1 : List Tr34) : Le (Aw fRec_pred_Same p0 p1) (Aw fRec_pred_Same' p0 p1) := by
  unfold Aw
  repeat' with_reducible (first | refine Le.orR' ?_ ?_ | refine Le.bind' ?_ ?_ | refine Le.ite' ?_ ?_ | refine Le.loopM ?_ | refine Le.altS' ?_ ?_ | exact hfRec_pred_Same | exact hfRec_pred_Same _ _ | apply Df | exact Le.rfl' _ | (refine Le.pi2 ?_; intro _) | intro _)
def HG (nE : Nat) (fRec : Tr34 → Tr34 → Option Bool) (p0 : Tr34) (p1 : Tr34) : Option Bool := (if p0.un.1 = p1.un.1 then (if p0.un.2.1 = p1.un.2.1 then (if p0.un.2.2.1 = p1.un.2.2.1 then ((BT nE fRec) p0.un.2.2.2 p1.un.2.2.2).bind fun x2 => some x2 else some false) else some false) else some false).bind fun x1 => some x1
theorem Nd (nE : Nat) {fRec fRec' : Tr34 → Tr34 → Option Bool} (hfRec : ∀ a0 a1, Le (fRec a0 a1) (fRec' a0 a1)) (p0 : Tr34) (p1 : Tr34) : Le (HG nE fRec p0 p1) (Em fRec' p0 p1) := by
  unfold HG Em
  repeat' with_reducible (first | refine Le.orR' ?_ ?_ | refine Le.bind' ?_ ?_ | refine Le.ite' ?_ ?_ | refine Le.loop' ?_ | refine Le.altS' ?_ ?_ | exact hfRec | exact hfRec _ _ | apply Dp | exact Le.rfl' _ | (refine Le.pi2 ?_; intro _) | intro _)
theorem MR {fRec fRec' : Tr34 → Tr34 → Option Bool} (hfRec : ∀ a0 a1, Le (fRec a0 a1) (fRec' a0 a1)) (p0 : Tr34) (p1 : Tr34) : Le (Em fRec p0 p1) (Em fRec' p0 p1) := by
  unfold Em
  repeat' with_reducible (first | refine Le.orR' ?_ ?_ | refine Le.bind' ?_ ?_ | refine Le.ite' ?_ ?_ | refine Le.loopM ?_ | refine Le.altS' ?_ ?_ | exact hfRec | exact hfRec _ _ | apply Do | exact Le.rfl' _ | (refine Le.pi2 ?_; intro _) | intro _)
def Ih (nE : Nat) : Nat → Tr34 → Tr34 → Option Bool
  | 0 => fun _ _ => none
  | n + 1 => HG nE (Ih nE n)
theorem JF (nE : Nat) : ∀ (m : Nat) a0 a1, Le (Ih nE m a0 a1) (EV m a0 a1)
  | 0, a0, a1 => fun _ h => nomatch h
  | m + 1, a0, a1 => Nd nE (JF nE m) a0 a1
theorem JJ : ∀ (m : Nat) a0 a1, Le (EV m a0 a1) (EV (m + 1) a0 a1)
  | 0, a0, a1 => fun _ h => nomatch h
  | m + 1, a0, a1 => MR (JJ m) a0 a1
def ME (nE : Nat) (p0 : Tr34) (p1 : Tr34) : Option Bool := Ih nE nE p0 p1
theorem PA (nE : Nat) (p0 : Tr34) (p1 : Tr34) : Le (ME nE p0 p1) (Ms p0 p1) := fun r e => Di (g := fun n => EV n p0 p1) (fun n r h => JJ n p0 p1 r h) (n := nE) (JF nE nE p0 p1 r e)
def F7 (nE : Nat) (p0 : Tr34) : Option Bool := (ME nE p0 (Tr34.of (0, 0, 0, ([] : List Tr34)))).bind fun x1 => some x1
theorem Ma (nE : Nat) (p0 : Tr34) : Le (F7 nE p0) (Fp p0) := by
  unfold F7 Fp
  repeat' with_reducible (first | refine Le.orR' ?_ ?_ | refine Le.bind' ?_ ?_ | refine Le.ite' ?_ ?_ | refine Le.loop' ?_ | refine Le.altS' ?_ ?_ | apply PA | exact Le.rfl' _ | (refine Le.pi2 ?_; intro _) | intro _)
def Jh (nE : Nat) (p0 : Int) : Option Int := (if (decide (p0 = 4) || decide (p0 = 5)) = true then some 7 else (Ht nE p0).bind fun x1 => some x1)
theorem MF (nE : Nat) (p0 : Int) : Le (Jh nE p0) (I4 p0) := by
  unfold Jh I4
  repeat' with_reducible (first | refine Le.orR' ?_ ?_ | refine Le.bind' ?_ ?_ | refine Le.ite' ?_ ?_ | refine Le.loop' ?_ | refine Le.altS' ?_ ?_ | apply KL | exact Le.rfl' _ | (refine Le.pi2 ?_; intro _) | intro _)
def Is (nE : Nat) (p0 : Tr37) : Option Bool := (if p0.un.1 = 2 then ((F7 nE (Tr34.of (p0.un.2.1.un.1, p0.un.2.1.un.2.1, p0.un.2.1.un.2.2.1, p0.un.2.1.un.2.2.2))).bind fun x2 => (if x2 = true then (if (p0.un.2.2.2.2.length : Int) = 0 then (if 0 ≤ p0.un.2.2.1 then (if p0.un.2.2.1 ≤ 4 then (if 0 ≤ p0.un.2.2.2.1 then (Jh nE p0.un.2.2.1).bind fun x3 => some (decide (p0.un.2.2.2.1 ≤ x3)) else some false) else some false) else some false) else some false) else some false)).bind fun x1 => some x1 else (if (decide (p0.un.2.2.1 ≠ 0) || decide (p0.un.2.2.2.1 ≠ 0)) = true then some false else (if p0.un.1 = 1 then some (decide ((p0.un.2.2.2.2.length : Int) = 0)) else (if p0.un.1 = 3 then some true else some (decide (p0.un.1 = 4))).bind fun x4 => (if x4 = true then ((F7 nE (Tr34.of (p0.un.2.1.un.1, p0.un.2.1.un.2.1, p0.un.2.1.un.2.2.1, p0.un.2.1.un.2.2.2))).bind fun x6 => (if x6 = true then (if 2 ≤ (p0.un.2.2.2.2.length : Int) then some (decide ((p0.un.2.2.2.2.length : Int) ≤ 8)) else some false) else some false)).bind fun x5 => some x5 else (if p0.un.1 = 5 then some (decide ((p0.un.2.2.2.2.length : Int) = 2)) else some false)))))
theorem NY (nE : Nat) (p0 : Tr37) : Le (Is nE p0) (Hj p0) := by
  unfold Is Hj
  repeat' with_reducible (first | refine Le.orR' ?_ ?_ | refine Le.bind' ?_ ?_ | refine Le.ite' ?_ ?_ | refine Le.loop' ?_ | refine Le.altS' ?_ ?_ | apply Ma | apply MF | exact Le.rfl' _ | (refine Le.pi2 ?_; intro _) | intro _)
def JE (nE : Nat) (p0 : Tr34) : Option Bool := (if p0.un.1 = 3 then (if (C2 p0.un.2.1) = true then (if 0 ≤ p0.un.2.2.1 then (Jh nE p0.un.2.1).bind fun x2 => (if p0.un.2.2.1 ≤ x2 then some (decide ((p0.un.2.2.2.length : Int) = 0)) else some false) else some false) else some false).bind fun x1 => some x1 else (if (decide (p0.un.2.1 ≠ 0) || decide (p0.un.2.2.1 ≠ 0)) = true then some false else (if p0.un.1 = 1 then some true else some (decide (p0.un.1 = 2))).bind fun x3 => (if x3 = true then some (decide ((p0.un.2.2.2.length : Int) = 0)) else (if p0.un.1 = 4 then some (decide ((p0.un.2.2.2.length : Int) = 1)) else (if p0.un.1 = 5 then some true else some (decide (p0.un.1 = 6))).bind fun x4 => (if x4 = true then some (decide (2 ≤ (p0.un.2.2.2.length : Int)) && decide ((p0.un.2.2.2.length : Int) ≤ 8)) else some false)))))
theorem PV (nE : Nat) (p0 : Tr34) : Le (JE nE p0) (I5 p0) := by
  unfold JE I5
  repeat' with_reducible (first | refine Le.orR' ?_ ?_ | refine Le.bind' ?_ ?_ | refine Le.ite' ?_ ?_ | refine Le.loop' ?_ | refine Le.altS' ?_ ?_ | apply MF | exact Le.rfl' _ | (refine Le.pi2 ?_; intro _) | intro _)
def EL (nE : Nat) (fRec : Int → Tr34 → Int → Option (Bool × Int)) (p1 : Tr34) (p2 : Int) : (Int × Int) → Option ((Int × Int) ⊕ (Int ⊕ (Bool × Int)))
  | (x4, x5) => (if x4 < (p1.un.2.2.2.length : Int) then (ix p1.un.2.2.2 x4).bind fun x6 => (fRec x5 x6 (AO (p2 - 1))).bind fun x7 => (if (!x7.1) = true then some (.inr (.inr (false, x7.2))) else some (.inl (AO (x4 + 1), x7.2))) else some (.inr (.inl x5)))
theorem Il (nE : Nat) {fRec fRec' : Int → Tr34 → Int → Option (Bool × Int)} (hfRec : ∀ a0 a1 a2, Le (fRec a0 a1 a2) (fRec' a0 a1 a2)) (p1 : Tr34) (p2 : Int) : ∀ s, Le (EL nE fRec p1 p2 s) (Ch fRec' p1 p2 s) := by
  rintro ⟨x4, x5⟩
  unfold EL Ch
  repeat' with_reducible (first | refine Le.orR' ?_ ?_ | refine Le.bind' ?_ ?_ | refine Le.ite' ?_ ?_ | refine Le.loop' ?_ | refine Le.altS' ?_ ?_ | exact hfRec | exact hfRec _ _ _ | exact Le.rfl' _ | (refine Le.pi2 ?_; intro _) | intro _)
theorem Ir {fRec fRec' : Int → Tr34 → Int → Option (Bool × Int)} (hfRec : ∀ a0 a1 a2, Le (fRec a0 a1 a2) (fRec' a0 a1 a2)) (p1 : Tr34) (p2 : Int) : ∀ s, Le (Ch fRec p1 p2 s) (Ch fRec' p1 p2 s) := by
  rintro ⟨x4, x5⟩
  show Le (Ch fRec p1 p2 (x4, x5)) (Ch fRec' p1 p2 (x4, x5))
  unfold Ch
  repeat' with_reducible (first | refine Le.orR' ?_ ?_ | refine Le.bind' ?_ ?_ | refine Le.ite' ?_ ?_ | refine Le.loopM ?_ | refine Le.altS' ?_ ?_ | exact hfRec | exact hfRec _ _ _ | exact Le.rfl' _ | (refine Le.pi2 ?_; intro _) | intro _)
def EJ (nE : Nat) (fRec : Int → Tr34 → Int → Option (Bool × Int)) (p0 : Int) (p1 : Tr34) (p2 : Int) : Option (Bool × Int) := (if (AO (p0 - 1)) < 0 then some true else (if p2 < 1 then some true else (JE nE p1).bind fun x2 => some (!x2))).bind fun x1 => (if x1 = true then some (false, AO (p0 - 1)) else Kq (H3 nE (EL nE fRec p1 p2) (0, AO (p0 - 1))) fun x3 => some (true, x3))
theorem Ii (nE : Nat) {fRec fRec' : Int → Tr34 → Int → Option (Bool × Int)} (hfRec : ∀ a0 a1 a2, Le (fRec a0 a1 a2) (fRec' a0 a1 a2)) (p0 : Int) (p1 : Tr34) (p2 : Int) : Le (EJ nE fRec p0 p1 p2) (Cy fRec' p0 p1 p2) := by
  unfold EJ Cy
  repeat' with_reducible (first | refine Le.orR' ?_ ?_ | refine Le.bind' ?_ ?_ | refine Le.ite' ?_ ?_ | refine Le.loop' ?_ | refine Le.altS' ?_ ?_ | exact hfRec | exact hfRec _ _ _ | apply PV | apply Il | exact Le.rfl' _ | (refine Le.pi2 ?_; intro _) | intro _)
theorem Ik {fRec fRec' : Int → Tr34 → Int → Option (Bool × Int)} (hfRec : ∀ a0 a1 a2, Le (fRec a0 a1 a2) (fRec' a0 a1 a2)) (p0 : Int) (p1 : Tr34) (p2 : Int) : Le (Cy fRec p0 p1 p2) (Cy fRec' p0 p1 p2) := by
  unfold Cy
  repeat' with_reducible (first | refine Le.orR' ?_ ?_ | refine Le.bind' ?_ ?_ | refine Le.ite' ?_ ?_ | refine Le.loopM ?_ | refine Le.altS' ?_ ?_ | exact hfRec | exact hfRec _ _ _ | apply Ir | exact Le.rfl' _ | (refine Le.pi2 ?_; intro _) | intro _)
def Fa (nE : Nat) : Nat → Int → Tr34 → Int → Option (Bool × Int)
  | 0 => fun _ _ _ => none
  | n + 1 => EJ nE (Fa nE n)
theorem Gs (nE : Nat) : ∀ (m : Nat) a0 a1 a2, Le (Fa nE m a0 a1 a2) (CM m a0 a1 a2)
  | 0, a0, a1, a2 => fun _ h => nomatch h
  | m + 1, a0, a1, a2 => Ii nE (Gs nE m) a0 a1 a2
theorem Gm : ∀ (m : Nat) a0 a1 a2, Le (CM m a0 a1 a2) (CM (m + 1) a0 a1 a2)
  | 0, a0, a1, a2 => fun _ h => nomatch h
  | m + 1, a0, a1, a2 => Ik (Gm m) a0 a1 a2
def Hd (nE : Nat) (p0 : Int) (p1 : Tr34) (p2 : Int) : Option (Bool × Int) := Fa nE nE p0 p1 p2
theorem Jw (nE : Nat) (p0 : Int) (p1 : Tr34) (p2 : Int) : Le (Hd nE p0 p1 p2) (Gf p0 p1 p2) := fun r e => Di (g := fun n => CM n p0 p1 p2) (fun n r h => Gm n p0 p1 p2 r h) (n := nE) (Gs nE nE p0 p1 p2 r e)
def Jd (nE : Nat) (p0 : Tr34) : Option Bool := (Hd nE 64 p0 8).bind fun x1 => some x1.1
theorem ON (nE : Nat) (p0 : Tr34) : Le (Jd nE p0) (HP p0) := by
  unfold Jd HP
  repeat' with_reducible (first | refine Le.orR' ?_ ?_ | refine Le.bind' ?_ ?_ | refine Le.ite' ?_ ?_ | refine Le.loop' ?_ | refine Le.altS' ?_ ?_ | apply Jw | exact Le.rfl' _ | (refine Le.pi2 ?_; intro _) | intro _)
def HF (nE : Nat) (fRec : Tr34 → Option Int) (p0 : Tr34) : (Int × Int) → Option ((Int × Int) ⊕ Int)
  | (x2, x3) => (if x3 < (p0.un.2.2.2.length : Int) then (ix p0.un.2.2.2 x3).bind fun x4 => (fRec x4).bind fun x5 => some (.inl (AO (x2 + x5), AO (x3 + 1))) else some (.inr x2))
theorem Na (nE : Nat) {fRec fRec' : Tr34 → Option Int} (hfRec : ∀ a0, Le (fRec a0) (fRec' a0)) (p0 : Tr34) : ∀ s, Le (HF nE fRec p0 s) (DN fRec' p0 s) := by
  rintro ⟨x2, x3⟩
  unfold HF DN
  repeat' with_reducible (first | refine Le.orR' ?_ ?_ | refine Le.bind' ?_ ?_ | refine Le.ite' ?_ ?_ | refine Le.loop' ?_ | refine Le.altS' ?_ ?_ | exact hfRec | exact hfRec _ | exact Le.rfl' _ | (refine Le.pi2 ?_; intro _) | intro _)
theorem MX {fRec fRec' : Tr34 → Option Int} (hfRec : ∀ a0, Le (fRec a0) (fRec' a0)) (p0 : Tr34) : ∀ s, Le (DN fRec p0 s) (DN fRec' p0 s) := by
  rintro ⟨x2, x3⟩
  show Le (DN fRec p0 (x2, x3)) (DN fRec' p0 (x2, x3))
  unfold DN
  repeat' with_reducible (first | refine Le.orR' ?_ ?_ | refine Le.bind' ?_ ?_ | refine Le.ite' ?_ ?_ | refine Le.loopM ?_ | refine Le.altS' ?_ ?_ | exact hfRec | exact hfRec _ | exact Le.rfl' _ | (refine Le.pi2 ?_; intro _) | intro _)
def HW (nE : Nat) (fRec : Tr34 → Option Int) (p0 : Tr34) : Option Int := (H3 nE (HF nE fRec p0) (1, 0)).bind fun x1 => some x1
theorem MS (nE : Nat) {fRec fRec' : Tr34 → Option Int} (hfRec : ∀ a0, Le (fRec a0) (fRec' a0)) (p0 : Tr34) : Le (HW nE fRec p0) (Ep fRec' p0) := by
  unfold HW Ep
  repeat' with_reducible (first | refine Le.orR' ?_ ?_ | refine Le.bind' ?_ ?_ | refine Le.ite' ?_ ?_ | refine Le.loop' ?_ | refine Le.altS' ?_ ?_ | exact hfRec | exact hfRec _ | apply Na | exact Le.rfl' _ | (refine Le.pi2 ?_; intro _) | intro _)
theorem M3 {fRec fRec' : Tr34 → Option Int} (hfRec : ∀ a0, Le (fRec a0) (fRec' a0)) (p0 : Tr34) : Le (Ep fRec p0) (Ep fRec' p0) := by
  unfold Ep
  repeat' with_reducible (first | refine Le.orR' ?_ ?_ | refine Le.bind' ?_ ?_ | refine Le.ite' ?_ ?_ | refine Le.loopM ?_ | refine Le.altS' ?_ ?_ | exact hfRec | exact hfRec _ | apply MX | exact Le.rfl' _ | (refine Le.pi2 ?_; intro _) | intro _)
def Ip (nE : Nat) : Nat → Tr34 → Option Int
  | 0 => fun _ => none
  | n + 1 => HW nE (Ip nE n)
theorem JR (nE : Nat) : ∀ (m : Nat) a0, Le (Ip nE m a0) (EX m a0)
  | 0, a0 => fun _ h => nomatch h
  | m + 1, a0 => MS nE (JR nE m) a0
theorem JM : ∀ (m : Nat) a0, Le (EX m a0) (EX (m + 1) a0)
  | 0, a0 => fun _ h => nomatch h
  | m + 1, a0 => M3 (JM m) a0
def MK (nE : Nat) (p0 : Tr34) : Option Int := Ip nE nE p0
theorem P1 (nE : Nat) (p0 : Tr34) : Le (MK nE p0) (Mv p0) := fun r e => Di (g := fun n => EX n p0) (fun n r h => JM n p0 r h) (n := nE) (JR nE nE p0 r e)
def Ej (nE : Nat) (fRec : Int → Tr37 → Int → Option (Bool × Int)) (p1 : Tr37) (p2 : Int) : (Int × Int) → Option ((Int × Int) ⊕ (Int ⊕ (Bool × Int)))
  | (x7, x8) => (if x7 < (p1.un.2.2.2.2.length : Int) then (ix p1.un.2.2.2.2 x7).bind fun x9 => (fRec x8 (Tr37.of (x9.un.1, Tr34.of (x9.un.2.1.un.1, x9.un.2.1.un.2.1, x9.un.2.1.un.2.2.1, x9.un.2.1.un.2.2.2), x9.un.2.2.1, x9.un.2.2.2.1, x9.un.2.2.2.2)) (AO (p2 - 1))).bind fun x10 => (if (!x10.1) = true then some (.inr (.inr (false, x10.2))) else some (.inl (AO (x7 + 1), x10.2))) else some (.inr (.inl x8)))
theorem HQ (nE : Nat) {fRec fRec' : Int → Tr37 → Int → Option (Bool × Int)} (hfRec : ∀ a0 a1 a2, Le (fRec a0 a1 a2) (fRec' a0 a1 a2)) (p1 : Tr37) (p2 : Int) : ∀ s, Le (Ej nE fRec p1 p2 s) (B0 fRec' p1 p2 s) := by
  rintro ⟨x7, x8⟩
  unfold Ej B0
  repeat' with_reducible (first | refine Le.orR' ?_ ?_ | refine Le.bind' ?_ ?_ | refine Le.ite' ?_ ?_ | refine Le.loop' ?_ | refine Le.altS' ?_ ?_ | exact hfRec | exact hfRec _ _ _ | exact Le.rfl' _ | (refine Le.pi2 ?_; intro _) | intro _)
theorem HO {fRec fRec' : Int → Tr37 → Int → Option (Bool × Int)} (hfRec : ∀ a0 a1 a2, Le (fRec a0 a1 a2) (fRec' a0 a1 a2)) (p1 : Tr37) (p2 : Int) : ∀ s, Le (B0 fRec p1 p2 s) (B0 fRec' p1 p2 s) := by
  rintro ⟨x7, x8⟩
  show Le (B0 fRec p1 p2 (x7, x8)) (B0 fRec' p1 p2 (x7, x8))
  unfold B0
  repeat' with_reducible (first | refine Le.orR' ?_ ?_ | refine Le.bind' ?_ ?_ | refine Le.ite' ?_ ?_ | refine Le.loopM ?_ | refine Le.altS' ?_ ?_ | exact hfRec | exact hfRec _ _ _ | exact Le.rfl' _ | (refine Le.pi2 ?_; intro _) | intro _)
def Ek (nE : Nat) (fRec : Int → Tr37 → Int → Option (Bool × Int)) (p0 : Int) (p1 : Tr37) (p2 : Int) : Option (Bool × Int) := (if p0 < 1 then some true else (if p2 < 1 then some true else (Is nE (Tr37.of (p1.un.1, Tr34.of (p1.un.2.1.un.1, p1.un.2.1.un.2.1, p1.un.2.1.un.2.2.1, p1.un.2.1.un.2.2.2), p1.un.2.2.1, p1.un.2.2.2.1, p1.un.2.2.2.2))).bind fun x2 => some (!x2))).bind fun x1 => (if x1 = true then some (false, p0) else Kq (if (decide (p1.un.1 = 1) || decide (p1.un.1 = 5)) = true then (Jd nE (Tr34.of (p1.un.2.1.un.1, p1.un.2.1.un.2.1, p1.un.2.1.un.2.2.1, p1.un.2.1.un.2.2.2))).bind fun x4 => (if (!x4) = true then some (.inr (false, AO (p0 - 1))) else (MK nE (Tr34.of (p1.un.2.1.un.1, p1.un.2.1.un.2.1, p1.un.2.1.un.2.2.1, p1.un.2.1.un.2.2.2))).bind fun x5 => some (.inl (AO ((AO (p0 - 1)) - x5)))) else some (.inl (AO (p0 - 1)))) fun x3 => Kq (H3 nE (Ej nE fRec p1 p2) (0, x3)) fun x6 => some (decide (0 ≤ x6), x6))
theorem Hz (nE : Nat) {fRec fRec' : Int → Tr37 → Int → Option (Bool × Int)} (hfRec : ∀ a0 a1 a2, Le (fRec a0 a1 a2) (fRec' a0 a1 a2)) (p0 : Int) (p1 : Tr37) (p2 : Int) : Le (Ek nE fRec p0 p1 p2) (Cj fRec' p0 p1 p2) := by
  unfold Ek Cj
  repeat' with_reducible (first | refine Le.orR' ?_ ?_ | refine Le.bind' ?_ ?_ | refine Le.ite' ?_ ?_ | refine Le.loop' ?_ | refine Le.altS' ?_ ?_ | exact hfRec | exact hfRec _ _ _ | apply NY | apply ON | apply P1 | apply HQ | exact Le.rfl' _ | (refine Le.pi2 ?_; intro _) | intro _)
theorem HR {fRec fRec' : Int → Tr37 → Int → Option (Bool × Int)} (hfRec : ∀ a0 a1 a2, Le (fRec a0 a1 a2) (fRec' a0 a1 a2)) (p0 : Int) (p1 : Tr37) (p2 : Int) : Le (Cj fRec p0 p1 p2) (Cj fRec' p0 p1 p2) := by
  unfold Cj
  repeat' with_reducible (first | refine Le.orR' ?_ ?_ | refine Le.bind' ?_ ?_ | refine Le.ite' ?_ ?_ | refine Le.loopM ?_ | refine Le.altS' ?_ ?_ | exact hfRec | exact hfRec _ _ _ | apply HO | exact Le.rfl' _ | (refine Le.pi2 ?_; intro _) | intro _)
def EB (nE : Nat) : Nat → Int → Tr37 → Int → Option (Bool × Int)
  | 0 => fun _ _ _ => none
  | n + 1 => Ek nE (EB nE n)
theorem FP (nE : Nat) : ∀ (m : Nat) a0 a1 a2, Le (EB nE m a0 a1 a2) (Cr m a0 a1 a2)
  | 0, a0, a1, a2 => fun _ h => nomatch h
  | m + 1, a0, a1, a2 => Hz nE (FP nE m) a0 a1 a2
theorem FO : ∀ (m : Nat) a0 a1 a2, Le (Cr m a0 a1 a2) (Cr (m + 1) a0 a1 a2)
  | 0, a0, a1, a2 => fun _ h => nomatch h
  | m + 1, a0, a1, a2 => HR (FO m) a0 a1 a2
def Gz (nE : Nat) (p0 : Int) (p1 : Tr37) (p2 : Int) : Option (Bool × Int) := EB nE nE p0 p1 p2
theorem I2 (nE : Nat) (p0 : Int) (p1 : Tr37) (p2 : Int) : Le (Gz nE p0 p1 p2) (FF p0 p1 p2) := fun r e => Di (g := fun n => Cr n p0 p1 p2) (fun n r h => FO n p0 p1 p2 r h) (n := nE) (FP nE nE p0 p1 p2 r e)
def GO (nE : Nat) (fRec : Tr37 → Option Int) (p0 : Tr37) : (Int × Int) → Option ((Int × Int) ⊕ Int)
  | (x2, x3) => (if x3 < (p0.un.2.2.2.2.length : Int) then (ix p0.un.2.2.2.2 x3).bind fun x4 => (fRec (Tr37.of (x4.un.1, Tr34.of (x4.un.2.1.un.1, x4.un.2.1.un.2.1, x4.un.2.1.un.2.2.1, x4.un.2.1.un.2.2.2), x4.un.2.2.1, x4.un.2.2.2.1, x4.un.2.2.2.2))).bind fun x5 => some (.inl (min (AO (x2 * x5)) 1000, AO (x3 + 1))) else some (.inr x2))
theorem LS (nE : Nat) {fRec fRec' : Tr37 → Option Int} (hfRec : ∀ a0, Le (fRec a0) (fRec' a0)) (p0 : Tr37) : ∀ s, Le (GO nE fRec p0 s) (Dj fRec' p0 s) := by
  rintro ⟨x2, x3⟩
  unfold GO Dj
  repeat' with_reducible (first | refine Le.orR' ?_ ?_ | refine Le.bind' ?_ ?_ | refine Le.ite' ?_ ?_ | refine Le.loop' ?_ | refine Le.altS' ?_ ?_ | exact hfRec | exact hfRec _ | exact Le.rfl' _ | (refine Le.pi2 ?_; intro _) | intro _)
theorem Ln {fRec fRec' : Tr37 → Option Int} (hfRec : ∀ a0, Le (fRec a0) (fRec' a0)) (p0 : Tr37) : ∀ s, Le (Dj fRec p0 s) (Dj fRec' p0 s) := by
  rintro ⟨x2, x3⟩
  show Le (Dj fRec p0 (x2, x3)) (Dj fRec' p0 (x2, x3))
  unfold Dj
  repeat' with_reducible (first | refine Le.orR' ?_ ?_ | refine Le.bind' ?_ ?_ | refine Le.ite' ?_ ?_ | refine Le.loopM ?_ | refine Le.altS' ?_ ?_ | exact hfRec | exact hfRec _ | exact Le.rfl' _ | (refine Le.pi2 ?_; intro _) | intro _)
def GM (nE : Nat) (fRec : Tr37 → Option Int) (p0 : Tr37) : (Int × Int) → Option ((Int × Int) ⊕ Int)
  | (x6, x7) => (if x7 < (p0.un.2.2.2.2.length : Int) then (ix p0.un.2.2.2.2 x7).bind fun x8 => (fRec (Tr37.of (x8.un.1, Tr34.of (x8.un.2.1.un.1, x8.un.2.1.un.2.1, x8.un.2.1.un.2.2.1, x8.un.2.1.un.2.2.2), x8.un.2.2.1, x8.un.2.2.2.1, x8.un.2.2.2.2))).bind fun x9 => some (.inl (min (AO (x6 + x9)) 1000, AO (x7 + 1))) else some (.inr x6))
theorem LO (nE : Nat) {fRec fRec' : Tr37 → Option Int} (hfRec : ∀ a0, Le (fRec a0) (fRec' a0)) (p0 : Tr37) : ∀ s, Le (GM nE fRec p0 s) (Dd fRec' p0 s) := by
  rintro ⟨x6, x7⟩
  unfold GM Dd
  repeat' with_reducible (first | refine Le.orR' ?_ ?_ | refine Le.bind' ?_ ?_ | refine Le.ite' ?_ ?_ | refine Le.loop' ?_ | refine Le.altS' ?_ ?_ | exact hfRec | exact hfRec _ | exact Le.rfl' _ | (refine Le.pi2 ?_; intro _) | intro _)
theorem Ls {fRec fRec' : Tr37 → Option Int} (hfRec : ∀ a0, Le (fRec a0) (fRec' a0)) (p0 : Tr37) : ∀ s, Le (Dd fRec p0 s) (Dd fRec' p0 s) := by
  rintro ⟨x6, x7⟩
  show Le (Dd fRec p0 (x6, x7)) (Dd fRec' p0 (x6, x7))
  unfold Dd
  repeat' with_reducible (first | refine Le.orR' ?_ ?_ | refine Le.bind' ?_ ?_ | refine Le.ite' ?_ ?_ | refine Le.loopM ?_ | refine Le.altS' ?_ ?_ | exact hfRec | exact hfRec _ | exact Le.rfl' _ | (refine Le.pi2 ?_; intro _) | intro _)
def GT (nE : Nat) (fRec : Tr37 → Option Int) (p0 : Tr37) : (Int × Int) → Option ((Int × Int) ⊕ Int)
  | (x10, x11) => (if x11 < (p0.un.2.2.2.2.length : Int) then (ix p0.un.2.2.2.2 x11).bind fun x12 => (fRec (Tr37.of (x12.un.1, Tr34.of (x12.un.2.1.un.1, x12.un.2.1.un.2.1, x12.un.2.1.un.2.2.1, x12.un.2.1.un.2.2.2), x12.un.2.2.1, x12.un.2.2.2.1, x12.un.2.2.2.2))).bind fun x13 => some (.inl (max x10 x13, AO (x11 + 1))) else some (.inr x10))
theorem Lg (nE : Nat) {fRec fRec' : Tr37 → Option Int} (hfRec : ∀ a0, Le (fRec a0) (fRec' a0)) (p0 : Tr37) : ∀ s, Le (GT nE fRec p0 s) (Dh fRec' p0 s) := by
  rintro ⟨x10, x11⟩
  unfold GT Dh
  repeat' with_reducible (first | refine Le.orR' ?_ ?_ | refine Le.bind' ?_ ?_ | refine Le.ite' ?_ ?_ | refine Le.loop' ?_ | refine Le.altS' ?_ ?_ | exact hfRec | exact hfRec _ | exact Le.rfl' _ | (refine Le.pi2 ?_; intro _) | intro _)
theorem LW {fRec fRec' : Tr37 → Option Int} (hfRec : ∀ a0, Le (fRec a0) (fRec' a0)) (p0 : Tr37) : ∀ s, Le (Dh fRec p0 s) (Dh fRec' p0 s) := by
  rintro ⟨x10, x11⟩
  show Le (Dh fRec p0 (x10, x11)) (Dh fRec' p0 (x10, x11))
  unfold Dh
  repeat' with_reducible (first | refine Le.orR' ?_ ?_ | refine Le.bind' ?_ ?_ | refine Le.ite' ?_ ?_ | refine Le.loopM ?_ | refine Le.altS' ?_ ?_ | exact hfRec | exact hfRec _ | exact Le.rfl' _ | (refine Le.pi2 ?_; intro _) | intro _)
def GY (nE : Nat) (fRec : Tr37 → Option Int) (p0 : Tr37) : Option Int := (if p0.un.1 = 3 then H3 nE (GO nE fRec p0) (1, 0) else (if p0.un.1 = 4 then H3 nE (GM nE fRec p0) (0, 0) else (if p0.un.1 = 5 then H3 nE (GT nE fRec p0) (0, 0) else some 1))).bind fun x1 => some x1
theorem Lh (nE : Nat) {fRec fRec' : Tr37 → Option Int} (hfRec : ∀ a0, Le (fRec a0) (fRec' a0)) (p0 : Tr37) : Le (GY nE fRec p0) (DA fRec' p0) := by
  unfold GY DA
  repeat' with_reducible (first | refine Le.orR' ?_ ?_ | refine Le.bind' ?_ ?_ | refine Le.ite' ?_ ?_ | refine Le.loop' ?_ | refine Le.altS' ?_ ?_ | exact hfRec | exact hfRec _ | apply LS | apply LO | apply Lg | exact Le.rfl' _ | (refine Le.pi2 ?_; intro _) | intro _)
theorem Ll {fRec fRec' : Tr37 → Option Int} (hfRec : ∀ a0, Le (fRec a0) (fRec' a0)) (p0 : Tr37) : Le (DA fRec p0) (DA fRec' p0) := by
  unfold DA
  repeat' with_reducible (first | refine Le.orR' ?_ ?_ | refine Le.bind' ?_ ?_ | refine Le.ite' ?_ ?_ | refine Le.loopM ?_ | refine Le.altS' ?_ ?_ | exact hfRec | exact hfRec _ | apply Ln | apply Ls | apply LW | exact Le.rfl' _ | (refine Le.pi2 ?_; intro _) | intro _)
def Hp (nE : Nat) : Nat → Tr37 → Option Int
  | 0 => fun _ => none
  | n + 1 => GY nE (Hp nE n)
theorem IM (nE : Nat) : ∀ (m : Nat) a0, Le (Hp nE m a0) (DU m a0)
  | 0, a0 => fun _ h => nomatch h
  | m + 1, a0 => Lh nE (IM nE m) a0
theorem IY : ∀ (m : Nat) a0, Le (DU m a0) (DU (m + 1) a0)
  | 0, a0 => fun _ h => nomatch h
  | m + 1, a0 => Ll (IY m) a0
def KI (nE : Nat) (p0 : Tr37) : Option Int := Hp nE nE p0
theorem JT (nE : Nat) (p0 : Tr37) : Le (KI nE p0) (Gn p0) := fun r e => Di (g := fun n => DU n p0) (fun n r h => IY n p0 r h) (n := nE) (IM nE nE p0 r e)
def J8 (nE : Nat) (p0 : Tr37) : Option Bool := ((Gz nE 64 (Tr37.of (p0.un.1, Tr34.of (p0.un.2.1.un.1, p0.un.2.1.un.2.1, p0.un.2.1.un.2.2.1, p0.un.2.1.un.2.2.2), p0.un.2.2.1, p0.un.2.2.2.1, p0.un.2.2.2.2)) 8).bind fun x3 => (if x3.1 = true then (KI nE (Tr37.of (p0.un.1, Tr34.of (p0.un.2.1.un.1, p0.un.2.1.un.2.1, p0.un.2.1.un.2.2.1, p0.un.2.1.un.2.2.2), p0.un.2.2.1, p0.un.2.2.2.1, p0.un.2.2.2.2))).bind fun x4 => some (decide (x4 ≤ 64), x3.2) else some (false, x3.2))).bind fun (x1, x2) => some x1
theorem M7 (nE : Nat) (p0 : Tr37) : Le (J8 nE p0) (E8 p0) := by
  unfold J8 E8
  repeat' with_reducible (first | refine Le.orR' ?_ ?_ | refine Le.bind' ?_ ?_ | refine Le.ite' ?_ ?_ | refine Le.loop' ?_ | refine Le.altS' ?_ ?_ | apply I2 | apply JT | exact Le.rfl' _ | (refine Le.pi2 ?_; intro _) | intro _)
theorem NF {fRec fRec' : Tr24 → Option Tr34} (hfRec : ∀ a0, Le (fRec a0) (fRec' a0)) (p0 : Tr24) : ∀ s, Le (Dx fRec p0 s) (Dx fRec' p0 s) := by
  rintro ⟨x2, x3⟩
  show Le (Dx fRec p0 (x2, x3)) (Dx fRec' p0 (x2, x3))
  unfold Dx
  repeat' with_reducible (first | refine Le.orR' ?_ ?_ | refine Le.bind' ?_ ?_ | refine Le.ite' ?_ ?_ | refine Le.loopM ?_ | refine Le.altS' ?_ ?_ | exact hfRec | exact hfRec _ | exact Le.rfl' _ | (refine Le.pi2 ?_; intro _) | intro _)
theorem Oy {fRec fRec' : Tr24 → Option Tr34} (hfRec : ∀ a0, Le (fRec a0) (fRec' a0)) (p0 : Tr24) : Le (EP fRec p0) (EP fRec' p0) := by
  unfold EP
  repeat' with_reducible (first | refine Le.orR' ?_ ?_ | refine Le.bind' ?_ ?_ | refine Le.ite' ?_ ?_ | refine Le.loopM ?_ | refine Le.altS' ?_ ?_ | exact hfRec | exact hfRec _ | apply NF | exact Le.rfl' _ | (refine Le.pi2 ?_; intro _) | intro _)
theorem KC : ∀ (m : Nat) a0, Le (D9 m a0) (D9 (m + 1) a0)
  | 0, a0 => fun _ h => nomatch h
  | m + 1, a0 => Oy (KC m) a0
theorem OE {fRec fRec' : Tr27 → Option Tr37} (hfRec : ∀ a0, Le (fRec a0) (fRec' a0)) (p0 : Tr27) : ∀ s, Le (DV fRec p0 s) (DV fRec' p0 s) := by
  rintro ⟨x3, x4⟩
  show Le (DV fRec p0 (x3, x4)) (DV fRec' p0 (x3, x4))
  unfold DV
  repeat' with_reducible (first | refine Le.orR' ?_ ?_ | refine Le.bind' ?_ ?_ | refine Le.ite' ?_ ?_ | refine Le.loopM ?_ | refine Le.altS' ?_ ?_ | exact hfRec | exact hfRec _ | exact Le.rfl' _ | (refine Le.pi2 ?_; intro _) | intro _)
theorem Oj {fRec fRec' : Tr27 → Option Tr37} (hfRec : ∀ a0, Le (fRec a0) (fRec' a0)) (p0 : Tr27) : Le (E0 fRec p0) (E0 fRec' p0) := by
  unfold E0
  repeat' with_reducible (first | refine Le.orR' ?_ ?_ | refine Le.bind' ?_ ?_ | refine Le.ite' ?_ ?_ | refine Le.loopM ?_ | refine Le.altS' ?_ ?_ | exact hfRec | exact hfRec _ | apply OE | exact Le.rfl' _ | (refine Le.pi2 ?_; intro _) | intro _)
theorem KM : ∀ (m : Nat) a0, Le (EA m a0) (EA (m + 1) a0)
  | 0, a0 => fun _ h => nomatch h
  | m + 1, a0 => Oj (KM m) a0
theorem Md {fRec fRec' : Tr34 → Option Tr24} (hfRec : ∀ a0, Le (fRec a0) (fRec' a0)) (p0 : Tr34) : ∀ s, Le (C8 fRec p0 s) (C8 fRec' p0 s) := by
  rintro ⟨x2, x3⟩
  show Le (C8 fRec p0 (x2, x3)) (C8 fRec' p0 (x2, x3))
  unfold C8
  repeat' with_reducible (first | refine Le.orR' ?_ ?_ | refine Le.bind' ?_ ?_ | refine Le.ite' ?_ ?_ | refine Le.loopM ?_ | refine Le.altS' ?_ ?_ | exact hfRec | exact hfRec _ | exact Le.rfl' _ | (refine Le.pi2 ?_; intro _) | intro _)
theorem Mf {fRec fRec' : Tr34 → Option Tr24} (hfRec : ∀ a0, Le (fRec a0) (fRec' a0)) (p0 : Tr34) : Le (DW fRec p0) (DW fRec' p0) := by
  unfold DW
  repeat' with_reducible (first | refine Le.orR' ?_ ?_ | refine Le.bind' ?_ ?_ | refine Le.ite' ?_ ?_ | refine Le.loopM ?_ | refine Le.altS' ?_ ?_ | exact hfRec | exact hfRec _ | apply Md | exact Le.rfl' _ | (refine Le.pi2 ?_; intro _) | intro _)
theorem Jt : ∀ (m : Nat) a0, Le (De m a0) (De (m + 1) a0)
  | 0, a0 => fun _ h => nomatch h
  | m + 1, a0 => Mf (Jt m) a0
theorem Mr {fRec fRec' : Tr37 → Option Tr27} (hfRec : ∀ a0, Le (fRec a0) (fRec' a0)) (p0 : Tr37) : ∀ s, Le (Dc fRec p0 s) (Dc fRec' p0 s) := by
  rintro ⟨x3, x4⟩
  show Le (Dc fRec p0 (x3, x4)) (Dc fRec' p0 (x3, x4))
  unfold Dc
  repeat' with_reducible (first | refine Le.orR' ?_ ?_ | refine Le.bind' ?_ ?_ | refine Le.ite' ?_ ?_ | refine Le.loopM ?_ | refine Le.altS' ?_ ?_ | exact hfRec | exact hfRec _ | exact Le.rfl' _ | (refine Le.pi2 ?_; intro _) | intro _)
theorem Mn {fRec fRec' : Tr37 → Option Tr27} (hfRec : ∀ a0, Le (fRec a0) (fRec' a0)) (p0 : Tr37) : Le (DX fRec p0) (DX fRec' p0) := by
  unfold DX
  repeat' with_reducible (first | refine Le.orR' ?_ ?_ | refine Le.bind' ?_ ?_ | refine Le.ite' ?_ ?_ | refine Le.loopM ?_ | refine Le.altS' ?_ ?_ | exact hfRec | exact hfRec _ | apply Mr | exact Le.rfl' _ | (refine Le.pi2 ?_; intro _) | intro _)
theorem Jr : ∀ (m : Nat) a0, Le (Dr m a0) (Dr (m + 1) a0)
  | 0, a0 => fun _ h => nomatch h
  | m + 1, a0 => Mn (Jr m) a0
end Go.Proofs.YtpckgggmgijiiaaGreatDoor
