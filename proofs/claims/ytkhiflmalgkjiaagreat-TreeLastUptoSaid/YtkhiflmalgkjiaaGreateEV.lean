/- Twins with fuel of Qd functions: what a twin answers, the function answers. Conditions: none. -/
import Derived.Test.YtkhiflmalgkjiaaGreateLP
import Derived.Test.YtkhiflmalgkjiaaGreateN31C
set_option linter.unusedVariables false
set_option linter.unusedSimpArgs false
open Go Go.RowKit
namespace Go.Proofs.YtkhiflmalgkjiaaGreat
set_option maxRecDepth 20000
set_option maxHeartbeats 1600000
abbrev Le {α : Type} (a b : Option α) : Prop := ∀ r,a = some r → b = some r
theorem Le.rfl' {α : Type} (a : Option α) : Le a a := fun _ h => h
theorem Le.bind' {α β : Type} {a b : Option α} {f g : α → Option β} (h : Le a b) (hf : ∀ x,Le (f x) (g x)) : Le (a.bind f) (b.bind g) := fun r e => by
  obtain ⟨x,h1,h2⟩ := Bz e
  rw [h x h1,Option.bind_some]; exact hf x r h2
theorem Le.ite' {α : Type} {c : Prop} [Decidable c] {a a' b b' : Option α} (h1 : Le a a') (h2 : Le b b') : Le (if c then a else b) (if c then a' else b') := fun r e => by
  by_cases h : c
  · rw [if_pos h] at e ⊢; exact h1 r e
  · rw [if_neg h] at e ⊢; exact h2 r e
theorem Le.orR' {α β : Type} {a b : Option (α ⊕ β)} {f g : α → Option β} (h : Le a b) (hf : ∀ x,Le (f x) (g x)) : Le (GO a f) (GO b g) :=
  Le.bind' h fun x => by
    cases x with
    | inl t => exact hf t
    | inr e => exact Le.rfl' _
def Gm {σ ε : Type} (n : Nat) (step : σ → Option (σ ⊕ ε)) (s : σ) : Option ε := IU step n s
theorem Ot {σ ε : Type} {S T : σ → Option (σ ⊕ ε)} (h : ∀ s,Le (S s) (T s)) : ∀ (n : Nat) (s : σ),Le (IU S n s) (IU T n s)
  | 0,s => Le.rfl' _
  | n + 1,s => fun r e => by
    unfold IU at e ⊢
    cases hs : S s with
    | none => rw [hs] at e; cases e
    | some q =>
      rw [hs] at e; rw [h s q hs]
      cases q with
      | inl s' => exact Ot h n s' r e
      | inr _ => exact e
theorem Le.loop' {σ ε : Type} {n : Nat} {S T : σ → Option (σ ⊕ ε)} {s : σ} (h : ∀ s,Le (S s) (T s)) : Le (Gm n S s) (Ah T s) := fun r e => GE.2 ⟨n,Ot h n s r e⟩
theorem Le.pi2 {α β γ : Type} {f g : α × β → Option γ} (h : ∀ a b,Le (f (a,b)) (g (a,b))) : ∀ x,Le (f x) (g x) := fun x => h x.1 x.2
theorem B4 {β : Type} {g : Nat → Option β} (hm : ∀ n r,g n = some r → g (n + 1) = some r) {n : Nat} {r : β} (h : g n = some r) : Hc g = some r := by
  have up : ∀ (d m : Nat) (q : β),g m = some q → g (m + d) = some q := fun d => by
    induction d with
    | zero => exact fun m q h => h
    | succ d ih => exact fun m q h => hm _ _ (ih m q h)
  refine Ys n h fun m q hq => ?_
  have h1 := up m n r h
  have h2 := up n m q hq
  rw [Nat.add_comm] at h2
  exact Option.some.inj (h2.symm.trans h1)
theorem Le.loopM {σ ε : Type} {S T : σ → Option (σ ⊕ ε)} {s : σ} (h : ∀ s,Le (S s) (T s)) : Le (Ah S s) (Ah T s) := fun r e => by
  obtain ⟨n,hn⟩ := GE.1 e
  exact GE.2 ⟨n,Ot h n s r hn⟩
theorem Le.sall' {κ : Type} {lt : κ → κ → Bool} {f g : κ → Option (List κ)} (h : ∀ x,Le (f x) (g x)) : ∀ (l a : List κ),Le (JU lt f l a) (JU lt g l a)
  | [],a => Le.rfl' _
  | x :: l,a => by
    show Le ((f x).bind _) ((g x).bind _)
    exact Le.bind' (h x) fun r => Le.sall' h l _
theorem Rt {fRec fRec' : Tr24 → Option Bool} (hfRec : ∀ a0,Le (fRec a0) (fRec' a0)) (p0 : Tr24) : ∀ s,Le (ES fRec p0 s) (ES fRec' p0 s) := by
  intro x1
  unfold ES
  repeat' with_reducible (first | apply Le.bind' | apply Le.ite' | exact hfRec | exact hfRec _ | exact Le.rfl' _ | intro _)
theorem RQ {fRec fRec' : Tr24 → Option Bool} (hfRec : ∀ a0,Le (fRec a0) (fRec' a0)) (p0 : Tr24) : Le (EW fRec p0) (EW fRec' p0) := by
  unfold EW
  repeat' with_reducible (first | apply Le.orR' | apply Le.ite' | apply Le.loopM | exact hfRec | exact hfRec _ | apply Rt | exact Le.rfl' _ | intro _)
theorem NN : ∀ (m : Nat) a0,Le (Fd m a0) (Fd (m + 1) a0)
  | 0,a0 => fun _ h => nomatch h
  | m + 1,a0 => RQ (NN m) a0
theorem Ta {fRec fRec' : Tr24 → Option Int} (hfRec : ∀ a0,Le (fRec a0) (fRec' a0)) (p0 : Tr24) : ∀ s,Le (DD fRec p0 s) (DD fRec' p0 s) := by
  rintro ⟨x2,x3⟩
  show Le (DD fRec p0 (x2,x3)) (DD fRec' p0 (x2,x3))
  unfold DD
  repeat' with_reducible (first | apply Le.bind' | apply Le.ite' | exact hfRec | exact hfRec _ | exact Le.rfl' _ | intro _)
theorem Th {fRec fRec' : Tr24 → Option Int} (hfRec : ∀ a0,Le (fRec a0) (fRec' a0)) (p0 : Tr24) : Le (ET fRec p0) (ET fRec' p0) := by
  unfold ET
  repeat' with_reducible (first | apply Le.bind' | apply Le.loopM | exact hfRec | exact hfRec _ | apply Ta | exact Le.rfl' _ | intro _)
theorem NY : ∀ (m : Nat) a0,Le (Fh m a0) (Fh (m + 1) a0)
  | 0,a0 => fun _ h => nomatch h
  | m + 1,a0 => Th (NY m) a0
theorem RU {fRec fRec' : Tr24 → Option Int} (hfRec : ∀ a0,Le (fRec a0) (fRec' a0)) (p0 : Tr24) : ∀ s,Le (DH fRec p0 s) (DH fRec' p0 s) := by
  rintro ⟨x2,x3⟩
  show Le (DH fRec p0 (x2,x3)) (DH fRec' p0 (x2,x3))
  unfold DH
  repeat' with_reducible (first | apply Le.bind' | apply Le.ite' | exact hfRec | exact hfRec _ | exact Le.rfl' _ | intro _)
theorem RR {fRec fRec' : Tr24 → Option Int} (hfRec : ∀ a0,Le (fRec a0) (fRec' a0)) (p0 : Tr24) : Le (ER fRec p0) (ER fRec' p0) := by
  unfold ER
  repeat' with_reducible (first | apply Le.bind' | apply Le.loopM | exact hfRec | exact hfRec _ | apply RU | exact Le.rfl' _ | intro _)
theorem NP : ∀ (m : Nat) a0,Le (Fg m a0) (Fg (m + 1) a0)
  | 0,a0 => fun _ h => nomatch h
  | m + 1,a0 => RR (NP m) a0
theorem Su {fRec fRec' : Tr24 → Tr24 → Option Bool} (hfRec : ∀ a0 a1,Le (fRec a0 a1) (fRec' a0 a1)) (p0 : Tr24) (p1 : Tr24) : ∀ s,Le (EU fRec p0 p1 s) (EU fRec' p0 p1 s) := by
  intro x1
  unfold EU
  repeat' with_reducible (first | apply Le.bind' | apply Le.ite' | exact hfRec | exact hfRec _ _ | exact Le.rfl' _ | intro _)
theorem Tj {fRec fRec' : Tr24 → Tr24 → Option Bool} (hfRec : ∀ a0 a1,Le (fRec a0 a1) (fRec' a0 a1)) (p0 : Tr24) (p1 : Tr24) : Le (EV fRec p0 p1) (EV fRec' p0 p1) := by
  unfold EV
  repeat' with_reducible (first | apply Le.orR' | apply Le.ite' | apply Le.loopM | exact hfRec | exact hfRec _ _ | apply Su | exact Le.rfl' _ | intro _)
theorem NK : ∀ (m : Nat) a0 a1,Le (FT m a0 a1) (FT (m + 1) a0 a1)
  | 0,a0,a1 => fun _ h => nomatch h
  | m + 1,a0,a1 => Tj (NK m) a0 a1
theorem SQ {fRec fRec' : Tr27 → Option Bool} (hfRec : ∀ a0,Le (fRec a0) (fRec' a0)) (p0 : Tr27) : ∀ s,Le (FI fRec p0 s) (FI fRec' p0 s) := by
  intro x4
  unfold FI
  repeat' with_reducible (first | apply Le.bind' | apply Le.ite' | exact hfRec | exact hfRec _ | exact Le.rfl' _ | intro _)
theorem RP {fRec fRec' : Tr27 → Option Bool} (hfRec : ∀ a0,Le (fRec a0) (fRec' a0)) (p0 : Tr27) : Le (FL fRec p0) (FL fRec' p0) := by
  unfold FL
  repeat' with_reducible (first | apply Le.orR' | apply Le.bind' | apply Le.ite' | apply Le.loopM | exact hfRec | exact hfRec _ | apply SQ | exact Le.rfl' _ | intro _)
theorem NS : ∀ (m : Nat) a0,Le (EA m a0) (EA (m + 1) a0)
  | 0,a0 => fun _ h => nomatch h
  | m + 1,a0 => RP (NS m) a0
theorem Rs {fRec fRec' : Tr27 → Option Int} (hfRec : ∀ a0,Le (fRec a0) (fRec' a0)) (p0 : Tr27) : ∀ s,Le (Ep fRec p0 s) (Ep fRec' p0 s) := by
  rintro ⟨x2,x3⟩
  show Le (Ep fRec p0 (x2,x3)) (Ep fRec' p0 (x2,x3))
  unfold Ep
  repeat' with_reducible (first | apply Le.bind' | apply Le.ite' | exact hfRec | exact hfRec _ | exact Le.rfl' _ | intro _)
theorem RW {fRec fRec' : Tr27 → Option Int} (hfRec : ∀ a0,Le (fRec a0) (fRec' a0)) (p0 : Tr27) : Le (Gr fRec p0) (Gr fRec' p0) := by
  unfold Gr
  repeat' with_reducible (first | apply Le.bind' | apply Le.loopM | exact hfRec | exact hfRec _ | apply Rs | exact Le.rfl' _ | intro _)
theorem NT : ∀ (m : Nat) a0,Le (E5 m a0) (E5 (m + 1) a0)
  | 0,a0 => fun _ h => nomatch h
  | m + 1,a0 => RW (NT m) a0
theorem Rr {fRec fRec' : Tr27 → Option Int} (hfRec : ∀ a0,Le (fRec a0) (fRec' a0)) (p0 : Tr27) : ∀ s,Le (Ev fRec p0 s) (Ev fRec' p0 s) := by
  rintro ⟨x4,x5⟩
  show Le (Ev fRec p0 (x4,x5)) (Ev fRec' p0 (x4,x5))
  unfold Ev
  repeat' with_reducible (first | apply Le.bind' | apply Le.ite' | exact hfRec | exact hfRec _ | exact Le.rfl' _ | intro _)
theorem SP {fRec fRec' : Tr27 → Option Int} (hfRec : ∀ a0,Le (fRec a0) (fRec' a0)) (p0 : Tr27) : Le (GB fRec p0) (GB fRec' p0) := by
  unfold GB
  repeat' with_reducible (first | apply Le.bind' | apply Le.ite' | apply Le.loopM | exact hfRec | exact hfRec _ | apply Rr | exact Le.rfl' _ | intro _)
theorem NM : ∀ (m : Nat) a0,Le (E8 m a0) (E8 (m + 1) a0)
  | 0,a0 => fun _ h => nomatch h
  | m + 1,a0 => SP (NM m) a0
theorem SS {fRec fRec' : Tr27 → Option Int} (hfRec : ∀ a0,Le (fRec a0) (fRec' a0)) (p0 : Tr27) : ∀ s,Le (Eu fRec p0 s) (Eu fRec' p0 s) := by
  rintro ⟨x3,x4⟩
  show Le (Eu fRec p0 (x3,x4)) (Eu fRec' p0 (x3,x4))
  unfold Eu
  repeat' with_reducible (first | apply Le.bind' | apply Le.ite' | exact hfRec | exact hfRec _ | exact Le.rfl' _ | intro _)
theorem R4 {fRec fRec' : Tr27 → Option Int} (hfRec : ∀ a0,Le (fRec a0) (fRec' a0)) (p0 : Tr27) : Le (Gv fRec p0) (Gv fRec' p0) := by
  unfold Gv
  repeat' with_reducible (first | apply Le.bind' | apply Le.ite' | apply Le.loopM | exact hfRec | exact hfRec _ | apply SS | exact Le.rfl' _ | intro _)
theorem N9 : ∀ (m : Nat) a0,Le (EH m a0) (EH (m + 1) a0)
  | 0,a0 => fun _ h => nomatch h
  | m + 1,a0 => R4 (N9 m) a0
theorem Rw {fRec fRec' : Tr24 → Int → Int → Option Bool} (hfRec : ∀ a0 a1 a2,Le (fRec a0 a1 a2) (fRec' a0 a1 a2)) (p0 : Tr24) (p1 : Int) (p2 : Int) : ∀ s,Le (EX fRec p0 p1 p2 s) (EX fRec' p0 p1 p2 s) := by
  intro x1
  unfold EX
  repeat' with_reducible (first | apply Le.bind' | apply Le.ite' | exact hfRec | exact hfRec _ _ _ | exact Le.rfl' _ | intro _)
theorem Si {fRec fRec' : Tr24 → Int → Int → Option Bool} (hfRec : ∀ a0 a1 a2,Le (fRec a0 a1 a2) (fRec' a0 a1 a2)) (p0 : Tr24) (p1 : Int) (p2 : Int) : Le (EY fRec p0 p1 p2) (EY fRec' p0 p1 p2) := by
  unfold EY
  repeat' with_reducible (first | apply Le.orR' | apply Le.ite' | apply Le.loopM | exact hfRec | exact hfRec _ _ _ | apply Rw | exact Le.rfl' _ | intro _)
theorem NI : ∀ (m : Nat) a0 a1 a2,Le (FX m a0 a1 a2) (FX (m + 1) a0 a1 a2)
  | 0,a0,a1,a2 => fun _ h => nomatch h
  | m + 1,a0,a1,a2 => Si (NI m) a0 a1 a2
theorem Tz {fRec fRec' : Tr27 → Int → Int → Option Bool} (hfRec : ∀ a0 a1 a2,Le (fRec a0 a1 a2) (fRec' a0 a1 a2)) (p0 : Tr27) (p1 : Int) (p2 : Int) : ∀ s,Le (Hp fRec p0 p1 p2 s) (Hp fRec' p0 p1 p2 s) := by
  intro x5
  unfold Hp
  repeat' with_reducible (first | apply Le.bind' | apply Le.ite' | exact hfRec | exact hfRec _ _ _ | exact Le.rfl' _ | intro _)
theorem Tx {fRec fRec' : Tr27 → Int → Int → Option Bool} (hfRec : ∀ a0 a1 a2,Le (fRec a0 a1 a2) (fRec' a0 a1 a2)) (p0 : Tr27) (p1 : Int) (p2 : Int) : Le (HE fRec p0 p1 p2) (HE fRec' p0 p1 p2) := by
  unfold HE
  repeat' with_reducible (first | apply Le.orR' | apply Le.bind' | apply Le.ite' | apply Le.loopM | exact hfRec | exact hfRec _ _ _ | apply Tz | exact Le.rfl' _ | intro _)
theorem Pk : ∀ (m : Nat) a0 a1 a2,Le (GD m a0 a1 a2) (GD (m + 1) a0 a1 a2)
  | 0,a0,a1,a2 => fun _ h => nomatch h
  | m + 1,a0,a1,a2 => Tx (Pk m) a0 a1 a2
def Bp (nE : Nat) (fRec_pred_Same : Tr38 → Tr38 → Option Bool) (p0 : List Tr38) (p1 : List Tr38) : Int → Option (Int ⊕ (Unit ⊕ Bool))
  | x1 => (if x1 < (p0.length : Int) then (ix p0 x1).bind fun x2 => (ix p1 x1).bind fun x3 => (fRec_pred_Same x2 x3).bind fun x4 => (if (!x4) = true then some (.inr (.inr false)) else some (.inl (w64 (x1 + 1)))) else some (.inr (.inl ())))
theorem Dq (nE : Nat) {fRec_pred_Same fRec_pred_Same' : Tr38 → Tr38 → Option Bool} (hfRec_pred_Same : ∀ a0 a1,Le (fRec_pred_Same a0 a1) (fRec_pred_Same' a0 a1)) (p0 : List Tr38) (p1 : List Tr38) : ∀ s,Le (Bp nE fRec_pred_Same p0 p1 s) (Ab fRec_pred_Same' p0 p1 s) := by
  intro x1
  unfold Bp Ab
  repeat' with_reducible (first | apply Le.bind' | apply Le.ite' | exact hfRec_pred_Same | exact hfRec_pred_Same _ _ | exact Le.rfl' _ | intro _)
theorem Dt {fRec_pred_Same fRec_pred_Same' : Tr38 → Tr38 → Option Bool} (hfRec_pred_Same : ∀ a0 a1,Le (fRec_pred_Same a0 a1) (fRec_pred_Same' a0 a1)) (p0 : List Tr38) (p1 : List Tr38) : ∀ s,Le (Ab fRec_pred_Same p0 p1 s) (Ab fRec_pred_Same' p0 p1 s) := by
  intro x1
  unfold Ab
  repeat' with_reducible (first | apply Le.bind' | apply Le.ite' | exact hfRec_pred_Same | exact hfRec_pred_Same _ _ | exact Le.rfl' _ | intro _)
def BD (nE : Nat) (fRec_pred_Same : Tr38 → Tr38 → Option Bool) (p0 : List Tr38) (p1 : List Tr38) : Option Bool := (if (p0.length : Int) ≠ (p1.length : Int) then some false else GO (Gm nE (Bp nE fRec_pred_Same p0 p1) 0) fun _ => some true)
theorem DW (nE : Nat) {fRec_pred_Same fRec_pred_Same' : Tr38 → Tr38 → Option Bool} (hfRec_pred_Same : ∀ a0 a1,Le (fRec_pred_Same a0 a1) (fRec_pred_Same' a0 a1)) (p0 : List Tr38) (p1 : List Tr38) : Le (BD nE fRec_pred_Same p0 p1) (Af fRec_pred_Same' p0 p1) := by
  unfold BD Af
  repeat' with_reducible (first | apply Le.orR' | apply Le.ite' | apply Le.loop' | exact hfRec_pred_Same | exact hfRec_pred_Same _ _ | apply Dq | exact Le.rfl' _ | intro _)
theorem DU {fRec_pred_Same fRec_pred_Same' : Tr38 → Tr38 → Option Bool} (hfRec_pred_Same : ∀ a0 a1,Le (fRec_pred_Same a0 a1) (fRec_pred_Same' a0 a1)) (p0 : List Tr38) (p1 : List Tr38) : Le (Af fRec_pred_Same p0 p1) (Af fRec_pred_Same' p0 p1) := by
  unfold Af
  repeat' with_reducible (first | apply Le.orR' | apply Le.ite' | apply Le.loopM | exact hfRec_pred_Same | exact hfRec_pred_Same _ _ | apply Dt | exact Le.rfl' _ | intro _)
def Jr (nE : Nat) (fRec : Tr38 → Tr38 → Option Bool) (p0 : Tr38) (p1 : Tr38) : Option Bool := (if p0.un.1 = p1.un.1 then (if p0.un.2.1 = p1.un.2.1 then (if p0.un.2.2.1 = p1.un.2.2.1 then ((BD nE fRec) p0.un.2.2.2 p1.un.2.2.2).bind fun x2 => some x2 else some false) else some false) else some false).bind fun x1 => some x1
theorem QV (nE : Nat) {fRec fRec' : Tr38 → Tr38 → Option Bool} (hfRec : ∀ a0 a1,Le (fRec a0 a1) (fRec' a0 a1)) (p0 : Tr38) (p1 : Tr38) : Le (Jr nE fRec p0 p1) (Ek fRec' p0 p1) := by
  unfold Jr Ek
  repeat' with_reducible (first | apply Le.bind' | apply Le.ite' | exact hfRec | exact hfRec _ _ | apply DW | exact Le.rfl' _ | intro _)
theorem QD {fRec fRec' : Tr38 → Tr38 → Option Bool} (hfRec : ∀ a0 a1,Le (fRec a0 a1) (fRec' a0 a1)) (p0 : Tr38) (p1 : Tr38) : Le (Ek fRec p0 p1) (Ek fRec' p0 p1) := by
  unfold Ek
  repeat' with_reducible (first | apply Le.bind' | apply Le.ite' | exact hfRec | exact hfRec _ _ | apply DU | exact Le.rfl' _ | intro _)
def Ky (nE : Nat) : Nat → Tr38 → Tr38 → Option Bool
  | 0 => fun _ _ => none
  | n + 1 => Jr nE (Ky nE n)
theorem ML (nE : Nat) : ∀ (m : Nat) a0 a1,Le (Ky nE m a0 a1) (D9 m a0 a1)
  | 0,a0,a1 => fun _ h => nomatch h
  | m + 1,a0,a1 => QV nE (ML nE m) a0 a1
theorem JC : ∀ (m : Nat) a0 a1,Le (D9 m a0 a1) (D9 (m + 1) a0 a1)
  | 0,a0,a1 => fun _ h => nomatch h
  | m + 1,a0,a1 => QD (JC m) a0 a1
def Qx (nE : Nat) (p0 : Tr38) (p1 : Tr38) : Option Bool := Ky nE nE p0 p1
theorem Vt (nE : Nat) (p0 : Tr38) (p1 : Tr38) : Le (Qx nE p0 p1) (KT p0 p1) := fun r e => B4 (g := fun n => D9 n p0 p1) (fun n r h => JC n p0 p1 r h) (n := nE) (ML nE nE p0 p1 r e)
def Hk (nE : Nat) (p0 : Tr38) : Option Bool := (Qx nE p0 (Tr38.of (0,0,0,([] : List Tr38)))).bind fun x1 => some x1
theorem Qc (nE : Nat) (p0 : Tr38) : Le (Hk nE p0) (Ew p0) := by
  unfold Hk Ew
  repeat' with_reducible (first | apply Le.bind' | apply Vt | exact Le.rfl' _ | intro _)
def KB (nE : Nat) (p0 : Int) : Option Int := (if p0 = 0 then some true else (if p0 = 1 then some true else some (decide (p0 = 3)))).bind fun x1 => (if x1 = true then some 8 else (if p0 = 2 then some 4 else some 0))
theorem R2 (nE : Nat) (p0 : Int) : Le (KB nE p0) (HQ p0) := by
  unfold KB HQ
  repeat' with_reducible (first | apply Le.bind' | apply Le.ite' | exact Le.rfl' _ | intro _)
def Ji (nE : Nat) (p0 : Int) : Option Int := (KB nE p0).bind fun x1 => (j7 (JW .i64 1 x1) x1).bind fun x2 => some (w64 (x2 - 1))
theorem N0 (nE : Nat) (p0 : Int) : Le (Ji nE p0) (Hq p0) := by
  unfold Ji Hq
  repeat' with_reducible (first | apply Le.bind' | apply R2 | exact Le.rfl' _ | intro _)
def LX (nE : Nat) (p0 : Int) : Option Int := (if (decide (p0 = 4) || decide (p0 = 5)) = true then some 7 else (Ji nE p0).bind fun x1 => some x1)
theorem Qw (nE : Nat) (p0 : Int) : Le (LX nE p0) (Jz p0) := by
  unfold LX Jz
  repeat' with_reducible (first | apply Le.bind' | apply Le.ite' | apply N0 | exact Le.rfl' _ | intro _)
def KJ (nE : Nat) (p0 : Tr41) : Option Bool := (if p0.un.1 = 2 then ((Hk nE (f38 p0.un.2.1)).bind fun x2 => (if x2 = true then (if (p0.un.2.2.2.2.length : Int) = 0 then (if 0 ≤ p0.un.2.2.1 then (if p0.un.2.2.1 ≤ 4 then (if 0 ≤ p0.un.2.2.2.1 then (LX nE p0.un.2.2.1).bind fun x3 => some (decide (p0.un.2.2.2.1 ≤ x3)) else some false) else some false) else some false) else some false) else some false)).bind fun x1 => some x1 else (if (decide (p0.un.2.2.1 ≠ 0) || decide (p0.un.2.2.2.1 ≠ 0)) = true then some false else (if p0.un.1 = 1 then some (decide ((p0.un.2.2.2.2.length : Int) = 0)) else (if p0.un.1 = 3 then some true else some (decide (p0.un.1 = 4))).bind fun x4 => (if x4 = true then ((Hk nE (f38 p0.un.2.1)).bind fun x6 => (if x6 = true then (if 2 ≤ (p0.un.2.2.2.2.length : Int) then some (decide ((p0.un.2.2.2.2.length : Int) ≤ 8)) else some false) else some false)).bind fun x5 => some x5 else (if p0.un.1 = 5 then some (decide ((p0.un.2.2.2.2.length : Int) = 2)) else some false)))))
theorem Sp (nE : Nat) (p0 : Tr41) : Le (KJ nE p0) (HI p0) := by
  unfold KJ HI
  repeat' with_reducible (first | apply Le.bind' | apply Le.ite' | apply Qc | apply Qw | exact Le.rfl' _ | intro _)
def MN (nE : Nat) (p0 : Tr38) : Option Bool := (if p0.un.1 = 3 then (if (D2 p0.un.2.1) = true then (if 0 ≤ p0.un.2.2.1 then (LX nE p0.un.2.1).bind fun x2 => (if p0.un.2.2.1 ≤ x2 then some (decide ((p0.un.2.2.2.length : Int) = 0)) else some false) else some false) else some false).bind fun x1 => some x1 else (if (decide (p0.un.2.1 ≠ 0) || decide (p0.un.2.2.1 ≠ 0)) = true then some false else (if p0.un.1 = 1 then some true else some (decide (p0.un.1 = 2))).bind fun x3 => (if x3 = true then some (decide ((p0.un.2.2.2.length : Int) = 0)) else (if p0.un.1 = 4 then some (decide ((p0.un.2.2.2.length : Int) = 1)) else (if p0.un.1 = 5 then some true else some (decide (p0.un.1 = 6))).bind fun x4 => (if x4 = true then some (decide (2 ≤ (p0.un.2.2.2.length : Int)) && decide ((p0.un.2.2.2.length : Int) ≤ 8)) else some false)))))
theorem Vf (nE : Nat) (p0 : Tr38) : Le (MN nE p0) (Iw p0) := by
  unfold MN Iw
  repeat' with_reducible (first | apply Le.bind' | apply Le.ite' | apply Qw | exact Le.rfl' _ | intro _)
def FC (nE : Nat) (fRec : Int → Tr38 → Int → Option (Bool × Int)) (p1 : Tr38) (p2 : Int) : (Int × Int) → Option ((Int × Int) ⊕ (Int ⊕ (Bool × Int)))
  | (x4,x5) => (if x4 < (p1.un.2.2.2.length : Int) then (ix p1.un.2.2.2 x4).bind fun x6 => (fRec x5 x6 (w64 (p2 - 1))).bind fun x7 => (if (!x7.1) = true then some (.inr (.inr (false,x7.2))) else some (.inl (w64 (x4 + 1),x7.2))) else some (.inr (.inl x5)))
theorem Kw (nE : Nat) {fRec fRec' : Int → Tr38 → Int → Option (Bool × Int)} (hfRec : ∀ a0 a1 a2,Le (fRec a0 a1 a2) (fRec' a0 a1 a2)) (p1 : Tr38) (p2 : Int) : ∀ s,Le (FC nE fRec p1 p2 s) (AJ fRec' p1 p2 s) := by
  rintro ⟨x4,x5⟩
  unfold FC AJ
  repeat' with_reducible (first | apply Le.bind' | apply Le.ite' | exact hfRec | exact hfRec _ _ _ | exact Le.rfl' _ | intro _)
theorem KD {fRec fRec' : Int → Tr38 → Int → Option (Bool × Int)} (hfRec : ∀ a0 a1 a2,Le (fRec a0 a1 a2) (fRec' a0 a1 a2)) (p1 : Tr38) (p2 : Int) : ∀ s,Le (AJ fRec p1 p2 s) (AJ fRec' p1 p2 s) := by
  rintro ⟨x4,x5⟩
  show Le (AJ fRec p1 p2 (x4,x5)) (AJ fRec' p1 p2 (x4,x5))
  unfold AJ
  repeat' with_reducible (first | apply Le.bind' | apply Le.ite' | exact hfRec | exact hfRec _ _ _ | exact Le.rfl' _ | intro _)
def FB (nE : Nat) (fRec : Int → Tr38 → Int → Option (Bool × Int)) (p0 : Int) (p1 : Tr38) (p2 : Int) : Option (Bool × Int) := (if (w64 (p0 - 1)) < 0 then some true else (if p2 < 1 then some true else (MN nE p1).bind fun x2 => some (!x2))).bind fun x1 => (if x1 = true then some (false,w64 (p0 - 1)) else GO (Gm nE (FC nE fRec p1 p2) (0,w64 (p0 - 1))) fun x3 => some (true,x3))
theorem KN (nE : Nat) {fRec fRec' : Int → Tr38 → Int → Option (Bool × Int)} (hfRec : ∀ a0 a1 a2,Le (fRec a0 a1 a2) (fRec' a0 a1 a2)) (p0 : Int) (p1 : Tr38) (p2 : Int) : Le (FB nE fRec p0 p1 p2) (BA fRec' p0 p1 p2) := by
  unfold FB BA
  repeat' with_reducible (first | apply Le.orR' | apply Le.bind' | apply Le.ite' | apply Le.loop' | exact hfRec | exact hfRec _ _ _ | apply Vf | apply Kw | exact Le.rfl' _ | intro _)
theorem Ks {fRec fRec' : Int → Tr38 → Int → Option (Bool × Int)} (hfRec : ∀ a0 a1 a2,Le (fRec a0 a1 a2) (fRec' a0 a1 a2)) (p0 : Int) (p1 : Tr38) (p2 : Int) : Le (BA fRec p0 p1 p2) (BA fRec' p0 p1 p2) := by
  unfold BA
  repeat' with_reducible (first | apply Le.orR' | apply Le.bind' | apply Le.ite' | apply Le.loopM | exact hfRec | exact hfRec _ _ _ | apply KD | exact Le.rfl' _ | intro _)
def FN (nE : Nat) : Nat → Int → Tr38 → Int → Option (Bool × Int)
  | 0 => fun _ _ _ => none
  | n + 1 => FB nE (FN nE n)
theorem HJ (nE : Nat) : ∀ (m : Nat) a0 a1 a2,Le (FN nE m a0 a1 a2) (AR m a0 a1 a2)
  | 0,a0,a1,a2 => fun _ h => nomatch h
  | m + 1,a0,a1,a2 => KN nE (HJ nE m) a0 a1 a2
theorem Ee : ∀ (m : Nat) a0 a1 a2,Le (AR m a0 a1 a2) (AR (m + 1) a0 a1 a2)
  | 0,a0,a1,a2 => fun _ h => nomatch h
  | m + 1,a0,a1,a2 => Ks (Ee m) a0 a1 a2
def IQ (nE : Nat) (p0 : Int) (p1 : Tr38) (p2 : Int) : Option (Bool × Int) := FN nE nE p0 p1 p2
theorem Mq (nE : Nat) (p0 : Int) (p1 : Tr38) (p2 : Int) : Le (IQ nE p0 p1 p2) (DZ p0 p1 p2) := fun r e => B4 (g := fun n => AR n p0 p1 p2) (fun n r h => Ee n p0 p1 p2 r h) (n := nE) (HJ nE nE p0 p1 p2 r e)
def LT (nE : Nat) (p0 : Tr38) : Option Bool := (IQ nE 64 p0 8).bind fun x1 => some x1.1
theorem Tv (nE : Nat) (p0 : Tr38) : Le (LT nE p0) (FO p0) := by
  unfold LT FO
  repeat' with_reducible (first | apply Le.bind' | apply Mq | exact Le.rfl' _ | intro _)
def JF (nE : Nat) (fRec : Tr38 → Option Int) (p0 : Tr38) : (Int × Int) → Option ((Int × Int) ⊕ Int)
  | (x2,x3) => (if x3 < (p0.un.2.2.2.length : Int) then (ix p0.un.2.2.2 x3).bind fun x4 => (fRec x4).bind fun x5 => some (.inl (w64 (x2 + x5),w64 (x3 + 1))) else some (.inr x2))
theorem QN (nE : Nat) {fRec fRec' : Tr38 → Option Int} (hfRec : ∀ a0,Le (fRec a0) (fRec' a0)) (p0 : Tr38) : ∀ s,Le (JF nE fRec p0 s) (CY fRec' p0 s) := by
  rintro ⟨x2,x3⟩
  unfold JF CY
  repeat' with_reducible (first | apply Le.bind' | apply Le.ite' | exact hfRec | exact hfRec _ | exact Le.rfl' _ | intro _)
theorem QJ {fRec fRec' : Tr38 → Option Int} (hfRec : ∀ a0,Le (fRec a0) (fRec' a0)) (p0 : Tr38) : ∀ s,Le (CY fRec p0 s) (CY fRec' p0 s) := by
  rintro ⟨x2,x3⟩
  show Le (CY fRec p0 (x2,x3)) (CY fRec' p0 (x2,x3))
  unfold CY
  repeat' with_reducible (first | apply Le.bind' | apply Le.ite' | exact hfRec | exact hfRec _ | exact Le.rfl' _ | intro _)
def JJ (nE : Nat) (fRec : Tr38 → Option Int) (p0 : Tr38) : Option Int := (Gm nE (JF nE fRec p0) (1,0)).bind fun x1 => some x1
theorem QA (nE : Nat) {fRec fRec' : Tr38 → Option Int} (hfRec : ∀ a0,Le (fRec a0) (fRec' a0)) (p0 : Tr38) : Le (JJ nE fRec p0) (Dm fRec' p0) := by
  unfold JJ Dm
  repeat' with_reducible (first | apply Le.bind' | apply Le.loop' | exact hfRec | exact hfRec _ | apply QN | exact Le.rfl' _ | intro _)
theorem QP {fRec fRec' : Tr38 → Option Int} (hfRec : ∀ a0,Le (fRec a0) (fRec' a0)) (p0 : Tr38) : Le (Dm fRec p0) (Dm fRec' p0) := by
  unfold Dm
  repeat' with_reducible (first | apply Le.bind' | apply Le.loopM | exact hfRec | exact hfRec _ | apply QJ | exact Le.rfl' _ | intro _)
def KH (nE : Nat) : Nat → Tr38 → Option Int
  | 0 => fun _ => none
  | n + 1 => JJ nE (KH nE n)
theorem MJ (nE : Nat) : ∀ (m : Nat) a0,Le (KH nE m a0) (DC m a0)
  | 0,a0 => fun _ h => nomatch h
  | m + 1,a0 => QA nE (MJ nE m) a0
theorem JL : ∀ (m : Nat) a0,Le (DC m a0) (DC (m + 1) a0)
  | 0,a0 => fun _ h => nomatch h
  | m + 1,a0 => QP (JL m) a0
def Qf (nE : Nat) (p0 : Tr38) : Option Int := KH nE nE p0
theorem Vo (nE : Nat) (p0 : Tr38) : Le (Qf nE p0) (LC p0) := fun r e => B4 (g := fun n => DC n p0) (fun n r h => JL n p0 r h) (n := nE) (MJ nE nE p0 r e)
def EK (nE : Nat) (fRec : Int → Tr41 → Int → Option (Bool × Int)) (p1 : Tr41) (p2 : Int) : (Int × Int) → Option ((Int × Int) ⊕ (Int ⊕ (Bool × Int)))
  | (x7,x8) => (if x7 < (p1.un.2.2.2.2.length : Int) then (ix p1.un.2.2.2.2 x7).bind fun x9 => (fRec x8 (Tr41.of (x9.un.1,f38 x9.un.2.1,x9.un.2.2.1,x9.un.2.2.2.1,x9.un.2.2.2.2)) (w64 (p2 - 1))).bind fun x10 => (if (!x10.1) = true then some (.inr (.inr (false,x10.2))) else some (.inl (w64 (x7 + 1),x10.2))) else some (.inr (.inl x8)))
theorem JD (nE : Nat) {fRec fRec' : Int → Tr41 → Int → Option (Bool × Int)} (hfRec : ∀ a0 a1 a2,Le (fRec a0 a1 a2) (fRec' a0 a1 a2)) (p1 : Tr41) (p2 : Int) : ∀ s,Le (EK nE fRec p1 p2 s) (AC fRec' p1 p2 s) := by
  rintro ⟨x7,x8⟩
  unfold EK AC
  repeat' with_reducible (first | apply Le.bind' | apply Le.ite' | exact hfRec | exact hfRec _ _ _ | exact Le.rfl' _ | intro _)
theorem Jx {fRec fRec' : Int → Tr41 → Int → Option (Bool × Int)} (hfRec : ∀ a0 a1 a2,Le (fRec a0 a1 a2) (fRec' a0 a1 a2)) (p1 : Tr41) (p2 : Int) : ∀ s,Le (AC fRec p1 p2 s) (AC fRec' p1 p2 s) := by
  rintro ⟨x7,x8⟩
  show Le (AC fRec p1 p2 (x7,x8)) (AC fRec' p1 p2 (x7,x8))
  unfold AC
  repeat' with_reducible (first | apply Le.bind' | apply Le.ite' | exact hfRec | exact hfRec _ _ _ | exact Le.rfl' _ | intro _)
def EL (nE : Nat) (fRec : Int → Tr41 → Int → Option (Bool × Int)) (p0 : Int) (p1 : Tr41) (p2 : Int) : Option (Bool × Int) := (if p0 < 1 then some true else (if p2 < 1 then some true else (KJ nE (Tr41.of (p1.un.1,f38 p1.un.2.1,p1.un.2.2.1,p1.un.2.2.2.1,p1.un.2.2.2.2))).bind fun x2 => some (!x2))).bind fun x1 => (if x1 = true then some (false,p0) else GO (if (decide (p1.un.1 = 1) || decide (p1.un.1 = 5)) = true then (LT nE (f38 p1.un.2.1)).bind fun x4 => (if (!x4) = true then some (.inr (false,w64 (p0 - 1))) else (Qf nE (f38 p1.un.2.1)).bind fun x5 => some (.inl (w64 ((w64 (p0 - 1)) - x5)))) else some (.inl (w64 (p0 - 1)))) fun x3 => GO (Gm nE (EK nE fRec p1 p2) (0,x3)) fun x6 => some (decide (0 ≤ x6),x6))
theorem Jv (nE : Nat) {fRec fRec' : Int → Tr41 → Int → Option (Bool × Int)} (hfRec : ∀ a0 a1 a2,Le (fRec a0 a1 a2) (fRec' a0 a1 a2)) (p0 : Int) (p1 : Tr41) (p2 : Int) : Le (EL nE fRec p0 p1 p2) (BR fRec' p0 p1 p2) := by
  unfold EL BR
  repeat' with_reducible (first | apply Le.orR' | apply Le.bind' | apply Le.ite' | apply Le.loop' | exact hfRec | exact hfRec _ _ _ | apply Sp | apply Tv | apply Vo | apply JD | exact Le.rfl' _ | intro _)
theorem Ju {fRec fRec' : Int → Tr41 → Int → Option (Bool × Int)} (hfRec : ∀ a0 a1 a2,Le (fRec a0 a1 a2) (fRec' a0 a1 a2)) (p0 : Int) (p1 : Tr41) (p2 : Int) : Le (BR fRec p0 p1 p2) (BR fRec' p0 p1 p2) := by
  unfold BR
  repeat' with_reducible (first | apply Le.orR' | apply Le.bind' | apply Le.ite' | apply Le.loopM | exact hfRec | exact hfRec _ _ _ | apply Jx | exact Le.rfl' _ | intro _)
def E6 (nE : Nat) : Nat → Int → Tr41 → Int → Option (Bool × Int)
  | 0 => fun _ _ _ => none
  | n + 1 => EL nE (E6 nE n)
theorem GM (nE : Nat) : ∀ (m : Nat) a0 a1 a2,Le (E6 nE m a0 a1 a2) (AA m a0 a1 a2)
  | 0,a0,a1,a2 => fun _ h => nomatch h
  | m + 1,a0,a1,a2 => Jv nE (GM nE m) a0 a1 a2
theorem DM : ∀ (m : Nat) a0 a1 a2,Le (AA m a0 a1 a2) (AA (m + 1) a0 a1 a2)
  | 0,a0,a1,a2 => fun _ h => nomatch h
  | m + 1,a0,a1,a2 => Ju (DM m) a0 a1 a2
def Ia (nE : Nat) (p0 : Int) (p1 : Tr41) (p2 : Int) : Option (Bool × Int) := E6 nE nE p0 p1 p2
theorem LE (nE : Nat) (p0 : Int) (p1 : Tr41) (p2 : Int) : Le (Ia nE p0 p1 p2) (D8 p0 p1 p2) := fun r e => B4 (g := fun n => AA n p0 p1 p2) (fun n r h => DM n p0 p1 p2 r h) (n := nE) (GM nE nE p0 p1 p2 r e)
def Iy (nE : Nat) (fRec : Tr41 → Option Int) (p0 : Tr41) : (Int × Int) → Option ((Int × Int) ⊕ Int)
  | (x2,x3) => (if x3 < (p0.un.2.2.2.2.length : Int) then (ix p0.un.2.2.2.2 x3).bind fun x4 => (fRec (Tr41.of (x4.un.1,f38 x4.un.2.1,x4.un.2.2.1,x4.un.2.2.2.1,x4.un.2.2.2.2))).bind fun x5 => some (.inl (min (w64 (x2 * x5)) 1000,w64 (x3 + 1))) else some (.inr x2))
theorem PU (nE : Nat) {fRec fRec' : Tr41 → Option Int} (hfRec : ∀ a0,Le (fRec a0) (fRec' a0)) (p0 : Tr41) : ∀ s,Le (Iy nE fRec p0 s) (CH fRec' p0 s) := by
  rintro ⟨x2,x3⟩
  unfold Iy CH
  repeat' with_reducible (first | apply Le.bind' | apply Le.ite' | exact hfRec | exact hfRec _ | exact Le.rfl' _ | intro _)
theorem Pl {fRec fRec' : Tr41 → Option Int} (hfRec : ∀ a0,Le (fRec a0) (fRec' a0)) (p0 : Tr41) : ∀ s,Le (CH fRec p0 s) (CH fRec' p0 s) := by
  rintro ⟨x2,x3⟩
  show Le (CH fRec p0 (x2,x3)) (CH fRec' p0 (x2,x3))
  unfold CH
  repeat' with_reducible (first | apply Le.bind' | apply Le.ite' | exact hfRec | exact hfRec _ | exact Le.rfl' _ | intro _)
def Is (nE : Nat) (fRec : Tr41 → Option Int) (p0 : Tr41) : (Int × Int) → Option ((Int × Int) ⊕ Int)
  | (x6,x7) => (if x7 < (p0.un.2.2.2.2.length : Int) then (ix p0.un.2.2.2.2 x7).bind fun x8 => (fRec (Tr41.of (x8.un.1,f38 x8.un.2.1,x8.un.2.2.1,x8.un.2.2.2.1,x8.un.2.2.2.2))).bind fun x9 => some (.inl (min (w64 (x6 + x9)) 1000,w64 (x7 + 1))) else some (.inr x6))
theorem Ph (nE : Nat) {fRec fRec' : Tr41 → Option Int} (hfRec : ∀ a0,Le (fRec a0) (fRec' a0)) (p0 : Tr41) : ∀ s,Le (Is nE fRec p0 s) (CI fRec' p0 s) := by
  rintro ⟨x6,x7⟩
  unfold Is CI
  repeat' with_reducible (first | apply Le.bind' | apply Le.ite' | exact hfRec | exact hfRec _ | exact Le.rfl' _ | intro _)
theorem OL {fRec fRec' : Tr41 → Option Int} (hfRec : ∀ a0,Le (fRec a0) (fRec' a0)) (p0 : Tr41) : ∀ s,Le (CI fRec p0 s) (CI fRec' p0 s) := by
  rintro ⟨x6,x7⟩
  show Le (CI fRec p0 (x6,x7)) (CI fRec' p0 (x6,x7))
  unfold CI
  repeat' with_reducible (first | apply Le.bind' | apply Le.ite' | exact hfRec | exact hfRec _ | exact Le.rfl' _ | intro _)
def Ir (nE : Nat) (fRec : Tr41 → Option Int) (p0 : Tr41) : (Int × Int) → Option ((Int × Int) ⊕ Int)
  | (x10,x11) => (if x11 < (p0.un.2.2.2.2.length : Int) then (ix p0.un.2.2.2.2 x11).bind fun x12 => (fRec (Tr41.of (x12.un.1,f38 x12.un.2.1,x12.un.2.2.1,x12.un.2.2.2.1,x12.un.2.2.2.2))).bind fun x13 => some (.inl (max x10 x13,w64 (x11 + 1))) else some (.inr x10))
theorem OY (nE : Nat) {fRec fRec' : Tr41 → Option Int} (hfRec : ∀ a0,Le (fRec a0) (fRec' a0)) (p0 : Tr41) : ∀ s,Le (Ir nE fRec p0 s) (CO fRec' p0 s) := by
  rintro ⟨x10,x11⟩
  unfold Ir CO
  repeat' with_reducible (first | apply Le.bind' | apply Le.ite' | exact hfRec | exact hfRec _ | exact Le.rfl' _ | intro _)
theorem Pu {fRec fRec' : Tr41 → Option Int} (hfRec : ∀ a0,Le (fRec a0) (fRec' a0)) (p0 : Tr41) : ∀ s,Le (CO fRec p0 s) (CO fRec' p0 s) := by
  rintro ⟨x10,x11⟩
  show Le (CO fRec p0 (x10,x11)) (CO fRec' p0 (x10,x11))
  unfold CO
  repeat' with_reducible (first | apply Le.bind' | apply Le.ite' | exact hfRec | exact hfRec _ | exact Le.rfl' _ | intro _)
def Iv (nE : Nat) (fRec : Tr41 → Option Int) (p0 : Tr41) : Option Int := (if p0.un.1 = 3 then Gm nE (Iy nE fRec p0) (1,0) else (if p0.un.1 = 4 then Gm nE (Is nE fRec p0) (0,0) else (if p0.un.1 = 5 then Gm nE (Ir nE fRec p0) (0,0) else some 1))).bind fun x1 => some x1
theorem Pb (nE : Nat) {fRec fRec' : Tr41 → Option Int} (hfRec : ∀ a0,Le (fRec a0) (fRec' a0)) (p0 : Tr41) : Le (Iv nE fRec p0) (Dp fRec' p0) := by
  unfold Iv Dp
  repeat' with_reducible (first | apply Le.bind' | apply Le.ite' | apply Le.loop' | exact hfRec | exact hfRec _ | apply PU | apply Ph | apply OY | exact Le.rfl' _ | intro _)
theorem OJ {fRec fRec' : Tr41 → Option Int} (hfRec : ∀ a0,Le (fRec a0) (fRec' a0)) (p0 : Tr41) : Le (Dp fRec p0) (Dp fRec' p0) := by
  unfold Dp
  repeat' with_reducible (first | apply Le.bind' | apply Le.ite' | apply Le.loopM | exact hfRec | exact hfRec _ | apply Pl | apply OL | apply Pu | exact Le.rfl' _ | intro _)
def I7 (nE : Nat) : Nat → Tr41 → Option Int
  | 0 => fun _ => none
  | n + 1 => Iv nE (I7 nE n)
theorem Ly (nE : Nat) : ∀ (m : Nat) a0,Le (I7 nE m a0) (B0 m a0)
  | 0,a0 => fun _ h => nomatch h
  | m + 1,a0 => Pb nE (Ly nE m) a0
theorem Ix : ∀ (m : Nat) a0,Le (B0 m a0) (B0 (m + 1) a0)
  | 0,a0 => fun _ h => nomatch h
  | m + 1,a0 => OJ (Ix m) a0
def NU (nE : Nat) (p0 : Tr41) : Option Int := I7 nE nE p0
theorem RC (nE : Nat) (p0 : Tr41) : Le (NU nE p0) (Km p0) := fun r e => B4 (g := fun n => B0 n p0) (fun n r h => Ix n p0 r h) (n := nE) (Ly nE nE p0 r e)
def JE (nE : Nat) (p0 : Tr41) : Option Bool := ((Ia nE 64 (Tr41.of (p0.un.1,f38 p0.un.2.1,p0.un.2.2.1,p0.un.2.2.2.1,p0.un.2.2.2.2)) 8).bind fun x3 => (if x3.1 = true then (NU nE (Tr41.of (p0.un.1,f38 p0.un.2.1,p0.un.2.2.1,p0.un.2.2.2.1,p0.un.2.2.2.2))).bind fun x4 => some (decide (x4 ≤ 64),x3.2) else some (false,x3.2))).bind fun (x1,x2) => some x1
theorem QM (nE : Nat) (p0 : Tr41) : Le (JE nE p0) (GJ p0) := by
  unfold JE GJ
  repeat' with_reducible (first | apply Le.bind' | apply Le.ite' | apply LE | apply RC | exact Le.rfl' _ | (refine Le.pi2 ?_; intro _) | intro _)
def HV (nE : Nat) (fRec_check_Cut : Tr38 → Int → Option Tr38) (p0 : List Tr38) (p1 : Int) : (List Tr38 × Int) → Option ((List Tr38 × Int) ⊕ (List Tr38))
  | (x2,x3) => (if x3 < (p0.length : Int) then (ix p0 x3).bind fun x4 => (fRec_check_Cut x4 p1).bind fun x5 => (HT x2 ([x5] : List Tr38)).bind fun x6 => some (.inl (x6,w64 (x3 + 1))) else some (.inr x2))
theorem Om (nE : Nat) {fRec_check_Cut fRec_check_Cut' : Tr38 → Int → Option Tr38} (hfRec_check_Cut : ∀ a0 a1,Le (fRec_check_Cut a0 a1) (fRec_check_Cut' a0 a1)) (p0 : List Tr38) (p1 : Int) : ∀ s,Le (HV nE fRec_check_Cut p0 p1 s) (Cd fRec_check_Cut' p0 p1 s) := by
  rintro ⟨x2,x3⟩
  unfold HV Cd
  repeat' with_reducible (first | apply Le.bind' | apply Le.ite' | exact hfRec_check_Cut | exact hfRec_check_Cut _ _ | exact Le.rfl' _ | intro _)
theorem Oh {fRec_check_Cut fRec_check_Cut' : Tr38 → Int → Option Tr38} (hfRec_check_Cut : ∀ a0 a1,Le (fRec_check_Cut a0 a1) (fRec_check_Cut' a0 a1)) (p0 : List Tr38) (p1 : Int) : ∀ s,Le (Cd fRec_check_Cut p0 p1 s) (Cd fRec_check_Cut' p0 p1 s) := by
  rintro ⟨x2,x3⟩
  show Le (Cd fRec_check_Cut p0 p1 (x2,x3)) (Cd fRec_check_Cut' p0 p1 (x2,x3))
  unfold Cd
  repeat' with_reducible (first | apply Le.bind' | apply Le.ite' | exact hfRec_check_Cut | exact hfRec_check_Cut _ _ | exact Le.rfl' _ | intro _)
def JB (nE : Nat) (fRec_check_Cut : Tr38 → Int → Option Tr38) (p0 : List Tr38) (p1 : Int) : Option (List Tr38) := (Gm nE (HV nE fRec_check_Cut p0 p1) ([],0)).bind fun x1 => some x1
theorem QW (nE : Nat) {fRec_check_Cut fRec_check_Cut' : Tr38 → Int → Option Tr38} (hfRec_check_Cut : ∀ a0 a1,Le (fRec_check_Cut a0 a1) (fRec_check_Cut' a0 a1)) (p0 : List Tr38) (p1 : Int) : Le (JB nE fRec_check_Cut p0 p1) (Dc fRec_check_Cut' p0 p1) := by
  unfold JB Dc
  repeat' with_reducible (first | apply Le.bind' | apply Le.loop' | exact hfRec_check_Cut | exact hfRec_check_Cut _ _ | apply Om | exact Le.rfl' _ | intro _)
theorem QO {fRec_check_Cut fRec_check_Cut' : Tr38 → Int → Option Tr38} (hfRec_check_Cut : ∀ a0 a1,Le (fRec_check_Cut a0 a1) (fRec_check_Cut' a0 a1)) (p0 : List Tr38) (p1 : Int) : Le (Dc fRec_check_Cut p0 p1) (Dc fRec_check_Cut' p0 p1) := by
  unfold Dc
  repeat' with_reducible (first | apply Le.bind' | apply Le.loopM | exact hfRec_check_Cut | exact hfRec_check_Cut _ _ | apply Oh | exact Le.rfl' _ | intro _)
def CF (nE : Nat) (p0 : List Tr38) (p1c0 : Int) : Int → Option (Int ⊕ (Unit ⊕ Int))
  | x1 => (if x1 < (p0.length : Int) then (ix p0 x1).bind fun x2 => (if (EB x2 p1c0) = true then some (.inr (.inr x1)) else some (.inl (w64 (x1 + 1)))) else some (.inr (.inl ())))
theorem FV (nE : Nat) (p0 : List Tr38) (p1c0 : Int) : ∀ s,Le (CF nE p0 p1c0 s) (AM p0 p1c0 s) := by
  intro x1
  unfold CF AM
  repeat' with_reducible (first | apply Le.bind' | apply Le.ite' | exact Le.rfl' _ | intro _)
def C1 (nE : Nat) (p0 : List Tr38) (p1c0 : Int) : Option Int := GO (Gm nE (CF nE p0 p1c0) 0) fun _ => some (-1)
theorem Gn (nE : Nat) (p0 : List Tr38) (p1c0 : Int) : Le (C1 nE p0 p1c0) (A7 p0 p1c0) := by
  unfold C1 A7
  repeat' with_reducible (first | apply Le.orR' | apply Le.loop' | apply FV | exact Le.rfl' _ | intro _)
def CL (nE : Nat) (p0 : List Tr38) (p1c0 : Int) : Option Bool := (C1 nE p0 p1c0).bind fun x1 => some (decide (0 ≤ x1))
theorem FQ (nE : Nat) (p0 : List Tr38) (p1c0 : Int) : Le (CL nE p0 p1c0) (Bf p0 p1c0) := by
  unfold CL Bf
  repeat' with_reducible (first | apply Le.bind' | apply Gn | exact Le.rfl' _ | intro _)
def GQ (nE : Nat) (p0 : List Tr38) (p1c0 : Int) : (List Tr38 × Int) → Option ((List Tr38 × Int) ⊕ (List Tr38))
  | (x2,x3) => (if x3 < (p0.length : Int) then ((ix p0 x3).bind fun x5 => (if (D0 x5 p1c0) = true then (HT x2 ([x5] : List Tr38)).bind fun x6 => some x6 else some x2)).bind fun x4 => some (.inl (x4,w64 (x3 + 1))) else some (.inr x2))
theorem My (nE : Nat) (p0 : List Tr38) (p1c0 : Int) : ∀ s,Le (GQ nE p0 p1c0 s) (CX p0 p1c0 s) := by
  rintro ⟨x2,x3⟩
  unfold GQ CX
  repeat' with_reducible (first | apply Le.bind' | apply Le.ite' | exact Le.rfl' _ | intro _)
def IE (nE : Nat) (p0 : List Tr38) (p1c0 : Int) : Option (List Tr38) := (Gm nE (GQ nE p0 p1c0) ([],0)).bind fun x1 => some x1
theorem PH (nE : Nat) (p0 : List Tr38) (p1c0 : Int) : Le (IE nE p0 p1c0) (Dr p0 p1c0) := by
  unfold IE Dr
  repeat' with_reducible (first | apply Le.bind' | apply Le.loop' | apply My | exact Le.rfl' _ | intro _)
def FY (nE : Nat) (p0 : Int) (p1 : List Tr38) (p2 : Int) (p3 : Int) : Option Tr38 := (CL nE p1 p3).bind fun x1 => (if x1 = true then some (Tr38.of (p3,0,0,([] : List Tr38))) else (IE nE p1 p2).bind fun x2 => (if (x2.length : Int) = 0 then some (Tr38.of (p2,0,0,([] : List Tr38))) else (if (x2.length : Int) = 1 then (ix x2 0).bind fun x3 => some x3 else some (Tr38.of (p0,0,0,x2)))))
theorem NF (nE : Nat) (p0 : Int) (p1 : List Tr38) (p2 : Int) (p3 : Int) : Le (FY nE p0 p1 p2 p3) (Co p0 p1 p2 p3) := by
  unfold FY Co
  repeat' with_reducible (first | apply Le.bind' | apply Le.ite' | apply FQ | apply PH | exact Le.rfl' _ | intro _)
def JI (nE : Nat) (fRec : Tr38 → Int → Option Tr38) (p0 : Tr38) (p1 : Int) : Option Tr38 := ((JB nE fRec) p0.un.2.2.2 p1).bind fun x1 => GO (if p0.un.1 = 3 then (if p0.un.2.1 = 5 then some (.inr (Tr38.of ((An (decide (p0.un.2.2.1 = p1))).un.1,(An (decide (p0.un.2.2.1 = p1))).un.2.1,(An (decide (p0.un.2.2.1 = p1))).un.2.2.1,(An (decide (p0.un.2.2.1 = p1))).un.2.2.2))) else some (.inl ())) else (if p0.un.1 = 4 then (if (x1.length : Int) = 1 then (ix x1 0).bind fun x3 => some (decide (x3.un.1 = 1)) else some false).bind fun x2 => (if x2 = true then some (.inr (Tr38.of ((An false).un.1,(An false).un.2.1,(An false).un.2.2.1,(An false).un.2.2.2))) else (if (x1.length : Int) = 1 then (ix x1 0).bind fun x5 => some (decide (x5.un.1 = 2)) else some false).bind fun x4 => (if x4 = true then some (.inr (Tr38.of ((An true).un.1,(An true).un.2.1,(An true).un.2.2.1,(An true).un.2.2.2))) else some (.inl ()))) else (if p0.un.1 = 5 then (FY nE p0.un.1 x1 1 2).bind fun x6 => some (.inr x6) else (if p0.un.1 = 6 then (FY nE p0.un.1 x1 2 1).bind fun x7 => some (.inr x7) else some (.inl ()))))) fun _ => some (Tr38.of (p0.un.1,p0.un.2.1,p0.un.2.2.1,x1))
theorem QB (nE : Nat) {fRec fRec' : Tr38 → Int → Option Tr38} (hfRec : ∀ a0 a1,Le (fRec a0 a1) (fRec' a0 a1)) (p0 : Tr38) (p1 : Int) : Le (JI nE fRec p0 p1) (Du fRec' p0 p1) := by
  unfold JI Du
  repeat' with_reducible (first | apply Le.orR' | apply Le.bind' | apply Le.ite' | exact hfRec | exact hfRec _ _ | apply QW | apply NF | exact Le.rfl' _ | intro _)
theorem QL {fRec fRec' : Tr38 → Int → Option Tr38} (hfRec : ∀ a0 a1,Le (fRec a0 a1) (fRec' a0 a1)) (p0 : Tr38) (p1 : Int) : Le (Du fRec p0 p1) (Du fRec' p0 p1) := by
  unfold Du
  repeat' with_reducible (first | apply Le.orR' | apply Le.bind' | apply Le.ite' | exact hfRec | exact hfRec _ _ | apply QO | exact Le.rfl' _ | intro _)
def KG (nE : Nat) : Nat → Tr38 → Int → Option Tr38
  | 0 => fun _ _ => none
  | n + 1 => JI nE (KG nE n)
theorem M7 (nE : Nat) : ∀ (m : Nat) a0 a1,Le (KG nE m a0 a1) (Dj m a0 a1)
  | 0,a0,a1 => fun _ h => nomatch h
  | m + 1,a0,a1 => QB nE (M7 nE m) a0 a1
theorem JM : ∀ (m : Nat) a0 a1,Le (Dj m a0 a1) (Dj (m + 1) a0 a1)
  | 0,a0,a1 => fun _ h => nomatch h
  | m + 1,a0,a1 => QL (JM m) a0 a1
def Qr (nE : Nat) (p0 : Tr38) (p1 : Int) : Option Tr38 := KG nE nE p0 p1
theorem U3 (nE : Nat) (p0 : Tr38) (p1 : Int) : Le (Qr nE p0 p1) (Lf p0 p1) := fun r e => B4 (g := fun n => Dj n p0 p1) (fun n r h => JM n p0 p1 r h) (n := nE) (M7 nE nE p0 p1 r e)
def Kz (nE : Nat) (fRec : Tr41 → Int → Option Tr41) (p0 : Tr41) (p1 : Int) : (List Tr41 × Int) → Option ((List Tr41 × Int) ⊕ (List Tr41))
  | (x11,x12) => (if x12 < (p0.un.2.2.2.2.length : Int) then (ix p0.un.2.2.2.2 x12).bind fun x13 => (fRec (Tr41.of (x13.un.1,f38 x13.un.2.1,x13.un.2.2.1,x13.un.2.2.2.1,x13.un.2.2.2.2)) p1).bind fun x14 => (HT x11 ([Tr41.of (x14.un.1,f38 x14.un.2.1,x14.un.2.2.1,x14.un.2.2.2.1,x14.un.2.2.2.2)] : List Tr41)).bind fun x15 => some (.inl (x15,w64 (x12 + 1))) else some (.inr x11))
theorem Sv (nE : Nat) {fRec fRec' : Tr41 → Int → Option Tr41} (hfRec : ∀ a0 a1,Le (fRec a0 a1) (fRec' a0 a1)) (p0 : Tr41) (p1 : Int) : ∀ s,Le (Kz nE fRec p0 p1 s) (DB fRec' p0 p1 s) := by
  rintro ⟨x11,x12⟩
  unfold Kz DB
  repeat' with_reducible (first | apply Le.bind' | apply Le.ite' | exact hfRec | exact hfRec _ _ | exact Le.rfl' _ | intro _)
theorem SE {fRec fRec' : Tr41 → Int → Option Tr41} (hfRec : ∀ a0 a1,Le (fRec a0 a1) (fRec' a0 a1)) (p0 : Tr41) (p1 : Int) : ∀ s,Le (DB fRec p0 p1 s) (DB fRec' p0 p1 s) := by
  rintro ⟨x11,x12⟩
  show Le (DB fRec p0 p1 (x11,x12)) (DB fRec' p0 p1 (x11,x12))
  unfold DB
  repeat' with_reducible (first | apply Le.bind' | apply Le.ite' | exact hfRec | exact hfRec _ _ | exact Le.rfl' _ | intro _)
def KI (nE : Nat) (fRec : Tr41 → Int → Option Tr41) (p0 : Tr41) (p1 : Int) : Option Tr41 := (if (decide (p0.un.1 = 1) || decide (p0.un.1 = 5)) = true then (Qr nE (f38 p0.un.2.1) p1).bind fun x5 => some (x5.un.1,x5.un.2.1,x5.un.2.2.1,x5.un.2.2.2) else some (p0.un.2.1.un.1,p0.un.2.1.un.2.1,p0.un.2.1.un.2.2.1,p0.un.2.1.un.2.2.2)).bind fun (x1,x2,x3,x4) => (if (decide (p0.un.1 = 5) && (decide ((p0.un.2.2.2.2.length : Int) = 2) && decide (x1 = 1))) = true then (ix p0.un.2.2.2.2 0).bind fun x6 => (fRec (Tr41.of (x6.un.1,f38 x6.un.2.1,x6.un.2.2.1,x6.un.2.2.2.1,x6.un.2.2.2.2)) p1).bind fun x7 => some (Tr41.of (x7.un.1,f38 x7.un.2.1,x7.un.2.2.1,x7.un.2.2.2.1,x7.un.2.2.2.2)) else (if (decide (p0.un.1 = 5) && (decide ((p0.un.2.2.2.2.length : Int) = 2) && decide (x1 = 2))) = true then (ix p0.un.2.2.2.2 1).bind fun x8 => (fRec (Tr41.of (x8.un.1,f38 x8.un.2.1,x8.un.2.2.1,x8.un.2.2.2.1,x8.un.2.2.2.2)) p1).bind fun x9 => some (Tr41.of (x9.un.1,f38 x9.un.2.1,x9.un.2.2.1,x9.un.2.2.2.1,x9.un.2.2.2.2)) else (Gm nE (Kz nE fRec p0 p1) ([],0)).bind fun x10 => some (Tr41.of (p0.un.1,Tr38.of (x1,x2,x3,x4),p0.un.2.2.1,p0.un.2.2.2.1,x10))))
theorem SO (nE : Nat) {fRec fRec' : Tr41 → Int → Option Tr41} (hfRec : ∀ a0 a1,Le (fRec a0 a1) (fRec' a0 a1)) (p0 : Tr41) (p1 : Int) : Le (KI nE fRec p0 p1) (EP fRec' p0 p1) := by
  unfold KI EP
  repeat' with_reducible (first | apply Le.bind' | apply Le.ite' | apply Le.loop' | exact hfRec | exact hfRec _ _ | apply U3 | apply Sv | exact Le.rfl' _ | (refine Le.pi2 ?_; intro _) | intro _)
theorem R9 {fRec fRec' : Tr41 → Int → Option Tr41} (hfRec : ∀ a0 a1,Le (fRec a0 a1) (fRec' a0 a1)) (p0 : Tr41) (p1 : Int) : Le (EP fRec p0 p1) (EP fRec' p0 p1) := by
  unfold EP
  repeat' with_reducible (first | apply Le.bind' | apply Le.ite' | apply Le.loopM | exact hfRec | exact hfRec _ _ | apply SE | exact Le.rfl' _ | (refine Le.pi2 ?_; intro _) | intro _)
def L9 (nE : Nat) : Nat → Tr41 → Int → Option Tr41
  | 0 => fun _ _ => none
  | n + 1 => KI nE (L9 nE n)
theorem N5 (nE : Nat) : ∀ (m : Nat) a0 a1,Le (L9 nE m a0 a1) (Dd m a0 a1)
  | 0,a0,a1 => fun _ h => nomatch h
  | m + 1,a0,a1 => SO nE (N5 nE m) a0 a1
theorem KP : ∀ (m : Nat) a0 a1,Le (Dd m a0 a1) (Dd (m + 1) a0 a1)
  | 0,a0,a1 => fun _ h => nomatch h
  | m + 1,a0,a1 => R9 (KP m) a0 a1
def Sr (nE : Nat) (p0 : Tr41) (p1 : Int) : Option Tr41 := L9 nE nE p0 p1
theorem Wk (nE : Nat) (p0 : Tr41) (p1 : Int) : Le (Sr nE p0 p1) (OQ p0 p1) := fun r e => B4 (g := fun n => Dd n p0 p1) (fun n r h => KP n p0 p1 r h) (n := nE) (N5 nE nE p0 p1 r e)
def Hy (nE : Nat) (fRec : Tr38 → Int → Option (List Int)) (p0 : Tr38) (p1 : Int) : (List Int × Int) → Option ((List Int × Int) ⊕ (List Int))
  | (x4,x5) => (if x5 < (p0.un.2.2.2.length : Int) then (ix p0.un.2.2.2 x5).bind fun x6 => (fRec x6 p1).bind fun x7 => (HT x4 x7).bind fun x8 => some (.inl (x8,w64 (x5 + 1))) else some (.inr x4))
theorem Ny (nE : Nat) {fRec fRec' : Tr38 → Int → Option (List Int)} (hfRec : ∀ a0 a1,Le (fRec a0 a1) (fRec' a0 a1)) (p0 : Tr38) (p1 : Int) : ∀ s,Le (Hy nE fRec p0 p1 s) (BQ fRec' p0 p1 s) := by
  rintro ⟨x4,x5⟩
  unfold Hy BQ
  repeat' with_reducible (first | apply Le.bind' | apply Le.ite' | exact hfRec | exact hfRec _ _ | exact Le.rfl' _ | intro _)
theorem NE {fRec fRec' : Tr38 → Int → Option (List Int)} (hfRec : ∀ a0 a1,Le (fRec a0 a1) (fRec' a0 a1)) (p0 : Tr38) (p1 : Int) : ∀ s,Le (BQ fRec p0 p1 s) (BQ fRec' p0 p1 s) := by
  rintro ⟨x4,x5⟩
  show Le (BQ fRec p0 p1 (x4,x5)) (BQ fRec' p0 p1 (x4,x5))
  unfold BQ
  repeat' with_reducible (first | apply Le.bind' | apply Le.ite' | exact hfRec | exact hfRec _ _ | exact Le.rfl' _ | intro _)
def Hu (nE : Nat) (fRec : Tr38 → Int → Option (List Int)) (p0 : Tr38) (p1 : Int) : Option (List Int) := (if (decide (p0.un.1 = 3) && decide (p0.un.2.1 = p1)) = true then (HT ([] : List Int) ([p0.un.2.2.1] : List Int)).bind fun x2 => some x2 else some ([])).bind fun x1 => (Gm nE (Hy nE fRec p0 p1) (x1,0)).bind fun x3 => some x3
theorem Nz (nE : Nat) {fRec fRec' : Tr38 → Int → Option (List Int)} (hfRec : ∀ a0 a1,Le (fRec a0 a1) (fRec' a0 a1)) (p0 : Tr38) (p1 : Int) : Le (Hu nE fRec p0 p1) (Cp fRec' p0 p1) := by
  unfold Hu Cp
  repeat' with_reducible (first | apply Le.bind' | apply Le.ite' | apply Le.loop' | exact hfRec | exact hfRec _ _ | apply Ny | exact Le.rfl' _ | intro _)
theorem NA {fRec fRec' : Tr38 → Int → Option (List Int)} (hfRec : ∀ a0 a1,Le (fRec a0 a1) (fRec' a0 a1)) (p0 : Tr38) (p1 : Int) : Le (Cp fRec p0 p1) (Cp fRec' p0 p1) := by
  unfold Cp
  repeat' with_reducible (first | apply Le.bind' | apply Le.ite' | apply Le.loopM | exact hfRec | exact hfRec _ _ | apply NE | exact Le.rfl' _ | intro _)
def HX (nE : Nat) : Nat → Tr38 → Int → Option (List Int)
  | 0 => fun _ _ => none
  | n + 1 => Hu nE (HX nE n)
theorem JH (nE : Nat) : ∀ (m : Nat) a0 a1,Le (HX nE m a0 a1) (Cm m a0 a1)
  | 0,a0,a1 => fun _ h => nomatch h
  | m + 1,a0,a1 => Nz nE (JH nE m) a0 a1
theorem HH : ∀ (m : Nat) a0 a1,Le (Cm m a0 a1) (Cm (m + 1) a0 a1)
  | 0,a0,a1 => fun _ h => nomatch h
  | m + 1,a0,a1 => NA (HH m) a0 a1
def Mj (nE : Nat) (p0 : Tr38) (p1 : Int) : Option (List Int) := HX nE nE p0 p1
theorem PY (nE : Nat) (p0 : Tr38) (p1 : Int) : Le (Mj nE p0 p1) (GZ p0 p1) := fun r e => B4 (g := fun n => Cm n p0 p1) (fun n r h => HH n p0 p1 r h) (n := nE) (JH nE nE p0 p1 r e)
def EJ (nE : Nat) (p0 : List Int) : Option (List Int) := Xk p0
theorem H0 (nE : Nat) (p0 : List Int) : Le (EJ nE p0) (Ck p0) := by
  unfold EJ Ck
  repeat' with_reducible (first | exact Le.rfl' _ | intro _)
def D7 (nE : Nat) (p0 : List Int) : Option (List Int) := M0 p0
theorem GN (nE : Nat) (p0 : List Int) : Le (D7 nE p0) (BW p0) := by
  unfold D7 BW
  repeat' with_reducible (first | exact Le.rfl' _ | intro _)
def Kr (nE : Nat) (p0 : Tr38) (p1 : Int) : Option (List Int) := (Mj nE p0 p1).bind fun x1 => (EJ nE x1).bind fun x2 => (D7 nE x2).bind fun x3 => some x3
theorem SU (nE : Nat) (p0 : Tr38) (p1 : Int) : Le (Kr nE p0 p1) (FJ p0 p1) := by
  unfold Kr FJ
  repeat' with_reducible (first | apply Le.bind' | apply PY | apply H0 | apply GN | exact Le.rfl' _ | intro _)
def IC (nE : Nat) (fRec : Tr41 → Int → Option (List Int)) (p0 : Tr41) (p1 : Int) : (List Int × Int) → Option ((List Int × Int) ⊕ (List Int))
  | (x5,x6) => (if x6 < (p0.un.2.2.2.2.length : Int) then (ix p0.un.2.2.2.2 x6).bind fun x7 => (fRec (Tr41.of (x7.un.1,f38 x7.un.2.1,x7.un.2.2.1,x7.un.2.2.2.1,x7.un.2.2.2.2)) p1).bind fun x8 => (HT x5 x8).bind fun x9 => some (.inl (x9,w64 (x6 + 1))) else some (.inr x5))
theorem Pe (nE : Nat) {fRec fRec' : Tr41 → Int → Option (List Int)} (hfRec : ∀ a0 a1,Le (fRec a0 a1) (fRec' a0 a1)) (p0 : Tr41) (p1 : Int) : ∀ s,Le (IC nE fRec p0 p1 s) (CM fRec' p0 p1 s) := by
  rintro ⟨x5,x6⟩
  unfold IC CM
  repeat' with_reducible (first | apply Le.bind' | apply Le.ite' | exact hfRec | exact hfRec _ _ | exact Le.rfl' _ | intro _)
theorem PI {fRec fRec' : Tr41 → Int → Option (List Int)} (hfRec : ∀ a0 a1,Le (fRec a0 a1) (fRec' a0 a1)) (p0 : Tr41) (p1 : Int) : ∀ s,Le (CM fRec p0 p1 s) (CM fRec' p0 p1 s) := by
  rintro ⟨x5,x6⟩
  show Le (CM fRec p0 p1 (x5,x6)) (CM fRec' p0 p1 (x5,x6))
  unfold CM
  repeat' with_reducible (first | apply Le.bind' | apply Le.ite' | exact hfRec | exact hfRec _ _ | exact Le.rfl' _ | intro _)
def IK (nE : Nat) (fRec : Tr41 → Int → Option (List Int)) (p0 : Tr41) (p1 : Int) : Option (List Int) := (Kr nE (f38 p0.un.2.1) p1).bind fun x1 => (if (decide (p0.un.1 = 2) && decide (p0.un.2.2.1 = p1)) = true then (HT x1 ([p0.un.2.2.2.1] : List Int)).bind fun x3 => some x3 else some x1).bind fun x2 => (Gm nE (IC nE fRec p0 p1) (x2,0)).bind fun x4 => some x4
theorem Px (nE : Nat) {fRec fRec' : Tr41 → Int → Option (List Int)} (hfRec : ∀ a0 a1,Le (fRec a0 a1) (fRec' a0 a1)) (p0 : Tr41) (p1 : Int) : Le (IK nE fRec p0 p1) (Dw fRec' p0 p1) := by
  unfold IK Dw
  repeat' with_reducible (first | apply Le.bind' | apply Le.ite' | apply Le.loop' | exact hfRec | exact hfRec _ _ | apply SU | apply Pe | exact Le.rfl' _ | intro _)
theorem Pz {fRec fRec' : Tr41 → Int → Option (List Int)} (hfRec : ∀ a0 a1,Le (fRec a0 a1) (fRec' a0 a1)) (p0 : Tr41) (p1 : Int) : Le (Dw fRec p0 p1) (Dw fRec' p0 p1) := by
  unfold Dw
  repeat' with_reducible (first | apply Le.bind' | apply Le.ite' | apply Le.loopM | exact hfRec | exact hfRec _ _ | apply PI | exact Le.rfl' _ | intro _)
def I2 (nE : Nat) : Nat → Tr41 → Int → Option (List Int)
  | 0 => fun _ _ => none
  | n + 1 => IK nE (I2 nE n)
theorem Ln (nE : Nat) : ∀ (m : Nat) a0 a1,Le (I2 nE m a0 a1) (C3 m a0 a1)
  | 0,a0,a1 => fun _ h => nomatch h
  | m + 1,a0,a1 => Px nE (Ln nE m) a0 a1
theorem IJ : ∀ (m : Nat) a0 a1,Le (C3 m a0 a1) (C3 (m + 1) a0 a1)
  | 0,a0,a1 => fun _ h => nomatch h
  | m + 1,a0,a1 => Pz (IJ m) a0 a1
def NL (nE : Nat) (p0 : Tr41) (p1 : Int) : Option (List Int) := I2 nE nE p0 p1
theorem RF (nE : Nat) (p0 : Tr41) (p1 : Int) : Le (NL nE p0 p1) (Kf p0 p1) := fun r e => B4 (g := fun n => C3 n p0 p1) (fun n r h => IJ n p0 p1 r h) (n := nE) (Ln nE nE p0 p1 r e)
def DF (nE : Nat) (p0 : Tr41) (p1 : Int) : Option (List Int) := (NL nE (Tr41.of (p0.un.1,f38 p0.un.2.1,p0.un.2.2.1,p0.un.2.2.2.1,p0.un.2.2.2.2)) p1).bind fun x1 => (EJ nE x1).bind fun x2 => (D7 nE x2).bind fun x3 => some x3
theorem LI (nE : Nat) (p0 : Tr41) (p1 : Int) : Le (DF nE p0 p1) (C9 p0 p1) := by
  unfold DF C9
  repeat' with_reducible (first | apply Le.bind' | apply H0 | apply GN | apply RF | exact Le.rfl' _ | intro _)
def IF (nE : Nat) (p0 : Tr41) : (Int × Int) → Option ((Int × Int) ⊕ Int)
  | (x2,x3) => (if x3 ≤ 4 then (DF nE (Tr41.of (p0.un.1,f38 p0.un.2.1,p0.un.2.2.1,p0.un.2.2.2.1,p0.un.2.2.2.2)) x3).bind fun x4 => some (.inl (min (w64 (x2 * (w64 ((x4.length : Int) + 1)))) 100000,w64 (x3 + 1))) else some (.inr x2))
theorem Po (nE : Nat) (p0 : Tr41) : ∀ s,Le (IF nE p0 s) (EC p0 s) := by
  rintro ⟨x2,x3⟩
  unfold IF EC
  repeat' with_reducible (first | apply Le.bind' | apply Le.ite' | apply LI | exact Le.rfl' _ | intro _)
def Ko (nE : Nat) (p0 : Tr41) : Option Int := (Gm nE (IF nE p0) (1,0)).bind fun x1 => some x1
theorem RS (nE : Nat) (p0 : Tr41) : Le (Ko nE p0) (HR p0) := by
  unfold Ko HR
  repeat' with_reducible (first | apply Le.bind' | apply Le.loop' | apply Po | exact Le.rfl' _ | intro _)
def Cn (nE : Nat) (p0 : Int) : Option Int := (ix ([4,0,1,2,3] : List Int) p0).bind fun x1 => some x1
theorem Mk (nE : Nat) (p0 : Int) : Le (Cn nE p0) (Bl p0) := by
  unfold Cn Bl
  repeat' with_reducible (first | apply Le.bind' | exact Le.rfl' _ | intro _)
def Es (nE : Nat) (p0 : Sq) (p1 : Int) (p2 : Int) : Option Sq := (if p1 = 4 then some (p2,p0.2.1,p0.2.2.1,p0.2.2.2.1,p0.2.2.2.2) else (ix ([p0.2.1,p0.2.2.1,p0.2.2.2.1,p0.2.2.2.2] : List Int) p1).bind fun x6 => some (p0.1,(if p1 = 0 then p2 else p0.2.1),(if p1 = 1 then p2 else p0.2.2.1),(if p1 = 2 then p2 else p0.2.2.2.1),(if p1 = 3 then p2 else p0.2.2.2.2))).bind fun (x1,x2,x3,x4,x5) => some (x1,(x2,x3,x4,x5))
theorem Me (nE : Nat) (p0 : Sq) (p1 : Int) (p2 : Int) : Le (Es nE p0 p1 p2) (C0 p0 p1 p2) := by
  unfold Es C0
  repeat' with_reducible (first | apply Le.bind' | apply Le.ite' | exact Le.rfl' _ | (refine Le.pi2 ?_; intro _) | intro _)
def LK (nE : Nat) (p0 : Int × Int × Int × Int) (p1 : Int) : Option Int := (if (!(C5 p1)) = true then some 0 else (ix ([p0.1,p0.2.1,p0.2.2.1,p0.2.2.2] : List Int) p1).bind fun x1 => some x1)
theorem TC (nE : Nat) (p0 : Int × Int × Int × Int) (p1 : Int) : Le (LK nE p0 p1) (Hw p0 p1) := by
  unfold LK Hw
  repeat' with_reducible (first | apply Le.bind' | apply Le.ite' | exact Le.rfl' _ | intro _)
def Oy (nE : Nat) (p0 : Int) (p1 : Int) (p2 : Int) (p3 : Int × Int × Int × Int) : Option Int := (if p0 = 4 then some p2 else (if p0 = 5 then some p1 else (if (D2 p0) = true then (LK nE p3 p0).bind fun x1 => some x1 else some (-1))))
theorem Xd (nE : Nat) (p0 : Int) (p1 : Int) (p2 : Int) (p3 : Int × Int × Int × Int) : Le (Oy nE p0 p1 p2 p3) (JG p0 p1 p2 p3) := by
  unfold Oy JG
  repeat' with_reducible (first | apply Le.bind' | apply Le.ite' | apply TC | exact Le.rfl' _ | intro _)
def E2 (nE : Nat) (fRec_pred_arrival_satisfies : (Int × Sq) → Tr38 → Option Bool) (p0 : Int × Sq) (p1 : Tr38) : Option Bool := (fRec_pred_arrival_satisfies p0 p1).bind fun x1 => some (!x1)
theorem Il (nE : Nat) {fRec_pred_arrival_satisfies fRec_pred_arrival_satisfies' : (Int × Sq) → Tr38 → Option Bool} (hfRec_pred_arrival_satisfies : ∀ a0 a1,Le (fRec_pred_arrival_satisfies a0 a1) (fRec_pred_arrival_satisfies' a0 a1)) (p0 : Int × Sq) (p1 : Tr38) : Le (E2 nE fRec_pred_arrival_satisfies p0 p1) (Bn fRec_pred_arrival_satisfies' p0 p1) := by
  unfold E2 Bn
  repeat' with_reducible (first | apply Le.bind' | exact hfRec_pred_arrival_satisfies | exact hfRec_pred_arrival_satisfies _ _ | exact Le.rfl' _ | intro _)
theorem Ij {fRec_pred_arrival_satisfies fRec_pred_arrival_satisfies' : (Int × Sq) → Tr38 → Option Bool} (hfRec_pred_arrival_satisfies : ∀ a0 a1,Le (fRec_pred_arrival_satisfies a0 a1) (fRec_pred_arrival_satisfies' a0 a1)) (p0 : Int × Sq) (p1 : Tr38) : Le (Bn fRec_pred_arrival_satisfies p0 p1) (Bn fRec_pred_arrival_satisfies' p0 p1) := by
  unfold Bn
  repeat' with_reducible (first | apply Le.bind' | exact hfRec_pred_arrival_satisfies | exact hfRec_pred_arrival_satisfies _ _ | exact Le.rfl' _ | intro _)
def Cx (nE : Nat) (fRec_pred_arrival_satisfies : (Int × Sq) → Tr38 → Option Bool) (p0 : List Tr38) (p1f0 : Int × Sq) : Int → Option (Int ⊕ (Unit ⊕ Int))
  | x1 => (if x1 < (p0.length : Int) then (ix p0 x1).bind fun x2 => ((E2 nE fRec_pred_arrival_satisfies) p1f0 x2).bind fun x3 => (if x3 = true then some (.inr (.inr x1)) else some (.inl (w64 (x1 + 1)))) else some (.inr (.inl ())))
theorem Fv (nE : Nat) {fRec_pred_arrival_satisfies fRec_pred_arrival_satisfies' : (Int × Sq) → Tr38 → Option Bool} (hfRec_pred_arrival_satisfies : ∀ a0 a1,Le (fRec_pred_arrival_satisfies a0 a1) (fRec_pred_arrival_satisfies' a0 a1)) (p0 : List Tr38) (p1f0 : Int × Sq) : ∀ s,Le (Cx nE fRec_pred_arrival_satisfies p0 p1f0 s) (Ai fRec_pred_arrival_satisfies' p0 p1f0 s) := by
  intro x1
  unfold Cx Ai
  repeat' with_reducible (first | apply Le.bind' | apply Le.ite' | exact hfRec_pred_arrival_satisfies | exact hfRec_pred_arrival_satisfies _ _ | apply Il | exact Le.rfl' _ | intro _)
theorem Fk {fRec_pred_arrival_satisfies fRec_pred_arrival_satisfies' : (Int × Sq) → Tr38 → Option Bool} (hfRec_pred_arrival_satisfies : ∀ a0 a1,Le (fRec_pred_arrival_satisfies a0 a1) (fRec_pred_arrival_satisfies' a0 a1)) (p0 : List Tr38) (p1f0 : Int × Sq) : ∀ s,Le (Ai fRec_pred_arrival_satisfies p0 p1f0 s) (Ai fRec_pred_arrival_satisfies' p0 p1f0 s) := by
  intro x1
  unfold Ai
  repeat' with_reducible (first | apply Le.bind' | apply Le.ite' | exact hfRec_pred_arrival_satisfies | exact hfRec_pred_arrival_satisfies _ _ | apply Ij | exact Le.rfl' _ | intro _)
def CT (nE : Nat) (fRec_pred_arrival_satisfies : (Int × Sq) → Tr38 → Option Bool) (p0 : List Tr38) (p1f0 : Int × Sq) : Option Int := GO (Gm nE (Cx nE fRec_pred_arrival_satisfies p0 p1f0) 0) fun _ => some (-1)
theorem F0 (nE : Nat) {fRec_pred_arrival_satisfies fRec_pred_arrival_satisfies' : (Int × Sq) → Tr38 → Option Bool} (hfRec_pred_arrival_satisfies : ∀ a0 a1,Le (fRec_pred_arrival_satisfies a0 a1) (fRec_pred_arrival_satisfies' a0 a1)) (p0 : List Tr38) (p1f0 : Int × Sq) : Le (CT nE fRec_pred_arrival_satisfies p0 p1f0) (Aq fRec_pred_arrival_satisfies' p0 p1f0) := by
  unfold CT Aq
  repeat' with_reducible (first | apply Le.orR' | apply Le.loop' | exact hfRec_pred_arrival_satisfies | exact hfRec_pred_arrival_satisfies _ _ | apply Fv | exact Le.rfl' _ | intro _)
theorem F1 {fRec_pred_arrival_satisfies fRec_pred_arrival_satisfies' : (Int × Sq) → Tr38 → Option Bool} (hfRec_pred_arrival_satisfies : ∀ a0 a1,Le (fRec_pred_arrival_satisfies a0 a1) (fRec_pred_arrival_satisfies' a0 a1)) (p0 : List Tr38) (p1f0 : Int × Sq) : Le (Aq fRec_pred_arrival_satisfies p0 p1f0) (Aq fRec_pred_arrival_satisfies' p0 p1f0) := by
  unfold Aq
  repeat' with_reducible (first | apply Le.orR' | apply Le.loopM | exact hfRec_pred_arrival_satisfies | exact hfRec_pred_arrival_satisfies _ _ | apply Fk | exact Le.rfl' _ | intro _)
def CA (nE : Nat) (fRec_pred_arrival_satisfies : (Int × Sq) → Tr38 → Option Bool) (p0 : List Tr38) (p1f0 : Int × Sq) : Option Bool := ((CT nE fRec_pred_arrival_satisfies) p0 p1f0).bind fun x1 => some (decide (0 ≤ x1))
theorem Fw (nE : Nat) {fRec_pred_arrival_satisfies fRec_pred_arrival_satisfies' : (Int × Sq) → Tr38 → Option Bool} (hfRec_pred_arrival_satisfies : ∀ a0 a1,Le (fRec_pred_arrival_satisfies a0 a1) (fRec_pred_arrival_satisfies' a0 a1)) (p0 : List Tr38) (p1f0 : Int × Sq) : Le (CA nE fRec_pred_arrival_satisfies p0 p1f0) (Ax fRec_pred_arrival_satisfies' p0 p1f0) := by
  unfold CA Ax
  repeat' with_reducible (first | apply Le.bind' | exact hfRec_pred_arrival_satisfies | exact hfRec_pred_arrival_satisfies _ _ | apply F0 | exact Le.rfl' _ | intro _)
theorem Ft {fRec_pred_arrival_satisfies fRec_pred_arrival_satisfies' : (Int × Sq) → Tr38 → Option Bool} (hfRec_pred_arrival_satisfies : ∀ a0 a1,Le (fRec_pred_arrival_satisfies a0 a1) (fRec_pred_arrival_satisfies' a0 a1)) (p0 : List Tr38) (p1f0 : Int × Sq) : Le (Ax fRec_pred_arrival_satisfies p0 p1f0) (Ax fRec_pred_arrival_satisfies' p0 p1f0) := by
  unfold Ax
  repeat' with_reducible (first | apply Le.bind' | exact hfRec_pred_arrival_satisfies | exact hfRec_pred_arrival_satisfies _ _ | apply F1 | exact Le.rfl' _ | intro _)
def Cy (nE : Nat) (fRec_pred_arrival_satisfies : (Int × Sq) → Tr38 → Option Bool) (p0 : List Tr38) (p1f0 : Int × Sq) : Int → Option (Int ⊕ (Unit ⊕ Int))
  | x1 => (if x1 < (p0.length : Int) then (ix p0 x1).bind fun x2 => (fRec_pred_arrival_satisfies p1f0 x2).bind fun x3 => (if x3 = true then some (.inr (.inr x1)) else some (.inl (w64 (x1 + 1)))) else some (.inr (.inl ())))
theorem FE (nE : Nat) {fRec_pred_arrival_satisfies fRec_pred_arrival_satisfies' : (Int × Sq) → Tr38 → Option Bool} (hfRec_pred_arrival_satisfies : ∀ a0 a1,Le (fRec_pred_arrival_satisfies a0 a1) (fRec_pred_arrival_satisfies' a0 a1)) (p0 : List Tr38) (p1f0 : Int × Sq) : ∀ s,Le (Cy nE fRec_pred_arrival_satisfies p0 p1f0 s) (Aj fRec_pred_arrival_satisfies' p0 p1f0 s) := by
  intro x1
  unfold Cy Aj
  repeat' with_reducible (first | apply Le.bind' | apply Le.ite' | exact hfRec_pred_arrival_satisfies | exact hfRec_pred_arrival_satisfies _ _ | exact Le.rfl' _ | intro _)
theorem Fu {fRec_pred_arrival_satisfies fRec_pred_arrival_satisfies' : (Int × Sq) → Tr38 → Option Bool} (hfRec_pred_arrival_satisfies : ∀ a0 a1,Le (fRec_pred_arrival_satisfies a0 a1) (fRec_pred_arrival_satisfies' a0 a1)) (p0 : List Tr38) (p1f0 : Int × Sq) : ∀ s,Le (Aj fRec_pred_arrival_satisfies p0 p1f0 s) (Aj fRec_pred_arrival_satisfies' p0 p1f0 s) := by
  intro x1
  unfold Aj
  repeat' with_reducible (first | apply Le.bind' | apply Le.ite' | exact hfRec_pred_arrival_satisfies | exact hfRec_pred_arrival_satisfies _ _ | exact Le.rfl' _ | intro _)
def CR (nE : Nat) (fRec_pred_arrival_satisfies : (Int × Sq) → Tr38 → Option Bool) (p0 : List Tr38) (p1f0 : Int × Sq) : Option Int := GO (Gm nE (Cy nE fRec_pred_arrival_satisfies p0 p1f0) 0) fun _ => some (-1)
theorem F7 (nE : Nat) {fRec_pred_arrival_satisfies fRec_pred_arrival_satisfies' : (Int × Sq) → Tr38 → Option Bool} (hfRec_pred_arrival_satisfies : ∀ a0 a1,Le (fRec_pred_arrival_satisfies a0 a1) (fRec_pred_arrival_satisfies' a0 a1)) (p0 : List Tr38) (p1f0 : Int × Sq) : Le (CR nE fRec_pred_arrival_satisfies p0 p1f0) (Au fRec_pred_arrival_satisfies' p0 p1f0) := by
  unfold CR Au
  repeat' with_reducible (first | apply Le.orR' | apply Le.loop' | exact hfRec_pred_arrival_satisfies | exact hfRec_pred_arrival_satisfies _ _ | apply FE | exact Le.rfl' _ | intro _)
theorem F8 {fRec_pred_arrival_satisfies fRec_pred_arrival_satisfies' : (Int × Sq) → Tr38 → Option Bool} (hfRec_pred_arrival_satisfies : ∀ a0 a1,Le (fRec_pred_arrival_satisfies a0 a1) (fRec_pred_arrival_satisfies' a0 a1)) (p0 : List Tr38) (p1f0 : Int × Sq) : Le (Au fRec_pred_arrival_satisfies p0 p1f0) (Au fRec_pred_arrival_satisfies' p0 p1f0) := by
  unfold Au
  repeat' with_reducible (first | apply Le.orR' | apply Le.loopM | exact hfRec_pred_arrival_satisfies | exact hfRec_pred_arrival_satisfies _ _ | apply Fu | exact Le.rfl' _ | intro _)
def Cz (nE : Nat) (fRec_pred_arrival_satisfies : (Int × Sq) → Tr38 → Option Bool) (p0 : List Tr38) (p1f0 : Int × Sq) : Option Bool := ((CR nE fRec_pred_arrival_satisfies) p0 p1f0).bind fun x1 => some (decide (0 ≤ x1))
theorem Fy (nE : Nat) {fRec_pred_arrival_satisfies fRec_pred_arrival_satisfies' : (Int × Sq) → Tr38 → Option Bool} (hfRec_pred_arrival_satisfies : ∀ a0 a1,Le (fRec_pred_arrival_satisfies a0 a1) (fRec_pred_arrival_satisfies' a0 a1)) (p0 : List Tr38) (p1f0 : Int × Sq) : Le (Cz nE fRec_pred_arrival_satisfies p0 p1f0) (Av fRec_pred_arrival_satisfies' p0 p1f0) := by
  unfold Cz Av
  repeat' with_reducible (first | apply Le.bind' | exact hfRec_pred_arrival_satisfies | exact hfRec_pred_arrival_satisfies _ _ | apply F7 | exact Le.rfl' _ | intro _)
theorem FD {fRec_pred_arrival_satisfies fRec_pred_arrival_satisfies' : (Int × Sq) → Tr38 → Option Bool} (hfRec_pred_arrival_satisfies : ∀ a0 a1,Le (fRec_pred_arrival_satisfies a0 a1) (fRec_pred_arrival_satisfies' a0 a1)) (p0 : List Tr38) (p1f0 : Int × Sq) : Le (Av fRec_pred_arrival_satisfies p0 p1f0) (Av fRec_pred_arrival_satisfies' p0 p1f0) := by
  unfold Av
  repeat' with_reducible (first | apply Le.bind' | exact hfRec_pred_arrival_satisfies | exact hfRec_pred_arrival_satisfies _ _ | apply F8 | exact Le.rfl' _ | intro _)
def Ej (nE : Nat) (fRec : (Int × Sq) → Tr38 → Option Bool) (p0 : Int × Sq) (p1 : Tr38) : Option Bool := (if p1.un.1 = 1 then some true else (if p1.un.1 = 3 then (if (D2 p1.un.2.1) = true then (Oy nE p1.un.2.1 p0.1 p0.2.1 p0.2.2).bind fun x2 => some (decide (x2 = p1.un.2.2.1)) else some false).bind fun x1 => some x1 else (if p1.un.1 = 4 then (if 0 < (p1.un.2.2.2.length : Int) then (ix p1.un.2.2.2 0).bind fun x4 => ((E2 nE fRec) p0 x4).bind fun x5 => some x5 else some false).bind fun x3 => some x3 else (if p1.un.1 = 5 then ((CA nE fRec) p1.un.2.2.2 p0).bind fun x6 => some (!x6) else (if p1.un.1 = 6 then ((Cz nE fRec) p1.un.2.2.2 p0).bind fun x7 => some x7 else some false)))))
theorem I1 (nE : Nat) {fRec fRec' : (Int × Sq) → Tr38 → Option Bool} (hfRec : ∀ a0 a1,Le (fRec a0 a1) (fRec' a0 a1)) (p0 : Int × Sq) (p1 : Tr38) : Le (Ej nE fRec p0 p1) (A3 fRec' p0 p1) := by
  unfold Ej A3
  repeat' with_reducible (first | apply Le.bind' | apply Le.ite' | exact hfRec | exact hfRec _ _ | apply Xd | apply Il | apply Fw | apply Fy | exact Le.rfl' _ | intro _)
theorem I9 {fRec fRec' : (Int × Sq) → Tr38 → Option Bool} (hfRec : ∀ a0 a1,Le (fRec a0 a1) (fRec' a0 a1)) (p0 : Int × Sq) (p1 : Tr38) : Le (A3 fRec p0 p1) (A3 fRec' p0 p1) := by
  unfold A3
  repeat' with_reducible (first | apply Le.bind' | apply Le.ite' | exact hfRec | exact hfRec _ _ | apply Ij | apply Ft | apply FD | exact Le.rfl' _ | intro _)
def EG (nE : Nat) : Nat → (Int × Sq) → Tr38 → Option Bool
  | 0 => fun _ _ => none
  | n + 1 => Ej nE (EG nE n)
theorem Gk (nE : Nat) : ∀ (m : Nat) a0 a1,Le (EG nE m a0 a1) (AW m a0 a1)
  | 0,a0,a1 => fun _ h => nomatch h
  | m + 1,a0,a1 => I1 nE (Gk nE m) a0 a1
theorem El : ∀ (m : Nat) a0 a1,Le (AW m a0 a1) (AW (m + 1) a0 a1)
  | 0,a0,a1 => fun _ h => nomatch h
  | m + 1,a0,a1 => I9 (El m) a0 a1
def G0 (nE : Nat) (p0 : Int × Sq) (p1 : Tr38) : Option Bool := EG nE nE p0 p1
theorem JV (nE : Nat) (p0 : Int × Sq) (p1 : Tr38) : Le (G0 nE p0 p1) (Dl p0 p1) := fun r e => B4 (g := fun n => AW n p0 p1) (fun n r h => El n p0 p1 r h) (n := nE) (Gk nE nE p0 p1 r e)
def Ki (nE : Nat) (p0 : Tr38) (p1 : Int) (p2 : Int) (p3 : Int × Int × Int × Int) : Option Bool := (G0 nE (p1,p2,p3) p0).bind fun x1 => some x1
theorem OD (nE : Nat) (p0 : Tr38) (p1 : Int) (p2 : Int) (p3 : Int × Int × Int × Int) : Le (Ki nE p0 p1 p2 p3) (Fm p0 p1 p2 p3) := by
  unfold Ki Fm
  repeat' with_reducible (first | apply Le.bind' | apply JV | exact Le.rfl' _ | intro _)
def KE (nE : Nat) (p0 : Int) (p1 : Int) : Option Bool := (if 0 ≤ p1 then (Ji nE p0).bind fun x2 => some (decide (p1 ≤ x2)) else some false).bind fun x1 => some x1
theorem SC (nE : Nat) (p0 : Int) (p1 : Int) : Le (KE nE p0 p1) (Gs p0 p1) := by
  unfold KE Gs
  repeat' with_reducible (first | apply Le.bind' | apply Le.ite' | apply N0 | exact Le.rfl' _ | intro _)
def KK (nE : Nat) (p0 : Int × Int × Int × Int) (p1 : Int) (p2 : Int) : Option (Int × Int × Int × Int) := ((if (C5 p1) = true then (KE nE p1 p2).bind fun x6 => some x6 else some false).bind fun x5 => (if x5 = true then (ix ([p0.1,p0.2.1,p0.2.2.1,p0.2.2.2] : List Int) p1).bind fun x7 => some ((if p1 = 0 then p2 else p0.1),(if p1 = 1 then p2 else p0.2.1),(if p1 = 2 then p2 else p0.2.2.1),(if p1 = 3 then p2 else p0.2.2.2)) else some (p0.1,p0.2.1,p0.2.2.1,p0.2.2.2))).bind fun (x1,x2,x3,x4) => some (x1,x2,x3,x4)
theorem RT (nE : Nat) (p0 : Int × Int × Int × Int) (p1 : Int) (p2 : Int) : Le (KK nE p0 p1 p2) (FK p0 p1 p2) := by
  unfold KK FK
  repeat' with_reducible (first | apply Le.bind' | apply Le.ite' | apply SC | exact Le.rfl' _ | (refine Le.pi2 ?_; intro _) | intro _)
def HY (nE : Nat) (p0 : Sq) (p1 : Int) (p2 : Int) : Option Sq := (if p1 = 4 then some p2 else some p0.1).bind fun x1 => (KK nE p0.2 p1 p2).bind fun x2 => some (x1,x2)
theorem OA (nE : Nat) (p0 : Sq) (p1 : Int) (p2 : Int) : Le (HY nE p0 p1 p2) (DE p0 p1 p2) := by
  unfold HY DE
  repeat' with_reducible (first | apply Le.bind' | apply Le.ite' | apply RT | exact Le.rfl' _ | intro _)
def FS (nE : Nat) (fRec_policy_results : Tr41 → Int → Sq → Option (List Sq)) (p1 : Int) (x4 : Tr41) (kx5156 : Sq) : Option (List Sq) := (fRec_policy_results (Tr41.of (x4.un.1,f38 x4.un.2.1,x4.un.2.2.1,x4.un.2.2.2.1,x4.un.2.2.2.2)) p1 kx5156).bind fun x6 => some x6
theorem LH (nE : Nat) {fRec_policy_results fRec_policy_results' : Tr41 → Int → Sq → Option (List Sq)} (hfRec_policy_results : ∀ a0 a1 a2,Le (fRec_policy_results a0 a1 a2) (fRec_policy_results' a0 a1 a2)) (p1 : Int) (x4 : Tr41) (kx5156 : Sq) : Le (FS nE fRec_policy_results p1 x4 kx5156) (Cf fRec_policy_results' p1 x4 kx5156) := by
  unfold FS Cf
  repeat' with_reducible (first | apply Le.bind' | exact hfRec_policy_results | exact hfRec_policy_results _ _ _ | exact Le.rfl' _ | intro _)
theorem La {fRec_policy_results fRec_policy_results' : Tr41 → Int → Sq → Option (List Sq)} (hfRec_policy_results : ∀ a0 a1 a2,Le (fRec_policy_results a0 a1 a2) (fRec_policy_results' a0 a1 a2)) (p1 : Int) (x4 : Tr41) (kx5156 : Sq) : Le (Cf fRec_policy_results p1 x4 kx5156) (Cf fRec_policy_results' p1 x4 kx5156) := by
  unfold Cf
  repeat' with_reducible (first | apply Le.bind' | exact hfRec_policy_results | exact hfRec_policy_results _ _ _ | exact Le.rfl' _ | intro _)
def FU (nE : Nat) (fRec_policy_results : Tr41 → Int → Sq → Option (List Sq)) (p0 : List Tr41) (p1 : Int) : ((List Sq) × Int) → Option (((List Sq) × Int) ⊕ (List Sq))
  | (x2,x3) => (if x3 < (p0.length : Int) then (ix p0 x3).bind fun x4 => (JU AL (FS nE fRec_policy_results p1 x4) x2 ([] : List Sq)).bind fun x5 => some (.inl (x5,w64 (x3 + 1))) else some (.inr x2))
theorem K0 (nE : Nat) {fRec_policy_results fRec_policy_results' : Tr41 → Int → Sq → Option (List Sq)} (hfRec_policy_results : ∀ a0 a1 a2,Le (fRec_policy_results a0 a1 a2) (fRec_policy_results' a0 a1 a2)) (p0 : List Tr41) (p1 : Int) : ∀ s,Le (FU nE fRec_policy_results p0 p1 s) (Br fRec_policy_results' p0 p1 s) := by
  rintro ⟨x2,x3⟩
  unfold FU Br
  repeat' with_reducible (first | apply Le.bind' | apply Le.ite' | refine Le.sall' ?_ _ _ | exact hfRec_policy_results | exact hfRec_policy_results _ _ _ | apply LH | exact Le.rfl' _ | intro _)
theorem Ld {fRec_policy_results fRec_policy_results' : Tr41 → Int → Sq → Option (List Sq)} (hfRec_policy_results : ∀ a0 a1 a2,Le (fRec_policy_results a0 a1 a2) (fRec_policy_results' a0 a1 a2)) (p0 : List Tr41) (p1 : Int) : ∀ s,Le (Br fRec_policy_results p0 p1 s) (Br fRec_policy_results' p0 p1 s) := by
  rintro ⟨x2,x3⟩
  show Le (Br fRec_policy_results p0 p1 (x2,x3)) (Br fRec_policy_results' p0 p1 (x2,x3))
  unfold Br
  repeat' with_reducible (first | apply Le.bind' | apply Le.ite' | refine Le.sall' ?_ _ _ | exact hfRec_policy_results | exact hfRec_policy_results _ _ _ | apply La | exact Le.rfl' _ | intro _)
def GX (nE : Nat) (fRec_policy_results : Tr41 → Int → Sq → Option (List Sq)) (p0 : List Tr41) (p1 : Int) (p2 : Sq) : Option (List Sq) := (Gm nE (FU nE fRec_policy_results p0 p1) ((F9 AL ([] : List Sq) p2),0)).bind fun x1 => some x1
theorem M6 (nE : Nat) {fRec_policy_results fRec_policy_results' : Tr41 → Int → Sq → Option (List Sq)} (hfRec_policy_results : ∀ a0 a1 a2,Le (fRec_policy_results a0 a1 a2) (fRec_policy_results' a0 a1 a2)) (p0 : List Tr41) (p1 : Int) (p2 : Sq) : Le (GX nE fRec_policy_results p0 p1 p2) (Cr fRec_policy_results' p0 p1 p2) := by
  unfold GX Cr
  repeat' with_reducible (first | apply Le.bind' | apply Le.loop' | exact hfRec_policy_results | exact hfRec_policy_results _ _ _ | apply K0 | exact Le.rfl' _ | intro _)
theorem MX {fRec_policy_results fRec_policy_results' : Tr41 → Int → Sq → Option (List Sq)} (hfRec_policy_results : ∀ a0 a1 a2,Le (fRec_policy_results a0 a1 a2) (fRec_policy_results' a0 a1 a2)) (p0 : List Tr41) (p1 : Int) (p2 : Sq) : Le (Cr fRec_policy_results p0 p1 p2) (Cr fRec_policy_results' p0 p1 p2) := by
  unfold Cr
  repeat' with_reducible (first | apply Le.bind' | apply Le.loopM | exact hfRec_policy_results | exact hfRec_policy_results _ _ _ | apply Ld | exact Le.rfl' _ | intro _)
def Ja (nE : Nat) (p0 : Tr41) (p1 : Int) (p2 : Sq) : Option Tr41 := ((Ki nE (f38 p0.un.2.1) p1 p2.1 p2.2).bind fun x2 => (if x2 = true then some 0 else some 1)).bind fun x1 => (if (p0.un.2.2.2.2.length : Int) ≤ x1 then some (Tr41.of (0,Tr38.of (0,0,0,([] : List Tr38)),0,0,([] : List Tr41))) else (ix p0.un.2.2.2.2 x1).bind fun x3 => some (Tr41.of (x3.un.1,f38 x3.un.2.1,x3.un.2.2.1,x3.un.2.2.2.1,x3.un.2.2.2.2)))
theorem Qa (nE : Nat) (p0 : Tr41) (p1 : Int) (p2 : Sq) : Le (Ja nE p0 p1 p2) (Fa p0 p1 p2) := by
  unfold Ja Fa
  repeat' with_reducible (first | apply Le.bind' | apply Le.ite' | apply OD | exact Le.rfl' _ | intro _)
def GW (nE : Nat) (fRec : Tr41 → Int → Sq → Option (List Sq)) (p0 : Tr41) (p1 : Int) (p2 : Sq) : ((List Sq) × Int) → Option (((List Sq) × Int) ⊕ (List Sq))
  | (x5,x6) => (if x6 < (p0.un.2.2.2.2.length : Int) then (ix p0.un.2.2.2.2 x6).bind fun x7 => (fRec (Tr41.of (x7.un.1,f38 x7.un.2.1,x7.un.2.2.1,x7.un.2.2.2.1,x7.un.2.2.2.2)) p1 p2).bind fun x8 => some (.inl ((On AL x5 x8),w64 (x6 + 1))) else some (.inr x5))
theorem MB (nE : Nat) {fRec fRec' : Tr41 → Int → Sq → Option (List Sq)} (hfRec : ∀ a0 a1 a2,Le (fRec a0 a1 a2) (fRec' a0 a1 a2)) (p0 : Tr41) (p1 : Int) (p2 : Sq) : ∀ s,Le (GW nE fRec p0 p1 p2 s) (B5 fRec' p0 p1 p2 s) := by
  rintro ⟨x5,x6⟩
  unfold GW B5
  repeat' with_reducible (first | apply Le.bind' | apply Le.ite' | exact hfRec | exact hfRec _ _ _ | exact Le.rfl' _ | intro _)
theorem MK {fRec fRec' : Tr41 → Int → Sq → Option (List Sq)} (hfRec : ∀ a0 a1 a2,Le (fRec a0 a1 a2) (fRec' a0 a1 a2)) (p0 : Tr41) (p1 : Int) (p2 : Sq) : ∀ s,Le (B5 fRec p0 p1 p2 s) (B5 fRec' p0 p1 p2 s) := by
  rintro ⟨x5,x6⟩
  show Le (B5 fRec p0 p1 p2 (x5,x6)) (B5 fRec' p0 p1 p2 (x5,x6))
  unfold B5
  repeat' with_reducible (first | apply Le.bind' | apply Le.ite' | exact hfRec | exact hfRec _ _ _ | exact Le.rfl' _ | intro _)
def GS (nE : Nat) (fRec : Tr41 → Int → Sq → Option (List Sq)) (p0 : Tr41) (p1 : Int) (p2 : Sq) : Option (List Sq) := GO (if p0.un.1 = 1 then (Ki nE (f38 p0.un.2.1) p1 p2.1 p2.2).bind fun x1 => (if x1 = true then some (.inr (F9 AL ([] : List Sq) p2)) else some (.inl ())) else (if p0.un.1 = 2 then (HY nE p2 p0.un.2.2.1 p0.un.2.2.2.1).bind fun x2 => some (.inr (F9 AL ([] : List Sq) x2)) else (if p0.un.1 = 3 then ((GX nE fRec) p0.un.2.2.2.2 p1 p2).bind fun x3 => some (.inr x3) else (if p0.un.1 = 4 then (Gm nE (GW nE fRec p0 p1 p2) (([] : List Sq),0)).bind fun x4 => some (.inr x4) else (if p0.un.1 = 5 then (Ja nE (Tr41.of (p0.un.1,f38 p0.un.2.1,p0.un.2.2.1,p0.un.2.2.2.1,p0.un.2.2.2.2)) p1 p2).bind fun x9 => (fRec (Tr41.of (x9.un.1,f38 x9.un.2.1,x9.un.2.2.1,x9.un.2.2.2.1,x9.un.2.2.2.2)) p1 p2).bind fun x10 => some (.inr x10) else some (.inl ())))))) fun _ => some ([] : List Sq)
theorem Nf (nE : Nat) {fRec fRec' : Tr41 → Int → Sq → Option (List Sq)} (hfRec : ∀ a0 a1 a2,Le (fRec a0 a1 a2) (fRec' a0 a1 a2)) (p0 : Tr41) (p1 : Int) (p2 : Sq) : Le (GS nE fRec p0 p1 p2) (AX fRec' p0 p1 p2) := by
  unfold GS AX
  repeat' with_reducible (first | apply Le.orR' | apply Le.bind' | apply Le.ite' | apply Le.loop' | exact hfRec | exact hfRec _ _ _ | apply OD | apply OA | apply M6 | apply Qa | apply MB | exact Le.rfl' _ | intro _)
theorem M9 {fRec fRec' : Tr41 → Int → Sq → Option (List Sq)} (hfRec : ∀ a0 a1 a2,Le (fRec a0 a1 a2) (fRec' a0 a1 a2)) (p0 : Tr41) (p1 : Int) (p2 : Sq) : Le (AX fRec p0 p1 p2) (AX fRec' p0 p1 p2) := by
  unfold AX
  repeat' with_reducible (first | apply Le.orR' | apply Le.bind' | apply Le.ite' | apply Le.loopM | exact hfRec | exact hfRec _ _ _ | apply MX | apply MK | exact Le.rfl' _ | intro _)
def Hv (nE : Nat) : Nat → Tr41 → Int → Sq → Option (List Sq)
  | 0 => fun _ _ _ => none
  | n + 1 => GS nE (Hv nE n)
theorem Jd (nE : Nat) : ∀ (m : Nat) a0 a1 a2,Le (Hv nE m a0 a1 a2) (BE m a0 a1 a2)
  | 0,a0,a1,a2 => fun _ h => nomatch h
  | m + 1,a0,a1,a2 => Nf nE (Jd nE m) a0 a1 a2
theorem GV : ∀ (m : Nat) a0 a1 a2,Le (BE m a0 a1 a2) (BE (m + 1) a0 a1 a2)
  | 0,a0,a1,a2 => fun _ h => nomatch h
  | m + 1,a0,a1,a2 => M9 (GV m) a0 a1 a2
def LA (nE : Nat) (p0 : Tr41) (p1 : Int) (p2 : Sq) : Option (List Sq) := Hv nE nE p0 p1 p2
theorem OV (nE : Nat) (p0 : Tr41) (p1 : Int) (p2 : Sq) : Le (LA nE p0 p1 p2) (Fo p0 p1 p2) := fun r e => B4 (g := fun n => BE n p0 p1 p2) (fun n r h => GV n p0 p1 p2 r h) (n := nE) (Jd nE nE p0 p1 p2 r e)
def C8 (nE : Nat) (p0 : List Sq) : Option (List Sq) := if xU p0 = true then some p0 else none
theorem GP (nE : Nat) (p0 : List Sq) : Le (C8 nE p0) (AK p0) := fun r h => by
  unfold C8 at h
  split at h
  · rename_i hc
    cases h
    obtain ⟨h1,h2⟩ := XK hc
    exact V9 h1 (List.Perm.refl _) (by omega)
  · cases h
def OU (nE : Nat) (p0 : Tr41) (p1 : Int) (p2 : Int) (p3 : Int × Int × Int × Int) : Option (List Sq) := (LA nE p0 p1 (p2,p3)).bind fun S => if xU S = true then some S else none
theorem TA (nE : Nat) (p0 : Tr41) (p1 : Int) (p2 : Int) (p3 : Int × Int × Int × Int) : Le (OU nE p0 p1 p2 p3) (Hn p0 p1 p2 p3) := fun r h => by
  obtain ⟨S,h1,h2⟩ := Bz h
  split at h2
  · rename_i hc
    cases h2
    obtain ⟨h3,h4⟩ := XK hc
    exact eI (OV nE _ _ _ _ h1) h3 (by omega)
  · cases h2
def Df (nE : Nat) (p0 : List Sq) : Option (List Sq) := if xU p0 = true then some p0 else none
theorem G5 (nE : Nat) (p0 : List Sq) : Le (Df nE p0) (A8 p0) := fun r h => by
  unfold Df at h
  split at h
  · rename_i hc
    cases h
    obtain ⟨h1,h2⟩ := XK hc
    exact WJ h1 (by omega)
  · cases h
def Ei (nE : Nat) (p1 : Sq) (x1 : (List Sq)) : ((List Sq) × Int) → Option (((List Sq) × Int) ⊕ (List Sq))
  | (x3,x4) => (if x4 < (x1.length : Int) then ((ix x3 x4).bind fun x6 => (if x6.2.1 = p1.2.1 then (ix x3 x4).bind fun x7 => some (AP x3 x4 (x7.1,((-1),x7.2.2.1,x7.2.2.2.1,x7.2.2.2.2))) else some x3)).bind fun x5 => ((ix x5 x4).bind fun x9 => (if x9.2.2.1 = p1.2.2.1 then (ix x5 x4).bind fun x10 => some (AP x5 x4 (x10.1,(x10.2.1,(-1),x10.2.2.2.1,x10.2.2.2.2))) else some x5)).bind fun x8 => ((ix x8 x4).bind fun x12 => (if x12.2.2.2.1 = p1.2.2.2.1 then (ix x8 x4).bind fun x13 => some (AP x8 x4 (x13.1,(x13.2.1,x13.2.2.1,(-1),x13.2.2.2.2))) else some x8)).bind fun x11 => ((ix x11 x4).bind fun x15 => (if x15.2.2.2.2 = p1.2.2.2.2 then (ix x11 x4).bind fun x16 => some (AP x11 x4 (x16.1,(x16.2.1,x16.2.2.1,x16.2.2.2.1,(-1)))) else some x11)).bind fun x14 => some (.inl (x14,w64 (x4 + 1))) else some (.inr x3))
theorem Jb (nE : Nat) (p1 : Sq) (x1 : (List Sq)) : ∀ s,Le (Ei nE p1 x1 s) (Cc p1 x1 s) := by
  rintro ⟨x3,x4⟩
  unfold Ei Cc
  repeat' with_reducible (first | apply Le.bind' | apply Le.ite' | exact Le.rfl' _ | intro _)
def Fb (nE : Nat) (p0 : Tr41 × Int × (List Int × List Int × List Int × List Int × List Int)) (p1 : Sq) : Option (List Sq) := (OU nE (Tr41.of (p0.1.un.1,f38 p0.1.un.2.1,p0.1.un.2.2.1,p0.1.un.2.2.2.1,p0.1.un.2.2.2.2)) p0.2.1 p1.1 p1.2).bind fun x1 => (Gm nE (Ei nE p1 x1) (x1,0)).bind fun x2 => (C8 nE x2).bind fun x17 => (Df nE x17).bind fun x18 => some x18
theorem J2 (nE : Nat) (p0 : Tr41 × Int × (List Int × List Int × List Int × List Int × List Int)) (p1 : Sq) : Le (Fb nE p0 p1) (BK p0 p1) := by
  unfold Fb BK
  repeat' with_reducible (first | apply Le.bind' | apply Le.loop' | apply GP | apply TA | apply G5 | apply Jb | exact Le.rfl' _ | intro _)
def Da (nE : Nat) (p0 : List Sq) (p1 : List Sq) : Int → Option (Int ⊕ (Unit ⊕ Bool))
  | x1 => (if x1 < (p0.length : Int) then (ix p0 x1).bind fun x2 => (ix p1 x1).bind fun x3 => (if (!(decide (x2.1 = x3.1 ∧ x2.2.1 = x3.2.1 ∧ x2.2.2.1 = x3.2.2.1 ∧ x2.2.2.2.1 = x3.2.2.2.1 ∧ x2.2.2.2.2 = x3.2.2.2.2))) = true then some (.inr (.inr false)) else some (.inl (w64 (x1 + 1)))) else some (.inr (.inl ())))
theorem GY (nE : Nat) (p0 : List Sq) (p1 : List Sq) : ∀ s,Le (Da nE p0 p1 s) (AB p0 p1 s) := by
  intro x1
  unfold Da AB
  repeat' with_reducible (first | apply Le.bind' | apply Le.ite' | exact Le.rfl' _ | intro _)
def Dn (nE : Nat) (p0 : List Sq) (p1 : List Sq) : Option Bool := (if (p0.length : Int) ≠ (p1.length : Int) then some false else GO (Gm nE (Da nE p0 p1) 0) fun _ => some true)
theorem HS (nE : Nat) (p0 : List Sq) (p1 : List Sq) : Le (Dn nE p0 p1) (AU p0 p1) := by
  unfold Dn AU
  repeat' with_reducible (first | apply Le.orR' | apply Le.ite' | apply Le.loop' | apply GY | exact Le.rfl' _ | intro _)
def GR (nE : Nat) (p0 : Int × (Int × Int × Int × Int) × (List Sq)) (p1 : Int × (Int × Int × Int × Int) × (List Sq)) (p2 : Int) : Option Bool := ((Es nE ((AN p0).1,((AN p0).2.1,(AN p0).2.2.1,(AN p0).2.2.2.1,(AN p0).2.2.2.2)) p2 (-1)).bind fun x2 => (Es nE ((AN p1).1,((AN p1).2.1,(AN p1).2.2.1,(AN p1).2.2.2.1,(AN p1).2.2.2.2)) p2 (-1)).bind fun x3 => (if x2.1 = x3.1 ∧ x2.2.1 = x3.2.1 ∧ x2.2.2.1 = x3.2.2.1 ∧ x2.2.2.2.1 = x3.2.2.2.1 ∧ x2.2.2.2.2 = x3.2.2.2.2 then (Dn nE p0.2.2 p1.2.2).bind fun x4 => some x4 else some false)).bind fun x1 => some x1
theorem MA (nE : Nat) (p0 : Int × (Int × Int × Int × Int) × (List Sq)) (p1 : Int × (Int × Int × Int × Int) × (List Sq)) (p2 : Int) : Le (GR nE p0 p1 p2) (Ef p0 p1 p2) := by
  unfold GR Ef
  repeat' with_reducible (first | apply Le.bind' | apply Le.ite' | apply Me | apply HS | exact Le.rfl' _ | intro _)
def Bq (nE : Nat) (p0 : List (Int × (Int × Int × Int × Int) × (List Sq))) (p1 : List (Int × (Int × Int × Int × Int) × (List Sq))) (p2c0 : Int) : Int → Option (Int ⊕ (Unit ⊕ Bool))
  | x1 => (if x1 < (p0.length : Int) then (ix p0 x1).bind fun x2 => (ix p1 x1).bind fun x3 => (GR nE x2 x3 p2c0).bind fun x4 => (if (!x4) = true then some (.inr (.inr false)) else some (.inl (w64 (x1 + 1)))) else some (.inr (.inl ())))
theorem Dv (nE : Nat) (p0 : List (Int × (Int × Int × Int × Int) × (List Sq))) (p1 : List (Int × (Int × Int × Int × Int) × (List Sq))) (p2c0 : Int) : ∀ s,Le (Bq nE p0 p1 p2c0 s) (Ap p0 p1 p2c0 s) := by
  intro x1
  unfold Bq Ap
  repeat' with_reducible (first | apply Le.bind' | apply Le.ite' | apply MA | exact Le.rfl' _ | intro _)
def BF (nE : Nat) (p0 : List (Int × (Int × Int × Int × Int) × (List Sq))) (p1 : List (Int × (Int × Int × Int × Int) × (List Sq))) (p2c0 : Int) : Option Bool := (if (p0.length : Int) ≠ (p1.length : Int) then some false else GO (Gm nE (Bq nE p0 p1 p2c0) 0) fun _ => some true)
theorem DR (nE : Nat) (p0 : List (Int × (Int × Int × Int × Int) × (List Sq))) (p1 : List (Int × (Int × Int × Int × Int) × (List Sq))) (p2c0 : Int) : Le (BF nE p0 p1 p2c0) (AQ p0 p1 p2c0) := by
  unfold BF AQ
  repeat' with_reducible (first | apply Le.orR' | apply Le.ite' | apply Le.loop' | apply Dv | exact Le.rfl' _ | intro _)
def Ib (nE : Nat) (p0 : List (Int × (Int × Int × Int × Int) × (List Sq))) (p1 : List (Int × (Int × Int × Int × Int) × (List Sq))) (p2 : Int) : Option Bool := (BF nE p0 p1 p2).bind fun x1 => some x1
theorem Oo (nE : Nat) (p0 : List (Int × (Int × Int × Int × Int) × (List Sq))) (p1 : List (Int × (Int × Int × Int × Int) × (List Sq))) (p2 : Int) : Le (Ib nE p0 p1 p2) (Db p0 p1 p2) := by
  unfold Ib Db
  repeat' with_reducible (first | apply Le.bind' | apply DR | exact Le.rfl' _ | intro _)
def E9 (nE : Nat) (fRec : (Tr41 × Int × (List Int × List Int × List Int × List Int × List Int)) → Int → Sq → Option (List (Int × (Int × Int × Int × Int) × (List Sq)))) (p0 : Tr41 × Int × (List Int × List Int × List Int × List Int × List Int)) (p1 : Int) (p2 : Sq) (x2 : Int) (x3 : (List (Int × (Int × Int × Int × Int) × (List Sq)))) (x5 : List Int) : ((List (Int × (Int × Int × Int × Int) × (List Sq))) × Int) → Option (((List (Int × (Int × Int × Int × Int) × (List Sq))) × Int) ⊕ (List (Int × (Int × Int × Int × Int) × (List Sq))))
  | (x6,x7) => (if x7 < (x5.length : Int) then ((ix x5 x7).bind fun x9 => (Es nE p2 x2 x9).bind fun x10 => (fRec (Tr41.of (p0.1.un.1,f38 p0.1.un.2.1,p0.1.un.2.2.1,p0.1.un.2.2.2.1,p0.1.un.2.2.2.2),p0.2.1,p0.2.2) (w64 (p1 + 1)) x10).bind fun x11 => (Ib nE x11 x3 x2).bind fun x12 => (if (!x12) = true then (HT x6 x11).bind fun x13 => some x13 else some x6)).bind fun x8 => some (.inl (x8,w64 (x7 + 1))) else some (.inr x6))
theorem JT (nE : Nat) {fRec fRec' : (Tr41 × Int × (List Int × List Int × List Int × List Int × List Int)) → Int → Sq → Option (List (Int × (Int × Int × Int × Int) × (List Sq)))} (hfRec : ∀ a0 a1 a2,Le (fRec a0 a1 a2) (fRec' a0 a1 a2)) (p0 : Tr41 × Int × (List Int × List Int × List Int × List Int × List Int)) (p1 : Int) (p2 : Sq) (x2 : Int) (x3 : (List (Int × (Int × Int × Int × Int) × (List Sq)))) (x5 : List Int) : ∀ s,Le (E9 nE fRec p0 p1 p2 x2 x3 x5 s) (A1 fRec' p0 p1 p2 x2 x3 x5 s) := by
  rintro ⟨x6,x7⟩
  unfold E9 A1
  repeat' with_reducible (first | apply Le.bind' | apply Le.ite' | exact hfRec | exact hfRec _ _ _ | apply Me | apply Oo | exact Le.rfl' _ | intro _)
theorem JX {fRec fRec' : (Tr41 × Int × (List Int × List Int × List Int × List Int × List Int)) → Int → Sq → Option (List (Int × (Int × Int × Int × Int) × (List Sq)))} (hfRec : ∀ a0 a1 a2,Le (fRec a0 a1 a2) (fRec' a0 a1 a2)) (p0 : Tr41 × Int × (List Int × List Int × List Int × List Int × List Int)) (p1 : Int) (p2 : Sq) (x2 : Int) (x3 : (List (Int × (Int × Int × Int × Int) × (List Sq)))) (x5 : List Int) : ∀ s,Le (A1 fRec p0 p1 p2 x2 x3 x5 s) (A1 fRec' p0 p1 p2 x2 x3 x5 s) := by
  rintro ⟨x6,x7⟩
  show Le (A1 fRec p0 p1 p2 x2 x3 x5 (x6,x7)) (A1 fRec' p0 p1 p2 x2 x3 x5 (x6,x7))
  unfold A1
  repeat' with_reducible (first | apply Le.bind' | apply Le.ite' | exact hfRec | exact hfRec _ _ _ | exact Le.rfl' _ | intro _)
def E4 (nE : Nat) (fRec : (Tr41 × Int × (List Int × List Int × List Int × List Int × List Int)) → Int → Sq → Option (List (Int × (Int × Int × Int × Int) × (List Sq)))) (p0 : Tr41 × Int × (List Int × List Int × List Int × List Int × List Int)) (p1 : Int) (p2 : Sq) : Option (List (Int × (Int × Int × Int × Int) × (List Sq))) := (if p1 = 5 then (Fb nE (Tr41.of (p0.1.un.1,f38 p0.1.un.2.1,p0.1.un.2.2.1,p0.1.un.2.2.2.1,p0.1.un.2.2.2.2),p0.2.1,p0.2.2) p2).bind fun x1 => some ([(p2.1,p2.2,x1)] : List (Int × (Int × Int × Int × Int) × (List Sq))) else (Cn nE p1).bind fun x2 => (fRec (Tr41.of (p0.1.un.1,f38 p0.1.un.2.1,p0.1.un.2.2.1,p0.1.un.2.2.2.1,p0.1.un.2.2.2.2),p0.2.1,p0.2.2) (w64 (p1 + 1)) p2).bind fun x3 => ((ix ([p0.2.2.1,p0.2.2.2.1,p0.2.2.2.2.1,p0.2.2.2.2.2.1,p0.2.2.2.2.2.2] : List (List Int)) p1).bind fun x5 => Gm nE (E9 nE fRec p0 p1 p2 x2 x3 x5) ([],0)).bind fun x4 => (HT x4 x3).bind fun x14 => some x14)
theorem JZ (nE : Nat) {fRec fRec' : (Tr41 × Int × (List Int × List Int × List Int × List Int × List Int)) → Int → Sq → Option (List (Int × (Int × Int × Int × Int) × (List Sq)))} (hfRec : ∀ a0 a1 a2,Le (fRec a0 a1 a2) (fRec' a0 a1 a2)) (p0 : Tr41 × Int × (List Int × List Int × List Int × List Int × List Int)) (p1 : Int) (p2 : Sq) : Le (E4 nE fRec p0 p1 p2) (Be fRec' p0 p1 p2) := by
  unfold E4 Be
  repeat' with_reducible (first | apply Le.bind' | apply Le.ite' | apply Le.loop' | exact hfRec | exact hfRec _ _ _ | apply Mk | apply J2 | apply JT | exact Le.rfl' _ | intro _)
theorem J0 {fRec fRec' : (Tr41 × Int × (List Int × List Int × List Int × List Int × List Int)) → Int → Sq → Option (List (Int × (Int × Int × Int × Int) × (List Sq)))} (hfRec : ∀ a0 a1 a2,Le (fRec a0 a1 a2) (fRec' a0 a1 a2)) (p0 : Tr41 × Int × (List Int × List Int × List Int × List Int × List Int)) (p1 : Int) (p2 : Sq) : Le (Be fRec p0 p1 p2) (Be fRec' p0 p1 p2) := by
  unfold Be
  repeat' with_reducible (first | apply Le.bind' | apply Le.ite' | apply Le.loopM | exact hfRec | exact hfRec _ _ _ | apply JX | exact Le.rfl' _ | intro _)
def Fq (nE : Nat) : Nat → (Tr41 × Int × (List Int × List Int × List Int × List Int × List Int)) → Int → Sq → Option (List (Int × (Int × Int × Int × Int) × (List Sq)))
  | 0 => fun _ _ _ => none
  | n + 1 => E4 nE (Fq nE n)
theorem Hf (nE : Nat) : ∀ (m : Nat) a0 a1 a2,Le (Fq nE m a0 a1 a2) (A0 m a0 a1 a2)
  | 0,a0,a1,a2 => fun _ h => nomatch h
  | m + 1,a0,a1,a2 => JZ nE (Hf nE m) a0 a1 a2
theorem Fe : ∀ (m : Nat) a0 a1 a2,Le (A0 m a0 a1 a2) (A0 (m + 1) a0 a1 a2)
  | 0,a0,a1,a2 => fun _ h => nomatch h
  | m + 1,a0,a1,a2 => J0 (Fe m) a0 a1 a2
def Ik (nE : Nat) (p0 : Tr41 × Int × (List Int × List Int × List Int × List Int × List Int)) (p1 : Int) (p2 : Sq) : Option (List (Int × (Int × Int × Int × Int) × (List Sq))) := Fq nE nE p0 p1 p2
theorem LY (nE : Nat) (p0 : Tr41 × Int × (List Int × List Int × List Int × List Int × List Int)) (p1 : Int) (p2 : Sq) : Le (Ik nE p0 p1 p2) (Dx p0 p1 p2) := fun r e => B4 (g := fun n => A0 n p0 p1 p2) (fun n r h => Fe n p0 p1 p2 r h) (n := nE) (Hf nE nE p0 p1 p2 r e)
def LS (nE : Nat) (p0 : Tr41) (p1 : Int) : Option ((List (Int × (Int × Int × Int × Int) × (List Sq))) × Int) := (JE nE (Tr41.of (p0.un.1,f38 p0.un.2.1,p0.un.2.2.1,p0.un.2.2.2.1,p0.un.2.2.2.2))).bind fun x1 => (if (!x1) = true then some (([] : List (Int × (Int × Int × Int × Int) × (List Sq))),17) else (Sr nE (Tr41.of (p0.un.1,f38 p0.un.2.1,p0.un.2.2.1,p0.un.2.2.2.1,p0.un.2.2.2.2)) p1).bind fun x2 => (Ko nE (Tr41.of (x2.un.1,f38 x2.un.2.1,x2.un.2.2.1,x2.un.2.2.2.1,x2.un.2.2.2.2))).bind fun x3 => (if 4096 < x3 then some (([] : List (Int × (Int × Int × Int × Int) × (List Sq))),6) else (Cn nE 0).bind fun x4 => (DF nE (Tr41.of (x2.un.1,f38 x2.un.2.1,x2.un.2.2.1,x2.un.2.2.2.1,x2.un.2.2.2.2)) x4).bind fun x5 => (Cn nE 0).bind fun x6 => (Es nE ((-1),(0,0,0,0)) x6 (-1)).bind fun x7 => (Cn nE 1).bind fun x8 => (DF nE (Tr41.of (x2.un.1,f38 x2.un.2.1,x2.un.2.2.1,x2.un.2.2.2.1,x2.un.2.2.2.2)) x8).bind fun x9 => (Cn nE 1).bind fun x10 => (Es nE x7 x10 (-1)).bind fun x11 => (Cn nE 2).bind fun x12 => (DF nE (Tr41.of (x2.un.1,f38 x2.un.2.1,x2.un.2.2.1,x2.un.2.2.2.1,x2.un.2.2.2.2)) x12).bind fun x13 => (Cn nE 2).bind fun x14 => (Es nE x11 x14 (-1)).bind fun x15 => (Cn nE 3).bind fun x16 => (DF nE (Tr41.of (x2.un.1,f38 x2.un.2.1,x2.un.2.2.1,x2.un.2.2.2.1,x2.un.2.2.2.2)) x16).bind fun x17 => (Cn nE 3).bind fun x18 => (Es nE x15 x18 (-1)).bind fun x19 => (Cn nE 4).bind fun x20 => (DF nE (Tr41.of (x2.un.1,f38 x2.un.2.1,x2.un.2.2.1,x2.un.2.2.2.1,x2.un.2.2.2.2)) x20).bind fun x21 => (Cn nE 4).bind fun x22 => (Es nE x19 x22 (-1)).bind fun x23 => (Ik nE (Tr41.of (x2.un.1,f38 x2.un.2.1,x2.un.2.2.1,x2.un.2.2.2.1,x2.un.2.2.2.2),p1,(x5,x9,x13,x17,x21)) 0 x23).bind fun x24 => some (x24,0)))
theorem TG (nE : Nat) (p0 : Tr41) (p1 : Int) : Le (LS nE p0 p1) (Ht p0 p1) := by
  unfold LS Ht
  repeat' with_reducible (first | apply Le.bind' | apply Le.ite' | apply QM | apply Wk | apply LI | apply RS | apply Mk | apply Me | apply LY | exact Le.rfl' _ | intro _)
def IB (nE : Nat) (p0 : Sq) (p1 : Int) (p2 : Int × Int × Int × Int) : Option Sq := (if p0.1 = (-1) then some p1 else some p0.1).bind fun x1 => (if p0.2.1 = (-1) then some p2.1 else some p0.2.1).bind fun x2 => (if p0.2.2.1 = (-1) then some p2.2.1 else some p0.2.2.1).bind fun x3 => (if p0.2.2.2.1 = (-1) then some p2.2.2.1 else some p0.2.2.2.1).bind fun x4 => (if p0.2.2.2.2 = (-1) then some p2.2.2.2 else some p0.2.2.2.2).bind fun x5 => some (x1,(x2,x3,x4,x5))
theorem O3 (nE : Nat) (p0 : Sq) (p1 : Int) (p2 : Int × Int × Int × Int) : Le (IB nE p0 p1 p2) (H3 p0 p1 p2) := by
  unfold IB H3
  repeat' with_reducible (first | apply Le.bind' | apply Le.ite' | exact Le.rfl' _ | intro _)
def KM (nE : Nat) (p0 : Int × (Int × Int × Int × Int) × (List Sq)) (p1 : Int) (p2 : Int × Int × Int × Int) : Option Bool := (IB nE ((AN p0).1,((AN p0).2.1,(AN p0).2.2.1,(AN p0).2.2.2.1,(AN p0).2.2.2.2)) p1 p2).bind fun x1 => some (decide (x1.1 = p1 ∧ x1.2.1 = p2.1 ∧ x1.2.2.1 = p2.2.1 ∧ x1.2.2.2.1 = p2.2.2.1 ∧ x1.2.2.2.2 = p2.2.2.2))
theorem SW (nE : Nat) (p0 : Int × (Int × Int × Int × Int) × (List Sq)) (p1 : Int) (p2 : Int × Int × Int × Int) : Le (KM nE p0 p1 p2) (J7 p0 p1 p2) := by
  unfold KM J7
  repeat' with_reducible (first | apply Le.bind' | apply O3 | exact Le.rfl' _ | intro _)
def CJ (nE : Nat) (p0 : List (Int × (Int × Int × Int × Int) × (List Sq))) (p1c0 : Int) (p1c1 : Int × Int × Int × Int) : Int → Option (Int ⊕ (Unit ⊕ Int))
  | x1 => (if x1 < (p0.length : Int) then (ix p0 x1).bind fun x2 => (KM nE x2 p1c0 p1c1).bind fun x3 => (if x3 = true then some (.inr (.inr x1)) else some (.inl (w64 (x1 + 1)))) else some (.inr (.inl ())))
theorem FR (nE : Nat) (p0 : List (Int × (Int × Int × Int × Int) × (List Sq))) (p1c0 : Int) (p1c1 : Int × Int × Int × Int) : ∀ s,Le (CJ nE p0 p1c0 p1c1 s) (CZ p0 p1c0 p1c1 s) := by
  intro x1
  unfold CJ CZ
  repeat' with_reducible (first | apply Le.bind' | apply Le.ite' | apply SW | exact Le.rfl' _ | intro _)
def C2 (nE : Nat) (p0 : List (Int × (Int × Int × Int × Int) × (List Sq))) (p1c0 : Int) (p1c1 : Int × Int × Int × Int) : Option Int := GO (Gm nE (CJ nE p0 p1c0 p1c1) 0) fun _ => some (-1)
theorem Gq (nE : Nat) (p0 : List (Int × (Int × Int × Int × Int) × (List Sq))) (p1c0 : Int) (p1c1 : Int × Int × Int × Int) : Le (C2 nE p0 p1c0 p1c1) (Cj p0 p1c0 p1c1) := by
  unfold C2 Cj
  repeat' with_reducible (first | apply Le.orR' | apply Le.loop' | apply FR | exact Le.rfl' _ | intro _)
def M5 (nE : Nat) (p0 : List (Int × (Int × Int × Int × Int) × (List Sq))) (p1 : Int) (p2 : Int × Int × Int × Int) : Option Int := (C2 nE p0 p1 p2).bind fun x1 => some x1
theorem Vw (nE : Nat) (p0 : List (Int × (Int × Int × Int × Int) × (List Sq))) (p1 : Int) (p2 : Int × Int × Int × Int) : Le (M5 nE p0 p1 p2) (Nk p0 p1 p2) := by
  unfold M5 Nk
  repeat' with_reducible (first | apply Le.bind' | apply Gq | exact Le.rfl' _ | intro _)
def Qg (nE : Nat)  : Option Bool := (LS nE (Tr41.of (5,Tr38.of (3,1,1,([] : List Tr38)),0,0,([Tr41.of (2,Tr38.of (0,0,0,([] : List Tr38)),4,2,([] : List Tr41)),Tr41.of (1,Tr38.of (2,0,0,([] : List Tr38)),0,0,([] : List Tr41))] : List Tr41))) 0).bind fun x1 => (if x1.2 = 0 then (if (x1.1.length : Int) = 2 then (ix x1.1 0).bind fun x3 => (if x3.2.1.1 = (-1) ∧ x3.2.1.2.1 = 1 ∧ x3.2.1.2.2.1 = (-1) ∧ x3.2.1.2.2.2 = (-1) then (ix x1.1 0).bind fun x4 => (if (x4.2.2.length : Int) = 1 then (ix x1.1 0).bind fun x5 => (ix x5.2.2 0).bind fun x6 => (if x6.1 = 2 then (ix x1.1 1).bind fun x7 => (if (x7.2.2.length : Int) = 0 then (M5 nE x1.1 0 (0,0,0,0)).bind fun x8 => some (decide (x8 = 1)) else some false) else some false) else some false) else some false) else some false) else some false).bind fun x2 => some x2
theorem VK (nE : Nat)  : Le (Qg nE ) (Jl ) := by
  unfold Qg Jl
  repeat' with_reducible (first | apply Le.bind' | apply Le.ite' | apply TG | apply Vw | exact Le.rfl' _ | intro _)
theorem RM {fRec fRec' : Tr24 → Option Tr38} (hfRec : ∀ a0,Le (fRec a0) (fRec' a0)) (p0 : Tr24) : ∀ s,Le (DA fRec p0 s) (DA fRec' p0 s) := by
  rintro ⟨x2,x3⟩
  show Le (DA fRec p0 (x2,x3)) (DA fRec' p0 (x2,x3))
  unfold DA
  repeat' with_reducible (first | apply Le.bind' | apply Le.ite' | exact hfRec | exact hfRec _ | exact Le.rfl' _ | intro _)
theorem RG {fRec fRec' : Tr24 → Option Tr38} (hfRec : ∀ a0,Le (fRec a0) (fRec' a0)) (p0 : Tr24) : Le (EZ fRec p0) (EZ fRec' p0) := by
  unfold EZ
  repeat' with_reducible (first | apply Le.bind' | apply Le.loopM | exact hfRec | exact hfRec _ | apply RM | exact Le.rfl' _ | intro _)
theorem NR : ∀ (m : Nat) a0,Le (Fc m a0) (Fc (m + 1) a0)
  | 0,a0 => fun _ h => nomatch h
  | m + 1,a0 => RG (NR m) a0
theorem RB {fRec fRec' : Tr27 → Option Tr41} (hfRec : ∀ a0,Le (fRec a0) (fRec' a0)) (p0 : Tr27) : ∀ s,Le (Er fRec p0 s) (Er fRec' p0 s) := by
  rintro ⟨x3,x4⟩
  show Le (Er fRec p0 (x3,x4)) (Er fRec' p0 (x3,x4))
  unfold Er
  repeat' with_reducible (first | apply Le.bind' | apply Le.ite' | exact hfRec | exact hfRec _ | exact Le.rfl' _ | intro _)
theorem SA {fRec fRec' : Tr27 → Option Tr41} (hfRec : ∀ a0,Le (fRec a0) (fRec' a0)) (p0 : Tr27) : Le (FH fRec p0) (FH fRec' p0) := by
  unfold FH
  repeat' with_reducible (first | apply Le.bind' | apply Le.loopM | exact hfRec | exact hfRec _ | apply RB | exact Le.rfl' _ | intro _)
theorem N7 : ∀ (m : Nat) a0,Le (E3 m a0) (E3 (m + 1) a0)
  | 0,a0 => fun _ h => nomatch h
  | m + 1,a0 => SA (N7 m) a0
theorem Vj : Jl = some true := VK 60 _ (by kernel_rfl)
end Go.Proofs.YtkhiflmalgkjiaaGreat
