/- Twins with fuel of Sm functions: what a twin answers, the function answers. Conditions: none. -/
import Derived.Test.YtkhiflmalgkjiaaGreatfLP
import Derived.Test.YtkhiflmalgkjiaaGreatfN31C
set_option linter.unusedVariables false
set_option linter.unusedSimpArgs false
open Go Go.RowKit
namespace Go.Proofs.YtkhiflmalgkjiaaGreat
set_option maxRecDepth 20000
set_option maxHeartbeats 1600000
abbrev Le {α : Type} (a b : Option α) : Prop := ∀ r,a = some r → b = some r
theorem Le.rfl' {α : Type} (a : Option α) : Le a a := fun _ h => h
theorem Le.bind' {α β : Type} {a b : Option α} {f g : α → Option β} (h : Le a b) (hf : ∀ x,Le (f x) (g x)) : Le (a.bind f) (b.bind g) := fun r e => by
  obtain ⟨x,h1,h2⟩ := BO e
  rw [h x h1,za]; exact hf x r h2
theorem Le.ite' {α : Type} {c : Prop} [Decidable c] {a a' b b' : Option α} (h1 : Le a a') (h2 : Le b b') : Le (if c then a else b) (if c then a' else b') := fun r e => by
  by_cases h : c
  · rw [if_pos h] at e ⊢; exact h1 r e
  · rw [if_neg h] at e ⊢; exact h2 r e
theorem Le.orR' {α β : Type} {a b : Option (α ⊕ β)} {f g : α → Option β} (h : Le a b) (hf : ∀ x,Le (f x) (g x)) : Le (GN a f) (GN b g) :=
  Le.bind' h fun x => by
    cases x with
    | inl t => exact hf t
    | inr e => exact Le.rfl' _
def F8 {σ ε : Type} (n : Nat) (step : σ → Option (σ ⊕ ε)) (s : σ) : Option ε := IV step n s
theorem Oi {σ ε : Type} {S T : σ → Option (σ ⊕ ε)} (h : ∀ s,Le (S s) (T s)) : ∀ (n : Nat) (s : σ),Le (IV S n s) (IV T n s)
  | 0,s => Le.rfl' _
  | n + 1,s => fun r e => by
    unfold IV at e ⊢
    cases hs : S s with
    | none => rw [hs] at e; cases e
    | some q =>
      rw [hs] at e; rw [h s q hs]
      cases q with
      | inl s' => exact Oi h n s' r e
      | inr _ => exact e
theorem Le.loop' {σ ε : Type} {n : Nat} {S T : σ → Option (σ ⊕ ε)} {s : σ} (h : ∀ s,Le (S s) (T s)) : Le (F8 n S s) (Aj T s) := fun r e => GA.2 ⟨n,Oi h n s r e⟩
theorem Le.pi2 {α β γ : Type} {f g : α × β → Option γ} (h : ∀ a b,Le (f (a,b)) (g (a,b))) : ∀ x,Le (f x) (g x) := fun x => h x.1 x.2
theorem B6 {β : Type} {g : Nat → Option β} (hm : ∀ n r,g n = some r → g (n + 1) = some r) {n : Nat} {r : β} (h : g n = some r) : GX g = some r := by
  have up : ∀ (d m : Nat) (q : β),g m = some q → g (m + d) = some q := fun d => by
    induction d with
    | zero => exact fun m q h => h
    | succ d ih => exact fun m q h => hm _ _ (ih m q h)
  refine Yw n h fun m q hq => ?_
  have h1 := up m n r h
  have h2 := up n m q hq
  rw [Nat.add_comm] at h2
  exact Option.some.inj (h2.symm.trans h1)
theorem Le.loopM {σ ε : Type} {S T : σ → Option (σ ⊕ ε)} {s : σ} (h : ∀ s,Le (S s) (T s)) : Le (Aj S s) (Aj T s) := fun r e => by
  obtain ⟨n,hn⟩ := GA.1 e
  exact GA.2 ⟨n,Oi h n s r hn⟩
theorem Le.sall' {κ : Type} {lt : κ → κ → Bool} {f g : κ → Option (List κ)} (h : ∀ x,Le (f x) (g x)) : ∀ (l a : List κ),Le (H4 lt f l a) (H4 lt g l a)
  | [],a => Le.rfl' _
  | x :: l,a => by
    show Le ((f x).bind _) ((g x).bind _)
    exact Le.bind' (h x) fun r => Le.sall' h l _
theorem Tw {fRec fRec' : Tr24 → Option Bool} (hfRec : ∀ a0,Le (fRec a0) (fRec' a0)) (p0 : Tr24) : ∀ s,Le (EX fRec p0 s) (EX fRec' p0 s) := by
  intro x1
  unfold EX
  repeat' with_reducible (first | apply Le.bind' | apply Le.ite' | exact hfRec | exact hfRec _ | exact Le.rfl' _ | intro _)
theorem SM {fRec fRec' : Tr24 → Option Bool} (hfRec : ∀ a0,Le (fRec a0) (fRec' a0)) (p0 : Tr24) : Le (EU fRec p0) (EU fRec' p0) := by
  unfold EU
  repeat' with_reducible (first | apply Le.orR' | apply Le.ite' | apply Le.loopM | exact hfRec | exact hfRec _ | apply Tw | exact Le.rfl' _ | intro _)
theorem NE : ∀ (m : Nat) a0,Le (E3 m a0) (E3 (m + 1) a0)
  | 0,a0 => fun _ h => nomatch h
  | m + 1,a0 => SM (NE m) a0
theorem Sb {fRec fRec' : Tr24 → Option Int} (hfRec : ∀ a0,Le (fRec a0) (fRec' a0)) (p0 : Tr24) : ∀ s,Le (DB fRec p0 s) (DB fRec' p0 s) := by
  rintro ⟨x2,x3⟩
  show Le (DB fRec p0 (x2,x3)) (DB fRec' p0 (x2,x3))
  unfold DB
  repeat' with_reducible (first | apply Le.bind' | apply Le.ite' | exact hfRec | exact hfRec _ | exact Le.rfl' _ | intro _)
theorem Tq {fRec fRec' : Tr24 → Option Int} (hfRec : ∀ a0,Le (fRec a0) (fRec' a0)) (p0 : Tr24) : Le (ES fRec p0) (ES fRec' p0) := by
  unfold ES
  repeat' with_reducible (first | apply Le.bind' | apply Le.loopM | exact hfRec | exact hfRec _ | apply Sb | exact Le.rfl' _ | intro _)
theorem Nz : ∀ (m : Nat) a0,Le (Fg m a0) (Fg (m + 1) a0)
  | 0,a0 => fun _ h => nomatch h
  | m + 1,a0 => Tq (Nz m) a0
theorem Ro {fRec fRec' : Tr24 → Option Int} (hfRec : ∀ a0,Le (fRec a0) (fRec' a0)) (p0 : Tr24) : ∀ s,Le (DF fRec p0 s) (DF fRec' p0 s) := by
  rintro ⟨x2,x3⟩
  show Le (DF fRec p0 (x2,x3)) (DF fRec' p0 (x2,x3))
  unfold DF
  repeat' with_reducible (first | apply Le.bind' | apply Le.ite' | exact hfRec | exact hfRec _ | exact Le.rfl' _ | intro _)
theorem Tv {fRec fRec' : Tr24 → Option Int} (hfRec : ∀ a0,Le (fRec a0) (fRec' a0)) (p0 : Tr24) : Le (EL fRec p0) (EL fRec' p0) := by
  unfold EL
  repeat' with_reducible (first | apply Le.bind' | apply Le.loopM | exact hfRec | exact hfRec _ | apply Ro | exact Le.rfl' _ | intro _)
theorem NL : ∀ (m : Nat) a0,Le (EZ m a0) (EZ (m + 1) a0)
  | 0,a0 => fun _ h => nomatch h
  | m + 1,a0 => Tv (NL m) a0
theorem S5 {fRec fRec' : Tr24 → Tr24 → Option Bool} (hfRec : ∀ a0 a1,Le (fRec a0 a1) (fRec' a0 a1)) (p0 : Tr24) (p1 : Tr24) : ∀ s,Le (EQ fRec p0 p1 s) (EQ fRec' p0 p1 s) := by
  intro x1
  unfold EQ
  repeat' with_reducible (first | apply Le.bind' | apply Le.ite' | exact hfRec | exact hfRec _ _ | exact Le.rfl' _ | intro _)
theorem RQ {fRec fRec' : Tr24 → Tr24 → Option Bool} (hfRec : ∀ a0 a1,Le (fRec a0 a1) (fRec' a0 a1)) (p0 : Tr24) (p1 : Tr24) : Le (EY fRec p0 p1) (EY fRec' p0 p1) := by
  unfold EY
  repeat' with_reducible (first | apply Le.orR' | apply Le.ite' | apply Le.loopM | exact hfRec | exact hfRec _ _ | apply S5 | exact Le.rfl' _ | intro _)
theorem NG : ∀ (m : Nat) a0 a1,Le (FJ m a0 a1) (FJ (m + 1) a0 a1)
  | 0,a0,a1 => fun _ h => nomatch h
  | m + 1,a0,a1 => RQ (NG m) a0 a1
theorem Tm {fRec fRec' : Tr27 → Option Bool} (hfRec : ∀ a0,Le (fRec a0) (fRec' a0)) (p0 : Tr27) : ∀ s,Le (Gs fRec p0 s) (Gs fRec' p0 s) := by
  intro x4
  unfold Gs
  repeat' with_reducible (first | apply Le.bind' | apply Le.ite' | exact hfRec | exact hfRec _ | exact Le.rfl' _ | intro _)
theorem Su {fRec fRec' : Tr27 → Option Bool} (hfRec : ∀ a0,Le (fRec a0) (fRec' a0)) (p0 : Tr27) : Le (ER fRec p0) (ER fRec' p0) := by
  unfold ER
  repeat' with_reducible (first | apply Le.orR' | apply Le.bind' | apply Le.ite' | apply Le.loopM | exact hfRec | exact hfRec _ | apply Tm | exact Le.rfl' _ | intro _)
theorem NH : ∀ (m : Nat) a0,Le (E8 m a0) (E8 (m + 1) a0)
  | 0,a0 => fun _ h => nomatch h
  | m + 1,a0 => Su (NH m) a0
theorem Ss {fRec fRec' : Tr27 → Option Int} (hfRec : ∀ a0,Le (fRec a0) (fRec' a0)) (p0 : Tr27) : ∀ s,Le (Ew fRec p0 s) (Ew fRec' p0 s) := by
  rintro ⟨x2,x3⟩
  show Le (Ew fRec p0 (x2,x3)) (Ew fRec' p0 (x2,x3))
  unfold Ew
  repeat' with_reducible (first | apply Le.bind' | apply Le.ite' | exact hfRec | exact hfRec _ | exact Le.rfl' _ | intro _)
theorem Sk {fRec fRec' : Tr27 → Option Int} (hfRec : ∀ a0,Le (fRec a0) (fRec' a0)) (p0 : Tr27) : Le (Gh fRec p0) (Gh fRec' p0) := by
  unfold Gh
  repeat' with_reducible (first | apply Le.bind' | apply Le.loopM | exact hfRec | exact hfRec _ | apply Ss | exact Le.rfl' _ | intro _)
theorem NK : ∀ (m : Nat) a0,Le (E4 m a0) (E4 (m + 1) a0)
  | 0,a0 => fun _ h => nomatch h
  | m + 1,a0 => Sk (NK m) a0
theorem SS {fRec fRec' : Tr27 → Option Int} (hfRec : ∀ a0,Le (fRec a0) (fRec' a0)) (p0 : Tr27) : ∀ s,Le (Er fRec p0 s) (Er fRec' p0 s) := by
  rintro ⟨x4,x5⟩
  show Le (Er fRec p0 (x4,x5)) (Er fRec' p0 (x4,x5))
  unfold Er
  repeat' with_reducible (first | apply Le.bind' | apply Le.ite' | exact hfRec | exact hfRec _ | exact Le.rfl' _ | intro _)
theorem S9 {fRec fRec' : Tr27 → Option Int} (hfRec : ∀ a0,Le (fRec a0) (fRec' a0)) (p0 : Tr27) : Le (Gp fRec p0) (Gp fRec' p0) := by
  unfold Gp
  repeat' with_reducible (first | apply Le.bind' | apply Le.ite' | apply Le.loopM | exact hfRec | exact hfRec _ | apply SS | exact Le.rfl' _ | intro _)
theorem NU : ∀ (m : Nat) a0,Le (Fa m a0) (Fa (m + 1) a0)
  | 0,a0 => fun _ h => nomatch h
  | m + 1,a0 => S9 (NU m) a0
theorem Tz {fRec fRec' : Tr27 → Option Int} (hfRec : ∀ a0,Le (fRec a0) (fRec' a0)) (p0 : Tr27) : ∀ s,Le (Eo fRec p0 s) (Eo fRec' p0 s) := by
  rintro ⟨x3,x4⟩
  show Le (Eo fRec p0 (x3,x4)) (Eo fRec' p0 (x3,x4))
  unfold Eo
  repeat' with_reducible (first | apply Le.bind' | apply Le.ite' | exact hfRec | exact hfRec _ | exact Le.rfl' _ | intro _)
theorem SU {fRec fRec' : Tr27 → Option Int} (hfRec : ∀ a0,Le (fRec a0) (fRec' a0)) (p0 : Tr27) : Le (Gm fRec p0) (Gm fRec' p0) := by
  unfold Gm
  repeat' with_reducible (first | apply Le.bind' | apply Le.ite' | apply Le.loopM | exact hfRec | exact hfRec _ | apply Tz | exact Le.rfl' _ | intro _)
theorem NO : ∀ (m : Nat) a0,Le (EF m a0) (EF (m + 1) a0)
  | 0,a0 => fun _ h => nomatch h
  | m + 1,a0 => SU (NO m) a0
theorem Sx {fRec fRec' : Tr24 → Int → Int → Option Bool} (hfRec : ∀ a0 a1 a2,Le (fRec a0 a1 a2) (fRec' a0 a1 a2)) (p0 : Tr24) (p1 : Int) (p2 : Int) : ∀ s,Le (EP fRec p0 p1 p2 s) (EP fRec' p0 p1 p2 s) := by
  intro x1
  unfold EP
  repeat' with_reducible (first | apply Le.bind' | apply Le.ite' | exact hfRec | exact hfRec _ _ _ | exact Le.rfl' _ | intro _)
theorem RY {fRec fRec' : Tr24 → Int → Int → Option Bool} (hfRec : ∀ a0 a1 a2,Le (fRec a0 a1 a2) (fRec' a0 a1 a2)) (p0 : Tr24) (p1 : Int) (p2 : Int) : Le (ET fRec p0 p1 p2) (ET fRec' p0 p1 p2) := by
  unfold ET
  repeat' with_reducible (first | apply Le.orR' | apply Le.ite' | apply Le.loopM | exact hfRec | exact hfRec _ _ _ | apply Sx | exact Le.rfl' _ | intro _)
theorem NC : ∀ (m : Nat) a0 a1 a2,Le (FI m a0 a1 a2) (FI (m + 1) a0 a1 a2)
  | 0,a0,a1,a2 => fun _ h => nomatch h
  | m + 1,a0,a1,a2 => RY (NC m) a0 a1 a2
theorem Ue {fRec fRec' : Tr27 → Int → Int → Option Bool} (hfRec : ∀ a0 a1 a2,Le (fRec a0 a1 a2) (fRec' a0 a1 a2)) (p0 : Tr27) (p1 : Int) (p2 : Int) : ∀ s,Le (Hh fRec p0 p1 p2 s) (Hh fRec' p0 p1 p2 s) := by
  intro x5
  unfold Hh
  repeat' with_reducible (first | apply Le.bind' | apply Le.ite' | exact hfRec | exact hfRec _ _ _ | exact Le.rfl' _ | intro _)
theorem TZ {fRec fRec' : Tr27 → Int → Int → Option Bool} (hfRec : ∀ a0 a1 a2,Le (fRec a0 a1 a2) (fRec' a0 a1 a2)) (p0 : Tr27) (p1 : Int) (p2 : Int) : Le (Hr fRec p0 p1 p2) (Hr fRec' p0 p1 p2) := by
  unfold Hr
  repeat' with_reducible (first | apply Le.orR' | apply Le.bind' | apply Le.ite' | apply Le.loopM | exact hfRec | exact hfRec _ _ _ | apply Ue | exact Le.rfl' _ | intro _)
theorem Pu : ∀ (m : Nat) a0 a1 a2,Le (GB m a0 a1 a2) (GB (m + 1) a0 a1 a2)
  | 0,a0,a1,a2 => fun _ h => nomatch h
  | m + 1,a0,a1,a2 => TZ (Pu m) a0 a1 a2
def Br (nE : Nat) (Fg58 : Tr38 → Tr38 → Option Bool) (p0 : List Tr38) (p1 : List Tr38) : Int → Option (Int ⊕ (Unit ⊕ Bool))
  | x1 => (if x1 < (p0.length : Int) then (ix p0 x1).bind fun x2 => (ix p1 x1).bind fun x3 => (Fg58 x2 x3).bind fun x4 => (if (!x4) = true then some (.inr (.inr false)) else some (.inl (w64 (x1 + 1)))) else some (.inr (.inl ())))
theorem Dx (nE : Nat) {Fg58 Fh59 : Tr38 → Tr38 → Option Bool} (Gd55 : ∀ a0 a1,Le (Fg58 a0 a1) (Fh59 a0 a1)) (p0 : List Tr38) (p1 : List Tr38) : ∀ s,Le (Br nE Fg58 p0 p1 s) (Ac Fh59 p0 p1 s) := by
  intro x1
  unfold Br Ac
  repeat' with_reducible (first | apply Le.bind' | apply Le.ite' | exact Gd55 | exact Gd55 _ _ | exact Le.rfl' _ | intro _)
theorem Dn {Fg58 Fh59 : Tr38 → Tr38 → Option Bool} (Gd55 : ∀ a0 a1,Le (Fg58 a0 a1) (Fh59 a0 a1)) (p0 : List Tr38) (p1 : List Tr38) : ∀ s,Le (Ac Fg58 p0 p1 s) (Ac Fh59 p0 p1 s) := by
  intro x1
  unfold Ac
  repeat' with_reducible (first | apply Le.bind' | apply Le.ite' | exact Gd55 | exact Gd55 _ _ | exact Le.rfl' _ | intro _)
def BE (nE : Nat) (Fg58 : Tr38 → Tr38 → Option Bool) (p0 : List Tr38) (p1 : List Tr38) : Option Bool := (if (p0.length : Int) ≠ (p1.length : Int) then some false else GN (F8 nE (Br nE Fg58 p0 p1) 0) fun _ => some true)
theorem DT (nE : Nat) {Fg58 Fh59 : Tr38 → Tr38 → Option Bool} (Gd55 : ∀ a0 a1,Le (Fg58 a0 a1) (Fh59 a0 a1)) (p0 : List Tr38) (p1 : List Tr38) : Le (BE nE Fg58 p0 p1) (Ai Fh59 p0 p1) := by
  unfold BE Ai
  repeat' with_reducible (first | apply Le.orR' | apply Le.ite' | apply Le.loop' | exact Gd55 | exact Gd55 _ _ | apply Dx | exact Le.rfl' _ | intro _)
theorem DR {Fg58 Fh59 : Tr38 → Tr38 → Option Bool} (Gd55 : ∀ a0 a1,Le (Fg58 a0 a1) (Fh59 a0 a1)) (p0 : List Tr38) (p1 : List Tr38) : Le (Ai Fg58 p0 p1) (Ai Fh59 p0 p1) := by
  unfold Ai
  repeat' with_reducible (first | apply Le.orR' | apply Le.ite' | apply Le.loopM | exact Gd55 | exact Gd55 _ _ | apply Dn | exact Le.rfl' _ | intro _)
def Js (nE : Nat) (fRec : Tr38 → Tr38 → Option Bool) (p0 : Tr38) (p1 : Tr38) : Option Bool := (if p0.un.1 = p1.un.1 then (if p0.un.2.1 = p1.un.2.1 then (if p0.un.2.2.1 = p1.un.2.2.1 then ((BE nE fRec) p0.un.2.2.2 p1.un.2.2.2).bind fun x2 => some x2 else some false) else some false) else some false).bind fun x1 => some x1
theorem QW (nE : Nat) {fRec fRec' : Tr38 → Tr38 → Option Bool} (hfRec : ∀ a0 a1,Le (fRec a0 a1) (fRec' a0 a1)) (p0 : Tr38) (p1 : Tr38) : Le (Js nE fRec p0 p1) (En fRec' p0 p1) := by
  unfold Js En
  repeat' with_reducible (first | apply Le.bind' | apply Le.ite' | exact hfRec | exact hfRec _ _ | apply DT | exact Le.rfl' _ | intro _)
theorem Q2 {fRec fRec' : Tr38 → Tr38 → Option Bool} (hfRec : ∀ a0 a1,Le (fRec a0 a1) (fRec' a0 a1)) (p0 : Tr38) (p1 : Tr38) : Le (En fRec p0 p1) (En fRec' p0 p1) := by
  unfold En
  repeat' with_reducible (first | apply Le.bind' | apply Le.ite' | exact hfRec | exact hfRec _ _ | apply DR | exact Le.rfl' _ | intro _)
def KF (nE : Nat) : Nat → Tr38 → Tr38 → Option Bool
  | 0 => fun _ _ => none
  | n + 1 => Js nE (KF nE n)
theorem Mt (nE : Nat) : ∀ (m : Nat) a0 a1,Le (KF nE m a0 a1) (D9 m a0 a1)
  | 0,a0,a1 => fun _ h => nomatch h
  | m + 1,a0,a1 => QW nE (Mt nE m) a0 a1
theorem JJ : ∀ (m : Nat) a0 a1,Le (D9 m a0 a1) (D9 (m + 1) a0 a1)
  | 0,a0,a1 => fun _ h => nomatch h
  | m + 1,a0,a1 => Q2 (JJ m) a0 a1
def Qs (nE : Nat) (p0 : Tr38) (p1 : Tr38) : Option Bool := KF nE nE p0 p1
theorem VO (nE : Nat) (p0 : Tr38) (p1 : Tr38) : Le (Qs nE p0 p1) (Lt p0 p1) := fun r e => B6 (g := fun n => D9 n p0 p1) (fun n r h => JJ n p0 p1 r h) (n := nE) (Mt nE nE p0 p1 r e)
def G9 (nE : Nat) (p0 : Tr38) : Option Bool := (Qs nE p0 (Tr38.of (0,0,0,([] : List Tr38)))).bind fun x1 => some x1
theorem PR (nE : Nat) (p0 : Tr38) : Le (G9 nE p0) (Eu p0) := by
  unfold G9 Eu
  repeat' with_reducible (first | apply Le.bind' | apply VO | exact Le.rfl' _ | intro _)
def Km (nE : Nat) (p0 : Int) : Option Int := (if p0 = 0 then some true else (if p0 = 1 then some true else some (decide (p0 = 3)))).bind fun x1 => (if x1 = true then some 8 else (if p0 = 2 then some 4 else some 0))
theorem To (nE : Nat) (p0 : Int) : Le (Km nE p0) (HB p0) := by
  unfold Km HB
  repeat' with_reducible (first | apply Le.bind' | apply Le.ite' | exact Le.rfl' _ | intro _)
def Je (nE : Nat) (p0 : Int) : Option Int := (Km nE p0).bind fun x1 => (lM (JT .i64 1 x1) x1).bind fun x2 => some (w64 (x2 - 1))
theorem NR (nE : Nat) (p0 : Int) : Le (Je nE p0) (EE p0) := by
  unfold Je EE
  repeat' with_reducible (first | apply Le.bind' | apply To | exact Le.rfl' _ | intro _)
def L9 (nE : Nat) (p0 : Int) : Option Int := (if (decide (p0 = 4) || decide (p0 = 5)) = true then some 7 else (Je nE p0).bind fun x1 => some x1)
theorem Qi (nE : Nat) (p0 : Int) : Le (L9 nE p0) (Jw p0) := by
  unfold L9 Jw
  repeat' with_reducible (first | apply Le.bind' | apply Le.ite' | apply NR | exact Le.rfl' _ | intro _)
def Ko (nE : Nat) (p0 : Tr41) : Option Bool := (if p0.un.1 = 2 then ((G9 nE (f38 p0.un.2.1)).bind fun x2 => (if x2 = true then (if (p0.un.2.2.2.2.length : Int) = 0 then (if 0 ≤ p0.un.2.2.1 then (if p0.un.2.2.1 ≤ 4 then (if 0 ≤ p0.un.2.2.2.1 then (L9 nE p0.un.2.2.1).bind fun x3 => some (decide (p0.un.2.2.2.1 ≤ x3)) else some false) else some false) else some false) else some false) else some false)).bind fun x1 => some x1 else (if (decide (p0.un.2.2.1 ≠ 0) || decide (p0.un.2.2.2.1 ≠ 0)) = true then some false else (if p0.un.1 = 1 then some (decide ((p0.un.2.2.2.2.length : Int) = 0)) else (if p0.un.1 = 3 then some true else some (decide (p0.un.1 = 4))).bind fun x4 => (if x4 = true then ((G9 nE (f38 p0.un.2.1)).bind fun x6 => (if x6 = true then (if 2 ≤ (p0.un.2.2.2.2.length : Int) then some (decide ((p0.un.2.2.2.2.length : Int) ≤ 8)) else some false) else some false)).bind fun x5 => some x5 else (if p0.un.1 = 5 then some (decide ((p0.un.2.2.2.2.length : Int) = 2)) else some false)))))
theorem SZ (nE : Nat) (p0 : Tr41) : Le (Ko nE p0) (HH p0) := by
  unfold Ko HH
  repeat' with_reducible (first | apply Le.bind' | apply Le.ite' | apply PR | apply Qi | exact Le.rfl' _ | intro _)
def MZ (nE : Nat) (p0 : Tr38) : Option Bool := (if p0.un.1 = 3 then (if (DX p0.un.2.1) = true then (if 0 ≤ p0.un.2.2.1 then (L9 nE p0.un.2.1).bind fun x2 => (if p0.un.2.2.1 ≤ x2 then some (decide ((p0.un.2.2.2.length : Int) = 0)) else some false) else some false) else some false).bind fun x1 => some x1 else (if (decide (p0.un.2.1 ≠ 0) || decide (p0.un.2.2.1 ≠ 0)) = true then some false else (if p0.un.1 = 1 then some true else some (decide (p0.un.1 = 2))).bind fun x3 => (if x3 = true then some (decide ((p0.un.2.2.2.length : Int) = 0)) else (if p0.un.1 = 4 then some (decide ((p0.un.2.2.2.length : Int) = 1)) else (if p0.un.1 = 5 then some true else some (decide (p0.un.1 = 6))).bind fun x4 => (if x4 = true then some (decide (2 ≤ (p0.un.2.2.2.length : Int)) && decide ((p0.un.2.2.2.length : Int) ≤ 8)) else some false)))))
theorem VD (nE : Nat) (p0 : Tr38) : Le (MZ nE p0) (Im p0) := by
  unfold MZ Im
  repeat' with_reducible (first | apply Le.bind' | apply Le.ite' | apply Qi | exact Le.rfl' _ | intro _)
def FA (nE : Nat) (fRec : Int → Tr38 → Int → Option (Bool × Int)) (p1 : Tr38) (p2 : Int) : (Int × Int) → Option ((Int × Int) ⊕ (Int ⊕ (Bool × Int)))
  | (x4,x5) => (if x4 < (p1.un.2.2.2.length : Int) then (ix p1.un.2.2.2 x4).bind fun x6 => (fRec x5 x6 (w64 (p2 - 1))).bind fun x7 => (if (!x7.1) = true then some (.inr (.inr (false,x7.2))) else some (.inl (w64 (x4 + 1),x7.2))) else some (.inr (.inl x5)))
theorem KA (nE : Nat) {fRec fRec' : Int → Tr38 → Int → Option (Bool × Int)} (hfRec : ∀ a0 a1 a2,Le (fRec a0 a1 a2) (fRec' a0 a1 a2)) (p1 : Tr38) (p2 : Int) : ∀ s,Le (FA nE fRec p1 p2 s) (AP fRec' p1 p2 s) := by
  rintro ⟨x4,x5⟩
  unfold FA AP
  repeat' with_reducible (first | apply Le.bind' | apply Le.ite' | exact hfRec | exact hfRec _ _ _ | exact Le.rfl' _ | intro _)
theorem KC {fRec fRec' : Int → Tr38 → Int → Option (Bool × Int)} (hfRec : ∀ a0 a1 a2,Le (fRec a0 a1 a2) (fRec' a0 a1 a2)) (p1 : Tr38) (p2 : Int) : ∀ s,Le (AP fRec p1 p2 s) (AP fRec' p1 p2 s) := by
  rintro ⟨x4,x5⟩
  show Le (AP fRec p1 p2 (x4,x5)) (AP fRec' p1 p2 (x4,x5))
  unfold AP
  repeat' with_reducible (first | apply Le.bind' | apply Le.ite' | exact hfRec | exact hfRec _ _ _ | exact Le.rfl' _ | intro _)
def Fj (nE : Nat) (fRec : Int → Tr38 → Int → Option (Bool × Int)) (p0 : Int) (p1 : Tr38) (p2 : Int) : Option (Bool × Int) := (if (w64 (p0 - 1)) < 0 then some true else (if p2 < 1 then some true else (MZ nE p1).bind fun x2 => some (!x2))).bind fun x1 => (if x1 = true then some (false,w64 (p0 - 1)) else GN (F8 nE (FA nE fRec p1 p2) (0,w64 (p0 - 1))) fun x3 => some (true,x3))
theorem Kl (nE : Nat) {fRec fRec' : Int → Tr38 → Int → Option (Bool × Int)} (hfRec : ∀ a0 a1 a2,Le (fRec a0 a1 a2) (fRec' a0 a1 a2)) (p0 : Int) (p1 : Tr38) (p2 : Int) : Le (Fj nE fRec p0 p1 p2) (BB fRec' p0 p1 p2) := by
  unfold Fj BB
  repeat' with_reducible (first | apply Le.orR' | apply Le.bind' | apply Le.ite' | apply Le.loop' | exact hfRec | exact hfRec _ _ _ | apply VD | apply KA | exact Le.rfl' _ | intro _)
theorem Kr {fRec fRec' : Int → Tr38 → Int → Option (Bool × Int)} (hfRec : ∀ a0 a1 a2,Le (fRec a0 a1 a2) (fRec' a0 a1 a2)) (p0 : Int) (p1 : Tr38) (p2 : Int) : Le (BB fRec p0 p1 p2) (BB fRec' p0 p1 p2) := by
  unfold BB
  repeat' with_reducible (first | apply Le.orR' | apply Le.bind' | apply Le.ite' | apply Le.loopM | exact hfRec | exact hfRec _ _ _ | apply KC | exact Le.rfl' _ | intro _)
def FN (nE : Nat) : Nat → Int → Tr38 → Int → Option (Bool × Int)
  | 0 => fun _ _ _ => none
  | n + 1 => Fj nE (FN nE n)
theorem HA (nE : Nat) : ∀ (m : Nat) a0 a1 a2,Le (FN nE m a0 a1 a2) (AW m a0 a1 a2)
  | 0,a0,a1,a2 => fun _ h => nomatch h
  | m + 1,a0,a1,a2 => Kl nE (HA nE m) a0 a1 a2
theorem Eb : ∀ (m : Nat) a0 a1 a2,Le (AW m a0 a1 a2) (AW (m + 1) a0 a1 a2)
  | 0,a0,a1,a2 => fun _ h => nomatch h
  | m + 1,a0,a1,a2 => Kr (Eb m) a0 a1 a2
def IL (nE : Nat) (p0 : Int) (p1 : Tr38) (p2 : Int) : Option (Bool × Int) := FN nE nE p0 p1 p2
theorem Mp (nE : Nat) (p0 : Int) (p1 : Tr38) (p2 : Int) : Le (IL nE p0 p1 p2) (D2 p0 p1 p2) := fun r e => B6 (g := fun n => AW n p0 p1 p2) (fun n r h => Eb n p0 p1 p2 r h) (n := nE) (HA nE nE p0 p1 p2 r e)
def LE (nE : Nat) (p0 : Tr38) : Option Bool := (IL nE 64 p0 8).bind fun x1 => some x1.1
theorem T0 (nE : Nat) (p0 : Tr38) : Le (LE nE p0) (FM p0) := by
  unfold LE FM
  repeat' with_reducible (first | apply Le.bind' | apply Mp | exact Le.rfl' _ | intro _)
def JC (nE : Nat) (fRec : Tr38 → Option Int) (p0 : Tr38) : (Int × Int) → Option ((Int × Int) ⊕ Int)
  | (x2,x3) => (if x3 < (p0.un.2.2.2.length : Int) then (ix p0.un.2.2.2 x3).bind fun x4 => (fRec x4).bind fun x5 => some (.inl (w64 (x2 + x5),w64 (x3 + 1))) else some (.inr x2))
theorem QN (nE : Nat) {fRec fRec' : Tr38 → Option Int} (hfRec : ∀ a0,Le (fRec a0) (fRec' a0)) (p0 : Tr38) : ∀ s,Le (JC nE fRec p0 s) (C1 fRec' p0 s) := by
  rintro ⟨x2,x3⟩
  unfold JC C1
  repeat' with_reducible (first | apply Le.bind' | apply Le.ite' | exact hfRec | exact hfRec _ | exact Le.rfl' _ | intro _)
theorem QM {fRec fRec' : Tr38 → Option Int} (hfRec : ∀ a0,Le (fRec a0) (fRec' a0)) (p0 : Tr38) : ∀ s,Le (C1 fRec p0 s) (C1 fRec' p0 s) := by
  rintro ⟨x2,x3⟩
  show Le (C1 fRec p0 (x2,x3)) (C1 fRec' p0 (x2,x3))
  unfold C1
  repeat' with_reducible (first | apply Le.bind' | apply Le.ite' | exact hfRec | exact hfRec _ | exact Le.rfl' _ | intro _)
def JL (nE : Nat) (fRec : Tr38 → Option Int) (p0 : Tr38) : Option Int := (F8 nE (JC nE fRec p0) (1,0)).bind fun x1 => some x1
theorem QO (nE : Nat) {fRec fRec' : Tr38 → Option Int} (hfRec : ∀ a0,Le (fRec a0) (fRec' a0)) (p0 : Tr38) : Le (JL nE fRec p0) (Do fRec' p0) := by
  unfold JL Do
  repeat' with_reducible (first | apply Le.bind' | apply Le.loop' | exact hfRec | exact hfRec _ | apply QN | exact Le.rfl' _ | intro _)
theorem Q0 {fRec fRec' : Tr38 → Option Int} (hfRec : ∀ a0,Le (fRec a0) (fRec' a0)) (p0 : Tr38) : Le (Do fRec p0) (Do fRec' p0) := by
  unfold Do
  repeat' with_reducible (first | apply Le.bind' | apply Le.loopM | exact hfRec | exact hfRec _ | apply QM | exact Le.rfl' _ | intro _)
def KK (nE : Nat) : Nat → Tr38 → Option Int
  | 0 => fun _ => none
  | n + 1 => JL nE (KK nE n)
theorem MQ (nE : Nat) : ∀ (m : Nat) a0,Le (KK nE m a0) (DA m a0)
  | 0,a0 => fun _ h => nomatch h
  | m + 1,a0 => QO nE (MQ nE m) a0
theorem Jr : ∀ (m : Nat) a0,Le (DA m a0) (DA (m + 1) a0)
  | 0,a0 => fun _ h => nomatch h
  | m + 1,a0 => Q0 (Jr m) a0
def Qf (nE : Nat) (p0 : Tr38) : Option Int := KK nE nE p0
theorem VH (nE : Nat) (p0 : Tr38) : Le (Qf nE p0) (LB p0) := fun r e => B6 (g := fun n => DA n p0) (fun n r h => Jr n p0 r h) (n := nE) (MQ nE nE p0 r e)
def EH (nE : Nat) (fRec : Int → Tr41 → Int → Option (Bool × Int)) (p1 : Tr41) (p2 : Int) : (Int × Int) → Option ((Int × Int) ⊕ (Int ⊕ (Bool × Int)))
  | (x7,x8) => (if x7 < (p1.un.2.2.2.2.length : Int) then (ix p1.un.2.2.2.2 x7).bind fun x9 => (fRec x8 (Tr41.of (x9.un.1,f38 x9.un.2.1,x9.un.2.2.1,x9.un.2.2.2.1,x9.un.2.2.2.2)) (w64 (p2 - 1))).bind fun x10 => (if (!x10.1) = true then some (.inr (.inr (false,x10.2))) else some (.inl (w64 (x7 + 1),x10.2))) else some (.inr (.inl x8)))
theorem JG (nE : Nat) {fRec fRec' : Int → Tr41 → Int → Option (Bool × Int)} (hfRec : ∀ a0 a1 a2,Le (fRec a0 a1 a2) (fRec' a0 a1 a2)) (p1 : Tr41) (p2 : Int) : ∀ s,Le (EH nE fRec p1 p2 s) (AK fRec' p1 p2 s) := by
  rintro ⟨x7,x8⟩
  unfold EH AK
  repeat' with_reducible (first | apply Le.bind' | apply Le.ite' | exact hfRec | exact hfRec _ _ _ | exact Le.rfl' _ | intro _)
theorem Jy {fRec fRec' : Int → Tr41 → Int → Option (Bool × Int)} (hfRec : ∀ a0 a1 a2,Le (fRec a0 a1 a2) (fRec' a0 a1 a2)) (p1 : Tr41) (p2 : Int) : ∀ s,Le (AK fRec p1 p2 s) (AK fRec' p1 p2 s) := by
  rintro ⟨x7,x8⟩
  show Le (AK fRec p1 p2 (x7,x8)) (AK fRec' p1 p2 (x7,x8))
  unfold AK
  repeat' with_reducible (first | apply Le.bind' | apply Le.ite' | exact hfRec | exact hfRec _ _ _ | exact Le.rfl' _ | intro _)
def EI (nE : Nat) (fRec : Int → Tr41 → Int → Option (Bool × Int)) (p0 : Int) (p1 : Tr41) (p2 : Int) : Option (Bool × Int) := (if p0 < 1 then some true else (if p2 < 1 then some true else (Ko nE (Tr41.of (p1.un.1,f38 p1.un.2.1,p1.un.2.2.1,p1.un.2.2.2.1,p1.un.2.2.2.2))).bind fun x2 => some (!x2))).bind fun x1 => (if x1 = true then some (false,p0) else GN (if (decide (p1.un.1 = 1) || decide (p1.un.1 = 5)) = true then (LE nE (f38 p1.un.2.1)).bind fun x4 => (if (!x4) = true then some (.inr (false,w64 (p0 - 1))) else (Qf nE (f38 p1.un.2.1)).bind fun x5 => some (.inl (w64 ((w64 (p0 - 1)) - x5)))) else some (.inl (w64 (p0 - 1)))) fun x3 => GN (F8 nE (EH nE fRec p1 p2) (0,x3)) fun x6 => some (decide (0 ≤ x6),x6))
theorem Jt (nE : Nat) {fRec fRec' : Int → Tr41 → Int → Option (Bool × Int)} (hfRec : ∀ a0 a1 a2,Le (fRec a0 a1 a2) (fRec' a0 a1 a2)) (p0 : Int) (p1 : Tr41) (p2 : Int) : Le (EI nE fRec p0 p1 p2) (BP fRec' p0 p1 p2) := by
  unfold EI BP
  repeat' with_reducible (first | apply Le.orR' | apply Le.bind' | apply Le.ite' | apply Le.loop' | exact hfRec | exact hfRec _ _ _ | apply SZ | apply T0 | apply VH | apply JG | exact Le.rfl' _ | intro _)
theorem JO {fRec fRec' : Int → Tr41 → Int → Option (Bool × Int)} (hfRec : ∀ a0 a1 a2,Le (fRec a0 a1 a2) (fRec' a0 a1 a2)) (p0 : Int) (p1 : Tr41) (p2 : Int) : Le (BP fRec p0 p1 p2) (BP fRec' p0 p1 p2) := by
  unfold BP
  repeat' with_reducible (first | apply Le.orR' | apply Le.bind' | apply Le.ite' | apply Le.loopM | exact hfRec | exact hfRec _ _ _ | apply Jy | exact Le.rfl' _ | intro _)
def E9 (nE : Nat) : Nat → Int → Tr41 → Int → Option (Bool × Int)
  | 0 => fun _ _ _ => none
  | n + 1 => EI nE (E9 nE n)
theorem GD (nE : Nat) : ∀ (m : Nat) a0 a1 a2,Le (E9 nE m a0 a1 a2) (AD m a0 a1 a2)
  | 0,a0,a1,a2 => fun _ h => nomatch h
  | m + 1,a0,a1,a2 => Jt nE (GD nE m) a0 a1 a2
theorem DL : ∀ (m : Nat) a0 a1 a2,Le (AD m a0 a1 a2) (AD (m + 1) a0 a1 a2)
  | 0,a0,a1,a2 => fun _ h => nomatch h
  | m + 1,a0,a1,a2 => JO (DL m) a0 a1 a2
def HS (nE : Nat) (p0 : Int) (p1 : Tr41) (p2 : Int) : Option (Bool × Int) := E9 nE nE p0 p1 p2
theorem KX (nE : Nat) (p0 : Int) (p1 : Tr41) (p2 : Int) : Le (HS nE p0 p1 p2) (D8 p0 p1 p2) := fun r e => B6 (g := fun n => AD n p0 p1 p2) (fun n r h => DL n p0 p1 p2 r h) (n := nE) (GD nE nE p0 p1 p2 r e)
def Iz (nE : Nat) (fRec : Tr41 → Option Int) (p0 : Tr41) : (Int × Int) → Option ((Int × Int) ⊕ Int)
  | (x2,x3) => (if x3 < (p0.un.2.2.2.2.length : Int) then (ix p0.un.2.2.2.2 x3).bind fun x4 => (fRec (Tr41.of (x4.un.1,f38 x4.un.2.1,x4.un.2.2.1,x4.un.2.2.2.1,x4.un.2.2.2.2))).bind fun x5 => some (.inl (min (w64 (x2 * x5)) 1000,w64 (x3 + 1))) else some (.inr x2))
theorem PF (nE : Nat) {fRec fRec' : Tr41 → Option Int} (hfRec : ∀ a0,Le (fRec a0) (fRec' a0)) (p0 : Tr41) : ∀ s,Le (Iz nE fRec p0 s) (CS fRec' p0 s) := by
  rintro ⟨x2,x3⟩
  unfold Iz CS
  repeat' with_reducible (first | apply Le.bind' | apply Le.ite' | exact hfRec | exact hfRec _ | exact Le.rfl' _ | intro _)
theorem OO {fRec fRec' : Tr41 → Option Int} (hfRec : ∀ a0,Le (fRec a0) (fRec' a0)) (p0 : Tr41) : ∀ s,Le (CS fRec p0 s) (CS fRec' p0 s) := by
  rintro ⟨x2,x3⟩
  show Le (CS fRec p0 (x2,x3)) (CS fRec' p0 (x2,x3))
  unfold CS
  repeat' with_reducible (first | apply Le.bind' | apply Le.ite' | exact hfRec | exact hfRec _ | exact Le.rfl' _ | intro _)
def Iw (nE : Nat) (fRec : Tr41 → Option Int) (p0 : Tr41) : (Int × Int) → Option ((Int × Int) ⊕ Int)
  | (x6,x7) => (if x7 < (p0.un.2.2.2.2.length : Int) then (ix p0.un.2.2.2.2 x7).bind fun x8 => (fRec (Tr41.of (x8.un.1,f38 x8.un.2.1,x8.un.2.2.1,x8.un.2.2.2.1,x8.un.2.2.2.2))).bind fun x9 => some (.inl (min (w64 (x6 + x9)) 1000,w64 (x7 + 1))) else some (.inr x6))
theorem PL (nE : Nat) {fRec fRec' : Tr41 → Option Int} (hfRec : ∀ a0,Le (fRec a0) (fRec' a0)) (p0 : Tr41) : ∀ s,Le (Iw nE fRec p0 s) (CI fRec' p0 s) := by
  rintro ⟨x6,x7⟩
  unfold Iw CI
  repeat' with_reducible (first | apply Le.bind' | apply Le.ite' | exact hfRec | exact hfRec _ | exact Le.rfl' _ | intro _)
theorem OX {fRec fRec' : Tr41 → Option Int} (hfRec : ∀ a0,Le (fRec a0) (fRec' a0)) (p0 : Tr41) : ∀ s,Le (CI fRec p0 s) (CI fRec' p0 s) := by
  rintro ⟨x6,x7⟩
  show Le (CI fRec p0 (x6,x7)) (CI fRec' p0 (x6,x7))
  unfold CI
  repeat' with_reducible (first | apply Le.bind' | apply Le.ite' | exact hfRec | exact hfRec _ | exact Le.rfl' _ | intro _)
def Is (nE : Nat) (fRec : Tr41 → Option Int) (p0 : Tr41) : (Int × Int) → Option ((Int × Int) ⊕ Int)
  | (x10,x11) => (if x11 < (p0.un.2.2.2.2.length : Int) then (ix p0.un.2.2.2.2 x11).bind fun x12 => (fRec (Tr41.of (x12.un.1,f38 x12.un.2.1,x12.un.2.2.1,x12.un.2.2.2.1,x12.un.2.2.2.2))).bind fun x13 => some (.inl (max x10 x13,w64 (x11 + 1))) else some (.inr x10))
theorem OR (nE : Nat) {fRec fRec' : Tr41 → Option Int} (hfRec : ∀ a0,Le (fRec a0) (fRec' a0)) (p0 : Tr41) : ∀ s,Le (Is nE fRec p0 s) (CO fRec' p0 s) := by
  rintro ⟨x10,x11⟩
  unfold Is CO
  repeat' with_reducible (first | apply Le.bind' | apply Le.ite' | exact hfRec | exact hfRec _ | exact Le.rfl' _ | intro _)
theorem Ox {fRec fRec' : Tr41 → Option Int} (hfRec : ∀ a0,Le (fRec a0) (fRec' a0)) (p0 : Tr41) : ∀ s,Le (CO fRec p0 s) (CO fRec' p0 s) := by
  rintro ⟨x10,x11⟩
  show Le (CO fRec p0 (x10,x11)) (CO fRec' p0 (x10,x11))
  unfold CO
  repeat' with_reducible (first | apply Le.bind' | apply Le.ite' | exact hfRec | exact hfRec _ | exact Le.rfl' _ | intro _)
def IA (nE : Nat) (fRec : Tr41 → Option Int) (p0 : Tr41) : Option Int := (if p0.un.1 = 3 then F8 nE (Iz nE fRec p0) (1,0) else (if p0.un.1 = 4 then F8 nE (Iw nE fRec p0) (0,0) else (if p0.un.1 = 5 then F8 nE (Is nE fRec p0) (0,0) else some 1))).bind fun x1 => some x1
theorem O2 (nE : Nat) {fRec fRec' : Tr41 → Option Int} (hfRec : ∀ a0,Le (fRec a0) (fRec' a0)) (p0 : Tr41) : Le (IA nE fRec p0) (Dv fRec' p0) := by
  unfold IA Dv
  repeat' with_reducible (first | apply Le.bind' | apply Le.ite' | apply Le.loop' | exact hfRec | exact hfRec _ | apply PF | apply PL | apply OR | exact Le.rfl' _ | intro _)
theorem Pv {fRec fRec' : Tr41 → Option Int} (hfRec : ∀ a0,Le (fRec a0) (fRec' a0)) (p0 : Tr41) : Le (Dv fRec p0) (Dv fRec' p0) := by
  unfold Dv
  repeat' with_reducible (first | apply Le.bind' | apply Le.ite' | apply Le.loopM | exact hfRec | exact hfRec _ | apply OO | apply OX | apply Ox | exact Le.rfl' _ | intro _)
def I2 (nE : Nat) : Nat → Tr41 → Option Int
  | 0 => fun _ => none
  | n + 1 => IA nE (I2 nE n)
theorem KQ (nE : Nat) : ∀ (m : Nat) a0,Le (I2 nE m a0) (B0 m a0)
  | 0,a0 => fun _ h => nomatch h
  | m + 1,a0 => O2 nE (KQ nE m) a0
theorem Il : ∀ (m : Nat) a0,Le (B0 m a0) (B0 (m + 1) a0)
  | 0,a0 => fun _ h => nomatch h
  | m + 1,a0 => Pv (Il m) a0
def NM (nE : Nat) (p0 : Tr41) : Option Int := I2 nE nE p0
theorem Ts (nE : Nat) (p0 : Tr41) : Le (NM nE p0) (J4 p0) := fun r e => B6 (g := fun n => B0 n p0) (fun n r h => Il n p0 r h) (n := nE) (KQ nE nE p0 r e)
def Ju (nE : Nat) (p0 : Tr41) : Option Bool := ((HS nE 64 (Tr41.of (p0.un.1,f38 p0.un.2.1,p0.un.2.2.1,p0.un.2.2.2.1,p0.un.2.2.2.2)) 8).bind fun x3 => (if x3.1 = true then (NM nE (Tr41.of (p0.un.1,f38 p0.un.2.1,p0.un.2.2.1,p0.un.2.2.2.1,p0.un.2.2.2.2))).bind fun x4 => some (decide (x4 ≤ 64),x3.2) else some (false,x3.2))).bind fun (x1,x2) => some x1
theorem QB (nE : Nat) (p0 : Tr41) : Le (Ju nE p0) (GC p0) := by
  unfold Ju GC
  repeat' with_reducible (first | apply Le.bind' | apply Le.ite' | apply KX | apply Ts | exact Le.rfl' _ | (refine Le.pi2 ?_; intro _) | intro _)
def H1 (nE : Nat) (Fe56 : Tr38 → Int → Option Tr38) (p0 : List Tr38) (p1 : Int) : (List Tr38 × Int) → Option ((List Tr38 × Int) ⊕ (List Tr38))
  | (x2,x3) => (if x3 < (p0.length : Int) then (ix p0 x3).bind fun x4 => (Fe56 x4 p1).bind fun x5 => (HU x2 ([x5] : List Tr38)).bind fun x6 => some (.inl (x6,w64 (x3 + 1))) else some (.inr x2))
theorem N4 (nE : Nat) {Fe56 Ff57 : Tr38 → Int → Option Tr38} (Gc54 : ∀ a0 a1,Le (Fe56 a0 a1) (Ff57 a0 a1)) (p0 : List Tr38) (p1 : Int) : ∀ s,Le (H1 nE Fe56 p0 p1 s) (Cf Ff57 p0 p1 s) := by
  rintro ⟨x2,x3⟩
  unfold H1 Cf
  repeat' with_reducible (first | apply Le.bind' | apply Le.ite' | exact Gc54 | exact Gc54 _ _ | exact Le.rfl' _ | intro _)
theorem N9 {Fe56 Ff57 : Tr38 → Int → Option Tr38} (Gc54 : ∀ a0 a1,Le (Fe56 a0 a1) (Ff57 a0 a1)) (p0 : List Tr38) (p1 : Int) : ∀ s,Le (Cf Fe56 p0 p1 s) (Cf Ff57 p0 p1 s) := by
  rintro ⟨x2,x3⟩
  show Le (Cf Fe56 p0 p1 (x2,x3)) (Cf Ff57 p0 p1 (x2,x3))
  unfold Cf
  repeat' with_reducible (first | apply Le.bind' | apply Le.ite' | exact Gc54 | exact Gc54 _ _ | exact Le.rfl' _ | intro _)
def JN (nE : Nat) (Fe56 : Tr38 → Int → Option Tr38) (p0 : List Tr38) (p1 : Int) : Option (List Tr38) := (F8 nE (H1 nE Fe56 p0 p1) ([],0)).bind fun x1 => some x1
theorem QP (nE : Nat) {Fe56 Ff57 : Tr38 → Int → Option Tr38} (Gc54 : ∀ a0 a1,Le (Fe56 a0 a1) (Ff57 a0 a1)) (p0 : List Tr38) (p1 : Int) : Le (JN nE Fe56 p0 p1) (De Ff57 p0 p1) := by
  unfold JN De
  repeat' with_reducible (first | apply Le.bind' | apply Le.loop' | exact Gc54 | exact Gc54 _ _ | apply N4 | exact Le.rfl' _ | intro _)
theorem QV {Fe56 Ff57 : Tr38 → Int → Option Tr38} (Gc54 : ∀ a0 a1,Le (Fe56 a0 a1) (Ff57 a0 a1)) (p0 : List Tr38) (p1 : Int) : Le (De Fe56 p0 p1) (De Ff57 p0 p1) := by
  unfold De
  repeat' with_reducible (first | apply Le.bind' | apply Le.loopM | exact Gc54 | exact Gc54 _ _ | apply N9 | exact Le.rfl' _ | intro _)
def CP (nE : Nat) (p0 : List Tr38) (p1c0 : Int) : Int → Option (Int ⊕ (Unit ⊕ Int))
  | x1 => (if x1 < (p0.length : Int) then (ix p0 x1).bind fun x2 => (if (EA x2 p1c0) = true then some (.inr (.inr x1)) else some (.inl (w64 (x1 + 1)))) else some (.inr (.inl ())))
theorem FO (nE : Nat) (p0 : List Tr38) (p1c0 : Int) : ∀ s,Le (CP nE p0 p1c0 s) (AR p0 p1c0 s) := by
  intro x1
  unfold CP AR
  repeat' with_reducible (first | apply Le.bind' | apply Le.ite' | exact Le.rfl' _ | intro _)
def C4 (nE : Nat) (p0 : List Tr38) (p1c0 : Int) : Option Int := GN (F8 nE (CP nE p0 p1c0) 0) fun _ => some (-1)
theorem Ge (nE : Nat) (p0 : List Tr38) (p1c0 : Int) : Le (C4 nE p0 p1c0) (A5 p0 p1c0) := by
  unfold C4 A5
  repeat' with_reducible (first | apply Le.orR' | apply Le.loop' | apply FO | exact Le.rfl' _ | intro _)
def CL (nE : Nat) (p0 : List Tr38) (p1c0 : Int) : Option Bool := (C4 nE p0 p1c0).bind fun x1 => some (decide (0 ≤ x1))
theorem FQ (nE : Nat) (p0 : List Tr38) (p1c0 : Int) : Le (CL nE p0 p1c0) (Be p0 p1c0) := by
  unfold CL Be
  repeat' with_reducible (first | apply Le.bind' | apply Ge | exact Le.rfl' _ | intro _)
def GL (nE : Nat) (p0 : List Tr38) (p1c0 : Int) : (List Tr38 × Int) → Option ((List Tr38 × Int) ⊕ (List Tr38))
  | (x2,x3) => (if x3 < (p0.length : Int) then ((ix p0 x3).bind fun x5 => (if (DZ x5 p1c0) = true then (HU x2 ([x5] : List Tr38)).bind fun x6 => some x6 else some x2)).bind fun x4 => some (.inl (x4,w64 (x3 + 1))) else some (.inr x2))
theorem M0 (nE : Nat) (p0 : List Tr38) (p1c0 : Int) : ∀ s,Le (GL nE p0 p1c0 s) (C2 p0 p1c0 s) := by
  rintro ⟨x2,x3⟩
  unfold GL C2
  repeat' with_reducible (first | apply Le.bind' | apply Le.ite' | exact Le.rfl' _ | intro _)
def Ij (nE : Nat) (p0 : List Tr38) (p1c0 : Int) : Option (List Tr38) := (F8 nE (GL nE p0 p1c0) ([],0)).bind fun x1 => some x1
theorem Po (nE : Nat) (p0 : List Tr38) (p1c0 : Int) : Le (Ij nE p0 p1c0) (Dt p0 p1c0) := by
  unfold Ij Dt
  repeat' with_reducible (first | apply Le.bind' | apply Le.loop' | apply M0 | exact Le.rfl' _ | intro _)
def FV (nE : Nat) (p0 : Int) (p1 : List Tr38) (p2 : Int) (p3 : Int) : Option Tr38 := (CL nE p1 p3).bind fun x1 => (if x1 = true then some (Tr38.of (p3,0,0,([] : List Tr38))) else (Ij nE p1 p2).bind fun x2 => (if (x2.length : Int) = 0 then some (Tr38.of (p2,0,0,([] : List Tr38))) else (if (x2.length : Int) = 1 then (ix x2 0).bind fun x3 => some x3 else some (Tr38.of (p0,0,0,x2)))))
theorem Ns (nE : Nat) (p0 : Int) (p1 : List Tr38) (p2 : Int) (p3 : Int) : Le (FV nE p0 p1 p2 p3) (Co p0 p1 p2 p3) := by
  unfold FV Co
  repeat' with_reducible (first | apply Le.bind' | apply Le.ite' | apply FQ | apply Po | exact Le.rfl' _ | intro _)
def Jv (nE : Nat) (fRec : Tr38 → Int → Option Tr38) (p0 : Tr38) (p1 : Int) : Option Tr38 := ((JN nE fRec) p0.un.2.2.2 p1).bind fun x1 => GN (if p0.un.1 = 3 then (if p0.un.2.1 = 5 then some (.inr (Tr38.of ((As (decide (p0.un.2.2.1 = p1))).un.1,(As (decide (p0.un.2.2.1 = p1))).un.2.1,(As (decide (p0.un.2.2.1 = p1))).un.2.2.1,(As (decide (p0.un.2.2.1 = p1))).un.2.2.2))) else some (.inl ())) else (if p0.un.1 = 4 then (if (x1.length : Int) = 1 then (ix x1 0).bind fun x3 => some (decide (x3.un.1 = 1)) else some false).bind fun x2 => (if x2 = true then some (.inr (Tr38.of ((As false).un.1,(As false).un.2.1,(As false).un.2.2.1,(As false).un.2.2.2))) else (if (x1.length : Int) = 1 then (ix x1 0).bind fun x5 => some (decide (x5.un.1 = 2)) else some false).bind fun x4 => (if x4 = true then some (.inr (Tr38.of ((As true).un.1,(As true).un.2.1,(As true).un.2.2.1,(As true).un.2.2.2))) else some (.inl ()))) else (if p0.un.1 = 5 then (FV nE p0.un.1 x1 1 2).bind fun x6 => some (.inr x6) else (if p0.un.1 = 6 then (FV nE p0.un.1 x1 2 1).bind fun x7 => some (.inr x7) else some (.inl ()))))) fun _ => some (Tr38.of (p0.un.1,p0.un.2.1,p0.un.2.2.1,x1))
theorem QU (nE : Nat) {fRec fRec' : Tr38 → Int → Option Tr38} (hfRec : ∀ a0 a1,Le (fRec a0 a1) (fRec' a0 a1)) (p0 : Tr38) (p1 : Int) : Le (Jv nE fRec p0 p1) (Dw fRec' p0 p1) := by
  unfold Jv Dw
  repeat' with_reducible (first | apply Le.orR' | apply Le.bind' | apply Le.ite' | exact hfRec | exact hfRec _ _ | apply QP | apply Ns | exact Le.rfl' _ | intro _)
theorem QL {fRec fRec' : Tr38 → Int → Option Tr38} (hfRec : ∀ a0 a1,Le (fRec a0 a1) (fRec' a0 a1)) (p0 : Tr38) (p1 : Int) : Le (Dw fRec p0 p1) (Dw fRec' p0 p1) := by
  unfold Dw
  repeat' with_reducible (first | apply Le.orR' | apply Le.bind' | apply Le.ite' | exact hfRec | exact hfRec _ _ | apply QV | exact Le.rfl' _ | intro _)
def KD (nE : Nat) : Nat → Tr38 → Int → Option Tr38
  | 0 => fun _ _ => none
  | n + 1 => Jv nE (KD nE n)
theorem MV (nE : Nat) : ∀ (m : Nat) a0 a1,Le (KD nE m a0 a1) (Di m a0 a1)
  | 0,a0,a1 => fun _ h => nomatch h
  | m + 1,a0,a1 => QU nE (MV nE m) a0 a1
theorem Jx : ∀ (m : Nat) a0 a1,Le (Di m a0 a1) (Di (m + 1) a0 a1)
  | 0,a0,a1 => fun _ h => nomatch h
  | m + 1,a0,a1 => QL (Jx m) a0 a1
def Qw (nE : Nat) (p0 : Tr38) (p1 : Int) : Option Tr38 := KD nE nE p0 p1
theorem VT (nE : Nat) (p0 : Tr38) (p1 : Int) : Le (Qw nE p0 p1) (LA p0 p1) := fun r e => B6 (g := fun n => Di n p0 p1) (fun n r h => Jx n p0 p1 r h) (n := nE) (MV nE nE p0 p1 r e)
def Kw (nE : Nat) (fRec : Tr41 → Int → Option Tr41) (p0 : Tr41) (p1 : Int) : (List Tr41 × Int) → Option ((List Tr41 × Int) ⊕ (List Tr41))
  | (x11,x12) => (if x12 < (p0.un.2.2.2.2.length : Int) then (ix p0.un.2.2.2.2 x12).bind fun x13 => (fRec (Tr41.of (x13.un.1,f38 x13.un.2.1,x13.un.2.2.1,x13.un.2.2.2.1,x13.un.2.2.2.2)) p1).bind fun x14 => (HU x11 ([Tr41.of (x14.un.1,f38 x14.un.2.1,x14.un.2.2.1,x14.un.2.2.2.1,x14.un.2.2.2.2)] : List Tr41)).bind fun x15 => some (.inl (x15,w64 (x12 + 1))) else some (.inr x11))
theorem SG (nE : Nat) {fRec fRec' : Tr41 → Int → Option Tr41} (hfRec : ∀ a0 a1,Le (fRec a0 a1) (fRec' a0 a1)) (p0 : Tr41) (p1 : Int) : ∀ s,Le (Kw nE fRec p0 p1 s) (DE fRec' p0 p1 s) := by
  rintro ⟨x11,x12⟩
  unfold Kw DE
  repeat' with_reducible (first | apply Le.bind' | apply Le.ite' | exact hfRec | exact hfRec _ _ | exact Le.rfl' _ | intro _)
theorem Sr {fRec fRec' : Tr41 → Int → Option Tr41} (hfRec : ∀ a0 a1,Le (fRec a0 a1) (fRec' a0 a1)) (p0 : Tr41) (p1 : Int) : ∀ s,Le (DE fRec p0 p1 s) (DE fRec' p0 p1 s) := by
  rintro ⟨x11,x12⟩
  show Le (DE fRec p0 p1 (x11,x12)) (DE fRec' p0 p1 (x11,x12))
  unfold DE
  repeat' with_reducible (first | apply Le.bind' | apply Le.ite' | exact hfRec | exact hfRec _ _ | exact Le.rfl' _ | intro _)
def Ks (nE : Nat) (fRec : Tr41 → Int → Option Tr41) (p0 : Tr41) (p1 : Int) : Option Tr41 := (if (decide (p0.un.1 = 1) || decide (p0.un.1 = 5)) = true then (Qw nE (f38 p0.un.2.1) p1).bind fun x5 => some (x5.un.1,x5.un.2.1,x5.un.2.2.1,x5.un.2.2.2) else some (p0.un.2.1.un.1,p0.un.2.1.un.2.1,p0.un.2.1.un.2.2.1,p0.un.2.1.un.2.2.2)).bind fun (x1,x2,x3,x4) => (if (decide (p0.un.1 = 5) && (decide ((p0.un.2.2.2.2.length : Int) = 2) && decide (x1 = 1))) = true then (ix p0.un.2.2.2.2 0).bind fun x6 => (fRec (Tr41.of (x6.un.1,f38 x6.un.2.1,x6.un.2.2.1,x6.un.2.2.2.1,x6.un.2.2.2.2)) p1).bind fun x7 => some (Tr41.of (x7.un.1,f38 x7.un.2.1,x7.un.2.2.1,x7.un.2.2.2.1,x7.un.2.2.2.2)) else (if (decide (p0.un.1 = 5) && (decide ((p0.un.2.2.2.2.length : Int) = 2) && decide (x1 = 2))) = true then (ix p0.un.2.2.2.2 1).bind fun x8 => (fRec (Tr41.of (x8.un.1,f38 x8.un.2.1,x8.un.2.2.1,x8.un.2.2.2.1,x8.un.2.2.2.2)) p1).bind fun x9 => some (Tr41.of (x9.un.1,f38 x9.un.2.1,x9.un.2.2.1,x9.un.2.2.2.1,x9.un.2.2.2.2)) else (F8 nE (Kw nE fRec p0 p1) ([],0)).bind fun x10 => some (Tr41.of (p0.un.1,Tr38.of (x1,x2,x3,x4),p0.un.2.2.1,p0.un.2.2.2.1,x10))))
theorem Rt (nE : Nat) {fRec fRec' : Tr41 → Int → Option Tr41} (hfRec : ∀ a0 a1,Le (fRec a0 a1) (fRec' a0 a1)) (p0 : Tr41) (p1 : Int) : Le (Ks nE fRec p0 p1) (EO fRec' p0 p1) := by
  unfold Ks EO
  repeat' with_reducible (first | apply Le.bind' | apply Le.ite' | apply Le.loop' | exact hfRec | exact hfRec _ _ | apply VT | apply SG | exact Le.rfl' _ | (refine Le.pi2 ?_; intro _) | intro _)
theorem Sp {fRec fRec' : Tr41 → Int → Option Tr41} (hfRec : ∀ a0 a1,Le (fRec a0 a1) (fRec' a0 a1)) (p0 : Tr41) (p1 : Int) : Le (EO fRec p0 p1) (EO fRec' p0 p1) := by
  unfold EO
  repeat' with_reducible (first | apply Le.bind' | apply Le.ite' | apply Le.loopM | exact hfRec | exact hfRec _ _ | apply Sr | exact Le.rfl' _ | (refine Le.pi2 ?_; intro _) | intro _)
def LF (nE : Nat) : Nat → Tr41 → Int → Option Tr41
  | 0 => fun _ _ => none
  | n + 1 => Ks nE (LF nE n)
theorem NV (nE : Nat) : ∀ (m : Nat) a0 a1,Le (LF nE m a0 a1) (Dg m a0 a1)
  | 0,a0,a1 => fun _ h => nomatch h
  | m + 1,a0,a1 => Rt nE (NV nE m) a0 a1
theorem KJ : ∀ (m : Nat) a0 a1,Le (Dg m a0 a1) (Dg (m + 1) a0 a1)
  | 0,a0,a1 => fun _ h => nomatch h
  | m + 1,a0,a1 => Sp (KJ m) a0 a1
def RE (nE : Nat) (p0 : Tr41) (p1 : Int) : Option Tr41 := LF nE nE p0 p1
theorem We (nE : Nat) (p0 : Tr41) (p1 : Int) : Le (RE nE p0 p1) (Ot p0 p1) := fun r e => B6 (g := fun n => Dg n p0 p1) (fun n r h => KJ n p0 p1 r h) (n := nE) (NV nE nE p0 p1 r e)
def Hv (nE : Nat) (fRec : Tr38 → Int → Option (List Int)) (p0 : Tr38) (p1 : Int) : (List Int × Int) → Option ((List Int × Int) ⊕ (List Int))
  | (x4,x5) => (if x5 < (p0.un.2.2.2.length : Int) then (ix p0.un.2.2.2 x5).bind fun x6 => (fRec x6 p1).bind fun x7 => (HU x4 x7).bind fun x8 => some (.inl (x8,w64 (x5 + 1))) else some (.inr x4))
theorem Nv (nE : Nat) {fRec fRec' : Tr38 → Int → Option (List Int)} (hfRec : ∀ a0 a1,Le (fRec a0 a1) (fRec' a0 a1)) (p0 : Tr38) (p1 : Int) : ∀ s,Le (Hv nE fRec p0 p1 s) (BR fRec' p0 p1 s) := by
  rintro ⟨x4,x5⟩
  unfold Hv BR
  repeat' with_reducible (first | apply Le.bind' | apply Le.ite' | exact hfRec | exact hfRec _ _ | exact Le.rfl' _ | intro _)
theorem Np {fRec fRec' : Tr38 → Int → Option (List Int)} (hfRec : ∀ a0 a1,Le (fRec a0 a1) (fRec' a0 a1)) (p0 : Tr38) (p1 : Int) : ∀ s,Le (BR fRec p0 p1 s) (BR fRec' p0 p1 s) := by
  rintro ⟨x4,x5⟩
  show Le (BR fRec p0 p1 (x4,x5)) (BR fRec' p0 p1 (x4,x5))
  unfold BR
  repeat' with_reducible (first | apply Le.bind' | apply Le.ite' | exact hfRec | exact hfRec _ _ | exact Le.rfl' _ | intro _)
def Hs (nE : Nat) (fRec : Tr38 → Int → Option (List Int)) (p0 : Tr38) (p1 : Int) : Option (List Int) := (if (decide (p0.un.1 = 3) && decide (p0.un.2.1 = p1)) = true then (HU ([] : List Int) ([p0.un.2.2.1] : List Int)).bind fun x2 => some x2 else some ([])).bind fun x1 => (F8 nE (Hv nE fRec p0 p1) (x1,0)).bind fun x3 => some x3
theorem Nt (nE : Nat) {fRec fRec' : Tr38 → Int → Option (List Int)} (hfRec : ∀ a0 a1,Le (fRec a0 a1) (fRec' a0 a1)) (p0 : Tr38) (p1 : Int) : Le (Hs nE fRec p0 p1) (Cq fRec' p0 p1) := by
  unfold Hs Cq
  repeat' with_reducible (first | apply Le.bind' | apply Le.ite' | apply Le.loop' | exact hfRec | exact hfRec _ _ | apply Nv | exact Le.rfl' _ | intro _)
theorem Nu {fRec fRec' : Tr38 → Int → Option (List Int)} (hfRec : ∀ a0 a1,Le (fRec a0 a1) (fRec' a0 a1)) (p0 : Tr38) (p1 : Int) : Le (Cq fRec p0 p1) (Cq fRec' p0 p1) := by
  unfold Cq
  repeat' with_reducible (first | apply Le.bind' | apply Le.ite' | apply Le.loopM | exact hfRec | exact hfRec _ _ | apply Np | exact Le.rfl' _ | intro _)
def HN (nE : Nat) : Nat → Tr38 → Int → Option (List Int)
  | 0 => fun _ _ => none
  | n + 1 => Hs nE (HN nE n)
theorem JI (nE : Nat) : ∀ (m : Nat) a0 a1,Le (HN nE m a0 a1) (Cn m a0 a1)
  | 0,a0,a1 => fun _ h => nomatch h
  | m + 1,a0,a1 => Nt nE (JI nE m) a0 a1
theorem Hf : ∀ (m : Nat) a0 a1,Le (Cn m a0 a1) (Cn (m + 1) a0 a1)
  | 0,a0,a1 => fun _ h => nomatch h
  | m + 1,a0,a1 => Nu (Hf m) a0 a1
def Mc (nE : Nat) (p0 : Tr38) (p1 : Int) : Option (List Int) := HN nE nE p0 p1
theorem P8 (nE : Nat) (p0 : Tr38) (p1 : Int) : Le (Mc nE p0 p1) (G7 p0 p1) := fun r e => B6 (g := fun n => Cn n p0 p1) (fun n r h => Hf n p0 p1 r h) (n := nE) (JI nE nE p0 p1 r e)
def EG (nE : Nat) (p0 : List Int) : Option (List Int) := Wp p0
theorem HP (nE : Nat) (p0 : List Int) : Le (EG nE p0) (Cm p0) := by
  unfold EG Cm
  repeat' with_reducible (first | exact Le.rfl' _ | intro _)
def D5 (nE : Nat) (p0 : List Int) : Option (List Int) := MX p0
theorem GE (nE : Nat) (p0 : List Int) : Le (D5 nE p0) (BZ p0) := by
  unfold D5 BZ
  repeat' with_reducible (first | exact Le.rfl' _ | intro _)
def Kz (nE : Nat) (p0 : Tr38) (p1 : Int) : Option (List Int) := (Mc nE p0 p1).bind fun x1 => (EG nE x1).bind fun x2 => (D5 nE x2).bind fun x3 => some x3
theorem Tj (nE : Nat) (p0 : Tr38) (p1 : Int) : Le (Kz nE p0 p1) (FG p0 p1) := by
  unfold Kz FG
  repeat' with_reducible (first | apply Le.bind' | apply P8 | apply HP | apply GE | exact Le.rfl' _ | intro _)
def Iu (nE : Nat) (fRec : Tr41 → Int → Option (List Int)) (p0 : Tr41) (p1 : Int) : (List Int × Int) → Option ((List Int × Int) ⊕ (List Int))
  | (x5,x6) => (if x6 < (p0.un.2.2.2.2.length : Int) then (ix p0.un.2.2.2.2 x6).bind fun x7 => (fRec (Tr41.of (x7.un.1,f38 x7.un.2.1,x7.un.2.2.1,x7.un.2.2.2.1,x7.un.2.2.2.2)) p1).bind fun x8 => (HU x5 x8).bind fun x9 => some (.inl (x9,w64 (x6 + 1))) else some (.inr x5))
theorem OV (nE : Nat) {fRec fRec' : Tr41 → Int → Option (List Int)} (hfRec : ∀ a0 a1,Le (fRec a0 a1) (fRec' a0 a1)) (p0 : Tr41) (p1 : Int) : ∀ s,Le (Iu nE fRec p0 p1 s) (CH fRec' p0 p1 s) := by
  rintro ⟨x5,x6⟩
  unfold Iu CH
  repeat' with_reducible (first | apply Le.bind' | apply Le.ite' | exact hfRec | exact hfRec _ _ | exact Le.rfl' _ | intro _)
theorem O4 {fRec fRec' : Tr41 → Int → Option (List Int)} (hfRec : ∀ a0 a1,Le (fRec a0 a1) (fRec' a0 a1)) (p0 : Tr41) (p1 : Int) : ∀ s,Le (CH fRec p0 p1 s) (CH fRec' p0 p1 s) := by
  rintro ⟨x5,x6⟩
  show Le (CH fRec p0 p1 (x5,x6)) (CH fRec' p0 p1 (x5,x6))
  unfold CH
  repeat' with_reducible (first | apply Le.bind' | apply Le.ite' | exact hfRec | exact hfRec _ _ | exact Le.rfl' _ | intro _)
def Ii (nE : Nat) (fRec : Tr41 → Int → Option (List Int)) (p0 : Tr41) (p1 : Int) : Option (List Int) := (Kz nE (f38 p0.un.2.1) p1).bind fun x1 => (if (decide (p0.un.1 = 2) && decide (p0.un.2.2.1 = p1)) = true then (HU x1 ([p0.un.2.2.2.1] : List Int)).bind fun x3 => some x3 else some x1).bind fun x2 => (F8 nE (Iu nE fRec p0 p1) (x2,0)).bind fun x4 => some x4
theorem Oz (nE : Nat) {fRec fRec' : Tr41 → Int → Option (List Int)} (hfRec : ∀ a0 a1,Le (fRec a0 a1) (fRec' a0 a1)) (p0 : Tr41) (p1 : Int) : Le (Ii nE fRec p0 p1) (Ds fRec' p0 p1) := by
  unfold Ii Ds
  repeat' with_reducible (first | apply Le.bind' | apply Le.ite' | apply Le.loop' | exact hfRec | exact hfRec _ _ | apply Tj | apply OV | exact Le.rfl' _ | intro _)
theorem Ov {fRec fRec' : Tr41 → Int → Option (List Int)} (hfRec : ∀ a0 a1,Le (fRec a0 a1) (fRec' a0 a1)) (p0 : Tr41) (p1 : Int) : Le (Ds fRec p0 p1) (Ds fRec' p0 p1) := by
  unfold Ds
  repeat' with_reducible (first | apply Le.bind' | apply Le.ite' | apply Le.loopM | exact hfRec | exact hfRec _ _ | apply O4 | exact Le.rfl' _ | intro _)
def I9 (nE : Nat) : Nat → Tr41 → Int → Option (List Int)
  | 0 => fun _ _ => none
  | n + 1 => Ii nE (I9 nE n)
theorem Li (nE : Nat) : ∀ (m : Nat) a0 a1,Le (I9 nE m a0 a1) (C5 m a0 a1)
  | 0,a0,a1 => fun _ h => nomatch h
  | m + 1,a0,a1 => Oz nE (Li nE m) a0 a1
theorem Ir : ∀ (m : Nat) a0 a1,Le (C5 m a0 a1) (C5 (m + 1) a0 a1)
  | 0,a0,a1 => fun _ h => nomatch h
  | m + 1,a0,a1 => Ov (Ir m) a0 a1
def NA (nE : Nat) (p0 : Tr41) (p1 : Int) : Option (List Int) := I9 nE nE p0 p1
theorem SD (nE : Nat) (p0 : Tr41) (p1 : Int) : Le (NA nE p0 p1) (Kk p0 p1) := fun r e => B6 (g := fun n => C5 n p0 p1) (fun n r h => Ir n p0 p1 r h) (n := nE) (Li nE nE p0 p1 r e)
def DD (nE : Nat) (p0 : Tr41) (p1 : Int) : Option (List Int) := (NA nE (Tr41.of (p0.un.1,f38 p0.un.2.1,p0.un.2.2.1,p0.un.2.2.2.1,p0.un.2.2.2.2)) p1).bind fun x1 => (EG nE x1).bind fun x2 => (D5 nE x2).bind fun x3 => some x3
theorem KY (nE : Nat) (p0 : Tr41) (p1 : Int) : Le (DD nE p0 p1) (Dc p0 p1) := by
  unfold DD Dc
  repeat' with_reducible (first | apply Le.bind' | apply HP | apply GE | apply SD | exact Le.rfl' _ | intro _)
def IB (nE : Nat) (p0 : Tr41) : (Int × Int) → Option ((Int × Int) ⊕ Int)
  | (x2,x3) => (if x3 ≤ 4 then (DD nE (Tr41.of (p0.un.1,f38 p0.un.2.1,p0.un.2.2.1,p0.un.2.2.2.1,p0.un.2.2.2.2)) x3).bind fun x4 => some (.inl (min (w64 (x2 * (w64 ((x4.length : Int) + 1)))) 100000,w64 (x3 + 1))) else some (.inr x2))
theorem Oq (nE : Nat) (p0 : Tr41) : ∀ s,Le (IB nE p0 s) (ED p0 s) := by
  rintro ⟨x2,x3⟩
  unfold IB ED
  repeat' with_reducible (first | apply Le.bind' | apply Le.ite' | apply KY | exact Le.rfl' _ | intro _)
def KM (nE : Nat) (p0 : Tr41) : Option Int := (F8 nE (IB nE p0) (1,0)).bind fun x1 => some x1
theorem RI (nE : Nat) (p0 : Tr41) : Le (KM nE p0) (Hz p0) := by
  unfold KM Hz
  repeat' with_reducible (first | apply Le.bind' | apply Le.loop' | apply Oq | exact Le.rfl' _ | intro _)
def Cr (nE : Nat) (p0 : Int) : Option Int := (ix ([4,0,1,2,3] : List Int) p0).bind fun x1 => some x1
theorem Mh (nE : Nat) (p0 : Int) : Le (Cr nE p0) (Bm p0) := by
  unfold Cr Bm
  repeat' with_reducible (first | apply Le.bind' | exact Le.rfl' _ | intro _)
def Ev (nE : Nat) (p0 : Sq) (p1 : Int) (p2 : Int) : Option Sq := (if p1 = 4 then some (p2,p0.2.1,p0.2.2.1,p0.2.2.2.1,p0.2.2.2.2) else (ix ([p0.2.1,p0.2.2.1,p0.2.2.2.1,p0.2.2.2.2] : List Int) p1).bind fun x6 => some (p0.1,(if p1 = 0 then p2 else p0.2.1),(if p1 = 1 then p2 else p0.2.2.1),(if p1 = 2 then p2 else p0.2.2.2.1),(if p1 = 3 then p2 else p0.2.2.2.2))).bind fun (x1,x2,x3,x4,x5) => some (x1,(x2,x3,x4,x5))
theorem LG (nE : Nat) (p0 : Sq) (p1 : Int) (p2 : Int) : Le (Ev nE p0 p1 p2) (CT p0 p1 p2) := by
  unfold Ev CT
  repeat' with_reducible (first | apply Le.bind' | apply Le.ite' | exact Le.rfl' _ | (refine Le.pi2 ?_; intro _) | intro _)
def LW (nE : Nat) (p0 : Int × Int × Int × Int) (p1 : Int) : Option Int := (if (!(CG p1)) = true then some 0 else (ix ([p0.1,p0.2.1,p0.2.2.1,p0.2.2.2] : List Int) p1).bind fun x1 => some x1)
theorem T7 (nE : Nat) (p0 : Int × Int × Int × Int) (p1 : Int) : Le (LW nE p0 p1) (Hk p0 p1) := by
  unfold LW Hk
  repeat' with_reducible (first | apply Le.bind' | apply Le.ite' | exact Le.rfl' _ | intro _)
def Ob (nE : Nat) (p0 : Int) (p1 : Int) (p2 : Int) (p3 : Int × Int × Int × Int) : Option Int := (if p0 = 4 then some p2 else (if p0 = 5 then some p1 else (if (DX p0) = true then (LW nE p3 p0).bind fun x1 => some x1 else some (-1))))
theorem WV (nE : Nat) (p0 : Int) (p1 : Int) (p2 : Int) (p3 : Int × Int × Int × Int) : Le (Ob nE p0 p1 p2 p3) (JD p0 p1 p2 p3) := by
  unfold Ob JD
  repeat' with_reducible (first | apply Le.bind' | apply Le.ite' | apply T7 | exact Le.rfl' _ | intro _)
def EV (nE : Nat) (Fa52 : (Int × Sq) → Tr38 → Option Bool) (p0 : Int × Sq) (p1 : Tr38) : Option Bool := (Fa52 p0 p1).bind fun x1 => some (!x1)
theorem Ia (nE : Nat) {Fa52 Fb53 : (Int × Sq) → Tr38 → Option Bool} (Ga52 : ∀ a0 a1,Le (Fa52 a0 a1) (Fb53 a0 a1)) (p0 : Int × Sq) (p1 : Tr38) : Le (EV nE Fa52 p0 p1) (Bo Fb53 p0 p1) := by
  unfold EV Bo
  repeat' with_reducible (first | apply Le.bind' | exact Ga52 | exact Ga52 _ _ | exact Le.rfl' _ | intro _)
theorem H7 {Fa52 Fb53 : (Int × Sq) → Tr38 → Option Bool} (Ga52 : ∀ a0 a1,Le (Fa52 a0 a1) (Fb53 a0 a1)) (p0 : Int × Sq) (p1 : Tr38) : Le (Bo Fa52 p0 p1) (Bo Fb53 p0 p1) := by
  unfold Bo
  repeat' with_reducible (first | apply Le.bind' | exact Ga52 | exact Ga52 _ _ | exact Le.rfl' _ | intro _)
def Cy (nE : Nat) (Fa52 : (Int × Sq) → Tr38 → Option Bool) (p0 : List Tr38) (p1f0 : Int × Sq) : Int → Option (Int ⊕ (Unit ⊕ Int))
  | x1 => (if x1 < (p0.length : Int) then (ix p0 x1).bind fun x2 => ((EV nE Fa52) p1f0 x2).bind fun x3 => (if x3 = true then some (.inr (.inr x1)) else some (.inl (w64 (x1 + 1)))) else some (.inr (.inl ())))
theorem Fp (nE : Nat) {Fa52 Fb53 : (Int × Sq) → Tr38 → Option Bool} (Ga52 : ∀ a0 a1,Le (Fa52 a0 a1) (Fb53 a0 a1)) (p0 : List Tr38) (p1f0 : Int × Sq) : ∀ s,Le (Cy nE Fa52 p0 p1f0 s) (Am Fb53 p0 p1f0 s) := by
  intro x1
  unfold Cy Am
  repeat' with_reducible (first | apply Le.bind' | apply Le.ite' | exact Ga52 | exact Ga52 _ _ | apply Ia | exact Le.rfl' _ | intro _)
theorem Ft {Fa52 Fb53 : (Int × Sq) → Tr38 → Option Bool} (Ga52 : ∀ a0 a1,Le (Fa52 a0 a1) (Fb53 a0 a1)) (p0 : List Tr38) (p1f0 : Int × Sq) : ∀ s,Le (Am Fa52 p0 p1f0 s) (Am Fb53 p0 p1f0 s) := by
  intro x1
  unfold Am
  repeat' with_reducible (first | apply Le.bind' | apply Le.ite' | exact Ga52 | exact Ga52 _ _ | apply H7 | exact Le.rfl' _ | intro _)
def CZ (nE : Nat) (Fa52 : (Int × Sq) → Tr38 → Option Bool) (p0 : List Tr38) (p1f0 : Int × Sq) : Option Int := GN (F8 nE (Cy nE Fa52 p0 p1f0) 0) fun _ => some (-1)
theorem FW (nE : Nat) {Fa52 Fb53 : (Int × Sq) → Tr38 → Option Bool} (Ga52 : ∀ a0 a1,Le (Fa52 a0 a1) (Fb53 a0 a1)) (p0 : List Tr38) (p1f0 : Int × Sq) : Le (CZ nE Fa52 p0 p1f0) (Av Fb53 p0 p1f0) := by
  unfold CZ Av
  repeat' with_reducible (first | apply Le.orR' | apply Le.loop' | exact Ga52 | exact Ga52 _ _ | apply Fp | exact Le.rfl' _ | intro _)
theorem FX {Fa52 Fb53 : (Int × Sq) → Tr38 → Option Bool} (Ga52 : ∀ a0 a1,Le (Fa52 a0 a1) (Fb53 a0 a1)) (p0 : List Tr38) (p1f0 : Int × Sq) : Le (Av Fa52 p0 p1f0) (Av Fb53 p0 p1f0) := by
  unfold Av
  repeat' with_reducible (first | apply Le.orR' | apply Le.loopM | exact Ga52 | exact Ga52 _ _ | apply Ft | exact Le.rfl' _ | intro _)
def Cz (nE : Nat) (Fa52 : (Int × Sq) → Tr38 → Option Bool) (p0 : List Tr38) (p1f0 : Int × Sq) : Option Bool := ((CZ nE Fa52) p0 p1f0).bind fun x1 => some (decide (0 ≤ x1))
theorem FD (nE : Nat) {Fa52 Fb53 : (Int × Sq) → Tr38 → Option Bool} (Ga52 : ∀ a0 a1,Le (Fa52 a0 a1) (Fb53 a0 a1)) (p0 : List Tr38) (p1f0 : Int × Sq) : Le (Cz nE Fa52 p0 p1f0) (Ay Fb53 p0 p1f0) := by
  unfold Cz Ay
  repeat' with_reducible (first | apply Le.bind' | exact Ga52 | exact Ga52 _ _ | apply FW | exact Le.rfl' _ | intro _)
theorem Fk {Fa52 Fb53 : (Int × Sq) → Tr38 → Option Bool} (Ga52 : ∀ a0 a1,Le (Fa52 a0 a1) (Fb53 a0 a1)) (p0 : List Tr38) (p1f0 : Int × Sq) : Le (Ay Fa52 p0 p1f0) (Ay Fb53 p0 p1f0) := by
  unfold Ay
  repeat' with_reducible (first | apply Le.bind' | exact Ga52 | exact Ga52 _ _ | apply FX | exact Le.rfl' _ | intro _)
def CA (nE : Nat) (Fa52 : (Int × Sq) → Tr38 → Option Bool) (p0 : List Tr38) (p1f0 : Int × Sq) : Int → Option (Int ⊕ (Unit ⊕ Int))
  | x1 => (if x1 < (p0.length : Int) then (ix p0 x1).bind fun x2 => (Fa52 p1f0 x2).bind fun x3 => (if x3 = true then some (.inr (.inr x1)) else some (.inl (w64 (x1 + 1)))) else some (.inr (.inl ())))
theorem Fs (nE : Nat) {Fa52 Fb53 : (Int × Sq) → Tr38 → Option Bool} (Ga52 : ∀ a0 a1,Le (Fa52 a0 a1) (Fb53 a0 a1)) (p0 : List Tr38) (p1f0 : Int × Sq) : ∀ s,Le (CA nE Fa52 p0 p1f0 s) (An Fb53 p0 p1f0 s) := by
  intro x1
  unfold CA An
  repeat' with_reducible (first | apply Le.bind' | apply Le.ite' | exact Ga52 | exact Ga52 _ _ | exact Le.rfl' _ | intro _)
theorem FB {Fa52 Fb53 : (Int × Sq) → Tr38 → Option Bool} (Ga52 : ∀ a0 a1,Le (Fa52 a0 a1) (Fb53 a0 a1)) (p0 : List Tr38) (p1f0 : Int × Sq) : ∀ s,Le (An Fa52 p0 p1f0 s) (An Fb53 p0 p1f0 s) := by
  intro x1
  unfold An
  repeat' with_reducible (first | apply Le.bind' | apply Le.ite' | exact Ga52 | exact Ga52 _ _ | exact Le.rfl' _ | intro _)
def C0 (nE : Nat) (Fa52 : (Int × Sq) → Tr38 → Option Bool) (p0 : List Tr38) (p1f0 : Int × Sq) : Option Int := GN (F8 nE (CA nE Fa52 p0 p1f0) 0) fun _ => some (-1)
theorem F1 (nE : Nat) {Fa52 Fb53 : (Int × Sq) → Tr38 → Option Bool} (Ga52 : ∀ a0 a1,Le (Fa52 a0 a1) (Fb53 a0 a1)) (p0 : List Tr38) (p1f0 : Int × Sq) : Le (C0 nE Fa52 p0 p1f0) (Aw Fb53 p0 p1f0) := by
  unfold C0 Aw
  repeat' with_reducible (first | apply Le.orR' | apply Le.loop' | exact Ga52 | exact Ga52 _ _ | apply Fs | exact Le.rfl' _ | intro _)
theorem F0 {Fa52 Fb53 : (Int × Sq) → Tr38 → Option Bool} (Ga52 : ∀ a0 a1,Le (Fa52 a0 a1) (Fb53 a0 a1)) (p0 : List Tr38) (p1f0 : Int × Sq) : Le (Aw Fa52 p0 p1f0) (Aw Fb53 p0 p1f0) := by
  unfold Aw
  repeat' with_reducible (first | apply Le.orR' | apply Le.loopM | exact Ga52 | exact Ga52 _ _ | apply FB | exact Le.rfl' _ | intro _)
def CB (nE : Nat) (Fa52 : (Int × Sq) → Tr38 → Option Bool) (p0 : List Tr38) (p1f0 : Int × Sq) : Option Bool := ((C0 nE Fa52) p0 p1f0).bind fun x1 => some (decide (0 ≤ x1))
theorem Fo (nE : Nat) {Fa52 Fb53 : (Int × Sq) → Tr38 → Option Bool} (Ga52 : ∀ a0 a1,Le (Fa52 a0 a1) (Fb53 a0 a1)) (p0 : List Tr38) (p1f0 : Int × Sq) : Le (CB nE Fa52 p0 p1f0) (Az Fb53 p0 p1f0) := by
  unfold CB Az
  repeat' with_reducible (first | apply Le.bind' | exact Ga52 | exact Ga52 _ _ | apply F1 | exact Le.rfl' _ | intro _)
theorem FC {Fa52 Fb53 : (Int × Sq) → Tr38 → Option Bool} (Ga52 : ∀ a0 a1,Le (Fa52 a0 a1) (Fb53 a0 a1)) (p0 : List Tr38) (p1f0 : Int × Sq) : Le (Az Fa52 p0 p1f0) (Az Fb53 p0 p1f0) := by
  unfold Az
  repeat' with_reducible (first | apply Le.bind' | exact Ga52 | exact Ga52 _ _ | apply F0 | exact Le.rfl' _ | intro _)
def Eh (nE : Nat) (fRec : (Int × Sq) → Tr38 → Option Bool) (p0 : Int × Sq) (p1 : Tr38) : Option Bool := (if p1.un.1 = 1 then some true else (if p1.un.1 = 3 then (if (DX p1.un.2.1) = true then (Ob nE p1.un.2.1 p0.1 p0.2.1 p0.2.2).bind fun x2 => some (decide (x2 = p1.un.2.2.1)) else some false).bind fun x1 => some x1 else (if p1.un.1 = 4 then (if 0 < (p1.un.2.2.2.length : Int) then (ix p1.un.2.2.2 0).bind fun x4 => ((EV nE fRec) p0 x4).bind fun x5 => some x5 else some false).bind fun x3 => some x3 else (if p1.un.1 = 5 then ((Cz nE fRec) p1.un.2.2.2 p0).bind fun x6 => some (!x6) else (if p1.un.1 = 6 then ((CB nE fRec) p1.un.2.2.2 p0).bind fun x7 => some x7 else some false)))))
theorem I8 (nE : Nat) {fRec fRec' : (Int × Sq) → Tr38 → Option Bool} (hfRec : ∀ a0 a1,Le (fRec a0 a1) (fRec' a0 a1)) (p0 : Int × Sq) (p1 : Tr38) : Le (Eh nE fRec p0 p1) (A4 fRec' p0 p1) := by
  unfold Eh A4
  repeat' with_reducible (first | apply Le.bind' | apply Le.ite' | exact hfRec | exact hfRec _ _ | apply WV | apply Ia | apply FD | apply Fo | exact Le.rfl' _ | intro _)
theorem IY {fRec fRec' : (Int × Sq) → Tr38 → Option Bool} (hfRec : ∀ a0 a1,Le (fRec a0 a1) (fRec' a0 a1)) (p0 : Int × Sq) (p1 : Tr38) : Le (A4 fRec p0 p1) (A4 fRec' p0 p1) := by
  unfold A4
  repeat' with_reducible (first | apply Le.bind' | apply Le.ite' | exact hfRec | exact hfRec _ _ | apply H7 | apply Fk | apply FC | exact Le.rfl' _ | intro _)
def EC (nE : Nat) : Nat → (Int × Sq) → Tr38 → Option Bool
  | 0 => fun _ _ => none
  | n + 1 => Eh nE (EC nE n)
theorem Gb (nE : Nat) : ∀ (m : Nat) a0 a1,Le (EC nE m a0 a1) (AY m a0 a1)
  | 0,a0,a1 => fun _ h => nomatch h
  | m + 1,a0,a1 => I8 nE (Gb nE m) a0 a1
theorem Em : ∀ (m : Nat) a0 a1,Le (AY m a0 a1) (AY (m + 1) a0 a1)
  | 0,a0,a1 => fun _ h => nomatch h
  | m + 1,a0,a1 => IY (Em m) a0 a1
def GZ (nE : Nat) (p0 : Int × Sq) (p1 : Tr38) : Option Bool := EC nE nE p0 p1
theorem JR (nE : Nat) (p0 : Int × Sq) (p1 : Tr38) : Le (GZ nE p0 p1) (Dq p0 p1) := fun r e => B6 (g := fun n => AY n p0 p1) (fun n r h => Em n p0 p1 r h) (n := nE) (Gb nE nE p0 p1 r e)
def Kc (nE : Nat) (p0 : Tr38) (p1 : Int) (p2 : Int) (p3 : Int × Int × Int × Int) : Option Bool := (GZ nE (p1,p2,p3) p0).bind fun x1 => some x1
theorem OM (nE : Nat) (p0 : Tr38) (p1 : Int) (p2 : Int) (p3 : Int × Int × Int × Int) : Le (Kc nE p0 p1 p2 p3) (Fv p0 p1 p2 p3) := by
  unfold Kc Fv
  repeat' with_reducible (first | apply Le.bind' | apply JR | exact Le.rfl' _ | intro _)
def KE (nE : Nat) (p0 : Int) (p1 : Int) : Option Bool := (if 0 ≤ p1 then (Je nE p0).bind fun x2 => some (decide (p1 ≤ x2)) else some false).bind fun x1 => some x1
theorem SC (nE : Nat) (p0 : Int) (p1 : Int) : Le (KE nE p0 p1) (EN p0 p1) := by
  unfold KE EN
  repeat' with_reducible (first | apply Le.bind' | apply Le.ite' | apply NR | exact Le.rfl' _ | intro _)
def KG (nE : Nat) (p0 : Int × Int × Int × Int) (p1 : Int) (p2 : Int) : Option (Int × Int × Int × Int) := ((if (CG p1) = true then (KE nE p1 p2).bind fun x6 => some x6 else some false).bind fun x5 => (if x5 = true then (ix ([p0.1,p0.2.1,p0.2.2.1,p0.2.2.2] : List Int) p1).bind fun x7 => some ((if p1 = 0 then p2 else p0.1),(if p1 = 1 then p2 else p0.2.1),(if p1 = 2 then p2 else p0.2.2.1),(if p1 = 3 then p2 else p0.2.2.2)) else some (p0.1,p0.2.1,p0.2.2.1,p0.2.2.2))).bind fun (x1,x2,x3,x4) => some (x1,x2,x3,x4)
theorem So (nE : Nat) (p0 : Int × Int × Int × Int) (p1 : Int) (p2 : Int) : Le (KG nE p0 p1 p2) (Dk p0 p1 p2) := by
  unfold KG Dk
  repeat' with_reducible (first | apply Le.bind' | apply Le.ite' | apply SC | exact Le.rfl' _ | (refine Le.pi2 ?_; intro _) | intro _)
def HR (nE : Nat) (p0 : Sq) (p1 : Int) (p2 : Int) : Option Sq := (if p1 = 4 then some p2 else some p0.1).bind fun x1 => (KG nE p0.2 p1 p2).bind fun x2 => some (x1,x2)
theorem NW (nE : Nat) (p0 : Sq) (p1 : Int) (p2 : Int) : Le (HR nE p0 p1 p2) (CM p0 p1 p2) := by
  unfold HR CM
  repeat' with_reducible (first | apply Le.bind' | apply Le.ite' | apply So | exact Le.rfl' _ | intro _)
def FS (nE : Nat) (Fc54 : Tr41 → Int → Sq → Option (List Sq)) (p1 : Int) (x4 : Tr41) (kx5196 : Sq) : Option (List Sq) := (Fc54 (Tr41.of (x4.un.1,f38 x4.un.2.1,x4.un.2.2.1,x4.un.2.2.2.1,x4.un.2.2.2.2)) p1 kx5196).bind fun x6 => some x6
theorem Lu (nE : Nat) {Fc54 Fd55 : Tr41 → Int → Sq → Option (List Sq)} (Gb53 : ∀ a0 a1 a2,Le (Fc54 a0 a1 a2) (Fd55 a0 a1 a2)) (p1 : Int) (x4 : Tr41) (kx5196 : Sq) : Le (FS nE Fc54 p1 x4 kx5196) (Cg Fd55 p1 x4 kx5196) := by
  unfold FS Cg
  repeat' with_reducible (first | apply Le.bind' | exact Gb53 | exact Gb53 _ _ _ | exact Le.rfl' _ | intro _)
theorem Ly {Fc54 Fd55 : Tr41 → Int → Sq → Option (List Sq)} (Gb53 : ∀ a0 a1 a2,Le (Fc54 a0 a1 a2) (Fd55 a0 a1 a2)) (p1 : Int) (x4 : Tr41) (kx5196 : Sq) : Le (Cg Fc54 p1 x4 kx5196) (Cg Fd55 p1 x4 kx5196) := by
  unfold Cg
  repeat' with_reducible (first | apply Le.bind' | exact Gb53 | exact Gb53 _ _ _ | exact Le.rfl' _ | intro _)
def FU (nE : Nat) (Fc54 : Tr41 → Int → Sq → Option (List Sq)) (p0 : List Tr41) (p1 : Int) : ((List Sq) × Int) → Option (((List Sq) × Int) ⊕ (List Sq))
  | (x2,x3) => (if x3 < (p0.length : Int) then (ix p0 x3).bind fun x4 => (H4 AQ (FS nE Fc54 p1 x4) x2 ([] : List Sq)).bind fun x5 => some (.inl (x5,w64 (x3 + 1))) else some (.inr x2))
theorem KS (nE : Nat) {Fc54 Fd55 : Tr41 → Int → Sq → Option (List Sq)} (Gb53 : ∀ a0 a1 a2,Le (Fc54 a0 a1 a2) (Fd55 a0 a1 a2)) (p0 : List Tr41) (p1 : Int) : ∀ s,Le (FU nE Fc54 p0 p1 s) (Bu Fd55 p0 p1 s) := by
  rintro ⟨x2,x3⟩
  unfold FU Bu
  repeat' with_reducible (first | apply Le.bind' | apply Le.ite' | refine Le.sall' ?_ _ _ | exact Gb53 | exact Gb53 _ _ _ | apply Lu | exact Le.rfl' _ | intro _)
theorem K0 {Fc54 Fd55 : Tr41 → Int → Sq → Option (List Sq)} (Gb53 : ∀ a0 a1 a2,Le (Fc54 a0 a1 a2) (Fd55 a0 a1 a2)) (p0 : List Tr41) (p1 : Int) : ∀ s,Le (Bu Fc54 p0 p1 s) (Bu Fd55 p0 p1 s) := by
  rintro ⟨x2,x3⟩
  show Le (Bu Fc54 p0 p1 (x2,x3)) (Bu Fd55 p0 p1 (x2,x3))
  unfold Bu
  repeat' with_reducible (first | apply Le.bind' | apply Le.ite' | refine Le.sall' ?_ _ _ | exact Gb53 | exact Gb53 _ _ _ | apply Ly | exact Le.rfl' _ | intro _)
def GJ (nE : Nat) (Fc54 : Tr41 → Int → Sq → Option (List Sq)) (p0 : List Tr41) (p1 : Int) (p2 : Sq) : Option (List Sq) := (F8 nE (FU nE Fc54 p0 p1) ((Gw AQ ([] : List Sq) p2),0)).bind fun x1 => some x1
theorem Ms (nE : Nat) {Fc54 Fd55 : Tr41 → Int → Sq → Option (List Sq)} (Gb53 : ∀ a0 a1 a2,Le (Fc54 a0 a1 a2) (Fd55 a0 a1 a2)) (p0 : List Tr41) (p1 : Int) (p2 : Sq) : Le (GJ nE Fc54 p0 p1 p2) (Cw Fd55 p0 p1 p2) := by
  unfold GJ Cw
  repeat' with_reducible (first | apply Le.bind' | apply Le.loop' | exact Gb53 | exact Gb53 _ _ _ | apply KS | exact Le.rfl' _ | intro _)
theorem MU {Fc54 Fd55 : Tr41 → Int → Sq → Option (List Sq)} (Gb53 : ∀ a0 a1 a2,Le (Fc54 a0 a1 a2) (Fd55 a0 a1 a2)) (p0 : List Tr41) (p1 : Int) (p2 : Sq) : Le (Cw Fc54 p0 p1 p2) (Cw Fd55 p0 p1 p2) := by
  unfold Cw
  repeat' with_reducible (first | apply Le.bind' | apply Le.loopM | exact Gb53 | exact Gb53 _ _ _ | apply K0 | exact Le.rfl' _ | intro _)
def IZ (nE : Nat) (p0 : Tr41) (p1 : Int) (p2 : Sq) : Option Tr41 := ((Kc nE (f38 p0.un.2.1) p1 p2.1 p2.2).bind fun x2 => (if x2 = true then some 0 else some 1)).bind fun x1 => (if (p0.un.2.2.2.2.length : Int) ≤ x1 then some (Tr41.of (0,Tr38.of (0,0,0,([] : List Tr38)),0,0,([] : List Tr41))) else (ix p0.un.2.2.2.2 x1).bind fun x3 => some (Tr41.of (x3.un.1,f38 x3.un.2.1,x3.un.2.2.1,x3.un.2.2.2.1,x3.un.2.2.2.2)))
theorem P3 (nE : Nat) (p0 : Tr41) (p1 : Int) (p2 : Sq) : Le (IZ nE p0 p1 p2) (Fe p0 p1 p2) := by
  unfold IZ Fe
  repeat' with_reducible (first | apply Le.bind' | apply Le.ite' | apply OM | exact Le.rfl' _ | intro _)
def GF (nE : Nat) (fRec : Tr41 → Int → Sq → Option (List Sq)) (p0 : Tr41) (p1 : Int) (p2 : Sq) : ((List Sq) × Int) → Option (((List Sq) × Int) ⊕ (List Sq))
  | (x5,x6) => (if x6 < (p0.un.2.2.2.2.length : Int) then (ix p0.un.2.2.2.2 x6).bind fun x7 => (fRec (Tr41.of (x7.un.1,f38 x7.un.2.1,x7.un.2.2.1,x7.un.2.2.2.1,x7.un.2.2.2.2)) p1 p2).bind fun x8 => some (.inl ((Mk AQ x5 x8),w64 (x6 + 1))) else some (.inr x5))
theorem MI (nE : Nat) {fRec fRec' : Tr41 → Int → Sq → Option (List Sq)} (hfRec : ∀ a0 a1 a2,Le (fRec a0 a1 a2) (fRec' a0 a1 a2)) (p0 : Tr41) (p1 : Int) (p2 : Sq) : ∀ s,Le (GF nE fRec p0 p1 p2 s) (B5 fRec' p0 p1 p2 s) := by
  rintro ⟨x5,x6⟩
  unfold GF B5
  repeat' with_reducible (first | apply Le.bind' | apply Le.ite' | exact hfRec | exact hfRec _ _ _ | exact Le.rfl' _ | intro _)
theorem MY {fRec fRec' : Tr41 → Int → Sq → Option (List Sq)} (hfRec : ∀ a0 a1 a2,Le (fRec a0 a1 a2) (fRec' a0 a1 a2)) (p0 : Tr41) (p1 : Int) (p2 : Sq) : ∀ s,Le (B5 fRec p0 p1 p2 s) (B5 fRec' p0 p1 p2 s) := by
  rintro ⟨x5,x6⟩
  show Le (B5 fRec p0 p1 p2 (x5,x6)) (B5 fRec' p0 p1 p2 (x5,x6))
  unfold B5
  repeat' with_reducible (first | apply Le.bind' | apply Le.ite' | exact hfRec | exact hfRec _ _ _ | exact Le.rfl' _ | intro _)
def GI (nE : Nat) (fRec : Tr41 → Int → Sq → Option (List Sq)) (p0 : Tr41) (p1 : Int) (p2 : Sq) : Option (List Sq) := GN (if p0.un.1 = 1 then (Kc nE (f38 p0.un.2.1) p1 p2.1 p2.2).bind fun x1 => (if x1 = true then some (.inr (Gw AQ ([] : List Sq) p2)) else some (.inl ())) else (if p0.un.1 = 2 then (HR nE p2 p0.un.2.2.1 p0.un.2.2.2.1).bind fun x2 => some (.inr (Gw AQ ([] : List Sq) x2)) else (if p0.un.1 = 3 then ((GJ nE fRec) p0.un.2.2.2.2 p1 p2).bind fun x3 => some (.inr x3) else (if p0.un.1 = 4 then (F8 nE (GF nE fRec p0 p1 p2) (([] : List Sq),0)).bind fun x4 => some (.inr x4) else (if p0.un.1 = 5 then (IZ nE (Tr41.of (p0.un.1,f38 p0.un.2.1,p0.un.2.2.1,p0.un.2.2.2.1,p0.un.2.2.2.2)) p1 p2).bind fun x9 => (fRec (Tr41.of (x9.un.1,f38 x9.un.2.1,x9.un.2.2.1,x9.un.2.2.2.1,x9.un.2.2.2.2)) p1 p2).bind fun x10 => some (.inr x10) else some (.inl ())))))) fun _ => some ([] : List Sq)
theorem MS (nE : Nat) {fRec fRec' : Tr41 → Int → Sq → Option (List Sq)} (hfRec : ∀ a0 a1 a2,Le (fRec a0 a1 a2) (fRec' a0 a1 a2)) (p0 : Tr41) (p1 : Int) (p2 : Sq) : Le (GI nE fRec p0 p1 p2) (AJ fRec' p0 p1 p2) := by
  unfold GI AJ
  repeat' with_reducible (first | apply Le.orR' | apply Le.bind' | apply Le.ite' | apply Le.loop' | exact hfRec | exact hfRec _ _ _ | apply OM | apply NW | apply Ms | apply P3 | apply MI | exact Le.rfl' _ | intro _)
theorem M1 {fRec fRec' : Tr41 → Int → Sq → Option (List Sq)} (hfRec : ∀ a0 a1 a2,Le (fRec a0 a1 a2) (fRec' a0 a1 a2)) (p0 : Tr41) (p1 : Int) (p2 : Sq) : Le (AJ fRec p0 p1 p2) (AJ fRec' p0 p1 p2) := by
  unfold AJ
  repeat' with_reducible (first | apply Le.orR' | apply Le.bind' | apply Le.ite' | apply Le.loopM | exact hfRec | exact hfRec _ _ _ | apply MU | apply MY | exact Le.rfl' _ | intro _)
def Hc (nE : Nat) : Nat → Tr41 → Int → Sq → Option (List Sq)
  | 0 => fun _ _ _ => none
  | n + 1 => GI nE (Hc nE n)
theorem Jd (nE : Nat) : ∀ (m : Nat) a0 a1 a2,Le (Hc nE m a0 a1 a2) (Ab m a0 a1 a2)
  | 0,a0,a1,a2 => fun _ h => nomatch h
  | m + 1,a0,a1,a2 => MS nE (Jd nE m) a0 a1 a2
theorem Fh : ∀ (m : Nat) a0 a1 a2,Le (Ab m a0 a1 a2) (Ab (m + 1) a0 a1 a2)
  | 0,a0,a1,a2 => fun _ h => nomatch h
  | m + 1,a0,a1,a2 => M1 (Fh m) a0 a1 a2
def K5 (nE : Nat) (p0 : Tr41) (p1 : Int) (p2 : Sq) : Option (List Sq) := Hc nE nE p0 p1 p2
theorem PI (nE : Nat) (p0 : Tr41) (p1 : Int) (p2 : Sq) : Le (K5 nE p0 p1 p2) (Fw p0 p1 p2) := fun r e => B6 (g := fun n => Ab n p0 p1 p2) (fun n r h => Fh n p0 p1 p2 r h) (n := nE) (Jd nE nE p0 p1 p2 r e)
def Da (nE : Nat) (p0 : List Sq) : Option (List Sq) := if y9 p0 = true then some p0 else none
theorem GH (nE : Nat) (p0 : List Sq) : Le (Da nE p0) (AF p0) := fun r h => by
  unfold Da at h
  split at h
  · rename_i hc
    cases h
    obtain ⟨h1,h2⟩ := XU hc
    exact R1 h1 (List.Perm.refl _) (by omega)
  · cases h
def PG (nE : Nat) (p0 : Tr41) (p1 : Int) (p2 : Int) (p3 : Int × Int × Int × Int) : Option (List Sq) := (K5 nE p0 p1 (p2,p3)).bind fun S => if y9 S = true then some S else none
theorem Uf (nE : Nat) (p0 : Tr41) (p1 : Int) (p2 : Int) (p3 : Int × Int × Int × Int) : Le (PG nE p0 p1 p2 p3) (Gq p0 p1 p2 p3) := fun r h => by
  obtain ⟨S,h1,h2⟩ := BO h
  split at h2
  · rename_i hc
    cases h2
    obtain ⟨h3,h4⟩ := XU hc
    exact XN (PI nE _ _ _ _ h1) h3 (by omega)
  · cases h2
def Df (nE : Nat) (p0 : List Sq) : Option (List Sq) := if y9 p0 = true then some p0 else none
theorem GV (nE : Nat) (p0 : List Sq) : Le (Df nE p0) (A7 p0) := fun r h => by
  unfold Df at h
  split at h
  · rename_i hc
    cases h
    obtain ⟨h1,h2⟩ := XU hc
    exact Xj h1 (by omega)
  · cases h
def Ei (nE : Nat) (p1 : Sq) (x1 : (List Sq)) : ((List Sq) × Int) → Option (((List Sq) × Int) ⊕ (List Sq))
  | (x3,x4) => (if x4 < (x1.length : Int) then ((ix x3 x4).bind fun x6 => (if x6.2.1 = p1.2.1 then (ix x3 x4).bind fun x7 => some (AU x3 x4 (x7.1,((-1),x7.2.2.1,x7.2.2.2.1,x7.2.2.2.2))) else some x3)).bind fun x5 => ((ix x5 x4).bind fun x9 => (if x9.2.2.1 = p1.2.2.1 then (ix x5 x4).bind fun x10 => some (AU x5 x4 (x10.1,(x10.2.1,(-1),x10.2.2.2.1,x10.2.2.2.2))) else some x5)).bind fun x8 => ((ix x8 x4).bind fun x12 => (if x12.2.2.2.1 = p1.2.2.2.1 then (ix x8 x4).bind fun x13 => some (AU x8 x4 (x13.1,(x13.2.1,x13.2.2.1,(-1),x13.2.2.2.2))) else some x8)).bind fun x11 => ((ix x11 x4).bind fun x15 => (if x15.2.2.2.2 = p1.2.2.2.2 then (ix x11 x4).bind fun x16 => some (AU x11 x4 (x16.1,(x16.2.1,x16.2.2.1,x16.2.2.2.1,(-1)))) else some x11)).bind fun x14 => some (.inl (x14,w64 (x4 + 1))) else some (.inr x3))
theorem Ja (nE : Nat) (p1 : Sq) (x1 : (List Sq)) : ∀ s,Le (Ei nE p1 x1 s) (Ce p1 x1 s) := by
  rintro ⟨x3,x4⟩
  unfold Ei Ce
  repeat' with_reducible (first | apply Le.bind' | apply Le.ite' | exact Le.rfl' _ | intro _)
def E5 (nE : Nat) (p0 : Tr41 × Int × (List Int × List Int × List Int × List Int × List Int)) (p1 : Sq) : Option (List Sq) := (PG nE (Tr41.of (p0.1.un.1,f38 p0.1.un.2.1,p0.1.un.2.2.1,p0.1.un.2.2.2.1,p0.1.un.2.2.2.2)) p0.2.1 p1.1 p1.2).bind fun x1 => (F8 nE (Ei nE p1 x1) (x1,0)).bind fun x2 => (Da nE x2).bind fun x17 => (Df nE x17).bind fun x18 => some x18
theorem JZ (nE : Nat) (p0 : Tr41 × Int × (List Int × List Int × List Int × List Int × List Int)) (p1 : Sq) : Le (E5 nE p0 p1) (BI p0 p1) := by
  unfold E5 BI
  repeat' with_reducible (first | apply Le.bind' | apply Le.loop' | apply GH | apply Uf | apply GV | apply Ja | exact Le.rfl' _ | intro _)
def Db (nE : Nat) (p0 : List Sq) (p1 : List Sq) : Int → Option (Int ⊕ (Unit ⊕ Bool))
  | x1 => (if x1 < (p0.length : Int) then (ix p0 x1).bind fun x2 => (ix p1 x1).bind fun x3 => (if (!(decide (x2.1 = x3.1 ∧ x2.2.1 = x3.2.1 ∧ x2.2.2.1 = x3.2.2.1 ∧ x2.2.2.2.1 = x3.2.2.2.1 ∧ x2.2.2.2.2 = x3.2.2.2.2))) = true then some (.inr (.inr false)) else some (.inl (w64 (x1 + 1)))) else some (.inr (.inl ())))
theorem GM (nE : Nat) (p0 : List Sq) (p1 : List Sq) : ∀ s,Le (Db nE p0 p1 s) (Ak p0 p1 s) := by
  intro x1
  unfold Db Ak
  repeat' with_reducible (first | apply Le.bind' | apply Le.ite' | exact Le.rfl' _ | intro _)
def Dr (nE : Nat) (p0 : List Sq) (p1 : List Sq) : Option Bool := (if (p0.length : Int) ≠ (p1.length : Int) then some false else GN (F8 nE (Db nE p0 p1) 0) fun _ => some true)
theorem HK (nE : Nat) (p0 : List Sq) (p1 : List Sq) : Le (Dr nE p0 p1) (AG p0 p1) := by
  unfold Dr AG
  repeat' with_reducible (first | apply Le.orR' | apply Le.ite' | apply Le.loop' | apply GM | exact Le.rfl' _ | intro _)
def GO (nE : Nat) (p0 : Int × (Int × Int × Int × Int) × (List Sq)) (p1 : Int × (Int × Int × Int × Int) × (List Sq)) (p2 : Int) : Option Bool := ((Ev nE ((AC p0).1,((AC p0).2.1,(AC p0).2.2.1,(AC p0).2.2.2.1,(AC p0).2.2.2.2)) p2 (-1)).bind fun x2 => (Ev nE ((AC p1).1,((AC p1).2.1,(AC p1).2.2.1,(AC p1).2.2.2.1,(AC p1).2.2.2.2)) p2 (-1)).bind fun x3 => (if x2.1 = x3.1 ∧ x2.2.1 = x3.2.1 ∧ x2.2.2.1 = x3.2.2.1 ∧ x2.2.2.2.1 = x3.2.2.2.1 ∧ x2.2.2.2.2 = x3.2.2.2.2 then (Dr nE p0.2.2 p1.2.2).bind fun x4 => some x4 else some false)).bind fun x1 => some x1
theorem MW (nE : Nat) (p0 : Int × (Int × Int × Int × Int) × (List Sq)) (p1 : Int × (Int × Int × Int × Int) × (List Sq)) (p2 : Int) : Le (GO nE p0 p1 p2) (C8 p0 p1 p2) := by
  unfold GO C8
  repeat' with_reducible (first | apply Le.bind' | apply Le.ite' | apply LG | apply HK | exact Le.rfl' _ | intro _)
def Bq (nE : Nat) (p0 : List (Int × (Int × Int × Int × Int) × (List Sq))) (p1 : List (Int × (Int × Int × Int × Int) × (List Sq))) (p2c0 : Int) : Int → Option (Int ⊕ (Unit ⊕ Bool))
  | x1 => (if x1 < (p0.length : Int) then (ix p0 x1).bind fun x2 => (ix p1 x1).bind fun x3 => (GO nE x2 x3 p2c0).bind fun x4 => (if (!x4) = true then some (.inr (.inr false)) else some (.inl (w64 (x1 + 1)))) else some (.inr (.inl ())))
theorem Dm (nE : Nat) (p0 : List (Int × (Int × Int × Int × Int) × (List Sq))) (p1 : List (Int × (Int × Int × Int × Int) × (List Sq))) (p2c0 : Int) : ∀ s,Le (Bq nE p0 p1 p2c0 s) (Ad p0 p1 p2c0 s) := by
  intro x1
  unfold Bq Ad
  repeat' with_reducible (first | apply Le.bind' | apply Le.ite' | apply MW | exact Le.rfl' _ | intro _)
def BD (nE : Nat) (p0 : List (Int × (Int × Int × Int × Int) × (List Sq))) (p1 : List (Int × (Int × Int × Int × Int) × (List Sq))) (p2c0 : Int) : Option Bool := (if (p0.length : Int) ≠ (p1.length : Int) then some false else GN (F8 nE (Bq nE p0 p1 p2c0) 0) fun _ => some true)
theorem DQ (nE : Nat) (p0 : List (Int × (Int × Int × Int × Int) × (List Sq))) (p1 : List (Int × (Int × Int × Int × Int) × (List Sq))) (p2c0 : Int) : Le (BD nE p0 p1 p2c0) (AE p0 p1 p2c0) := by
  unfold BD AE
  repeat' with_reducible (first | apply Le.orR' | apply Le.ite' | apply Le.loop' | apply Dm | exact Le.rfl' _ | intro _)
def HT (nE : Nat) (p0 : List (Int × (Int × Int × Int × Int) × (List Sq))) (p1 : List (Int × (Int × Int × Int × Int) × (List Sq))) (p2 : Int) : Option Bool := (BD nE p0 p1 p2).bind fun x1 => some x1
theorem NY (nE : Nat) (p0 : List (Int × (Int × Int × Int × Int) × (List Sq))) (p1 : List (Int × (Int × Int × Int × Int) × (List Sq))) (p2 : Int) : Le (HT nE p0 p1 p2) (CJ p0 p1 p2) := by
  unfold HT CJ
  repeat' with_reducible (first | apply Le.bind' | apply DQ | exact Le.rfl' _ | intro _)
def Fc (nE : Nat) (fRec : (Tr41 × Int × (List Int × List Int × List Int × List Int × List Int)) → Int → Sq → Option (List (Int × (Int × Int × Int × Int) × (List Sq)))) (p0 : Tr41 × Int × (List Int × List Int × List Int × List Int × List Int)) (p1 : Int) (p2 : Sq) (x2 : Int) (x3 : (List (Int × (Int × Int × Int × Int) × (List Sq)))) (x5 : List Int) : ((List (Int × (Int × Int × Int × Int) × (List Sq))) × Int) → Option (((List (Int × (Int × Int × Int × Int) × (List Sq))) × Int) ⊕ (List (Int × (Int × Int × Int × Int) × (List Sq))))
  | (x6,x7) => (if x7 < (x5.length : Int) then ((ix x5 x7).bind fun x9 => (Ev nE p2 x2 x9).bind fun x10 => (fRec (Tr41.of (p0.1.un.1,f38 p0.1.un.2.1,p0.1.un.2.2.1,p0.1.un.2.2.2.1,p0.1.un.2.2.2.2),p0.2.1,p0.2.2) (w64 (p1 + 1)) x10).bind fun x11 => (HT nE x11 x3 x2).bind fun x12 => (if (!x12) = true then (HU x6 x11).bind fun x13 => some x13 else some x6)).bind fun x8 => some (.inl (x8,w64 (x7 + 1))) else some (.inr x6))
theorem JX (nE : Nat) {fRec fRec' : (Tr41 × Int × (List Int × List Int × List Int × List Int × List Int)) → Int → Sq → Option (List (Int × (Int × Int × Int × Int) × (List Sq)))} (hfRec : ∀ a0 a1 a2,Le (fRec a0 a1 a2) (fRec' a0 a1 a2)) (p0 : Tr41 × Int × (List Int × List Int × List Int × List Int × List Int)) (p1 : Int) (p2 : Sq) (x2 : Int) (x3 : (List (Int × (Int × Int × Int × Int) × (List Sq)))) (x5 : List Int) : ∀ s,Le (Fc nE fRec p0 p1 p2 x2 x3 x5 s) (A3 fRec' p0 p1 p2 x2 x3 x5 s) := by
  rintro ⟨x6,x7⟩
  unfold Fc A3
  repeat' with_reducible (first | apply Le.bind' | apply Le.ite' | exact hfRec | exact hfRec _ _ _ | apply LG | apply NY | exact Le.rfl' _ | intro _)
theorem JW {fRec fRec' : (Tr41 × Int × (List Int × List Int × List Int × List Int × List Int)) → Int → Sq → Option (List (Int × (Int × Int × Int × Int) × (List Sq)))} (hfRec : ∀ a0 a1 a2,Le (fRec a0 a1 a2) (fRec' a0 a1 a2)) (p0 : Tr41 × Int × (List Int × List Int × List Int × List Int × List Int)) (p1 : Int) (p2 : Sq) (x2 : Int) (x3 : (List (Int × (Int × Int × Int × Int) × (List Sq)))) (x5 : List Int) : ∀ s,Le (A3 fRec p0 p1 p2 x2 x3 x5 s) (A3 fRec' p0 p1 p2 x2 x3 x5 s) := by
  rintro ⟨x6,x7⟩
  show Le (A3 fRec p0 p1 p2 x2 x3 x5 (x6,x7)) (A3 fRec' p0 p1 p2 x2 x3 x5 (x6,x7))
  unfold A3
  repeat' with_reducible (first | apply Le.bind' | apply Le.ite' | exact hfRec | exact hfRec _ _ _ | exact Le.rfl' _ | intro _)
def E6 (nE : Nat) (fRec : (Tr41 × Int × (List Int × List Int × List Int × List Int × List Int)) → Int → Sq → Option (List (Int × (Int × Int × Int × Int) × (List Sq)))) (p0 : Tr41 × Int × (List Int × List Int × List Int × List Int × List Int)) (p1 : Int) (p2 : Sq) : Option (List (Int × (Int × Int × Int × Int) × (List Sq))) := (if p1 = 5 then (E5 nE (Tr41.of (p0.1.un.1,f38 p0.1.un.2.1,p0.1.un.2.2.1,p0.1.un.2.2.2.1,p0.1.un.2.2.2.2),p0.2.1,p0.2.2) p2).bind fun x1 => some ([(p2.1,p2.2,x1)] : List (Int × (Int × Int × Int × Int) × (List Sq))) else (Cr nE p1).bind fun x2 => (fRec (Tr41.of (p0.1.un.1,f38 p0.1.un.2.1,p0.1.un.2.2.1,p0.1.un.2.2.2.1,p0.1.un.2.2.2.2),p0.2.1,p0.2.2) (w64 (p1 + 1)) p2).bind fun x3 => ((ix ([p0.2.2.1,p0.2.2.2.1,p0.2.2.2.2.1,p0.2.2.2.2.2.1,p0.2.2.2.2.2.2] : List (List Int)) p1).bind fun x5 => F8 nE (Fc nE fRec p0 p1 p2 x2 x3 x5) ([],0)).bind fun x4 => (HU x4 x3).bind fun x14 => some x14)
theorem J0 (nE : Nat) {fRec fRec' : (Tr41 × Int × (List Int × List Int × List Int × List Int × List Int)) → Int → Sq → Option (List (Int × (Int × Int × Int × Int) × (List Sq)))} (hfRec : ∀ a0 a1 a2,Le (fRec a0 a1 a2) (fRec' a0 a1 a2)) (p0 : Tr41 × Int × (List Int × List Int × List Int × List Int × List Int)) (p1 : Int) (p2 : Sq) : Le (E6 nE fRec p0 p1 p2) (Bc fRec' p0 p1 p2) := by
  unfold E6 Bc
  repeat' with_reducible (first | apply Le.bind' | apply Le.ite' | apply Le.loop' | exact hfRec | exact hfRec _ _ _ | apply Mh | apply JZ | apply JX | exact Le.rfl' _ | intro _)
theorem JU {fRec fRec' : (Tr41 × Int × (List Int × List Int × List Int × List Int × List Int)) → Int → Sq → Option (List (Int × (Int × Int × Int × Int) × (List Sq)))} (hfRec : ∀ a0 a1 a2,Le (fRec a0 a1 a2) (fRec' a0 a1 a2)) (p0 : Tr41 × Int × (List Int × List Int × List Int × List Int × List Int)) (p1 : Int) (p2 : Sq) : Le (Bc fRec p0 p1 p2) (Bc fRec' p0 p1 p2) := by
  unfold Bc
  repeat' with_reducible (first | apply Le.bind' | apply Le.ite' | apply Le.loopM | exact hfRec | exact hfRec _ _ _ | apply JW | exact Le.rfl' _ | intro _)
def Fu (nE : Nat) : Nat → (Tr41 × Int × (List Int × List Int × List Int × List Int × List Int)) → Int → Sq → Option (List (Int × (Int × Int × Int × Int) × (List Sq)))
  | 0 => fun _ _ _ => none
  | n + 1 => E6 nE (Fu nE n)
theorem GP (nE : Nat) : ∀ (m : Nat) a0 a1 a2,Le (Fu nE m a0 a1 a2) (A2 m a0 a1 a2)
  | 0,a0,a1,a2 => fun _ h => nomatch h
  | m + 1,a0,a1,a2 => J0 nE (GP nE m) a0 a1 a2
theorem E7 : ∀ (m : Nat) a0 a1 a2,Le (A2 m a0 a1 a2) (A2 (m + 1) a0 a1 a2)
  | 0,a0,a1,a2 => fun _ h => nomatch h
  | m + 1,a0,a1,a2 => JU (E7 m) a0 a1 a2
def H8 (nE : Nat) (p0 : Tr41 × Int × (List Int × List Int × List Int × List Int × List Int)) (p1 : Int) (p2 : Sq) : Option (List (Int × (Int × Int × Int × Int) × (List Sq))) := Fu nE nE p0 p1 p2
theorem L4 (nE : Nat) (p0 : Tr41 × Int × (List Int × List Int × List Int × List Int × List Int)) (p1 : Int) (p2 : Sq) : Le (H8 nE p0 p1 p2) (Dy p0 p1 p2) := fun r e => B6 (g := fun n => A2 n p0 p1 p2) (fun n r h => E7 n p0 p1 p2 r h) (n := nE) (GP nE nE p0 p1 p2 r e)
def LS (nE : Nat) (p0 : Tr41) (p1 : Int) : Option ((List (Int × (Int × Int × Int × Int) × (List Sq))) × Int) := (Ju nE (Tr41.of (p0.un.1,f38 p0.un.2.1,p0.un.2.2.1,p0.un.2.2.2.1,p0.un.2.2.2.2))).bind fun x1 => (if (!x1) = true then some (([] : List (Int × (Int × Int × Int × Int) × (List Sq))),17) else (RE nE (Tr41.of (p0.un.1,f38 p0.un.2.1,p0.un.2.2.1,p0.un.2.2.2.1,p0.un.2.2.2.2)) p1).bind fun x2 => (KM nE (Tr41.of (x2.un.1,f38 x2.un.2.1,x2.un.2.2.1,x2.un.2.2.2.1,x2.un.2.2.2.2))).bind fun x3 => (if 4096 < x3 then some (([] : List (Int × (Int × Int × Int × Int) × (List Sq))),6) else (Cr nE 0).bind fun x4 => (DD nE (Tr41.of (x2.un.1,f38 x2.un.2.1,x2.un.2.2.1,x2.un.2.2.2.1,x2.un.2.2.2.2)) x4).bind fun x5 => (Cr nE 0).bind fun x6 => (Ev nE ((-1),(0,0,0,0)) x6 (-1)).bind fun x7 => (Cr nE 1).bind fun x8 => (DD nE (Tr41.of (x2.un.1,f38 x2.un.2.1,x2.un.2.2.1,x2.un.2.2.2.1,x2.un.2.2.2.2)) x8).bind fun x9 => (Cr nE 1).bind fun x10 => (Ev nE x7 x10 (-1)).bind fun x11 => (Cr nE 2).bind fun x12 => (DD nE (Tr41.of (x2.un.1,f38 x2.un.2.1,x2.un.2.2.1,x2.un.2.2.2.1,x2.un.2.2.2.2)) x12).bind fun x13 => (Cr nE 2).bind fun x14 => (Ev nE x11 x14 (-1)).bind fun x15 => (Cr nE 3).bind fun x16 => (DD nE (Tr41.of (x2.un.1,f38 x2.un.2.1,x2.un.2.2.1,x2.un.2.2.2.1,x2.un.2.2.2.2)) x16).bind fun x17 => (Cr nE 3).bind fun x18 => (Ev nE x15 x18 (-1)).bind fun x19 => (Cr nE 4).bind fun x20 => (DD nE (Tr41.of (x2.un.1,f38 x2.un.2.1,x2.un.2.2.1,x2.un.2.2.2.1,x2.un.2.2.2.2)) x20).bind fun x21 => (Cr nE 4).bind fun x22 => (Ev nE x19 x22 (-1)).bind fun x23 => (H8 nE (Tr41.of (x2.un.1,f38 x2.un.2.1,x2.un.2.2.1,x2.un.2.2.2.1,x2.un.2.2.2.2),p1,(x5,x9,x13,x17,x21)) 0 x23).bind fun x24 => some (x24,0)))
theorem T8 (nE : Nat) (p0 : Tr41) (p1 : Int) : Le (LS nE p0 p1) (Hm p0 p1) := by
  unfold LS Hm
  repeat' with_reducible (first | apply Le.bind' | apply Le.ite' | apply QB | apply We | apply KY | apply RI | apply Mh | apply LG | apply L4 | exact Le.rfl' _ | intro _)
def Iv (nE : Nat) (p0 : Sq) (p1 : Int) (p2 : Int × Int × Int × Int) : Option Sq := (if p0.1 = (-1) then some p1 else some p0.1).bind fun x1 => (if p0.2.1 = (-1) then some p2.1 else some p0.2.1).bind fun x2 => (if p0.2.2.1 = (-1) then some p2.2.1 else some p0.2.2.1).bind fun x3 => (if p0.2.2.2.1 = (-1) then some p2.2.2.1 else some p0.2.2.2.1).bind fun x4 => (if p0.2.2.2.2 = (-1) then some p2.2.2.2 else some p0.2.2.2.2).bind fun x5 => some (x1,(x2,x3,x4,x5))
theorem Pq (nE : Nat) (p0 : Sq) (p1 : Int) (p2 : Int × Int × Int × Int) : Le (Iv nE p0 p1 p2) (D7 p0 p1 p2) := by
  unfold Iv D7
  repeat' with_reducible (first | apply Le.bind' | apply Le.ite' | exact Le.rfl' _ | intro _)
def Kn (nE : Nat) (p0 : Int × (Int × Int × Int × Int) × (List Sq)) (p1 : Int) (p2 : Int × Int × Int × Int) : Option Bool := (Iv nE ((AC p0).1,((AC p0).2.1,(AC p0).2.2.1,(AC p0).2.2.2.1,(AC p0).2.2.2.2)) p1 p2).bind fun x1 => some (decide (x1.1 = p1 ∧ x1.2.1 = p2.1 ∧ x1.2.2.1 = p2.2.1 ∧ x1.2.2.2.1 = p2.2.2.1 ∧ x1.2.2.2.2 = p2.2.2.2))
theorem RO (nE : Nat) (p0 : Int × (Int × Int × Int × Int) × (List Sq)) (p1 : Int) (p2 : Int × Int × Int × Int) : Le (Kn nE p0 p1 p2) (HG p0 p1 p2) := by
  unfold Kn HG
  repeat' with_reducible (first | apply Le.bind' | apply Pq | exact Le.rfl' _ | intro _)
def CR (nE : Nat) (p0 : List (Int × (Int × Int × Int × Int) × (List Sq))) (p1c0 : Int) (p1c1 : Int × Int × Int × Int) : Int → Option (Int ⊕ (Unit ⊕ Int))
  | x1 => (if x1 < (p0.length : Int) then (ix p0 x1).bind fun x2 => (Kn nE x2 p1c0 p1c1).bind fun x3 => (if x3 = true then some (.inr (.inr x1)) else some (.inl (w64 (x1 + 1)))) else some (.inr (.inl ())))
theorem FL (nE : Nat) (p0 : List (Int × (Int × Int × Int × Int) × (List Sq))) (p1c0 : Int) (p1c1 : Int × Int × Int × Int) : ∀ s,Le (CR nE p0 p1c0 p1c1 s) (A1 p0 p1c0 p1c1 s) := by
  intro x1
  unfold CR A1
  repeat' with_reducible (first | apply Le.bind' | apply Le.ite' | apply RO | exact Le.rfl' _ | intro _)
def C3 (nE : Nat) (p0 : List (Int × (Int × Int × Int × Int) × (List Sq))) (p1c0 : Int) (p1c1 : Int × Int × Int × Int) : Option Int := GN (F8 nE (CR nE p0 p1c0 p1c1) 0) fun _ => some (-1)
theorem Gg (nE : Nat) (p0 : List (Int × (Int × Int × Int × Int) × (List Sq))) (p1c0 : Int) (p1c1 : Int × Int × Int × Int) : Le (C3 nE p0 p1c0 p1c1) (BT p0 p1c0 p1c1) := by
  unfold C3 BT
  repeat' with_reducible (first | apply Le.orR' | apply Le.loop' | apply FL | exact Le.rfl' _ | intro _)
def Mz (nE : Nat) (p0 : List (Int × (Int × Int × Int × Int) × (List Sq))) (p1 : Int) (p2 : Int × Int × Int × Int) : Option Int := (C3 nE p0 p1 p2).bind fun x1 => some x1
theorem Vu (nE : Nat) (p0 : List (Int × (Int × Int × Int × Int) × (List Sq))) (p1 : Int) (p2 : Int × Int × Int × Int) : Le (Mz nE p0 p1 p2) (HD p0 p1 p2) := by
  unfold Mz HD
  repeat' with_reducible (first | apply Le.bind' | apply Gg | exact Le.rfl' _ | intro _)
def Qq (nE : Nat)  : Option Bool := (LS nE (Tr41.of (5,Tr38.of (3,1,1,([] : List Tr38)),0,0,([Tr41.of (2,Tr38.of (0,0,0,([] : List Tr38)),4,2,([] : List Tr41)),Tr41.of (1,Tr38.of (2,0,0,([] : List Tr38)),0,0,([] : List Tr41))] : List Tr41))) 0).bind fun x1 => (if x1.2 = 0 then (if (x1.1.length : Int) = 2 then (ix x1.1 0).bind fun x3 => (if x3.2.1.1 = (-1) ∧ x3.2.1.2.1 = 1 ∧ x3.2.1.2.2.1 = (-1) ∧ x3.2.1.2.2.2 = (-1) then (ix x1.1 0).bind fun x4 => (if (x4.2.2.length : Int) = 1 then (ix x1.1 0).bind fun x5 => (ix x5.2.2 0).bind fun x6 => (if x6.1 = 2 then (ix x1.1 1).bind fun x7 => (if (x7.2.2.length : Int) = 0 then (Mz nE x1.1 0 (0,0,0,0)).bind fun x8 => some (decide (x8 = 1)) else some false) else some false) else some false) else some false) else some false) else some false).bind fun x2 => some x2
theorem VB (nE : Nat)  : Le (Qq nE ) (Jp ) := by
  unfold Qq Jp
  repeat' with_reducible (first | apply Le.bind' | apply Le.ite' | apply T8 | apply Vu | exact Le.rfl' _ | intro _)
theorem SN {fRec fRec' : Tr24 → Option Tr38} (hfRec : ∀ a0,Le (fRec a0) (fRec' a0)) (p0 : Tr24) : ∀ s,Le (DC fRec p0 s) (DC fRec' p0 s) := by
  rintro ⟨x2,x3⟩
  show Le (DC fRec p0 (x2,x3)) (DC fRec' p0 (x2,x3))
  unfold DC
  repeat' with_reducible (first | apply Le.bind' | apply Le.ite' | exact hfRec | exact hfRec _ | exact Le.rfl' _ | intro _)
theorem S8 {fRec fRec' : Tr24 → Option Tr38} (hfRec : ∀ a0,Le (fRec a0) (fRec' a0)) (p0 : Tr24) : Le (EM fRec p0) (EM fRec' p0) := by
  unfold EM
  repeat' with_reducible (first | apply Le.bind' | apply Le.loopM | exact hfRec | exact hfRec _ | apply SN | exact Le.rfl' _ | intro _)
theorem ND : ∀ (m : Nat) a0,Le (E0 m a0) (E0 (m + 1) a0)
  | 0,a0 => fun _ h => nomatch h
  | m + 1,a0 => S8 (ND m) a0
theorem SP {fRec fRec' : Tr27 → Option Tr41} (hfRec : ∀ a0,Le (fRec a0) (fRec' a0)) (p0 : Tr27) : ∀ s,Le (Es fRec p0 s) (Es fRec' p0 s) := by
  rintro ⟨x3,x4⟩
  show Le (Es fRec p0 (x3,x4)) (Es fRec' p0 (x3,x4))
  unfold Es
  repeat' with_reducible (first | apply Le.bind' | apply Le.ite' | exact hfRec | exact hfRec _ | exact Le.rfl' _ | intro _)
theorem Sa {fRec fRec' : Tr27 → Option Tr41} (hfRec : ∀ a0,Le (fRec a0) (fRec' a0)) (p0 : Tr27) : Le (FH fRec p0) (FH fRec' p0) := by
  unfold FH
  repeat' with_reducible (first | apply Le.bind' | apply Le.loopM | exact hfRec | exact hfRec _ | apply SP | exact Le.rfl' _ | intro _)
theorem NS : ∀ (m : Nat) a0,Le (Fb m a0) (Fb (m + 1) a0)
  | 0,a0 => fun _ h => nomatch h
  | m + 1,a0 => Sa (NS m) a0
theorem Ng : Jp = some true := VB 60 _ (by kernel_rfl)
end Go.Proofs.YtkhiflmalgkjiaaGreat
