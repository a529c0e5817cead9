/- Twins with fuel of E5 functions: what a twin answers, the function answers. Conditions: none. -/
import Derived.Test.YtlgjpoapclifbaaDoorcLP
import Derived.Test.YtlgjpoapclifbaaDoorcA13
namespace Go.Proofs.YtlgjpoapclifbaaDoor
open Go Go.RowKit
set_option linter.unusedVariables false
set_option linter.unusedSimpArgs false
set_option maxRecDepth 20000
set_option maxHeartbeats 1600000
abbrev Le {α : Type} (a b : Option α) : Prop := ∀ r, a = some r → b = some r
theorem Le.rfl' {α : Type} (a : Option α) : Le a a := fun _ h => h
theorem Le.bind' {α β : Type} {a b : Option α} {f g : α → Option β} (h : Le a b) (hf : ∀ x, Le (f x) (g x)) : Le (a.bind f) (b.bind g) := fun r e => by
  obtain ⟨x, h1, h2⟩ := Aq e
  rw [h x h1, Option.bind_some]; exact hf x r h2
theorem Le.ite' {α : Type} {c : Prop} [Decidable c] {a a' b b' : Option α} (h1 : Le a a') (h2 : Le b b') : Le (if c then a else b) (if c then a' else b') := fun r e => by
  by_cases h : c
  · rw [if_pos h] at e ⊢; exact h1 r e
  · rw [if_neg h] at e ⊢; exact h2 r e
theorem Le.orR' {α β : Type} {a b : Option (α ⊕ β)} {f g : α → Option β} (h : Le a b) (hf : ∀ x, Le (f x) (g x)) : Le (KC a f) (KC b g) :=
  Le.bind' h fun x => by
    cases x with
    | inl t => exact hf t
    | inr e => exact Le.rfl' _
def Iz {σ ε : Type} (n : Nat) (step : σ → Option (σ ⊕ ε)) (s : σ) : Option ε := GE step n s
theorem JW {σ ε : Type} {S T : σ → Option (σ ⊕ ε)} (h : ∀ s, Le (S s) (T s)) : ∀ (n : Nat) (s : σ), Le (GE S n s) (GE T n s)
  | 0, s => Le.rfl' _
  | n + 1, s => fun r e => by
    unfold GE at e ⊢
    cases hs : S s with
    | none => rw [hs] at e; cases e
    | some q =>
      rw [hs] at e; rw [h s q hs]
      cases q with
      | inl s' => exact JW h n s' r e
      | inr _ => exact e
theorem Le.loop' {σ ε : Type} {n : Nat} {S T : σ → Option (σ ⊕ ε)} {s : σ} (h : ∀ s, Le (S s) (T s)) : Le (Iz n S s) (Br T s) := fun r e => Ge.2 ⟨n, JW h n s r e⟩
theorem Le.pi2 {α β γ : Type} {f g : α × β → Option γ} (h : ∀ a b, Le (f (a, b)) (g (a, b))) : ∀ x, Le (f x) (g x) := fun x => h x.1 x.2
theorem Le.altS' {α β γ : Type} {y : α ⊕ β} {f f' : α → Option γ} {g g' : β → Option γ} (h : ∀ x, Le (f x) (f' x)) (k : ∀ x, Le (g x) (g' x)) : Le (B4 y f g) (B4 y f' g') := by
  cases y with
  | inl x => exact h x
  | inr x => exact k x
theorem B9 {β : Type} {g : Nat → Option β} (hm : ∀ n r, g n = some r → g (n + 1) = some r) {n : Nat} {r : β} (h : g n = some r) : FY g = some r := by
  have up : ∀ (d m : Nat) (q : β), g m = some q → g (m + d) = some q := fun d => by
    induction d with
    | zero => exact fun m q h => h
    | succ d ih => exact fun m q h => hm _ _ (ih m q h)
  refine QO n h fun m q hq => ?_
  have h1 := up m n r h
  have h2 := up n m q hq
  rw [Nat.add_comm] at h2
  exact Option.some.inj (h2.symm.trans h1)
theorem Le.loopM {σ ε : Type} {S T : σ → Option (σ ⊕ ε)} {s : σ} (h : ∀ s, Le (S s) (T s)) : Le (Br S s) (Br T s) := fun r e => by
  obtain ⟨n, hn⟩ := Ge.1 e
  exact Ge.2 ⟨n, JW h n s r hn⟩
def HF (nE : Nat) (p0 : List UInt8) : (Int × Bool) → Option ((Int × Bool) ⊕ (Int ⊕ Int))
  | (x2, x3) => (if x2 < (p0.length : Int) then KC ((ix p0 x2).bind fun x5 => (if (x5.toNat : Int) = 10 then some (.inl false) else (if (x5.toNat : Int) = 35 then some (.inl true) else (if (!x3 && (decide ((x5.toNat : Int) ≠ 32) && decide ((x5.toNat : Int) ≠ 9))) = true then some (.inr (.inr (.inr x2))) else some (.inl x3))))) fun x4 => some (.inl (DP (x2 + 1), x4)) else some (.inr (.inl x2)))
theorem Mi (nE : Nat) (p0 : List UInt8) : ∀ s, Le (HF nE p0 s) (Ep p0 s) := by
  rintro ⟨x2, x3⟩
  unfold HF Ep
  repeat' with_reducible (first | refine Le.orR' ?_ ?_ | refine Le.bind' ?_ ?_ | refine Le.ite' ?_ ?_ | refine Le.loop' ?_ | refine Le.altS' ?_ ?_ | exact Le.rfl' _ | (refine Le.pi2 ?_; intro _) | intro _)
def Ic (nE : Nat) (p0 : List UInt8) (p1 : Int) : Option Int := KC (Iz nE (HF nE p0) (p1, false)) fun x1 => some x1
theorem K7 (nE : Nat) (p0 : List UInt8) (p1 : Int) : Le (Ic nE p0 p1) (Fq p0 p1) := by
  unfold Ic Fq
  repeat' with_reducible (first | refine Le.orR' ?_ ?_ | refine Le.bind' ?_ ?_ | refine Le.ite' ?_ ?_ | refine Le.loop' ?_ | refine Le.altS' ?_ ?_ | apply Mi | exact Le.rfl' _ | (refine Le.pi2 ?_; intro _) | intro _)
def Ii (nE : Nat) (p0 : List UInt8) : Int → Option (Int ⊕ Int)
  | x2 => (if x2 < (p0.length : Int) then (ix p0 x2).bind fun x4 => some (ED (x4.toNat : Int)) else some false).bind fun x3 => (if x3 = true then some (.inl (DP (x2 + 1))) else some (.inr x2))
theorem Nd (nE : Nat) (p0 : List UInt8) : ∀ s, Le (Ii nE p0 s) (Gd p0 s) := by
  intro x2
  unfold Ii Gd
  repeat' with_reducible (first | refine Le.orR' ?_ ?_ | refine Le.bind' ?_ ?_ | refine Le.ite' ?_ ?_ | refine Le.loop' ?_ | refine Le.altS' ?_ ?_ | exact Le.rfl' _ | (refine Le.pi2 ?_; intro _) | intro _)
def KE (nE : Nat) (p0 : List UInt8) : Option Int := (Iz nE (Ii nE p0) 0).bind fun x1 => some x1
theorem PO (nE : Nat) (p0 : List UInt8) : Le (KE nE p0) (Ia p0) := by
  unfold KE Ia
  repeat' with_reducible (first | refine Le.orR' ?_ ?_ | refine Le.bind' ?_ ?_ | refine Le.ite' ?_ ?_ | refine Le.loop' ?_ | refine Le.altS' ?_ ?_ | apply Nd | exact Le.rfl' _ | (refine Le.pi2 ?_; intro _) | intro _)
def GM (nE : Nat) (p0 : List UInt8) : Int → Option (Int ⊕ Int)
  | x2 => (if x2 < (p0.length : Int) then (ix p0 x2).bind fun x4 => some (E7 (x4.toNat : Int)) else some false).bind fun x3 => (if x3 = true then some (.inl (DP (x2 + 1))) else some (.inr x2))
theorem Lp (nE : Nat) (p0 : List UInt8) : ∀ s, Le (GM nE p0 s) (E9 p0 s) := by
  intro x2
  unfold GM E9
  repeat' with_reducible (first | refine Le.orR' ?_ ?_ | refine Le.bind' ?_ ?_ | refine Le.ite' ?_ ?_ | refine Le.loop' ?_ | refine Le.altS' ?_ ?_ | exact Le.rfl' _ | (refine Le.pi2 ?_; intro _) | intro _)
def IJ (nE : Nat) (p0 : List UInt8) : Option Int := (Iz nE (GM nE p0) 0).bind fun x1 => some x1
theorem Ob (nE : Nat) (p0 : List UInt8) : Le (IJ nE p0) (F7 p0) := by
  unfold IJ F7
  repeat' with_reducible (first | refine Le.orR' ?_ ?_ | refine Le.bind' ?_ ?_ | refine Le.ite' ?_ ?_ | refine Le.loop' ?_ | refine Le.altS' ?_ ?_ | apply Lp | exact Le.rfl' _ | (refine Le.pi2 ?_; intro _) | intro _)
def Gx (nE : Nat) (p0 : List UInt8) : (Int × Int) → Option ((Int × Int) ⊕ Int)
  | (x4, x5) => (if x5 < (p0.length : Int) then (ix p0 x5).bind fun x6 => some (.inl (DP ((DP (10 * x4)) + (DP (IntKind.u8.wrap ((x6.toNat : Int) - 48)))), DP (x5 + 1))) else some (.inr x4))
theorem KF (nE : Nat) (p0 : List UInt8) : ∀ s, Le (Gx nE p0 s) (Cm p0 s) := by
  rintro ⟨x4, x5⟩
  unfold Gx Cm
  repeat' with_reducible (first | refine Le.orR' ?_ ?_ | refine Le.bind' ?_ ?_ | refine Le.ite' ?_ ?_ | refine Le.loop' ?_ | refine Le.altS' ?_ ?_ | exact Le.rfl' _ | (refine Le.pi2 ?_; intro _) | intro _)
def Id (nE : Nat) (p0 : List UInt8) : Option ((Int × Int × List UInt8 × Int) × Int) := (if 3 < (p0.length : Int) then some true else (if 1 < (p0.length : Int) then (ix p0 0).bind fun x2 => some (decide ((x2.toNat : Int) = 48)) else some false)).bind fun x1 => (if x1 = true then some ((0, 0, ([] : List UInt8), 0), 0) else (Iz nE (Gx nE p0) (0, 0)).bind fun x3 => some ((2, x3, ([] : List UInt8), 0), (p0.length : Int)))
theorem Nf (nE : Nat) (p0 : List UInt8) : Le (Id nE p0) (Cu p0) := by
  unfold Id Cu
  repeat' with_reducible (first | refine Le.orR' ?_ ?_ | refine Le.bind' ?_ ?_ | refine Le.ite' ?_ ?_ | refine Le.loop' ?_ | refine Le.altS' ?_ ?_ | apply KF | exact Le.rfl' _ | (refine Le.pi2 ?_; intro _) | intro _)
def CO (nE : Nat) (p0 : List UInt8) (p1 : List UInt8) : Option Bool := (if (p1.length : Int) ≤ (p0.length : Int) then (GR p0 0 (p1.length : Int)).bind fun x2 => some (decide (x2 = p1)) else some false).bind fun x1 => some x1
theorem FK (nE : Nat) (p0 : List UInt8) (p1 : List UInt8) : Le (CO nE p0 p1) (BI p0 p1) := by
  unfold CO BI
  repeat' with_reducible (first | refine Le.orR' ?_ ?_ | refine Le.bind' ?_ ?_ | refine Le.ite' ?_ ?_ | refine Le.loop' ?_ | refine Le.altS' ?_ ?_ | exact Le.rfl' _ | (refine Le.pi2 ?_; intro _) | intro _)
def Fi (nE : Nat) (p0 : List UInt8) (p1 : List UInt8) : Option Bool := (CO nE p0 p1).bind fun x1 => some x1
theorem IG (nE : Nat) (p0 : List UInt8) (p1 : List UInt8) : Le (Fi nE p0 p1) (CP p0 p1) := by
  unfold Fi CP
  repeat' with_reducible (first | refine Le.orR' ?_ ?_ | refine Le.bind' ?_ ?_ | refine Le.ite' ?_ ?_ | refine Le.loop' ?_ | refine Le.altS' ?_ ?_ | apply FK | exact Le.rfl' _ | (refine Le.pi2 ?_; intro _) | intro _)
def GT (nE : Nat) (p0 : List UInt8) : Option Int := (ix p0 0).bind fun x1 => (if (x1.toNat : Int) = 40 then some true else (if (x1.toNat : Int) = 41 then some true else (if (x1.toNat : Int) = 59 then some true else (if (x1.toNat : Int) = 124 then some true else some (decide ((x1.toNat : Int) = 61)))))).bind fun x2 => (if x2 = true then some 1 else (Fi nE p0 ([58, 61] : List UInt8)).bind fun x3 => (if x3 = true then some 2 else some 0))
theorem Lo (nE : Nat) (p0 : List UInt8) : Le (GT nE p0) (EI p0) := by
  unfold GT EI
  repeat' with_reducible (first | refine Le.orR' ?_ ?_ | refine Le.bind' ?_ ?_ | refine Le.ite' ?_ ?_ | refine Le.loop' ?_ | refine Le.altS' ?_ ?_ | apply IG | exact Le.rfl' _ | (refine Le.pi2 ?_; intro _) | intro _)
def IZ (nE : Nat) (p0 : List UInt8) : Option ((Int × Int × List UInt8 × Int) × Int) := (KE nE p0).bind fun x1 => (if 0 < x1 then (GR p0 0 x1).bind fun x2 => some ((1, 0, x2, 0), x1) else (IJ nE p0).bind fun x3 => (if 0 < x3 then (GR p0 0 x3).bind fun x4 => (Id nE x4).bind fun x5 => some (x5.1, x5.2) else (GT nE p0).bind fun x6 => (if x6 = 0 then some ((0, 0, ([] : List UInt8), 0), 0) else (GR p0 0 x6).bind fun x7 => some ((3, 0, x7, 0), x6))))
theorem OH (nE : Nat) (p0 : List UInt8) : Le (IZ nE p0) (CC p0) := by
  unfold IZ CC
  repeat' with_reducible (first | refine Le.orR' ?_ ?_ | refine Le.bind' ?_ ?_ | refine Le.ite' ?_ ?_ | refine Le.loop' ?_ | refine Le.altS' ?_ ?_ | apply PO | apply Ob | apply Nf | apply Lo | exact Le.rfl' _ | (refine Le.pi2 ?_; intro _) | intro _)
def Ih (nE : Nat) (p0 : List UInt8) : ((List (Int × Int × List UInt8 × Int)) × Int) → Option (((List (Int × Int × List UInt8 × Int)) × Int) ⊕ ((List (Int × Int × List UInt8 × Int)) ⊕ ((List (Int × Int × List UInt8 × Int)) × Int × Int)))
  | (x3, x4) => (if x4 < (p0.length : Int) then (GR p0 x4 (p0.length : Int)).bind fun x5 => (IZ nE x5).bind fun x6 => (if x6.2 = 0 then some (.inr (.inr (([] : List (Int × Int × List UInt8 × Int)), x4, 10))) else (if (x3.length : Int) = 500 then some (.inr (.inr (([] : List (Int × Int × List UInt8 × Int)), x4, 6))) else (DQ x3 ([(x6.1.1, x6.1.2.1, x6.1.2.2.1, x4)] : List (Int × Int × List UInt8 × Int))).bind fun x7 => (Ic nE p0 (DP (x4 + x6.2))).bind fun x8 => some (.inl (x7, x8)))) else some (.inr (.inl x3)))
theorem MV (nE : Nat) (p0 : List UInt8) : ∀ s, Le (Ih nE p0 s) (E6 p0 s) := by
  rintro ⟨x3, x4⟩
  unfold Ih E6
  repeat' with_reducible (first | refine Le.orR' ?_ ?_ | refine Le.bind' ?_ ?_ | refine Le.ite' ?_ ?_ | refine Le.loop' ?_ | refine Le.altS' ?_ ?_ | apply K7 | apply OH | exact Le.rfl' _ | (refine Le.pi2 ?_; intro _) | intro _)
def KI (nE : Nat) (p0 : List UInt8) : Option ((List (Int × Int × List UInt8 × Int)) × Int × Int) := (if 4000 < (p0.length : Int) then some (([] : List (Int × Int × List UInt8 × Int)), 0, 3) else (Ic nE p0 0).bind fun x1 => KC (Iz nE (Ih nE p0) ([], x1)) fun x2 => (DQ x2 ([(4, 0, ([] : List UInt8), (p0.length : Int))] : List (Int × Int × List UInt8 × Int))).bind fun x9 => some (x9, 0, 0))
theorem PU (nE : Nat) (p0 : List UInt8) : Le (KI nE p0) (Hu p0) := by
  unfold KI Hu
  repeat' with_reducible (first | refine Le.orR' ?_ ?_ | refine Le.bind' ?_ ?_ | refine Le.ite' ?_ ?_ | refine Le.loop' ?_ | refine Le.altS' ?_ ?_ | apply K7 | apply MV | exact Le.rfl' _ | (refine Le.pi2 ?_; intro _) | intro _)
def Ie (nE : Nat) (p0 : List UInt8) : Option (((List (Int × Int × List UInt8 × Int)) × Int) ⊕ (Int × Int)) := (KI nE p0).bind fun x1 => (if x1.2.2 ≠ 0 then some (.inr x1.2) else some (.inl (x1.1, 0)))
theorem MS (nE : Nat) (p0 : List UInt8) : Le (Ie nE p0) (E3 p0) := by
  unfold Ie E3
  repeat' with_reducible (first | refine Le.orR' ?_ ?_ | refine Le.bind' ?_ ?_ | refine Le.ite' ?_ ?_ | refine Le.loop' ?_ | refine Le.altS' ?_ ?_ | apply PU | exact Le.rfl' _ | (refine Le.pi2 ?_; intro _) | intro _)
def Cl (nE : Nat) (p0 : (List (Int × Int × List UInt8 × Int)) × Int) : Option (Int × Int × List UInt8 × Int) := (ix p0.1 p0.2).bind fun x1 => some x1
theorem CW (nE : Nat) (p0 : (List (Int × Int × List UInt8 × Int)) × Int) : Le (Cl nE p0) (BL p0) := by
  unfold Cl BL
  repeat' with_reducible (first | refine Le.orR' ?_ ?_ | refine Le.bind' ?_ ?_ | refine Le.ite' ?_ ?_ | refine Le.loop' ?_ | refine Le.altS' ?_ ?_ | exact Le.rfl' _ | (refine Le.pi2 ?_; intro _) | intro _)
def A4 (nE : Nat) (p0 : (List (Int × Int × List UInt8 × Int)) × Int) (p1 : List UInt8) : Option (Bool × ((List (Int × Int × List UInt8 × Int)) × Int)) := (Cl nE p0).bind fun x1 => (if (bif decide (x1.1 ≠ 1) then (decide (x1.1 ≠ 3) || decide (x1.2.2.1 ≠ p1)) else decide (x1.2.2.1 ≠ p1)) = true then some (false, p0) else some (true, (p0.1, DP (p0.2 + 1))))
theorem B6 (nE : Nat) (p0 : (List (Int × Int × List UInt8 × Int)) × Int) (p1 : List UInt8) : Le (A4 nE p0 p1) (AF p0 p1) := by
  unfold A4 AF
  repeat' with_reducible (first | refine Le.orR' ?_ ?_ | refine Le.bind' ?_ ?_ | refine Le.ite' ?_ ?_ | refine Le.loop' ?_ | refine Le.altS' ?_ ?_ | apply CW | exact Le.rfl' _ | (refine Le.pi2 ?_; intro _) | intro _)
def CR (nE : Nat) (p0 : (List (Int × Int × List UInt8 × Int)) × Int) : Option (Int × Int) := (Cl nE p0).bind fun x1 => some (x1.2.2.2, 10)
theorem DO (nE : Nat) (p0 : (List (Int × Int × List UInt8 × Int)) × Int) : Le (CR nE p0) (CA p0) := by
  unfold CR CA
  repeat' with_reducible (first | refine Le.orR' ?_ ?_ | refine Le.bind' ?_ ?_ | refine Le.ite' ?_ ?_ | refine Le.loop' ?_ | refine Le.altS' ?_ ?_ | apply CW | exact Le.rfl' _ | (refine Le.pi2 ?_; intro _) | intro _)
def BT (nE : Nat) (p0 : (List (Int × Int × List UInt8 × Int)) × Int) (p1 : List UInt8) : Option (((List (Int × Int × List UInt8 × Int)) × Int) ⊕ ((Int × Int) × ((List (Int × Int × List UInt8 × Int)) × Int))) := (A4 nE p0 p1).bind fun x1 => (if (!x1.1) = true then (CR nE x1.2).bind fun x2 => some (.inr (x2, x1.2)) else some (.inl x1.2))
theorem EA (nE : Nat) (p0 : (List (Int × Int × List UInt8 × Int)) × Int) (p1 : List UInt8) : Le (BT nE p0 p1) (AV p0 p1) := by
  unfold BT AV
  repeat' with_reducible (first | refine Le.orR' ?_ ?_ | refine Le.bind' ?_ ?_ | refine Le.ite' ?_ ?_ | refine Le.loop' ?_ | refine Le.altS' ?_ ?_ | apply B6 | apply DO | exact Le.rfl' _ | (refine Le.pi2 ?_; intro _) | intro _)
def DN (nE : Nat) (p0 : (List (Int × Int × List UInt8 × Int)) × Int) (p1 : Int) : Option ((Int × ((List (Int × Int × List UInt8 × Int)) × Int)) ⊕ ((Int × Int) × ((List (Int × Int × List UInt8 × Int)) × Int))) := (Cl nE p0).bind fun x1 => (if (decide ((BQ x1) < 0) || decide (p1 < (BQ x1))) = true then (CR nE p0).bind fun x2 => some (.inr (x2, p0)) else some (.inl ((BQ x1), (p0.1, DP (p0.2 + 1)))))
theorem F3 (nE : Nat) (p0 : (List (Int × Int × List UInt8 × Int)) × Int) (p1 : Int) : Le (DN nE p0 p1) (Ck p0 p1) := by
  unfold DN Ck
  repeat' with_reducible (first | refine Le.orR' ?_ ?_ | refine Le.bind' ?_ ?_ | refine Le.ite' ?_ ?_ | refine Le.loop' ?_ | refine Le.altS' ?_ ?_ | apply CW | apply DO | exact Le.rfl' _ | (refine Le.pi2 ?_; intro _) | intro _)
def DF (nE : Nat) (p0 : (List (Int × Int × List UInt8 × Int)) × Int) : Option ((Int × ((List (Int × Int × List UInt8 × Int)) × Int)) ⊕ ((Int × Int) × ((List (Int × Int × List UInt8 × Int)) × Int))) := (Cl nE p0).bind fun x1 => (if x1.1 ≠ 2 then (CR nE p0).bind fun x2 => some (.inr (x2, p0)) else some (.inl (x1.2.1, (p0.1, DP (p0.2 + 1)))))
theorem FV (nE : Nat) (p0 : (List (Int × Int × List UInt8 × Int)) × Int) : Le (DF nE p0) (BE p0) := by
  unfold DF BE
  repeat' with_reducible (first | refine Le.orR' ?_ ?_ | refine Le.bind' ?_ ?_ | refine Le.ite' ?_ ?_ | refine Le.loop' ?_ | refine Le.altS' ?_ ?_ | apply CW | apply DO | exact Le.rfl' _ | (refine Le.pi2 ?_; intro _) | intro _)
def DS (nE : Nat) (fRec_parse_parser_condition : ((List (Int × Int × List UInt8 × Int)) × Int) → Option ((Tr25 × ((List (Int × Int × List UInt8 × Int)) × Int)) ⊕ ((Int × Int) × ((List (Int × Int × List UInt8 × Int)) × Int)))) (fRec : ((List (Int × Int × List UInt8 × Int)) × Int) → Option ((Tr25 × ((List (Int × Int × List UInt8 × Int)) × Int)) ⊕ ((Int × Int) × ((List (Int × Int × List UInt8 × Int)) × Int)))) (p0 : (List (Int × Int × List UInt8 × Int)) × Int) : Option ((Tr25 × ((List (Int × Int × List UInt8 × Int)) × Int)) ⊕ ((Int × Int) × ((List (Int × Int × List UInt8 × Int)) × Int))) := (A4 nE p0 ([116, 114, 117, 101] : List UInt8)).bind fun x1 => (if x1.1 = true then some (.inl (Tr25.of (1, 0, 0, ([] : List Tr25)), x1.2)) else (A4 nE x1.2 ([102, 97, 108, 115, 101] : List UInt8)).bind fun x2 => (if x2.1 = true then some (.inl (Tr25.of (2, 0, 0, ([] : List Tr25)), x2.2)) else (A4 nE x2.2 ([110, 111, 116] : List UInt8)).bind fun x3 => (if x3.1 = true then (fRec x3.2).bind fun x4 => B4 x4 (fun x5 => some (.inl (Tr25.of (4, 0, 0, ([x5.1] : List Tr25)), x5.2))) (fun x6 => some (.inr (x6.1, x6.2))) else (A4 nE x3.2 ([40] : List UInt8)).bind fun x7 => (if x7.1 = true then (fRec_parse_parser_condition x7.2).bind fun x8 => B4 x8 (fun x9 => (BT nE x9.2 ([41] : List UInt8)).bind fun x11 => B4 x11 (fun x12 => some (.inl (x9.1, x12))) (fun x13 => some (.inr (x13.1, x13.2)))) (fun x10 => some (.inr (x10.1, x10.2))) else (DN nE x7.2 5).bind fun x14 => B4 x14 (fun x15 => (BT nE x15.2 ([61] : List UInt8)).bind fun x17 => B4 x17 (fun x18 => (DF nE x18).bind fun x20 => B4 x20 (fun x21 => some (.inl (Tr25.of (3, x15.1, x21.1, ([] : List Tr25)), x21.2))) (fun x22 => some (.inr (x22.1, x22.2)))) (fun x19 => some (.inr (x19.1, x19.2)))) (fun x16 => some (.inr (x16.1, x16.2)))))))
theorem Hn (nE : Nat) {fRec_parse_parser_condition fRec_parse_parser_condition' : ((List (Int × Int × List UInt8 × Int)) × Int) → Option ((Tr25 × ((List (Int × Int × List UInt8 × Int)) × Int)) ⊕ ((Int × Int) × ((List (Int × Int × List UInt8 × Int)) × Int)))} (hfRec_parse_parser_condition : ∀ a0, Le (fRec_parse_parser_condition a0) (fRec_parse_parser_condition' a0)) {fRec fRec' : ((List (Int × Int × List UInt8 × Int)) × Int) → Option ((Tr25 × ((List (Int × Int × List UInt8 × Int)) × Int)) ⊕ ((Int × Int) × ((List (Int × Int × List UInt8 × Int)) × Int)))} (hfRec : ∀ a0, Le (fRec a0) (fRec' a0)) (p0 : (List (Int × Int × List UInt8 × Int)) × Int) : Le (DS nE fRec_parse_parser_condition fRec p0) (BB fRec_parse_parser_condition' fRec' p0) := by
  unfold DS BB
  repeat' with_reducible (first | refine Le.orR' ?_ ?_ | refine Le.bind' ?_ ?_ | refine Le.ite' ?_ ?_ | refine Le.loop' ?_ | refine Le.altS' ?_ ?_ | exact hfRec_parse_parser_condition | exact hfRec | exact hfRec_parse_parser_condition _ | exact hfRec _ | apply B6 | apply EA | apply F3 | apply FV | exact Le.rfl' _ | (refine Le.pi2 ?_; intro _) | intro _)
theorem Hi {fRec_parse_parser_condition fRec_parse_parser_condition' : ((List (Int × Int × List UInt8 × Int)) × Int) → Option ((Tr25 × ((List (Int × Int × List UInt8 × Int)) × Int)) ⊕ ((Int × Int) × ((List (Int × Int × List UInt8 × Int)) × Int)))} (hfRec_parse_parser_condition : ∀ a0, Le (fRec_parse_parser_condition a0) (fRec_parse_parser_condition' a0)) {fRec fRec' : ((List (Int × Int × List UInt8 × Int)) × Int) → Option ((Tr25 × ((List (Int × Int × List UInt8 × Int)) × Int)) ⊕ ((Int × Int) × ((List (Int × Int × List UInt8 × Int)) × Int)))} (hfRec : ∀ a0, Le (fRec a0) (fRec' a0)) (p0 : (List (Int × Int × List UInt8 × Int)) × Int) : Le (BB fRec_parse_parser_condition fRec p0) (BB fRec_parse_parser_condition' fRec' p0) := by
  unfold BB
  repeat' with_reducible (first | refine Le.orR' ?_ ?_ | refine Le.bind' ?_ ?_ | refine Le.ite' ?_ ?_ | refine Le.loopM ?_ | refine Le.altS' ?_ ?_ | exact hfRec_parse_parser_condition | exact hfRec | exact hfRec_parse_parser_condition _ | exact hfRec _ | exact Le.rfl' _ | (refine Le.pi2 ?_; intro _) | intro _)
def D8 (nE : Nat) (fRec_parse_parser_condition : ((List (Int × Int × List UInt8 × Int)) × Int) → Option ((Tr25 × ((List (Int × Int × List UInt8 × Int)) × Int)) ⊕ ((Int × Int) × ((List (Int × Int × List UInt8 × Int)) × Int)))) : Nat → ((List (Int × Int × List UInt8 × Int)) × Int) → Option ((Tr25 × ((List (Int × Int × List UInt8 × Int)) × Int)) ⊕ ((Int × Int) × ((List (Int × Int × List UInt8 × Int)) × Int)))
  | 0 => fun _ => none
  | n + 1 => DS nE fRec_parse_parser_condition (D8 nE fRec_parse_parser_condition n)
theorem Ft (nE : Nat) {fRec_parse_parser_condition fRec_parse_parser_condition' : ((List (Int × Int × List UInt8 × Int)) × Int) → Option ((Tr25 × ((List (Int × Int × List UInt8 × Int)) × Int)) ⊕ ((Int × Int) × ((List (Int × Int × List UInt8 × Int)) × Int)))} (hfRec_parse_parser_condition : ∀ a0, Le (fRec_parse_parser_condition a0) (fRec_parse_parser_condition' a0)) : ∀ (m : Nat) a0, Le (D8 nE fRec_parse_parser_condition m a0) (Bm fRec_parse_parser_condition' m a0)
  | 0, a0 => fun _ h => nomatch h
  | m + 1, a0 => Hn nE hfRec_parse_parser_condition (Ft nE hfRec_parse_parser_condition m) a0
theorem CE {fRec_parse_parser_condition fRec_parse_parser_condition' : ((List (Int × Int × List UInt8 × Int)) × Int) → Option ((Tr25 × ((List (Int × Int × List UInt8 × Int)) × Int)) ⊕ ((Int × Int) × ((List (Int × Int × List UInt8 × Int)) × Int)))} (hfRec_parse_parser_condition : ∀ a0, Le (fRec_parse_parser_condition a0) (fRec_parse_parser_condition' a0)) : ∀ (m : Nat) a0, Le (Bm fRec_parse_parser_condition m a0) (Bm fRec_parse_parser_condition' (m + 1) a0)
  | 0, a0 => fun _ h => nomatch h
  | m + 1, a0 => Hi hfRec_parse_parser_condition (CE hfRec_parse_parser_condition m) a0
def EV (nE : Nat) (fRec_parse_parser_condition : ((List (Int × Int × List UInt8 × Int)) × Int) → Option ((Tr25 × ((List (Int × Int × List UInt8 × Int)) × Int)) ⊕ ((Int × Int) × ((List (Int × Int × List UInt8 × Int)) × Int)))) (p0 : (List (Int × Int × List UInt8 × Int)) × Int) : Option ((Tr25 × ((List (Int × Int × List UInt8 × Int)) × Int)) ⊕ ((Int × Int) × ((List (Int × Int × List UInt8 × Int)) × Int))) := D8 nE fRec_parse_parser_condition nE p0
theorem FO (nE : Nat) {fRec_parse_parser_condition fRec_parse_parser_condition' : ((List (Int × Int × List UInt8 × Int)) × Int) → Option ((Tr25 × ((List (Int × Int × List UInt8 × Int)) × Int)) ⊕ ((Int × Int) × ((List (Int × Int × List UInt8 × Int)) × Int)))} (hfRec_parse_parser_condition : ∀ a0, Le (fRec_parse_parser_condition a0) (fRec_parse_parser_condition' a0)) (p0 : (List (Int × Int × List UInt8 × Int)) × Int) : Le (EV nE fRec_parse_parser_condition p0) (Cc fRec_parse_parser_condition' p0) := fun r e => B9 (g := fun n => Bm fRec_parse_parser_condition' n p0) (fun n r h => CE (fun a0 => Le.rfl' _) n p0 r h) (n := nE) (Ft nE hfRec_parse_parser_condition nE p0 r e)
theorem FQ {fRec_parse_parser_condition fRec_parse_parser_condition' : ((List (Int × Int × List UInt8 × Int)) × Int) → Option ((Tr25 × ((List (Int × Int × List UInt8 × Int)) × Int)) ⊕ ((Int × Int) × ((List (Int × Int × List UInt8 × Int)) × Int)))} (hfRec_parse_parser_condition : ∀ a0, Le (fRec_parse_parser_condition a0) (fRec_parse_parser_condition' a0)) (p0 : (List (Int × Int × List UInt8 × Int)) × Int) : Le (Cc fRec_parse_parser_condition p0) (Cc fRec_parse_parser_condition' p0) := fun r e => by
  obtain ⟨n, hn⟩ := BR e
  exact B9 (g := fun n => Bm fRec_parse_parser_condition' n p0) (fun n r h => CE (fun a0 => Le.rfl' _) n p0 r h) (n := n + 1) (CE hfRec_parse_parser_condition n p0 r hn)
def Dj (nE : Nat) (fRec_parse_parser_condition : ((List (Int × Int × List UInt8 × Int)) × Int) → Option ((Tr25 × ((List (Int × Int × List UInt8 × Int)) × Int)) ⊕ ((Int × Int) × ((List (Int × Int × List UInt8 × Int)) × Int)))) (p1 : List UInt8) : (List Tr25 × (List (Int × Int × List UInt8 × Int)) × Int) → Option ((List Tr25 × (List (Int × Int × List UInt8 × Int)) × Int) ⊕ ((List Tr25 × (List (Int × Int × List UInt8 × Int)) × Int) ⊕ ((Tr25 × ((List (Int × Int × List UInt8 × Int)) × Int)) ⊕ ((Int × Int) × ((List (Int × Int × List UInt8 × Int)) × Int)))))
  | (x7, x8, x9) => (A4 nE (x8, x9) p1).bind fun x10 => (if x10.1 = true then ((EV nE fRec_parse_parser_condition) x10.2).bind fun x11 => B4 x11 (fun x12 => (DQ x7 ([x12.1] : List Tr25)).bind fun x14 => some (.inl (x14, x12.2.1, x12.2.2))) (fun x13 => some (.inr (.inr (.inr (x13.1, x13.2))))) else some (.inr (.inl (x7, x10.2.1, x10.2.2))))
theorem GD (nE : Nat) {fRec_parse_parser_condition fRec_parse_parser_condition' : ((List (Int × Int × List UInt8 × Int)) × Int) → Option ((Tr25 × ((List (Int × Int × List UInt8 × Int)) × Int)) ⊕ ((Int × Int) × ((List (Int × Int × List UInt8 × Int)) × Int)))} (hfRec_parse_parser_condition : ∀ a0, Le (fRec_parse_parser_condition a0) (fRec_parse_parser_condition' a0)) (p1 : List UInt8) : ∀ s, Le (Dj nE fRec_parse_parser_condition p1 s) (Bg fRec_parse_parser_condition' p1 s) := by
  rintro ⟨x7, x8, x9⟩
  unfold Dj Bg
  repeat' with_reducible (first | refine Le.orR' ?_ ?_ | refine Le.bind' ?_ ?_ | refine Le.ite' ?_ ?_ | refine Le.loop' ?_ | refine Le.altS' ?_ ?_ | exact hfRec_parse_parser_condition | exact hfRec_parse_parser_condition _ | apply B6 | apply FO | exact Le.rfl' _ | (refine Le.pi2 ?_; intro _) | intro _)
theorem Gz {fRec_parse_parser_condition fRec_parse_parser_condition' : ((List (Int × Int × List UInt8 × Int)) × Int) → Option ((Tr25 × ((List (Int × Int × List UInt8 × Int)) × Int)) ⊕ ((Int × Int) × ((List (Int × Int × List UInt8 × Int)) × Int)))} (hfRec_parse_parser_condition : ∀ a0, Le (fRec_parse_parser_condition a0) (fRec_parse_parser_condition' a0)) (p1 : List UInt8) : ∀ s, Le (Bg fRec_parse_parser_condition p1 s) (Bg fRec_parse_parser_condition' p1 s) := by
  rintro ⟨x7, x8, x9⟩
  show Le (Bg fRec_parse_parser_condition p1 (x7, x8, x9)) (Bg fRec_parse_parser_condition' p1 (x7, x8, x9))
  unfold Bg
  repeat' with_reducible (first | refine Le.orR' ?_ ?_ | refine Le.bind' ?_ ?_ | refine Le.ite' ?_ ?_ | refine Le.loopM ?_ | refine Le.altS' ?_ ?_ | exact hfRec_parse_parser_condition | exact hfRec_parse_parser_condition _ | apply FQ | exact Le.rfl' _ | (refine Le.pi2 ?_; intro _) | intro _)
def DV (nE : Nat) (fRec_parse_parser_condition : ((List (Int × Int × List UInt8 × Int)) × Int) → Option ((Tr25 × ((List (Int × Int × List UInt8 × Int)) × Int)) ⊕ ((Int × Int) × ((List (Int × Int × List UInt8 × Int)) × Int)))) (p0 : (List (Int × Int × List UInt8 × Int)) × Int) (p1 : List UInt8) : Option ((Tr25 × ((List (Int × Int × List UInt8 × Int)) × Int)) ⊕ ((Int × Int) × ((List (Int × Int × List UInt8 × Int)) × Int))) := ((EV nE fRec_parse_parser_condition) p0).bind fun x1 => B4 x1 (fun x2 => KC (Iz nE (Dj nE fRec_parse_parser_condition p1) (([x2.1] : List Tr25), x2.2.1, x2.2.2)) fun (x4, x5, x6) => (if (x4.length : Int) = 1 then (ix x4 0).bind fun x15 => some (.inl (x15, (x5, x6))) else some (.inl (Tr25.of ((Cp x4).un.1, (Cp x4).un.2.1, (Cp x4).un.2.2.1, (Cp x4).un.2.2.2), (x5, x6))))) (fun x3 => some (.inr (x3.1, x3.2)))
theorem Hk (nE : Nat) {fRec_parse_parser_condition fRec_parse_parser_condition' : ((List (Int × Int × List UInt8 × Int)) × Int) → Option ((Tr25 × ((List (Int × Int × List UInt8 × Int)) × Int)) ⊕ ((Int × Int) × ((List (Int × Int × List UInt8 × Int)) × Int)))} (hfRec_parse_parser_condition : ∀ a0, Le (fRec_parse_parser_condition a0) (fRec_parse_parser_condition' a0)) (p0 : (List (Int × Int × List UInt8 × Int)) × Int) (p1 : List UInt8) : Le (DV nE fRec_parse_parser_condition p0 p1) (BG fRec_parse_parser_condition' p0 p1) := by
  unfold DV BG
  repeat' with_reducible (first | refine Le.orR' ?_ ?_ | refine Le.bind' ?_ ?_ | refine Le.ite' ?_ ?_ | refine Le.loop' ?_ | refine Le.altS' ?_ ?_ | exact hfRec_parse_parser_condition | exact hfRec_parse_parser_condition _ | apply FO | apply GD | exact Le.rfl' _ | (refine Le.pi2 ?_; intro _) | intro _)
theorem Hp {fRec_parse_parser_condition fRec_parse_parser_condition' : ((List (Int × Int × List UInt8 × Int)) × Int) → Option ((Tr25 × ((List (Int × Int × List UInt8 × Int)) × Int)) ⊕ ((Int × Int) × ((List (Int × Int × List UInt8 × Int)) × Int)))} (hfRec_parse_parser_condition : ∀ a0, Le (fRec_parse_parser_condition a0) (fRec_parse_parser_condition' a0)) (p0 : (List (Int × Int × List UInt8 × Int)) × Int) (p1 : List UInt8) : Le (BG fRec_parse_parser_condition p0 p1) (BG fRec_parse_parser_condition' p0 p1) := by
  unfold BG
  repeat' with_reducible (first | refine Le.orR' ?_ ?_ | refine Le.bind' ?_ ?_ | refine Le.ite' ?_ ?_ | refine Le.loopM ?_ | refine Le.altS' ?_ ?_ | exact hfRec_parse_parser_condition | exact hfRec_parse_parser_condition _ | apply FQ | apply Gz | exact Le.rfl' _ | (refine Le.pi2 ?_; intro _) | intro _)
def D1 (nE : Nat) (fRec_parse_parser_condition : ((List (Int × Int × List UInt8 × Int)) × Int) → Option ((Tr25 × ((List (Int × Int × List UInt8 × Int)) × Int)) ⊕ ((Int × Int) × ((List (Int × Int × List UInt8 × Int)) × Int)))) (p0 : (List (Int × Int × List UInt8 × Int)) × Int) : Option ((Tr25 × ((List (Int × Int × List UInt8 × Int)) × Int)) ⊕ ((Int × Int) × ((List (Int × Int × List UInt8 × Int)) × Int))) := ((DV nE fRec_parse_parser_condition) p0 ([97, 110, 100] : List UInt8)).bind fun x1 => B4 x1 (fun x2 => some (.inl (x2.1, x2.2))) (fun x3 => some (.inr (x3.1, x3.2)))
theorem Gn (nE : Nat) {fRec_parse_parser_condition fRec_parse_parser_condition' : ((List (Int × Int × List UInt8 × Int)) × Int) → Option ((Tr25 × ((List (Int × Int × List UInt8 × Int)) × Int)) ⊕ ((Int × Int) × ((List (Int × Int × List UInt8 × Int)) × Int)))} (hfRec_parse_parser_condition : ∀ a0, Le (fRec_parse_parser_condition a0) (fRec_parse_parser_condition' a0)) (p0 : (List (Int × Int × List UInt8 × Int)) × Int) : Le (D1 nE fRec_parse_parser_condition p0) (Bz fRec_parse_parser_condition' p0) := by
  unfold D1 Bz
  repeat' with_reducible (first | refine Le.orR' ?_ ?_ | refine Le.bind' ?_ ?_ | refine Le.ite' ?_ ?_ | refine Le.loop' ?_ | refine Le.altS' ?_ ?_ | exact hfRec_parse_parser_condition | exact hfRec_parse_parser_condition _ | apply Hk | exact Le.rfl' _ | (refine Le.pi2 ?_; intro _) | intro _)
theorem Gp {fRec_parse_parser_condition fRec_parse_parser_condition' : ((List (Int × Int × List UInt8 × Int)) × Int) → Option ((Tr25 × ((List (Int × Int × List UInt8 × Int)) × Int)) ⊕ ((Int × Int) × ((List (Int × Int × List UInt8 × Int)) × Int)))} (hfRec_parse_parser_condition : ∀ a0, Le (fRec_parse_parser_condition a0) (fRec_parse_parser_condition' a0)) (p0 : (List (Int × Int × List UInt8 × Int)) × Int) : Le (Bz fRec_parse_parser_condition p0) (Bz fRec_parse_parser_condition' p0) := by
  unfold Bz
  repeat' with_reducible (first | refine Le.orR' ?_ ?_ | refine Le.bind' ?_ ?_ | refine Le.ite' ?_ ?_ | refine Le.loopM ?_ | refine Le.altS' ?_ ?_ | exact hfRec_parse_parser_condition | exact hfRec_parse_parser_condition _ | apply Hp | exact Le.rfl' _ | (refine Le.pi2 ?_; intro _) | intro _)
def DH (nE : Nat) (fRec_parse_parser_condition : ((List (Int × Int × List UInt8 × Int)) × Int) → Option ((Tr25 × ((List (Int × Int × List UInt8 × Int)) × Int)) ⊕ ((Int × Int) × ((List (Int × Int × List UInt8 × Int)) × Int)))) (p1 : List UInt8) : (List Tr25 × (List (Int × Int × List UInt8 × Int)) × Int) → Option ((List Tr25 × (List (Int × Int × List UInt8 × Int)) × Int) ⊕ ((List Tr25 × (List (Int × Int × List UInt8 × Int)) × Int) ⊕ ((Tr25 × ((List (Int × Int × List UInt8 × Int)) × Int)) ⊕ ((Int × Int) × ((List (Int × Int × List UInt8 × Int)) × Int)))))
  | (x7, x8, x9) => (A4 nE (x8, x9) p1).bind fun x10 => (if x10.1 = true then ((D1 nE fRec_parse_parser_condition) x10.2).bind fun x11 => B4 x11 (fun x12 => (DQ x7 ([x12.1] : List Tr25)).bind fun x14 => some (.inl (x14, x12.2.1, x12.2.2))) (fun x13 => some (.inr (.inr (.inr (x13.1, x13.2))))) else some (.inr (.inl (x7, x10.2.1, x10.2.2))))
theorem GX (nE : Nat) {fRec_parse_parser_condition fRec_parse_parser_condition' : ((List (Int × Int × List UInt8 × Int)) × Int) → Option ((Tr25 × ((List (Int × Int × List UInt8 × Int)) × Int)) ⊕ ((Int × Int) × ((List (Int × Int × List UInt8 × Int)) × Int)))} (hfRec_parse_parser_condition : ∀ a0, Le (fRec_parse_parser_condition a0) (fRec_parse_parser_condition' a0)) (p1 : List UInt8) : ∀ s, Le (DH nE fRec_parse_parser_condition p1 s) (Bh fRec_parse_parser_condition' p1 s) := by
  rintro ⟨x7, x8, x9⟩
  unfold DH Bh
  repeat' with_reducible (first | refine Le.orR' ?_ ?_ | refine Le.bind' ?_ ?_ | refine Le.ite' ?_ ?_ | refine Le.loop' ?_ | refine Le.altS' ?_ ?_ | exact hfRec_parse_parser_condition | exact hfRec_parse_parser_condition _ | apply B6 | apply Gn | exact Le.rfl' _ | (refine Le.pi2 ?_; intro _) | intro _)
theorem G9 {fRec_parse_parser_condition fRec_parse_parser_condition' : ((List (Int × Int × List UInt8 × Int)) × Int) → Option ((Tr25 × ((List (Int × Int × List UInt8 × Int)) × Int)) ⊕ ((Int × Int) × ((List (Int × Int × List UInt8 × Int)) × Int)))} (hfRec_parse_parser_condition : ∀ a0, Le (fRec_parse_parser_condition a0) (fRec_parse_parser_condition' a0)) (p1 : List UInt8) : ∀ s, Le (Bh fRec_parse_parser_condition p1 s) (Bh fRec_parse_parser_condition' p1 s) := by
  rintro ⟨x7, x8, x9⟩
  show Le (Bh fRec_parse_parser_condition p1 (x7, x8, x9)) (Bh fRec_parse_parser_condition' p1 (x7, x8, x9))
  unfold Bh
  repeat' with_reducible (first | refine Le.orR' ?_ ?_ | refine Le.bind' ?_ ?_ | refine Le.ite' ?_ ?_ | refine Le.loopM ?_ | refine Le.altS' ?_ ?_ | exact hfRec_parse_parser_condition | exact hfRec_parse_parser_condition _ | apply Gp | exact Le.rfl' _ | (refine Le.pi2 ?_; intro _) | intro _)
def Ey (nE : Nat) (fRec_parse_parser_condition : ((List (Int × Int × List UInt8 × Int)) × Int) → Option ((Tr25 × ((List (Int × Int × List UInt8 × Int)) × Int)) ⊕ ((Int × Int) × ((List (Int × Int × List UInt8 × Int)) × Int)))) (p0 : (List (Int × Int × List UInt8 × Int)) × Int) (p1 : List UInt8) : Option ((Tr25 × ((List (Int × Int × List UInt8 × Int)) × Int)) ⊕ ((Int × Int) × ((List (Int × Int × List UInt8 × Int)) × Int))) := ((D1 nE fRec_parse_parser_condition) p0).bind fun x1 => B4 x1 (fun x2 => KC (Iz nE (DH nE fRec_parse_parser_condition p1) (([x2.1] : List Tr25), x2.2.1, x2.2.2)) fun (x4, x5, x6) => (if (x4.length : Int) = 1 then (ix x4 0).bind fun x15 => some (.inl (x15, (x5, x6))) else some (.inl (Tr25.of ((CM x4).un.1, (CM x4).un.2.1, (CM x4).un.2.2.1, (CM x4).un.2.2.2), (x5, x6))))) (fun x3 => some (.inr (x3.1, x3.2)))
theorem HO (nE : Nat) {fRec_parse_parser_condition fRec_parse_parser_condition' : ((List (Int × Int × List UInt8 × Int)) × Int) → Option ((Tr25 × ((List (Int × Int × List UInt8 × Int)) × Int)) ⊕ ((Int × Int) × ((List (Int × Int × List UInt8 × Int)) × Int)))} (hfRec_parse_parser_condition : ∀ a0, Le (fRec_parse_parser_condition a0) (fRec_parse_parser_condition' a0)) (p0 : (List (Int × Int × List UInt8 × Int)) × Int) (p1 : List UInt8) : Le (Ey nE fRec_parse_parser_condition p0 p1) (BH fRec_parse_parser_condition' p0 p1) := by
  unfold Ey BH
  repeat' with_reducible (first | refine Le.orR' ?_ ?_ | refine Le.bind' ?_ ?_ | refine Le.ite' ?_ ?_ | refine Le.loop' ?_ | refine Le.altS' ?_ ?_ | exact hfRec_parse_parser_condition | exact hfRec_parse_parser_condition _ | apply Gn | apply GX | exact Le.rfl' _ | (refine Le.pi2 ?_; intro _) | intro _)
theorem H2 {fRec_parse_parser_condition fRec_parse_parser_condition' : ((List (Int × Int × List UInt8 × Int)) × Int) → Option ((Tr25 × ((List (Int × Int × List UInt8 × Int)) × Int)) ⊕ ((Int × Int) × ((List (Int × Int × List UInt8 × Int)) × Int)))} (hfRec_parse_parser_condition : ∀ a0, Le (fRec_parse_parser_condition a0) (fRec_parse_parser_condition' a0)) (p0 : (List (Int × Int × List UInt8 × Int)) × Int) (p1 : List UInt8) : Le (BH fRec_parse_parser_condition p0 p1) (BH fRec_parse_parser_condition' p0 p1) := by
  unfold BH
  repeat' with_reducible (first | refine Le.orR' ?_ ?_ | refine Le.bind' ?_ ?_ | refine Le.ite' ?_ ?_ | refine Le.loopM ?_ | refine Le.altS' ?_ ?_ | exact hfRec_parse_parser_condition | exact hfRec_parse_parser_condition _ | apply Gp | apply G9 | exact Le.rfl' _ | (refine Le.pi2 ?_; intro _) | intro _)
def Dk (nE : Nat) (fRec : ((List (Int × Int × List UInt8 × Int)) × Int) → Option ((Tr25 × ((List (Int × Int × List UInt8 × Int)) × Int)) ⊕ ((Int × Int) × ((List (Int × Int × List UInt8 × Int)) × Int)))) (p0 : (List (Int × Int × List UInt8 × Int)) × Int) : Option ((Tr25 × ((List (Int × Int × List UInt8 × Int)) × Int)) ⊕ ((Int × Int) × ((List (Int × Int × List UInt8 × Int)) × Int))) := ((Ey nE fRec) p0 ([111, 114] : List UInt8)).bind fun x1 => B4 x1 (fun x2 => some (.inl (x2.1, x2.2))) (fun x3 => some (.inr (x3.1, x3.2)))
theorem Gw (nE : Nat) {fRec fRec' : ((List (Int × Int × List UInt8 × Int)) × Int) → Option ((Tr25 × ((List (Int × Int × List UInt8 × Int)) × Int)) ⊕ ((Int × Int) × ((List (Int × Int × List UInt8 × Int)) × Int)))} (hfRec : ∀ a0, Le (fRec a0) (fRec' a0)) (p0 : (List (Int × Int × List UInt8 × Int)) × Int) : Le (Dk nE fRec p0) (Bf fRec' p0) := by
  unfold Dk Bf
  repeat' with_reducible (first | refine Le.orR' ?_ ?_ | refine Le.bind' ?_ ?_ | refine Le.ite' ?_ ?_ | refine Le.loop' ?_ | refine Le.altS' ?_ ?_ | exact hfRec | exact hfRec _ | apply HO | exact Le.rfl' _ | (refine Le.pi2 ?_; intro _) | intro _)
theorem GB {fRec fRec' : ((List (Int × Int × List UInt8 × Int)) × Int) → Option ((Tr25 × ((List (Int × Int × List UInt8 × Int)) × Int)) ⊕ ((Int × Int) × ((List (Int × Int × List UInt8 × Int)) × Int)))} (hfRec : ∀ a0, Le (fRec a0) (fRec' a0)) (p0 : (List (Int × Int × List UInt8 × Int)) × Int) : Le (Bf fRec p0) (Bf fRec' p0) := by
  unfold Bf
  repeat' with_reducible (first | refine Le.orR' ?_ ?_ | refine Le.bind' ?_ ?_ | refine Le.ite' ?_ ?_ | refine Le.loopM ?_ | refine Le.altS' ?_ ?_ | exact hfRec | exact hfRec _ | apply H2 | exact Le.rfl' _ | (refine Le.pi2 ?_; intro _) | intro _)
def Dw (nE : Nat) : Nat → ((List (Int × Int × List UInt8 × Int)) × Int) → Option ((Tr25 × ((List (Int × Int × List UInt8 × Int)) × Int)) ⊕ ((Int × Int) × ((List (Int × Int × List UInt8 × Int)) × Int)))
  | 0 => fun _ => none
  | n + 1 => Dk nE (Dw nE n)
theorem EX (nE : Nat) : ∀ (m : Nat) a0, Le (Dw nE m a0) (AH m a0)
  | 0, a0 => fun _ h => nomatch h
  | m + 1, a0 => Gw nE (EX nE m) a0
theorem Dl : ∀ (m : Nat) a0, Le (AH m a0) (AH (m + 1) a0)
  | 0, a0 => fun _ h => nomatch h
  | m + 1, a0 => GB (Dl m) a0
def DU (nE : Nat) (p0 : (List (Int × Int × List UInt8 × Int)) × Int) : Option ((Tr25 × ((List (Int × Int × List UInt8 × Int)) × Int)) ⊕ ((Int × Int) × ((List (Int × Int × List UInt8 × Int)) × Int))) := Dw nE nE p0
theorem Fc (nE : Nat) (p0 : (List (Int × Int × List UInt8 × Int)) × Int) : Le (DU nE p0) (B5 p0) := fun r e => B9 (g := fun n => AH n p0) (fun n r h => Dl n p0 r h) (n := nE) (EX nE nE p0 r e)
def EU (nE : Nat) (fRec_parse_parser_step : ((List (Int × Int × List UInt8 × Int)) × Int) → Option ((Tr28 × ((List (Int × Int × List UInt8 × Int)) × Int)) ⊕ ((Int × Int) × ((List (Int × Int × List UInt8 × Int)) × Int)))) (p0 : (List (Int × Int × List UInt8 × Int)) × Int) : Option ((Tr28 × ((List (Int × Int × List UInt8 × Int)) × Int)) ⊕ ((Int × Int) × ((List (Int × Int × List UInt8 × Int)) × Int))) := (DU nE p0).bind fun x1 => B4 x1 (fun x2 => (BT nE x2.2 ([116, 104, 101, 110] : List UInt8)).bind fun x4 => B4 x4 (fun x5 => (fRec_parse_parser_step x5).bind fun x7 => B4 x7 (fun x8 => (BT nE x8.2 ([101, 108, 115, 101] : List UInt8)).bind fun x10 => B4 x10 (fun x11 => (fRec_parse_parser_step x11).bind fun x13 => B4 x13 (fun x14 => some (.inl (Tr28.of (5, x2.1, 0, 0, ([Tr28.of (x8.1.un.1, Tr25.of (x8.1.un.2.1.un.1, x8.1.un.2.1.un.2.1, x8.1.un.2.1.un.2.2.1, x8.1.un.2.1.un.2.2.2), x8.1.un.2.2.1, x8.1.un.2.2.2.1, x8.1.un.2.2.2.2), Tr28.of (x14.1.un.1, Tr25.of (x14.1.un.2.1.un.1, x14.1.un.2.1.un.2.1, x14.1.un.2.1.un.2.2.1, x14.1.un.2.1.un.2.2.2), x14.1.un.2.2.1, x14.1.un.2.2.2.1, x14.1.un.2.2.2.2)] : List Tr28)), x14.2))) (fun x15 => some (.inr (x15.1, x15.2)))) (fun x12 => some (.inr (x12.1, x12.2)))) (fun x9 => some (.inr (x9.1, x9.2)))) (fun x6 => some (.inr (x6.1, x6.2)))) (fun x3 => some (.inr (x3.1, x3.2)))
theorem Iu (nE : Nat) {fRec_parse_parser_step fRec_parse_parser_step' : ((List (Int × Int × List UInt8 × Int)) × Int) → Option ((Tr28 × ((List (Int × Int × List UInt8 × Int)) × Int)) ⊕ ((Int × Int) × ((List (Int × Int × List UInt8 × Int)) × Int)))} (hfRec_parse_parser_step : ∀ a0, Le (fRec_parse_parser_step a0) (fRec_parse_parser_step' a0)) (p0 : (List (Int × Int × List UInt8 × Int)) × Int) : Le (EU nE fRec_parse_parser_step p0) (BV fRec_parse_parser_step' p0) := by
  unfold EU BV
  repeat' with_reducible (first | refine Le.orR' ?_ ?_ | refine Le.bind' ?_ ?_ | refine Le.ite' ?_ ?_ | refine Le.loop' ?_ | refine Le.altS' ?_ ?_ | exact hfRec_parse_parser_step | exact hfRec_parse_parser_step _ | apply EA | apply Fc | exact Le.rfl' _ | (refine Le.pi2 ?_; intro _) | intro _)
theorem Ip {fRec_parse_parser_step fRec_parse_parser_step' : ((List (Int × Int × List UInt8 × Int)) × Int) → Option ((Tr28 × ((List (Int × Int × List UInt8 × Int)) × Int)) ⊕ ((Int × Int) × ((List (Int × Int × List UInt8 × Int)) × Int)))} (hfRec_parse_parser_step : ∀ a0, Le (fRec_parse_parser_step a0) (fRec_parse_parser_step' a0)) (p0 : (List (Int × Int × List UInt8 × Int)) × Int) : Le (BV fRec_parse_parser_step p0) (BV fRec_parse_parser_step' p0) := by
  unfold BV
  repeat' with_reducible (first | refine Le.orR' ?_ ?_ | refine Le.bind' ?_ ?_ | refine Le.ite' ?_ ?_ | refine Le.loopM ?_ | refine Le.altS' ?_ ?_ | exact hfRec_parse_parser_step | exact hfRec_parse_parser_step _ | exact Le.rfl' _ | (refine Le.pi2 ?_; intro _) | intro _)
def Ew (nE : Nat) (fRec_parse_parser_policy : ((List (Int × Int × List UInt8 × Int)) × Int) → Option ((Tr28 × ((List (Int × Int × List UInt8 × Int)) × Int)) ⊕ ((Int × Int) × ((List (Int × Int × List UInt8 × Int)) × Int)))) (fRec : ((List (Int × Int × List UInt8 × Int)) × Int) → Option ((Tr28 × ((List (Int × Int × List UInt8 × Int)) × Int)) ⊕ ((Int × Int) × ((List (Int × Int × List UInt8 × Int)) × Int)))) (p0 : (List (Int × Int × List UInt8 × Int)) × Int) : Option ((Tr28 × ((List (Int × Int × List UInt8 × Int)) × Int)) ⊕ ((Int × Int) × ((List (Int × Int × List UInt8 × Int)) × Int))) := (A4 nE p0 ([100, 114, 111, 112] : List UInt8)).bind fun x1 => (if x1.1 = true then some (.inl (Tr28.of ((Am (Tr25.of (2, 0, 0, ([] : List Tr25)))).un.1, Tr25.of ((Am (Tr25.of (2, 0, 0, ([] : List Tr25)))).un.2.1.un.1, (Am (Tr25.of (2, 0, 0, ([] : List Tr25)))).un.2.1.un.2.1, (Am (Tr25.of (2, 0, 0, ([] : List Tr25)))).un.2.1.un.2.2.1, (Am (Tr25.of (2, 0, 0, ([] : List Tr25)))).un.2.1.un.2.2.2), (Am (Tr25.of (2, 0, 0, ([] : List Tr25)))).un.2.2.1, (Am (Tr25.of (2, 0, 0, ([] : List Tr25)))).un.2.2.2.1, (Am (Tr25.of (2, 0, 0, ([] : List Tr25)))).un.2.2.2.2), x1.2)) else (A4 nE x1.2 ([105, 100] : List UInt8)).bind fun x2 => (if x2.1 = true then some (.inl (Tr28.of ((Am (Tr25.of (1, 0, 0, ([] : List Tr25)))).un.1, Tr25.of ((Am (Tr25.of (1, 0, 0, ([] : List Tr25)))).un.2.1.un.1, (Am (Tr25.of (1, 0, 0, ([] : List Tr25)))).un.2.1.un.2.1, (Am (Tr25.of (1, 0, 0, ([] : List Tr25)))).un.2.1.un.2.2.1, (Am (Tr25.of (1, 0, 0, ([] : List Tr25)))).un.2.1.un.2.2.2), (Am (Tr25.of (1, 0, 0, ([] : List Tr25)))).un.2.2.1, (Am (Tr25.of (1, 0, 0, ([] : List Tr25)))).un.2.2.2.1, (Am (Tr25.of (1, 0, 0, ([] : List Tr25)))).un.2.2.2.2), x2.2)) else (A4 nE x2.2 ([119, 104, 101, 110] : List UInt8)).bind fun x3 => (if x3.1 = true then (DU nE x3.2).bind fun x4 => B4 x4 (fun x5 => some (.inl (Tr28.of ((Am x5.1).un.1, Tr25.of ((Am x5.1).un.2.1.un.1, (Am x5.1).un.2.1.un.2.1, (Am x5.1).un.2.1.un.2.2.1, (Am x5.1).un.2.1.un.2.2.2), (Am x5.1).un.2.2.1, (Am x5.1).un.2.2.2.1, (Am x5.1).un.2.2.2.2), x5.2))) (fun x6 => some (.inr (x6.1, x6.2))) else (A4 nE x3.2 ([105, 102] : List UInt8)).bind fun x7 => (if x7.1 = true then ((EU nE fRec) x7.2).bind fun x8 => B4 x8 (fun x9 => some (.inl (Tr28.of (x9.1.un.1, Tr25.of (x9.1.un.2.1.un.1, x9.1.un.2.1.un.2.1, x9.1.un.2.1.un.2.2.1, x9.1.un.2.1.un.2.2.2), x9.1.un.2.2.1, x9.1.un.2.2.2.1, x9.1.un.2.2.2.2), x9.2))) (fun x10 => some (.inr (x10.1, x10.2))) else (A4 nE x7.2 ([40] : List UInt8)).bind fun x11 => (if x11.1 = true then (fRec_parse_parser_policy x11.2).bind fun x12 => B4 x12 (fun x13 => (BT nE x13.2 ([41] : List UInt8)).bind fun x15 => B4 x15 (fun x16 => some (.inl (Tr28.of (x13.1.un.1, Tr25.of (x13.1.un.2.1.un.1, x13.1.un.2.1.un.2.1, x13.1.un.2.1.un.2.2.1, x13.1.un.2.1.un.2.2.2), x13.1.un.2.2.1, x13.1.un.2.2.2.1, x13.1.un.2.2.2.2), x16))) (fun x17 => some (.inr (x17.1, x17.2)))) (fun x14 => some (.inr (x14.1, x14.2))) else (DN nE x11.2 4).bind fun x18 => B4 x18 (fun x19 => (BT nE x19.2 ([58, 61] : List UInt8)).bind fun x21 => B4 x21 (fun x22 => (DF nE x22).bind fun x24 => B4 x24 (fun x25 => some (.inl (Tr28.of (2, Tr25.of (0, 0, 0, ([] : List Tr25)), x19.1, x25.1, ([] : List Tr28)), x25.2))) (fun x26 => some (.inr (x26.1, x26.2)))) (fun x23 => some (.inr (x23.1, x23.2)))) (fun x20 => some (.inr (x20.1, x20.2))))))))
theorem HS (nE : Nat) {fRec_parse_parser_policy fRec_parse_parser_policy' : ((List (Int × Int × List UInt8 × Int)) × Int) → Option ((Tr28 × ((List (Int × Int × List UInt8 × Int)) × Int)) ⊕ ((Int × Int) × ((List (Int × Int × List UInt8 × Int)) × Int)))} (hfRec_parse_parser_policy : ∀ a0, Le (fRec_parse_parser_policy a0) (fRec_parse_parser_policy' a0)) {fRec fRec' : ((List (Int × Int × List UInt8 × Int)) × Int) → Option ((Tr28 × ((List (Int × Int × List UInt8 × Int)) × Int)) ⊕ ((Int × Int) × ((List (Int × Int × List UInt8 × Int)) × Int)))} (hfRec : ∀ a0, Le (fRec a0) (fRec' a0)) (p0 : (List (Int × Int × List UInt8 × Int)) × Int) : Le (Ew nE fRec_parse_parser_policy fRec p0) (Bq fRec_parse_parser_policy' fRec' p0) := by
  unfold Ew Bq
  repeat' with_reducible (first | refine Le.orR' ?_ ?_ | refine Le.bind' ?_ ?_ | refine Le.ite' ?_ ?_ | refine Le.loop' ?_ | refine Le.altS' ?_ ?_ | exact hfRec_parse_parser_policy | exact hfRec | exact hfRec_parse_parser_policy _ | exact hfRec _ | apply B6 | apply EA | apply F3 | apply FV | apply Fc | apply Iu | exact Le.rfl' _ | (refine Le.pi2 ?_; intro _) | intro _)
theorem HW {fRec_parse_parser_policy fRec_parse_parser_policy' : ((List (Int × Int × List UInt8 × Int)) × Int) → Option ((Tr28 × ((List (Int × Int × List UInt8 × Int)) × Int)) ⊕ ((Int × Int) × ((List (Int × Int × List UInt8 × Int)) × Int)))} (hfRec_parse_parser_policy : ∀ a0, Le (fRec_parse_parser_policy a0) (fRec_parse_parser_policy' a0)) {fRec fRec' : ((List (Int × Int × List UInt8 × Int)) × Int) → Option ((Tr28 × ((List (Int × Int × List UInt8 × Int)) × Int)) ⊕ ((Int × Int) × ((List (Int × Int × List UInt8 × Int)) × Int)))} (hfRec : ∀ a0, Le (fRec a0) (fRec' a0)) (p0 : (List (Int × Int × List UInt8 × Int)) × Int) : Le (Bq fRec_parse_parser_policy fRec p0) (Bq fRec_parse_parser_policy' fRec' p0) := by
  unfold Bq
  repeat' with_reducible (first | refine Le.orR' ?_ ?_ | refine Le.bind' ?_ ?_ | refine Le.ite' ?_ ?_ | refine Le.loopM ?_ | refine Le.altS' ?_ ?_ | exact hfRec_parse_parser_policy | exact hfRec | exact hfRec_parse_parser_policy _ | exact hfRec _ | apply Ip | exact Le.rfl' _ | (refine Le.pi2 ?_; intro _) | intro _)
def ES (nE : Nat) (fRec_parse_parser_policy : ((List (Int × Int × List UInt8 × Int)) × Int) → Option ((Tr28 × ((List (Int × Int × List UInt8 × Int)) × Int)) ⊕ ((Int × Int) × ((List (Int × Int × List UInt8 × Int)) × Int)))) : Nat → ((List (Int × Int × List UInt8 × Int)) × Int) → Option ((Tr28 × ((List (Int × Int × List UInt8 × Int)) × Int)) ⊕ ((Int × Int) × ((List (Int × Int × List UInt8 × Int)) × Int)))
  | 0 => fun _ => none
  | n + 1 => Ew nE fRec_parse_parser_policy (ES nE fRec_parse_parser_policy n)
theorem FP (nE : Nat) {fRec_parse_parser_policy fRec_parse_parser_policy' : ((List (Int × Int × List UInt8 × Int)) × Int) → Option ((Tr28 × ((List (Int × Int × List UInt8 × Int)) × Int)) ⊕ ((Int × Int) × ((List (Int × Int × List UInt8 × Int)) × Int)))} (hfRec_parse_parser_policy : ∀ a0, Le (fRec_parse_parser_policy a0) (fRec_parse_parser_policy' a0)) : ∀ (m : Nat) a0, Le (ES nE fRec_parse_parser_policy m a0) (A6 fRec_parse_parser_policy' m a0)
  | 0, a0 => fun _ h => nomatch h
  | m + 1, a0 => HS nE hfRec_parse_parser_policy (FP nE hfRec_parse_parser_policy m) a0
theorem Cq {fRec_parse_parser_policy fRec_parse_parser_policy' : ((List (Int × Int × List UInt8 × Int)) × Int) → Option ((Tr28 × ((List (Int × Int × List UInt8 × Int)) × Int)) ⊕ ((Int × Int) × ((List (Int × Int × List UInt8 × Int)) × Int)))} (hfRec_parse_parser_policy : ∀ a0, Le (fRec_parse_parser_policy a0) (fRec_parse_parser_policy' a0)) : ∀ (m : Nat) a0, Le (A6 fRec_parse_parser_policy m a0) (A6 fRec_parse_parser_policy' (m + 1) a0)
  | 0, a0 => fun _ h => nomatch h
  | m + 1, a0 => HW hfRec_parse_parser_policy (Cq hfRec_parse_parser_policy m) a0
def Fd (nE : Nat) (fRec_parse_parser_policy : ((List (Int × Int × List UInt8 × Int)) × Int) → Option ((Tr28 × ((List (Int × Int × List UInt8 × Int)) × Int)) ⊕ ((Int × Int) × ((List (Int × Int × List UInt8 × Int)) × Int)))) (p0 : (List (Int × Int × List UInt8 × Int)) × Int) : Option ((Tr28 × ((List (Int × Int × List UInt8 × Int)) × Int)) ⊕ ((Int × Int) × ((List (Int × Int × List UInt8 × Int)) × Int))) := ES nE fRec_parse_parser_policy nE p0
theorem Gm (nE : Nat) {fRec_parse_parser_policy fRec_parse_parser_policy' : ((List (Int × Int × List UInt8 × Int)) × Int) → Option ((Tr28 × ((List (Int × Int × List UInt8 × Int)) × Int)) ⊕ ((Int × Int) × ((List (Int × Int × List UInt8 × Int)) × Int)))} (hfRec_parse_parser_policy : ∀ a0, Le (fRec_parse_parser_policy a0) (fRec_parse_parser_policy' a0)) (p0 : (List (Int × Int × List UInt8 × Int)) × Int) : Le (Fd nE fRec_parse_parser_policy p0) (BO fRec_parse_parser_policy' p0) := fun r e => B9 (g := fun n => A6 fRec_parse_parser_policy' n p0) (fun n r h => Cq (fun a0 => Le.rfl' _) n p0 r h) (n := nE) (FP nE hfRec_parse_parser_policy nE p0 r e)
theorem Gv {fRec_parse_parser_policy fRec_parse_parser_policy' : ((List (Int × Int × List UInt8 × Int)) × Int) → Option ((Tr28 × ((List (Int × Int × List UInt8 × Int)) × Int)) ⊕ ((Int × Int) × ((List (Int × Int × List UInt8 × Int)) × Int)))} (hfRec_parse_parser_policy : ∀ a0, Le (fRec_parse_parser_policy a0) (fRec_parse_parser_policy' a0)) (p0 : (List (Int × Int × List UInt8 × Int)) × Int) : Le (BO fRec_parse_parser_policy p0) (BO fRec_parse_parser_policy' p0) := fun r e => by
  obtain ⟨n, hn⟩ := BR e
  exact B9 (g := fun n => A6 fRec_parse_parser_policy' n p0) (fun n r h => Cq (fun a0 => Le.rfl' _) n p0 r h) (n := n + 1) (Cq hfRec_parse_parser_policy n p0 r hn)
def Df (nE : Nat) (fRec_parse_parser_policy : ((List (Int × Int × List UInt8 × Int)) × Int) → Option ((Tr28 × ((List (Int × Int × List UInt8 × Int)) × Int)) ⊕ ((Int × Int) × ((List (Int × Int × List UInt8 × Int)) × Int)))) (p1 : List UInt8) : (List Tr28 × (List (Int × Int × List UInt8 × Int)) × Int) → Option ((List Tr28 × (List (Int × Int × List UInt8 × Int)) × Int) ⊕ ((List Tr28 × (List (Int × Int × List UInt8 × Int)) × Int) ⊕ ((Tr28 × ((List (Int × Int × List UInt8 × Int)) × Int)) ⊕ ((Int × Int) × ((List (Int × Int × List UInt8 × Int)) × Int)))))
  | (x7, x8, x9) => (A4 nE (x8, x9) p1).bind fun x10 => (if x10.1 = true then ((Fd nE fRec_parse_parser_policy) x10.2).bind fun x11 => B4 x11 (fun x12 => (DQ x7 ([Tr28.of (x12.1.un.1, Tr25.of (x12.1.un.2.1.un.1, x12.1.un.2.1.un.2.1, x12.1.un.2.1.un.2.2.1, x12.1.un.2.1.un.2.2.2), x12.1.un.2.2.1, x12.1.un.2.2.2.1, x12.1.un.2.2.2.2)] : List Tr28)).bind fun x14 => some (.inl (x14, x12.2.1, x12.2.2))) (fun x13 => some (.inr (.inr (.inr (x13.1, x13.2))))) else some (.inr (.inl (x7, x10.2.1, x10.2.2))))
theorem Gs (nE : Nat) {fRec_parse_parser_policy fRec_parse_parser_policy' : ((List (Int × Int × List UInt8 × Int)) × Int) → Option ((Tr28 × ((List (Int × Int × List UInt8 × Int)) × Int)) ⊕ ((Int × Int) × ((List (Int × Int × List UInt8 × Int)) × Int)))} (hfRec_parse_parser_policy : ∀ a0, Le (fRec_parse_parser_policy a0) (fRec_parse_parser_policy' a0)) (p1 : List UInt8) : ∀ s, Le (Df nE fRec_parse_parser_policy p1 s) (A8 fRec_parse_parser_policy' p1 s) := by
  rintro ⟨x7, x8, x9⟩
  unfold Df A8
  repeat' with_reducible (first | refine Le.orR' ?_ ?_ | refine Le.bind' ?_ ?_ | refine Le.ite' ?_ ?_ | refine Le.loop' ?_ | refine Le.altS' ?_ ?_ | exact hfRec_parse_parser_policy | exact hfRec_parse_parser_policy _ | apply B6 | apply Gm | exact Le.rfl' _ | (refine Le.pi2 ?_; intro _) | intro _)
theorem Gl {fRec_parse_parser_policy fRec_parse_parser_policy' : ((List (Int × Int × List UInt8 × Int)) × Int) → Option ((Tr28 × ((List (Int × Int × List UInt8 × Int)) × Int)) ⊕ ((Int × Int) × ((List (Int × Int × List UInt8 × Int)) × Int)))} (hfRec_parse_parser_policy : ∀ a0, Le (fRec_parse_parser_policy a0) (fRec_parse_parser_policy' a0)) (p1 : List UInt8) : ∀ s, Le (A8 fRec_parse_parser_policy p1 s) (A8 fRec_parse_parser_policy' p1 s) := by
  rintro ⟨x7, x8, x9⟩
  show Le (A8 fRec_parse_parser_policy p1 (x7, x8, x9)) (A8 fRec_parse_parser_policy' p1 (x7, x8, x9))
  unfold A8
  repeat' with_reducible (first | refine Le.orR' ?_ ?_ | refine Le.bind' ?_ ?_ | refine Le.ite' ?_ ?_ | refine Le.loopM ?_ | refine Le.altS' ?_ ?_ | exact hfRec_parse_parser_policy | exact hfRec_parse_parser_policy _ | apply Gv | exact Le.rfl' _ | (refine Le.pi2 ?_; intro _) | intro _)
def DG (nE : Nat) (fRec_parse_parser_policy : ((List (Int × Int × List UInt8 × Int)) × Int) → Option ((Tr28 × ((List (Int × Int × List UInt8 × Int)) × Int)) ⊕ ((Int × Int) × ((List (Int × Int × List UInt8 × Int)) × Int)))) (p0 : (List (Int × Int × List UInt8 × Int)) × Int) (p1 : List UInt8) : Option ((Tr28 × ((List (Int × Int × List UInt8 × Int)) × Int)) ⊕ ((Int × Int) × ((List (Int × Int × List UInt8 × Int)) × Int))) := ((Fd nE fRec_parse_parser_policy) p0).bind fun x1 => B4 x1 (fun x2 => KC (Iz nE (Df nE fRec_parse_parser_policy p1) (([Tr28.of (x2.1.un.1, Tr25.of (x2.1.un.2.1.un.1, x2.1.un.2.1.un.2.1, x2.1.un.2.1.un.2.2.1, x2.1.un.2.1.un.2.2.2), x2.1.un.2.2.1, x2.1.un.2.2.2.1, x2.1.un.2.2.2.2)] : List Tr28), x2.2.1, x2.2.2)) fun (x4, x5, x6) => (if (x4.length : Int) = 1 then (ix x4 0).bind fun x15 => some (.inl (Tr28.of (x15.un.1, Tr25.of (x15.un.2.1.un.1, x15.un.2.1.un.2.1, x15.un.2.1.un.2.2.1, x15.un.2.1.un.2.2.2), x15.un.2.2.1, x15.un.2.2.2.1, x15.un.2.2.2.2), (x5, x6))) else some (.inl (Tr28.of ((Be x4).un.1, Tr25.of ((Be x4).un.2.1.un.1, (Be x4).un.2.1.un.2.1, (Be x4).un.2.1.un.2.2.1, (Be x4).un.2.1.un.2.2.2), (Be x4).un.2.2.1, (Be x4).un.2.2.2.1, (Be x4).un.2.2.2.2), (x5, x6))))) (fun x3 => some (.inr (x3.1, x3.2)))
theorem GQ (nE : Nat) {fRec_parse_parser_policy fRec_parse_parser_policy' : ((List (Int × Int × List UInt8 × Int)) × Int) → Option ((Tr28 × ((List (Int × Int × List UInt8 × Int)) × Int)) ⊕ ((Int × Int) × ((List (Int × Int × List UInt8 × Int)) × Int)))} (hfRec_parse_parser_policy : ∀ a0, Le (fRec_parse_parser_policy a0) (fRec_parse_parser_policy' a0)) (p0 : (List (Int × Int × List UInt8 × Int)) × Int) (p1 : List UInt8) : Le (DG nE fRec_parse_parser_policy p0 p1) (Bv fRec_parse_parser_policy' p0 p1) := by
  unfold DG Bv
  repeat' with_reducible (first | refine Le.orR' ?_ ?_ | refine Le.bind' ?_ ?_ | refine Le.ite' ?_ ?_ | refine Le.loop' ?_ | refine Le.altS' ?_ ?_ | exact hfRec_parse_parser_policy | exact hfRec_parse_parser_policy _ | apply Gm | apply Gs | exact Le.rfl' _ | (refine Le.pi2 ?_; intro _) | intro _)
theorem Hh {fRec_parse_parser_policy fRec_parse_parser_policy' : ((List (Int × Int × List UInt8 × Int)) × Int) → Option ((Tr28 × ((List (Int × Int × List UInt8 × Int)) × Int)) ⊕ ((Int × Int) × ((List (Int × Int × List UInt8 × Int)) × Int)))} (hfRec_parse_parser_policy : ∀ a0, Le (fRec_parse_parser_policy a0) (fRec_parse_parser_policy' a0)) (p0 : (List (Int × Int × List UInt8 × Int)) × Int) (p1 : List UInt8) : Le (Bv fRec_parse_parser_policy p0 p1) (Bv fRec_parse_parser_policy' p0 p1) := by
  unfold Bv
  repeat' with_reducible (first | refine Le.orR' ?_ ?_ | refine Le.bind' ?_ ?_ | refine Le.ite' ?_ ?_ | refine Le.loopM ?_ | refine Le.altS' ?_ ?_ | exact hfRec_parse_parser_policy | exact hfRec_parse_parser_policy _ | apply Gv | apply Gl | exact Le.rfl' _ | (refine Le.pi2 ?_; intro _) | intro _)
def Dc (nE : Nat) (fRec_parse_parser_policy : ((List (Int × Int × List UInt8 × Int)) × Int) → Option ((Tr28 × ((List (Int × Int × List UInt8 × Int)) × Int)) ⊕ ((Int × Int) × ((List (Int × Int × List UInt8 × Int)) × Int)))) (p0 : (List (Int × Int × List UInt8 × Int)) × Int) : Option ((Tr28 × ((List (Int × Int × List UInt8 × Int)) × Int)) ⊕ ((Int × Int) × ((List (Int × Int × List UInt8 × Int)) × Int))) := ((DG nE fRec_parse_parser_policy) p0 ([59] : List UInt8)).bind fun x1 => B4 x1 (fun x2 => some (.inl (Tr28.of (x2.1.un.1, Tr25.of (x2.1.un.2.1.un.1, x2.1.un.2.1.un.2.1, x2.1.un.2.1.un.2.2.1, x2.1.un.2.1.un.2.2.2), x2.1.un.2.2.1, x2.1.un.2.2.2.1, x2.1.un.2.2.2.2), x2.2))) (fun x3 => some (.inr (x3.1, x3.2)))
theorem Fs (nE : Nat) {fRec_parse_parser_policy fRec_parse_parser_policy' : ((List (Int × Int × List UInt8 × Int)) × Int) → Option ((Tr28 × ((List (Int × Int × List UInt8 × Int)) × Int)) ⊕ ((Int × Int) × ((List (Int × Int × List UInt8 × Int)) × Int)))} (hfRec_parse_parser_policy : ∀ a0, Le (fRec_parse_parser_policy a0) (fRec_parse_parser_policy' a0)) (p0 : (List (Int × Int × List UInt8 × Int)) × Int) : Le (Dc nE fRec_parse_parser_policy p0) (Ba fRec_parse_parser_policy' p0) := by
  unfold Dc Ba
  repeat' with_reducible (first | refine Le.orR' ?_ ?_ | refine Le.bind' ?_ ?_ | refine Le.ite' ?_ ?_ | refine Le.loop' ?_ | refine Le.altS' ?_ ?_ | exact hfRec_parse_parser_policy | exact hfRec_parse_parser_policy _ | apply GQ | exact Le.rfl' _ | (refine Le.pi2 ?_; intro _) | intro _)
theorem Fp {fRec_parse_parser_policy fRec_parse_parser_policy' : ((List (Int × Int × List UInt8 × Int)) × Int) → Option ((Tr28 × ((List (Int × Int × List UInt8 × Int)) × Int)) ⊕ ((Int × Int) × ((List (Int × Int × List UInt8 × Int)) × Int)))} (hfRec_parse_parser_policy : ∀ a0, Le (fRec_parse_parser_policy a0) (fRec_parse_parser_policy' a0)) (p0 : (List (Int × Int × List UInt8 × Int)) × Int) : Le (Ba fRec_parse_parser_policy p0) (Ba fRec_parse_parser_policy' p0) := by
  unfold Ba
  repeat' with_reducible (first | refine Le.orR' ?_ ?_ | refine Le.bind' ?_ ?_ | refine Le.ite' ?_ ?_ | refine Le.loopM ?_ | refine Le.altS' ?_ ?_ | exact hfRec_parse_parser_policy | exact hfRec_parse_parser_policy _ | apply Hh | exact Le.rfl' _ | (refine Le.pi2 ?_; intro _) | intro _)
def Dx (nE : Nat) (fRec_parse_parser_policy : ((List (Int × Int × List UInt8 × Int)) × Int) → Option ((Tr28 × ((List (Int × Int × List UInt8 × Int)) × Int)) ⊕ ((Int × Int) × ((List (Int × Int × List UInt8 × Int)) × Int)))) (p1 : List UInt8) : (List Tr28 × (List (Int × Int × List UInt8 × Int)) × Int) → Option ((List Tr28 × (List (Int × Int × List UInt8 × Int)) × Int) ⊕ ((List Tr28 × (List (Int × Int × List UInt8 × Int)) × Int) ⊕ ((Tr28 × ((List (Int × Int × List UInt8 × Int)) × Int)) ⊕ ((Int × Int) × ((List (Int × Int × List UInt8 × Int)) × Int)))))
  | (x7, x8, x9) => (A4 nE (x8, x9) p1).bind fun x10 => (if x10.1 = true then ((Dc nE fRec_parse_parser_policy) x10.2).bind fun x11 => B4 x11 (fun x12 => (DQ x7 ([Tr28.of (x12.1.un.1, Tr25.of (x12.1.un.2.1.un.1, x12.1.un.2.1.un.2.1, x12.1.un.2.1.un.2.2.1, x12.1.un.2.1.un.2.2.2), x12.1.un.2.2.1, x12.1.un.2.2.2.1, x12.1.un.2.2.2.2)] : List Tr28)).bind fun x14 => some (.inl (x14, x12.2.1, x12.2.2))) (fun x13 => some (.inr (.inr (.inr (x13.1, x13.2))))) else some (.inr (.inl (x7, x10.2.1, x10.2.2))))
theorem GI (nE : Nat) {fRec_parse_parser_policy fRec_parse_parser_policy' : ((List (Int × Int × List UInt8 × Int)) × Int) → Option ((Tr28 × ((List (Int × Int × List UInt8 × Int)) × Int)) ⊕ ((Int × Int) × ((List (Int × Int × List UInt8 × Int)) × Int)))} (hfRec_parse_parser_policy : ∀ a0, Le (fRec_parse_parser_policy a0) (fRec_parse_parser_policy' a0)) (p1 : List UInt8) : ∀ s, Le (Dx nE fRec_parse_parser_policy p1 s) (A5 fRec_parse_parser_policy' p1 s) := by
  rintro ⟨x7, x8, x9⟩
  unfold Dx A5
  repeat' with_reducible (first | refine Le.orR' ?_ ?_ | refine Le.bind' ?_ ?_ | refine Le.ite' ?_ ?_ | refine Le.loop' ?_ | refine Le.altS' ?_ ?_ | exact hfRec_parse_parser_policy | exact hfRec_parse_parser_policy _ | apply B6 | apply Fs | exact Le.rfl' _ | (refine Le.pi2 ?_; intro _) | intro _)
theorem GH {fRec_parse_parser_policy fRec_parse_parser_policy' : ((List (Int × Int × List UInt8 × Int)) × Int) → Option ((Tr28 × ((List (Int × Int × List UInt8 × Int)) × Int)) ⊕ ((Int × Int) × ((List (Int × Int × List UInt8 × Int)) × Int)))} (hfRec_parse_parser_policy : ∀ a0, Le (fRec_parse_parser_policy a0) (fRec_parse_parser_policy' a0)) (p1 : List UInt8) : ∀ s, Le (A5 fRec_parse_parser_policy p1 s) (A5 fRec_parse_parser_policy' p1 s) := by
  rintro ⟨x7, x8, x9⟩
  show Le (A5 fRec_parse_parser_policy p1 (x7, x8, x9)) (A5 fRec_parse_parser_policy' p1 (x7, x8, x9))
  unfold A5
  repeat' with_reducible (first | refine Le.orR' ?_ ?_ | refine Le.bind' ?_ ?_ | refine Le.ite' ?_ ?_ | refine Le.loopM ?_ | refine Le.altS' ?_ ?_ | exact hfRec_parse_parser_policy | exact hfRec_parse_parser_policy _ | apply Fp | exact Le.rfl' _ | (refine Le.pi2 ?_; intro _) | intro _)
def Ea (nE : Nat) (fRec_parse_parser_policy : ((List (Int × Int × List UInt8 × Int)) × Int) → Option ((Tr28 × ((List (Int × Int × List UInt8 × Int)) × Int)) ⊕ ((Int × Int) × ((List (Int × Int × List UInt8 × Int)) × Int)))) (p0 : (List (Int × Int × List UInt8 × Int)) × Int) (p1 : List UInt8) : Option ((Tr28 × ((List (Int × Int × List UInt8 × Int)) × Int)) ⊕ ((Int × Int) × ((List (Int × Int × List UInt8 × Int)) × Int))) := ((Dc nE fRec_parse_parser_policy) p0).bind fun x1 => B4 x1 (fun x2 => KC (Iz nE (Dx nE fRec_parse_parser_policy p1) (([Tr28.of (x2.1.un.1, Tr25.of (x2.1.un.2.1.un.1, x2.1.un.2.1.un.2.1, x2.1.un.2.1.un.2.2.1, x2.1.un.2.1.un.2.2.2), x2.1.un.2.2.1, x2.1.un.2.2.2.1, x2.1.un.2.2.2.2)] : List Tr28), x2.2.1, x2.2.2)) fun (x4, x5, x6) => (if (x4.length : Int) = 1 then (ix x4 0).bind fun x15 => some (.inl (Tr28.of (x15.un.1, Tr25.of (x15.un.2.1.un.1, x15.un.2.1.un.2.1, x15.un.2.1.un.2.2.1, x15.un.2.1.un.2.2.2), x15.un.2.2.1, x15.un.2.2.2.1, x15.un.2.2.2.2), (x5, x6))) else some (.inl (Tr28.of ((AZ x4).un.1, Tr25.of ((AZ x4).un.2.1.un.1, (AZ x4).un.2.1.un.2.1, (AZ x4).un.2.1.un.2.2.1, (AZ x4).un.2.1.un.2.2.2), (AZ x4).un.2.2.1, (AZ x4).un.2.2.2.1, (AZ x4).un.2.2.2.2), (x5, x6))))) (fun x3 => some (.inr (x3.1, x3.2)))
theorem HJ (nE : Nat) {fRec_parse_parser_policy fRec_parse_parser_policy' : ((List (Int × Int × List UInt8 × Int)) × Int) → Option ((Tr28 × ((List (Int × Int × List UInt8 × Int)) × Int)) ⊕ ((Int × Int) × ((List (Int × Int × List UInt8 × Int)) × Int)))} (hfRec_parse_parser_policy : ∀ a0, Le (fRec_parse_parser_policy a0) (fRec_parse_parser_policy' a0)) (p0 : (List (Int × Int × List UInt8 × Int)) × Int) (p1 : List UInt8) : Le (Ea nE fRec_parse_parser_policy p0 p1) (Bj fRec_parse_parser_policy' p0 p1) := by
  unfold Ea Bj
  repeat' with_reducible (first | refine Le.orR' ?_ ?_ | refine Le.bind' ?_ ?_ | refine Le.ite' ?_ ?_ | refine Le.loop' ?_ | refine Le.altS' ?_ ?_ | exact hfRec_parse_parser_policy | exact hfRec_parse_parser_policy _ | apply Fs | apply GI | exact Le.rfl' _ | (refine Le.pi2 ?_; intro _) | intro _)
theorem HD {fRec_parse_parser_policy fRec_parse_parser_policy' : ((List (Int × Int × List UInt8 × Int)) × Int) → Option ((Tr28 × ((List (Int × Int × List UInt8 × Int)) × Int)) ⊕ ((Int × Int) × ((List (Int × Int × List UInt8 × Int)) × Int)))} (hfRec_parse_parser_policy : ∀ a0, Le (fRec_parse_parser_policy a0) (fRec_parse_parser_policy' a0)) (p0 : (List (Int × Int × List UInt8 × Int)) × Int) (p1 : List UInt8) : Le (Bj fRec_parse_parser_policy p0 p1) (Bj fRec_parse_parser_policy' p0 p1) := by
  unfold Bj
  repeat' with_reducible (first | refine Le.orR' ?_ ?_ | refine Le.bind' ?_ ?_ | refine Le.ite' ?_ ?_ | refine Le.loopM ?_ | refine Le.altS' ?_ ?_ | exact hfRec_parse_parser_policy | exact hfRec_parse_parser_policy _ | apply Fp | apply GH | exact Le.rfl' _ | (refine Le.pi2 ?_; intro _) | intro _)
def DR (nE : Nat) (fRec : ((List (Int × Int × List UInt8 × Int)) × Int) → Option ((Tr28 × ((List (Int × Int × List UInt8 × Int)) × Int)) ⊕ ((Int × Int) × ((List (Int × Int × List UInt8 × Int)) × Int)))) (p0 : (List (Int × Int × List UInt8 × Int)) × Int) : Option ((Tr28 × ((List (Int × Int × List UInt8 × Int)) × Int)) ⊕ ((Int × Int) × ((List (Int × Int × List UInt8 × Int)) × Int))) := ((Ea nE fRec) p0 ([124] : List UInt8)).bind fun x1 => B4 x1 (fun x2 => some (.inl (Tr28.of (x2.1.un.1, Tr25.of (x2.1.un.2.1.un.1, x2.1.un.2.1.un.2.1, x2.1.un.2.1.un.2.2.1, x2.1.un.2.1.un.2.2.2), x2.1.un.2.2.1, x2.1.un.2.2.2.1, x2.1.un.2.2.2.2), x2.2))) (fun x3 => some (.inr (x3.1, x3.2)))
theorem Hq (nE : Nat) {fRec fRec' : ((List (Int × Int × List UInt8 × Int)) × Int) → Option ((Tr28 × ((List (Int × Int × List UInt8 × Int)) × Int)) ⊕ ((Int × Int) × ((List (Int × Int × List UInt8 × Int)) × Int)))} (hfRec : ∀ a0, Le (fRec a0) (fRec' a0)) (p0 : (List (Int × Int × List UInt8 × Int)) × Int) : Le (DR nE fRec p0) (BA fRec' p0) := by
  unfold DR BA
  repeat' with_reducible (first | refine Le.orR' ?_ ?_ | refine Le.bind' ?_ ?_ | refine Le.ite' ?_ ?_ | refine Le.loop' ?_ | refine Le.altS' ?_ ?_ | exact hfRec | exact hfRec _ | apply HJ | exact Le.rfl' _ | (refine Le.pi2 ?_; intro _) | intro _)
theorem Hm {fRec fRec' : ((List (Int × Int × List UInt8 × Int)) × Int) → Option ((Tr28 × ((List (Int × Int × List UInt8 × Int)) × Int)) ⊕ ((Int × Int) × ((List (Int × Int × List UInt8 × Int)) × Int)))} (hfRec : ∀ a0, Le (fRec a0) (fRec' a0)) (p0 : (List (Int × Int × List UInt8 × Int)) × Int) : Le (BA fRec p0) (BA fRec' p0) := by
  unfold BA
  repeat' with_reducible (first | refine Le.orR' ?_ ?_ | refine Le.bind' ?_ ?_ | refine Le.ite' ?_ ?_ | refine Le.loopM ?_ | refine Le.altS' ?_ ?_ | exact hfRec | exact hfRec _ | apply HD | exact Le.rfl' _ | (refine Le.pi2 ?_; intro _) | intro _)
def D4 (nE : Nat) : Nat → ((List (Int × Int × List UInt8 × Int)) × Int) → Option ((Tr28 × ((List (Int × Int × List UInt8 × Int)) × Int)) ⊕ ((Int × Int) × ((List (Int × Int × List UInt8 × Int)) × Int)))
  | 0 => fun _ => none
  | n + 1 => DR nE (D4 nE n)
theorem Fk (nE : Nat) : ∀ (m : Nat) a0, Le (D4 nE m a0) (AJ m a0)
  | 0, a0 => fun _ h => nomatch h
  | m + 1, a0 => Hq nE (Fk nE m) a0
theorem DY : ∀ (m : Nat) a0, Le (AJ m a0) (AJ (m + 1) a0)
  | 0, a0 => fun _ h => nomatch h
  | m + 1, a0 => Hm (DY m) a0
def F2 (nE : Nat) (p0 : (List (Int × Int × List UInt8 × Int)) × Int) : Option ((Tr28 × ((List (Int × Int × List UInt8 × Int)) × Int)) ⊕ ((Int × Int) × ((List (Int × Int × List UInt8 × Int)) × Int))) := D4 nE nE p0
theorem Is (nE : Nat) (p0 : (List (Int × Int × List UInt8 × Int)) × Int) : Le (F2 nE p0) (Di p0) := fun r e => B9 (g := fun n => AJ n p0) (fun n r h => DY n p0 r h) (n := nE) (Fk nE nE p0 r e)
def Fy (nE : Nat) (p0 : (List (Int × Int × List UInt8 × Int)) × Int) : Option (Unit ⊕ (Int × Int)) := (Cl nE p0).bind fun x1 => (if x1.1 ≠ 4 then (CR nE p0).bind fun x2 => some (.inr x2) else some (.inl ()))
theorem Jq (nE : Nat) (p0 : (List (Int × Int × List UInt8 × Int)) × Int) : Le (Fy nE p0) (Cb p0) := by
  unfold Fy Cb
  repeat' with_reducible (first | refine Le.orR' ?_ ?_ | refine Le.bind' ?_ ?_ | refine Le.ite' ?_ ?_ | refine Le.loop' ?_ | refine Le.altS' ?_ ?_ | apply CW | apply DO | exact Le.rfl' _ | (refine Le.pi2 ?_; intro _) | intro _)
def HE (nE : Nat) (p0 : List UInt8) : Option (Tr28 × Int × Int) := (Ie nE p0).bind fun x1 => B4 x1 (fun x2 => (F2 nE x2).bind fun x4 => B4 x4 (fun x5 => (Fy nE x5.2).bind fun x7 => B4 x7 (fun x8 => some (Tr28.of ((Tr28.of (x5.1.un.1, Tr25.of (x5.1.un.2.1.un.1, x5.1.un.2.1.un.2.1, x5.1.un.2.1.un.2.2.1, x5.1.un.2.1.un.2.2.2), x5.1.un.2.2.1, x5.1.un.2.2.2.1, x5.1.un.2.2.2.2)).un.1, Tr25.of ((Tr28.of (x5.1.un.1, Tr25.of (x5.1.un.2.1.un.1, x5.1.un.2.1.un.2.1, x5.1.un.2.1.un.2.2.1, x5.1.un.2.1.un.2.2.2), x5.1.un.2.2.1, x5.1.un.2.2.2.1, x5.1.un.2.2.2.2)).un.2.1.un.1, (Tr28.of (x5.1.un.1, Tr25.of (x5.1.un.2.1.un.1, x5.1.un.2.1.un.2.1, x5.1.un.2.1.un.2.2.1, x5.1.un.2.1.un.2.2.2), x5.1.un.2.2.1, x5.1.un.2.2.2.1, x5.1.un.2.2.2.2)).un.2.1.un.2.1, (Tr28.of (x5.1.un.1, Tr25.of (x5.1.un.2.1.un.1, x5.1.un.2.1.un.2.1, x5.1.un.2.1.un.2.2.1, x5.1.un.2.1.un.2.2.2), x5.1.un.2.2.1, x5.1.un.2.2.2.1, x5.1.un.2.2.2.2)).un.2.1.un.2.2.1, (Tr28.of (x5.1.un.1, Tr25.of (x5.1.un.2.1.un.1, x5.1.un.2.1.un.2.1, x5.1.un.2.1.un.2.2.1, x5.1.un.2.1.un.2.2.2), x5.1.un.2.2.1, x5.1.un.2.2.2.1, x5.1.un.2.2.2.2)).un.2.1.un.2.2.2), (Tr28.of (x5.1.un.1, Tr25.of (x5.1.un.2.1.un.1, x5.1.un.2.1.un.2.1, x5.1.un.2.1.un.2.2.1, x5.1.un.2.1.un.2.2.2), x5.1.un.2.2.1, x5.1.un.2.2.2.1, x5.1.un.2.2.2.2)).un.2.2.1, (Tr28.of (x5.1.un.1, Tr25.of (x5.1.un.2.1.un.1, x5.1.un.2.1.un.2.1, x5.1.un.2.1.un.2.2.1, x5.1.un.2.1.un.2.2.2), x5.1.un.2.2.1, x5.1.un.2.2.2.1, x5.1.un.2.2.2.2)).un.2.2.2.1, (Tr28.of (x5.1.un.1, Tr25.of (x5.1.un.2.1.un.1, x5.1.un.2.1.un.2.1, x5.1.un.2.1.un.2.2.1, x5.1.un.2.1.un.2.2.2), x5.1.un.2.2.1, x5.1.un.2.2.2.1, x5.1.un.2.2.2.2)).un.2.2.2.2), 0, 0)) (fun x9 => some (Tr28.of ((Af (Tr28.of (x5.1.un.1, Tr25.of (x5.1.un.2.1.un.1, x5.1.un.2.1.un.2.1, x5.1.un.2.1.un.2.2.1, x5.1.un.2.1.un.2.2.2), x5.1.un.2.2.1, x5.1.un.2.2.2.1, x5.1.un.2.2.2.2)) 0 0 x9).1.un.1, Tr25.of ((Af (Tr28.of (x5.1.un.1, Tr25.of (x5.1.un.2.1.un.1, x5.1.un.2.1.un.2.1, x5.1.un.2.1.un.2.2.1, x5.1.un.2.1.un.2.2.2), x5.1.un.2.2.1, x5.1.un.2.2.2.1, x5.1.un.2.2.2.2)) 0 0 x9).1.un.2.1.un.1, (Af (Tr28.of (x5.1.un.1, Tr25.of (x5.1.un.2.1.un.1, x5.1.un.2.1.un.2.1, x5.1.un.2.1.un.2.2.1, x5.1.un.2.1.un.2.2.2), x5.1.un.2.2.1, x5.1.un.2.2.2.1, x5.1.un.2.2.2.2)) 0 0 x9).1.un.2.1.un.2.1, (Af (Tr28.of (x5.1.un.1, Tr25.of (x5.1.un.2.1.un.1, x5.1.un.2.1.un.2.1, x5.1.un.2.1.un.2.2.1, x5.1.un.2.1.un.2.2.2), x5.1.un.2.2.1, x5.1.un.2.2.2.1, x5.1.un.2.2.2.2)) 0 0 x9).1.un.2.1.un.2.2.1, (Af (Tr28.of (x5.1.un.1, Tr25.of (x5.1.un.2.1.un.1, x5.1.un.2.1.un.2.1, x5.1.un.2.1.un.2.2.1, x5.1.un.2.1.un.2.2.2), x5.1.un.2.2.1, x5.1.un.2.2.2.1, x5.1.un.2.2.2.2)) 0 0 x9).1.un.2.1.un.2.2.2), (Af (Tr28.of (x5.1.un.1, Tr25.of (x5.1.un.2.1.un.1, x5.1.un.2.1.un.2.1, x5.1.un.2.1.un.2.2.1, x5.1.un.2.1.un.2.2.2), x5.1.un.2.2.1, x5.1.un.2.2.2.1, x5.1.un.2.2.2.2)) 0 0 x9).1.un.2.2.1, (Af (Tr28.of (x5.1.un.1, Tr25.of (x5.1.un.2.1.un.1, x5.1.un.2.1.un.2.1, x5.1.un.2.1.un.2.2.1, x5.1.un.2.1.un.2.2.2), x5.1.un.2.2.1, x5.1.un.2.2.2.1, x5.1.un.2.2.2.2)) 0 0 x9).1.un.2.2.2.1, (Af (Tr28.of (x5.1.un.1, Tr25.of (x5.1.un.2.1.un.1, x5.1.un.2.1.un.2.1, x5.1.un.2.1.un.2.2.1, x5.1.un.2.1.un.2.2.2), x5.1.un.2.2.1, x5.1.un.2.2.2.1, x5.1.un.2.2.2.2)) 0 0 x9).1.un.2.2.2.2), (Af (Tr28.of (x5.1.un.1, Tr25.of (x5.1.un.2.1.un.1, x5.1.un.2.1.un.2.1, x5.1.un.2.1.un.2.2.1, x5.1.un.2.1.un.2.2.2), x5.1.un.2.2.1, x5.1.un.2.2.2.1, x5.1.un.2.2.2.2)) 0 0 x9).2.1, (Af (Tr28.of (x5.1.un.1, Tr25.of (x5.1.un.2.1.un.1, x5.1.un.2.1.un.2.1, x5.1.un.2.1.un.2.2.1, x5.1.un.2.1.un.2.2.2), x5.1.un.2.2.1, x5.1.un.2.2.2.1, x5.1.un.2.2.2.2)) 0 0 x9).2.2))) (fun x6 => some (Tr28.of ((Af (Tr28.of (0, Tr25.of (0, 0, 0, ([] : List Tr25)), 0, 0, ([] : List Tr28))) 0 0 x6.1).1.un.1, Tr25.of ((Af (Tr28.of (0, Tr25.of (0, 0, 0, ([] : List Tr25)), 0, 0, ([] : List Tr28))) 0 0 x6.1).1.un.2.1.un.1, (Af (Tr28.of (0, Tr25.of (0, 0, 0, ([] : List Tr25)), 0, 0, ([] : List Tr28))) 0 0 x6.1).1.un.2.1.un.2.1, (Af (Tr28.of (0, Tr25.of (0, 0, 0, ([] : List Tr25)), 0, 0, ([] : List Tr28))) 0 0 x6.1).1.un.2.1.un.2.2.1, (Af (Tr28.of (0, Tr25.of (0, 0, 0, ([] : List Tr25)), 0, 0, ([] : List Tr28))) 0 0 x6.1).1.un.2.1.un.2.2.2), (Af (Tr28.of (0, Tr25.of (0, 0, 0, ([] : List Tr25)), 0, 0, ([] : List Tr28))) 0 0 x6.1).1.un.2.2.1, (Af (Tr28.of (0, Tr25.of (0, 0, 0, ([] : List Tr25)), 0, 0, ([] : List Tr28))) 0 0 x6.1).1.un.2.2.2.1, (Af (Tr28.of (0, Tr25.of (0, 0, 0, ([] : List Tr25)), 0, 0, ([] : List Tr28))) 0 0 x6.1).1.un.2.2.2.2), (Af (Tr28.of (0, Tr25.of (0, 0, 0, ([] : List Tr25)), 0, 0, ([] : List Tr28))) 0 0 x6.1).2.1, (Af (Tr28.of (0, Tr25.of (0, 0, 0, ([] : List Tr25)), 0, 0, ([] : List Tr28))) 0 0 x6.1).2.2))) (fun x3 => some (Tr28.of ((Af (Tr28.of (0, Tr25.of (0, 0, 0, ([] : List Tr25)), 0, 0, ([] : List Tr28))) 0 0 x3).1.un.1, Tr25.of ((Af (Tr28.of (0, Tr25.of (0, 0, 0, ([] : List Tr25)), 0, 0, ([] : List Tr28))) 0 0 x3).1.un.2.1.un.1, (Af (Tr28.of (0, Tr25.of (0, 0, 0, ([] : List Tr25)), 0, 0, ([] : List Tr28))) 0 0 x3).1.un.2.1.un.2.1, (Af (Tr28.of (0, Tr25.of (0, 0, 0, ([] : List Tr25)), 0, 0, ([] : List Tr28))) 0 0 x3).1.un.2.1.un.2.2.1, (Af (Tr28.of (0, Tr25.of (0, 0, 0, ([] : List Tr25)), 0, 0, ([] : List Tr28))) 0 0 x3).1.un.2.1.un.2.2.2), (Af (Tr28.of (0, Tr25.of (0, 0, 0, ([] : List Tr25)), 0, 0, ([] : List Tr28))) 0 0 x3).1.un.2.2.1, (Af (Tr28.of (0, Tr25.of (0, 0, 0, ([] : List Tr25)), 0, 0, ([] : List Tr28))) 0 0 x3).1.un.2.2.2.1, (Af (Tr28.of (0, Tr25.of (0, 0, 0, ([] : List Tr25)), 0, 0, ([] : List Tr28))) 0 0 x3).1.un.2.2.2.2), (Af (Tr28.of (0, Tr25.of (0, 0, 0, ([] : List Tr25)), 0, 0, ([] : List Tr28))) 0 0 x3).2.1, (Af (Tr28.of (0, Tr25.of (0, 0, 0, ([] : List Tr25)), 0, 0, ([] : List Tr28))) 0 0 x3).2.2))
theorem ME (nE : Nat) (p0 : List UInt8) : Le (HE nE p0) (DM p0) := by
  unfold HE DM
  repeat' with_reducible (first | refine Le.orR' ?_ ?_ | refine Le.bind' ?_ ?_ | refine Le.ite' ?_ ?_ | refine Le.loop' ?_ | refine Le.altS' ?_ ?_ | apply MS | apply Is | apply Jq | exact Le.rfl' _ | (refine Le.pi2 ?_; intro _) | intro _)
def GP (nE : Nat) (fRec_pred_Text : Tr25 → Option (List UInt8)) (p0 : List Tr25) : (List (List UInt8) × Int) → Option ((List (List UInt8) × Int) ⊕ (List (List UInt8)))
  | (x2, x3) => (if x3 < (p0.length : Int) then (ix p0 x3).bind fun x4 => (fRec_pred_Text x4).bind fun x5 => (if (decide (x4.un.1 = 5) || decide (x4.un.1 = 6)) = true then (DQ ([40] : List UInt8) x5).bind fun x7 => (DQ x7 ([41] : List UInt8)).bind fun x8 => some x8 else some x5).bind fun x6 => (DQ x2 ([x6] : List (List UInt8))).bind fun x9 => some (.inl (x9, DP (x3 + 1))) else some (.inr x2))
theorem Lg (nE : Nat) {fRec_pred_Text fRec_pred_Text' : Tr25 → Option (List UInt8)} (hfRec_pred_Text : ∀ a0, Le (fRec_pred_Text a0) (fRec_pred_Text' a0)) (p0 : List Tr25) : ∀ s, Le (GP nE fRec_pred_Text p0 s) (CG fRec_pred_Text' p0 s) := by
  rintro ⟨x2, x3⟩
  unfold GP CG
  repeat' with_reducible (first | refine Le.orR' ?_ ?_ | refine Le.bind' ?_ ?_ | refine Le.ite' ?_ ?_ | refine Le.loop' ?_ | refine Le.altS' ?_ ?_ | exact hfRec_pred_Text | exact hfRec_pred_Text _ | exact Le.rfl' _ | (refine Le.pi2 ?_; intro _) | intro _)
theorem Lw {fRec_pred_Text fRec_pred_Text' : Tr25 → Option (List UInt8)} (hfRec_pred_Text : ∀ a0, Le (fRec_pred_Text a0) (fRec_pred_Text' a0)) (p0 : List Tr25) : ∀ s, Le (CG fRec_pred_Text p0 s) (CG fRec_pred_Text' p0 s) := by
  rintro ⟨x2, x3⟩
  show Le (CG fRec_pred_Text p0 (x2, x3)) (CG fRec_pred_Text' p0 (x2, x3))
  unfold CG
  repeat' with_reducible (first | refine Le.orR' ?_ ?_ | refine Le.bind' ?_ ?_ | refine Le.ite' ?_ ?_ | refine Le.loopM ?_ | refine Le.altS' ?_ ?_ | exact hfRec_pred_Text | exact hfRec_pred_Text _ | exact Le.rfl' _ | (refine Le.pi2 ?_; intro _) | intro _)
def Gq (nE : Nat) (fRec_pred_Text : Tr25 → Option (List UInt8)) (p0 : List Tr25) (p1 : List UInt8) : Option (List UInt8) := (Iz nE (GP nE fRec_pred_Text p0) ([], 0)).bind fun x1 => (HM x1 p1).bind fun x10 => some x10
theorem Oy (nE : Nat) {fRec_pred_Text fRec_pred_Text' : Tr25 → Option (List UInt8)} (hfRec_pred_Text : ∀ a0, Le (fRec_pred_Text a0) (fRec_pred_Text' a0)) (p0 : List Tr25) (p1 : List UInt8) : Le (Gq nE fRec_pred_Text p0 p1) (DI fRec_pred_Text' p0 p1) := by
  unfold Gq DI
  repeat' with_reducible (first | refine Le.orR' ?_ ?_ | refine Le.bind' ?_ ?_ | refine Le.ite' ?_ ?_ | refine Le.loop' ?_ | refine Le.altS' ?_ ?_ | exact hfRec_pred_Text | exact hfRec_pred_Text _ | apply Lg | exact Le.rfl' _ | (refine Le.pi2 ?_; intro _) | intro _)
theorem Of {fRec_pred_Text fRec_pred_Text' : Tr25 → Option (List UInt8)} (hfRec_pred_Text : ∀ a0, Le (fRec_pred_Text a0) (fRec_pred_Text' a0)) (p0 : List Tr25) (p1 : List UInt8) : Le (DI fRec_pred_Text p0 p1) (DI fRec_pred_Text' p0 p1) := by
  unfold DI
  repeat' with_reducible (first | refine Le.orR' ?_ ?_ | refine Le.bind' ?_ ?_ | refine Le.ite' ?_ ?_ | refine Le.loopM ?_ | refine Le.altS' ?_ ?_ | exact hfRec_pred_Text | exact hfRec_pred_Text _ | apply Lw | exact Le.rfl' _ | (refine Le.pi2 ?_; intro _) | intro _)
def GZ (nE : Nat) (fRec : Tr25 → Option (List UInt8)) (p0 : Tr25) : Option (List UInt8) := (if p0.un.1 = 1 then some ([116, 114, 117, 101] : List UInt8) else (if p0.un.1 = 2 then some ([102, 97, 108, 115, 101] : List UInt8) else (if p0.un.1 = 3 then (DQ (AQ p0.un.2.1) ([32, 61, 32] : List UInt8)).bind fun x1 => (Mo p0.un.2.2.1).bind fun x2 => (DQ x1 x2).bind fun x3 => some x3 else (if p0.un.1 = 4 then ((Gq nE fRec) p0.un.2.2.2 ([] : List UInt8)).bind fun x4 => (DQ ([110, 111, 116, 32] : List UInt8) x4).bind fun x5 => some x5 else (if p0.un.1 = 5 then ((Gq nE fRec) p0.un.2.2.2 ([32, 97, 110, 100, 32] : List UInt8)).bind fun x6 => some x6 else (if p0.un.1 = 6 then ((Gq nE fRec) p0.un.2.2.2 ([32, 111, 114, 32] : List UInt8)).bind fun x7 => some x7 else some ([63] : List UInt8)))))))
theorem Lz (nE : Nat) {fRec fRec' : Tr25 → Option (List UInt8)} (hfRec : ∀ a0, Le (fRec a0) (fRec' a0)) (p0 : Tr25) : Le (GZ nE fRec p0) (CZ fRec' p0) := by
  unfold GZ CZ
  repeat' with_reducible (first | refine Le.orR' ?_ ?_ | refine Le.bind' ?_ ?_ | refine Le.ite' ?_ ?_ | refine Le.loop' ?_ | refine Le.altS' ?_ ?_ | exact hfRec | exact hfRec _ | apply Oy | exact Le.rfl' _ | (refine Le.pi2 ?_; intro _) | intro _)
theorem Lu {fRec fRec' : Tr25 → Option (List UInt8)} (hfRec : ∀ a0, Le (fRec a0) (fRec' a0)) (p0 : Tr25) : Le (CZ fRec p0) (CZ fRec' p0) := by
  unfold CZ
  repeat' with_reducible (first | refine Le.orR' ?_ ?_ | refine Le.bind' ?_ ?_ | refine Le.ite' ?_ ?_ | refine Le.loopM ?_ | refine Le.altS' ?_ ?_ | exact hfRec | exact hfRec _ | apply Of | exact Le.rfl' _ | (refine Le.pi2 ?_; intro _) | intro _)
def HB (nE : Nat) : Nat → Tr25 → Option (List UInt8)
  | 0 => fun _ => none
  | n + 1 => GZ nE (HB nE n)
theorem IK (nE : Nat) : ∀ (m : Nat) a0, Le (HB nE m a0) (CV m a0)
  | 0, a0 => fun _ h => nomatch h
  | m + 1, a0 => Lz nE (IK nE m) a0
theorem G8 : ∀ (m : Nat) a0, Le (CV m a0) (CV (m + 1) a0)
  | 0, a0 => fun _ h => nomatch h
  | m + 1, a0 => Lu (G8 m) a0
def IF (nE : Nat) (p0 : Tr25) : Option (List UInt8) := HB nE nE p0
theorem Ka (nE : Nat) (p0 : Tr25) : Le (IF nE p0) (Ga p0) := fun r e => B9 (g := fun n => CV n p0) (fun n r h => G8 n p0 r h) (n := nE) (IK nE nE p0 r e)
def Fg (nE : Nat) (p0 : Tr25) : Option (List UInt8) := (if p0.un.1 = 1 then some ([105, 100] : List UInt8) else (if p0.un.1 = 2 then some ([100, 114, 111, 112] : List UInt8) else (IF nE p0).bind fun x1 => (DQ ([119, 104, 101, 110, 32] : List UInt8) x1).bind fun x2 => some x2))
theorem I5 (nE : Nat) (p0 : Tr25) : Le (Fg nE p0) (Dd p0) := by
  unfold Fg Dd
  repeat' with_reducible (first | refine Le.orR' ?_ ?_ | refine Le.bind' ?_ ?_ | refine Le.ite' ?_ ?_ | refine Le.loop' ?_ | refine Le.altS' ?_ ?_ | apply Ka | exact Le.rfl' _ | (refine Le.pi2 ?_; intro _) | intro _)
def Ez (nE : Nat) (fRec_policy_Text : Tr28 → Option (List UInt8)) (p0 : List Tr28) : (List (List UInt8) × Int) → Option ((List (List UInt8) × Int) ⊕ (List (List UInt8)))
  | (x2, x3) => (if x3 < (p0.length : Int) then (ix p0 x3).bind fun x4 => (fRec_policy_Text (Tr28.of (x4.un.1, Tr25.of (x4.un.2.1.un.1, x4.un.2.1.un.2.1, x4.un.2.1.un.2.2.1, x4.un.2.1.un.2.2.2), x4.un.2.2.1, x4.un.2.2.2.1, x4.un.2.2.2.2))).bind fun x5 => (if (decide (x4.un.1 = 3) || (decide (x4.un.1 = 4) || decide (x4.un.1 = 5))) = true then (DQ ([40] : List UInt8) x5).bind fun x7 => (DQ x7 ([41] : List UInt8)).bind fun x8 => some x8 else some x5).bind fun x6 => (DQ x2 ([x6] : List (List UInt8))).bind fun x9 => some (.inl (x9, DP (x3 + 1))) else some (.inr x2))
theorem H3 (nE : Nat) {fRec_policy_Text fRec_policy_Text' : Tr28 → Option (List UInt8)} (hfRec_policy_Text : ∀ a0, Le (fRec_policy_Text a0) (fRec_policy_Text' a0)) (p0 : List Tr28) : ∀ s, Le (Ez nE fRec_policy_Text p0 s) (Bu fRec_policy_Text' p0 s) := by
  rintro ⟨x2, x3⟩
  unfold Ez Bu
  repeat' with_reducible (first | refine Le.orR' ?_ ?_ | refine Le.bind' ?_ ?_ | refine Le.ite' ?_ ?_ | refine Le.loop' ?_ | refine Le.altS' ?_ ?_ | exact hfRec_policy_Text | exact hfRec_policy_Text _ | exact Le.rfl' _ | (refine Le.pi2 ?_; intro _) | intro _)
theorem HU {fRec_policy_Text fRec_policy_Text' : Tr28 → Option (List UInt8)} (hfRec_policy_Text : ∀ a0, Le (fRec_policy_Text a0) (fRec_policy_Text' a0)) (p0 : List Tr28) : ∀ s, Le (Bu fRec_policy_Text p0 s) (Bu fRec_policy_Text' p0 s) := by
  rintro ⟨x2, x3⟩
  show Le (Bu fRec_policy_Text p0 (x2, x3)) (Bu fRec_policy_Text' p0 (x2, x3))
  unfold Bu
  repeat' with_reducible (first | refine Le.orR' ?_ ?_ | refine Le.bind' ?_ ?_ | refine Le.ite' ?_ ?_ | refine Le.loopM ?_ | refine Le.altS' ?_ ?_ | exact hfRec_policy_Text | exact hfRec_policy_Text _ | exact Le.rfl' _ | (refine Le.pi2 ?_; intro _) | intro _)
def Dg (nE : Nat) (fRec_policy_Text : Tr28 → Option (List UInt8)) (p0 : List Tr28) : Option (List (List UInt8)) := (Iz nE (Ez nE fRec_policy_Text p0) ([], 0)).bind fun x1 => some x1
theorem IR (nE : Nat) {fRec_policy_Text fRec_policy_Text' : Tr28 → Option (List UInt8)} (hfRec_policy_Text : ∀ a0, Le (fRec_policy_Text a0) (fRec_policy_Text' a0)) (p0 : List Tr28) : Le (Dg nE fRec_policy_Text p0) (BJ fRec_policy_Text' p0) := by
  unfold Dg BJ
  repeat' with_reducible (first | refine Le.orR' ?_ ?_ | refine Le.bind' ?_ ?_ | refine Le.ite' ?_ ?_ | refine Le.loop' ?_ | refine Le.altS' ?_ ?_ | exact hfRec_policy_Text | exact hfRec_policy_Text _ | apply H3 | exact Le.rfl' _ | (refine Le.pi2 ?_; intro _) | intro _)
theorem IW {fRec_policy_Text fRec_policy_Text' : Tr28 → Option (List UInt8)} (hfRec_policy_Text : ∀ a0, Le (fRec_policy_Text a0) (fRec_policy_Text' a0)) (p0 : List Tr28) : Le (BJ fRec_policy_Text p0) (BJ fRec_policy_Text' p0) := by
  unfold BJ
  repeat' with_reducible (first | refine Le.orR' ?_ ?_ | refine Le.bind' ?_ ?_ | refine Le.ite' ?_ ?_ | refine Le.loopM ?_ | refine Le.altS' ?_ ?_ | exact hfRec_policy_Text | exact hfRec_policy_Text _ | apply HU | exact Le.rfl' _ | (refine Le.pi2 ?_; intro _) | intro _)
def F6 (nE : Nat) (fRec : Tr28 → Option (List UInt8)) (p0 : Tr28) : Option (List UInt8) := (if p0.un.1 = 1 then (Fg nE (Tr25.of (p0.un.2.1.un.1, p0.un.2.1.un.2.1, p0.un.2.1.un.2.2.1, p0.un.2.1.un.2.2.2))).bind fun x1 => some x1 else (if p0.un.1 = 2 then (DQ (BW p0.un.2.2.1) ([32, 58, 61, 32] : List UInt8)).bind fun x2 => (Mo p0.un.2.2.2.1).bind fun x3 => (DQ x2 x3).bind fun x4 => some x4 else (if p0.un.1 = 3 then ((Dg nE fRec) p0.un.2.2.2.2).bind fun x5 => (HM x5 ([59, 32] : List UInt8)).bind fun x6 => some x6 else (if p0.un.1 = 4 then ((Dg nE fRec) p0.un.2.2.2.2).bind fun x7 => (HM x7 ([32, 124, 32] : List UInt8)).bind fun x8 => some x8 else (if p0.un.1 = 5 then (IF nE (Tr25.of (p0.un.2.1.un.1, p0.un.2.1.un.2.1, p0.un.2.1.un.2.2.1, p0.un.2.1.un.2.2.2))).bind fun x9 => (DQ ([105, 102, 32] : List UInt8) x9).bind fun x10 => (DQ x10 ([32, 116, 104, 101, 110, 32] : List UInt8)).bind fun x11 => ((Dg nE fRec) p0.un.2.2.2.2).bind fun x12 => (HM x12 ([32, 101, 108, 115, 101, 32] : List UInt8)).bind fun x13 => (DQ x11 x13).bind fun x14 => some x14 else some ([63] : List UInt8))))))
theorem Km (nE : Nat) {fRec fRec' : Tr28 → Option (List UInt8)} (hfRec : ∀ a0, Le (fRec a0) (fRec' a0)) (p0 : Tr28) : Le (F6 nE fRec p0) (CF fRec' p0) := by
  unfold F6 CF
  repeat' with_reducible (first | refine Le.orR' ?_ ?_ | refine Le.bind' ?_ ?_ | refine Le.ite' ?_ ?_ | refine Le.loop' ?_ | refine Le.altS' ?_ ?_ | exact hfRec | exact hfRec _ | apply Ka | apply I5 | apply IR | exact Le.rfl' _ | (refine Le.pi2 ?_; intro _) | intro _)
theorem Kc {fRec fRec' : Tr28 → Option (List UInt8)} (hfRec : ∀ a0, Le (fRec a0) (fRec' a0)) (p0 : Tr28) : Le (CF fRec p0) (CF fRec' p0) := by
  unfold CF
  repeat' with_reducible (first | refine Le.orR' ?_ ?_ | refine Le.bind' ?_ ?_ | refine Le.ite' ?_ ?_ | refine Le.loopM ?_ | refine Le.altS' ?_ ?_ | exact hfRec | exact hfRec _ | apply IW | exact Le.rfl' _ | (refine Le.pi2 ?_; intro _) | intro _)
def Gy (nE : Nat) : Nat → Tr28 → Option (List UInt8)
  | 0 => fun _ => none
  | n + 1 => F6 nE (Gy nE n)
theorem HR (nE : Nat) : ∀ (m : Nat) a0, Le (Gy nE m a0) (Cn m a0)
  | 0, a0 => fun _ h => nomatch h
  | m + 1, a0 => Km nE (HR nE m) a0
theorem F9 : ∀ (m : Nat) a0, Le (Cn m a0) (Cn (m + 1) a0)
  | 0, a0 => fun _ h => nomatch h
  | m + 1, a0 => Kc (F9 m) a0
def JM (nE : Nat) (p0 : Tr28) : Option (List UInt8) := Gy nE nE p0
theorem MK (nE : Nat) (p0 : Tr28) : Le (JM nE p0) (FG p0) := fun r e => B9 (g := fun n => Cn n p0) (fun n r h => F9 n p0 r h) (n := nE) (HR nE nE p0 r e)
def Lc (nE : Nat)  : Option Bool := (HE nE ([100, 115, 116, 32, 58, 61, 32, 51, 59, 32, 112, 111, 114, 116, 32, 58, 61, 32, 49, 32, 124, 32, 100, 114, 111, 112] : List UInt8)).bind fun x1 => (if x1.2.2 = 0 then (if x1.2.1 = 0 then (JM nE (Tr28.of (x1.1.un.1, Tr25.of (x1.1.un.2.1.un.1, x1.1.un.2.1.un.2.1, x1.1.un.2.1.un.2.2.1, x1.1.un.2.1.un.2.2.2), x1.1.un.2.2.1, x1.1.un.2.2.2.1, x1.1.un.2.2.2.2))).bind fun x3 => (if x3 = ([40, 100, 115, 116, 32, 58, 61, 32, 51, 59, 32, 112, 111, 114, 116, 32, 58, 61, 32, 49, 41, 32, 124, 32, 100, 114, 111, 112] : List UInt8) then (if x1.1.un.1 = 4 then some (decide ((x1.1.un.2.2.2.2.length : Int) = 2)) else some false) else some false) else some false) else some false).bind fun x2 => some x2
theorem N7 (nE : Nat)  : Le (Lc nE ) (GL ) := by
  unfold Lc GL
  repeat' with_reducible (first | refine Le.orR' ?_ ?_ | refine Le.bind' ?_ ?_ | refine Le.ite' ?_ ?_ | refine Le.loop' ?_ | refine Le.altS' ?_ ?_ | apply ME | apply MK | exact Le.rfl' _ | (refine Le.pi2 ?_; intro _) | intro _)
theorem KP {fRec fRec' : Tr25 → Option Tr34} (hfRec : ∀ a0, Le (fRec a0) (fRec' a0)) (p0 : Tr25) : ∀ s, Le (CD fRec p0 s) (CD fRec' p0 s) := by
  rintro ⟨x2, x3⟩
  show Le (CD fRec p0 (x2, x3)) (CD fRec' p0 (x2, x3))
  unfold CD
  repeat' with_reducible (first | refine Le.orR' ?_ ?_ | refine Le.bind' ?_ ?_ | refine Le.ite' ?_ ?_ | refine Le.loopM ?_ | refine Le.altS' ?_ ?_ | exact hfRec | exact hfRec _ | exact Le.rfl' _ | (refine Le.pi2 ?_; intro _) | intro _)
theorem KL {fRec fRec' : Tr25 → Option Tr34} (hfRec : ∀ a0, Le (fRec a0) (fRec' a0)) (p0 : Tr25) : Le (Dn fRec p0) (Dn fRec' p0) := by
  unfold Dn
  repeat' with_reducible (first | refine Le.orR' ?_ ?_ | refine Le.bind' ?_ ?_ | refine Le.ite' ?_ ?_ | refine Le.loopM ?_ | refine Le.altS' ?_ ?_ | exact hfRec | exact hfRec _ | apply KP | exact Le.rfl' _ | (refine Le.pi2 ?_; intro _) | intro _)
theorem Iv : ∀ (m : Nat) a0, Le (CQ m a0) (CQ (m + 1) a0)
  | 0, a0 => fun _ h => nomatch h
  | m + 1, a0 => KL (Iv m) a0
theorem KQ {fRec fRec' : Tr28 → Option Tr37} (hfRec : ∀ a0, Le (fRec a0) (fRec' a0)) (p0 : Tr28) : ∀ s, Le (CI fRec p0 s) (CI fRec' p0 s) := by
  rintro ⟨x3, x4⟩
  show Le (CI fRec p0 (x3, x4)) (CI fRec' p0 (x3, x4))
  unfold CI
  repeat' with_reducible (first | refine Le.orR' ?_ ?_ | refine Le.bind' ?_ ?_ | refine Le.ite' ?_ ?_ | refine Le.loopM ?_ | refine Le.altS' ?_ ?_ | exact hfRec | exact hfRec _ | exact Le.rfl' _ | (refine Le.pi2 ?_; intro _) | intro _)
theorem KK {fRec fRec' : Tr28 → Option Tr37} (hfRec : ∀ a0, Le (fRec a0) (fRec' a0)) (p0 : Tr28) : Le (Do fRec p0) (Do fRec' p0) := by
  unfold Do
  repeat' with_reducible (first | refine Le.orR' ?_ ?_ | refine Le.bind' ?_ ?_ | refine Le.ite' ?_ ?_ | refine Le.loopM ?_ | refine Le.altS' ?_ ?_ | exact hfRec | exact hfRec _ | apply KQ | exact Le.rfl' _ | (refine Le.pi2 ?_; intro _) | intro _)
theorem Iy : ∀ (m : Nat) a0, Le (CY m a0) (CY (m + 1) a0)
  | 0, a0 => fun _ h => nomatch h
  | m + 1, a0 => KK (Iy m) a0
theorem MQ {fRec fRec' : Tr34 → Tr34 → Option Bool} (hfRec : ∀ a0 a1, Le (fRec a0 a1) (fRec' a0 a1)) (p0 : Tr34) (p1 : Tr34) : ∀ s, Le (Ej fRec p0 p1 s) (Ej fRec' p0 p1 s) := by
  intro x1
  unfold Ej
  repeat' with_reducible (first | refine Le.orR' ?_ ?_ | refine Le.bind' ?_ ?_ | refine Le.ite' ?_ ?_ | refine Le.loopM ?_ | refine Le.altS' ?_ ?_ | exact hfRec | exact hfRec _ _ | exact Le.rfl' _ | (refine Le.pi2 ?_; intro _) | intro _)
theorem LN {fRec fRec' : Tr34 → Tr34 → Option Bool} (hfRec : ∀ a0 a1, Le (fRec a0 a1) (fRec' a0 a1)) (p0 : Tr34) (p1 : Tr34) : Le (Ef fRec p0 p1) (Ef fRec' p0 p1) := by
  unfold Ef
  repeat' with_reducible (first | refine Le.orR' ?_ ?_ | refine Le.bind' ?_ ?_ | refine Le.ite' ?_ ?_ | refine Le.loopM ?_ | refine Le.altS' ?_ ?_ | exact hfRec | exact hfRec _ _ | apply MQ | exact Le.rfl' _ | (refine Le.pi2 ?_; intro _) | intro _)
theorem JJ : ∀ (m : Nat) a0 a1, Le (DX m a0 a1) (DX (m + 1) a0 a1)
  | 0, a0, a1 => fun _ h => nomatch h
  | m + 1, a0, a1 => LN (JJ m) a0 a1
theorem Mk {fRec fRec' : Tr37 → Tr37 → Option Bool} (hfRec : ∀ a0 a1, Le (fRec a0 a1) (fRec' a0 a1)) (p0 : Tr37) (p1 : Tr37) : ∀ s, Le (El fRec p0 p1 s) (El fRec' p0 p1 s) := by
  intro x3
  unfold El
  repeat' with_reducible (first | refine Le.orR' ?_ ?_ | refine Le.bind' ?_ ?_ | refine Le.ite' ?_ ?_ | refine Le.loopM ?_ | refine Le.altS' ?_ ?_ | exact hfRec | exact hfRec _ _ | exact Le.rfl' _ | (refine Le.pi2 ?_; intro _) | intro _)
theorem LO {fRec fRec' : Tr37 → Tr37 → Option Bool} (hfRec : ∀ a0 a1, Le (fRec a0 a1) (fRec' a0 a1)) (p0 : Tr37) (p1 : Tr37) : Le (Ei fRec p0 p1) (Ei fRec' p0 p1) := by
  unfold Ei
  repeat' with_reducible (first | refine Le.orR' ?_ ?_ | refine Le.bind' ?_ ?_ | refine Le.ite' ?_ ?_ | refine Le.loopM ?_ | refine Le.altS' ?_ ?_ | exact hfRec | exact hfRec _ _ | apply Mk | exact Le.rfl' _ | (refine Le.pi2 ?_; intro _) | intro _)
theorem Ju : ∀ (m : Nat) a0 a1, Le (DT m a0 a1) (DT (m + 1) a0 a1)
  | 0, a0, a1 => fun _ h => nomatch h
  | m + 1, a0, a1 => LO (Ju m) a0 a1
theorem S4 : GL = some true := N7 120 _ (by kernel_rfl)
end Go.Proofs.YtlgjpoapclifbaaDoor
