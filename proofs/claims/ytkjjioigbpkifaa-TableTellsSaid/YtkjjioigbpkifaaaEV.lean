/- Twins with fuel of Eg functions: what a twin answers, the function answers. Conditions: none. -/
import Derived.Test.YtkjjioigbpkifaaaLP
import Derived.Test.YtkjjioigbpkifaaaA10
namespace Go.Proofs.Ytkjjioigbpkifaa
open Go Go.RowKit
set_option linter.unusedVariables false
set_option linter.unusedSimpArgs false
set_option maxRecDepth 20000
set_option maxHeartbeats 1600000
abbrev Le {α : Type} (a b : Option α) : Prop := ∀ r, a = some r → b = some r
theorem Le.rfl' {α : Type} (a : Option α) : Le a a := fun _ h => h
theorem Le.bind' {α β : Type} {a b : Option α} {f g : α → Option β} (h : Le a b) (hf : ∀ x, Le (f x) (g x)) : Le (a.bind f) (b.bind g) := fun r e => by
  obtain ⟨x, h1, h2⟩ := Ao e
  rw [h x h1, Option.bind_some]; exact hf x r h2
theorem Le.ite' {α : Type} {c : Prop} [Decidable c] {a a' b b' : Option α} (h1 : Le a a') (h2 : Le b b') : Le (if c then a else b) (if c then a' else b') := fun r e => by
  by_cases h : c
  · rw [if_pos h] at e ⊢; exact h1 r e
  · rw [if_neg h] at e ⊢; exact h2 r e
theorem Le.orR' {α β : Type} {a b : Option (α ⊕ β)} {f g : α → Option β} (h : Le a b) (hf : ∀ x, Le (f x) (g x)) : Le (Fu a f) (Fu b g) :=
  Le.bind' h fun x => by
    cases x with
    | inl t => exact hf t
    | inr e => exact Le.rfl' _
def Ev {σ ε : Type} (n : Nat) (step : σ → Option (σ ⊕ ε)) (s : σ) : Option ε := EP step n s
theorem H4 {σ ε : Type} {S T : σ → Option (σ ⊕ ε)} (h : ∀ s, Le (S s) (T s)) : ∀ (n : Nat) (s : σ), Le (EP S n s) (EP T n s)
  | 0, s => Le.rfl' _
  | n + 1, s => fun r e => by
    unfold EP at e ⊢
    cases hs : S s with
    | none => rw [hs] at e; cases e
    | some q =>
      rw [hs] at e; rw [h s q hs]
      cases q with
      | inl s' => exact H4 h n s' r e
      | inr _ => exact e
theorem Le.loop' {σ ε : Type} {n : Nat} {S T : σ → Option (σ ⊕ ε)} {s : σ} (h : ∀ s, Le (S s) (T s)) : Le (Ev n S s) (Bi T s) := fun r e => FK.2 ⟨n, H4 h n s r e⟩
theorem Le.pi2 {α β γ : Type} {f g : α × β → Option γ} (h : ∀ a b, Le (f (a, b)) (g (a, b))) : ∀ x, Le (f x) (g x) := fun x => h x.1 x.2
theorem Le.altS' {α β γ : Type} {y : α ⊕ β} {f f' : α → Option γ} {g g' : β → Option γ} (h : ∀ x, Le (f x) (f' x)) (k : ∀ x, Le (g x) (g' x)) : Le (Nk y f g) (Nk y f' g') := by
  cases y with
  | inl x => exact h x
  | inr x => exact k x
def Fs (nE : Nat) (p0 : Int) : Option Int := (if p0 = 0 then some true else (if p0 = 1 then some true else some (decide (p0 = 3)))).bind fun x1 => (if x1 = true then some 8 else (if p0 = 2 then some 4 else some 0))
theorem HY (nE : Nat) (p0 : Int) : Le (Fs nE p0) (Dr p0) := by
  unfold Fs Dr
  repeat' with_reducible (first | refine Le.orR' ?_ ?_ | refine Le.bind' ?_ ?_ | refine Le.ite' ?_ ?_ | refine Le.loop' ?_ | refine Le.altS' ?_ ?_ | exact Le.rfl' _ | (refine Le.pi2 ?_; intro _) | intro _)
def CQ (nE : Nat) (p0 : Int) : Option Int := (Fs nE p0).bind fun x1 => (Nx (Mg .i64 1 x1) x1).bind fun x2 => some (CJ (x2 - 1))
theorem Eu (nE : Nat) (p0 : Int) : Le (CQ nE p0) (Cs p0) := by
  unfold CQ Cs
  repeat' with_reducible (first | refine Le.orR' ?_ ?_ | refine Le.bind' ?_ ?_ | refine Le.ite' ?_ ?_ | refine Le.loop' ?_ | refine Le.altS' ?_ ?_ | apply HY | exact Le.rfl' _ | (refine Le.pi2 ?_; intro _) | intro _)
def GJ (nE : Nat) (p0 : Int) (p1 : Int) : Option (Int × (Int × Int × Int × Int) × (Int × Int × Int × Int)) := (if p0 < 0 then some true else (if 4 ≤ p0 then some true else (if p1 < 0 then some true else (CQ nE p0).bind fun x2 => some (decide (x2 < p1))))).bind fun x1 => (if x1 = true then some Ac else (ix ([Ac.2.1.1, Ac.2.1.2.1, Ac.2.1.2.2.1, Ac.2.1.2.2.2] : List Int) p0).bind fun x3 => (CQ nE p0).bind fun x4 => (ix ([Ac.2.2.1, Ac.2.2.2.1, Ac.2.2.2.2.1, Ac.2.2.2.2.2] : List Int) p0).bind fun x5 => some (Ac.1, ((if p0 = 0 then p1 else Ac.2.1.1), (if p0 = 1 then p1 else Ac.2.1.2.1), (if p0 = 2 then p1 else Ac.2.1.2.2.1), (if p0 = 3 then p1 else Ac.2.1.2.2.2)), ((if p0 = 0 then x4 else Ac.2.2.1), (if p0 = 1 then x4 else Ac.2.2.2.1), (if p0 = 2 then x4 else Ac.2.2.2.2.1), (if p0 = 3 then x4 else Ac.2.2.2.2.2))))
theorem JI (nE : Nat) (p0 : Int) (p1 : Int) : Le (GJ nE p0 p1) (Ga p0 p1) := by
  unfold GJ Ga
  repeat' with_reducible (first | refine Le.orR' ?_ ?_ | refine Le.bind' ?_ ?_ | refine Le.ite' ?_ ?_ | refine Le.loop' ?_ | refine Le.altS' ?_ ?_ | apply Eu | exact Le.rfl' _ | (refine Le.pi2 ?_; intro _) | intro _)
def F4 (nE : Nat) (p0 : Int) (p1 : Int) (p2 : Int) (p3 : Int) : Option (Int × (Int × (Int × Int × Int × Int) × (Int × Int × Int × Int)) × (List (Int × Int × Int))) := (GJ nE p0 p1).bind fun x1 => some (p2, x1, ([(2, 0, p3)] : List (Int × Int × Int)))
theorem Iy (nE : Nat) (p0 : Int) (p1 : Int) (p2 : Int) (p3 : Int) : Le (F4 nE p0 p1 p2 p3) (E3 p0 p1 p2 p3) := by
  unfold F4 E3
  repeat' with_reducible (first | refine Le.orR' ?_ ?_ | refine Le.bind' ?_ ?_ | refine Le.ite' ?_ ?_ | refine Le.loop' ?_ | refine Le.altS' ?_ ?_ | apply JI | exact Le.rfl' _ | (refine Le.pi2 ?_; intro _) | intro _)
def Cj (nE : Nat) (p0 : List (Int × Int × Int)) : Option (List (Int × Int × Int)) := (JK ([] : List (Int × Int × Int)) p0).bind fun x1 => some x1
theorem D9 (nE : Nat) (p0 : List (Int × Int × Int)) : Le (Cj nE p0) (BH p0) := by
  unfold Cj BH
  repeat' with_reducible (first | refine Le.orR' ?_ ?_ | refine Le.bind' ?_ ?_ | refine Le.ite' ?_ ?_ | refine Le.loop' ?_ | refine Le.altS' ?_ ?_ | exact Le.rfl' _ | (refine Le.pi2 ?_; intro _) | intro _)
def Ck (nE : Nat) (p0 : Int × (Int × (Int × Int × Int × Int) × (Int × Int × Int × Int)) × (List (Int × Int × Int))) : Option (Int × (Int × (Int × Int × Int × Int) × (Int × Int × Int × Int)) × (List (Int × Int × Int))) := (Cj nE p0.2.2).bind fun x1 => some (p0.1, p0.2.1, x1)
theorem CE (nE : Nat) (p0 : Int × (Int × (Int × Int × Int × Int) × (Int × Int × Int × Int)) × (List (Int × Int × Int))) : Le (Ck nE p0) (B7 p0) := by
  unfold Ck B7
  repeat' with_reducible (first | refine Le.orR' ?_ ?_ | refine Le.bind' ?_ ?_ | refine Le.ite' ?_ ?_ | refine Le.loop' ?_ | refine Le.altS' ?_ ?_ | apply D9 | exact Le.rfl' _ | (refine Le.pi2 ?_; intro _) | intro _)
def D3 (nE : Nat) (p0 : List (Int × (Int × (Int × Int × Int × Int) × (Int × Int × Int × Int)) × (List (Int × Int × Int)))) (x1 : List (Int × (Int × (Int × Int × Int × Int) × (Int × Int × Int × Int)) × (List (Int × Int × Int)))) : ((List (Int × (Int × (Int × Int × Int × Int) × (Int × Int × Int × Int)) × (List (Int × Int × Int)))) × Int) → Option (((List (Int × (Int × (Int × Int × Int × Int) × (Int × Int × Int × Int)) × (List (Int × Int × Int)))) × Int) ⊕ (List (Int × (Int × (Int × Int × Int × Int) × (Int × Int × Int × Int)) × (List (Int × Int × Int)))))
  | (x3, x4) => (if x4 < ((Hy x1 0 (min p0.length x1.length) p0).length : Int) then (ix x3 x4).bind fun x5 => (Ck nE x5).bind fun x6 => (ix x3 x4).bind fun x7 => some (.inl ((DI x3 x4 x6), CJ (x4 + 1))) else some (.inr x3))
theorem GN (nE : Nat) (p0 : List (Int × (Int × (Int × Int × Int × Int) × (Int × Int × Int × Int)) × (List (Int × Int × Int)))) (x1 : List (Int × (Int × (Int × Int × Int × Int) × (Int × Int × Int × Int)) × (List (Int × Int × Int)))) : ∀ s, Le (D3 nE p0 x1 s) (DJ p0 x1 s) := by
  rintro ⟨x3, x4⟩
  unfold D3 DJ
  repeat' with_reducible (first | refine Le.orR' ?_ ?_ | refine Le.bind' ?_ ?_ | refine Le.ite' ?_ ?_ | refine Le.loop' ?_ | refine Le.altS' ?_ ?_ | apply CE | exact Le.rfl' _ | (refine Le.pi2 ?_; intro _) | intro _)
def Du (nE : Nat) (p0 : List (Int × (Int × (Int × Int × Int × Int) × (Int × Int × Int × Int)) × (List (Int × Int × Int)))) : Option (List (Int × (Int × (Int × Int × Int × Int) × (Int × Int × Int × Int)) × (List (Int × Int × Int)))) := (mk (p0.length : Int) ((0, (0, (0, 0, 0, 0), (0, 0, 0, 0)), []) : Int × (Int × (Int × Int × Int × Int) × (Int × Int × Int × Int)) × (List (Int × Int × Int)))).bind fun x1 => (Ev nE (D3 nE p0 x1) (Hy x1 0 (min p0.length x1.length) p0, 0)).bind fun x2 => some x2
theorem EJ (nE : Nat) (p0 : List (Int × (Int × (Int × Int × Int × Int) × (Int × Int × Int × Int)) × (List (Int × Int × Int)))) : Le (Du nE p0) (CR p0) := by
  unfold Du CR
  repeat' with_reducible (first | refine Le.orR' ?_ ?_ | refine Le.bind' ?_ ?_ | refine Le.ite' ?_ ?_ | refine Le.loop' ?_ | refine Le.altS' ?_ ?_ | apply GN | exact Le.rfl' _ | (refine Le.pi2 ?_; intro _) | intro _)
def Eh (nE : Nat) (p0 : Int × (Int × Int × Int × Int) × (Int × Int × Int × Int)) : Int → Option (Int ⊕ (Unit ⊕ Bool))
  | x1 => (if x1 < 4 then (ix ([p0.2.2.1, p0.2.2.2.1, p0.2.2.2.2.1, p0.2.2.2.2.2] : List Int) x1).bind fun x2 => (if x2 < 0 then some true else (CQ nE x1).bind fun x4 => (if x4 < x2 then some true else (ix ([p0.2.1.1, p0.2.1.2.1, p0.2.1.2.2.1, p0.2.1.2.2.2] : List Int) x1).bind fun x5 => (if x5 < 0 then some true else (ix ([p0.2.1.1, p0.2.1.2.1, p0.2.1.2.2.1, p0.2.1.2.2.2] : List Int) x1).bind fun x6 => some (decide ((Fm .i64 x6 x2) ≠ 0))))).bind fun x3 => (if x3 = true then some (.inr (.inr false)) else some (.inl (CJ (x1 + 1)))) else some (.inr (.inl ())))
theorem He (nE : Nat) (p0 : Int × (Int × Int × Int × Int) × (Int × Int × Int × Int)) : ∀ s, Le (Eh nE p0 s) (CH p0 s) := by
  intro x1
  unfold Eh CH
  repeat' with_reducible (first | refine Le.orR' ?_ ?_ | refine Le.bind' ?_ ?_ | refine Le.ite' ?_ ?_ | refine Le.loop' ?_ | refine Le.altS' ?_ ?_ | apply Eu | exact Le.rfl' _ | (refine Le.pi2 ?_; intro _) | intro _)
def Fq (nE : Nat) (p0 : Int × (Int × Int × Int × Int) × (Int × Int × Int × Int)) : Option Bool := (if (decide (p0.1 ≠ (-1)) && (decide (p0.1 < 0) || decide (8 ≤ p0.1))) = true then some false else Fu (Ev nE (Eh nE p0) 0) fun _ => some true)
theorem HX (nE : Nat) (p0 : Int × (Int × Int × Int × Int) × (Int × Int × Int × Int)) : Le (Fq nE p0) (Dh p0) := by
  unfold Fq Dh
  repeat' with_reducible (first | refine Le.orR' ?_ ?_ | refine Le.bind' ?_ ?_ | refine Le.ite' ?_ ?_ | refine Le.loop' ?_ | refine Le.altS' ?_ ?_ | apply He | exact Le.rfl' _ | (refine Le.pi2 ?_; intro _) | intro _)
def Gm (nE : Nat) (p0 : Int × Int × Int) (p1 : Int) : Option Bool := (if p0.1 = 1 then (if 0 ≤ p0.2.1 then (if p0.2.1 < 4 then (if 0 ≤ p0.2.2 then (CQ nE p0.2.1).bind fun x2 => some (decide (p0.2.2 ≤ x2)) else some false) else some false) else some false).bind fun x1 => some x1 else (if p0.1 = 2 then some (decide (p0.2.1 = 0) && (decide (0 ≤ p0.2.2) && decide (p0.2.2 < p1))) else (if p0.1 = 3 then some (decide (p0.2.1 = 0) && decide (p0.2.2 = 0)) else some false)))
theorem I8 (nE : Nat) (p0 : Int × Int × Int) (p1 : Int) : Le (Gm nE p0 p1) (Eb p0 p1) := by
  unfold Gm Eb
  repeat' with_reducible (first | refine Le.orR' ?_ ?_ | refine Le.bind' ?_ ?_ | refine Le.ite' ?_ ?_ | refine Le.loop' ?_ | refine Le.altS' ?_ ?_ | apply Eu | exact Le.rfl' _ | (refine Le.pi2 ?_; intro _) | intro _)
def Fb (nE : Nat) (p0 : List (Int × Int × Int)) (p1 : Int) : Int → Option (Int ⊕ (Unit ⊕ Bool))
  | x1 => (if x1 < (p0.length : Int) then (ix p0 x1).bind fun x2 => (Gm nE x2 p1).bind fun x3 => (if (!x3) = true then some (.inr (.inr false)) else some (.inl (CJ (x1 + 1)))) else some (.inr (.inl ())))
theorem HF (nE : Nat) (p0 : List (Int × Int × Int)) (p1 : Int) : ∀ s, Le (Fb nE p0 p1 s) (DC p0 p1 s) := by
  intro x1
  unfold Fb DC
  repeat' with_reducible (first | refine Le.orR' ?_ ?_ | refine Le.bind' ?_ ?_ | refine Le.ite' ?_ ?_ | refine Le.loop' ?_ | refine Le.altS' ?_ ?_ | apply I8 | exact Le.rfl' _ | (refine Le.pi2 ?_; intro _) | intro _)
def Gk (nE : Nat) (p0 : List (Int × Int × Int)) (p1 : Int) : Option Bool := (if 16 < (p0.length : Int) then some false else Fu (Ev nE (Fb nE p0 p1) 0) fun _ => some true)
theorem I6 (nE : Nat) (p0 : List (Int × Int × Int)) (p1 : Int) : Le (Gk nE p0 p1) (Ed p0 p1) := by
  unfold Gk Ed
  repeat' with_reducible (first | refine Le.orR' ?_ ?_ | refine Le.bind' ?_ ?_ | refine Le.ite' ?_ ?_ | refine Le.loop' ?_ | refine Le.altS' ?_ ?_ | apply HF | exact Le.rfl' _ | (refine Le.pi2 ?_; intro _) | intro _)
def F1 (nE : Nat) (p0 : Int × (Int × (Int × Int × Int × Int) × (Int × Int × Int × Int)) × (List (Int × Int × Int))) (p1 : Int) : Option Bool := (if 0 ≤ p0.1 then (if p0.1 < 65536 then (Fq nE p0.2.1).bind fun x2 => (if x2 = true then (Gk nE p0.2.2 p1).bind fun x3 => some x3 else some false) else some false) else some false).bind fun x1 => some x1
theorem Ir (nE : Nat) (p0 : Int × (Int × (Int × Int × Int × Int) × (Int × Int × Int × Int)) × (List (Int × Int × Int))) (p1 : Int) : Le (F1 nE p0 p1) (Dm p0 p1) := by
  unfold F1 Dm
  repeat' with_reducible (first | refine Le.orR' ?_ ?_ | refine Le.bind' ?_ ?_ | refine Le.ite' ?_ ?_ | refine Le.loop' ?_ | refine Le.altS' ?_ ?_ | apply HX | apply I6 | exact Le.rfl' _ | (refine Le.pi2 ?_; intro _) | intro _)
def EM (nE : Nat) (p1 : Int × (Int × Int × Int × Int) × (Int × Int × Int × Int)) : (Int × Int × Int × Int × Int × Int × Int × Int × Int) → Option ((Int × Int × Int × Int × Int × Int × Int × Int × Int) ⊕ ((Int × Int × Int × Int × Int × Int × Int × Int) ⊕ ((Int × (Int × Int × Int × Int) × (Int × Int × Int × Int)) × Bool)))
  | (x10, x11, x12, x13, x14, x15, x16, x17, x18) => (if x10 < 4 then (ix ([x11, x12, x13, x14] : List Int) x10).bind fun x19 => (ix ([p1.2.1.1, p1.2.1.2.1, p1.2.1.2.2.1, p1.2.1.2.2.2] : List Int) x10).bind fun x20 => (ix ([x15, x16, x17, x18] : List Int) x10).bind fun x21 => (ix ([p1.2.2.1, p1.2.2.2.1, p1.2.2.2.2.1, p1.2.2.2.2.2] : List Int) x10).bind fun x22 => (if (H5 .i64 (H5 .i64 (IW .i64 x19 x20) x21) x22) ≠ 0 then some (.inr (.inr ((0, (0, 0, 0, 0), (0, 0, 0, 0)), false))) else (ix ([x11, x12, x13, x14] : List Int) x10).bind fun x23 => (ix ([p1.2.1.1, p1.2.1.2.1, p1.2.1.2.2.1, p1.2.1.2.2.2] : List Int) x10).bind fun x24 => (ix ([x11, x12, x13, x14] : List Int) x10).bind fun x25 => (ix ([x15, x16, x17, x18] : List Int) x10).bind fun x26 => (ix ([p1.2.2.1, p1.2.2.2.1, p1.2.2.2.2.1, p1.2.2.2.2.2] : List Int) x10).bind fun x27 => (ix ([x15, x16, x17, x18] : List Int) x10).bind fun x28 => some (.inl (CJ (x10 + 1), (if x10 = 0 then Fh .i64 x23 x24 else x11), (if x10 = 1 then Fh .i64 x23 x24 else x12), (if x10 = 2 then Fh .i64 x23 x24 else x13), (if x10 = 3 then Fh .i64 x23 x24 else x14), (if x10 = 0 then Fh .i64 x26 x27 else x15), (if x10 = 1 then Fh .i64 x26 x27 else x16), (if x10 = 2 then Fh .i64 x26 x27 else x17), (if x10 = 3 then Fh .i64 x26 x27 else x18)))) else some (.inr (.inl (x11, x12, x13, x14, x15, x16, x17, x18))))
theorem Hl (nE : Nat) (p1 : Int × (Int × Int × Int × Int) × (Int × Int × Int × Int)) : ∀ s, Le (EM nE p1 s) (Es p1 s) := by
  rintro ⟨x10, x11, x12, x13, x14, x15, x16, x17, x18⟩
  unfold EM Es
  repeat' with_reducible (first | refine Le.orR' ?_ ?_ | refine Le.bind' ?_ ?_ | refine Le.ite' ?_ ?_ | refine Le.loop' ?_ | refine Le.altS' ?_ ?_ | exact Le.rfl' _ | (refine Le.pi2 ?_; intro _) | intro _)
def EW (nE : Nat) (p0 : Int × (Int × Int × Int × Int) × (Int × Int × Int × Int)) (p1 : Int × (Int × Int × Int × Int) × (Int × Int × Int × Int)) : Option ((Int × (Int × Int × Int × Int) × (Int × Int × Int × Int)) × Bool) := (if p0.1 = (-1) then some p1.1 else some p0.1).bind fun x1 => (if (decide (p1.1 ≠ (-1)) && decide (x1 ≠ p1.1)) = true then some ((0, (0, 0, 0, 0), (0, 0, 0, 0)), false) else Fu (Ev nE (EM nE p1) (0, p0.2.1.1, p0.2.1.2.1, p0.2.1.2.2.1, p0.2.1.2.2.2, p0.2.2.1, p0.2.2.2.1, p0.2.2.2.2.1, p0.2.2.2.2.2)) fun (x2, x3, x4, x5, x6, x7, x8, x9) => some ((x1, (x2, x3, x4, x5), (x6, x7, x8, x9)), true))
theorem GG (nE : Nat) (p0 : Int × (Int × Int × Int × Int) × (Int × Int × Int × Int)) (p1 : Int × (Int × Int × Int × Int) × (Int × Int × Int × Int)) : Le (EW nE p0 p1) (Ee p0 p1) := by
  unfold EW Ee
  repeat' with_reducible (first | refine Le.orR' ?_ ?_ | refine Le.bind' ?_ ?_ | refine Le.ite' ?_ ?_ | refine Le.loop' ?_ | refine Le.altS' ?_ ?_ | apply Hl | exact Le.rfl' _ | (refine Le.pi2 ?_; intro _) | intro _)
def EL (nE : Nat) (p0 : Int × (Int × (Int × Int × Int × Int) × (Int × Int × Int × Int)) × (List (Int × Int × Int))) (p1 : Int × (Int × (Int × Int × Int × Int) × (Int × Int × Int × Int)) × (List (Int × Int × Int))) : Option Bool := (EW nE p0.2.1 p1.2.1).bind fun x1 => some (decide (p0.1 = p1.1) && (!(decide (p0.2.1.1 = p1.2.1.1 ∧ p0.2.1.2.1.1 = p1.2.1.2.1.1 ∧ p0.2.1.2.1.2.1 = p1.2.1.2.1.2.1 ∧ p0.2.1.2.1.2.2.1 = p1.2.1.2.1.2.2.1 ∧ p0.2.1.2.1.2.2.2 = p1.2.1.2.1.2.2.2 ∧ p0.2.1.2.2.1 = p1.2.1.2.2.1 ∧ p0.2.1.2.2.2.1 = p1.2.1.2.2.2.1 ∧ p0.2.1.2.2.2.2.1 = p1.2.1.2.2.2.2.1 ∧ p0.2.1.2.2.2.2.2 = p1.2.1.2.2.2.2.2)) && x1.2))
theorem Hh (nE : Nat) (p0 : Int × (Int × (Int × Int × Int × Int) × (Int × Int × Int × Int)) × (List (Int × Int × Int))) (p1 : Int × (Int × (Int × Int × Int × Int) × (Int × Int × Int × Int)) × (List (Int × Int × Int))) : Le (EL nE p0 p1) (DG p0 p1) := by
  unfold EL DG
  repeat' with_reducible (first | refine Le.orR' ?_ ?_ | refine Le.bind' ?_ ?_ | refine Le.ite' ?_ ?_ | refine Le.loop' ?_ | refine Le.altS' ?_ ?_ | apply GG | exact Le.rfl' _ | (refine Le.pi2 ?_; intro _) | intro _)
def Fp (nE : Nat) (p0 : Int × (Int × (Int × Int × Int × Int) × (Int × Int × Int × Int)) × (List (Int × Int × Int))) (p1 : Int × (Int × (Int × (Int × Int × Int × Int) × (Int × Int × Int × Int)) × (List (Int × Int × Int))) × Bool) : Option Bool := (EL nE p0 p1.2.1).bind fun x1 => some x1
theorem Ig (nE : Nat) (p0 : Int × (Int × (Int × Int × Int × Int) × (Int × Int × Int × Int)) × (List (Int × Int × Int))) (p1 : Int × (Int × (Int × (Int × Int × Int × Int) × (Int × Int × Int × Int)) × (List (Int × Int × Int))) × Bool) : Le (Fp nE p0 p1) (Ew p0 p1) := by
  unfold Fp Ew
  repeat' with_reducible (first | refine Le.orR' ?_ ?_ | refine Le.bind' ?_ ?_ | refine Le.ite' ?_ ?_ | refine Le.loop' ?_ | refine Le.altS' ?_ ?_ | apply Hh | exact Le.rfl' _ | (refine Le.pi2 ?_; intro _) | intro _)
def BP (nE : Nat) (p0 : List (Int × (Int × (Int × Int × Int × Int) × (Int × Int × Int × Int)) × (List (Int × Int × Int)))) (p1c0 : Int × (Int × (Int × (Int × Int × Int × Int) × (Int × Int × Int × Int)) × (List (Int × Int × Int))) × Bool) : Int → Option (Int ⊕ (Unit ⊕ Int))
  | x1 => (if x1 < (p0.length : Int) then (ix p0 x1).bind fun x2 => (Fp nE x2 p1c0).bind fun x3 => (if x3 = true then some (.inr (.inr x1)) else some (.inl (CJ (x1 + 1)))) else some (.inr (.inl ())))
theorem C7 (nE : Nat) (p0 : List (Int × (Int × (Int × Int × Int × Int) × (Int × Int × Int × Int)) × (List (Int × Int × Int)))) (p1c0 : Int × (Int × (Int × (Int × Int × Int × Int) × (Int × Int × Int × Int)) × (List (Int × Int × Int))) × Bool) : ∀ s, Le (BP nE p0 p1c0 s) (Br p0 p1c0 s) := by
  intro x1
  unfold BP Br
  repeat' with_reducible (first | refine Le.orR' ?_ ?_ | refine Le.bind' ?_ ?_ | refine Le.ite' ?_ ?_ | refine Le.loop' ?_ | refine Le.altS' ?_ ?_ | apply Ig | exact Le.rfl' _ | (refine Le.pi2 ?_; intro _) | intro _)
def BZ (nE : Nat) (p0 : List (Int × (Int × (Int × Int × Int × Int) × (Int × Int × Int × Int)) × (List (Int × Int × Int)))) (p1c0 : Int × (Int × (Int × (Int × Int × Int × Int) × (Int × Int × Int × Int)) × (List (Int × Int × Int))) × Bool) : Option Int := Fu (Ev nE (BP nE p0 p1c0) 0) fun _ => some (-1)
theorem Dx (nE : Nat) (p0 : List (Int × (Int × (Int × Int × Int × Int) × (Int × Int × Int × Int)) × (List (Int × Int × Int)))) (p1c0 : Int × (Int × (Int × (Int × Int × Int × Int) × (Int × Int × Int × Int)) × (List (Int × Int × Int))) × Bool) : Le (BZ nE p0 p1c0) (Be p0 p1c0) := by
  unfold BZ Be
  repeat' with_reducible (first | refine Le.orR' ?_ ?_ | refine Le.bind' ?_ ?_ | refine Le.ite' ?_ ?_ | refine Le.loop' ?_ | refine Le.altS' ?_ ?_ | apply C7 | exact Le.rfl' _ | (refine Le.pi2 ?_; intro _) | intro _)
def BQ (nE : Nat) (p0 : List (Int × (Int × (Int × Int × Int × Int) × (Int × Int × Int × Int)) × (List (Int × Int × Int)))) (p1c0 : Int × (Int × (Int × (Int × Int × Int × Int) × (Int × Int × Int × Int)) × (List (Int × Int × Int))) × Bool) : Option Bool := (BZ nE p0 p1c0).bind fun x1 => some (decide (0 ≤ x1))
theorem C6 (nE : Nat) (p0 : List (Int × (Int × (Int × Int × Int × Int) × (Int × Int × Int × Int)) × (List (Int × Int × Int)))) (p1c0 : Int × (Int × (Int × (Int × Int × Int × Int) × (Int × Int × Int × Int)) × (List (Int × Int × Int))) × Bool) : Le (BQ nE p0 p1c0) (A4 p0 p1c0) := by
  unfold BQ A4
  repeat' with_reducible (first | refine Le.orR' ?_ ?_ | refine Le.bind' ?_ ?_ | refine Le.ite' ?_ ?_ | refine Le.loop' ?_ | refine Le.altS' ?_ ?_ | apply Dx | exact Le.rfl' _ | (refine Le.pi2 ?_; intro _) | intro _)
def BJ (nE : Nat) (p0 : List (Int × (Int × (Int × Int × Int × Int) × (Int × Int × Int × Int)) × (List (Int × Int × Int)))) (p1c0 : Int × (Int × (Int × Int × Int × Int) × (Int × Int × Int × Int)) × (List (Int × Int × Int))) : Int → Option (Int ⊕ (Unit ⊕ Int))
  | x1 => (if x1 < (p0.length : Int) then (ix p0 x1).bind fun x2 => (if (B2 x2 p1c0) = true then some (.inr (.inr x1)) else some (.inl (CJ (x1 + 1)))) else some (.inr (.inl ())))
theorem CV (nE : Nat) (p0 : List (Int × (Int × (Int × Int × Int × Int) × (Int × Int × Int × Int)) × (List (Int × Int × Int)))) (p1c0 : Int × (Int × (Int × Int × Int × Int) × (Int × Int × Int × Int)) × (List (Int × Int × Int))) : ∀ s, Le (BJ nE p0 p1c0 s) (Bk p0 p1c0 s) := by
  intro x1
  unfold BJ Bk
  repeat' with_reducible (first | refine Le.orR' ?_ ?_ | refine Le.bind' ?_ ?_ | refine Le.ite' ?_ ?_ | refine Le.loop' ?_ | refine Le.altS' ?_ ?_ | exact Le.rfl' _ | (refine Le.pi2 ?_; intro _) | intro _)
def Bm (nE : Nat) (p0 : List (Int × (Int × (Int × Int × Int × Int) × (Int × Int × Int × Int)) × (List (Int × Int × Int)))) (p1c0 : Int × (Int × (Int × Int × Int × Int) × (Int × Int × Int × Int)) × (List (Int × Int × Int))) : Option Int := Fu (Ev nE (BJ nE p0 p1c0) 0) fun _ => some (-1)
theorem Cm (nE : Nat) (p0 : List (Int × (Int × (Int × Int × Int × Int) × (Int × Int × Int × Int)) × (List (Int × Int × Int)))) (p1c0 : Int × (Int × (Int × Int × Int × Int) × (Int × Int × Int × Int)) × (List (Int × Int × Int))) : Le (Bm nE p0 p1c0) (AY p0 p1c0) := by
  unfold Bm AY
  repeat' with_reducible (first | refine Le.orR' ?_ ?_ | refine Le.bind' ?_ ?_ | refine Le.ite' ?_ ?_ | refine Le.loop' ?_ | refine Le.altS' ?_ ?_ | apply CV | exact Le.rfl' _ | (refine Le.pi2 ?_; intro _) | intro _)
def AZ (nE : Nat) (p0 : List (Int × (Int × (Int × Int × Int × Int) × (Int × Int × Int × Int)) × (List (Int × Int × Int)))) (p1c0 : Int × (Int × (Int × Int × Int × Int) × (Int × Int × Int × Int)) × (List (Int × Int × Int))) : Option Bool := (Bm nE p0 p1c0).bind fun x1 => some (decide (0 ≤ x1))
theorem Cd (nE : Nat) (p0 : List (Int × (Int × (Int × Int × Int × Int) × (Int × Int × Int × Int)) × (List (Int × Int × Int)))) (p1c0 : Int × (Int × (Int × Int × Int × Int) × (Int × Int × Int × Int)) × (List (Int × Int × Int))) : Le (AZ nE p0 p1c0) (AO p0 p1c0) := by
  unfold AZ AO
  repeat' with_reducible (first | refine Le.orR' ?_ ?_ | refine Le.bind' ?_ ?_ | refine Le.ite' ?_ ?_ | refine Le.loop' ?_ | refine Le.altS' ?_ ?_ | apply Cm | exact Le.rfl' _ | (refine Le.pi2 ?_; intro _) | intro _)
def DM (nE : Nat) (p0 : List (Int × (Int × (Int × Int × Int × Int) × (Int × Int × Int × Int)) × (List (Int × Int × Int)))) (p1 : Int × (Int × (Int × Int × Int × Int) × (Int × Int × Int × Int)) × (List (Int × Int × Int))) (p2c0 : Int × (Int × (Int × Int × Int × Int) × (Int × Int × Int × Int)) × (List (Int × Int × Int))) : ((List (Int × (Int × (Int × Int × Int × Int) × (Int × Int × Int × Int)) × (List (Int × Int × Int)))) × Int) → Option (((List (Int × (Int × (Int × Int × Int × Int) × (Int × Int × Int × Int)) × (List (Int × Int × Int)))) × Int) ⊕ (List (Int × (Int × (Int × Int × Int × Int) × (Int × Int × Int × Int)) × (List (Int × Int × Int)))))
  | (x2, x3) => (if x3 < (p0.length : Int) then ((ix x2 x3).bind fun x5 => (if (B2 x5 p2c0) = true then (Ck nE p1).bind fun x6 => (ix x2 x3).bind fun x7 => some (DI x2 x3 (x7.1, x7.2.1, x6.2.2)) else some x2)).bind fun x4 => some (.inl (x4, CJ (x3 + 1))) else some (.inr x2))
theorem GC (nE : Nat) (p0 : List (Int × (Int × (Int × Int × Int × Int) × (Int × Int × Int × Int)) × (List (Int × Int × Int)))) (p1 : Int × (Int × (Int × Int × Int × Int) × (Int × Int × Int × Int)) × (List (Int × Int × Int))) (p2c0 : Int × (Int × (Int × Int × Int × Int) × (Int × Int × Int × Int)) × (List (Int × Int × Int))) : ∀ s, Le (DM nE p0 p1 p2c0 s) (Dz p0 p1 p2c0 s) := by
  rintro ⟨x2, x3⟩
  unfold DM Dz
  repeat' with_reducible (first | refine Le.orR' ?_ ?_ | refine Le.bind' ?_ ?_ | refine Le.ite' ?_ ?_ | refine Le.loop' ?_ | refine Le.altS' ?_ ?_ | apply CE | exact Le.rfl' _ | (refine Le.pi2 ?_; intro _) | intro _)
def DK (nE : Nat) (p0 : List (Int × (Int × (Int × Int × Int × Int) × (Int × Int × Int × Int)) × (List (Int × Int × Int)))) (p1 : Int × (Int × (Int × Int × Int × Int) × (Int × Int × Int × Int)) × (List (Int × Int × Int))) (p2c0 : Int × (Int × (Int × Int × Int × Int) × (Int × Int × Int × Int)) × (List (Int × Int × Int))) : Option (List (Int × (Int × (Int × Int × Int × Int) × (Int × Int × Int × Int)) × (List (Int × Int × Int)))) := (Ev nE (DM nE p0 p1 p2c0) (p0, 0)).bind fun x1 => some x1
theorem FJ (nE : Nat) (p0 : List (Int × (Int × (Int × Int × Int × Int) × (Int × Int × Int × Int)) × (List (Int × Int × Int)))) (p1 : Int × (Int × (Int × Int × Int × Int) × (Int × Int × Int × Int)) × (List (Int × Int × Int))) (p2c0 : Int × (Int × (Int × Int × Int × Int) × (Int × Int × Int × Int)) × (List (Int × Int × Int))) : Le (DK nE p0 p1 p2c0) (C4 p0 p1 p2c0) := by
  unfold DK C4
  repeat' with_reducible (first | refine Le.orR' ?_ ?_ | refine Le.bind' ?_ ?_ | refine Le.ite' ?_ ?_ | refine Le.loop' ?_ | refine Le.altS' ?_ ?_ | apply GC | exact Le.rfl' _ | (refine Le.pi2 ?_; intro _) | intro _)
def BF (nE : Nat) (p0 : List (Int × (Int × (Int × Int × Int × Int) × (Int × Int × Int × Int)) × (List (Int × Int × Int)))) (p1c0 : Int × (Int × (Int × (Int × Int × Int × Int) × (Int × Int × Int × Int)) × (List (Int × Int × Int))) × Bool) : Int → Option (Int ⊕ (Unit ⊕ Int))
  | x1 => (if x1 < (p0.length : Int) then (ix p0 x1).bind fun x2 => (if (EH x2 p1c0) = true then some (.inr (.inr x1)) else some (.inl (CJ (x1 + 1)))) else some (.inr (.inl ())))
theorem CS (nE : Nat) (p0 : List (Int × (Int × (Int × Int × Int × Int) × (Int × Int × Int × Int)) × (List (Int × Int × Int)))) (p1c0 : Int × (Int × (Int × (Int × Int × Int × Int) × (Int × Int × Int × Int)) × (List (Int × Int × Int))) × Bool) : ∀ s, Le (BF nE p0 p1c0 s) (Bj p0 p1c0 s) := by
  intro x1
  unfold BF Bj
  repeat' with_reducible (first | refine Le.orR' ?_ ?_ | refine Le.bind' ?_ ?_ | refine Le.ite' ?_ ?_ | refine Le.loop' ?_ | refine Le.altS' ?_ ?_ | exact Le.rfl' _ | (refine Le.pi2 ?_; intro _) | intro _)
def BV (nE : Nat) (p0 : List (Int × (Int × (Int × Int × Int × Int) × (Int × Int × Int × Int)) × (List (Int × Int × Int)))) (p1c0 : Int × (Int × (Int × (Int × Int × Int × Int) × (Int × Int × Int × Int)) × (List (Int × Int × Int))) × Bool) : Option Int := Fu (Ev nE (BF nE p0 p1c0) 0) fun _ => some (-1)
theorem Db (nE : Nat) (p0 : List (Int × (Int × (Int × Int × Int × Int) × (Int × Int × Int × Int)) × (List (Int × Int × Int)))) (p1c0 : Int × (Int × (Int × (Int × Int × Int × Int) × (Int × Int × Int × Int)) × (List (Int × Int × Int))) × Bool) : Le (BV nE p0 p1c0) (A8 p0 p1c0) := by
  unfold BV A8
  repeat' with_reducible (first | refine Le.orR' ?_ ?_ | refine Le.bind' ?_ ?_ | refine Le.ite' ?_ ?_ | refine Le.loop' ?_ | refine Le.altS' ?_ ?_ | apply CS | exact Le.rfl' _ | (refine Le.pi2 ?_; intro _) | intro _)
def Ca (nE : Nat) (p0 : List (Int × (Int × (Int × Int × Int × Int) × (Int × Int × Int × Int)) × (List (Int × Int × Int)))) (p1 : Int) (p2 : List (Int × (Int × (Int × Int × Int × Int) × (Int × Int × Int × Int)) × (List (Int × Int × Int)))) : Option (List (Int × (Int × (Int × Int × Int × Int) × (Int × Int × Int × Int)) × (List (Int × Int × Int)))) := (DW p0 p1 (p0.length : Int)).bind fun x1 => (if (p2.length : Int) = 0 then some p0 else (if p1 = (p0.length : Int) then (MW p0.length (p0.length + p2.length)).bind fun x2 => (JK p0 p2).bind fun x3 => some x3 else (if ((p0.length : Nat) : Int) < (CJ ((p0.length : Int) + (p2.length : Int))) then (DW p0 0 p1).bind fun x4 => (mk (CJ ((CJ ((p0.length : Int) + (p2.length : Int))) - p1)) ((0, (0, (0, 0, 0, 0), (0, 0, 0, 0)), []) : Int × (Int × (Int × Int × Int × Int) × (Int × Int × Int × Int)) × (List (Int × Int × Int)))).bind fun x5 => (MW p0.length (x4.length + (CJ ((CJ ((p0.length : Int) + (p2.length : Int))) - p1)).toNat)).bind fun x6 => (JK x4 x5).bind fun x7 => (DW x7 p1 (x7.length : Int)).bind fun x8 => (DW (Hy x7 p1 (min p2.length x8.length) p2) (CJ (p1 + (p2.length : Int))) ((Hy x7 p1 (min p2.length x8.length) p2).length : Int)).bind fun x9 => (DW p0 p1 (p0.length : Int)).bind fun x10 => some (Hy (Hy x7 p1 (min p2.length x8.length) p2) (CJ (p1 + (p2.length : Int))) (min x10.length x9.length) x10) else none)))
theorem DP (nE : Nat) (p0 : List (Int × (Int × (Int × Int × Int × Int) × (Int × Int × Int × Int)) × (List (Int × Int × Int)))) (p1 : Int) (p2 : List (Int × (Int × (Int × Int × Int × Int) × (Int × Int × Int × Int)) × (List (Int × Int × Int)))) : Le (Ca nE p0 p1 p2) (Bu p0 p1 p2) := by
  unfold Ca Bu
  repeat' with_reducible (first | refine Le.orR' ?_ ?_ | refine Le.bind' ?_ ?_ | refine Le.ite' ?_ ?_ | refine Le.loop' ?_ | refine Le.altS' ?_ ?_ | exact Le.rfl' _ | (refine Le.pi2 ?_; intro _) | intro _)
def Gs (nE : Nat) (p0 : List (Int × (Int × (Int × Int × Int × Int) × (Int × Int × Int × Int)) × (List (Int × Int × Int)))) (p1 : Int × (Int × (Int × (Int × Int × Int × Int) × (Int × Int × Int × Int)) × (List (Int × Int × Int))) × Bool) (p2 : Int) : Option ((List (Int × (Int × (Int × Int × Int × Int) × (Int × Int × Int × Int)) × (List (Int × Int × Int)))) × Int) := (if p1.2.2 = true then (BQ nE p0 (p1.1, p1.2.1, true)).bind fun x3 => some (x3, true) else some (false, false)).bind fun (x1, x2) => (if x1 = true then some (p0, 14) else (AZ nE p0 ((Ab p1.2.1).1, ((Ab p1.2.1).2.1.1, ((Ab p1.2.1).2.1.2.1.1, (Ab p1.2.1).2.1.2.1.2.1, (Ab p1.2.1).2.1.2.1.2.2.1, (Ab p1.2.1).2.1.2.1.2.2.2), ((Ab p1.2.1).2.1.2.2.1, (Ab p1.2.1).2.1.2.2.2.1, (Ab p1.2.1).2.1.2.2.2.2.1, (Ab p1.2.1).2.1.2.2.2.2.2)), (Ab p1.2.1).2.2)).bind fun x4 => (if x4 = true then (DK nE p0 p1.2.1 ((Ab p1.2.1).1, ((Ab p1.2.1).2.1.1, ((Ab p1.2.1).2.1.2.1.1, (Ab p1.2.1).2.1.2.1.2.1, (Ab p1.2.1).2.1.2.1.2.2.1, (Ab p1.2.1).2.1.2.1.2.2.2), ((Ab p1.2.1).2.1.2.2.1, (Ab p1.2.1).2.1.2.2.2.1, (Ab p1.2.1).2.1.2.2.2.2.1, (Ab p1.2.1).2.1.2.2.2.2.2)), (Ab p1.2.1).2.2)).bind fun x5 => some (x5, 0) else (if p2 ≤ (p0.length : Int) then some (p0, 6) else (BV nE p0 (p1.1, p1.2.1, x2)).bind fun x6 => (if x6 < 0 then some (p0.length : Int) else some x6).bind fun x7 => (Ck nE p1.2.1).bind fun x8 => (Ca nE p0 x7 ([x8] : List (Int × (Int × (Int × Int × Int × Int) × (Int × Int × Int × Int)) × (List (Int × Int × Int))))).bind fun x9 => some (x9, 0))))
theorem Jf (nE : Nat) (p0 : List (Int × (Int × (Int × Int × Int × Int) × (Int × Int × Int × Int)) × (List (Int × Int × Int)))) (p1 : Int × (Int × (Int × (Int × Int × Int × Int) × (Int × Int × Int × Int)) × (List (Int × Int × Int))) × Bool) (p2 : Int) : Le (Gs nE p0 p1 p2) (FI p0 p1 p2) := by
  unfold Gs FI
  repeat' with_reducible (first | refine Le.orR' ?_ ?_ | refine Le.bind' ?_ ?_ | refine Le.ite' ?_ ?_ | refine Le.loop' ?_ | refine Le.altS' ?_ ?_ | apply CE | apply C6 | apply Cd | apply FJ | apply Db | apply DP | exact Le.rfl' _ | (refine Le.pi2 ?_; intro _) | intro _)
def Fc (nE : Nat) (p0 : Int × (Int × Int × Int × Int) × (Int × Int × Int × Int)) (p1 : Int × (Int × Int × Int × Int) × (Int × Int × Int × Int)) : Option Bool := (EW nE p0 p1).bind fun x1 => some (x1.2 && decide (x1.1.1 = p0.1 ∧ x1.1.2.1.1 = p0.2.1.1 ∧ x1.1.2.1.2.1 = p0.2.1.2.1 ∧ x1.1.2.1.2.2.1 = p0.2.1.2.2.1 ∧ x1.1.2.1.2.2.2 = p0.2.1.2.2.2 ∧ x1.1.2.2.1 = p0.2.2.1 ∧ x1.1.2.2.2.1 = p0.2.2.2.1 ∧ x1.1.2.2.2.2.1 = p0.2.2.2.2.1 ∧ x1.1.2.2.2.2.2 = p0.2.2.2.2.2))
theorem HJ (nE : Nat) (p0 : Int × (Int × Int × Int × Int) × (Int × Int × Int × Int)) (p1 : Int × (Int × Int × Int × Int) × (Int × Int × Int × Int)) : Le (Fc nE p0 p1) (D7 p0 p1) := by
  unfold Fc D7
  repeat' with_reducible (first | refine Le.orR' ?_ ?_ | refine Le.bind' ?_ ?_ | refine Le.ite' ?_ ?_ | refine Le.loop' ?_ | refine Le.altS' ?_ ?_ | apply GG | exact Le.rfl' _ | (refine Le.pi2 ?_; intro _) | intro _)
def CL (nE : Nat) (p0 : Int × (Int × (Int × Int × Int × Int) × (Int × Int × Int × Int)) × (List (Int × Int × Int))) (p1 : Int × (Int × (Int × Int × Int × Int) × (Int × Int × Int × Int)) × (List (Int × Int × Int))) : Option Bool := (Fc nE p0.2.1 p1.2.1).bind fun x1 => some x1
theorem D8 (nE : Nat) (p0 : Int × (Int × (Int × Int × Int × Int) × (Int × Int × Int × Int)) × (List (Int × Int × Int))) (p1 : Int × (Int × (Int × Int × Int × Int) × (Int × Int × Int × Int)) × (List (Int × Int × Int))) : Le (CL nE p0 p1) (Cu p0 p1) := by
  unfold CL Cu
  repeat' with_reducible (first | refine Le.orR' ?_ ?_ | refine Le.bind' ?_ ?_ | refine Le.ite' ?_ ?_ | refine Le.loop' ?_ | refine Le.altS' ?_ ?_ | apply HJ | exact Le.rfl' _ | (refine Le.pi2 ?_; intro _) | intro _)
def Dn (nE : Nat) (p0 : List (Int × (Int × (Int × Int × Int × Int) × (Int × Int × Int × Int)) × (List (Int × Int × Int)))) (p1 : Int × (Int × (Int × Int × Int × Int) × (Int × Int × Int × Int)) × (List (Int × Int × Int))) (p2c0 : Int × (Int × (Int × Int × Int × Int) × (Int × Int × Int × Int)) × (List (Int × Int × Int))) : ((List (Int × (Int × (Int × Int × Int × Int) × (Int × Int × Int × Int)) × (List (Int × Int × Int)))) × Int) → Option (((List (Int × (Int × (Int × Int × Int × Int) × (Int × Int × Int × Int)) × (List (Int × Int × Int)))) × Int) ⊕ (List (Int × (Int × (Int × Int × Int × Int) × (Int × Int × Int × Int)) × (List (Int × Int × Int)))))
  | (x2, x3) => (if x3 < (p0.length : Int) then ((ix x2 x3).bind fun x5 => (CL nE x5 p2c0).bind fun x6 => (if x6 = true then (Ck nE p1).bind fun x7 => (ix x2 x3).bind fun x8 => some (DI x2 x3 (x8.1, x8.2.1, x7.2.2)) else some x2)).bind fun x4 => some (.inl (x4, CJ (x3 + 1))) else some (.inr x2))
theorem F6 (nE : Nat) (p0 : List (Int × (Int × (Int × Int × Int × Int) × (Int × Int × Int × Int)) × (List (Int × Int × Int)))) (p1 : Int × (Int × (Int × Int × Int × Int) × (Int × Int × Int × Int)) × (List (Int × Int × Int))) (p2c0 : Int × (Int × (Int × Int × Int × Int) × (Int × Int × Int × Int)) × (List (Int × Int × Int))) : ∀ s, Le (Dn nE p0 p1 p2c0 s) (CY p0 p1 p2c0 s) := by
  rintro ⟨x2, x3⟩
  unfold Dn CY
  repeat' with_reducible (first | refine Le.orR' ?_ ?_ | refine Le.bind' ?_ ?_ | refine Le.ite' ?_ ?_ | refine Le.loop' ?_ | refine Le.altS' ?_ ?_ | apply CE | apply D8 | exact Le.rfl' _ | (refine Le.pi2 ?_; intro _) | intro _)
def D0 (nE : Nat) (p0 : List (Int × (Int × (Int × Int × Int × Int) × (Int × Int × Int × Int)) × (List (Int × Int × Int)))) (p1 : Int × (Int × (Int × Int × Int × Int) × (Int × Int × Int × Int)) × (List (Int × Int × Int))) (p2c0 : Int × (Int × (Int × Int × Int × Int) × (Int × Int × Int × Int)) × (List (Int × Int × Int))) : Option (List (Int × (Int × (Int × Int × Int × Int) × (Int × Int × Int × Int)) × (List (Int × Int × Int)))) := (Ev nE (Dn nE p0 p1 p2c0) (p0, 0)).bind fun x1 => some x1
theorem GL (nE : Nat) (p0 : List (Int × (Int × (Int × Int × Int × Int) × (Int × Int × Int × Int)) × (List (Int × Int × Int)))) (p1 : Int × (Int × (Int × Int × Int × Int) × (Int × Int × Int × Int)) × (List (Int × Int × Int))) (p2c0 : Int × (Int × (Int × Int × Int × Int) × (Int × Int × Int × Int)) × (List (Int × Int × Int))) : Le (D0 nE p0 p1 p2c0) (C1 p0 p1 p2c0) := by
  unfold D0 C1
  repeat' with_reducible (first | refine Le.orR' ?_ ?_ | refine Le.bind' ?_ ?_ | refine Le.ite' ?_ ?_ | refine Le.loop' ?_ | refine Le.altS' ?_ ?_ | apply F6 | exact Le.rfl' _ | (refine Le.pi2 ?_; intro _) | intro _)
def BG (nE : Nat) (p0 : List (Int × (Int × (Int × Int × Int × Int) × (Int × Int × Int × Int)) × (List (Int × Int × Int)))) (p1c0 : Int × (Int × (Int × Int × Int × Int) × (Int × Int × Int × Int)) × (List (Int × Int × Int))) : Int → Option (Int ⊕ (Unit ⊕ Int))
  | x1 => (if x1 < (p0.length : Int) then (ix p0 x1).bind fun x2 => (CL nE x2 p1c0).bind fun x3 => (if x3 = true then some (.inr (.inr x1)) else some (.inl (CJ (x1 + 1)))) else some (.inr (.inl ())))
theorem CX (nE : Nat) (p0 : List (Int × (Int × (Int × Int × Int × Int) × (Int × Int × Int × Int)) × (List (Int × Int × Int)))) (p1c0 : Int × (Int × (Int × Int × Int × Int) × (Int × Int × Int × Int)) × (List (Int × Int × Int))) : ∀ s, Le (BG nE p0 p1c0 s) (Bl p0 p1c0 s) := by
  intro x1
  unfold BG Bl
  repeat' with_reducible (first | refine Le.orR' ?_ ?_ | refine Le.bind' ?_ ?_ | refine Le.ite' ?_ ?_ | refine Le.loop' ?_ | refine Le.altS' ?_ ?_ | apply D8 | exact Le.rfl' _ | (refine Le.pi2 ?_; intro _) | intro _)
def BS (nE : Nat) (p0 : List (Int × (Int × (Int × Int × Int × Int) × (Int × Int × Int × Int)) × (List (Int × Int × Int)))) (p1c0 : Int × (Int × (Int × Int × Int × Int) × (Int × Int × Int × Int)) × (List (Int × Int × Int))) : Option Int := Fu (Ev nE (BG nE p0 p1c0) 0) fun _ => some (-1)
theorem Da (nE : Nat) (p0 : List (Int × (Int × (Int × Int × Int × Int) × (Int × Int × Int × Int)) × (List (Int × Int × Int)))) (p1c0 : Int × (Int × (Int × Int × Int × Int) × (Int × Int × Int × Int)) × (List (Int × Int × Int))) : Le (BS nE p0 p1c0) (A9 p0 p1c0) := by
  unfold BS A9
  repeat' with_reducible (first | refine Le.orR' ?_ ?_ | refine Le.bind' ?_ ?_ | refine Le.ite' ?_ ?_ | refine Le.loop' ?_ | refine Le.altS' ?_ ?_ | apply CX | exact Le.rfl' _ | (refine Le.pi2 ?_; intro _) | intro _)
def BN (nE : Nat) (p1c0 : Int × (Int × (Int × Int × Int × Int) × (Int × Int × Int × Int)) × (List (Int × Int × Int))) : ((List (Int × (Int × (Int × Int × Int × Int) × (Int × Int × Int × Int)) × (List (Int × Int × Int)))) × Int × Int) → Option (((List (Int × (Int × (Int × Int × Int × Int) × (Int × Int × Int × Int)) × (List (Int × Int × Int)))) × Int × Int) ⊕ ((List (Int × (Int × (Int × Int × Int × Int) × (Int × Int × Int × Int)) × (List (Int × Int × Int)))) × Int))
  | (x4, x5, x6) => (if x6 < (x4.length : Int) then ((ix x4 x6).bind fun x9 => (CL nE x9 p1c0).bind fun x10 => (if (!x10) = true then (ix x4 x5).bind fun x11 => some ((DI x4 x5 x9), CJ (x5 + 1)) else some (x4, x5))).bind fun (x7, x8) => some (.inl (x7, x8, CJ (x6 + 1))) else some (.inr (x4, x5)))
theorem C2 (nE : Nat) (p1c0 : Int × (Int × (Int × Int × Int × Int) × (Int × Int × Int × Int)) × (List (Int × Int × Int))) : ∀ s, Le (BN nE p1c0 s) (Bo p1c0 s) := by
  rintro ⟨x4, x5, x6⟩
  unfold BN Bo
  repeat' with_reducible (first | refine Le.orR' ?_ ?_ | refine Le.bind' ?_ ?_ | refine Le.ite' ?_ ?_ | refine Le.loop' ?_ | refine Le.altS' ?_ ?_ | apply D8 | exact Le.rfl' _ | (refine Le.pi2 ?_; intro _) | intro _)
def BW (nE : Nat) (p0 : List (Int × (Int × (Int × Int × Int × Int) × (Int × Int × Int × Int)) × (List (Int × Int × Int)))) (p1c0 : Int × (Int × (Int × Int × Int × Int) × (Int × Int × Int × Int)) × (List (Int × Int × Int))) : Option (List (Int × (Int × (Int × Int × Int × Int) × (Int × Int × Int × Int)) × (List (Int × Int × Int)))) := (BS nE p0 p1c0).bind fun x1 => (if x1 = (-1) then some p0 else (Ev nE (BN nE p1c0) (p0, x1, CJ (x1 + 1))).bind fun (x2, x3) => (DW x2 x3 (x2.length : Int)).bind fun x12 => (MK x2 x3 (List.replicate (x12.length) ((0, (0, (0, 0, 0, 0), (0, 0, 0, 0)), []) : Int × (Int × (Int × Int × Int × Int) × (Int × Int × Int × Int)) × (List (Int × Int × Int))))).bind fun x13 => (DW x13 0 x3).bind fun x14 => some x14)
theorem Do (nE : Nat) (p0 : List (Int × (Int × (Int × Int × Int × Int) × (Int × Int × Int × Int)) × (List (Int × Int × Int)))) (p1c0 : Int × (Int × (Int × Int × Int × Int) × (Int × Int × Int × Int)) × (List (Int × Int × Int))) : Le (BW nE p0 p1c0) (Bc p0 p1c0) := by
  unfold BW Bc
  repeat' with_reducible (first | refine Le.orR' ?_ ?_ | refine Le.bind' ?_ ?_ | refine Le.ite' ?_ ?_ | refine Le.loop' ?_ | refine Le.altS' ?_ ?_ | apply Da | apply C2 | exact Le.rfl' _ | (refine Le.pi2 ?_; intro _) | intro _)
def BD (nE : Nat) (p1c0 : Int × (Int × (Int × Int × Int × Int) × (Int × Int × Int × Int)) × (List (Int × Int × Int))) : ((List (Int × (Int × (Int × Int × Int × Int) × (Int × Int × Int × Int)) × (List (Int × Int × Int)))) × Int × Int) → Option (((List (Int × (Int × (Int × Int × Int × Int) × (Int × Int × Int × Int)) × (List (Int × Int × Int)))) × Int × Int) ⊕ ((List (Int × (Int × (Int × Int × Int × Int) × (Int × Int × Int × Int)) × (List (Int × Int × Int)))) × Int))
  | (x4, x5, x6) => (if x6 < (x4.length : Int) then ((ix x4 x6).bind fun x9 => (if (!(B2 x9 p1c0)) = true then (ix x4 x5).bind fun x10 => some ((DI x4 x5 x9), CJ (x5 + 1)) else some (x4, x5))).bind fun (x7, x8) => some (.inl (x7, x8, CJ (x6 + 1))) else some (.inr (x4, x5)))
theorem CP (nE : Nat) (p1c0 : Int × (Int × (Int × Int × Int × Int) × (Int × Int × Int × Int)) × (List (Int × Int × Int))) : ∀ s, Le (BD nE p1c0 s) (Bg p1c0 s) := by
  rintro ⟨x4, x5, x6⟩
  unfold BD Bg
  repeat' with_reducible (first | refine Le.orR' ?_ ?_ | refine Le.bind' ?_ ?_ | refine Le.ite' ?_ ?_ | refine Le.loop' ?_ | refine Le.altS' ?_ ?_ | exact Le.rfl' _ | (refine Le.pi2 ?_; intro _) | intro _)
def BO (nE : Nat) (p0 : List (Int × (Int × (Int × Int × Int × Int) × (Int × Int × Int × Int)) × (List (Int × Int × Int)))) (p1c0 : Int × (Int × (Int × Int × Int × Int) × (Int × Int × Int × Int)) × (List (Int × Int × Int))) : Option (List (Int × (Int × (Int × Int × Int × Int) × (Int × Int × Int × Int)) × (List (Int × Int × Int)))) := (Bm nE p0 p1c0).bind fun x1 => (if x1 = (-1) then some p0 else (Ev nE (BD nE p1c0) (p0, x1, CJ (x1 + 1))).bind fun (x2, x3) => (DW x2 x3 (x2.length : Int)).bind fun x11 => (MK x2 x3 (List.replicate (x11.length) ((0, (0, (0, 0, 0, 0), (0, 0, 0, 0)), []) : Int × (Int × (Int × Int × Int × Int) × (Int × Int × Int × Int)) × (List (Int × Int × Int))))).bind fun x12 => (DW x12 0 x3).bind fun x13 => some x13)
theorem C8 (nE : Nat) (p0 : List (Int × (Int × (Int × Int × Int × Int) × (Int × Int × Int × Int)) × (List (Int × Int × Int)))) (p1c0 : Int × (Int × (Int × Int × Int × Int) × (Int × Int × Int × Int)) × (List (Int × Int × Int))) : Le (BO nE p0 p1c0) (A5 p0 p1c0) := by
  unfold BO A5
  repeat' with_reducible (first | refine Le.orR' ?_ ?_ | refine Le.bind' ?_ ?_ | refine Le.ite' ?_ ?_ | refine Le.loop' ?_ | refine Le.altS' ?_ ?_ | apply Cm | apply CP | exact Le.rfl' _ | (refine Le.pi2 ?_; intro _) | intro _)
def Fx (nE : Nat) (p0 : List (Int × (Int × (Int × Int × Int × Int) × (Int × Int × Int × Int)) × (List (Int × Int × Int)))) (p1 : Int × (Int × (Int × (Int × Int × Int × Int) × (Int × Int × Int × Int)) × (List (Int × Int × Int))) × Bool) (p2 : Int) (p3 : Int) : Option ((List (Int × (Int × (Int × Int × Int × Int) × (Int × Int × Int × Int)) × (List (Int × Int × Int)))) × Int) := (Du nE p0).bind fun x1 => (F1 nE p1.2.1 p2).bind fun x2 => (if (!x2) = true then some (x1, 2) else (if p1.1 = 1 then (Nw x1.length (((p0.length : Int)).toNat)).bind fun x3 => (Gs nE x1 p1 p3).bind fun x4 => some (x4.1, x4.2) else (if p1.1 = 2 then (D0 nE x1 p1.2.1 ((Ai p1.2.1).1, ((Ai p1.2.1).2.1.1, ((Ai p1.2.1).2.1.2.1.1, (Ai p1.2.1).2.1.2.1.2.1, (Ai p1.2.1).2.1.2.1.2.2.1, (Ai p1.2.1).2.1.2.1.2.2.2), ((Ai p1.2.1).2.1.2.2.1, (Ai p1.2.1).2.1.2.2.2.1, (Ai p1.2.1).2.1.2.2.2.2.1, (Ai p1.2.1).2.1.2.2.2.2.2)), (Ai p1.2.1).2.2)).bind fun x5 => some (x5, 0) else (if p1.1 = 3 then (AZ nE x1 ((Ab p1.2.1).1, ((Ab p1.2.1).2.1.1, ((Ab p1.2.1).2.1.2.1.1, (Ab p1.2.1).2.1.2.1.2.1, (Ab p1.2.1).2.1.2.1.2.2.1, (Ab p1.2.1).2.1.2.1.2.2.2), ((Ab p1.2.1).2.1.2.2.1, (Ab p1.2.1).2.1.2.2.2.1, (Ab p1.2.1).2.1.2.2.2.2.1, (Ab p1.2.1).2.1.2.2.2.2.2)), (Ab p1.2.1).2.2)).bind fun x6 => (if (!x6) = true then some (x1, 7) else (DK nE x1 p1.2.1 ((Ab p1.2.1).1, ((Ab p1.2.1).2.1.1, ((Ab p1.2.1).2.1.2.1.1, (Ab p1.2.1).2.1.2.1.2.1, (Ab p1.2.1).2.1.2.1.2.2.1, (Ab p1.2.1).2.1.2.1.2.2.2), ((Ab p1.2.1).2.1.2.2.1, (Ab p1.2.1).2.1.2.2.2.1, (Ab p1.2.1).2.1.2.2.2.2.1, (Ab p1.2.1).2.1.2.2.2.2.2)), (Ab p1.2.1).2.2)).bind fun x7 => some (x7, 0)) else (if p1.1 = 4 then (BW nE x1 ((Ai p1.2.1).1, ((Ai p1.2.1).2.1.1, ((Ai p1.2.1).2.1.2.1.1, (Ai p1.2.1).2.1.2.1.2.1, (Ai p1.2.1).2.1.2.1.2.2.1, (Ai p1.2.1).2.1.2.1.2.2.2), ((Ai p1.2.1).2.1.2.2.1, (Ai p1.2.1).2.1.2.2.2.1, (Ai p1.2.1).2.1.2.2.2.2.1, (Ai p1.2.1).2.1.2.2.2.2.2)), (Ai p1.2.1).2.2)).bind fun x8 => some (x8, 0) else (if p1.1 = 5 then (AZ nE x1 ((Ab p1.2.1).1, ((Ab p1.2.1).2.1.1, ((Ab p1.2.1).2.1.2.1.1, (Ab p1.2.1).2.1.2.1.2.1, (Ab p1.2.1).2.1.2.1.2.2.1, (Ab p1.2.1).2.1.2.1.2.2.2), ((Ab p1.2.1).2.1.2.2.1, (Ab p1.2.1).2.1.2.2.2.1, (Ab p1.2.1).2.1.2.2.2.2.1, (Ab p1.2.1).2.1.2.2.2.2.2)), (Ab p1.2.1).2.2)).bind fun x9 => (if (!x9) = true then some (x1, 7) else (BO nE x1 ((Ab p1.2.1).1, ((Ab p1.2.1).2.1.1, ((Ab p1.2.1).2.1.2.1.1, (Ab p1.2.1).2.1.2.1.2.1, (Ab p1.2.1).2.1.2.1.2.2.1, (Ab p1.2.1).2.1.2.1.2.2.2), ((Ab p1.2.1).2.1.2.2.1, (Ab p1.2.1).2.1.2.2.2.1, (Ab p1.2.1).2.1.2.2.2.2.1, (Ab p1.2.1).2.1.2.2.2.2.2)), (Ab p1.2.1).2.2)).bind fun x10 => some (x10, 0)) else some (x1, 2)))))))
theorem Ia (nE : Nat) (p0 : List (Int × (Int × (Int × Int × Int × Int) × (Int × Int × Int × Int)) × (List (Int × Int × Int)))) (p1 : Int × (Int × (Int × (Int × Int × Int × Int) × (Int × Int × Int × Int)) × (List (Int × Int × Int))) × Bool) (p2 : Int) (p3 : Int) : Le (Fx nE p0 p1 p2 p3) (ED p0 p1 p2 p3) := by
  unfold Fx ED
  repeat' with_reducible (first | refine Le.orR' ?_ ?_ | refine Le.bind' ?_ ?_ | refine Le.ite' ?_ ?_ | refine Le.loop' ?_ | refine Le.altS' ?_ ?_ | apply EJ | apply Ir | apply Cd | apply FJ | apply Jf | apply GL | apply Do | apply C8 | exact Le.rfl' _ | (refine Le.pi2 ?_; intro _) | intro _)
def EO (nE : Nat) (p0 : List (Int × (Int × (Int × Int × Int × Int) × (Int × Int × Int × Int)) × (List (Int × Int × Int)))) (p1 : List (Int × (Int × (Int × (Int × Int × Int × Int) × (Int × Int × Int × Int)) × (List (Int × Int × Int))) × Bool)) (p2 : Int) (p3 : Int) : ((List (Int × (Int × (Int × Int × Int × Int) × (Int × Int × Int × Int)) × (List (Int × Int × Int)))) × Int) → Option (((List (Int × (Int × (Int × Int × Int × Int) × (Int × Int × Int × Int)) × (List (Int × Int × Int)))) × Int) ⊕ ((List (Int × (Int × (Int × Int × Int × Int) × (Int × Int × Int × Int)) × (List (Int × Int × Int)))) ⊕ ((List (Int × (Int × (Int × Int × Int × Int) × (Int × Int × Int × Int)) × (List (Int × Int × Int)))) × Int × Int)))
  | (x3, x4) => (if x4 < (p1.length : Int) then (ix p1 x4).bind fun x5 => (Fx nE x3 x5 p2 p3).bind fun x6 => (if x6.2 ≠ 0 then (Du nE p0).bind fun x7 => some (.inr (.inr (x7, x4, x6.2))) else some (.inl (x6.1, CJ (x4 + 1)))) else some (.inr (.inl x3)))
theorem Hj (nE : Nat) (p0 : List (Int × (Int × (Int × Int × Int × Int) × (Int × Int × Int × Int)) × (List (Int × Int × Int)))) (p1 : List (Int × (Int × (Int × (Int × Int × Int × Int) × (Int × Int × Int × Int)) × (List (Int × Int × Int))) × Bool)) (p2 : Int) (p3 : Int) : ∀ s, Le (EO nE p0 p1 p2 p3 s) (Ep p0 p1 p2 p3 s) := by
  rintro ⟨x3, x4⟩
  unfold EO Ep
  repeat' with_reducible (first | refine Le.orR' ?_ ?_ | refine Le.bind' ?_ ?_ | refine Le.ite' ?_ ?_ | refine Le.loop' ?_ | refine Le.altS' ?_ ?_ | apply EJ | apply Ia | exact Le.rfl' _ | (refine Le.pi2 ?_; intro _) | intro _)
def FZ (nE : Nat) (p0 : List (Int × (Int × (Int × Int × Int × Int) × (Int × Int × Int × Int)) × (List (Int × Int × Int)))) (p1 : List (Int × (Int × (Int × (Int × Int × Int × Int) × (Int × Int × Int × Int)) × (List (Int × Int × Int))) × Bool)) (p2 : Int) (p3 : Int) : Option ((List (Int × (Int × (Int × Int × Int × Int) × (Int × Int × Int × Int)) × (List (Int × Int × Int)))) × Int × Int) := (Du nE p0).bind fun x1 => Fu (Ev nE (EO nE p0 p1 p2 p3) (x1, 0)) fun x2 => some (x2, (-1), 0)
theorem Is (nE : Nat) (p0 : List (Int × (Int × (Int × Int × Int × Int) × (Int × Int × Int × Int)) × (List (Int × Int × Int)))) (p1 : List (Int × (Int × (Int × (Int × Int × Int × Int) × (Int × Int × Int × Int)) × (List (Int × Int × Int))) × Bool)) (p2 : Int) (p3 : Int) : Le (FZ nE p0 p1 p2 p3) (Fd p0 p1 p2 p3) := by
  unfold FZ Fd
  repeat' with_reducible (first | refine Le.orR' ?_ ?_ | refine Le.bind' ?_ ?_ | refine Le.ite' ?_ ?_ | refine Le.loop' ?_ | refine Le.altS' ?_ ?_ | apply EJ | apply Hj | exact Le.rfl' _ | (refine Le.pi2 ?_; intro _) | intro _)
def EK (nE : Nat) (p0 : Int × (Int × Int × Int × Int) × (Int × Int × Int × Int)) (p2 : Int × Int × Int × Int) : Int → Option (Int ⊕ (Unit ⊕ Bool))
  | x1 => (if x1 < 4 then (ix ([p0.2.2.1, p0.2.2.2.1, p0.2.2.2.2.1, p0.2.2.2.2.2] : List Int) x1).bind fun x2 => (ix ([p2.1, p2.2.1, p2.2.2.1, p2.2.2.2] : List Int) x1).bind fun x3 => (ix ([p0.2.1.1, p0.2.1.2.1, p0.2.1.2.2.1, p0.2.1.2.2.2] : List Int) x1).bind fun x4 => (if (H5 .i64 (IW .i64 x3 x4) x2) ≠ 0 then some (.inr (.inr false)) else some (.inl (CJ (x1 + 1)))) else some (.inr (.inl ())))
theorem Hi (nE : Nat) (p0 : Int × (Int × Int × Int × Int) × (Int × Int × Int × Int)) (p2 : Int × Int × Int × Int) : ∀ s, Le (EK nE p0 p2 s) (C5 p0 p2 s) := by
  intro x1
  unfold EK C5
  repeat' with_reducible (first | refine Le.orR' ?_ ?_ | refine Le.bind' ?_ ?_ | refine Le.ite' ?_ ?_ | refine Le.loop' ?_ | refine Le.altS' ?_ ?_ | exact Le.rfl' _ | (refine Le.pi2 ?_; intro _) | intro _)
def F0 (nE : Nat) (p0 : Int × (Int × Int × Int × Int) × (Int × Int × Int × Int)) (p1 : Int) (p2 : Int × Int × Int × Int) : Option Bool := (if (decide (p0.1 ≠ (-1)) && decide (p0.1 ≠ p1)) = true then some false else Fu (Ev nE (EK nE p0 p2) 0) fun _ => some true)
theorem IG (nE : Nat) (p0 : Int × (Int × Int × Int × Int) × (Int × Int × Int × Int)) (p1 : Int) (p2 : Int × Int × Int × Int) : Le (F0 nE p0 p1 p2) (DO p0 p1 p2) := by
  unfold F0 DO
  repeat' with_reducible (first | refine Le.orR' ?_ ?_ | refine Le.bind' ?_ ?_ | refine Le.ite' ?_ ?_ | refine Le.loop' ?_ | refine Le.altS' ?_ ?_ | apply Hi | exact Le.rfl' _ | (refine Le.pi2 ?_; intro _) | intro _)
def E6 (nE : Nat) (p0 : Int × (Int × (Int × Int × Int × Int) × (Int × Int × Int × Int)) × (List (Int × Int × Int))) (p1 : Int) (p2 : Int × Int × Int × Int) : Option Bool := (F0 nE p0.2.1 p1 p2).bind fun x1 => some x1
theorem HG (nE : Nat) (p0 : Int × (Int × (Int × Int × Int × Int) × (Int × Int × Int × Int)) × (List (Int × Int × Int))) (p1 : Int) (p2 : Int × Int × Int × Int) : Le (E6 nE p0 p1 p2) (DD p0 p1 p2) := by
  unfold E6 DD
  repeat' with_reducible (first | refine Le.orR' ?_ ?_ | refine Le.bind' ?_ ?_ | refine Le.ite' ?_ ?_ | refine Le.loop' ?_ | refine Le.altS' ?_ ?_ | apply IG | exact Le.rfl' _ | (refine Le.pi2 ?_; intro _) | intro _)
def BK (nE : Nat) (p0 : List (Int × (Int × (Int × Int × Int × Int) × (Int × Int × Int × Int)) × (List (Int × Int × Int)))) (p1c0 : Int) (p1c1 : Int × Int × Int × Int) : Int → Option (Int ⊕ (Unit ⊕ Int))
  | x1 => (if x1 < (p0.length : Int) then (ix p0 x1).bind fun x2 => (E6 nE x2 p1c0 p1c1).bind fun x3 => (if x3 = true then some (.inr (.inr x1)) else some (.inl (CJ (x1 + 1)))) else some (.inr (.inl ())))
theorem CT (nE : Nat) (p0 : List (Int × (Int × (Int × Int × Int × Int) × (Int × Int × Int × Int)) × (List (Int × Int × Int)))) (p1c0 : Int) (p1c1 : Int × Int × Int × Int) : ∀ s, Le (BK nE p0 p1c0 p1c1 s) (AN p0 p1c0 p1c1 s) := by
  intro x1
  unfold BK AN
  repeat' with_reducible (first | refine Le.orR' ?_ ?_ | refine Le.bind' ?_ ?_ | refine Le.ite' ?_ ?_ | refine Le.loop' ?_ | refine Le.altS' ?_ ?_ | apply HG | exact Le.rfl' _ | (refine Le.pi2 ?_; intro _) | intro _)
def BT (nE : Nat) (p0 : List (Int × (Int × (Int × Int × Int × Int) × (Int × Int × Int × Int)) × (List (Int × Int × Int)))) (p1c0 : Int) (p1c1 : Int × Int × Int × Int) : Option Int := Fu (Ev nE (BK nE p0 p1c0 p1c1) 0) fun _ => some (-1)
theorem De (nE : Nat) (p0 : List (Int × (Int × (Int × Int × Int × Int) × (Int × Int × Int × Int)) × (List (Int × Int × Int)))) (p1c0 : Int) (p1c1 : Int × Int × Int × Int) : Le (BT nE p0 p1c0 p1c1) (AX p0 p1c0 p1c1) := by
  unfold BT AX
  repeat' with_reducible (first | refine Le.orR' ?_ ?_ | refine Le.bind' ?_ ?_ | refine Le.ite' ?_ ?_ | refine Le.loop' ?_ | refine Le.altS' ?_ ?_ | apply CT | exact Le.rfl' _ | (refine Le.pi2 ?_; intro _) | intro _)
def EY (nE : Nat) (p0 : List (Int × (Int × (Int × Int × Int × Int) × (Int × Int × Int × Int)) × (List (Int × Int × Int)))) (p1 : Int) (p2 : Int × Int × Int × Int) : Option Int := (BT nE p0 p1 p2).bind fun x1 => some x1
theorem GE (nE : Nat) (p0 : List (Int × (Int × (Int × Int × Int × Int) × (Int × Int × Int × Int)) × (List (Int × Int × Int)))) (p1 : Int) (p2 : Int × Int × Int × Int) : Le (EY nE p0 p1 p2) (CW p0 p1 p2) := by
  unfold EY CW
  repeat' with_reducible (first | refine Le.orR' ?_ ?_ | refine Le.bind' ?_ ?_ | refine Le.ite' ?_ ?_ | refine Le.loop' ?_ | refine Le.altS' ?_ ?_ | apply De | exact Le.rfl' _ | (refine Le.pi2 ?_; intro _) | intro _)
def Fv (nE : Nat) (p0 : Int) (p1 : Int) : Option Bool := (if 0 ≤ p1 then (CQ nE p0).bind fun x2 => some (decide (p1 ≤ x2)) else some false).bind fun x1 => some x1
theorem HZ (nE : Nat) (p0 : Int) (p1 : Int) : Le (Fv nE p0 p1) (Dq p0 p1) := by
  unfold Fv Dq
  repeat' with_reducible (first | refine Le.orR' ?_ ?_ | refine Le.bind' ?_ ?_ | refine Le.ite' ?_ ?_ | refine Le.loop' ?_ | refine Le.altS' ?_ ?_ | apply Eu | exact Le.rfl' _ | (refine Le.pi2 ?_; intro _) | intro _)
def Fo (nE : Nat) (p0 : Int × Int × Int × Int) (p1 : Int) (p2 : Int) : Option (Int × Int × Int × Int) := ((if (CA p1) = true then (Fv nE p1 p2).bind fun x6 => some x6 else some false).bind fun x5 => (if x5 = true then (ix ([p0.1, p0.2.1, p0.2.2.1, p0.2.2.2] : List Int) p1).bind fun x7 => some ((if p1 = 0 then p2 else p0.1), (if p1 = 1 then p2 else p0.2.1), (if p1 = 2 then p2 else p0.2.2.1), (if p1 = 3 then p2 else p0.2.2.2)) else some (p0.1, p0.2.1, p0.2.2.1, p0.2.2.2))).bind fun (x1, x2, x3, x4) => some (x1, x2, x3, x4)
theorem Io (nE : Nat) (p0 : Int × Int × Int × Int) (p1 : Int) (p2 : Int) : Le (Fo nE p0 p1 p2) (Dk p0 p1 p2) := by
  unfold Fo Dk
  repeat' with_reducible (first | refine Le.orR' ?_ ?_ | refine Le.bind' ?_ ?_ | refine Le.ite' ?_ ?_ | refine Le.loop' ?_ | refine Le.altS' ?_ ?_ | apply HZ | exact Le.rfl' _ | (refine Le.pi2 ?_; intro _) | intro _)
def FT (nE : Nat) (p0 : List (Int × Int × Int)) (p1 : Int × Int × Int × Int) : ((List (Int × (Int × Int × Int × Int))) × Int × Int × Int × Int × Int) → Option (((List (Int × (Int × Int × Int × Int))) × Int × Int × Int × Int × Int) ⊕ ((List (Int × (Int × Int × Int × Int))) × Int × Int × Int × Int))
  | (x6, x7, x8, x9, x10, x11) => (if x7 < (p0.length : Int) then ((ix p0 x7).bind fun x17 => (if x17.1 = 1 then (Fo nE (x8, x9, x10, x11) x17.2.1 x17.2.2).bind fun x18 => some (x6, x18.1, x18.2.1, x18.2.2.1, x18.2.2.2) else (if x17.1 = 2 then (JK x6 ([(x17.2.2, (x8, x9, x10, x11))] : List (Int × (Int × Int × Int × Int)))).bind fun x19 => some (x19, x8, x9, x10, x11) else (if x17.1 = 3 then some (x6, p1.1, p1.2.1, p1.2.2.1, p1.2.2.2) else some (x6, x8, x9, x10, x11))))).bind fun (x12, x13, x14, x15, x16) => some (.inl (x12, CJ (x7 + 1), x13, x14, x15, x16)) else some (.inr (x6, x8, x9, x10, x11)))
theorem Iz (nE : Nat) (p0 : List (Int × Int × Int)) (p1 : Int × Int × Int × Int) : ∀ s, Le (FT nE p0 p1 s) (DQ p0 p1 s) := by
  rintro ⟨x6, x7, x8, x9, x10, x11⟩
  unfold FT DQ
  repeat' with_reducible (first | refine Le.orR' ?_ ?_ | refine Le.bind' ?_ ?_ | refine Le.ite' ?_ ?_ | refine Le.loop' ?_ | refine Le.altS' ?_ ?_ | apply Io | exact Le.rfl' _ | (refine Le.pi2 ?_; intro _) | intro _)
def Hm (nE : Nat) (p0 : List (Int × Int × Int)) (p1 : Int × Int × Int × Int) : Option (List (Int × (Int × Int × Int × Int))) := (Ev nE (FT nE p0 p1) ([], 0, p1.1, p1.2.1, p1.2.2.1, p1.2.2.2)).bind fun (x1, x2, x3, x4, x5) => some x1
theorem JY (nE : Nat) (p0 : List (Int × Int × Int)) (p1 : Int × Int × Int × Int) : Le (Hm nE p0 p1) (FX p0 p1) := by
  unfold Hm FX
  repeat' with_reducible (first | refine Le.orR' ?_ ?_ | refine Le.bind' ?_ ?_ | refine Le.ite' ?_ ?_ | refine Le.loop' ?_ | refine Le.altS' ?_ ?_ | apply Iz | exact Le.rfl' _ | (refine Le.pi2 ?_; intro _) | intro _)
def Gd (nE : Nat) (p0 : List (Int × (Int × (Int × Int × Int × Int) × (Int × Int × Int × Int)) × (List (Int × Int × Int)))) (p1 : Int) (p2 : Int × Int × Int × Int) : Option (List (Int × (Int × Int × Int × Int))) := (EY nE p0 p1 p2).bind fun x1 => (if x1 < 0 then some ([] : List (Int × (Int × Int × Int × Int))) else (ix p0 x1).bind fun x2 => (Hm nE x2.2.2 p2).bind fun x3 => some x3)
theorem Ja (nE : Nat) (p0 : List (Int × (Int × (Int × Int × Int × Int) × (Int × Int × Int × Int)) × (List (Int × Int × Int)))) (p1 : Int) (p2 : Int × Int × Int × Int) : Le (Gd nE p0 p1 p2) (DR p0 p1 p2) := by
  unfold Gd DR
  repeat' with_reducible (first | refine Le.orR' ?_ ?_ | refine Le.bind' ?_ ?_ | refine Le.ite' ?_ ?_ | refine Le.loop' ?_ | refine Le.altS' ?_ ?_ | apply GE | apply JY | exact Le.rfl' _ | (refine Le.pi2 ?_; intro _) | intro _)
def Ht (nE : Nat)  : Option Bool := (F4 nE 1 3 20 2).bind fun x1 => (FZ nE ([] : List (Int × (Int × (Int × Int × Int × Int) × (Int × Int × Int × Int)) × (List (Int × Int × Int)))) ([(1, (10, Ac, ([(2, 0, 1)] : List (Int × Int × Int))), false), (1, x1, false)] : List (Int × (Int × (Int × (Int × Int × Int × Int) × (Int × Int × Int × Int)) × (List (Int × Int × Int))) × Bool)) 4 9).bind fun x2 => (Gd nE x2.1 0 (1, 3, 0, 0)).bind fun x3 => (if (x2.1.length : Int) = 2 then (if x2.2.1 = (-1) then (if x2.2.2 = 0 then (ix x2.1 0).bind fun x5 => (if x5.1 = 20 then (if (x3.length : Int) = 1 then (ix x3 0).bind fun x6 => (if x6.1 = 2 then (EY nE x2.1 0 (0, 0, 0, 0)).bind fun x7 => some (decide (x7 = 1)) else some false) else some false) else some false) else some false) else some false) else some false).bind fun x4 => some x4
theorem IY (nE : Nat)  : Le (Ht nE ) (DS ) := by
  unfold Ht DS
  repeat' with_reducible (first | refine Le.orR' ?_ ?_ | refine Le.bind' ?_ ?_ | refine Le.ite' ?_ ?_ | refine Le.loop' ?_ | refine Le.altS' ?_ ?_ | apply Iy | apply Is | apply GE | apply Ja | exact Le.rfl' _ | (refine Le.pi2 ?_; intro _) | intro _)
theorem Me : DS = some true := IY 60 _ (by kernel_rfl)
end Go.Proofs.Ytkjjioigbpkifaa
