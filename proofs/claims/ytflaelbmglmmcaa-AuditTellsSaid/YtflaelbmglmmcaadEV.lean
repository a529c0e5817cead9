/- Twins with fuel of FF functions: what a twin answers, the function answers. Conditions: none. -/
import Derived.Test.YtflaelbmglmmcaadLP
import Derived.Test.YtflaelbmglmmcaadA3
namespace Go.Proofs.Ytflaelbmglmmcaa
open Go Go.RowKit
set_option linter.unusedVariables false
set_option linter.unusedSimpArgs false
set_option maxRecDepth 20000
set_option maxHeartbeats 1600000
abbrev Le {α : Type} (a b : Option α) : Prop := ∀ r, a = some r → b = some r
theorem Le.rfl' {α : Type} (a : Option α) : Le a a := fun _ h => h
theorem Le.bind' {α β : Type} {a b : Option α} {f g : α → Option β} (h : Le a b) (hf : ∀ x, Le (f x) (g x)) : Le (a.bind f) (b.bind g) := fun r e => by
  obtain ⟨x, h1, h2⟩ := An e
  rw [h x h1, Option.bind_some]; exact hf x r h2
theorem Le.ite' {α : Type} {c : Prop} [Decidable c] {a a' b b' : Option α} (h1 : Le a a') (h2 : Le b b') : Le (if c then a else b) (if c then a' else b') := fun r e => by
  by_cases h : c
  · rw [if_pos h] at e ⊢; exact h1 r e
  · rw [if_neg h] at e ⊢; exact h2 r e
theorem Le.orR' {α β : Type} {a b : Option (α ⊕ β)} {f g : α → Option β} (h : Le a b) (hf : ∀ x, Le (f x) (g x)) : Le (D6 a f) (D6 b g) :=
  Le.bind' h fun x => by
    cases x with
    | inl t => exact hf t
    | inr e => exact Le.rfl' _
def Es {σ ε : Type} (n : Nat) (step : σ → Option (σ ⊕ ε)) (s : σ) : Option ε := Fp step n s
theorem Jf {σ ε : Type} {S T : σ → Option (σ ⊕ ε)} (h : ∀ s, Le (S s) (T s)) : ∀ (n : Nat) (s : σ), Le (Fp S n s) (Fp T n s)
  | 0, s => Le.rfl' _
  | n + 1, s => fun r e => by
    unfold Fp at e ⊢
    cases hs : S s with
    | none => rw [hs] at e; cases e
    | some q =>
      rw [hs] at e; rw [h s q hs]
      cases q with
      | inl s' => exact Jf h n s' r e
      | inr _ => exact e
theorem Le.loop' {σ ε : Type} {n : Nat} {S T : σ → Option (σ ⊕ ε)} {s : σ} (h : ∀ s, Le (S s) (T s)) : Le (Es n S s) (AM T s) := fun r e => Gj.2 ⟨n, Jf h n s r e⟩
theorem Le.pi2 {α β γ : Type} {f g : α × β → Option γ} (h : ∀ a b, Le (f (a, b)) (g (a, b))) : ∀ x, Le (f x) (g x) := fun x => h x.1 x.2
theorem Le.altS' {α β γ : Type} {y : α ⊕ β} {f f' : α → Option γ} {g g' : β → Option γ} (h : ∀ x, Le (f x) (f' x)) (k : ∀ x, Le (g x) (g' x)) : Le (PX y f g) (PX y f' g') := by
  cases y with
  | inl x => exact h x
  | inr x => exact k x
theorem Le.foldW' {α σ ε : Type} {S T : α → σ → Option (σ ⊕ ε)} (h : ∀ x s, Le (S x s) (T x s)) : ∀ (L : List α) (s : σ), Le (Fm S L s) (Fm T L s)
  | [], s => Le.rfl' _
  | x :: L, s => by
    show Le ((S x s).bind _) ((T x s).bind _)
    refine Le.bind' (h x s) fun o => ?_
    cases o with
    | inl s' => exact Le.foldW' h L s'
    | inr e => exact Le.rfl' _
def BI (nE : Nat)  : ((List (Int × Int × Int)) × Int × Int) → Option (((List (Int × Int × Int)) × Int × Int) ⊕ (List (Int × Int × Int)))
  | (x1, x2, x3) => (if x2 < x3 then (ix x1 x3).bind fun x4 => (ix x1 x2).bind fun x5 => (ix x1 x2).bind fun x6 => (ix (Aw x1 x2 x4) x3).bind fun x7 => some (.inl ((Aw (Aw x1 x2 x4) x3 x5), Dz (x2 + 1), Dz (x3 - 1))) else some (.inr x1))
theorem Df (nE : Nat)  : ∀ s, Le (BI nE  s) (AY  s) := by
  rintro ⟨x1, x2, x3⟩
  unfold BI AY
  repeat' with_reducible (first | refine Le.orR' ?_ ?_ | refine Le.bind' ?_ ?_ | refine Le.ite' ?_ ?_ | refine Le.loop' ?_ | refine Le.altS' ?_ ?_ | exact Le.rfl' _ | (refine Le.pi2 ?_; intro _) | intro _)
def BO (nE : Nat) (p0 : List (Int × Int × Int)) : Option (List (Int × Int × Int)) := Es nE (BI nE) (p0, 0, Dz ((p0.length : Int) - 1))
theorem Dv (nE : Nat) (p0 : List (Int × Int × Int)) : Le (BO nE p0) (AP p0) := by
  unfold BO AP
  repeat' with_reducible (first | refine Le.orR' ?_ ?_ | refine Le.bind' ?_ ?_ | refine Le.ite' ?_ ?_ | refine Le.loop' ?_ | refine Le.altS' ?_ ?_ | apply Df | exact Le.rfl' _ | (refine Le.pi2 ?_; intro _) | intro _)
def Er (nE : Nat) (p0 : List (Int × Int × Int × Int × Int × Int)) (x2 : Int × Int × Int × Int × Int × Int × Int) : ((List (Int × Int × Int)) × (List (Int × Int))) → Option (((List (Int × Int × Int)) × (List (Int × Int))) ⊕ (List (Int × Int × Int)))
  | (x3, x4) => (if x2.2.1 = 9 then some true else some (decide (x2.2.1 = 10))).bind fun x5 => (if x5 = true then some (.inl (x3, C5 x4 x2.2.2.2.1 x2.1)) else (if x2.2.1 = 8 then (if ((C2 x4 x2.2.2.2.1).isSome) = true then (ix p0 ((C2 x4 x2.2.2.2.1).getD 0)).bind fun x7 => some (Ck x2.2 x7) else some 1125899906842624).bind fun x6 => (FR x3 ([(x2.2.2.2.1, x2.2.2.2.2.2.1, x6)] : List (Int × Int × Int))).bind fun x8 => some (.inl (x8, x4)) else some (.inl (x3, x4))))
theorem Hu (nE : Nat) (p0 : List (Int × Int × Int × Int × Int × Int)) (x2 : Int × Int × Int × Int × Int × Int × Int) : ∀ s, Le (Er nE p0 x2 s) (CB p0 x2 s) := by
  rintro ⟨x3, x4⟩
  unfold Er CB
  repeat' with_reducible (first | refine Le.orR' ?_ ?_ | refine Le.bind' ?_ ?_ | refine Le.ite' ?_ ?_ | refine Le.loop' ?_ | refine Le.altS' ?_ ?_ | exact Le.rfl' _ | (refine Le.pi2 ?_; intro _) | intro _)
def FI (nE : Nat) (p0 : List (Int × Int × Int × Int × Int × Int)) : Option (List (Int × Int × Int)) := (back p0).bind fun x1 => D6 (Fm (Er nE p0) x1 ([], ([] : List (Int × Int)))) fun (x3, x4) => (BO nE x3).bind fun x9 => some x9
theorem IE (nE : Nat) (p0 : List (Int × Int × Int × Int × Int × Int)) : Le (FI nE p0) (CZ p0) := by
  unfold FI CZ
  repeat' with_reducible (first | refine Le.orR' ?_ ?_ | refine Le.bind' ?_ ?_ | refine Le.ite' ?_ ?_ | refine Le.loop' ?_ | refine Le.altS' ?_ ?_ | refine Le.foldW' ?_ _ _ | apply Dv | apply Hu | exact Le.rfl' _ | (refine Le.pi2 ?_; intro _) | intro _)
def Fj (nE : Nat) (x1 : (List (Int × Int × Int))) (x6 : Int × Int × Int × Int × Int × Int) : (Int × (List (Int × Int))) → Option ((Int × (List (Int × Int))) ⊕ (List (Int × Int)))
  | (x7, x8) => (if x7 < (x1.length : Int) then ((ix x1 x7).bind fun x10 => (if x10.1 = x6.2.2.1 then (FR x8 ([(x6.2.2.2.2.1, x10.2.2)] : List (Int × Int))).bind fun x11 => some x11 else some x8)).bind fun x9 => some (.inl (Dz (x7 + 1), x9)) else some (.inr x8))
theorem Ig (nE : Nat) (x1 : (List (Int × Int × Int))) (x6 : Int × Int × Int × Int × Int × Int) : ∀ s, Le (Fj nE x1 x6 s) (Cq x1 x6 s) := by
  rintro ⟨x7, x8⟩
  unfold Fj Cq
  repeat' with_reducible (first | refine Le.orR' ?_ ?_ | refine Le.bind' ?_ ?_ | refine Le.ite' ?_ ?_ | refine Le.loop' ?_ | refine Le.altS' ?_ ?_ | exact Le.rfl' _ | (refine Le.pi2 ?_; intro _) | intro _)
def Fh (nE : Nat) (p0 : List (Int × Int × Int × Int × Int × Int)) (x1 : (List (Int × Int × Int))) : (Int × (List (Int × Int))) → Option ((Int × (List (Int × Int))) ⊕ (List (Int × Int)))
  | (x3, x4) => (if x3 < (p0.length : Int) then ((ix p0 x3).bind fun x6 => (if x6.1 ≠ 9 then some x4 else Es nE (Fj nE x1 x6) (0, x4))).bind fun x5 => some (.inl (Dz (x3 + 1), x5)) else some (.inr x4))
theorem H1 (nE : Nat) (p0 : List (Int × Int × Int × Int × Int × Int)) (x1 : (List (Int × Int × Int))) : ∀ s, Le (Fh nE p0 x1 s) (Cp p0 x1 s) := by
  rintro ⟨x3, x4⟩
  unfold Fh Cp
  repeat' with_reducible (first | refine Le.orR' ?_ ?_ | refine Le.bind' ?_ ?_ | refine Le.ite' ?_ ?_ | refine Le.loop' ?_ | refine Le.altS' ?_ ?_ | apply Ig | exact Le.rfl' _ | (refine Le.pi2 ?_; intro _) | intro _)
def Gy (nE : Nat) (p0 : List (Int × Int × Int × Int × Int × Int)) : Option ((List (Int × Int × Int)) × (List (Int × Int))) := (FI nE p0).bind fun x1 => (Es nE (Fh nE p0 x1) (0, [])).bind fun x2 => some (x1, x2)
theorem JZ (nE : Nat) (p0 : List (Int × Int × Int × Int × Int × Int)) : Le (Gy nE p0) (Dr p0) := by
  unfold Gy Dr
  repeat' with_reducible (first | refine Le.orR' ?_ ?_ | refine Le.bind' ?_ ?_ | refine Le.ite' ?_ ?_ | refine Le.loop' ?_ | refine Le.altS' ?_ ?_ | apply IE | apply H1 | exact Le.rfl' _ | (refine Le.pi2 ?_; intro _) | intro _)
def ED (nE : Nat) (p0 : (List (Int × Int × Int × Int × (Nat × List Int) × Int × Int × Int)) × (List (Int × Int)) × List Int) (p1 : Int × Int × Int × Int × Int × Int) : Option ((List (Int × Int × Int × Int × (Nat × List Int) × Int × Int × Int)) × (List (Int × Int)) × List Int) := (FR p0.2.2 ([(AJ p0 p1.2.2.1)] : List Int)).bind fun x1 => (FR p0.1 ([(p1.2.2.1, p1.2.2.2.2.1, p1.2.2.2.2.2, p1.2.1, (2, []), 0, 0, p1.2.1)] : List (Int × Int × Int × Int × (Nat × List Int) × Int × Int × Int))).bind fun x2 => some (x2, C5 p0.2.1 p1.2.2.1 (p0.1.length : Int), x1)
theorem Hn (nE : Nat) (p0 : (List (Int × Int × Int × Int × (Nat × List Int) × Int × Int × Int)) × (List (Int × Int)) × List Int) (p1 : Int × Int × Int × Int × Int × Int) : Le (ED nE p0 p1) (CV p0 p1) := by
  unfold ED CV
  repeat' with_reducible (first | refine Le.orR' ?_ ?_ | refine Le.bind' ?_ ?_ | refine Le.ite' ?_ ?_ | refine Le.loop' ?_ | refine Le.altS' ?_ ?_ | exact Le.rfl' _ | (refine Le.pi2 ?_; intro _) | intro _)
def DY (nE : Nat) (p0 : (List (Int × Int × Int × Int × (Nat × List Int) × Int × Int × Int)) × (List (Int × Int)) × List Int) (p1 : Int) (p2 : Int × Int × Int × Int × Int × Int) : Option ((List (Int × Int × Int × Int × (Nat × List Int) × Int × Int × Int)) × (List (Int × Int)) × List Int) := (ix p0.1 p1).bind fun x1 => (ix p0.1 p1).bind fun x2 => (if p2.1 = 2 then (ix (Aw p0.1 p1 (x2.1, x2.2.1, x2.2.2.1, x2.2.2.2.1, x2.2.2.2.2.1, x2.2.2.2.2.2.1, x2.2.2.2.2.2.2.1, p2.2.1)) p1).bind fun x3 => (Mf x3.2.2.2.2.1.1).bind fun x4 => (FR x3.2.2.2.2.1.2 ([p2.2.2.2.1] : List Int)).bind fun x5 => (ix (Aw (Aw p0.1 p1 (x2.1, x2.2.1, x2.2.2.1, x2.2.2.2.1, x2.2.2.2.2.1, x2.2.2.2.2.2.1, x2.2.2.2.2.2.2.1, p2.2.1)) p1 (x3.1, x3.2.1, x3.2.2.1, x3.2.2.2.1, (0, []), x3.2.2.2.2.2.1, x3.2.2.2.2.2.2.1, x3.2.2.2.2.2.2.2)) p1).bind fun x6 => some ((Aw (Aw (Aw p0.1 p1 (x2.1, x2.2.1, x2.2.2.1, x2.2.2.2.1, x2.2.2.2.2.1, x2.2.2.2.2.2.1, x2.2.2.2.2.2.2.1, p2.2.1)) p1 (x3.1, x3.2.1, x3.2.2.1, x3.2.2.2.1, (0, []), x3.2.2.2.2.2.1, x3.2.2.2.2.2.2.1, x3.2.2.2.2.2.2.2)) p1 (x6.1, x6.2.1, x6.2.2.1, x6.2.2.2.1, (2, x5), x6.2.2.2.2.2.1, x6.2.2.2.2.2.2.1, x6.2.2.2.2.2.2.2)), p0.2.1, p0.2.2) else (ix (Aw p0.1 p1 (x2.1, x2.2.1, x2.2.2.1, x2.2.2.2.1, x2.2.2.2.2.1, x2.2.2.2.2.2.1, x2.2.2.2.2.2.2.1, p2.2.1)) p1).bind fun x7 => (if p2.1 = 3 then (ix (Aw (Aw p0.1 p1 (x2.1, x2.2.1, x2.2.2.1, x2.2.2.2.1, x2.2.2.2.2.1, x2.2.2.2.2.2.1, x2.2.2.2.2.2.2.1, p2.2.1)) p1 (x7.1, x7.2.1, x7.2.2.1, x7.2.2.2.1, x7.2.2.2.2.1, p2.1, x7.2.2.2.2.2.2.1, x7.2.2.2.2.2.2.2)) p1).bind fun x9 => some (Aw (Aw (Aw p0.1 p1 (x2.1, x2.2.1, x2.2.2.1, x2.2.2.2.1, x2.2.2.2.2.1, x2.2.2.2.2.2.1, x2.2.2.2.2.2.2.1, p2.2.1)) p1 (x7.1, x7.2.1, x7.2.2.1, x7.2.2.2.1, x7.2.2.2.2.1, p2.1, x7.2.2.2.2.2.2.1, x7.2.2.2.2.2.2.2)) p1 (x9.1, x9.2.1, x9.2.2.1, x9.2.2.2.1, x9.2.2.2.2.1, x9.2.2.2.2.2.1, p2.2.2.2.2.1, x9.2.2.2.2.2.2.2)) else some (Aw (Aw p0.1 p1 (x2.1, x2.2.1, x2.2.2.1, x2.2.2.2.1, x2.2.2.2.2.1, x2.2.2.2.2.2.1, x2.2.2.2.2.2.2.1, p2.2.1)) p1 (x7.1, x7.2.1, x7.2.2.1, x7.2.2.2.1, x7.2.2.2.2.1, p2.1, x7.2.2.2.2.2.2.1, x7.2.2.2.2.2.2.2))).bind fun x8 => (ix p0.2.2 p1).bind fun x10 => some (x8, C5 p0.2.1 p2.2.2.1 x10, p0.2.2))
theorem GU (nE : Nat) (p0 : (List (Int × Int × Int × Int × (Nat × List Int) × Int × Int × Int)) × (List (Int × Int)) × List Int) (p1 : Int) (p2 : Int × Int × Int × Int × Int × Int) : Le (DY nE p0 p1 p2) (Cc p0 p1 p2) := by
  unfold DY Cc
  repeat' with_reducible (first | refine Le.orR' ?_ ?_ | refine Le.bind' ?_ ?_ | refine Le.ite' ?_ ?_ | refine Le.loop' ?_ | refine Le.altS' ?_ ?_ | exact Le.rfl' _ | (refine Le.pi2 ?_; intro _) | intro _)
def EA (nE : Nat) (p0 : (List (Int × Int × Int × Int × (Nat × List Int) × Int × Int × Int)) × (List (Int × Int)) × List Int) (p1 : Int × Int × Int × Int × Int × Int) : Option ((List (Int × Int × Int × Int × (Nat × List Int) × Int × Int × Int)) × (List (Int × Int)) × List Int) := (if p1.1 = 1 then (ED nE p0 p1).bind fun x1 => some x1 else (if p1.1 = 2 then some true else (if p1.1 = 3 then some true else some (decide (p1.1 = 4)))).bind fun x2 => (if x2 = true then (if (AJ p0 p1.2.2.1) ≠ (-1) then (DY nE p0 (AJ p0 p1.2.2.1) p1).bind fun x3 => some x3 else some p0) else some p0))
theorem Hv (nE : Nat) (p0 : (List (Int × Int × Int × Int × (Nat × List Int) × Int × Int × Int)) × (List (Int × Int)) × List Int) (p1 : Int × Int × Int × Int × Int × Int) : Le (EA nE p0 p1) (Cz p0 p1) := by
  unfold EA Cz
  repeat' with_reducible (first | refine Le.orR' ?_ ?_ | refine Le.bind' ?_ ?_ | refine Le.ite' ?_ ?_ | refine Le.loop' ?_ | refine Le.altS' ?_ ?_ | apply Hn | apply GU | exact Le.rfl' _ | (refine Le.pi2 ?_; intro _) | intro _)
def F4 (nE : Nat) (p0 : List (Int × Int × Int × Int × Int × Int)) : (Int × (List (Int × Int × Int × Int × (Nat × List Int) × Int × Int × Int)) × List Int × (List (Int × Int))) → Option ((Int × (List (Int × Int × Int × Int × (Nat × List Int) × Int × Int × Int)) × List Int × (List (Int × Int))) ⊕ ((List (Int × Int × Int × Int × (Nat × List Int) × Int × Int × Int)) × List Int × (List (Int × Int))))
  | (x4, x5, x6, x7) => (if x4 < (p0.length : Int) then (ix p0 x4).bind fun x8 => (EA nE (x5, x7, x6) x8).bind fun x9 => some (.inl (Dz (x4 + 1), x9.1, x9.2.2, x9.2.1)) else some (.inr (x5, x6, x7)))
theorem Jy (nE : Nat) (p0 : List (Int × Int × Int × Int × Int × Int)) : ∀ s, Le (F4 nE p0 s) (Dm p0 s) := by
  rintro ⟨x4, x5, x6, x7⟩
  unfold F4 Dm
  repeat' with_reducible (first | refine Le.orR' ?_ ?_ | refine Le.bind' ?_ ?_ | refine Le.ite' ?_ ?_ | refine Le.loop' ?_ | refine Le.altS' ?_ ?_ | apply Hv | exact Le.rfl' _ | (refine Le.pi2 ?_; intro _) | intro _)
def Hp (nE : Nat) (p0 : List (Int × Int × Int × Int × Int × Int)) : Option (List (Int × Int × Int × Int × List Int × Int × Int × Int)) := (Es nE (F4 nE p0) (0, [], [], ([] : List (Int × Int)))).bind fun (x1, x2, x3) => (FZ MX x1).bind fun x10 => some x10
theorem Lj (nE : Nat) (p0 : List (Int × Int × Int × Int × Int × Int)) : Le (Hp nE p0) (FP p0) := by
  unfold Hp FP
  repeat' with_reducible (first | refine Le.orR' ?_ ?_ | refine Le.bind' ?_ ?_ | refine Le.ite' ?_ ?_ | refine Le.loop' ?_ | refine Le.altS' ?_ ?_ | apply Jy | exact Le.rfl' _ | (refine Le.pi2 ?_; intro _) | intro _)
def EW (nE : Nat) (p0 : Int × Int × Int × Int × List Int × Int × Int × Int) : (Int × (List (Int × Unit))) → Option ((Int × (List (Int × Unit))) ⊕ (List (Int × Unit)))
  | (x2, x3) => (if x2 < (p0.2.2.2.2.1.length : Int) then (ix p0.2.2.2.2.1 x2).bind fun x4 => some (.inl (Dz (x2 + 1), C5 x3 x4 ())) else some (.inr x3))
theorem HI (nE : Nat) (p0 : Int × Int × Int × Int × List Int × Int × Int × Int) : ∀ s, Le (EW nE p0 s) (Cu p0 s) := by
  rintro ⟨x2, x3⟩
  unfold EW Cu
  repeat' with_reducible (first | refine Le.orR' ?_ ?_ | refine Le.bind' ?_ ?_ | refine Le.ite' ?_ ?_ | refine Le.loop' ?_ | refine Le.altS' ?_ ?_ | exact Le.rfl' _ | (refine Le.pi2 ?_; intro _) | intro _)
def Gb (nE : Nat) (p0 : Int × Int × Int × Int × List Int × Int × Int × Int) : Option Bool := (Es nE (EW nE p0) (0, ([] : List (Int × Unit)))).bind fun x1 => some (decide ((x1.length : Int) < (p0.2.2.2.2.1.length : Int)))
theorem I6 (nE : Nat) (p0 : Int × Int × Int × Int × List Int × Int × Int × Int) : Le (Gb nE p0) (Dl p0) := by
  unfold Gb Dl
  repeat' with_reducible (first | refine Le.orR' ?_ ?_ | refine Le.bind' ?_ ?_ | refine Le.ite' ?_ ?_ | refine Le.loop' ?_ | refine Le.altS' ?_ ?_ | apply HI | exact Le.rfl' _ | (refine Le.pi2 ?_; intro _) | intro _)
def BB (nE : Nat) (p0 : List (Int × Int × Int)) (p1c0 : Int) : Int → Option (Int ⊕ (Unit ⊕ Int))
  | x1 => (if x1 < (p0.length : Int) then (ix p0 x1).bind fun x2 => (if (Bw x2 p1c0) = true then some (.inr (.inr x1)) else some (.inl (Dz (x1 + 1)))) else some (.inr (.inl ())))
theorem C7 (nE : Nat) (p0 : List (Int × Int × Int)) (p1c0 : Int) : ∀ s, Le (BB nE p0 p1c0 s) (AC p0 p1c0 s) := by
  intro x1
  unfold BB AC
  repeat' with_reducible (first | refine Le.orR' ?_ ?_ | refine Le.bind' ?_ ?_ | refine Le.ite' ?_ ?_ | refine Le.loop' ?_ | refine Le.altS' ?_ ?_ | exact Le.rfl' _ | (refine Le.pi2 ?_; intro _) | intro _)
def BK (nE : Nat) (p0 : List (Int × Int × Int)) (p1c0 : Int) : Option Int := D6 (Es nE (BB nE p0 p1c0) 0) fun _ => some (-1)
theorem Dj (nE : Nat) (p0 : List (Int × Int × Int)) (p1c0 : Int) : Le (BK nE p0 p1c0) (AZ p0 p1c0) := by
  unfold BK AZ
  repeat' with_reducible (first | refine Le.orR' ?_ ?_ | refine Le.bind' ?_ ?_ | refine Le.ite' ?_ ?_ | refine Le.loop' ?_ | refine Le.altS' ?_ ?_ | apply C7 | exact Le.rfl' _ | (refine Le.pi2 ?_; intro _) | intro _)
def BC (nE : Nat) (p0 : List (Int × Int × Int)) (p1c0 : Int) : Option Bool := (BK nE p0 p1c0).bind fun x1 => some (decide (0 ≤ x1))
theorem C3 (nE : Nat) (p0 : List (Int × Int × Int)) (p1c0 : Int) : Le (BC nE p0 p1c0) (AS p0 p1c0) := by
  unfold BC AS
  repeat' with_reducible (first | refine Le.orR' ?_ ?_ | refine Le.bind' ?_ ?_ | refine Le.ite' ?_ ?_ | refine Le.loop' ?_ | refine Le.altS' ?_ ?_ | apply Dj | exact Le.rfl' _ | (refine Le.pi2 ?_; intro _) | intro _)
def CT (nE : Nat) (p0 : (List (Int × Int × Int)) × (List (Int × Int))) (p1 : Int) : Option Bool := (BC nE p0.1 p1).bind fun x1 => some x1
theorem FO (nE : Nat) (p0 : (List (Int × Int × Int)) × (List (Int × Int))) (p1 : Int) : Le (CT nE p0 p1) (Bh p0 p1) := by
  unfold CT Bh
  repeat' with_reducible (first | refine Le.orR' ?_ ?_ | refine Le.bind' ?_ ?_ | refine Le.ite' ?_ ?_ | refine Le.loop' ?_ | refine Le.altS' ?_ ?_ | apply C3 | exact Le.rfl' _ | (refine Le.pi2 ?_; intro _) | intro _)
def CP (nE : Nat) (p1 : Int) (x2 : Int × Int × Int) : Unit → Option (Unit ⊕ Int)
  | _ => (if x2.2.2 < p1 then some (.inr x2.2.1) else some (.inl ()))
theorem Ft (nE : Nat) (p1 : Int) (x2 : Int × Int × Int) : ∀ s, Le (CP nE p1 x2 s) (Bo p1 x2 s) := by
  intro s
  unfold CP Bo
  repeat' with_reducible (first | refine Le.orR' ?_ ?_ | refine Le.bind' ?_ ?_ | refine Le.ite' ?_ ?_ | refine Le.loop' ?_ | refine Le.altS' ?_ ?_ | exact Le.rfl' _ | (refine Le.pi2 ?_; intro _) | intro _)
def Dd (nE : Nat) (p0 : (List (Int × Int × Int)) × (List (Int × Int))) (p1 : Int) : Option Int := (back p0.2).bind fun x1 => D6 (Fm (CP nE p1) x1 ()) fun _ => some 0
theorem F2 (nE : Nat) (p0 : (List (Int × Int × Int)) × (List (Int × Int))) (p1 : Int) : Le (Dd nE p0 p1) (Bq p0 p1) := by
  unfold Dd Bq
  repeat' with_reducible (first | refine Le.orR' ?_ ?_ | refine Le.bind' ?_ ?_ | refine Le.ite' ?_ ?_ | refine Le.loop' ?_ | refine Le.altS' ?_ ?_ | refine Le.foldW' ?_ _ _ | apply Ft | exact Le.rfl' _ | (refine Le.pi2 ?_; intro _) | intro _)
def EX (nE : Nat) (p0 : Int × (List (Int × Int × Int × Int × Int × Int)) × (List (Int × Int))) : ((List (Int × Int)) × Int) → Option (((List (Int × Int)) × Int) ⊕ (List (Int × Int)))
  | (x2, x3) => (if x3 < (p0.2.1.length : Int) then (ix p0.2.1 x3).bind fun x4 => (FR x2 ([(x4.1, x4.2.1), (x4.2.2.1, x4.2.2.2.1)] : List (Int × Int))).bind fun x5 => some (.inl (x5, Dz (x3 + 1))) else some (.inr x2))
theorem HT (nE : Nat) (p0 : Int × (List (Int × Int × Int × Int × Int × Int)) × (List (Int × Int))) : ∀ s, Le (EX nE p0 s) (Cr p0 s) := by
  rintro ⟨x2, x3⟩
  unfold EX Cr
  repeat' with_reducible (first | refine Le.orR' ?_ ?_ | refine Le.bind' ?_ ?_ | refine Le.ite' ?_ ?_ | refine Le.loop' ?_ | refine Le.altS' ?_ ?_ | exact Le.rfl' _ | (refine Le.pi2 ?_; intro _) | intro _)
def EY (nE : Nat) (p0 : Int × (List (Int × Int × Int × Int × Int × Int)) × (List (Int × Int))) : ((List (Int × Int)) × Int) → Option (((List (Int × Int)) × Int) ⊕ (List (Int × Int)))
  | (x7, x8) => (if x8 < (p0.2.2.length : Int) then (ix p0.2.2 x8).bind fun x9 => (FR x7 ([x9] : List (Int × Int))).bind fun x10 => some (.inl (x10, Dz (x8 + 1))) else some (.inr x7))
theorem HN (nE : Nat) (p0 : Int × (List (Int × Int × Int × Int × Int × Int)) × (List (Int × Int))) : ∀ s, Le (EY nE p0 s) (Cv p0 s) := by
  rintro ⟨x7, x8⟩
  unfold EY Cv
  repeat' with_reducible (first | refine Le.orR' ?_ ?_ | refine Le.bind' ?_ ?_ | refine Le.ite' ?_ ?_ | refine Le.loop' ?_ | refine Le.altS' ?_ ?_ | exact Le.rfl' _ | (refine Le.pi2 ?_; intro _) | intro _)
def F9 (nE : Nat) (p0 : Int × (List (Int × Int × Int × Int × Int × Int)) × (List (Int × Int))) : Option (List (Int × Int)) := (Es nE (EX nE p0) ([], 0)).bind fun x1 => (Es nE (EY nE p0) (x1, 0)).bind fun x6 => some x6
theorem Je (nE : Nat) (p0 : Int × (List (Int × Int × Int × Int × Int × Int)) × (List (Int × Int))) : Le (F9 nE p0) (DQ p0) := by
  unfold F9 DQ
  repeat' with_reducible (first | refine Le.orR' ?_ ?_ | refine Le.bind' ?_ ?_ | refine Le.ite' ?_ ?_ | refine Le.loop' ?_ | refine Le.altS' ?_ ?_ | apply HT | apply HN | exact Le.rfl' _ | (refine Le.pi2 ?_; intro _) | intro _)
def BQ (nE : Nat) (p0 : List (Int × Int × Int × Int × Int × Int)) : Int → Option (Int ⊕ (Unit ⊕ Int))
  | x1 => (if x1 < (p0.length : Int) then (ix p0 x1).bind fun x2 => (if (Bx x2) = true then some (.inr (.inr x1)) else some (.inl (Dz (x1 + 1)))) else some (.inr (.inl ())))
theorem DE (nE : Nat) (p0 : List (Int × Int × Int × Int × Int × Int)) : ∀ s, Le (BQ nE p0 s) (AG p0 s) := by
  intro x1
  unfold BQ AG
  repeat' with_reducible (first | refine Le.orR' ?_ ?_ | refine Le.bind' ?_ ?_ | refine Le.ite' ?_ ?_ | refine Le.loop' ?_ | refine Le.altS' ?_ ?_ | exact Le.rfl' _ | (refine Le.pi2 ?_; intro _) | intro _)
def BV (nE : Nat) (p0 : List (Int × Int × Int × Int × Int × Int)) : Option Int := D6 (Es nE (BQ nE p0) 0) fun _ => some (-1)
theorem DU (nE : Nat) (p0 : List (Int × Int × Int × Int × Int × Int)) : Le (BV nE p0) (Bg p0) := by
  unfold BV Bg
  repeat' with_reducible (first | refine Le.orR' ?_ ?_ | refine Le.bind' ?_ ?_ | refine Le.ite' ?_ ?_ | refine Le.loop' ?_ | refine Le.altS' ?_ ?_ | apply DE | exact Le.rfl' _ | (refine Le.pi2 ?_; intro _) | intro _)
def BP (nE : Nat) (p0 : List (Int × Int × Int × Int × Int × Int)) : Option Bool := (BV nE p0).bind fun x1 => some (decide (0 ≤ x1))
theorem DG (nE : Nat) (p0 : List (Int × Int × Int × Int × Int × Int)) : Le (BP nE p0) (AU p0) := by
  unfold BP AU
  repeat' with_reducible (first | refine Le.orR' ?_ ?_ | refine Le.bind' ?_ ?_ | refine Le.ite' ?_ ?_ | refine Le.loop' ?_ | refine Le.altS' ?_ ?_ | apply DU | exact Le.rfl' _ | (refine Le.pi2 ?_; intro _) | intro _)
def Fe (nE : Nat) (p0 : Int × (List (Int × Int × Int × Int × Int × Int)) × (List (Int × Int))) (x2 : (List (Int × Int))) : (Int × (List ((Int × Int) × Unit))) → Option ((Int × (List ((Int × Int) × Unit))) ⊕ ((List ((Int × Int) × Unit)) ⊕ Bool))
  | (x3, x4) => (if x3 < (x2.length : Int) then (ix x2 x3).bind fun x5 => (if (decide (x5.1 < 0) || (decide (p0.1 ≤ x5.1) || (decide (x5.2 < 0) || decide (8 ≤ x5.2)))) = true then some (.inr (.inr false)) else (if ((C2 x4 x5).isSome) = true then some (.inr (.inr false)) else some (.inl (Dz (x3 + 1), C5 x4 x5 ())))) else some (.inr (.inl x4)))
theorem H3 (nE : Nat) (p0 : Int × (List (Int × Int × Int × Int × Int × Int)) × (List (Int × Int))) (x2 : (List (Int × Int))) : ∀ s, Le (Fe nE p0 x2 s) (B1 p0 x2 s) := by
  rintro ⟨x3, x4⟩
  unfold Fe B1
  repeat' with_reducible (first | refine Le.orR' ?_ ?_ | refine Le.bind' ?_ ?_ | refine Le.ite' ?_ ?_ | refine Le.loop' ?_ | refine Le.altS' ?_ ?_ | exact Le.rfl' _ | (refine Le.pi2 ?_; intro _) | intro _)
def Gq (nE : Nat) (p0 : Int × (List (Int × Int × Int × Int × Int × Int)) × (List (Int × Int))) : Option Bool := (if (decide (p0.1 < 1) || (decide (8 < p0.1) || (decide (24 < (p0.2.1.length : Int)) || decide (8 < (p0.2.2.length : Int))))) = true then some false else D6 ((F9 nE p0).bind fun x2 => Es nE (Fe nE p0 x2) (0, ([] : List ((Int × Int) × Unit)))) fun x1 => (BP nE p0.2.1).bind fun x6 => some (!x6))
theorem JO (nE : Nat) (p0 : Int × (List (Int × Int × Int × Int × Int × Int)) × (List (Int × Int))) : Le (Gq nE p0) (D9 p0) := by
  unfold Gq D9
  repeat' with_reducible (first | refine Le.orR' ?_ ?_ | refine Le.bind' ?_ ?_ | refine Le.ite' ?_ ?_ | refine Le.loop' ?_ | refine Le.altS' ?_ ?_ | apply Je | apply DG | apply H3 | exact Le.rfl' _ | (refine Le.pi2 ?_; intro _) | intro _)
def Cs (nE : Nat) (p0 : List Int) : Int → Option (Int ⊕ (Unit ⊕ Int))
  | x1 => (if x1 < (p0.length : Int) then (ix p0 x1).bind fun x2 => (if (Ci x2) = true then some (.inr (.inr x1)) else some (.inl (Dz (x1 + 1)))) else some (.inr (.inl ())))
theorem EN (nE : Nat) (p0 : List Int) : ∀ s, Le (Cs nE p0 s) (AV p0 s) := by
  intro x1
  unfold Cs AV
  repeat' with_reducible (first | refine Le.orR' ?_ ?_ | refine Le.bind' ?_ ?_ | refine Le.ite' ?_ ?_ | refine Le.loop' ?_ | refine Le.altS' ?_ ?_ | exact Le.rfl' _ | (refine Le.pi2 ?_; intro _) | intro _)
def CL (nE : Nat) (p0 : List Int) : Option Int := D6 (Es nE (Cs nE p0) 0) fun _ => some (-1)
theorem Fq (nE : Nat) (p0 : List Int) : Le (CL nE p0) (BM p0) := by
  unfold CL BM
  repeat' with_reducible (first | refine Le.orR' ?_ ?_ | refine Le.bind' ?_ ?_ | refine Le.ite' ?_ ?_ | refine Le.loop' ?_ | refine Le.altS' ?_ ?_ | apply EN | exact Le.rfl' _ | (refine Le.pi2 ?_; intro _) | intro _)
def Cw (nE : Nat) (p0 : List Int) : Option Bool := (CL nE p0).bind fun x1 => some (decide (0 ≤ x1))
theorem EO (nE : Nat) (p0 : List Int) : Le (Cw nE p0) (Bm p0) := by
  unfold Cw Bm
  repeat' with_reducible (first | refine Le.orR' ?_ ?_ | refine Le.bind' ?_ ?_ | refine Le.ite' ?_ ?_ | refine Le.loop' ?_ | refine Le.altS' ?_ ?_ | apply Fq | exact Le.rfl' _ | (refine Le.pi2 ?_; intro _) | intro _)
def EM (nE : Nat) (p0 : Int × (List (Int × Int × Int × Int × Int × Int)) × (List (Int × Int))) (p1 : List (List Int)) : Int → Option (Int ⊕ (Unit ⊕ Bool))
  | x3 => (if x3 < (p1.length : Int) then (ix p1 x3).bind fun x4 => (if (x4.length : Int) ≠ (p0.2.2.length : Int) then some true else (Cw nE x4).bind fun x6 => some x6).bind fun x5 => (if x5 = true then some (.inr (.inr false)) else some (.inl (Dz (x3 + 1)))) else some (.inr (.inl ())))
theorem HV (nE : Nat) (p0 : Int × (List (Int × Int × Int × Int × Int × Int)) × (List (Int × Int))) (p1 : List (List Int)) : ∀ s, Le (EM nE p0 p1 s) (CM p0 p1 s) := by
  intro x3
  unfold EM CM
  repeat' with_reducible (first | refine Le.orR' ?_ ?_ | refine Le.bind' ?_ ?_ | refine Le.ite' ?_ ?_ | refine Le.loop' ?_ | refine Le.altS' ?_ ?_ | apply EO | exact Le.rfl' _ | (refine Le.pi2 ?_; intro _) | intro _)
def F5 (nE : Nat) (p0 : Int × (List (Int × Int × Int × Int × Int × Int)) × (List (Int × Int))) (p1 : List (List Int)) : Option Bool := ((Gq nE p0).bind fun x2 => (if (!x2) = true then some true else some (decide ((p1.length : Int) ≠ p0.1)))).bind fun x1 => (if x1 = true then some false else D6 (Es nE (EM nE p0 p1) 0) fun _ => some true)
theorem Ji (nE : Nat) (p0 : Int × (List (Int × Int × Int × Int × Int × Int)) × (List (Int × Int))) (p1 : List (List Int)) : Le (F5 nE p0 p1) (DM p0 p1) := by
  unfold F5 DM
  repeat' with_reducible (first | refine Le.orR' ?_ ?_ | refine Le.bind' ?_ ?_ | refine Le.ite' ?_ ?_ | refine Le.loop' ?_ | refine Le.altS' ?_ ?_ | apply JO | apply HV | exact Le.rfl' _ | (refine Le.pi2 ?_; intro _) | intro _)
def B0 (nE : Nat) (p0 : List (Int × Int)) (p1 : Int × Int) : Int → Option (Int ⊕ (Unit ⊕ Int))
  | x1 => (if x1 < (p0.length : Int) then (ix p0 x1).bind fun x2 => (if p1.1 = x2.1 ∧ p1.2 = x2.2 then some (.inr (.inr x1)) else some (.inl (Dz (x1 + 1)))) else some (.inr (.inl ())))
theorem DZ (nE : Nat) (p0 : List (Int × Int)) (p1 : Int × Int) : ∀ s, Le (B0 nE p0 p1 s) (AO p0 p1 s) := by
  intro x1
  unfold B0 AO
  repeat' with_reducible (first | refine Le.orR' ?_ ?_ | refine Le.bind' ?_ ?_ | refine Le.ite' ?_ ?_ | refine Le.loop' ?_ | refine Le.altS' ?_ ?_ | exact Le.rfl' _ | (refine Le.pi2 ?_; intro _) | intro _)
def Cd (nE : Nat) (p0 : List (Int × Int)) (p1 : Int × Int) : Option Int := D6 (Es nE (B0 nE p0 p1) 0) fun _ => some (-1)
theorem Ei (nE : Nat) (p0 : List (Int × Int)) (p1 : Int × Int) : Le (Cd nE p0 p1) (Bp p0 p1) := by
  unfold Cd Bp
  repeat' with_reducible (first | refine Le.orR' ?_ ?_ | refine Le.bind' ?_ ?_ | refine Le.ite' ?_ ?_ | refine Le.loop' ?_ | refine Le.altS' ?_ ?_ | apply DZ | exact Le.rfl' _ | (refine Le.pi2 ?_; intro _) | intro _)
def F3 (nE : Nat) (p0 : Int × (List (Int × Int × Int × Int × Int × Int)) × (List (Int × Int))) (p1 : Int) (p2 : Int) : Option Int := (Cd nE p0.2.2 (p1, p2)).bind fun x1 => some x1
theorem I8 (nE : Nat) (p0 : Int × (List (Int × Int × Int × Int × Int × Int)) × (List (Int × Int))) (p1 : Int) (p2 : Int) : Le (F3 nE p0 p1 p2) (Dk p0 p1 p2) := by
  unfold F3 Dk
  repeat' with_reducible (first | refine Le.orR' ?_ ?_ | refine Le.bind' ?_ ?_ | refine Le.ite' ?_ ?_ | refine Le.loop' ?_ | refine Le.altS' ?_ ?_ | apply Ei | exact Le.rfl' _ | (refine Le.pi2 ?_; intro _) | intro _)
def FJ (nE : Nat) (p0 : Int × (List (Int × Int × Int × Int × Int × Int)) × (List (Int × Int))) (p1 : Int) (p2 : Int) : Int → Option (Int ⊕ (Unit ⊕ (Int × Int × Int × Bool)))
  | x1 => (if x1 < (p0.2.1.length : Int) then (ix p0.2.1 x1).bind fun x2 => (if p1 = x2.1 ∧ p2 = x2.2.1 then some (.inr (.inr (x2.2.2.1, x2.2.2.2.1, x1, true))) else (if p1 = x2.2.2.1 ∧ p2 = x2.2.2.2.1 then some (.inr (.inr (x2.1, x2.2.1, x1, true))) else some (.inl (Dz (x1 + 1))))) else some (.inr (.inl ())))
theorem IR (nE : Nat) (p0 : Int × (List (Int × Int × Int × Int × Int × Int)) × (List (Int × Int))) (p1 : Int) (p2 : Int) : ∀ s, Le (FJ nE p0 p1 p2 s) (B5 p0 p1 p2 s) := by
  intro x1
  unfold FJ B5
  repeat' with_reducible (first | refine Le.orR' ?_ ?_ | refine Le.bind' ?_ ?_ | refine Le.ite' ?_ ?_ | refine Le.loop' ?_ | refine Le.altS' ?_ ?_ | exact Le.rfl' _ | (refine Le.pi2 ?_; intro _) | intro _)
def GI (nE : Nat) (p0 : Int × (List (Int × Int × Int × Int × Int × Int)) × (List (Int × Int))) (p1 : Int) (p2 : Int) : Option (Int × Int × Int × Bool) := D6 (Es nE (FJ nE p0 p1 p2) 0) fun _ => some (0, 0, 0, false)
theorem KL (nE : Nat) (p0 : Int × (List (Int × Int × Int × Int × Int × Int)) × (List (Int × Int))) (p1 : Int) (p2 : Int) : Le (GI nE p0 p1 p2) (Di p0 p1 p2) := by
  unfold GI Di
  repeat' with_reducible (first | refine Le.orR' ?_ ?_ | refine Le.bind' ?_ ?_ | refine Le.ite' ?_ ?_ | refine Le.loop' ?_ | refine Le.altS' ?_ ?_ | apply IR | exact Le.rfl' _ | (refine Le.pi2 ?_; intro _) | intro _)
def GC (nE : Nat) (p0 : Int × (List (Int × Int × Int × Int × Int × Int)) × (List (Int × Int))) (p1 : List (List Int)) (p2 : Int) (p3 : Int) : Option (Int × Bool) := (if p2 < 0 then some true else (if (p1.length : Int) ≤ p2 then some true else (if p3 < 0 then some true else (ix p1 p2).bind fun x2 => some (decide ((x2.length : Int) ≤ p3))))).bind fun x1 => (if x1 = true then some (0, false) else (ix p1 p2).bind fun x3 => (ix x3 p3).bind fun x4 => (GI nE p0 p2 x4).bind fun x5 => some (x5.1, x5.2.2.2))
theorem J2 (nE : Nat) (p0 : Int × (List (Int × Int × Int × Int × Int × Int)) × (List (Int × Int))) (p1 : List (List Int)) (p2 : Int) (p3 : Int) : Le (GC nE p0 p1 p2 p3) (D8 p0 p1 p2 p3) := by
  unfold GC D8
  repeat' with_reducible (first | refine Le.orR' ?_ ?_ | refine Le.bind' ?_ ?_ | refine Le.ite' ?_ ?_ | refine Le.loop' ?_ | refine Le.altS' ?_ ?_ | apply KL | exact Le.rfl' _ | (refine Le.pi2 ?_; intro _) | intro _)
def Dc (nE : Nat) (p0 : List Int) (p1 : Int) : Int → Option (Int ⊕ (Unit ⊕ Bool))
  | x1 => (if x1 < (p0.length : Int) then (ix p0 x1).bind fun x2 => (if p1 = x2 then some (.inr (.inr true)) else some (.inl (Dz (x1 + 1)))) else some (.inr (.inl ())))
theorem F7 (nE : Nat) (p0 : List Int) (p1 : Int) : ∀ s, Le (Dc nE p0 p1 s) (BN p0 p1 s) := by
  intro x1
  unfold Dc BN
  repeat' with_reducible (first | refine Le.orR' ?_ ?_ | refine Le.bind' ?_ ?_ | refine Le.ite' ?_ ?_ | refine Le.loop' ?_ | refine Le.altS' ?_ ?_ | exact Le.rfl' _ | (refine Le.pi2 ?_; intro _) | intro _)
def DN (nE : Nat) (p0 : List Int) (p1 : Int) : Option Bool := D6 (Es nE (Dc nE p0 p1) 0) fun _ => some false
theorem GG (nE : Nat) (p0 : List Int) (p1 : Int) : Le (DN nE p0 p1) (B7 p0 p1) := by
  unfold DN B7
  repeat' with_reducible (first | refine Le.orR' ?_ ?_ | refine Le.bind' ?_ ?_ | refine Le.ite' ?_ ?_ | refine Le.loop' ?_ | refine Le.altS' ?_ ?_ | apply F7 | exact Le.rfl' _ | (refine Le.pi2 ?_; intro _) | intro _)
def Fd (nE : Nat) (p0 : Int × (List (Int × Int × Int × Int × Int × Int)) × (List (Int × Int))) (p1 : List (List Int)) (p3 : Int) : (Int × List Int) → Option ((Int × List Int) ⊕ ((List Int) ⊕ (List Int × Int)))
  | (x2, x3) => (ix p1 x2).bind fun x4 => (ix x4 p3).bind fun x5 => (F3 nE p0 x2 x5).bind fun x6 => (if x6 ≠ p3 then (GC nE p0 p1 x2 p3).bind fun x7 => (if (!x7.2) = true then some (.inr (.inr (([] : List Int), 13))) else (DN nE x3 x7.1).bind fun x8 => (if x8 = true then some (.inr (.inr (([] : List Int), 12))) else (FR x3 ([x7.1] : List Int)).bind fun x9 => some (.inl (x7.1, x9)))) else some (.inr (.inl x3)))
theorem HZ (nE : Nat) (p0 : Int × (List (Int × Int × Int × Int × Int × Int)) × (List (Int × Int))) (p1 : List (List Int)) (p3 : Int) : ∀ s, Le (Fd nE p0 p1 p3 s) (Cn p0 p1 p3 s) := by
  rintro ⟨x2, x3⟩
  unfold Fd Cn
  repeat' with_reducible (first | refine Le.orR' ?_ ?_ | refine Le.bind' ?_ ?_ | refine Le.ite' ?_ ?_ | refine Le.loop' ?_ | refine Le.altS' ?_ ?_ | apply I8 | apply J2 | apply GG | exact Le.rfl' _ | (refine Le.pi2 ?_; intro _) | intro _)
def Gv (nE : Nat) (p0 : Int × (List (Int × Int × Int × Int × Int × Int)) × (List (Int × Int))) (p1 : List (List Int)) (p2 : Int) (p3 : Int) : Option (List Int × Int) := D6 (Es nE (Fd nE p0 p1 p3) (p2, ([p2] : List Int))) fun x1 => some (x1, 0)
theorem JP (nE : Nat) (p0 : Int × (List (Int × Int × Int × Int × Int × Int)) × (List (Int × Int))) (p1 : List (List Int)) (p2 : Int) (p3 : Int) : Le (Gv nE p0 p1 p2 p3) (Ea p0 p1 p2 p3) := by
  unfold Gv Ea
  repeat' with_reducible (first | refine Le.orR' ?_ ?_ | refine Le.bind' ?_ ?_ | refine Le.ite' ?_ ?_ | refine Le.loop' ?_ | refine Le.altS' ?_ ?_ | apply HZ | exact Le.rfl' _ | (refine Le.pi2 ?_; intro _) | intro _)
def Gz (nE : Nat) (p0 : Int × (List (Int × Int × Int × Int × Int × Int)) × (List (Int × Int))) (p1 : List (List Int)) (p2 : Int) (p3 : Int) : Option (List Int × Int) := ((F5 nE p0 p1).bind fun x2 => (if (!x2) = true then some true else (if p2 < 0 then some true else (if p0.1 ≤ p2 then some true else (if p3 < 0 then some true else some (decide ((p0.2.2.length : Int) ≤ p3))))))).bind fun x1 => (if x1 = true then some (([] : List Int), 2) else (Gv nE p0 p1 p2 p3).bind fun x3 => some (x3.1, x3.2))
theorem JQ (nE : Nat) (p0 : Int × (List (Int × Int × Int × Int × Int × Int)) × (List (Int × Int))) (p1 : List (List Int)) (p2 : Int) (p3 : Int) : Le (Gz nE p0 p1 p2 p3) (C4 p0 p1 p2 p3) := by
  unfold Gz C4
  repeat' with_reducible (first | refine Le.orR' ?_ ?_ | refine Le.bind' ?_ ?_ | refine Le.ite' ?_ ?_ | refine Le.loop' ?_ | refine Le.altS' ?_ ?_ | apply Ji | apply JP | exact Le.rfl' _ | (refine Le.pi2 ?_; intro _) | intro _)
def CU (nE : Nat) (p0 : List Int) (p1 : List Int) : Int → Option (Int ⊕ (Unit ⊕ Bool))
  | x1 => (if x1 < (p0.length : Int) then (ix p0 x1).bind fun x2 => (ix p1 x1).bind fun x3 => (if x2 ≠ x3 then some (.inr (.inr false)) else some (.inl (Dz (x1 + 1)))) else some (.inr (.inl ())))
theorem FM (nE : Nat) (p0 : List Int) (p1 : List Int) : ∀ s, Le (CU nE p0 p1 s) (Br p0 p1 s) := by
  intro x1
  unfold CU Br
  repeat' with_reducible (first | refine Le.orR' ?_ ?_ | refine Le.bind' ?_ ?_ | refine Le.ite' ?_ ?_ | refine Le.loop' ?_ | refine Le.altS' ?_ ?_ | exact Le.rfl' _ | (refine Le.pi2 ?_; intro _) | intro _)
def Du (nE : Nat) (p0 : List Int) (p1 : List Int) : Option Bool := (if (p0.length : Int) ≠ (p1.length : Int) then some false else D6 (Es nE (CU nE p0 p1) 0) fun _ => some true)
theorem Gd (nE : Nat) (p0 : List Int) (p1 : List Int) : Le (Du nE p0 p1) (BT p0 p1) := by
  unfold Du BT
  repeat' with_reducible (first | refine Le.orR' ?_ ?_ | refine Le.bind' ?_ ?_ | refine Le.ite' ?_ ?_ | refine Le.loop' ?_ | refine Le.altS' ?_ ?_ | apply FM | exact Le.rfl' _ | (refine Le.pi2 ?_; intro _) | intro _)
def Fg (nE : Nat) (p0 : Int × (List (Int × Int × Int × Int × Int × Int)) × (List (Int × Int))) (p1 : List (List (List Int))) (p2 : Int) (p3 : Int × Int × Int × Int × List Int × Int × Int × Int) : Option Bool := (if (decide (p2 < 0) || decide ((p1.length : Int) ≤ p2)) = true then some false else (ix p1 p2).bind fun x1 => (ix p3.2.2.2.2.1 0).bind fun x2 => (Gz nE p0 x1 x2 p3.2.2.1).bind fun x3 => (if x3.2 ≠ 0 then some false else (if (decide (p3.2.2.2.2.2.1 = 0) && decide ((p3.2.2.2.2.1.length : Int) < (x3.1.length : Int))) = true then (Jc x3.1 0 (p3.2.2.2.2.1.length : Int)).bind fun x5 => some x5 else some x3.1).bind fun x4 => (Du nE p3.2.2.2.2.1 x4).bind fun x6 => some x6))
theorem Id (nE : Nat) (p0 : Int × (List (Int × Int × Int × Int × Int × Int)) × (List (Int × Int))) (p1 : List (List (List Int))) (p2 : Int) (p3 : Int × Int × Int × Int × List Int × Int × Int × Int) : Le (Fg nE p0 p1 p2 p3) (Co p0 p1 p2 p3) := by
  unfold Fg Co
  repeat' with_reducible (first | refine Le.orR' ?_ ?_ | refine Le.bind' ?_ ?_ | refine Le.ite' ?_ ?_ | refine Le.loop' ?_ | refine Le.altS' ?_ ?_ | apply JQ | apply Gd | exact Le.rfl' _ | (refine Le.pi2 ?_; intro _) | intro _)
def EP (nE : Nat) (p0 : Int × (List (Int × Int × Int × Int × Int × Int)) × (List (Int × Int))) (p1 : List (List (List Int))) (x1 : ((List (Int × Int × Int)) × (List (Int × Int)))) (x3 : (List (Int × Int × Int × Int × List Int × Int × Int × Int))) : ((List (Int × Int)) × Int) → Option (((List (Int × Int)) × Int) ⊕ (List (Int × Int)))
  | (x4, x5) => (if x5 < (x3.length : Int) then ((ix x3 x5).bind fun x7 => ((Gb nE x7).bind fun x9 => (if x9 = true then (FR x4 ([(1, x7.1)] : List (Int × Int))).bind fun x10 => some x10 else some x4)).bind fun x8 => (if x7.2.2.2.2.2.1 = 4 then (FR x8 ([(2, x7.1)] : List (Int × Int))).bind fun x12 => some x12 else some x8).bind fun x11 => (if (decide (x7.2.2.2.2.2.1 = 3) && decide (x7.2.2.2.2.2.2.1 ≠ x7.2.2.1)) = true then (FR x11 ([(3, x7.1)] : List (Int × Int))).bind fun x14 => some x14 else some x11).bind fun x13 => (if 0 < (x7.2.2.2.2.1.length : Int) then (CT nE x1 x7.2.2.2.1).bind fun x16 => (if (!x16) = true then (Dd nE x1 x7.2.2.2.1).bind fun x17 => (Fg nE p0 p1 x17 x7).bind fun x18 => some (!x18) else some false) else some false).bind fun x15 => (if x15 = true then (FR x13 ([(4, x7.1)] : List (Int × Int))).bind fun x19 => some x19 else some x13)).bind fun x6 => some (.inl (x6, Dz (x5 + 1))) else some (.inr x4))
theorem HR (nE : Nat) (p0 : Int × (List (Int × Int × Int × Int × Int × Int)) × (List (Int × Int))) (p1 : List (List (List Int))) (x1 : ((List (Int × Int × Int)) × (List (Int × Int)))) (x3 : (List (Int × Int × Int × Int × List Int × Int × Int × Int))) : ∀ s, Le (EP nE p0 p1 x1 x3 s) (Ch p0 p1 x1 x3 s) := by
  rintro ⟨x4, x5⟩
  unfold EP Ch
  repeat' with_reducible (first | refine Le.orR' ?_ ?_ | refine Le.bind' ?_ ?_ | refine Le.ite' ?_ ?_ | refine Le.loop' ?_ | refine Le.altS' ?_ ?_ | apply I6 | apply FO | apply F2 | apply Id | exact Le.rfl' _ | (refine Le.pi2 ?_; intro _) | intro _)
def E4 (nE : Nat) (p0 : Int × (List (Int × Int × Int × Int × Int × Int)) × (List (Int × Int))) (p1 : List (List (List Int))) (p2 : List (Int × Int × Int × Int × Int × Int)) : Option (List (Int × Int)) := (Gy nE p2).bind fun x1 => ((Hp nE p2).bind fun x3 => Es nE (EP nE p0 p1 x1 x3) ([], 0)).bind fun x2 => some x2
theorem Jz (nE : Nat) (p0 : Int × (List (Int × Int × Int × Int × Int × Int)) × (List (Int × Int))) (p1 : List (List (List Int))) (p2 : List (Int × Int × Int × Int × Int × Int)) : Le (E4 nE p0 p1 p2) (C1 p0 p1 p2) := by
  unfold E4 C1
  repeat' with_reducible (first | refine Le.orR' ?_ ?_ | refine Le.bind' ?_ ?_ | refine Le.ite' ?_ ?_ | refine Le.loop' ?_ | refine Le.altS' ?_ ?_ | apply JZ | apply Lj | apply HR | exact Le.rfl' _ | (refine Le.pi2 ?_; intro _) | intro _)
def Iq (nE : Nat)  : Option Bool := (E4 nE (1, ([] : List (Int × Int × Int × Int × Int × Int)), ([(0, 3)] : List (Int × Int))) ([([([3] : List Int)] : List (List Int))] : List (List (List Int))) ([(1, 0, 4, 0, 0, 0), (4, 0, 4, 0, 0, 0)] : List (Int × Int × Int × Int × Int × Int))).bind fun x1 => ((E4 nE (1, ([] : List (Int × Int × Int × Int × Int × Int)), ([(0, 3)] : List (Int × Int))) ([([([3] : List Int)] : List (List Int))] : List (List (List Int))) ([(1, 0, 0, 0, 0, 0), (2, 0, 0, 0, 0, 0), (3, 0, 0, 0, 0, 0)] : List (Int × Int × Int × Int × Int × Int))).bind fun x3 => (if (x3.length : Int) = 0 then (if (x1.length : Int) = 1 then (ix x1 0).bind fun x4 => (if x4.1 = 2 ∧ x4.2 = 4 then some (decide ((CJ 2) = ([108, 111, 115, 116] : List UInt8))) else some false) else some false) else some false)).bind fun x2 => some x2
theorem Kq (nE : Nat)  : Le (Iq nE ) (EQ ) := by
  unfold Iq EQ
  repeat' with_reducible (first | refine Le.orR' ?_ ?_ | refine Le.bind' ?_ ?_ | refine Le.ite' ?_ ?_ | refine Le.loop' ?_ | refine Le.altS' ?_ ?_ | apply Jz | exact Le.rfl' _ | (refine Le.pi2 ?_; intro _) | intro _)
theorem OD : EQ = some true := Kq 60 _ (by kernel_rfl)
end Go.Proofs.Ytflaelbmglmmcaa
