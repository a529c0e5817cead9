/- Twins with fuel of EK functions: what a twin answers, the function answers. Conditions: none. -/
import Derived.Test.YtflaelbmglmmcaacLP
import Derived.Test.YtflaelbmglmmcaacA3
namespace Go.Proofs.Ytflaelbmglmmcaa
open Go Go.RowKit
set_option linter.unusedVariables false
set_option linter.unusedSimpArgs false
set_option maxRecDepth 20000
set_option maxHeartbeats 1600000
abbrev Le {α : Type} (a b : Option α) : Prop := ∀ r, a = some r → b = some r
theorem Le.rfl' {α : Type} (a : Option α) : Le a a := fun _ h => h
theorem Le.bind' {α β : Type} {a b : Option α} {f g : α → Option β} (h : Le a b) (hf : ∀ x, Le (f x) (g x)) : Le (a.bind f) (b.bind g) := fun r e => by
  obtain ⟨x, h1, h2⟩ := An e
  rw [h x h1, Option.bind_some]; exact hf x r h2
theorem Le.ite' {α : Type} {c : Prop} [Decidable c] {a a' b b' : Option α} (h1 : Le a a') (h2 : Le b b') : Le (if c then a else b) (if c then a' else b') := fun r e => by
  by_cases h : c
  · rw [if_pos h] at e ⊢; exact h1 r e
  · rw [if_neg h] at e ⊢; exact h2 r e
theorem Le.orR' {α β : Type} {a b : Option (α ⊕ β)} {f g : α → Option β} (h : Le a b) (hf : ∀ x, Le (f x) (g x)) : Le (DQ a f) (DQ b g) :=
  Le.bind' h fun x => by
    cases x with
    | inl t => exact hf t
    | inr e => exact Le.rfl' _
def DM {σ ε : Type} (n : Nat) (step : σ → Option (σ ⊕ ε)) (s : σ) : Option ε := Er step n s
theorem H2 {σ ε : Type} {S T : σ → Option (σ ⊕ ε)} (h : ∀ s, Le (S s) (T s)) : ∀ (n : Nat) (s : σ), Le (Er S n s) (Er T n s)
  | 0, s => Le.rfl' _
  | n + 1, s => fun r e => by
    unfold Er at e ⊢
    cases hs : S s with
    | none => rw [hs] at e; cases e
    | some q =>
      rw [hs] at e; rw [h s q hs]
      cases q with
      | inl s' => exact H2 h n s' r e
      | inr _ => exact e
theorem Le.loop' {σ ε : Type} {n : Nat} {S T : σ → Option (σ ⊕ ε)} {s : σ} (h : ∀ s, Le (S s) (T s)) : Le (DM n S s) (AF T s) := fun r e => Fj.2 ⟨n, H2 h n s r e⟩
theorem Le.pi2 {α β γ : Type} {f g : α × β → Option γ} (h : ∀ a b, Le (f (a, b)) (g (a, b))) : ∀ x, Le (f x) (g x) := fun x => h x.1 x.2
theorem Le.altS' {α β γ : Type} {y : α ⊕ β} {f f' : α → Option γ} {g g' : β → Option γ} (h : ∀ x, Le (f x) (f' x)) (k : ∀ x, Le (g x) (g' x)) : Le (Oo y f g) (Oo y f' g') := by
  cases y with
  | inl x => exact h x
  | inr x => exact k x
theorem Le.foldW' {α σ ε : Type} {S T : α → σ → Option (σ ⊕ ε)} (h : ∀ x s, Le (S x s) (T x s)) : ∀ (L : List α) (s : σ), Le (Eo S L s) (Eo T L s)
  | [], s => Le.rfl' _
  | x :: L, s => by
    show Le ((S x s).bind _) ((T x s).bind _)
    refine Le.bind' (h x s) fun o => ?_
    cases o with
    | inl s' => exact Le.foldW' h L s'
    | inr e => exact Le.rfl' _
def Bm (nE : Nat)  : ((List (Int × Int × Int)) × Int × Int) → Option (((List (Int × Int × Int)) × Int × Int) ⊕ (List (Int × Int × Int)))
  | (x1, x2, x3) => (if x2 < x3 then (ix x1 x3).bind fun x4 => (ix x1 x2).bind fun x5 => (ix x1 x2).bind fun x6 => (ix (Ap x1 x2 x4) x3).bind fun x7 => some (.inl ((Ap (Ap x1 x2 x4) x3 x5), DC (x2 + 1), DC (x3 - 1))) else some (.inr x1))
theorem CJ (nE : Nat)  : ∀ s, Le (Bm nE  s) (AH  s) := by
  rintro ⟨x1, x2, x3⟩
  unfold Bm AH
  repeat' with_reducible (first | refine Le.orR' ?_ ?_ | refine Le.bind' ?_ ?_ | refine Le.ite' ?_ ?_ | refine Le.loop' ?_ | refine Le.altS' ?_ ?_ | exact Le.rfl' _ | (refine Le.pi2 ?_; intro _) | intro _)
def Br (nE : Nat) (p0 : List (Int × Int × Int)) : Option (List (Int × Int × Int)) := DM nE (Bm nE) (p0, 0, DC ((p0.length : Int) - 1))
theorem C0 (nE : Nat) (p0 : List (Int × Int × Int)) : Le (Br nE p0) (Az p0) := by
  unfold Br Az
  repeat' with_reducible (first | refine Le.orR' ?_ ?_ | refine Le.bind' ?_ ?_ | refine Le.ite' ?_ ?_ | refine Le.loop' ?_ | refine Le.altS' ?_ ?_ | apply CJ | exact Le.rfl' _ | (refine Le.pi2 ?_; intro _) | intro _)
def DF (nE : Nat) (p0 : List (Int × Int × Int × Int × Int × Int)) (x2 : Int × Int × Int × Int × Int × Int × Int) : ((List (Int × Int × Int)) × (List (Int × Int))) → Option (((List (Int × Int × Int)) × (List (Int × Int))) ⊕ (List (Int × Int × Int)))
  | (x3, x4) => (if x2.2.1 = 9 then some true else some (decide (x2.2.1 = 10))).bind fun x5 => (if x5 = true then some (.inl (x3, CP x4 x2.2.2.2.1 x2.1)) else (if x2.2.1 = 8 then (if ((Cy x4 x2.2.2.2.1).isSome) = true then (ix p0 ((Cy x4 x2.2.2.2.1).getD 0)).bind fun x7 => some (Cm x2.2 x7) else some 1125899906842624).bind fun x6 => (Fo x3 ([(x2.2.2.2.1, x2.2.2.2.2.2.1, x6)] : List (Int × Int × Int))).bind fun x8 => some (.inl (x8, x4)) else some (.inl (x3, x4))))
theorem Gl (nE : Nat) (p0 : List (Int × Int × Int × Int × Int × Int)) (x2 : Int × Int × Int × Int × Int × Int × Int) : ∀ s, Le (DF nE p0 x2 s) (Cg p0 x2 s) := by
  rintro ⟨x3, x4⟩
  unfold DF Cg
  repeat' with_reducible (first | refine Le.orR' ?_ ?_ | refine Le.bind' ?_ ?_ | refine Le.ite' ?_ ?_ | refine Le.loop' ?_ | refine Le.altS' ?_ ?_ | exact Le.rfl' _ | (refine Le.pi2 ?_; intro _) | intro _)
def EM (nE : Nat) (p0 : List (Int × Int × Int × Int × Int × Int)) : Option (List (Int × Int × Int)) := (back p0).bind fun x1 => DQ (Eo (DF nE p0) x1 ([], ([] : List (Int × Int)))) fun (x3, x4) => (Br nE x3).bind fun x9 => some x9
theorem HB (nE : Nat) (p0 : List (Int × Int × Int × Int × Int × Int)) : Le (EM nE p0) (CW p0) := by
  unfold EM CW
  repeat' with_reducible (first | refine Le.orR' ?_ ?_ | refine Le.bind' ?_ ?_ | refine Le.ite' ?_ ?_ | refine Le.loop' ?_ | refine Le.altS' ?_ ?_ | refine Le.foldW' ?_ _ _ | apply C0 | apply Gl | exact Le.rfl' _ | (refine Le.pi2 ?_; intro _) | intro _)
def Ej (nE : Nat) (x1 : (List (Int × Int × Int))) (x6 : Int × Int × Int × Int × Int × Int) : (Int × (List (Int × Int))) → Option ((Int × (List (Int × Int))) ⊕ (List (Int × Int)))
  | (x7, x8) => (if x7 < (x1.length : Int) then ((ix x1 x7).bind fun x10 => (if x10.1 = x6.2.2.1 then (Fo x8 ([(x6.2.2.2.2.1, x10.2.2)] : List (Int × Int))).bind fun x11 => some x11 else some x8)).bind fun x9 => some (.inl (DC (x7 + 1), x9)) else some (.inr x8))
theorem GT (nE : Nat) (x1 : (List (Int × Int × Int))) (x6 : Int × Int × Int × Int × Int × Int) : ∀ s, Le (Ej nE x1 x6 s) (B6 x1 x6 s) := by
  rintro ⟨x7, x8⟩
  unfold Ej B6
  repeat' with_reducible (first | refine Le.orR' ?_ ?_ | refine Le.bind' ?_ ?_ | refine Le.ite' ?_ ?_ | refine Le.loop' ?_ | refine Le.altS' ?_ ?_ | exact Le.rfl' _ | (refine Le.pi2 ?_; intro _) | intro _)
def Eg (nE : Nat) (p0 : List (Int × Int × Int × Int × Int × Int)) (x1 : (List (Int × Int × Int))) : (Int × (List (Int × Int))) → Option ((Int × (List (Int × Int))) ⊕ (List (Int × Int)))
  | (x3, x4) => (if x3 < (p0.length : Int) then ((ix p0 x3).bind fun x6 => (if x6.1 ≠ 9 then some x4 else DM nE (Ej nE x1 x6) (0, x4))).bind fun x5 => some (.inl (DC (x3 + 1), x5)) else some (.inr x4))
theorem Ha (nE : Nat) (p0 : List (Int × Int × Int × Int × Int × Int)) (x1 : (List (Int × Int × Int))) : ∀ s, Le (Eg nE p0 x1 s) (B4 p0 x1 s) := by
  rintro ⟨x3, x4⟩
  unfold Eg B4
  repeat' with_reducible (first | refine Le.orR' ?_ ?_ | refine Le.bind' ?_ ?_ | refine Le.ite' ?_ ?_ | refine Le.loop' ?_ | refine Le.altS' ?_ ?_ | apply GT | exact Le.rfl' _ | (refine Le.pi2 ?_; intro _) | intro _)
def FC (nE : Nat) (p0 : List (Int × Int × Int × Int × Int × Int)) : Option ((List (Int × Int × Int)) × (List (Int × Int))) := (EM nE p0).bind fun x1 => (DM nE (Eg nE p0 x1) (0, [])).bind fun x2 => some (x1, x2)
theorem IG (nE : Nat) (p0 : List (Int × Int × Int × Int × Int × Int)) : Le (FC nE p0) (Dv p0) := by
  unfold FC Dv
  repeat' with_reducible (first | refine Le.orR' ?_ ?_ | refine Le.bind' ?_ ?_ | refine Le.ite' ?_ ?_ | refine Le.loop' ?_ | refine Le.altS' ?_ ?_ | apply HB | apply Ha | exact Le.rfl' _ | (refine Le.pi2 ?_; intro _) | intro _)
def DK (nE : Nat) (p0 : (List (Int × Int × Int × Int × (Nat × List Int) × Int × Int × Int)) × (List (Int × Int)) × List Int) (p1 : Int × Int × Int × Int × Int × Int) : Option ((List (Int × Int × Int × Int × (Nat × List Int) × Int × Int × Int)) × (List (Int × Int)) × List Int) := (Fo p0.2.2 ([(Au p0 p1.2.2.1)] : List Int)).bind fun x1 => (Fo p0.1 ([(p1.2.2.1, p1.2.2.2.2.1, p1.2.2.2.2.2, p1.2.1, (2, []), 0, 0, p1.2.1)] : List (Int × Int × Int × Int × (Nat × List Int) × Int × Int × Int))).bind fun x2 => some (x2, CP p0.2.1 p1.2.2.1 (p0.1.length : Int), x1)
theorem Ge (nE : Nat) (p0 : (List (Int × Int × Int × Int × (Nat × List Int) × Int × Int × Int)) × (List (Int × Int)) × List Int) (p1 : Int × Int × Int × Int × Int × Int) : Le (DK nE p0 p1) (CC p0 p1) := by
  unfold DK CC
  repeat' with_reducible (first | refine Le.orR' ?_ ?_ | refine Le.bind' ?_ ?_ | refine Le.ite' ?_ ?_ | refine Le.loop' ?_ | refine Le.altS' ?_ ?_ | exact Le.rfl' _ | (refine Le.pi2 ?_; intro _) | intro _)
def Dn (nE : Nat) (p0 : (List (Int × Int × Int × Int × (Nat × List Int) × Int × Int × Int)) × (List (Int × Int)) × List Int) (p1 : Int) (p2 : Int × Int × Int × Int × Int × Int) : Option ((List (Int × Int × Int × Int × (Nat × List Int) × Int × Int × Int)) × (List (Int × Int)) × List Int) := (ix p0.1 p1).bind fun x1 => (ix p0.1 p1).bind fun x2 => (if p2.1 = 2 then (ix (Ap p0.1 p1 (x2.1, x2.2.1, x2.2.2.1, x2.2.2.2.1, x2.2.2.2.2.1, x2.2.2.2.2.2.1, x2.2.2.2.2.2.2.1, p2.2.1)) p1).bind fun x3 => (Mg x3.2.2.2.2.1.1).bind fun x4 => (Fo x3.2.2.2.2.1.2 ([p2.2.2.2.1] : List Int)).bind fun x5 => (ix (Ap (Ap p0.1 p1 (x2.1, x2.2.1, x2.2.2.1, x2.2.2.2.1, x2.2.2.2.2.1, x2.2.2.2.2.2.1, x2.2.2.2.2.2.2.1, p2.2.1)) p1 (x3.1, x3.2.1, x3.2.2.1, x3.2.2.2.1, (0, []), x3.2.2.2.2.2.1, x3.2.2.2.2.2.2.1, x3.2.2.2.2.2.2.2)) p1).bind fun x6 => some ((Ap (Ap (Ap p0.1 p1 (x2.1, x2.2.1, x2.2.2.1, x2.2.2.2.1, x2.2.2.2.2.1, x2.2.2.2.2.2.1, x2.2.2.2.2.2.2.1, p2.2.1)) p1 (x3.1, x3.2.1, x3.2.2.1, x3.2.2.2.1, (0, []), x3.2.2.2.2.2.1, x3.2.2.2.2.2.2.1, x3.2.2.2.2.2.2.2)) p1 (x6.1, x6.2.1, x6.2.2.1, x6.2.2.2.1, (2, x5), x6.2.2.2.2.2.1, x6.2.2.2.2.2.2.1, x6.2.2.2.2.2.2.2)), p0.2.1, p0.2.2) else (ix (Ap p0.1 p1 (x2.1, x2.2.1, x2.2.2.1, x2.2.2.2.1, x2.2.2.2.2.1, x2.2.2.2.2.2.1, x2.2.2.2.2.2.2.1, p2.2.1)) p1).bind fun x7 => (if p2.1 = 3 then (ix (Ap (Ap p0.1 p1 (x2.1, x2.2.1, x2.2.2.1, x2.2.2.2.1, x2.2.2.2.2.1, x2.2.2.2.2.2.1, x2.2.2.2.2.2.2.1, p2.2.1)) p1 (x7.1, x7.2.1, x7.2.2.1, x7.2.2.2.1, x7.2.2.2.2.1, p2.1, x7.2.2.2.2.2.2.1, x7.2.2.2.2.2.2.2)) p1).bind fun x9 => some (Ap (Ap (Ap p0.1 p1 (x2.1, x2.2.1, x2.2.2.1, x2.2.2.2.1, x2.2.2.2.2.1, x2.2.2.2.2.2.1, x2.2.2.2.2.2.2.1, p2.2.1)) p1 (x7.1, x7.2.1, x7.2.2.1, x7.2.2.2.1, x7.2.2.2.2.1, p2.1, x7.2.2.2.2.2.2.1, x7.2.2.2.2.2.2.2)) p1 (x9.1, x9.2.1, x9.2.2.1, x9.2.2.2.1, x9.2.2.2.2.1, x9.2.2.2.2.2.1, p2.2.2.2.2.1, x9.2.2.2.2.2.2.2)) else some (Ap (Ap p0.1 p1 (x2.1, x2.2.1, x2.2.2.1, x2.2.2.2.1, x2.2.2.2.2.1, x2.2.2.2.2.2.1, x2.2.2.2.2.2.2.1, p2.2.1)) p1 (x7.1, x7.2.1, x7.2.2.1, x7.2.2.2.1, x7.2.2.2.2.1, p2.1, x7.2.2.2.2.2.2.1, x7.2.2.2.2.2.2.2))).bind fun x8 => (ix p0.2.2 p1).bind fun x10 => some (x8, CP p0.2.1 p2.2.2.1 x10, p0.2.2))
theorem FK (nE : Nat) (p0 : (List (Int × Int × Int × Int × (Nat × List Int) × Int × Int × Int)) × (List (Int × Int)) × List Int) (p1 : Int) (p2 : Int × Int × Int × Int × Int × Int) : Le (Dn nE p0 p1 p2) (BR p0 p1 p2) := by
  unfold Dn BR
  repeat' with_reducible (first | refine Le.orR' ?_ ?_ | refine Le.bind' ?_ ?_ | refine Le.ite' ?_ ?_ | refine Le.loop' ?_ | refine Le.altS' ?_ ?_ | exact Le.rfl' _ | (refine Le.pi2 ?_; intro _) | intro _)
def DE (nE : Nat) (p0 : (List (Int × Int × Int × Int × (Nat × List Int) × Int × Int × Int)) × (List (Int × Int)) × List Int) (p1 : Int × Int × Int × Int × Int × Int) : Option ((List (Int × Int × Int × Int × (Nat × List Int) × Int × Int × Int)) × (List (Int × Int)) × List Int) := (if p1.1 = 1 then (DK nE p0 p1).bind fun x1 => some x1 else (if p1.1 = 2 then some true else (if p1.1 = 3 then some true else some (decide (p1.1 = 4)))).bind fun x2 => (if x2 = true then (if (Au p0 p1.2.2.1) ≠ (-1) then (Dn nE p0 (Au p0 p1.2.2.1) p1).bind fun x3 => some x3 else some p0) else some p0))
theorem Gt (nE : Nat) (p0 : (List (Int × Int × Int × Int × (Nat × List Int) × Int × Int × Int)) × (List (Int × Int)) × List Int) (p1 : Int × Int × Int × Int × Int × Int) : Le (DE nE p0 p1) (Ck p0 p1) := by
  unfold DE Ck
  repeat' with_reducible (first | refine Le.orR' ?_ ?_ | refine Le.bind' ?_ ?_ | refine Le.ite' ?_ ?_ | refine Le.loop' ?_ | refine Le.altS' ?_ ?_ | apply Ge | apply FK | exact Le.rfl' _ | (refine Le.pi2 ?_; intro _) | intro _)
def E4 (nE : Nat) (p0 : List (Int × Int × Int × Int × Int × Int)) : (Int × (List (Int × Int × Int × Int × (Nat × List Int) × Int × Int × Int)) × List Int × (List (Int × Int))) → Option ((Int × (List (Int × Int × Int × Int × (Nat × List Int) × Int × Int × Int)) × List Int × (List (Int × Int))) ⊕ ((List (Int × Int × Int × Int × (Nat × List Int) × Int × Int × Int)) × List Int × (List (Int × Int))))
  | (x4, x5, x6, x7) => (if x4 < (p0.length : Int) then (ix p0 x4).bind fun x8 => (DE nE (x5, x7, x6) x8).bind fun x9 => some (.inl (DC (x4 + 1), x9.1, x9.2.2, x9.2.1)) else some (.inr (x5, x6, x7)))
theorem HY (nE : Nat) (p0 : List (Int × Int × Int × Int × Int × Int)) : ∀ s, Le (E4 nE p0 s) (CR p0 s) := by
  rintro ⟨x4, x5, x6, x7⟩
  unfold E4 CR
  repeat' with_reducible (first | refine Le.orR' ?_ ?_ | refine Le.bind' ?_ ?_ | refine Le.ite' ?_ ?_ | refine Le.loop' ?_ | refine Le.altS' ?_ ?_ | apply Gt | exact Le.rfl' _ | (refine Le.pi2 ?_; intro _) | intro _)
def Gj (nE : Nat) (p0 : List (Int × Int × Int × Int × Int × Int)) : Option (List (Int × Int × Int × Int × List Int × Int × Int × Int)) := (DM nE (E4 nE p0) (0, [], [], ([] : List (Int × Int)))).bind fun (x1, x2, x3) => (FR Lp x1).bind fun x10 => some x10
theorem JG (nE : Nat) (p0 : List (Int × Int × Int × Int × Int × Int)) : Le (Gj nE p0) (EH p0) := by
  unfold Gj EH
  repeat' with_reducible (first | refine Le.orR' ?_ ?_ | refine Le.bind' ?_ ?_ | refine Le.ite' ?_ ?_ | refine Le.loop' ?_ | refine Le.altS' ?_ ?_ | apply HY | exact Le.rfl' _ | (refine Le.pi2 ?_; intro _) | intro _)
def D1 (nE : Nat) (p0 : Int × Int × Int × Int × List Int × Int × Int × Int) : (Int × (List (Int × Unit))) → Option ((Int × (List (Int × Unit))) ⊕ (List (Int × Unit)))
  | (x2, x3) => (if x2 < (p0.2.2.2.2.1.length : Int) then (ix p0.2.2.2.2.1 x2).bind fun x4 => some (.inl (DC (x2 + 1), CP x3 x4 ())) else some (.inr x3))
theorem GI (nE : Nat) (p0 : Int × Int × Int × Int × List Int × Int × Int × Int) : ∀ s, Le (D1 nE p0 s) (Ca p0 s) := by
  rintro ⟨x2, x3⟩
  unfold D1 Ca
  repeat' with_reducible (first | refine Le.orR' ?_ ?_ | refine Le.bind' ?_ ?_ | refine Le.ite' ?_ ?_ | refine Le.loop' ?_ | refine Le.altS' ?_ ?_ | exact Le.rfl' _ | (refine Le.pi2 ?_; intro _) | intro _)
def E8 (nE : Nat) (p0 : Int × Int × Int × Int × List Int × Int × Int × Int) : Option Bool := (DM nE (D1 nE p0) (0, ([] : List (Int × Unit)))).bind fun x1 => some (decide ((x1.length : Int) < (p0.2.2.2.2.1.length : Int)))
theorem HT (nE : Nat) (p0 : Int × Int × Int × Int × List Int × Int × Int × Int) : Le (E8 nE p0) (CS p0) := by
  unfold E8 CS
  repeat' with_reducible (first | refine Le.orR' ?_ ?_ | refine Le.bind' ?_ ?_ | refine Le.ite' ?_ ?_ | refine Le.loop' ?_ | refine Le.altS' ?_ ?_ | apply GI | exact Le.rfl' _ | (refine Le.pi2 ?_; intro _) | intro _)
def Bg (nE : Nat) (p0 : List (Int × Int × Int)) (p1c0 : Int) : Int → Option (Int ⊕ (Unit ⊕ Int))
  | x1 => (if x1 < (p0.length : Int) then (ix p0 x1).bind fun x2 => (if (Bb x2 p1c0) = true then some (.inr (.inr x1)) else some (.inl (DC (x1 + 1)))) else some (.inr (.inl ())))
theorem CG (nE : Nat) (p0 : List (Int × Int × Int)) (p1c0 : Int) : ∀ s, Le (Bg nE p0 p1c0 s) (Am p0 p1c0 s) := by
  intro x1
  unfold Bg Am
  repeat' with_reducible (first | refine Le.orR' ?_ ?_ | refine Le.bind' ?_ ?_ | refine Le.ite' ?_ ?_ | refine Le.loop' ?_ | refine Le.altS' ?_ ?_ | exact Le.rfl' _ | (refine Le.pi2 ?_; intro _) | intro _)
def Bn (nE : Nat) (p0 : List (Int × Int × Int)) (p1c0 : Int) : Option Int := DQ (DM nE (Bg nE p0 p1c0) 0) fun _ => some (-1)
theorem CO (nE : Nat) (p0 : List (Int × Int × Int)) (p1c0 : Int) : Le (Bn nE p0 p1c0) (AK p0 p1c0) := by
  unfold Bn AK
  repeat' with_reducible (first | refine Le.orR' ?_ ?_ | refine Le.bind' ?_ ?_ | refine Le.ite' ?_ ?_ | refine Le.loop' ?_ | refine Le.altS' ?_ ?_ | apply CG | exact Le.rfl' _ | (refine Le.pi2 ?_; intro _) | intro _)
def Bh (nE : Nat) (p0 : List (Int × Int × Int)) (p1c0 : Int) : Option Bool := (Bn nE p0 p1c0).bind fun x1 => some (decide (0 ≤ x1))
theorem CF (nE : Nat) (p0 : List (Int × Int × Int)) (p1c0 : Int) : Le (Bh nE p0 p1c0) (AD p0 p1c0) := by
  unfold Bh AD
  repeat' with_reducible (first | refine Le.orR' ?_ ?_ | refine Le.bind' ?_ ?_ | refine Le.ite' ?_ ?_ | refine Le.loop' ?_ | refine Le.altS' ?_ ?_ | apply CO | exact Le.rfl' _ | (refine Le.pi2 ?_; intro _) | intro _)
def Cz (nE : Nat) (p0 : (List (Int × Int × Int)) × (List (Int × Int))) (p1 : Int) : Option Bool := (Bh nE p0.1 p1).bind fun x1 => some x1
theorem ER (nE : Nat) (p0 : (List (Int × Int × Int)) × (List (Int × Int))) (p1 : Int) : Le (Cz nE p0 p1) (A7 p0 p1) := by
  unfold Cz A7
  repeat' with_reducible (first | refine Le.orR' ?_ ?_ | refine Le.bind' ?_ ?_ | refine Le.ite' ?_ ?_ | refine Le.loop' ?_ | refine Le.altS' ?_ ?_ | apply CF | exact Le.rfl' _ | (refine Le.pi2 ?_; intro _) | intro _)
def Ct (nE : Nat) (p1 : Int) (x2 : Int × Int × Int) : Unit → Option (Unit ⊕ Int)
  | _ => (if x2.2.2 < p1 then some (.inr x2.2.1) else some (.inl ()))
theorem Eu (nE : Nat) (p1 : Int) (x2 : Int × Int × Int) : ∀ s, Le (Ct nE p1 x2 s) (AY p1 x2 s) := by
  intro s
  unfold Ct AY
  repeat' with_reducible (first | refine Le.orR' ?_ ?_ | refine Le.bind' ?_ ?_ | refine Le.ite' ?_ ?_ | refine Le.loop' ?_ | refine Le.altS' ?_ ?_ | exact Le.rfl' _ | (refine Le.pi2 ?_; intro _) | intro _)
def CL (nE : Nat) (p0 : (List (Int × Int × Int)) × (List (Int × Int))) (p1 : Int) : Option Int := (back p0.2).bind fun x1 => DQ (Eo (Ct nE p1) x1 ()) fun _ => some 0
theorem E7 (nE : Nat) (p0 : (List (Int × Int × Int)) × (List (Int × Int))) (p1 : Int) : Le (CL nE p0 p1) (Bi p0 p1) := by
  unfold CL Bi
  repeat' with_reducible (first | refine Le.orR' ?_ ?_ | refine Le.bind' ?_ ?_ | refine Le.ite' ?_ ?_ | refine Le.loop' ?_ | refine Le.altS' ?_ ?_ | refine Le.foldW' ?_ _ _ | apply Eu | exact Le.rfl' _ | (refine Le.pi2 ?_; intro _) | intro _)
def DY (nE : Nat) (p0 : Int × (List (Int × Int × Int × Int × Int × Int)) × (List (Int × Int))) : ((List (Int × Int)) × Int) → Option (((List (Int × Int)) × Int) ⊕ (List (Int × Int)))
  | (x2, x3) => (if x3 < (p0.2.1.length : Int) then (ix p0.2.1 x3).bind fun x4 => (Fo x2 ([(x4.1, x4.2.1), (x4.2.2.1, x4.2.2.2.1)] : List (Int × Int))).bind fun x5 => some (.inl (x5, DC (x3 + 1))) else some (.inr x2))
theorem GS (nE : Nat) (p0 : Int × (List (Int × Int × Int × Int × Int × Int)) × (List (Int × Int))) : ∀ s, Le (DY nE p0 s) (Cb p0 s) := by
  rintro ⟨x2, x3⟩
  unfold DY Cb
  repeat' with_reducible (first | refine Le.orR' ?_ ?_ | refine Le.bind' ?_ ?_ | refine Le.ite' ?_ ?_ | refine Le.loop' ?_ | refine Le.altS' ?_ ?_ | exact Le.rfl' _ | (refine Le.pi2 ?_; intro _) | intro _)
def D0 (nE : Nat) (p0 : Int × (List (Int × Int × Int × Int × Int × Int)) × (List (Int × Int))) : ((List (Int × Int)) × Int) → Option (((List (Int × Int)) × Int) ⊕ (List (Int × Int)))
  | (x7, x8) => (if x8 < (p0.2.2.length : Int) then (ix p0.2.2 x8).bind fun x9 => (Fo x7 ([x9] : List (Int × Int))).bind fun x10 => some (.inl (x10, DC (x8 + 1))) else some (.inr x7))
theorem GK (nE : Nat) (p0 : Int × (List (Int × Int × Int × Int × Int × Int)) × (List (Int × Int))) : ∀ s, Le (D0 nE p0 s) (B9 p0 s) := by
  rintro ⟨x7, x8⟩
  unfold D0 B9
  repeat' with_reducible (first | refine Le.orR' ?_ ?_ | refine Le.bind' ?_ ?_ | refine Le.ite' ?_ ?_ | refine Le.loop' ?_ | refine Le.altS' ?_ ?_ | exact Le.rfl' _ | (refine Le.pi2 ?_; intro _) | intro _)
def E6 (nE : Nat) (p0 : Int × (List (Int × Int × Int × Int × Int × Int)) × (List (Int × Int))) : Option (List (Int × Int)) := (DM nE (DY nE p0) ([], 0)).bind fun x1 => (DM nE (D0 nE p0) (x1, 0)).bind fun x6 => some x6
theorem Iq (nE : Nat) (p0 : Int × (List (Int × Int × Int × Int × Int × Int)) × (List (Int × Int))) : Le (E6 nE p0) (Db p0) := by
  unfold E6 Db
  repeat' with_reducible (first | refine Le.orR' ?_ ?_ | refine Le.bind' ?_ ?_ | refine Le.ite' ?_ ?_ | refine Le.loop' ?_ | refine Le.altS' ?_ ?_ | apply GS | apply GK | exact Le.rfl' _ | (refine Le.pi2 ?_; intro _) | intro _)
def Bw (nE : Nat) (p0 : List (Int × Int × Int × Int × Int × Int)) : Int → Option (Int ⊕ (Unit ⊕ Int))
  | x1 => (if x1 < (p0.length : Int) then (ix p0 x1).bind fun x2 => (if (Bc x2) = true then some (.inr (.inr x1)) else some (.inl (DC (x1 + 1)))) else some (.inr (.inl ())))
theorem C4 (nE : Nat) (p0 : List (Int × Int × Int × Int × Int × Int)) : ∀ s, Le (Bw nE p0 s) (Aq p0 s) := by
  intro x1
  unfold Bw Aq
  repeat' with_reducible (first | refine Le.orR' ?_ ?_ | refine Le.bind' ?_ ?_ | refine Le.ite' ?_ ?_ | refine Le.loop' ?_ | refine Le.altS' ?_ ?_ | exact Le.rfl' _ | (refine Le.pi2 ?_; intro _) | intro _)
def BB (nE : Nat) (p0 : List (Int × Int × Int × Int × Int × Int)) : Option Int := DQ (DM nE (Bw nE p0) 0) fun _ => some (-1)
theorem Di (nE : Nat) (p0 : List (Int × Int × Int × Int × Int × Int)) : Le (BB nE p0) (AQ p0) := by
  unfold BB AQ
  repeat' with_reducible (first | refine Le.orR' ?_ ?_ | refine Le.bind' ?_ ?_ | refine Le.ite' ?_ ?_ | refine Le.loop' ?_ | refine Le.altS' ?_ ?_ | apply C4 | exact Le.rfl' _ | (refine Le.pi2 ?_; intro _) | intro _)
def Bv (nE : Nat) (p0 : List (Int × Int × Int × Int × Int × Int)) : Option Bool := (BB nE p0).bind fun x1 => some (decide (0 ≤ x1))
theorem C3 (nE : Nat) (p0 : List (Int × Int × Int × Int × Int × Int)) : Le (Bv nE p0) (AE p0) := by
  unfold Bv AE
  repeat' with_reducible (first | refine Le.orR' ?_ ?_ | refine Le.bind' ?_ ?_ | refine Le.ite' ?_ ?_ | refine Le.loop' ?_ | refine Le.altS' ?_ ?_ | apply Di | exact Le.rfl' _ | (refine Le.pi2 ?_; intro _) | intro _)
def Ei (nE : Nat) (p0 : Int × (List (Int × Int × Int × Int × Int × Int)) × (List (Int × Int))) (x2 : (List (Int × Int))) : (Int × (List ((Int × Int) × Unit))) → Option ((Int × (List ((Int × Int) × Unit))) ⊕ ((List ((Int × Int) × Unit)) ⊕ Bool))
  | (x3, x4) => (if x3 < (x2.length : Int) then (ix x2 x3).bind fun x5 => (if (decide (x5.1 < 0) || (decide (p0.1 ≤ x5.1) || (decide (x5.2 < 0) || decide (8 ≤ x5.2)))) = true then some (.inr (.inr false)) else (if ((Cy x4 x5).isSome) = true then some (.inr (.inr false)) else some (.inl (DC (x3 + 1), CP x4 x5 ())))) else some (.inr (.inl x4)))
theorem Hg (nE : Nat) (p0 : Int × (List (Int × Int × Int × Int × Int × Int)) × (List (Int × Int))) (x2 : (List (Int × Int))) : ∀ s, Le (Ei nE p0 x2 s) (BF p0 x2 s) := by
  rintro ⟨x3, x4⟩
  unfold Ei BF
  repeat' with_reducible (first | refine Le.orR' ?_ ?_ | refine Le.bind' ?_ ?_ | refine Le.ite' ?_ ?_ | refine Le.loop' ?_ | refine Le.altS' ?_ ?_ | exact Le.rfl' _ | (refine Le.pi2 ?_; intro _) | intro _)
def FD (nE : Nat) (p0 : Int × (List (Int × Int × Int × Int × Int × Int)) × (List (Int × Int))) : Option Bool := (if (decide (p0.1 < 1) || (decide (8 < p0.1) || (decide (24 < (p0.2.1.length : Int)) || decide (8 < (p0.2.2.length : Int))))) = true then some false else DQ ((E6 nE p0).bind fun x2 => DM nE (Ei nE p0 x2) (0, ([] : List ((Int × Int) × Unit)))) fun x1 => (Bv nE p0.2.1).bind fun x6 => some (!x6))
theorem Iz (nE : Nat) (p0 : Int × (List (Int × Int × Int × Int × Int × Int)) × (List (Int × Int))) : Le (FD nE p0) (Dz p0) := by
  unfold FD Dz
  repeat' with_reducible (first | refine Le.orR' ?_ ?_ | refine Le.bind' ?_ ?_ | refine Le.ite' ?_ ?_ | refine Le.loop' ?_ | refine Le.altS' ?_ ?_ | apply Iq | apply C3 | apply Hg | exact Le.rfl' _ | (refine Le.pi2 ?_; intro _) | intro _)
def B8 (nE : Nat) (p0 : List Int) : Int → Option (Int ⊕ (Unit ⊕ Int))
  | x1 => (if x1 < (p0.length : Int) then (ix p0 x1).bind fun x2 => (if (BX x2) = true then some (.inr (.inr x1)) else some (.inl (DC (x1 + 1)))) else some (.inr (.inl ())))
theorem D2 (nE : Nat) (p0 : List Int) : ∀ s, Le (B8 nE p0 s) (AG p0 s) := by
  intro x1
  unfold B8 AG
  repeat' with_reducible (first | refine Le.orR' ?_ ?_ | refine Le.bind' ?_ ?_ | refine Le.ite' ?_ ?_ | refine Le.loop' ?_ | refine Le.altS' ?_ ?_ | exact Le.rfl' _ | (refine Le.pi2 ?_; intro _) | intro _)
def Cv (nE : Nat) (p0 : List Int) : Option Int := DQ (DM nE (B8 nE p0) 0) fun _ => some (-1)
theorem EC (nE : Nat) (p0 : List Int) : Le (Cv nE p0) (Bq p0) := by
  unfold Cv Bq
  repeat' with_reducible (first | refine Le.orR' ?_ ?_ | refine Le.bind' ?_ ?_ | refine Le.ite' ?_ ?_ | refine Le.loop' ?_ | refine Le.altS' ?_ ?_ | apply D2 | exact Le.rfl' _ | (refine Le.pi2 ?_; intro _) | intro _)
def Cd (nE : Nat) (p0 : List Int) : Option Bool := (Cv nE p0).bind fun x1 => some (decide (0 ≤ x1))
theorem DW (nE : Nat) (p0 : List Int) : Le (Cd nE p0) (AX p0) := by
  unfold Cd AX
  repeat' with_reducible (first | refine Le.orR' ?_ ?_ | refine Le.bind' ?_ ?_ | refine Le.ite' ?_ ?_ | refine Le.loop' ?_ | refine Le.altS' ?_ ?_ | apply EC | exact Le.rfl' _ | (refine Le.pi2 ?_; intro _) | intro _)
def D5 (nE : Nat) (p0 : Int × (List (Int × Int × Int × Int × Int × Int)) × (List (Int × Int))) (p1 : List (List Int)) : Int → Option (Int ⊕ (Unit ⊕ Bool))
  | x3 => (if x3 < (p1.length : Int) then (ix p1 x3).bind fun x4 => (if (x4.length : Int) ≠ (p0.2.2.length : Int) then some true else (Cd nE x4).bind fun x6 => some x6).bind fun x5 => (if x5 = true then some (.inr (.inr false)) else some (.inl (DC (x3 + 1)))) else some (.inr (.inl ())))
theorem GD (nE : Nat) (p0 : Int × (List (Int × Int × Int × Int × Int × Int)) × (List (Int × Int))) (p1 : List (List Int)) : ∀ s, Le (D5 nE p0 p1 s) (Cp p0 p1 s) := by
  intro x3
  unfold D5 Cp
  repeat' with_reducible (first | refine Le.orR' ?_ ?_ | refine Le.bind' ?_ ?_ | refine Le.ite' ?_ ?_ | refine Le.loop' ?_ | refine Le.altS' ?_ ?_ | apply DW | exact Le.rfl' _ | (refine Le.pi2 ?_; intro _) | intro _)
def Fc (nE : Nat) (p0 : Int × (List (Int × Int × Int × Int × Int × Int)) × (List (Int × Int))) (p1 : List (List Int)) : Option Bool := ((FD nE p0).bind fun x2 => (if (!x2) = true then some true else some (decide ((p1.length : Int) ≠ p0.1)))).bind fun x1 => (if x1 = true then some false else DQ (DM nE (D5 nE p0 p1) 0) fun _ => some true)
theorem HO (nE : Nat) (p0 : Int × (List (Int × Int × Int × Int × Int × Int)) × (List (Int × Int))) (p1 : List (List Int)) : Le (Fc nE p0 p1) (Da p0 p1) := by
  unfold Fc Da
  repeat' with_reducible (first | refine Le.orR' ?_ ?_ | refine Le.bind' ?_ ?_ | refine Le.ite' ?_ ?_ | refine Le.loop' ?_ | refine Le.altS' ?_ ?_ | apply Iz | apply GD | exact Le.rfl' _ | (refine Le.pi2 ?_; intro _) | intro _)
def BG (nE : Nat) (p0 : List (Int × Int)) (p1 : Int × Int) : Int → Option (Int ⊕ (Unit ⊕ Int))
  | x1 => (if x1 < (p0.length : Int) then (ix p0 x1).bind fun x2 => (if p1.1 = x2.1 ∧ p1.2 = x2.2 then some (.inr (.inr x1)) else some (.inl (DC (x1 + 1)))) else some (.inr (.inl ())))
theorem Dm (nE : Nat) (p0 : List (Int × Int)) (p1 : Int × Int) : ∀ s, Le (BG nE p0 p1 s) (Av p0 p1 s) := by
  intro x1
  unfold BG Av
  repeat' with_reducible (first | refine Le.orR' ?_ ?_ | refine Le.bind' ?_ ?_ | refine Le.ite' ?_ ?_ | refine Le.loop' ?_ | refine Le.altS' ?_ ?_ | exact Le.rfl' _ | (refine Le.pi2 ?_; intro _) | intro _)
def BP (nE : Nat) (p0 : List (Int × Int)) (p1 : Int × Int) : Option Int := DQ (DM nE (BG nE p0 p1) 0) fun _ => some (-1)
theorem DB (nE : Nat) (p0 : List (Int × Int)) (p1 : Int × Int) : Le (BP nE p0 p1) (AZ p0 p1) := by
  unfold BP AZ
  repeat' with_reducible (first | refine Le.orR' ?_ ?_ | refine Le.bind' ?_ ?_ | refine Le.ite' ?_ ?_ | refine Le.loop' ?_ | refine Le.altS' ?_ ?_ | apply Dm | exact Le.rfl' _ | (refine Le.pi2 ?_; intro _) | intro _)
def Fa (nE : Nat) (p0 : Int × (List (Int × Int × Int × Int × Int × Int)) × (List (Int × Int))) (p1 : Int) (p2 : Int) : Option Int := (BP nE p0.2.2 (p1, p2)).bind fun x1 => some x1
theorem HS (nE : Nat) (p0 : Int × (List (Int × Int × Int × Int × Int × Int)) × (List (Int × Int))) (p1 : Int) (p2 : Int) : Le (Fa nE p0 p1 p2) (CQ p0 p1 p2) := by
  unfold Fa CQ
  repeat' with_reducible (first | refine Le.orR' ?_ ?_ | refine Le.bind' ?_ ?_ | refine Le.ite' ?_ ?_ | refine Le.loop' ?_ | refine Le.altS' ?_ ?_ | apply DB | exact Le.rfl' _ | (refine Le.pi2 ?_; intro _) | intro _)
def EU (nE : Nat) (p0 : Int × (List (Int × Int × Int × Int × Int × Int)) × (List (Int × Int))) (p1 : Int) (p2 : Int) : Int → Option (Int ⊕ (Unit ⊕ (Int × Int × Int × Bool)))
  | x1 => (if x1 < (p0.2.1.length : Int) then (ix p0.2.1 x1).bind fun x2 => (if p1 = x2.1 ∧ p2 = x2.2.1 then some (.inr (.inr (x2.2.2.1, x2.2.2.2.1, x1, true))) else (if p1 = x2.2.2.1 ∧ p2 = x2.2.2.2.1 then some (.inr (.inr (x2.1, x2.2.1, x1, true))) else some (.inl (DC (x1 + 1))))) else some (.inr (.inl ())))
theorem HE (nE : Nat) (p0 : Int × (List (Int × Int × Int × Int × Int × Int)) × (List (Int × Int))) (p1 : Int) (p2 : Int) : ∀ s, Le (EU nE p0 p1 p2 s) (BK p0 p1 p2 s) := by
  intro x1
  unfold EU BK
  repeat' with_reducible (first | refine Le.orR' ?_ ?_ | refine Le.bind' ?_ ?_ | refine Le.ite' ?_ ?_ | refine Le.loop' ?_ | refine Le.altS' ?_ ?_ | exact Le.rfl' _ | (refine Le.pi2 ?_; intro _) | intro _)
def FN (nE : Nat) (p0 : Int × (List (Int × Int × Int × Int × Int × Int)) × (List (Int × Int))) (p1 : Int) (p2 : Int) : Option (Int × Int × Int × Bool) := DQ (DM nE (EU nE p0 p1 p2) 0) fun _ => some (0, 0, 0, false)
theorem Je (nE : Nat) (p0 : Int × (List (Int × Int × Int × Int × Int × Int)) × (List (Int × Int))) (p1 : Int) (p2 : Int) : Le (FN nE p0 p1 p2) (CI p0 p1 p2) := by
  unfold FN CI
  repeat' with_reducible (first | refine Le.orR' ?_ ?_ | refine Le.bind' ?_ ?_ | refine Le.ite' ?_ ?_ | refine Le.loop' ?_ | refine Le.altS' ?_ ?_ | apply HE | exact Le.rfl' _ | (refine Le.pi2 ?_; intro _) | intro _)
def Fw (nE : Nat) (p0 : Int × (List (Int × Int × Int × Int × Int × Int)) × (List (Int × Int))) (p1 : List (List Int)) (p2 : Int) (p3 : Int) : Option (Int × Bool) := (if p2 < 0 then some true else (if (p1.length : Int) ≤ p2 then some true else (if p3 < 0 then some true else (ix p1 p2).bind fun x2 => some (decide ((x2.length : Int) ≤ p3))))).bind fun x1 => (if x1 = true then some (0, false) else (ix p1 p2).bind fun x3 => (ix x3 p3).bind fun x4 => (FN nE p0 p2 x4).bind fun x5 => some (x5.1, x5.2.2.2))
theorem Iu (nE : Nat) (p0 : Int × (List (Int × Int × Int × Int × Int × Int)) × (List (Int × Int))) (p1 : List (List Int)) (p2 : Int) (p3 : Int) : Le (Fw nE p0 p1 p2 p3) (Dy p0 p1 p2 p3) := by
  unfold Fw Dy
  repeat' with_reducible (first | refine Le.orR' ?_ ?_ | refine Le.bind' ?_ ?_ | refine Le.ite' ?_ ?_ | refine Le.loop' ?_ | refine Le.altS' ?_ ?_ | apply Je | exact Le.rfl' _ | (refine Le.pi2 ?_; intro _) | intro _)
def CK (nE : Nat) (p0 : List Int) (p1 : Int) : Int → Option (Int ⊕ (Unit ⊕ Bool))
  | x1 => (if x1 < (p0.length : Int) then (ix p0 x1).bind fun x2 => (if p1 = x2 then some (.inr (.inr true)) else some (.inl (DC (x1 + 1)))) else some (.inr (.inl ())))
theorem E3 (nE : Nat) (p0 : List Int) (p1 : Int) : ∀ s, Le (CK nE p0 p1 s) (Bu p0 p1 s) := by
  intro x1
  unfold CK Bu
  repeat' with_reducible (first | refine Le.orR' ?_ ?_ | refine Le.bind' ?_ ?_ | refine Le.ite' ?_ ?_ | refine Le.loop' ?_ | refine Le.altS' ?_ ?_ | exact Le.rfl' _ | (refine Le.pi2 ?_; intro _) | intro _)
def Dc (nE : Nat) (p0 : List Int) (p1 : Int) : Option Bool := DQ (DM nE (CK nE p0 p1) 0) fun _ => some false
theorem FH (nE : Nat) (p0 : List Int) (p1 : Int) : Le (Dc nE p0 p1) (BL p0 p1) := by
  unfold Dc BL
  repeat' with_reducible (first | refine Le.orR' ?_ ?_ | refine Le.bind' ?_ ?_ | refine Le.ite' ?_ ?_ | refine Le.loop' ?_ | refine Le.altS' ?_ ?_ | apply E3 | exact Le.rfl' _ | (refine Le.pi2 ?_; intro _) | intro _)
def Em (nE : Nat) (p0 : Int × (List (Int × Int × Int × Int × Int × Int)) × (List (Int × Int))) (p1 : List (List Int)) (p3 : Int) : (Int × List Int) → Option ((Int × List Int) ⊕ ((List Int) ⊕ (List Int × Int)))
  | (x2, x3) => (ix p1 x2).bind fun x4 => (ix x4 p3).bind fun x5 => (Fa nE p0 x2 x5).bind fun x6 => (if x6 ≠ p3 then (Fw nE p0 p1 x2 p3).bind fun x7 => (if (!x7.2) = true then some (.inr (.inr (([] : List Int), 13))) else (Dc nE x3 x7.1).bind fun x8 => (if x8 = true then some (.inr (.inr (([] : List Int), 12))) else (Fo x3 ([x7.1] : List Int)).bind fun x9 => some (.inl (x7.1, x9)))) else some (.inr (.inl x3)))
theorem G9 (nE : Nat) (p0 : Int × (List (Int × Int × Int × Int × Int × Int)) × (List (Int × Int))) (p1 : List (List Int)) (p3 : Int) : ∀ s, Le (Em nE p0 p1 p3 s) (B2 p0 p1 p3 s) := by
  rintro ⟨x2, x3⟩
  unfold Em B2
  repeat' with_reducible (first | refine Le.orR' ?_ ?_ | refine Le.bind' ?_ ?_ | refine Le.ite' ?_ ?_ | refine Le.loop' ?_ | refine Le.altS' ?_ ?_ | apply HS | apply Iu | apply FH | exact Le.rfl' _ | (refine Le.pi2 ?_; intro _) | intro _)
def Fu (nE : Nat) (p0 : Int × (List (Int × Int × Int × Int × Int × Int)) × (List (Int × Int))) (p1 : List (List Int)) (p2 : Int) (p3 : Int) : Option (List Int × Int) := DQ (DM nE (Em nE p0 p1 p3) (p2, ([p2] : List Int))) fun x1 => some (x1, 0)
theorem Iy (nE : Nat) (p0 : Int × (List (Int × Int × Int × Int × Int × Int)) × (List (Int × Int))) (p1 : List (List Int)) (p2 : Int) (p3 : Int) : Le (Fu nE p0 p1 p2 p3) (Dw p0 p1 p2 p3) := by
  unfold Fu Dw
  repeat' with_reducible (first | refine Le.orR' ?_ ?_ | refine Le.bind' ?_ ?_ | refine Le.ite' ?_ ?_ | refine Le.loop' ?_ | refine Le.altS' ?_ ?_ | apply G9 | exact Le.rfl' _ | (refine Le.pi2 ?_; intro _) | intro _)
def Fx (nE : Nat) (p0 : Int × (List (Int × Int × Int × Int × Int × Int)) × (List (Int × Int))) (p1 : List (List Int)) (p2 : Int) (p3 : Int) : Option (List Int × Int) := ((Fc nE p0 p1).bind fun x2 => (if (!x2) = true then some true else (if p2 < 0 then some true else (if p0.1 ≤ p2 then some true else (if p3 < 0 then some true else some (decide ((p0.2.2.length : Int) ≤ p3))))))).bind fun x1 => (if x1 = true then some (([] : List Int), 2) else (Fu nE p0 p1 p2 p3).bind fun x3 => some (x3.1, x3.2))
theorem IF (nE : Nat) (p0 : Int × (List (Int × Int × Int × Int × Int × Int)) × (List (Int × Int))) (p1 : List (List Int)) (p2 : Int) (p3 : Int) : Le (Fx nE p0 p1 p2 p3) (CE p0 p1 p2 p3) := by
  unfold Fx CE
  repeat' with_reducible (first | refine Le.orR' ?_ ?_ | refine Le.bind' ?_ ?_ | refine Le.ite' ?_ ?_ | refine Le.loop' ?_ | refine Le.altS' ?_ ?_ | apply HO | apply Iy | exact Le.rfl' _ | (refine Le.pi2 ?_; intro _) | intro _)
def CA (nE : Nat) (p0 : List Int) (p1 : List Int) : Int → Option (Int ⊕ (Unit ⊕ Bool))
  | x1 => (if x1 < (p0.length : Int) then (ix p0 x1).bind fun x2 => (ix p1 x1).bind fun x3 => (if x2 ≠ x3 then some (.inr (.inr false)) else some (.inl (DC (x1 + 1)))) else some (.inr (.inl ())))
theorem EF (nE : Nat) (p0 : List Int) (p1 : List Int) : ∀ s, Le (CA nE p0 p1 s) (A8 p0 p1 s) := by
  intro x1
  unfold CA A8
  repeat' with_reducible (first | refine Le.orR' ?_ ?_ | refine Le.bind' ?_ ?_ | refine Le.ite' ?_ ?_ | refine Le.loop' ?_ | refine Le.altS' ?_ ?_ | exact Le.rfl' _ | (refine Le.pi2 ?_; intro _) | intro _)
def CU (nE : Nat) (p0 : List Int) (p1 : List Int) : Option Bool := (if (p0.length : Int) ≠ (p1.length : Int) then some false else DQ (DM nE (CA nE p0 p1) 0) fun _ => some true)
theorem Ff (nE : Nat) (p0 : List Int) (p1 : List Int) : Le (CU nE p0 p1) (Bz p0 p1) := by
  unfold CU Bz
  repeat' with_reducible (first | refine Le.orR' ?_ ?_ | refine Le.bind' ?_ ?_ | refine Le.ite' ?_ ?_ | refine Le.loop' ?_ | refine Le.altS' ?_ ?_ | apply EF | exact Le.rfl' _ | (refine Le.pi2 ?_; intro _) | intro _)
def En (nE : Nat) (p0 : Int × (List (Int × Int × Int × Int × Int × Int)) × (List (Int × Int))) (p1 : List (List (List Int))) (p2 : Int) (p3 : Int × Int × Int × Int × List Int × Int × Int × Int) : Option Bool := (if (decide (p2 < 0) || decide ((p1.length : Int) ≤ p2)) = true then some false else (ix p1 p2).bind fun x1 => (ix p3.2.2.2.2.1 0).bind fun x2 => (Fx nE p0 x1 x2 p3.2.2.1).bind fun x3 => (if x3.2 ≠ 0 then some false else (if (decide (p3.2.2.2.2.2.1 = 0) && decide ((p3.2.2.2.2.1.length : Int) < (x3.1.length : Int))) = true then (Ij x3.1 0 (p3.2.2.2.2.1.length : Int)).bind fun x5 => some x5 else some x3.1).bind fun x4 => (CU nE p3.2.2.2.2.1 x4).bind fun x6 => some x6))
theorem Hf (nE : Nat) (p0 : Int × (List (Int × Int × Int × Int × Int × Int)) × (List (Int × Int))) (p1 : List (List (List Int))) (p2 : Int) (p3 : Int × Int × Int × Int × List Int × Int × Int × Int) : Le (En nE p0 p1 p2 p3) (B5 p0 p1 p2 p3) := by
  unfold En B5
  repeat' with_reducible (first | refine Le.orR' ?_ ?_ | refine Le.bind' ?_ ?_ | refine Le.ite' ?_ ?_ | refine Le.loop' ?_ | refine Le.altS' ?_ ?_ | apply IF | apply Ff | exact Le.rfl' _ | (refine Le.pi2 ?_; intro _) | intro _)
def DZ (nE : Nat) (p0 : Int × (List (Int × Int × Int × Int × Int × Int)) × (List (Int × Int))) (p1 : List (List (List Int))) (x1 : ((List (Int × Int × Int)) × (List (Int × Int)))) (x3 : (List (Int × Int × Int × Int × List Int × Int × Int × Int))) : ((List (Int × Int)) × Int) → Option (((List (Int × Int)) × Int) ⊕ (List (Int × Int)))
  | (x4, x5) => (if x5 < (x3.length : Int) then ((ix x3 x5).bind fun x7 => ((E8 nE x7).bind fun x9 => (if x9 = true then (Fo x4 ([(1, x7.1)] : List (Int × Int))).bind fun x10 => some x10 else some x4)).bind fun x8 => (if x7.2.2.2.2.2.1 = 4 then (Fo x8 ([(2, x7.1)] : List (Int × Int))).bind fun x12 => some x12 else some x8).bind fun x11 => (if (decide (x7.2.2.2.2.2.1 = 3) && decide (x7.2.2.2.2.2.2.1 ≠ x7.2.2.1)) = true then (Fo x11 ([(3, x7.1)] : List (Int × Int))).bind fun x14 => some x14 else some x11).bind fun x13 => (if 0 < (x7.2.2.2.2.1.length : Int) then (Cz nE x1 x7.2.2.2.1).bind fun x16 => (if (!x16) = true then (CL nE x1 x7.2.2.2.1).bind fun x17 => (En nE p0 p1 x17 x7).bind fun x18 => some (!x18) else some false) else some false).bind fun x15 => (if x15 = true then (Fo x13 ([(4, x7.1)] : List (Int × Int))).bind fun x19 => some x19 else some x13)).bind fun x6 => some (.inl (x6, DC (x5 + 1))) else some (.inr x4))
theorem GB (nE : Nat) (p0 : Int × (List (Int × Int × Int × Int × Int × Int)) × (List (Int × Int))) (p1 : List (List (List Int))) (x1 : ((List (Int × Int × Int)) × (List (Int × Int)))) (x3 : (List (Int × Int × Int × Int × List Int × Int × Int × Int))) : ∀ s, Le (DZ nE p0 p1 x1 x3 s) (BT p0 p1 x1 x3 s) := by
  rintro ⟨x4, x5⟩
  unfold DZ BT
  repeat' with_reducible (first | refine Le.orR' ?_ ?_ | refine Le.bind' ?_ ?_ | refine Le.ite' ?_ ?_ | refine Le.loop' ?_ | refine Le.altS' ?_ ?_ | apply HT | apply ER | apply E7 | apply Hf | exact Le.rfl' _ | (refine Le.pi2 ?_; intro _) | intro _)
def D9 (nE : Nat) (p0 : Int × (List (Int × Int × Int × Int × Int × Int)) × (List (Int × Int))) (p1 : List (List (List Int))) (p2 : List (Int × Int × Int × Int × Int × Int)) : Option (List (Int × Int)) := (FC nE p2).bind fun x1 => ((Gj nE p2).bind fun x3 => DM nE (DZ nE p0 p1 x1 x3) ([], 0)).bind fun x2 => some x2
theorem HV (nE : Nat) (p0 : Int × (List (Int × Int × Int × Int × Int × Int)) × (List (Int × Int))) (p1 : List (List (List Int))) (p2 : List (Int × Int × Int × Int × Int × Int)) : Le (D9 nE p0 p1 p2) (B7 p0 p1 p2) := by
  unfold D9 B7
  repeat' with_reducible (first | refine Le.orR' ?_ ?_ | refine Le.bind' ?_ ?_ | refine Le.ite' ?_ ?_ | refine Le.loop' ?_ | refine Le.altS' ?_ ?_ | apply IG | apply JG | apply GB | exact Le.rfl' _ | (refine Le.pi2 ?_; intro _) | intro _)
def Hs (nE : Nat)  : Option Bool := (D9 nE (1, ([] : List (Int × Int × Int × Int × Int × Int)), ([(0, 3)] : List (Int × Int))) ([([([3] : List Int)] : List (List Int))] : List (List (List Int))) ([(1, 0, 4, 0, 0, 0), (4, 0, 4, 0, 0, 0)] : List (Int × Int × Int × Int × Int × Int))).bind fun x1 => ((D9 nE (1, ([] : List (Int × Int × Int × Int × Int × Int)), ([(0, 3)] : List (Int × Int))) ([([([3] : List Int)] : List (List Int))] : List (List (List Int))) ([(1, 0, 0, 0, 0, 0), (2, 0, 0, 0, 0, 0), (3, 0, 0, 0, 0, 0)] : List (Int × Int × Int × Int × Int × Int))).bind fun x3 => (if (x3.length : Int) = 0 then (if (x1.length : Int) = 1 then (ix x1 0).bind fun x4 => (if x4.1 = 2 ∧ x4.2 = 4 then some (decide ((D4 2) = ([108, 111, 115, 116] : List UInt8))) else some false) else some false) else some false)).bind fun x2 => some x2
theorem Jw (nE : Nat)  : Le (Hs nE ) (D3 ) := by
  unfold Hs D3
  repeat' with_reducible (first | refine Le.orR' ?_ ?_ | refine Le.bind' ?_ ?_ | refine Le.ite' ?_ ?_ | refine Le.loop' ?_ | refine Le.altS' ?_ ?_ | apply HV | exact Le.rfl' _ | (refine Le.pi2 ?_; intro _) | intro _)
theorem My : D3 = some true := Jw 60 _ (by kernel_rfl)
end Go.Proofs.Ytflaelbmglmmcaa
