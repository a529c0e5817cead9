/- Twins with fuel of EV functions: what a twin answers, the function answers. Conditions: none. -/
import Derived.Test.YtfnmlmglmegamaacLP
import Derived.Test.YtfnmlmglmegamaacA8
namespace Go.Proofs.Ytfnmlmglmegamaa
open Go Go.RowKit
set_option linter.unusedVariables false
set_option linter.unusedSimpArgs false
set_option maxRecDepth 20000
set_option maxHeartbeats 1600000
abbrev Le {α : Type} (a b : Option α) : Prop := ∀ r, a = some r → b = some r
theorem Le.rfl' {α : Type} (a : Option α) : Le a a := fun _ h => h
theorem Le.bind' {α β : Type} {a b : Option α} {f g : α → Option β} (h : Le a b) (hf : ∀ x, Le (f x) (g x)) : Le (a.bind f) (b.bind g) := fun r e => by
  obtain ⟨x, h1, h2⟩ := Ah e
  rw [h x h1, Option.bind_some]; exact hf x r h2
theorem Le.ite' {α : Type} {c : Prop} [Decidable c] {a a' b b' : Option α} (h1 : Le a a') (h2 : Le b b') : Le (if c then a else b) (if c then a' else b') := fun r e => by
  by_cases h : c
  · rw [if_pos h] at e ⊢; exact h1 r e
  · rw [if_neg h] at e ⊢; exact h2 r e
theorem Le.orR' {α β : Type} {a b : Option (α ⊕ β)} {f g : α → Option β} (h : Le a b) (hf : ∀ x, Le (f x) (g x)) : Le (Fu a f) (Fu b g) :=
  Le.bind' h fun x => by
    cases x with
    | inl t => exact hf t
    | inr e => exact Le.rfl' _
def Ja {σ ε : Type} (n : Nat) (step : σ → Option (σ ⊕ ε)) (s : σ) : Option ε := Ey step n s
theorem Iy {σ ε : Type} {S T : σ → Option (σ ⊕ ε)} (h : ∀ s, Le (S s) (T s)) : ∀ (n : Nat) (s : σ), Le (Ey S n s) (Ey T n s)
  | 0, s => Le.rfl' _
  | n + 1, s => fun r e => by
    unfold Ey at e ⊢
    cases hs : S s with
    | none => rw [hs] at e; cases e
    | some q =>
      rw [hs] at e; rw [h s q hs]
      cases q with
      | inl s' => exact Iy h n s' r e
      | inr _ => exact e
theorem Le.loop' {σ ε : Type} {n : Nat} {S T : σ → Option (σ ⊕ ε)} {s : σ} (h : ∀ s, Le (S s) (T s)) : Le (Ja n S s) (AJ T s) := fun r e => Fy.2 ⟨n, Iy h n s r e⟩
theorem Le.pi2 {α β γ : Type} {f g : α × β → Option γ} (h : ∀ a b, Le (f (a, b)) (g (a, b))) : ∀ x, Le (f x) (g x) := fun x => h x.1 x.2
theorem Le.altS' {α β γ : Type} {y : α ⊕ β} {f f' : α → Option γ} {g g' : β → Option γ} (h : ∀ x, Le (f x) (f' x)) (k : ∀ x, Le (g x) (g' x)) : Le (Qk y f g) (Qk y f' g') := by
  cases y with
  | inl x => exact h x
  | inr x => exact k x
def Fp (nE : Nat) (p0 : Int) : Option Int := (if p0 = 0 then some true else (if p0 = 1 then some true else some (decide (p0 = 3)))).bind fun x1 => (if x1 = true then some 8 else (if p0 = 2 then some 4 else some 0))
theorem H3 (nE : Nat) (p0 : Int) : Le (Fp nE p0) (Dq p0) := by
  unfold Fp Dq
  repeat' with_reducible (first | refine Le.orR' ?_ ?_ | refine Le.bind' ?_ ?_ | refine Le.ite' ?_ ?_ | refine Le.loop' ?_ | refine Le.altS' ?_ ?_ | exact Le.rfl' _ | (refine Le.pi2 ?_; intro _) | intro _)
def EB (nE : Nat) (p0 : Int) : Option Int := (Fp nE p0).bind fun x1 => (Qu (Ot .i64 1 x1) x1).bind fun x2 => some (Cs (x2 - 1))
theorem I2 (nE : Nat) (p0 : Int) : Le (EB nE p0) (CM p0) := by
  unfold EB CM
  repeat' with_reducible (first | refine Le.orR' ?_ ?_ | refine Le.bind' ?_ ?_ | refine Le.ite' ?_ ?_ | refine Le.loop' ?_ | refine Le.altS' ?_ ?_ | apply H3 | exact Le.rfl' _ | (refine Le.pi2 ?_; intro _) | intro _)
def GN (nE : Nat) (p0 : Int) (p1 : Int) : Option (Int × (Int × Int × Int × Int) × (Int × Int × Int × Int)) := (if p0 < 0 then some true else (if 4 ≤ p0 then some true else (if p1 < 0 then some true else (EB nE p0).bind fun x2 => some (decide (x2 < p1))))).bind fun x1 => (if x1 = true then some Af else (ix ([Af.2.1.1, Af.2.1.2.1, Af.2.1.2.2.1, Af.2.1.2.2.2] : List Int) p0).bind fun x3 => (EB nE p0).bind fun x4 => (ix ([Af.2.2.1, Af.2.2.2.1, Af.2.2.2.2.1, Af.2.2.2.2.2] : List Int) p0).bind fun x5 => some (Af.1, ((if p0 = 0 then p1 else Af.2.1.1), (if p0 = 1 then p1 else Af.2.1.2.1), (if p0 = 2 then p1 else Af.2.1.2.2.1), (if p0 = 3 then p1 else Af.2.1.2.2.2)), ((if p0 = 0 then x4 else Af.2.2.1), (if p0 = 1 then x4 else Af.2.2.2.1), (if p0 = 2 then x4 else Af.2.2.2.2.1), (if p0 = 3 then x4 else Af.2.2.2.2.2))))
theorem Kh (nE : Nat) (p0 : Int) (p1 : Int) : Le (GN nE p0 p1) (Gp p0 p1) := by
  unfold GN Gp
  repeat' with_reducible (first | refine Le.orR' ?_ ?_ | refine Le.bind' ?_ ?_ | refine Le.ite' ?_ ?_ | refine Le.loop' ?_ | refine Le.altS' ?_ ?_ | apply I2 | exact Le.rfl' _ | (refine Le.pi2 ?_; intro _) | intro _)
def Ez (nE : Nat) (p0 : Int) (p1 : Int) (p2 : Int) (p3 : Int) : Option (Int × (Int × (Int × Int × Int × Int) × (Int × Int × Int × Int)) × (List (Int × Int × Int))) := (GN nE p0 p1).bind fun x1 => some (p2, x1, ([(2, 0, p3)] : List (Int × Int × Int)))
theorem IM (nE : Nat) (p0 : Int) (p1 : Int) (p2 : Int) (p3 : Int) : Le (Ez nE p0 p1 p2 p3) (D9 p0 p1 p2 p3) := by
  unfold Ez D9
  repeat' with_reducible (first | refine Le.orR' ?_ ?_ | refine Le.bind' ?_ ?_ | refine Le.ite' ?_ ?_ | refine Le.loop' ?_ | refine Le.altS' ?_ ?_ | apply Kh | exact Le.rfl' _ | (refine Le.pi2 ?_; intro _) | intro _)
def Cf (nE : Nat) (p0 : List (Int × Int × Int)) : Option (List (Int × Int × Int)) := (Jb ([] : List (Int × Int × Int)) p0).bind fun x1 => some x1
theorem D2 (nE : Nat) (p0 : List (Int × Int × Int)) : Le (Cf nE p0) (AW p0) := by
  unfold Cf AW
  repeat' with_reducible (first | refine Le.orR' ?_ ?_ | refine Le.bind' ?_ ?_ | refine Le.ite' ?_ ?_ | refine Le.loop' ?_ | refine Le.altS' ?_ ?_ | exact Le.rfl' _ | (refine Le.pi2 ?_; intro _) | intro _)
def DE (nE : Nat) (p0 : Int × (Int × (Int × (Int × Int × Int × Int) × (Int × Int × Int × Int)) × (List (Int × Int × Int))) × Bool) : Option (Int × (Int × (Int × (Int × Int × Int × Int) × (Int × Int × Int × Int)) × (List (Int × Int × Int))) × Bool) := (Cf nE p0.2.1.2.2).bind fun x1 => some (p0.1, (p0.2.1.1, p0.2.1.2.1, x1), p0.2.2)
theorem FC (nE : Nat) (p0 : Int × (Int × (Int × (Int × Int × Int × Int) × (Int × Int × Int × Int)) × (List (Int × Int × Int))) × Bool) : Le (DE nE p0) (Cv p0) := by
  unfold DE Cv
  repeat' with_reducible (first | refine Le.orR' ?_ ?_ | refine Le.bind' ?_ ?_ | refine Le.ite' ?_ ?_ | refine Le.loop' ?_ | refine Le.altS' ?_ ?_ | apply D2 | exact Le.rfl' _ | (refine Le.pi2 ?_; intro _) | intro _)
def B4 (nE : Nat) (p0 : List (Int × Int × Int)) (p1 : List (Int × Int × Int)) : Int → Option (Int ⊕ (Unit ⊕ Bool))
  | x1 => (if x1 < (p0.length : Int) then (ix p0 x1).bind fun x2 => (ix p1 x1).bind fun x3 => (if (!(decide (x2.1 = x3.1 ∧ x2.2.1 = x3.2.1 ∧ x2.2.2 = x3.2.2))) = true then some (.inr (.inr false)) else some (.inl (Cs (x1 + 1)))) else some (.inr (.inl ())))
theorem DF (nE : Nat) (p0 : List (Int × Int × Int)) (p1 : List (Int × Int × Int)) : ∀ s, Le (B4 nE p0 p1 s) (Bb p0 p1 s) := by
  intro x1
  unfold B4 Bb
  repeat' with_reducible (first | refine Le.orR' ?_ ?_ | refine Le.bind' ?_ ?_ | refine Le.ite' ?_ ?_ | refine Le.loop' ?_ | refine Le.altS' ?_ ?_ | exact Le.rfl' _ | (refine Le.pi2 ?_; intro _) | intro _)
def Ce (nE : Nat) (p0 : List (Int × Int × Int)) (p1 : List (Int × Int × Int)) : Option Bool := (if (p0.length : Int) ≠ (p1.length : Int) then some false else Fu (Ja nE (B4 nE p0 p1) 0) fun _ => some true)
theorem D1 (nE : Nat) (p0 : List (Int × Int × Int)) (p1 : List (Int × Int × Int)) : Le (Ce nE p0 p1) (Bm p0 p1) := by
  unfold Ce Bm
  repeat' with_reducible (first | refine Le.orR' ?_ ?_ | refine Le.bind' ?_ ?_ | refine Le.ite' ?_ ?_ | refine Le.loop' ?_ | refine Le.altS' ?_ ?_ | apply DF | exact Le.rfl' _ | (refine Le.pi2 ?_; intro _) | intro _)
def GG (nE : Nat) (p0 : List (Int × Int × Int)) (p1 : List (Int × Int × Int)) : Option Bool := (Ce nE p0 p1).bind fun x1 => some x1
theorem JX (nE : Nat) (p0 : List (Int × Int × Int)) (p1 : List (Int × Int × Int)) : Le (GG nE p0 p1) (EZ p0 p1) := by
  unfold GG EZ
  repeat' with_reducible (first | refine Le.orR' ?_ ?_ | refine Le.bind' ?_ ?_ | refine Le.ite' ?_ ?_ | refine Le.loop' ?_ | refine Le.altS' ?_ ?_ | apply D1 | exact Le.rfl' _ | (refine Le.pi2 ?_; intro _) | intro _)
def Gq (nE : Nat) (p0 : Int × (Int × (Int × Int × Int × Int) × (Int × Int × Int × Int)) × (List (Int × Int × Int))) (p1 : Int × (Int × (Int × Int × Int × Int) × (Int × Int × Int × Int)) × (List (Int × Int × Int))) : Option Bool := (if (DR p0 p1) = true then (GG nE p0.2.2 p1.2.2).bind fun x2 => some x2 else some false).bind fun x1 => some x1
theorem JP (nE : Nat) (p0 : Int × (Int × (Int × Int × Int × Int) × (Int × Int × Int × Int)) × (List (Int × Int × Int))) (p1 : Int × (Int × (Int × Int × Int × Int) × (Int × Int × Int × Int)) × (List (Int × Int × Int))) : Le (Gq nE p0 p1) (Ee p0 p1) := by
  unfold Gq Ee
  repeat' with_reducible (first | refine Le.orR' ?_ ?_ | refine Le.bind' ?_ ?_ | refine Le.ite' ?_ ?_ | refine Le.loop' ?_ | refine Le.altS' ?_ ?_ | apply JX | exact Le.rfl' _ | (refine Le.pi2 ?_; intro _) | intro _)
def Fi (nE : Nat) (p0 : Int × (Int × (Int × (Int × Int × Int × Int) × (Int × Int × Int × Int)) × (List (Int × Int × Int))) × Bool) (p1 : Int × (Int × (Int × (Int × Int × Int × Int) × (Int × Int × Int × Int)) × (List (Int × Int × Int))) × Bool) : Option Bool := (if p0.1 = p1.1 then (if p0.2.2 = p1.2.2 then (Gq nE p0.2.1 p1.2.1).bind fun x2 => some x2 else some false) else some false).bind fun x1 => some x1
theorem Ic (nE : Nat) (p0 : Int × (Int × (Int × (Int × Int × Int × Int) × (Int × Int × Int × Int)) × (List (Int × Int × Int))) × Bool) (p1 : Int × (Int × (Int × (Int × Int × Int × Int) × (Int × Int × Int × Int)) × (List (Int × Int × Int))) × Bool) : Le (Fi nE p0 p1) (Dn p0 p1) := by
  unfold Fi Dn
  repeat' with_reducible (first | refine Le.orR' ?_ ?_ | refine Le.bind' ?_ ?_ | refine Le.ite' ?_ ?_ | refine Le.loop' ?_ | refine Le.altS' ?_ ?_ | apply JP | exact Le.rfl' _ | (refine Le.pi2 ?_; intro _) | intro _)
def Cq (nE : Nat) (p0 : Int × List (Bool × (Int × (Int × (Int × (Int × Int × Int × Int) × (Int × Int × Int × Int)) × (List (Int × Int × Int))) × Bool))) (p1 : Int) (p2 : Int × (Int × (Int × (Int × Int × Int × Int) × (Int × Int × Int × Int)) × (List (Int × Int × Int))) × Bool) : Option (Int × (Int × List (Bool × (Int × (Int × (Int × (Int × Int × Int × Int) × (Int × Int × Int × Int)) × (List (Int × Int × Int))) × Bool)))) := (if (Ai p0) ≠ 0 then some (16, p0) else (if (decide (p1 < 0) || decide (16 ≤ p1)) = true then some (2, p0) else (Mw 16 p0.2 p1).bind fun x1 => (if (!x1.1) = true then (DE nE p2).bind fun x2 => (Mw 16 p0.2 p1).bind fun x3 => some (0, (p0.1, C9 p0.2 p1 (true, x2))) else (Mw 16 p0.2 p1).bind fun x4 => (Fi nE x4.2 p2).bind fun x5 => (if (!x5) = true then some (8, p0) else some (0, p0)))))
theorem Gb (nE : Nat) (p0 : Int × List (Bool × (Int × (Int × (Int × (Int × Int × Int × Int) × (Int × Int × Int × Int)) × (List (Int × Int × Int))) × Bool))) (p1 : Int) (p2 : Int × (Int × (Int × (Int × Int × Int × Int) × (Int × Int × Int × Int)) × (List (Int × Int × Int))) × Bool) : Le (Cq nE p0 p1 p2) (AP p0 p1 p2) := by
  unfold Cq AP
  repeat' with_reducible (first | refine Le.orR' ?_ ?_ | refine Le.bind' ?_ ?_ | refine Le.ite' ?_ ?_ | refine Le.loop' ?_ | refine Le.altS' ?_ ?_ | apply FC | apply Ic | exact Le.rfl' _ | (refine Le.pi2 ?_; intro _) | intro _)
def CJ (nE : Nat) (p0 : Int × List (Bool × (Int × (Int × (Int × (Int × Int × Int × Int) × (Int × Int × Int × Int)) × (List (Int × Int × Int))) × Bool))) : (Int × Int) → Option ((Int × Int) ⊕ Int)
  | (x2, x3) => (if x3 < 16 then ((Mw 16 p0.2 x3).bind fun x5 => (if x5.1 = true then some (Cs (x2 + 1)) else some x2)).bind fun x4 => some (.inl (x4, Cs (x3 + 1))) else some (.inr x2))
theorem E0 (nE : Nat) (p0 : Int × List (Bool × (Int × (Int × (Int × (Int × Int × Int × Int) × (Int × Int × Int × Int)) × (List (Int × Int × Int))) × Bool))) : ∀ s, Le (CJ nE p0 s) (Bx p0 s) := by
  rintro ⟨x2, x3⟩
  unfold CJ Bx
  repeat' with_reducible (first | refine Le.orR' ?_ ?_ | refine Le.bind' ?_ ?_ | refine Le.ite' ?_ ?_ | refine Le.loop' ?_ | refine Le.altS' ?_ ?_ | exact Le.rfl' _ | (refine Le.pi2 ?_; intro _) | intro _)
def Cb (nE : Nat) (p0 : Int × List (Bool × (Int × (Int × (Int × (Int × Int × Int × Int) × (Int × Int × Int × Int)) × (List (Int × Int × Int))) × Bool))) : Option Int := (Ja nE (CJ nE p0) (0, 0)).bind fun x1 => some x1
theorem DW (nE : Nat) (p0 : Int × List (Bool × (Int × (Int × (Int × (Int × Int × Int × Int) × (Int × Int × Int × Int)) × (List (Int × Int × Int))) × Bool))) : Le (Cb nE p0) (Bk p0) := by
  unfold Cb Bk
  repeat' with_reducible (first | refine Le.orR' ?_ ?_ | refine Le.bind' ?_ ?_ | refine Le.ite' ?_ ?_ | refine Le.loop' ?_ | refine Le.altS' ?_ ?_ | apply E0 | exact Le.rfl' _ | (refine Le.pi2 ?_; intro _) | intro _)
def Bo (nE : Nat) (p0 : List (Bool × (Int × (Int × (Int × (Int × Int × Int × Int) × (Int × Int × Int × Int)) × (List (Int × Int × Int))) × Bool))) : Int → Option (Int ⊕ (Unit ⊕ Int))
  | x1 => (if x1 < (p0.length : Int) then (ix p0 x1).bind fun x2 => (if (CA x2) = true then some (.inr (.inr x1)) else some (.inl (Cs (x1 + 1)))) else some (.inr (.inl ())))
theorem CI (nE : Nat) (p0 : List (Bool × (Int × (Int × (Int × (Int × Int × Int × Int) × (Int × Int × Int × Int)) × (List (Int × Int × Int))) × Bool))) : ∀ s, Le (Bo nE p0 s) (Av p0 s) := by
  intro x1
  unfold Bo Av
  repeat' with_reducible (first | refine Le.orR' ?_ ?_ | refine Le.bind' ?_ ?_ | refine Le.ite' ?_ ?_ | refine Le.loop' ?_ | refine Le.altS' ?_ ?_ | exact Le.rfl' _ | (refine Le.pi2 ?_; intro _) | intro _)
def BA (nE : Nat) (p0 : List (Bool × (Int × (Int × (Int × (Int × Int × Int × Int) × (Int × Int × Int × Int)) × (List (Int × Int × Int))) × Bool))) : Option Int := Fu (Ja nE (Bo nE p0) 0) fun _ => some (-1)
theorem CW (nE : Nat) (p0 : List (Bool × (Int × (Int × (Int × (Int × Int × Int × Int) × (Int × Int × Int × Int)) × (List (Int × Int × Int))) × Bool))) : Le (BA nE p0) (AK p0) := by
  unfold BA AK
  repeat' with_reducible (first | refine Le.orR' ?_ ?_ | refine Le.bind' ?_ ?_ | refine Le.ite' ?_ ?_ | refine Le.loop' ?_ | refine Le.altS' ?_ ?_ | apply CI | exact Le.rfl' _ | (refine Le.pi2 ?_; intro _) | intro _)
def Bq (nE : Nat) (p0 : List (Bool × (Int × (Int × (Int × (Int × Int × Int × Int) × (Int × Int × Int × Int)) × (List (Int × Int × Int))) × Bool))) : Option Bool := (BA nE p0).bind fun x1 => some (decide (0 ≤ x1))
theorem CL (nE : Nat) (p0 : List (Bool × (Int × (Int × (Int × (Int × Int × Int × Int) × (Int × Int × Int × Int)) × (List (Int × Int × Int))) × Bool))) : Le (Bq nE p0) (Au p0) := by
  unfold Bq Au
  repeat' with_reducible (first | refine Le.orR' ?_ ?_ | refine Le.bind' ?_ ?_ | refine Le.ite' ?_ ?_ | refine Le.loop' ?_ | refine Le.altS' ?_ ?_ | apply CW | exact Le.rfl' _ | (refine Le.pi2 ?_; intro _) | intro _)
def De (nE : Nat) (p0 : Int × List (Bool × (Int × (Int × (Int × (Int × Int × Int × Int) × (Int × Int × Int × Int)) × (List (Int × Int × Int))) × Bool))) (p1 : Int) : Option (Int × (Int × List (Bool × (Int × (Int × (Int × (Int × Int × Int × Int) × (Int × Int × Int × Int)) × (List (Int × Int × Int))) × Bool)))) := (if (Ai p0) = 2 then some (16, p0) else (if (Ai p0) = 1 then (Cb nE p0).bind fun x2 => some (decide (p1 = x2)) else some false).bind fun x1 => (if x1 = true then some (0, p0) else (if (Ai p0) = 1 then some true else (if p1 < 0 then some true else some (decide (16 < p1)))).bind fun x3 => (if x3 = true then some (2, p0) else (F1 16 p0.2 p1 16).bind fun x4 => (Bq nE x4).bind fun x5 => (if x5 = true then some (8, p0) else (Cb nE p0).bind fun x6 => (if x6 < p1 then some (7, p0) else some (0, (1, p0.2)))))))
theorem FP (nE : Nat) (p0 : Int × List (Bool × (Int × (Int × (Int × (Int × Int × Int × Int) × (Int × Int × Int × Int)) × (List (Int × Int × Int))) × Bool))) (p1 : Int) : Le (De nE p0 p1) (Bv p0 p1) := by
  unfold De Bv
  repeat' with_reducible (first | refine Le.orR' ?_ ?_ | refine Le.bind' ?_ ?_ | refine Le.ite' ?_ ?_ | refine Le.loop' ?_ | refine Le.altS' ?_ ?_ | apply DW | apply CL | exact Le.rfl' _ | (refine Le.pi2 ?_; intro _) | intro _)
def CQ (nE : Nat) (x3 : List (Bool × (Int × (Int × (Int × (Int × Int × Int × Int) × (Int × Int × Int × Int)) × (List (Int × Int × Int))) × Bool))) : ((List (Int × (Int × (Int × (Int × Int × Int × Int) × (Int × Int × Int × Int)) × (List (Int × Int × Int))) × Bool)) × Int) → Option (((List (Int × (Int × (Int × (Int × Int × Int × Int) × (Int × Int × Int × Int)) × (List (Int × Int × Int))) × Bool)) × Int) ⊕ (List (Int × (Int × (Int × (Int × Int × Int × Int) × (Int × Int × Int × Int)) × (List (Int × Int × Int))) × Bool)))
  | (x4, x5) => (if x5 < (x3.length : Int) then (ix x3 x5).bind fun x6 => (DE nE x6.2).bind fun x7 => (Jb x4 ([x7] : List (Int × (Int × (Int × (Int × Int × Int × Int) × (Int × Int × Int × Int)) × (List (Int × Int × Int))) × Bool))).bind fun x8 => some (.inl (x8, Cs (x5 + 1))) else some (.inr x4))
theorem Ff (nE : Nat) (x3 : List (Bool × (Int × (Int × (Int × (Int × Int × Int × Int) × (Int × Int × Int × Int)) × (List (Int × Int × Int))) × Bool))) : ∀ s, Le (CQ nE x3 s) (BF x3 s) := by
  rintro ⟨x4, x5⟩
  unfold CQ BF
  repeat' with_reducible (first | refine Le.orR' ?_ ?_ | refine Le.bind' ?_ ?_ | refine Le.ite' ?_ ?_ | refine Le.loop' ?_ | refine Le.altS' ?_ ?_ | apply FC | exact Le.rfl' _ | (refine Le.pi2 ?_; intro _) | intro _)
def Dl (nE : Nat) (p0 : Int × List (Bool × (Int × (Int × (Int × (Int × Int × Int × Int) × (Int × Int × Int × Int)) × (List (Int × Int × Int))) × Bool))) : Option (List (Int × (Int × (Int × (Int × Int × Int × Int) × (Int × Int × Int × Int)) × (List (Int × Int × Int))) × Bool)) := (if (Ai p0) ≠ 1 then some ([] : List (Int × (Int × (Int × (Int × Int × Int × Int) × (Int × Int × Int × Int)) × (List (Int × Int × Int))) × Bool)) else ((Cb nE p0).bind fun x2 => (F1 16 p0.2 0 x2).bind fun x3 => Ja nE (CQ nE x3) ([], 0)).bind fun x1 => some x1)
theorem F4 (nE : Nat) (p0 : Int × List (Bool × (Int × (Int × (Int × (Int × Int × Int × Int) × (Int × Int × Int × Int)) × (List (Int × Int × Int))) × Bool))) : Le (Dl nE p0) (AF p0) := by
  unfold Dl AF
  repeat' with_reducible (first | refine Le.orR' ?_ ?_ | refine Le.bind' ?_ ?_ | refine Le.ite' ?_ ?_ | refine Le.loop' ?_ | refine Le.altS' ?_ ?_ | apply DW | apply Ff | exact Le.rfl' _ | (refine Le.pi2 ?_; intro _) | intro _)
def Fj (nE : Nat) (p0 : List (Int × Int × Int)) (p1 : List (Int × Int × Int)) : Int → Option (Int ⊕ (Unit ⊕ Bool))
  | x1 => (if x1 < (p0.length : Int) then (ix p0 x1).bind fun x2 => (ix p1 x1).bind fun x3 => (if (!(decide (x2.1 = x3.1 ∧ x2.2.1 = x3.2.1 ∧ x2.2.2 = x3.2.2))) = true then some (.inr (.inr false)) else some (.inl (Cs (x1 + 1)))) else some (.inr (.inl ())))
theorem Iu (nE : Nat) (p0 : List (Int × Int × Int)) (p1 : List (Int × Int × Int)) : ∀ s, Le (Fj nE p0 p1 s) (DJ p0 p1 s) := by
  intro x1
  unfold Fj DJ
  repeat' with_reducible (first | refine Le.orR' ?_ ?_ | refine Le.bind' ?_ ?_ | refine Le.ite' ?_ ?_ | refine Le.loop' ?_ | refine Le.altS' ?_ ?_ | exact Le.rfl' _ | (refine Le.pi2 ?_; intro _) | intro _)
def GH (nE : Nat) (p0 : List (Int × Int × Int)) (p1 : List (Int × Int × Int)) : Option Bool := (if (p0.length : Int) ≠ (p1.length : Int) then some false else Fu (Ja nE (Fj nE p0 p1) 0) fun _ => some true)
theorem Ks (nE : Nat) (p0 : List (Int × Int × Int)) (p1 : List (Int × Int × Int)) : Le (GH nE p0 p1) (EL p0 p1) := by
  unfold GH EL
  repeat' with_reducible (first | refine Le.orR' ?_ ?_ | refine Le.bind' ?_ ?_ | refine Le.ite' ?_ ?_ | refine Le.loop' ?_ | refine Le.altS' ?_ ?_ | apply Iu | exact Le.rfl' _ | (refine Le.pi2 ?_; intro _) | intro _)
def GF (nE : Nat) (p0 : Int × (Int × (Int × Int × Int × Int) × (Int × Int × Int × Int)) × (List (Int × Int × Int))) (p1 : Int × (Int × (Int × Int × Int × Int) × (Int × Int × Int × Int)) × (List (Int × Int × Int))) : Option Bool := (if p0.1 = p1.1 then (if p0.2.1.1 = p1.2.1.1 ∧ p0.2.1.2.1.1 = p1.2.1.2.1.1 ∧ p0.2.1.2.1.2.1 = p1.2.1.2.1.2.1 ∧ p0.2.1.2.1.2.2.1 = p1.2.1.2.1.2.2.1 ∧ p0.2.1.2.1.2.2.2 = p1.2.1.2.1.2.2.2 ∧ p0.2.1.2.2.1 = p1.2.1.2.2.1 ∧ p0.2.1.2.2.2.1 = p1.2.1.2.2.2.1 ∧ p0.2.1.2.2.2.2.1 = p1.2.1.2.2.2.2.1 ∧ p0.2.1.2.2.2.2.2 = p1.2.1.2.2.2.2.2 then (GH nE p0.2.2 p1.2.2).bind fun x2 => some x2 else some false) else some false).bind fun x1 => some x1
theorem JZ (nE : Nat) (p0 : Int × (Int × (Int × Int × Int × Int) × (Int × Int × Int × Int)) × (List (Int × Int × Int))) (p1 : Int × (Int × (Int × Int × Int × Int) × (Int × Int × Int × Int)) × (List (Int × Int × Int))) : Le (GF nE p0 p1) (Ek p0 p1) := by
  unfold GF Ek
  repeat' with_reducible (first | refine Le.orR' ?_ ?_ | refine Le.bind' ?_ ?_ | refine Le.ite' ?_ ?_ | refine Le.loop' ?_ | refine Le.altS' ?_ ?_ | apply Ks | exact Le.rfl' _ | (refine Le.pi2 ?_; intro _) | intro _)
def FT (nE : Nat) (p0 : Int × (Int × (Int × (Int × Int × Int × Int) × (Int × Int × Int × Int)) × (List (Int × Int × Int))) × Bool) (p1 : Int × (Int × (Int × (Int × Int × Int × Int) × (Int × Int × Int × Int)) × (List (Int × Int × Int))) × Bool) : Option Bool := (if p0.1 = p1.1 then (if p0.2.2 = p1.2.2 then (GF nE p0.2.1 p1.2.1).bind fun x2 => some x2 else some false) else some false).bind fun x1 => some x1
theorem Kq (nE : Nat) (p0 : Int × (Int × (Int × (Int × Int × Int × Int) × (Int × Int × Int × Int)) × (List (Int × Int × Int))) × Bool) (p1 : Int × (Int × (Int × (Int × Int × Int × Int) × (Int × Int × Int × Int)) × (List (Int × Int × Int))) × Bool) : Le (FT nE p0 p1) (DS p0 p1) := by
  unfold FT DS
  repeat' with_reducible (first | refine Le.orR' ?_ ?_ | refine Le.bind' ?_ ?_ | refine Le.ite' ?_ ?_ | refine Le.loop' ?_ | refine Le.altS' ?_ ?_ | apply JZ | exact Le.rfl' _ | (refine Le.pi2 ?_; intro _) | intro _)
def HL (nE : Nat)  : Option Bool := (Ez nE 1 1 5 0).bind fun x1 => (Ez nE 1 2 5 1).bind fun x2 => (Cq nE BJ 1 (1, x2, false)).bind fun x3 => (Cq nE x3.2 0 (1, x1, false)).bind fun x4 => (Cq nE x4.2 1 (1, x2, false)).bind fun x5 => (De nE x5.2 2).bind fun x6 => (Dl nE x6.2).bind fun x7 => (if x3.1 = 0 then (if x4.1 = x3.1 then (if x5.1 = x3.1 then (if x6.1 = x3.1 then (if (x7.length : Int) = 2 then (ix x7 0).bind fun x9 => (FT nE x9 (1, x1, false)).bind fun x10 => (if x10 = true then (ix x7 1).bind fun x11 => (FT nE x11 (1, x2, false)).bind fun x12 => (if x12 = true then some (decide ((Ai x6.2) = 1)) else some false) else some false) else some false) else some false) else some false) else some false) else some false).bind fun x8 => some x8
theorem Jy (nE : Nat)  : Le (HL nE ) (Db ) := by
  unfold HL Db
  repeat' with_reducible (first | refine Le.orR' ?_ ?_ | refine Le.bind' ?_ ?_ | refine Le.ite' ?_ ?_ | refine Le.loop' ?_ | refine Le.altS' ?_ ?_ | apply IM | apply Gb | apply FP | apply F4 | apply Kq | exact Le.rfl' _ | (refine Le.pi2 ?_; intro _) | intro _)
theorem LJ : Db = some true := Jy 60 _ (by kernel_rfl)
end Go.Proofs.Ytfnmlmglmegamaa
