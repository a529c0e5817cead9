/- Twins with fuel of Eh functions: what a twin answers, the function answers. Conditions: none. -/
import Derived.Test.YtkjjioigbpkifaaaLP
import Derived.Test.YtkjjioigbpkifaaaA10
namespace Go.Proofs.Ytkjjioigbpkifaa
open Go Go.RowKit
set_option linter.unusedVariables false
set_option linter.unusedSimpArgs false
set_option maxRecDepth 20000
set_option maxHeartbeats 1600000
abbrev Le {α : Type} (a b : Option α) : Prop := ∀ r, a = some r → b = some r
theorem Le.rfl' {α : Type} (a : Option α) : Le a a := fun _ h => h
theorem Le.bind' {α β : Type} {a b : Option α} {f g : α → Option β} (h : Le a b) (hf : ∀ x, Le (f x) (g x)) : Le (a.bind f) (b.bind g) := fun r e => by
  obtain ⟨x, h1, h2⟩ := Ao e
  rw [h x h1, Option.bind_some]; exact hf x r h2
theorem Le.ite' {α : Type} {c : Prop} [Decidable c] {a a' b b' : Option α} (h1 : Le a a') (h2 : Le b b') : Le (if c then a else b) (if c then a' else b') := fun r e => by
  by_cases h : c
  · rw [if_pos h] at e ⊢; exact h1 r e
  · rw [if_neg h] at e ⊢; exact h2 r e
theorem Le.orR' {α β : Type} {a b : Option (α ⊕ β)} {f g : α → Option β} (h : Le a b) (hf : ∀ x, Le (f x) (g x)) : Le (Fw a f) (Fw b g) :=
  Le.bind' h fun x => by
    cases x with
    | inl t => exact hf t
    | inr e => exact Le.rfl' _
def EC {σ ε : Type} (n : Nat) (step : σ → Option (σ ⊕ ε)) (s : σ) : Option ε := EQ step n s
theorem Ik {σ ε : Type} {S T : σ → Option (σ ⊕ ε)} (h : ∀ s, Le (S s) (T s)) : ∀ (n : Nat) (s : σ), Le (EQ S n s) (EQ T n s)
  | 0, s => Le.rfl' _
  | n + 1, s => fun r e => by
    unfold EQ at e ⊢
    cases hs : S s with
    | none => rw [hs] at e; cases e
    | some q =>
      rw [hs] at e; rw [h s q hs]
      cases q with
      | inl s' => exact Ik h n s' r e
      | inr _ => exact e
theorem Le.loop' {σ ε : Type} {n : Nat} {S T : σ → Option (σ ⊕ ε)} {s : σ} (h : ∀ s, Le (S s) (T s)) : Le (EC n S s) (Bi T s) := fun r e => FG.2 ⟨n, Ik h n s r e⟩
theorem Le.pi2 {α β γ : Type} {f g : α × β → Option γ} (h : ∀ a b, Le (f (a, b)) (g (a, b))) : ∀ x, Le (f x) (g x) := fun x => h x.1 x.2
theorem Le.altS' {α β γ : Type} {y : α ⊕ β} {f f' : α → Option γ} {g g' : β → Option γ} (h : ∀ x, Le (f x) (f' x)) (k : ∀ x, Le (g x) (g' x)) : Le (Nd y f g) (Nd y f' g') := by
  cases y with
  | inl x => exact h x
  | inr x => exact k x
def Fx (nE : Nat) (p0 : Int) : Option Int := (if p0 = 0 then some true else (if p0 = 1 then some true else some (decide (p0 = 3)))).bind fun x1 => (if x1 = true then some 8 else (if p0 = 2 then some 4 else some 0))
theorem Id (nE : Nat) (p0 : Int) : Le (Fx nE p0) (Dl p0) := by
  unfold Fx Dl
  repeat' with_reducible (first | refine Le.orR' ?_ ?_ | refine Le.bind' ?_ ?_ | refine Le.ite' ?_ ?_ | refine Le.loop' ?_ | refine Le.altS' ?_ ?_ | exact Le.rfl' _ | (refine Le.pi2 ?_; intro _) | intro _)
def CX (nE : Nat) (p0 : Int) : Option Int := (Fx nE p0).bind fun x1 => (NC (Me .i64 1 x1) x1).bind fun x2 => some (CL (x2 - 1))
theorem Ep (nE : Nat) (p0 : Int) : Le (CX nE p0) (Cr p0) := by
  unfold CX Cr
  repeat' with_reducible (first | refine Le.orR' ?_ ?_ | refine Le.bind' ?_ ?_ | refine Le.ite' ?_ ?_ | refine Le.loop' ?_ | refine Le.altS' ?_ ?_ | apply Id | exact Le.rfl' _ | (refine Le.pi2 ?_; intro _) | intro _)
def GK (nE : Nat) (p0 : Int) (p1 : Int) : Option (Int × (Int × Int × Int × Int) × (Int × Int × Int × Int)) := (if p0 < 0 then some true else (if 4 ≤ p0 then some true else (if p1 < 0 then some true else (CX nE p0).bind fun x2 => some (decide (x2 < p1))))).bind fun x1 => (if x1 = true then some Ac else (ix ([Ac.2.1.1, Ac.2.1.2.1, Ac.2.1.2.2.1, Ac.2.1.2.2.2] : List Int) p0).bind fun x3 => (CX nE p0).bind fun x4 => (ix ([Ac.2.2.1, Ac.2.2.2.1, Ac.2.2.2.2.1, Ac.2.2.2.2.2] : List Int) p0).bind fun x5 => some (Ac.1, ((if p0 = 0 then p1 else Ac.2.1.1), (if p0 = 1 then p1 else Ac.2.1.2.1), (if p0 = 2 then p1 else Ac.2.1.2.2.1), (if p0 = 3 then p1 else Ac.2.1.2.2.2)), ((if p0 = 0 then x4 else Ac.2.2.1), (if p0 = 1 then x4 else Ac.2.2.2.1), (if p0 = 2 then x4 else Ac.2.2.2.2.1), (if p0 = 3 then x4 else Ac.2.2.2.2.2))))
theorem Jt (nE : Nat) (p0 : Int) (p1 : Int) : Le (GK nE p0 p1) (Gk p0 p1) := by
  unfold GK Gk
  repeat' with_reducible (first | refine Le.orR' ?_ ?_ | refine Le.bind' ?_ ?_ | refine Le.ite' ?_ ?_ | refine Le.loop' ?_ | refine Le.altS' ?_ ?_ | apply Ep | exact Le.rfl' _ | (refine Le.pi2 ?_; intro _) | intro _)
def F4 (nE : Nat) (p0 : Int) (p1 : Int) (p2 : Int) (p3 : Int) : Option (Int × (Int × (Int × Int × Int × Int) × (Int × Int × Int × Int)) × (List (Int × Int × Int))) := (GK nE p0 p1).bind fun x1 => some (p2, x1, ([(2, 0, p3)] : List (Int × Int × Int)))
theorem Iq (nE : Nat) (p0 : Int) (p1 : Int) (p2 : Int) (p3 : Int) : Le (F4 nE p0 p1 p2 p3) (E9 p0 p1 p2 p3) := by
  unfold F4 E9
  repeat' with_reducible (first | refine Le.orR' ?_ ?_ | refine Le.bind' ?_ ?_ | refine Le.ite' ?_ ?_ | refine Le.loop' ?_ | refine Le.altS' ?_ ?_ | apply Jt | exact Le.rfl' _ | (refine Le.pi2 ?_; intro _) | intro _)
def Cl (nE : Nat) (p0 : List (Int × Int × Int)) : Option (List (Int × Int × Int)) := (Jm ([] : List (Int × Int × Int)) p0).bind fun x1 => some x1
theorem Ea (nE : Nat) (p0 : List (Int × Int × Int)) : Le (Cl nE p0) (BG p0) := by
  unfold Cl BG
  repeat' with_reducible (first | refine Le.orR' ?_ ?_ | refine Le.bind' ?_ ?_ | refine Le.ite' ?_ ?_ | refine Le.loop' ?_ | refine Le.altS' ?_ ?_ | exact Le.rfl' _ | (refine Le.pi2 ?_; intro _) | intro _)
def Ci (nE : Nat) (p0 : Int × (Int × (Int × Int × Int × Int) × (Int × Int × Int × Int)) × (List (Int × Int × Int))) : Option (Int × (Int × (Int × Int × Int × Int) × (Int × Int × Int × Int)) × (List (Int × Int × Int))) := (Cl nE p0.2.2).bind fun x1 => some (p0.1, p0.2.1, x1)
theorem CF (nE : Nat) (p0 : Int × (Int × (Int × Int × Int × Int) × (Int × Int × Int × Int)) × (List (Int × Int × Int))) : Le (Ci nE p0) (B8 p0) := by
  unfold Ci B8
  repeat' with_reducible (first | refine Le.orR' ?_ ?_ | refine Le.bind' ?_ ?_ | refine Le.ite' ?_ ?_ | refine Le.loop' ?_ | refine Le.altS' ?_ ?_ | apply Ea | exact Le.rfl' _ | (refine Le.pi2 ?_; intro _) | intro _)
def D4 (nE : Nat) (p0 : List (Int × (Int × (Int × Int × Int × Int) × (Int × Int × Int × Int)) × (List (Int × Int × Int)))) (x1 : List (Int × (Int × (Int × Int × Int × Int) × (Int × Int × Int × Int)) × (List (Int × Int × Int)))) : ((List (Int × (Int × (Int × Int × Int × Int) × (Int × Int × Int × Int)) × (List (Int × Int × Int)))) × Int) → Option (((List (Int × (Int × (Int × Int × Int × Int) × (Int × Int × Int × Int)) × (List (Int × Int × Int)))) × Int) ⊕ (List (Int × (Int × (Int × Int × Int × Int) × (Int × Int × Int × Int)) × (List (Int × Int × Int)))))
  | (x3, x4) => (if x4 < ((Hq x1 0 (min p0.length x1.length) p0).length : Int) then (ix x3 x4).bind fun x5 => (Ci nE x5).bind fun x6 => (ix x3 x4).bind fun x7 => some (.inl ((DI x3 x4 x6), CL (x4 + 1))) else some (.inr x3))
theorem GL (nE : Nat) (p0 : List (Int × (Int × (Int × Int × Int × Int) × (Int × Int × Int × Int)) × (List (Int × Int × Int)))) (x1 : List (Int × (Int × (Int × Int × Int × Int) × (Int × Int × Int × Int)) × (List (Int × Int × Int)))) : ∀ s, Le (D4 nE p0 x1 s) (DK p0 x1 s) := by
  rintro ⟨x3, x4⟩
  unfold D4 DK
  repeat' with_reducible (first | refine Le.orR' ?_ ?_ | refine Le.bind' ?_ ?_ | refine Le.ite' ?_ ?_ | refine Le.loop' ?_ | refine Le.altS' ?_ ?_ | apply CF | exact Le.rfl' _ | (refine Le.pi2 ?_; intro _) | intro _)
def Dj (nE : Nat) (p0 : List (Int × (Int × (Int × Int × Int × Int) × (Int × Int × Int × Int)) × (List (Int × Int × Int)))) : Option (List (Int × (Int × (Int × Int × Int × Int) × (Int × Int × Int × Int)) × (List (Int × Int × Int)))) := (mk (p0.length : Int) ((0, (0, (0, 0, 0, 0), (0, 0, 0, 0)), []) : Int × (Int × (Int × Int × Int × Int) × (Int × Int × Int × Int)) × (List (Int × Int × Int)))).bind fun x1 => (EC nE (D4 nE p0 x1) (Hq x1 0 (min p0.length x1.length) p0, 0)).bind fun x2 => some x2
theorem EK (nE : Nat) (p0 : List (Int × (Int × (Int × Int × Int × Int) × (Int × Int × Int × Int)) × (List (Int × Int × Int)))) : Le (Dj nE p0) (CT p0) := by
  unfold Dj CT
  repeat' with_reducible (first | refine Le.orR' ?_ ?_ | refine Le.bind' ?_ ?_ | refine Le.ite' ?_ ?_ | refine Le.loop' ?_ | refine Le.altS' ?_ ?_ | apply GL | exact Le.rfl' _ | (refine Le.pi2 ?_; intro _) | intro _)
def Ej (nE : Nat) (p0 : Int × (Int × Int × Int × Int) × (Int × Int × Int × Int)) : Int → Option (Int ⊕ (Unit ⊕ Bool))
  | x1 => (if x1 < 4 then (ix ([p0.2.2.1, p0.2.2.2.1, p0.2.2.2.2.1, p0.2.2.2.2.2] : List Int) x1).bind fun x2 => (if x2 < 0 then some true else (CX nE x1).bind fun x4 => (if x4 < x2 then some true else (ix ([p0.2.1.1, p0.2.1.2.1, p0.2.1.2.2.1, p0.2.1.2.2.2] : List Int) x1).bind fun x5 => (if x5 < 0 then some true else (ix ([p0.2.1.1, p0.2.1.2.1, p0.2.1.2.2.1, p0.2.1.2.2.2] : List Int) x1).bind fun x6 => some (decide ((Fk .i64 x6 x2) ≠ 0))))).bind fun x3 => (if x3 = true then some (.inr (.inr false)) else some (.inl (CL (x1 + 1)))) else some (.inr (.inl ())))
theorem Hb (nE : Nat) (p0 : Int × (Int × Int × Int × Int) × (Int × Int × Int × Int)) : ∀ s, Le (Ej nE p0 s) (CG p0 s) := by
  intro x1
  unfold Ej CG
  repeat' with_reducible (first | refine Le.orR' ?_ ?_ | refine Le.bind' ?_ ?_ | refine Le.ite' ?_ ?_ | refine Le.loop' ?_ | refine Le.altS' ?_ ?_ | apply Ep | exact Le.rfl' _ | (refine Le.pi2 ?_; intro _) | intro _)
def Ft (nE : Nat) (p0 : Int × (Int × Int × Int × Int) × (Int × Int × Int × Int)) : Option Bool := (if (decide (p0.1 ≠ (-1)) && (decide (p0.1 < 0) || decide (8 ≤ p0.1))) = true then some false else Fw (EC nE (Ej nE p0) 0) fun _ => some true)
theorem In (nE : Nat) (p0 : Int × (Int × Int × Int × Int) × (Int × Int × Int × Int)) : Le (Ft nE p0) (Dh p0) := by
  unfold Ft Dh
  repeat' with_reducible (first | refine Le.orR' ?_ ?_ | refine Le.bind' ?_ ?_ | refine Le.ite' ?_ ?_ | refine Le.loop' ?_ | refine Le.altS' ?_ ?_ | apply Hb | exact Le.rfl' _ | (refine Le.pi2 ?_; intro _) | intro _)
def Gc (nE : Nat) (p0 : Int × Int × Int) (p1 : Int) : Option Bool := (if p0.1 = 1 then (if 0 ≤ p0.2.1 then (if p0.2.1 < 4 then (if 0 ≤ p0.2.2 then (CX nE p0.2.1).bind fun x2 => some (decide (p0.2.2 ≤ x2)) else some false) else some false) else some false).bind fun x1 => some x1 else (if p0.1 = 2 then some (decide (p0.2.1 = 0) && (decide (0 ≤ p0.2.2) && decide (p0.2.2 < p1))) else (if p0.1 = 3 then some (decide (p0.2.1 = 0) && decide (p0.2.2 = 0)) else some false)))
theorem IY (nE : Nat) (p0 : Int × Int × Int) (p1 : Int) : Le (Gc nE p0 p1) (Eg p0 p1) := by
  unfold Gc Eg
  repeat' with_reducible (first | refine Le.orR' ?_ ?_ | refine Le.bind' ?_ ?_ | refine Le.ite' ?_ ?_ | refine Le.loop' ?_ | refine Le.altS' ?_ ?_ | apply Ep | exact Le.rfl' _ | (refine Le.pi2 ?_; intro _) | intro _)
def E1 (nE : Nat) (p0 : List (Int × Int × Int)) (p1 : Int) : Int → Option (Int ⊕ (Unit ⊕ Bool))
  | x1 => (if x1 < (p0.length : Int) then (ix p0 x1).bind fun x2 => (Gc nE x2 p1).bind fun x3 => (if (!x3) = true then some (.inr (.inr false)) else some (.inl (CL (x1 + 1)))) else some (.inr (.inl ())))
theorem HL (nE : Nat) (p0 : List (Int × Int × Int)) (p1 : Int) : ∀ s, Le (E1 nE p0 p1 s) (DD p0 p1 s) := by
  intro x1
  unfold E1 DD
  repeat' with_reducible (first | refine Le.orR' ?_ ?_ | refine Le.bind' ?_ ?_ | refine Le.ite' ?_ ?_ | refine Le.loop' ?_ | refine Le.altS' ?_ ?_ | apply IY | exact Le.rfl' _ | (refine Le.pi2 ?_; intro _) | intro _)
def Gd (nE : Nat) (p0 : List (Int × Int × Int)) (p1 : Int) : Option Bool := (if 16 < (p0.length : Int) then some false else Fw (EC nE (E1 nE p0 p1) 0) fun _ => some true)
theorem Jg (nE : Nat) (p0 : List (Int × Int × Int)) (p1 : Int) : Le (Gd nE p0 p1) (En p0 p1) := by
  unfold Gd En
  repeat' with_reducible (first | refine Le.orR' ?_ ?_ | refine Le.bind' ?_ ?_ | refine Le.ite' ?_ ?_ | refine Le.loop' ?_ | refine Le.altS' ?_ ?_ | apply HL | exact Le.rfl' _ | (refine Le.pi2 ?_; intro _) | intro _)
def FW (nE : Nat) (p0 : Int × (Int × (Int × Int × Int × Int) × (Int × Int × Int × Int)) × (List (Int × Int × Int))) (p1 : Int) : Option Bool := (if 0 ≤ p0.1 then (if p0.1 < 65536 then (Ft nE p0.2.1).bind fun x2 => (if x2 = true then (Gd nE p0.2.2 p1).bind fun x3 => some x3 else some false) else some false) else some false).bind fun x1 => some x1
theorem Iy (nE : Nat) (p0 : Int × (Int × (Int × Int × Int × Int) × (Int × Int × Int × Int)) × (List (Int × Int × Int))) (p1 : Int) : Le (FW nE p0 p1) (Dg p0 p1) := by
  unfold FW Dg
  repeat' with_reducible (first | refine Le.orR' ?_ ?_ | refine Le.bind' ?_ ?_ | refine Le.ite' ?_ ?_ | refine Le.loop' ?_ | refine Le.altS' ?_ ?_ | apply In | apply Jg | exact Le.rfl' _ | (refine Le.pi2 ?_; intro _) | intro _)
def EO (nE : Nat) (p1 : Int × (Int × Int × Int × Int) × (Int × Int × Int × Int)) : (Int × Int × Int × Int × Int × Int × Int × Int × Int) → Option ((Int × Int × Int × Int × Int × Int × Int × Int × Int) ⊕ ((Int × Int × Int × Int × Int × Int × Int × Int) ⊕ ((Int × (Int × Int × Int × Int) × (Int × Int × Int × Int)) × Bool)))
  | (x10, x11, x12, x13, x14, x15, x16, x17, x18) => (if x10 < 4 then (ix ([x11, x12, x13, x14] : List Int) x10).bind fun x19 => (ix ([p1.2.1.1, p1.2.1.2.1, p1.2.1.2.2.1, p1.2.1.2.2.2] : List Int) x10).bind fun x20 => (ix ([x15, x16, x17, x18] : List Int) x10).bind fun x21 => (ix ([p1.2.2.1, p1.2.2.2.1, p1.2.2.2.2.1, p1.2.2.2.2.2] : List Int) x10).bind fun x22 => (if (HU .i64 (HU .i64 (I7 .i64 x19 x20) x21) x22) ≠ 0 then some (.inr (.inr ((0, (0, 0, 0, 0), (0, 0, 0, 0)), false))) else (ix ([x11, x12, x13, x14] : List Int) x10).bind fun x23 => (ix ([p1.2.1.1, p1.2.1.2.1, p1.2.1.2.2.1, p1.2.1.2.2.2] : List Int) x10).bind fun x24 => (ix ([x11, x12, x13, x14] : List Int) x10).bind fun x25 => (ix ([x15, x16, x17, x18] : List Int) x10).bind fun x26 => (ix ([p1.2.2.1, p1.2.2.2.1, p1.2.2.2.2.1, p1.2.2.2.2.2] : List Int) x10).bind fun x27 => (ix ([x15, x16, x17, x18] : List Int) x10).bind fun x28 => some (.inl (CL (x10 + 1), (if x10 = 0 then Fh .i64 x23 x24 else x11), (if x10 = 1 then Fh .i64 x23 x24 else x12), (if x10 = 2 then Fh .i64 x23 x24 else x13), (if x10 = 3 then Fh .i64 x23 x24 else x14), (if x10 = 0 then Fh .i64 x26 x27 else x15), (if x10 = 1 then Fh .i64 x26 x27 else x16), (if x10 = 2 then Fh .i64 x26 x27 else x17), (if x10 = 3 then Fh .i64 x26 x27 else x18)))) else some (.inr (.inl (x11, x12, x13, x14, x15, x16, x17, x18))))
theorem Hg (nE : Nat) (p1 : Int × (Int × Int × Int × Int) × (Int × Int × Int × Int)) : ∀ s, Le (EO nE p1 s) (Eo p1 s) := by
  rintro ⟨x10, x11, x12, x13, x14, x15, x16, x17, x18⟩
  unfold EO Eo
  repeat' with_reducible (first | refine Le.orR' ?_ ?_ | refine Le.bind' ?_ ?_ | refine Le.ite' ?_ ?_ | refine Le.loop' ?_ | refine Le.altS' ?_ ?_ | exact Le.rfl' _ | (refine Le.pi2 ?_; intro _) | intro _)
def EV (nE : Nat) (p0 : Int × (Int × Int × Int × Int) × (Int × Int × Int × Int)) (p1 : Int × (Int × Int × Int × Int) × (Int × Int × Int × Int)) : Option ((Int × (Int × Int × Int × Int) × (Int × Int × Int × Int)) × Bool) := (if p0.1 = (-1) then some p1.1 else some p0.1).bind fun x1 => (if (decide (p1.1 ≠ (-1)) && decide (x1 ≠ p1.1)) = true then some ((0, (0, 0, 0, 0), (0, 0, 0, 0)), false) else Fw (EC nE (EO nE p1) (0, p0.2.1.1, p0.2.1.2.1, p0.2.1.2.2.1, p0.2.1.2.2.2, p0.2.2.1, p0.2.2.2.1, p0.2.2.2.2.1, p0.2.2.2.2.2)) fun (x2, x3, x4, x5, x6, x7, x8, x9) => some ((x1, (x2, x3, x4, x5), (x6, x7, x8, x9)), true))
theorem GF (nE : Nat) (p0 : Int × (Int × Int × Int × Int) × (Int × Int × Int × Int)) (p1 : Int × (Int × Int × Int × Int) × (Int × Int × Int × Int)) : Le (EV nE p0 p1) (Ee p0 p1) := by
  unfold EV Ee
  repeat' with_reducible (first | refine Le.orR' ?_ ?_ | refine Le.bind' ?_ ?_ | refine Le.ite' ?_ ?_ | refine Le.loop' ?_ | refine Le.altS' ?_ ?_ | apply Hg | exact Le.rfl' _ | (refine Le.pi2 ?_; intro _) | intro _)
def EL (nE : Nat) (p0 : Int × (Int × (Int × Int × Int × Int) × (Int × Int × Int × Int)) × (List (Int × Int × Int))) (p1 : Int × (Int × (Int × Int × Int × Int) × (Int × Int × Int × Int)) × (List (Int × Int × Int))) : Option Bool := (EV nE p0.2.1 p1.2.1).bind fun x1 => some (decide (p0.1 = p1.1) && (!(decide (p0.2.1.1 = p1.2.1.1 ∧ p0.2.1.2.1.1 = p1.2.1.2.1.1 ∧ p0.2.1.2.1.2.1 = p1.2.1.2.1.2.1 ∧ p0.2.1.2.1.2.2.1 = p1.2.1.2.1.2.2.1 ∧ p0.2.1.2.1.2.2.2 = p1.2.1.2.1.2.2.2 ∧ p0.2.1.2.2.1 = p1.2.1.2.2.1 ∧ p0.2.1.2.2.2.1 = p1.2.1.2.2.2.1 ∧ p0.2.1.2.2.2.2.1 = p1.2.1.2.2.2.2.1 ∧ p0.2.1.2.2.2.2.2 = p1.2.1.2.2.2.2.2)) && x1.2))
theorem Hl (nE : Nat) (p0 : Int × (Int × (Int × Int × Int × Int) × (Int × Int × Int × Int)) × (List (Int × Int × Int))) (p1 : Int × (Int × (Int × Int × Int × Int) × (Int × Int × Int × Int)) × (List (Int × Int × Int))) : Le (EL nE p0 p1) (DH p0 p1) := by
  unfold EL DH
  repeat' with_reducible (first | refine Le.orR' ?_ ?_ | refine Le.bind' ?_ ?_ | refine Le.ite' ?_ ?_ | refine Le.loop' ?_ | refine Le.altS' ?_ ?_ | apply GF | exact Le.rfl' _ | (refine Le.pi2 ?_; intro _) | intro _)
def Fv (nE : Nat) (p0 : Int × (Int × (Int × Int × Int × Int) × (Int × Int × Int × Int)) × (List (Int × Int × Int))) (p1 : Int × (Int × (Int × (Int × Int × Int × Int) × (Int × Int × Int × Int)) × (List (Int × Int × Int))) × Bool) : Option Bool := (EL nE p0 p1.2.1).bind fun x1 => some x1
theorem HV (nE : Nat) (p0 : Int × (Int × (Int × Int × Int × Int) × (Int × Int × Int × Int)) × (List (Int × Int × Int))) (p1 : Int × (Int × (Int × (Int × Int × Int × Int) × (Int × Int × Int × Int)) × (List (Int × Int × Int))) × Bool) : Le (Fv nE p0 p1) (Ez p0 p1) := by
  unfold Fv Ez
  repeat' with_reducible (first | refine Le.orR' ?_ ?_ | refine Le.bind' ?_ ?_ | refine Le.ite' ?_ ?_ | refine Le.loop' ?_ | refine Le.altS' ?_ ?_ | apply Hl | exact Le.rfl' _ | (refine Le.pi2 ?_; intro _) | intro _)
def BO (nE : Nat) (p0 : List (Int × (Int × (Int × Int × Int × Int) × (Int × Int × Int × Int)) × (List (Int × Int × Int)))) (p1c0 : Int × (Int × (Int × (Int × Int × Int × Int) × (Int × Int × Int × Int)) × (List (Int × Int × Int))) × Bool) : Int → Option (Int ⊕ (Unit ⊕ Int))
  | x1 => (if x1 < (p0.length : Int) then (ix p0 x1).bind fun x2 => (Fv nE x2 p1c0).bind fun x3 => (if x3 = true then some (.inr (.inr x1)) else some (.inl (CL (x1 + 1)))) else some (.inr (.inl ())))
theorem C6 (nE : Nat) (p0 : List (Int × (Int × (Int × Int × Int × Int) × (Int × Int × Int × Int)) × (List (Int × Int × Int)))) (p1c0 : Int × (Int × (Int × (Int × Int × Int × Int) × (Int × Int × Int × Int)) × (List (Int × Int × Int))) × Bool) : ∀ s, Le (BO nE p0 p1c0 s) (Bq p0 p1c0 s) := by
  intro x1
  unfold BO Bq
  repeat' with_reducible (first | refine Le.orR' ?_ ?_ | refine Le.bind' ?_ ?_ | refine Le.ite' ?_ ?_ | refine Le.loop' ?_ | refine Le.altS' ?_ ?_ | apply HV | exact Le.rfl' _ | (refine Le.pi2 ?_; intro _) | intro _)
def BZ (nE : Nat) (p0 : List (Int × (Int × (Int × Int × Int × Int) × (Int × Int × Int × Int)) × (List (Int × Int × Int)))) (p1c0 : Int × (Int × (Int × (Int × Int × Int × Int) × (Int × Int × Int × Int)) × (List (Int × Int × Int))) × Bool) : Option Int := Fw (EC nE (BO nE p0 p1c0) 0) fun _ => some (-1)
theorem DB (nE : Nat) (p0 : List (Int × (Int × (Int × Int × Int × Int) × (Int × Int × Int × Int)) × (List (Int × Int × Int)))) (p1c0 : Int × (Int × (Int × (Int × Int × Int × Int) × (Int × Int × Int × Int)) × (List (Int × Int × Int))) × Bool) : Le (BZ nE p0 p1c0) (Be p0 p1c0) := by
  unfold BZ Be
  repeat' with_reducible (first | refine Le.orR' ?_ ?_ | refine Le.bind' ?_ ?_ | refine Le.ite' ?_ ?_ | refine Le.loop' ?_ | refine Le.altS' ?_ ?_ | apply C6 | exact Le.rfl' _ | (refine Le.pi2 ?_; intro _) | intro _)
def BQ (nE : Nat) (p0 : List (Int × (Int × (Int × Int × Int × Int) × (Int × Int × Int × Int)) × (List (Int × Int × Int)))) (p1c0 : Int × (Int × (Int × (Int × Int × Int × Int) × (Int × Int × Int × Int)) × (List (Int × Int × Int))) × Bool) : Option Bool := (BZ nE p0 p1c0).bind fun x1 => some (decide (0 ≤ x1))
theorem C8 (nE : Nat) (p0 : List (Int × (Int × (Int × Int × Int × Int) × (Int × Int × Int × Int)) × (List (Int × Int × Int)))) (p1c0 : Int × (Int × (Int × (Int × Int × Int × Int) × (Int × Int × Int × Int)) × (List (Int × Int × Int))) × Bool) : Le (BQ nE p0 p1c0) (A5 p0 p1c0) := by
  unfold BQ A5
  repeat' with_reducible (first | refine Le.orR' ?_ ?_ | refine Le.bind' ?_ ?_ | refine Le.ite' ?_ ?_ | refine Le.loop' ?_ | refine Le.altS' ?_ ?_ | apply DB | exact Le.rfl' _ | (refine Le.pi2 ?_; intro _) | intro _)
def BI (nE : Nat) (p0 : List (Int × (Int × (Int × Int × Int × Int) × (Int × Int × Int × Int)) × (List (Int × Int × Int)))) (p1c0 : Int × (Int × (Int × Int × Int × Int) × (Int × Int × Int × Int)) × (List (Int × Int × Int))) : Int → Option (Int ⊕ (Unit ⊕ Int))
  | x1 => (if x1 < (p0.length : Int) then (ix p0 x1).bind fun x2 => (if (B0 x2 p1c0) = true then some (.inr (.inr x1)) else some (.inl (CL (x1 + 1)))) else some (.inr (.inl ())))
theorem CS (nE : Nat) (p0 : List (Int × (Int × (Int × Int × Int × Int) × (Int × Int × Int × Int)) × (List (Int × Int × Int)))) (p1c0 : Int × (Int × (Int × Int × Int × Int) × (Int × Int × Int × Int)) × (List (Int × Int × Int))) : ∀ s, Le (BI nE p0 p1c0 s) (Bj p0 p1c0 s) := by
  intro x1
  unfold BI Bj
  repeat' with_reducible (first | refine Le.orR' ?_ ?_ | refine Le.bind' ?_ ?_ | refine Le.ite' ?_ ?_ | refine Le.loop' ?_ | refine Le.altS' ?_ ?_ | exact Le.rfl' _ | (refine Le.pi2 ?_; intro _) | intro _)
def Bo (nE : Nat) (p0 : List (Int × (Int × (Int × Int × Int × Int) × (Int × Int × Int × Int)) × (List (Int × Int × Int)))) (p1c0 : Int × (Int × (Int × Int × Int × Int) × (Int × Int × Int × Int)) × (List (Int × Int × Int))) : Option Int := Fw (EC nE (BI nE p0 p1c0) 0) fun _ => some (-1)
theorem Cm (nE : Nat) (p0 : List (Int × (Int × (Int × Int × Int × Int) × (Int × Int × Int × Int)) × (List (Int × Int × Int)))) (p1c0 : Int × (Int × (Int × Int × Int × Int) × (Int × Int × Int × Int)) × (List (Int × Int × Int))) : Le (Bo nE p0 p1c0) (AX p0 p1c0) := by
  unfold Bo AX
  repeat' with_reducible (first | refine Le.orR' ?_ ?_ | refine Le.bind' ?_ ?_ | refine Le.ite' ?_ ?_ | refine Le.loop' ?_ | refine Le.altS' ?_ ?_ | apply CS | exact Le.rfl' _ | (refine Le.pi2 ?_; intro _) | intro _)
def AZ (nE : Nat) (p0 : List (Int × (Int × (Int × Int × Int × Int) × (Int × Int × Int × Int)) × (List (Int × Int × Int)))) (p1c0 : Int × (Int × (Int × Int × Int × Int) × (Int × Int × Int × Int)) × (List (Int × Int × Int))) : Option Bool := (Bo nE p0 p1c0).bind fun x1 => some (decide (0 ≤ x1))
theorem Cc (nE : Nat) (p0 : List (Int × (Int × (Int × Int × Int × Int) × (Int × Int × Int × Int)) × (List (Int × Int × Int)))) (p1c0 : Int × (Int × (Int × Int × Int × Int) × (Int × Int × Int × Int)) × (List (Int × Int × Int))) : Le (AZ nE p0 p1c0) (AN p0 p1c0) := by
  unfold AZ AN
  repeat' with_reducible (first | refine Le.orR' ?_ ?_ | refine Le.bind' ?_ ?_ | refine Le.ite' ?_ ?_ | refine Le.loop' ?_ | refine Le.altS' ?_ ?_ | apply Cm | exact Le.rfl' _ | (refine Le.pi2 ?_; intro _) | intro _)
def DN (nE : Nat) (p0 : List (Int × (Int × (Int × Int × Int × Int) × (Int × Int × Int × Int)) × (List (Int × Int × Int)))) (p1 : Int × (Int × (Int × Int × Int × Int) × (Int × Int × Int × Int)) × (List (Int × Int × Int))) (p2c0 : Int × (Int × (Int × Int × Int × Int) × (Int × Int × Int × Int)) × (List (Int × Int × Int))) : ((List (Int × (Int × (Int × Int × Int × Int) × (Int × Int × Int × Int)) × (List (Int × Int × Int)))) × Int) → Option (((List (Int × (Int × (Int × Int × Int × Int) × (Int × Int × Int × Int)) × (List (Int × Int × Int)))) × Int) ⊕ (List (Int × (Int × (Int × Int × Int × Int) × (Int × Int × Int × Int)) × (List (Int × Int × Int)))))
  | (x2, x3) => (if x3 < (p0.length : Int) then ((ix x2 x3).bind fun x5 => (if (B0 x5 p2c0) = true then (Ci nE p1).bind fun x6 => (ix x2 x3).bind fun x7 => some (DI x2 x3 (x7.1, x7.2.1, x6.2.2)) else some x2)).bind fun x4 => some (.inl (x4, CL (x3 + 1))) else some (.inr x2))
theorem GA (nE : Nat) (p0 : List (Int × (Int × (Int × Int × Int × Int) × (Int × Int × Int × Int)) × (List (Int × Int × Int)))) (p1 : Int × (Int × (Int × Int × Int × Int) × (Int × Int × Int × Int)) × (List (Int × Int × Int))) (p2c0 : Int × (Int × (Int × Int × Int × Int) × (Int × Int × Int × Int)) × (List (Int × Int × Int))) : ∀ s, Le (DN nE p0 p1 p2c0 s) (Dz p0 p1 p2c0 s) := by
  rintro ⟨x2, x3⟩
  unfold DN Dz
  repeat' with_reducible (first | refine Le.orR' ?_ ?_ | refine Le.bind' ?_ ?_ | refine Le.ite' ?_ ?_ | refine Le.loop' ?_ | refine Le.altS' ?_ ?_ | apply CF | exact Le.rfl' _ | (refine Le.pi2 ?_; intro _) | intro _)
def DJ (nE : Nat) (p0 : List (Int × (Int × (Int × Int × Int × Int) × (Int × Int × Int × Int)) × (List (Int × Int × Int)))) (p1 : Int × (Int × (Int × Int × Int × Int) × (Int × Int × Int × Int)) × (List (Int × Int × Int))) (p2c0 : Int × (Int × (Int × Int × Int × Int) × (Int × Int × Int × Int)) × (List (Int × Int × Int))) : Option (List (Int × (Int × (Int × Int × Int × Int) × (Int × Int × Int × Int)) × (List (Int × Int × Int)))) := (EC nE (DN nE p0 p1 p2c0) (p0, 0)).bind fun x1 => some x1
theorem FC (nE : Nat) (p0 : List (Int × (Int × (Int × Int × Int × Int) × (Int × Int × Int × Int)) × (List (Int × Int × Int)))) (p1 : Int × (Int × (Int × Int × Int × Int) × (Int × Int × Int × Int)) × (List (Int × Int × Int))) (p2c0 : Int × (Int × (Int × Int × Int × Int) × (Int × Int × Int × Int)) × (List (Int × Int × Int))) : Le (DJ nE p0 p1 p2c0) (C4 p0 p1 p2c0) := by
  unfold DJ C4
  repeat' with_reducible (first | refine Le.orR' ?_ ?_ | refine Le.bind' ?_ ?_ | refine Le.ite' ?_ ?_ | refine Le.loop' ?_ | refine Le.altS' ?_ ?_ | apply GA | exact Le.rfl' _ | (refine Le.pi2 ?_; intro _) | intro _)
def BJ (nE : Nat) (p0 : List (Int × (Int × (Int × Int × Int × Int) × (Int × Int × Int × Int)) × (List (Int × Int × Int)))) (p1c0 : Int × (Int × (Int × (Int × Int × Int × Int) × (Int × Int × Int × Int)) × (List (Int × Int × Int))) × Bool) : Int → Option (Int ⊕ (Unit ⊕ Int))
  | x1 => (if x1 < (p0.length : Int) then (ix p0 x1).bind fun x2 => (if (EE x2 p1c0) = true then some (.inr (.inr x1)) else some (.inl (CL (x1 + 1)))) else some (.inr (.inl ())))
theorem CQ (nE : Nat) (p0 : List (Int × (Int × (Int × Int × Int × Int) × (Int × Int × Int × Int)) × (List (Int × Int × Int)))) (p1c0 : Int × (Int × (Int × (Int × Int × Int × Int) × (Int × Int × Int × Int)) × (List (Int × Int × Int))) × Bool) : ∀ s, Le (BJ nE p0 p1c0 s) (Bl p0 p1c0 s) := by
  intro x1
  unfold BJ Bl
  repeat' with_reducible (first | refine Le.orR' ?_ ?_ | refine Le.bind' ?_ ?_ | refine Le.ite' ?_ ?_ | refine Le.loop' ?_ | refine Le.altS' ?_ ?_ | exact Le.rfl' _ | (refine Le.pi2 ?_; intro _) | intro _)
def BS (nE : Nat) (p0 : List (Int × (Int × (Int × Int × Int × Int) × (Int × Int × Int × Int)) × (List (Int × Int × Int)))) (p1c0 : Int × (Int × (Int × (Int × Int × Int × Int) × (Int × Int × Int × Int)) × (List (Int × Int × Int))) × Bool) : Option Int := Fw (EC nE (BJ nE p0 p1c0) 0) fun _ => some (-1)
theorem De (nE : Nat) (p0 : List (Int × (Int × (Int × Int × Int × Int) × (Int × Int × Int × Int)) × (List (Int × Int × Int)))) (p1c0 : Int × (Int × (Int × (Int × Int × Int × Int) × (Int × Int × Int × Int)) × (List (Int × Int × Int))) × Bool) : Le (BS nE p0 p1c0) (A9 p0 p1c0) := by
  unfold BS A9
  repeat' with_reducible (first | refine Le.orR' ?_ ?_ | refine Le.bind' ?_ ?_ | refine Le.ite' ?_ ?_ | refine Le.loop' ?_ | refine Le.altS' ?_ ?_ | apply CQ | exact Le.rfl' _ | (refine Le.pi2 ?_; intro _) | intro _)
def Ca (nE : Nat) (p0 : List (Int × (Int × (Int × Int × Int × Int) × (Int × Int × Int × Int)) × (List (Int × Int × Int)))) (p1 : Int) (p2 : List (Int × (Int × (Int × Int × Int × Int) × (Int × Int × Int × Int)) × (List (Int × Int × Int)))) : Option (List (Int × (Int × (Int × Int × Int × Int) × (Int × Int × Int × Int)) × (List (Int × Int × Int)))) := (DU p0 p1 (p0.length : Int)).bind fun x1 => (if (p2.length : Int) = 0 then some p0 else (if p1 = (p0.length : Int) then (MT p0.length (p0.length + p2.length)).bind fun x2 => (Jm p0 p2).bind fun x3 => some x3 else (if ((p0.length : Nat) : Int) < (CL ((p0.length : Int) + (p2.length : Int))) then (DU p0 0 p1).bind fun x4 => (mk (CL ((CL ((p0.length : Int) + (p2.length : Int))) - p1)) ((0, (0, (0, 0, 0, 0), (0, 0, 0, 0)), []) : Int × (Int × (Int × Int × Int × Int) × (Int × Int × Int × Int)) × (List (Int × Int × Int)))).bind fun x5 => (MT p0.length (x4.length + (CL ((CL ((p0.length : Int) + (p2.length : Int))) - p1)).toNat)).bind fun x6 => (Jm x4 x5).bind fun x7 => (DU x7 p1 (x7.length : Int)).bind fun x8 => (DU (Hq x7 p1 (min p2.length x8.length) p2) (CL (p1 + (p2.length : Int))) ((Hq x7 p1 (min p2.length x8.length) p2).length : Int)).bind fun x9 => (DU p0 p1 (p0.length : Int)).bind fun x10 => some (Hq (Hq x7 p1 (min p2.length x8.length) p2) (CL (p1 + (p2.length : Int))) (min x10.length x9.length) x10) else none)))
theorem DM (nE : Nat) (p0 : List (Int × (Int × (Int × Int × Int × Int) × (Int × Int × Int × Int)) × (List (Int × Int × Int)))) (p1 : Int) (p2 : List (Int × (Int × (Int × Int × Int × Int) × (Int × Int × Int × Int)) × (List (Int × Int × Int)))) : Le (Ca nE p0 p1 p2) (Bu p0 p1 p2) := by
  unfold Ca Bu
  repeat' with_reducible (first | refine Le.orR' ?_ ?_ | refine Le.bind' ?_ ?_ | refine Le.ite' ?_ ?_ | refine Le.loop' ?_ | refine Le.altS' ?_ ?_ | exact Le.rfl' _ | (refine Le.pi2 ?_; intro _) | intro _)
def Gq (nE : Nat) (p0 : List (Int × (Int × (Int × Int × Int × Int) × (Int × Int × Int × Int)) × (List (Int × Int × Int)))) (p1 : Int × (Int × (Int × (Int × Int × Int × Int) × (Int × Int × Int × Int)) × (List (Int × Int × Int))) × Bool) (p2 : Int) : Option ((List (Int × (Int × (Int × Int × Int × Int) × (Int × Int × Int × Int)) × (List (Int × Int × Int)))) × Int) := (if p1.2.2 = true then (BQ nE p0 (p1.1, p1.2.1, true)).bind fun x3 => some (x3, true) else some (false, false)).bind fun (x1, x2) => (if x1 = true then some (p0, 14) else (AZ nE p0 ((Ab p1.2.1).1, ((Ab p1.2.1).2.1.1, ((Ab p1.2.1).2.1.2.1.1, (Ab p1.2.1).2.1.2.1.2.1, (Ab p1.2.1).2.1.2.1.2.2.1, (Ab p1.2.1).2.1.2.1.2.2.2), ((Ab p1.2.1).2.1.2.2.1, (Ab p1.2.1).2.1.2.2.2.1, (Ab p1.2.1).2.1.2.2.2.2.1, (Ab p1.2.1).2.1.2.2.2.2.2)), (Ab p1.2.1).2.2)).bind fun x4 => (if x4 = true then (DJ nE p0 p1.2.1 ((Ab p1.2.1).1, ((Ab p1.2.1).2.1.1, ((Ab p1.2.1).2.1.2.1.1, (Ab p1.2.1).2.1.2.1.2.1, (Ab p1.2.1).2.1.2.1.2.2.1, (Ab p1.2.1).2.1.2.1.2.2.2), ((Ab p1.2.1).2.1.2.2.1, (Ab p1.2.1).2.1.2.2.2.1, (Ab p1.2.1).2.1.2.2.2.2.1, (Ab p1.2.1).2.1.2.2.2.2.2)), (Ab p1.2.1).2.2)).bind fun x5 => some (x5, 0) else (if p2 ≤ (p0.length : Int) then some (p0, 6) else (BS nE p0 (p1.1, p1.2.1, x2)).bind fun x6 => (if x6 < 0 then some (p0.length : Int) else some x6).bind fun x7 => (Ci nE p1.2.1).bind fun x8 => (Ca nE p0 x7 ([x8] : List (Int × (Int × (Int × Int × Int × Int) × (Int × Int × Int × Int)) × (List (Int × Int × Int))))).bind fun x9 => some (x9, 0))))
theorem I6 (nE : Nat) (p0 : List (Int × (Int × (Int × Int × Int × Int) × (Int × Int × Int × Int)) × (List (Int × Int × Int)))) (p1 : Int × (Int × (Int × (Int × Int × Int × Int) × (Int × Int × Int × Int)) × (List (Int × Int × Int))) × Bool) (p2 : Int) : Le (Gq nE p0 p1 p2) (FR p0 p1 p2) := by
  unfold Gq FR
  repeat' with_reducible (first | refine Le.orR' ?_ ?_ | refine Le.bind' ?_ ?_ | refine Le.ite' ?_ ?_ | refine Le.loop' ?_ | refine Le.altS' ?_ ?_ | apply CF | apply C8 | apply Cc | apply FC | apply De | apply DM | exact Le.rfl' _ | (refine Le.pi2 ?_; intro _) | intro _)
def E8 (nE : Nat) (p0 : Int × (Int × Int × Int × Int) × (Int × Int × Int × Int)) (p1 : Int × (Int × Int × Int × Int) × (Int × Int × Int × Int)) : Option Bool := (EV nE p0 p1).bind fun x1 => some (x1.2 && decide (x1.1.1 = p0.1 ∧ x1.1.2.1.1 = p0.2.1.1 ∧ x1.1.2.1.2.1 = p0.2.1.2.1 ∧ x1.1.2.1.2.2.1 = p0.2.1.2.2.1 ∧ x1.1.2.1.2.2.2 = p0.2.1.2.2.2 ∧ x1.1.2.2.1 = p0.2.2.1 ∧ x1.1.2.2.2.1 = p0.2.2.2.1 ∧ x1.1.2.2.2.2.1 = p0.2.2.2.2.1 ∧ x1.1.2.2.2.2.2 = p0.2.2.2.2.2))
theorem HJ (nE : Nat) (p0 : Int × (Int × Int × Int × Int) × (Int × Int × Int × Int)) (p1 : Int × (Int × Int × Int × Int) × (Int × Int × Int × Int)) : Le (E8 nE p0 p1) (D5 p0 p1) := by
  unfold E8 D5
  repeat' with_reducible (first | refine Le.orR' ?_ ?_ | refine Le.bind' ?_ ?_ | refine Le.ite' ?_ ?_ | refine Le.loop' ?_ | refine Le.altS' ?_ ?_ | apply GF | exact Le.rfl' _ | (refine Le.pi2 ?_; intro _) | intro _)
def CM (nE : Nat) (p0 : Int × (Int × (Int × Int × Int × Int) × (Int × Int × Int × Int)) × (List (Int × Int × Int))) (p1 : Int × (Int × (Int × Int × Int × Int) × (Int × Int × Int × Int)) × (List (Int × Int × Int))) : Option Bool := (E8 nE p0.2.1 p1.2.1).bind fun x1 => some x1
theorem DZ (nE : Nat) (p0 : Int × (Int × (Int × Int × Int × Int) × (Int × Int × Int × Int)) × (List (Int × Int × Int))) (p1 : Int × (Int × (Int × Int × Int × Int) × (Int × Int × Int × Int)) × (List (Int × Int × Int))) : Le (CM nE p0 p1) (Cs p0 p1) := by
  unfold CM Cs
  repeat' with_reducible (first | refine Le.orR' ?_ ?_ | refine Le.bind' ?_ ?_ | refine Le.ite' ?_ ?_ | refine Le.loop' ?_ | refine Le.altS' ?_ ?_ | apply HJ | exact Le.rfl' _ | (refine Le.pi2 ?_; intro _) | intro _)
def Dm (nE : Nat) (p0 : List (Int × (Int × (Int × Int × Int × Int) × (Int × Int × Int × Int)) × (List (Int × Int × Int)))) (p1 : Int × (Int × (Int × Int × Int × Int) × (Int × Int × Int × Int)) × (List (Int × Int × Int))) (p2c0 : Int × (Int × (Int × Int × Int × Int) × (Int × Int × Int × Int)) × (List (Int × Int × Int))) : ((List (Int × (Int × (Int × Int × Int × Int) × (Int × Int × Int × Int)) × (List (Int × Int × Int)))) × Int) → Option (((List (Int × (Int × (Int × Int × Int × Int) × (Int × Int × Int × Int)) × (List (Int × Int × Int)))) × Int) ⊕ (List (Int × (Int × (Int × Int × Int × Int) × (Int × Int × Int × Int)) × (List (Int × Int × Int)))))
  | (x2, x3) => (if x3 < (p0.length : Int) then ((ix x2 x3).bind fun x5 => (CM nE x5 p2c0).bind fun x6 => (if x6 = true then (Ci nE p1).bind fun x7 => (ix x2 x3).bind fun x8 => some (DI x2 x3 (x8.1, x8.2.1, x7.2.2)) else some x2)).bind fun x4 => some (.inl (x4, CL (x3 + 1))) else some (.inr x2))
theorem F9 (nE : Nat) (p0 : List (Int × (Int × (Int × Int × Int × Int) × (Int × Int × Int × Int)) × (List (Int × Int × Int)))) (p1 : Int × (Int × (Int × Int × Int × Int) × (Int × Int × Int × Int)) × (List (Int × Int × Int))) (p2c0 : Int × (Int × (Int × Int × Int × Int) × (Int × Int × Int × Int)) × (List (Int × Int × Int))) : ∀ s, Le (Dm nE p0 p1 p2c0 s) (CW p0 p1 p2c0 s) := by
  rintro ⟨x2, x3⟩
  unfold Dm CW
  repeat' with_reducible (first | refine Le.orR' ?_ ?_ | refine Le.bind' ?_ ?_ | refine Le.ite' ?_ ?_ | refine Le.loop' ?_ | refine Le.altS' ?_ ?_ | apply CF | apply DZ | exact Le.rfl' _ | (refine Le.pi2 ?_; intro _) | intro _)
def D7 (nE : Nat) (p0 : List (Int × (Int × (Int × Int × Int × Int) × (Int × Int × Int × Int)) × (List (Int × Int × Int)))) (p1 : Int × (Int × (Int × Int × Int × Int) × (Int × Int × Int × Int)) × (List (Int × Int × Int))) (p2c0 : Int × (Int × (Int × Int × Int × Int) × (Int × Int × Int × Int)) × (List (Int × Int × Int))) : Option (List (Int × (Int × (Int × Int × Int × Int) × (Int × Int × Int × Int)) × (List (Int × Int × Int)))) := (EC nE (Dm nE p0 p1 p2c0) (p0, 0)).bind fun x1 => some x1
theorem GI (nE : Nat) (p0 : List (Int × (Int × (Int × Int × Int × Int) × (Int × Int × Int × Int)) × (List (Int × Int × Int)))) (p1 : Int × (Int × (Int × Int × Int × Int) × (Int × Int × Int × Int)) × (List (Int × Int × Int))) (p2c0 : Int × (Int × (Int × Int × Int × Int) × (Int × Int × Int × Int)) × (List (Int × Int × Int))) : Le (D7 nE p0 p1 p2c0) (C1 p0 p1 p2c0) := by
  unfold D7 C1
  repeat' with_reducible (first | refine Le.orR' ?_ ?_ | refine Le.bind' ?_ ?_ | refine Le.ite' ?_ ?_ | refine Le.loop' ?_ | refine Le.altS' ?_ ?_ | apply F9 | exact Le.rfl' _ | (refine Le.pi2 ?_; intro _) | intro _)
def BH (nE : Nat) (p0 : List (Int × (Int × (Int × Int × Int × Int) × (Int × Int × Int × Int)) × (List (Int × Int × Int)))) (p1c0 : Int × (Int × (Int × Int × Int × Int) × (Int × Int × Int × Int)) × (List (Int × Int × Int))) : Int → Option (Int ⊕ (Unit ⊕ Int))
  | x1 => (if x1 < (p0.length : Int) then (ix p0 x1).bind fun x2 => (CM nE x2 p1c0).bind fun x3 => (if x3 = true then some (.inr (.inr x1)) else some (.inl (CL (x1 + 1)))) else some (.inr (.inl ())))
theorem C0 (nE : Nat) (p0 : List (Int × (Int × (Int × Int × Int × Int) × (Int × Int × Int × Int)) × (List (Int × Int × Int)))) (p1c0 : Int × (Int × (Int × Int × Int × Int) × (Int × Int × Int × Int)) × (List (Int × Int × Int))) : ∀ s, Le (BH nE p0 p1c0 s) (Bk p0 p1c0 s) := by
  intro x1
  unfold BH Bk
  repeat' with_reducible (first | refine Le.orR' ?_ ?_ | refine Le.bind' ?_ ?_ | refine Le.ite' ?_ ?_ | refine Le.loop' ?_ | refine Le.altS' ?_ ?_ | apply DZ | exact Le.rfl' _ | (refine Le.pi2 ?_; intro _) | intro _)
def BV (nE : Nat) (p0 : List (Int × (Int × (Int × Int × Int × Int) × (Int × Int × Int × Int)) × (List (Int × Int × Int)))) (p1c0 : Int × (Int × (Int × Int × Int × Int) × (Int × Int × Int × Int)) × (List (Int × Int × Int))) : Option Int := Fw (EC nE (BH nE p0 p1c0) 0) fun _ => some (-1)
theorem Db (nE : Nat) (p0 : List (Int × (Int × (Int × Int × Int × Int) × (Int × Int × Int × Int)) × (List (Int × Int × Int)))) (p1c0 : Int × (Int × (Int × Int × Int × Int) × (Int × Int × Int × Int)) × (List (Int × Int × Int))) : Le (BV nE p0 p1c0) (Bb p0 p1c0) := by
  unfold BV Bb
  repeat' with_reducible (first | refine Le.orR' ?_ ?_ | refine Le.bind' ?_ ?_ | refine Le.ite' ?_ ?_ | refine Le.loop' ?_ | refine Le.altS' ?_ ?_ | apply C0 | exact Le.rfl' _ | (refine Le.pi2 ?_; intro _) | intro _)
def BN (nE : Nat) (p1c0 : Int × (Int × (Int × Int × Int × Int) × (Int × Int × Int × Int)) × (List (Int × Int × Int))) : ((List (Int × (Int × (Int × Int × Int × Int) × (Int × Int × Int × Int)) × (List (Int × Int × Int)))) × Int × Int) → Option (((List (Int × (Int × (Int × Int × Int × Int) × (Int × Int × Int × Int)) × (List (Int × Int × Int)))) × Int × Int) ⊕ ((List (Int × (Int × (Int × Int × Int × Int) × (Int × Int × Int × Int)) × (List (Int × Int × Int)))) × Int))
  | (x4, x5, x6) => (if x6 < (x4.length : Int) then ((ix x4 x6).bind fun x9 => (CM nE x9 p1c0).bind fun x10 => (if (!x10) = true then (ix x4 x5).bind fun x11 => some ((DI x4 x5 x9), CL (x5 + 1)) else some (x4, x5))).bind fun (x7, x8) => some (.inl (x7, x8, CL (x6 + 1))) else some (.inr (x4, x5)))
theorem C2 (nE : Nat) (p1c0 : Int × (Int × (Int × Int × Int × Int) × (Int × Int × Int × Int)) × (List (Int × Int × Int))) : ∀ s, Le (BN nE p1c0 s) (Bm p1c0 s) := by
  rintro ⟨x4, x5, x6⟩
  unfold BN Bm
  repeat' with_reducible (first | refine Le.orR' ?_ ?_ | refine Le.bind' ?_ ?_ | refine Le.ite' ?_ ?_ | refine Le.loop' ?_ | refine Le.altS' ?_ ?_ | apply DZ | exact Le.rfl' _ | (refine Le.pi2 ?_; intro _) | intro _)
def BW (nE : Nat) (p0 : List (Int × (Int × (Int × Int × Int × Int) × (Int × Int × Int × Int)) × (List (Int × Int × Int)))) (p1c0 : Int × (Int × (Int × Int × Int × Int) × (Int × Int × Int × Int)) × (List (Int × Int × Int))) : Option (List (Int × (Int × (Int × Int × Int × Int) × (Int × Int × Int × Int)) × (List (Int × Int × Int)))) := (BV nE p0 p1c0).bind fun x1 => (if x1 = (-1) then some p0 else (EC nE (BN nE p1c0) (p0, x1, CL (x1 + 1))).bind fun (x2, x3) => (DU x2 x3 (x2.length : Int)).bind fun x12 => (Ms x2 x3 (List.replicate (x12.length) ((0, (0, (0, 0, 0, 0), (0, 0, 0, 0)), []) : Int × (Int × (Int × Int × Int × Int) × (Int × Int × Int × Int)) × (List (Int × Int × Int))))).bind fun x13 => (DU x13 0 x3).bind fun x14 => some x14)
theorem Di (nE : Nat) (p0 : List (Int × (Int × (Int × Int × Int × Int) × (Int × Int × Int × Int)) × (List (Int × Int × Int)))) (p1c0 : Int × (Int × (Int × Int × Int × Int) × (Int × Int × Int × Int)) × (List (Int × Int × Int))) : Le (BW nE p0 p1c0) (Bc p0 p1c0) := by
  unfold BW Bc
  repeat' with_reducible (first | refine Le.orR' ?_ ?_ | refine Le.bind' ?_ ?_ | refine Le.ite' ?_ ?_ | refine Le.loop' ?_ | refine Le.altS' ?_ ?_ | apply Db | apply C2 | exact Le.rfl' _ | (refine Le.pi2 ?_; intro _) | intro _)
def BD (nE : Nat) (p1c0 : Int × (Int × (Int × Int × Int × Int) × (Int × Int × Int × Int)) × (List (Int × Int × Int))) : ((List (Int × (Int × (Int × Int × Int × Int) × (Int × Int × Int × Int)) × (List (Int × Int × Int)))) × Int × Int) → Option (((List (Int × (Int × (Int × Int × Int × Int) × (Int × Int × Int × Int)) × (List (Int × Int × Int)))) × Int × Int) ⊕ ((List (Int × (Int × (Int × Int × Int × Int) × (Int × Int × Int × Int)) × (List (Int × Int × Int)))) × Int))
  | (x4, x5, x6) => (if x6 < (x4.length : Int) then ((ix x4 x6).bind fun x9 => (if (!(B0 x9 p1c0)) = true then (ix x4 x5).bind fun x10 => some ((DI x4 x5 x9), CL (x5 + 1)) else some (x4, x5))).bind fun (x7, x8) => some (.inl (x7, x8, CL (x6 + 1))) else some (.inr (x4, x5)))
theorem CP (nE : Nat) (p1c0 : Int × (Int × (Int × Int × Int × Int) × (Int × Int × Int × Int)) × (List (Int × Int × Int))) : ∀ s, Le (BD nE p1c0 s) (Bg p1c0 s) := by
  rintro ⟨x4, x5, x6⟩
  unfold BD Bg
  repeat' with_reducible (first | refine Le.orR' ?_ ?_ | refine Le.bind' ?_ ?_ | refine Le.ite' ?_ ?_ | refine Le.loop' ?_ | refine Le.altS' ?_ ?_ | exact Le.rfl' _ | (refine Le.pi2 ?_; intro _) | intro _)
def BP (nE : Nat) (p0 : List (Int × (Int × (Int × Int × Int × Int) × (Int × Int × Int × Int)) × (List (Int × Int × Int)))) (p1c0 : Int × (Int × (Int × Int × Int × Int) × (Int × Int × Int × Int)) × (List (Int × Int × Int))) : Option (List (Int × (Int × (Int × Int × Int × Int) × (Int × Int × Int × Int)) × (List (Int × Int × Int)))) := (Bo nE p0 p1c0).bind fun x1 => (if x1 = (-1) then some p0 else (EC nE (BD nE p1c0) (p0, x1, CL (x1 + 1))).bind fun (x2, x3) => (DU x2 x3 (x2.length : Int)).bind fun x11 => (Ms x2 x3 (List.replicate (x11.length) ((0, (0, (0, 0, 0, 0), (0, 0, 0, 0)), []) : Int × (Int × (Int × Int × Int × Int) × (Int × Int × Int × Int)) × (List (Int × Int × Int))))).bind fun x12 => (DU x12 0 x3).bind fun x13 => some x13)
theorem C7 (nE : Nat) (p0 : List (Int × (Int × (Int × Int × Int × Int) × (Int × Int × Int × Int)) × (List (Int × Int × Int)))) (p1c0 : Int × (Int × (Int × Int × Int × Int) × (Int × Int × Int × Int)) × (List (Int × Int × Int))) : Le (BP nE p0 p1c0) (A4 p0 p1c0) := by
  unfold BP A4
  repeat' with_reducible (first | refine Le.orR' ?_ ?_ | refine Le.bind' ?_ ?_ | refine Le.ite' ?_ ?_ | refine Le.loop' ?_ | refine Le.altS' ?_ ?_ | apply Cm | apply CP | exact Le.rfl' _ | (refine Le.pi2 ?_; intro _) | intro _)
def Fp (nE : Nat) (p0 : List (Int × (Int × (Int × Int × Int × Int) × (Int × Int × Int × Int)) × (List (Int × Int × Int)))) (p1 : Int × (Int × (Int × (Int × Int × Int × Int) × (Int × Int × Int × Int)) × (List (Int × Int × Int))) × Bool) (p2 : Int) (p3 : Int) : Option ((List (Int × (Int × (Int × Int × Int × Int) × (Int × Int × Int × Int)) × (List (Int × Int × Int)))) × Int) := (Dj nE p0).bind fun x1 => (FW nE p1.2.1 p2).bind fun x2 => (if (!x2) = true then some (x1, 2) else (if p1.1 = 1 then (Nx x1.length (((p0.length : Int)).toNat)).bind fun x3 => (Gq nE x1 p1 p3).bind fun x4 => some (x4.1, x4.2) else (if p1.1 = 2 then (D7 nE x1 p1.2.1 ((Ai p1.2.1).1, ((Ai p1.2.1).2.1.1, ((Ai p1.2.1).2.1.2.1.1, (Ai p1.2.1).2.1.2.1.2.1, (Ai p1.2.1).2.1.2.1.2.2.1, (Ai p1.2.1).2.1.2.1.2.2.2), ((Ai p1.2.1).2.1.2.2.1, (Ai p1.2.1).2.1.2.2.2.1, (Ai p1.2.1).2.1.2.2.2.2.1, (Ai p1.2.1).2.1.2.2.2.2.2)), (Ai p1.2.1).2.2)).bind fun x5 => some (x5, 0) else (if p1.1 = 3 then (AZ nE x1 ((Ab p1.2.1).1, ((Ab p1.2.1).2.1.1, ((Ab p1.2.1).2.1.2.1.1, (Ab p1.2.1).2.1.2.1.2.1, (Ab p1.2.1).2.1.2.1.2.2.1, (Ab p1.2.1).2.1.2.1.2.2.2), ((Ab p1.2.1).2.1.2.2.1, (Ab p1.2.1).2.1.2.2.2.1, (Ab p1.2.1).2.1.2.2.2.2.1, (Ab p1.2.1).2.1.2.2.2.2.2)), (Ab p1.2.1).2.2)).bind fun x6 => (if (!x6) = true then some (x1, 7) else (DJ nE x1 p1.2.1 ((Ab p1.2.1).1, ((Ab p1.2.1).2.1.1, ((Ab p1.2.1).2.1.2.1.1, (Ab p1.2.1).2.1.2.1.2.1, (Ab p1.2.1).2.1.2.1.2.2.1, (Ab p1.2.1).2.1.2.1.2.2.2), ((Ab p1.2.1).2.1.2.2.1, (Ab p1.2.1).2.1.2.2.2.1, (Ab p1.2.1).2.1.2.2.2.2.1, (Ab p1.2.1).2.1.2.2.2.2.2)), (Ab p1.2.1).2.2)).bind fun x7 => some (x7, 0)) else (if p1.1 = 4 then (BW nE x1 ((Ai p1.2.1).1, ((Ai p1.2.1).2.1.1, ((Ai p1.2.1).2.1.2.1.1, (Ai p1.2.1).2.1.2.1.2.1, (Ai p1.2.1).2.1.2.1.2.2.1, (Ai p1.2.1).2.1.2.1.2.2.2), ((Ai p1.2.1).2.1.2.2.1, (Ai p1.2.1).2.1.2.2.2.1, (Ai p1.2.1).2.1.2.2.2.2.1, (Ai p1.2.1).2.1.2.2.2.2.2)), (Ai p1.2.1).2.2)).bind fun x8 => some (x8, 0) else (if p1.1 = 5 then (AZ nE x1 ((Ab p1.2.1).1, ((Ab p1.2.1).2.1.1, ((Ab p1.2.1).2.1.2.1.1, (Ab p1.2.1).2.1.2.1.2.1, (Ab p1.2.1).2.1.2.1.2.2.1, (Ab p1.2.1).2.1.2.1.2.2.2), ((Ab p1.2.1).2.1.2.2.1, (Ab p1.2.1).2.1.2.2.2.1, (Ab p1.2.1).2.1.2.2.2.2.1, (Ab p1.2.1).2.1.2.2.2.2.2)), (Ab p1.2.1).2.2)).bind fun x9 => (if (!x9) = true then some (x1, 7) else (BP nE x1 ((Ab p1.2.1).1, ((Ab p1.2.1).2.1.1, ((Ab p1.2.1).2.1.2.1.1, (Ab p1.2.1).2.1.2.1.2.1, (Ab p1.2.1).2.1.2.1.2.2.1, (Ab p1.2.1).2.1.2.1.2.2.2), ((Ab p1.2.1).2.1.2.2.1, (Ab p1.2.1).2.1.2.2.2.1, (Ab p1.2.1).2.1.2.2.2.2.1, (Ab p1.2.1).2.1.2.2.2.2.2)), (Ab p1.2.1).2.2)).bind fun x10 => some (x10, 0)) else some (x1, 2)))))))
theorem H5 (nE : Nat) (p0 : List (Int × (Int × (Int × Int × Int × Int) × (Int × Int × Int × Int)) × (List (Int × Int × Int)))) (p1 : Int × (Int × (Int × (Int × Int × Int × Int) × (Int × Int × Int × Int)) × (List (Int × Int × Int))) × Bool) (p2 : Int) (p3 : Int) : Le (Fp nE p0 p1 p2 p3) (EG p0 p1 p2 p3) := by
  unfold Fp EG
  repeat' with_reducible (first | refine Le.orR' ?_ ?_ | refine Le.bind' ?_ ?_ | refine Le.ite' ?_ ?_ | refine Le.loop' ?_ | refine Le.altS' ?_ ?_ | apply EK | apply Iy | apply Cc | apply FC | apply I6 | apply GI | apply Di | apply C7 | exact Le.rfl' _ | (refine Le.pi2 ?_; intro _) | intro _)
def EJ (nE : Nat) (p0 : List (Int × (Int × (Int × Int × Int × Int) × (Int × Int × Int × Int)) × (List (Int × Int × Int)))) (p1 : List (Int × (Int × (Int × (Int × Int × Int × Int) × (Int × Int × Int × Int)) × (List (Int × Int × Int))) × Bool)) (p2 : Int) (p3 : Int) : ((List (Int × (Int × (Int × Int × Int × Int) × (Int × Int × Int × Int)) × (List (Int × Int × Int)))) × Int) → Option (((List (Int × (Int × (Int × Int × Int × Int) × (Int × Int × Int × Int)) × (List (Int × Int × Int)))) × Int) ⊕ ((List (Int × (Int × (Int × Int × Int × Int) × (Int × Int × Int × Int)) × (List (Int × Int × Int)))) ⊕ ((List (Int × (Int × (Int × Int × Int × Int) × (Int × Int × Int × Int)) × (List (Int × Int × Int)))) × Int × Int)))
  | (x3, x4) => (if x4 < (p1.length : Int) then (ix p1 x4).bind fun x5 => (Fp nE x3 x5 p2 p3).bind fun x6 => (if x6.2 ≠ 0 then (Dj nE p0).bind fun x7 => some (.inr (.inr (x7, x4, x6.2))) else some (.inl (x6.1, CL (x4 + 1)))) else some (.inr (.inl x3)))
theorem Hn (nE : Nat) (p0 : List (Int × (Int × (Int × Int × Int × Int) × (Int × Int × Int × Int)) × (List (Int × Int × Int)))) (p1 : List (Int × (Int × (Int × (Int × Int × Int × Int) × (Int × Int × Int × Int)) × (List (Int × Int × Int))) × Bool)) (p2 : Int) (p3 : Int) : ∀ s, Le (EJ nE p0 p1 p2 p3 s) (Ev p0 p1 p2 p3 s) := by
  rintro ⟨x3, x4⟩
  unfold EJ Ev
  repeat' with_reducible (first | refine Le.orR' ?_ ?_ | refine Le.bind' ?_ ?_ | refine Le.ite' ?_ ?_ | refine Le.loop' ?_ | refine Le.altS' ?_ ?_ | apply EK | apply H5 | exact Le.rfl' _ | (refine Le.pi2 ?_; intro _) | intro _)
def FZ (nE : Nat) (p0 : List (Int × (Int × (Int × Int × Int × Int) × (Int × Int × Int × Int)) × (List (Int × Int × Int)))) (p1 : List (Int × (Int × (Int × (Int × Int × Int × Int) × (Int × Int × Int × Int)) × (List (Int × Int × Int))) × Bool)) (p2 : Int) (p3 : Int) : Option ((List (Int × (Int × (Int × Int × Int × Int) × (Int × Int × Int × Int)) × (List (Int × Int × Int)))) × Int × Int) := (Dj nE p0).bind fun x1 => Fw (EC nE (EJ nE p0 p1 p2 p3) (x1, 0)) fun x2 => some (x2, (-1), 0)
theorem IB (nE : Nat) (p0 : List (Int × (Int × (Int × Int × Int × Int) × (Int × Int × Int × Int)) × (List (Int × Int × Int)))) (p1 : List (Int × (Int × (Int × (Int × Int × Int × Int) × (Int × Int × Int × Int)) × (List (Int × Int × Int))) × Bool)) (p2 : Int) (p3 : Int) : Le (FZ nE p0 p1 p2 p3) (Fc p0 p1 p2 p3) := by
  unfold FZ Fc
  repeat' with_reducible (first | refine Le.orR' ?_ ?_ | refine Le.bind' ?_ ?_ | refine Le.ite' ?_ ?_ | refine Le.loop' ?_ | refine Le.altS' ?_ ?_ | apply EK | apply Hn | exact Le.rfl' _ | (refine Le.pi2 ?_; intro _) | intro _)
def EN (nE : Nat) (p0 : Int × (Int × Int × Int × Int) × (Int × Int × Int × Int)) (p2 : Int × Int × Int × Int) : Int → Option (Int ⊕ (Unit ⊕ Bool))
  | x1 => (if x1 < 4 then (ix ([p0.2.2.1, p0.2.2.2.1, p0.2.2.2.2.1, p0.2.2.2.2.2] : List Int) x1).bind fun x2 => (ix ([p2.1, p2.2.1, p2.2.2.1, p2.2.2.2] : List Int) x1).bind fun x3 => (ix ([p0.2.1.1, p0.2.1.2.1, p0.2.1.2.2.1, p0.2.1.2.2.2] : List Int) x1).bind fun x4 => (if (HU .i64 (I7 .i64 x3 x4) x2) ≠ 0 then some (.inr (.inr false)) else some (.inl (CL (x1 + 1)))) else some (.inr (.inl ())))
theorem Hm (nE : Nat) (p0 : Int × (Int × Int × Int × Int) × (Int × Int × Int × Int)) (p2 : Int × Int × Int × Int) : ∀ s, Le (EN nE p0 p2 s) (C3 p0 p2 s) := by
  intro x1
  unfold EN C3
  repeat' with_reducible (first | refine Le.orR' ?_ ?_ | refine Le.bind' ?_ ?_ | refine Le.ite' ?_ ?_ | refine Le.loop' ?_ | refine Le.altS' ?_ ?_ | exact Le.rfl' _ | (refine Le.pi2 ?_; intro _) | intro _)
def F2 (nE : Nat) (p0 : Int × (Int × Int × Int × Int) × (Int × Int × Int × Int)) (p1 : Int) (p2 : Int × Int × Int × Int) : Option Bool := (if (decide (p0.1 ≠ (-1)) && decide (p0.1 ≠ p1)) = true then some false else Fw (EC nE (EN nE p0 p2) 0) fun _ => some true)
theorem Iw (nE : Nat) (p0 : Int × (Int × Int × Int × Int) × (Int × Int × Int × Int)) (p1 : Int) (p2 : Int × Int × Int × Int) : Le (F2 nE p0 p1 p2) (DP p0 p1 p2) := by
  unfold F2 DP
  repeat' with_reducible (first | refine Le.orR' ?_ ?_ | refine Le.bind' ?_ ?_ | refine Le.ite' ?_ ?_ | refine Le.loop' ?_ | refine Le.altS' ?_ ?_ | apply Hm | exact Le.rfl' _ | (refine Le.pi2 ?_; intro _) | intro _)
def E2 (nE : Nat) (p0 : Int × (Int × (Int × Int × Int × Int) × (Int × Int × Int × Int)) × (List (Int × Int × Int))) (p1 : Int) (p2 : Int × Int × Int × Int) : Option Bool := (F2 nE p0.2.1 p1 p2).bind fun x1 => some x1
theorem HB (nE : Nat) (p0 : Int × (Int × (Int × Int × Int × Int) × (Int × Int × Int × Int)) × (List (Int × Int × Int))) (p1 : Int) (p2 : Int × Int × Int × Int) : Le (E2 nE p0 p1 p2) (Dy p0 p1 p2) := by
  unfold E2 Dy
  repeat' with_reducible (first | refine Le.orR' ?_ ?_ | refine Le.bind' ?_ ?_ | refine Le.ite' ?_ ?_ | refine Le.loop' ?_ | refine Le.altS' ?_ ?_ | apply Iw | exact Le.rfl' _ | (refine Le.pi2 ?_; intro _) | intro _)
def BF (nE : Nat) (p0 : List (Int × (Int × (Int × Int × Int × Int) × (Int × Int × Int × Int)) × (List (Int × Int × Int)))) (p1c0 : Int) (p1c1 : Int × Int × Int × Int) : Int → Option (Int ⊕ (Unit ⊕ Int))
  | x1 => (if x1 < (p0.length : Int) then (ix p0 x1).bind fun x2 => (E2 nE x2 p1c0 p1c1).bind fun x3 => (if x3 = true then some (.inr (.inr x1)) else some (.inl (CL (x1 + 1)))) else some (.inr (.inl ())))
theorem CZ (nE : Nat) (p0 : List (Int × (Int × (Int × Int × Int × Int) × (Int × Int × Int × Int)) × (List (Int × Int × Int)))) (p1c0 : Int) (p1c1 : Int × Int × Int × Int) : ∀ s, Le (BF nE p0 p1c0 p1c1 s) (AO p0 p1c0 p1c1 s) := by
  intro x1
  unfold BF AO
  repeat' with_reducible (first | refine Le.orR' ?_ ?_ | refine Le.bind' ?_ ?_ | refine Le.ite' ?_ ?_ | refine Le.loop' ?_ | refine Le.altS' ?_ ?_ | apply HB | exact Le.rfl' _ | (refine Le.pi2 ?_; intro _) | intro _)
def BU (nE : Nat) (p0 : List (Int × (Int × (Int × Int × Int × Int) × (Int × Int × Int × Int)) × (List (Int × Int × Int)))) (p1c0 : Int) (p1c1 : Int × Int × Int × Int) : Option Int := Fw (EC nE (BF nE p0 p1c0 p1c1) 0) fun _ => some (-1)
theorem Dc (nE : Nat) (p0 : List (Int × (Int × (Int × Int × Int × Int) × (Int × Int × Int × Int)) × (List (Int × Int × Int)))) (p1c0 : Int) (p1c1 : Int × Int × Int × Int) : Le (BU nE p0 p1c0 p1c1) (AW p0 p1c0 p1c1) := by
  unfold BU AW
  repeat' with_reducible (first | refine Le.orR' ?_ ?_ | refine Le.bind' ?_ ?_ | refine Le.ite' ?_ ?_ | refine Le.loop' ?_ | refine Le.altS' ?_ ?_ | apply CZ | exact Le.rfl' _ | (refine Le.pi2 ?_; intro _) | intro _)
def EY (nE : Nat) (p0 : List (Int × (Int × (Int × Int × Int × Int) × (Int × Int × Int × Int)) × (List (Int × Int × Int)))) (p1 : Int) (p2 : Int × Int × Int × Int) : Option Int := (BU nE p0 p1 p2).bind fun x1 => some x1
theorem GG (nE : Nat) (p0 : List (Int × (Int × (Int × Int × Int × Int) × (Int × Int × Int × Int)) × (List (Int × Int × Int)))) (p1 : Int) (p2 : Int × Int × Int × Int) : Le (EY nE p0 p1 p2) (CY p0 p1 p2) := by
  unfold EY CY
  repeat' with_reducible (first | refine Le.orR' ?_ ?_ | refine Le.bind' ?_ ?_ | refine Le.ite' ?_ ?_ | refine Le.loop' ?_ | refine Le.altS' ?_ ?_ | apply Dc | exact Le.rfl' _ | (refine Le.pi2 ?_; intro _) | intro _)
def Fq (nE : Nat) (p0 : Int) (p1 : Int) : Option Bool := (if 0 ≤ p1 then (CX nE p0).bind fun x2 => some (decide (p1 ≤ x2)) else some false).bind fun x1 => some x1
theorem H7 (nE : Nat) (p0 : Int) (p1 : Int) : Le (Fq nE p0 p1) (Dr p0 p1) := by
  unfold Fq Dr
  repeat' with_reducible (first | refine Le.orR' ?_ ?_ | refine Le.bind' ?_ ?_ | refine Le.ite' ?_ ?_ | refine Le.loop' ?_ | refine Le.altS' ?_ ?_ | apply Ep | exact Le.rfl' _ | (refine Le.pi2 ?_; intro _) | intro _)
def Fs (nE : Nat) (p0 : Int × Int × Int × Int) (p1 : Int) (p2 : Int) : Option (Int × Int × Int × Int) := ((if (Cy p1) = true then (Fq nE p1 p2).bind fun x6 => some x6 else some false).bind fun x5 => (if x5 = true then (ix ([p0.1, p0.2.1, p0.2.2.1, p0.2.2.2] : List Int) p1).bind fun x7 => some ((if p1 = 0 then p2 else p0.1), (if p1 = 1 then p2 else p0.2.1), (if p1 = 2 then p2 else p0.2.2.1), (if p1 = 3 then p2 else p0.2.2.2)) else some (p0.1, p0.2.1, p0.2.2.1, p0.2.2.2))).bind fun (x1, x2, x3, x4) => some (x1, x2, x3, x4)
theorem H1 (nE : Nat) (p0 : Int × Int × Int × Int) (p1 : Int) (p2 : Int) : Le (Fs nE p0 p1 p2) (Dt p0 p1 p2) := by
  unfold Fs Dt
  repeat' with_reducible (first | refine Le.orR' ?_ ?_ | refine Le.bind' ?_ ?_ | refine Le.ite' ?_ ?_ | refine Le.loop' ?_ | refine Le.altS' ?_ ?_ | apply H7 | exact Le.rfl' _ | (refine Le.pi2 ?_; intro _) | intro _)
def F3 (nE : Nat) (p0 : List (Int × Int × Int)) (p1 : Int × Int × Int × Int) : ((List (Int × (Int × Int × Int × Int))) × Int × Int × Int × Int × Int) → Option (((List (Int × (Int × Int × Int × Int))) × Int × Int × Int × Int × Int) ⊕ ((List (Int × (Int × Int × Int × Int))) × Int × Int × Int × Int))
  | (x6, x7, x8, x9, x10, x11) => (if x7 < (p0.length : Int) then ((ix p0 x7).bind fun x17 => (if x17.1 = 1 then (Fs nE (x8, x9, x10, x11) x17.2.1 x17.2.2).bind fun x18 => some (x6, x18.1, x18.2.1, x18.2.2.1, x18.2.2.2) else (if x17.1 = 2 then (Jm x6 ([(x17.2.2, (x8, x9, x10, x11))] : List (Int × (Int × Int × Int × Int)))).bind fun x19 => some (x19, x8, x9, x10, x11) else (if x17.1 = 3 then some (x6, p1.1, p1.2.1, p1.2.2.1, p1.2.2.2) else some (x6, x8, x9, x10, x11))))).bind fun (x12, x13, x14, x15, x16) => some (.inl (x12, CL (x7 + 1), x13, x14, x15, x16)) else some (.inr (x6, x8, x9, x10, x11)))
theorem II (nE : Nat) (p0 : List (Int × Int × Int)) (p1 : Int × Int × Int × Int) : ∀ s, Le (F3 nE p0 p1 s) (DO p0 p1 s) := by
  rintro ⟨x6, x7, x8, x9, x10, x11⟩
  unfold F3 DO
  repeat' with_reducible (first | refine Le.orR' ?_ ?_ | refine Le.bind' ?_ ?_ | refine Le.ite' ?_ ?_ | refine Le.loop' ?_ | refine Le.altS' ?_ ?_ | apply H1 | exact Le.rfl' _ | (refine Le.pi2 ?_; intro _) | intro _)
def Hk (nE : Nat) (p0 : List (Int × Int × Int)) (p1 : Int × Int × Int × Int) : Option (List (Int × (Int × Int × Int × Int))) := (EC nE (F3 nE p0 p1) ([], 0, p1.1, p1.2.1, p1.2.2.1, p1.2.2.2)).bind fun (x1, x2, x3, x4, x5) => some x1
theorem JY (nE : Nat) (p0 : List (Int × Int × Int)) (p1 : Int × Int × Int × Int) : Le (Hk nE p0 p1) (FX p0 p1) := by
  unfold Hk FX
  repeat' with_reducible (first | refine Le.orR' ?_ ?_ | refine Le.bind' ?_ ?_ | refine Le.ite' ?_ ?_ | refine Le.loop' ?_ | refine Le.altS' ?_ ?_ | apply II | exact Le.rfl' _ | (refine Le.pi2 ?_; intro _) | intro _)
def Gu (nE : Nat) (p0 : List (Int × (Int × (Int × Int × Int × Int) × (Int × Int × Int × Int)) × (List (Int × Int × Int)))) (p1 : Int) (p2 : Int × Int × Int × Int) : Option (List (Int × (Int × Int × Int × Int))) := (EY nE p0 p1 p2).bind fun x1 => (if x1 < 0 then some ([] : List (Int × (Int × Int × Int × Int))) else (ix p0 x1).bind fun x2 => (Hk nE x2.2.2 p2).bind fun x3 => some x3)
theorem I0 (nE : Nat) (p0 : List (Int × (Int × (Int × Int × Int × Int) × (Int × Int × Int × Int)) × (List (Int × Int × Int)))) (p1 : Int) (p2 : Int × Int × Int × Int) : Le (Gu nE p0 p1 p2) (DS p0 p1 p2) := by
  unfold Gu DS
  repeat' with_reducible (first | refine Le.orR' ?_ ?_ | refine Le.bind' ?_ ?_ | refine Le.ite' ?_ ?_ | refine Le.loop' ?_ | refine Le.altS' ?_ ?_ | apply GG | apply JY | exact Le.rfl' _ | (refine Le.pi2 ?_; intro _) | intro _)
def Hr (nE : Nat)  : Option Bool := (F4 nE 1 3 20 2).bind fun x1 => (FZ nE ([] : List (Int × (Int × (Int × Int × Int × Int) × (Int × Int × Int × Int)) × (List (Int × Int × Int)))) ([(1, (10, Ac, ([(2, 0, 1)] : List (Int × Int × Int))), false), (1, x1, false)] : List (Int × (Int × (Int × (Int × Int × Int × Int) × (Int × Int × Int × Int)) × (List (Int × Int × Int))) × Bool)) 4 9).bind fun x2 => (Gu nE x2.1 0 (1, 3, 0, 0)).bind fun x3 => (if (x2.1.length : Int) = 2 then (if x2.2.1 = (-1) then (if x2.2.2 = 0 then (ix x2.1 0).bind fun x5 => (if x5.1 = 20 then (if (x3.length : Int) = 1 then (ix x3 0).bind fun x6 => (if x6.1 = 2 then (EY nE x2.1 0 (0, 0, 0, 0)).bind fun x7 => some (decide (x7 = 1)) else some false) else some false) else some false) else some false) else some false) else some false).bind fun x4 => some x4
theorem Je (nE : Nat)  : Le (Hr nE ) (DT ) := by
  unfold Hr DT
  repeat' with_reducible (first | refine Le.orR' ?_ ?_ | refine Le.bind' ?_ ?_ | refine Le.ite' ?_ ?_ | refine Le.loop' ?_ | refine Le.altS' ?_ ?_ | apply Iq | apply IB | apply GG | apply I0 | exact Le.rfl' _ | (refine Le.pi2 ?_; intro _) | intro _)
theorem LR : DT = some true := Je 60 _ (by kernel_rfl)
end Go.Proofs.Ytkjjioigbpkifaa
