/- Twins with fuel of Gn functions: what a twin answers, the function answers. Conditions: none. -/
import Derived.Test.YtbogijdfacoccaaeLP
import Derived.Test.YtbogijdfacoccaaeA6
namespace Go.Proofs.Ytbogijdfacoccaa
open Go Go.RowKit
set_option linter.unusedVariables false
set_option linter.unusedSimpArgs false
set_option maxRecDepth 20000
set_option maxHeartbeats 1600000
abbrev Le {α : Type} (a b : Option α) : Prop := ∀ r, a = some r → b = some r
theorem Le.rfl' {α : Type} (a : Option α) : Le a a := fun _ h => h
theorem Le.bind' {α β : Type} {a b : Option α} {f g : α → Option β} (h : Le a b) (hf : ∀ x, Le (f x) (g x)) : Le (a.bind f) (b.bind g) := fun r e => by
  obtain ⟨x, h1, h2⟩ := Al e
  rw [h x h1, Option.bind_some]; exact hf x r h2
theorem Le.ite' {α : Type} {c : Prop} [Decidable c] {a a' b b' : Option α} (h1 : Le a a') (h2 : Le b b') : Le (if c then a else b) (if c then a' else b') := fun r e => by
  by_cases h : c
  · rw [if_pos h] at e ⊢; exact h1 r e
  · rw [if_neg h] at e ⊢; exact h2 r e
theorem Le.orR' {α β : Type} {a b : Option (α ⊕ β)} {f g : α → Option β} (h : Le a b) (hf : ∀ x, Le (f x) (g x)) : Le (HK a f) (HK b g) :=
  Le.bind' h fun x => by
    cases x with
    | inl t => exact hf t
    | inr e => exact Le.rfl' _
def Dz {σ ε : Type} (n : Nat) (step : σ → Option (σ ⊕ ε)) (s : σ) : Option ε := Dt step n s
theorem JC {σ ε : Type} {S T : σ → Option (σ ⊕ ε)} (h : ∀ s, Le (S s) (T s)) : ∀ (n : Nat) (s : σ), Le (Dt S n s) (Dt T n s)
  | 0, s => Le.rfl' _
  | n + 1, s => fun r e => by
    unfold Dt at e ⊢
    cases hs : S s with
    | none => rw [hs] at e; cases e
    | some q =>
      rw [hs] at e; rw [h s q hs]
      cases q with
      | inl s' => exact JC h n s' r e
      | inr _ => exact e
theorem Le.loop' {σ ε : Type} {n : Nat} {S T : σ → Option (σ ⊕ ε)} {s : σ} (h : ∀ s, Le (S s) (T s)) : Le (Dz n S s) (AH T s) := fun r e => Cq.2 ⟨n, JC h n s r e⟩
theorem Le.pi2 {α β γ : Type} {f g : α × β → Option γ} (h : ∀ a b, Le (f (a, b)) (g (a, b))) : ∀ x, Le (f x) (g x) := fun x => h x.1 x.2
theorem Le.altS' {α β γ : Type} {y : α ⊕ β} {f f' : α → Option γ} {g g' : β → Option γ} (h : ∀ x, Le (f x) (f' x)) (k : ∀ x, Le (g x) (g' x)) : Le (Rw y f g) (Rw y f' g') := by
  cases y with
  | inl x => exact h x
  | inr x => exact k x
def ER (nE : Nat) (p0 : Int × (List (Int × Int × Int × Int × Int × Int)) × (List (Int × Int))) : ((List (Int × Int)) × Int) → Option (((List (Int × Int)) × Int) ⊕ (List (Int × Int)))
  | (x2, x3) => (if x3 < (p0.2.1.length : Int) then (ix p0.2.1 x3).bind fun x4 => (Hz x2 ([(x4.1, x4.2.1), (x4.2.2.1, x4.2.2.2.1)] : List (Int × Int))).bind fun x5 => some (.inl (x5, BI (x3 + 1))) else some (.inr x2))
theorem Io (nE : Nat) (p0 : Int × (List (Int × Int × Int × Int × Int × Int)) × (List (Int × Int))) : ∀ s, Le (ER nE p0 s) (Cm p0 s) := by
  rintro ⟨x2, x3⟩
  unfold ER Cm
  repeat' with_reducible (first | refine Le.orR' ?_ ?_ | refine Le.bind' ?_ ?_ | refine Le.ite' ?_ ?_ | refine Le.loop' ?_ | refine Le.altS' ?_ ?_ | exact Le.rfl' _ | (refine Le.pi2 ?_; intro _) | intro _)
def EV (nE : Nat) (p0 : Int × (List (Int × Int × Int × Int × Int × Int)) × (List (Int × Int))) : ((List (Int × Int)) × Int) → Option (((List (Int × Int)) × Int) ⊕ (List (Int × Int)))
  | (x7, x8) => (if x8 < (p0.2.2.length : Int) then (ix p0.2.2 x8).bind fun x9 => (Hz x7 ([x9] : List (Int × Int))).bind fun x10 => some (.inl (x10, BI (x8 + 1))) else some (.inr x7))
theorem Ib (nE : Nat) (p0 : Int × (List (Int × Int × Int × Int × Int × Int)) × (List (Int × Int))) : ∀ s, Le (EV nE p0 s) (Ci p0 s) := by
  rintro ⟨x7, x8⟩
  unfold EV Ci
  repeat' with_reducible (first | refine Le.orR' ?_ ?_ | refine Le.bind' ?_ ?_ | refine Le.ite' ?_ ?_ | refine Le.loop' ?_ | refine Le.altS' ?_ ?_ | exact Le.rfl' _ | (refine Le.pi2 ?_; intro _) | intro _)
def FW (nE : Nat) (p0 : Int × (List (Int × Int × Int × Int × Int × Int)) × (List (Int × Int))) : Option (List (Int × Int)) := (Dz nE (ER nE p0) ([], 0)).bind fun x1 => (Dz nE (EV nE p0) (x1, 0)).bind fun x6 => some x6
theorem JD (nE : Nat) (p0 : Int × (List (Int × Int × Int × Int × Int × Int)) × (List (Int × Int))) : Le (FW nE p0) (DE p0) := by
  unfold FW DE
  repeat' with_reducible (first | refine Le.orR' ?_ ?_ | refine Le.bind' ?_ ?_ | refine Le.ite' ?_ ?_ | refine Le.loop' ?_ | refine Le.altS' ?_ ?_ | apply Io | apply Ib | exact Le.rfl' _ | (refine Le.pi2 ?_; intro _) | intro _)
def BD (nE : Nat) (p0 : List (Int × Int × Int × Int × Int × Int)) : Int → Option (Int ⊕ (Unit ⊕ Int))
  | x1 => (if x1 < (p0.length : Int) then (ix p0 x1).bind fun x2 => (if (Bq x2) = true then some (.inr (.inr x1)) else some (.inl (BI (x1 + 1)))) else some (.inr (.inl ())))
theorem Dv (nE : Nat) (p0 : List (Int × Int × Int × Int × Int × Int)) : ∀ s, Le (BD nE p0 s) (AJ p0 s) := by
  intro x1
  unfold BD AJ
  repeat' with_reducible (first | refine Le.orR' ?_ ?_ | refine Le.bind' ?_ ?_ | refine Le.ite' ?_ ?_ | refine Le.loop' ?_ | refine Le.altS' ?_ ?_ | exact Le.rfl' _ | (refine Le.pi2 ?_; intro _) | intro _)
def BM (nE : Nat) (p0 : List (Int × Int × Int × Int × Int × Int)) : Option Int := HK (Dz nE (BD nE p0) 0) fun _ => some (-1)
theorem D4 (nE : Nat) (p0 : List (Int × Int × Int × Int × Int × Int)) : Le (BM nE p0) (Ba p0) := by
  unfold BM Ba
  repeat' with_reducible (first | refine Le.orR' ?_ ?_ | refine Le.bind' ?_ ?_ | refine Le.ite' ?_ ?_ | refine Le.loop' ?_ | refine Le.altS' ?_ ?_ | apply Dv | exact Le.rfl' _ | (refine Le.pi2 ?_; intro _) | intro _)
def BC (nE : Nat) (p0 : List (Int × Int × Int × Int × Int × Int)) : Option Bool := (BM nE p0).bind fun x1 => some (decide (0 ≤ x1))
theorem Du (nE : Nat) (p0 : List (Int × Int × Int × Int × Int × Int)) : Le (BC nE p0) (AW p0) := by
  unfold BC AW
  repeat' with_reducible (first | refine Le.orR' ?_ ?_ | refine Le.bind' ?_ ?_ | refine Le.ite' ?_ ?_ | refine Le.loop' ?_ | refine Le.altS' ?_ ?_ | apply D4 | exact Le.rfl' _ | (refine Le.pi2 ?_; intro _) | intro _)
def Fj (nE : Nat) (p0 : Int × (List (Int × Int × Int × Int × Int × Int)) × (List (Int × Int))) (x2 : (List (Int × Int))) : (Int × (List ((Int × Int) × Unit))) → Option ((Int × (List ((Int × Int) × Unit))) ⊕ ((List ((Int × Int) × Unit)) ⊕ Bool))
  | (x3, x4) => (if x3 < (x2.length : Int) then (ix x2 x3).bind fun x5 => (if (decide (x5.1 < 0) || (decide (p0.1 ≤ x5.1) || (decide (x5.2 < 0) || decide (8 ≤ x5.2)))) = true then some (.inr (.inr false)) else (if ((IX x4 x5).isSome) = true then some (.inr (.inr false)) else some (.inl (BI (x3 + 1), IQ x4 x5 ())))) else some (.inr (.inl x4)))
theorem IE (nE : Nat) (p0 : Int × (List (Int × Int × Int × Int × Int × Int)) × (List (Int × Int))) (x2 : (List (Int × Int))) : ∀ s, Le (Fj nE p0 x2 s) (BQ p0 x2 s) := by
  rintro ⟨x3, x4⟩
  unfold Fj BQ
  repeat' with_reducible (first | refine Le.orR' ?_ ?_ | refine Le.bind' ?_ ?_ | refine Le.ite' ?_ ?_ | refine Le.loop' ?_ | refine Le.altS' ?_ ?_ | exact Le.rfl' _ | (refine Le.pi2 ?_; intro _) | intro _)
def Gh (nE : Nat) (p0 : Int × (List (Int × Int × Int × Int × Int × Int)) × (List (Int × Int))) : Option Bool := (if (decide (p0.1 < 1) || (decide (8 < p0.1) || (decide (24 < (p0.2.1.length : Int)) || decide (8 < (p0.2.2.length : Int))))) = true then some false else HK ((FW nE p0).bind fun x2 => Dz nE (Fj nE p0 x2) (0, ([] : List ((Int × Int) × Unit)))) fun x1 => (BC nE p0.2.1).bind fun x6 => some (!x6))
theorem Kn (nE : Nat) (p0 : Int × (List (Int × Int × Int × Int × Int × Int)) × (List (Int × Int))) : Le (Gh nE p0) (Ej p0) := by
  unfold Gh Ej
  repeat' with_reducible (first | refine Le.orR' ?_ ?_ | refine Le.bind' ?_ ?_ | refine Le.ite' ?_ ?_ | refine Le.loop' ?_ | refine Le.altS' ?_ ?_ | apply JD | apply Du | apply IE | exact Le.rfl' _ | (refine Le.pi2 ?_; intro _) | intro _)
def EP (nE : Nat) (p0 : List Nat) : Int → Option (Int ⊕ (Unit ⊕ Bool))
  | x1 => (if x1 < (p0.length : Int) then (ix p0 x1).bind fun x2 => (if (!(C2 x2)) = true then some (.inr (.inr false)) else some (.inl (BI (x1 + 1)))) else some (.inr (.inl ())))
theorem Ij (nE : Nat) (p0 : List Nat) : ∀ s, Le (EP nE p0 s) (CG p0 s) := by
  intro x1
  unfold EP CG
  repeat' with_reducible (first | refine Le.orR' ?_ ?_ | refine Le.bind' ?_ ?_ | refine Le.ite' ?_ ?_ | refine Le.loop' ?_ | refine Le.altS' ?_ ?_ | exact Le.rfl' _ | (refine Le.pi2 ?_; intro _) | intro _)
def FS (nE : Nat) (p0 : List Nat) (p1 : Int) : Option Bool := (if (p0.length : Int) ≠ p1 then some false else HK (Dz nE (EP nE p0) 0) fun _ => some true)
theorem J5 (nE : Nat) (p0 : List Nat) (p1 : Int) : Le (FS nE p0 p1) (DI p0 p1) := by
  unfold FS DI
  repeat' with_reducible (first | refine Le.orR' ?_ ?_ | refine Le.bind' ?_ ?_ | refine Le.ite' ?_ ?_ | refine Le.loop' ?_ | refine Le.altS' ?_ ?_ | apply Ij | exact Le.rfl' _ | (refine Le.pi2 ?_; intro _) | intro _)
def Eg (nE : Nat) (p0 : Int × (List (Int × Int × Int × Int × Int × Int)) × (List (Int × Int))) (p1 : List Nat) : Option Bool := ((Gh nE p0).bind fun x2 => (if x2 = true then (FS nE p1 (p0.2.1.length : Int)).bind fun x3 => some x3 else some false)).bind fun x1 => some x1
theorem FB (nE : Nat) (p0 : Int × (List (Int × Int × Int × Int × Int × Int)) × (List (Int × Int))) (p1 : List Nat) : Le (Eg nE p0 p1) (CX p0 p1) := by
  unfold Eg CX
  repeat' with_reducible (first | refine Le.orR' ?_ ?_ | refine Le.bind' ?_ ?_ | refine Le.ite' ?_ ?_ | refine Le.loop' ?_ | refine Le.altS' ?_ ?_ | apply Kn | apply J5 | exact Le.rfl' _ | (refine Le.pi2 ?_; intro _) | intro _)
def Fw (nE : Nat) (p0 : Int) : Option Nat := (if 0 ≤ p0 then some 9218868437227405312 else some 18442240474082181120).bind fun x1 => some (Int.toNat x1)
theorem GG (nE : Nat) (p0 : Int) : Le (Fw nE p0) (DK p0) := by
  unfold Fw DK
  repeat' with_reducible (first | refine Le.orR' ?_ ?_ | refine Le.bind' ?_ ?_ | refine Le.ite' ?_ ?_ | refine Le.loop' ?_ | refine Le.altS' ?_ ?_ | exact Le.rfl' _ | (refine Le.pi2 ?_; intro _) | intro _)
def BX (nE : Nat)  : (List Nat × Int) → Option ((List Nat × Int) ⊕ (List Nat))
  | (x3, x4) => (if x4 < (x3.length : Int) then (Fo x3 x4 (x3.length : Int)).bind fun x5 => (Fo x3 0 x4).bind fun x6 => some (.inl (Kd x3 x4 (min x6.length x5.length) x6, BI (x4 + ((min x6.length x5.length : Nat) : Int)))) else some (.inr x3))
theorem Eb (nE : Nat)  : ∀ s, Le (BX nE  s) (A3  s) := by
  rintro ⟨x3, x4⟩
  unfold BX A3
  repeat' with_reducible (first | refine Le.orR' ?_ ?_ | refine Le.bind' ?_ ?_ | refine Le.ite' ?_ ?_ | refine Le.loop' ?_ | refine Le.altS' ?_ ?_ | exact Le.rfl' _ | (refine Le.pi2 ?_; intro _) | intro _)
def B7 (nE : Nat) (p0 : List Nat) (p1 : Int) : Option (List Nat) := (if p1 < 0 then none else (if (decide (0 < ((Az (IntKind.u64.wrap (p0.length : Int)) (IntKind.u64.wrap p1)).1)) || decide (9223372036854775807 < ((Az (IntKind.u64.wrap (p0.length : Int)) (IntKind.u64.wrap p1)).2))) = true then none else (mk (BI ((Az (IntKind.u64.wrap (p0.length : Int)) (IntKind.u64.wrap p1)).2)) (0 : Nat)).bind fun x1 => (Dz nE (BX nE) (Kd x1 0 (min p0.length x1.length) p0, ((min p0.length x1.length : Nat) : Int))).bind fun x2 => some x2))
theorem EM (nE : Nat) (p0 : List Nat) (p1 : Int) : Le (B7 nE p0 p1) (AY p0 p1) := by
  unfold B7 AY
  repeat' with_reducible (first | refine Le.orR' ?_ ?_ | refine Le.bind' ?_ ?_ | refine Le.ite' ?_ ?_ | refine Le.loop' ?_ | refine Le.altS' ?_ ?_ | apply Eb | exact Le.rfl' _ | (refine Le.pi2 ?_; intro _) | intro _)
def EF (nE : Nat) (p0 : Int) : Option Int := (if 4294967296 ≤ p0 then some (GZ .u64 p0 32, 32) else some (p0, 0)).bind fun (x1, x2) => (if 65536 ≤ x1 then some (GZ .u64 x1 16, BI (x2 + 16)) else some (x1, x2)).bind fun (x3, x4) => (if 256 ≤ x3 then some (GZ .u64 x3 8, BI (x4 + 8)) else some (x3, x4)).bind fun (x5, x6) => (ix ([0, 1, 2, 2, 3, 3, 3, 3, 4, 4, 4, 4, 4, 4, 4, 4, 5, 5, 5, 5, 5, 5, 5, 5, 5, 5, 5, 5, 5, 5, 5, 5, 6, 6, 6, 6, 6, 6, 6, 6, 6, 6, 6, 6, 6, 6, 6, 6, 6, 6, 6, 6, 6, 6, 6, 6, 6, 6, 6, 6, 6, 6, 6, 6, 7, 7, 7, 7, 7, 7, 7, 7, 7, 7, 7, 7, 7, 7, 7, 7, 7, 7, 7, 7, 7, 7, 7, 7, 7, 7, 7, 7, 7, 7, 7, 7, 7, 7, 7, 7, 7, 7, 7, 7, 7, 7, 7, 7, 7, 7, 7, 7, 7, 7, 7, 7, 7, 7, 7, 7, 7, 7, 7, 7, 7, 7, 7, 7, 8, 8, 8, 8, 8, 8, 8, 8, 8, 8, 8, 8, 8, 8, 8, 8, 8, 8, 8, 8, 8, 8, 8, 8, 8, 8, 8, 8, 8, 8, 8, 8, 8, 8, 8, 8, 8, 8, 8, 8, 8, 8, 8, 8, 8, 8, 8, 8, 8, 8, 8, 8, 8, 8, 8, 8, 8, 8, 8, 8, 8, 8, 8, 8, 8, 8, 8, 8, 8, 8, 8, 8, 8, 8, 8, 8, 8, 8, 8, 8, 8, 8, 8, 8, 8, 8, 8, 8, 8, 8, 8, 8, 8, 8, 8, 8, 8, 8, 8, 8, 8, 8, 8, 8, 8, 8, 8, 8, 8, 8, 8, 8, 8, 8, 8, 8, 8, 8, 8, 8, 8, 8, 8, 8, 8, 8, 8, 8] : List UInt8) (IntKind.u8.wrap x5)).bind fun x7 => some (BI (x6 + (BI (x7.toNat : Int))))
theorem HU (nE : Nat) (p0 : Int) : Le (EF nE p0) (Ds p0) := by
  unfold EF Ds
  repeat' with_reducible (first | refine Le.orR' ?_ ?_ | refine Le.bind' ?_ ?_ | refine Le.ite' ?_ ?_ | refine Le.loop' ?_ | refine Le.altS' ?_ ?_ | exact Le.rfl' _ | (refine Le.pi2 ?_; intro _) | intro _)
def Eh (nE : Nat) (p0 : Int) : Option Int := (EF nE p0).bind fun x1 => some x1
theorem F8 (nE : Nat) (p0 : Int) : Le (Eh nE p0) (CE p0) := by
  unfold Eh CE
  repeat' with_reducible (first | refine Le.orR' ?_ ?_ | refine Le.bind' ?_ ?_ | refine Le.ite' ?_ ?_ | refine Le.loop' ?_ | refine Le.altS' ?_ ?_ | apply HU | exact Le.rfl' _ | (refine Le.pi2 ?_; intro _) | intro _)
def Fp (nE : Nat) (p0 : Nat) (p1 : Int) : Option Bool := (if p1 = 0 then some (G0 p0) else (if p1 < 0 then some (Op.negFloat .f64 p0) else some p0)).bind fun x1 => some (OC x1 9218868437227405311)
theorem Kv (nE : Nat) (p0 : Nat) (p1 : Int) : Le (Fp nE p0 p1) (C1 p0 p1) := by
  unfold Fp C1
  repeat' with_reducible (first | refine Le.orR' ?_ ?_ | refine Le.bind' ?_ ?_ | refine Le.ite' ?_ ?_ | refine Le.loop' ?_ | refine Le.altS' ?_ ?_ | exact Le.rfl' _ | (refine Le.pi2 ?_; intro _) | intro _)
def FN (nE : Nat) (p0 : Nat) : Option Int := (if (BW p0) = true then some 0 else (Fp nE p0 (-1)).bind fun x1 => (if x1 = true then some 1 else (if (NW p0 0) = true then some 2 else (Fp nE p0 1).bind fun x2 => (if x2 = true then some 6 else (if (OC p0 0) = true then some 5 else (if (Dk p0) = true then some 3 else some 4))))))
theorem JT (nE : Nat) (p0 : Nat) : Le (FN nE p0) (DR p0) := by
  unfold FN DR
  repeat' with_reducible (first | refine Le.orR' ?_ ?_ | refine Le.bind' ?_ ?_ | refine Le.ite' ?_ ?_ | refine Le.loop' ?_ | refine Le.altS' ?_ ?_ | apply Kv | exact Le.rfl' _ | (refine Le.pi2 ?_; intro _) | intro _)
def Ft (nE : Nat) (p0 : Nat) : Option Int := (FN nE p0).bind fun x1 => (if x1 ≠ 0 then some x1 else some 7)
theorem Kh (nE : Nat) (p0 : Nat) : Le (Ft nE p0) (DQ p0) := by
  unfold Ft DQ
  repeat' with_reducible (first | refine Le.orR' ?_ ?_ | refine Le.bind' ?_ ?_ | refine Le.ite' ?_ ?_ | refine Le.loop' ?_ | refine Le.altS' ?_ ?_ | apply JT | exact Le.rfl' _ | (refine Le.pi2 ?_; intro _) | intro _)
def Fd (nE : Nat) (p0 : Nat) (p1 : Nat) : Option Int := (Ft nE p0).bind fun x1 => (Ft nE p1).bind fun x2 => (if x1 < x2 then some (-1) else (if x2 < x1 then some 1 else (if (NW p0 p1) = true then some (-1) else (if (OC p0 p1) = true then some 1 else some 0))))
theorem IH (nE : Nat) (p0 : Nat) (p1 : Nat) : Le (Fd nE p0 p1) (C3 p0 p1) := by
  unfold Fd C3
  repeat' with_reducible (first | refine Le.orR' ?_ ?_ | refine Le.bind' ?_ ?_ | refine Le.ite' ?_ ?_ | refine Le.loop' ?_ | refine Le.altS' ?_ ?_ | apply Kh | exact Le.rfl' _ | (refine Le.pi2 ?_; intro _) | intro _)
def Fg (nE : Nat) (p0 : Int) (p1 : Int) (p2 : List Nat) : Option Int := (ix p2 p0).bind fun x1 => (ix p2 p1).bind fun x2 => (Fd nE x1 x2).bind fun x3 => some x3
theorem IK (nE : Nat) (p0 : Int) (p1 : Int) (p2 : List Nat) : Le (Fg nE p0 p1 p2) (C4 p0 p1 p2) := by
  unfold Fg C4
  repeat' with_reducible (first | refine Le.orR' ?_ ?_ | refine Le.bind' ?_ ?_ | refine Le.ite' ?_ ?_ | refine Le.loop' ?_ | refine Le.altS' ?_ ?_ | apply IH | exact Le.rfl' _ | (refine Le.pi2 ?_; intro _) | intro _)
def BL (nE : Nat) (p1 : Int) (p3c0 : List Nat) : (List Int × Int) → Option ((List Int × Int) ⊕ (List Int))
  | (x4, x5) => (if p1 < x5 then (ix x4 x5).bind fun x7 => (ix x4 (BI (x5 - 1))).bind fun x8 => (Fg nE x7 x8 p3c0).bind fun x9 => some (decide (x9 < 0)) else some false).bind fun x6 => (if x6 = true then (ix x4 (BI (x5 - 1))).bind fun x10 => (ix x4 x5).bind fun x11 => (ix x4 x5).bind fun x12 => (ix (AD x4 x5 x10) (BI (x5 - 1))).bind fun x13 => some (.inl ((AD (AD x4 x5 x10) (BI (x5 - 1)) x11), BI (x5 - 1))) else some (.inr x4))
theorem D0 (nE : Nat) (p1 : Int) (p3c0 : List Nat) : ∀ s, Le (BL nE p1 p3c0 s) (A1 p1 p3c0 s) := by
  rintro ⟨x4, x5⟩
  unfold BL A1
  repeat' with_reducible (first | refine Le.orR' ?_ ?_ | refine Le.bind' ?_ ?_ | refine Le.ite' ?_ ?_ | refine Le.loop' ?_ | refine Le.altS' ?_ ?_ | apply IK | exact Le.rfl' _ | (refine Le.pi2 ?_; intro _) | intro _)
def BN (nE : Nat) (p1 : Int) (p2 : Int) (p3c0 : List Nat) : (List Int × Int) → Option ((List Int × Int) ⊕ (List Int))
  | (x1, x2) => (if x2 < p2 then (Dz nE (BL nE p1 p3c0) (x1, x2)).bind fun x3 => some (.inl (x3, BI (x2 + 1))) else some (.inr x1))
theorem DY (nE : Nat) (p1 : Int) (p2 : Int) (p3c0 : List Nat) : ∀ s, Le (BN nE p1 p2 p3c0 s) (AV p1 p2 p3c0 s) := by
  rintro ⟨x1, x2⟩
  unfold BN AV
  repeat' with_reducible (first | refine Le.orR' ?_ ?_ | refine Le.bind' ?_ ?_ | refine Le.ite' ?_ ?_ | refine Le.loop' ?_ | refine Le.altS' ?_ ?_ | apply D0 | exact Le.rfl' _ | (refine Le.pi2 ?_; intro _) | intro _)
def B2 (nE : Nat) (p0 : List Int) (p1 : Int) (p2 : Int) (p3c0 : List Nat) : Option (List Int) := Dz nE (BN nE p1 p2 p3c0) (p0, BI (p1 + 1))
theorem Em (nE : Nat) (p0 : List Int) (p1 : Int) (p2 : Int) (p3c0 : List Nat) : Le (B2 nE p0 p1 p2 p3c0) (Bc p0 p1 p2 p3c0) := by
  unfold B2 Bc
  repeat' with_reducible (first | refine Le.orR' ?_ ?_ | refine Le.bind' ?_ ?_ | refine Le.ite' ?_ ?_ | refine Le.loop' ?_ | refine Le.altS' ?_ ?_ | apply DY | exact Le.rfl' _ | (refine Le.pi2 ?_; intro _) | intro _)
def B8 (nE : Nat) (p0 : List Int) (p1 : Int) (p2 : Int) (p4c0 : List Nat) : Unit → Option (Unit ⊕ (List Int))
  | _ => (if (BI (p2 - p1)) ≤ 12 then (B2 nE p0 p1 p2 p4c0).bind fun x1 => some (.inr x1) else none)
theorem EO (nE : Nat) (p0 : List Int) (p1 : Int) (p2 : Int) (p4c0 : List Nat) : ∀ s, Le (B8 nE p0 p1 p2 p4c0 s) (BB p0 p1 p2 p4c0 s) := by
  intro s
  unfold B8 BB
  repeat' with_reducible (first | refine Le.orR' ?_ ?_ | refine Le.bind' ?_ ?_ | refine Le.ite' ?_ ?_ | refine Le.loop' ?_ | refine Le.altS' ?_ ?_ | apply Em | exact Le.rfl' _ | (refine Le.pi2 ?_; intro _) | intro _)
def CA (nE : Nat) (p0 : List Int) (p1 : Int) (p2 : Int) (p3 : Int) (p4c0 : List Nat) : Option (List Int) := Dz nE (B8 nE p0 p1 p2 p4c0) ()
theorem Fh (nE : Nat) (p0 : List Int) (p1 : Int) (p2 : Int) (p3 : Int) (p4c0 : List Nat) : Le (CA nE p0 p1 p2 p3 p4c0) (Bk p0 p1 p2 p3 p4c0) := by
  unfold CA Bk
  repeat' with_reducible (first | refine Le.orR' ?_ ?_ | refine Le.bind' ?_ ?_ | refine Le.ite' ?_ ?_ | refine Le.loop' ?_ | refine Le.altS' ?_ ?_ | apply EO | exact Le.rfl' _ | (refine Le.pi2 ?_; intro _) | intro _)
def CP (nE : Nat) (p0 : List Int) (p1c0 : List Nat) : Option (List Int) := (Eh nE (IntKind.u64.wrap (p0.length : Int))).bind fun x1 => (CA nE p0 0 (p0.length : Int) x1 p1c0).bind fun x2 => some x2
theorem FC (nE : Nat) (p0 : List Int) (p1c0 : List Nat) : Le (CP nE p0 p1c0) (Bv p0 p1c0) := by
  unfold CP Bv
  repeat' with_reducible (first | refine Le.orR' ?_ ?_ | refine Le.bind' ?_ ?_ | refine Le.ite' ?_ ?_ | refine Le.loop' ?_ | refine Le.altS' ?_ ?_ | apply F8 | apply Fh | exact Le.rfl' _ | (refine Le.pi2 ?_; intro _) | intro _)
def Bz (nE : Nat) (p1 : Int) : ((List (Int × Int × Int)) × Int) → Option (((List (Int × Int × Int)) × Int) ⊕ (List (Int × Int × Int)))
  | (x4, x5) => (if p1 < x5 then (ix x4 x5).bind fun x7 => (ix x4 (BI (x5 - 1))).bind fun x8 => some (decide ((Er x7 x8) < 0)) else some false).bind fun x6 => (if x6 = true then (ix x4 (BI (x5 - 1))).bind fun x9 => (ix x4 x5).bind fun x10 => (ix x4 x5).bind fun x11 => (ix (AD x4 x5 x9) (BI (x5 - 1))).bind fun x12 => some (.inl ((AD (AD x4 x5 x9) (BI (x5 - 1)) x10), BI (x5 - 1))) else some (.inr x4))
theorem Dc (nE : Nat) (p1 : Int) : ∀ s, Le (Bz nE p1 s) (AR p1 s) := by
  rintro ⟨x4, x5⟩
  unfold Bz AR
  repeat' with_reducible (first | refine Le.orR' ?_ ?_ | refine Le.bind' ?_ ?_ | refine Le.ite' ?_ ?_ | refine Le.loop' ?_ | refine Le.altS' ?_ ?_ | exact Le.rfl' _ | (refine Le.pi2 ?_; intro _) | intro _)
def Bx (nE : Nat) (p1 : Int) (p2 : Int) : ((List (Int × Int × Int)) × Int) → Option (((List (Int × Int × Int)) × Int) ⊕ (List (Int × Int × Int)))
  | (x1, x2) => (if x2 < p2 then (Dz nE (Bz nE p1) (x1, x2)).bind fun x3 => some (.inl (x3, BI (x2 + 1))) else some (.inr x1))
theorem Dd (nE : Nat) (p1 : Int) (p2 : Int) : ∀ s, Le (Bx nE p1 p2 s) (AM p1 p2 s) := by
  rintro ⟨x1, x2⟩
  unfold Bx AM
  repeat' with_reducible (first | refine Le.orR' ?_ ?_ | refine Le.bind' ?_ ?_ | refine Le.ite' ?_ ?_ | refine Le.loop' ?_ | refine Le.altS' ?_ ?_ | apply Dc | exact Le.rfl' _ | (refine Le.pi2 ?_; intro _) | intro _)
def BE (nE : Nat) (p0 : List (Int × Int × Int)) (p1 : Int) (p2 : Int) : Option (List (Int × Int × Int)) := Dz nE (Bx nE p1 p2) (p0, BI (p1 + 1))
theorem Dx (nE : Nat) (p0 : List (Int × Int × Int)) (p1 : Int) (p2 : Int) : Le (BE nE p0 p1 p2) (A2 p0 p1 p2) := by
  unfold BE A2
  repeat' with_reducible (first | refine Le.orR' ?_ ?_ | refine Le.bind' ?_ ?_ | refine Le.ite' ?_ ?_ | refine Le.loop' ?_ | refine Le.altS' ?_ ?_ | apply Dd | exact Le.rfl' _ | (refine Le.pi2 ?_; intro _) | intro _)
def BK (nE : Nat) (p0 : List (Int × Int × Int)) (p1 : Int) (p2 : Int) : Unit → Option (Unit ⊕ (List (Int × Int × Int)))
  | _ => (if (BI (p2 - p1)) ≤ 12 then (BE nE p0 p1 p2).bind fun x1 => some (.inr x1) else none)
theorem D3 (nE : Nat) (p0 : List (Int × Int × Int)) (p1 : Int) (p2 : Int) : ∀ s, Le (BK nE p0 p1 p2 s) (Bh p0 p1 p2 s) := by
  intro s
  unfold BK Bh
  repeat' with_reducible (first | refine Le.orR' ?_ ?_ | refine Le.bind' ?_ ?_ | refine Le.ite' ?_ ?_ | refine Le.loop' ?_ | refine Le.altS' ?_ ?_ | apply Dx | exact Le.rfl' _ | (refine Le.pi2 ?_; intro _) | intro _)
def B1 (nE : Nat) (p0 : List (Int × Int × Int)) (p1 : Int) (p2 : Int) (p3 : Int) : Option (List (Int × Int × Int)) := Dz nE (BK nE p0 p1 p2) ()
theorem El (nE : Nat) (p0 : List (Int × Int × Int)) (p1 : Int) (p2 : Int) (p3 : Int) : Le (B1 nE p0 p1 p2 p3) (A6 p0 p1 p2 p3) := by
  unfold B1 A6
  repeat' with_reducible (first | refine Le.orR' ?_ ?_ | refine Le.bind' ?_ ?_ | refine Le.ite' ?_ ?_ | refine Le.loop' ?_ | refine Le.altS' ?_ ?_ | apply D3 | exact Le.rfl' _ | (refine Le.pi2 ?_; intro _) | intro _)
def BJ (nE : Nat) (p0 : List (Int × Int × Int)) : Option (List (Int × Int × Int)) := (Eh nE (IntKind.u64.wrap (p0.length : Int))).bind fun x1 => (B1 nE p0 0 (p0.length : Int) x1).bind fun x2 => some x2
theorem DS (nE : Nat) (p0 : List (Int × Int × Int)) : Le (BJ nE p0) (A0 p0) := by
  unfold BJ A0
  repeat' with_reducible (first | refine Le.orR' ?_ ?_ | refine Le.bind' ?_ ?_ | refine Le.ite' ?_ ?_ | refine Le.loop' ?_ | refine Le.altS' ?_ ?_ | apply F8 | apply El | exact Le.rfl' _ | (refine Le.pi2 ?_; intro _) | intro _)
def FA (nE : Nat) (p0 : Int × (List (Int × Int × Int × Int × Int × Int)) × (List (Int × Int))) (p1 : Int) : ((List (Int × Int × Int)) × Int) → Option (((List (Int × Int × Int)) × Int) ⊕ (List (Int × Int × Int)))
  | (x2, x3) => (if x3 < (p0.2.1.length : Int) then ((ix p0.2.1 x3).bind fun x5 => (if p1 = x5.1 then (Hz x2 ([(x5.2.1, x5.2.2.1, x3)] : List (Int × Int × Int))).bind fun x6 => some x6 else (if p1 = x5.2.2.1 then (Hz x2 ([(x5.2.2.2.1, x5.1, x3)] : List (Int × Int × Int))).bind fun x7 => some x7 else some x2))).bind fun x4 => some (.inl (x4, BI (x3 + 1))) else some (.inr x2))
theorem Js (nE : Nat) (p0 : Int × (List (Int × Int × Int × Int × Int × Int)) × (List (Int × Int))) (p1 : Int) : ∀ s, Le (FA nE p0 p1 s) (CZ p0 p1 s) := by
  rintro ⟨x2, x3⟩
  unfold FA CZ
  repeat' with_reducible (first | refine Le.orR' ?_ ?_ | refine Le.bind' ?_ ?_ | refine Le.ite' ?_ ?_ | refine Le.loop' ?_ | refine Le.altS' ?_ ?_ | exact Le.rfl' _ | (refine Le.pi2 ?_; intro _) | intro _)
def E4 (nE : Nat) (p0 : Int × (List (Int × Int × Int × Int × Int × Int)) × (List (Int × Int))) (p1 : Int) : Option (List (Int × Int × Int)) := (Dz nE (FA nE p0 p1) ([], 0)).bind fun x1 => (BJ nE x1).bind fun x8 => some x8
theorem Gm (nE : Nat) (p0 : Int × (List (Int × Int × Int × Int × Int × Int)) × (List (Int × Int))) (p1 : Int) : Le (E4 nE p0 p1) (C9 p0 p1) := by
  unfold E4 C9
  repeat' with_reducible (first | refine Le.orR' ?_ ?_ | refine Le.bind' ?_ ?_ | refine Le.ite' ?_ ?_ | refine Le.loop' ?_ | refine Le.altS' ?_ ?_ | apply DS | apply Js | exact Le.rfl' _ | (refine Le.pi2 ?_; intro _) | intro _)
def Gr (nE : Nat) (p0 : List Nat) (p1 : Int) : Option Bool := (if (CW p0 p1) = true then (ix p0 p1).bind fun x2 => (Fw nE 1).bind fun x3 => some (NW x2 x3) else some false).bind fun x1 => some x1
theorem Jf (nE : Nat) (p0 : List Nat) (p1 : Int) : Le (Gr nE p0 p1) (EB p0 p1) := by
  unfold Gr EB
  repeat' with_reducible (first | refine Le.orR' ?_ ?_ | refine Le.bind' ?_ ?_ | refine Le.ite' ?_ ?_ | refine Le.loop' ?_ | refine Le.altS' ?_ ?_ | apply GG | exact Le.rfl' _ | (refine Le.pi2 ?_; intro _) | intro _)
def ES (nE : Nat) (p2 : Int) (x4 : List Nat) : (List Int × Int) → Option ((List Int × Int) ⊕ (List Int))
  | (x7, x8) => (if x8 < ((AD x4 p2 0).length : Int) then (Hz x7 ([x8] : List Int)).bind fun x9 => some (.inl (x9, BI (x8 + 1))) else some (.inr x7))
theorem Ie (nE : Nat) (p2 : Int) (x4 : List Nat) : ∀ s, Le (ES nE p2 x4 s) (Co p2 x4 s) := by
  rintro ⟨x7, x8⟩
  unfold ES Co
  repeat' with_reducible (first | refine Le.orR' ?_ ?_ | refine Le.bind' ?_ ?_ | refine Le.ite' ?_ ?_ | refine Le.loop' ?_ | refine Le.altS' ?_ ?_ | exact Le.rfl' _ | (refine Le.pi2 ?_; intro _) | intro _)
def E0 (nE : Nat) (p1 : List Nat) (x13 : List Int) (x14 : Int) (x16 : (List (Int × Int × Int))) : (Int × List Nat) → Option ((Int × List Nat) ⊕ ((List Int × List Nat) ⊕ (List Nat)))
  | (x17, x18) => (if x17 < (x16.length : Int) then ((ix x16 x17).bind fun x20 => (Gr nE p1 x20.2.2).bind fun x21 => (if x21 = true then (ix x18 x20.2.1).bind fun x22 => (ix p1 x20.2.2).bind fun x23 => (ix x18 x14).bind fun x24 => (J9 x22 (Br x23 x24)).bind fun x25 => (ix x18 x20.2.1).bind fun x26 => some (AD x18 x20.2.1 x25) else some x18)).bind fun x19 => some (.inl (BI (x17 + 1), x19)) else (Fo x13 1 (x13.length : Int)).bind fun x27 => some (.inr (.inl (x27, x18))))
theorem Iw (nE : Nat) (p1 : List Nat) (x13 : List Int) (x14 : Int) (x16 : (List (Int × Int × Int))) : ∀ s, Le (E0 nE p1 x13 x14 x16 s) (BT p1 x13 x14 x16 s) := by
  rintro ⟨x17, x18⟩
  unfold E0 BT
  repeat' with_reducible (first | refine Le.orR' ?_ ?_ | refine Le.bind' ?_ ?_ | refine Le.ite' ?_ ?_ | refine Le.loop' ?_ | refine Le.altS' ?_ ?_ | apply Jf | exact Le.rfl' _ | (refine Le.pi2 ?_; intro _) | intro _)
def EX (nE : Nat) (p0 : Int × (List (Int × Int × Int × Int × Int × Int)) × (List (Int × Int))) (p1 : List Nat) : (List Int × List Nat) → Option ((List Int × List Nat) ⊕ (List Nat))
  | (x11, x12) => (if 0 < (x11.length : Int) then (CP nE x11 x12).bind fun x13 => (ix x13 0).bind fun x14 => (Fo x13 1 (x13.length : Int)).bind fun x15 => (E4 nE p0 x14).bind fun x16 => Dz nE (E0 nE p1 x13 x14 x16) (0, x12) else some (.inr x12))
theorem IB (nE : Nat) (p0 : Int × (List (Int × Int × Int × Int × Int × Int)) × (List (Int × Int))) (p1 : List Nat) : ∀ s, Le (EX nE p0 p1 s) (Cn p0 p1 s) := by
  rintro ⟨x11, x12⟩
  unfold EX Cn
  repeat' with_reducible (first | refine Le.orR' ?_ ?_ | refine Le.bind' ?_ ?_ | refine Le.ite' ?_ ?_ | refine Le.loop' ?_ | refine Le.altS' ?_ ?_ | apply FC | apply Gm | apply Iw | exact Le.rfl' _ | (refine Le.pi2 ?_; intro _) | intro _)
def E1 (nE : Nat) (p0 : Int × (List (Int × Int × Int × Int × Int × Int)) × (List (Int × Int))) (p1 : List Nat) (p2 : Int) : Option (List Nat) := ((Eg nE p0 p1).bind fun x2 => (if (!x2) = true then some true else (if p2 < 0 then some true else some (decide (p0.1 ≤ p2))))).bind fun x1 => (if x1 = true then some ([] : List Nat) else (Fw nE 1).bind fun x3 => (B7 nE ([x3] : List Nat) p0.1).bind fun x4 => (ix x4 p2).bind fun x5 => (Dz nE (ES nE p2 x4) ([], 0)).bind fun x6 => (Dz nE (EX nE p0 p1) (x6, (AD x4 p2 0))).bind fun x10 => (RB x10).bind fun x28 => some x10)
theorem He (nE : Nat) (p0 : Int × (List (Int × Int × Int × Int × Int × Int)) × (List (Int × Int))) (p1 : List Nat) (p2 : Int) : Le (E1 nE p0 p1 p2) (BO p0 p1 p2) := by
  unfold E1 BO
  repeat' with_reducible (first | refine Le.orR' ?_ ?_ | refine Le.bind' ?_ ?_ | refine Le.ite' ?_ ?_ | refine Le.loop' ?_ | refine Le.altS' ?_ ?_ | apply FB | apply GG | apply EM | apply Ie | apply IB | exact Le.rfl' _ | (refine Le.pi2 ?_; intro _) | intro _)
def CI (nE : Nat)  : (List Int × Int) → Option ((List Int × Int) ⊕ (List Int))
  | (x3, x4) => (if x4 < (x3.length : Int) then (Fo x3 x4 (x3.length : Int)).bind fun x5 => (Fo x3 0 x4).bind fun x6 => some (.inl (Kd x3 x4 (min x6.length x5.length) x6, BI (x4 + ((min x6.length x5.length : Nat) : Int)))) else some (.inr x3))
theorem Fq (nE : Nat)  : ∀ s, Le (CI nE  s) (AA  s) := by
  rintro ⟨x3, x4⟩
  unfold CI AA
  repeat' with_reducible (first | refine Le.orR' ?_ ?_ | refine Le.bind' ?_ ?_ | refine Le.ite' ?_ ?_ | refine Le.loop' ?_ | refine Le.altS' ?_ ?_ | exact Le.rfl' _ | (refine Le.pi2 ?_; intro _) | intro _)
def C8 (nE : Nat) (p0 : List Int) (p1 : Int) : Option (List Int) := (if p1 < 0 then none else (if (decide (0 < ((Az (IntKind.u64.wrap (p0.length : Int)) (IntKind.u64.wrap p1)).1)) || decide (9223372036854775807 < ((Az (IntKind.u64.wrap (p0.length : Int)) (IntKind.u64.wrap p1)).2))) = true then none else (mk (BI ((Az (IntKind.u64.wrap (p0.length : Int)) (IntKind.u64.wrap p1)).2)) (0 : Int)).bind fun x1 => (Dz nE (CI nE) (Kd x1 0 (min p0.length x1.length) p0, ((min p0.length x1.length : Nat) : Int))).bind fun x2 => some x2))
theorem FQ (nE : Nat) (p0 : List Int) (p1 : Int) : Le (C8 nE p0 p1) (AB p0 p1) := by
  unfold C8 AB
  repeat' with_reducible (first | refine Le.orR' ?_ ?_ | refine Le.bind' ?_ ?_ | refine Le.ite' ?_ ?_ | refine Le.loop' ?_ | refine Le.altS' ?_ ?_ | apply Fq | exact Le.rfl' _ | (refine Le.pi2 ?_; intro _) | intro _)
def EH (nE : Nat) (p0 : List Nat) (p1 : List Nat) (p2 : Int) (p3 : Int) (p4 : Int) : Option Bool := ((Gr nE p0 p3).bind fun x2 => (if x2 = true then (ix p1 p2).bind fun x3 => (Fw nE 1).bind fun x4 => (if (NW x3 x4) = true then (ix p0 p3).bind fun x5 => (ix p1 p4).bind fun x6 => (ix p1 p2).bind fun x7 => some (M5 (Br x5 x6) x7) else some false) else some false)).bind fun x1 => some x1
theorem GA (nE : Nat) (p0 : List Nat) (p1 : List Nat) (p2 : Int) (p3 : Int) (p4 : Int) : Le (EH nE p0 p1 p2 p3 p4) (CY p0 p1 p2 p3 p4) := by
  unfold EH CY
  repeat' with_reducible (first | refine Le.orR' ?_ ?_ | refine Le.bind' ?_ ?_ | refine Le.ite' ?_ ?_ | refine Le.loop' ?_ | refine Le.altS' ?_ ?_ | apply GG | apply Jf | exact Le.rfl' _ | (refine Le.pi2 ?_; intro _) | intro _)
def EQ (nE : Nat) (p1 : List Nat) (x1 : List Nat) (x7 : Int) (x9 : (List (Int × Int × Int))) : (List Int × List Int × Int) → Option ((List Int × List Int × Int) ⊕ ((List Int × List Int) ⊕ (List Int)))
  | (x10, x11, x12) => (if x12 < (x9.length : Int) then ((ix x9 x12).bind fun x15 => ((ix x10 x15.2.1).bind fun x17 => (if x17 < 0 then (EH nE p1 x1 x15.2.1 x15.2.2 x7).bind fun x18 => some x18 else some false)).bind fun x16 => (if x16 = true then (ix x10 x7).bind fun x19 => (ix x10 x15.2.1).bind fun x20 => (Hz x11 ([x15.2.1] : List Int)).bind fun x21 => some ((AD x10 x15.2.1 (BI (x19 + 1))), x21) else some (x10, x11))).bind fun (x13, x14) => some (.inl (x13, x14, BI (x12 + 1))) else some (.inr (.inl (x10, x11))))
theorem Iu (nE : Nat) (p1 : List Nat) (x1 : List Nat) (x7 : Int) (x9 : (List (Int × Int × Int))) : ∀ s, Le (EQ nE p1 x1 x7 x9 s) (BS p1 x1 x7 x9 s) := by
  rintro ⟨x10, x11, x12⟩
  unfold EQ BS
  repeat' with_reducible (first | refine Le.orR' ?_ ?_ | refine Le.bind' ?_ ?_ | refine Le.ite' ?_ ?_ | refine Le.loop' ?_ | refine Le.altS' ?_ ?_ | apply GA | exact Le.rfl' _ | (refine Le.pi2 ?_; intro _) | intro _)
def ET (nE : Nat) (p0 : Int × (List (Int × Int × Int × Int × Int × Int)) × (List (Int × Int))) (p1 : List Nat) (x1 : List Nat) : (List Int × List Int) → Option ((List Int × List Int) ⊕ (List Int))
  | (x5, x6) => (if 0 < (x6.length : Int) then (ix x6 0).bind fun x7 => (Fo x6 1 (x6.length : Int)).bind fun x8 => (E4 nE p0 x7).bind fun x9 => Dz nE (EQ nE p1 x1 x7 x9) (x5, x8, 0) else some (.inr x5))
theorem Ih (nE : Nat) (p0 : Int × (List (Int × Int × Int × Int × Int × Int)) × (List (Int × Int))) (p1 : List Nat) (x1 : List Nat) : ∀ s, Le (ET nE p0 p1 x1 s) (B4 p0 p1 x1 s) := by
  rintro ⟨x5, x6⟩
  unfold ET B4
  repeat' with_reducible (first | refine Le.orR' ?_ ?_ | refine Le.bind' ?_ ?_ | refine Le.ite' ?_ ?_ | refine Le.loop' ?_ | refine Le.altS' ?_ ?_ | apply Gm | apply Iu | exact Le.rfl' _ | (refine Le.pi2 ?_; intro _) | intro _)
def FR (nE : Nat) (p0 : Int × (List (Int × Int × Int × Int × Int × Int)) × (List (Int × Int))) (p1 : List Nat) (p2 : Int) : Option (List Int) := (E1 nE p0 p1 p2).bind fun x1 => (if x1.length = 0 then some ([] : List Int) else (C8 nE ([(-1)] : List Int) p0.1).bind fun x2 => (ix x2 p2).bind fun x3 => (Dz nE (ET nE p0 p1 x1) ((AD x2 p2 0), ([p2] : List Int))).bind fun x4 => some x4)
theorem Jy (nE : Nat) (p0 : Int × (List (Int × Int × Int × Int × Int × Int)) × (List (Int × Int))) (p1 : List Nat) (p2 : Int) : Le (FR nE p0 p1 p2) (Cl p0 p1 p2) := by
  unfold FR Cl
  repeat' with_reducible (first | refine Le.orR' ?_ ?_ | refine Le.bind' ?_ ?_ | refine Le.ite' ?_ ?_ | refine Le.loop' ?_ | refine Le.altS' ?_ ?_ | apply He | apply FQ | apply Ih | exact Le.rfl' _ | (refine Le.pi2 ?_; intro _) | intro _)
def Fb (nE : Nat) (p1 : List Nat) (x3 : List Nat) (x4 : List Int) (x7 : Int) (x12 : (List (Int × Int × Int))) : (Int × Int) → Option ((Int × Int) ⊕ Int)
  | (x13, x14) => (if x14 < (x12.length : Int) then ((ix x12 x14).bind fun x16 => (if x13 < 0 then (ix x4 x16.2.1).bind fun x18 => (ix x4 x7).bind fun x19 => (if x18 = (BI (x19 - 1)) then (EH nE p1 x3 x7 x16.2.2 x16.2.1).bind fun x20 => some x20 else some false) else some false).bind fun x17 => (if x17 = true then some x16.1 else some x13)).bind fun x15 => some (.inl (x15, BI (x14 + 1))) else some (.inr x13))
theorem IV (nE : Nat) (p1 : List Nat) (x3 : List Nat) (x4 : List Int) (x7 : Int) (x12 : (List (Int × Int × Int))) : ∀ s, Le (Fb nE p1 x3 x4 x7 x12 s) (B3 p1 x3 x4 x7 x12 s) := by
  rintro ⟨x13, x14⟩
  unfold Fb B3
  repeat' with_reducible (first | refine Le.orR' ?_ ?_ | refine Le.bind' ?_ ?_ | refine Le.ite' ?_ ?_ | refine Le.loop' ?_ | refine Le.altS' ?_ ?_ | apply GA | exact Le.rfl' _ | (refine Le.pi2 ?_; intro _) | intro _)
def Fe (nE : Nat) (p0 : Int × (List (Int × Int × Int × Int × Int × Int)) × (List (Int × Int))) (p1 : List Nat) (p2 : Int) (x2 : Int × Int) (x3 : List Nat) (x4 : List Int) : (List Int × Int) → Option ((List Int × Int) ⊕ (List Int))
  | (x6, x7) => (if x7 < p0.1 then ((if x7 = x2.1 then (ix p0.2.2 p2).bind fun x10 => some x10.2 else some (-1)).bind fun x9 => ((E4 nE p0 x7).bind fun x12 => Dz nE (Fb nE p1 x3 x4 x7 x12) (x9, 0)).bind fun x11 => (Hz x6 ([x11] : List Int)).bind fun x21 => some x21).bind fun x8 => some (.inl (x8, BI (x7 + 1))) else some (.inr x6))
theorem IR (nE : Nat) (p0 : Int × (List (Int × Int × Int × Int × Int × Int)) × (List (Int × Int))) (p1 : List Nat) (p2 : Int) (x2 : Int × Int) (x3 : List Nat) (x4 : List Int) : ∀ s, Le (Fe nE p0 p1 p2 x2 x3 x4 s) (CD p0 p1 p2 x2 x3 x4 s) := by
  rintro ⟨x6, x7⟩
  unfold Fe CD
  repeat' with_reducible (first | refine Le.orR' ?_ ?_ | refine Le.bind' ?_ ?_ | refine Le.ite' ?_ ?_ | refine Le.loop' ?_ | refine Le.altS' ?_ ?_ | apply Gm | apply IV | exact Le.rfl' _ | (refine Le.pi2 ?_; intro _) | intro _)
def Gp (nE : Nat) (p0 : Int × (List (Int × Int × Int × Int × Int × Int)) × (List (Int × Int))) (p1 : List Nat) (p2 : Int) : Option (List Int × Int) := (Eg nE p0 p1).bind fun x1 => (if (!x1) = true then some (([] : List Int), 2) else (if (decide (p2 < 0) || decide ((p0.2.2.length : Int) ≤ p2)) = true then some (([] : List Int), 7) else (ix p0.2.2 p2).bind fun x2 => (E1 nE p0 p1 x2.1).bind fun x3 => (FR nE p0 p1 x2.1).bind fun x4 => (Dz nE (Fe nE p0 p1 p2 x2 x3 x4) ([], 0)).bind fun x5 => some (x5, 0)))
theorem Ko (nE : Nat) (p0 : Int × (List (Int × Int × Int × Int × Int × Int)) × (List (Int × Int))) (p1 : List Nat) (p2 : Int) : Le (Gp nE p0 p1 p2) (B9 p0 p1 p2) := by
  unfold Gp B9
  repeat' with_reducible (first | refine Le.orR' ?_ ?_ | refine Le.bind' ?_ ?_ | refine Le.ite' ?_ ?_ | refine Le.loop' ?_ | refine Le.altS' ?_ ?_ | apply FB | apply He | apply Jy | apply IR | exact Le.rfl' _ | (refine Le.pi2 ?_; intro _) | intro _)
def EI (nE : Nat) (x7 : List Int × Int) : ((List (Nat × List Int)) × Int) → Option (((List (Nat × List Int)) × Int) ⊕ ((List (Nat × List Int)) ⊕ (((List (Nat × List Int)) × Int) ⊕ ((List (Nat × List Int)) ⊕ ((List (Nat × List Int)) × Int)))))
  | (x8, x9) => (if x9 < (x7.1.length : Int) then (ix x7.1 x9).bind fun x10 => (if x10 < 0 then some (.inr (.inr (.inr (.inr (([] : List (Nat × List Int)), 7))))) else (ix x8 x9).bind fun x11 => (OS x11.1).bind fun x12 => (Hz x11.2 ([x10] : List Int)).bind fun x13 => (ix (AD x8 x9 (0, [])) x9).bind fun x14 => (ix (AD x8 x9 (0, [])) x9).bind fun x15 => some (.inl ((AD (AD x8 x9 (0, [])) x9 (2, x13)), BI (x9 + 1)))) else some (.inr (.inl x8)))
theorem HN (nE : Nat) (x7 : List Int × Int) : ∀ s, Le (EI nE x7 s) (BA x7 s) := by
  rintro ⟨x8, x9⟩
  unfold EI BA
  repeat' with_reducible (first | refine Le.orR' ?_ ?_ | refine Le.bind' ?_ ?_ | refine Le.ite' ?_ ?_ | refine Le.loop' ?_ | refine Le.altS' ?_ ?_ | exact Le.rfl' _ | (refine Le.pi2 ?_; intro _) | intro _)
def EE (nE : Nat) (p0 : Int × (List (Int × Int × Int × Int × Int × Int)) × (List (Int × Int))) (p1 : List Nat) : ((List (Nat × List Int)) × Int) → Option (((List (Nat × List Int)) × Int) ⊕ ((List (Nat × List Int)) ⊕ ((List (Nat × List Int)) × Int)))
  | (x4, x5) => (if x5 < (p0.2.2.length : Int) then HK ((Gp nE p0 p1 x5).bind fun x7 => Dz nE (EI nE x7) (x4, 0)) fun x6 => some (.inl (x6, BI (x5 + 1))) else some (.inr (.inl x4)))
theorem HT (nE : Nat) (p0 : Int × (List (Int × Int × Int × Int × Int × Int)) × (List (Int × Int))) (p1 : List Nat) : ∀ s, Le (EE nE p0 p1 s) (BU p0 p1 s) := by
  rintro ⟨x4, x5⟩
  unfold EE BU
  repeat' with_reducible (first | refine Le.orR' ?_ ?_ | refine Le.bind' ?_ ?_ | refine Le.ite' ?_ ?_ | refine Le.loop' ?_ | refine Le.altS' ?_ ?_ | apply Ko | apply HN | exact Le.rfl' _ | (refine Le.pi2 ?_; intro _) | intro _)
def Fx (nE : Nat) (p0 : Int × (List (Int × Int × Int × Int × Int × Int)) × (List (Int × Int))) (p1 : List Nat) : Option ((List (Nat × List Int)) × Int) := (Eg nE p0 p1).bind fun x1 => (if (!x1) = true then some (([] : List (Nat × List Int)), 2) else (mk p0.1 ((2, []) : Nat × List Int)).bind fun x2 => HK (Dz nE (EE nE p0 p1) (x2, 0)) fun x3 => some (x3, 0))
theorem Jl (nE : Nat) (p0 : Int × (List (Int × Int × Int × Int × Int × Int)) × (List (Int × Int))) (p1 : List Nat) : Le (Fx nE p0 p1) (Cg p0 p1) := by
  unfold Fx Cg
  repeat' with_reducible (first | refine Le.orR' ?_ ?_ | refine Le.bind' ?_ ?_ | refine Le.ite' ?_ ?_ | refine Le.loop' ?_ | refine Le.altS' ?_ ?_ | apply FB | apply HT | exact Le.rfl' _ | (refine Le.pi2 ?_; intro _) | intro _)
def IY (nE : Nat)  : Option Bool := (Fx nE (3, ([(0, 0, 1, 0, 1, 1), (0, 1, 2, 0, 1, 1), (2, 1, 1, 1, 1, 1)] : List (Int × Int × Int × Int × Int × Int)), ([(1, 5)] : List (Int × Int))) ([4613937818241073152, 4607182418800017408, 4607182418800017408] : List Nat)).bind fun x1 => (if x1.2 = 0 then (if (x1.1.length : Int) = 3 then (ix x1.1 0).bind fun x3 => (ix x3.2 0).bind fun x4 => (Kk x3.1).bind fun x5 => (if x4 = 1 then (ix x1.1 1).bind fun x6 => (ix x6.2 0).bind fun x7 => (Kk x6.1).bind fun x8 => (if x7 = 5 then (ix x1.1 2).bind fun x9 => (ix x9.2 0).bind fun x10 => (Kk x9.1).bind fun x11 => some (decide (x10 = 1)) else some false) else some false) else some false) else some false).bind fun x2 => some x2
theorem Lf (nE : Nat)  : Le (IY nE ) (EY ) := by
  unfold IY EY
  repeat' with_reducible (first | refine Le.orR' ?_ ?_ | refine Le.bind' ?_ ?_ | refine Le.ite' ?_ ?_ | refine Le.loop' ?_ | refine Le.altS' ?_ ?_ | apply Jl | exact Le.rfl' _ | (refine Le.pi2 ?_; intro _) | intro _)
theorem Nx : EY = some true := Lf 60 _ (by kernel_rfl)
end Go.Proofs.Ytbogijdfacoccaa
