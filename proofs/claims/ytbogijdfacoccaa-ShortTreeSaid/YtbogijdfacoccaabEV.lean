/- Twins with fuel of F7 functions: what a twin answers, the function answers. Conditions: none. -/
import Derived.Test.YtbogijdfacoccaabLP
import Derived.Test.YtbogijdfacoccaabA6
namespace Go.Proofs.Ytbogijdfacoccaa
open Go Go.RowKit
set_option linter.unusedVariables false
set_option linter.unusedSimpArgs false
set_option maxRecDepth 20000
set_option maxHeartbeats 1600000
abbrev Le {α : Type} (a b : Option α) : Prop := ∀ r, a = some r → b = some r
theorem Le.rfl' {α : Type} (a : Option α) : Le a a := fun _ h => h
theorem Le.bind' {α β : Type} {a b : Option α} {f g : α → Option β} (h : Le a b) (hf : ∀ x, Le (f x) (g x)) : Le (a.bind f) (b.bind g) := fun r e => by
  obtain ⟨x, h1, h2⟩ := Al e
  rw [h x h1, Option.bind_some]; exact hf x r h2
theorem Le.ite' {α : Type} {c : Prop} [Decidable c] {a a' b b' : Option α} (h1 : Le a a') (h2 : Le b b') : Le (if c then a else b) (if c then a' else b') := fun r e => by
  by_cases h : c
  · rw [if_pos h] at e ⊢; exact h1 r e
  · rw [if_neg h] at e ⊢; exact h2 r e
theorem Le.orR' {α β : Type} {a b : Option (α ⊕ β)} {f g : α → Option β} (h : Le a b) (hf : ∀ x, Le (f x) (g x)) : Le (IW a f) (IW b g) :=
  Le.bind' h fun x => by
    cases x with
    | inl t => exact hf t
    | inr e => exact Le.rfl' _
def Dc {σ ε : Type} (n : Nat) (step : σ → Option (σ ⊕ ε)) (s : σ) : Option ε := C7 step n s
theorem Jq {σ ε : Type} {S T : σ → Option (σ ⊕ ε)} (h : ∀ s, Le (S s) (T s)) : ∀ (n : Nat) (s : σ), Le (C7 S n s) (C7 T n s)
  | 0, s => Le.rfl' _
  | n + 1, s => fun r e => by
    unfold C7 at e ⊢
    cases hs : S s with
    | none => rw [hs] at e; cases e
    | some q =>
      rw [hs] at e; rw [h s q hs]
      cases q with
      | inl s' => exact Jq h n s' r e
      | inr _ => exact e
theorem Le.loop' {σ ε : Type} {n : Nat} {S T : σ → Option (σ ⊕ ε)} {s : σ} (h : ∀ s, Le (S s) (T s)) : Le (Dc n S s) (AF T s) := fun r e => Cf.2 ⟨n, Jq h n s r e⟩
theorem Le.pi2 {α β γ : Type} {f g : α × β → Option γ} (h : ∀ a b, Le (f (a, b)) (g (a, b))) : ∀ x, Le (f x) (g x) := fun x => h x.1 x.2
theorem Le.altS' {α β γ : Type} {y : α ⊕ β} {f f' : α → Option γ} {g g' : β → Option γ} (h : ∀ x, Le (f x) (f' x)) (k : ∀ x, Le (g x) (g' x)) : Le (Rb y f g) (Rb y f' g') := by
  cases y with
  | inl x => exact h x
  | inr x => exact k x
def EI (nE : Nat) (p0 : Int × (List (Int × Int × Int × Int × Int × Int)) × (List (Int × Int))) : ((List (Int × Int)) × Int) → Option (((List (Int × Int)) × Int) ⊕ (List (Int × Int)))
  | (x2, x3) => (if x3 < (p0.2.1.length : Int) then (ix p0.2.1 x3).bind fun x4 => (HV x2 ([(x4.1, x4.2.1), (x4.2.2.1, x4.2.2.2.1)] : List (Int × Int))).bind fun x5 => some (.inl (x5, BH (x3 + 1))) else some (.inr x2))
theorem Hq (nE : Nat) (p0 : Int × (List (Int × Int × Int × Int × Int × Int)) × (List (Int × Int))) : ∀ s, Le (EI nE p0 s) (B9 p0 s) := by
  rintro ⟨x2, x3⟩
  unfold EI B9
  repeat' with_reducible (first | refine Le.orR' ?_ ?_ | refine Le.bind' ?_ ?_ | refine Le.ite' ?_ ?_ | refine Le.loop' ?_ | refine Le.altS' ?_ ?_ | exact Le.rfl' _ | (refine Le.pi2 ?_; intro _) | intro _)
def Ez (nE : Nat) (p0 : Int × (List (Int × Int × Int × Int × Int × Int)) × (List (Int × Int))) : ((List (Int × Int)) × Int) → Option (((List (Int × Int)) × Int) ⊕ (List (Int × Int)))
  | (x7, x8) => (if x8 < (p0.2.2.length : Int) then (ix p0.2.2 x8).bind fun x9 => (HV x7 ([x9] : List (Int × Int))).bind fun x10 => some (.inl (x10, BH (x8 + 1))) else some (.inr x7))
theorem HG (nE : Nat) (p0 : Int × (List (Int × Int × Int × Int × Int × Int)) × (List (Int × Int))) : ∀ s, Le (Ez nE p0 s) (Cb p0 s) := by
  rintro ⟨x7, x8⟩
  unfold Ez Cb
  repeat' with_reducible (first | refine Le.orR' ?_ ?_ | refine Le.bind' ?_ ?_ | refine Le.ite' ?_ ?_ | refine Le.loop' ?_ | refine Le.altS' ?_ ?_ | exact Le.rfl' _ | (refine Le.pi2 ?_; intro _) | intro _)
def FD (nE : Nat) (p0 : Int × (List (Int × Int × Int × Int × Int × Int)) × (List (Int × Int))) : Option (List (Int × Int)) := (Dc nE (EI nE p0) ([], 0)).bind fun x1 => (Dc nE (Ez nE p0) (x1, 0)).bind fun x6 => some x6
theorem Jv (nE : Nat) (p0 : Int × (List (Int × Int × Int × Int × Int × Int)) × (List (Int × Int))) : Le (FD nE p0) (Ds p0) := by
  unfold FD Ds
  repeat' with_reducible (first | refine Le.orR' ?_ ?_ | refine Le.bind' ?_ ?_ | refine Le.ite' ?_ ?_ | refine Le.loop' ?_ | refine Le.altS' ?_ ?_ | apply Hq | apply HG | exact Le.rfl' _ | (refine Le.pi2 ?_; intro _) | intro _)
def Bp (nE : Nat) (p0 : List (Int × Int × Int × Int × Int × Int)) : Int → Option (Int ⊕ (Unit ⊕ Int))
  | x1 => (if x1 < (p0.length : Int) then (ix p0 x1).bind fun x2 => (if (Bc x2) = true then some (.inr (.inr x1)) else some (.inl (BH (x1 + 1)))) else some (.inr (.inl ())))
theorem Da (nE : Nat) (p0 : List (Int × Int × Int × Int × Int × Int)) : ∀ s, Le (Bp nE p0 s) (AB p0 s) := by
  intro x1
  unfold Bp AB
  repeat' with_reducible (first | refine Le.orR' ?_ ?_ | refine Le.bind' ?_ ?_ | refine Le.ite' ?_ ?_ | refine Le.loop' ?_ | refine Le.altS' ?_ ?_ | exact Le.rfl' _ | (refine Le.pi2 ?_; intro _) | intro _)
def BE (nE : Nat) (p0 : List (Int × Int × Int × Int × Int × Int)) : Option Int := IW (Dc nE (Bp nE p0) 0) fun _ => some (-1)
theorem DA (nE : Nat) (p0 : List (Int × Int × Int × Int × Int × Int)) : Le (BE nE p0) (A4 p0) := by
  unfold BE A4
  repeat' with_reducible (first | refine Le.orR' ?_ ?_ | refine Le.bind' ?_ ?_ | refine Le.ite' ?_ ?_ | refine Le.loop' ?_ | refine Le.altS' ?_ ?_ | apply Da | exact Le.rfl' _ | (refine Le.pi2 ?_; intro _) | intro _)
def Br (nE : Nat) (p0 : List (Int × Int × Int × Int × Int × Int)) : Option Bool := (BE nE p0).bind fun x1 => some (decide (0 ≤ x1))
theorem Db (nE : Nat) (p0 : List (Int × Int × Int × Int × Int × Int)) : Le (Br nE p0) (AM p0) := by
  unfold Br AM
  repeat' with_reducible (first | refine Le.orR' ?_ ?_ | refine Le.bind' ?_ ?_ | refine Le.ite' ?_ ?_ | refine Le.loop' ?_ | refine Le.altS' ?_ ?_ | apply DA | exact Le.rfl' _ | (refine Le.pi2 ?_; intro _) | intro _)
def EX (nE : Nat) (p0 : Int × (List (Int × Int × Int × Int × Int × Int)) × (List (Int × Int))) (x2 : (List (Int × Int))) : (Int × (List ((Int × Int) × Unit))) → Option ((Int × (List ((Int × Int) × Unit))) ⊕ ((List ((Int × Int) × Unit)) ⊕ Bool))
  | (x3, x4) => (if x3 < (x2.length : Int) then (ix x2 x3).bind fun x5 => (if (decide (x5.1 < 0) || (decide (p0.1 ≤ x5.1) || (decide (x5.2 < 0) || decide (8 ≤ x5.2)))) = true then some (.inr (.inr false)) else (if ((Ie x4 x5).isSome) = true then some (.inr (.inr false)) else some (.inl (BH (x3 + 1), Ia x4 x5 ())))) else some (.inr (.inl x4)))
theorem Id (nE : Nat) (p0 : Int × (List (Int × Int × Int × Int × Int × Int)) × (List (Int × Int))) (x2 : (List (Int × Int))) : ∀ s, Le (EX nE p0 x2 s) (BM p0 x2 s) := by
  rintro ⟨x3, x4⟩
  unfold EX BM
  repeat' with_reducible (first | refine Le.orR' ?_ ?_ | refine Le.bind' ?_ ?_ | refine Le.ite' ?_ ?_ | refine Le.loop' ?_ | refine Le.altS' ?_ ?_ | exact Le.rfl' _ | (refine Le.pi2 ?_; intro _) | intro _)
def F5 (nE : Nat) (p0 : Int × (List (Int × Int × Int × Int × Int × Int)) × (List (Int × Int))) : Option Bool := (if (decide (p0.1 < 1) || (decide (8 < p0.1) || (decide (24 < (p0.2.1.length : Int)) || decide (8 < (p0.2.2.length : Int))))) = true then some false else IW ((FD nE p0).bind fun x2 => Dc nE (EX nE p0 x2) (0, ([] : List ((Int × Int) × Unit)))) fun x1 => (Br nE p0.2.1).bind fun x6 => some (!x6))
theorem JG (nE : Nat) (p0 : Int × (List (Int × Int × Int × Int × Int × Int)) × (List (Int × Int))) : Le (F5 nE p0) (DY p0) := by
  unfold F5 DY
  repeat' with_reducible (first | refine Le.orR' ?_ ?_ | refine Le.bind' ?_ ?_ | refine Le.ite' ?_ ?_ | refine Le.loop' ?_ | refine Le.altS' ?_ ?_ | apply Jv | apply Db | apply Id | exact Le.rfl' _ | (refine Le.pi2 ?_; intro _) | intro _)
def EA (nE : Nat) (p0 : List Nat) : Int → Option (Int ⊕ (Unit ⊕ Bool))
  | x1 => (if x1 < (p0.length : Int) then (ix p0 x1).bind fun x2 => (if (!(CG x2)) = true then some (.inr (.inr false)) else some (.inl (BH (x1 + 1)))) else some (.inr (.inl ())))
theorem HA (nE : Nat) (p0 : List Nat) : ∀ s, Le (EA nE p0 s) (Cv p0 s) := by
  intro x1
  unfold EA Cv
  repeat' with_reducible (first | refine Le.orR' ?_ ?_ | refine Le.bind' ?_ ?_ | refine Le.ite' ?_ ?_ | refine Le.loop' ?_ | refine Le.altS' ?_ ?_ | exact Le.rfl' _ | (refine Le.pi2 ?_; intro _) | intro _)
def Fv (nE : Nat) (p0 : List Nat) (p1 : Int) : Option Bool := (if (p0.length : Int) ≠ p1 then some false else IW (Dc nE (EA nE p0) 0) fun _ => some true)
theorem I8 (nE : Nat) (p0 : List Nat) (p1 : Int) : Le (Fv nE p0 p1) (Do p0 p1) := by
  unfold Fv Do
  repeat' with_reducible (first | refine Le.orR' ?_ ?_ | refine Le.bind' ?_ ?_ | refine Le.ite' ?_ ?_ | refine Le.loop' ?_ | refine Le.altS' ?_ ?_ | apply HA | exact Le.rfl' _ | (refine Le.pi2 ?_; intro _) | intro _)
def DP (nE : Nat) (p0 : Int × (List (Int × Int × Int × Int × Int × Int)) × (List (Int × Int))) (p1 : List Nat) : Option Bool := ((F5 nE p0).bind fun x2 => (if x2 = true then (Fv nE p1 (p0.2.1.length : Int)).bind fun x3 => some x3 else some false)).bind fun x1 => some x1
theorem Fh (nE : Nat) (p0 : Int × (List (Int × Int × Int × Int × Int × Int)) × (List (Int × Int))) (p1 : List Nat) : Le (DP nE p0 p1) (CE p0 p1) := by
  unfold DP CE
  repeat' with_reducible (first | refine Le.orR' ?_ ?_ | refine Le.bind' ?_ ?_ | refine Le.ite' ?_ ?_ | refine Le.loop' ?_ | refine Le.altS' ?_ ?_ | apply JG | apply I8 | exact Le.rfl' _ | (refine Le.pi2 ?_; intro _) | intro _)
def Ff (nE : Nat) (p0 : Int) : Option Nat := (if 0 ≤ p0 then some 9218868437227405312 else some 18442240474082181120).bind fun x1 => some (Int.toNat x1)
theorem Gv (nE : Nat) (p0 : Int) : Le (Ff nE p0) (C6 p0) := by
  unfold Ff C6
  repeat' with_reducible (first | refine Le.orR' ?_ ?_ | refine Le.bind' ?_ ?_ | refine Le.ite' ?_ ?_ | refine Le.loop' ?_ | refine Le.altS' ?_ ?_ | exact Le.rfl' _ | (refine Le.pi2 ?_; intro _) | intro _)
def BP (nE : Nat)  : (List Nat × Int) → Option ((List Nat × Int) ⊕ (List Nat))
  | (x3, x4) => (if x4 < (x3.length : Int) then (E6 x3 x4 (x3.length : Int)).bind fun x5 => (E6 x3 0 x4).bind fun x6 => some (.inl (JE x3 x4 (min x6.length x5.length) x6, BH (x4 + ((min x6.length x5.length : Nat) : Int)))) else some (.inr x3))
theorem DI (nE : Nat)  : ∀ s, Le (BP nE  s) (A0  s) := by
  rintro ⟨x3, x4⟩
  unfold BP A0
  repeat' with_reducible (first | refine Le.orR' ?_ ?_ | refine Le.bind' ?_ ?_ | refine Le.ite' ?_ ?_ | refine Le.loop' ?_ | refine Le.altS' ?_ ?_ | exact Le.rfl' _ | (refine Le.pi2 ?_; intro _) | intro _)
def B1 (nE : Nat) (p0 : List Nat) (p1 : Int) : Option (List Nat) := (if p1 < 0 then none else (if (decide (0 < ((As (IntKind.u64.wrap (p0.length : Int)) (IntKind.u64.wrap p1)).1)) || decide (9223372036854775807 < ((As (IntKind.u64.wrap (p0.length : Int)) (IntKind.u64.wrap p1)).2))) = true then none else (mk (BH ((As (IntKind.u64.wrap (p0.length : Int)) (IntKind.u64.wrap p1)).2)) (0 : Nat)).bind fun x1 => (Dc nE (BP nE) (JE x1 0 (min p0.length x1.length) p0, ((min p0.length x1.length : Nat) : Int))).bind fun x2 => some x2))
theorem D9 (nE : Nat) (p0 : List Nat) (p1 : Int) : Le (B1 nE p0 p1) (AP p0 p1) := by
  unfold B1 AP
  repeat' with_reducible (first | refine Le.orR' ?_ ?_ | refine Le.bind' ?_ ?_ | refine Le.ite' ?_ ?_ | refine Le.loop' ?_ | refine Le.altS' ?_ ?_ | apply DI | exact Le.rfl' _ | (refine Le.pi2 ?_; intro _) | intro _)
def Es (nE : Nat) (p0 : Int) : Option Int := (if 4294967296 ≤ p0 then some (Gk .u64 p0 32, 32) else some (p0, 0)).bind fun (x1, x2) => (if 65536 ≤ x1 then some (Gk .u64 x1 16, BH (x2 + 16)) else some (x1, x2)).bind fun (x3, x4) => (if 256 ≤ x3 then some (Gk .u64 x3 8, BH (x4 + 8)) else some (x3, x4)).bind fun (x5, x6) => (ix ([0, 1, 2, 2, 3, 3, 3, 3, 4, 4, 4, 4, 4, 4, 4, 4, 5, 5, 5, 5, 5, 5, 5, 5, 5, 5, 5, 5, 5, 5, 5, 5, 6, 6, 6, 6, 6, 6, 6, 6, 6, 6, 6, 6, 6, 6, 6, 6, 6, 6, 6, 6, 6, 6, 6, 6, 6, 6, 6, 6, 6, 6, 6, 6, 7, 7, 7, 7, 7, 7, 7, 7, 7, 7, 7, 7, 7, 7, 7, 7, 7, 7, 7, 7, 7, 7, 7, 7, 7, 7, 7, 7, 7, 7, 7, 7, 7, 7, 7, 7, 7, 7, 7, 7, 7, 7, 7, 7, 7, 7, 7, 7, 7, 7, 7, 7, 7, 7, 7, 7, 7, 7, 7, 7, 7, 7, 7, 7, 8, 8, 8, 8, 8, 8, 8, 8, 8, 8, 8, 8, 8, 8, 8, 8, 8, 8, 8, 8, 8, 8, 8, 8, 8, 8, 8, 8, 8, 8, 8, 8, 8, 8, 8, 8, 8, 8, 8, 8, 8, 8, 8, 8, 8, 8, 8, 8, 8, 8, 8, 8, 8, 8, 8, 8, 8, 8, 8, 8, 8, 8, 8, 8, 8, 8, 8, 8, 8, 8, 8, 8, 8, 8, 8, 8, 8, 8, 8, 8, 8, 8, 8, 8, 8, 8, 8, 8, 8, 8, 8, 8, 8, 8, 8, 8, 8, 8, 8, 8, 8, 8, 8, 8, 8, 8, 8, 8, 8, 8, 8, 8, 8, 8, 8, 8, 8, 8, 8, 8, 8, 8, 8, 8, 8, 8, 8, 8] : List UInt8) (IntKind.u8.wrap x5)).bind fun x7 => some (BH (x6 + (BH (x7.toNat : Int))))
theorem Hk (nE : Nat) (p0 : Int) : Le (Es nE p0) (C8 p0) := by
  unfold Es C8
  repeat' with_reducible (first | refine Le.orR' ?_ ?_ | refine Le.bind' ?_ ?_ | refine Le.ite' ?_ ?_ | refine Le.loop' ?_ | refine Le.altS' ?_ ?_ | exact Le.rfl' _ | (refine Le.pi2 ?_; intro _) | intro _)
def DS (nE : Nat) (p0 : Int) : Option Int := (Es nE p0).bind fun x1 => some x1
theorem FL (nE : Nat) (p0 : Int) : Le (DS nE p0) (Cn p0) := by
  unfold DS Cn
  repeat' with_reducible (first | refine Le.orR' ?_ ?_ | refine Le.bind' ?_ ?_ | refine Le.ite' ?_ ?_ | refine Le.loop' ?_ | refine Le.altS' ?_ ?_ | apply Hk | exact Le.rfl' _ | (refine Le.pi2 ?_; intro _) | intro _)
def E5 (nE : Nat) (p0 : Nat) (p1 : Int) : Option Bool := (if p1 = 0 then some (Gy p0) else (if p1 < 0 then some (Op.negFloat .f64 p0) else some p0)).bind fun x1 => some (N8 x1 9218868437227405311)
theorem JH (nE : Nat) (p0 : Nat) (p1 : Int) : Le (E5 nE p0 p1) (CI p0 p1) := by
  unfold E5 CI
  repeat' with_reducible (first | refine Le.orR' ?_ ?_ | refine Le.bind' ?_ ?_ | refine Le.ite' ?_ ?_ | refine Le.loop' ?_ | refine Le.altS' ?_ ?_ | exact Le.rfl' _ | (refine Le.pi2 ?_; intro _) | intro _)
def FB (nE : Nat) (p0 : Nat) : Option Int := (if (B4 p0) = true then some 0 else (E5 nE p0 (-1)).bind fun x1 => (if x1 = true then some 1 else (if (Ng p0 0) = true then some 2 else (E5 nE p0 1).bind fun x2 => (if x2 = true then some 6 else (if (N8 p0 0) = true then some 5 else (if (C3 p0) = true then some 3 else some 4))))))
theorem JD (nE : Nat) (p0 : Nat) : Le (FB nE p0) (Dr p0) := by
  unfold FB Dr
  repeat' with_reducible (first | refine Le.orR' ?_ ?_ | refine Le.bind' ?_ ?_ | refine Le.ite' ?_ ?_ | refine Le.loop' ?_ | refine Le.altS' ?_ ?_ | apply JH | exact Le.rfl' _ | (refine Le.pi2 ?_; intro _) | intro _)
def E3 (nE : Nat) (p0 : Nat) : Option Int := (FB nE p0).bind fun x1 => (if x1 ≠ 0 then some x1 else some 7)
theorem JT (nE : Nat) (p0 : Nat) : Le (E3 nE p0) (Dm p0) := by
  unfold E3 Dm
  repeat' with_reducible (first | refine Le.orR' ?_ ?_ | refine Le.bind' ?_ ?_ | refine Le.ite' ?_ ?_ | refine Le.loop' ?_ | refine Le.altS' ?_ ?_ | apply JD | exact Le.rfl' _ | (refine Le.pi2 ?_; intro _) | intro _)
def EV (nE : Nat) (p0 : Nat) (p1 : Nat) : Option Int := (E3 nE p0).bind fun x1 => (E3 nE p1).bind fun x2 => (if x1 < x2 then some (-1) else (if x2 < x1 then some 1 else (if (Ng p0 p1) = true then some (-1) else (if (N8 p0 p1) = true then some 1 else some 0))))
theorem H4 (nE : Nat) (p0 : Nat) (p1 : Nat) : Le (EV nE p0 p1) (CH p0 p1) := by
  unfold EV CH
  repeat' with_reducible (first | refine Le.orR' ?_ ?_ | refine Le.bind' ?_ ?_ | refine Le.ite' ?_ ?_ | refine Le.loop' ?_ | refine Le.altS' ?_ ?_ | apply JT | exact Le.rfl' _ | (refine Le.pi2 ?_; intro _) | intro _)
def ES (nE : Nat) (p0 : Int) (p1 : Int) (p2 : List Nat) : Option Int := (ix p2 p0).bind fun x1 => (ix p2 p1).bind fun x2 => (EV nE x1 x2).bind fun x3 => some x3
theorem Il (nE : Nat) (p0 : Int) (p1 : Int) (p2 : List Nat) : Le (ES nE p0 p1 p2) (CF p0 p1 p2) := by
  unfold ES CF
  repeat' with_reducible (first | refine Le.orR' ?_ ?_ | refine Le.bind' ?_ ?_ | refine Le.ite' ?_ ?_ | refine Le.loop' ?_ | refine Le.altS' ?_ ?_ | apply H4 | exact Le.rfl' _ | (refine Le.pi2 ?_; intro _) | intro _)
def BD (nE : Nat) (p1 : Int) (p3c0 : List Nat) : (List Int × Int) → Option ((List Int × Int) ⊕ (List Int))
  | (x4, x5) => (if p1 < x5 then (ix x4 x5).bind fun x7 => (ix x4 (BH (x5 - 1))).bind fun x8 => (ES nE x7 x8 p3c0).bind fun x9 => some (decide (x9 < 0)) else some false).bind fun x6 => (if x6 = true then (ix x4 (BH (x5 - 1))).bind fun x10 => (ix x4 x5).bind fun x11 => (ix x4 x5).bind fun x12 => (ix (AA x4 x5 x10) (BH (x5 - 1))).bind fun x13 => some (.inl ((AA (AA x4 x5 x10) (BH (x5 - 1)) x11), BH (x5 - 1))) else some (.inr x4))
theorem DF (nE : Nat) (p1 : Int) (p3c0 : List Nat) : ∀ s, Le (BD nE p1 p3c0 s) (AR p1 p3c0 s) := by
  rintro ⟨x4, x5⟩
  unfold BD AR
  repeat' with_reducible (first | refine Le.orR' ?_ ?_ | refine Le.bind' ?_ ?_ | refine Le.ite' ?_ ?_ | refine Le.loop' ?_ | refine Le.altS' ?_ ?_ | apply Il | exact Le.rfl' _ | (refine Le.pi2 ?_; intro _) | intro _)
def BG (nE : Nat) (p1 : Int) (p2 : Int) (p3c0 : List Nat) : (List Int × Int) → Option ((List Int × Int) ⊕ (List Int))
  | (x1, x2) => (if x2 < p2 then (Dc nE (BD nE p1 p3c0) (x1, x2)).bind fun x3 => some (.inl (x3, BH (x2 + 1))) else some (.inr x1))
theorem DD (nE : Nat) (p1 : Int) (p2 : Int) (p3c0 : List Nat) : ∀ s, Le (BG nE p1 p2 p3c0 s) (AL p1 p2 p3c0 s) := by
  rintro ⟨x1, x2⟩
  unfold BG AL
  repeat' with_reducible (first | refine Le.orR' ?_ ?_ | refine Le.bind' ?_ ?_ | refine Le.ite' ?_ ?_ | refine Le.loop' ?_ | refine Le.altS' ?_ ?_ | apply DF | exact Le.rfl' _ | (refine Le.pi2 ?_; intro _) | intro _)
def BU (nE : Nat) (p0 : List Int) (p1 : Int) (p2 : Int) (p3c0 : List Nat) : Option (List Int) := Dc nE (BG nE p1 p2 p3c0) (p0, BH (p1 + 1))
theorem DW (nE : Nat) (p0 : List Int) (p1 : Int) (p2 : Int) (p3c0 : List Nat) : Le (BU nE p0 p1 p2 p3c0) (A7 p0 p1 p2 p3c0) := by
  unfold BU A7
  repeat' with_reducible (first | refine Le.orR' ?_ ?_ | refine Le.bind' ?_ ?_ | refine Le.ite' ?_ ?_ | refine Le.loop' ?_ | refine Le.altS' ?_ ?_ | apply DD | exact Le.rfl' _ | (refine Le.pi2 ?_; intro _) | intro _)
def B3 (nE : Nat) (p0 : List Int) (p1 : Int) (p2 : Int) (p4c0 : List Nat) : Unit → Option (Unit ⊕ (List Int))
  | _ => (if (BH (p2 - p1)) ≤ 12 then (BU nE p0 p1 p2 p4c0).bind fun x1 => some (.inr x1) else none)
theorem Ew (nE : Nat) (p0 : List Int) (p1 : Int) (p2 : Int) (p4c0 : List Nat) : ∀ s, Le (B3 nE p0 p1 p2 p4c0 s) (Bk p0 p1 p2 p4c0 s) := by
  intro s
  unfold B3 Bk
  repeat' with_reducible (first | refine Le.orR' ?_ ?_ | refine Le.bind' ?_ ?_ | refine Le.ite' ?_ ?_ | refine Le.loop' ?_ | refine Le.altS' ?_ ?_ | apply DW | exact Le.rfl' _ | (refine Le.pi2 ?_; intro _) | intro _)
def Cj (nE : Nat) (p0 : List Int) (p1 : Int) (p2 : Int) (p3 : Int) (p4c0 : List Nat) : Option (List Int) := Dc nE (B3 nE p0 p1 p2 p4c0) ()
theorem ET (nE : Nat) (p0 : List Int) (p1 : Int) (p2 : Int) (p3 : Int) (p4c0 : List Nat) : Le (Cj nE p0 p1 p2 p3 p4c0) (Ba p0 p1 p2 p3 p4c0) := by
  unfold Cj Ba
  repeat' with_reducible (first | refine Le.orR' ?_ ?_ | refine Le.bind' ?_ ?_ | refine Le.ite' ?_ ?_ | refine Le.loop' ?_ | refine Le.altS' ?_ ?_ | apply Ew | exact Le.rfl' _ | (refine Le.pi2 ?_; intro _) | intro _)
def Cy (nE : Nat) (p0 : List Int) (p1c0 : List Nat) : Option (List Int) := (DS nE (IntKind.u64.wrap (p0.length : Int))).bind fun x1 => (Cj nE p0 0 (p0.length : Int) x1 p1c0).bind fun x2 => some x2
theorem Fi (nE : Nat) (p0 : List Int) (p1c0 : List Nat) : Le (Cy nE p0 p1c0) (Bg p0 p1c0) := by
  unfold Cy Bg
  repeat' with_reducible (first | refine Le.orR' ?_ ?_ | refine Le.bind' ?_ ?_ | refine Le.ite' ?_ ?_ | refine Le.loop' ?_ | refine Le.altS' ?_ ?_ | apply FL | apply ET | exact Le.rfl' _ | (refine Le.pi2 ?_; intro _) | intro _)
def Bh (nE : Nat) (p1 : Int) : ((List (Int × Int × Int)) × Int) → Option (((List (Int × Int × Int)) × Int) ⊕ (List (Int × Int × Int)))
  | (x4, x5) => (if p1 < x5 then (ix x4 x5).bind fun x7 => (ix x4 (BH (x5 - 1))).bind fun x8 => some (decide ((DZ x7 x8) < 0)) else some false).bind fun x6 => (if x6 = true then (ix x4 (BH (x5 - 1))).bind fun x9 => (ix x4 x5).bind fun x10 => (ix x4 x5).bind fun x11 => (ix (AA x4 x5 x9) (BH (x5 - 1))).bind fun x12 => some (.inl ((AA (AA x4 x5 x9) (BH (x5 - 1)) x10), BH (x5 - 1))) else some (.inr x4))
theorem CV (nE : Nat) (p1 : Int) : ∀ s, Le (Bh nE p1 s) (AJ p1 s) := by
  rintro ⟨x4, x5⟩
  unfold Bh AJ
  repeat' with_reducible (first | refine Le.orR' ?_ ?_ | refine Le.bind' ?_ ?_ | refine Le.ite' ?_ ?_ | refine Le.loop' ?_ | refine Le.altS' ?_ ?_ | exact Le.rfl' _ | (refine Le.pi2 ?_; intro _) | intro _)
def Bj (nE : Nat) (p1 : Int) (p2 : Int) : ((List (Int × Int × Int)) × Int) → Option (((List (Int × Int × Int)) × Int) ⊕ (List (Int × Int × Int)))
  | (x1, x2) => (if x2 < p2 then (Dc nE (Bh nE p1) (x1, x2)).bind fun x3 => some (.inl (x3, BH (x2 + 1))) else some (.inr x1))
theorem CW (nE : Nat) (p1 : Int) (p2 : Int) : ∀ s, Le (Bj nE p1 p2 s) (AG p1 p2 s) := by
  rintro ⟨x1, x2⟩
  unfold Bj AG
  repeat' with_reducible (first | refine Le.orR' ?_ ?_ | refine Le.bind' ?_ ?_ | refine Le.ite' ?_ ?_ | refine Le.loop' ?_ | refine Le.altS' ?_ ?_ | apply CV | exact Le.rfl' _ | (refine Le.pi2 ?_; intro _) | intro _)
def Bq (nE : Nat) (p0 : List (Int × Int × Int)) (p1 : Int) (p2 : Int) : Option (List (Int × Int × Int)) := Dc nE (Bj nE p1 p2) (p0, BH (p1 + 1))
theorem C9 (nE : Nat) (p0 : List (Int × Int × Int)) (p1 : Int) (p2 : Int) : Le (Bq nE p0 p1 p2) (AW p0 p1 p2) := by
  unfold Bq AW
  repeat' with_reducible (first | refine Le.orR' ?_ ?_ | refine Le.bind' ?_ ?_ | refine Le.ite' ?_ ?_ | refine Le.loop' ?_ | refine Le.altS' ?_ ?_ | apply CW | exact Le.rfl' _ | (refine Le.pi2 ?_; intro _) | intro _)
def BF (nE : Nat) (p0 : List (Int × Int × Int)) (p1 : Int) (p2 : Int) : Unit → Option (Unit ⊕ (List (Int × Int × Int)))
  | _ => (if (BH (p2 - p1)) ≤ 12 then (Bq nE p0 p1 p2).bind fun x1 => some (.inr x1) else none)
theorem Dw (nE : Nat) (p0 : List (Int × Int × Int)) (p1 : Int) (p2 : Int) : ∀ s, Le (BF nE p0 p1 p2 s) (A8 p0 p1 p2 s) := by
  intro s
  unfold BF A8
  repeat' with_reducible (first | refine Le.orR' ?_ ?_ | refine Le.bind' ?_ ?_ | refine Le.ite' ?_ ?_ | refine Le.loop' ?_ | refine Le.altS' ?_ ?_ | apply C9 | exact Le.rfl' _ | (refine Le.pi2 ?_; intro _) | intro _)
def BV (nE : Nat) (p0 : List (Int × Int × Int)) (p1 : Int) (p2 : Int) (p3 : Int) : Option (List (Int × Int × Int)) := Dc nE (BF nE p0 p1 p2) ()
theorem DU (nE : Nat) (p0 : List (Int × Int × Int)) (p1 : Int) (p2 : Int) (p3 : Int) : Le (BV nE p0 p1 p2 p3) (A3 p0 p1 p2 p3) := by
  unfold BV A3
  repeat' with_reducible (first | refine Le.orR' ?_ ?_ | refine Le.bind' ?_ ?_ | refine Le.ite' ?_ ?_ | refine Le.loop' ?_ | refine Le.altS' ?_ ?_ | apply Dw | exact Le.rfl' _ | (refine Le.pi2 ?_; intro _) | intro _)
def BC (nE : Nat) (p0 : List (Int × Int × Int)) : Option (List (Int × Int × Int)) := (DS nE (IntKind.u64.wrap (p0.length : Int))).bind fun x1 => (BV nE p0 0 (p0.length : Int) x1).bind fun x2 => some x2
theorem Dk (nE : Nat) (p0 : List (Int × Int × Int)) : Le (BC nE p0) (AQ p0) := by
  unfold BC AQ
  repeat' with_reducible (first | refine Le.orR' ?_ ?_ | refine Le.bind' ?_ ?_ | refine Le.ite' ?_ ?_ | refine Le.loop' ?_ | refine Le.altS' ?_ ?_ | apply FL | apply DU | exact Le.rfl' _ | (refine Le.pi2 ?_; intro _) | intro _)
def Fb (nE : Nat) (p0 : Int × (List (Int × Int × Int × Int × Int × Int)) × (List (Int × Int))) (p1 : Int) : ((List (Int × Int × Int)) × Int) → Option (((List (Int × Int × Int)) × Int) ⊕ (List (Int × Int × Int)))
  | (x2, x3) => (if x3 < (p0.2.1.length : Int) then ((ix p0.2.1 x3).bind fun x5 => (if p1 = x5.1 then (HV x2 ([(x5.2.1, x5.2.2.1, x3)] : List (Int × Int × Int))).bind fun x6 => some x6 else (if p1 = x5.2.2.1 then (HV x2 ([(x5.2.2.2.1, x5.1, x3)] : List (Int × Int × Int))).bind fun x7 => some x7 else some x2))).bind fun x4 => some (.inl (x4, BH (x3 + 1))) else some (.inr x2))
theorem IQ (nE : Nat) (p0 : Int × (List (Int × Int × Int × Int × Int × Int)) × (List (Int × Int))) (p1 : Int) : ∀ s, Le (Fb nE p0 p1 s) (CB p0 p1 s) := by
  rintro ⟨x2, x3⟩
  unfold Fb CB
  repeat' with_reducible (first | refine Le.orR' ?_ ?_ | refine Le.bind' ?_ ?_ | refine Le.ite' ?_ ?_ | refine Le.loop' ?_ | refine Le.altS' ?_ ?_ | exact Le.rfl' _ | (refine Le.pi2 ?_; intro _) | intro _)
def EQ (nE : Nat) (p0 : Int × (List (Int × Int × Int × Int × Int × Int)) × (List (Int × Int))) (p1 : Int) : Option (List (Int × Int × Int)) := (Dc nE (Fb nE p0 p1) ([], 0)).bind fun x1 => (BC nE x1).bind fun x8 => some x8
theorem F9 (nE : Nat) (p0 : Int × (List (Int × Int × Int × Int × Int × Int)) × (List (Int × Int))) (p1 : Int) : Le (EQ nE p0 p1) (CO p0 p1) := by
  unfold EQ CO
  repeat' with_reducible (first | refine Le.orR' ?_ ?_ | refine Le.bind' ?_ ?_ | refine Le.ite' ?_ ?_ | refine Le.loop' ?_ | refine Le.altS' ?_ ?_ | apply Dk | apply IQ | exact Le.rfl' _ | (refine Le.pi2 ?_; intro _) | intro _)
def F1 (nE : Nat) (p0 : List Nat) (p1 : Int) : Option Bool := (if (B8 p0 p1) = true then (ix p0 p1).bind fun x2 => (Ff nE 1).bind fun x3 => some (Ng x2 x3) else some false).bind fun x1 => some x1
theorem Ix (nE : Nat) (p0 : List Nat) (p1 : Int) : Le (F1 nE p0 p1) (Di p0 p1) := by
  unfold F1 Di
  repeat' with_reducible (first | refine Le.orR' ?_ ?_ | refine Le.bind' ?_ ?_ | refine Le.ite' ?_ ?_ | refine Le.loop' ?_ | refine Le.altS' ?_ ?_ | apply Gv | exact Le.rfl' _ | (refine Le.pi2 ?_; intro _) | intro _)
def EB (nE : Nat) (p2 : Int) (x4 : List Nat) : (List Int × Int) → Option ((List Int × Int) ⊕ (List Int))
  | (x7, x8) => (if x8 < ((AA x4 p2 0).length : Int) then (HV x7 ([x8] : List Int)).bind fun x9 => some (.inl (x9, BH (x8 + 1))) else some (.inr x7))
theorem Hv (nE : Nat) (p2 : Int) (x4 : List Nat) : ∀ s, Le (EB nE p2 x4 s) (Ca p2 x4 s) := by
  rintro ⟨x7, x8⟩
  unfold EB Ca
  repeat' with_reducible (first | refine Le.orR' ?_ ?_ | refine Le.bind' ?_ ?_ | refine Le.ite' ?_ ?_ | refine Le.loop' ?_ | refine Le.altS' ?_ ?_ | exact Le.rfl' _ | (refine Le.pi2 ?_; intro _) | intro _)
def EH (nE : Nat) (p1 : List Nat) (x13 : List Int) (x14 : Int) (x16 : (List (Int × Int × Int))) : (Int × List Nat) → Option ((Int × List Nat) ⊕ ((List Int × List Nat) ⊕ (List Nat)))
  | (x17, x18) => (if x17 < (x16.length : Int) then ((ix x16 x17).bind fun x20 => (F1 nE p1 x20.2.2).bind fun x21 => (if x21 = true then (ix x18 x20.2.1).bind fun x22 => (ix p1 x20.2.2).bind fun x23 => (ix x18 x14).bind fun x24 => (I5 x22 (A6 x23 x24)).bind fun x25 => (ix x18 x20.2.1).bind fun x26 => some (AA x18 x20.2.1 x25) else some x18)).bind fun x19 => some (.inl (BH (x17 + 1), x19)) else (E6 x13 1 (x13.length : Int)).bind fun x27 => some (.inr (.inl (x27, x18))))
theorem HW (nE : Nat) (p1 : List Nat) (x13 : List Int) (x14 : Int) (x16 : (List (Int × Int × Int))) : ∀ s, Le (EH nE p1 x13 x14 x16 s) (BK p1 x13 x14 x16 s) := by
  rintro ⟨x17, x18⟩
  unfold EH BK
  repeat' with_reducible (first | refine Le.orR' ?_ ?_ | refine Le.bind' ?_ ?_ | refine Le.ite' ?_ ?_ | refine Le.loop' ?_ | refine Le.altS' ?_ ?_ | apply Ix | exact Le.rfl' _ | (refine Le.pi2 ?_; intro _) | intro _)
def EE (nE : Nat) (p0 : Int × (List (Int × Int × Int × Int × Int × Int)) × (List (Int × Int))) (p1 : List Nat) : (List Int × List Nat) → Option ((List Int × List Nat) ⊕ (List Nat))
  | (x11, x12) => (if 0 < (x11.length : Int) then (Cy nE x11 x12).bind fun x13 => (ix x13 0).bind fun x14 => (E6 x13 1 (x13.length : Int)).bind fun x15 => (EQ nE p0 x14).bind fun x16 => Dc nE (EH nE p1 x13 x14 x16) (0, x12) else some (.inr x12))
theorem HE (nE : Nat) (p0 : Int × (List (Int × Int × Int × Int × Int × Int)) × (List (Int × Int))) (p1 : List Nat) : ∀ s, Le (EE nE p0 p1 s) (Cd p0 p1 s) := by
  rintro ⟨x11, x12⟩
  unfold EE Cd
  repeat' with_reducible (first | refine Le.orR' ?_ ?_ | refine Le.bind' ?_ ?_ | refine Le.ite' ?_ ?_ | refine Le.loop' ?_ | refine Le.altS' ?_ ?_ | apply Fi | apply F9 | apply HW | exact Le.rfl' _ | (refine Le.pi2 ?_; intro _) | intro _)
def EK (nE : Nat) (p0 : Int × (List (Int × Int × Int × Int × Int × Int)) × (List (Int × Int))) (p1 : List Nat) (p2 : Int) : Option (List Nat) := ((DP nE p0 p1).bind fun x2 => (if (!x2) = true then some true else (if p2 < 0 then some true else some (decide (p0.1 ≤ p2))))).bind fun x1 => (if x1 = true then some ([] : List Nat) else (Ff nE 1).bind fun x3 => (B1 nE ([x3] : List Nat) p0.1).bind fun x4 => (ix x4 p2).bind fun x5 => (Dc nE (EB nE p2 x4) ([], 0)).bind fun x6 => (Dc nE (EE nE p0 p1) (x6, (AA x4 p2 0))).bind fun x10 => (Rk x10).bind fun x28 => some x10)
theorem Gt (nE : Nat) (p0 : Int × (List (Int × Int × Int × Int × Int × Int)) × (List (Int × Int))) (p1 : List Nat) (p2 : Int) : Le (EK nE p0 p1 p2) (Ce p0 p1 p2) := by
  unfold EK Ce
  repeat' with_reducible (first | refine Le.orR' ?_ ?_ | refine Le.bind' ?_ ?_ | refine Le.ite' ?_ ?_ | refine Le.loop' ?_ | refine Le.altS' ?_ ?_ | apply Fh | apply Gv | apply D9 | apply Hv | apply HE | exact Le.rfl' _ | (refine Le.pi2 ?_; intro _) | intro _)
def Cu (nE : Nat)  : (List Int × Int) → Option ((List Int × Int) ⊕ (List Int))
  | (x3, x4) => (if x4 < (x3.length : Int) then (E6 x3 x4 (x3.length : Int)).bind fun x5 => (E6 x3 0 x4).bind fun x6 => some (.inl (JE x3 x4 (min x6.length x5.length) x6, BH (x4 + ((min x6.length x5.length : Nat) : Int)))) else some (.inr x3))
theorem E4 (nE : Nat)  : ∀ s, Le (Cu nE  s) (Aq  s) := by
  rintro ⟨x3, x4⟩
  unfold Cu Aq
  repeat' with_reducible (first | refine Le.orR' ?_ ?_ | refine Le.bind' ?_ ?_ | refine Le.ite' ?_ ?_ | refine Le.loop' ?_ | refine Le.altS' ?_ ?_ | exact Le.rfl' _ | (refine Le.pi2 ?_; intro _) | intro _)
def CP (nE : Nat) (p0 : List Int) (p1 : Int) : Option (List Int) := (if p1 < 0 then none else (if (decide (0 < ((As (IntKind.u64.wrap (p0.length : Int)) (IntKind.u64.wrap p1)).1)) || decide (9223372036854775807 < ((As (IntKind.u64.wrap (p0.length : Int)) (IntKind.u64.wrap p1)).2))) = true then none else (mk (BH ((As (IntKind.u64.wrap (p0.length : Int)) (IntKind.u64.wrap p1)).2)) (0 : Int)).bind fun x1 => (Dc nE (Cu nE) (JE x1 0 (min p0.length x1.length) p0, ((min p0.length x1.length : Nat) : Int))).bind fun x2 => some x2))
theorem FC (nE : Nat) (p0 : List Int) (p1 : Int) : Le (CP nE p0 p1) (Av p0 p1) := by
  unfold CP Av
  repeat' with_reducible (first | refine Le.orR' ?_ ?_ | refine Le.bind' ?_ ?_ | refine Le.ite' ?_ ?_ | refine Le.loop' ?_ | refine Le.altS' ?_ ?_ | apply E4 | exact Le.rfl' _ | (refine Le.pi2 ?_; intro _) | intro _)
def Ea (nE : Nat) (p0 : List Nat) (p1 : List Nat) (p2 : Int) (p3 : Int) (p4 : Int) : Option Bool := ((F1 nE p0 p3).bind fun x2 => (if x2 = true then (ix p1 p2).bind fun x3 => (Ff nE 1).bind fun x4 => (if (Ng x3 x4) = true then (ix p0 p3).bind fun x5 => (ix p1 p4).bind fun x6 => (ix p1 p2).bind fun x7 => some (LM (A6 x5 x6) x7) else some false) else some false)).bind fun x1 => some x1
theorem Ga (nE : Nat) (p0 : List Nat) (p1 : List Nat) (p2 : Int) (p3 : Int) (p4 : Int) : Le (Ea nE p0 p1 p2 p3 p4) (CC p0 p1 p2 p3 p4) := by
  unfold Ea CC
  repeat' with_reducible (first | refine Le.orR' ?_ ?_ | refine Le.bind' ?_ ?_ | refine Le.ite' ?_ ?_ | refine Le.loop' ?_ | refine Le.altS' ?_ ?_ | apply Gv | apply Ix | exact Le.rfl' _ | (refine Le.pi2 ?_; intro _) | intro _)
def EC (nE : Nat) (p1 : List Nat) (x1 : List Nat) (x7 : Int) (x9 : (List (Int × Int × Int))) : (List Int × List Int × Int) → Option ((List Int × List Int × Int) ⊕ ((List Int × List Int) ⊕ (List Int)))
  | (x10, x11, x12) => (if x12 < (x9.length : Int) then ((ix x9 x12).bind fun x15 => ((ix x10 x15.2.1).bind fun x17 => (if x17 < 0 then (Ea nE p1 x1 x15.2.1 x15.2.2 x7).bind fun x18 => some x18 else some false)).bind fun x16 => (if x16 = true then (ix x10 x7).bind fun x19 => (ix x10 x15.2.1).bind fun x20 => (HV x11 ([x15.2.1] : List Int)).bind fun x21 => some ((AA x10 x15.2.1 (BH (x19 + 1))), x21) else some (x10, x11))).bind fun (x13, x14) => some (.inl (x13, x14, BH (x12 + 1))) else some (.inr (.inl (x10, x11))))
theorem Hu (nE : Nat) (p1 : List Nat) (x1 : List Nat) (x7 : Int) (x9 : (List (Int × Int × Int))) : ∀ s, Le (EC nE p1 x1 x7 x9 s) (BO p1 x1 x7 x9 s) := by
  rintro ⟨x10, x11, x12⟩
  unfold EC BO
  repeat' with_reducible (first | refine Le.orR' ?_ ?_ | refine Le.bind' ?_ ?_ | refine Le.ite' ?_ ?_ | refine Le.loop' ?_ | refine Le.altS' ?_ ?_ | apply Ga | exact Le.rfl' _ | (refine Le.pi2 ?_; intro _) | intro _)
def EJ (nE : Nat) (p0 : Int × (List (Int × Int × Int × Int × Int × Int)) × (List (Int × Int))) (p1 : List Nat) (x1 : List Nat) : (List Int × List Int) → Option ((List Int × List Int) ⊕ (List Int))
  | (x5, x6) => (if 0 < (x6.length : Int) then (ix x6 0).bind fun x7 => (E6 x6 1 (x6.length : Int)).bind fun x8 => (EQ nE p0 x7).bind fun x9 => Dc nE (EC nE p1 x1 x7 x9) (x5, x8, 0) else some (.inr x5))
theorem HH (nE : Nat) (p0 : Int × (List (Int × Int × Int × Int × Int × Int)) × (List (Int × Int))) (p1 : List Nat) (x1 : List Nat) : ∀ s, Le (EJ nE p0 p1 x1 s) (BX p0 p1 x1 s) := by
  rintro ⟨x5, x6⟩
  unfold EJ BX
  repeat' with_reducible (first | refine Le.orR' ?_ ?_ | refine Le.bind' ?_ ?_ | refine Le.ite' ?_ ?_ | refine Le.loop' ?_ | refine Le.altS' ?_ ?_ | apply F9 | apply Hu | exact Le.rfl' _ | (refine Le.pi2 ?_; intro _) | intro _)
def FE (nE : Nat) (p0 : Int × (List (Int × Int × Int × Int × Int × Int)) × (List (Int × Int))) (p1 : List Nat) (p2 : Int) : Option (List Int) := (EK nE p0 p1 p2).bind fun x1 => (if x1.length = 0 then some ([] : List Int) else (CP nE ([(-1)] : List Int) p0.1).bind fun x2 => (ix x2 p2).bind fun x3 => (Dc nE (EJ nE p0 p1 x1) ((AA x2 p2 0), ([p2] : List Int))).bind fun x4 => some x4)
theorem I3 (nE : Nat) (p0 : Int × (List (Int × Int × Int × Int × Int × Int)) × (List (Int × Int))) (p1 : List Nat) (p2 : Int) : Le (FE nE p0 p1 p2) (CY p0 p1 p2) := by
  unfold FE CY
  repeat' with_reducible (first | refine Le.orR' ?_ ?_ | refine Le.bind' ?_ ?_ | refine Le.ite' ?_ ?_ | refine Le.loop' ?_ | refine Le.altS' ?_ ?_ | apply Gt | apply FC | apply HH | exact Le.rfl' _ | (refine Le.pi2 ?_; intro _) | intro _)
def ER (nE : Nat) (p1 : List Nat) (x3 : List Nat) (x4 : List Int) (x7 : Int) (x12 : (List (Int × Int × Int))) : (Int × Int) → Option ((Int × Int) ⊕ Int)
  | (x13, x14) => (if x14 < (x12.length : Int) then ((ix x12 x14).bind fun x16 => (if x13 < 0 then (ix x4 x16.2.1).bind fun x18 => (ix x4 x7).bind fun x19 => (if x18 = (BH (x19 - 1)) then (Ea nE p1 x3 x7 x16.2.2 x16.2.1).bind fun x20 => some x20 else some false) else some false).bind fun x17 => (if x17 = true then some x16.1 else some x13)).bind fun x15 => some (.inl (x15, BH (x14 + 1))) else some (.inr x13))
theorem Ii (nE : Nat) (p1 : List Nat) (x3 : List Nat) (x4 : List Int) (x7 : Int) (x12 : (List (Int × Int × Int))) : ∀ s, Le (ER nE p1 x3 x4 x7 x12 s) (BW p1 x3 x4 x7 x12 s) := by
  rintro ⟨x13, x14⟩
  unfold ER BW
  repeat' with_reducible (first | refine Le.orR' ?_ ?_ | refine Le.bind' ?_ ?_ | refine Le.ite' ?_ ?_ | refine Le.loop' ?_ | refine Le.altS' ?_ ?_ | apply Ga | exact Le.rfl' _ | (refine Le.pi2 ?_; intro _) | intro _)
def EU (nE : Nat) (p0 : Int × (List (Int × Int × Int × Int × Int × Int)) × (List (Int × Int))) (p1 : List Nat) (p2 : Int) (x2 : Int × Int) (x3 : List Nat) (x4 : List Int) : (List Int × Int) → Option ((List Int × Int) ⊕ (List Int))
  | (x6, x7) => (if x7 < p0.1 then ((if x7 = x2.1 then (ix p0.2.2 p2).bind fun x10 => some x10.2 else some (-1)).bind fun x9 => ((EQ nE p0 x7).bind fun x12 => Dc nE (ER nE p1 x3 x4 x7 x12) (x9, 0)).bind fun x11 => (HV x6 ([x11] : List Int)).bind fun x21 => some x21).bind fun x8 => some (.inl (x8, BH (x7 + 1))) else some (.inr x6))
theorem Ic (nE : Nat) (p0 : Int × (List (Int × Int × Int × Int × Int × Int)) × (List (Int × Int))) (p1 : List Nat) (p2 : Int) (x2 : Int × Int) (x3 : List Nat) (x4 : List Int) : ∀ s, Le (EU nE p0 p1 p2 x2 x3 x4 s) (Cm p0 p1 p2 x2 x3 x4 s) := by
  rintro ⟨x6, x7⟩
  unfold EU Cm
  repeat' with_reducible (first | refine Le.orR' ?_ ?_ | refine Le.bind' ?_ ?_ | refine Le.ite' ?_ ?_ | refine Le.loop' ?_ | refine Le.altS' ?_ ?_ | apply F9 | apply Ii | exact Le.rfl' _ | (refine Le.pi2 ?_; intro _) | intro _)
def F0 (nE : Nat) (p0 : Int × (List (Int × Int × Int × Int × Int × Int)) × (List (Int × Int))) (p1 : List Nat) (p2 : Int) : Option (List Int × Int) := (DP nE p0 p1).bind fun x1 => (if (!x1) = true then some (([] : List Int), 2) else (if (decide (p2 < 0) || decide ((p0.2.2.length : Int) ≤ p2)) = true then some (([] : List Int), 7) else (ix p0.2.2 p2).bind fun x2 => (EK nE p0 p1 x2.1).bind fun x3 => (FE nE p0 p1 x2.1).bind fun x4 => (Dc nE (EU nE p0 p1 p2 x2 x3 x4) ([], 0)).bind fun x5 => some (x5, 0)))
theorem JL (nE : Nat) (p0 : Int × (List (Int × Int × Int × Int × Int × Int)) × (List (Int × Int))) (p1 : List Nat) (p2 : Int) : Le (F0 nE p0 p1 p2) (Dq p0 p1 p2) := by
  unfold F0 Dq
  repeat' with_reducible (first | refine Le.orR' ?_ ?_ | refine Le.bind' ?_ ?_ | refine Le.ite' ?_ ?_ | refine Le.loop' ?_ | refine Le.altS' ?_ ?_ | apply Fh | apply Gt | apply I3 | apply Ic | exact Le.rfl' _ | (refine Le.pi2 ?_; intro _) | intro _)
def Er (nE : Nat) (x7 : List Int × Int) : ((List (Nat × List Int)) × Int) → Option (((List (Nat × List Int)) × Int) ⊕ ((List (Nat × List Int)) ⊕ (((List (Nat × List Int)) × Int) ⊕ ((List (Nat × List Int)) ⊕ ((List (Nat × List Int)) × Int)))))
  | (x8, x9) => (if x9 < (x7.1.length : Int) then (ix x7.1 x9).bind fun x10 => (if x10 < 0 then some (.inr (.inr (.inr (.inr (([] : List (Nat × List Int)), 7))))) else (ix x8 x9).bind fun x11 => (Pv x11.1).bind fun x12 => (HV x11.2 ([x10] : List Int)).bind fun x13 => (ix (AA x8 x9 (0, [])) x9).bind fun x14 => (ix (AA x8 x9 (0, [])) x9).bind fun x15 => some (.inl ((AA (AA x8 x9 (0, [])) x9 (2, x13)), BH (x9 + 1)))) else some (.inr (.inl x8)))
theorem Ho (nE : Nat) (x7 : List Int × Int) : ∀ s, Le (Er nE x7 s) (DQ x7 s) := by
  rintro ⟨x8, x9⟩
  unfold Er DQ
  repeat' with_reducible (first | refine Le.orR' ?_ ?_ | refine Le.bind' ?_ ?_ | refine Le.ite' ?_ ?_ | refine Le.loop' ?_ | refine Le.altS' ?_ ?_ | exact Le.rfl' _ | (refine Le.pi2 ?_; intro _) | intro _)
def El (nE : Nat) (p0 : Int × (List (Int × Int × Int × Int × Int × Int)) × (List (Int × Int))) (p1 : List Nat) : ((List (Nat × List Int)) × Int) → Option (((List (Nat × List Int)) × Int) ⊕ ((List (Nat × List Int)) ⊕ ((List (Nat × List Int)) × Int)))
  | (x4, x5) => (if x5 < (p0.2.2.length : Int) then IW ((F0 nE p0 p1 x5).bind fun x7 => Dc nE (Er nE x7) (x4, 0)) fun x6 => some (.inl (x6, BH (x5 + 1))) else some (.inr (.inl x4)))
theorem Hl (nE : Nat) (p0 : Int × (List (Int × Int × Int × Int × Int × Int)) × (List (Int × Int))) (p1 : List Nat) : ∀ s, Le (El nE p0 p1 s) (DR p0 p1 s) := by
  rintro ⟨x4, x5⟩
  unfold El DR
  repeat' with_reducible (first | refine Le.orR' ?_ ?_ | refine Le.bind' ?_ ?_ | refine Le.ite' ?_ ?_ | refine Le.loop' ?_ | refine Le.altS' ?_ ?_ | apply JL | apply Ho | exact Le.rfl' _ | (refine Le.pi2 ?_; intro _) | intro _)
def Fk (nE : Nat) (p0 : Int × (List (Int × Int × Int × Int × Int × Int)) × (List (Int × Int))) (p1 : List Nat) : Option ((List (Nat × List Int)) × Int) := (DP nE p0 p1).bind fun x1 => (if (!x1) = true then some (([] : List (Nat × List Int)), 2) else (mk p0.1 ((2, []) : Nat × List Int)).bind fun x2 => IW (Dc nE (El nE p0 p1) (x2, 0)) fun x3 => some (x3, 0))
theorem IK (nE : Nat) (p0 : Int × (List (Int × Int × Int × Int × Int × Int)) × (List (Int × Int))) (p1 : List Nat) : Le (Fk nE p0 p1) (Eb p0 p1) := by
  unfold Fk Eb
  repeat' with_reducible (first | refine Le.orR' ?_ ?_ | refine Le.bind' ?_ ?_ | refine Le.ite' ?_ ?_ | refine Le.loop' ?_ | refine Le.altS' ?_ ?_ | apply Fh | apply Hl | exact Le.rfl' _ | (refine Le.pi2 ?_; intro _) | intro _)
def Iq (nE : Nat)  : Option Bool := (Fk nE (3, ([(0, 0, 1, 0, 1, 1), (0, 1, 2, 0, 1, 1), (2, 1, 1, 1, 1, 1)] : List (Int × Int × Int × Int × Int × Int)), ([(1, 5)] : List (Int × Int))) ([4613937818241073152, 4607182418800017408, 4607182418800017408] : List Nat)).bind fun x1 => (if x1.2 = 0 then (if (x1.1.length : Int) = 3 then (ix x1.1 0).bind fun x3 => (ix x3.2 0).bind fun x4 => (LI x3.1).bind fun x5 => (if x4 = 1 then (ix x1.1 1).bind fun x6 => (ix x6.2 0).bind fun x7 => (LI x6.1).bind fun x8 => (if x7 = 5 then (ix x1.1 2).bind fun x9 => (ix x9.2 0).bind fun x10 => (LI x9.1).bind fun x11 => some (decide (x10 = 1)) else some false) else some false) else some false) else some false).bind fun x2 => some x2
theorem KF (nE : Nat)  : Le (Iq nE ) (D3 ) := by
  unfold Iq D3
  repeat' with_reducible (first | refine Le.orR' ?_ ?_ | refine Le.bind' ?_ ?_ | refine Le.ite' ?_ ?_ | refine Le.loop' ?_ | refine Le.altS' ?_ ?_ | apply IK | exact Le.rfl' _ | (refine Le.pi2 ?_; intro _) | intro _)
theorem Fs : D3 = some true := KF 60 _ (by kernel_rfl)
end Go.Proofs.Ytbogijdfacoccaa
