/- Twins with fuel of FD functions: what a twin answers, the function answers. Conditions: none. -/
import Derived.Test.YtbogijdfacoccaacLP
import Derived.Test.YtbogijdfacoccaacA6
namespace Go.Proofs.Ytbogijdfacoccaa
open Go Go.RowKit
set_option linter.unusedVariables false
set_option linter.unusedSimpArgs false
set_option maxRecDepth 20000
set_option maxHeartbeats 1600000
abbrev Le {α : Type} (a b : Option α) : Prop := ∀ r, a = some r → b = some r
theorem Le.rfl' {α : Type} (a : Option α) : Le a a := fun _ h => h
theorem Le.bind' {α β : Type} {a b : Option α} {f g : α → Option β} (h : Le a b) (hf : ∀ x, Le (f x) (g x)) : Le (a.bind f) (b.bind g) := fun r e => by
  obtain ⟨x, h1, h2⟩ := Al e
  rw [h x h1, Option.bind_some]; exact hf x r h2
theorem Le.ite' {α : Type} {c : Prop} [Decidable c] {a a' b b' : Option α} (h1 : Le a a') (h2 : Le b b') : Le (if c then a else b) (if c then a' else b') := fun r e => by
  by_cases h : c
  · rw [if_pos h] at e ⊢; exact h1 r e
  · rw [if_neg h] at e ⊢; exact h2 r e
theorem Le.orR' {α β : Type} {a b : Option (α ⊕ β)} {f g : α → Option β} (h : Le a b) (hf : ∀ x, Le (f x) (g x)) : Le (Ii a f) (Ii b g) :=
  Le.bind' h fun x => by
    cases x with
    | inl t => exact hf t
    | inr e => exact Le.rfl' _
def C1 {σ ε : Type} (n : Nat) (step : σ → Option (σ ⊕ ε)) (s : σ) : Option ε := Er step n s
theorem Iy {σ ε : Type} {S T : σ → Option (σ ⊕ ε)} (h : ∀ s, Le (S s) (T s)) : ∀ (n : Nat) (s : σ), Le (Er S n s) (Er T n s)
  | 0, s => Le.rfl' _
  | n + 1, s => fun r e => by
    unfold Er at e ⊢
    cases hs : S s with
    | none => rw [hs] at e; cases e
    | some q =>
      rw [hs] at e; rw [h s q hs]
      cases q with
      | inl s' => exact Iy h n s' r e
      | inr _ => exact e
theorem Le.loop' {σ ε : Type} {n : Nat} {S T : σ → Option (σ ⊕ ε)} {s : σ} (h : ∀ s, Le (S s) (T s)) : Le (C1 n S s) (AM T s) := fun r e => EQ.2 ⟨n, Iy h n s r e⟩
theorem Le.pi2 {α β γ : Type} {f g : α × β → Option γ} (h : ∀ a b, Le (f (a, b)) (g (a, b))) : ∀ x, Le (f x) (g x) := fun x => h x.1 x.2
theorem Le.altS' {α β γ : Type} {y : α ⊕ β} {f f' : α → Option γ} {g g' : β → Option γ} (h : ∀ x, Le (f x) (f' x)) (k : ∀ x, Le (g x) (g' x)) : Le (Qj y f g) (Qj y f' g') := by
  cases y with
  | inl x => exact h x
  | inr x => exact k x
def Eb (nE : Nat) (p0 : Int × (List (Int × Int × Int × Int × Int × Int)) × (List (Int × Int))) : ((List (Int × Int)) × Int) → Option (((List (Int × Int)) × Int) ⊕ (List (Int × Int)))
  | (x2, x3) => (if x3 < (p0.2.1.length : Int) then (ix p0.2.1 x3).bind fun x4 => (Hs x2 ([(x4.1, x4.2.1), (x4.2.2.1, x4.2.2.2.1)] : List (Int × Int))).bind fun x5 => some (.inl (x5, BN (x3 + 1))) else some (.inr x2))
theorem GY (nE : Nat) (p0 : Int × (List (Int × Int × Int × Int × Int × Int)) × (List (Int × Int))) : ∀ s, Le (Eb nE p0 s) (B7 p0 s) := by
  rintro ⟨x2, x3⟩
  unfold Eb B7
  repeat' with_reducible (first | refine Le.orR' ?_ ?_ | refine Le.bind' ?_ ?_ | refine Le.ite' ?_ ?_ | refine Le.loop' ?_ | refine Le.altS' ?_ ?_ | exact Le.rfl' _ | (refine Le.pi2 ?_; intro _) | intro _)
def El (nE : Nat) (p0 : Int × (List (Int × Int × Int × Int × Int × Int)) × (List (Int × Int))) : ((List (Int × Int)) × Int) → Option (((List (Int × Int)) × Int) ⊕ (List (Int × Int)))
  | (x7, x8) => (if x8 < (p0.2.2.length : Int) then (ix p0.2.2 x8).bind fun x9 => (Hs x7 ([x9] : List (Int × Int))).bind fun x10 => some (.inl (x10, BN (x8 + 1))) else some (.inr x7))
theorem GP (nE : Nat) (p0 : Int × (List (Int × Int × Int × Int × Int × Int)) × (List (Int × Int))) : ∀ s, Le (El nE p0 s) (B8 p0 s) := by
  rintro ⟨x7, x8⟩
  unfold El B8
  repeat' with_reducible (first | refine Le.orR' ?_ ?_ | refine Le.bind' ?_ ?_ | refine Le.ite' ?_ ?_ | refine Le.loop' ?_ | refine Le.altS' ?_ ?_ | exact Le.rfl' _ | (refine Le.pi2 ?_; intro _) | intro _)
def Ff (nE : Nat) (p0 : Int × (List (Int × Int × Int × Int × Int × Int)) × (List (Int × Int))) : Option (List (Int × Int)) := (C1 nE (Eb nE p0) ([], 0)).bind fun x1 => (C1 nE (El nE p0) (x1, 0)).bind fun x6 => some x6
theorem IW (nE : Nat) (p0 : Int × (List (Int × Int × Int × Int × Int × Int)) × (List (Int × Int))) : Le (Ff nE p0) (Db p0) := by
  unfold Ff Db
  repeat' with_reducible (first | refine Le.orR' ?_ ?_ | refine Le.bind' ?_ ?_ | refine Le.ite' ?_ ?_ | refine Le.loop' ?_ | refine Le.altS' ?_ ?_ | apply GY | apply GP | exact Le.rfl' _ | (refine Le.pi2 ?_; intro _) | intro _)
def Bj (nE : Nat) (p0 : List (Int × Int × Int × Int × Int × Int)) : Int → Option (Int ⊕ (Unit ⊕ Int))
  | x1 => (if x1 < (p0.length : Int) then (ix p0 x1).bind fun x2 => (if (A8 x2) = true then some (.inr (.inr x1)) else some (.inl (BN (x1 + 1)))) else some (.inr (.inl ())))
theorem CZ (nE : Nat) (p0 : List (Int × Int × Int × Int × Int × Int)) : ∀ s, Le (Bj nE p0 s) (Ay p0 s) := by
  intro x1
  unfold Bj Ay
  repeat' with_reducible (first | refine Le.orR' ?_ ?_ | refine Le.bind' ?_ ?_ | refine Le.ite' ?_ ?_ | refine Le.loop' ?_ | refine Le.altS' ?_ ?_ | exact Le.rfl' _ | (refine Le.pi2 ?_; intro _) | intro _)
def Bx (nE : Nat) (p0 : List (Int × Int × Int × Int × Int × Int)) : Option Int := Ii (C1 nE (Bj nE p0) 0) fun _ => some (-1)
theorem Dh (nE : Nat) (p0 : List (Int × Int × Int × Int × Int × Int)) : Le (Bx nE p0) (A1 p0) := by
  unfold Bx A1
  repeat' with_reducible (first | refine Le.orR' ?_ ?_ | refine Le.bind' ?_ ?_ | refine Le.ite' ?_ ?_ | refine Le.loop' ?_ | refine Le.altS' ?_ ?_ | apply CZ | exact Le.rfl' _ | (refine Le.pi2 ?_; intro _) | intro _)
def Bi (nE : Nat) (p0 : List (Int × Int × Int × Int × Int × Int)) : Option Bool := (Bx nE p0).bind fun x1 => some (decide (0 ≤ x1))
theorem CY (nE : Nat) (p0 : List (Int × Int × Int × Int × Int × Int)) : Le (Bi nE p0) (AK p0) := by
  unfold Bi AK
  repeat' with_reducible (first | refine Le.orR' ?_ ?_ | refine Le.bind' ?_ ?_ | refine Le.ite' ?_ ?_ | refine Le.loop' ?_ | refine Le.altS' ?_ ?_ | apply Dh | exact Le.rfl' _ | (refine Le.pi2 ?_; intro _) | intro _)
def EC (nE : Nat) (p0 : Int × (List (Int × Int × Int × Int × Int × Int)) × (List (Int × Int))) (x2 : (List (Int × Int))) : (Int × (List ((Int × Int) × Unit))) → Option ((Int × (List ((Int × Int) × Unit))) ⊕ ((List ((Int × Int) × Unit)) ⊕ Bool))
  | (x3, x4) => (if x3 < (x2.length : Int) then (ix x2 x3).bind fun x5 => (if (decide (x5.1 < 0) || (decide (p0.1 ≤ x5.1) || (decide (x5.2 < 0) || decide (8 ≤ x5.2)))) = true then some (.inr (.inr false)) else (if ((Hv x4 x5).isSome) = true then some (.inr (.inr false)) else some (.inl (BN (x3 + 1), HB x4 x5 ())))) else some (.inr (.inl x4)))
theorem HE (nE : Nat) (p0 : Int × (List (Int × Int × Int × Int × Int × Int)) × (List (Int × Int))) (x2 : (List (Int × Int))) : ∀ s, Le (EC nE p0 x2 s) (BG p0 x2 s) := by
  rintro ⟨x3, x4⟩
  unfold EC BG
  repeat' with_reducible (first | refine Le.orR' ?_ ?_ | refine Le.bind' ?_ ?_ | refine Le.ite' ?_ ?_ | refine Le.loop' ?_ | refine Le.altS' ?_ ?_ | exact Le.rfl' _ | (refine Le.pi2 ?_; intro _) | intro _)
def FE (nE : Nat) (p0 : Int × (List (Int × Int × Int × Int × Int × Int)) × (List (Int × Int))) : Option Bool := (if (decide (p0.1 < 1) || (decide (8 < p0.1) || (decide (24 < (p0.2.1.length : Int)) || decide (8 < (p0.2.2.length : Int))))) = true then some false else Ii ((Ff nE p0).bind fun x2 => C1 nE (EC nE p0 x2) (0, ([] : List ((Int × Int) × Unit)))) fun x1 => (Bi nE p0.2.1).bind fun x6 => some (!x6))
theorem Jj (nE : Nat) (p0 : Int × (List (Int × Int × Int × Int × Int × Int)) × (List (Int × Int))) : Le (FE nE p0) (DE p0) := by
  unfold FE DE
  repeat' with_reducible (first | refine Le.orR' ?_ ?_ | refine Le.bind' ?_ ?_ | refine Le.ite' ?_ ?_ | refine Le.loop' ?_ | refine Le.altS' ?_ ?_ | apply IW | apply CY | apply HE | exact Le.rfl' _ | (refine Le.pi2 ?_; intro _) | intro _)
def Ek (nE : Nat) (p0 : List Nat) : Int → Option (Int ⊕ (Unit ⊕ Bool))
  | x1 => (if x1 < (p0.length : Int) then (ix p0 x1).bind fun x2 => (if (!(Cy x2)) = true then some (.inr (.inr false)) else some (.inl (BN (x1 + 1)))) else some (.inr (.inl ())))
theorem GX (nE : Nat) (p0 : List Nat) : ∀ s, Le (Ek nE p0 s) (Cj p0 s) := by
  intro x1
  unfold Ek Cj
  repeat' with_reducible (first | refine Le.orR' ?_ ?_ | refine Le.bind' ?_ ?_ | refine Le.ite' ?_ ?_ | refine Le.loop' ?_ | refine Le.altS' ?_ ?_ | exact Le.rfl' _ | (refine Le.pi2 ?_; intro _) | intro _)
def Fg (nE : Nat) (p0 : List Nat) (p1 : Int) : Option Bool := (if (p0.length : Int) ≠ p1 then some false else Ii (C1 nE (Ek nE p0) 0) fun _ => some true)
theorem IY (nE : Nat) (p0 : List Nat) (p1 : Int) : Le (Fg nE p0 p1) (C6 p0 p1) := by
  unfold Fg C6
  repeat' with_reducible (first | refine Le.orR' ?_ ?_ | refine Le.bind' ?_ ?_ | refine Le.ite' ?_ ?_ | refine Le.loop' ?_ | refine Le.altS' ?_ ?_ | apply GX | exact Le.rfl' _ | (refine Le.pi2 ?_; intro _) | intro _)
def Dm (nE : Nat) (p0 : Int × (List (Int × Int × Int × Int × Int × Int)) × (List (Int × Int))) (p1 : List Nat) : Option Bool := ((FE nE p0).bind fun x2 => (if x2 = true then (Fg nE p1 (p0.2.1.length : Int)).bind fun x3 => some x3 else some false)).bind fun x1 => some x1
theorem E4 (nE : Nat) (p0 : Int × (List (Int × Int × Int × Int × Int × Int)) × (List (Int × Int))) (p1 : List Nat) : Le (Dm nE p0 p1) (Cr p0 p1) := by
  unfold Dm Cr
  repeat' with_reducible (first | refine Le.orR' ?_ ?_ | refine Le.bind' ?_ ?_ | refine Le.ite' ?_ ?_ | refine Le.loop' ?_ | refine Le.altS' ?_ ?_ | apply Jj | apply IY | exact Le.rfl' _ | (refine Le.pi2 ?_; intro _) | intro _)
def ET (nE : Nat) (p0 : Int) : Option Nat := (if 0 ≤ p0 then some 9218868437227405312 else some 18442240474082181120).bind fun x1 => some (Int.toNat x1)
theorem Ge (nE : Nat) (p0 : Int) : Le (ET nE p0) (CV p0) := by
  unfold ET CV
  repeat' with_reducible (first | refine Le.orR' ?_ ?_ | refine Le.bind' ?_ ?_ | refine Le.ite' ?_ ?_ | refine Le.loop' ?_ | refine Le.altS' ?_ ?_ | exact Le.rfl' _ | (refine Le.pi2 ?_; intro _) | intro _)
def BI (nE : Nat)  : (List Nat × Int) → Option ((List Nat × Int) ⊕ (List Nat))
  | (x3, x4) => (if x4 < (x3.length : Int) then (EM x3 x4 (x3.length : Int)).bind fun x5 => (EM x3 0 x4).bind fun x6 => some (.inl (I3 x3 x4 (min x6.length x5.length) x6, BN (x4 + ((min x6.length x5.length : Nat) : Int)))) else some (.inr x3))
theorem Ds (nE : Nat)  : ∀ s, Le (BI nE  s) (AS  s) := by
  rintro ⟨x3, x4⟩
  unfold BI AS
  repeat' with_reducible (first | refine Le.orR' ?_ ?_ | refine Le.bind' ?_ ?_ | refine Le.ite' ?_ ?_ | refine Le.loop' ?_ | refine Le.altS' ?_ ?_ | exact Le.rfl' _ | (refine Le.pi2 ?_; intro _) | intro _)
def BT (nE : Nat) (p0 : List Nat) (p1 : Int) : Option (List Nat) := (if p1 < 0 then none else (if (decide (0 < ((Ap (IntKind.u64.wrap (p0.length : Int)) (IntKind.u64.wrap p1)).1)) || decide (9223372036854775807 < ((Ap (IntKind.u64.wrap (p0.length : Int)) (IntKind.u64.wrap p1)).2))) = true then none else (mk (BN ((Ap (IntKind.u64.wrap (p0.length : Int)) (IntKind.u64.wrap p1)).2)) (0 : Nat)).bind fun x1 => (C1 nE (BI nE) (I3 x1 0 (min p0.length x1.length) p0, ((min p0.length x1.length : Nat) : Int))).bind fun x2 => some x2))
theorem DZ (nE : Nat) (p0 : List Nat) (p1 : Int) : Le (BT nE p0 p1) (AL p0 p1) := by
  unfold BT AL
  repeat' with_reducible (first | refine Le.orR' ?_ ?_ | refine Le.bind' ?_ ?_ | refine Le.ite' ?_ ?_ | refine Le.loop' ?_ | refine Le.altS' ?_ ?_ | apply Ds | exact Le.rfl' _ | (refine Le.pi2 ?_; intro _) | intro _)
def DY (nE : Nat) (p0 : Int) : Option Int := (if 4294967296 ≤ p0 then some (Ga .u64 p0 32, 32) else some (p0, 0)).bind fun (x1, x2) => (if 65536 ≤ x1 then some (Ga .u64 x1 16, BN (x2 + 16)) else some (x1, x2)).bind fun (x3, x4) => (if 256 ≤ x3 then some (Ga .u64 x3 8, BN (x4 + 8)) else some (x3, x4)).bind fun (x5, x6) => (ix ([0, 1, 2, 2, 3, 3, 3, 3, 4, 4, 4, 4, 4, 4, 4, 4, 5, 5, 5, 5, 5, 5, 5, 5, 5, 5, 5, 5, 5, 5, 5, 5, 6, 6, 6, 6, 6, 6, 6, 6, 6, 6, 6, 6, 6, 6, 6, 6, 6, 6, 6, 6, 6, 6, 6, 6, 6, 6, 6, 6, 6, 6, 6, 6, 7, 7, 7, 7, 7, 7, 7, 7, 7, 7, 7, 7, 7, 7, 7, 7, 7, 7, 7, 7, 7, 7, 7, 7, 7, 7, 7, 7, 7, 7, 7, 7, 7, 7, 7, 7, 7, 7, 7, 7, 7, 7, 7, 7, 7, 7, 7, 7, 7, 7, 7, 7, 7, 7, 7, 7, 7, 7, 7, 7, 7, 7, 7, 7, 8, 8, 8, 8, 8, 8, 8, 8, 8, 8, 8, 8, 8, 8, 8, 8, 8, 8, 8, 8, 8, 8, 8, 8, 8, 8, 8, 8, 8, 8, 8, 8, 8, 8, 8, 8, 8, 8, 8, 8, 8, 8, 8, 8, 8, 8, 8, 8, 8, 8, 8, 8, 8, 8, 8, 8, 8, 8, 8, 8, 8, 8, 8, 8, 8, 8, 8, 8, 8, 8, 8, 8, 8, 8, 8, 8, 8, 8, 8, 8, 8, 8, 8, 8, 8, 8, 8, 8, 8, 8, 8, 8, 8, 8, 8, 8, 8, 8, 8, 8, 8, 8, 8, 8, 8, 8, 8, 8, 8, 8, 8, 8, 8, 8, 8, 8, 8, 8, 8, 8, 8, 8, 8, 8, 8, 8, 8, 8] : List UInt8) (IntKind.u8.wrap x5)).bind fun x7 => some (BN (x6 + (BN (x7.toNat : Int))))
theorem GD (nE : Nat) (p0 : Int) : Le (DY nE p0) (CT p0) := by
  unfold DY CT
  repeat' with_reducible (first | refine Le.orR' ?_ ?_ | refine Le.bind' ?_ ?_ | refine Le.ite' ?_ ?_ | refine Le.loop' ?_ | refine Le.altS' ?_ ?_ | exact Le.rfl' _ | (refine Le.pi2 ?_; intro _) | intro _)
def Dy (nE : Nat) (p0 : Int) : Option Int := (DY nE p0).bind fun x1 => some x1
theorem Fp (nE : Nat) (p0 : Int) : Le (Dy nE p0) (Cg p0) := by
  unfold Dy Cg
  repeat' with_reducible (first | refine Le.orR' ?_ ?_ | refine Le.bind' ?_ ?_ | refine Le.ite' ?_ ?_ | refine Le.loop' ?_ | refine Le.altS' ?_ ?_ | apply GD | exact Le.rfl' _ | (refine Le.pi2 ?_; intro _) | intro _)
def EJ (nE : Nat) (p0 : Nat) (p1 : Int) : Option Bool := (if p1 = 0 then some (Gf p0) else (if p1 < 0 then some (Op.negFloat .f64 p0) else some p0)).bind fun x1 => some (Nb x1 9218868437227405311)
theorem I8 (nE : Nat) (p0 : Nat) (p1 : Int) : Le (EJ nE p0 p1) (Cv p0 p1) := by
  unfold EJ Cv
  repeat' with_reducible (first | refine Le.orR' ?_ ?_ | refine Le.bind' ?_ ?_ | refine Le.ite' ?_ ?_ | refine Le.loop' ?_ | refine Le.altS' ?_ ?_ | exact Le.rfl' _ | (refine Le.pi2 ?_; intro _) | intro _)
def Fd (nE : Nat) (p0 : Nat) : Option Int := (if (BZ p0) = true then some 0 else (EJ nE p0 (-1)).bind fun x1 => (if x1 = true then some 1 else (if (Kr p0 0) = true then some 2 else (EJ nE p0 1).bind fun x2 => (if x2 = true then some 6 else (if (Nb p0 0) = true then some 5 else (if (CS p0) = true then some 3 else some 4))))))
theorem Ir (nE : Nat) (p0 : Nat) : Le (Fd nE p0) (C9 p0) := by
  unfold Fd C9
  repeat' with_reducible (first | refine Le.orR' ?_ ?_ | refine Le.bind' ?_ ?_ | refine Le.ite' ?_ ?_ | refine Le.loop' ?_ | refine Le.altS' ?_ ?_ | apply I8 | exact Le.rfl' _ | (refine Le.pi2 ?_; intro _) | intro _)
def EO (nE : Nat) (p0 : Nat) : Option Int := (Fd nE p0).bind fun x1 => (if x1 ≠ 0 then some x1 else some 7)
theorem Jb (nE : Nat) (p0 : Nat) : Le (EO nE p0) (C7 p0) := by
  unfold EO C7
  repeat' with_reducible (first | refine Le.orR' ?_ ?_ | refine Le.bind' ?_ ?_ | refine Le.ite' ?_ ?_ | refine Le.loop' ?_ | refine Le.altS' ?_ ?_ | apply Ir | exact Le.rfl' _ | (refine Le.pi2 ?_; intro _) | intro _)
def EF (nE : Nat) (p0 : Nat) (p1 : Nat) : Option Int := (EO nE p0).bind fun x1 => (EO nE p1).bind fun x2 => (if x1 < x2 then some (-1) else (if x2 < x1 then some 1 else (if (Kr p0 p1) = true then some (-1) else (if (Nb p0 p1) = true then some 1 else some 0))))
theorem Hz (nE : Nat) (p0 : Nat) (p1 : Nat) : Le (EF nE p0 p1) (Cw p0 p1) := by
  unfold EF Cw
  repeat' with_reducible (first | refine Le.orR' ?_ ?_ | refine Le.bind' ?_ ?_ | refine Le.ite' ?_ ?_ | refine Le.loop' ?_ | refine Le.altS' ?_ ?_ | apply Jb | exact Le.rfl' _ | (refine Le.pi2 ?_; intro _) | intro _)
def EB (nE : Nat) (p0 : Int) (p1 : Int) (p2 : List Nat) : Option Int := (ix p2 p0).bind fun x1 => (ix p2 p1).bind fun x2 => (EF nE x1 x2).bind fun x3 => some x3
theorem HC (nE : Nat) (p0 : Int) (p1 : Int) (p2 : List Nat) : Le (EB nE p0 p1 p2) (Cx p0 p1 p2) := by
  unfold EB Cx
  repeat' with_reducible (first | refine Le.orR' ?_ ?_ | refine Le.bind' ?_ ?_ | refine Le.ite' ?_ ?_ | refine Le.loop' ?_ | refine Le.altS' ?_ ?_ | apply Hz | exact Le.rfl' _ | (refine Le.pi2 ?_; intro _) | intro _)
def Bv (nE : Nat) (p1 : Int) (p3c0 : List Nat) : (List Int × Int) → Option ((List Int × Int) ⊕ (List Int))
  | (x4, x5) => (if p1 < x5 then (ix x4 x5).bind fun x7 => (ix x4 (BN (x5 - 1))).bind fun x8 => (EB nE x7 x8 p3c0).bind fun x9 => some (decide (x9 < 0)) else some false).bind fun x6 => (if x6 = true then (ix x4 (BN (x5 - 1))).bind fun x10 => (ix x4 x5).bind fun x11 => (ix x4 x5).bind fun x12 => (ix (AA x4 x5 x10) (BN (x5 - 1))).bind fun x13 => some (.inl ((AA (AA x4 x5 x10) (BN (x5 - 1)) x11), BN (x5 - 1))) else some (.inr x4))
theorem Dd (nE : Nat) (p1 : Int) (p3c0 : List Nat) : ∀ s, Le (Bv nE p1 p3c0 s) (AP p1 p3c0 s) := by
  rintro ⟨x4, x5⟩
  unfold Bv AP
  repeat' with_reducible (first | refine Le.orR' ?_ ?_ | refine Le.bind' ?_ ?_ | refine Le.ite' ?_ ?_ | refine Le.loop' ?_ | refine Le.altS' ?_ ?_ | apply HC | exact Le.rfl' _ | (refine Le.pi2 ?_; intro _) | intro _)
def Bu (nE : Nat) (p1 : Int) (p2 : Int) (p3c0 : List Nat) : (List Int × Int) → Option ((List Int × Int) ⊕ (List Int))
  | (x1, x2) => (if x2 < p2 then (C1 nE (Bv nE p1 p3c0) (x1, x2)).bind fun x3 => some (.inl (x3, BN (x2 + 1))) else some (.inr x1))
theorem Df (nE : Nat) (p1 : Int) (p2 : Int) (p3c0 : List Nat) : ∀ s, Le (Bu nE p1 p2 p3c0 s) (AH p1 p2 p3c0 s) := by
  rintro ⟨x1, x2⟩
  unfold Bu AH
  repeat' with_reducible (first | refine Le.orR' ?_ ?_ | refine Le.bind' ?_ ?_ | refine Le.ite' ?_ ?_ | refine Le.loop' ?_ | refine Le.altS' ?_ ?_ | apply Dd | exact Le.rfl' _ | (refine Le.pi2 ?_; intro _) | intro _)
def BM (nE : Nat) (p0 : List Int) (p1 : Int) (p2 : Int) (p3c0 : List Nat) : Option (List Int) := C1 nE (Bu nE p1 p2 p3c0) (p0, BN (p1 + 1))
theorem DB (nE : Nat) (p0 : List Int) (p1 : Int) (p2 : Int) (p3c0 : List Nat) : Le (BM nE p0 p1 p2 p3c0) (A2 p0 p1 p2 p3c0) := by
  unfold BM A2
  repeat' with_reducible (first | refine Le.orR' ?_ ?_ | refine Le.bind' ?_ ?_ | refine Le.ite' ?_ ?_ | refine Le.loop' ?_ | refine Le.altS' ?_ ?_ | apply Df | exact Le.rfl' _ | (refine Le.pi2 ?_; intro _) | intro _)
def BV (nE : Nat) (p0 : List Int) (p1 : Int) (p2 : Int) (p4c0 : List Nat) : Unit → Option (Unit ⊕ (List Int))
  | _ => (if (BN (p2 - p1)) ≤ 12 then (BM nE p0 p1 p2 p4c0).bind fun x1 => some (.inr x1) else none)
theorem D8 (nE : Nat) (p0 : List Int) (p1 : Int) (p2 : Int) (p4c0 : List Nat) : ∀ s, Le (BV nE p0 p1 p2 p4c0 s) (Bf p0 p1 p2 p4c0 s) := by
  intro s
  unfold BV Bf
  repeat' with_reducible (first | refine Le.orR' ?_ ?_ | refine Le.bind' ?_ ?_ | refine Le.ite' ?_ ?_ | refine Le.loop' ?_ | refine Le.altS' ?_ ?_ | apply DB | exact Le.rfl' _ | (refine Le.pi2 ?_; intro _) | intro _)
def Cc (nE : Nat) (p0 : List Int) (p1 : Int) (p2 : Int) (p3 : Int) (p4c0 : List Nat) : Option (List Int) := C1 nE (BV nE p0 p1 p2 p4c0) ()
theorem EE (nE : Nat) (p0 : List Int) (p1 : Int) (p2 : Int) (p3 : Int) (p4c0 : List Nat) : Le (Cc nE p0 p1 p2 p3 p4c0) (A6 p0 p1 p2 p3 p4c0) := by
  unfold Cc A6
  repeat' with_reducible (first | refine Le.orR' ?_ ?_ | refine Le.bind' ?_ ?_ | refine Le.ite' ?_ ?_ | refine Le.loop' ?_ | refine Le.altS' ?_ ?_ | apply D8 | exact Le.rfl' _ | (refine Le.pi2 ?_; intro _) | intro _)
def Cm (nE : Nat) (p0 : List Int) (p1c0 : List Nat) : Option (List Int) := (Dy nE (IntKind.u64.wrap (p0.length : Int))).bind fun x1 => (Cc nE p0 0 (p0.length : Int) x1 p1c0).bind fun x2 => some x2
theorem E2 (nE : Nat) (p0 : List Int) (p1c0 : List Nat) : Le (Cm nE p0 p1c0) (Bb p0 p1c0) := by
  unfold Cm Bb
  repeat' with_reducible (first | refine Le.orR' ?_ ?_ | refine Le.bind' ?_ ?_ | refine Le.ite' ?_ ?_ | refine Le.loop' ?_ | refine Le.altS' ?_ ?_ | apply Fp | apply EE | exact Le.rfl' _ | (refine Le.pi2 ?_; intro _) | intro _)
def Bd (nE : Nat) (p1 : Int) : ((List (Int × Int × Int)) × Int) → Option (((List (Int × Int × Int)) × Int) ⊕ (List (Int × Int × Int)))
  | (x4, x5) => (if p1 < x5 then (ix x4 x5).bind fun x7 => (ix x4 (BN (x5 - 1))).bind fun x8 => some (decide ((DI x7 x8) < 0)) else some false).bind fun x6 => (if x6 = true then (ix x4 (BN (x5 - 1))).bind fun x9 => (ix x4 x5).bind fun x10 => (ix x4 x5).bind fun x11 => (ix (AA x4 x5 x9) (BN (x5 - 1))).bind fun x12 => some (.inl ((AA (AA x4 x5 x9) (BN (x5 - 1)) x10), BN (x5 - 1))) else some (.inr x4))
theorem CK (nE : Nat) (p1 : Int) : ∀ s, Le (Bd nE p1 s) (AE p1 s) := by
  rintro ⟨x4, x5⟩
  unfold Bd AE
  repeat' with_reducible (first | refine Le.orR' ?_ ?_ | refine Le.bind' ?_ ?_ | refine Le.ite' ?_ ?_ | refine Le.loop' ?_ | refine Le.altS' ?_ ?_ | exact Le.rfl' _ | (refine Le.pi2 ?_; intro _) | intro _)
def Bc (nE : Nat) (p1 : Int) (p2 : Int) : ((List (Int × Int × Int)) × Int) → Option (((List (Int × Int × Int)) × Int) ⊕ (List (Int × Int × Int)))
  | (x1, x2) => (if x2 < p2 then (C1 nE (Bd nE p1) (x1, x2)).bind fun x3 => some (.inl (x3, BN (x2 + 1))) else some (.inr x1))
theorem CL (nE : Nat) (p1 : Int) (p2 : Int) : ∀ s, Le (Bc nE p1 p2 s) (AD p1 p2 s) := by
  rintro ⟨x1, x2⟩
  unfold Bc AD
  repeat' with_reducible (first | refine Le.orR' ?_ ?_ | refine Le.bind' ?_ ?_ | refine Le.ite' ?_ ?_ | refine Le.loop' ?_ | refine Le.altS' ?_ ?_ | apply CK | exact Le.rfl' _ | (refine Le.pi2 ?_; intro _) | intro _)
def Bk (nE : Nat) (p0 : List (Int × Int × Int)) (p1 : Int) (p2 : Int) : Option (List (Int × Int × Int)) := C1 nE (Bc nE p1 p2) (p0, BN (p1 + 1))
theorem CX (nE : Nat) (p0 : List (Int × Int × Int)) (p1 : Int) (p2 : Int) : Le (Bk nE p0 p1 p2) (AR p0 p1 p2) := by
  unfold Bk AR
  repeat' with_reducible (first | refine Le.orR' ?_ ?_ | refine Le.bind' ?_ ?_ | refine Le.ite' ?_ ?_ | refine Le.loop' ?_ | refine Le.altS' ?_ ?_ | apply CL | exact Le.rfl' _ | (refine Le.pi2 ?_; intro _) | intro _)
def Bw (nE : Nat) (p0 : List (Int × Int × Int)) (p1 : Int) (p2 : Int) : Unit → Option (Unit ⊕ (List (Int × Int × Int)))
  | _ => (if (BN (p2 - p1)) ≤ 12 then (Bk nE p0 p1 p2).bind fun x1 => some (.inr x1) else none)
theorem Dk (nE : Nat) (p0 : List (Int × Int × Int)) (p1 : Int) (p2 : Int) : ∀ s, Le (Bw nE p0 p1 p2 s) (A5 p0 p1 p2 s) := by
  intro s
  unfold Bw A5
  repeat' with_reducible (first | refine Le.orR' ?_ ?_ | refine Le.bind' ?_ ?_ | refine Le.ite' ?_ ?_ | refine Le.loop' ?_ | refine Le.altS' ?_ ?_ | apply CX | exact Le.rfl' _ | (refine Le.pi2 ?_; intro _) | intro _)
def BK (nE : Nat) (p0 : List (Int × Int × Int)) (p1 : Int) (p2 : Int) (p3 : Int) : Option (List (Int × Int × Int)) := C1 nE (Bw nE p0 p1 p2) ()
theorem DC (nE : Nat) (p0 : List (Int × Int × Int)) (p1 : Int) (p2 : Int) (p3 : Int) : Le (BK nE p0 p1 p2 p3) (AY p0 p1 p2 p3) := by
  unfold BK AY
  repeat' with_reducible (first | refine Le.orR' ?_ ?_ | refine Le.bind' ?_ ?_ | refine Le.ite' ?_ ?_ | refine Le.loop' ?_ | refine Le.altS' ?_ ?_ | apply Dk | exact Le.rfl' _ | (refine Le.pi2 ?_; intro _) | intro _)
def Bp (nE : Nat) (p0 : List (Int × Int × Int)) : Option (List (Int × Int × Int)) := (Dy nE (IntKind.u64.wrap (p0.length : Int))).bind fun x1 => (BK nE p0 0 (p0.length : Int) x1).bind fun x2 => some x2
theorem Dc (nE : Nat) (p0 : List (Int × Int × Int)) : Le (Bp nE p0) (AN p0) := by
  unfold Bp AN
  repeat' with_reducible (first | refine Le.orR' ?_ ?_ | refine Le.bind' ?_ ?_ | refine Le.ite' ?_ ?_ | refine Le.loop' ?_ | refine Le.altS' ?_ ?_ | apply Fp | apply DC | exact Le.rfl' _ | (refine Le.pi2 ?_; intro _) | intro _)
def EX (nE : Nat) (p0 : Int × (List (Int × Int × Int × Int × Int × Int)) × (List (Int × Int))) (p1 : Int) : ((List (Int × Int × Int)) × Int) → Option (((List (Int × Int × Int)) × Int) ⊕ (List (Int × Int × Int)))
  | (x2, x3) => (if x3 < (p0.2.1.length : Int) then ((ix p0.2.1 x3).bind fun x5 => (if p1 = x5.1 then (Hs x2 ([(x5.2.1, x5.2.2.1, x3)] : List (Int × Int × Int))).bind fun x6 => some x6 else (if p1 = x5.2.2.1 then (Hs x2 ([(x5.2.2.2.1, x5.1, x3)] : List (Int × Int × Int))).bind fun x7 => some x7 else some x2))).bind fun x4 => some (.inl (x4, BN (x3 + 1))) else some (.inr x2))
theorem H5 (nE : Nat) (p0 : Int × (List (Int × Int × Int × Int × Int × Int)) × (List (Int × Int))) (p1 : Int) : ∀ s, Le (EX nE p0 p1 s) (Cq p0 p1 s) := by
  rintro ⟨x2, x3⟩
  unfold EX Cq
  repeat' with_reducible (first | refine Le.orR' ?_ ?_ | refine Le.bind' ?_ ?_ | refine Le.ite' ?_ ?_ | refine Le.loop' ?_ | refine Le.altS' ?_ ?_ | exact Le.rfl' _ | (refine Le.pi2 ?_; intro _) | intro _)
def Ep (nE : Nat) (p0 : Int × (List (Int × Int × Int × Int × Int × Int)) × (List (Int × Int))) (p1 : Int) : Option (List (Int × Int × Int)) := (C1 nE (EX nE p0 p1) ([], 0)).bind fun x1 => (Bp nE x1).bind fun x8 => some x8
theorem FJ (nE : Nat) (p0 : Int × (List (Int × Int × Int × Int × Int × Int)) × (List (Int × Int))) (p1 : Int) : Le (Ep nE p0 p1) (CG p0 p1) := by
  unfold Ep CG
  repeat' with_reducible (first | refine Le.orR' ?_ ?_ | refine Le.bind' ?_ ?_ | refine Le.ite' ?_ ?_ | refine Le.loop' ?_ | refine Le.altS' ?_ ?_ | apply Dc | apply H5 | exact Le.rfl' _ | (refine Le.pi2 ?_; intro _) | intro _)
def FH (nE : Nat) (p0 : List Nat) (p1 : Int) : Option Bool := (if (B2 p0 p1) = true then (ix p0 p1).bind fun x2 => (ET nE 1).bind fun x3 => some (Kr x2 x3) else some false).bind fun x1 => some x1
theorem HS (nE : Nat) (p0 : List Nat) (p1 : Int) : Le (FH nE p0 p1) (Dv p0 p1) := by
  unfold FH Dv
  repeat' with_reducible (first | refine Le.orR' ?_ ?_ | refine Le.bind' ?_ ?_ | refine Le.ite' ?_ ?_ | refine Le.loop' ?_ | refine Le.altS' ?_ ?_ | apply Ge | exact Le.rfl' _ | (refine Le.pi2 ?_; intro _) | intro _)
def Ei (nE : Nat) (p2 : Int) (x4 : List Nat) : (List Int × Int) → Option ((List Int × Int) ⊕ (List Int))
  | (x7, x8) => (if x8 < ((AA x4 p2 0).length : Int) then (Hs x7 ([x8] : List Int)).bind fun x9 => some (.inl (x9, BN (x8 + 1))) else some (.inr x7))
theorem Hl (nE : Nat) (p2 : Int) (x4 : List Nat) : ∀ s, Le (Ei nE p2 x4 s) (B3 p2 x4 s) := by
  rintro ⟨x7, x8⟩
  unfold Ei B3
  repeat' with_reducible (first | refine Le.orR' ?_ ?_ | refine Le.bind' ?_ ?_ | refine Le.ite' ?_ ?_ | refine Le.loop' ?_ | refine Le.altS' ?_ ?_ | exact Le.rfl' _ | (refine Le.pi2 ?_; intro _) | intro _)
def Ec (nE : Nat) (p1 : List Nat) (x13 : List Int) (x14 : Int) (x16 : (List (Int × Int × Int))) : (Int × List Nat) → Option ((Int × List Nat) ⊕ ((List Int × List Nat) ⊕ (List Nat)))
  | (x17, x18) => (if x17 < (x16.length : Int) then ((ix x16 x17).bind fun x20 => (FH nE p1 x20.2.2).bind fun x21 => (if x21 = true then (ix x18 x20.2.1).bind fun x22 => (ix p1 x20.2.2).bind fun x23 => (ix x18 x14).bind fun x24 => (IC x22 (A4 x23 x24)).bind fun x25 => (ix x18 x20.2.1).bind fun x26 => some (AA x18 x20.2.1 x25) else some x18)).bind fun x19 => some (.inl (BN (x17 + 1), x19)) else (EM x13 1 (x13.length : Int)).bind fun x27 => some (.inr (.inl (x27, x18))))
theorem Hn (nE : Nat) (p1 : List Nat) (x13 : List Int) (x14 : Int) (x16 : (List (Int × Int × Int))) : ∀ s, Le (Ec nE p1 x13 x14 x16 s) (BC p1 x13 x14 x16 s) := by
  rintro ⟨x17, x18⟩
  unfold Ec BC
  repeat' with_reducible (first | refine Le.orR' ?_ ?_ | refine Le.bind' ?_ ?_ | refine Le.ite' ?_ ?_ | refine Le.loop' ?_ | refine Le.altS' ?_ ?_ | apply HS | exact Le.rfl' _ | (refine Le.pi2 ?_; intro _) | intro _)
def Ej (nE : Nat) (p0 : Int × (List (Int × Int × Int × Int × Int × Int)) × (List (Int × Int))) (p1 : List Nat) : (List Int × List Nat) → Option ((List Int × List Nat) ⊕ (List Nat))
  | (x11, x12) => (if 0 < (x11.length : Int) then (Cm nE x11 x12).bind fun x13 => (ix x13 0).bind fun x14 => (EM x13 1 (x13.length : Int)).bind fun x15 => (Ep nE p0 x14).bind fun x16 => C1 nE (Ec nE p1 x13 x14 x16) (0, x12) else some (.inr x12))
theorem GS (nE : Nat) (p0 : Int × (List (Int × Int × Int × Int × Int × Int)) × (List (Int × Int))) (p1 : List Nat) : ∀ s, Le (Ej nE p0 p1 s) (B4 p0 p1 s) := by
  rintro ⟨x11, x12⟩
  unfold Ej B4
  repeat' with_reducible (first | refine Le.orR' ?_ ?_ | refine Le.bind' ?_ ?_ | refine Le.ite' ?_ ?_ | refine Le.loop' ?_ | refine Le.altS' ?_ ?_ | apply E2 | apply FJ | apply Hn | exact Le.rfl' _ | (refine Le.pi2 ?_; intro _) | intro _)
def En (nE : Nat) (p0 : Int × (List (Int × Int × Int × Int × Int × Int)) × (List (Int × Int))) (p1 : List Nat) (p2 : Int) : Option (List Nat) := ((Dm nE p0 p1).bind fun x2 => (if (!x2) = true then some true else (if p2 < 0 then some true else some (decide (p0.1 ≤ p2))))).bind fun x1 => (if x1 = true then some ([] : List Nat) else (ET nE 1).bind fun x3 => (BT nE ([x3] : List Nat) p0.1).bind fun x4 => (ix x4 p2).bind fun x5 => (C1 nE (Ei nE p2 x4) ([], 0)).bind fun x6 => (C1 nE (Ej nE p0 p1) (x6, (AA x4 p2 0))).bind fun x10 => (Qu x10).bind fun x28 => some x10)
theorem Gc (nE : Nat) (p0 : Int × (List (Int × Int × Int × Int × Int × Int)) × (List (Int × Int))) (p1 : List Nat) (p2 : Int) : Le (En nE p0 p1 p2) (B6 p0 p1 p2) := by
  unfold En B6
  repeat' with_reducible (first | refine Le.orR' ?_ ?_ | refine Le.bind' ?_ ?_ | refine Le.ite' ?_ ?_ | refine Le.loop' ?_ | refine Le.altS' ?_ ?_ | apply E4 | apply Ge | apply DZ | apply Hl | apply GS | exact Le.rfl' _ | (refine Le.pi2 ?_; intro _) | intro _)
def Ci (nE : Nat)  : (List Int × Int) → Option ((List Int × Int) ⊕ (List Int))
  | (x3, x4) => (if x4 < (x3.length : Int) then (EM x3 x4 (x3.length : Int)).bind fun x5 => (EM x3 0 x4).bind fun x6 => some (.inl (I3 x3 x4 (min x6.length x5.length) x6, BN (x4 + ((min x6.length x5.length : Nat) : Int)))) else some (.inr x3))
theorem EL (nE : Nat)  : ∀ s, Le (Ci nE  s) (B1  s) := by
  rintro ⟨x3, x4⟩
  unfold Ci B1
  repeat' with_reducible (first | refine Le.orR' ?_ ?_ | refine Le.bind' ?_ ?_ | refine Le.ite' ?_ ?_ | refine Le.loop' ?_ | refine Le.altS' ?_ ?_ | exact Le.rfl' _ | (refine Le.pi2 ?_; intro _) | intro _)
def CE (nE : Nat) (p0 : List Int) (p1 : Int) : Option (List Int) := (if p1 < 0 then none else (if (decide (0 < ((Ap (IntKind.u64.wrap (p0.length : Int)) (IntKind.u64.wrap p1)).1)) || decide (9223372036854775807 < ((Ap (IntKind.u64.wrap (p0.length : Int)) (IntKind.u64.wrap p1)).2))) = true then none else (mk (BN ((Ap (IntKind.u64.wrap (p0.length : Int)) (IntKind.u64.wrap p1)).2)) (0 : Int)).bind fun x1 => (C1 nE (Ci nE) (I3 x1 0 (min p0.length x1.length) p0, ((min p0.length x1.length : Nat) : Int))).bind fun x2 => some x2))
theorem Fj (nE : Nat) (p0 : List Int) (p1 : Int) : Le (CE nE p0 p1) (BU p0 p1) := by
  unfold CE BU
  repeat' with_reducible (first | refine Le.orR' ?_ ?_ | refine Le.bind' ?_ ?_ | refine Le.ite' ?_ ?_ | refine Le.loop' ?_ | refine Le.altS' ?_ ?_ | apply EL | exact Le.rfl' _ | (refine Le.pi2 ?_; intro _) | intro _)
def D0 (nE : Nat) (p0 : List Nat) (p1 : List Nat) (p2 : Int) (p3 : Int) (p4 : Int) : Option Bool := ((FH nE p0 p3).bind fun x2 => (if x2 = true then (ix p1 p2).bind fun x3 => (ET nE 1).bind fun x4 => (if (Kr x3 x4) = true then (ix p0 p3).bind fun x5 => (ix p1 p4).bind fun x6 => (ix p1 p2).bind fun x7 => some (JP (A4 x5 x6) x7) else some false) else some false)).bind fun x1 => some x1
theorem FT (nE : Nat) (p0 : List Nat) (p1 : List Nat) (p2 : Int) (p3 : Int) (p4 : Int) : Le (D0 nE p0 p1 p2 p3 p4) (Dj p0 p1 p2 p3 p4) := by
  unfold D0 Dj
  repeat' with_reducible (first | refine Le.orR' ?_ ?_ | refine Le.bind' ?_ ?_ | refine Le.ite' ?_ ?_ | refine Le.loop' ?_ | refine Le.altS' ?_ ?_ | apply Ge | apply HS | exact Le.rfl' _ | (refine Le.pi2 ?_; intro _) | intro _)
def Ee (nE : Nat) (p1 : List Nat) (x1 : List Nat) (x7 : Int) (x9 : (List (Int × Int × Int))) : (List Int × List Int × Int) → Option ((List Int × List Int × Int) ⊕ ((List Int × List Int) ⊕ (List Int)))
  | (x10, x11, x12) => (if x12 < (x9.length : Int) then ((ix x9 x12).bind fun x15 => ((ix x10 x15.2.1).bind fun x17 => (if x17 < 0 then (D0 nE p1 x1 x15.2.1 x15.2.2 x7).bind fun x18 => some x18 else some false)).bind fun x16 => (if x16 = true then (ix x10 x7).bind fun x19 => (ix x10 x15.2.1).bind fun x20 => (Hs x11 ([x15.2.1] : List Int)).bind fun x21 => some ((AA x10 x15.2.1 (BN (x19 + 1))), x21) else some (x10, x11))).bind fun (x13, x14) => some (.inl (x13, x14, BN (x12 + 1))) else some (.inr (.inl (x10, x11))))
theorem GZ (nE : Nat) (p1 : List Nat) (x1 : List Nat) (x7 : Int) (x9 : (List (Int × Int × Int))) : ∀ s, Le (Ee nE p1 x1 x7 x9 s) (DV p1 x1 x7 x9 s) := by
  rintro ⟨x10, x11, x12⟩
  unfold Ee DV
  repeat' with_reducible (first | refine Le.orR' ?_ ?_ | refine Le.bind' ?_ ?_ | refine Le.ite' ?_ ?_ | refine Le.loop' ?_ | refine Le.altS' ?_ ?_ | apply FT | exact Le.rfl' _ | (refine Le.pi2 ?_; intro _) | intro _)
def Ef (nE : Nat) (p0 : Int × (List (Int × Int × Int × Int × Int × Int)) × (List (Int × Int))) (p1 : List Nat) (x1 : List Nat) : (List Int × List Int) → Option ((List Int × List Int) ⊕ (List Int))
  | (x5, x6) => (if 0 < (x6.length : Int) then (ix x6 0).bind fun x7 => (EM x6 1 (x6.length : Int)).bind fun x8 => (Ep nE p0 x7).bind fun x9 => C1 nE (Ee nE p1 x1 x7 x9) (x5, x8, 0) else some (.inr x5))
theorem Hk (nE : Nat) (p0 : Int × (List (Int × Int × Int × Int × Int × Int)) × (List (Int × Int))) (p1 : List Nat) (x1 : List Nat) : ∀ s, Le (Ef nE p0 p1 x1 s) (D5 p0 p1 x1 s) := by
  rintro ⟨x5, x6⟩
  unfold Ef D5
  repeat' with_reducible (first | refine Le.orR' ?_ ?_ | refine Le.bind' ?_ ?_ | refine Le.ite' ?_ ?_ | refine Le.loop' ?_ | refine Le.altS' ?_ ?_ | apply FJ | apply GZ | exact Le.rfl' _ | (refine Le.pi2 ?_; intro _) | intro _)
def Fe (nE : Nat) (p0 : Int × (List (Int × Int × Int × Int × Int × Int)) × (List (Int × Int))) (p1 : List Nat) (p2 : Int) : Option (List Int) := (En nE p0 p1 p2).bind fun x1 => (if x1.length = 0 then some ([] : List Int) else (CE nE ([(-1)] : List Int) p0.1).bind fun x2 => (ix x2 p2).bind fun x3 => (C1 nE (Ef nE p0 p1 x1) ((AA x2 p2 0), ([p2] : List Int))).bind fun x4 => some x4)
theorem I1 (nE : Nat) (p0 : Int × (List (Int × Int × Int × Int × Int × Int)) × (List (Int × Int))) (p1 : List Nat) (p2 : Int) : Le (Fe nE p0 p1 p2) (DK p0 p1 p2) := by
  unfold Fe DK
  repeat' with_reducible (first | refine Le.orR' ?_ ?_ | refine Le.bind' ?_ ?_ | refine Le.ite' ?_ ?_ | refine Le.loop' ?_ | refine Le.altS' ?_ ?_ | apply Gc | apply Fj | apply Hk | exact Le.rfl' _ | (refine Le.pi2 ?_; intro _) | intro _)
def EA (nE : Nat) (p1 : List Nat) (x3 : List Nat) (x4 : List Int) (x7 : Int) (x12 : (List (Int × Int × Int))) : (Int × Int) → Option ((Int × Int) ⊕ Int)
  | (x13, x14) => (if x14 < (x12.length : Int) then ((ix x12 x14).bind fun x16 => (if x13 < 0 then (ix x4 x16.2.1).bind fun x18 => (ix x4 x7).bind fun x19 => (if x18 = (BN (x19 - 1)) then (D0 nE p1 x3 x7 x16.2.2 x16.2.1).bind fun x20 => some x20 else some false) else some false).bind fun x17 => (if x17 = true then some x16.1 else some x13)).bind fun x15 => some (.inl (x15, BN (x14 + 1))) else some (.inr x13))
theorem HF (nE : Nat) (p1 : List Nat) (x3 : List Nat) (x4 : List Int) (x7 : Int) (x12 : (List (Int × Int × Int))) : ∀ s, Le (EA nE p1 x3 x4 x7 x12 s) (Em p1 x3 x4 x7 x12 s) := by
  rintro ⟨x13, x14⟩
  unfold EA Em
  repeat' with_reducible (first | refine Le.orR' ?_ ?_ | refine Le.bind' ?_ ?_ | refine Le.ite' ?_ ?_ | refine Le.loop' ?_ | refine Le.altS' ?_ ?_ | apply FT | exact Le.rfl' _ | (refine Le.pi2 ?_; intro _) | intro _)
def EH (nE : Nat) (p0 : Int × (List (Int × Int × Int × Int × Int × Int)) × (List (Int × Int))) (p1 : List Nat) (p2 : Int) (x2 : Int × Int) (x3 : List Nat) (x4 : List Int) : (List Int × Int) → Option ((List Int × Int) ⊕ (List Int))
  | (x6, x7) => (if x7 < p0.1 then ((if x7 = x2.1 then (ix p0.2.2 p2).bind fun x10 => some x10.2 else some (-1)).bind fun x9 => ((Ep nE p0 x7).bind fun x12 => C1 nE (EA nE p1 x3 x4 x7 x12) (x9, 0)).bind fun x11 => (Hs x6 ([x11] : List Int)).bind fun x21 => some x21).bind fun x8 => some (.inl (x8, BN (x7 + 1))) else some (.inr x6))
theorem HI (nE : Nat) (p0 : Int × (List (Int × Int × Int × Int × Int × Int)) × (List (Int × Int))) (p1 : List Nat) (p2 : Int) (x2 : Int × Int) (x3 : List Nat) (x4 : List Int) : ∀ s, Le (EH nE p0 p1 p2 x2 x3 x4 s) (Eo p0 p1 p2 x2 x3 x4 s) := by
  rintro ⟨x6, x7⟩
  unfold EH Eo
  repeat' with_reducible (first | refine Le.orR' ?_ ?_ | refine Le.bind' ?_ ?_ | refine Le.ite' ?_ ?_ | refine Le.loop' ?_ | refine Le.altS' ?_ ?_ | apply FJ | apply HF | exact Le.rfl' _ | (refine Le.pi2 ?_; intro _) | intro _)
def FC (nE : Nat) (p0 : Int × (List (Int × Int × Int × Int × Int × Int)) × (List (Int × Int))) (p1 : List Nat) (p2 : Int) : Option (List Int × Int) := (Dm nE p0 p1).bind fun x1 => (if (!x1) = true then some (([] : List Int), 2) else (if (decide (p2 < 0) || decide ((p0.2.2.length : Int) ≤ p2)) = true then some (([] : List Int), 7) else (ix p0.2.2 p2).bind fun x2 => (En nE p0 p1 x2.1).bind fun x3 => (Fe nE p0 p1 x2.1).bind fun x4 => (C1 nE (EH nE p0 p1 p2 x2 x3 x4) ([], 0)).bind fun x5 => some (x5, 0)))
theorem I5 (nE : Nat) (p0 : Int × (List (Int × Int × Int × Int × Int × Int)) × (List (Int × Int))) (p1 : List Nat) (p2 : Int) : Le (FC nE p0 p1 p2) (EZ p0 p1 p2) := by
  unfold FC EZ
  repeat' with_reducible (first | refine Le.orR' ?_ ?_ | refine Le.bind' ?_ ?_ | refine Le.ite' ?_ ?_ | refine Le.loop' ?_ | refine Le.altS' ?_ ?_ | apply E4 | apply Gc | apply I1 | apply HI | exact Le.rfl' _ | (refine Le.pi2 ?_; intro _) | intro _)
def DS (nE : Nat) (x7 : List Int × Int) : ((List (Nat × List Int)) × Int) → Option (((List (Nat × List Int)) × Int) ⊕ ((List (Nat × List Int)) ⊕ (((List (Nat × List Int)) × Int) ⊕ ((List (Nat × List Int)) ⊕ ((List (Nat × List Int)) × Int)))))
  | (x8, x9) => (if x9 < (x7.1.length : Int) then (ix x7.1 x9).bind fun x10 => (if x10 < 0 then some (.inr (.inr (.inr (.inr (([] : List (Nat × List Int)), 7))))) else (ix x8 x9).bind fun x11 => (OW x11.1).bind fun x12 => (Hs x11.2 ([x10] : List Int)).bind fun x13 => (ix (AA x8 x9 (0, [])) x9).bind fun x14 => (ix (AA x8 x9 (0, [])) x9).bind fun x15 => some (.inl ((AA (AA x8 x9 (0, [])) x9 (2, x13)), BN (x9 + 1)))) else some (.inr (.inl x8)))
theorem GI (nE : Nat) (x7 : List Int × Int) : ∀ s, Le (DS nE x7 s) (Dz x7 s) := by
  rintro ⟨x8, x9⟩
  unfold DS Dz
  repeat' with_reducible (first | refine Le.orR' ?_ ?_ | refine Le.bind' ?_ ?_ | refine Le.ite' ?_ ?_ | refine Le.loop' ?_ | refine Le.altS' ?_ ?_ | exact Le.rfl' _ | (refine Le.pi2 ?_; intro _) | intro _)
def D1 (nE : Nat) (p0 : Int × (List (Int × Int × Int × Int × Int × Int)) × (List (Int × Int))) (p1 : List Nat) : ((List (Nat × List Int)) × Int) → Option (((List (Nat × List Int)) × Int) ⊕ ((List (Nat × List Int)) ⊕ ((List (Nat × List Int)) × Int)))
  | (x4, x5) => (if x5 < (p0.2.2.length : Int) then Ii ((FC nE p0 p1 x5).bind fun x7 => C1 nE (DS nE x7) (x4, 0)) fun x6 => some (.inl (x6, BN (x5 + 1))) else some (.inr (.inl x4)))
theorem GJ (nE : Nat) (p0 : Int × (List (Int × Int × Int × Int × Int × Int)) × (List (Int × Int))) (p1 : List Nat) : ∀ s, Le (D1 nE p0 p1 s) (Dx p0 p1 s) := by
  rintro ⟨x4, x5⟩
  unfold D1 Dx
  repeat' with_reducible (first | refine Le.orR' ?_ ?_ | refine Le.bind' ?_ ?_ | refine Le.ite' ?_ ?_ | refine Le.loop' ?_ | refine Le.altS' ?_ ?_ | apply I5 | apply GI | exact Le.rfl' _ | (refine Le.pi2 ?_; intro _) | intro _)
def EY (nE : Nat) (p0 : Int × (List (Int × Int × Int × Int × Int × Int)) × (List (Int × Int))) (p1 : List Nat) : Option ((List (Nat × List Int)) × Int) := (Dm nE p0 p1).bind fun x1 => (if (!x1) = true then some (([] : List (Nat × List Int)), 2) else (mk p0.1 ((2, []) : Nat × List Int)).bind fun x2 => Ii (C1 nE (D1 nE p0 p1) (x2, 0)) fun x3 => some (x3, 0))
theorem Ia (nE : Nat) (p0 : Int × (List (Int × Int × Int × Int × Int × Int)) × (List (Int × Int))) (p1 : List Nat) : Le (EY nE p0 p1) (DW p0 p1) := by
  unfold EY DW
  repeat' with_reducible (first | refine Le.orR' ?_ ?_ | refine Le.bind' ?_ ?_ | refine Le.ite' ?_ ?_ | refine Le.loop' ?_ | refine Le.altS' ?_ ?_ | apply E4 | apply GJ | exact Le.rfl' _ | (refine Le.pi2 ?_; intro _) | intro _)
def HO (nE : Nat)  : Option Bool := (EY nE (3, ([(0, 0, 1, 0, 1, 1), (0, 1, 2, 0, 1, 1), (2, 1, 1, 1, 1, 1)] : List (Int × Int × Int × Int × Int × Int)), ([(1, 5)] : List (Int × Int))) ([4613937818241073152, 4607182418800017408, 4607182418800017408] : List Nat)).bind fun x1 => (if x1.2 = 0 then (if (x1.1.length : Int) = 3 then (ix x1.1 0).bind fun x3 => (ix x3.2 0).bind fun x4 => (KU x3.1).bind fun x5 => (if x4 = 1 then (ix x1.1 1).bind fun x6 => (ix x6.2 0).bind fun x7 => (KU x6.1).bind fun x8 => (if x7 = 5 then (ix x1.1 2).bind fun x9 => (ix x9.2 0).bind fun x10 => (KU x9.1).bind fun x11 => some (decide (x10 = 1)) else some false) else some false) else some false) else some false).bind fun x2 => some x2
theorem J7 (nE : Nat)  : Le (HO nE ) (Ea ) := by
  unfold HO Ea
  repeat' with_reducible (first | refine Le.orR' ?_ ?_ | refine Le.bind' ?_ ?_ | refine Le.ite' ?_ ?_ | refine Le.loop' ?_ | refine Le.altS' ?_ ?_ | apply Ia | exact Le.rfl' _ | (refine Le.pi2 ?_; intro _) | intro _)
theorem Gq : Ea = some true := J7 60 _ (by kernel_rfl)
end Go.Proofs.Ytbogijdfacoccaa
