/- Twins with fuel of FC functions: what a twin answers, the function answers. Conditions: none. -/
import Derived.Test.YtbogijdfacoccaadLP
import Derived.Test.YtbogijdfacoccaadA6
namespace Go.Proofs.Ytbogijdfacoccaa
open Go Go.RowKit
set_option linter.unusedVariables false
set_option linter.unusedSimpArgs false
set_option maxRecDepth 20000
set_option maxHeartbeats 1600000
abbrev Le {α : Type} (a b : Option α) : Prop := ∀ r, a = some r → b = some r
theorem Le.rfl' {α : Type} (a : Option α) : Le a a := fun _ h => h
theorem Le.bind' {α β : Type} {a b : Option α} {f g : α → Option β} (h : Le a b) (hf : ∀ x, Le (f x) (g x)) : Le (a.bind f) (b.bind g) := fun r e => by
  obtain ⟨x, h1, h2⟩ := Al e
  rw [h x h1, Option.bind_some]; exact hf x r h2
theorem Le.ite' {α : Type} {c : Prop} [Decidable c] {a a' b b' : Option α} (h1 : Le a a') (h2 : Le b b') : Le (if c then a else b) (if c then a' else b') := fun r e => by
  by_cases h : c
  · rw [if_pos h] at e ⊢; exact h1 r e
  · rw [if_neg h] at e ⊢; exact h2 r e
theorem Le.orR' {α β : Type} {a b : Option (α ⊕ β)} {f g : α → Option β} (h : Le a b) (hf : ∀ x, Le (f x) (g x)) : Le (Iu a f) (Iu b g) :=
  Le.bind' h fun x => by
    cases x with
    | inl t => exact hf t
    | inr e => exact Le.rfl' _
def CV {σ ε : Type} (n : Nat) (step : σ → Option (σ ⊕ ε)) (s : σ) : Option ε := Er step n s
theorem IE {σ ε : Type} {S T : σ → Option (σ ⊕ ε)} (h : ∀ s, Le (S s) (T s)) : ∀ (n : Nat) (s : σ), Le (Er S n s) (Er T n s)
  | 0, s => Le.rfl' _
  | n + 1, s => fun r e => by
    unfold Er at e ⊢
    cases hs : S s with
    | none => rw [hs] at e; cases e
    | some q =>
      rw [hs] at e; rw [h s q hs]
      cases q with
      | inl s' => exact IE h n s' r e
      | inr _ => exact e
theorem Le.loop' {σ ε : Type} {n : Nat} {S T : σ → Option (σ ⊕ ε)} {s : σ} (h : ∀ s, Le (S s) (T s)) : Le (CV n S s) (AN T s) := fun r e => ES.2 ⟨n, IE h n s r e⟩
theorem Le.pi2 {α β γ : Type} {f g : α × β → Option γ} (h : ∀ a b, Le (f (a, b)) (g (a, b))) : ∀ x, Le (f x) (g x) := fun x => h x.1 x.2
theorem Le.altS' {α β γ : Type} {y : α ⊕ β} {f f' : α → Option γ} {g g' : β → Option γ} (h : ∀ x, Le (f x) (f' x)) (k : ∀ x, Le (g x) (g' x)) : Le (Pq y f g) (Pq y f' g') := by
  cases y with
  | inl x => exact h x
  | inr x => exact k x
def Ed (nE : Nat) (p0 : Int × (List (Int × Int × Int × Int × Int × Int)) × (List (Int × Int))) : ((List (Int × Int)) × Int) → Option (((List (Int × Int)) × Int) ⊕ (List (Int × Int)))
  | (x2, x3) => (if x3 < (p0.2.1.length : Int) then (ix p0.2.1 x3).bind fun x4 => (Hm x2 ([(x4.1, x4.2.1), (x4.2.2.1, x4.2.2.2.1)] : List (Int × Int))).bind fun x5 => some (.inl (x5, BM (x3 + 1))) else some (.inr x2))
theorem Hc (nE : Nat) (p0 : Int × (List (Int × Int × Int × Int × Int × Int)) × (List (Int × Int))) : ∀ s, Le (Ed nE p0 s) (B6 p0 s) := by
  rintro ⟨x2, x3⟩
  unfold Ed B6
  repeat' with_reducible (first | refine Le.orR' ?_ ?_ | refine Le.bind' ?_ ?_ | refine Le.ite' ?_ ?_ | refine Le.loop' ?_ | refine Le.altS' ?_ ?_ | exact Le.rfl' _ | (refine Le.pi2 ?_; intro _) | intro _)
def Ec (nE : Nat) (p0 : Int × (List (Int × Int × Int × Int × Int × Int)) × (List (Int × Int))) : ((List (Int × Int)) × Int) → Option (((List (Int × Int)) × Int) ⊕ (List (Int × Int)))
  | (x7, x8) => (if x8 < (p0.2.2.length : Int) then (ix p0.2.2 x8).bind fun x9 => (Hm x7 ([x9] : List (Int × Int))).bind fun x10 => some (.inl (x10, BM (x8 + 1))) else some (.inr x7))
theorem Hd (nE : Nat) (p0 : Int × (List (Int × Int × Int × Int × Int × Int)) × (List (Int × Int))) : ∀ s, Le (Ec nE p0 s) (B1 p0 s) := by
  rintro ⟨x7, x8⟩
  unfold Ec B1
  repeat' with_reducible (first | refine Le.orR' ?_ ?_ | refine Le.bind' ?_ ?_ | refine Le.ite' ?_ ?_ | refine Le.loop' ?_ | refine Le.altS' ?_ ?_ | exact Le.rfl' _ | (refine Le.pi2 ?_; intro _) | intro _)
def Fc (nE : Nat) (p0 : Int × (List (Int × Int × Int × Int × Int × Int)) × (List (Int × Int))) : Option (List (Int × Int)) := (CV nE (Ed nE p0) ([], 0)).bind fun x1 => (CV nE (Ec nE p0) (x1, 0)).bind fun x6 => some x6
theorem IW (nE : Nat) (p0 : Int × (List (Int × Int × Int × Int × Int × Int)) × (List (Int × Int))) : Le (Fc nE p0) (C4 p0) := by
  unfold Fc C4
  repeat' with_reducible (first | refine Le.orR' ?_ ?_ | refine Le.bind' ?_ ?_ | refine Le.ite' ?_ ?_ | refine Le.loop' ?_ | refine Le.altS' ?_ ?_ | apply Hc | apply Hd | exact Le.rfl' _ | (refine Le.pi2 ?_; intro _) | intro _)
def Bk (nE : Nat) (p0 : List (Int × Int × Int × Int × Int × Int)) : Int → Option (Int ⊕ (Unit ⊕ Int))
  | x1 => (if x1 < (p0.length : Int) then (ix p0 x1).bind fun x2 => (if (A7 x2) = true then some (.inr (.inr x1)) else some (.inl (BM (x1 + 1)))) else some (.inr (.inl ())))
theorem CT (nE : Nat) (p0 : List (Int × Int × Int × Int × Int × Int)) : ∀ s, Le (Bk nE p0 s) (Ax p0 s) := by
  intro x1
  unfold Bk Ax
  repeat' with_reducible (first | refine Le.orR' ?_ ?_ | refine Le.bind' ?_ ?_ | refine Le.ite' ?_ ?_ | refine Le.loop' ?_ | refine Le.altS' ?_ ?_ | exact Le.rfl' _ | (refine Le.pi2 ?_; intro _) | intro _)
def Bw (nE : Nat) (p0 : List (Int × Int × Int × Int × Int × Int)) : Option Int := Iu (CV nE (Bk nE p0) 0) fun _ => some (-1)
theorem Dd (nE : Nat) (p0 : List (Int × Int × Int × Int × Int × Int)) : Le (Bw nE p0) (A0 p0) := by
  unfold Bw A0
  repeat' with_reducible (first | refine Le.orR' ?_ ?_ | refine Le.bind' ?_ ?_ | refine Le.ite' ?_ ?_ | refine Le.loop' ?_ | refine Le.altS' ?_ ?_ | apply CT | exact Le.rfl' _ | (refine Le.pi2 ?_; intro _) | intro _)
def Bj (nE : Nat) (p0 : List (Int × Int × Int × Int × Int × Int)) : Option Bool := (Bw nE p0).bind fun x1 => some (decide (0 ≤ x1))
theorem CU (nE : Nat) (p0 : List (Int × Int × Int × Int × Int × Int)) : Le (Bj nE p0) (AK p0) := by
  unfold Bj AK
  repeat' with_reducible (first | refine Le.orR' ?_ ?_ | refine Le.bind' ?_ ?_ | refine Le.ite' ?_ ?_ | refine Le.loop' ?_ | refine Le.altS' ?_ ?_ | apply Dd | exact Le.rfl' _ | (refine Le.pi2 ?_; intro _) | intro _)
def EG (nE : Nat) (p0 : Int × (List (Int × Int × Int × Int × Int × Int)) × (List (Int × Int))) (x2 : (List (Int × Int))) : (Int × (List ((Int × Int) × Unit))) → Option ((Int × (List ((Int × Int) × Unit))) ⊕ ((List ((Int × Int) × Unit)) ⊕ Bool))
  | (x3, x4) => (if x3 < (x2.length : Int) then (ix x2 x3).bind fun x5 => (if (decide (x5.1 < 0) || (decide (p0.1 ≤ x5.1) || (decide (x5.2 < 0) || decide (8 ≤ x5.2)))) = true then some (.inr (.inr false)) else (if ((Hy x4 x5).isSome) = true then some (.inr (.inr false)) else some (.inl (BM (x3 + 1), HB x4 x5 ())))) else some (.inr (.inl x4)))
theorem HC (nE : Nat) (p0 : Int × (List (Int × Int × Int × Int × Int × Int)) × (List (Int × Int))) (x2 : (List (Int × Int))) : ∀ s, Le (EG nE p0 x2 s) (BD p0 x2 s) := by
  rintro ⟨x3, x4⟩
  unfold EG BD
  repeat' with_reducible (first | refine Le.orR' ?_ ?_ | refine Le.bind' ?_ ?_ | refine Le.ite' ?_ ?_ | refine Le.loop' ?_ | refine Le.altS' ?_ ?_ | exact Le.rfl' _ | (refine Le.pi2 ?_; intro _) | intro _)
def FF (nE : Nat) (p0 : Int × (List (Int × Int × Int × Int × Int × Int)) × (List (Int × Int))) : Option Bool := (if (decide (p0.1 < 1) || (decide (8 < p0.1) || (decide (24 < (p0.2.1.length : Int)) || decide (8 < (p0.2.2.length : Int))))) = true then some false else Iu ((Fc nE p0).bind fun x2 => CV nE (EG nE p0 x2) (0, ([] : List ((Int × Int) × Unit)))) fun x1 => (Bj nE p0.2.1).bind fun x6 => some (!x6))
theorem I5 (nE : Nat) (p0 : Int × (List (Int × Int × Int × Int × Int × Int)) × (List (Int × Int))) : Le (FF nE p0) (Dy p0) := by
  unfold FF Dy
  repeat' with_reducible (first | refine Le.orR' ?_ ?_ | refine Le.bind' ?_ ?_ | refine Le.ite' ?_ ?_ | refine Le.loop' ?_ | refine Le.altS' ?_ ?_ | apply IW | apply CU | apply HC | exact Le.rfl' _ | (refine Le.pi2 ?_; intro _) | intro _)
def Eh (nE : Nat) (p0 : List Nat) : Int → Option (Int ⊕ (Unit ⊕ Bool))
  | x1 => (if x1 < (p0.length : Int) then (ix p0 x1).bind fun x2 => (if (!(Cv x2)) = true then some (.inr (.inr false)) else some (.inl (BM (x1 + 1)))) else some (.inr (.inl ())))
theorem G6 (nE : Nat) (p0 : List Nat) : ∀ s, Le (Eh nE p0 s) (Cg p0 s) := by
  intro x1
  unfold Eh Cg
  repeat' with_reducible (first | refine Le.orR' ?_ ?_ | refine Le.bind' ?_ ?_ | refine Le.ite' ?_ ?_ | refine Le.loop' ?_ | refine Le.altS' ?_ ?_ | exact Le.rfl' _ | (refine Le.pi2 ?_; intro _) | intro _)
def E8 (nE : Nat) (p0 : List Nat) (p1 : Int) : Option Bool := (if (p0.length : Int) ≠ p1 then some false else Iu (CV nE (Eh nE p0) 0) fun _ => some true)
theorem Iw (nE : Nat) (p0 : List Nat) (p1 : Int) : Le (E8 nE p0 p1) (C7 p0 p1) := by
  unfold E8 C7
  repeat' with_reducible (first | refine Le.orR' ?_ ?_ | refine Le.bind' ?_ ?_ | refine Le.ite' ?_ ?_ | refine Le.loop' ?_ | refine Le.altS' ?_ ?_ | apply G6 | exact Le.rfl' _ | (refine Le.pi2 ?_; intro _) | intro _)
def Dq (nE : Nat) (p0 : Int × (List (Int × Int × Int × Int × Int × Int)) × (List (Int × Int))) (p1 : List Nat) : Option Bool := ((FF nE p0).bind fun x2 => (if x2 = true then (E8 nE p1 (p0.2.1.length : Int)).bind fun x3 => some x3 else some false)).bind fun x1 => some x1
theorem E0 (nE : Nat) (p0 : Int × (List (Int × Int × Int × Int × Int × Int)) × (List (Int × Int))) (p1 : List Nat) : Le (Dq nE p0 p1) (Co p0 p1) := by
  unfold Dq Co
  repeat' with_reducible (first | refine Le.orR' ?_ ?_ | refine Le.bind' ?_ ?_ | refine Le.ite' ?_ ?_ | refine Le.loop' ?_ | refine Le.altS' ?_ ?_ | apply I5 | apply Iw | exact Le.rfl' _ | (refine Le.pi2 ?_; intro _) | intro _)
def EY (nE : Nat) (p0 : Int) : Option Nat := (if 0 ≤ p0 then some 9218868437227405312 else some 18442240474082181120).bind fun x1 => some (Int.toNat x1)
theorem F9 (nE : Nat) (p0 : Int) : Le (EY nE p0) (C9 p0) := by
  unfold EY C9
  repeat' with_reducible (first | refine Le.orR' ?_ ?_ | refine Le.bind' ?_ ?_ | refine Le.ite' ?_ ?_ | refine Le.loop' ?_ | refine Le.altS' ?_ ?_ | exact Le.rfl' _ | (refine Le.pi2 ?_; intro _) | intro _)
def BG (nE : Nat)  : (List Nat × Int) → Option ((List Nat × Int) ⊕ (List Nat))
  | (x3, x4) => (if x4 < (x3.length : Int) then (EN x3 x4 (x3.length : Int)).bind fun x5 => (EN x3 0 x4).bind fun x6 => some (.inl (I2 x3 x4 (min x6.length x5.length) x6, BM (x4 + ((min x6.length x5.length : Nat) : Int)))) else some (.inr x3))
theorem Dr (nE : Nat)  : ∀ s, Le (BG nE  s) (AR  s) := by
  rintro ⟨x3, x4⟩
  unfold BG AR
  repeat' with_reducible (first | refine Le.orR' ?_ ?_ | refine Le.bind' ?_ ?_ | refine Le.ite' ?_ ?_ | refine Le.loop' ?_ | refine Le.altS' ?_ ?_ | exact Le.rfl' _ | (refine Le.pi2 ?_; intro _) | intro _)
def BP (nE : Nat) (p0 : List Nat) (p1 : Int) : Option (List Nat) := (if p1 < 0 then none else (if (decide (0 < ((Aq (IntKind.u64.wrap (p0.length : Int)) (IntKind.u64.wrap p1)).1)) || decide (9223372036854775807 < ((Aq (IntKind.u64.wrap (p0.length : Int)) (IntKind.u64.wrap p1)).2))) = true then none else (mk (BM ((Aq (IntKind.u64.wrap (p0.length : Int)) (IntKind.u64.wrap p1)).2)) (0 : Nat)).bind fun x1 => (CV nE (BG nE) (I2 x1 0 (min p0.length x1.length) p0, ((min p0.length x1.length : Nat) : Int))).bind fun x2 => some x2))
theorem D3 (nE : Nat) (p0 : List Nat) (p1 : Int) : Le (BP nE p0 p1) (AM p0 p1) := by
  unfold BP AM
  repeat' with_reducible (first | refine Le.orR' ?_ ?_ | refine Le.bind' ?_ ?_ | refine Le.ite' ?_ ?_ | refine Le.loop' ?_ | refine Le.altS' ?_ ?_ | apply Dr | exact Le.rfl' _ | (refine Le.pi2 ?_; intro _) | intro _)
def DM (nE : Nat) (p0 : Int) : Option Int := (if 4294967296 ≤ p0 then some (FR .u64 p0 32, 32) else some (p0, 0)).bind fun (x1, x2) => (if 65536 ≤ x1 then some (FR .u64 x1 16, BM (x2 + 16)) else some (x1, x2)).bind fun (x3, x4) => (if 256 ≤ x3 then some (FR .u64 x3 8, BM (x4 + 8)) else some (x3, x4)).bind fun (x5, x6) => (ix ([0, 1, 2, 2, 3, 3, 3, 3, 4, 4, 4, 4, 4, 4, 4, 4, 5, 5, 5, 5, 5, 5, 5, 5, 5, 5, 5, 5, 5, 5, 5, 5, 6, 6, 6, 6, 6, 6, 6, 6, 6, 6, 6, 6, 6, 6, 6, 6, 6, 6, 6, 6, 6, 6, 6, 6, 6, 6, 6, 6, 6, 6, 6, 6, 7, 7, 7, 7, 7, 7, 7, 7, 7, 7, 7, 7, 7, 7, 7, 7, 7, 7, 7, 7, 7, 7, 7, 7, 7, 7, 7, 7, 7, 7, 7, 7, 7, 7, 7, 7, 7, 7, 7, 7, 7, 7, 7, 7, 7, 7, 7, 7, 7, 7, 7, 7, 7, 7, 7, 7, 7, 7, 7, 7, 7, 7, 7, 7, 8, 8, 8, 8, 8, 8, 8, 8, 8, 8, 8, 8, 8, 8, 8, 8, 8, 8, 8, 8, 8, 8, 8, 8, 8, 8, 8, 8, 8, 8, 8, 8, 8, 8, 8, 8, 8, 8, 8, 8, 8, 8, 8, 8, 8, 8, 8, 8, 8, 8, 8, 8, 8, 8, 8, 8, 8, 8, 8, 8, 8, 8, 8, 8, 8, 8, 8, 8, 8, 8, 8, 8, 8, 8, 8, 8, 8, 8, 8, 8, 8, 8, 8, 8, 8, 8, 8, 8, 8, 8, 8, 8, 8, 8, 8, 8, 8, 8, 8, 8, 8, 8, 8, 8, 8, 8, 8, 8, 8, 8, 8, 8, 8, 8, 8, 8, 8, 8, 8, 8, 8, 8, 8, 8, 8, 8, 8, 8] : List UInt8) (IntKind.u8.wrap x5)).bind fun x7 => some (BM (x6 + (BM (x7.toNat : Int))))
theorem GD (nE : Nat) (p0 : Int) : Le (DM nE p0) (CP p0) := by
  unfold DM CP
  repeat' with_reducible (first | refine Le.orR' ?_ ?_ | refine Le.bind' ?_ ?_ | refine Le.ite' ?_ ?_ | refine Le.loop' ?_ | refine Le.altS' ?_ ?_ | exact Le.rfl' _ | (refine Le.pi2 ?_; intro _) | intro _)
def Dt (nE : Nat) (p0 : Int) : Option Int := (DM nE p0).bind fun x1 => some x1
theorem Fu (nE : Nat) (p0 : Int) : Le (Dt nE p0) (Ce p0) := by
  unfold Dt Ce
  repeat' with_reducible (first | refine Le.orR' ?_ ?_ | refine Le.bind' ?_ ?_ | refine Le.ite' ?_ ?_ | refine Le.loop' ?_ | refine Le.altS' ?_ ?_ | apply GD | exact Le.rfl' _ | (refine Le.pi2 ?_; intro _) | intro _)
def EP (nE : Nat) (p0 : Nat) (p1 : Int) : Option Bool := (if p1 = 0 then some (Gf p0) else (if p1 < 0 then some (Op.negFloat .f64 p0) else some p0)).bind fun x1 => some (ML x1 9218868437227405311)
theorem Ja (nE : Nat) (p0 : Nat) (p1 : Int) : Le (EP nE p0 p1) (Cu p0 p1) := by
  unfold EP Cu
  repeat' with_reducible (first | refine Le.orR' ?_ ?_ | refine Le.bind' ?_ ?_ | refine Le.ite' ?_ ?_ | refine Le.loop' ?_ | refine Le.altS' ?_ ?_ | exact Le.rfl' _ | (refine Le.pi2 ?_; intro _) | intro _)
def Fb (nE : Nat) (p0 : Nat) : Option Int := (if (BV p0) = true then some 0 else (EP nE p0 (-1)).bind fun x1 => (if x1 = true then some 1 else (if (Kn p0 0) = true then some 2 else (EP nE p0 1).bind fun x2 => (if x2 = true then some 6 else (if (ML p0 0) = true then some 5 else (if (CL p0) = true then some 3 else some 4))))))
theorem Ic (nE : Nat) (p0 : Nat) : Le (Fb nE p0) (C1 p0) := by
  unfold Fb C1
  repeat' with_reducible (first | refine Le.orR' ?_ ?_ | refine Le.bind' ?_ ?_ | refine Le.ite' ?_ ?_ | refine Le.loop' ?_ | refine Le.altS' ?_ ?_ | apply Ja | exact Le.rfl' _ | (refine Le.pi2 ?_; intro _) | intro _)
def EL (nE : Nat) (p0 : Nat) : Option Int := (Fb nE p0).bind fun x1 => (if x1 ≠ 0 then some x1 else some 7)
theorem I6 (nE : Nat) (p0 : Nat) : Le (EL nE p0) (CY p0) := by
  unfold EL CY
  repeat' with_reducible (first | refine Le.orR' ?_ ?_ | refine Le.bind' ?_ ?_ | refine Le.ite' ?_ ?_ | refine Le.loop' ?_ | refine Le.altS' ?_ ?_ | apply Ic | exact Le.rfl' _ | (refine Le.pi2 ?_; intro _) | intro _)
def EI (nE : Nat) (p0 : Nat) (p1 : Nat) : Option Int := (EL nE p0).bind fun x1 => (EL nE p1).bind fun x2 => (if x1 < x2 then some (-1) else (if x2 < x1 then some 1 else (if (Kn p0 p1) = true then some (-1) else (if (ML p0 p1) = true then some 1 else some 0))))
theorem Hx (nE : Nat) (p0 : Nat) (p1 : Nat) : Le (EI nE p0 p1) (Cw p0 p1) := by
  unfold EI Cw
  repeat' with_reducible (first | refine Le.orR' ?_ ?_ | refine Le.bind' ?_ ?_ | refine Le.ite' ?_ ?_ | refine Le.loop' ?_ | refine Le.altS' ?_ ?_ | apply I6 | exact Le.rfl' _ | (refine Le.pi2 ?_; intro _) | intro _)
def EC (nE : Nat) (p0 : Int) (p1 : Int) (p2 : List Nat) : Option Int := (ix p2 p0).bind fun x1 => (ix p2 p1).bind fun x2 => (EI nE x1 x2).bind fun x3 => some x3
theorem HE (nE : Nat) (p0 : Int) (p1 : Int) (p2 : List Nat) : Le (EC nE p0 p1 p2) (Cy p0 p1 p2) := by
  unfold EC Cy
  repeat' with_reducible (first | refine Le.orR' ?_ ?_ | refine Le.bind' ?_ ?_ | refine Le.ite' ?_ ?_ | refine Le.loop' ?_ | refine Le.altS' ?_ ?_ | apply Hx | exact Le.rfl' _ | (refine Le.pi2 ?_; intro _) | intro _)
def Bz (nE : Nat) (p1 : Int) (p3c0 : List Nat) : (List Int × Int) → Option ((List Int × Int) ⊕ (List Int))
  | (x4, x5) => (if p1 < x5 then (ix x4 x5).bind fun x7 => (ix x4 (BM (x5 - 1))).bind fun x8 => (EC nE x7 x8 p3c0).bind fun x9 => some (decide (x9 < 0)) else some false).bind fun x6 => (if x6 = true then (ix x4 (BM (x5 - 1))).bind fun x10 => (ix x4 x5).bind fun x11 => (ix x4 x5).bind fun x12 => (ix (Au x4 x5 x10) (BM (x5 - 1))).bind fun x13 => some (.inl ((Au (Au x4 x5 x10) (BM (x5 - 1)) x11), BM (x5 - 1))) else some (.inr x4))
theorem Dg (nE : Nat) (p1 : Int) (p3c0 : List Nat) : ∀ s, Le (Bz nE p1 p3c0 s) (AP p1 p3c0 s) := by
  rintro ⟨x4, x5⟩
  unfold Bz AP
  repeat' with_reducible (first | refine Le.orR' ?_ ?_ | refine Le.bind' ?_ ?_ | refine Le.ite' ?_ ?_ | refine Le.loop' ?_ | refine Le.altS' ?_ ?_ | apply HE | exact Le.rfl' _ | (refine Le.pi2 ?_; intro _) | intro _)
def BA (nE : Nat) (p1 : Int) (p2 : Int) (p3c0 : List Nat) : (List Int × Int) → Option ((List Int × Int) ⊕ (List Int))
  | (x1, x2) => (if x2 < p2 then (CV nE (Bz nE p1 p3c0) (x1, x2)).bind fun x3 => some (.inl (x3, BM (x2 + 1))) else some (.inr x1))
theorem Dh (nE : Nat) (p1 : Int) (p2 : Int) (p3c0 : List Nat) : ∀ s, Le (BA nE p1 p2 p3c0 s) (AJ p1 p2 p3c0 s) := by
  rintro ⟨x1, x2⟩
  unfold BA AJ
  repeat' with_reducible (first | refine Le.orR' ?_ ?_ | refine Le.bind' ?_ ?_ | refine Le.ite' ?_ ?_ | refine Le.loop' ?_ | refine Le.altS' ?_ ?_ | apply Dg | exact Le.rfl' _ | (refine Le.pi2 ?_; intro _) | intro _)
def BK (nE : Nat) (p0 : List Int) (p1 : Int) (p2 : Int) (p3c0 : List Nat) : Option (List Int) := CV nE (BA nE p1 p2 p3c0) (p0, BM (p1 + 1))
theorem Dz (nE : Nat) (p0 : List Int) (p1 : Int) (p2 : Int) (p3c0 : List Nat) : Le (BK nE p0 p1 p2 p3c0) (A2 p0 p1 p2 p3c0) := by
  unfold BK A2
  repeat' with_reducible (first | refine Le.orR' ?_ ?_ | refine Le.bind' ?_ ?_ | refine Le.ite' ?_ ?_ | refine Le.loop' ?_ | refine Le.altS' ?_ ?_ | apply Dh | exact Le.rfl' _ | (refine Le.pi2 ?_; intro _) | intro _)
def BZ (nE : Nat) (p0 : List Int) (p1 : Int) (p2 : Int) (p4c0 : List Nat) : Unit → Option (Unit ⊕ (List Int))
  | _ => (if (BM (p2 - p1)) ≤ 12 then (BK nE p0 p1 p2 p4c0).bind fun x1 => some (.inr x1) else none)
theorem D5 (nE : Nat) (p0 : List Int) (p1 : Int) (p2 : Int) (p4c0 : List Nat) : ∀ s, Le (BZ nE p0 p1 p2 p4c0 s) (Be p0 p1 p2 p4c0 s) := by
  intro s
  unfold BZ Be
  repeat' with_reducible (first | refine Le.orR' ?_ ?_ | refine Le.bind' ?_ ?_ | refine Le.ite' ?_ ?_ | refine Le.loop' ?_ | refine Le.altS' ?_ ?_ | apply Dz | exact Le.rfl' _ | (refine Le.pi2 ?_; intro _) | intro _)
def Cb (nE : Nat) (p0 : List Int) (p1 : Int) (p2 : Int) (p3 : Int) (p4c0 : List Nat) : Option (List Int) := CV nE (BZ nE p0 p1 p2 p4c0) ()
theorem EB (nE : Nat) (p0 : List Int) (p1 : Int) (p2 : Int) (p3 : Int) (p4c0 : List Nat) : Le (Cb nE p0 p1 p2 p3 p4c0) (A4 p0 p1 p2 p3 p4c0) := by
  unfold Cb A4
  repeat' with_reducible (first | refine Le.orR' ?_ ?_ | refine Le.bind' ?_ ?_ | refine Le.ite' ?_ ?_ | refine Le.loop' ?_ | refine Le.altS' ?_ ?_ | apply D5 | exact Le.rfl' _ | (refine Le.pi2 ?_; intro _) | intro _)
def Ck (nE : Nat) (p0 : List Int) (p1c0 : List Nat) : Option (List Int) := (Dt nE (IntKind.u64.wrap (p0.length : Int))).bind fun x1 => (Cb nE p0 0 (p0.length : Int) x1 p1c0).bind fun x2 => some x2
theorem E1 (nE : Nat) (p0 : List Int) (p1c0 : List Nat) : Le (Ck nE p0 p1c0) (Ba p0 p1c0) := by
  unfold Ck Ba
  repeat' with_reducible (first | refine Le.orR' ?_ ?_ | refine Le.bind' ?_ ?_ | refine Le.ite' ?_ ?_ | refine Le.loop' ?_ | refine Le.altS' ?_ ?_ | apply Fu | apply EB | exact Le.rfl' _ | (refine Le.pi2 ?_; intro _) | intro _)
def Bc (nE : Nat) (p1 : Int) : ((List (Int × Int × Int)) × Int) → Option (((List (Int × Int × Int)) × Int) ⊕ (List (Int × Int × Int)))
  | (x4, x5) => (if p1 < x5 then (ix x4 x5).bind fun x7 => (ix x4 (BM (x5 - 1))).bind fun x8 => some (decide ((DE x7 x8) < 0)) else some false).bind fun x6 => (if x6 = true then (ix x4 (BM (x5 - 1))).bind fun x9 => (ix x4 x5).bind fun x10 => (ix x4 x5).bind fun x11 => (ix (Au x4 x5 x9) (BM (x5 - 1))).bind fun x12 => some (.inl ((Au (Au x4 x5 x9) (BM (x5 - 1)) x10), BM (x5 - 1))) else some (.inr x4))
theorem CJ (nE : Nat) (p1 : Int) : ∀ s, Le (Bc nE p1 s) (AE p1 s) := by
  rintro ⟨x4, x5⟩
  unfold Bc AE
  repeat' with_reducible (first | refine Le.orR' ?_ ?_ | refine Le.bind' ?_ ?_ | refine Le.ite' ?_ ?_ | refine Le.loop' ?_ | refine Le.altS' ?_ ?_ | exact Le.rfl' _ | (refine Le.pi2 ?_; intro _) | intro _)
def Bb (nE : Nat) (p1 : Int) (p2 : Int) : ((List (Int × Int × Int)) × Int) → Option (((List (Int × Int × Int)) × Int) ⊕ (List (Int × Int × Int)))
  | (x1, x2) => (if x2 < p2 then (CV nE (Bc nE p1) (x1, x2)).bind fun x3 => some (.inl (x3, BM (x2 + 1))) else some (.inr x1))
theorem CI (nE : Nat) (p1 : Int) (p2 : Int) : ∀ s, Le (Bb nE p1 p2 s) (AD p1 p2 s) := by
  rintro ⟨x1, x2⟩
  unfold Bb AD
  repeat' with_reducible (first | refine Le.orR' ?_ ?_ | refine Le.bind' ?_ ?_ | refine Le.ite' ?_ ?_ | refine Le.loop' ?_ | refine Le.altS' ?_ ?_ | apply CJ | exact Le.rfl' _ | (refine Le.pi2 ?_; intro _) | intro _)
def Bi (nE : Nat) (p0 : List (Int × Int × Int)) (p1 : Int) (p2 : Int) : Option (List (Int × Int × Int)) := CV nE (Bb nE p1 p2) (p0, BM (p1 + 1))
theorem CS (nE : Nat) (p0 : List (Int × Int × Int)) (p1 : Int) (p2 : Int) : Le (Bi nE p0 p1 p2) (AQ p0 p1 p2) := by
  unfold Bi AQ
  repeat' with_reducible (first | refine Le.orR' ?_ ?_ | refine Le.bind' ?_ ?_ | refine Le.ite' ?_ ?_ | refine Le.loop' ?_ | refine Le.altS' ?_ ?_ | apply CI | exact Le.rfl' _ | (refine Le.pi2 ?_; intro _) | intro _)
def Bx (nE : Nat) (p0 : List (Int × Int × Int)) (p1 : Int) (p2 : Int) : Unit → Option (Unit ⊕ (List (Int × Int × Int)))
  | _ => (if (BM (p2 - p1)) ≤ 12 then (Bi nE p0 p1 p2).bind fun x1 => some (.inr x1) else none)
theorem Dj (nE : Nat) (p0 : List (Int × Int × Int)) (p1 : Int) (p2 : Int) : ∀ s, Le (Bx nE p0 p1 p2 s) (A3 p0 p1 p2 s) := by
  intro s
  unfold Bx A3
  repeat' with_reducible (first | refine Le.orR' ?_ ?_ | refine Le.bind' ?_ ?_ | refine Le.ite' ?_ ?_ | refine Le.loop' ?_ | refine Le.altS' ?_ ?_ | apply CS | exact Le.rfl' _ | (refine Le.pi2 ?_; intro _) | intro _)
def BL (nE : Nat) (p0 : List (Int × Int × Int)) (p1 : Int) (p2 : Int) (p3 : Int) : Option (List (Int × Int × Int)) := CV nE (Bx nE p0 p1 p2) ()
theorem Dw (nE : Nat) (p0 : List (Int × Int × Int)) (p1 : Int) (p2 : Int) (p3 : Int) : Le (BL nE p0 p1 p2 p3) (AV p0 p1 p2 p3) := by
  unfold BL AV
  repeat' with_reducible (first | refine Le.orR' ?_ ?_ | refine Le.bind' ?_ ?_ | refine Le.ite' ?_ ?_ | refine Le.loop' ?_ | refine Le.altS' ?_ ?_ | apply Dj | exact Le.rfl' _ | (refine Le.pi2 ?_; intro _) | intro _)
def Bq (nE : Nat) (p0 : List (Int × Int × Int)) : Option (List (Int × Int × Int)) := (Dt nE (IntKind.u64.wrap (p0.length : Int))).bind fun x1 => (BL nE p0 0 (p0.length : Int) x1).bind fun x2 => some x2
theorem CZ (nE : Nat) (p0 : List (Int × Int × Int)) : Le (Bq nE p0) (AO p0) := by
  unfold Bq AO
  repeat' with_reducible (first | refine Le.orR' ?_ ?_ | refine Le.bind' ?_ ?_ | refine Le.ite' ?_ ?_ | refine Le.loop' ?_ | refine Le.altS' ?_ ?_ | apply Fu | apply Dw | exact Le.rfl' _ | (refine Le.pi2 ?_; intro _) | intro _)
def EW (nE : Nat) (p0 : Int × (List (Int × Int × Int × Int × Int × Int)) × (List (Int × Int))) (p1 : Int) : ((List (Int × Int × Int)) × Int) → Option (((List (Int × Int × Int)) × Int) ⊕ (List (Int × Int × Int)))
  | (x2, x3) => (if x3 < (p0.2.1.length : Int) then ((ix p0.2.1 x3).bind fun x5 => (if p1 = x5.1 then (Hm x2 ([(x5.2.1, x5.2.2.1, x3)] : List (Int × Int × Int))).bind fun x6 => some x6 else (if p1 = x5.2.2.1 then (Hm x2 ([(x5.2.2.2.1, x5.1, x3)] : List (Int × Int × Int))).bind fun x7 => some x7 else some x2))).bind fun x4 => some (.inl (x4, BM (x3 + 1))) else some (.inr x2))
theorem H2 (nE : Nat) (p0 : Int × (List (Int × Int × Int × Int × Int × Int)) × (List (Int × Int))) (p1 : Int) : ∀ s, Le (EW nE p0 p1 s) (Ct p0 p1 s) := by
  rintro ⟨x2, x3⟩
  unfold EW Ct
  repeat' with_reducible (first | refine Le.orR' ?_ ?_ | refine Le.bind' ?_ ?_ | refine Le.ite' ?_ ?_ | refine Le.loop' ?_ | refine Le.altS' ?_ ?_ | exact Le.rfl' _ | (refine Le.pi2 ?_; intro _) | intro _)
def Ew (nE : Nat) (p0 : Int × (List (Int × Int × Int × Int × Int × Int)) × (List (Int × Int))) (p1 : Int) : Option (List (Int × Int × Int)) := (CV nE (EW nE p0 p1) ([], 0)).bind fun x1 => (Bq nE x1).bind fun x8 => some x8
theorem Fx (nE : Nat) (p0 : Int × (List (Int × Int × Int × Int × Int × Int)) × (List (Int × Int))) (p1 : Int) : Le (Ew nE p0 p1) (CH p0 p1) := by
  unfold Ew CH
  repeat' with_reducible (first | refine Le.orR' ?_ ?_ | refine Le.bind' ?_ ?_ | refine Le.ite' ?_ ?_ | refine Le.loop' ?_ | refine Le.altS' ?_ ?_ | apply CZ | apply H2 | exact Le.rfl' _ | (refine Le.pi2 ?_; intro _) | intro _)
def FE (nE : Nat) (p0 : List Nat) (p1 : Int) : Option Bool := (if (Cr p0 p1) = true then (ix p0 p1).bind fun x2 => (EY nE 1).bind fun x3 => some (Kn x2 x3) else some false).bind fun x1 => some x1
theorem HP (nE : Nat) (p0 : List Nat) (p1 : Int) : Le (FE nE p0 p1) (DW p0 p1) := by
  unfold FE DW
  repeat' with_reducible (first | refine Le.orR' ?_ ?_ | refine Le.bind' ?_ ?_ | refine Le.ite' ?_ ?_ | refine Le.loop' ?_ | refine Le.altS' ?_ ?_ | apply F9 | exact Le.rfl' _ | (refine Le.pi2 ?_; intro _) | intro _)
def D9 (nE : Nat) (p2 : Int) (x4 : List Nat) : (List Int × Int) → Option ((List Int × Int) ⊕ (List Int))
  | (x7, x8) => (if x8 < ((Au x4 p2 0).length : Int) then (Hm x7 ([x8] : List Int)).bind fun x9 => some (.inl (x9, BM (x8 + 1))) else some (.inr x7))
theorem GR (nE : Nat) (p2 : Int) (x4 : List Nat) : ∀ s, Le (D9 nE p2 x4 s) (B3 p2 x4 s) := by
  rintro ⟨x7, x8⟩
  unfold D9 B3
  repeat' with_reducible (first | refine Le.orR' ?_ ?_ | refine Le.bind' ?_ ?_ | refine Le.ite' ?_ ?_ | refine Le.loop' ?_ | refine Le.altS' ?_ ?_ | exact Le.rfl' _ | (refine Le.pi2 ?_; intro _) | intro _)
def D7 (nE : Nat) (p1 : List Nat) (x13 : List Int) (x14 : Int) (x16 : (List (Int × Int × Int))) : (Int × List Nat) → Option ((Int × List Nat) ⊕ ((List Int × List Nat) ⊕ (List Nat)))
  | (x17, x18) => (if x17 < (x16.length : Int) then ((ix x16 x17).bind fun x20 => (FE nE p1 x20.2.2).bind fun x21 => (if x21 = true then (ix x18 x20.2.1).bind fun x22 => (ix p1 x20.2.2).bind fun x23 => (ix x18 x14).bind fun x24 => (Ih x22 (A5 x23 x24)).bind fun x25 => (ix x18 x20.2.1).bind fun x26 => some (Au x18 x20.2.1 x25) else some x18)).bind fun x19 => some (.inl (BM (x17 + 1), x19)) else (EN x13 1 (x13.length : Int)).bind fun x27 => some (.inr (.inl (x27, x18))))
theorem GH (nE : Nat) (p1 : List Nat) (x13 : List Int) (x14 : Int) (x16 : (List (Int × Int × Int))) : ∀ s, Le (D7 nE p1 x13 x14 x16 s) (BE p1 x13 x14 x16 s) := by
  rintro ⟨x17, x18⟩
  unfold D7 BE
  repeat' with_reducible (first | refine Le.orR' ?_ ?_ | refine Le.bind' ?_ ?_ | refine Le.ite' ?_ ?_ | refine Le.loop' ?_ | refine Le.altS' ?_ ?_ | apply HP | exact Le.rfl' _ | (refine Le.pi2 ?_; intro _) | intro _)
def Ei (nE : Nat) (p0 : Int × (List (Int × Int × Int × Int × Int × Int)) × (List (Int × Int))) (p1 : List Nat) : (List Int × List Nat) → Option ((List Int × List Nat) ⊕ (List Nat))
  | (x11, x12) => (if 0 < (x11.length : Int) then (Ck nE x11 x12).bind fun x13 => (ix x13 0).bind fun x14 => (EN x13 1 (x13.length : Int)).bind fun x15 => (Ew nE p0 x14).bind fun x16 => CV nE (D7 nE p1 x13 x14 x16) (0, x12) else some (.inr x12))
theorem Hf (nE : Nat) (p0 : Int × (List (Int × Int × Int × Int × Int × Int)) × (List (Int × Int))) (p1 : List Nat) : ∀ s, Le (Ei nE p0 p1 s) (B4 p0 p1 s) := by
  rintro ⟨x11, x12⟩
  unfold Ei B4
  repeat' with_reducible (first | refine Le.orR' ?_ ?_ | refine Le.bind' ?_ ?_ | refine Le.ite' ?_ ?_ | refine Le.loop' ?_ | refine Le.altS' ?_ ?_ | apply E1 | apply Fx | apply GH | exact Le.rfl' _ | (refine Le.pi2 ?_; intro _) | intro _)
def Ek (nE : Nat) (p0 : Int × (List (Int × Int × Int × Int × Int × Int)) × (List (Int × Int))) (p1 : List Nat) (p2 : Int) : Option (List Nat) := ((Dq nE p0 p1).bind fun x2 => (if (!x2) = true then some true else (if p2 < 0 then some true else some (decide (p0.1 ≤ p2))))).bind fun x1 => (if x1 = true then some ([] : List Nat) else (EY nE 1).bind fun x3 => (BP nE ([x3] : List Nat) p0.1).bind fun x4 => (ix x4 p2).bind fun x5 => (CV nE (D9 nE p2 x4) ([], 0)).bind fun x6 => (CV nE (Ei nE p0 p1) (x6, (Au x4 p2 0))).bind fun x10 => (PG x10).bind fun x28 => some x10)
theorem F4 (nE : Nat) (p0 : Int × (List (Int × Int × Int × Int × Int × Int)) × (List (Int × Int))) (p1 : List Nat) (p2 : Int) : Le (Ek nE p0 p1 p2) (B5 p0 p1 p2) := by
  unfold Ek B5
  repeat' with_reducible (first | refine Le.orR' ?_ ?_ | refine Le.bind' ?_ ?_ | refine Le.ite' ?_ ?_ | refine Le.loop' ?_ | refine Le.altS' ?_ ?_ | apply E0 | apply F9 | apply D3 | apply GR | apply Hf | exact Le.rfl' _ | (refine Le.pi2 ?_; intro _) | intro _)
def Ch (nE : Nat)  : (List Int × Int) → Option ((List Int × Int) ⊕ (List Int))
  | (x3, x4) => (if x4 < (x3.length : Int) then (EN x3 x4 (x3.length : Int)).bind fun x5 => (EN x3 0 x4).bind fun x6 => some (.inl (I2 x3 x4 (min x6.length x5.length) x6, BM (x4 + ((min x6.length x5.length : Nat) : Int)))) else some (.inr x3))
theorem ER (nE : Nat)  : ∀ s, Le (Ch nE  s) (B0  s) := by
  rintro ⟨x3, x4⟩
  unfold Ch B0
  repeat' with_reducible (first | refine Le.orR' ?_ ?_ | refine Le.bind' ?_ ?_ | refine Le.ite' ?_ ?_ | refine Le.loop' ?_ | refine Le.altS' ?_ ?_ | exact Le.rfl' _ | (refine Le.pi2 ?_; intro _) | intro _)
def CF (nE : Nat) (p0 : List Int) (p1 : Int) : Option (List Int) := (if p1 < 0 then none else (if (decide (0 < ((Aq (IntKind.u64.wrap (p0.length : Int)) (IntKind.u64.wrap p1)).1)) || decide (9223372036854775807 < ((Aq (IntKind.u64.wrap (p0.length : Int)) (IntKind.u64.wrap p1)).2))) = true then none else (mk (BM ((Aq (IntKind.u64.wrap (p0.length : Int)) (IntKind.u64.wrap p1)).2)) (0 : Int)).bind fun x1 => (CV nE (Ch nE) (I2 x1 0 (min p0.length x1.length) p0, ((min p0.length x1.length : Nat) : Int))).bind fun x2 => some x2))
theorem Ff (nE : Nat) (p0 : List Int) (p1 : Int) : Le (CF nE p0 p1) (BU p0 p1) := by
  unfold CF BU
  repeat' with_reducible (first | refine Le.orR' ?_ ?_ | refine Le.bind' ?_ ?_ | refine Le.ite' ?_ ?_ | refine Le.loop' ?_ | refine Le.altS' ?_ ?_ | apply ER | exact Le.rfl' _ | (refine Le.pi2 ?_; intro _) | intro _)
def DQ (nE : Nat) (p0 : List Nat) (p1 : List Nat) (p2 : Int) (p3 : Int) (p4 : Int) : Option Bool := ((FE nE p0 p3).bind fun x2 => (if x2 = true then (ix p1 p2).bind fun x3 => (EY nE 1).bind fun x4 => (if (Kn x3 x4) = true then (ix p0 p3).bind fun x5 => (ix p1 p4).bind fun x6 => (ix p1 p2).bind fun x7 => some (Mh (A5 x5 x6) x7) else some false) else some false)).bind fun x1 => some x1
theorem FL (nE : Nat) (p0 : List Nat) (p1 : List Nat) (p2 : Int) (p3 : Int) (p4 : Int) : Le (DQ nE p0 p1 p2 p3 p4) (Da p0 p1 p2 p3 p4) := by
  unfold DQ Da
  repeat' with_reducible (first | refine Le.orR' ?_ ?_ | refine Le.bind' ?_ ?_ | refine Le.ite' ?_ ?_ | refine Le.loop' ?_ | refine Le.altS' ?_ ?_ | apply F9 | apply HP | exact Le.rfl' _ | (refine Le.pi2 ?_; intro _) | intro _)
def Ef (nE : Nat) (p1 : List Nat) (x1 : List Nat) (x7 : Int) (x9 : (List (Int × Int × Int))) : (List Int × List Int × Int) → Option ((List Int × List Int × Int) ⊕ ((List Int × List Int) ⊕ (List Int)))
  | (x10, x11, x12) => (if x12 < (x9.length : Int) then ((ix x9 x12).bind fun x15 => ((ix x10 x15.2.1).bind fun x17 => (if x17 < 0 then (DQ nE p1 x1 x15.2.1 x15.2.2 x7).bind fun x18 => some x18 else some false)).bind fun x16 => (if x16 = true then (ix x10 x7).bind fun x19 => (ix x10 x15.2.1).bind fun x20 => (Hm x11 ([x15.2.1] : List Int)).bind fun x21 => some ((Au x10 x15.2.1 (BM (x19 + 1))), x21) else some (x10, x11))).bind fun (x13, x14) => some (.inl (x13, x14, BM (x12 + 1))) else some (.inr (.inl (x10, x11))))
theorem GN (nE : Nat) (p1 : List Nat) (x1 : List Nat) (x7 : Int) (x9 : (List (Int × Int × Int))) : ∀ s, Le (Ef nE p1 x1 x7 x9 s) (DX p1 x1 x7 x9 s) := by
  rintro ⟨x10, x11, x12⟩
  unfold Ef DX
  repeat' with_reducible (first | refine Le.orR' ?_ ?_ | refine Le.bind' ?_ ?_ | refine Le.ite' ?_ ?_ | refine Le.loop' ?_ | refine Le.altS' ?_ ?_ | apply FL | exact Le.rfl' _ | (refine Le.pi2 ?_; intro _) | intro _)
def Ej (nE : Nat) (p0 : Int × (List (Int × Int × Int × Int × Int × Int)) × (List (Int × Int))) (p1 : List Nat) (x1 : List Nat) : (List Int × List Int) → Option ((List Int × List Int) ⊕ (List Int))
  | (x5, x6) => (if 0 < (x6.length : Int) then (ix x6 0).bind fun x7 => (EN x6 1 (x6.length : Int)).bind fun x8 => (Ew nE p0 x7).bind fun x9 => CV nE (Ef nE p1 x1 x7 x9) (x5, x8, 0) else some (.inr x5))
theorem He (nE : Nat) (p0 : Int × (List (Int × Int × Int × Int × Int × Int)) × (List (Int × Int))) (p1 : List Nat) (x1 : List Nat) : ∀ s, Le (Ej nE p0 p1 x1 s) (D0 p0 p1 x1 s) := by
  rintro ⟨x5, x6⟩
  unfold Ej D0
  repeat' with_reducible (first | refine Le.orR' ?_ ?_ | refine Le.bind' ?_ ?_ | refine Le.ite' ?_ ?_ | refine Le.loop' ?_ | refine Le.altS' ?_ ?_ | apply Fx | apply GN | exact Le.rfl' _ | (refine Le.pi2 ?_; intro _) | intro _)
def Fa (nE : Nat) (p0 : Int × (List (Int × Int × Int × Int × Int × Int)) × (List (Int × Int))) (p1 : List Nat) (p2 : Int) : Option (List Int) := (Ek nE p0 p1 p2).bind fun x1 => (if x1.length = 0 then some ([] : List Int) else (CF nE ([(-1)] : List Int) p0.1).bind fun x2 => (ix x2 p2).bind fun x3 => (CV nE (Ej nE p0 p1 x1) ((Au x2 p2 0), ([p2] : List Int))).bind fun x4 => some x4)
theorem IJ (nE : Nat) (p0 : Int × (List (Int × Int × Int × Int × Int × Int)) × (List (Int × Int))) (p1 : List Nat) (p2 : Int) : Le (Fa nE p0 p1 p2) (DG p0 p1 p2) := by
  unfold Fa DG
  repeat' with_reducible (first | refine Le.orR' ?_ ?_ | refine Le.bind' ?_ ?_ | refine Le.ite' ?_ ?_ | refine Le.loop' ?_ | refine Le.altS' ?_ ?_ | apply F4 | apply Ff | apply He | exact Le.rfl' _ | (refine Le.pi2 ?_; intro _) | intro _)
def ED (nE : Nat) (p1 : List Nat) (x3 : List Nat) (x4 : List Int) (x7 : Int) (x12 : (List (Int × Int × Int))) : (Int × Int) → Option ((Int × Int) ⊕ Int)
  | (x13, x14) => (if x14 < (x12.length : Int) then ((ix x12 x14).bind fun x16 => (if x13 < 0 then (ix x4 x16.2.1).bind fun x18 => (ix x4 x7).bind fun x19 => (if x18 = (BM (x19 - 1)) then (DQ nE p1 x3 x7 x16.2.2 x16.2.1).bind fun x20 => some x20 else some false) else some false).bind fun x17 => (if x17 = true then some x16.1 else some x13)).bind fun x15 => some (.inl (x15, BM (x14 + 1))) else some (.inr x13))
theorem Hw (nE : Nat) (p1 : List Nat) (x3 : List Nat) (x4 : List Int) (x7 : Int) (x12 : (List (Int × Int × Int))) : ∀ s, Le (ED nE p1 x3 x4 x7 x12 s) (En p1 x3 x4 x7 x12 s) := by
  rintro ⟨x13, x14⟩
  unfold ED En
  repeat' with_reducible (first | refine Le.orR' ?_ ?_ | refine Le.bind' ?_ ?_ | refine Le.ite' ?_ ?_ | refine Le.loop' ?_ | refine Le.altS' ?_ ?_ | apply FL | exact Le.rfl' _ | (refine Le.pi2 ?_; intro _) | intro _)
def EE (nE : Nat) (p0 : Int × (List (Int × Int × Int × Int × Int × Int)) × (List (Int × Int))) (p1 : List Nat) (p2 : Int) (x2 : Int × Int) (x3 : List Nat) (x4 : List Int) : (List Int × Int) → Option ((List Int × Int) ⊕ (List Int))
  | (x6, x7) => (if x7 < p0.1 then ((if x7 = x2.1 then (ix p0.2.2 p2).bind fun x10 => some x10.2 else some (-1)).bind fun x9 => ((Ew nE p0 x7).bind fun x12 => CV nE (ED nE p1 x3 x4 x7 x12) (x9, 0)).bind fun x11 => (Hm x6 ([x11] : List Int)).bind fun x21 => some x21).bind fun x8 => some (.inl (x8, BM (x7 + 1))) else some (.inr x6))
theorem Hz (nE : Nat) (p0 : Int × (List (Int × Int × Int × Int × Int × Int)) × (List (Int × Int))) (p1 : List Nat) (p2 : Int) (x2 : Int × Int) (x3 : List Nat) (x4 : List Int) : ∀ s, Le (EE nE p0 p1 p2 x2 x3 x4 s) (Em p0 p1 p2 x2 x3 x4 s) := by
  rintro ⟨x6, x7⟩
  unfold EE Em
  repeat' with_reducible (first | refine Le.orR' ?_ ?_ | refine Le.bind' ?_ ?_ | refine Le.ite' ?_ ?_ | refine Le.loop' ?_ | refine Le.altS' ?_ ?_ | apply Fx | apply Hw | exact Le.rfl' _ | (refine Le.pi2 ?_; intro _) | intro _)
def Fw (nE : Nat) (p0 : Int × (List (Int × Int × Int × Int × Int × Int)) × (List (Int × Int))) (p1 : List Nat) (p2 : Int) : Option (List Int × Int) := (Dq nE p0 p1).bind fun x1 => (if (!x1) = true then some (([] : List Int), 2) else (if (decide (p2 < 0) || decide ((p0.2.2.length : Int) ≤ p2)) = true then some (([] : List Int), 7) else (ix p0.2.2 p2).bind fun x2 => (Ek nE p0 p1 x2.1).bind fun x3 => (Fa nE p0 p1 x2.1).bind fun x4 => (CV nE (EE nE p0 p1 p2 x2 x3 x4) ([], 0)).bind fun x5 => some (x5, 0)))
theorem Jj (nE : Nat) (p0 : Int × (List (Int × Int × Int × Int × Int × Int)) × (List (Int × Int))) (p1 : List Nat) (p2 : Int) : Le (Fw nE p0 p1 p2) (ET p0 p1 p2) := by
  unfold Fw ET
  repeat' with_reducible (first | refine Le.orR' ?_ ?_ | refine Le.bind' ?_ ?_ | refine Le.ite' ?_ ?_ | refine Le.loop' ?_ | refine Le.altS' ?_ ?_ | apply E0 | apply F4 | apply IJ | apply Hz | exact Le.rfl' _ | (refine Le.pi2 ?_; intro _) | intro _)
def DO (nE : Nat) (x7 : List Int × Int) : ((List (Nat × List Int)) × Int) → Option (((List (Nat × List Int)) × Int) ⊕ ((List (Nat × List Int)) ⊕ (((List (Nat × List Int)) × Int) ⊕ ((List (Nat × List Int)) ⊕ ((List (Nat × List Int)) × Int)))))
  | (x8, x9) => (if x9 < (x7.1.length : Int) then (ix x7.1 x9).bind fun x10 => (if x10 < 0 then some (.inr (.inr (.inr (.inr (([] : List (Nat × List Int)), 7))))) else (ix x8 x9).bind fun x11 => (N8 x11.1).bind fun x12 => (Hm x11.2 ([x10] : List Int)).bind fun x13 => (ix (Au x8 x9 (0, [])) x9).bind fun x14 => (ix (Au x8 x9 (0, [])) x9).bind fun x15 => some (.inl ((Au (Au x8 x9 (0, [])) x9 (2, x13)), BM (x9 + 1)))) else some (.inr (.inl x8)))
theorem Gw (nE : Nat) (x7 : List Int × Int) : ∀ s, Le (DO nE x7 s) (Du x7 s) := by
  rintro ⟨x8, x9⟩
  unfold DO Du
  repeat' with_reducible (first | refine Le.orR' ?_ ?_ | refine Le.bind' ?_ ?_ | refine Le.ite' ?_ ?_ | refine Le.loop' ?_ | refine Le.altS' ?_ ?_ | exact Le.rfl' _ | (refine Le.pi2 ?_; intro _) | intro _)
def DS (nE : Nat) (p0 : Int × (List (Int × Int × Int × Int × Int × Int)) × (List (Int × Int))) (p1 : List Nat) : ((List (Nat × List Int)) × Int) → Option (((List (Nat × List Int)) × Int) ⊕ ((List (Nat × List Int)) ⊕ ((List (Nat × List Int)) × Int)))
  | (x4, x5) => (if x5 < (p0.2.2.length : Int) then Iu ((Fw nE p0 p1 x5).bind fun x7 => CV nE (DO nE x7) (x4, 0)) fun x6 => some (.inl (x6, BM (x5 + 1))) else some (.inr (.inl x4)))
theorem Gx (nE : Nat) (p0 : Int × (List (Int × Int × Int × Int × Int × Int)) × (List (Int × Int))) (p1 : List Nat) : ∀ s, Le (DS nE p0 p1 s) (Ds p0 p1 s) := by
  rintro ⟨x4, x5⟩
  unfold DS Ds
  repeat' with_reducible (first | refine Le.orR' ?_ ?_ | refine Le.bind' ?_ ?_ | refine Le.ite' ?_ ?_ | refine Le.loop' ?_ | refine Le.altS' ?_ ?_ | apply Jj | apply Gw | exact Le.rfl' _ | (refine Le.pi2 ?_; intro _) | intro _)
def EX (nE : Nat) (p0 : Int × (List (Int × Int × Int × Int × Int × Int)) × (List (Int × Int))) (p1 : List Nat) : Option ((List (Nat × List Int)) × Int) := (Dq nE p0 p1).bind fun x1 => (if (!x1) = true then some (([] : List (Nat × List Int)), 2) else (mk p0.1 ((2, []) : Nat × List Int)).bind fun x2 => Iu (CV nE (DS nE p0 p1) (x2, 0)) fun x3 => some (x3, 0))
theorem HU (nE : Nat) (p0 : Int × (List (Int × Int × Int × Int × Int × Int)) × (List (Int × Int))) (p1 : List Nat) : Le (EX nE p0 p1) (DY p0 p1) := by
  unfold EX DY
  repeat' with_reducible (first | refine Le.orR' ?_ ?_ | refine Le.bind' ?_ ?_ | refine Le.ite' ?_ ?_ | refine Le.loop' ?_ | refine Le.altS' ?_ ?_ | apply E0 | apply Gx | exact Le.rfl' _ | (refine Le.pi2 ?_; intro _) | intro _)
def HO (nE : Nat)  : Option Bool := (EX nE (3, ([(0, 0, 1, 0, 1, 1), (0, 1, 2, 0, 1, 1), (2, 1, 1, 1, 1, 1)] : List (Int × Int × Int × Int × Int × Int)), ([(1, 5)] : List (Int × Int))) ([4613937818241073152, 4607182418800017408, 4607182418800017408] : List Nat)).bind fun x1 => (if x1.2 = 0 then (if (x1.1.length : Int) = 3 then (ix x1.1 0).bind fun x3 => (ix x3.2 0).bind fun x4 => (KM x3.1).bind fun x5 => (if x4 = 1 then (ix x1.1 1).bind fun x6 => (ix x6.2 0).bind fun x7 => (KM x6.1).bind fun x8 => (if x7 = 5 then (ix x1.1 2).bind fun x9 => (ix x9.2 0).bind fun x10 => (KM x9.1).bind fun x11 => some (decide (x10 = 1)) else some false) else some false) else some false) else some false).bind fun x2 => some x2
theorem JQ (nE : Nat)  : Le (HO nE ) (DF ) := by
  unfold HO DF
  repeat' with_reducible (first | refine Le.orR' ?_ ?_ | refine Le.bind' ?_ ?_ | refine Le.ite' ?_ ?_ | refine Le.loop' ?_ | refine Le.altS' ?_ ?_ | apply HU | exact Le.rfl' _ | (refine Le.pi2 ?_; intro _) | intro _)
theorem EQ : DF = some true := JQ 60 _ (by kernel_rfl)
end Go.Proofs.Ytbogijdfacoccaa
