/- Layer 29: the two parsers: tokens, parts. Conditions: none. -/
import Derived.Test.YtlgjpoapclifbaaDoordM29L
namespace Go.Proofs.YtlgjpoapclifbaaDoor
set_option linter.unusedVariables false
set_option linter.unusedSimpArgs false
open Go Go.RowKit
abbrev Ps : Type := List C2 × Int
abbrev Pn : Type := (Int × Int) × Ps
def W6 : List (List UInt8) := [[115, 114, 99], [100, 115, 116], [107, 105, 110, 100], [116, 97, 103], [112, 111, 114, 116], [115, 119, 105, 116, 99, 104]]
structure Tks (l : List C2) : Prop where
  len : l.length ≤ 1000
  nxt : ∀ i (h : i < l.length), l[i].1 ≠ 4 → i + 1 < l.length
  sgn : ∀ i (h : i < l.length), l[i].1 = 3 → ∀ w ∈ W6, l[i].2.2.1 ≠ w
def F3 (t : C2) (s : List UInt8) : Bool := decide ((t.1 = 1 ∨ t.1 = 3) ∧ t.2.2.1 = s)
theorem Lm {t : C2} {s : List UInt8} : F3 t s = true ↔ (t.1 = 1 ∨ t.1 = 3) ∧ t.2.2.1 = s := by unfold F3; exact decide_eq_true_iff
theorem Dv {l : List C2} (hl : Tks l) {i : Nat} (h : i < l.length) {s : List UInt8} (c : F3 l[i] s = true) : i + 1 < l.length :=
  hl.nxt i h (by have := (Lm.1 c).1; omega)
theorem Fw {l : List C2} (hl : Tks l) {i : Nat} (h : i < l.length) : CI ((i : Int) + 1) = ((i + 1 : Nat) : Int) := by have := hl.len; rw [B3 (by omega)]; rfl
theorem GX {l : List C2} {i : Nat} (h : i < l.length) : BV (l, (i : Int)) = some l[i] := by
  unfold BV
  rw [show ix (l, (i : Int)).1 (l, (i : Int)).2 = some l[i] from Dx (List.getElem?_eq_getElem h)]; rfl
theorem Sm (t : C2) (s : List UInt8) : (bif decide (t.1 ≠ 1) then (decide (t.1 ≠ 3) || decide (t.2.2.1 ≠ s)) else decide (t.2.2.1 ≠ s)) = !F3 t s := by
  unfold F3
  by_cases c1 : t.1 = 1
  · by_cases c2 : t.2.2.1 = s <;> simp [c1, c2]
  · by_cases c3 : t.1 = 3
    · by_cases c2 : t.2.2.1 = s <;> simp [c3, c2]
    · simp [c1, c3]
theorem DJ {l : List C2} (hl : Tks l) {i : Nat} (h : i < l.length) {s : List UInt8} (c : F3 l[i] s = true) : As (l, (i : Int)) s = some (true, (l, ((i + 1 : Nat) : Int))) := by
  unfold As
  rw [GX h, Option.bind_some, Sm, c, if_neg (by decide), Fw hl h]
theorem Dg {l : List C2} {i : Nat} (h : i < l.length) {s : List UInt8} (c : ¬ F3 l[i] s = true) : As (l, (i : Int)) s = some (false, (l, (i : Int))) := by
  unfold As
  have c' : F3 l[i] s = false := by simpa using c
  rw [GX h, Option.bind_some, Sm, c', if_pos (by decide)]
theorem Ow {l : List C2} {i : Nat} (h : i < l.length) (s : List UInt8) : Dd l (i : Int) s = some (F3 l[i] s) := by
  have e : ix l (i : Int) = some l[i] := Dx (List.getElem?_eq_getElem h)
  unfold Dd
  rw [e]
  simp only [Option.bind_some]
  unfold F3
  by_cases c1 : l[i].1 = 1
  · rw [if_pos c1]; simp [c1]
  · rw [if_neg c1]
    by_cases c3 : l[i].1 = 3
    · rw [if_pos c3]; simp [c3]
    · rw [if_neg c3]; simp [c1, c3]
theorem JY {l : List C2} {i : Nat} (h : i < l.length) : B2 (l, (i : Int)) = some (l[i].2.2.2, 10) := by
  unfold B2; rw [GX h]; rfl
theorem EG {l : List C2} (hl : Tks l) {i : Nat} (h : i < l.length) {s : List UInt8} (c : F3 l[i] s = true) : Ao (l, (i : Int)) s = some (.inl (l, ((i + 1 : Nat) : Int))) := by
  unfold Ao; rw [DJ hl h c]; rfl
theorem GH {l : List C2} {i : Nat} (h : i < l.length) {s : List UInt8} (c : ¬ F3 l[i] s = true) : Ao (l, (i : Int)) s = some (.inr ((l[i].2.2.2, 10), (l, (i : Int)))) := by
  unfold Ao
  rw [Dg h c, Option.bind_some, if_pos (show (!((false, (l, (i : Int))) : Bool × Ps).1) = true from rfl)]
  show (B2 (l, (i : Int))).bind _ = _
  rw [JY h]; rfl
theorem Ja {l : List C2} (hl : Tks l) {i : Nat} (h : i < l.length) (c : l[i].1 = 2) : AQ (l, (i : Int)) = some (.inl (l[i].2.1, (l, ((i + 1 : Nat) : Int)))) := by
  unfold AQ
  rw [GX h, Option.bind_some, if_neg (fun q => q c), Fw hl h]
theorem Mt {l : List C2} {i : Nat} (h : i < l.length) (c : l[i].1 ≠ 2) : AQ (l, (i : Int)) = some (.inr ((l[i].2.2.2, 10), (l, (i : Int)))) := by
  unfold AQ
  rw [GX h, Option.bind_some, if_pos c, JY h]; rfl
theorem Oq (t : C2) : (A3 t = -1 ∧ (t.1 = 1 → ∀ w ∈ W6, t.2.2.1 ≠ w)) ∨ ∃ f : Nat, f < 6 ∧ A3 t = (f : Int) ∧ t.1 = 1 ∧ t.2.2.1 = W6.getD f [] := by
  unfold A3
  by_cases c : t.1 ≠ 1
  · rw [if_pos c]; exact .inl ⟨rfl, fun h => absurd h c⟩
  have c := Decidable.not_not.1 c
  rw [if_neg (fun h => h c)]
  by_cases c0 : t.2.2.1 = [115, 114, 99]
  · rw [if_pos c0]; exact .inr ⟨0, by decide, rfl, c, c0⟩
  rw [if_neg c0]
  by_cases c1 : t.2.2.1 = [100, 115, 116]
  · rw [if_pos c1]; exact .inr ⟨1, by decide, rfl, c, c1⟩
  rw [if_neg c1]
  by_cases c2 : t.2.2.1 = [107, 105, 110, 100]
  · rw [if_pos c2]; exact .inr ⟨2, by decide, rfl, c, c2⟩
  rw [if_neg c2]
  by_cases c3 : t.2.2.1 = [116, 97, 103]
  · rw [if_pos c3]; exact .inr ⟨3, by decide, rfl, c, c3⟩
  rw [if_neg c3]
  by_cases c4 : t.2.2.1 = [112, 111, 114, 116]
  · rw [if_pos c4]; exact .inr ⟨4, by decide, rfl, c, c4⟩
  rw [if_neg c4]
  by_cases c5 : t.2.2.1 = [115, 119, 105, 116, 99, 104]
  · rw [if_pos c5]; exact .inr ⟨5, by decide, rfl, c, c5⟩
  rw [if_neg c5]
  refine .inl ⟨rfl, fun _ w hw => ?_⟩
  unfold W6 at hw
  simp only [List.mem_cons, List.not_mem_nil, or_false] at hw
  rcases hw with rfl | rfl | rfl | rfl | rfl | rfl <;> assumption
theorem RD {k : Nat} (h : k < 6) : Oj (k : Int) = some (W6.getD k []) :=
  match k, h with
  | 0, _ => rfl
  | 1, _ => rfl
  | 2, _ => rfl
  | 3, _ => rfl
  | 4, _ => rfl
  | 5, _ => rfl
theorem SN : ∀ a b : Fin 6, W6.getD a.val [] = W6.getD b.val [] → a = b := by decide +kernel
theorem Q4 : ∀ a : Fin 6, W6.getD a.val [] ∈ W6 := by decide +kernel
theorem Qg {l : List C2} (hl : Tks l) {i : Nat} (h : i < l.length) {m : Nat} (hm : m ≤ 6) : Ky l (i : Int) (m : Int) = some (if 0 ≤ A3 l[i] ∧ A3 l[i] < (m : Int) then A3 l[i] else -1) := by
  unfold Ky
  have hs := O3 m (GA l (i : Int) (m : Int)) (fun k => if F3 l[i] (W6.getD k []) = true then some (k : Int) else none) (fun k hk => by
    rw [GA, if_pos (by omega), RD (by omega), Option.bind_some, Ow h, Option.bind_some]
    by_cases c : F3 l[i] (W6.getD k []) = true
    · rw [if_pos c, if_pos c]
    · rw [if_neg c, if_neg c, B3 (by omega)]; rfl) (by rw [GA, if_neg (by omega)])
  rw [hs]
  rcases Oq l[i] with ⟨e, hno⟩ | ⟨f, hf, e, h1, h2⟩
  · rw [Lx (fun k hk => if_neg (fun c => ?_)), if_neg (by rw [e]; omega)]
    · rfl
    · obtain ⟨hk1, hs⟩ := Lm.1 c
      have hk6 : k < 6 := by have := List.mem_range.1 hk; omega
      rcases hk1 with hk | hk
      · exact hno hk _ (Q4 ⟨k, hk6⟩) hs
      · exact hl.sgn i h hk _ (Q4 ⟨k, hk6⟩) hs
  · have huni : ∀ k : Nat, k < 6 → F3 l[i] (W6.getD k []) = true → k = f := fun k hk c => by
      have := (Lm.1 c).2
      rw [h2] at this
      exact (congrArg Fin.val (SN ⟨f, hf⟩ ⟨k, hk⟩ this)).symm
    by_cases c : f < m
    · rw [JN (v := (f : Int)) (x := f) (List.mem_range.2 c) (if_pos (Lm.2 ⟨.inl h1, h2⟩)) (fun k hk u hu => ?_), if_pos (by rw [e]; omega), e]
      · rfl
      · by_cases c2 : F3 l[i] (W6.getD k []) = true
        · rw [if_pos c2] at hu
          rw [← Option.some.inj hu, huni k (by have := List.mem_range.1 hk; omega) c2]
        · rw [if_neg c2] at hu; cases hu
    · rw [Lx (fun k hk => if_neg (fun c2 => ?_)), if_neg (by rw [e]; omega)]
      · rfl
      · have := huni k (by have := List.mem_range.1 hk; omega) c2
        have := List.mem_range.1 hk
        omega
theorem MY {l : List C2} (hl : Tks l) {j : Nat} (h : j < l.length) {m : Nat} (hm : m ≤ 6) (hm0 : 0 < m) (s : List UInt8) :
    (BE (l, (j : Int)) ((m : Int) - 1) = some (.inr ((l[j].2.2.2, 10), (l, (j : Int)))) ∧ Fk l (j : Int) (m : Int) s = some (0, 0, (j : Int), false)) ∨
    ∃ f, BE (l, (j : Int)) ((m : Int) - 1) = some (.inl (f, (l, ((j + 1 : Nat) : Int)))) ∧ ∃ h1 : j + 1 < l.length,
      ((¬ F3 l[j + 1] s = true ∧ Fk l (j : Int) (m : Int) s = some (0, 0, ((j + 1 : Nat) : Int), false)) ∨
       (F3 l[j + 1] s = true ∧ ∃ h2 : j + 2 < l.length, (l[j + 2].1 ≠ 2 ∧ Fk l (j : Int) (m : Int) s = some (0, 0, ((j + 2 : Nat) : Int), false)) ∨
        (l[j + 2].1 = 2 ∧ j + 3 < l.length ∧ Fk l (j : Int) (m : Int) s = some (f, l[j + 2].2.1, ((j + 3 : Nat) : Int), true)))) := by
  have hlen := hl.len
  unfold BE Fk
  rw [GX h, Option.bind_some, Qg hl h hm, Option.bind_some]
  by_cases c : 0 ≤ A3 l[j] ∧ A3 l[j] < (m : Int)
  · rw [if_neg (by simp only [Bool.or_eq_true, decide_eq_true_iff]; omega), if_pos c, if_neg (by omega), Fw hl h]
    refine .inr ⟨_, rfl, ?_⟩
    have hk : l[j].1 = 1 := by
      rcases Oq l[j] with ⟨e, _⟩ | ⟨_, _, _, h1, _⟩
      · omega
      · exact h1
    have h1 : j + 1 < l.length := hl.nxt j h (by omega)
    refine ⟨h1, ?_⟩
    rw [Ow h1, Option.bind_some]
    by_cases c1 : F3 l[j + 1] s = true
    · refine .inr ⟨c1, ?_⟩
      have h2 := Dv hl h1 c1
      refine ⟨h2, ?_⟩
      rw [c1, if_neg (by decide), B3 (x := (j : Int) + 2) (by omega), show (j : Int) + 2 = ((j + 2 : Nat) : Int) by omega, Dx (List.getElem?_eq_getElem h2), Option.bind_some, Option.bind_some]
      by_cases c2 : l[j + 2].1 = 2
      · refine .inr ⟨c2, hl.nxt (j + 2) h2 (by omega), ?_⟩
        rw [if_neg (fun q => q c2), B3 (by omega)]; rfl
      · exact .inl ⟨c2, by rw [if_pos c2]⟩
    · refine .inl ⟨c1, ?_⟩
      rw [if_pos (by simpa using c1)]
  · rw [if_pos (by simp only [Bool.or_eq_true, decide_eq_true_iff]; omega), if_neg c, if_pos rfl, JY h]
    exact .inl ⟨rfl, rfl⟩
def Ke {A A' : Type} (f : A → A') (c : A → Nat) (l : List C2) (i : Nat) (P : Option ((A × Ps) ⊕ Pn)) (R : Option (A' × Int × Bool)) : Prop :=
  (∃ x j, P = some (.inl (x, (l, ((j : Nat) : Int)))) ∧ R = some (f x, (j : Int), true) ∧ i < j ∧ j < l.length ∧ c x ≤ 3 * (j - i)) ∨
  (∃ k, ∃ h : k < l.length, ∃ q y, P = some (.inr ((l[k].2.2.2, 10), q)) ∧ R = some (y, ((k : Nat) : Int), false))
theorem Qj {A A' ρ τ : Type} {f : A → A'} {c : A → Nat} {l : List C2} (hl : Tks l) {sep : List UInt8} {pf : Ps → Option ((A × Ps) ⊕ Pn)} {rf : List C2 → Int → Option (A' × Int × Bool)} {cmp : A' → ρ} {mk : Int → Bool → List A' → ρ → τ}
    {S : (List A × List C2 × Int) → Option ((List A × List C2 × Int) ⊕ ((List A × List C2 × Int) ⊕ ((A × Ps) ⊕ Pn)))} {T : τ → Option (τ ⊕ τ)} {i0 : Nat}
    (hsim : ∀ j : Nat, i0 ≤ j → j < l.length → Ke f c l j (pf (l, (j : Int))) (rf l (j : Int)))
    (hS : ∀ xs (j : Nat), S (xs, l, (j : Int)) = (As (l, (j : Int)) sep).bind fun x10 => if x10.1 = true then (pf x10.2).bind fun x11 => B1 x11 (fun x12 => (D0 xs [x12.1]).bind fun x14 => some (.inl (x14, x12.2.1, x12.2.2))) (fun x13 => some (.inr (.inr (.inr (x13.1, x13.2))))) else some (.inr (.inl (xs, x10.2.1, x10.2.2))))
    (hT : ∀ (j : Int) (ok : Bool) ys r, T (mk j ok ys r) = (if ok = true then (Dd l j sep).bind fun x18 => some (true, x18) else some (false, false)).bind fun z => if z.2 = true then (rf l (CI (j + 1))).bind fun x19 => (D0 ys [x19.1]).bind fun x20 => some (.inl (mk x19.2.1 x19.2.2 x20 (cmp x19.1))) else some (.inr (mk j z.1 ys r))) :
    ∀ (d j : Nat) (xs : List A) (r : ρ), l.length - j ≤ d → i0 ≤ j → j < l.length → xs.length + (l.length - j) ≤ 100000 →
      (∃ xs' j' r', Bo S (xs, l, (j : Int)) = some (.inl (xs', l, ((j' : Nat) : Int))) ∧ Bo T (mk (j : Int) true (xs.map f) r) = some (mk (j' : Int) true (xs'.map f) r') ∧ j ≤ j' ∧ j' < l.length ∧ (xs'.map c).sum + 3 * (xs'.length - xs.length) ≤ (xs.map c).sum + 3 * (j' - j) ∧ (xs' = xs ∧ r' = r ∨ xs.length < xs'.length)) ∨
      (∃ k, ∃ h : k < l.length, ∃ q ys' r', Bo S (xs, l, (j : Int)) = some (.inr (.inr ((l[k].2.2.2, 10), q))) ∧ Bo T (mk (j : Int) true (xs.map f) r) = some (mk (k : Int) false ys' r') ∧ xs.length < ys'.length) := by
  intro d
  induction d with
  | zero => intro j xs r hd hi hj; omega
  | succ d ih =>
    intro j xs r hd hi hj hb
    have hS1 := hS xs j
    have hT1 := hT (j : Int) true (xs.map f) r
    rw [if_pos rfl, Ow hj, Option.bind_some, Option.bind_some] at hT1
    by_cases ct : F3 l[j] sep = true
    · have hj1 := Dv hl hj ct
      rw [DJ hl hj ct, Option.bind_some, if_pos rfl] at hS1
      rw [if_pos (show (true, F3 l[j] sep).2 = true from ct), Fw hl hj] at hT1
      rcases hsim (j + 1) (by omega) hj1 with ⟨x, j2, p1, p2, p3, p4, p5⟩ | ⟨k, hk, q, y, p1, p2⟩
      · rw [p1, Option.bind_some] at hS1
        rw [p2, Option.bind_some] at hT1
        have hS2 : S (xs, l, (j : Int)) = some (.inl (xs ++ [x], l, (j2 : Int))) := by
          rw [hS1]
          show (D0 xs [x]).bind _ = _
          rw [CD (by simp; omega)]; rfl
        have hT2 : T (mk (j : Int) true (xs.map f) r) = some (.inl (mk (j2 : Int) true ((xs ++ [x]).map f) (cmp (f x)))) := by
          rw [hT1]
          show (D0 (xs.map f) [f x]).bind _ = _
          rw [CD (by simp; omega), List.map_append]; rfl
        rw [Dr hS2, Dr hT2]
        rcases ih j2 (xs ++ [x]) (cmp (f x)) (by omega) (by omega) p4 (by simp; omega) with ⟨xs', j', r', g1, g2, g3, g4, g5, g6⟩ | ⟨k, hk, q, ys', r', g1, g2, g3⟩
        · have hlx : xs.length < xs'.length := by
            rcases g6 with ⟨rfl, _⟩ | g6
            · simp
            · rw [List.length_append] at g6; omega
          refine .inl ⟨xs', j', r', g1, g2, by omega, g4, ?_, .inr hlx⟩
          rw [List.map_append, List.sum_append, List.length_append] at g5
          simp only [List.map_cons, List.map_nil, List.sum_cons, List.sum_nil, List.length_cons, List.length_nil] at g5
          omega
        · exact .inr ⟨k, hk, q, ys', r', g1, g2, by rw [List.length_append] at g3; omega⟩
      · rw [p1, Option.bind_some] at hS1
        rw [p2, Option.bind_some] at hT1
        have hT2 : T (mk (j : Int) true (xs.map f) r) = some (.inl (mk (k : Int) false (xs.map f ++ [y]) (cmp y))) := by
          rw [hT1]
          show (D0 (xs.map f) [y]).bind _ = _
          rw [CD (by simp; omega)]; rfl
        refine .inr ⟨k, hk, q, xs.map f ++ [y], cmp y, B5 hS1, ?_, by simp⟩
        rw [Dr hT2, B5]
        rw [hT, if_neg (by decide), Option.bind_some, if_neg (by decide)]
    · rw [Dg hj ct, Option.bind_some, if_neg (show ¬ ((false, (l, (j : Int))) : Bool × Ps).1 = true from Bool.false_ne_true)] at hS1
      rw [if_neg (show ¬ (true, F3 l[j] sep).2 = true from ct)] at hT1
      exact .inl ⟨xs, j, r, B5 hS1, B5 hT1, Nat.le_refl _, hj, by omega, .inl ⟨rfl, rfl⟩⟩
theorem Jf {A A' ρ τ : Type} {f : A → A'} {c : A → Nat} {l : List C2} (hl : Tks l) {sep : List UInt8} {pf : Ps → Option ((A × Ps) ⊕ Pn)} {rf : List C2 → Int → Option (A' × Int × Bool)} {cmp : A' → ρ} {mk : Int → Bool → List A' → ρ → τ}
    {S : (List A × List C2 × Int) → Option ((List A × List C2 × Int) ⊕ ((List A × List C2 × Int) ⊕ ((A × Ps) ⊕ Pn)))} {T : τ → Option (τ ⊕ τ)} {i : Nat} (hi : i < l.length)
    (hsim : ∀ j : Nat, i ≤ j → j < l.length → Ke f c l j (pf (l, (j : Int))) (rf l (j : Int)))
    (hS : ∀ xs (j : Nat), S (xs, l, (j : Int)) = (As (l, (j : Int)) sep).bind fun x10 => if x10.1 = true then (pf x10.2).bind fun x11 => B1 x11 (fun x12 => (D0 xs [x12.1]).bind fun x14 => some (.inl (x14, x12.2.1, x12.2.2))) (fun x13 => some (.inr (.inr (.inr (x13.1, x13.2))))) else some (.inr (.inl (xs, x10.2.1, x10.2.2))))
    (hT : ∀ (j : Int) (ok : Bool) ys r, T (mk j ok ys r) = (if ok = true then (Dd l j sep).bind fun x18 => some (true, x18) else some (false, false)).bind fun z => if z.2 = true then (rf l (CI (j + 1))).bind fun x19 => (D0 ys [x19.1]).bind fun x20 => some (.inl (mk x19.2.1 x19.2.2 x20 (cmp x19.1))) else some (.inr (mk j z.1 ys r)))
    {node : List A → A} {node' : List A' → A'} {un : ρ → A'} (hun : ∀ y, un (cmp y) = y) (hnode : ∀ xs, f (node xs) = node' (xs.map f)) (hcnt : ∀ xs, c (node xs) ≤ 2 + (xs.map c).sum)
    {P : Option ((A × Ps) ⊕ Pn)} {R : Option (A' × Int × Bool)} {fin : τ → Option (A' × Int × Bool)}
    (hP : P = (pf (l, (i : Int))).bind fun x1 => B1 x1 (fun x2 => HX (Bo S ([x2.1], x2.2.1, x2.2.2)) fun z => if (z.1.length : Int) = 1 then (ix z.1 0).bind fun x15 => some (.inl (x15, (z.2.1, z.2.2))) else some (.inl (node z.1, (z.2.1, z.2.2)))) (fun x3 => some (.inr (x3.1, x3.2))))
    (hR : R = (rf l (i : Int)).bind fun x1 => (Bo T (mk x1.2.1 x1.2.2 [x1.1] (cmp x1.1))).bind fin)
    (hfin : ∀ (j : Int) (ok : Bool) ys r, fin (mk j ok ys r) = if (ys.length : Int) = 1 then some (un r, j, ok) else some (node' ys, j, ok)) : Ke f c l i P R := by
  have hlen := hl.len
  rcases hsim i (Nat.le_refl _) hi with ⟨x, j, p1, p2, p3, p4, p5⟩ | ⟨k, hk, q, y, p1, p2⟩
  · rw [p1, Option.bind_some] at hP
    rw [p2, Option.bind_some] at hR
    rcases Qj hl hsim hS hT (l.length - j) j [x] (cmp (f x)) (Nat.le_refl _) (by omega) p4 (by simp; omega) with ⟨xs', j', r', g1, g2, g3, g4, g5, g6⟩ | ⟨k, hk, q, ys', r', g1, g2, g3⟩
    · have hP2 : P = (if (xs'.length : Int) = 1 then (ix xs' 0).bind fun x15 => some (.inl (x15, (l, (j' : Int)))) else some (.inl (node xs', (l, (j' : Int))))) := by
        rw [hP]
        show HX (Bo S ([x], l, (j : Int))) _ = _
        rw [g1]; rfl
      have hR2 : R = if ((xs'.map f).length : Int) = 1 then some (un r', (j' : Int), true) else some (node' (xs'.map f), (j' : Int), true) := by
        rw [hR]
        show (Bo T (mk (j : Int) true ([x].map f) (cmp (f x)))).bind fin = _
        rw [g2, Option.bind_some, hfin]
      rcases g6 with ⟨rfl, rfl⟩ | g6
      · rw [if_pos (by simp)] at hP2 hR2
        exact .inl ⟨x, j', hP2, by rw [hR2, hun], by omega, g4, by simp at g5; omega⟩
      · simp only [List.length_cons, List.length_nil, List.map_cons, List.map_nil, List.sum_cons, List.sum_nil] at g5 g6
        rw [if_neg (by omega)] at hP2
        rw [if_neg (by rw [List.length_map]; omega), ← hnode] at hR2
        have := hcnt xs'
        exact .inl ⟨node xs', j', hP2, hR2, by omega, g4, by omega⟩
    · have hP2 : P = some (.inr ((l[k].2.2.2, 10), q)) := by
        rw [hP]
        show HX (Bo S ([x], l, (j : Int))) _ = _
        rw [g1]; rfl
      simp only [List.length_cons, List.length_nil] at g3
      have hR2 : R = some (node' ys', (k : Int), false) := by
        rw [hR]
        show (Bo T (mk (j : Int) true ([x].map f) (cmp (f x)))).bind fin = _
        rw [g2, Option.bind_some, hfin, if_neg (by omega)]
      exact .inr ⟨k, hk, q, _, hP2, hR2⟩
  · rw [p1, Option.bind_some] at hP
    rw [p2, Option.bind_some] at hR
    have hend : Bo T (mk (k : Int) false [y] (cmp y)) = some (mk (k : Int) false [y] (cmp y)) := B5 (by rw [hT, if_neg (by decide), Option.bind_some, if_neg (by decide)])
    refine .inr ⟨k, hk, q, y, hP, ?_⟩
    rw [hR]
    show (Bo T (mk (k : Int) false [y] (cmp y))).bind fin = _
    rw [hend, Option.bind_some, hfin, if_pos (by simp), hun]
end Go.Proofs.YtlgjpoapclifbaaDoor
