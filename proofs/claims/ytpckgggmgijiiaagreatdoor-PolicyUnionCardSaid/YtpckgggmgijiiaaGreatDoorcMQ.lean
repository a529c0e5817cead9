/- Layer 27: the order of packets; the sort's parts, first half. Conditions: none. -/
import Derived.Test.YtpckgggmgijiiaaGreatDoorcMP
import Derived.Test.YtpckgggmgijiiaaGreatDoorcU6
namespace Go.Proofs.YtpckgggmgijiiaaGreatDoor
set_option linter.unusedVariables false
set_option linter.unusedSimpArgs false
open Go Go.RowKit
abbrev Se := Int × Int × Int × Int × Int
instance : Inhabited Se := ⟨(0, 0, 0, 0, 0)⟩
theorem V9 (a b : Int) : Bf a b = if a < b then -1 else if b < a then 1 else 0 := by
  unfold Bf Eg
  simp
def Uy : List Int → List Int → Int
  | x :: a, y :: b => if Bf x y ≠ 0 then Bf x y else Uy a b
  | _, _ => 0
theorem Ts : ∀ a b : List Int, a.length = b.length → (Uy a b < 0 ↔ ID a b = true)
  | [], [], _ => by simp [Uy, ID]
  | [], y :: b, h => by simp at h
  | x :: a, [], h => by simp at h
  | x :: a, y :: b, h => by
    unfold Uy ID
    have ih := Ts a b (by simpa using h)
    rw [V9]
    by_cases h1 : x < y
    · simp [h1]
    · by_cases h2 : y < x
      · have : ¬ x = y := by omega
        simp [h1, h2, this]
      · have : x = y := by omega
        subst this
        simp [h1, ih]
theorem Zp (a b : Int) : IM [a, b] = some (if a ≠ 0 then a else b) := by
  unfold IM
  by_cases ha : a ≠ 0
  · rw [if_pos ha, Bg (e := .inr a) (by rw [E0, if_pos (by show (0 : Int) < 2; decide)]; show (some a).bind _ = _; rw [Option.bind_some, if_pos ha])]; rfl
  · rw [if_neg ha, Ce (s' := 1) (by rw [E0, if_pos (by show (0 : Int) < 2; decide)]; show (some a).bind _ = _; rw [Option.bind_some, if_neg ha]; rfl)]
    by_cases hb : b ≠ 0
    · rw [Bg (e := .inr b) (by rw [E0, if_pos (by show (1 : Int) < 2; decide)]; show (some b).bind _ = _; rw [Option.bind_some, if_pos hb])]; rfl
    · rw [Ce (s' := 2) (by rw [E0, if_pos (by show (1 : Int) < 2; decide)]; show (some b).bind _ = _; rw [Option.bind_some, if_neg hb]; rfl), Bg (e := .inl ()) (by rw [E0, if_neg (by show ¬ (2 : Int) < 2; decide)])]
      rw [Decidable.not_not.1 hb]; rfl
theorem Zv (a b c d x y z u : Int) : Dq [a, b, c, d] [x, y, z, u] = some (Uy [a, b, c, d] [x, y, z, u]) := by
  have st : ∀ (i : Nat) (p q : Int) (s : Int), s = (i : Int) → i < 4 → [a, b, c, d][i]? = some p → [x, y, z, u][i]? = some q → Df [a, b, c, d] [x, y, z, u] s = if Bf p q ≠ 0 then some (.inr (.inr (Bf p q))) else some (.inl ((i : Int) + 1)) := fun i p q s hs hi hp hq => by
    subst hs
    rw [Df, if_pos (by show (i : Int) < 4; omega), DY hp, Option.bind_some, if_neg (by show ¬ (4 : Int) ≤ i; omega), DY hq, Option.bind_some]
    by_cases h : Bf p q ≠ 0
    · rw [if_pos h, if_pos h]
    · rw [if_neg h, if_neg h]
      have : AU ((i : Int) + 1) = (i : Int) + 1 := AK ⟨by omega, by omega⟩
      rw [this]
  unfold Dq
  unfold Uy
  by_cases h0 : Bf a x ≠ 0
  · rw [if_pos h0, Bg (e := .inr (Bf a x)) (by rw [st 0 a x 0 rfl (by decide) rfl rfl, if_pos h0])]; rfl
  rw [if_neg h0, Ce (s' := 1) (by rw [st 0 a x 0 rfl (by decide) rfl rfl, if_neg h0]; rfl)]
  unfold Uy
  by_cases h1 : Bf b y ≠ 0
  · rw [if_pos h1, Bg (e := .inr (Bf b y)) (by rw [st 1 b y 1 rfl (by decide) rfl rfl, if_pos h1])]; rfl
  rw [if_neg h1, Ce (s' := 2) (by rw [st 1 b y 1 rfl (by decide) rfl rfl, if_neg h1]; rfl)]
  unfold Uy
  by_cases h2 : Bf c z ≠ 0
  · rw [if_pos h2, Bg (e := .inr (Bf c z)) (by rw [st 2 c z 2 rfl (by decide) rfl rfl, if_pos h2])]; rfl
  rw [if_neg h2, Ce (s' := 3) (by rw [st 2 c z 2 rfl (by decide) rfl rfl, if_neg h2]; rfl)]
  unfold Uy
  by_cases h3 : Bf d u ≠ 0
  · rw [if_pos h3, Bg (e := .inr (Bf d u)) (by rw [st 3 d u 3 rfl (by decide) rfl rfl, if_pos h3])]; rfl
  rw [if_neg h3, Ce (s' := 4) (by rw [st 3 d u 3 rfl (by decide) rfl rfl, if_neg h3]; rfl), Bg (e := .inl ()) (by rw [Df, if_neg (by show ¬ (4 : Int) < 4; decide)])]
  rfl
def Wd (p q : Se) : Int := Uy (SW p) (SW q)
theorem Hl (p q : Se) : Cs p q = some (Wd p q) := by
  unfold Cs
  rw [Zv, Option.bind_some, Zp]
  rfl
def AW (p q : Se) : Bool := decide (Wd p q < 0)
theorem Pr (x y : Se) : (Wd x y < 0) = (AW x y = true) := by unfold AW; simp
theorem N6 (p q : Se) : AW p q = AY p q := by
  rw [Bool.eq_iff_iff, ← Pr]
  exact Ts _ _ rfl
theorem V0 : Go.Sort.SWO AW := ⟨fun x => by rw [N6]; exact Gh.irr x, fun x y z h1 h2 => by rw [N6] at *; exact Gh.tr h1 h2, fun x y z h1 h2 => by
  rw [N6] at *
  cases h : AY x z with
  | false => rfl
  | true =>
    cases h3 : AY y x with
    | true => rw [Gh.tr h3 h] at h2; cases h2
    | false => rw [Gh.tot h1 h3, h2] at h; cases h⟩
section
open Go.Sort
theorem QW {a : Nat} : ∀ (j : Nat) (d : Array (Int × Int × Int × Int × Int)), j < d.size → d.size ≤ 1000000000 → Ba (Bi (a : Int)) (d.toList, (j : Int)) = some (insInner AW a j d).toList
  | 0, d, hj, hb => Bg (by rw [Bi, if_neg (by omega), Option.bind_some, if_neg (by decide)]; rfl)
  | j + 1, d, hj, hb => by
    have e1 : AU (((j + 1 : Nat) : Int) - 1) = (j : Int) := by rw [AK (by omega)]; omega
    have h1 := Hh (d := d) hj
    have h0 := Hh (d := d) (show j < d.size by omega)
    rw [insInner]
    by_cases c : a < j + 1
    · by_cases c2 : AW d[j + 1]! d[j]! = true
      · rw [if_pos (by simp [c, c2])]
        have hst : Bi (a : Int) (d.toList, ((j + 1 : Nat) : Int)) = some (.inl ((swp d (j + 1) j).toList, (j : Int))) := by
          rw [Bi, if_pos (by omega), e1]
          simp only [h1, h0, Option.bind_some, Hl, Pr, Bool.decide_eq_true, c2, if_true, JF, Hh (show j < (d.setIfInBounds (j + 1) d[j]!).size by simp; omega)]
          rfl
        rw [Ce hst]
        exact QW j _ (by rw [size_swp]; omega) (by rw [size_swp]; exact hb)
      · rw [if_neg (by simp [c2])]
        refine Bg ?_
        rw [Bi, if_pos (by omega), e1]
        simp only [h1, h0, Option.bind_some, Hl, Pr, Bool.decide_eq_true, c2, Bool.false_eq_true, if_false]
    · rw [if_neg (by simp; omega)]
      exact Bg (by rw [Bi, if_neg (by omega), Option.bind_some, if_neg (by decide)])
theorem S0 {a b : Nat} : ∀ (m i : Nat) (d : Array (Int × Int × Int × Int × Int)), b - i = m → b ≤ d.size → d.size ≤ 1000000000 → Ba (BL (a : Int) (b : Int)) (d.toList, (i : Int)) = some (insOuter AW a b i d).toList := by
  intro m
  induction m with
  | zero =>
    intro i d hm hb hs
    rw [insOuter, if_neg (by omega)]
    exact Bg (by rw [BL, if_neg (by omega)])
  | succ m ih =>
    intro i d hm hb hs
    rw [insOuter, if_pos (by omega)]
    have hst : BL (a : Int) (b : Int) (d.toList, (i : Int)) = some (.inl ((insInner AW a i d).toList, ((i + 1 : Nat) : Int))) := by
      rw [BL, if_pos (by omega), QW i d (by omega) hs, Option.bind_some, AK (by omega)]; rfl
    rw [Ce hst]
    exact ih (i + 1) _ (by omega) (by rw [Jt]; exact hb) (by rw [Jt]; exact hs)
theorem WX (d : Array (Int × Int × Int × Int × Int)) (a b : Nat) (hb : b ≤ d.size) (hs : d.size ≤ 1000000000) (ha : a ≤ b) : Ch d.toList (a : Int) (b : Int) = some (insertionSort AW d a b).toList := by
  unfold Ch
  rw [AK (by omega)]
  exact S0 _ (a + 1) d rfl hb hs
theorem Tu {hi first : Nat} : ∀ (m root : Nat) (d : Array (Int × Int × Int × Int × Int)), hi - root ≤ m → first + hi ≤ d.size → d.size ≤ 1000000000 → root < 2000000000 → Ba (AZ (hi : Int) (first : Int)) (d.toList, (root : Int)) = some (siftDown AW hi first root d).toList ∧ (siftDown AW hi first root d).size = d.size := by
  intro m
  induction m with
  | zero =>
    intro root d hm hf hs hr
    have e1 : AU ((AU (2 * (root : Int))) + 1) = ((2 * root + 1 : Nat) : Int) := by rw [AK (x := 2 * (root : Int)) (by omega), AK (by omega)]; omega
    rw [siftDown, dif_pos (by omega)]
    exact ⟨Bg (by rw [AZ, e1, if_pos (by omega)]), rfl⟩
  | succ m ih =>
    intro root d hm hf hs hr
    have e1 : AU ((AU (2 * (root : Int))) + 1) = ((2 * root + 1 : Nat) : Int) := by rw [AK (x := 2 * (root : Int)) (by omega), AK (by omega)]; omega
    rw [siftDown]
    by_cases c : 2 * root + 1 ≥ hi
    · rw [dif_pos c]
      exact ⟨Bg (by rw [AZ, e1, if_pos (by omega)]), rfl⟩
    · rw [dif_neg c]
      have e2 : AU (((2 * root + 1 : Nat) : Int) + 1) = ((2 * root + 2 : Nat) : Int) := by rw [AK (by omega)]; omega
      have e3 : AU ((first : Int) + ((2 * root + 1 : Nat) : Int)) = ((first + (2 * root + 1) : Nat) : Int) := by rw [AK (by omega)]; omega
      have e4 : AU (((first + (2 * root + 1) : Nat) : Int) + 1) = ((first + (2 * root + 1) + 1 : Nat) : Int) := by rw [AK (by omega)]; omega
      have e5 : AU ((first : Int) + (root : Int)) = ((first + root : Nat) : Int) := by rw [AK (by omega)]; omega
      have e6 : AU ((first : Int) + ((2 * root + 2 : Nat) : Int)) = ((first + (2 * root + 2) : Nat) : Int) := by rw [AK (by omega)]; omega
      have g0 := Hh (d := d) (show first + root < d.size by omega)
      have g1 := Hh (d := d) (show first + (2 * root + 1) < d.size by omega)
      by_cases c2 : (decide (2 * root + 1 + 1 < hi) && AW d[first + (2 * root + 1)]! d[first + (2 * root + 1) + 1]!) = true
      · have c3 : 2 * root + 2 < hi := by have := (Bool.and_eq_true _ _ ▸ c2).1; simpa using this
        have c4 := (Bool.and_eq_true _ _ ▸ c2).2
        have g2 := Hh (d := d) (show first + (2 * root + 1) + 1 < d.size by omega)
        have g3 := Hh (d := d) (show first + (2 * root + 2) < d.size by omega)
        rw [if_pos c2]
        by_cases c5 : AW d[first + root]! d[first + (2 * root + 2)]! = true
        · rw [if_neg (by rw [c5]; decide), dif_pos c3]
          have hst : AZ (hi : Int) (first : Int) (d.toList, (root : Int)) = some (.inl ((swp d (first + root) (first + (2 * root + 2))).toList, ((2 * root + 2 : Nat) : Int))) := by
            rw [AZ, e1, if_neg (by omega), e2, if_pos (by omega), e3, e4]
            simp only [g1, g2, Option.bind_some, Hl, Pr, Bool.decide_eq_true, c4, if_true, e5, e6, g0, g3, c5, Bool.not_true, Bool.false_eq_true, if_false, JF, Hh (show first + (2 * root + 2) < (d.setIfInBounds (first + root) d[first + (2 * root + 2)]!).size by simp; omega)]
            rfl
          rw [Ce hst]
          have := ih (2 * root + 2) (swp d (first + root) (first + (2 * root + 2))) (by omega) (by rw [size_swp]; exact hf) (by rw [size_swp]; exact hs) (by omega)
          exact ⟨this.1, by rw [this.2, size_swp]⟩
        · rw [if_pos (by simpa using c5)]
          refine ⟨Bg ?_, rfl⟩
          rw [AZ, e1, if_neg (by omega), e2, if_pos (by omega), e3, e4]
          simp only [g1, g2, Option.bind_some, Hl, Pr, Bool.decide_eq_true, c4, if_true, e5, e6, g0, g3, c5, Bool.not_false]
      · rw [if_neg c2]
        have hpick : (if ((2 * root + 2 : Nat) : Int) < (hi : Int) then (ix d.toList ((first + (2 * root + 1) + 1 : Nat) : Int)).bind fun x6 => some (AW d[first + (2 * root + 1)]! x6) else some false) = some false := by
          by_cases c3 : 2 * root + 2 < hi
          · rw [if_pos (by omega), Hh (d := d) (show first + (2 * root + 1) + 1 < d.size by omega), Option.bind_some]
            congr 1
            by_cases c4 : AW d[first + (2 * root + 1)]! d[first + (2 * root + 1) + 1]! = true
            · exact absurd (by rw [c4]; simp; omega) c2
            · simpa using c4
          · rw [if_neg (by omega)]
        by_cases c5 : AW d[first + root]! d[first + (2 * root + 1)]! = true
        · rw [if_neg (by rw [c5]; decide)]
          have hst : AZ (hi : Int) (first : Int) (d.toList, (root : Int)) = some (.inl ((swp d (first + root) (first + (2 * root + 1))).toList, ((2 * root + 1 : Nat) : Int))) := by
            rw [AZ, e1, if_neg (by omega), e2, e3, e4]
            simp only [Hl, Pr, Bool.decide_eq_true, g1, hpick, Option.bind_some, Bool.false_eq_true, if_false, e3, e5, g0, g1, c5, Bool.not_true, JF, Hh (show first + (2 * root + 1) < (d.setIfInBounds (first + root) d[first + (2 * root + 1)]!).size by simp; omega)]
            rfl
          rw [Ce hst]
          have := ih (2 * root + 1) (swp d (first + root) (first + (2 * root + 1))) (by omega) (by rw [size_swp]; exact hf) (by rw [size_swp]; exact hs) (by omega)
          exact ⟨this.1, by rw [this.2, size_swp]⟩
        · rw [if_pos (by simpa using c5)]
          refine ⟨Bg ?_, rfl⟩
          rw [AZ, e1, if_neg (by omega), e2, e3, e4]
          simp only [Hl, Pr, Bool.decide_eq_true, g1, hpick, Option.bind_some, Bool.false_eq_true, if_false, e3, e5, g0, g1, c5, Bool.not_false, if_true]
theorem Sn (hi first root : Nat) (d : Array (Int × Int × Int × Int × Int)) (hf : first + hi ≤ d.size) (hs : d.size ≤ 1000000000) (hr : root < 2000000000) : Ci d.toList (root : Int) (hi : Int) (first : Int) = some (siftDown AW hi first root d).toList := (Tu _ root d (Nat.le_refl _) hf hs hr).1
theorem Nw (hi first root : Nat) (d : Array (Int × Int × Int × Int × Int)) (hf : first + hi ≤ d.size) (hs : d.size ≤ 1000000000) (hr : root < 2000000000) : (siftDown AW hi first root d).size = d.size := (Tu _ root d (Nat.le_refl _) hf hs hr).2
theorem SC {a b : Nat} (hab : a ≤ b) : ∀ (k : Nat) (d : Array (Int × Int × Int × Int × Int)), b ≤ d.size → d.size ≤ 1000000000 → k ≤ 1000000000 → Ba (B4 (a : Int) (b : Int)) (d.toList, (k : Int) - 1) = some (heapBuild AW (b - a) a k d).toList ∧ (heapBuild AW (b - a) a k d).size = d.size
  | 0, d, hb, hs, hk => ⟨Bg (by rw [B4, if_neg (by omega)]; rfl), rfl⟩
  | k + 1, d, hb, hs, hk => by
    have e1 : AU ((b : Int) - (a : Int)) = ((b - a : Nat) : Int) := by rw [AK (by omega)]; omega
    have hst : B4 (a : Int) (b : Int) (d.toList, ((k + 1 : Nat) : Int) - 1) = some (.inl ((siftDown AW (b - a) a k d).toList, (k : Int) - 1)) := by
      rw [B4, if_pos (by omega), e1, show ((k + 1 : Nat) : Int) - 1 = (k : Int) by omega, Sn _ _ _ _ (by omega) hs (by omega), Option.bind_some, AK (by omega)]
    rw [Ce hst]
    have hz := Nw (b - a) a k d (by omega) hs (by omega)
    have := SC hab k (siftDown AW (b - a) a k d) (by omega) (by omega) (by omega)
    rw [heapBuild]
    exact ⟨this.1, by rw [this.2, hz]⟩
theorem U7 {a : Nat} : ∀ (k : Nat) (d : Array (Int × Int × Int × Int × Int)), a + k ≤ d.size → d.size ≤ 1000000000 → Ba (B6 (a : Int)) (d.toList, (k : Int) - 1) = some (heapPop AW a k d).toList
  | 0, d, hb, hs => Bg (by rw [B6, if_neg (by omega)]; rfl)
  | k + 1, d, hb, hs => by
    have e1 : ((k + 1 : Nat) : Int) - 1 = (k : Int) := by omega
    have e2 : AU ((a : Int) + (k : Int)) = ((a + k : Nat) : Int) := by rw [AK (by omega)]; omega
    have h0 := Hh (d := d) (show a < d.size by omega)
    have h1 := Hh (d := d) (show a + k < d.size by omega)
    have hz := size_swp d a (a + k)
    have hst : B6 (a : Int) (d.toList, ((k + 1 : Nat) : Int) - 1) = some (.inl ((siftDown AW k a 0 (swp d a (a + k))).toList, (k : Int) - 1)) := by
      rw [B6, e1, if_pos (by omega), e2]
      simp only [h1, h0, Option.bind_some, JF, Hh (show a + k < (d.setIfInBounds a d[a + k]!).size by simp; omega)]
      show (Ci (swp d a (a + k)).toList ((0 : Nat) : Int) (k : Int) (a : Int)).bind _ = _
      rw [Sn _ _ _ _ (by omega) (by omega) (by omega), Option.bind_some, AK (by omega)]
    rw [Ce hst, heapPop]
    have hz2 := Nw k a 0 (swp d a (a + k)) (by omega) (by omega) (by omega)
    exact U7 k _ (by omega) (by omega)
theorem Wb (d : Array (Int × Int × Int × Int × Int)) (a b : Nat) (hb : b ≤ d.size) (hs : d.size ≤ 1000000000) (ha : a < b) : CJ d.toList (a : Int) (b : Int) = some (heapSort AW d a b).toList := by
  unfold CJ
  have e1 : AU ((b : Int) - (a : Int)) = ((b - a : Nat) : Int) := by rw [AK (by omega)]; omega
  have e2 : AU (((b - a : Nat) : Int) - 1) = ((b - a : Nat) : Int) - 1 := AK (by omega)
  have e3 : AU (Int.tdiv (((b - a : Nat) : Int) - 1) 2) = (((b - a - 1) / 2 + 1 : Nat) : Int) - 1 := by
    rw [Int.tdiv_eq_ediv_of_nonneg (by omega), AK (by omega)]; omega
  rw [e1, e2, e3]
  have h := SC (Nat.le_of_lt ha) ((b - a - 1) / 2 + 1) d hb hs (by omega)
  rw [h.1, Option.bind_some, U7 _ _ (by rw [h.2]; omega) (by rw [h.2]; exact hs)]
  rfl
theorem Sb (d : Array (Int × Int × Int × Int × Int)) (a b s : Nat) (ha : a < d.size) (hb : b < d.size) (hs : s < 1000) : Cb d.toList (a : Int) (b : Int) (s : Int) = some (((order2 AW d a b s).1 : Int), ((order2 AW d a b s).2.1 : Int), ((order2 AW d a b s).2.2 : Int)) := by
  unfold Cb order2
  have h0 := Hh (d := d) ha
  have h1 := Hh (d := d) hb
  by_cases c : AW d[b]! d[a]! = true
  · simp only [h0, h1, Option.bind_some, Hl, Pr, Bool.decide_eq_true, c, if_true, AK (show -9223372036854775808 ≤ (s : Int) + 1 ∧ (s : Int) + 1 ≤ 9223372036854775807 by omega)]; rfl
  · simp only [h0, h1, Option.bind_some, Hl, Pr, Bool.decide_eq_true, c, Bool.false_eq_true, if_false]
theorem Uf (d : Array (Int × Int × Int × Int × Int)) (a b c s : Nat) (ha : a < d.size) (hb : b < d.size) (hc : c < d.size) (hs : s < 900) : Ca d.toList (a : Int) (b : Int) (c : Int) (s : Int) = some (((median AW d a b c s).1 : Int), ((median AW d a b c s).2 : Int)) := by
  unfold Ca median
  have m1 := order2_mem AW d a b s
  have k1 := order2_count AW d a b s
  rw [Sb d a b s ha hb (by omega), Option.bind_some]
  have m2 := order2_mem AW d (order2 AW d a b s).2.1 c (order2 AW d a b s).2.2
  have k2 := order2_count AW d (order2 AW d a b s).2.1 c (order2 AW d a b s).2.2
  rw [Sb d _ c _ (by omega) hc (by omega), Option.bind_some, Sb d _ _ _ (by omega) (by omega) (by omega)]; rfl
theorem R1 (d : Array (Int × Int × Int × Int × Int)) (a s : Nat) (h0 : 0 < a) (ha : a + 1 < d.size) (hb : d.size ≤ 1000000000) (hs : s < 900) : Bn d.toList (a : Int) (s : Int) = some (((medianAdjacent AW d a s).1 : Int), ((medianAdjacent AW d a s).2 : Int)) := by
  unfold Bn medianAdjacent
  rw [AK (x := (a : Int) - 1) (by omega), AK (x := (a : Int) + 1) (by omega), show (a : Int) - 1 = ((a - 1 : Nat) : Int) by omega, show (a : Int) + 1 = ((a + 1 : Nat) : Int) by omega, Uf d _ _ _ _ (by omega) (by omega) (by omega) hs]; rfl
def KX : Hint → Int
  | .unknown => 0
  | .increasing => 1
  | .decreasing => 2
theorem Vg (j s : Nat) : ((some ((j : Int), (s : Int))).bind fun (x : Int × Int) => match x with | (x1, x2) => (if x2 = 0 then some (x1, 1) else (if x2 = 12 then some (x1, 2) else some (x1, (0 : Int))))) = some ((j : Int), KX (if s = 0 then .increasing else if s = 12 then .decreasing else .unknown)) := by
  rw [Option.bind_some]
  show (if (s : Int) = 0 then some ((j : Int), (1 : Int)) else (if (s : Int) = 12 then some ((j : Int), 2) else some ((j : Int), 0))) = _
  by_cases c1 : s = 0
  · rw [if_pos (by omega), if_pos c1]; rfl
  · rw [if_neg (by omega), if_neg c1]
    by_cases c2 : s = 12
    · rw [if_pos (by omega), if_pos c2]; rfl
    · rw [if_neg (by omega), if_neg c2]; rfl
theorem Ym (d : Array (Int × Int × Int × Int × Int)) (a b : Nat) (hb : b ≤ d.size) (hs : d.size ≤ 1000000000) (ha : a + 12 < b) : Cq d.toList (a : Int) (b : Int) = some (((choosePivot AW d a b).1 : Int), KX (choosePivot AW d a b).2) := by
  unfold Cq
  have e1 : AU ((b : Int) - (a : Int)) = ((b - a : Nat) : Int) := by rw [AK (by omega)]; omega
  have e2 : AU (Int.tdiv ((b - a : Nat) : Int) 4) = (((b - a) / 4 : Nat) : Int) := by rw [Int.tdiv_eq_ediv_of_nonneg (by omega), AK (by omega)]; omega
  have f1 : AU ((a : Int) + AU ((((b - a) / 4 : Nat) : Int) * 1)) = ((a + (b - a) / 4 * 1 : Nat) : Int) := by rw [AK (x := (((b - a) / 4 : Nat) : Int) * 1) (by omega), AK (by omega)]; omega
  have f2 : AU ((a : Int) + AU ((((b - a) / 4 : Nat) : Int) * 2)) = ((a + (b - a) / 4 * 2 : Nat) : Int) := by rw [AK (x := (((b - a) / 4 : Nat) : Int) * 2) (by omega), AK (by omega)]; omega
  have f3 : AU ((a : Int) + AU ((((b - a) / 4 : Nat) : Int) * 3)) = ((a + (b - a) / 4 * 3 : Nat) : Int) := by rw [AK (x := (((b - a) / 4 : Nat) : Int) * 3) (by omega), AK (by omega)]; omega
  rw [e1, e2, f1, f2, f3, if_pos (by omega), choosePivot_eq]
  unfold rawPivot
  rw [if_pos (show b - a ≥ 8 by omega)]
  have b1 : a < a + (b - a) / 4 * 1 ∧ a + (b - a) / 4 * 3 + 1 < b := by omega
  have b2 : a + (b - a) / 4 * 1 < a + (b - a) / 4 * 2 ∧ a + (b - a) / 4 * 2 < a + (b - a) / 4 * 3 := by omega
  generalize a + (b - a) / 4 * 1 = i at b1 b2 ⊢
  generalize a + (b - a) / 4 * 2 = j at b2 ⊢
  generalize a + (b - a) / 4 * 3 = k at b1 b2 ⊢
  by_cases c : b - a ≥ 50
  · rw [if_pos (show (50 : Int) ≤ ((b - a : Nat) : Int) by omega), if_pos c]
    have g1 := medianAdjacent_count AW d i 0
    have n1 := medianAdjacent_mem AW d i 0
    have q1 := R1 d i 0 (by omega) (by omega) hs (by omega)
    generalize medianAdjacent AW d i 0 = r1 at g1 n1 q1 ⊢
    have g2 := medianAdjacent_count AW d j r1.2
    have n2 := medianAdjacent_mem AW d j r1.2
    have q2 := R1 d j r1.2 (by omega) (by omega) hs (by omega)
    generalize medianAdjacent AW d j r1.2 = r2 at g2 n2 q2 ⊢
    have g3 := medianAdjacent_count AW d k r2.2
    have n3 := medianAdjacent_mem AW d k r2.2
    have q3 := R1 d k r2.2 (by omega) (by omega) hs (by omega)
    generalize medianAdjacent AW d k r2.2 = r3 at g3 n3 q3 ⊢
    have q4 := Uf d r1.1 r2.1 r3.1 r3.2 (by omega) (by omega) (by omega) (by omega)
    generalize median AW d r1.1 r2.1 r3.1 r3.2 = r4 at q4 ⊢
    have q1' : Bn d.toList (i : Int) 0 = some ((r1.1 : Int), (r1.2 : Int)) := q1
    rw [q1', Option.bind_some]
    simp only []
    rw [q2, Option.bind_some]
    simp only []
    rw [q3, Option.bind_some, Option.bind_some]
    simp only []
    rw [q4, Option.bind_some]
    exact Vg r4.1 r4.2
  · rw [if_neg (show ¬ (50 : Int) ≤ ((b - a : Nat) : Int) by omega), if_neg c]
    have q4 := Uf d i j k 0 (by omega) (by omega) (by omega) (by omega)
    generalize median AW d i j k 0 = r4 at q4 ⊢
    have q4' : Ca d.toList (i : Int) (j : Int) (k : Int) 0 = some ((r4.1 : Int), (r4.2 : Int)) := q4
    rw [Option.bind_some]
    simp only []
    rw [q4', Option.bind_some]
    exact Vg r4.1 r4.2
theorem TN : ∀ (m i j : Nat) (d : Array (Int × Int × Int × Int × Int)), j - i ≤ m → j < d.size → d.size ≤ 1000000000 → Ba Bv (d.toList, (i : Int), (j : Int)) = some (reverseLoop i j d).toList := by
  intro m
  induction m with
  | zero =>
    intro i j d hm hj hs
    rw [reverseLoop, if_neg (by omega)]
    exact Bg (by rw [Bv, if_neg (by omega)])
  | succ m ih =>
    intro i j d hm hj hs
    rw [reverseLoop]
    by_cases c : i < j
    · rw [if_pos c]
      have h0 := Hh (d := d) (show i < d.size by omega)
      have h1 := Hh (d := d) hj
      have hst : Bv (d.toList, (i : Int), (j : Int)) = some (.inl ((swp d i j).toList, ((i + 1 : Nat) : Int), ((j - 1 : Nat) : Int))) := by
        rw [Bv, if_pos (by omega)]
        simp only [h0, h1, Option.bind_some, JF, Hh (show j < (d.setIfInBounds i d[j]!).size by simp; omega)]
        rw [AK (x := (i : Int) + 1) (by omega), AK (x := (j : Int) - 1) (by omega), show (j : Int) - 1 = ((j - 1 : Nat) : Int) by omega]; rfl
      rw [Ce hst]
      exact ih (i + 1) (j - 1) _ (by omega) (by rw [size_swp]; omega) (by rw [size_swp]; exact hs)
    · rw [if_neg c]
      exact Bg (by rw [Bv, if_neg (by omega)])
theorem Xb (d : Array (Int × Int × Int × Int × Int)) (a b : Nat) (hb : b ≤ d.size) (hs : d.size ≤ 1000000000) (ha : a < b) : BX d.toList (a : Int) (b : Int) = some (reverseRange d a b).toList := by
  unfold BX
  rw [AK (by omega), show (b : Int) - 1 = ((b - 1 : Nat) : Int) by omega]
  exact TN _ a (b - 1) d (Nat.le_refl _) (by omega) hs
end
end Go.Proofs.YtpckgggmgijiiaaGreatDoor
