/- Layer 27: the order of packets; the sort's parts, first half. Conditions: none. -/
import Derived.Test.YtpckgggmgijiiaaGreatDoorbMP
import Derived.Test.YtpckgggmgijiiaaGreatDoorbA7
namespace Go.Proofs.YtpckgggmgijiiaaGreatDoor
set_option linter.unusedVariables false
set_option linter.unusedSimpArgs false
open Go Go.RowKit
abbrev Se := Int × Int × Int × Int × Int
instance : Inhabited Se := ⟨(0, 0, 0, 0, 0)⟩
theorem Vm (a b : Int) : AZ a b = if a < b then -1 else if b < a then 1 else 0 := by
  unfold AZ DZ
  simp
def T7 : List Int → List Int → Int
  | x :: a, y :: b => if AZ x y ≠ 0 then AZ x y else T7 a b
  | _, _ => 0
theorem Tg : ∀ a b : List Int, a.length = b.length → (T7 a b < 0 ↔ HS a b = true)
  | [], [], _ => by simp [T7, HS]
  | [], y :: b, h => by simp at h
  | x :: a, [], h => by simp at h
  | x :: a, y :: b, h => by
    unfold T7 HS
    have ih := Tg a b (by simpa using h)
    rw [Vm]
    by_cases h1 : x < y
    · simp [h1]
    · by_cases h2 : y < x
      · have : ¬ x = y := by omega
        simp [h1, h2, this]
      · have : x = y := by omega
        subst this
        simp [h1, ih]
theorem Y5 (a b : Int) : HO [a, b] = some (if a ≠ 0 then a else b) := by
  unfold HO
  by_cases ha : a ≠ 0
  · rw [if_pos ha, A9 (e := .inr a) (by rw [Ez, if_pos (by show (0 : Int) < 2; decide)]; show (some a).bind _ = _; rw [Option.bind_some, if_pos ha])]; rfl
  · rw [if_neg ha, BV (s' := 1) (by rw [Ez, if_pos (by show (0 : Int) < 2; decide)]; show (some a).bind _ = _; rw [Option.bind_some, if_neg ha]; rfl)]
    by_cases hb : b ≠ 0
    · rw [A9 (e := .inr b) (by rw [Ez, if_pos (by show (1 : Int) < 2; decide)]; show (some b).bind _ = _; rw [Option.bind_some, if_pos hb])]; rfl
    · rw [BV (s' := 2) (by rw [Ez, if_pos (by show (1 : Int) < 2; decide)]; show (some b).bind _ = _; rw [Option.bind_some, if_neg hb]; rfl), A9 (e := .inl ()) (by rw [Ez, if_neg (by show ¬ (2 : Int) < 2; decide)])]
      rw [Decidable.not_not.1 hb]; rfl
theorem YD (a b c d x y z u : Int) : Dn [a, b, c, d] [x, y, z, u] = some (T7 [a, b, c, d] [x, y, z, u]) := by
  have st : ∀ (i : Nat) (p q : Int) (s : Int), s = (i : Int) → i < 4 → [a, b, c, d][i]? = some p → [x, y, z, u][i]? = some q → C6 [a, b, c, d] [x, y, z, u] s = if AZ p q ≠ 0 then some (.inr (.inr (AZ p q))) else some (.inl ((i : Int) + 1)) := fun i p q s hs hi hp hq => by
    subst hs
    rw [C6, if_pos (by show (i : Int) < 4; omega), Dv hp, Option.bind_some, if_neg (by show ¬ (4 : Int) ≤ i; omega), Dv hq, Option.bind_some]
    by_cases h : AZ p q ≠ 0
    · rw [if_pos h, if_pos h]
    · rw [if_neg h, if_neg h]
      have : AO ((i : Int) + 1) = (i : Int) + 1 := AF ⟨by omega, by omega⟩
      rw [this]
  unfold Dn
  unfold T7
  by_cases h0 : AZ a x ≠ 0
  · rw [if_pos h0, A9 (e := .inr (AZ a x)) (by rw [st 0 a x 0 rfl (by decide) rfl rfl, if_pos h0])]; rfl
  rw [if_neg h0, BV (s' := 1) (by rw [st 0 a x 0 rfl (by decide) rfl rfl, if_neg h0]; rfl)]
  unfold T7
  by_cases h1 : AZ b y ≠ 0
  · rw [if_pos h1, A9 (e := .inr (AZ b y)) (by rw [st 1 b y 1 rfl (by decide) rfl rfl, if_pos h1])]; rfl
  rw [if_neg h1, BV (s' := 2) (by rw [st 1 b y 1 rfl (by decide) rfl rfl, if_neg h1]; rfl)]
  unfold T7
  by_cases h2 : AZ c z ≠ 0
  · rw [if_pos h2, A9 (e := .inr (AZ c z)) (by rw [st 2 c z 2 rfl (by decide) rfl rfl, if_pos h2])]; rfl
  rw [if_neg h2, BV (s' := 3) (by rw [st 2 c z 2 rfl (by decide) rfl rfl, if_neg h2]; rfl)]
  unfold T7
  by_cases h3 : AZ d u ≠ 0
  · rw [if_pos h3, A9 (e := .inr (AZ d u)) (by rw [st 3 d u 3 rfl (by decide) rfl rfl, if_pos h3])]; rfl
  rw [if_neg h3, BV (s' := 4) (by rw [st 3 d u 3 rfl (by decide) rfl rfl, if_neg h3]; rfl), A9 (e := .inl ()) (by rw [C6, if_neg (by show ¬ (4 : Int) < 4; decide)])]
  rfl
def VO (p q : Se) : Int := T7 (SI p) (SI q)
theorem Gq (p q : Se) : Cj p q = some (VO p q) := by
  unfold Cj
  rw [YD, Option.bind_some, Y5]
  rfl
def AQ (p q : Se) : Bool := decide (VO p q < 0)
theorem O3 (x y : Se) : (VO x y < 0) = (AQ x y = true) := by unfold AQ; simp
theorem Na (p q : Se) : AQ p q = Bi p q := by
  rw [Bool.eq_iff_iff, ← O3]
  exact Tg _ _ rfl
theorem VH : Go.Sort.SWO AQ := ⟨fun x => by rw [Na]; exact H2.irr x, fun x y z h1 h2 => by rw [Na] at *; exact H2.tr h1 h2, fun x y z h1 h2 => by
  rw [Na] at *
  cases h : Bi x z with
  | false => rfl
  | true =>
    cases h3 : Bi y x with
    | true => rw [H2.tr h3 h] at h2; cases h2
    | false => rw [H2.tot h1 h3, h2] at h; cases h⟩
section
open Go.Sort
theorem Q5 {a : Nat} : ∀ (j : Nat) (d : Array (Int × Int × Int × Int × Int)), j < d.size → d.size ≤ 1000000000 → AW (Bb (a : Int)) (d.toList, (j : Int)) = some (insInner AQ a j d).toList
  | 0, d, hj, hb => A9 (by rw [Bb, if_neg (by omega), Option.bind_some, if_neg (by decide)]; rfl)
  | j + 1, d, hj, hb => by
    have e1 : AO (((j + 1 : Nat) : Int) - 1) = (j : Int) := by rw [AF (by omega)]; omega
    have h1 := Gg (d := d) hj
    have h0 := Gg (d := d) (show j < d.size by omega)
    rw [insInner]
    by_cases c : a < j + 1
    · by_cases c2 : AQ d[j + 1]! d[j]! = true
      · rw [if_pos (by simp [c, c2])]
        have hst : Bb (a : Int) (d.toList, ((j + 1 : Nat) : Int)) = some (.inl ((swp d (j + 1) j).toList, (j : Int))) := by
          rw [Bb, if_pos (by omega), e1]
          simp only [h1, h0, Option.bind_some, Gq, O3, Bool.decide_eq_true, c2, if_true, I4, Gg (show j < (d.setIfInBounds (j + 1) d[j]!).size by simp; omega)]
          rfl
        rw [BV hst]
        exact Q5 j _ (by rw [size_swp]; omega) (by rw [size_swp]; exact hb)
      · rw [if_neg (by simp [c2])]
        refine A9 ?_
        rw [Bb, if_pos (by omega), e1]
        simp only [h1, h0, Option.bind_some, Gq, O3, Bool.decide_eq_true, c2, Bool.false_eq_true, if_false]
    · rw [if_neg (by simp; omega)]
      exact A9 (by rw [Bb, if_neg (by omega), Option.bind_some, if_neg (by decide)])
theorem Sq {a b : Nat} : ∀ (m i : Nat) (d : Array (Int × Int × Int × Int × Int)), b - i = m → b ≤ d.size → d.size ≤ 1000000000 → AW (BB (a : Int) (b : Int)) (d.toList, (i : Int)) = some (insOuter AQ a b i d).toList := by
  intro m
  induction m with
  | zero =>
    intro i d hm hb hs
    rw [insOuter, if_neg (by omega)]
    exact A9 (by rw [BB, if_neg (by omega)])
  | succ m ih =>
    intro i d hm hb hs
    rw [insOuter, if_pos (by omega)]
    have hst : BB (a : Int) (b : Int) (d.toList, (i : Int)) = some (.inl ((insInner AQ a i d).toList, ((i + 1 : Nat) : Int))) := by
      rw [BB, if_pos (by omega), Q5 i d (by omega) hs, Option.bind_some, AF (by omega)]; rfl
    rw [BV hst]
    exact ih (i + 1) _ (by omega) (by rw [Ip]; exact hb) (by rw [Ip]; exact hs)
theorem WH (d : Array (Int × Int × Int × Int × Int)) (a b : Nat) (hb : b ≤ d.size) (hs : d.size ≤ 1000000000) (ha : a ≤ b) : B5 d.toList (a : Int) (b : Int) = some (insertionSort AQ d a b).toList := by
  unfold B5
  rw [AF (by omega)]
  exact Sq _ (a + 1) d rfl hb hs
theorem Te {hi first : Nat} : ∀ (m root : Nat) (d : Array (Int × Int × Int × Int × Int)), hi - root ≤ m → first + hi ≤ d.size → d.size ≤ 1000000000 → root < 2000000000 → AW (AU (hi : Int) (first : Int)) (d.toList, (root : Int)) = some (siftDown AQ hi first root d).toList ∧ (siftDown AQ hi first root d).size = d.size := by
  intro m
  induction m with
  | zero =>
    intro root d hm hf hs hr
    have e1 : AO ((AO (2 * (root : Int))) + 1) = ((2 * root + 1 : Nat) : Int) := by rw [AF (x := 2 * (root : Int)) (by omega), AF (by omega)]; omega
    rw [siftDown, dif_pos (by omega)]
    exact ⟨A9 (by rw [AU, e1, if_pos (by omega)]), rfl⟩
  | succ m ih =>
    intro root d hm hf hs hr
    have e1 : AO ((AO (2 * (root : Int))) + 1) = ((2 * root + 1 : Nat) : Int) := by rw [AF (x := 2 * (root : Int)) (by omega), AF (by omega)]; omega
    rw [siftDown]
    by_cases c : 2 * root + 1 ≥ hi
    · rw [dif_pos c]
      exact ⟨A9 (by rw [AU, e1, if_pos (by omega)]), rfl⟩
    · rw [dif_neg c]
      have e2 : AO (((2 * root + 1 : Nat) : Int) + 1) = ((2 * root + 2 : Nat) : Int) := by rw [AF (by omega)]; omega
      have e3 : AO ((first : Int) + ((2 * root + 1 : Nat) : Int)) = ((first + (2 * root + 1) : Nat) : Int) := by rw [AF (by omega)]; omega
      have e4 : AO (((first + (2 * root + 1) : Nat) : Int) + 1) = ((first + (2 * root + 1) + 1 : Nat) : Int) := by rw [AF (by omega)]; omega
      have e5 : AO ((first : Int) + (root : Int)) = ((first + root : Nat) : Int) := by rw [AF (by omega)]; omega
      have e6 : AO ((first : Int) + ((2 * root + 2 : Nat) : Int)) = ((first + (2 * root + 2) : Nat) : Int) := by rw [AF (by omega)]; omega
      have g0 := Gg (d := d) (show first + root < d.size by omega)
      have g1 := Gg (d := d) (show first + (2 * root + 1) < d.size by omega)
      by_cases c2 : (decide (2 * root + 1 + 1 < hi) && AQ d[first + (2 * root + 1)]! d[first + (2 * root + 1) + 1]!) = true
      · have c3 : 2 * root + 2 < hi := by have := (Bool.and_eq_true _ _ ▸ c2).1; simpa using this
        have c4 := (Bool.and_eq_true _ _ ▸ c2).2
        have g2 := Gg (d := d) (show first + (2 * root + 1) + 1 < d.size by omega)
        have g3 := Gg (d := d) (show first + (2 * root + 2) < d.size by omega)
        rw [if_pos c2]
        by_cases c5 : AQ d[first + root]! d[first + (2 * root + 2)]! = true
        · rw [if_neg (by rw [c5]; decide), dif_pos c3]
          have hst : AU (hi : Int) (first : Int) (d.toList, (root : Int)) = some (.inl ((swp d (first + root) (first + (2 * root + 2))).toList, ((2 * root + 2 : Nat) : Int))) := by
            rw [AU, e1, if_neg (by omega), e2, if_pos (by omega), e3, e4]
            simp only [g1, g2, Option.bind_some, Gq, O3, Bool.decide_eq_true, c4, if_true, e5, e6, g0, g3, c5, Bool.not_true, Bool.false_eq_true, if_false, I4, Gg (show first + (2 * root + 2) < (d.setIfInBounds (first + root) d[first + (2 * root + 2)]!).size by simp; omega)]
            rfl
          rw [BV hst]
          have := ih (2 * root + 2) (swp d (first + root) (first + (2 * root + 2))) (by omega) (by rw [size_swp]; exact hf) (by rw [size_swp]; exact hs) (by omega)
          exact ⟨this.1, by rw [this.2, size_swp]⟩
        · rw [if_pos (by simpa using c5)]
          refine ⟨A9 ?_, rfl⟩
          rw [AU, e1, if_neg (by omega), e2, if_pos (by omega), e3, e4]
          simp only [g1, g2, Option.bind_some, Gq, O3, Bool.decide_eq_true, c4, if_true, e5, e6, g0, g3, c5, Bool.not_false]
      · rw [if_neg c2]
        have hpick : (if ((2 * root + 2 : Nat) : Int) < (hi : Int) then (ix d.toList ((first + (2 * root + 1) + 1 : Nat) : Int)).bind fun x6 => some (AQ d[first + (2 * root + 1)]! x6) else some false) = some false := by
          by_cases c3 : 2 * root + 2 < hi
          · rw [if_pos (by omega), Gg (d := d) (show first + (2 * root + 1) + 1 < d.size by omega), Option.bind_some]
            congr 1
            by_cases c4 : AQ d[first + (2 * root + 1)]! d[first + (2 * root + 1) + 1]! = true
            · exact absurd (by rw [c4]; simp; omega) c2
            · simpa using c4
          · rw [if_neg (by omega)]
        by_cases c5 : AQ d[first + root]! d[first + (2 * root + 1)]! = true
        · rw [if_neg (by rw [c5]; decide)]
          have hst : AU (hi : Int) (first : Int) (d.toList, (root : Int)) = some (.inl ((swp d (first + root) (first + (2 * root + 1))).toList, ((2 * root + 1 : Nat) : Int))) := by
            rw [AU, e1, if_neg (by omega), e2, e3, e4]
            simp only [Gq, O3, Bool.decide_eq_true, g1, hpick, Option.bind_some, Bool.false_eq_true, if_false, e3, e5, g0, g1, c5, Bool.not_true, I4, Gg (show first + (2 * root + 1) < (d.setIfInBounds (first + root) d[first + (2 * root + 1)]!).size by simp; omega)]
            rfl
          rw [BV hst]
          have := ih (2 * root + 1) (swp d (first + root) (first + (2 * root + 1))) (by omega) (by rw [size_swp]; exact hf) (by rw [size_swp]; exact hs) (by omega)
          exact ⟨this.1, by rw [this.2, size_swp]⟩
        · rw [if_pos (by simpa using c5)]
          refine ⟨A9 ?_, rfl⟩
          rw [AU, e1, if_neg (by omega), e2, e3, e4]
          simp only [Gq, O3, Bool.decide_eq_true, g1, hpick, Option.bind_some, Bool.false_eq_true, if_false, e3, e5, g0, g1, c5, Bool.not_false, if_true]
theorem R0 (hi first root : Nat) (d : Array (Int × Int × Int × Int × Int)) (hf : first + hi ≤ d.size) (hs : d.size ≤ 1000000000) (hr : root < 2000000000) : B6 d.toList (root : Int) (hi : Int) (first : Int) = some (siftDown AQ hi first root d).toList := (Te _ root d (Nat.le_refl _) hf hs hr).1
theorem MB (hi first root : Nat) (d : Array (Int × Int × Int × Int × Int)) (hf : first + hi ≤ d.size) (hs : d.size ≤ 1000000000) (hr : root < 2000000000) : (siftDown AQ hi first root d).size = d.size := (Te _ root d (Nat.le_refl _) hf hs hr).2
theorem R1 {a b : Nat} (hab : a ≤ b) : ∀ (k : Nat) (d : Array (Int × Int × Int × Int × Int)), b ≤ d.size → d.size ≤ 1000000000 → k ≤ 1000000000 → AW (BT (a : Int) (b : Int)) (d.toList, (k : Int) - 1) = some (heapBuild AQ (b - a) a k d).toList ∧ (heapBuild AQ (b - a) a k d).size = d.size
  | 0, d, hb, hs, hk => ⟨A9 (by rw [BT, if_neg (by omega)]; rfl), rfl⟩
  | k + 1, d, hb, hs, hk => by
    have e1 : AO ((b : Int) - (a : Int)) = ((b - a : Nat) : Int) := by rw [AF (by omega)]; omega
    have hst : BT (a : Int) (b : Int) (d.toList, ((k + 1 : Nat) : Int) - 1) = some (.inl ((siftDown AQ (b - a) a k d).toList, (k : Int) - 1)) := by
      rw [BT, if_pos (by omega), e1, show ((k + 1 : Nat) : Int) - 1 = (k : Int) by omega, R0 _ _ _ _ (by omega) hs (by omega), Option.bind_some, AF (by omega)]
    rw [BV hst]
    have hz := MB (b - a) a k d (by omega) hs (by omega)
    have := R1 hab k (siftDown AQ (b - a) a k d) (by omega) (by omega) (by omega)
    rw [heapBuild]
    exact ⟨this.1, by rw [this.2, hz]⟩
theorem UR {a : Nat} : ∀ (k : Nat) (d : Array (Int × Int × Int × Int × Int)), a + k ≤ d.size → d.size ≤ 1000000000 → AW (BS (a : Int)) (d.toList, (k : Int) - 1) = some (heapPop AQ a k d).toList
  | 0, d, hb, hs => A9 (by rw [BS, if_neg (by omega)]; rfl)
  | k + 1, d, hb, hs => by
    have e1 : ((k + 1 : Nat) : Int) - 1 = (k : Int) := by omega
    have e2 : AO ((a : Int) + (k : Int)) = ((a + k : Nat) : Int) := by rw [AF (by omega)]; omega
    have h0 := Gg (d := d) (show a < d.size by omega)
    have h1 := Gg (d := d) (show a + k < d.size by omega)
    have hz := size_swp d a (a + k)
    have hst : BS (a : Int) (d.toList, ((k + 1 : Nat) : Int) - 1) = some (.inl ((siftDown AQ k a 0 (swp d a (a + k))).toList, (k : Int) - 1)) := by
      rw [BS, e1, if_pos (by omega), e2]
      simp only [h1, h0, Option.bind_some, I4, Gg (show a + k < (d.setIfInBounds a d[a + k]!).size by simp; omega)]
      show (B6 (swp d a (a + k)).toList ((0 : Nat) : Int) (k : Int) (a : Int)).bind _ = _
      rw [R0 _ _ _ _ (by omega) (by omega) (by omega), Option.bind_some, AF (by omega)]
    rw [BV hst, heapPop]
    have hz2 := MB k a 0 (swp d a (a + k)) (by omega) (by omega) (by omega)
    exact UR k _ (by omega) (by omega)
theorem Vx (d : Array (Int × Int × Int × Int × Int)) (a b : Nat) (hb : b ≤ d.size) (hs : d.size ≤ 1000000000) (ha : a < b) : Cy d.toList (a : Int) (b : Int) = some (heapSort AQ d a b).toList := by
  unfold Cy
  have e1 : AO ((b : Int) - (a : Int)) = ((b - a : Nat) : Int) := by rw [AF (by omega)]; omega
  have e2 : AO (((b - a : Nat) : Int) - 1) = ((b - a : Nat) : Int) - 1 := AF (by omega)
  have e3 : AO (Int.tdiv (((b - a : Nat) : Int) - 1) 2) = (((b - a - 1) / 2 + 1 : Nat) : Int) - 1 := by
    rw [Int.tdiv_eq_ediv_of_nonneg (by omega), AF (by omega)]; omega
  rw [e1, e2, e3]
  have h := R1 (Nat.le_of_lt ha) ((b - a - 1) / 2 + 1) d hb hs (by omega)
  rw [h.1, Option.bind_some, UR _ _ (by rw [h.2]; omega) (by rw [h.2]; exact hs)]
  rfl
theorem Rh (d : Array (Int × Int × Int × Int × Int)) (a b s : Nat) (ha : a < d.size) (hb : b < d.size) (hs : s < 1000) : BZ d.toList (a : Int) (b : Int) (s : Int) = some (((order2 AQ d a b s).1 : Int), ((order2 AQ d a b s).2.1 : Int), ((order2 AQ d a b s).2.2 : Int)) := by
  unfold BZ order2
  have h0 := Gg (d := d) ha
  have h1 := Gg (d := d) hb
  by_cases c : AQ d[b]! d[a]! = true
  · simp only [h0, h1, Option.bind_some, Gq, O3, Bool.decide_eq_true, c, if_true, AF (show -9223372036854775808 ≤ (s : Int) + 1 ∧ (s : Int) + 1 ≤ 9223372036854775807 by omega)]; rfl
  · simp only [h0, h1, Option.bind_some, Gq, O3, Bool.decide_eq_true, c, Bool.false_eq_true, if_false]
theorem TY (d : Array (Int × Int × Int × Int × Int)) (a b c s : Nat) (ha : a < d.size) (hb : b < d.size) (hc : c < d.size) (hs : s < 900) : B0 d.toList (a : Int) (b : Int) (c : Int) (s : Int) = some (((median AQ d a b c s).1 : Int), ((median AQ d a b c s).2 : Int)) := by
  unfold B0 median
  have m1 := order2_mem AQ d a b s
  have k1 := order2_count AQ d a b s
  rw [Rh d a b s ha hb (by omega), Option.bind_some]
  have m2 := order2_mem AQ d (order2 AQ d a b s).2.1 c (order2 AQ d a b s).2.2
  have k2 := order2_count AQ d (order2 AQ d a b s).2.1 c (order2 AQ d a b s).2.2
  rw [Rh d _ c _ (by omega) hc (by omega), Option.bind_some, Rh d _ _ _ (by omega) (by omega) (by omega)]; rfl
theorem Rj (d : Array (Int × Int × Int × Int × Int)) (a s : Nat) (h0 : 0 < a) (ha : a + 1 < d.size) (hb : d.size ≤ 1000000000) (hs : s < 900) : Bh d.toList (a : Int) (s : Int) = some (((medianAdjacent AQ d a s).1 : Int), ((medianAdjacent AQ d a s).2 : Int)) := by
  unfold Bh medianAdjacent
  rw [AF (x := (a : Int) - 1) (by omega), AF (x := (a : Int) + 1) (by omega), show (a : Int) - 1 = ((a - 1 : Nat) : Int) by omega, show (a : Int) + 1 = ((a + 1 : Nat) : Int) by omega, TY d _ _ _ _ (by omega) (by omega) (by omega) hs]; rfl
def J1 : Hint → Int
  | .unknown => 0
  | .increasing => 1
  | .decreasing => 2
theorem UV (j s : Nat) : ((some ((j : Int), (s : Int))).bind fun (x : Int × Int) => match x with | (x1, x2) => (if x2 = 0 then some (x1, 1) else (if x2 = 12 then some (x1, 2) else some (x1, (0 : Int))))) = some ((j : Int), J1 (if s = 0 then .increasing else if s = 12 then .decreasing else .unknown)) := by
  rw [Option.bind_some]
  show (if (s : Int) = 0 then some ((j : Int), (1 : Int)) else (if (s : Int) = 12 then some ((j : Int), 2) else some ((j : Int), 0))) = _
  by_cases c1 : s = 0
  · rw [if_pos (by omega), if_pos c1]; rfl
  · rw [if_neg (by omega), if_neg c1]
    by_cases c2 : s = 12
    · rw [if_pos (by omega), if_pos c2]; rfl
    · rw [if_neg (by omega), if_neg c2]; rfl
theorem Xs (d : Array (Int × Int × Int × Int × Int)) (a b : Nat) (hb : b ≤ d.size) (hs : d.size ≤ 1000000000) (ha : a + 12 < b) : Cg d.toList (a : Int) (b : Int) = some (((choosePivot AQ d a b).1 : Int), J1 (choosePivot AQ d a b).2) := by
  unfold Cg
  have e1 : AO ((b : Int) - (a : Int)) = ((b - a : Nat) : Int) := by rw [AF (by omega)]; omega
  have e2 : AO (Int.tdiv ((b - a : Nat) : Int) 4) = (((b - a) / 4 : Nat) : Int) := by rw [Int.tdiv_eq_ediv_of_nonneg (by omega), AF (by omega)]; omega
  have f1 : AO ((a : Int) + AO ((((b - a) / 4 : Nat) : Int) * 1)) = ((a + (b - a) / 4 * 1 : Nat) : Int) := by rw [AF (x := (((b - a) / 4 : Nat) : Int) * 1) (by omega), AF (by omega)]; omega
  have f2 : AO ((a : Int) + AO ((((b - a) / 4 : Nat) : Int) * 2)) = ((a + (b - a) / 4 * 2 : Nat) : Int) := by rw [AF (x := (((b - a) / 4 : Nat) : Int) * 2) (by omega), AF (by omega)]; omega
  have f3 : AO ((a : Int) + AO ((((b - a) / 4 : Nat) : Int) * 3)) = ((a + (b - a) / 4 * 3 : Nat) : Int) := by rw [AF (x := (((b - a) / 4 : Nat) : Int) * 3) (by omega), AF (by omega)]; omega
  rw [e1, e2, f1, f2, f3, if_pos (by omega), choosePivot_eq]
  unfold rawPivot
  rw [if_pos (show b - a ≥ 8 by omega)]
  have b1 : a < a + (b - a) / 4 * 1 ∧ a + (b - a) / 4 * 3 + 1 < b := by omega
  have b2 : a + (b - a) / 4 * 1 < a + (b - a) / 4 * 2 ∧ a + (b - a) / 4 * 2 < a + (b - a) / 4 * 3 := by omega
  generalize a + (b - a) / 4 * 1 = i at b1 b2 ⊢
  generalize a + (b - a) / 4 * 2 = j at b2 ⊢
  generalize a + (b - a) / 4 * 3 = k at b1 b2 ⊢
  by_cases c : b - a ≥ 50
  · rw [if_pos (show (50 : Int) ≤ ((b - a : Nat) : Int) by omega), if_pos c]
    have g1 := medianAdjacent_count AQ d i 0
    have n1 := medianAdjacent_mem AQ d i 0
    have q1 := Rj d i 0 (by omega) (by omega) hs (by omega)
    generalize medianAdjacent AQ d i 0 = r1 at g1 n1 q1 ⊢
    have g2 := medianAdjacent_count AQ d j r1.2
    have n2 := medianAdjacent_mem AQ d j r1.2
    have q2 := Rj d j r1.2 (by omega) (by omega) hs (by omega)
    generalize medianAdjacent AQ d j r1.2 = r2 at g2 n2 q2 ⊢
    have g3 := medianAdjacent_count AQ d k r2.2
    have n3 := medianAdjacent_mem AQ d k r2.2
    have q3 := Rj d k r2.2 (by omega) (by omega) hs (by omega)
    generalize medianAdjacent AQ d k r2.2 = r3 at g3 n3 q3 ⊢
    have q4 := TY d r1.1 r2.1 r3.1 r3.2 (by omega) (by omega) (by omega) (by omega)
    generalize median AQ d r1.1 r2.1 r3.1 r3.2 = r4 at q4 ⊢
    have q1' : Bh d.toList (i : Int) 0 = some ((r1.1 : Int), (r1.2 : Int)) := q1
    rw [q1', Option.bind_some]
    simp only []
    rw [q2, Option.bind_some]
    simp only []
    rw [q3, Option.bind_some, Option.bind_some]
    simp only []
    rw [q4, Option.bind_some]
    exact UV r4.1 r4.2
  · rw [if_neg (show ¬ (50 : Int) ≤ ((b - a : Nat) : Int) by omega), if_neg c]
    have q4 := TY d i j k 0 (by omega) (by omega) (by omega) (by omega)
    generalize median AQ d i j k 0 = r4 at q4 ⊢
    have q4' : B0 d.toList (i : Int) (j : Int) (k : Int) 0 = some ((r4.1 : Int), (r4.2 : Int)) := q4
    rw [Option.bind_some]
    simp only []
    rw [q4', Option.bind_some]
    exact UV r4.1 r4.2
theorem SX : ∀ (m i j : Nat) (d : Array (Int × Int × Int × Int × Int)), j - i ≤ m → j < d.size → d.size ≤ 1000000000 → AW Bm (d.toList, (i : Int), (j : Int)) = some (reverseLoop i j d).toList := by
  intro m
  induction m with
  | zero =>
    intro i j d hm hj hs
    rw [reverseLoop, if_neg (by omega)]
    exact A9 (by rw [Bm, if_neg (by omega)])
  | succ m ih =>
    intro i j d hm hj hs
    rw [reverseLoop]
    by_cases c : i < j
    · rw [if_pos c]
      have h0 := Gg (d := d) (show i < d.size by omega)
      have h1 := Gg (d := d) hj
      have hst : Bm (d.toList, (i : Int), (j : Int)) = some (.inl ((swp d i j).toList, ((i + 1 : Nat) : Int), ((j - 1 : Nat) : Int))) := by
        rw [Bm, if_pos (by omega)]
        simp only [h0, h1, Option.bind_some, I4, Gg (show j < (d.setIfInBounds i d[j]!).size by simp; omega)]
        rw [AF (x := (i : Int) + 1) (by omega), AF (x := (j : Int) - 1) (by omega), show (j : Int) - 1 = ((j - 1 : Nat) : Int) by omega]; rfl
      rw [BV hst]
      exact ih (i + 1) (j - 1) _ (by omega) (by rw [size_swp]; omega) (by rw [size_swp]; exact hs)
    · rw [if_neg c]
      exact A9 (by rw [Bm, if_neg (by omega)])
theorem V5 (d : Array (Int × Int × Int × Int × Int)) (a b : Nat) (hb : b ≤ d.size) (hs : d.size ≤ 1000000000) (ha : a < b) : BO d.toList (a : Int) (b : Int) = some (reverseRange d a b).toList := by
  unfold BO
  rw [AF (by omega), show (b : Int) - 1 = ((b - 1 : Nat) : Int) by omega]
  exact SX _ a (b - 1) d (Nat.le_refl _) (by omega) hs
end
end Go.Proofs.YtpckgggmgijiiaaGreatDoor
