/- Layer 24: the order of moves; the sort's parts, first half. Conditions: none. -/
import Derived.Test.YtghpabmmdenaoaabMP
import Derived.Test.YtghpabmmdenaoaabA5
namespace Go.Proofs.Ytghpabmmdenaoaa
set_option linter.unusedVariables false
set_option linter.unusedSimpArgs false
open Go Go.RowKit
abbrev Mv := Int × Int × Int × Int
instance : Inhabited Mv := ⟨(0, 0, 0, 0)⟩
def RL (x y : Mv) : Int := if AY x.2.2.2 y.2.2.2 ≠ 0 then AY x.2.2.2 y.2.2.2 else if AY x.1 y.1 ≠ 0 then AY x.1 y.1 else AY x.2.1 y.2.1
theorem VA (a b c : Int) : Gh [a, b, c] = some (if a ≠ 0 then a else if b ≠ 0 then b else c) := by
  unfold Gh
  by_cases ha : a ≠ 0
  · rw [if_pos ha, AJ (e := .inr a) (by rw [Da, if_pos (by show (0 : Int) < 3; decide)]; show (some a).bind _ = _; rw [Option.bind_some, if_pos ha])]; rfl
  · rw [if_neg ha, BA (s' := 1) (by rw [Da, if_pos (by show (0 : Int) < 3; decide)]; show (some a).bind _ = _; rw [Option.bind_some, if_neg ha]; rfl)]
    by_cases hb : b ≠ 0
    · rw [if_pos hb, AJ (e := .inr b) (by rw [Da, if_pos (by show (1 : Int) < 3; decide)]; show (some b).bind _ = _; rw [Option.bind_some, if_pos hb])]; rfl
    · rw [if_neg hb, BA (s' := 2) (by rw [Da, if_pos (by show (1 : Int) < 3; decide)]; show (some b).bind _ = _; rw [Option.bind_some, if_neg hb]; rfl)]
      by_cases hc : c ≠ 0
      · rw [AJ (e := .inr c) (by rw [Da, if_pos (by show (2 : Int) < 3; decide)]; show (some c).bind _ = _; rw [Option.bind_some, if_pos hc])]; rfl
      · rw [BA (s' := 3) (by rw [Da, if_pos (by show (2 : Int) < 3; decide)]; show (some c).bind _ = _; rw [Option.bind_some, if_neg hc]; rfl), AJ (e := .inl ()) (by rw [Da, if_neg (by show ¬ (3 : Int) < 3; decide)])]
        rw [Decidable.not_not.1 hc]; rfl
theorem Gm (x y : Mv) : B8 x y = some (RL x y) := by
  unfold B8
  rw [VA]; rfl
def AX (x y : Mv) : Bool := decide (RL x y < 0)
theorem MI (x y : Mv) : (RL x y < 0) = (AX x y = true) := by unfold AX; simp
theorem Pe (a b : Int) : AY a b = if a < b then -1 else if b < a then 1 else 0 := by
  unfold AY BN
  simp
theorem Jy (x y : Mv) : AX x y = true ↔ (x.2.2.2 < y.2.2.2 ∨ x.2.2.2 = y.2.2.2 ∧ (x.1 < y.1 ∨ x.1 = y.1 ∧ x.2.1 < y.2.1)) := by
  rw [← MI]
  unfold RL
  rw [Pe, Pe, Pe]
  by_cases a1 : x.2.2.2 < y.2.2.2
  · rw [if_pos a1, if_pos (by decide)]; omega
  · rw [if_neg a1]
    by_cases a2 : y.2.2.2 < x.2.2.2
    · rw [if_pos a2, if_pos (by decide)]; omega
    · rw [if_neg a2, if_neg (by decide)]
      by_cases b1 : x.1 < y.1
      · rw [if_pos b1, if_pos (by decide)]; omega
      · rw [if_neg b1]
        by_cases b2 : y.1 < x.1
        · rw [if_pos b2, if_pos (by decide)]; omega
        · rw [if_neg b2, if_neg (by decide)]
          by_cases c1 : x.2.1 < y.2.1
          · rw [if_pos c1]; omega
          · rw [if_neg c1]
            by_cases c2 : y.2.1 < x.2.1
            · rw [if_pos c2]; omega
            · rw [if_neg c2]; omega
theorem NM (x y : Mv) : AX x y = false ↔ ¬ (x.2.2.2 < y.2.2.2 ∨ x.2.2.2 = y.2.2.2 ∧ (x.1 < y.1 ∨ x.1 = y.1 ∧ x.2.1 < y.2.1)) := by
  rw [← Jy]; simp
theorem Sv : Go.Sort.SWO AX := ⟨fun x => by rw [NM]; omega, fun x y z h1 h2 => by rw [Jy] at h1 h2 ⊢; omega, fun x y z h1 h2 => by rw [NM] at h1 h2 ⊢; omega⟩
section
open Go.Sort
theorem Ov {a : Nat} : ∀ (j : Nat) (d : Array (Int × Int × Int × Int)), j < d.size → d.size ≤ 1000000000 → AH (AS (a : Int)) (d.toList, (j : Int)) = some (insInner AX a j d).toList
  | 0, d, hj, hb => AJ (by rw [AS, if_neg (by omega), Option.bind_some, if_neg (by decide)]; rfl)
  | j + 1, d, hj, hb => by
    have e1 : Az (((j + 1 : Nat) : Int) - 1) = (j : Int) := by rw [AA (by omega)]; omega
    have h1 := E0 (d := d) hj
    have h0 := E0 (d := d) (show j < d.size by omega)
    rw [insInner]
    by_cases c : a < j + 1
    · by_cases c2 : AX d[j + 1]! d[j]! = true
      · rw [if_pos (by simp [c, c2])]
        have hst : AS (a : Int) (d.toList, ((j + 1 : Nat) : Int)) = some (.inl ((swp d (j + 1) j).toList, (j : Int))) := by
          rw [AS, if_pos (by omega), e1]
          simp only [h1, h0, Option.bind_some, Gm, MI, Bool.decide_eq_true, c2, if_true, HP, E0 (show j < (d.setIfInBounds (j + 1) d[j]!).size by simp; omega)]
          rfl
        rw [BA hst]
        exact Ov j _ (by rw [size_swp]; omega) (by rw [size_swp]; exact hb)
      · rw [if_neg (by simp [c2])]
        refine AJ ?_
        rw [AS, if_pos (by omega), e1]
        simp only [h1, h0, Option.bind_some, Gm, MI, Bool.decide_eq_true, c2, Bool.false_eq_true, if_false]
    · rw [if_neg (by simp; omega)]
      exact AJ (by rw [AS, if_neg (by omega), Option.bind_some, if_neg (by decide)])
theorem Qm {a b : Nat} : ∀ (m i : Nat) (d : Array (Int × Int × Int × Int)), b - i = m → b ≤ d.size → d.size ≤ 1000000000 → AH (Bb (a : Int) (b : Int)) (d.toList, (i : Int)) = some (insOuter AX a b i d).toList := by
  intro m
  induction m with
  | zero =>
    intro i d hm hb hs
    rw [insOuter, if_neg (by omega)]
    exact AJ (by rw [Bb, if_neg (by omega)])
  | succ m ih =>
    intro i d hm hb hs
    rw [insOuter, if_pos (by omega)]
    have hst : Bb (a : Int) (b : Int) (d.toList, (i : Int)) = some (.inl ((insInner AX a i d).toList, ((i + 1 : Nat) : Int))) := by
      rw [Bb, if_pos (by omega), Ov i d (by omega) hs, Option.bind_some, AA (by omega)]; rfl
    rw [BA hst]
    exact ih (i + 1) _ (by omega) (by rw [F1]; exact hb) (by rw [F1]; exact hs)
theorem To (d : Array (Int × Int × Int × Int)) (a b : Nat) (hb : b ≤ d.size) (hs : d.size ≤ 1000000000) (ha : a ≤ b) : Bv d.toList (a : Int) (b : Int) = some (insertionSort AX d a b).toList := by
  unfold Bv
  rw [AA (by omega)]
  exact Qm _ (a + 1) d rfl hb hs
theorem QE {hi first : Nat} : ∀ (m root : Nat) (d : Array (Int × Int × Int × Int)), hi - root ≤ m → first + hi ≤ d.size → d.size ≤ 1000000000 → root < 2000000000 → AH (AW (hi : Int) (first : Int)) (d.toList, (root : Int)) = some (siftDown AX hi first root d).toList ∧ (siftDown AX hi first root d).size = d.size := by
  intro m
  induction m with
  | zero =>
    intro root d hm hf hs hr
    have e1 : Az ((Az (2 * (root : Int))) + 1) = ((2 * root + 1 : Nat) : Int) := by rw [AA (x := 2 * (root : Int)) (by omega), AA (by omega)]; omega
    rw [siftDown, dif_pos (by omega)]
    exact ⟨AJ (by rw [AW, e1, if_pos (by omega)]), rfl⟩
  | succ m ih =>
    intro root d hm hf hs hr
    have e1 : Az ((Az (2 * (root : Int))) + 1) = ((2 * root + 1 : Nat) : Int) := by rw [AA (x := 2 * (root : Int)) (by omega), AA (by omega)]; omega
    rw [siftDown]
    by_cases c : 2 * root + 1 ≥ hi
    · rw [dif_pos c]
      exact ⟨AJ (by rw [AW, e1, if_pos (by omega)]), rfl⟩
    · rw [dif_neg c]
      have e2 : Az (((2 * root + 1 : Nat) : Int) + 1) = ((2 * root + 2 : Nat) : Int) := by rw [AA (by omega)]; omega
      have e3 : Az ((first : Int) + ((2 * root + 1 : Nat) : Int)) = ((first + (2 * root + 1) : Nat) : Int) := by rw [AA (by omega)]; omega
      have e4 : Az (((first + (2 * root + 1) : Nat) : Int) + 1) = ((first + (2 * root + 1) + 1 : Nat) : Int) := by rw [AA (by omega)]; omega
      have e5 : Az ((first : Int) + (root : Int)) = ((first + root : Nat) : Int) := by rw [AA (by omega)]; omega
      have e6 : Az ((first : Int) + ((2 * root + 2 : Nat) : Int)) = ((first + (2 * root + 2) : Nat) : Int) := by rw [AA (by omega)]; omega
      have g0 := E0 (d := d) (show first + root < d.size by omega)
      have g1 := E0 (d := d) (show first + (2 * root + 1) < d.size by omega)
      by_cases c2 : (decide (2 * root + 1 + 1 < hi) && AX d[first + (2 * root + 1)]! d[first + (2 * root + 1) + 1]!) = true
      · have c3 : 2 * root + 2 < hi := by have := (Bool.and_eq_true _ _ ▸ c2).1; simpa using this
        have c4 := (Bool.and_eq_true _ _ ▸ c2).2
        have g2 := E0 (d := d) (show first + (2 * root + 1) + 1 < d.size by omega)
        have g3 := E0 (d := d) (show first + (2 * root + 2) < d.size by omega)
        rw [if_pos c2]
        by_cases c5 : AX d[first + root]! d[first + (2 * root + 2)]! = true
        · rw [if_neg (by rw [c5]; decide), dif_pos c3]
          have hst : AW (hi : Int) (first : Int) (d.toList, (root : Int)) = some (.inl ((swp d (first + root) (first + (2 * root + 2))).toList, ((2 * root + 2 : Nat) : Int))) := by
            rw [AW, e1, if_neg (by omega), e2, if_pos (by omega), e3, e4]
            simp only [g1, g2, Option.bind_some, Gm, MI, Bool.decide_eq_true, c4, if_true, e5, e6, g0, g3, c5, Bool.not_true, Bool.false_eq_true, if_false, HP, E0 (show first + (2 * root + 2) < (d.setIfInBounds (first + root) d[first + (2 * root + 2)]!).size by simp; omega)]
            rfl
          rw [BA hst]
          have := ih (2 * root + 2) (swp d (first + root) (first + (2 * root + 2))) (by omega) (by rw [size_swp]; exact hf) (by rw [size_swp]; exact hs) (by omega)
          exact ⟨this.1, by rw [this.2, size_swp]⟩
        · rw [if_pos (by simpa using c5)]
          refine ⟨AJ ?_, rfl⟩
          rw [AW, e1, if_neg (by omega), e2, if_pos (by omega), e3, e4]
          simp only [g1, g2, Option.bind_some, Gm, MI, Bool.decide_eq_true, c4, if_true, e5, e6, g0, g3, c5, Bool.not_false]
      · rw [if_neg c2]
        have hpick : (if ((2 * root + 2 : Nat) : Int) < (hi : Int) then (ix d.toList ((first + (2 * root + 1) + 1 : Nat) : Int)).bind fun x6 => some (AX d[first + (2 * root + 1)]! x6) else some false) = some false := by
          by_cases c3 : 2 * root + 2 < hi
          · rw [if_pos (by omega), E0 (d := d) (show first + (2 * root + 1) + 1 < d.size by omega), Option.bind_some]
            congr 1
            by_cases c4 : AX d[first + (2 * root + 1)]! d[first + (2 * root + 1) + 1]! = true
            · exact absurd (by rw [c4]; simp; omega) c2
            · simpa using c4
          · rw [if_neg (by omega)]
        by_cases c5 : AX d[first + root]! d[first + (2 * root + 1)]! = true
        · rw [if_neg (by rw [c5]; decide)]
          have hst : AW (hi : Int) (first : Int) (d.toList, (root : Int)) = some (.inl ((swp d (first + root) (first + (2 * root + 1))).toList, ((2 * root + 1 : Nat) : Int))) := by
            rw [AW, e1, if_neg (by omega), e2, e3, e4]
            simp only [Gm, MI, Bool.decide_eq_true, g1, hpick, Option.bind_some, Bool.false_eq_true, if_false, e3, e5, g0, g1, c5, Bool.not_true, HP, E0 (show first + (2 * root + 1) < (d.setIfInBounds (first + root) d[first + (2 * root + 1)]!).size by simp; omega)]
            rfl
          rw [BA hst]
          have := ih (2 * root + 1) (swp d (first + root) (first + (2 * root + 1))) (by omega) (by rw [size_swp]; exact hf) (by rw [size_swp]; exact hs) (by omega)
          exact ⟨this.1, by rw [this.2, size_swp]⟩
        · rw [if_pos (by simpa using c5)]
          refine ⟨AJ ?_, rfl⟩
          rw [AW, e1, if_neg (by omega), e2, e3, e4]
          simp only [Gm, MI, Bool.decide_eq_true, g1, hpick, Option.bind_some, Bool.false_eq_true, if_false, e3, e5, g0, g1, c5, Bool.not_false, if_true]
theorem PS (hi first root : Nat) (d : Array (Int × Int × Int × Int)) (hf : first + hi ≤ d.size) (hs : d.size ≤ 1000000000) (hr : root < 2000000000) : Cf d.toList (root : Int) (hi : Int) (first : Int) = some (siftDown AX hi first root d).toList := (QE _ root d (Nat.le_refl _) hf hs hr).1
theorem Ly (hi first root : Nat) (d : Array (Int × Int × Int × Int)) (hf : first + hi ≤ d.size) (hs : d.size ≤ 1000000000) (hr : root < 2000000000) : (siftDown AX hi first root d).size = d.size := (QE _ root d (Nat.le_refl _) hf hs hr).2
theorem PK {a b : Nat} (hab : a ≤ b) : ∀ (k : Nat) (d : Array (Int × Int × Int × Int)), b ≤ d.size → d.size ≤ 1000000000 → k ≤ 1000000000 → AH (BX (a : Int) (b : Int)) (d.toList, (k : Int) - 1) = some (heapBuild AX (b - a) a k d).toList ∧ (heapBuild AX (b - a) a k d).size = d.size
  | 0, d, hb, hs, hk => ⟨AJ (by rw [BX, if_neg (by omega)]; rfl), rfl⟩
  | k + 1, d, hb, hs, hk => by
    have e1 : Az ((b : Int) - (a : Int)) = ((b - a : Nat) : Int) := by rw [AA (by omega)]; omega
    have hst : BX (a : Int) (b : Int) (d.toList, ((k + 1 : Nat) : Int) - 1) = some (.inl ((siftDown AX (b - a) a k d).toList, (k : Int) - 1)) := by
      rw [BX, if_pos (by omega), e1, show ((k + 1 : Nat) : Int) - 1 = (k : Int) by omega, PS _ _ _ _ (by omega) hs (by omega), Option.bind_some, AA (by omega)]
    rw [BA hst]
    have hz := Ly (b - a) a k d (by omega) hs (by omega)
    have := PK hab k (siftDown AX (b - a) a k d) (by omega) (by omega) (by omega)
    rw [heapBuild]
    exact ⟨this.1, by rw [this.2, hz]⟩
theorem Sk {a : Nat} : ∀ (k : Nat) (d : Array (Int × Int × Int × Int)), a + k ≤ d.size → d.size ≤ 1000000000 → AH (BZ (a : Int)) (d.toList, (k : Int) - 1) = some (heapPop AX a k d).toList
  | 0, d, hb, hs => AJ (by rw [BZ, if_neg (by omega)]; rfl)
  | k + 1, d, hb, hs => by
    have e1 : ((k + 1 : Nat) : Int) - 1 = (k : Int) := by omega
    have e2 : Az ((a : Int) + (k : Int)) = ((a + k : Nat) : Int) := by rw [AA (by omega)]; omega
    have h0 := E0 (d := d) (show a < d.size by omega)
    have h1 := E0 (d := d) (show a + k < d.size by omega)
    have hz := size_swp d a (a + k)
    have hst : BZ (a : Int) (d.toList, ((k + 1 : Nat) : Int) - 1) = some (.inl ((siftDown AX k a 0 (swp d a (a + k))).toList, (k : Int) - 1)) := by
      rw [BZ, e1, if_pos (by omega), e2]
      simp only [h1, h0, Option.bind_some, HP, E0 (show a + k < (d.setIfInBounds a d[a + k]!).size by simp; omega)]
      show (Cf (swp d a (a + k)).toList ((0 : Nat) : Int) (k : Int) (a : Int)).bind _ = _
      rw [PS _ _ _ _ (by omega) (by omega) (by omega), Option.bind_some, AA (by omega)]
    rw [BA hst, heapPop]
    have hz2 := Ly k a 0 (swp d a (a + k)) (by omega) (by omega) (by omega)
    exact Sk k _ (by omega) (by omega)
theorem Sq (d : Array (Int × Int × Int × Int)) (a b : Nat) (hb : b ≤ d.size) (hs : d.size ≤ 1000000000) (ha : a < b) : Ce d.toList (a : Int) (b : Int) = some (heapSort AX d a b).toList := by
  unfold Ce
  have e1 : Az ((b : Int) - (a : Int)) = ((b - a : Nat) : Int) := by rw [AA (by omega)]; omega
  have e2 : Az (((b - a : Nat) : Int) - 1) = ((b - a : Nat) : Int) - 1 := AA (by omega)
  have e3 : Az (Int.tdiv (((b - a : Nat) : Int) - 1) 2) = (((b - a - 1) / 2 + 1 : Nat) : Int) - 1 := by
    rw [Int.tdiv_eq_ediv_of_nonneg (by omega), AA (by omega)]; omega
  rw [e1, e2, e3]
  have h := PK (Nat.le_of_lt ha) ((b - a - 1) / 2 + 1) d hb hs (by omega)
  rw [h.1, Option.bind_some, Sk _ _ (by rw [h.2]; omega) (by rw [h.2]; exact hs)]
  rfl
theorem OS (d : Array (Int × Int × Int × Int)) (a b s : Nat) (ha : a < d.size) (hb : b < d.size) (hs : s < 1000) : B6 d.toList (a : Int) (b : Int) (s : Int) = some (((order2 AX d a b s).1 : Int), ((order2 AX d a b s).2.1 : Int), ((order2 AX d a b s).2.2 : Int)) := by
  unfold B6 order2
  have h0 := E0 (d := d) ha
  have h1 := E0 (d := d) hb
  by_cases c : AX d[b]! d[a]! = true
  · simp only [h0, h1, Option.bind_some, Gm, MI, Bool.decide_eq_true, c, if_true, AA (show -9223372036854775808 ≤ (s : Int) + 1 ∧ (s : Int) + 1 ≤ 9223372036854775807 by omega)]; rfl
  · simp only [h0, h1, Option.bind_some, Gm, MI, Bool.decide_eq_true, c, Bool.false_eq_true, if_false]
theorem QY (d : Array (Int × Int × Int × Int)) (a b c s : Nat) (ha : a < d.size) (hb : b < d.size) (hc : c < d.size) (hs : s < 900) : B7 d.toList (a : Int) (b : Int) (c : Int) (s : Int) = some (((median AX d a b c s).1 : Int), ((median AX d a b c s).2 : Int)) := by
  unfold B7 median
  have m1 := order2_mem AX d a b s
  have k1 := order2_count AX d a b s
  rw [OS d a b s ha hb (by omega), Option.bind_some]
  have m2 := order2_mem AX d (order2 AX d a b s).2.1 c (order2 AX d a b s).2.2
  have k2 := order2_count AX d (order2 AX d a b s).2.1 c (order2 AX d a b s).2.2
  rw [OS d _ c _ (by omega) hc (by omega), Option.bind_some, OS d _ _ _ (by omega) (by omega) (by omega)]; rfl
theorem O9 (d : Array (Int × Int × Int × Int)) (a s : Nat) (h0 : 0 < a) (ha : a + 1 < d.size) (hb : d.size ≤ 1000000000) (hs : s < 900) : Bg d.toList (a : Int) (s : Int) = some (((medianAdjacent AX d a s).1 : Int), ((medianAdjacent AX d a s).2 : Int)) := by
  unfold Bg medianAdjacent
  rw [AA (x := (a : Int) - 1) (by omega), AA (x := (a : Int) + 1) (by omega), show (a : Int) - 1 = ((a - 1 : Nat) : Int) by omega, show (a : Int) + 1 = ((a + 1 : Nat) : Int) by omega, QY d _ _ _ _ (by omega) (by omega) (by omega) hs]; rfl
def Jm : Hint → Int
  | .unknown => 0
  | .increasing => 1
  | .decreasing => 2
theorem Sg (j s : Nat) : ((some ((j : Int), (s : Int))).bind fun (x : Int × Int) => match x with | (x1, x2) => (if x2 = 0 then some (x1, 1) else (if x2 = 12 then some (x1, 2) else some (x1, (0 : Int))))) = some ((j : Int), Jm (if s = 0 then .increasing else if s = 12 then .decreasing else .unknown)) := by
  rw [Option.bind_some]
  show (if (s : Int) = 0 then some ((j : Int), (1 : Int)) else (if (s : Int) = 12 then some ((j : Int), 2) else some ((j : Int), 0))) = _
  by_cases c1 : s = 0
  · rw [if_pos (by omega), if_pos c1]; rfl
  · rw [if_neg (by omega), if_neg c1]
    by_cases c2 : s = 12
    · rw [if_pos (by omega), if_pos c2]; rfl
    · rw [if_neg (by omega), if_neg c2]; rfl
theorem T1 (d : Array (Int × Int × Int × Int)) (a b : Nat) (hb : b ≤ d.size) (hs : d.size ≤ 1000000000) (ha : a + 12 < b) : B0 d.toList (a : Int) (b : Int) = some (((choosePivot AX d a b).1 : Int), Jm (choosePivot AX d a b).2) := by
  unfold B0
  have e1 : Az ((b : Int) - (a : Int)) = ((b - a : Nat) : Int) := by rw [AA (by omega)]; omega
  have e2 : Az (Int.tdiv ((b - a : Nat) : Int) 4) = (((b - a) / 4 : Nat) : Int) := by rw [Int.tdiv_eq_ediv_of_nonneg (by omega), AA (by omega)]; omega
  have f1 : Az ((a : Int) + Az ((((b - a) / 4 : Nat) : Int) * 1)) = ((a + (b - a) / 4 * 1 : Nat) : Int) := by rw [AA (x := (((b - a) / 4 : Nat) : Int) * 1) (by omega), AA (by omega)]; omega
  have f2 : Az ((a : Int) + Az ((((b - a) / 4 : Nat) : Int) * 2)) = ((a + (b - a) / 4 * 2 : Nat) : Int) := by rw [AA (x := (((b - a) / 4 : Nat) : Int) * 2) (by omega), AA (by omega)]; omega
  have f3 : Az ((a : Int) + Az ((((b - a) / 4 : Nat) : Int) * 3)) = ((a + (b - a) / 4 * 3 : Nat) : Int) := by rw [AA (x := (((b - a) / 4 : Nat) : Int) * 3) (by omega), AA (by omega)]; omega
  rw [e1, e2, f1, f2, f3, if_pos (by omega), choosePivot_eq]
  unfold rawPivot
  rw [if_pos (show b - a ≥ 8 by omega)]
  have b1 : a < a + (b - a) / 4 * 1 ∧ a + (b - a) / 4 * 3 + 1 < b := by omega
  have b2 : a + (b - a) / 4 * 1 < a + (b - a) / 4 * 2 ∧ a + (b - a) / 4 * 2 < a + (b - a) / 4 * 3 := by omega
  generalize a + (b - a) / 4 * 1 = i at b1 b2 ⊢
  generalize a + (b - a) / 4 * 2 = j at b2 ⊢
  generalize a + (b - a) / 4 * 3 = k at b1 b2 ⊢
  by_cases c : b - a ≥ 50
  · rw [if_pos (show (50 : Int) ≤ ((b - a : Nat) : Int) by omega), if_pos c]
    have g1 := medianAdjacent_count AX d i 0
    have n1 := medianAdjacent_mem AX d i 0
    have q1 := O9 d i 0 (by omega) (by omega) hs (by omega)
    generalize medianAdjacent AX d i 0 = r1 at g1 n1 q1 ⊢
    have g2 := medianAdjacent_count AX d j r1.2
    have n2 := medianAdjacent_mem AX d j r1.2
    have q2 := O9 d j r1.2 (by omega) (by omega) hs (by omega)
    generalize medianAdjacent AX d j r1.2 = r2 at g2 n2 q2 ⊢
    have g3 := medianAdjacent_count AX d k r2.2
    have n3 := medianAdjacent_mem AX d k r2.2
    have q3 := O9 d k r2.2 (by omega) (by omega) hs (by omega)
    generalize medianAdjacent AX d k r2.2 = r3 at g3 n3 q3 ⊢
    have q4 := QY d r1.1 r2.1 r3.1 r3.2 (by omega) (by omega) (by omega) (by omega)
    generalize median AX d r1.1 r2.1 r3.1 r3.2 = r4 at q4 ⊢
    have q1' : Bg d.toList (i : Int) 0 = some ((r1.1 : Int), (r1.2 : Int)) := q1
    rw [q1', Option.bind_some]
    simp only []
    rw [q2, Option.bind_some]
    simp only []
    rw [q3, Option.bind_some, Option.bind_some]
    simp only []
    rw [q4, Option.bind_some]
    exact Sg r4.1 r4.2
  · rw [if_neg (show ¬ (50 : Int) ≤ ((b - a : Nat) : Int) by omega), if_neg c]
    have q4 := QY d i j k 0 (by omega) (by omega) (by omega) (by omega)
    generalize median AX d i j k 0 = r4 at q4 ⊢
    have q4' : B7 d.toList (i : Int) (j : Int) (k : Int) 0 = some ((r4.1 : Int), (r4.2 : Int)) := q4
    rw [Option.bind_some]
    simp only []
    rw [q4', Option.bind_some]
    exact Sg r4.1 r4.2
theorem Qx : ∀ (m i j : Nat) (d : Array (Int × Int × Int × Int)), j - i ≤ m → j < d.size → d.size ≤ 1000000000 → AH Br (d.toList, (i : Int), (j : Int)) = some (reverseLoop i j d).toList := by
  intro m
  induction m with
  | zero =>
    intro i j d hm hj hs
    rw [reverseLoop, if_neg (by omega)]
    exact AJ (by rw [Br, if_neg (by omega)])
  | succ m ih =>
    intro i j d hm hj hs
    rw [reverseLoop]
    by_cases c : i < j
    · rw [if_pos c]
      have h0 := E0 (d := d) (show i < d.size by omega)
      have h1 := E0 (d := d) hj
      have hst : Br (d.toList, (i : Int), (j : Int)) = some (.inl ((swp d i j).toList, ((i + 1 : Nat) : Int), ((j - 1 : Nat) : Int))) := by
        rw [Br, if_pos (by omega)]
        simp only [h0, h1, Option.bind_some, HP, E0 (show j < (d.setIfInBounds i d[j]!).size by simp; omega)]
        rw [AA (x := (i : Int) + 1) (by omega), AA (x := (j : Int) - 1) (by omega), show (j : Int) - 1 = ((j - 1 : Nat) : Int) by omega]; rfl
      rw [BA hst]
      exact ih (i + 1) (j - 1) _ (by omega) (by rw [size_swp]; omega) (by rw [size_swp]; exact hs)
    · rw [if_neg c]
      exact AJ (by rw [Br, if_neg (by omega)])
theorem Tr (d : Array (Int × Int × Int × Int)) (a b : Nat) (hb : b ≤ d.size) (hs : d.size ≤ 1000000000) (ha : a < b) : BF d.toList (a : Int) (b : Int) = some (reverseRange d a b).toList := by
  unfold BF
  rw [AA (by omega), show (b : Int) - 1 = ((b - 1 : Nat) : Int) by omega]
  exact Qx _ a (b - 1) d (Nat.le_refl _) (by omega) hs
end
end Go.Proofs.Ytghpabmmdenaoaa
