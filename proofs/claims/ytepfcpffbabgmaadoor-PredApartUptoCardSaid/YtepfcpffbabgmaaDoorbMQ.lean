/- Layer 26: the order of numbers; the sort's parts, first half. Conditions: none. -/
import Derived.Test.YtepfcpffbabgmaaDoorbMP
import Derived.Test.YtepfcpffbabgmaaDoorbA8
namespace Go.Proofs.YtepfcpffbabgmaaDoor
set_option linter.unusedVariables false
set_option linter.unusedSimpArgs false
open Go Go.RowKit
def AA (x y : Int) : Bool := decide (x < y)
theorem Ja (x y : Int) : AO x y = AA x y := by
  unfold AO Bu AA
  simp
section
open Go.Sort
theorem J1 {a : Nat} : ∀ (j : Nat) (d : Array Int), j < d.size → d.size ≤ 1000000000 → AZ (AY (a : Int)) (d.toList, (j : Int)) = some (insInner AA a j d).toList
  | 0, d, hj, hb => A1 (by rw [AY, if_neg (by omega), Option.bind_some, if_neg (by decide)]; rfl)
  | j + 1, d, hj, hb => by
    have e1 : AJ (((j + 1 : Nat) : Int) - 1) = (j : Int) := by rw [Az (by omega)]; omega
    have h1 := D1 (d := d) hj
    have h0 := D1 (d := d) (show j < d.size by omega)
    rw [insInner]
    by_cases c : a < j + 1
    · by_cases c2 : AA d[j + 1]! d[j]! = true
      · rw [if_pos (by simp [c, c2])]
        have hst : AY (a : Int) (d.toList, ((j + 1 : Nat) : Int)) = some (.inl ((swp d (j + 1) j).toList, (j : Int))) := by
          rw [AY, if_pos (by omega), e1]
          simp only [h1, h0, Option.bind_some, Ja, c2, if_true, Fy, D1 (show j < (d.setIfInBounds (j + 1) d[j]!).size by simp; omega)]
          rfl
        rw [Ca hst]
        exact J1 j _ (by rw [size_swp]; omega) (by rw [size_swp]; exact hb)
      · rw [if_neg (by simp [c2])]
        refine A1 ?_
        rw [AY, if_pos (by omega), e1]
        simp only [h1, h0, Option.bind_some, Ja, c2, Bool.false_eq_true, if_false]
    · rw [if_neg (by simp; omega)]
      exact A1 (by rw [AY, if_neg (by omega), Option.bind_some, if_neg (by decide)])
theorem Lj {a b : Nat} : ∀ (m i : Nat) (d : Array Int), b - i = m → b ≤ d.size → d.size ≤ 1000000000 → AZ (Bm (a : Int) (b : Int)) (d.toList, (i : Int)) = some (insOuter AA a b i d).toList := by
  intro m
  induction m with
  | zero =>
    intro i d hm hb hs
    rw [insOuter, if_neg (by omega)]
    exact A1 (by rw [Bm, if_neg (by omega)])
  | succ m ih =>
    intro i d hm hb hs
    rw [insOuter, if_pos (by omega)]
    have hst : Bm (a : Int) (b : Int) (d.toList, (i : Int)) = some (.inl ((insInner AA a i d).toList, ((i + 1 : Nat) : Int))) := by
      rw [Bm, if_pos (by omega), J1 i d (by omega) hs, Option.bind_some, Az (by omega)]; rfl
    rw [Ca hst]
    exact ih (i + 1) _ (by omega) (by rw [Fh]; exact hb) (by rw [Fh]; exact hs)
theorem Nx (d : Array Int) (a b : Nat) (hb : b ≤ d.size) (hs : d.size ≤ 1000000000) (ha : a ≤ b) : BS d.toList (a : Int) (b : Int) = some (insertionSort AA d a b).toList := by
  unfold BS
  rw [Az (by omega)]
  exact Lj _ (a + 1) d rfl hb hs
theorem Mj {hi first : Nat} : ∀ (m root : Nat) (d : Array Int), hi - root ≤ m → first + hi ≤ d.size → d.size ≤ 1000000000 → root < 2000000000 → AZ (AR (hi : Int) (first : Int)) (d.toList, (root : Int)) = some (siftDown AA hi first root d).toList ∧ (siftDown AA hi first root d).size = d.size := by
  intro m
  induction m with
  | zero =>
    intro root d hm hf hs hr
    have e1 : AJ ((AJ (2 * (root : Int))) + 1) = ((2 * root + 1 : Nat) : Int) := by rw [Az (x := 2 * (root : Int)) (by omega), Az (by omega)]; omega
    rw [siftDown, dif_pos (by omega)]
    exact ⟨A1 (by rw [AR, e1, if_pos (by omega)]), rfl⟩
  | succ m ih =>
    intro root d hm hf hs hr
    have e1 : AJ ((AJ (2 * (root : Int))) + 1) = ((2 * root + 1 : Nat) : Int) := by rw [Az (x := 2 * (root : Int)) (by omega), Az (by omega)]; omega
    rw [siftDown]
    by_cases c : 2 * root + 1 ≥ hi
    · rw [dif_pos c]
      exact ⟨A1 (by rw [AR, e1, if_pos (by omega)]), rfl⟩
    · rw [dif_neg c]
      have e2 : AJ (((2 * root + 1 : Nat) : Int) + 1) = ((2 * root + 2 : Nat) : Int) := by rw [Az (by omega)]; omega
      have e3 : AJ ((first : Int) + ((2 * root + 1 : Nat) : Int)) = ((first + (2 * root + 1) : Nat) : Int) := by rw [Az (by omega)]; omega
      have e4 : AJ (((first + (2 * root + 1) : Nat) : Int) + 1) = ((first + (2 * root + 1) + 1 : Nat) : Int) := by rw [Az (by omega)]; omega
      have e5 : AJ ((first : Int) + (root : Int)) = ((first + root : Nat) : Int) := by rw [Az (by omega)]; omega
      have e6 : AJ ((first : Int) + ((2 * root + 2 : Nat) : Int)) = ((first + (2 * root + 2) : Nat) : Int) := by rw [Az (by omega)]; omega
      have g0 := D1 (d := d) (show first + root < d.size by omega)
      have g1 := D1 (d := d) (show first + (2 * root + 1) < d.size by omega)
      by_cases c2 : (decide (2 * root + 1 + 1 < hi) && AA d[first + (2 * root + 1)]! d[first + (2 * root + 1) + 1]!) = true
      · have c3 : 2 * root + 2 < hi := by have := (Bool.and_eq_true _ _ ▸ c2).1; simpa using this
        have c4 := (Bool.and_eq_true _ _ ▸ c2).2
        have g2 := D1 (d := d) (show first + (2 * root + 1) + 1 < d.size by omega)
        have g3 := D1 (d := d) (show first + (2 * root + 2) < d.size by omega)
        rw [if_pos c2]
        by_cases c5 : AA d[first + root]! d[first + (2 * root + 2)]! = true
        · rw [if_neg (by rw [c5]; decide), dif_pos c3]
          have hst : AR (hi : Int) (first : Int) (d.toList, (root : Int)) = some (.inl ((swp d (first + root) (first + (2 * root + 2))).toList, ((2 * root + 2 : Nat) : Int))) := by
            rw [AR, e1, if_neg (by omega), e2, if_pos (by omega), e3, e4]
            simp only [g1, g2, Option.bind_some, Ja, c4, if_true, e5, e6, g0, g3, c5, Bool.not_true, Bool.false_eq_true, if_false, Fy, D1 (show first + (2 * root + 2) < (d.setIfInBounds (first + root) d[first + (2 * root + 2)]!).size by simp; omega)]
            rfl
          rw [Ca hst]
          have := ih (2 * root + 2) (swp d (first + root) (first + (2 * root + 2))) (by omega) (by rw [size_swp]; exact hf) (by rw [size_swp]; exact hs) (by omega)
          exact ⟨this.1, by rw [this.2, size_swp]⟩
        · rw [if_pos (by simpa using c5)]
          refine ⟨A1 ?_, rfl⟩
          rw [AR, e1, if_neg (by omega), e2, if_pos (by omega), e3, e4]
          simp only [g1, g2, Option.bind_some, Ja, c4, if_true, e5, e6, g0, g3, c5, Bool.not_false]
      · rw [if_neg c2]
        have hpick : (if ((2 * root + 2 : Nat) : Int) < (hi : Int) then (ix d.toList ((first + (2 * root + 1) + 1 : Nat) : Int)).bind fun x6 => some (AA d[first + (2 * root + 1)]! x6) else some false) = some false := by
          by_cases c3 : 2 * root + 2 < hi
          · rw [if_pos (by omega), D1 (d := d) (show first + (2 * root + 1) + 1 < d.size by omega), Option.bind_some]
            congr 1
            by_cases c4 : AA d[first + (2 * root + 1)]! d[first + (2 * root + 1) + 1]! = true
            · exact absurd (by rw [c4]; simp; omega) c2
            · simpa using c4
          · rw [if_neg (by omega)]
        by_cases c5 : AA d[first + root]! d[first + (2 * root + 1)]! = true
        · rw [if_neg (by rw [c5]; decide)]
          have hst : AR (hi : Int) (first : Int) (d.toList, (root : Int)) = some (.inl ((swp d (first + root) (first + (2 * root + 1))).toList, ((2 * root + 1 : Nat) : Int))) := by
            rw [AR, e1, if_neg (by omega), e2, e3, e4]
            simp only [Ja, g1, hpick, Option.bind_some, Bool.false_eq_true, if_false, e3, e5, g0, g1, c5, Bool.not_true, Fy, D1 (show first + (2 * root + 1) < (d.setIfInBounds (first + root) d[first + (2 * root + 1)]!).size by simp; omega)]
            rfl
          rw [Ca hst]
          have := ih (2 * root + 1) (swp d (first + root) (first + (2 * root + 1))) (by omega) (by rw [size_swp]; exact hf) (by rw [size_swp]; exact hs) (by omega)
          exact ⟨this.1, by rw [this.2, size_swp]⟩
        · rw [if_pos (by simpa using c5)]
          refine ⟨A1 ?_, rfl⟩
          rw [AR, e1, if_neg (by omega), e2, e3, e4]
          simp only [Ja, g1, hpick, Option.bind_some, Bool.false_eq_true, if_false, e3, e5, g0, g1, c5, Bool.not_false, if_true]
theorem KP (hi first root : Nat) (d : Array Int) (hf : first + hi ≤ d.size) (hs : d.size ≤ 1000000000) (hr : root < 2000000000) : B0 d.toList (root : Int) (hi : Int) (first : Int) = some (siftDown AA hi first root d).toList := (Mj _ root d (Nat.le_refl _) hf hs hr).1
theorem HB (hi first root : Nat) (d : Array Int) (hf : first + hi ≤ d.size) (hs : d.size ≤ 1000000000) (hr : root < 2000000000) : (siftDown AA hi first root d).size = d.size := (Mj _ root d (Nat.le_refl _) hf hs hr).2
theorem KJ {a b : Nat} (hab : a ≤ b) : ∀ (k : Nat) (d : Array Int), b ≤ d.size → d.size ≤ 1000000000 → k ≤ 1000000000 → AZ (BF (a : Int) (b : Int)) (d.toList, (k : Int) - 1) = some (heapBuild AA (b - a) a k d).toList ∧ (heapBuild AA (b - a) a k d).size = d.size
  | 0, d, hb, hs, hk => ⟨A1 (by rw [BF, if_neg (by omega)]; rfl), rfl⟩
  | k + 1, d, hb, hs, hk => by
    have e1 : AJ ((b : Int) - (a : Int)) = ((b - a : Nat) : Int) := by rw [Az (by omega)]; omega
    have hst : BF (a : Int) (b : Int) (d.toList, ((k + 1 : Nat) : Int) - 1) = some (.inl ((siftDown AA (b - a) a k d).toList, (k : Int) - 1)) := by
      rw [BF, if_pos (by omega), e1, show ((k + 1 : Nat) : Int) - 1 = (k : Int) by omega, KP _ _ _ _ (by omega) hs (by omega), Option.bind_some, Az (by omega)]
    rw [Ca hst]
    have hz := HB (b - a) a k d (by omega) hs (by omega)
    have := KJ hab k (siftDown AA (b - a) a k d) (by omega) (by omega) (by omega)
    rw [heapBuild]
    exact ⟨this.1, by rw [this.2, hz]⟩
theorem MN {a : Nat} : ∀ (k : Nat) (d : Array Int), a + k ≤ d.size → d.size ≤ 1000000000 → AZ (BG (a : Int)) (d.toList, (k : Int) - 1) = some (heapPop AA a k d).toList
  | 0, d, hb, hs => A1 (by rw [BG, if_neg (by omega)]; rfl)
  | k + 1, d, hb, hs => by
    have e1 : ((k + 1 : Nat) : Int) - 1 = (k : Int) := by omega
    have e2 : AJ ((a : Int) + (k : Int)) = ((a + k : Nat) : Int) := by rw [Az (by omega)]; omega
    have h0 := D1 (d := d) (show a < d.size by omega)
    have h1 := D1 (d := d) (show a + k < d.size by omega)
    have hz := size_swp d a (a + k)
    have hst : BG (a : Int) (d.toList, ((k + 1 : Nat) : Int) - 1) = some (.inl ((siftDown AA k a 0 (swp d a (a + k))).toList, (k : Int) - 1)) := by
      rw [BG, e1, if_pos (by omega), e2]
      simp only [h1, h0, Option.bind_some, Fy, D1 (show a + k < (d.setIfInBounds a d[a + k]!).size by simp; omega)]
      show (B0 (swp d a (a + k)).toList ((0 : Nat) : Int) (k : Int) (a : Int)).bind _ = _
      rw [KP _ _ _ _ (by omega) (by omega) (by omega), Option.bind_some, Az (by omega)]
    rw [Ca hst, heapPop]
    have hz2 := HB k a 0 (swp d a (a + k)) (by omega) (by omega) (by omega)
    exact MN k _ (by omega) (by omega)
theorem Nd (d : Array Int) (a b : Nat) (hb : b ≤ d.size) (hs : d.size ≤ 1000000000) (ha : a < b) : Ck d.toList (a : Int) (b : Int) = some (heapSort AA d a b).toList := by
  unfold Ck
  have e1 : AJ ((b : Int) - (a : Int)) = ((b - a : Nat) : Int) := by rw [Az (by omega)]; omega
  have e2 : AJ (((b - a : Nat) : Int) - 1) = ((b - a : Nat) : Int) - 1 := Az (by omega)
  have e3 : AJ (Int.tdiv (((b - a : Nat) : Int) - 1) 2) = (((b - a - 1) / 2 + 1 : Nat) : Int) - 1 := by
    rw [Int.tdiv_eq_ediv_of_nonneg (by omega), Az (by omega)]; omega
  rw [e1, e2, e3]
  have h := KJ (Nat.le_of_lt ha) ((b - a - 1) / 2 + 1) d hb hs (by omega)
  rw [h.1, Option.bind_some, MN _ _ (by rw [h.2]; omega) (by rw [h.2]; exact hs)]
  rfl
theorem Kk (d : Array Int) (a b s : Nat) (ha : a < d.size) (hb : b < d.size) (hs : s < 1000) : BP d.toList (a : Int) (b : Int) (s : Int) = some (((order2 AA d a b s).1 : Int), ((order2 AA d a b s).2.1 : Int), ((order2 AA d a b s).2.2 : Int)) := by
  unfold BP order2
  have h0 := D1 (d := d) ha
  have h1 := D1 (d := d) hb
  by_cases c : AA d[b]! d[a]! = true
  · simp only [h0, h1, Option.bind_some, Ja, c, if_true, Az (show -9223372036854775808 ≤ (s : Int) + 1 ∧ (s : Int) + 1 ≤ 9223372036854775807 by omega)]; rfl
  · simp only [h0, h1, Option.bind_some, Ja, c, Bool.false_eq_true, if_false]
theorem LV (d : Array Int) (a b c s : Nat) (ha : a < d.size) (hb : b < d.size) (hc : c < d.size) (hs : s < 900) : BQ d.toList (a : Int) (b : Int) (c : Int) (s : Int) = some (((median AA d a b c s).1 : Int), ((median AA d a b c s).2 : Int)) := by
  unfold BQ median
  have m1 := order2_mem AA d a b s
  have k1 := order2_count AA d a b s
  rw [Kk d a b s ha hb (by omega), Option.bind_some]
  have m2 := order2_mem AA d (order2 AA d a b s).2.1 c (order2 AA d a b s).2.2
  have k2 := order2_count AA d (order2 AA d a b s).2.1 c (order2 AA d a b s).2.2
  rw [Kk d _ c _ (by omega) hc (by omega), Option.bind_some, Kk d _ _ _ (by omega) (by omega) (by omega)]; rfl
theorem KC (d : Array Int) (a s : Nat) (h0 : 0 < a) (ha : a + 1 < d.size) (hb : d.size ≤ 1000000000) (hs : s < 900) : A7 d.toList (a : Int) (s : Int) = some (((medianAdjacent AA d a s).1 : Int), ((medianAdjacent AA d a s).2 : Int)) := by
  unfold A7 medianAdjacent
  rw [Az (x := (a : Int) - 1) (by omega), Az (x := (a : Int) + 1) (by omega), show (a : Int) - 1 = ((a - 1 : Nat) : Int) by omega, show (a : Int) + 1 = ((a + 1 : Nat) : Int) by omega, LV d _ _ _ _ (by omega) (by omega) (by omega) hs]; rfl
def F5 : Hint → Int
  | .unknown => 0
  | .increasing => 1
  | .decreasing => 2
theorem MS (j s : Nat) : ((some ((j : Int), (s : Int))).bind fun (x : Int × Int) => match x with | (x1, x2) => (if x2 = 0 then some (x1, 1) else (if x2 = 12 then some (x1, 2) else some (x1, (0 : Int))))) = some ((j : Int), F5 (if s = 0 then .increasing else if s = 12 then .decreasing else .unknown)) := by
  rw [Option.bind_some]
  show (if (s : Int) = 0 then some ((j : Int), (1 : Int)) else (if (s : Int) = 12 then some ((j : Int), 2) else some ((j : Int), 0))) = _
  by_cases c1 : s = 0
  · rw [if_pos (by omega), if_pos c1]; rfl
  · rw [if_neg (by omega), if_neg c1]
    by_cases c2 : s = 12
    · rw [if_pos (by omega), if_pos c2]; rfl
    · rw [if_neg (by omega), if_neg c2]; rfl
theorem Ob (d : Array Int) (a b : Nat) (hb : b ≤ d.size) (hs : d.size ≤ 1000000000) (ha : a + 12 < b) : B8 d.toList (a : Int) (b : Int) = some (((choosePivot AA d a b).1 : Int), F5 (choosePivot AA d a b).2) := by
  unfold B8
  have e1 : AJ ((b : Int) - (a : Int)) = ((b - a : Nat) : Int) := by rw [Az (by omega)]; omega
  have e2 : AJ (Int.tdiv ((b - a : Nat) : Int) 4) = (((b - a) / 4 : Nat) : Int) := by rw [Int.tdiv_eq_ediv_of_nonneg (by omega), Az (by omega)]; omega
  have f1 : AJ ((a : Int) + AJ ((((b - a) / 4 : Nat) : Int) * 1)) = ((a + (b - a) / 4 * 1 : Nat) : Int) := by rw [Az (x := (((b - a) / 4 : Nat) : Int) * 1) (by omega), Az (by omega)]; omega
  have f2 : AJ ((a : Int) + AJ ((((b - a) / 4 : Nat) : Int) * 2)) = ((a + (b - a) / 4 * 2 : Nat) : Int) := by rw [Az (x := (((b - a) / 4 : Nat) : Int) * 2) (by omega), Az (by omega)]; omega
  have f3 : AJ ((a : Int) + AJ ((((b - a) / 4 : Nat) : Int) * 3)) = ((a + (b - a) / 4 * 3 : Nat) : Int) := by rw [Az (x := (((b - a) / 4 : Nat) : Int) * 3) (by omega), Az (by omega)]; omega
  rw [e1, e2, f1, f2, f3, if_pos (by omega), choosePivot_eq]
  unfold rawPivot
  rw [if_pos (show b - a ≥ 8 by omega)]
  have b1 : a < a + (b - a) / 4 * 1 ∧ a + (b - a) / 4 * 3 + 1 < b := by omega
  have b2 : a + (b - a) / 4 * 1 < a + (b - a) / 4 * 2 ∧ a + (b - a) / 4 * 2 < a + (b - a) / 4 * 3 := by omega
  generalize a + (b - a) / 4 * 1 = i at b1 b2 ⊢
  generalize a + (b - a) / 4 * 2 = j at b2 ⊢
  generalize a + (b - a) / 4 * 3 = k at b1 b2 ⊢
  by_cases c : b - a ≥ 50
  · rw [if_pos (show (50 : Int) ≤ ((b - a : Nat) : Int) by omega), if_pos c]
    have g1 := medianAdjacent_count AA d i 0
    have n1 := medianAdjacent_mem AA d i 0
    have q1 := KC d i 0 (by omega) (by omega) hs (by omega)
    generalize medianAdjacent AA d i 0 = r1 at g1 n1 q1 ⊢
    have g2 := medianAdjacent_count AA d j r1.2
    have n2 := medianAdjacent_mem AA d j r1.2
    have q2 := KC d j r1.2 (by omega) (by omega) hs (by omega)
    generalize medianAdjacent AA d j r1.2 = r2 at g2 n2 q2 ⊢
    have g3 := medianAdjacent_count AA d k r2.2
    have n3 := medianAdjacent_mem AA d k r2.2
    have q3 := KC d k r2.2 (by omega) (by omega) hs (by omega)
    generalize medianAdjacent AA d k r2.2 = r3 at g3 n3 q3 ⊢
    have q4 := LV d r1.1 r2.1 r3.1 r3.2 (by omega) (by omega) (by omega) (by omega)
    generalize median AA d r1.1 r2.1 r3.1 r3.2 = r4 at q4 ⊢
    have q1' : A7 d.toList (i : Int) 0 = some ((r1.1 : Int), (r1.2 : Int)) := q1
    rw [q1', Option.bind_some]
    simp only []
    rw [q2, Option.bind_some]
    simp only []
    rw [q3, Option.bind_some, Option.bind_some]
    simp only []
    rw [q4, Option.bind_some]
    exact MS r4.1 r4.2
  · rw [if_neg (show ¬ (50 : Int) ≤ ((b - a : Nat) : Int) by omega), if_neg c]
    have q4 := LV d i j k 0 (by omega) (by omega) (by omega) (by omega)
    generalize median AA d i j k 0 = r4 at q4 ⊢
    have q4' : BQ d.toList (i : Int) (j : Int) (k : Int) 0 = some ((r4.1 : Int), (r4.2 : Int)) := q4
    rw [Option.bind_some]
    simp only []
    rw [q4', Option.bind_some]
    exact MS r4.1 r4.2
theorem LA : ∀ (m i j : Nat) (d : Array Int), j - i ≤ m → j < d.size → d.size ≤ 1000000000 → AZ Bd (d.toList, (i : Int), (j : Int)) = some (reverseLoop i j d).toList := by
  intro m
  induction m with
  | zero =>
    intro i j d hm hj hs
    rw [reverseLoop, if_neg (by omega)]
    exact A1 (by rw [Bd, if_neg (by omega)])
  | succ m ih =>
    intro i j d hm hj hs
    rw [reverseLoop]
    by_cases c : i < j
    · rw [if_pos c]
      have h0 := D1 (d := d) (show i < d.size by omega)
      have h1 := D1 (d := d) hj
      have hst : Bd (d.toList, (i : Int), (j : Int)) = some (.inl ((swp d i j).toList, ((i + 1 : Nat) : Int), ((j - 1 : Nat) : Int))) := by
        rw [Bd, if_pos (by omega)]
        simp only [h0, h1, Option.bind_some, Fy, D1 (show j < (d.setIfInBounds i d[j]!).size by simp; omega)]
        rw [Az (x := (i : Int) + 1) (by omega), Az (x := (j : Int) - 1) (by omega), show (j : Int) - 1 = ((j - 1 : Nat) : Int) by omega]; rfl
      rw [Ca hst]
      exact ih (i + 1) (j - 1) _ (by omega) (by rw [size_swp]; omega) (by rw [size_swp]; exact hs)
    · rw [if_neg c]
      exact A1 (by rw [Bd, if_neg (by omega)])
theorem NB (d : Array Int) (a b : Nat) (hb : b ≤ d.size) (hs : d.size ≤ 1000000000) (ha : a < b) : Bz d.toList (a : Int) (b : Int) = some (reverseRange d a b).toList := by
  unfold Bz
  rw [Az (by omega), show (b : Int) - 1 = ((b - 1 : Nat) : Int) by omega]
  exact LA _ a (b - 1) d (Nat.le_refl _) (by omega) hs
end
end Go.Proofs.YtepfcpffbabgmaaDoor
