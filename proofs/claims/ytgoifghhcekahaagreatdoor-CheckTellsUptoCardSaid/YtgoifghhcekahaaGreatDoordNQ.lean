/- Layer 30: the order of numbers; the sort's parts, first half. Conditions: none. -/
import Derived.Test.YtgoifghhcekahaaGreatDoordMP
import Derived.Test.YtgoifghhcekahaaGreatDoordB8
namespace Go.Proofs.YtgoifghhcekahaaGreatDoor
set_option linter.unusedVariables false
set_option linter.unusedSimpArgs false
open Go Go.RowKit
def AL (x y : Int) : Bool := decide (x < y)
theorem PO (x y : Int) : A2 x y = AL x y := by
  unfold A2 Db AL
  simp
section
open Go.Sort
theorem Rs {a : Nat} : ∀ (j : Nat) (d : Array Int), j < d.size → d.size ≤ 1000000000 → AB (Bd (a : Int)) (d.toList, (j : Int)) = some (insInner AL a j d).toList
  | 0, d, hj, hb => AV (by rw [Bd, if_neg (by omega), Option.bind_some, if_neg (by decide)]; rfl)
  | j + 1, d, hj, hb => by
    have e1 : AJ (((j + 1 : Nat) : Int) - 1) = (j : Int) := by rw [Ax (by omega)]; omega
    have h1 := Gf (d := d) hj
    have h0 := Gf (d := d) (show j < d.size by omega)
    rw [insInner]
    by_cases c : a < j + 1
    · by_cases c2 : AL d[j + 1]! d[j]! = true
      · rw [if_pos (by simp [c, c2])]
        have hst : Bd (a : Int) (d.toList, ((j + 1 : Nat) : Int)) = some (.inl ((swp d (j + 1) j).toList, (j : Int))) := by
          rw [Bd, if_pos (by omega), e1]
          simp only [h1, h0, Option.bind_some, PO, c2, if_true, IE, Gf (show j < (d.setIfInBounds (j + 1) d[j]!).size by simp; omega)]
          rfl
        rw [BU hst]
        exact Rs j _ (by rw [size_swp]; omega) (by rw [size_swp]; exact hb)
      · rw [if_neg (by simp [c2])]
        refine AV ?_
        rw [Bd, if_pos (by omega), e1]
        simp only [h1, h0, Option.bind_some, PO, c2, Bool.false_eq_true, if_false]
    · rw [if_neg (by simp; omega)]
      exact AV (by rw [Bd, if_neg (by omega), Option.bind_some, if_neg (by decide)])
theorem TV {a b : Nat} : ∀ (m i : Nat) (d : Array Int), b - i = m → b ≤ d.size → d.size ≤ 1000000000 → AB (BG (a : Int) (b : Int)) (d.toList, (i : Int)) = some (insOuter AL a b i d).toList := by
  intro m
  induction m with
  | zero =>
    intro i d hm hb hs
    rw [insOuter, if_neg (by omega)]
    exact AV (by rw [BG, if_neg (by omega)])
  | succ m ih =>
    intro i d hm hb hs
    rw [insOuter, if_pos (by omega)]
    have hst : BG (a : Int) (b : Int) (d.toList, (i : Int)) = some (.inl ((insInner AL a i d).toList, ((i + 1 : Nat) : Int))) := by
      rw [BG, if_pos (by omega), Rs i d (by omega) hs, Option.bind_some, Ax (by omega)]; rfl
    rw [BU hst]
    exact ih (i + 1) _ (by omega) (by rw [Iw]; exact hb) (by rw [Iw]; exact hs)
theorem XR (d : Array Int) (a b : Nat) (hb : b ≤ d.size) (hs : d.size ≤ 1000000000) (ha : a ≤ b) : Cp d.toList (a : Int) (b : Int) = some (insertionSort AL d a b).toList := by
  unfold Cp
  rw [Ax (by omega)]
  exact TV _ (a + 1) d rfl hb hs
theorem VD {hi first : Nat} : ∀ (m root : Nat) (d : Array Int), hi - root ≤ m → first + hi ≤ d.size → d.size ≤ 1000000000 → root < 2000000000 → AB (A5 (hi : Int) (first : Int)) (d.toList, (root : Int)) = some (siftDown AL hi first root d).toList ∧ (siftDown AL hi first root d).size = d.size := by
  intro m
  induction m with
  | zero =>
    intro root d hm hf hs hr
    have e1 : AJ ((AJ (2 * (root : Int))) + 1) = ((2 * root + 1 : Nat) : Int) := by rw [Ax (x := 2 * (root : Int)) (by omega), Ax (by omega)]; omega
    rw [siftDown, dif_pos (by omega)]
    exact ⟨AV (by rw [A5, e1, if_pos (by omega)]), rfl⟩
  | succ m ih =>
    intro root d hm hf hs hr
    have e1 : AJ ((AJ (2 * (root : Int))) + 1) = ((2 * root + 1 : Nat) : Int) := by rw [Ax (x := 2 * (root : Int)) (by omega), Ax (by omega)]; omega
    rw [siftDown]
    by_cases c : 2 * root + 1 ≥ hi
    · rw [dif_pos c]
      exact ⟨AV (by rw [A5, e1, if_pos (by omega)]), rfl⟩
    · rw [dif_neg c]
      have e2 : AJ (((2 * root + 1 : Nat) : Int) + 1) = ((2 * root + 2 : Nat) : Int) := by rw [Ax (by omega)]; omega
      have e3 : AJ ((first : Int) + ((2 * root + 1 : Nat) : Int)) = ((first + (2 * root + 1) : Nat) : Int) := by rw [Ax (by omega)]; omega
      have e4 : AJ (((first + (2 * root + 1) : Nat) : Int) + 1) = ((first + (2 * root + 1) + 1 : Nat) : Int) := by rw [Ax (by omega)]; omega
      have e5 : AJ ((first : Int) + (root : Int)) = ((first + root : Nat) : Int) := by rw [Ax (by omega)]; omega
      have e6 : AJ ((first : Int) + ((2 * root + 2 : Nat) : Int)) = ((first + (2 * root + 2) : Nat) : Int) := by rw [Ax (by omega)]; omega
      have g0 := Gf (d := d) (show first + root < d.size by omega)
      have g1 := Gf (d := d) (show first + (2 * root + 1) < d.size by omega)
      by_cases c2 : (decide (2 * root + 1 + 1 < hi) && AL d[first + (2 * root + 1)]! d[first + (2 * root + 1) + 1]!) = true
      · have c3 : 2 * root + 2 < hi := by have := (Bool.and_eq_true _ _ ▸ c2).1; simpa using this
        have c4 := (Bool.and_eq_true _ _ ▸ c2).2
        have g2 := Gf (d := d) (show first + (2 * root + 1) + 1 < d.size by omega)
        have g3 := Gf (d := d) (show first + (2 * root + 2) < d.size by omega)
        rw [if_pos c2]
        by_cases c5 : AL d[first + root]! d[first + (2 * root + 2)]! = true
        · rw [if_neg (by rw [c5]; decide), dif_pos c3]
          have hst : A5 (hi : Int) (first : Int) (d.toList, (root : Int)) = some (.inl ((swp d (first + root) (first + (2 * root + 2))).toList, ((2 * root + 2 : Nat) : Int))) := by
            rw [A5, e1, if_neg (by omega), e2, if_pos (by omega), e3, e4]
            simp only [g1, g2, Option.bind_some, PO, c4, if_true, e5, e6, g0, g3, c5, Bool.not_true, Bool.false_eq_true, if_false, IE, Gf (show first + (2 * root + 2) < (d.setIfInBounds (first + root) d[first + (2 * root + 2)]!).size by simp; omega)]
            rfl
          rw [BU hst]
          have := ih (2 * root + 2) (swp d (first + root) (first + (2 * root + 2))) (by omega) (by rw [size_swp]; exact hf) (by rw [size_swp]; exact hs) (by omega)
          exact ⟨this.1, by rw [this.2, size_swp]⟩
        · rw [if_pos (by simpa using c5)]
          refine ⟨AV ?_, rfl⟩
          rw [A5, e1, if_neg (by omega), e2, if_pos (by omega), e3, e4]
          simp only [g1, g2, Option.bind_some, PO, c4, if_true, e5, e6, g0, g3, c5, Bool.not_false]
      · rw [if_neg c2]
        have hpick : (if ((2 * root + 2 : Nat) : Int) < (hi : Int) then (ix d.toList ((first + (2 * root + 1) + 1 : Nat) : Int)).bind fun x6 => some (AL d[first + (2 * root + 1)]! x6) else some false) = some false := by
          by_cases c3 : 2 * root + 2 < hi
          · rw [if_pos (by omega), Gf (d := d) (show first + (2 * root + 1) + 1 < d.size by omega), Option.bind_some]
            congr 1
            by_cases c4 : AL d[first + (2 * root + 1)]! d[first + (2 * root + 1) + 1]! = true
            · exact absurd (by rw [c4]; simp; omega) c2
            · simpa using c4
          · rw [if_neg (by omega)]
        by_cases c5 : AL d[first + root]! d[first + (2 * root + 1)]! = true
        · rw [if_neg (by rw [c5]; decide)]
          have hst : A5 (hi : Int) (first : Int) (d.toList, (root : Int)) = some (.inl ((swp d (first + root) (first + (2 * root + 1))).toList, ((2 * root + 1 : Nat) : Int))) := by
            rw [A5, e1, if_neg (by omega), e2, e3, e4]
            simp only [PO, g1, hpick, Option.bind_some, Bool.false_eq_true, if_false, e3, e5, g0, g1, c5, Bool.not_true, IE, Gf (show first + (2 * root + 1) < (d.setIfInBounds (first + root) d[first + (2 * root + 1)]!).size by simp; omega)]
            rfl
          rw [BU hst]
          have := ih (2 * root + 1) (swp d (first + root) (first + (2 * root + 1))) (by omega) (by rw [size_swp]; exact hf) (by rw [size_swp]; exact hs) (by omega)
          exact ⟨this.1, by rw [this.2, size_swp]⟩
        · rw [if_pos (by simpa using c5)]
          refine ⟨AV ?_, rfl⟩
          rw [A5, e1, if_neg (by omega), e2, e3, e4]
          simp only [PO, g1, hpick, Option.bind_some, Bool.false_eq_true, if_false, e3, e5, g0, g1, c5, Bool.not_false, if_true]
theorem TE (hi first root : Nat) (d : Array Int) (hf : first + hi ≤ d.size) (hs : d.size ≤ 1000000000) (hr : root < 2000000000) : Cw d.toList (root : Int) (hi : Int) (first : Int) = some (siftDown AL hi first root d).toList := (VD _ root d (Nat.le_refl _) hf hs hr).1
theorem MA (hi first root : Nat) (d : Array Int) (hf : first + hi ≤ d.size) (hs : d.size ≤ 1000000000) (hr : root < 2000000000) : (siftDown AL hi first root d).size = d.size := (VD _ root d (Nat.le_refl _) hf hs hr).2
theorem Tv {a b : Nat} (hab : a ≤ b) : ∀ (k : Nat) (d : Array Int), b ≤ d.size → d.size ≤ 1000000000 → k ≤ 1000000000 → AB (B8 (a : Int) (b : Int)) (d.toList, (k : Int) - 1) = some (heapBuild AL (b - a) a k d).toList ∧ (heapBuild AL (b - a) a k d).size = d.size
  | 0, d, hb, hs, hk => ⟨AV (by rw [B8, if_neg (by omega)]; rfl), rfl⟩
  | k + 1, d, hb, hs, hk => by
    have e1 : AJ ((b : Int) - (a : Int)) = ((b - a : Nat) : Int) := by rw [Ax (by omega)]; omega
    have hst : B8 (a : Int) (b : Int) (d.toList, ((k + 1 : Nat) : Int) - 1) = some (.inl ((siftDown AL (b - a) a k d).toList, (k : Int) - 1)) := by
      rw [B8, if_pos (by omega), e1, show ((k + 1 : Nat) : Int) - 1 = (k : Int) by omega, TE _ _ _ _ (by omega) hs (by omega), Option.bind_some, Ax (by omega)]
    rw [BU hst]
    have hz := MA (b - a) a k d (by omega) hs (by omega)
    have := Tv hab k (siftDown AL (b - a) a k d) (by omega) (by omega) (by omega)
    rw [heapBuild]
    exact ⟨this.1, by rw [this.2, hz]⟩
theorem WA {a : Nat} : ∀ (k : Nat) (d : Array Int), a + k ≤ d.size → d.size ≤ 1000000000 → AB (B7 (a : Int)) (d.toList, (k : Int) - 1) = some (heapPop AL a k d).toList
  | 0, d, hb, hs => AV (by rw [B7, if_neg (by omega)]; rfl)
  | k + 1, d, hb, hs => by
    have e1 : ((k + 1 : Nat) : Int) - 1 = (k : Int) := by omega
    have e2 : AJ ((a : Int) + (k : Int)) = ((a + k : Nat) : Int) := by rw [Ax (by omega)]; omega
    have h0 := Gf (d := d) (show a < d.size by omega)
    have h1 := Gf (d := d) (show a + k < d.size by omega)
    have hz := size_swp d a (a + k)
    have hst : B7 (a : Int) (d.toList, ((k + 1 : Nat) : Int) - 1) = some (.inl ((siftDown AL k a 0 (swp d a (a + k))).toList, (k : Int) - 1)) := by
      rw [B7, e1, if_pos (by omega), e2]
      simp only [h1, h0, Option.bind_some, IE, Gf (show a + k < (d.setIfInBounds a d[a + k]!).size by simp; omega)]
      show (Cw (swp d a (a + k)).toList ((0 : Nat) : Int) (k : Int) (a : Int)).bind _ = _
      rw [TE _ _ _ _ (by omega) (by omega) (by omega), Option.bind_some, Ax (by omega)]
    rw [BU hst, heapPop]
    have hz2 := MA k a 0 (swp d a (a + k)) (by omega) (by omega) (by omega)
    exact WA k _ (by omega) (by omega)
theorem Xm (d : Array Int) (a b : Nat) (hb : b ≤ d.size) (hs : d.size ≤ 1000000000) (ha : a < b) : C0 d.toList (a : Int) (b : Int) = some (heapSort AL d a b).toList := by
  unfold C0
  have e1 : AJ ((b : Int) - (a : Int)) = ((b - a : Nat) : Int) := by rw [Ax (by omega)]; omega
  have e2 : AJ (((b - a : Nat) : Int) - 1) = ((b - a : Nat) : Int) - 1 := Ax (by omega)
  have e3 : AJ (Int.tdiv (((b - a : Nat) : Int) - 1) 2) = (((b - a - 1) / 2 + 1 : Nat) : Int) - 1 := by
    rw [Int.tdiv_eq_ediv_of_nonneg (by omega), Ax (by omega)]; omega
  rw [e1, e2, e3]
  have h := Tv (Nat.le_of_lt ha) ((b - a - 1) / 2 + 1) d hb hs (by omega)
  rw [h.1, Option.bind_some, WA _ _ (by rw [h.2]; omega) (by rw [h.2]; exact hs)]
  rfl
theorem Sy (d : Array Int) (a b s : Nat) (ha : a < d.size) (hb : b < d.size) (hs : s < 1000) : Ci d.toList (a : Int) (b : Int) (s : Int) = some (((order2 AL d a b s).1 : Int), ((order2 AL d a b s).2.1 : Int), ((order2 AL d a b s).2.2 : Int)) := by
  unfold Ci order2
  have h0 := Gf (d := d) ha
  have h1 := Gf (d := d) hb
  by_cases c : AL d[b]! d[a]! = true
  · simp only [h0, h1, Option.bind_some, PO, c, if_true, Ax (show -9223372036854775808 ≤ (s : Int) + 1 ∧ (s : Int) + 1 ≤ 9223372036854775807 by omega)]; rfl
  · simp only [h0, h1, Option.bind_some, PO, c, Bool.false_eq_true, if_false]
theorem VI (d : Array Int) (a b c s : Nat) (ha : a < d.size) (hb : b < d.size) (hc : c < d.size) (hs : s < 900) : Ck d.toList (a : Int) (b : Int) (c : Int) (s : Int) = some (((median AL d a b c s).1 : Int), ((median AL d a b c s).2 : Int)) := by
  unfold Ck median
  have m1 := order2_mem AL d a b s
  have k1 := order2_count AL d a b s
  rw [Sy d a b s ha hb (by omega), Option.bind_some]
  have m2 := order2_mem AL d (order2 AL d a b s).2.1 c (order2 AL d a b s).2.2
  have k2 := order2_count AL d (order2 AL d a b s).2.1 c (order2 AL d a b s).2.2
  rw [Sy d _ c _ (by omega) hc (by omega), Option.bind_some, Sy d _ _ _ (by omega) (by omega) (by omega)]; rfl
theorem Sk (d : Array Int) (a s : Nat) (h0 : 0 < a) (ha : a + 1 < d.size) (hb : d.size ≤ 1000000000) (hs : s < 900) : Bg d.toList (a : Int) (s : Int) = some (((medianAdjacent AL d a s).1 : Int), ((medianAdjacent AL d a s).2 : Int)) := by
  unfold Bg medianAdjacent
  rw [Ax (x := (a : Int) - 1) (by omega), Ax (x := (a : Int) + 1) (by omega), show (a : Int) - 1 = ((a - 1 : Nat) : Int) by omega, show (a : Int) + 1 = ((a + 1 : Nat) : Int) by omega, VI d _ _ _ _ (by omega) (by omega) (by omega) hs]; rfl
def JP : Hint → Int
  | .unknown => 0
  | .increasing => 1
  | .decreasing => 2
theorem Wv (j s : Nat) : ((some ((j : Int), (s : Int))).bind fun (x : Int × Int) => match x with | (x1, x2) => (if x2 = 0 then some (x1, 1) else (if x2 = 12 then some (x1, 2) else some (x1, (0 : Int))))) = some ((j : Int), JP (if s = 0 then .increasing else if s = 12 then .decreasing else .unknown)) := by
  rw [Option.bind_some]
  show (if (s : Int) = 0 then some ((j : Int), (1 : Int)) else (if (s : Int) = 12 then some ((j : Int), 2) else some ((j : Int), 0))) = _
  by_cases c1 : s = 0
  · rw [if_pos (by omega), if_pos c1]; rfl
  · rw [if_neg (by omega), if_neg c1]
    by_cases c2 : s = 12
    · rw [if_pos (by omega), if_pos c2]; rfl
    · rw [if_neg (by omega), if_neg c2]; rfl
theorem Zc (d : Array Int) (a b : Nat) (hb : b ≤ d.size) (hs : d.size ≤ 1000000000) (ha : a + 12 < b) : CF d.toList (a : Int) (b : Int) = some (((choosePivot AL d a b).1 : Int), JP (choosePivot AL d a b).2) := by
  unfold CF
  have e1 : AJ ((b : Int) - (a : Int)) = ((b - a : Nat) : Int) := by rw [Ax (by omega)]; omega
  have e2 : AJ (Int.tdiv ((b - a : Nat) : Int) 4) = (((b - a) / 4 : Nat) : Int) := by rw [Int.tdiv_eq_ediv_of_nonneg (by omega), Ax (by omega)]; omega
  have f1 : AJ ((a : Int) + AJ ((((b - a) / 4 : Nat) : Int) * 1)) = ((a + (b - a) / 4 * 1 : Nat) : Int) := by rw [Ax (x := (((b - a) / 4 : Nat) : Int) * 1) (by omega), Ax (by omega)]; omega
  have f2 : AJ ((a : Int) + AJ ((((b - a) / 4 : Nat) : Int) * 2)) = ((a + (b - a) / 4 * 2 : Nat) : Int) := by rw [Ax (x := (((b - a) / 4 : Nat) : Int) * 2) (by omega), Ax (by omega)]; omega
  have f3 : AJ ((a : Int) + AJ ((((b - a) / 4 : Nat) : Int) * 3)) = ((a + (b - a) / 4 * 3 : Nat) : Int) := by rw [Ax (x := (((b - a) / 4 : Nat) : Int) * 3) (by omega), Ax (by omega)]; omega
  rw [e1, e2, f1, f2, f3, if_pos (by omega), choosePivot_eq]
  unfold rawPivot
  rw [if_pos (show b - a ≥ 8 by omega)]
  have b1 : a < a + (b - a) / 4 * 1 ∧ a + (b - a) / 4 * 3 + 1 < b := by omega
  have b2 : a + (b - a) / 4 * 1 < a + (b - a) / 4 * 2 ∧ a + (b - a) / 4 * 2 < a + (b - a) / 4 * 3 := by omega
  generalize a + (b - a) / 4 * 1 = i at b1 b2 ⊢
  generalize a + (b - a) / 4 * 2 = j at b2 ⊢
  generalize a + (b - a) / 4 * 3 = k at b1 b2 ⊢
  by_cases c : b - a ≥ 50
  · rw [if_pos (show (50 : Int) ≤ ((b - a : Nat) : Int) by omega), if_pos c]
    have g1 := medianAdjacent_count AL d i 0
    have n1 := medianAdjacent_mem AL d i 0
    have q1 := Sk d i 0 (by omega) (by omega) hs (by omega)
    generalize medianAdjacent AL d i 0 = r1 at g1 n1 q1 ⊢
    have g2 := medianAdjacent_count AL d j r1.2
    have n2 := medianAdjacent_mem AL d j r1.2
    have q2 := Sk d j r1.2 (by omega) (by omega) hs (by omega)
    generalize medianAdjacent AL d j r1.2 = r2 at g2 n2 q2 ⊢
    have g3 := medianAdjacent_count AL d k r2.2
    have n3 := medianAdjacent_mem AL d k r2.2
    have q3 := Sk d k r2.2 (by omega) (by omega) hs (by omega)
    generalize medianAdjacent AL d k r2.2 = r3 at g3 n3 q3 ⊢
    have q4 := VI d r1.1 r2.1 r3.1 r3.2 (by omega) (by omega) (by omega) (by omega)
    generalize median AL d r1.1 r2.1 r3.1 r3.2 = r4 at q4 ⊢
    have q1' : Bg d.toList (i : Int) 0 = some ((r1.1 : Int), (r1.2 : Int)) := q1
    rw [q1', Option.bind_some]
    simp only []
    rw [q2, Option.bind_some]
    simp only []
    rw [q3, Option.bind_some, Option.bind_some]
    simp only []
    rw [q4, Option.bind_some]
    exact Wv r4.1 r4.2
  · rw [if_neg (show ¬ (50 : Int) ≤ ((b - a : Nat) : Int) by omega), if_neg c]
    have q4 := VI d i j k 0 (by omega) (by omega) (by omega) (by omega)
    generalize median AL d i j k 0 = r4 at q4 ⊢
    have q4' : Ck d.toList (i : Int) (j : Int) (k : Int) 0 = some ((r4.1 : Int), (r4.2 : Int)) := q4
    rw [Option.bind_some]
    simp only []
    rw [q4', Option.bind_some]
    exact Wv r4.1 r4.2
theorem Vl : ∀ (m i j : Nat) (d : Array Int), j - i ≤ m → j < d.size → d.size ≤ 1000000000 → AB Bx (d.toList, (i : Int), (j : Int)) = some (reverseLoop i j d).toList := by
  intro m
  induction m with
  | zero =>
    intro i j d hm hj hs
    rw [reverseLoop, if_neg (by omega)]
    exact AV (by rw [Bx, if_neg (by omega)])
  | succ m ih =>
    intro i j d hm hj hs
    rw [reverseLoop]
    by_cases c : i < j
    · rw [if_pos c]
      have h0 := Gf (d := d) (show i < d.size by omega)
      have h1 := Gf (d := d) hj
      have hst : Bx (d.toList, (i : Int), (j : Int)) = some (.inl ((swp d i j).toList, ((i + 1 : Nat) : Int), ((j - 1 : Nat) : Int))) := by
        rw [Bx, if_pos (by omega)]
        simp only [h0, h1, Option.bind_some, IE, Gf (show j < (d.setIfInBounds i d[j]!).size by simp; omega)]
        rw [Ax (x := (i : Int) + 1) (by omega), Ax (x := (j : Int) - 1) (by omega), show (j : Int) - 1 = ((j - 1 : Nat) : Int) by omega]; rfl
      rw [BU hst]
      exact ih (i + 1) (j - 1) _ (by omega) (by rw [size_swp]; omega) (by rw [size_swp]; exact hs)
    · rw [if_neg c]
      exact AV (by rw [Bx, if_neg (by omega)])
theorem XY (d : Array Int) (a b : Nat) (hb : b ≤ d.size) (hs : d.size ≤ 1000000000) (ha : a < b) : BX d.toList (a : Int) (b : Int) = some (reverseRange d a b).toList := by
  unfold BX
  rw [Ax (by omega), show (b : Int) - 1 = ((b - 1 : Nat) : Int) by omega]
  exact Vl _ a (b - 1) d (Nat.le_refl _) (by omega) hs
end
end Go.Proofs.YtgoifghhcekahaaGreatDoor
