/- Layer 25: the order of moves; the sort's parts, first half. Conditions: none. -/
import Derived.Test.YthhoflfhegfmcaaGreatcMP
import Derived.Test.YthhoflfhegfmcaaGreatcA7
namespace Go.Proofs.YthhoflfhegfmcaaGreat
set_option linter.unusedVariables false
set_option linter.unusedSimpArgs false
open Go Go.RowKit
abbrev Mv := Int × Int × Int × Int
instance : Inhabited Mv := ⟨(0, 0, 0, 0)⟩
def VE (x y : Mv) : Int := if AX x.2.2.2 y.2.2.2 ≠ 0 then AX x.2.2.2 y.2.2.2 else if AX x.1 y.1 ≠ 0 then AX x.1 y.1 else AX x.2.1 y.2.1
theorem bI (a b c : Int) : I6 [a, b, c] = some (if a ≠ 0 then a else if b ≠ 0 then b else c) := by
  unfold I6
  by_cases ha : a ≠ 0
  · rw [if_pos ha, Av (e := .inr a) (by rw [Ed, if_pos (by show (0 : Int) < 3; decide)]; show (some a).bind _ = _; rw [Option.bind_some, if_pos ha])]; rfl
  · rw [if_neg ha, A7 (s' := 1) (by rw [Ed, if_pos (by show (0 : Int) < 3; decide)]; show (some a).bind _ = _; rw [Option.bind_some, if_neg ha]; rfl)]
    by_cases hb : b ≠ 0
    · rw [if_pos hb, Av (e := .inr b) (by rw [Ed, if_pos (by show (1 : Int) < 3; decide)]; show (some b).bind _ = _; rw [Option.bind_some, if_pos hb])]; rfl
    · rw [if_neg hb, A7 (s' := 2) (by rw [Ed, if_pos (by show (1 : Int) < 3; decide)]; show (some b).bind _ = _; rw [Option.bind_some, if_neg hb]; rfl)]
      by_cases hc : c ≠ 0
      · rw [Av (e := .inr c) (by rw [Ed, if_pos (by show (2 : Int) < 3; decide)]; show (some c).bind _ = _; rw [Option.bind_some, if_pos hc])]; rfl
      · rw [A7 (s' := 3) (by rw [Ed, if_pos (by show (2 : Int) < 3; decide)]; show (some c).bind _ = _; rw [Option.bind_some, if_neg hc]; rfl), Av (e := .inl ()) (by rw [Ed, if_neg (by show ¬ (3 : Int) < 3; decide)])]
        rw [Decidable.not_not.1 hc]; rfl
theorem Ho (x y : Mv) : Cc x y = some (VE x y) := by
  unfold Cc
  rw [bI]; rfl
def AO (x y : Mv) : Bool := decide (VE x y < 0)
theorem OT (x y : Mv) : (VE x y < 0) = (AO x y = true) := by unfold AO; simp
theorem Q5 (a b : Int) : AX a b = if a < b then -1 else if b < a then 1 else 0 := by
  unfold AX Ck
  simp
theorem KU (x y : Mv) : AO x y = true ↔ (x.2.2.2 < y.2.2.2 ∨ x.2.2.2 = y.2.2.2 ∧ (x.1 < y.1 ∨ x.1 = y.1 ∧ x.2.1 < y.2.1)) := by
  rw [← OT]
  unfold VE
  rw [Q5, Q5, Q5]
  by_cases a1 : x.2.2.2 < y.2.2.2
  · rw [if_pos a1, if_pos (by decide)]; omega
  · rw [if_neg a1]
    by_cases a2 : y.2.2.2 < x.2.2.2
    · rw [if_pos a2, if_pos (by decide)]; omega
    · rw [if_neg a2, if_neg (by decide)]
      by_cases b1 : x.1 < y.1
      · rw [if_pos b1, if_pos (by decide)]; omega
      · rw [if_neg b1]
        by_cases b2 : y.1 < x.1
        · rw [if_pos b2, if_pos (by decide)]; omega
        · rw [if_neg b2, if_neg (by decide)]
          by_cases c1 : x.2.1 < y.2.1
          · rw [if_pos c1]; omega
          · rw [if_neg c1]
            by_cases c2 : y.2.1 < x.2.1
            · rw [if_pos c2]; omega
            · rw [if_neg c2]; omega
theorem PQ (x y : Mv) : AO x y = false ↔ ¬ (x.2.2.2 < y.2.2.2 ∨ x.2.2.2 = y.2.2.2 ∧ (x.1 < y.1 ∨ x.1 = y.1 ∧ x.2.1 < y.2.1)) := by
  rw [← KU]; simp
theorem Wz : Go.Sort.SWO AO := ⟨fun x => by rw [PQ]; omega, fun x y z h1 h2 => by rw [KU] at h1 h2 ⊢; omega, fun x y z h1 h2 => by rw [PQ] at h1 h2 ⊢; omega⟩
section
open Go.Sort
theorem QA {a : Nat} : ∀ (j : Nat) (d : Array (Int × Int × Int × Int)), j < d.size → d.size ≤ 1000000000 → Aq (A2 (a : Int)) (d.toList, (j : Int)) = some (insInner AO a j d).toList
  | 0, d, hj, hb => Av (by rw [A2, if_neg (by omega), Option.bind_some, if_neg (by decide)]; rfl)
  | j + 1, d, hj, hb => by
    have e1 : An (((j + 1 : Nat) : Int) - 1) = (j : Int) := by rw [Aj (by omega)]; omega
    have h1 := C1 (d := d) hj
    have h0 := C1 (d := d) (show j < d.size by omega)
    rw [insInner]
    by_cases c : a < j + 1
    · by_cases c2 : AO d[j + 1]! d[j]! = true
      · rw [if_pos (by simp [c, c2])]
        have hst : A2 (a : Int) (d.toList, ((j + 1 : Nat) : Int)) = some (.inl ((swp d (j + 1) j).toList, (j : Int))) := by
          rw [A2, if_pos (by omega), e1]
          simp only [h1, h0, Option.bind_some, Ho, OT, Bool.decide_eq_true, c2, if_true, IH, C1 (show j < (d.setIfInBounds (j + 1) d[j]!).size by simp; omega)]
          rfl
        rw [A7 hst]
        exact QA j _ (by rw [size_swp]; omega) (by rw [size_swp]; exact hb)
      · rw [if_neg (by simp [c2])]
        refine Av ?_
        rw [A2, if_pos (by omega), e1]
        simp only [h1, h0, Option.bind_some, Ho, OT, Bool.decide_eq_true, c2, Bool.false_eq_true, if_false]
    · rw [if_neg (by simp; omega)]
      exact Av (by rw [A2, if_neg (by omega), Option.bind_some, if_neg (by decide)])
theorem SM {a b : Nat} : ∀ (m i : Nat) (d : Array (Int × Int × Int × Int)), b - i = m → b ≤ d.size → d.size ≤ 1000000000 → Aq (Br (a : Int) (b : Int)) (d.toList, (i : Int)) = some (insOuter AO a b i d).toList := by
  intro m
  induction m with
  | zero =>
    intro i d hm hb hs
    rw [insOuter, if_neg (by omega)]
    exact Av (by rw [Br, if_neg (by omega)])
  | succ m ih =>
    intro i d hm hb hs
    rw [insOuter, if_pos (by omega)]
    have hst : Br (a : Int) (b : Int) (d.toList, (i : Int)) = some (.inl ((insInner AO a i d).toList, ((i + 1 : Nat) : Int))) := by
      rw [Br, if_pos (by omega), QA i d (by omega) hs, Option.bind_some, Aj (by omega)]; rfl
    rw [A7 hst]
    exact ih (i + 1) _ (by omega) (by rw [GR]; exact hb) (by rw [GR]; exact hs)
theorem Xs (d : Array (Int × Int × Int × Int)) (a b : Nat) (hb : b ≤ d.size) (hs : d.size ≤ 1000000000) (ha : a ≤ b) : B4 d.toList (a : Int) (b : Int) = some (insertionSort AO d a b).toList := by
  unfold B4
  rw [Aj (by omega)]
  exact SM _ (a + 1) d rfl hb hs
theorem Ub {hi first : Nat} : ∀ (m root : Nat) (d : Array (Int × Int × Int × Int)), hi - root ≤ m → first + hi ≤ d.size → d.size ≤ 1000000000 → root < 2000000000 → Aq (AM (hi : Int) (first : Int)) (d.toList, (root : Int)) = some (siftDown AO hi first root d).toList ∧ (siftDown AO hi first root d).size = d.size := by
  intro m
  induction m with
  | zero =>
    intro root d hm hf hs hr
    have e1 : An ((An (2 * (root : Int))) + 1) = ((2 * root + 1 : Nat) : Int) := by rw [Aj (x := 2 * (root : Int)) (by omega), Aj (by omega)]; omega
    rw [siftDown, dif_pos (by omega)]
    exact ⟨Av (by rw [AM, e1, if_pos (by omega)]), rfl⟩
  | succ m ih =>
    intro root d hm hf hs hr
    have e1 : An ((An (2 * (root : Int))) + 1) = ((2 * root + 1 : Nat) : Int) := by rw [Aj (x := 2 * (root : Int)) (by omega), Aj (by omega)]; omega
    rw [siftDown]
    by_cases c : 2 * root + 1 ≥ hi
    · rw [dif_pos c]
      exact ⟨Av (by rw [AM, e1, if_pos (by omega)]), rfl⟩
    · rw [dif_neg c]
      have e2 : An (((2 * root + 1 : Nat) : Int) + 1) = ((2 * root + 2 : Nat) : Int) := by rw [Aj (by omega)]; omega
      have e3 : An ((first : Int) + ((2 * root + 1 : Nat) : Int)) = ((first + (2 * root + 1) : Nat) : Int) := by rw [Aj (by omega)]; omega
      have e4 : An (((first + (2 * root + 1) : Nat) : Int) + 1) = ((first + (2 * root + 1) + 1 : Nat) : Int) := by rw [Aj (by omega)]; omega
      have e5 : An ((first : Int) + (root : Int)) = ((first + root : Nat) : Int) := by rw [Aj (by omega)]; omega
      have e6 : An ((first : Int) + ((2 * root + 2 : Nat) : Int)) = ((first + (2 * root + 2) : Nat) : Int) := by rw [Aj (by omega)]; omega
      have g0 := C1 (d := d) (show first + root < d.size by omega)
      have g1 := C1 (d := d) (show first + (2 * root + 1) < d.size by omega)
      by_cases c2 : (decide (2 * root + 1 + 1 < hi) && AO d[first + (2 * root + 1)]! d[first + (2 * root + 1) + 1]!) = true
      · have c3 : 2 * root + 2 < hi := by have := (Bool.and_eq_true _ _ ▸ c2).1; simpa using this
        have c4 := (Bool.and_eq_true _ _ ▸ c2).2
        have g2 := C1 (d := d) (show first + (2 * root + 1) + 1 < d.size by omega)
        have g3 := C1 (d := d) (show first + (2 * root + 2) < d.size by omega)
        rw [if_pos c2]
        by_cases c5 : AO d[first + root]! d[first + (2 * root + 2)]! = true
        · rw [if_neg (by rw [c5]; decide), dif_pos c3]
          have hst : AM (hi : Int) (first : Int) (d.toList, (root : Int)) = some (.inl ((swp d (first + root) (first + (2 * root + 2))).toList, ((2 * root + 2 : Nat) : Int))) := by
            rw [AM, e1, if_neg (by omega), e2, if_pos (by omega), e3, e4]
            simp only [g1, g2, Option.bind_some, Ho, OT, Bool.decide_eq_true, c4, if_true, e5, e6, g0, g3, c5, Bool.not_true, Bool.false_eq_true, if_false, IH, C1 (show first + (2 * root + 2) < (d.setIfInBounds (first + root) d[first + (2 * root + 2)]!).size by simp; omega)]
            rfl
          rw [A7 hst]
          have := ih (2 * root + 2) (swp d (first + root) (first + (2 * root + 2))) (by omega) (by rw [size_swp]; exact hf) (by rw [size_swp]; exact hs) (by omega)
          exact ⟨this.1, by rw [this.2, size_swp]⟩
        · rw [if_pos (by simpa using c5)]
          refine ⟨Av ?_, rfl⟩
          rw [AM, e1, if_neg (by omega), e2, if_pos (by omega), e3, e4]
          simp only [g1, g2, Option.bind_some, Ho, OT, Bool.decide_eq_true, c4, if_true, e5, e6, g0, g3, c5, Bool.not_false]
      · rw [if_neg c2]
        have hpick : (if ((2 * root + 2 : Nat) : Int) < (hi : Int) then (ix d.toList ((first + (2 * root + 1) + 1 : Nat) : Int)).bind fun x6 => some (AO d[first + (2 * root + 1)]! x6) else some false) = some false := by
          by_cases c3 : 2 * root + 2 < hi
          · rw [if_pos (by omega), C1 (d := d) (show first + (2 * root + 1) + 1 < d.size by omega), Option.bind_some]
            congr 1
            by_cases c4 : AO d[first + (2 * root + 1)]! d[first + (2 * root + 1) + 1]! = true
            · exact absurd (by rw [c4]; simp; omega) c2
            · simpa using c4
          · rw [if_neg (by omega)]
        by_cases c5 : AO d[first + root]! d[first + (2 * root + 1)]! = true
        · rw [if_neg (by rw [c5]; decide)]
          have hst : AM (hi : Int) (first : Int) (d.toList, (root : Int)) = some (.inl ((swp d (first + root) (first + (2 * root + 1))).toList, ((2 * root + 1 : Nat) : Int))) := by
            rw [AM, e1, if_neg (by omega), e2, e3, e4]
            simp only [Ho, OT, Bool.decide_eq_true, g1, hpick, Option.bind_some, Bool.false_eq_true, if_false, e3, e5, g0, g1, c5, Bool.not_true, IH, C1 (show first + (2 * root + 1) < (d.setIfInBounds (first + root) d[first + (2 * root + 1)]!).size by simp; omega)]
            rfl
          rw [A7 hst]
          have := ih (2 * root + 1) (swp d (first + root) (first + (2 * root + 1))) (by omega) (by rw [size_swp]; exact hf) (by rw [size_swp]; exact hs) (by omega)
          exact ⟨this.1, by rw [this.2, size_swp]⟩
        · rw [if_pos (by simpa using c5)]
          refine ⟨Av ?_, rfl⟩
          rw [AM, e1, if_neg (by omega), e2, e3, e4]
          simp only [Ho, OT, Bool.decide_eq_true, g1, hpick, Option.bind_some, Bool.false_eq_true, if_false, e3, e5, g0, g1, c5, Bool.not_false, if_true]
theorem Sd (hi first root : Nat) (d : Array (Int × Int × Int × Int)) (hf : first + hi ≤ d.size) (hs : d.size ≤ 1000000000) (hr : root < 2000000000) : B1 d.toList (root : Int) (hi : Int) (first : Int) = some (siftDown AO hi first root d).toList := (Ub _ root d (Nat.le_refl _) hf hs hr).1
theorem Nj (hi first root : Nat) (d : Array (Int × Int × Int × Int)) (hf : first + hi ≤ d.size) (hs : d.size ≤ 1000000000) (hr : root < 2000000000) : (siftDown AO hi first root d).size = d.size := (Ub _ root d (Nat.le_refl _) hf hs hr).2
theorem RO {a b : Nat} (hab : a ≤ b) : ∀ (k : Nat) (d : Array (Int × Int × Int × Int)), b ≤ d.size → d.size ≤ 1000000000 → k ≤ 1000000000 → Aq (BL (a : Int) (b : Int)) (d.toList, (k : Int) - 1) = some (heapBuild AO (b - a) a k d).toList ∧ (heapBuild AO (b - a) a k d).size = d.size
  | 0, d, hb, hs, hk => ⟨Av (by rw [BL, if_neg (by omega)]; rfl), rfl⟩
  | k + 1, d, hb, hs, hk => by
    have e1 : An ((b : Int) - (a : Int)) = ((b - a : Nat) : Int) := by rw [Aj (by omega)]; omega
    have hst : BL (a : Int) (b : Int) (d.toList, ((k + 1 : Nat) : Int) - 1) = some (.inl ((siftDown AO (b - a) a k d).toList, (k : Int) - 1)) := by
      rw [BL, if_pos (by omega), e1, show ((k + 1 : Nat) : Int) - 1 = (k : Int) by omega, Sd _ _ _ _ (by omega) hs (by omega), Option.bind_some, Aj (by omega)]
    rw [A7 hst]
    have hz := Nj (b - a) a k d (by omega) hs (by omega)
    have := RO hab k (siftDown AO (b - a) a k d) (by omega) (by omega) (by omega)
    rw [heapBuild]
    exact ⟨this.1, by rw [this.2, hz]⟩
theorem Wg {a : Nat} : ∀ (k : Nat) (d : Array (Int × Int × Int × Int)), a + k ≤ d.size → d.size ≤ 1000000000 → Aq (BM (a : Int)) (d.toList, (k : Int) - 1) = some (heapPop AO a k d).toList
  | 0, d, hb, hs => Av (by rw [BM, if_neg (by omega)]; rfl)
  | k + 1, d, hb, hs => by
    have e1 : ((k + 1 : Nat) : Int) - 1 = (k : Int) := by omega
    have e2 : An ((a : Int) + (k : Int)) = ((a + k : Nat) : Int) := by rw [Aj (by omega)]; omega
    have h0 := C1 (d := d) (show a < d.size by omega)
    have h1 := C1 (d := d) (show a + k < d.size by omega)
    have hz := size_swp d a (a + k)
    have hst : BM (a : Int) (d.toList, ((k + 1 : Nat) : Int) - 1) = some (.inl ((siftDown AO k a 0 (swp d a (a + k))).toList, (k : Int) - 1)) := by
      rw [BM, e1, if_pos (by omega), e2]
      simp only [h1, h0, Option.bind_some, IH, C1 (show a + k < (d.setIfInBounds a d[a + k]!).size by simp; omega)]
      show (B1 (swp d a (a + k)).toList ((0 : Nat) : Int) (k : Int) (a : Int)).bind _ = _
      rw [Sd _ _ _ _ (by omega) (by omega) (by omega), Option.bind_some, Aj (by omega)]
    rw [A7 hst, heapPop]
    have hz2 := Nj k a 0 (swp d a (a + k)) (by omega) (by omega) (by omega)
    exact Wg k _ (by omega) (by omega)
theorem WT (d : Array (Int × Int × Int × Int)) (a b : Nat) (hb : b ≤ d.size) (hs : d.size ≤ 1000000000) (ha : a < b) : Cw d.toList (a : Int) (b : Int) = some (heapSort AO d a b).toList := by
  unfold Cw
  have e1 : An ((b : Int) - (a : Int)) = ((b - a : Nat) : Int) := by rw [Aj (by omega)]; omega
  have e2 : An (((b - a : Nat) : Int) - 1) = ((b - a : Nat) : Int) - 1 := Aj (by omega)
  have e3 : An (Int.tdiv (((b - a : Nat) : Int) - 1) 2) = (((b - a - 1) / 2 + 1 : Nat) : Int) - 1 := by
    rw [Int.tdiv_eq_ediv_of_nonneg (by omega), Aj (by omega)]; omega
  rw [e1, e2, e3]
  have h := RO (Nat.le_of_lt ha) ((b - a - 1) / 2 + 1) d hb hs (by omega)
  rw [h.1, Option.bind_some, Wg _ _ (by rw [h.2]; omega) (by rw [h.2]; exact hs)]
  rfl
theorem Rh (d : Array (Int × Int × Int × Int)) (a b s : Nat) (ha : a < d.size) (hb : b < d.size) (hs : s < 1000) : BR d.toList (a : Int) (b : Int) (s : Int) = some (((order2 AO d a b s).1 : Int), ((order2 AO d a b s).2.1 : Int), ((order2 AO d a b s).2.2 : Int)) := by
  unfold BR order2
  have h0 := C1 (d := d) ha
  have h1 := C1 (d := d) hb
  by_cases c : AO d[b]! d[a]! = true
  · simp only [h0, h1, Option.bind_some, Ho, OT, Bool.decide_eq_true, c, if_true, Aj (show -9223372036854775808 ≤ (s : Int) + 1 ∧ (s : Int) + 1 ≤ 9223372036854775807 by omega)]; rfl
  · simp only [h0, h1, Option.bind_some, Ho, OT, Bool.decide_eq_true, c, Bool.false_eq_true, if_false]
theorem TL (d : Array (Int × Int × Int × Int)) (a b c s : Nat) (ha : a < d.size) (hb : b < d.size) (hc : c < d.size) (hs : s < 900) : BS d.toList (a : Int) (b : Int) (c : Int) (s : Int) = some (((median AO d a b c s).1 : Int), ((median AO d a b c s).2 : Int)) := by
  unfold BS median
  have m1 := order2_mem AO d a b s
  have k1 := order2_count AO d a b s
  rw [Rh d a b s ha hb (by omega), Option.bind_some]
  have m2 := order2_mem AO d (order2 AO d a b s).2.1 c (order2 AO d a b s).2.2
  have k2 := order2_count AO d (order2 AO d a b s).2.1 c (order2 AO d a b s).2.2
  rw [Rh d _ c _ (by omega) hc (by omega), Option.bind_some, Rh d _ _ _ (by omega) (by omega) (by omega)]; rfl
theorem Rc (d : Array (Int × Int × Int × Int)) (a s : Nat) (h0 : 0 < a) (ha : a + 1 < d.size) (hb : d.size ≤ 1000000000) (hs : s < 900) : A8 d.toList (a : Int) (s : Int) = some (((medianAdjacent AO d a s).1 : Int), ((medianAdjacent AO d a s).2 : Int)) := by
  unfold A8 medianAdjacent
  rw [Aj (x := (a : Int) - 1) (by omega), Aj (x := (a : Int) + 1) (by omega), show (a : Int) - 1 = ((a - 1 : Nat) : Int) by omega, show (a : Int) + 1 = ((a + 1 : Nat) : Int) by omega, TL d _ _ _ _ (by omega) (by omega) (by omega) hs]; rfl
def KL : Hint → Int
  | .unknown => 0
  | .increasing => 1
  | .decreasing => 2
theorem VX (j s : Nat) : ((some ((j : Int), (s : Int))).bind fun (x : Int × Int) => match x with | (x1, x2) => (if x2 = 0 then some (x1, 1) else (if x2 = 12 then some (x1, 2) else some (x1, (0 : Int))))) = some ((j : Int), KL (if s = 0 then .increasing else if s = 12 then .decreasing else .unknown)) := by
  rw [Option.bind_some]
  show (if (s : Int) = 0 then some ((j : Int), (1 : Int)) else (if (s : Int) = 12 then some ((j : Int), 2) else some ((j : Int), 0))) = _
  by_cases c1 : s = 0
  · rw [if_pos (by omega), if_pos c1]; rfl
  · rw [if_neg (by omega), if_neg c1]
    by_cases c2 : s = 12
    · rw [if_pos (by omega), if_pos c2]; rfl
    · rw [if_neg (by omega), if_neg c2]; rfl
theorem Zb (d : Array (Int × Int × Int × Int)) (a b : Nat) (hb : b ≤ d.size) (hs : d.size ≤ 1000000000) (ha : a + 12 < b) : Ce d.toList (a : Int) (b : Int) = some (((choosePivot AO d a b).1 : Int), KL (choosePivot AO d a b).2) := by
  unfold Ce
  have e1 : An ((b : Int) - (a : Int)) = ((b - a : Nat) : Int) := by rw [Aj (by omega)]; omega
  have e2 : An (Int.tdiv ((b - a : Nat) : Int) 4) = (((b - a) / 4 : Nat) : Int) := by rw [Int.tdiv_eq_ediv_of_nonneg (by omega), Aj (by omega)]; omega
  have f1 : An ((a : Int) + An ((((b - a) / 4 : Nat) : Int) * 1)) = ((a + (b - a) / 4 * 1 : Nat) : Int) := by rw [Aj (x := (((b - a) / 4 : Nat) : Int) * 1) (by omega), Aj (by omega)]; omega
  have f2 : An ((a : Int) + An ((((b - a) / 4 : Nat) : Int) * 2)) = ((a + (b - a) / 4 * 2 : Nat) : Int) := by rw [Aj (x := (((b - a) / 4 : Nat) : Int) * 2) (by omega), Aj (by omega)]; omega
  have f3 : An ((a : Int) + An ((((b - a) / 4 : Nat) : Int) * 3)) = ((a + (b - a) / 4 * 3 : Nat) : Int) := by rw [Aj (x := (((b - a) / 4 : Nat) : Int) * 3) (by omega), Aj (by omega)]; omega
  rw [e1, e2, f1, f2, f3, if_pos (by omega), choosePivot_eq]
  unfold rawPivot
  rw [if_pos (show b - a ≥ 8 by omega)]
  have b1 : a < a + (b - a) / 4 * 1 ∧ a + (b - a) / 4 * 3 + 1 < b := by omega
  have b2 : a + (b - a) / 4 * 1 < a + (b - a) / 4 * 2 ∧ a + (b - a) / 4 * 2 < a + (b - a) / 4 * 3 := by omega
  generalize a + (b - a) / 4 * 1 = i at b1 b2 ⊢
  generalize a + (b - a) / 4 * 2 = j at b2 ⊢
  generalize a + (b - a) / 4 * 3 = k at b1 b2 ⊢
  by_cases c : b - a ≥ 50
  · rw [if_pos (show (50 : Int) ≤ ((b - a : Nat) : Int) by omega), if_pos c]
    have g1 := medianAdjacent_count AO d i 0
    have n1 := medianAdjacent_mem AO d i 0
    have q1 := Rc d i 0 (by omega) (by omega) hs (by omega)
    generalize medianAdjacent AO d i 0 = r1 at g1 n1 q1 ⊢
    have g2 := medianAdjacent_count AO d j r1.2
    have n2 := medianAdjacent_mem AO d j r1.2
    have q2 := Rc d j r1.2 (by omega) (by omega) hs (by omega)
    generalize medianAdjacent AO d j r1.2 = r2 at g2 n2 q2 ⊢
    have g3 := medianAdjacent_count AO d k r2.2
    have n3 := medianAdjacent_mem AO d k r2.2
    have q3 := Rc d k r2.2 (by omega) (by omega) hs (by omega)
    generalize medianAdjacent AO d k r2.2 = r3 at g3 n3 q3 ⊢
    have q4 := TL d r1.1 r2.1 r3.1 r3.2 (by omega) (by omega) (by omega) (by omega)
    generalize median AO d r1.1 r2.1 r3.1 r3.2 = r4 at q4 ⊢
    have q1' : A8 d.toList (i : Int) 0 = some ((r1.1 : Int), (r1.2 : Int)) := q1
    rw [q1', Option.bind_some]
    simp only []
    rw [q2, Option.bind_some]
    simp only []
    rw [q3, Option.bind_some, Option.bind_some]
    simp only []
    rw [q4, Option.bind_some]
    exact VX r4.1 r4.2
  · rw [if_neg (show ¬ (50 : Int) ≤ ((b - a : Nat) : Int) by omega), if_neg c]
    have q4 := TL d i j k 0 (by omega) (by omega) (by omega) (by omega)
    generalize median AO d i j k 0 = r4 at q4 ⊢
    have q4' : BS d.toList (i : Int) (j : Int) (k : Int) 0 = some ((r4.1 : Int), (r4.2 : Int)) := q4
    rw [Option.bind_some]
    simp only []
    rw [q4', Option.bind_some]
    exact VX r4.1 r4.2
theorem Un : ∀ (m i j : Nat) (d : Array (Int × Int × Int × Int)), j - i ≤ m → j < d.size → d.size ≤ 1000000000 → Aq Bf (d.toList, (i : Int), (j : Int)) = some (reverseLoop i j d).toList := by
  intro m
  induction m with
  | zero =>
    intro i j d hm hj hs
    rw [reverseLoop, if_neg (by omega)]
    exact Av (by rw [Bf, if_neg (by omega)])
  | succ m ih =>
    intro i j d hm hj hs
    rw [reverseLoop]
    by_cases c : i < j
    · rw [if_pos c]
      have h0 := C1 (d := d) (show i < d.size by omega)
      have h1 := C1 (d := d) hj
      have hst : Bf (d.toList, (i : Int), (j : Int)) = some (.inl ((swp d i j).toList, ((i + 1 : Nat) : Int), ((j - 1 : Nat) : Int))) := by
        rw [Bf, if_pos (by omega)]
        simp only [h0, h1, Option.bind_some, IH, C1 (show j < (d.setIfInBounds i d[j]!).size by simp; omega)]
        rw [Aj (x := (i : Int) + 1) (by omega), Aj (x := (j : Int) - 1) (by omega), show (j : Int) - 1 = ((j - 1 : Nat) : Int) by omega]; rfl
      rw [A7 hst]
      exact ih (i + 1) (j - 1) _ (by omega) (by rw [size_swp]; omega) (by rw [size_swp]; exact hs)
    · rw [if_neg c]
      exact Av (by rw [Bf, if_neg (by omega)])
theorem XF (d : Array (Int × Int × Int × Int)) (a b : Nat) (hb : b ≤ d.size) (hs : d.size ≤ 1000000000) (ha : a < b) : BF d.toList (a : Int) (b : Int) = some (reverseRange d a b).toList := by
  unfold BF
  rw [Aj (by omega), show (b : Int) - 1 = ((b - 1 : Nat) : Int) by omega]
  exact Un _ a (b - 1) d (Nat.le_refl _) (by omega) hs
end
end Go.Proofs.YthhoflfhegfmcaaGreat
