/- Layer 43: the order of floats; the sort's parts, first half. Conditions: none. -/
import Derived.Test.YtdogfpoekndknaaMP
import Derived.Test.YtdogfpoekndknaaM43A
namespace Go.Proofs.Ytdogfpoekndknaa
set_option linter.unusedVariables false
set_option linter.unusedSimpArgs false
open Go Go.RowKit
/-! ### The order of floats, of any number as bits -/
noncomputable def focm (x y : Nat) : Int := (float_Compare x y).getD 0
theorem fclass_any (p : Nat) : ∃ c, float_Class p = some c ∧ (nanB p ∧ c = 0 ∨ ¬ nanB p ∧ 1 ≤ c ∧ c ≤ 6) := by
  unfold float_Class
  rw [isnan_eq]
  by_cases h : nanB p
  · rw [decide_eq_true h, if_pos rfl]
    exact ⟨_, rfl, .inl ⟨h, rfl⟩⟩
  · rw [decide_eq_false h, if_neg (by decide)]
    have h1 : ∃ b, math_IsInf p (-1) = some b := by
      unfold math_IsInf
      rw [if_neg (by decide), if_pos (by decide)]; exact ⟨_, rfl⟩
    have h2 : ∃ b, math_IsInf p 1 = some b := by
      unfold math_IsInf
      rw [if_neg (by decide), if_neg (by decide)]; exact ⟨_, rfl⟩
    obtain ⟨b1, e1⟩ := h1
    obtain ⟨b2, e2⟩ := h2
    rw [e1, e2, Option.bind_some]
    by_cases c1 : b1 = true
    · rw [if_pos c1]; exact ⟨_, rfl, .inr ⟨h, by decide⟩⟩
    · rw [if_neg c1]
      by_cases c2 : fLt p 0 = true
      · rw [if_pos c2]; exact ⟨_, rfl, .inr ⟨h, by decide⟩⟩
      · rw [if_neg c2, Option.bind_some]
        by_cases c3 : b2 = true
        · rw [if_pos c3]; exact ⟨_, rfl, .inr ⟨h, by decide⟩⟩
        · rw [if_neg c3]
          by_cases c4 : fGt p 0 = true
          · rw [if_pos c4]; exact ⟨_, rfl, .inr ⟨h, by decide⟩⟩
          · rw [if_neg c4]
            by_cases c5 : math_Signbit p = true
            · rw [if_pos c5]; exact ⟨_, rfl, .inr ⟨h, by decide⟩⟩
            · rw [if_neg c5]; exact ⟨_, rfl, .inr ⟨h, by decide⟩⟩
noncomputable def fork (p : Nat) : Int := (float_rank p).getD 0
theorem fork_is (p : Nat) : float_rank p = some (fork p) ∧ (nanB p ∧ fork p = 7 ∨ ¬ nanB p ∧ 1 ≤ fork p ∧ fork p ≤ 6) := by
  obtain ⟨c, e, h⟩ := fclass_any p
  unfold fork float_rank
  rw [e, Option.bind_some]
  rcases h with ⟨h, hc⟩ | ⟨h, hc⟩
  · rw [if_neg (by omega)]; exact ⟨rfl, .inl ⟨h, rfl⟩⟩
  · rw [if_pos (by omega)]; exact ⟨rfl, .inr ⟨h, hc⟩⟩
theorem focm_is (x y : Nat) : float_Compare x y = some (if fork x < fork y then -1 else if fork y < fork x then 1 else if fLt x y = true then -1 else if fGt x y = true then 1 else 0) := by
  unfold float_Compare
  rw [(fork_is x).1, Option.bind_some, (fork_is y).1, Option.bind_some]
  by_cases c1 : fork x < fork y
  · rw [if_pos c1, if_pos c1]
  · rw [if_neg c1, if_neg c1]
    by_cases c2 : fork y < fork x
    · rw [if_pos c2, if_pos c2]
    · rw [if_neg c2, if_neg c2]
      by_cases c3 : fLt x y = true
      · rw [if_pos c3, if_pos c3]
      · rw [if_neg c3, if_neg c3]
        by_cases c4 : fGt x y = true
        · rw [if_pos c4, if_pos c4]
        · rw [if_neg c4, if_neg c4]
theorem fo_cm (x y : Nat) : float_Compare x y = some (focm x y) := by
  unfold focm
  rw [focm_is]; rfl
noncomputable def folt (x y : Nat) : Bool := decide (focm x y < 0)
theorem foP (x y : Nat) : (focm x y < 0) = (folt x y = true) := by unfold folt; simp
theorem folt_iff (x y : Nat) : folt x y = true ↔ (fork x < fork y ∨ fork x = fork y ∧ ¬ nanB x ∧ ¬ nanB y ∧ keyB x < keyB y) := by
  rw [← foP]
  unfold focm
  rw [focm_is, Option.getD_some, fLt_eq, fGt_eq]
  by_cases c1 : fork x < fork y
  · rw [if_pos c1]; exact ⟨fun _ => .inl c1, fun _ => by decide⟩
  · rw [if_neg c1]
    by_cases c2 : fork y < fork x
    · rw [if_pos c2]; exact ⟨fun h => by omega, fun h => by omega⟩
    · rw [if_neg c2]
      by_cases c3 : ¬ nanB x ∧ ¬ nanB y ∧ keyB x < keyB y
      · rw [if_pos (decide_eq_true c3)]; exact ⟨fun _ => .inr ⟨by omega, c3⟩, fun _ => by decide⟩
      · rw [if_neg (by rw [decide_eq_false c3]; decide)]
        refine ⟨fun h => ?_, fun h => ?_⟩
        · split at h <;> omega
        · rcases h with h | ⟨_, h⟩
          · exact absurd h c1
          · exact absurd h c3
theorem folt_no (x y : Nat) : folt x y = false ↔ ¬ (fork x < fork y ∨ fork x = fork y ∧ ¬ nanB x ∧ ¬ nanB y ∧ keyB x < keyB y) := by
  rw [← folt_iff]; simp
theorem fo_swo : Go.Sort.SWO folt := by
  refine ⟨fun x => ?_, fun x y z h1 h2 => ?_, fun x y z h1 h2 => ?_⟩
  · rw [folt_no]; omega
  · rw [folt_iff] at h1 h2 ⊢
    have hx := (fork_is x).2
    have hy := (fork_is y).2
    have hz := (fork_is z).2
    generalize fork x = a at *
    generalize fork y = b at *
    generalize fork z = c at *
    omega
  · rw [folt_no] at h1 h2 ⊢
    have hx := (fork_is x).2
    have hy := (fork_is y).2
    have hz := (fork_is z).2
    generalize fork x = a at *
    generalize fork y = b at *
    generalize fork z = c at *
    omega
/-! ### The library's sort, CmpFunc_float64: what it answers -/
section
open Go.Sort
theorem foins_in {a : Nat} : ∀ (j : Nat) (d : Array Nat), j < d.size → d.size ≤ 1000000000 → loopW (slices_insertionSortCmpFunc_float64_l2 (a : Int)) (d.toList, (j : Int)) = some (insInner folt a j d).toList
  | 0, d, hj, hb => loopW_end (by rw [slices_insertionSortCmpFunc_float64_l2, if_neg (by omega), Option.bind_some, if_neg (by decide)]; rfl)
  | j + 1, d, hj, hb => by
    have e1 : w64 (((j + 1 : Nat) : Int) - 1) = (j : Int) := by rw [w64_id (by omega)]; omega
    have h1 := ixA (d := d) hj
    have h0 := ixA (d := d) (show j < d.size by omega)
    rw [insInner]
    by_cases c : a < j + 1
    · by_cases c2 : folt d[j + 1]! d[j]! = true
      · rw [if_pos (by simp [c, c2])]
        have hst : slices_insertionSortCmpFunc_float64_l2 (a : Int) (d.toList, ((j + 1 : Nat) : Int)) = some (.inl ((swp d (j + 1) j).toList, (j : Int))) := by
          rw [slices_insertionSortCmpFunc_float64_l2, if_pos (by omega), e1]
          simp only [h1, h0, Option.bind_some, fo_cm, foP, Bool.decide_eq_true, c2, if_true, setA, ixA (show j < (d.setIfInBounds (j + 1) d[j]!).size by simp; omega)]
          rfl
        rw [loopW_go hst]
        exact foins_in j _ (by rw [size_swp]; omega) (by rw [size_swp]; exact hb)
      · rw [if_neg (by simp [c2])]
        refine loopW_end ?_
        rw [slices_insertionSortCmpFunc_float64_l2, if_pos (by omega), e1]
        simp only [h1, h0, Option.bind_some, fo_cm, foP, Bool.decide_eq_true, c2, Bool.false_eq_true, if_false]
    · rw [if_neg (by simp; omega)]
      exact loopW_end (by rw [slices_insertionSortCmpFunc_float64_l2, if_neg (by omega), Option.bind_some, if_neg (by decide)])
theorem foins_out {a b : Nat} : ∀ (m i : Nat) (d : Array Nat), b - i = m → b ≤ d.size → d.size ≤ 1000000000 → loopW (slices_insertionSortCmpFunc_float64_l1 (a : Int) (b : Int)) (d.toList, (i : Int)) = some (insOuter folt a b i d).toList := by
  intro m
  induction m with
  | zero =>
    intro i d hm hb hs
    rw [insOuter, if_neg (by omega)]
    exact loopW_end (by rw [slices_insertionSortCmpFunc_float64_l1, if_neg (by omega)])
  | succ m ih =>
    intro i d hm hb hs
    rw [insOuter, if_pos (by omega)]
    have hst : slices_insertionSortCmpFunc_float64_l1 (a : Int) (b : Int) (d.toList, (i : Int)) = some (.inl ((insInner folt a i d).toList, ((i + 1 : Nat) : Int))) := by
      rw [slices_insertionSortCmpFunc_float64_l1, if_pos (by omega), foins_in i d (by omega) hs, Option.bind_some, w64_id (by omega)]; rfl
    rw [loopW_go hst]
    exact ih (i + 1) _ (by omega) (by rw [insInner_size]; exact hb) (by rw [insInner_size]; exact hs)
theorem foins (d : Array Nat) (a b : Nat) (hb : b ≤ d.size) (hs : d.size ≤ 1000000000) (ha : a ≤ b) : slices_insertionSortCmpFunc_float64 d.toList (a : Int) (b : Int) = some (insertionSort folt d a b).toList := by
  unfold slices_insertionSortCmpFunc_float64
  rw [w64_id (by omega)]
  exact foins_out _ (a + 1) d rfl hb hs
theorem fosift {hi first : Nat} : ∀ (m root : Nat) (d : Array Nat), hi - root ≤ m → first + hi ≤ d.size → d.size ≤ 1000000000 → root < 2000000000 → loopW (slices_siftDownCmpFunc_float64_l1 (hi : Int) (first : Int)) (d.toList, (root : Int)) = some (siftDown folt hi first root d).toList ∧ (siftDown folt hi first root d).size = d.size := by
  intro m
  induction m with
  | zero =>
    intro root d hm hf hs hr
    have e1 : w64 ((w64 (2 * (root : Int))) + 1) = ((2 * root + 1 : Nat) : Int) := by rw [w64_id (x := 2 * (root : Int)) (by omega), w64_id (by omega)]; omega
    rw [siftDown, dif_pos (by omega)]
    exact ⟨loopW_end (by rw [slices_siftDownCmpFunc_float64_l1, e1, if_pos (by omega)]), rfl⟩
  | succ m ih =>
    intro root d hm hf hs hr
    have e1 : w64 ((w64 (2 * (root : Int))) + 1) = ((2 * root + 1 : Nat) : Int) := by rw [w64_id (x := 2 * (root : Int)) (by omega), w64_id (by omega)]; omega
    rw [siftDown]
    by_cases c : 2 * root + 1 ≥ hi
    · rw [dif_pos c]
      exact ⟨loopW_end (by rw [slices_siftDownCmpFunc_float64_l1, e1, if_pos (by omega)]), rfl⟩
    · rw [dif_neg c]
      have e2 : w64 (((2 * root + 1 : Nat) : Int) + 1) = ((2 * root + 2 : Nat) : Int) := by rw [w64_id (by omega)]; omega
      have e3 : w64 ((first : Int) + ((2 * root + 1 : Nat) : Int)) = ((first + (2 * root + 1) : Nat) : Int) := by rw [w64_id (by omega)]; omega
      have e4 : w64 (((first + (2 * root + 1) : Nat) : Int) + 1) = ((first + (2 * root + 1) + 1 : Nat) : Int) := by rw [w64_id (by omega)]; omega
      have e5 : w64 ((first : Int) + (root : Int)) = ((first + root : Nat) : Int) := by rw [w64_id (by omega)]; omega
      have e6 : w64 ((first : Int) + ((2 * root + 2 : Nat) : Int)) = ((first + (2 * root + 2) : Nat) : Int) := by rw [w64_id (by omega)]; omega
      have g0 := ixA (d := d) (show first + root < d.size by omega)
      have g1 := ixA (d := d) (show first + (2 * root + 1) < d.size by omega)
      by_cases c2 : (decide (2 * root + 1 + 1 < hi) && folt d[first + (2 * root + 1)]! d[first + (2 * root + 1) + 1]!) = true
      · have c3 : 2 * root + 2 < hi := by have := (Bool.and_eq_true _ _ ▸ c2).1; simpa using this
        have c4 := (Bool.and_eq_true _ _ ▸ c2).2
        have g2 := ixA (d := d) (show first + (2 * root + 1) + 1 < d.size by omega)
        have g3 := ixA (d := d) (show first + (2 * root + 2) < d.size by omega)
        rw [if_pos c2]
        by_cases c5 : folt d[first + root]! d[first + (2 * root + 2)]! = true
        · rw [if_neg (by rw [c5]; decide), dif_pos c3]
          have hst : slices_siftDownCmpFunc_float64_l1 (hi : Int) (first : Int) (d.toList, (root : Int)) = some (.inl ((swp d (first + root) (first + (2 * root + 2))).toList, ((2 * root + 2 : Nat) : Int))) := by
            rw [slices_siftDownCmpFunc_float64_l1, e1, if_neg (by omega), e2, if_pos (by omega), e3, e4]
            simp only [g1, g2, Option.bind_some, fo_cm, foP, Bool.decide_eq_true, c4, if_true, e5, e6, g0, g3, c5, Bool.not_true, Bool.false_eq_true, if_false, setA, ixA (show first + (2 * root + 2) < (d.setIfInBounds (first + root) d[first + (2 * root + 2)]!).size by simp; omega)]
            rfl
          rw [loopW_go hst]
          have := ih (2 * root + 2) (swp d (first + root) (first + (2 * root + 2))) (by omega) (by rw [size_swp]; exact hf) (by rw [size_swp]; exact hs) (by omega)
          exact ⟨this.1, by rw [this.2, size_swp]⟩
        · rw [if_pos (by simpa using c5)]
          refine ⟨loopW_end ?_, rfl⟩
          rw [slices_siftDownCmpFunc_float64_l1, e1, if_neg (by omega), e2, if_pos (by omega), e3, e4]
          simp only [g1, g2, Option.bind_some, fo_cm, foP, Bool.decide_eq_true, c4, if_true, e5, e6, g0, g3, c5, Bool.not_false]
      · rw [if_neg c2]
        have hpick : (if ((2 * root + 2 : Nat) : Int) < (hi : Int) then (ix d.toList ((first + (2 * root + 1) + 1 : Nat) : Int)).bind fun x6 => some (folt d[first + (2 * root + 1)]! x6) else some false) = some false := by
          by_cases c3 : 2 * root + 2 < hi
          · rw [if_pos (by omega), ixA (d := d) (show first + (2 * root + 1) + 1 < d.size by omega), Option.bind_some]
            congr 1
            by_cases c4 : folt d[first + (2 * root + 1)]! d[first + (2 * root + 1) + 1]! = true
            · exact absurd (by rw [c4]; simp; omega) c2
            · simpa using c4
          · rw [if_neg (by omega)]
        by_cases c5 : folt d[first + root]! d[first + (2 * root + 1)]! = true
        · rw [if_neg (by rw [c5]; decide)]
          have hst : slices_siftDownCmpFunc_float64_l1 (hi : Int) (first : Int) (d.toList, (root : Int)) = some (.inl ((swp d (first + root) (first + (2 * root + 1))).toList, ((2 * root + 1 : Nat) : Int))) := by
            rw [slices_siftDownCmpFunc_float64_l1, e1, if_neg (by omega), e2, e3, e4]
            simp only [fo_cm, foP, Bool.decide_eq_true, g1, hpick, Option.bind_some, Bool.false_eq_true, if_false, e3, e5, g0, g1, c5, Bool.not_true, setA, ixA (show first + (2 * root + 1) < (d.setIfInBounds (first + root) d[first + (2 * root + 1)]!).size by simp; omega)]
            rfl
          rw [loopW_go hst]
          have := ih (2 * root + 1) (swp d (first + root) (first + (2 * root + 1))) (by omega) (by rw [size_swp]; exact hf) (by rw [size_swp]; exact hs) (by omega)
          exact ⟨this.1, by rw [this.2, size_swp]⟩
        · rw [if_pos (by simpa using c5)]
          refine ⟨loopW_end ?_, rfl⟩
          rw [slices_siftDownCmpFunc_float64_l1, e1, if_neg (by omega), e2, e3, e4]
          simp only [fo_cm, foP, Bool.decide_eq_true, g1, hpick, Option.bind_some, Bool.false_eq_true, if_false, e3, e5, g0, g1, c5, Bool.not_false, if_true]
theorem fosiftF (hi first root : Nat) (d : Array Nat) (hf : first + hi ≤ d.size) (hs : d.size ≤ 1000000000) (hr : root < 2000000000) : slices_siftDownCmpFunc_float64 d.toList (root : Int) (hi : Int) (first : Int) = some (siftDown folt hi first root d).toList := (fosift _ root d (Nat.le_refl _) hf hs hr).1
theorem fosift_size (hi first root : Nat) (d : Array Nat) (hf : first + hi ≤ d.size) (hs : d.size ≤ 1000000000) (hr : root < 2000000000) : (siftDown folt hi first root d).size = d.size := (fosift _ root d (Nat.le_refl _) hf hs hr).2
theorem fobuild {a b : Nat} (hab : a ≤ b) : ∀ (k : Nat) (d : Array Nat), b ≤ d.size → d.size ≤ 1000000000 → k ≤ 1000000000 → loopW (slices_heapSortCmpFunc_float64_l1 (a : Int) (b : Int)) (d.toList, (k : Int) - 1) = some (heapBuild folt (b - a) a k d).toList ∧ (heapBuild folt (b - a) a k d).size = d.size
  | 0, d, hb, hs, hk => ⟨loopW_end (by rw [slices_heapSortCmpFunc_float64_l1, if_neg (by omega)]; rfl), rfl⟩
  | k + 1, d, hb, hs, hk => by
    have e1 : w64 ((b : Int) - (a : Int)) = ((b - a : Nat) : Int) := by rw [w64_id (by omega)]; omega
    have hst : slices_heapSortCmpFunc_float64_l1 (a : Int) (b : Int) (d.toList, ((k + 1 : Nat) : Int) - 1) = some (.inl ((siftDown folt (b - a) a k d).toList, (k : Int) - 1)) := by
      rw [slices_heapSortCmpFunc_float64_l1, if_pos (by omega), e1, show ((k + 1 : Nat) : Int) - 1 = (k : Int) by omega, fosiftF _ _ _ _ (by omega) hs (by omega), Option.bind_some, w64_id (by omega)]
    rw [loopW_go hst]
    have hz := fosift_size (b - a) a k d (by omega) hs (by omega)
    have := fobuild hab k (siftDown folt (b - a) a k d) (by omega) (by omega) (by omega)
    rw [heapBuild]
    exact ⟨this.1, by rw [this.2, hz]⟩
theorem fopop {a : Nat} : ∀ (k : Nat) (d : Array Nat), a + k ≤ d.size → d.size ≤ 1000000000 → loopW (slices_heapSortCmpFunc_float64_l2 (a : Int)) (d.toList, (k : Int) - 1) = some (heapPop folt a k d).toList
  | 0, d, hb, hs => loopW_end (by rw [slices_heapSortCmpFunc_float64_l2, if_neg (by omega)]; rfl)
  | k + 1, d, hb, hs => by
    have e1 : ((k + 1 : Nat) : Int) - 1 = (k : Int) := by omega
    have e2 : w64 ((a : Int) + (k : Int)) = ((a + k : Nat) : Int) := by rw [w64_id (by omega)]; omega
    have h0 := ixA (d := d) (show a < d.size by omega)
    have h1 := ixA (d := d) (show a + k < d.size by omega)
    have hz := size_swp d a (a + k)
    have hst : slices_heapSortCmpFunc_float64_l2 (a : Int) (d.toList, ((k + 1 : Nat) : Int) - 1) = some (.inl ((siftDown folt k a 0 (swp d a (a + k))).toList, (k : Int) - 1)) := by
      rw [slices_heapSortCmpFunc_float64_l2, e1, if_pos (by omega), e2]
      simp only [h1, h0, Option.bind_some, setA, ixA (show a + k < (d.setIfInBounds a d[a + k]!).size by simp; omega)]
      show (slices_siftDownCmpFunc_float64 (swp d a (a + k)).toList ((0 : Nat) : Int) (k : Int) (a : Int)).bind _ = _
      rw [fosiftF _ _ _ _ (by omega) (by omega) (by omega), Option.bind_some, w64_id (by omega)]
    rw [loopW_go hst, heapPop]
    have hz2 := fosift_size k a 0 (swp d a (a + k)) (by omega) (by omega) (by omega)
    exact fopop k _ (by omega) (by omega)
theorem foheap (d : Array Nat) (a b : Nat) (hb : b ≤ d.size) (hs : d.size ≤ 1000000000) (ha : a < b) : slices_heapSortCmpFunc_float64 d.toList (a : Int) (b : Int) = some (heapSort folt d a b).toList := by
  unfold slices_heapSortCmpFunc_float64
  have e1 : w64 ((b : Int) - (a : Int)) = ((b - a : Nat) : Int) := by rw [w64_id (by omega)]; omega
  have e2 : w64 (((b - a : Nat) : Int) - 1) = ((b - a : Nat) : Int) - 1 := w64_id (by omega)
  have e3 : w64 (Int.tdiv (((b - a : Nat) : Int) - 1) 2) = (((b - a - 1) / 2 + 1 : Nat) : Int) - 1 := by
    rw [Int.tdiv_eq_ediv_of_nonneg (by omega), w64_id (by omega)]; omega
  rw [e1, e2, e3]
  have h := fobuild (Nat.le_of_lt ha) ((b - a - 1) / 2 + 1) d hb hs (by omega)
  rw [h.1, Option.bind_some, fopop _ _ (by rw [h.2]; omega) (by rw [h.2]; exact hs)]
  rfl
theorem foord2 (d : Array Nat) (a b s : Nat) (ha : a < d.size) (hb : b < d.size) (hs : s < 1000) : slices_order2CmpFunc_float64 d.toList (a : Int) (b : Int) (s : Int) = some (((order2 folt d a b s).1 : Int), ((order2 folt d a b s).2.1 : Int), ((order2 folt d a b s).2.2 : Int)) := by
  unfold slices_order2CmpFunc_float64 order2
  have h0 := ixA (d := d) ha
  have h1 := ixA (d := d) hb
  by_cases c : folt d[b]! d[a]! = true
  · simp only [h0, h1, Option.bind_some, fo_cm, foP, Bool.decide_eq_true, c, if_true, w64_id (show -9223372036854775808 ≤ (s : Int) + 1 ∧ (s : Int) + 1 ≤ 9223372036854775807 by omega)]; rfl
  · simp only [h0, h1, Option.bind_some, fo_cm, foP, Bool.decide_eq_true, c, Bool.false_eq_true, if_false]
theorem fomed (d : Array Nat) (a b c s : Nat) (ha : a < d.size) (hb : b < d.size) (hc : c < d.size) (hs : s < 900) : slices_medianCmpFunc_float64 d.toList (a : Int) (b : Int) (c : Int) (s : Int) = some (((median folt d a b c s).1 : Int), ((median folt d a b c s).2 : Int)) := by
  unfold slices_medianCmpFunc_float64 median
  have m1 := order2_mem folt d a b s
  have k1 := order2_count folt d a b s
  rw [foord2 d a b s ha hb (by omega), Option.bind_some]
  have m2 := order2_mem folt d (order2 folt d a b s).2.1 c (order2 folt d a b s).2.2
  have k2 := order2_count folt d (order2 folt d a b s).2.1 c (order2 folt d a b s).2.2
  rw [foord2 d _ c _ (by omega) hc (by omega), Option.bind_some, foord2 d _ _ _ (by omega) (by omega) (by omega)]; rfl
theorem fomedA (d : Array Nat) (a s : Nat) (h0 : 0 < a) (ha : a + 1 < d.size) (hb : d.size ≤ 1000000000) (hs : s < 900) : slices_medianAdjacentCmpFunc_float64 d.toList (a : Int) (s : Int) = some (((medianAdjacent folt d a s).1 : Int), ((medianAdjacent folt d a s).2 : Int)) := by
  unfold slices_medianAdjacentCmpFunc_float64 medianAdjacent
  rw [w64_id (x := (a : Int) - 1) (by omega), w64_id (x := (a : Int) + 1) (by omega), show (a : Int) - 1 = ((a - 1 : Nat) : Int) by omega, show (a : Int) + 1 = ((a + 1 : Nat) : Int) by omega, fomed d _ _ _ _ (by omega) (by omega) (by omega) hs]; rfl
/-- The hint, as the program numbers it. -/
def fohint : Hint → Int
  | .unknown => 0
  | .increasing => 1
  | .decreasing => 2
theorem fofin (j s : Nat) : ((some ((j : Int), (s : Int))).bind fun (x : Int × Int) => match x with | (x1, x2) => (if x2 = 0 then some (x1, 1) else (if x2 = 12 then some (x1, 2) else some (x1, (0 : Int))))) = some ((j : Int), fohint (if s = 0 then .increasing else if s = 12 then .decreasing else .unknown)) := by
  rw [Option.bind_some]
  show (if (s : Int) = 0 then some ((j : Int), (1 : Int)) else (if (s : Int) = 12 then some ((j : Int), 2) else some ((j : Int), 0))) = _
  by_cases c1 : s = 0
  · rw [if_pos (by omega), if_pos c1]; rfl
  · rw [if_neg (by omega), if_neg c1]
    by_cases c2 : s = 12
    · rw [if_pos (by omega), if_pos c2]; rfl
    · rw [if_neg (by omega), if_neg c2]; rfl
theorem focp (d : Array Nat) (a b : Nat) (hb : b ≤ d.size) (hs : d.size ≤ 1000000000) (ha : a + 12 < b) : slices_choosePivotCmpFunc_float64 d.toList (a : Int) (b : Int) = some (((choosePivot folt d a b).1 : Int), fohint (choosePivot folt d a b).2) := by
  unfold slices_choosePivotCmpFunc_float64
  have e1 : w64 ((b : Int) - (a : Int)) = ((b - a : Nat) : Int) := by rw [w64_id (by omega)]; omega
  have e2 : w64 (Int.tdiv ((b - a : Nat) : Int) 4) = (((b - a) / 4 : Nat) : Int) := by rw [Int.tdiv_eq_ediv_of_nonneg (by omega), w64_id (by omega)]; omega
  have f1 : w64 ((a : Int) + w64 ((((b - a) / 4 : Nat) : Int) * 1)) = ((a + (b - a) / 4 * 1 : Nat) : Int) := by rw [w64_id (x := (((b - a) / 4 : Nat) : Int) * 1) (by omega), w64_id (by omega)]; omega
  have f2 : w64 ((a : Int) + w64 ((((b - a) / 4 : Nat) : Int) * 2)) = ((a + (b - a) / 4 * 2 : Nat) : Int) := by rw [w64_id (x := (((b - a) / 4 : Nat) : Int) * 2) (by omega), w64_id (by omega)]; omega
  have f3 : w64 ((a : Int) + w64 ((((b - a) / 4 : Nat) : Int) * 3)) = ((a + (b - a) / 4 * 3 : Nat) : Int) := by rw [w64_id (x := (((b - a) / 4 : Nat) : Int) * 3) (by omega), w64_id (by omega)]; omega
  rw [e1, e2, f1, f2, f3, if_pos (by omega), choosePivot_eq]
  unfold rawPivot
  rw [if_pos (show b - a ≥ 8 by omega)]
  have b1 : a < a + (b - a) / 4 * 1 ∧ a + (b - a) / 4 * 3 + 1 < b := by omega
  have b2 : a + (b - a) / 4 * 1 < a + (b - a) / 4 * 2 ∧ a + (b - a) / 4 * 2 < a + (b - a) / 4 * 3 := by omega
  generalize a + (b - a) / 4 * 1 = i at b1 b2 ⊢
  generalize a + (b - a) / 4 * 2 = j at b2 ⊢
  generalize a + (b - a) / 4 * 3 = k at b1 b2 ⊢
  by_cases c : b - a ≥ 50
  · rw [if_pos (show (50 : Int) ≤ ((b - a : Nat) : Int) by omega), if_pos c]
    have g1 := medianAdjacent_count folt d i 0
    have n1 := medianAdjacent_mem folt d i 0
    have q1 := fomedA d i 0 (by omega) (by omega) hs (by omega)
    generalize medianAdjacent folt d i 0 = r1 at g1 n1 q1 ⊢
    have g2 := medianAdjacent_count folt d j r1.2
    have n2 := medianAdjacent_mem folt d j r1.2
    have q2 := fomedA d j r1.2 (by omega) (by omega) hs (by omega)
    generalize medianAdjacent folt d j r1.2 = r2 at g2 n2 q2 ⊢
    have g3 := medianAdjacent_count folt d k r2.2
    have n3 := medianAdjacent_mem folt d k r2.2
    have q3 := fomedA d k r2.2 (by omega) (by omega) hs (by omega)
    generalize medianAdjacent folt d k r2.2 = r3 at g3 n3 q3 ⊢
    have q4 := fomed d r1.1 r2.1 r3.1 r3.2 (by omega) (by omega) (by omega) (by omega)
    generalize median folt d r1.1 r2.1 r3.1 r3.2 = r4 at q4 ⊢
    have q1' : slices_medianAdjacentCmpFunc_float64 d.toList (i : Int) 0 = some ((r1.1 : Int), (r1.2 : Int)) := q1
    rw [q1', Option.bind_some]
    simp only []
    rw [q2, Option.bind_some]
    simp only []
    rw [q3, Option.bind_some, Option.bind_some]
    simp only []
    rw [q4, Option.bind_some]
    exact fofin r4.1 r4.2
  · rw [if_neg (show ¬ (50 : Int) ≤ ((b - a : Nat) : Int) by omega), if_neg c]
    have q4 := fomed d i j k 0 (by omega) (by omega) (by omega) (by omega)
    generalize median folt d i j k 0 = r4 at q4 ⊢
    have q4' : slices_medianCmpFunc_float64 d.toList (i : Int) (j : Int) (k : Int) 0 = some ((r4.1 : Int), (r4.2 : Int)) := q4
    rw [Option.bind_some]
    simp only []
    rw [q4', Option.bind_some]
    exact fofin r4.1 r4.2
theorem forev_in : ∀ (m i j : Nat) (d : Array Nat), j - i ≤ m → j < d.size → d.size ≤ 1000000000 → loopW slices_reverseRangeCmpFunc_float64_l1 (d.toList, (i : Int), (j : Int)) = some (reverseLoop i j d).toList := by
  intro m
  induction m with
  | zero =>
    intro i j d hm hj hs
    rw [reverseLoop, if_neg (by omega)]
    exact loopW_end (by rw [slices_reverseRangeCmpFunc_float64_l1, if_neg (by omega)])
  | succ m ih =>
    intro i j d hm hj hs
    rw [reverseLoop]
    by_cases c : i < j
    · rw [if_pos c]
      have h0 := ixA (d := d) (show i < d.size by omega)
      have h1 := ixA (d := d) hj
      have hst : slices_reverseRangeCmpFunc_float64_l1 (d.toList, (i : Int), (j : Int)) = some (.inl ((swp d i j).toList, ((i + 1 : Nat) : Int), ((j - 1 : Nat) : Int))) := by
        rw [slices_reverseRangeCmpFunc_float64_l1, if_pos (by omega)]
        simp only [h0, h1, Option.bind_some, setA, ixA (show j < (d.setIfInBounds i d[j]!).size by simp; omega)]
        rw [w64_id (x := (i : Int) + 1) (by omega), w64_id (x := (j : Int) - 1) (by omega), show (j : Int) - 1 = ((j - 1 : Nat) : Int) by omega]; rfl
      rw [loopW_go hst]
      exact ih (i + 1) (j - 1) _ (by omega) (by rw [size_swp]; omega) (by rw [size_swp]; exact hs)
    · rw [if_neg c]
      exact loopW_end (by rw [slices_reverseRangeCmpFunc_float64_l1, if_neg (by omega)])
theorem forev (d : Array Nat) (a b : Nat) (hb : b ≤ d.size) (hs : d.size ≤ 1000000000) (ha : a < b) : slices_reverseRangeCmpFunc_float64 d.toList (a : Int) (b : Int) = some (reverseRange d a b).toList := by
  unfold slices_reverseRangeCmpFunc_float64
  rw [w64_id (by omega), show (b : Int) - 1 = ((b - 1 : Nat) : Int) by omega]
  exact forev_in _ a (b - 1) d (Nat.le_refl _) (by omega) hs
end
end Go.Proofs.Ytdogfpoekndknaa
