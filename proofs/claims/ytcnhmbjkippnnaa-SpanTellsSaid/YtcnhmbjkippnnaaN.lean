/- The laws of layer 2 hold. -/
import Derived.Test.YtcnhmbjkippnnaaM
namespace Go.Proofs.Ytcnhmbjkippnnaa
open Go Go.RowKit

theorem has_iff (a b x : Int) : has a b x = decide (cl_0 a b ≤ lim x ∧ lim x ≤ cl_1 a b) := by
  unfold has
  by_cases h : cl_0 a b ≤ lim x <;> simp [h]
theorem meet_cases (a b c d : Int) : (min (lim b) (lim d) < max (lim a) (lim c) ∧ meet_0 a b c d = 1 ∧ meet_1 a b c d = 0) ∨ (max (lim a) (lim c) ≤ min (lim b) (lim d) ∧ meet_0 a b c d = max (lim a) (lim c) ∧ meet_1 a b c d = min (lim b) (lim d)) := by
  have h3 := cl_cases (max a c) (min b d)
  rw [lim_max, lim_min] at h3
  exact h3
theorem has_meet (a b c d x : Int) : has (meet_0 a b c d) (meet_1 a b c d) x = (has a b x && has c d x) := by
  simp only [has_iff]
  have e0 : cl_0 (meet_0 a b c d) (meet_1 a b c d) = meet_0 a b c d := cl_cl_0 _ _
  have e1 : cl_1 (meet_0 a b c d) (meet_1 a b c d) = meet_1 a b c d := cl_cl_1 _ _
  rw [e0, e1, ← Bool.decide_and]
  have h1 := cl_cases a b
  have h2 := cl_cases c d
  have h3 := meet_cases a b c d
  generalize lim x = y at *
  apply decide_eq_decide.2
  omega
theorem hull_cl (a b c d : Int) : cl_0 (hull_0 a b c d) (hull_1 a b c d) = hull_0 a b c d ∧ cl_1 (hull_0 a b c d) (hull_1 a b c d) = hull_1 a b c d := by
  have hb1 := cl_bd a b
  have hb2 := cl_bd c d
  have ho1 := cl_ord a b
  have ho2 := cl_ord c d
  unfold hull_0 hull_1
  by_cases h1 : cl_0 a b = 1 ∧ cl_1 a b = 0
  · simp only [h1, if_true, and_self, cl_cl_0, cl_cl_1]
  · by_cases h2 : cl_0 c d = 1 ∧ cl_1 c d = 0
    · simp only [h1, h2, if_true, if_false, and_self, cl_cl_0, cl_cl_1]
    · simp only [h1, h2, if_false]
      have := cl_in (a := min (cl_0 a b) (cl_0 c d)) (b := max (cl_1 a b) (cl_1 c d)) (by omega) (by omega) (by omega) (by omega)
      omega
theorem hull_has (a b c d x : Int) (h : has a b x = true ∨ has c d x = true) : has (hull_0 a b c d) (hull_1 a b c d) x = true := by
  simp only [has_iff, decide_eq_true_eq] at h ⊢
  rw [(hull_cl a b c d).1, (hull_cl a b c d).2]
  unfold hull_0 hull_1
  by_cases h1 : cl_0 a b = 1 ∧ cl_1 a b = 0
  · simp only [h1, if_true, and_self]; omega
  · by_cases h2 : cl_0 c d = 1 ∧ cl_1 c d = 0
    · simp only [h1, h2, if_true, if_false, and_self]; omega
    · simp only [h1, h2, if_false]; omega
theorem meet_comm' (a b c d : Int) : meet_0 a b c d = meet_0 c d a b ∧ meet_1 a b c d = meet_1 c d a b := by
  unfold meet_0 meet_1
  rw [Int.max_comm a c, Int.min_comm b d]
  exact ⟨rfl, rfl⟩
theorem hull_comm (a b c d : Int) : hull_0 a b c d = hull_0 c d a b ∧ hull_1 a b c d = hull_1 c d a b := by
  unfold hull_0 hull_1
  by_cases h1 : cl_0 a b = 1 ∧ cl_1 a b = 0 <;> by_cases h2 : cl_0 c d = 1 ∧ cl_1 c d = 0
  · simp only [h1, h2, if_true, and_self]
  · simp only [h1, h2, if_true, if_false, and_self]
  · simp only [h1, h2, if_true, if_false, and_self]
  · simp only [h1, h2, if_false]; omega
theorem meet_in (a b c d : Int) : -4503599627370496 ≤ meet_0 a b c d ∧ meet_0 a b c d ≤ 4503599627370496 ∧ -4503599627370496 ≤ meet_1 a b c d ∧ meet_1 a b c d ≤ 4503599627370496 := cl_bd _ _
theorem meet_assoc' (a b c d e f : Int) : meet_0 (meet_0 a b c d) (meet_1 a b c d) e f = meet_0 a b (meet_0 c d e f) (meet_1 c d e f) ∧ meet_1 (meet_0 a b c d) (meet_1 a b c d) e f = meet_1 a b (meet_0 c d e f) (meet_1 c d e f) := by
  have h1 := meet_cases a b c d
  have h2 := meet_cases c d e f
  have h3 := meet_cases (meet_0 a b c d) (meet_1 a b c d) e f
  have h4 := meet_cases a b (meet_0 c d e f) (meet_1 c d e f)
  have i1 := meet_in a b c d
  have i2 := meet_in c d e f
  rw [lim_in i1.1 i1.2.1, lim_in i1.2.2.1 i1.2.2.2] at h3
  rw [lim_in i2.1 i2.2.1, lim_in i2.2.2.1 i2.2.2.2] at h4
  generalize meet_0 (meet_0 a b c d) (meet_1 a b c d) e f = x1 at *
  generalize meet_1 (meet_0 a b c d) (meet_1 a b c d) e f = x2 at *
  generalize meet_0 a b (meet_0 c d e f) (meet_1 c d e f) = y1 at *
  generalize meet_1 a b (meet_0 c d e f) (meet_1 c d e f) = y2 at *
  rcases h1 with h1 | h1 <;> rcases h2 with h2 | h2 <;> rcases h3 with h3 | h3 <;> rcases h4 with h4 | h4 <;> omega
theorem within_meet (a b c d : Int) : within (meet_0 a b c d) (meet_1 a b c d) c d = true := by
  unfold within
  have e0 : cl_0 (meet_0 a b c d) (meet_1 a b c d) = meet_0 a b c d := cl_cl_0 _ _
  have e1 : cl_1 (meet_0 a b c d) (meet_1 a b c d) = meet_1 a b c d := cl_cl_1 _ _
  rw [e0, e1]
  have h1 := meet_cases a b c d
  have h3 := meet_cases (meet_0 a b c d) (meet_1 a b c d) c d
  have i1 := meet_in a b c d
  rw [lim_in i1.1 i1.2.1, lim_in i1.2.2.1 i1.2.2.2] at h3
  generalize meet_0 (meet_0 a b c d) (meet_1 a b c d) c d = x1 at *
  generalize meet_1 (meet_0 a b c d) (meet_1 a b c d) c d = x2 at *
  simp only [decide_eq_true_eq]
  rcases h1 with h1 | h1 <;> rcases h3 with h3 | h3 <;> omega
/-- An interval is within another one that is clean and reaches as far on both sides. -/
theorem within_of {a b p q : Int} (hp : cl_0 p q = p) (hq : cl_1 p q = q) (h : (cl_0 a b = 1 ∧ cl_1 a b = 0) ∨ (p ≤ cl_0 a b ∧ cl_1 a b ≤ q)) : within a b p q = true := by
  unfold within
  have h1 := cl_cases a b
  have h3 := meet_cases a b p q
  have b1 := cl_bd p q
  rw [hp, hq] at b1
  rw [lim_in b1.1 b1.2.1, lim_in b1.2.2.1 b1.2.2.2] at h3
  have h2 := cl_in b1.1 b1.2.1 b1.2.2.1 b1.2.2.2
  simp only [decide_eq_true_eq]
  omega
theorem within_hull (a b c d : Int) : within a b (hull_0 a b c d) (hull_1 a b c d) = true := by
  refine within_of (hull_cl a b c d).1 (hull_cl a b c d).2 ?_
  unfold hull_0 hull_1
  by_cases h1 : cl_0 a b = 1 ∧ cl_1 a b = 0
  · exact .inl h1
  · right
    by_cases h2 : cl_0 c d = 1 ∧ cl_1 c d = 0
    · simp only [h1, h2, if_true, if_false, and_self]; omega
    · simp only [h1, h2, if_false]; omega

theorem spanTells_true (a b c d x : Int) : spanTells a b c d x = true := by
  have s := shift_eq a b x
  have w := widen_eq a b x
  have m := meet_eq a b c d
  have u := hull_eq a b c d
  unfold spanTells
  simp only [mine2_0, mine2_1, rcl_0_eq, rcl_1_eq, m.1, m.2, u.1, u.2, s.1, s.2, w.1, w.2, has_eq, empty_eq, mid_eq, awake2_true,
    like_true rfl rfl, Bool.not_true, Bool.false_eq_true, if_false, ne_eq, not_true_eq_false]
  have he : empty a b = decide (cl_0 a b = 1 ∧ cl_1 a b = 0) := rfl
  have hw : within a b c d = decide (meet_0 a b c d = cl_0 a b ∧ meet_1 a b c d = cl_1 a b) := rfl
  have hs : size a b = cl_1 a b - cl_0 a b + 1 := rfl
  have hh := half_eq a b
  have ho0 : of__0 a x = cl_0 (min a x) (max a x) := rfl
  have ho1 : of__1 a x = cl_1 (min a x) (max a x) := rfl
  simp only [he, hw, hs, hh, ho0, ho1, not_true_eq_false, if_false]
  by_cases h1 : cl_0 a b ≤ cl_1 a b <;> by_cases h2 : x < a <;> simp only [h1, h2, if_true, if_false, not_true_eq_false]
  all_goals
    first
      | (rw [show min a x = x by omega, show max a x = a by omega]; simp [like])
      | (rw [show min a x = a by omega, show max a x = x by omega]; simp [like])

theorem spanMeets_true (a b c d e f x : Int) : spanMeets a b c d e f x = true := by
  unfold spanMeets
  simp only [mine2_0, mine2_1, has_meet, (meet_comm' a b c d).1, (meet_comm' a b c d).2]
  have h1 := meet_assoc' a b c d e f
  rw [(meet_comm' a b c d).1, (meet_comm' a b c d).2] at h1
  have h2 := within_meet a b c d
  rw [(meet_comm' a b c d).1, (meet_comm' a b c d).2] at h2
  simp only [h1.1, h1.2, h2, (hull_comm c d a b).1, (hull_comm c d a b).2, within_hull, awake2_true, and_self, if_true]
  by_cases k1 : has a b x = true
  · simp only [k1, hull_has a b c d x (.inl k1), Bool.true_and, Bool.and_true, Bool.not_true, Bool.false_eq_true, if_true, if_false, ne_eq, not_true_eq_false]
  · have k1' : has a b x = false := by simpa using k1
    by_cases k2 : has c d x = true
    · simp only [k1', k2, hull_has a b c d x (.inr k2), Bool.false_and, Bool.and_false, Bool.not_true, Bool.false_eq_true, if_true, if_false, ne_eq, not_true_eq_false]
    · have k2' : has c d x = false := by simpa using k2
      simp only [k1', k2', Bool.false_and, Bool.and_false, Bool.false_eq_true, if_true, if_false, ne_eq, not_true_eq_false]

theorem spanMoves_true (a b x y z : Int) : spanMoves a b x y z = true := by
  unfold spanMoves
  simp only [mine2_0, mine2_1, awake2_true]
  by_cases h1 : x < -1125899906842624; · simp only [h1, if_true]
  by_cases h2 : 1125899906842624 < x; · simp only [h1, h2, if_true, if_false]
  by_cases h3 : y < -1125899906842624; · simp only [h1, h2, h3, if_true, if_false]
  by_cases h4 : 1125899906842624 < y; · simp only [h1, h2, h3, h4, if_true, if_false]
  by_cases h5 : z < 0; · simp only [h1, h2, h3, h4, h5, if_true, if_false]
  by_cases h6 : y < z; · simp only [h1, h2, h3, h4, h5, h6, if_true, if_false]
  by_cases h7' : has a b x = false
  · simp only [h1, h2, h3, h4, h5, h6, h7', Bool.not_false, if_true, if_false]
  have h7 : has a b x = true := by simpa using h7'
  have hx : lim x = x := lim_in (by omega) (by omega)
  have hh := h7
  rw [has_iff, hx] at hh
  simp only [decide_eq_true_eq] at hh
  have hbd := cl_bd a b
  have hord := cl_ord a b
  have hd := tdiv_lit (cl_1 a b - cl_0 a b) 2 (by decide)
  have hne : ¬ (cl_0 a b = 1 ∧ cl_1 a b = 0) := by omega
  have em : mid a b = cl_0 a b + (cl_1 a b - cl_0 a b).tdiv 2 := by unfold mid; rw [if_neg hne]
  have eh : half a b = cl_1 a b - mid a b := by rw [half_eq, if_pos (by omega)]
  have ly : lim y = y := lim_in (by omega) (by omega)
  have lm : lim (max y 0) = y := by rw [show max y 0 = y by omega]; exact ly
  have hmid : has a b (mid a b) = true := by
    rw [has_iff, lim_in (by omega) (by omega)]
    simp only [decide_eq_true_eq]; omega
  have es0 : shift_0 a b y = cl_0 (cl_0 a b + y) (cl_1 a b + y) := by unfold shift_0 moved_0; rw [if_neg hne, ly]
  have es1 : shift_1 a b y = cl_1 (cl_0 a b + y) (cl_1 a b + y) := by unfold shift_1 moved_1; rw [if_neg hne, ly]
  have ew0 : widen_0 a b y = cl_0 (cl_0 a b + (0 - y)) (cl_1 a b + y) := by unfold widen_0 moved_0; rw [if_neg hne, lm]
  have ew1 : widen_1 a b y = cl_1 (cl_0 a b + (0 - y)) (cl_1 a b + y) := by unfold widen_1 moved_1; rw [if_neg hne, lm]
  have lq (n : Int) : (n < -4503599627370496 ∧ lim n = -4503599627370496) ∨ (4503599627370496 < n ∧ lim n = 4503599627370496) ∨ (-4503599627370496 ≤ n ∧ n ≤ 4503599627370496 ∧ lim n = n) := by unfold lim; omega
  have hs : has (shift_0 a b y) (shift_1 a b y) (x + y) = true := by
    rw [has_iff, es0, es1, cl_cl_0, cl_cl_1, lim_in (n := x + y) (by omega) (by omega)]
    simp only [decide_eq_true_eq]
    have k1 := lq (cl_0 a b + y)
    have k2 := lq (cl_1 a b + y)
    have k := cl_cases (cl_0 a b + y) (cl_1 a b + y)
    omega
  have k1 := lq (cl_0 a b + (0 - y))
  have k2 := lq (cl_1 a b + y)
  have k := cl_cases (cl_0 a b + (0 - y)) (cl_1 a b + y)
  have hw1 : has (widen_0 a b y) (widen_1 a b y) (x + z) = true := by
    rw [has_iff, ew0, ew1, cl_cl_0, cl_cl_1, lim_in (n := x + z) (by omega) (by omega)]
    simp only [decide_eq_true_eq]
    omega
  have hw2 : has (widen_0 a b y) (widen_1 a b y) (x - z) = true := by
    rw [has_iff, ew0, ew1, cl_cl_0, cl_cl_1, lim_in (n := x - z) (by omega) (by omega)]
    simp only [decide_eq_true_eq]
    omega
  have hw3 : within a b (widen_0 a b y) (widen_1 a b y) = true := by
    refine within_of ?_ ?_ (.inr ?_)
    · rw [ew0, ew1]; exact cl_cl_0 _ _
    · rw [ew0, ew1]; exact cl_cl_1 _ _
    · rw [ew0, ew1]; omega
  simp only [h1, h2, h3, h4, h5, h6, h7, hmid, hs, hw1, hw2, hw3, Bool.not_true, Bool.false_eq_true, if_true, if_false]
  rw [if_neg (by omega), if_neg (by omega)]
end Go.Proofs.Ytcnhmbjkippnnaa
