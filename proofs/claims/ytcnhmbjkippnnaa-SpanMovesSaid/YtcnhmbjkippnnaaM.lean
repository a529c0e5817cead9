/- The arithmetic of layer 2. -/
import Derived.Test.YtcnhmbjkippnnaaA2
namespace Go.Proofs.Ytcnhmbjkippnnaa
open Go Go.RowKit

theorem near_eq (n : Int) : near n = lim n := by
  unfold near lim
  by_cases h1 : 4503599627370496 < n
  · rw [if_pos h1]; omega
  · rw [if_neg h1]
    by_cases h2 : n < -4503599627370496
    · rw [if_pos h2]; omega
    · rw [if_neg h2]; omega
theorem lim_in {n : Int} (h1 : -4503599627370496 ≤ n) (h2 : n ≤ 4503599627370496) : lim n = n := by unfold lim; omega
theorem lim_max (a b : Int) : lim (max a b) = max (lim a) (lim b) := by unfold lim; omega
theorem lim_min (a b : Int) : lim (min a b) = min (lim a) (lim b) := by unfold lim; omega
theorem lim_lim (a : Int) : lim (lim a) = lim a := lim_in (lim_bd a).1 (lim_bd a).2
theorem rcl_0_eq (a b : Int) : rcl_0 a b = cl_0 a b := by unfold rcl_0 cl_0; simp only [near_eq]
theorem rcl_1_eq (a b : Int) : rcl_1 a b = cl_1 a b := by unfold rcl_1 cl_1; simp only [near_eq]
theorem cl_cases (a b : Int) : (lim b < lim a ∧ cl_0 a b = 1 ∧ cl_1 a b = 0) ∨ (lim a ≤ lim b ∧ cl_0 a b = lim a ∧ cl_1 a b = lim b) := by
  unfold cl_0 cl_1
  by_cases h : lim b < lim a
  · left; simp [h]
  · right; simp [h]; omega
/-- Within the bounds. -/
theorem cl_in {a b : Int} (h1 : -4503599627370496 ≤ a) (h2 : a ≤ 4503599627370496) (h3 : -4503599627370496 ≤ b) (h4 : b ≤ 4503599627370496) : (b < a ∧ cl_0 a b = 1 ∧ cl_1 a b = 0) ∨ (a ≤ b ∧ cl_0 a b = a ∧ cl_1 a b = b) := by
  have := cl_cases a b
  rw [lim_in h1 h2, lim_in h3 h4] at this
  exact this
theorem cl_cl_0 (a b : Int) : cl_0 (cl_0 a b) (cl_1 a b) = cl_0 a b := by
  have hb := cl_bd a b
  have h := cl_in hb.1 hb.2.1 hb.2.2.1 hb.2.2.2
  have := cl_ord a b
  omega
theorem cl_cl_1 (a b : Int) : cl_1 (cl_0 a b) (cl_1 a b) = cl_1 a b := by
  have hb := cl_bd a b
  have h := cl_in hb.1 hb.2.1 hb.2.2.1 hb.2.2.2
  have := cl_ord a b
  omega
theorem ite_same {α : Type} (p : Prop) [Decidable p] (x : α) : (if p then x else x) = x := by split <;> rfl
theorem meet_eq (a b c d : Int) : rmeet_0 a b c d = meet_0 a b c d ∧ rmeet_1 a b c d = meet_1 a b c d := by
  have h1 := cl_cases a b
  have h2 := cl_cases c d
  have h3 := cl_cases (max a c) (min b d)
  rw [lim_max, lim_min] at h3
  have b1 := lim_bd a; have b2 := lim_bd b; have b3 := lim_bd c; have b4 := lim_bd d
  have hb1 := cl_bd a b
  have hb2 := cl_bd c d
  unfold rmeet_0 rmeet_1 meet_0 meet_1
  simp only [rcl_0_eq, rcl_1_eq]
  have k1 := cl_in hb2.1 hb2.2.1 hb2.2.2.1 hb2.2.2.2
  have k2 := cl_in hb2.1 hb2.2.1 hb1.2.2.1 hb1.2.2.2
  have k3 := cl_in hb1.1 hb1.2.1 hb2.2.2.1 hb2.2.2.2
  have k4 := cl_in hb1.1 hb1.2.1 hb1.2.2.1 hb1.2.2.2
  generalize cl_0 (cl_0 c d) (cl_1 c d) = e1 at *
  generalize cl_1 (cl_0 c d) (cl_1 c d) = e2 at *
  generalize cl_0 (cl_0 c d) (cl_1 a b) = e3 at *
  generalize cl_1 (cl_0 c d) (cl_1 a b) = e4 at *
  generalize cl_0 (cl_0 a b) (cl_1 c d) = e5 at *
  generalize cl_1 (cl_0 a b) (cl_1 c d) = e6 at *
  generalize cl_0 (cl_0 a b) (cl_1 a b) = e7 at *
  generalize cl_1 (cl_0 a b) (cl_1 a b) = e8 at *
  generalize cl_0 (max a c) (min b d) = f1 at *
  generalize cl_1 (max a c) (min b d) = f2 at *
  generalize cl_0 a b = g1 at *
  generalize cl_1 a b = g2 at *
  generalize cl_0 c d = g3 at *
  generalize cl_1 c d = g4 at *
  by_cases c1 : g1 < g3 <;> by_cases c2 : g4 < g2 <;> simp only [c1, c2, if_true, if_false] <;> rcases h1 with h1 | h1 <;> rcases h2 with h2 | h2 <;> rcases h3 with h3 | h3 <;> omega
theorem empty_eq (a b : Int) : rempty a b = decide (cl_0 a b = 1 ∧ cl_1 a b = 0) := by
  unfold rempty
  simp only [near_eq]
  have := cl_cases a b
  by_cases h : lim b < lim a
  · simp [h]; omega
  · simp [h]; omega
theorem hull_eq (a b c d : Int) : rhull_0 a b c d = hull_0 a b c d ∧ rhull_1 a b c d = hull_1 a b c d := by
  unfold rhull_0 rhull_1 hull_0 hull_1
  simp only [empty_eq, rcl_0_eq, rcl_1_eq, decide_eq_true_eq, ite_same]
  by_cases h1 : cl_0 a b = 1 ∧ cl_1 a b = 0
  · simp only [h1, if_true, and_self]
  · by_cases h2 : cl_0 c d = 1 ∧ cl_1 c d = 0
    · simp only [h1, h2, if_true, if_false, and_self]
    · simp only [h1, h2, if_false]
      by_cases h3 : cl_0 c d < cl_0 a b <;> by_cases h4 : cl_1 a b < cl_1 c d <;> simp only [h3, h4, if_true, if_false] <;> omega
theorem moved_eq (a b x y : Int) (h1 : -4503599627370496 ≤ x) (h2 : x ≤ 4503599627370496) (h3 : -4503599627370496 ≤ y) (h4 : y ≤ 4503599627370496) :
    rmoved_0 a b x y = moved_0 (cl_0 a b) (cl_1 a b) x y ∧ rmoved_1 a b x y = moved_1 (cl_0 a b) (cl_1 a b) x y := by
  unfold rmoved_0 rmoved_1 moved_0 moved_1
  simp only [empty_eq, rcl_0_eq, rcl_1_eq, decide_eq_true_eq, near_eq, lim_in h1 h2, lim_in h3 h4]
  exact ⟨trivial, trivial⟩
theorem rmoved_lim (a b x y : Int) : rmoved_0 a b x y = rmoved_0 a b (lim x) (lim y) ∧ rmoved_1 a b x y = rmoved_1 a b (lim x) (lim y) := by
  unfold rmoved_0 rmoved_1
  simp only [near_eq, lim_lim, and_self]
theorem shift_eq (a b x : Int) : rmoved_0 a b x x = shift_0 a b x ∧ rmoved_1 a b x x = shift_1 a b x := by
  have h := lim_bd x
  have := moved_eq a b (lim x) (lim x) h.1 h.2 h.1 h.2
  rw [(rmoved_lim a b x x).1, (rmoved_lim a b x x).2]
  exact this
theorem widen_eq (a b x : Int) : rwiden_0 a b x = widen_0 a b x ∧ rwiden_1 a b x = widen_1 a b x := by
  unfold rwiden_0 rwiden_1 widen_0 widen_1
  have hx := lim_bd x
  have hm : lim (max x 0) = max (lim x) 0 := by rw [lim_max, lim_in (n := 0) (by decide) (by decide)]
  rw [hm, near_eq]
  by_cases h : lim x < 0
  · have e : max (lim x) 0 = 0 := by omega
    simp only [h, if_true, e]
    exact moved_eq a b 0 0 (by decide) (by decide) (by decide) (by decide)
  · have e : max (lim x) 0 = lim x := by omega
    simp only [h, if_false, e]
    exact moved_eq a b (0 - lim x) (lim x) (by omega) (by omega) (by omega) (by omega)
theorem has_eq (a b x : Int) : rhas a b x = has a b x := by
  unfold rhas has
  simp only [rcl_0_eq, rcl_1_eq, near_eq]
theorem mid_eq (a b : Int) : rmid a b = mid a b := by
  unfold rmid mid
  simp only [empty_eq, rcl_0_eq, rcl_1_eq, decide_eq_true_eq]
  by_cases h : cl_0 a b = 1 ∧ cl_1 a b = 0
  · simp only [h, if_true, and_self]
  · simp only [h, if_false]
    have ho := cl_ord a b
    have h1 := tdiv_lit (cl_1 a b - cl_0 a b) 2 (by decide)
    have h2 := tdiv_lit (cl_0 a b + cl_1 a b) 2 (by decide)
    generalize cl_0 a b = p at *
    generalize cl_1 a b = q at *
    generalize (q - p).tdiv 2 = u at *
    generalize (p + q).tdiv 2 = v at *
    by_cases h3 : p + q < v * 2 <;> simp only [h3, if_true, if_false] <;> omega
theorem half_eq (a b : Int) : half a b = if cl_0 a b ≤ cl_1 a b then cl_1 a b - mid a b else 0 := by
  have h1 := cl_ord a b
  have e : mid (cl_0 a b) (cl_1 a b) = mid a b := by unfold mid; rw [cl_cl_0, cl_cl_1]
  unfold half
  rw [e]
  by_cases h : cl_0 a b = 1 ∧ cl_1 a b = 0
  · rw [if_pos h, if_neg (by omega)]
  · rw [if_neg h, if_pos (by omega)]
theorem like_true {a b c d : Int} (h1 : a = c) (h2 : b = d) : like a b c d = true := by unfold like; simp [h1, h2]
theorem awake2_true : awake2 = true := by decide
end Go.Proofs.Ytcnhmbjkippnnaa
