/- Layer 1: what the walks answer is true. -/
import Derived.Test.YtcnhmbjkippnnaaA6
namespace Go.Proofs.Ytcnhmbjkippnnaa
open Go
set_option linter.unusedVariables false
theorem tickBack_true (x y : Int) : tickBack x y = true := by
  have m0 : tmul_0 x y = tmul_0 y x := by
    unfold tmul_0; rw [Int.mul_comm y x]
    split <;> split <;> first | rfl | omega
  have m1 : tmul_1 x y = tmul_1 y x := by
    unfold tmul_1; rw [Int.mul_comm y x]
    split <;> split <;> first | rfl | omega
  have mb : (-1125899906842624 ≤ tmul_0 x y ∧ tmul_0 x y ≤ 1125899906842624) ∧ (tmul_1 x y ≠ 0 → tmul_0 x y = 0) := by
    unfold tmul_0 tmul_1
    split <;> omega
  have sb : ((-1125899906842624 ≤ x ∧ x ≤ 1125899906842624) ∧ (-1125899906842624 ≤ y ∧ y ≤ 1125899906842624) ∧ (-1125899906842624 ≤ x + y ∧ x + y ≤ 1125899906842624) ∧ tadd_0 x y = x + y ∧ tadd_1 x y = 0) ∨ (tadd_0 x y = 0 ∧ tadd_1 x y = 11) := by
    unfold tadd_0 tadd_1
    split
    · left; omega
    · right; omega
  unfold tickBack
  rw [if_neg (show ¬ (tmul_0 x y ≠ tmul_0 y x) by omega), if_neg (show ¬ (tmul_1 x y ≠ tmul_1 y x) by omega), if_neg (show ¬ (tadd_0 x y < -1125899906842624) by omega), if_neg (show ¬ (1125899906842624 < tadd_0 x y) by omega), if_neg (show ¬ (tmul_0 x y < -1125899906842624) by omega), if_neg (show ¬ (1125899906842624 < tmul_0 x y) by omega)]
  rcases sb with ⟨hx, hy, hs, e0, e1⟩ | ⟨e0, e1⟩
  · have t0 : tsub_0 (tadd_0 x y) y = x := by rw [e0]; unfold tsub_0; rw [if_pos (by omega)]; omega
    have t1 : tsub_1 (tadd_0 x y) y = 0 := by rw [e0]; unfold tsub_1; rw [if_pos (by omega)]
    have n0 : tneg_0 y = 0 - y := by unfold tneg_0; rw [if_pos (by omega)]
    have n1 : tneg_1 y = 0 := by unfold tneg_1; rw [if_pos (by omega)]
    have r0 : tadd_0 (tadd_0 x y) (tneg_0 y) = x := by rw [e0, n0]; unfold tadd_0; rw [if_pos (by omega)]; omega
    have r1 : tadd_1 (tadd_0 x y) (tneg_0 y) = 0 := by rw [e0, n0]; unfold tadd_1; rw [if_pos (by omega)]
    rw [if_neg (show ¬ (tadd_1 x y ≠ 0) by omega), if_neg (show ¬ (tadd_1 x y ≠ 0) by omega), if_pos t0, if_pos t1, if_pos n1, if_pos r0, if_pos r1]
    split
    · rw [if_neg (show ¬ (tmul_0 x y ≠ 0) by omega)]; exact awake1_true
    · exact awake1_true
  · rw [if_pos (show tadd_1 x y ≠ 0 by omega), if_neg (show ¬ (tadd_0 x y ≠ 0) by omega), if_pos (show tadd_1 x y ≠ 0 by omega), if_pos e1]
    split
    · rw [if_neg (show ¬ (tmul_0 x y ≠ 0) by omega)]; exact awake1_true
    · exact awake1_true
theorem fl_eq (n d : Int) (hd : 0 < d) : rfloor n d = fdiv n d := by
  have h := Int.mul_tdiv_add_tmod n d
  rw [Int.mul_comm] at h
  unfold rfloor fdiv
  split <;> split <;> first | rfl | omega
theorem rt (n : Int) : (!(rtime n)) = true ↔ ¬ (-1125899906842624 ≤ n ∧ n ≤ 1125899906842624) := by
  rw [← rtime_no]; simp
theorem add_eq (x y : Int) : tadd_0 x y = radd_0 x y ∧ tadd_1 x y = radd_1 x y := by
  unfold tadd_0 tadd_1 radd_0 radd_1
  simp only [rt]
  refine ⟨?_, ?_⟩ <;> (repeat' split) <;> first | rfl | (exfalso; omega)
theorem neg_eq (x : Int) : tneg_0 x = rneg_0 x ∧ tneg_1 x = rneg_1 x := by
  unfold tneg_0 tneg_1 rneg_0 rneg_1
  simp only [rt]
  refine ⟨?_, ?_⟩ <;> (repeat' split) <;> first | rfl | (exfalso; omega)
theorem sub_eq (x y : Int) : tsub_0 x y = rsub_0 x y ∧ tsub_1 x y = rsub_1 x y := by
  unfold rsub_0 rsub_1
  rw [← (neg_eq y).1, ← (neg_eq y).2, ← (add_eq x _).1, ← (add_eq x _).2]
  by_cases h : -1125899906842624 ≤ y ∧ y ≤ 1125899906842624
  · have n0 : tneg_0 y = 0 - y := by unfold tneg_0; rw [if_pos (by omega)]
    have n1 : tneg_1 y = 0 := by unfold tneg_1; rw [if_pos (by omega)]
    rw [n0, n1]
    unfold tsub_0 tsub_1 tadd_0 tadd_1
    refine ⟨?_, ?_⟩ <;> (repeat' split) <;> first | rfl | omega
  · have n1 : tneg_1 y = 11 := by unfold tneg_1; rw [if_neg (by omega)]
    rw [n1]
    have s0 : tsub_0 x y = 0 := by unfold tsub_0; rw [if_neg (by omega)]
    have s1 : tsub_1 x y = 11 := by unfold tsub_1; rw [if_neg (by omega)]
    rw [s0, s1]
    exact ⟨rfl, rfl⟩
theorem scale_eq (x y z : Int) : tscale_0 x y z = rscale_0 x y z ∧ tscale_1 x y z = rscale_1 x y z := by
  unfold tscale_0 tscale_1 rscale_0 rscale_1
  simp only [rt]
  by_cases hz : z < 1
  · refine ⟨?_, ?_⟩ <;> (repeat' split) <;> first | rfl | (exfalso; omega)
  · rw [fl_eq _ _ (show 0 < z by omega)]
    refine ⟨?_, ?_⟩ <;> (repeat' split) <;> first | rfl | (exfalso; omega)
theorem clamp_req (x : Int) : clamp x = rclamp x := by
  unfold clamp rclamp
  repeat' split
  all_goals omega
theorem tickTells_true (x y z : Int) : tickTells x y z = true := by
  have e1 := add_eq x y
  have e2 := sub_eq x y
  have e4 := neg_eq x
  have e5 := scale_eq x y z
  unfold tickTells
  rw [if_neg (fun h => h e1.1), if_neg (fun h => h e1.2), if_neg (fun h => h e2.1), if_neg (fun h => h e2.2), if_neg (fun h => h rfl), if_neg (fun h => h rfl), if_neg (fun h => h e4.1), if_neg (fun h => h e4.2), if_pos e5.1, if_pos e5.2, if_pos (clamp_req x)]
  exact awake1_true
