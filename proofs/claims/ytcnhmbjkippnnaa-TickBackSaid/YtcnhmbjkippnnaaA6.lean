/- The walks of layer 1. -/
import Derived.Test.YtcnhmbjkippnnaaA5
namespace Go.Proofs.Ytcnhmbjkippnnaa
open Go Go.RowKit
set_option linter.unusedVariables false
theorem fdiv_mul (n d : Int) (hd : 0 < d) : fdiv n d * d ≤ n ∧ n < fdiv n d * d + d := by
  have h := Int.mul_tdiv_add_tmod n d
  rw [Int.mul_comm] at h
  have h1 := Int.tmod_lt_of_pos n hd
  have h2 : -d < n.tmod d := by
    have h3 := Int.tmod_lt_of_pos (-n) hd
    rw [Int.neg_tmod] at h3
    omega
  unfold fdiv
  split
  · rw [Int.sub_mul, Int.one_mul]; omega
  · omega
theorem tscale_ok (x num den : Int) (h : tscale_1 x num den = 0) : (-1125899906842624 ≤ x ∧ x ≤ 1125899906842624) ∧ (-4096 ≤ num ∧ num ≤ 4096) ∧ (1 ≤ den ∧ den ≤ 4096) ∧ tscale_0 x num den = fdiv (x * num) den ∧ (-4611686018427387904 ≤ x * num ∧ x * num ≤ 4611686018427387904) ∧ fdiv (x * num) den * den ≤ x * num ∧ x * num < fdiv (x * num) den * den + den := by
  unfold tscale_1 at h
  repeat' (split at h)
  all_goals first | (exfalso; omega) | skip
  have h1 := fdiv_mul (x * num) den (by omega)
  have h2 := scale_bd x num (by omega) (by omega) (by omega) (by omega)
  refine ⟨by omega, by omega, by omega, ?_, h2, h1⟩
  unfold tscale_0
  rw [if_neg (by omega), if_neg (by omega), if_neg (by omega), if_neg (by omega), if_pos (by omega), if_pos (by omega)]
theorem tscale_bad (x num den : Int) (h : tscale_1 x num den ≠ 0) : tscale_0 x num den = 0 ∧ (tscale_1 x num den = 2 ∨ tscale_1 x num den = 11) := by
  unfold tscale_1 at h ⊢
  unfold tscale_0
  repeat' split
  all_goals first | omega | simp_all
theorem H19 : Has Try.prog 19 := ⟨fun args w => run_callFunc_body Try.func19 rfl (by decide) args w⟩
def tickRatio (x : Int) (num : Int) (den : Int) : Bool := if (tscale_1 x num den) ≠ 0 then if (tscale_0 x num den) = 0 then if (tscale_1 x num den) = 2 then awake1 else if (tscale_1 x num den) = 11 then awake1 else false else false else if ((tscale_0 x num den) * den) ≤ (x * num) then if (x * num) < (((tscale_0 x num den) * den) + den) then awake1 else false else false
theorem tickRatio_any (x : Int) (num : Int) (den : Int) (w : World)  :
    Calls Try.prog 5 #[Value.int IntKind.i64 x, Value.int IntKind.i64 num, Value.int IntKind.i64 den] w fun e w' => e = .returned (Value.bool (tickRatio x num den)) ∧ Below w.heap.size w w' := by
  refine enter Try.func5 rfl Try.ntmps5 rfl (fun a hF => ?_)
  have hW := Stw.start w
  refine c_seq ?_
  refine reg_list ?_
  refine ls hF hW rfl (y_assign hF rfl) (fun a w hF hW => ?_)
  refine ls_nil ?_
  refine c_then ?_
  refine c_seq ?_
  refine reg_list ?_
  refine ls hF hW rfl (y_move hF rfl) (fun a w hF hW => ?_)
  refine ls hF hW rfl (y_move hF rfl) (fun a w hF hW => ?_)
  refine ls hF hW rfl (y_move hF rfl) (fun a w hF hW => ?_)
  refine ls hF hW rfl (y_call (v := Value.tuple #[Value.int IntKind.i64 (tscale_0 x num den), Value.int IntKind.i64 (tscale_1 x num den)]) hF H19 rfl (fun w _ => tscale_any x num den w )) (fun a w hF hW => ?_)
  refine ls hF hW rfl (y_move hF rfl) (fun a w hF hW => ?_)
  refine ls hF hW rfl (y_extract (v := Value.int IntKind.i64 (tscale_0 x num den)) hF rfl rfl) (fun a w hF hW => ?_)
  refine ls hF hW rfl (y_extract (v := Value.int IntKind.i64 (tscale_1 x num den)) hF rfl rfl) (fun a w hF hW => ?_)
  refine ls hF hW rfl (y_assign hF rfl) (fun a w hF hW => ?_)
  refine ls hF hW rfl (y_assign hF rfl) (fun a w hF hW => ?_)
  refine ls_nil ?_
  refine c_then ?_
  refine c_seq ?_
  refine c_seq ?_
  refine reg_list ?_
  refine ls hF hW rfl (y_move hF rfl) (fun a w hF hW => ?_)
  refine ls hF hW rfl (y_neq hF rfl rfl) (fun a w hF hW => ?_)
  refine ls_nil ?_
  refine c_then ?_
  refine c_cond hF rfl (fun hb => ?_) (fun hb => ?_)
  ·
    have c1 := of_decide_eq_true hb
    simp only [hb] at hF
    clear hb
    refine c_seq ?_
    refine reg_list ?_
    refine ls hF hW rfl (y_move hF rfl) (fun a w hF hW => ?_)
    refine ls hF hW rfl (y_eql hF rfl rfl) (fun a w hF hW => ?_)
    refine ls hF hW rfl (y_move hF rfl) (fun a w hF hW => ?_)
    rcases Bool.eq_false_or_eq_true (decide ((tscale_0 x num den) = 0)) with hb | hb
    ·
      have c2 := of_decide_eq_true hb
      simp only [hb] at hF
      clear hb
      refine ls_w hF hW (wanted_y hF rfl rfl rfl rfl) rfl (Nat.le_of_ble_eq_true rfl) (y_move hF rfl) (fun a w hF hW => ?_)
      refine ls_w hF hW (wanted_y hF rfl rfl rfl rfl) rfl (Nat.le_of_ble_eq_true rfl) (y_eql hF rfl rfl) (fun a w hF hW => ?_)
      refine ls_w hF hW (wanted_y hF rfl rfl rfl rfl) rfl (Nat.le_of_ble_eq_true rfl) (y_move hF rfl) (fun a w hF hW => ?_)
      rcases Bool.eq_false_or_eq_true (decide ((tscale_1 x num den) = 2)) with hb | hb
      ·
        have c3 := of_decide_eq_true hb
        simp only [hb] at hF
        clear hb
        refine ls_skip hF (wanted_n hF rfl rfl rfl rfl rfl) rfl rfl (fun a hF => ?_)
        refine ls_skip hF (wanted_n hF rfl rfl rfl rfl rfl) rfl rfl (fun a hF => ?_)
        refine ls_w hF hW (wanted_y hF rfl rfl rfl rfl) rfl (Nat.le_of_ble_eq_true rfl) (y_pick_t hF rfl rfl rfl) (fun a w hF hW => ?_)
        refine ls hF hW rfl (y_pick_t hF rfl rfl rfl) (fun a w hF hW => ?_)
        refine ls hF hW rfl (y_move hF rfl) (fun a w hF hW => ?_)
        refine ls_w hF hW (wanted_y hF rfl rfl rfl rfl) rfl (Nat.le_of_ble_eq_true rfl) (y_call (v := Value.bool awake1) hF H23 rfl (fun w _ => awake1_any  w )) (fun a w hF hW => ?_)
        refine ls hF hW rfl (y_pick_t hF rfl rfl rfl) (fun a w hF hW => ?_)
        refine ls hF hW rfl (y_assign hF rfl) (fun a w hF hW => ?_)
        refine ls_nil ?_
        refine c_then ?_
        refine wp_ret ?_
        refine r_then ?_
        refine post1 (.inl rfl) hF hW rfl (rv_tmp hF rfl) ?_
        exact ⟨congrArg Ending.returned (vbool (show (awake1) = tickRatio x num den by rw [tickRatio, if_pos c1, if_pos c2, if_pos c3])), hW.frm.below⟩
      ·
        have c3 := of_decide_eq_false hb
        simp only [hb] at hF
        clear hb
        refine ls_w hF hW (wanted_y hF rfl rfl rfl rfl) rfl (Nat.le_of_ble_eq_true rfl) (y_move hF rfl) (fun a w hF hW => ?_)
        refine ls_w hF hW (wanted_y hF rfl rfl rfl rfl) rfl (Nat.le_of_ble_eq_true rfl) (y_eql hF rfl rfl) (fun a w hF hW => ?_)
        refine ls_w hF hW (wanted_y hF rfl rfl rfl rfl) rfl (Nat.le_of_ble_eq_true rfl) (y_pick_f hF rfl rfl rfl) (fun a w hF hW => ?_)
        refine ls hF hW rfl (y_pick_t hF rfl rfl rfl) (fun a w hF hW => ?_)
        refine ls hF hW rfl (y_move hF rfl) (fun a w hF hW => ?_)
        rcases Bool.eq_false_or_eq_true (decide ((tscale_1 x num den) = 11)) with hb | hb
        ·
          have c4 := of_decide_eq_true hb
          simp only [hb] at hF
          clear hb
          refine ls_w hF hW (wanted_y hF rfl rfl rfl rfl) rfl (Nat.le_of_ble_eq_true rfl) (y_call (v := Value.bool awake1) hF H23 rfl (fun w _ => awake1_any  w )) (fun a w hF hW => ?_)
          refine ls hF hW rfl (y_pick_t hF rfl rfl rfl) (fun a w hF hW => ?_)
          refine ls hF hW rfl (y_assign hF rfl) (fun a w hF hW => ?_)
          refine ls_nil ?_
          refine c_then ?_
          refine wp_ret ?_
          refine r_then ?_
          refine post1 (.inl rfl) hF hW rfl (rv_tmp hF rfl) ?_
          exact ⟨congrArg Ending.returned (vbool (show (awake1) = tickRatio x num den by rw [tickRatio, if_pos c1, if_pos c2, if_neg c3, if_pos c4])), hW.frm.below⟩
        ·
          have c4 := of_decide_eq_false hb
          simp only [hb] at hF
          clear hb
          refine ls_skip hF (wanted_n hF rfl rfl rfl rfl rfl) rfl rfl (fun a hF => ?_)
          refine ls hF hW rfl (y_pick_f hF rfl rfl rfl) (fun a w hF hW => ?_)
          refine ls hF hW rfl (y_assign hF rfl) (fun a w hF hW => ?_)
          refine ls_nil ?_
          refine c_then ?_
          refine wp_ret ?_
          refine r_then ?_
          refine post1 (.inl rfl) hF hW rfl (rv_tmp hF rfl) ?_
          exact ⟨congrArg Ending.returned (vbool (show (false) = tickRatio x num den by rw [tickRatio, if_pos c1, if_pos c2, if_neg c3, if_neg c4])), hW.frm.below⟩
    ·
      have c2 := of_decide_eq_false hb
      simp only [hb] at hF
      clear hb
      refine ls_skip hF (wanted_n hF rfl rfl rfl rfl rfl) rfl rfl (fun a hF => ?_)
      refine ls_skip hF (wanted_n hF rfl rfl rfl rfl rfl) rfl rfl (fun a hF => ?_)
      refine ls_skip hF (wanted_n hF rfl rfl rfl rfl rfl) rfl rfl (fun a hF => ?_)
      refine ls_skip hF (wanted_undef hF rfl rfl rfl rfl) rfl rfl (fun a hF => ?_)
      refine ls_skip hF (wanted_undef hF rfl rfl rfl rfl) rfl rfl (fun a hF => ?_)
      refine ls_skip hF (wanted_n hF rfl rfl rfl rfl rfl) rfl rfl (fun a hF => ?_)
      refine ls hF hW rfl (y_pick_f hF rfl rfl rfl) (fun a w hF hW => ?_)
      refine ls hF hW rfl (y_move hF rfl) (fun a w hF hW => ?_)
      refine ls_skip hF (wanted_n hF rfl rfl rfl rfl rfl) rfl rfl (fun a hF => ?_)
      refine ls hF hW rfl (y_pick_f hF rfl rfl rfl) (fun a w hF hW => ?_)
      refine ls hF hW rfl (y_assign hF rfl) (fun a w hF hW => ?_)
      refine ls_nil ?_
      refine c_then ?_
      refine wp_ret ?_
      refine r_then ?_
      refine post1 (.inl rfl) hF hW rfl (rv_tmp hF rfl) ?_
      exact ⟨congrArg Ending.returned (vbool (show (false) = tickRatio x num den by rw [tickRatio, if_pos c1, if_neg c2])), hW.frm.below⟩
  ·
    have c1 := of_decide_eq_false hb
    simp only [hb] at hF
    clear hb
    refine wp_skip ?_
    refine c_then ?_
    refine c_seq ?_
    refine reg_list ?_
    refine ls hF hW rfl (y_move hF rfl) (fun a w hF hW => ?_)
    refine ls hF hW rfl (y_move hF rfl) (fun a w hF hW => ?_)
    refine ls hF hW rfl (y_mul hF rfl rfl (r := (tscale_0 x num den) * den) (IntWalk.i64_in _ (by have := tscale_ok x num den (by omega); rw [(tscale_ok x num den (by omega)).2.2.2.1] at *; omega))) (fun a w hF hW => ?_)
    refine ls hF hW rfl (y_move hF rfl) (fun a w hF hW => ?_)
    refine ls hF hW rfl (y_move hF rfl) (fun a w hF hW => ?_)
    refine ls hF hW rfl (y_mul hF rfl rfl (r := x * num) (IntWalk.i64_in _ (by have := tscale_ok x num den (by omega); rw [(tscale_ok x num den (by omega)).2.2.2.1] at *; omega))) (fun a w hF hW => ?_)
    refine ls hF hW rfl (y_leq hF rfl rfl) (fun a w hF hW => ?_)
    refine ls hF hW rfl (y_move hF rfl) (fun a w hF hW => ?_)
    rcases Bool.eq_false_or_eq_true (decide (((tscale_0 x num den) * den) ≤ (x * num))) with hb | hb
    ·
      have c2 := of_decide_eq_true hb
      simp only [hb] at hF
      clear hb
      refine ls_w hF hW (wanted_y hF rfl rfl rfl rfl) rfl (Nat.le_of_ble_eq_true rfl) (y_move hF rfl) (fun a w hF hW => ?_)
      refine ls_w hF hW (wanted_y hF rfl rfl rfl rfl) rfl (Nat.le_of_ble_eq_true rfl) (y_move hF rfl) (fun a w hF hW => ?_)
      refine ls_w hF hW (wanted_y hF rfl rfl rfl rfl) rfl (Nat.le_of_ble_eq_true rfl) (y_mul hF rfl rfl (r := x * num) (IntWalk.i64_in _ (by have := tscale_ok x num den (by omega); rw [(tscale_ok x num den (by omega)).2.2.2.1] at *; omega))) (fun a w hF hW => ?_)
      refine ls_w hF hW (wanted_y hF rfl rfl rfl rfl) rfl (Nat.le_of_ble_eq_true rfl) (y_move hF rfl) (fun a w hF hW => ?_)
      refine ls_w hF hW (wanted_y hF rfl rfl rfl rfl) rfl (Nat.le_of_ble_eq_true rfl) (y_move hF rfl) (fun a w hF hW => ?_)
      refine ls_w hF hW (wanted_y hF rfl rfl rfl rfl) rfl (Nat.le_of_ble_eq_true rfl) (y_mul hF rfl rfl (r := (tscale_0 x num den) * den) (IntWalk.i64_in _ (by have := tscale_ok x num den (by omega); rw [(tscale_ok x num den (by omega)).2.2.2.1] at *; omega))) (fun a w hF hW => ?_)
      refine ls_w hF hW (wanted_y hF rfl rfl rfl rfl) rfl (Nat.le_of_ble_eq_true rfl) (y_move hF rfl) (fun a w hF hW => ?_)
      refine ls_w hF hW (wanted_y hF rfl rfl rfl rfl) rfl (Nat.le_of_ble_eq_true rfl) (y_add hF rfl rfl (r := ((tscale_0 x num den) * den) + den) (IntWalk.i64_in _ (by have := tscale_ok x num den (by omega); rw [(tscale_ok x num den (by omega)).2.2.2.1] at *; omega))) (fun a w hF hW => ?_)
      refine ls_w hF hW (wanted_y hF rfl rfl rfl rfl) rfl (Nat.le_of_ble_eq_true rfl) (y_lss hF rfl rfl) (fun a w hF hW => ?_)
      refine ls hF hW rfl (y_pick_t hF rfl rfl rfl) (fun a w hF hW => ?_)
      refine ls hF hW rfl (y_move hF rfl) (fun a w hF hW => ?_)
      rcases Bool.eq_false_or_eq_true (decide ((x * num) < (((tscale_0 x num den) * den) + den))) with hb | hb
      ·
        have c3 := of_decide_eq_true hb
        simp only [hb] at hF
        clear hb
        refine ls_w hF hW (wanted_y hF rfl rfl rfl rfl) rfl (Nat.le_of_ble_eq_true rfl) (y_call (v := Value.bool awake1) hF H23 rfl (fun w _ => awake1_any  w )) (fun a w hF hW => ?_)
        refine ls hF hW rfl (y_pick_t hF rfl rfl rfl) (fun a w hF hW => ?_)
        refine ls hF hW rfl (y_assign hF rfl) (fun a w hF hW => ?_)
        refine ls_nil ?_
        refine c_then ?_
        refine wp_ret ?_
        refine post1 (.inl rfl) hF hW rfl (rv_tmp hF rfl) ?_
        exact ⟨congrArg Ending.returned (vbool (show (awake1) = tickRatio x num den by rw [tickRatio, if_neg c1, if_pos c2, if_pos c3])), hW.frm.below⟩
      ·
        have c3 := of_decide_eq_false hb
        simp only [hb] at hF
        clear hb
        refine ls_skip hF (wanted_n hF rfl rfl rfl rfl rfl) rfl rfl (fun a hF => ?_)
        refine ls hF hW rfl (y_pick_f hF rfl rfl rfl) (fun a w hF hW => ?_)
        refine ls hF hW rfl (y_assign hF rfl) (fun a w hF hW => ?_)
        refine ls_nil ?_
        refine c_then ?_
        refine wp_ret ?_
        refine post1 (.inl rfl) hF hW rfl (rv_tmp hF rfl) ?_
        exact ⟨congrArg Ending.returned (vbool (show (false) = tickRatio x num den by rw [tickRatio, if_neg c1, if_pos c2, if_neg c3])), hW.frm.below⟩
    ·
      have c2 := of_decide_eq_false hb
      simp only [hb] at hF
      clear hb
      refine ls_skip hF (wanted_n hF rfl rfl rfl rfl rfl) rfl rfl (fun a hF => ?_)
      refine ls_skip hF (wanted_n hF rfl rfl rfl rfl rfl) rfl rfl (fun a hF => ?_)
      refine ls_skip hF (wanted_n hF rfl rfl rfl rfl rfl) rfl rfl (fun a hF => ?_)
      refine ls_skip hF (wanted_n hF rfl rfl rfl rfl rfl) rfl rfl (fun a hF => ?_)
      refine ls_skip hF (wanted_n hF rfl rfl rfl rfl rfl) rfl rfl (fun a hF => ?_)
      refine ls_skip hF (wanted_n hF rfl rfl rfl rfl rfl) rfl rfl (fun a hF => ?_)
      refine ls_skip hF (wanted_n hF rfl rfl rfl rfl rfl) rfl rfl (fun a hF => ?_)
      refine ls_skip hF (wanted_n hF rfl rfl rfl rfl rfl) rfl rfl (fun a hF => ?_)
      refine ls_skip hF (wanted_n hF rfl rfl rfl rfl rfl) rfl rfl (fun a hF => ?_)
      refine ls hF hW rfl (y_pick_f hF rfl rfl rfl) (fun a w hF hW => ?_)
      refine ls hF hW rfl (y_move hF rfl) (fun a w hF hW => ?_)
      refine ls_skip hF (wanted_n hF rfl rfl rfl rfl rfl) rfl rfl (fun a hF => ?_)
      refine ls hF hW rfl (y_pick_f hF rfl rfl rfl) (fun a w hF hW => ?_)
      refine ls hF hW rfl (y_assign hF rfl) (fun a w hF hW => ?_)
      refine ls_nil ?_
      refine c_then ?_
      refine wp_ret ?_
      refine post1 (.inl rfl) hF hW rfl (rv_tmp hF rfl) ?_
      exact ⟨congrArg Ending.returned (vbool (show (false) = tickRatio x num den by rw [tickRatio, if_neg c1, if_neg c2])), hW.frm.below⟩

theorem tickRatio_true (x num den : Int) : tickRatio x num den = true := by
  unfold tickRatio
  by_cases h : tscale_1 x num den = 0
  · have h1 := tscale_ok x num den h
    rw [if_neg (by omega), h1.2.2.2.1, if_pos (by omega), if_pos (by omega)]
    exact awake1_true
  · have h1 := tscale_bad x num den h
    rw [if_pos h, if_pos h1.1]
    rcases h1.2 with h2 | h2
    · rw [if_pos h2]; exact awake1_true
    · rw [if_neg (by omega), if_pos h2]; exact awake1_true
theorem H14 : Has Try.prog 14 := ⟨fun args w => run_callFunc_body Try.func14 rfl (by decide) args w⟩
theorem H16 : Has Try.prog 16 := ⟨fun args w => run_callFunc_body Try.func16 rfl (by decide) args w⟩
theorem H20 : Has Try.prog 20 := ⟨fun args w => run_callFunc_body Try.func20 rfl (by decide) args w⟩
theorem H22 : Has Try.prog 22 := ⟨fun args w => run_callFunc_body Try.func22 rfl (by decide) args w⟩
def tickTells (x : Int) (y : Int) (z : Int) : Bool := if (tadd_0 x y) ≠ (radd_0 x y) then false else if (tadd_1 x y) ≠ (radd_1 x y) then false else if (tsub_0 x y) ≠ (rsub_0 x y) then false else if (tsub_1 x y) ≠ (rsub_1 x y) then false else if (tmul_0 x y) ≠ (if (-1125899906842624 ≤ x ∧ x ≤ 1125899906842624) ∧ (-1125899906842624 ≤ y ∧ y ≤ 1125899906842624) ∧ (-1125899906842624 ≤ (x * y) ∧ (x * y) ≤ 1125899906842624) then x * y else 0) then false else if (tmul_1 x y) ≠ (if (-1125899906842624 ≤ x ∧ x ≤ 1125899906842624) ∧ (-1125899906842624 ≤ y ∧ y ≤ 1125899906842624) ∧ (-1125899906842624 ≤ (x * y) ∧ (x * y) ≤ 1125899906842624) then 0 else 11) then false else if (tneg_0 x) ≠ (rneg_0 x) then false else if (tneg_1 x) ≠ (rneg_1 x) then false else if (tscale_0 x y z) = (rscale_0 x y z) then if (tscale_1 x y z) = (rscale_1 x y z) then if (clamp x) = (rclamp x) then awake1 else false else false else false
theorem tickTells_any (x : Int) (y : Int) (z : Int) (w : World)  :
    Calls Try.prog 3 #[Value.int IntKind.i64 x, Value.int IntKind.i64 y, Value.int IntKind.i64 z] w fun e w' => e = .returned (Value.bool (tickTells x y z)) ∧ Below w.heap.size w w' := by
  refine enter Try.func3 rfl Try.ntmps3 rfl (fun a hF => ?_)
  have hW := Stw.start w
  refine c_seq ?_
  refine reg_list ?_
  refine ls hF hW rfl (y_assign hF rfl) (fun a w hF hW => ?_)
  refine ls_nil ?_
  refine c_then ?_
  refine c_seq ?_
  refine reg_list ?_
  refine ls hF hW rfl (y_move hF rfl) (fun a w hF hW => ?_)
  refine ls hF hW rfl (y_move hF rfl) (fun a w hF hW => ?_)
  refine ls hF hW rfl (y_call (v := Value.tuple #[Value.int IntKind.i64 (tadd_0 x y), Value.int IntKind.i64 (tadd_1 x y)]) hF H11 rfl (fun w _ => tadd_any x y w )) (fun a w hF hW => ?_)
  refine ls hF hW rfl (y_move hF rfl) (fun a w hF hW => ?_)
  refine ls hF hW rfl (y_extract (v := Value.int IntKind.i64 (tadd_0 x y)) hF rfl rfl) (fun a w hF hW => ?_)
  refine ls hF hW rfl (y_extract (v := Value.int IntKind.i64 (tadd_1 x y)) hF rfl rfl) (fun a w hF hW => ?_)
  refine ls hF hW rfl (y_assign hF rfl) (fun a w hF hW => ?_)
  refine ls hF hW rfl (y_assign hF rfl) (fun a w hF hW => ?_)
  refine ls_nil ?_
  refine c_then ?_
  refine c_seq ?_
  refine reg_list ?_
  refine ls hF hW rfl (y_move hF rfl) (fun a w hF hW => ?_)
  refine ls hF hW rfl (y_move hF rfl) (fun a w hF hW => ?_)
  refine ls hF hW rfl (y_call (v := Value.tuple #[Value.int IntKind.i64 (radd_0 x y), Value.int IntKind.i64 (radd_1 x y)]) hF H12 rfl (fun w _ => radd_any x y w )) (fun a w hF hW => ?_)
  refine ls hF hW rfl (y_move hF rfl) (fun a w hF hW => ?_)
  refine ls hF hW rfl (y_extract (v := Value.int IntKind.i64 (radd_0 x y)) hF rfl rfl) (fun a w hF hW => ?_)
  refine ls hF hW rfl (y_extract (v := Value.int IntKind.i64 (radd_1 x y)) hF rfl rfl) (fun a w hF hW => ?_)
  refine ls hF hW rfl (y_assign hF rfl) (fun a w hF hW => ?_)
  refine ls hF hW rfl (y_assign hF rfl) (fun a w hF hW => ?_)
  refine ls_nil ?_
  refine c_then ?_
  refine c_seq ?_
  refine c_seq ?_
  refine reg_list ?_
  refine ls hF hW rfl (y_move hF rfl) (fun a w hF hW => ?_)
  refine ls hF hW rfl (y_move hF rfl) (fun a w hF hW => ?_)
  refine ls hF hW rfl (y_neq hF rfl rfl) (fun a w hF hW => ?_)
  refine ls hF hW rfl (y_move hF rfl) (fun a w hF hW => ?_)
  rcases Bool.eq_false_or_eq_true (decide ((tadd_0 x y) ≠ (radd_0 x y))) with hb | hb
  ·
    have c1 := of_decide_eq_true hb
    simp only [hb] at hF
    clear hb
    refine ls_skip hF (wanted_n hF rfl rfl rfl rfl rfl) rfl rfl (fun a hF => ?_)
    refine ls_skip hF (wanted_n hF rfl rfl rfl rfl rfl) rfl rfl (fun a hF => ?_)
    refine ls_skip hF (wanted_n hF rfl rfl rfl rfl rfl) rfl rfl (fun a hF => ?_)
    refine ls hF hW rfl (y_pick_t hF rfl rfl rfl) (fun a w hF hW => ?_)
    refine ls_nil ?_
    refine c_then ?_
    refine c_cond_t hF rfl ?_
    refine c_seq ?_
    refine reg_list ?_
    refine ls hF hW rfl (y_assign hF rfl) (fun a w hF hW => ?_)
    refine ls_nil ?_
    refine c_then ?_
    refine wp_ret ?_
    refine r_then ?_
    refine post1 (.inl rfl) hF hW rfl (rv_tmp hF rfl) ?_
    exact ⟨congrArg Ending.returned (vbool (show (false) = tickTells x y z by rw [tickTells, if_pos c1])), hW.frm.below⟩
  ·
    have c1 := of_decide_eq_false hb
    simp only [hb] at hF
    clear hb
    refine ls_w hF hW (wanted_y hF rfl rfl rfl rfl) rfl (Nat.le_of_ble_eq_true rfl) (y_move hF rfl) (fun a w hF hW => ?_)
    refine ls_w hF hW (wanted_y hF rfl rfl rfl rfl) rfl (Nat.le_of_ble_eq_true rfl) (y_move hF rfl) (fun a w hF hW => ?_)
    refine ls_w hF hW (wanted_y hF rfl rfl rfl rfl) rfl (Nat.le_of_ble_eq_true rfl) (y_neq hF rfl rfl) (fun a w hF hW => ?_)
    refine ls hF hW rfl (y_pick_f hF rfl rfl rfl) (fun a w hF hW => ?_)
    refine ls_nil ?_
    refine c_then ?_
    refine c_cond hF rfl (fun hb => ?_) (fun hb => ?_)
    ·
      have c2 := of_decide_eq_true hb
      simp only [hb] at hF
      clear hb
      refine c_seq ?_
      refine reg_list ?_
      refine ls hF hW rfl (y_assign hF rfl) (fun a w hF hW => ?_)
      refine ls_nil ?_
      refine c_then ?_
      refine wp_ret ?_
      refine r_then ?_
      refine post1 (.inl rfl) hF hW rfl (rv_tmp hF rfl) ?_
      exact ⟨congrArg Ending.returned (vbool (show (false) = tickTells x y z by rw [tickTells, if_neg c1, if_pos c2])), hW.frm.below⟩
    ·
      have c2 := of_decide_eq_false hb
      simp only [hb] at hF
      clear hb
      refine wp_skip ?_
      refine c_then ?_
      refine c_seq ?_
      refine reg_list ?_
      refine ls hF hW rfl (y_move hF rfl) (fun a w hF hW => ?_)
      refine ls hF hW rfl (y_move hF rfl) (fun a w hF hW => ?_)
      refine ls hF hW rfl (y_call (v := Value.tuple #[Value.int IntKind.i64 (tsub_0 x y), Value.int IntKind.i64 (tsub_1 x y)]) hF H13 rfl (fun w _ => tsub_any x y w )) (fun a w hF hW => ?_)
      refine ls hF hW rfl (y_move hF rfl) (fun a w hF hW => ?_)
      refine ls hF hW rfl (y_extract (v := Value.int IntKind.i64 (tsub_0 x y)) hF rfl rfl) (fun a w hF hW => ?_)
      refine ls hF hW rfl (y_extract (v := Value.int IntKind.i64 (tsub_1 x y)) hF rfl rfl) (fun a w hF hW => ?_)
      refine ls hF hW rfl (y_assign hF rfl) (fun a w hF hW => ?_)
      refine ls hF hW rfl (y_assign hF rfl) (fun a w hF hW => ?_)
      refine ls_nil ?_
      refine c_then ?_
      refine c_seq ?_
      refine reg_list ?_
      refine ls hF hW rfl (y_move hF rfl) (fun a w hF hW => ?_)
      refine ls hF hW rfl (y_move hF rfl) (fun a w hF hW => ?_)
      refine ls hF hW rfl (y_call (v := Value.tuple #[Value.int IntKind.i64 (rsub_0 x y), Value.int IntKind.i64 (rsub_1 x y)]) hF H14 rfl (fun w _ => rsub_any x y w )) (fun a w hF hW => ?_)
      refine ls hF hW rfl (y_move hF rfl) (fun a w hF hW => ?_)
      refine ls hF hW rfl (y_extract (v := Value.int IntKind.i64 (rsub_0 x y)) hF rfl rfl) (fun a w hF hW => ?_)
      refine ls hF hW rfl (y_extract (v := Value.int IntKind.i64 (rsub_1 x y)) hF rfl rfl) (fun a w hF hW => ?_)
      refine ls hF hW rfl (y_assign hF rfl) (fun a w hF hW => ?_)
      refine ls hF hW rfl (y_assign hF rfl) (fun a w hF hW => ?_)
      refine ls_nil ?_
      refine c_then ?_
      refine c_seq ?_
      refine c_seq ?_
      refine reg_list ?_
      refine ls hF hW rfl (y_move hF rfl) (fun a w hF hW => ?_)
      refine ls hF hW rfl (y_move hF rfl) (fun a w hF hW => ?_)
      refine ls hF hW rfl (y_neq hF rfl rfl) (fun a w hF hW => ?_)
      refine ls hF hW rfl (y_move hF rfl) (fun a w hF hW => ?_)
      rcases Bool.eq_false_or_eq_true (decide ((tsub_0 x y) ≠ (rsub_0 x y))) with hb | hb
      ·
        have c3 := of_decide_eq_true hb
        simp only [hb] at hF
        clear hb
        refine ls_skip hF (wanted_n hF rfl rfl rfl rfl rfl) rfl rfl (fun a hF => ?_)
        refine ls_skip hF (wanted_n hF rfl rfl rfl rfl rfl) rfl rfl (fun a hF => ?_)
        refine ls_skip hF (wanted_n hF rfl rfl rfl rfl rfl) rfl rfl (fun a hF => ?_)
        refine ls hF hW rfl (y_pick_t hF rfl rfl rfl) (fun a w hF hW => ?_)
        refine ls_nil ?_
        refine c_then ?_
        refine c_cond_t hF rfl ?_
        refine c_seq ?_
        refine reg_list ?_
        refine ls hF hW rfl (y_assign hF rfl) (fun a w hF hW => ?_)
        refine ls_nil ?_
        refine c_then ?_
        refine wp_ret ?_
        refine r_then ?_
        refine post1 (.inl rfl) hF hW rfl (rv_tmp hF rfl) ?_
        exact ⟨congrArg Ending.returned (vbool (show (false) = tickTells x y z by rw [tickTells, if_neg c1, if_neg c2, if_pos c3])), hW.frm.below⟩
      ·
        have c3 := of_decide_eq_false hb
        simp only [hb] at hF
        clear hb
        refine ls_w hF hW (wanted_y hF rfl rfl rfl rfl) rfl (Nat.le_of_ble_eq_true rfl) (y_move hF rfl) (fun a w hF hW => ?_)
        refine ls_w hF hW (wanted_y hF rfl rfl rfl rfl) rfl (Nat.le_of_ble_eq_true rfl) (y_move hF rfl) (fun a w hF hW => ?_)
        refine ls_w hF hW (wanted_y hF rfl rfl rfl rfl) rfl (Nat.le_of_ble_eq_true rfl) (y_neq hF rfl rfl) (fun a w hF hW => ?_)
        refine ls hF hW rfl (y_pick_f hF rfl rfl rfl) (fun a w hF hW => ?_)
        refine ls_nil ?_
        refine c_then ?_
        refine c_cond hF rfl (fun hb => ?_) (fun hb => ?_)
        ·
          have c4 := of_decide_eq_true hb
          simp only [hb] at hF
          clear hb
          refine c_seq ?_
          refine reg_list ?_
          refine ls hF hW rfl (y_assign hF rfl) (fun a w hF hW => ?_)
          refine ls_nil ?_
          refine c_then ?_
          refine wp_ret ?_
          refine r_then ?_
          refine post1 (.inl rfl) hF hW rfl (rv_tmp hF rfl) ?_
          exact ⟨congrArg Ending.returned (vbool (show (false) = tickTells x y z by rw [tickTells, if_neg c1, if_neg c2, if_neg c3, if_pos c4])), hW.frm.below⟩
        ·
          have c4 := of_decide_eq_false hb
          simp only [hb] at hF
          clear hb
          refine wp_skip ?_
          refine c_then ?_
          refine c_seq ?_
          refine reg_list ?_
          refine ls hF hW rfl (y_move hF rfl) (fun a w hF hW => ?_)
          refine ls hF hW rfl (y_move hF rfl) (fun a w hF hW => ?_)
          refine ls hF hW rfl (y_call (v := Value.tuple #[Value.int IntKind.i64 (tmul_0 x y), Value.int IntKind.i64 (tmul_1 x y)]) hF H15 rfl (fun w _ => tmul_any x y w )) (fun a w hF hW => ?_)
          refine ls hF hW rfl (y_move hF rfl) (fun a w hF hW => ?_)
          refine ls hF hW rfl (y_extract (v := Value.int IntKind.i64 (tmul_0 x y)) hF rfl rfl) (fun a w hF hW => ?_)
          refine ls hF hW rfl (y_extract (v := Value.int IntKind.i64 (tmul_1 x y)) hF rfl rfl) (fun a w hF hW => ?_)
          refine ls hF hW rfl (y_assign hF rfl) (fun a w hF hW => ?_)
          refine ls hF hW rfl (y_assign hF rfl) (fun a w hF hW => ?_)
          refine ls_nil ?_
          refine c_then ?_
          refine c_seq ?_
          refine reg_list ?_
          refine ls hF hW rfl (y_move hF rfl) (fun a w hF hW => ?_)
          refine ls hF hW rfl (y_move hF rfl) (fun a w hF hW => ?_)
          refine ls hF hW rfl (y_call (v := Value.tuple #[Value.int IntKind.i64 (if (-1125899906842624 ≤ x ∧ x ≤ 1125899906842624) ∧ (-1125899906842624 ≤ y ∧ y ≤ 1125899906842624) ∧ (-1125899906842624 ≤ (x * y) ∧ (x * y) ≤ 1125899906842624) then x * y else 0), Value.int IntKind.i64 (if (-1125899906842624 ≤ x ∧ x ≤ 1125899906842624) ∧ (-1125899906842624 ≤ y ∧ y ≤ 1125899906842624) ∧ (-1125899906842624 ≤ (x * y) ∧ (x * y) ≤ 1125899906842624) then 0 else 11)]) hF H16 rfl (fun w _ => rmul_any x y w )) (fun a w hF hW => ?_)
          refine ls hF hW rfl (y_move hF rfl) (fun a w hF hW => ?_)
          refine ls hF hW rfl (y_extract (v := Value.int IntKind.i64 (if (-1125899906842624 ≤ x ∧ x ≤ 1125899906842624) ∧ (-1125899906842624 ≤ y ∧ y ≤ 1125899906842624) ∧ (-1125899906842624 ≤ (x * y) ∧ (x * y) ≤ 1125899906842624) then x * y else 0)) hF rfl rfl) (fun a w hF hW => ?_)
          refine ls hF hW rfl (y_extract (v := Value.int IntKind.i64 (if (-1125899906842624 ≤ x ∧ x ≤ 1125899906842624) ∧ (-1125899906842624 ≤ y ∧ y ≤ 1125899906842624) ∧ (-1125899906842624 ≤ (x * y) ∧ (x * y) ≤ 1125899906842624) then 0 else 11)) hF rfl rfl) (fun a w hF hW => ?_)
          refine ls hF hW rfl (y_assign hF rfl) (fun a w hF hW => ?_)
          refine ls hF hW rfl (y_assign hF rfl) (fun a w hF hW => ?_)
          refine ls_nil ?_
          refine c_then ?_
          refine c_seq ?_
          refine c_seq ?_
          refine reg_list ?_
          refine ls hF hW rfl (y_move hF rfl) (fun a w hF hW => ?_)
          refine ls hF hW rfl (y_move hF rfl) (fun a w hF hW => ?_)
          refine ls hF hW rfl (y_neq hF rfl rfl) (fun a w hF hW => ?_)
          refine ls hF hW rfl (y_move hF rfl) (fun a w hF hW => ?_)
          rcases Bool.eq_false_or_eq_true (decide ((tmul_0 x y) ≠ (if (-1125899906842624 ≤ x ∧ x ≤ 1125899906842624) ∧ (-1125899906842624 ≤ y ∧ y ≤ 1125899906842624) ∧ (-1125899906842624 ≤ (x * y) ∧ (x * y) ≤ 1125899906842624) then x * y else 0))) with hb | hb
          ·
            have c5 := of_decide_eq_true hb
            simp only [hb] at hF
            clear hb
            refine ls_skip hF (wanted_n hF rfl rfl rfl rfl rfl) rfl rfl (fun a hF => ?_)
            refine ls_skip hF (wanted_n hF rfl rfl rfl rfl rfl) rfl rfl (fun a hF => ?_)
            refine ls_skip hF (wanted_n hF rfl rfl rfl rfl rfl) rfl rfl (fun a hF => ?_)
            refine ls hF hW rfl (y_pick_t hF rfl rfl rfl) (fun a w hF hW => ?_)
            refine ls_nil ?_
            refine c_then ?_
            refine c_cond_t hF rfl ?_
            refine c_seq ?_
            refine reg_list ?_
            refine ls hF hW rfl (y_assign hF rfl) (fun a w hF hW => ?_)
            refine ls_nil ?_
            refine c_then ?_
            refine wp_ret ?_
            refine r_then ?_
            refine post1 (.inl rfl) hF hW rfl (rv_tmp hF rfl) ?_
            exact ⟨congrArg Ending.returned (vbool (show (false) = tickTells x y z by rw [tickTells, if_neg c1, if_neg c2, if_neg c3, if_neg c4, if_pos c5])), hW.frm.below⟩
          ·
            have c5 := of_decide_eq_false hb
            simp only [hb] at hF
            clear hb
            refine ls_w hF hW (wanted_y hF rfl rfl rfl rfl) rfl (Nat.le_of_ble_eq_true rfl) (y_move hF rfl) (fun a w hF hW => ?_)
            refine ls_w hF hW (wanted_y hF rfl rfl rfl rfl) rfl (Nat.le_of_ble_eq_true rfl) (y_move hF rfl) (fun a w hF hW => ?_)
            refine ls_w hF hW (wanted_y hF rfl rfl rfl rfl) rfl (Nat.le_of_ble_eq_true rfl) (y_neq hF rfl rfl) (fun a w hF hW => ?_)
            refine ls hF hW rfl (y_pick_f hF rfl rfl rfl) (fun a w hF hW => ?_)
            refine ls_nil ?_
            refine c_then ?_
            refine c_cond hF rfl (fun hb => ?_) (fun hb => ?_)
            ·
              have c6 := of_decide_eq_true hb
              simp only [hb] at hF
              clear hb
              refine c_seq ?_
              refine reg_list ?_
              refine ls hF hW rfl (y_assign hF rfl) (fun a w hF hW => ?_)
              refine ls_nil ?_
              refine c_then ?_
              refine wp_ret ?_
              refine r_then ?_
              refine post1 (.inl rfl) hF hW rfl (rv_tmp hF rfl) ?_
              exact ⟨congrArg Ending.returned (vbool (show (false) = tickTells x y z by rw [tickTells, if_neg c1, if_neg c2, if_neg c3, if_neg c4, if_neg c5, if_pos c6])), hW.frm.below⟩
            ·
              have c6 := of_decide_eq_false hb
              simp only [hb] at hF
              clear hb
              refine wp_skip ?_
              refine c_then ?_
              refine c_seq ?_
              refine reg_list ?_
              refine ls hF hW rfl (y_move hF rfl) (fun a w hF hW => ?_)
              refine ls hF hW rfl (y_call (v := Value.tuple #[Value.int IntKind.i64 (tneg_0 x), Value.int IntKind.i64 (tneg_1 x)]) hF H17 rfl (fun w _ => tneg_any x w )) (fun a w hF hW => ?_)
              refine ls hF hW rfl (y_move hF rfl) (fun a w hF hW => ?_)
              refine ls hF hW rfl (y_extract (v := Value.int IntKind.i64 (tneg_0 x)) hF rfl rfl) (fun a w hF hW => ?_)
              refine ls hF hW rfl (y_extract (v := Value.int IntKind.i64 (tneg_1 x)) hF rfl rfl) (fun a w hF hW => ?_)
              refine ls hF hW rfl (y_assign hF rfl) (fun a w hF hW => ?_)
              refine ls hF hW rfl (y_assign hF rfl) (fun a w hF hW => ?_)
              refine ls_nil ?_
              refine c_then ?_
              refine c_seq ?_
              refine reg_list ?_
              refine ls hF hW rfl (y_move hF rfl) (fun a w hF hW => ?_)
              refine ls hF hW rfl (y_call (v := Value.tuple #[Value.int IntKind.i64 (rneg_0 x), Value.int IntKind.i64 (rneg_1 x)]) hF H18 rfl (fun w _ => rneg_any x w )) (fun a w hF hW => ?_)
              refine ls hF hW rfl (y_move hF rfl) (fun a w hF hW => ?_)
              refine ls hF hW rfl (y_extract (v := Value.int IntKind.i64 (rneg_0 x)) hF rfl rfl) (fun a w hF hW => ?_)
              refine ls hF hW rfl (y_extract (v := Value.int IntKind.i64 (rneg_1 x)) hF rfl rfl) (fun a w hF hW => ?_)
              refine ls hF hW rfl (y_assign hF rfl) (fun a w hF hW => ?_)
              refine ls hF hW rfl (y_assign hF rfl) (fun a w hF hW => ?_)
              refine ls_nil ?_
              refine c_then ?_
              refine c_seq ?_
              refine c_seq ?_
              refine reg_list ?_
              refine ls hF hW rfl (y_move hF rfl) (fun a w hF hW => ?_)
              refine ls hF hW rfl (y_move hF rfl) (fun a w hF hW => ?_)
              refine ls hF hW rfl (y_neq hF rfl rfl) (fun a w hF hW => ?_)
              refine ls hF hW rfl (y_move hF rfl) (fun a w hF hW => ?_)
              rcases Bool.eq_false_or_eq_true (decide ((tneg_0 x) ≠ (rneg_0 x))) with hb | hb
              ·
                have c7 := of_decide_eq_true hb
                simp only [hb] at hF
                clear hb
                refine ls_skip hF (wanted_n hF rfl rfl rfl rfl rfl) rfl rfl (fun a hF => ?_)
                refine ls_skip hF (wanted_n hF rfl rfl rfl rfl rfl) rfl rfl (fun a hF => ?_)
                refine ls_skip hF (wanted_n hF rfl rfl rfl rfl rfl) rfl rfl (fun a hF => ?_)
                refine ls hF hW rfl (y_pick_t hF rfl rfl rfl) (fun a w hF hW => ?_)
                refine ls_nil ?_
                refine c_then ?_
                refine c_cond_t hF rfl ?_
                refine c_seq ?_
                refine reg_list ?_
                refine ls hF hW rfl (y_assign hF rfl) (fun a w hF hW => ?_)
                refine ls_nil ?_
                refine c_then ?_
                refine wp_ret ?_
                refine r_then ?_
                refine post1 (.inl rfl) hF hW rfl (rv_tmp hF rfl) ?_
                exact ⟨congrArg Ending.returned (vbool (show (false) = tickTells x y z by rw [tickTells, if_neg c1, if_neg c2, if_neg c3, if_neg c4, if_neg c5, if_neg c6, if_pos c7])), hW.frm.below⟩
              ·
                have c7 := of_decide_eq_false hb
                simp only [hb] at hF
                clear hb
                refine ls_w hF hW (wanted_y hF rfl rfl rfl rfl) rfl (Nat.le_of_ble_eq_true rfl) (y_move hF rfl) (fun a w hF hW => ?_)
                refine ls_w hF hW (wanted_y hF rfl rfl rfl rfl) rfl (Nat.le_of_ble_eq_true rfl) (y_move hF rfl) (fun a w hF hW => ?_)
                refine ls_w hF hW (wanted_y hF rfl rfl rfl rfl) rfl (Nat.le_of_ble_eq_true rfl) (y_neq hF rfl rfl) (fun a w hF hW => ?_)
                refine ls hF hW rfl (y_pick_f hF rfl rfl rfl) (fun a w hF hW => ?_)
                refine ls_nil ?_
                refine c_then ?_
                refine c_cond hF rfl (fun hb => ?_) (fun hb => ?_)
                ·
                  have c8 := of_decide_eq_true hb
                  simp only [hb] at hF
                  clear hb
                  refine c_seq ?_
                  refine reg_list ?_
                  refine ls hF hW rfl (y_assign hF rfl) (fun a w hF hW => ?_)
                  refine ls_nil ?_
                  refine c_then ?_
                  refine wp_ret ?_
                  refine r_then ?_
                  refine post1 (.inl rfl) hF hW rfl (rv_tmp hF rfl) ?_
                  exact ⟨congrArg Ending.returned (vbool (show (false) = tickTells x y z by rw [tickTells, if_neg c1, if_neg c2, if_neg c3, if_neg c4, if_neg c5, if_neg c6, if_neg c7, if_pos c8])), hW.frm.below⟩
                ·
                  have c8 := of_decide_eq_false hb
                  simp only [hb] at hF
                  clear hb
                  refine wp_skip ?_
                  refine c_then ?_
                  refine c_seq ?_
                  refine reg_list ?_
                  refine ls hF hW rfl (y_move hF rfl) (fun a w hF hW => ?_)
                  refine ls hF hW rfl (y_move hF rfl) (fun a w hF hW => ?_)
                  refine ls hF hW rfl (y_move hF rfl) (fun a w hF hW => ?_)
                  refine ls hF hW rfl (y_call (v := Value.tuple #[Value.int IntKind.i64 (tscale_0 x y z), Value.int IntKind.i64 (tscale_1 x y z)]) hF H19 rfl (fun w _ => tscale_any x y z w )) (fun a w hF hW => ?_)
                  refine ls hF hW rfl (y_move hF rfl) (fun a w hF hW => ?_)
                  refine ls hF hW rfl (y_extract (v := Value.int IntKind.i64 (tscale_0 x y z)) hF rfl rfl) (fun a w hF hW => ?_)
                  refine ls hF hW rfl (y_extract (v := Value.int IntKind.i64 (tscale_1 x y z)) hF rfl rfl) (fun a w hF hW => ?_)
                  refine ls hF hW rfl (y_assign hF rfl) (fun a w hF hW => ?_)
                  refine ls hF hW rfl (y_assign hF rfl) (fun a w hF hW => ?_)
                  refine ls_nil ?_
                  refine c_then ?_
                  refine c_seq ?_
                  refine reg_list ?_
                  refine ls hF hW rfl (y_move hF rfl) (fun a w hF hW => ?_)
                  refine ls hF hW rfl (y_move hF rfl) (fun a w hF hW => ?_)
                  refine ls hF hW rfl (y_move hF rfl) (fun a w hF hW => ?_)
                  refine ls hF hW rfl (y_call (v := Value.tuple #[Value.int IntKind.i64 (rscale_0 x y z), Value.int IntKind.i64 (rscale_1 x y z)]) hF H20 rfl (fun w _ => rscale_any x y z w )) (fun a w hF hW => ?_)
                  refine ls hF hW rfl (y_move hF rfl) (fun a w hF hW => ?_)
                  refine ls hF hW rfl (y_extract (v := Value.int IntKind.i64 (rscale_0 x y z)) hF rfl rfl) (fun a w hF hW => ?_)
                  refine ls hF hW rfl (y_extract (v := Value.int IntKind.i64 (rscale_1 x y z)) hF rfl rfl) (fun a w hF hW => ?_)
                  refine ls hF hW rfl (y_assign hF rfl) (fun a w hF hW => ?_)
                  refine ls hF hW rfl (y_assign hF rfl) (fun a w hF hW => ?_)
                  refine ls_nil ?_
                  refine c_then ?_
                  refine c_seq ?_
                  refine reg_list ?_
                  refine ls hF hW rfl (y_move hF rfl) (fun a w hF hW => ?_)
                  refine ls hF hW rfl (y_move hF rfl) (fun a w hF hW => ?_)
                  refine ls hF hW rfl (y_eql hF rfl rfl) (fun a w hF hW => ?_)
                  refine ls hF hW rfl (y_move hF rfl) (fun a w hF hW => ?_)
                  rcases Bool.eq_false_or_eq_true (decide ((tscale_0 x y z) = (rscale_0 x y z))) with hb | hb
                  ·
                    have c9 := of_decide_eq_true hb
                    simp only [hb] at hF
                    clear hb
                    refine ls_w hF hW (wanted_y hF rfl rfl rfl rfl) rfl (Nat.le_of_ble_eq_true rfl) (y_move hF rfl) (fun a w hF hW => ?_)
                    refine ls_w hF hW (wanted_y hF rfl rfl rfl rfl) rfl (Nat.le_of_ble_eq_true rfl) (y_move hF rfl) (fun a w hF hW => ?_)
                    refine ls_w hF hW (wanted_y hF rfl rfl rfl rfl) rfl (Nat.le_of_ble_eq_true rfl) (y_eql hF rfl rfl) (fun a w hF hW => ?_)
                    refine ls hF hW rfl (y_pick_t hF rfl rfl rfl) (fun a w hF hW => ?_)
                    refine ls hF hW rfl (y_move hF rfl) (fun a w hF hW => ?_)
                    rcases Bool.eq_false_or_eq_true (decide ((tscale_1 x y z) = (rscale_1 x y z))) with hb | hb
                    ·
                      have c10 := of_decide_eq_true hb
                      simp only [hb] at hF
                      clear hb
                      refine ls_w hF hW (wanted_y hF rfl rfl rfl rfl) rfl (Nat.le_of_ble_eq_true rfl) (y_move hF rfl) (fun a w hF hW => ?_)
                      refine ls_w hF hW (wanted_y hF rfl rfl rfl rfl) rfl (Nat.le_of_ble_eq_true rfl) (y_call (v := Value.int IntKind.i64 (clamp x)) hF H21 rfl (fun w _ => clamp_any x w )) (fun a w hF hW => ?_)
                      refine ls_w hF hW (wanted_y hF rfl rfl rfl rfl) rfl (Nat.le_of_ble_eq_true rfl) (y_move hF rfl) (fun a w hF hW => ?_)
                      refine ls_w hF hW (wanted_y hF rfl rfl rfl rfl) rfl (Nat.le_of_ble_eq_true rfl) (y_call (v := Value.int IntKind.i64 (rclamp x)) hF H22 rfl (fun w _ => rclamp_any x w )) (fun a w hF hW => ?_)
                      refine ls_w hF hW (wanted_y hF rfl rfl rfl rfl) rfl (Nat.le_of_ble_eq_true rfl) (y_eql hF rfl rfl) (fun a w hF hW => ?_)
                      refine ls hF hW rfl (y_pick_t hF rfl rfl rfl) (fun a w hF hW => ?_)
                      refine ls hF hW rfl (y_move hF rfl) (fun a w hF hW => ?_)
                      rcases Bool.eq_false_or_eq_true (decide ((clamp x) = (rclamp x))) with hb | hb
                      ·
                        have c11 := of_decide_eq_true hb
                        simp only [hb] at hF
                        clear hb
                        refine ls_w hF hW (wanted_y hF rfl rfl rfl rfl) rfl (Nat.le_of_ble_eq_true rfl) (y_call (v := Value.bool awake1) hF H23 rfl (fun w _ => awake1_any  w )) (fun a w hF hW => ?_)
                        refine ls hF hW rfl (y_pick_t hF rfl rfl rfl) (fun a w hF hW => ?_)
                        refine ls hF hW rfl (y_assign hF rfl) (fun a w hF hW => ?_)
                        refine ls_nil ?_
                        refine c_then ?_
                        refine wp_ret ?_
                        refine post1 (.inl rfl) hF hW rfl (rv_tmp hF rfl) ?_
                        exact ⟨congrArg Ending.returned (vbool (show (awake1) = tickTells x y z by rw [tickTells, if_neg c1, if_neg c2, if_neg c3, if_neg c4, if_neg c5, if_neg c6, if_neg c7, if_neg c8, if_pos c9, if_pos c10, if_pos c11])), hW.frm.below⟩
                      ·
                        have c11 := of_decide_eq_false hb
                        simp only [hb] at hF
                        clear hb
                        refine ls_skip hF (wanted_n hF rfl rfl rfl rfl rfl) rfl rfl (fun a hF => ?_)
                        refine ls hF hW rfl (y_pick_f hF rfl rfl rfl) (fun a w hF hW => ?_)
                        refine ls hF hW rfl (y_assign hF rfl) (fun a w hF hW => ?_)
                        refine ls_nil ?_
                        refine c_then ?_
                        refine wp_ret ?_
                        refine post1 (.inl rfl) hF hW rfl (rv_tmp hF rfl) ?_
                        exact ⟨congrArg Ending.returned (vbool (show (false) = tickTells x y z by rw [tickTells, if_neg c1, if_neg c2, if_neg c3, if_neg c4, if_neg c5, if_neg c6, if_neg c7, if_neg c8, if_pos c9, if_pos c10, if_neg c11])), hW.frm.below⟩
                    ·
                      have c10 := of_decide_eq_false hb
                      simp only [hb] at hF
                      clear hb
                      refine ls_skip hF (wanted_n hF rfl rfl rfl rfl rfl) rfl rfl (fun a hF => ?_)
                      refine ls_skip hF (wanted_n hF rfl rfl rfl rfl rfl) rfl rfl (fun a hF => ?_)
                      refine ls_skip hF (wanted_n hF rfl rfl rfl rfl rfl) rfl rfl (fun a hF => ?_)
                      refine ls_skip hF (wanted_n hF rfl rfl rfl rfl rfl) rfl rfl (fun a hF => ?_)
                      refine ls_skip hF (wanted_n hF rfl rfl rfl rfl rfl) rfl rfl (fun a hF => ?_)
                      refine ls hF hW rfl (y_pick_f hF rfl rfl rfl) (fun a w hF hW => ?_)
                      refine ls hF hW rfl (y_move hF rfl) (fun a w hF hW => ?_)
                      refine ls_skip hF (wanted_n hF rfl rfl rfl rfl rfl) rfl rfl (fun a hF => ?_)
                      refine ls hF hW rfl (y_pick_f hF rfl rfl rfl) (fun a w hF hW => ?_)
                      refine ls hF hW rfl (y_assign hF rfl) (fun a w hF hW => ?_)
                      refine ls_nil ?_
                      refine c_then ?_
                      refine wp_ret ?_
                      refine post1 (.inl rfl) hF hW rfl (rv_tmp hF rfl) ?_
                      exact ⟨congrArg Ending.returned (vbool (show (false) = tickTells x y z by rw [tickTells, if_neg c1, if_neg c2, if_neg c3, if_neg c4, if_neg c5, if_neg c6, if_neg c7, if_neg c8, if_pos c9, if_neg c10])), hW.frm.below⟩
                  ·
                    have c9 := of_decide_eq_false hb
                    simp only [hb] at hF
                    clear hb
                    refine ls_skip hF (wanted_n hF rfl rfl rfl rfl rfl) rfl rfl (fun a hF => ?_)
                    refine ls_skip hF (wanted_n hF rfl rfl rfl rfl rfl) rfl rfl (fun a hF => ?_)
                    refine ls_skip hF (wanted_n hF rfl rfl rfl rfl rfl) rfl rfl (fun a hF => ?_)
                    refine ls hF hW rfl (y_pick_f hF rfl rfl rfl) (fun a w hF hW => ?_)
                    refine ls hF hW rfl (y_move hF rfl) (fun a w hF hW => ?_)
                    refine ls_skip hF (wanted_n hF rfl rfl rfl rfl rfl) rfl rfl (fun a hF => ?_)
                    refine ls_skip hF (wanted_n hF rfl rfl rfl rfl rfl) rfl rfl (fun a hF => ?_)
                    refine ls_skip hF (wanted_n hF rfl rfl rfl rfl rfl) rfl rfl (fun a hF => ?_)
                    refine ls_skip hF (wanted_n hF rfl rfl rfl rfl rfl) rfl rfl (fun a hF => ?_)
                    refine ls_skip hF (wanted_n hF rfl rfl rfl rfl rfl) rfl rfl (fun a hF => ?_)
                    refine ls hF hW rfl (y_pick_f hF rfl rfl rfl) (fun a w hF hW => ?_)
                    refine ls hF hW rfl (y_move hF rfl) (fun a w hF hW => ?_)
                    refine ls_skip hF (wanted_n hF rfl rfl rfl rfl rfl) rfl rfl (fun a hF => ?_)
                    refine ls hF hW rfl (y_pick_f hF rfl rfl rfl) (fun a w hF hW => ?_)
                    refine ls hF hW rfl (y_assign hF rfl) (fun a w hF hW => ?_)
                    refine ls_nil ?_
                    refine c_then ?_
                    refine wp_ret ?_
                    refine post1 (.inl rfl) hF hW rfl (rv_tmp hF rfl) ?_
                    exact ⟨congrArg Ending.returned (vbool (show (false) = tickTells x y z by rw [tickTells, if_neg c1, if_neg c2, if_neg c3, if_neg c4, if_neg c5, if_neg c6, if_neg c7, if_neg c8, if_neg c9])), hW.frm.below⟩

end Go.Proofs.Ytcnhmbjkippnnaa
