/- The walks of layer 1. -/
import Derived.Test.YtcnhmbjkippnnaaA4
namespace Go.Proofs.Ytcnhmbjkippnnaa
open Go Go.RowKit
set_option linter.unusedVariables false
theorem H13 : Has Try.prog 13 := ⟨fun args w => run_callFunc_body Try.func13 rfl (by decide) args w⟩
theorem H15 : Has Try.prog 15 := ⟨fun args w => run_callFunc_body Try.func15 rfl (by decide) args w⟩
theorem H17 : Has Try.prog 17 := ⟨fun args w => run_callFunc_body Try.func17 rfl (by decide) args w⟩
theorem H23 : Has Try.prog 23 := ⟨fun args w => run_callFunc_body Try.func23 rfl (by decide) args w⟩
def tickBack (x : Int) (y : Int) : Bool := if (tmul_0 x y) ≠ (tmul_0 y x) then false else if (tmul_1 x y) ≠ (tmul_1 y x) then false else if (tadd_0 x y) < (-1125899906842624) then false else if 1125899906842624 < (tadd_0 x y) then false else if (tmul_0 x y) < (-1125899906842624) then false else if 1125899906842624 < (tmul_0 x y) then false else if (tadd_1 x y) ≠ 0 then if (tadd_0 x y) ≠ 0 then false else if (tmul_1 x y) ≠ 0 then if (tmul_0 x y) ≠ 0 then false else if (tadd_1 x y) ≠ 0 then if (tadd_1 x y) = 11 then awake1 else false else if (tsub_0 (tadd_0 x y) y) = x then if (tsub_1 (tadd_0 x y) y) = 0 then if (tneg_1 y) = 0 then if (tadd_0 (tadd_0 x y) (tneg_0 y)) = x then if (tadd_1 (tadd_0 x y) (tneg_0 y)) = 0 then awake1 else false else false else false else false else false else if (tadd_1 x y) ≠ 0 then if (tadd_1 x y) = 11 then awake1 else false else if (tsub_0 (tadd_0 x y) y) = x then if (tsub_1 (tadd_0 x y) y) = 0 then if (tneg_1 y) = 0 then if (tadd_0 (tadd_0 x y) (tneg_0 y)) = x then if (tadd_1 (tadd_0 x y) (tneg_0 y)) = 0 then awake1 else false else false else false else false else false else if (tmul_1 x y) ≠ 0 then if (tmul_0 x y) ≠ 0 then false else if (tadd_1 x y) ≠ 0 then if (tadd_1 x y) = 11 then awake1 else false else if (tsub_0 (tadd_0 x y) y) = x then if (tsub_1 (tadd_0 x y) y) = 0 then if (tneg_1 y) = 0 then if (tadd_0 (tadd_0 x y) (tneg_0 y)) = x then if (tadd_1 (tadd_0 x y) (tneg_0 y)) = 0 then awake1 else false else false else false else false else false else if (tadd_1 x y) ≠ 0 then if (tadd_1 x y) = 11 then awake1 else false else if (tsub_0 (tadd_0 x y) y) = x then if (tsub_1 (tadd_0 x y) y) = 0 then if (tneg_1 y) = 0 then if (tadd_0 (tadd_0 x y) (tneg_0 y)) = x then if (tadd_1 (tadd_0 x y) (tneg_0 y)) = 0 then awake1 else false else false else false else false else false
theorem tickBack_any (x : Int) (y : Int) (w : World) (hx1 : -9223372036854775808 ≤ x) (hx2 : x ≤ 9223372036854775807) (hy1 : -9223372036854775808 ≤ y) (hy2 : y ≤ 9223372036854775807) :
    Calls Try.prog 4 #[Value.int IntKind.i64 x, Value.int IntKind.i64 y] w fun e w' => e = .returned (Value.bool (tickBack x y)) ∧ Below w.heap.size w w' := by
  refine enter Try.func4 rfl Try.ntmps4 rfl (fun a hF => ?_)
  have hW := Stw.start w
  refine c_seq ?_
  refine reg_list ?_
  refine ls hF hW rfl (y_assign hF rfl) (fun a w hF hW => ?_)
  refine ls_nil ?_
  refine c_then ?_
  refine c_seq ?_
  refine reg_list ?_
  refine ls hF hW rfl (y_move hF rfl) (fun a w hF hW => ?_)
  refine ls hF hW rfl (y_move hF rfl) (fun a w hF hW => ?_)
  refine ls hF hW rfl (y_call (v := Value.tuple #[Value.int IntKind.i64 (tadd_0 x y), Value.int IntKind.i64 (tadd_1 x y)]) hF H11 rfl (fun w _ => tadd_any x y w )) (fun a w hF hW => ?_)
  refine ls hF hW rfl (y_move hF rfl) (fun a w hF hW => ?_)
  refine ls hF hW rfl (y_extract (v := Value.int IntKind.i64 (tadd_0 x y)) hF rfl rfl) (fun a w hF hW => ?_)
  refine ls hF hW rfl (y_extract (v := Value.int IntKind.i64 (tadd_1 x y)) hF rfl rfl) (fun a w hF hW => ?_)
  refine ls hF hW rfl (y_assign hF rfl) (fun a w hF hW => ?_)
  refine ls hF hW rfl (y_assign hF rfl) (fun a w hF hW => ?_)
  refine ls_nil ?_
  refine c_then ?_
  refine c_seq ?_
  refine reg_list ?_
  refine ls hF hW rfl (y_move hF rfl) (fun a w hF hW => ?_)
  refine ls hF hW rfl (y_move hF rfl) (fun a w hF hW => ?_)
  refine ls hF hW rfl (y_call (v := Value.tuple #[Value.int IntKind.i64 (tmul_0 x y), Value.int IntKind.i64 (tmul_1 x y)]) hF H15 rfl (fun w _ => tmul_any x y w )) (fun a w hF hW => ?_)
  refine ls hF hW rfl (y_move hF rfl) (fun a w hF hW => ?_)
  refine ls hF hW rfl (y_extract (v := Value.int IntKind.i64 (tmul_0 x y)) hF rfl rfl) (fun a w hF hW => ?_)
  refine ls hF hW rfl (y_extract (v := Value.int IntKind.i64 (tmul_1 x y)) hF rfl rfl) (fun a w hF hW => ?_)
  refine ls hF hW rfl (y_assign hF rfl) (fun a w hF hW => ?_)
  refine ls hF hW rfl (y_assign hF rfl) (fun a w hF hW => ?_)
  refine ls_nil ?_
  refine c_then ?_
  refine c_seq ?_
  refine reg_list ?_
  refine ls hF hW rfl (y_move hF rfl) (fun a w hF hW => ?_)
  refine ls hF hW rfl (y_move hF rfl) (fun a w hF hW => ?_)
  refine ls hF hW rfl (y_call (v := Value.tuple #[Value.int IntKind.i64 (tmul_0 y x), Value.int IntKind.i64 (tmul_1 y x)]) hF H15 rfl (fun w _ => tmul_any y x w )) (fun a w hF hW => ?_)
  refine ls hF hW rfl (y_move hF rfl) (fun a w hF hW => ?_)
  refine ls hF hW rfl (y_extract (v := Value.int IntKind.i64 (tmul_0 y x)) hF rfl rfl) (fun a w hF hW => ?_)
  refine ls hF hW rfl (y_extract (v := Value.int IntKind.i64 (tmul_1 y x)) hF rfl rfl) (fun a w hF hW => ?_)
  refine ls hF hW rfl (y_assign hF rfl) (fun a w hF hW => ?_)
  refine ls hF hW rfl (y_assign hF rfl) (fun a w hF hW => ?_)
  refine ls_nil ?_
  refine c_then ?_
  refine c_seq ?_
  refine c_seq ?_
  refine reg_list ?_
  refine ls hF hW rfl (y_move hF rfl) (fun a w hF hW => ?_)
  refine ls hF hW rfl (y_move hF rfl) (fun a w hF hW => ?_)
  refine ls hF hW rfl (y_neq hF rfl rfl) (fun a w hF hW => ?_)
  refine ls hF hW rfl (y_move hF rfl) (fun a w hF hW => ?_)
  rcases Bool.eq_false_or_eq_true (decide ((tmul_0 x y) ≠ (tmul_0 y x))) with hb | hb
  ·
    have c1 := of_decide_eq_true hb
    simp only [hb] at hF
    clear hb
    refine ls_skip hF (wanted_n hF rfl rfl rfl rfl rfl) rfl rfl (fun a hF => ?_)
    refine ls_skip hF (wanted_n hF rfl rfl rfl rfl rfl) rfl rfl (fun a hF => ?_)
    refine ls_skip hF (wanted_n hF rfl rfl rfl rfl rfl) rfl rfl (fun a hF => ?_)
    refine ls hF hW rfl (y_pick_t hF rfl rfl rfl) (fun a w hF hW => ?_)
    refine ls hF hW rfl (y_move hF rfl) (fun a w hF hW => ?_)
    refine ls_skip hF (wanted_n hF rfl rfl rfl rfl rfl) rfl rfl (fun a hF => ?_)
    refine ls_skip hF (wanted_n hF rfl rfl rfl rfl rfl) rfl rfl (fun a hF => ?_)
    refine ls hF hW rfl (y_pick_t hF rfl rfl rfl) (fun a w hF hW => ?_)
    refine ls hF hW rfl (y_move hF rfl) (fun a w hF hW => ?_)
    refine ls_skip hF (wanted_n hF rfl rfl rfl rfl rfl) rfl rfl (fun a hF => ?_)
    refine ls_skip hF (wanted_n hF rfl rfl rfl rfl rfl) rfl rfl (fun a hF => ?_)
    refine ls hF hW rfl (y_pick_t hF rfl rfl rfl) (fun a w hF hW => ?_)
    refine ls hF hW rfl (y_move hF rfl) (fun a w hF hW => ?_)
    refine ls_skip hF (wanted_n hF rfl rfl rfl rfl rfl) rfl rfl (fun a hF => ?_)
    refine ls_skip hF (wanted_n hF rfl rfl rfl rfl rfl) rfl rfl (fun a hF => ?_)
    refine ls hF hW rfl (y_pick_t hF rfl rfl rfl) (fun a w hF hW => ?_)
    refine ls hF hW rfl (y_move hF rfl) (fun a w hF hW => ?_)
    refine ls_skip hF (wanted_n hF rfl rfl rfl rfl rfl) rfl rfl (fun a hF => ?_)
    refine ls_skip hF (wanted_n hF rfl rfl rfl rfl rfl) rfl rfl (fun a hF => ?_)
    refine ls hF hW rfl (y_pick_t hF rfl rfl rfl) (fun a w hF hW => ?_)
    refine ls hF hW rfl (y_move hF rfl) (fun a w hF hW => ?_)
    refine ls_skip hF (wanted_n hF rfl rfl rfl rfl rfl) rfl rfl (fun a hF => ?_)
    refine ls_skip hF (wanted_n hF rfl rfl rfl rfl rfl) rfl rfl (fun a hF => ?_)
    refine ls_skip hF (wanted_n hF rfl rfl rfl rfl rfl) rfl rfl (fun a hF => ?_)
    refine ls_skip hF (wanted_undef hF rfl rfl rfl rfl) rfl rfl (fun a hF => ?_)
    refine ls_skip hF (wanted_undef hF rfl rfl rfl rfl) rfl rfl (fun a hF => ?_)
    refine ls_skip hF (wanted_n hF rfl rfl rfl rfl rfl) rfl rfl (fun a hF => ?_)
    refine ls hF hW rfl (y_pick_t hF rfl rfl rfl) (fun a w hF hW => ?_)
    refine ls hF hW rfl (y_move hF rfl) (fun a w hF hW => ?_)
    refine ls_skip hF (wanted_n hF rfl rfl rfl rfl rfl) rfl rfl (fun a hF => ?_)
    refine ls_skip hF (wanted_n hF rfl rfl rfl rfl rfl) rfl rfl (fun a hF => ?_)
    refine ls_skip hF (wanted_n hF rfl rfl rfl rfl rfl) rfl rfl (fun a hF => ?_)
    refine ls_skip hF (wanted_undef hF rfl rfl rfl rfl) rfl rfl (fun a hF => ?_)
    refine ls_skip hF (wanted_undef hF rfl rfl rfl rfl) rfl rfl (fun a hF => ?_)
    refine ls_skip hF (wanted_n hF rfl rfl rfl rfl rfl) rfl rfl (fun a hF => ?_)
    refine ls hF hW rfl (y_pick_t hF rfl rfl rfl) (fun a w hF hW => ?_)
    refine ls_nil ?_
    refine c_then ?_
    refine c_cond_t hF rfl ?_
    refine c_seq ?_
    refine reg_list ?_
    refine ls hF hW rfl (y_assign hF rfl) (fun a w hF hW => ?_)
    refine ls_nil ?_
    refine c_then ?_
    refine wp_ret ?_
    refine r_then ?_
    refine post1 (.inl rfl) hF hW rfl (rv_tmp hF rfl) ?_
    exact ⟨congrArg Ending.returned (vbool (show (false) = tickBack x y by rw [tickBack, if_pos c1])), hW.frm.below⟩
  ·
    have c1 := of_decide_eq_false hb
    simp only [hb] at hF
    clear hb
    refine ls_w hF hW (wanted_y hF rfl rfl rfl rfl) rfl (Nat.le_of_ble_eq_true rfl) (y_move hF rfl) (fun a w hF hW => ?_)
    refine ls_w hF hW (wanted_y hF rfl rfl rfl rfl) rfl (Nat.le_of_ble_eq_true rfl) (y_move hF rfl) (fun a w hF hW => ?_)
    refine ls_w hF hW (wanted_y hF rfl rfl rfl rfl) rfl (Nat.le_of_ble_eq_true rfl) (y_neq hF rfl rfl) (fun a w hF hW => ?_)
    refine ls hF hW rfl (y_pick_f hF rfl rfl rfl) (fun a w hF hW => ?_)
    refine ls hF hW rfl (y_move hF rfl) (fun a w hF hW => ?_)
    rcases Bool.eq_false_or_eq_true (decide ((tmul_1 x y) ≠ (tmul_1 y x))) with hb | hb
    ·
      have c2 := of_decide_eq_true hb
      simp only [hb] at hF
      clear hb
      refine ls_skip hF (wanted_n hF rfl rfl rfl rfl rfl) rfl rfl (fun a hF => ?_)
      refine ls_skip hF (wanted_n hF rfl rfl rfl rfl rfl) rfl rfl (fun a hF => ?_)
      refine ls hF hW rfl (y_pick_t hF rfl rfl rfl) (fun a w hF hW => ?_)
      refine ls hF hW rfl (y_move hF rfl) (fun a w hF hW => ?_)
      refine ls_skip hF (wanted_n hF rfl rfl rfl rfl rfl) rfl rfl (fun a hF => ?_)
      refine ls_skip hF (wanted_n hF rfl rfl rfl rfl rfl) rfl rfl (fun a hF => ?_)
      refine ls hF hW rfl (y_pick_t hF rfl rfl rfl) (fun a w hF hW => ?_)
      refine ls hF hW rfl (y_move hF rfl) (fun a w hF hW => ?_)
      refine ls_skip hF (wanted_n hF rfl rfl rfl rfl rfl) rfl rfl (fun a hF => ?_)
      refine ls_skip hF (wanted_n hF rfl rfl rfl rfl rfl) rfl rfl (fun a hF => ?_)
      refine ls hF hW rfl (y_pick_t hF rfl rfl rfl) (fun a w hF hW => ?_)
      refine ls hF hW rfl (y_move hF rfl) (fun a w hF hW => ?_)
      refine ls_skip hF (wanted_n hF rfl rfl rfl rfl rfl) rfl rfl (fun a hF => ?_)
      refine ls_skip hF (wanted_n hF rfl rfl rfl rfl rfl) rfl rfl (fun a hF => ?_)
      refine ls hF hW rfl (y_pick_t hF rfl rfl rfl) (fun a w hF hW => ?_)
      refine ls hF hW rfl (y_move hF rfl) (fun a w hF hW => ?_)
      refine ls_skip hF (wanted_n hF rfl rfl rfl rfl rfl) rfl rfl (fun a hF => ?_)
      refine ls_skip hF (wanted_n hF rfl rfl rfl rfl rfl) rfl rfl (fun a hF => ?_)
      refine ls_skip hF (wanted_n hF rfl rfl rfl rfl rfl) rfl rfl (fun a hF => ?_)
      refine ls_skip hF (wanted_undef hF rfl rfl rfl rfl) rfl rfl (fun a hF => ?_)
      refine ls_skip hF (wanted_undef hF rfl rfl rfl rfl) rfl rfl (fun a hF => ?_)
      refine ls_skip hF (wanted_n hF rfl rfl rfl rfl rfl) rfl rfl (fun a hF => ?_)
      refine ls hF hW rfl (y_pick_t hF rfl rfl rfl) (fun a w hF hW => ?_)
      refine ls hF hW rfl (y_move hF rfl) (fun a w hF hW => ?_)
      refine ls_skip hF (wanted_n hF rfl rfl rfl rfl rfl) rfl rfl (fun a hF => ?_)
      refine ls_skip hF (wanted_n hF rfl rfl rfl rfl rfl) rfl rfl (fun a hF => ?_)
      refine ls_skip hF (wanted_n hF rfl rfl rfl rfl rfl) rfl rfl (fun a hF => ?_)
      refine ls_skip hF (wanted_undef hF rfl rfl rfl rfl) rfl rfl (fun a hF => ?_)
      refine ls_skip hF (wanted_undef hF rfl rfl rfl rfl) rfl rfl (fun a hF => ?_)
      refine ls_skip hF (wanted_n hF rfl rfl rfl rfl rfl) rfl rfl (fun a hF => ?_)
      refine ls hF hW rfl (y_pick_t hF rfl rfl rfl) (fun a w hF hW => ?_)
      refine ls_nil ?_
      refine c_then ?_
      refine c_cond_t hF rfl ?_
      refine c_seq ?_
      refine reg_list ?_
      refine ls hF hW rfl (y_assign hF rfl) (fun a w hF hW => ?_)
      refine ls_nil ?_
      refine c_then ?_
      refine wp_ret ?_
      refine r_then ?_
      refine post1 (.inl rfl) hF hW rfl (rv_tmp hF rfl) ?_
      exact ⟨congrArg Ending.returned (vbool (show (false) = tickBack x y by rw [tickBack, if_neg c1, if_pos c2])), hW.frm.below⟩
    ·
      have c2 := of_decide_eq_false hb
      simp only [hb] at hF
      clear hb
      refine ls_w hF hW (wanted_y hF rfl rfl rfl rfl) rfl (Nat.le_of_ble_eq_true rfl) (y_move hF rfl) (fun a w hF hW => ?_)
      refine ls_w hF hW (wanted_y hF rfl rfl rfl rfl) rfl (Nat.le_of_ble_eq_true rfl) (y_lss hF rfl rfl) (fun a w hF hW => ?_)
      refine ls hF hW rfl (y_pick_f hF rfl rfl rfl) (fun a w hF hW => ?_)
      refine ls hF hW rfl (y_move hF rfl) (fun a w hF hW => ?_)
      rcases Bool.eq_false_or_eq_true (decide ((tadd_0 x y) < (-1125899906842624))) with hb | hb
      ·
        have c3 := of_decide_eq_true hb
        simp only [hb] at hF
        clear hb
        refine ls_skip hF (wanted_n hF rfl rfl rfl rfl rfl) rfl rfl (fun a hF => ?_)
        refine ls_skip hF (wanted_n hF rfl rfl rfl rfl rfl) rfl rfl (fun a hF => ?_)
        refine ls hF hW rfl (y_pick_t hF rfl rfl rfl) (fun a w hF hW => ?_)
        refine ls hF hW rfl (y_move hF rfl) (fun a w hF hW => ?_)
        refine ls_skip hF (wanted_n hF rfl rfl rfl rfl rfl) rfl rfl (fun a hF => ?_)
        refine ls_skip hF (wanted_n hF rfl rfl rfl rfl rfl) rfl rfl (fun a hF => ?_)
        refine ls hF hW rfl (y_pick_t hF rfl rfl rfl) (fun a w hF hW => ?_)
        refine ls hF hW rfl (y_move hF rfl) (fun a w hF hW => ?_)
        refine ls_skip hF (wanted_n hF rfl rfl rfl rfl rfl) rfl rfl (fun a hF => ?_)
        refine ls_skip hF (wanted_n hF rfl rfl rfl rfl rfl) rfl rfl (fun a hF => ?_)
        refine ls hF hW rfl (y_pick_t hF rfl rfl rfl) (fun a w hF hW => ?_)
        refine ls hF hW rfl (y_move hF rfl) (fun a w hF hW => ?_)
        refine ls_skip hF (wanted_n hF rfl rfl rfl rfl rfl) rfl rfl (fun a hF => ?_)
        refine ls_skip hF (wanted_n hF rfl rfl rfl rfl rfl) rfl rfl (fun a hF => ?_)
        refine ls_skip hF (wanted_n hF rfl rfl rfl rfl rfl) rfl rfl (fun a hF => ?_)
        refine ls_skip hF (wanted_undef hF rfl rfl rfl rfl) rfl rfl (fun a hF => ?_)
        refine ls_skip hF (wanted_undef hF rfl rfl rfl rfl) rfl rfl (fun a hF => ?_)
        refine ls_skip hF (wanted_n hF rfl rfl rfl rfl rfl) rfl rfl (fun a hF => ?_)
        refine ls hF hW rfl (y_pick_t hF rfl rfl rfl) (fun a w hF hW => ?_)
        refine ls hF hW rfl (y_move hF rfl) (fun a w hF hW => ?_)
        refine ls_skip hF (wanted_n hF rfl rfl rfl rfl rfl) rfl rfl (fun a hF => ?_)
        refine ls_skip hF (wanted_n hF rfl rfl rfl rfl rfl) rfl rfl (fun a hF => ?_)
        refine ls_skip hF (wanted_n hF rfl rfl rfl rfl rfl) rfl rfl (fun a hF => ?_)
        refine ls_skip hF (wanted_undef hF rfl rfl rfl rfl) rfl rfl (fun a hF => ?_)
        refine ls_skip hF (wanted_undef hF rfl rfl rfl rfl) rfl rfl (fun a hF => ?_)
        refine ls_skip hF (wanted_n hF rfl rfl rfl rfl rfl) rfl rfl (fun a hF => ?_)
        refine ls hF hW rfl (y_pick_t hF rfl rfl rfl) (fun a w hF hW => ?_)
        refine ls_nil ?_
        refine c_then ?_
        refine c_cond_t hF rfl ?_
        refine c_seq ?_
        refine reg_list ?_
        refine ls hF hW rfl (y_assign hF rfl) (fun a w hF hW => ?_)
        refine ls_nil ?_
        refine c_then ?_
        refine wp_ret ?_
        refine r_then ?_
        refine post1 (.inl rfl) hF hW rfl (rv_tmp hF rfl) ?_
        exact ⟨congrArg Ending.returned (vbool (show (false) = tickBack x y by rw [tickBack, if_neg c1, if_neg c2, if_pos c3])), hW.frm.below⟩
      ·
        have c3 := of_decide_eq_false hb
        simp only [hb] at hF
        clear hb
        refine ls_w hF hW (wanted_y hF rfl rfl rfl rfl) rfl (Nat.le_of_ble_eq_true rfl) (y_move hF rfl) (fun a w hF hW => ?_)
        refine ls_w hF hW (wanted_y hF rfl rfl rfl rfl) rfl (Nat.le_of_ble_eq_true rfl) (y_gtr hF rfl rfl) (fun a w hF hW => ?_)
        refine ls hF hW rfl (y_pick_f hF rfl rfl rfl) (fun a w hF hW => ?_)
        refine ls hF hW rfl (y_move hF rfl) (fun a w hF hW => ?_)
        rcases Bool.eq_false_or_eq_true (decide (1125899906842624 < (tadd_0 x y))) with hb | hb
        ·
          have c4 := of_decide_eq_true hb
          simp only [hb] at hF
          clear hb
          refine ls_skip hF (wanted_n hF rfl rfl rfl rfl rfl) rfl rfl (fun a hF => ?_)
          refine ls_skip hF (wanted_n hF rfl rfl rfl rfl rfl) rfl rfl (fun a hF => ?_)
          refine ls hF hW rfl (y_pick_t hF rfl rfl rfl) (fun a w hF hW => ?_)
          refine ls hF hW rfl (y_move hF rfl) (fun a w hF hW => ?_)
          refine ls_skip hF (wanted_n hF rfl rfl rfl rfl rfl) rfl rfl (fun a hF => ?_)
          refine ls_skip hF (wanted_n hF rfl rfl rfl rfl rfl) rfl rfl (fun a hF => ?_)
          refine ls hF hW rfl (y_pick_t hF rfl rfl rfl) (fun a w hF hW => ?_)
          refine ls hF hW rfl (y_move hF rfl) (fun a w hF hW => ?_)
          refine ls_skip hF (wanted_n hF rfl rfl rfl rfl rfl) rfl rfl (fun a hF => ?_)
          refine ls_skip hF (wanted_n hF rfl rfl rfl rfl rfl) rfl rfl (fun a hF => ?_)
          refine ls_skip hF (wanted_n hF rfl rfl rfl rfl rfl) rfl rfl (fun a hF => ?_)
          refine ls_skip hF (wanted_undef hF rfl rfl rfl rfl) rfl rfl (fun a hF => ?_)
          refine ls_skip hF (wanted_undef hF rfl rfl rfl rfl) rfl rfl (fun a hF => ?_)
          refine ls_skip hF (wanted_n hF rfl rfl rfl rfl rfl) rfl rfl (fun a hF => ?_)
          refine ls hF hW rfl (y_pick_t hF rfl rfl rfl) (fun a w hF hW => ?_)
          refine ls hF hW rfl (y_move hF rfl) (fun a w hF hW => ?_)
          refine ls_skip hF (wanted_n hF rfl rfl rfl rfl rfl) rfl rfl (fun a hF => ?_)
          refine ls_skip hF (wanted_n hF rfl rfl rfl rfl rfl) rfl rfl (fun a hF => ?_)
          refine ls_skip hF (wanted_n hF rfl rfl rfl rfl rfl) rfl rfl (fun a hF => ?_)
          refine ls_skip hF (wanted_undef hF rfl rfl rfl rfl) rfl rfl (fun a hF => ?_)
          refine ls_skip hF (wanted_undef hF rfl rfl rfl rfl) rfl rfl (fun a hF => ?_)
          refine ls_skip hF (wanted_n hF rfl rfl rfl rfl rfl) rfl rfl (fun a hF => ?_)
          refine ls hF hW rfl (y_pick_t hF rfl rfl rfl) (fun a w hF hW => ?_)
          refine ls_nil ?_
          refine c_then ?_
          refine c_cond_t hF rfl ?_
          refine c_seq ?_
          refine reg_list ?_
          refine ls hF hW rfl (y_assign hF rfl) (fun a w hF hW => ?_)
          refine ls_nil ?_
          refine c_then ?_
          refine wp_ret ?_
          refine r_then ?_
          refine post1 (.inl rfl) hF hW rfl (rv_tmp hF rfl) ?_
          exact ⟨congrArg Ending.returned (vbool (show (false) = tickBack x y by rw [tickBack, if_neg c1, if_neg c2, if_neg c3, if_pos c4])), hW.frm.below⟩
        ·
          have c4 := of_decide_eq_false hb
          simp only [hb] at hF
          clear hb
          refine ls_w hF hW (wanted_y hF rfl rfl rfl rfl) rfl (Nat.le_of_ble_eq_true rfl) (y_move hF rfl) (fun a w hF hW => ?_)
          refine ls_w hF hW (wanted_y hF rfl rfl rfl rfl) rfl (Nat.le_of_ble_eq_true rfl) (y_lss hF rfl rfl) (fun a w hF hW => ?_)
          refine ls hF hW rfl (y_pick_f hF rfl rfl rfl) (fun a w hF hW => ?_)
          refine ls hF hW rfl (y_move hF rfl) (fun a w hF hW => ?_)
          rcases Bool.eq_false_or_eq_true (decide ((tmul_0 x y) < (-1125899906842624))) with hb | hb
          ·
            have c5 := of_decide_eq_true hb
            simp only [hb] at hF
            clear hb
            refine ls_skip hF (wanted_n hF rfl rfl rfl rfl rfl) rfl rfl (fun a hF => ?_)
            refine ls_skip hF (wanted_n hF rfl rfl rfl rfl rfl) rfl rfl (fun a hF => ?_)
            refine ls hF hW rfl (y_pick_t hF rfl rfl rfl) (fun a w hF hW => ?_)
            refine ls hF hW rfl (y_move hF rfl) (fun a w hF hW => ?_)
            refine ls_skip hF (wanted_n hF rfl rfl rfl rfl rfl) rfl rfl (fun a hF => ?_)
            refine ls_skip hF (wanted_n hF rfl rfl rfl rfl rfl) rfl rfl (fun a hF => ?_)
            refine ls_skip hF (wanted_n hF rfl rfl rfl rfl rfl) rfl rfl (fun a hF => ?_)
            refine ls_skip hF (wanted_undef hF rfl rfl rfl rfl) rfl rfl (fun a hF => ?_)
            refine ls_skip hF (wanted_undef hF rfl rfl rfl rfl) rfl rfl (fun a hF => ?_)
            refine ls_skip hF (wanted_n hF rfl rfl rfl rfl rfl) rfl rfl (fun a hF => ?_)
            refine ls hF hW rfl (y_pick_t hF rfl rfl rfl) (fun a w hF hW => ?_)
            refine ls hF hW rfl (y_move hF rfl) (fun a w hF hW => ?_)
            refine ls_skip hF (wanted_n hF rfl rfl rfl rfl rfl) rfl rfl (fun a hF => ?_)
            refine ls_skip hF (wanted_n hF rfl rfl rfl rfl rfl) rfl rfl (fun a hF => ?_)
            refine ls_skip hF (wanted_n hF rfl rfl rfl rfl rfl) rfl rfl (fun a hF => ?_)
            refine ls_skip hF (wanted_undef hF rfl rfl rfl rfl) rfl rfl (fun a hF => ?_)
            refine ls_skip hF (wanted_undef hF rfl rfl rfl rfl) rfl rfl (fun a hF => ?_)
            refine ls_skip hF (wanted_n hF rfl rfl rfl rfl rfl) rfl rfl (fun a hF => ?_)
            refine ls hF hW rfl (y_pick_t hF rfl rfl rfl) (fun a w hF hW => ?_)
            refine ls_nil ?_
            refine c_then ?_
            refine c_cond_t hF rfl ?_
            refine c_seq ?_
            refine reg_list ?_
            refine ls hF hW rfl (y_assign hF rfl) (fun a w hF hW => ?_)
            refine ls_nil ?_
            refine c_then ?_
            refine wp_ret ?_
            refine r_then ?_
            refine post1 (.inl rfl) hF hW rfl (rv_tmp hF rfl) ?_
            exact ⟨congrArg Ending.returned (vbool (show (false) = tickBack x y by rw [tickBack, if_neg c1, if_neg c2, if_neg c3, if_neg c4, if_pos c5])), hW.frm.below⟩
          ·
            have c5 := of_decide_eq_false hb
            simp only [hb] at hF
            clear hb
            refine ls_w hF hW (wanted_y hF rfl rfl rfl rfl) rfl (Nat.le_of_ble_eq_true rfl) (y_move hF rfl) (fun a w hF hW => ?_)
            refine ls_w hF hW (wanted_y hF rfl rfl rfl rfl) rfl (Nat.le_of_ble_eq_true rfl) (y_gtr hF rfl rfl) (fun a w hF hW => ?_)
            refine ls hF hW rfl (y_pick_f hF rfl rfl rfl) (fun a w hF hW => ?_)
            refine ls hF hW rfl (y_move hF rfl) (fun a w hF hW => ?_)
            rcases Bool.eq_false_or_eq_true (decide (1125899906842624 < (tmul_0 x y))) with hb | hb
            ·
              have c6 := of_decide_eq_true hb
              simp only [hb] at hF
              clear hb
              refine ls_skip hF (wanted_n hF rfl rfl rfl rfl rfl) rfl rfl (fun a hF => ?_)
              refine ls_skip hF (wanted_n hF rfl rfl rfl rfl rfl) rfl rfl (fun a hF => ?_)
              refine ls_skip hF (wanted_n hF rfl rfl rfl rfl rfl) rfl rfl (fun a hF => ?_)
              refine ls_skip hF (wanted_undef hF rfl rfl rfl rfl) rfl rfl (fun a hF => ?_)
              refine ls_skip hF (wanted_undef hF rfl rfl rfl rfl) rfl rfl (fun a hF => ?_)
              refine ls_skip hF (wanted_n hF rfl rfl rfl rfl rfl) rfl rfl (fun a hF => ?_)
              refine ls hF hW rfl (y_pick_t hF rfl rfl rfl) (fun a w hF hW => ?_)
              refine ls hF hW rfl (y_move hF rfl) (fun a w hF hW => ?_)
              refine ls_skip hF (wanted_n hF rfl rfl rfl rfl rfl) rfl rfl (fun a hF => ?_)
              refine ls_skip hF (wanted_n hF rfl rfl rfl rfl rfl) rfl rfl (fun a hF => ?_)
              refine ls_skip hF (wanted_n hF rfl rfl rfl rfl rfl) rfl rfl (fun a hF => ?_)
              refine ls_skip hF (wanted_undef hF rfl rfl rfl rfl) rfl rfl (fun a hF => ?_)
              refine ls_skip hF (wanted_undef hF rfl rfl rfl rfl) rfl rfl (fun a hF => ?_)
              refine ls_skip hF (wanted_n hF rfl rfl rfl rfl rfl) rfl rfl (fun a hF => ?_)
              refine ls hF hW rfl (y_pick_t hF rfl rfl rfl) (fun a w hF hW => ?_)
              refine ls_nil ?_
              refine c_then ?_
              refine c_cond_t hF rfl ?_
              refine c_seq ?_
              refine reg_list ?_
              refine ls hF hW rfl (y_assign hF rfl) (fun a w hF hW => ?_)
              refine ls_nil ?_
              refine c_then ?_
              refine wp_ret ?_
              refine r_then ?_
              refine post1 (.inl rfl) hF hW rfl (rv_tmp hF rfl) ?_
              exact ⟨congrArg Ending.returned (vbool (show (false) = tickBack x y by rw [tickBack, if_neg c1, if_neg c2, if_neg c3, if_neg c4, if_neg c5, if_pos c6])), hW.frm.below⟩
            ·
              have c6 := of_decide_eq_false hb
              simp only [hb] at hF
              clear hb
              refine ls_w hF hW (wanted_y hF rfl rfl rfl rfl) rfl (Nat.le_of_ble_eq_true rfl) (y_move hF rfl) (fun a w hF hW => ?_)
              refine ls_w hF hW (wanted_y hF rfl rfl rfl rfl) rfl (Nat.le_of_ble_eq_true rfl) (y_neq hF rfl rfl) (fun a w hF hW => ?_)
              refine ls_w hF hW (wanted_y hF rfl rfl rfl rfl) rfl (Nat.le_of_ble_eq_true rfl) (y_move hF rfl) (fun a w hF hW => ?_)
              rcases Bool.eq_false_or_eq_true (decide ((tadd_1 x y) ≠ 0)) with hb | hb
              ·
                have c7 := of_decide_eq_true hb
                simp only [hb] at hF
                clear hb
                refine ls_w hF hW (wanted_y hF rfl rfl rfl rfl) rfl (Nat.le_of_ble_eq_true rfl) (y_move hF rfl) (fun a w hF hW => ?_)
                refine ls_w hF hW (wanted_y hF rfl rfl rfl rfl) rfl (Nat.le_of_ble_eq_true rfl) (y_neq hF rfl rfl) (fun a w hF hW => ?_)
                refine ls_w hF hW (wanted_y hF rfl rfl rfl rfl) rfl (Nat.le_of_ble_eq_true rfl) (y_pick_t hF rfl rfl rfl) (fun a w hF hW => ?_)
                refine ls hF hW rfl (y_pick_f hF rfl rfl rfl) (fun a w hF hW => ?_)
                refine ls hF hW rfl (y_move hF rfl) (fun a w hF hW => ?_)
                rcases Bool.eq_false_or_eq_true (decide ((tadd_0 x y) ≠ 0)) with hb | hb
                ·
                  have c8 := of_decide_eq_true hb
                  simp only [hb] at hF
                  clear hb
                  refine ls_skip hF (wanted_n hF rfl rfl rfl rfl rfl) rfl rfl (fun a hF => ?_)
                  refine ls_skip hF (wanted_n hF rfl rfl rfl rfl rfl) rfl rfl (fun a hF => ?_)
                  refine ls_skip hF (wanted_n hF rfl rfl rfl rfl rfl) rfl rfl (fun a hF => ?_)
                  refine ls_skip hF (wanted_undef hF rfl rfl rfl rfl) rfl rfl (fun a hF => ?_)
                  refine ls_skip hF (wanted_undef hF rfl rfl rfl rfl) rfl rfl (fun a hF => ?_)
                  refine ls_skip hF (wanted_n hF rfl rfl rfl rfl rfl) rfl rfl (fun a hF => ?_)
                  refine ls hF hW rfl (y_pick_t hF rfl rfl rfl) (fun a w hF hW => ?_)
                  refine ls_nil ?_
                  refine c_then ?_
                  refine c_cond_t hF rfl ?_
                  refine c_seq ?_
                  refine reg_list ?_
                  refine ls hF hW rfl (y_assign hF rfl) (fun a w hF hW => ?_)
                  refine ls_nil ?_
                  refine c_then ?_
                  refine wp_ret ?_
                  refine r_then ?_
                  refine post1 (.inl rfl) hF hW rfl (rv_tmp hF rfl) ?_
                  exact ⟨congrArg Ending.returned (vbool (show (false) = tickBack x y by rw [tickBack, if_neg c1, if_neg c2, if_neg c3, if_neg c4, if_neg c5, if_neg c6, if_pos c7, if_pos c8])), hW.frm.below⟩
                ·
                  have c8 := of_decide_eq_false hb
                  simp only [hb] at hF
                  clear hb
                  refine ls_w hF hW (wanted_y hF rfl rfl rfl rfl) rfl (Nat.le_of_ble_eq_true rfl) (y_move hF rfl) (fun a w hF hW => ?_)
                  refine ls_w hF hW (wanted_y hF rfl rfl rfl rfl) rfl (Nat.le_of_ble_eq_true rfl) (y_neq hF rfl rfl) (fun a w hF hW => ?_)
                  refine ls_w hF hW (wanted_y hF rfl rfl rfl rfl) rfl (Nat.le_of_ble_eq_true rfl) (y_move hF rfl) (fun a w hF hW => ?_)
                  rcases Bool.eq_false_or_eq_true (decide ((tmul_1 x y) ≠ 0)) with hb | hb
                  ·
                    have c9 := of_decide_eq_true hb
                    simp only [hb] at hF
                    clear hb
                    refine ls_w hF hW (wanted_y hF rfl rfl rfl rfl) rfl (Nat.le_of_ble_eq_true rfl) (y_move hF rfl) (fun a w hF hW => ?_)
                    refine ls_w hF hW (wanted_y hF rfl rfl rfl rfl) rfl (Nat.le_of_ble_eq_true rfl) (y_neq hF rfl rfl) (fun a w hF hW => ?_)
                    refine ls_w hF hW (wanted_y hF rfl rfl rfl rfl) rfl (Nat.le_of_ble_eq_true rfl) (y_pick_t hF rfl rfl rfl) (fun a w hF hW => ?_)
                    refine ls hF hW rfl (y_pick_f hF rfl rfl rfl) (fun a w hF hW => ?_)
                    refine ls_nil ?_
                    refine c_then ?_
                    refine c_cond hF rfl (fun hb => ?_) (fun hb => ?_)
                    ·
                      have c10 := of_decide_eq_true hb
                      simp only [hb] at hF
                      clear hb
                      refine c_seq ?_
                      refine reg_list ?_
                      refine ls hF hW rfl (y_assign hF rfl) (fun a w hF hW => ?_)
                      refine ls_nil ?_
                      refine c_then ?_
                      refine wp_ret ?_
                      refine r_then ?_
                      refine post1 (.inl rfl) hF hW rfl (rv_tmp hF rfl) ?_
                      exact ⟨congrArg Ending.returned (vbool (show (false) = tickBack x y by rw [tickBack, if_neg c1, if_neg c2, if_neg c3, if_neg c4, if_neg c5, if_neg c6, if_pos c7, if_neg c8, if_pos c9, if_pos c10])), hW.frm.below⟩
                    ·
                      have c10 := of_decide_eq_false hb
                      simp only [hb] at hF
                      clear hb
                      refine wp_skip ?_
                      refine c_then ?_
                      refine c_seq ?_
                      refine c_seq ?_
                      refine reg_list ?_
                      refine ls hF hW rfl (y_move hF rfl) (fun a w hF hW => ?_)
                      refine ls hF hW rfl (y_neq hF rfl rfl) (fun a w hF hW => ?_)
                      refine ls_nil ?_
                      refine c_then ?_
                      refine c_cond hF rfl (fun hb => ?_) (fun hb => ?_)
                      ·
                        have c11 := of_decide_eq_true hb
                        simp only [hb] at hF
                        clear hb
                        refine c_seq ?_
                        refine reg_list ?_
                        refine ls hF hW rfl (y_move hF rfl) (fun a w hF hW => ?_)
                        refine ls hF hW rfl (y_eql hF rfl rfl) (fun a w hF hW => ?_)
                        refine ls hF hW rfl (y_move hF rfl) (fun a w hF hW => ?_)
                        rcases Bool.eq_false_or_eq_true (decide ((tadd_1 x y) = 11)) with hb | hb
                        ·
                          have c12 := of_decide_eq_true hb
                          simp only [hb] at hF
                          clear hb
                          refine ls_w hF hW (wanted_y hF rfl rfl rfl rfl) rfl (Nat.le_of_ble_eq_true rfl) (y_call (v := Value.bool awake1) hF H23 rfl (fun w _ => awake1_any  w )) (fun a w hF hW => ?_)
                          refine ls hF hW rfl (y_pick_t hF rfl rfl rfl) (fun a w hF hW => ?_)
                          refine ls hF hW rfl (y_assign hF rfl) (fun a w hF hW => ?_)
                          refine ls_nil ?_
                          refine c_then ?_
                          refine wp_ret ?_
                          refine r_then ?_
                          refine post1 (.inl rfl) hF hW rfl (rv_tmp hF rfl) ?_
                          exact ⟨congrArg Ending.returned (vbool (show (awake1) = tickBack x y by rw [tickBack, if_neg c1, if_neg c2, if_neg c3, if_neg c4, if_neg c5, if_neg c6, if_pos c7, if_neg c8, if_pos c9, if_neg c10, if_pos c11, if_pos c12])), hW.frm.below⟩
                        ·
                          have c12 := of_decide_eq_false hb
                          simp only [hb] at hF
                          clear hb
                          refine ls_skip hF (wanted_n hF rfl rfl rfl rfl rfl) rfl rfl (fun a hF => ?_)
                          refine ls hF hW rfl (y_pick_f hF rfl rfl rfl) (fun a w hF hW => ?_)
                          refine ls hF hW rfl (y_assign hF rfl) (fun a w hF hW => ?_)
                          refine ls_nil ?_
                          refine c_then ?_
                          refine wp_ret ?_
                          refine r_then ?_
                          refine post1 (.inl rfl) hF hW rfl (rv_tmp hF rfl) ?_
                          exact ⟨congrArg Ending.returned (vbool (show (false) = tickBack x y by rw [tickBack, if_neg c1, if_neg c2, if_neg c3, if_neg c4, if_neg c5, if_neg c6, if_pos c7, if_neg c8, if_pos c9, if_neg c10, if_pos c11, if_neg c12])), hW.frm.below⟩
                      ·
                        have c11 := of_decide_eq_false hb
                        simp only [hb] at hF
                        clear hb
                        refine wp_skip ?_
                        refine c_then ?_
                        refine c_seq ?_
                        refine reg_list ?_
                        refine ls hF hW rfl (y_move hF rfl) (fun a w hF hW => ?_)
                        refine ls hF hW rfl (y_move hF rfl) (fun a w hF hW => ?_)
                        refine ls hF hW rfl (y_call (v := Value.tuple #[Value.int IntKind.i64 (tsub_0 (tadd_0 x y) y), Value.int IntKind.i64 (tsub_1 (tadd_0 x y) y)]) hF H13 rfl (fun w _ => tsub_any (tadd_0 x y) y w )) (fun a w hF hW => ?_)
                        refine ls hF hW rfl (y_move hF rfl) (fun a w hF hW => ?_)
                        refine ls hF hW rfl (y_extract (v := Value.int IntKind.i64 (tsub_0 (tadd_0 x y) y)) hF rfl rfl) (fun a w hF hW => ?_)
                        refine ls hF hW rfl (y_extract (v := Value.int IntKind.i64 (tsub_1 (tadd_0 x y) y)) hF rfl rfl) (fun a w hF hW => ?_)
                        refine ls hF hW rfl (y_assign hF rfl) (fun a w hF hW => ?_)
                        refine ls hF hW rfl (y_assign hF rfl) (fun a w hF hW => ?_)
                        refine ls_nil ?_
                        refine c_then ?_
                        refine c_seq ?_
                        refine reg_list ?_
                        refine ls hF hW rfl (y_move hF rfl) (fun a w hF hW => ?_)
                        refine ls hF hW rfl (y_call (v := Value.tuple #[Value.int IntKind.i64 (tneg_0 y), Value.int IntKind.i64 (tneg_1 y)]) hF H17 rfl (fun w _ => tneg_any y w )) (fun a w hF hW => ?_)
                        refine ls hF hW rfl (y_move hF rfl) (fun a w hF hW => ?_)
                        refine ls hF hW rfl (y_extract (v := Value.int IntKind.i64 (tneg_0 y)) hF rfl rfl) (fun a w hF hW => ?_)
                        refine ls hF hW rfl (y_extract (v := Value.int IntKind.i64 (tneg_1 y)) hF rfl rfl) (fun a w hF hW => ?_)
                        refine ls hF hW rfl (y_assign hF rfl) (fun a w hF hW => ?_)
                        refine ls hF hW rfl (y_assign hF rfl) (fun a w hF hW => ?_)
                        refine ls_nil ?_
                        refine c_then ?_
                        refine c_seq ?_
                        refine reg_list ?_
                        refine ls hF hW rfl (y_move hF rfl) (fun a w hF hW => ?_)
                        refine ls hF hW rfl (y_move hF rfl) (fun a w hF hW => ?_)
                        refine ls hF hW rfl (y_call (v := Value.tuple #[Value.int IntKind.i64 (tadd_0 (tadd_0 x y) (tneg_0 y)), Value.int IntKind.i64 (tadd_1 (tadd_0 x y) (tneg_0 y))]) hF H11 rfl (fun w _ => tadd_any (tadd_0 x y) (tneg_0 y) w )) (fun a w hF hW => ?_)
                        refine ls hF hW rfl (y_move hF rfl) (fun a w hF hW => ?_)
                        refine ls hF hW rfl (y_extract (v := Value.int IntKind.i64 (tadd_0 (tadd_0 x y) (tneg_0 y))) hF rfl rfl) (fun a w hF hW => ?_)
                        refine ls hF hW rfl (y_extract (v := Value.int IntKind.i64 (tadd_1 (tadd_0 x y) (tneg_0 y))) hF rfl rfl) (fun a w hF hW => ?_)
                        refine ls hF hW rfl (y_assign hF rfl) (fun a w hF hW => ?_)
                        refine ls hF hW rfl (y_assign hF rfl) (fun a w hF hW => ?_)
                        refine ls_nil ?_
                        refine c_then ?_
                        refine c_seq ?_
                        refine reg_list ?_
                        refine ls hF hW rfl (y_move hF rfl) (fun a w hF hW => ?_)
                        refine ls hF hW rfl (y_move hF rfl) (fun a w hF hW => ?_)
                        refine ls hF hW rfl (y_eql hF rfl rfl) (fun a w hF hW => ?_)
                        refine ls hF hW rfl (y_move hF rfl) (fun a w hF hW => ?_)
                        rcases Bool.eq_false_or_eq_true (decide ((tsub_0 (tadd_0 x y) y) = x)) with hb | hb
                        ·
                          have c12 := of_decide_eq_true hb
                          simp only [hb] at hF
                          clear hb
                          refine ls_w hF hW (wanted_y hF rfl rfl rfl rfl) rfl (Nat.le_of_ble_eq_true rfl) (y_move hF rfl) (fun a w hF hW => ?_)
                          refine ls_w hF hW (wanted_y hF rfl rfl rfl rfl) rfl (Nat.le_of_ble_eq_true rfl) (y_eql hF rfl rfl) (fun a w hF hW => ?_)
                          refine ls hF hW rfl (y_pick_t hF rfl rfl rfl) (fun a w hF hW => ?_)
                          refine ls hF hW rfl (y_move hF rfl) (fun a w hF hW => ?_)
                          rcases Bool.eq_false_or_eq_true (decide ((tsub_1 (tadd_0 x y) y) = 0)) with hb | hb
                          ·
                            have c13 := of_decide_eq_true hb
                            simp only [hb] at hF
                            clear hb
                            refine ls_w hF hW (wanted_y hF rfl rfl rfl rfl) rfl (Nat.le_of_ble_eq_true rfl) (y_move hF rfl) (fun a w hF hW => ?_)
                            refine ls_w hF hW (wanted_y hF rfl rfl rfl rfl) rfl (Nat.le_of_ble_eq_true rfl) (y_eql hF rfl rfl) (fun a w hF hW => ?_)
                            refine ls hF hW rfl (y_pick_t hF rfl rfl rfl) (fun a w hF hW => ?_)
                            refine ls hF hW rfl (y_move hF rfl) (fun a w hF hW => ?_)
                            rcases Bool.eq_false_or_eq_true (decide ((tneg_1 y) = 0)) with hb | hb
                            ·
                              have c14 := of_decide_eq_true hb
                              simp only [hb] at hF
                              clear hb
                              refine ls_w hF hW (wanted_y hF rfl rfl rfl rfl) rfl (Nat.le_of_ble_eq_true rfl) (y_move hF rfl) (fun a w hF hW => ?_)
                              refine ls_w hF hW (wanted_y hF rfl rfl rfl rfl) rfl (Nat.le_of_ble_eq_true rfl) (y_move hF rfl) (fun a w hF hW => ?_)
                              refine ls_w hF hW (wanted_y hF rfl rfl rfl rfl) rfl (Nat.le_of_ble_eq_true rfl) (y_eql hF rfl rfl) (fun a w hF hW => ?_)
                              refine ls hF hW rfl (y_pick_t hF rfl rfl rfl) (fun a w hF hW => ?_)
                              refine ls hF hW rfl (y_move hF rfl) (fun a w hF hW => ?_)
                              rcases Bool.eq_false_or_eq_true (decide ((tadd_0 (tadd_0 x y) (tneg_0 y)) = x)) with hb | hb
                              ·
                                have c15 := of_decide_eq_true hb
                                simp only [hb] at hF
                                clear hb
                                refine ls_w hF hW (wanted_y hF rfl rfl rfl rfl) rfl (Nat.le_of_ble_eq_true rfl) (y_move hF rfl) (fun a w hF hW => ?_)
                                refine ls_w hF hW (wanted_y hF rfl rfl rfl rfl) rfl (Nat.le_of_ble_eq_true rfl) (y_eql hF rfl rfl) (fun a w hF hW => ?_)
                                refine ls hF hW rfl (y_pick_t hF rfl rfl rfl) (fun a w hF hW => ?_)
                                refine ls hF hW rfl (y_move hF rfl) (fun a w hF hW => ?_)
                                rcases Bool.eq_false_or_eq_true (decide ((tadd_1 (tadd_0 x y) (tneg_0 y)) = 0)) with hb | hb
                                ·
                                  have c16 := of_decide_eq_true hb
                                  simp only [hb] at hF
                                  clear hb
                                  refine ls_w hF hW (wanted_y hF rfl rfl rfl rfl) rfl (Nat.le_of_ble_eq_true rfl) (y_call (v := Value.bool awake1) hF H23 rfl (fun w _ => awake1_any  w )) (fun a w hF hW => ?_)
                                  refine ls hF hW rfl (y_pick_t hF rfl rfl rfl) (fun a w hF hW => ?_)
                                  refine ls hF hW rfl (y_assign hF rfl) (fun a w hF hW => ?_)
                                  refine ls_nil ?_
                                  refine c_then ?_
                                  refine wp_ret ?_
                                  refine post1 (.inl rfl) hF hW rfl (rv_tmp hF rfl) ?_
                                  exact ⟨congrArg Ending.returned (vbool (show (awake1) = tickBack x y by rw [tickBack, if_neg c1, if_neg c2, if_neg c3, if_neg c4, if_neg c5, if_neg c6, if_pos c7, if_neg c8, if_pos c9, if_neg c10, if_neg c11, if_pos c12, if_pos c13, if_pos c14, if_pos c15, if_pos c16])), hW.frm.below⟩
                                ·
                                  have c16 := of_decide_eq_false hb
                                  simp only [hb] at hF
                                  clear hb
                                  refine ls_skip hF (wanted_n hF rfl rfl rfl rfl rfl) rfl rfl (fun a hF => ?_)
                                  refine ls hF hW rfl (y_pick_f hF rfl rfl rfl) (fun a w hF hW => ?_)
                                  refine ls hF hW rfl (y_assign hF rfl) (fun a w hF hW => ?_)
                                  refine ls_nil ?_
                                  refine c_then ?_
                                  refine wp_ret ?_
                                  refine post1 (.inl rfl) hF hW rfl (rv_tmp hF rfl) ?_
                                  exact ⟨congrArg Ending.returned (vbool (show (false) = tickBack x y by rw [tickBack, if_neg c1, if_neg c2, if_neg c3, if_neg c4, if_neg c5, if_neg c6, if_pos c7, if_neg c8, if_pos c9, if_neg c10, if_neg c11, if_pos c12, if_pos c13, if_pos c14, if_pos c15, if_neg c16])), hW.frm.below⟩
                              ·
                                have c15 := of_decide_eq_false hb
                                simp only [hb] at hF
                                clear hb
                                refine ls_skip hF (wanted_n hF rfl rfl rfl rfl rfl) rfl rfl (fun a hF => ?_)
                                refine ls_skip hF (wanted_n hF rfl rfl rfl rfl rfl) rfl rfl (fun a hF => ?_)
                                refine ls hF hW rfl (y_pick_f hF rfl rfl rfl) (fun a w hF hW => ?_)
                                refine ls hF hW rfl (y_move hF rfl) (fun a w hF hW => ?_)
                                refine ls_skip hF (wanted_n hF rfl rfl rfl rfl rfl) rfl rfl (fun a hF => ?_)
                                refine ls hF hW rfl (y_pick_f hF rfl rfl rfl) (fun a w hF hW => ?_)
                                refine ls hF hW rfl (y_assign hF rfl) (fun a w hF hW => ?_)
                                refine ls_nil ?_
                                refine c_then ?_
                                refine wp_ret ?_
                                refine post1 (.inl rfl) hF hW rfl (rv_tmp hF rfl) ?_
                                exact ⟨congrArg Ending.returned (vbool (show (false) = tickBack x y by rw [tickBack, if_neg c1, if_neg c2, if_neg c3, if_neg c4, if_neg c5, if_neg c6, if_pos c7, if_neg c8, if_pos c9, if_neg c10, if_neg c11, if_pos c12, if_pos c13, if_pos c14, if_neg c15])), hW.frm.below⟩
                            ·
                              have c14 := of_decide_eq_false hb
                              simp only [hb] at hF
                              clear hb
                              refine ls_skip hF (wanted_n hF rfl rfl rfl rfl rfl) rfl rfl (fun a hF => ?_)
                              refine ls_skip hF (wanted_n hF rfl rfl rfl rfl rfl) rfl rfl (fun a hF => ?_)
                              refine ls_skip hF (wanted_n hF rfl rfl rfl rfl rfl) rfl rfl (fun a hF => ?_)
                              refine ls hF hW rfl (y_pick_f hF rfl rfl rfl) (fun a w hF hW => ?_)
                              refine ls hF hW rfl (y_move hF rfl) (fun a w hF hW => ?_)
                              refine ls_skip hF (wanted_n hF rfl rfl rfl rfl rfl) rfl rfl (fun a hF => ?_)
                              refine ls_skip hF (wanted_n hF rfl rfl rfl rfl rfl) rfl rfl (fun a hF => ?_)
                              refine ls hF hW rfl (y_pick_f hF rfl rfl rfl) (fun a w hF hW => ?_)
                              refine ls hF hW rfl (y_move hF rfl) (fun a w hF hW => ?_)
                              refine ls_skip hF (wanted_n hF rfl rfl rfl rfl rfl) rfl rfl (fun a hF => ?_)
                              refine ls hF hW rfl (y_pick_f hF rfl rfl rfl) (fun a w hF hW => ?_)
                              refine ls hF hW rfl (y_assign hF rfl) (fun a w hF hW => ?_)
                              refine ls_nil ?_
                              refine c_then ?_
                              refine wp_ret ?_
                              refine post1 (.inl rfl) hF hW rfl (rv_tmp hF rfl) ?_
                              exact ⟨congrArg Ending.returned (vbool (show (false) = tickBack x y by rw [tickBack, if_neg c1, if_neg c2, if_neg c3, if_neg c4, if_neg c5, if_neg c6, if_pos c7, if_neg c8, if_pos c9, if_neg c10, if_neg c11, if_pos c12, if_pos c13, if_neg c14])), hW.frm.below⟩
                          ·
                            have c13 := of_decide_eq_false hb
                            simp only [hb] at hF
                            clear hb
                            refine ls_skip hF (wanted_n hF rfl rfl rfl rfl rfl) rfl rfl (fun a hF => ?_)
                            refine ls_skip hF (wanted_n hF rfl rfl rfl rfl rfl) rfl rfl (fun a hF => ?_)
                            refine ls hF hW rfl (y_pick_f hF rfl rfl rfl) (fun a w hF hW => ?_)
                            refine ls hF hW rfl (y_move hF rfl) (fun a w hF hW => ?_)
                            refine ls_skip hF (wanted_n hF rfl rfl rfl rfl rfl) rfl rfl (fun a hF => ?_)
                            refine ls_skip hF (wanted_n hF rfl rfl rfl rfl rfl) rfl rfl (fun a hF => ?_)
                            refine ls_skip hF (wanted_n hF rfl rfl rfl rfl rfl) rfl rfl (fun a hF => ?_)
                            refine ls hF hW rfl (y_pick_f hF rfl rfl rfl) (fun a w hF hW => ?_)
                            refine ls hF hW rfl (y_move hF rfl) (fun a w hF hW => ?_)
                            refine ls_skip hF (wanted_n hF rfl rfl rfl rfl rfl) rfl rfl (fun a hF => ?_)
                            refine ls_skip hF (wanted_n hF rfl rfl rfl rfl rfl) rfl rfl (fun a hF => ?_)
                            refine ls hF hW rfl (y_pick_f hF rfl rfl rfl) (fun a w hF hW => ?_)
                            refine ls hF hW rfl (y_move hF rfl) (fun a w hF hW => ?_)
                            refine ls_skip hF (wanted_n hF rfl rfl rfl rfl rfl) rfl rfl (fun a hF => ?_)
                            refine ls hF hW rfl (y_pick_f hF rfl rfl rfl) (fun a w hF hW => ?_)
                            refine ls hF hW rfl (y_assign hF rfl) (fun a w hF hW => ?_)
                            refine ls_nil ?_
                            refine c_then ?_
                            refine wp_ret ?_
                            refine post1 (.inl rfl) hF hW rfl (rv_tmp hF rfl) ?_
                            exact ⟨congrArg Ending.returned (vbool (show (false) = tickBack x y by rw [tickBack, if_neg c1, if_neg c2, if_neg c3, if_neg c4, if_neg c5, if_neg c6, if_pos c7, if_neg c8, if_pos c9, if_neg c10, if_neg c11, if_pos c12, if_neg c13])), hW.frm.below⟩
                        ·
                          have c12 := of_decide_eq_false hb
                          simp only [hb] at hF
                          clear hb
                          refine ls_skip hF (wanted_n hF rfl rfl rfl rfl rfl) rfl rfl (fun a hF => ?_)
                          refine ls_skip hF (wanted_n hF rfl rfl rfl rfl rfl) rfl rfl (fun a hF => ?_)
                          refine ls hF hW rfl (y_pick_f hF rfl rfl rfl) (fun a w hF hW => ?_)
                          refine ls hF hW rfl (y_move hF rfl) (fun a w hF hW => ?_)
                          refine ls_skip hF (wanted_n hF rfl rfl rfl rfl rfl) rfl rfl (fun a hF => ?_)
                          refine ls_skip hF (wanted_n hF rfl rfl rfl rfl rfl) rfl rfl (fun a hF => ?_)
                          refine ls hF hW rfl (y_pick_f hF rfl rfl rfl) (fun a w hF hW => ?_)
                          refine ls hF hW rfl (y_move hF rfl) (fun a w hF hW => ?_)
                          refine ls_skip hF (wanted_n hF rfl rfl rfl rfl rfl) rfl rfl (fun a hF => ?_)
                          refine ls_skip hF (wanted_n hF rfl rfl rfl rfl rfl) rfl rfl (fun a hF => ?_)
                          refine ls_skip hF (wanted_n hF rfl rfl rfl rfl rfl) rfl rfl (fun a hF => ?_)
                          refine ls hF hW rfl (y_pick_f hF rfl rfl rfl) (fun a w hF hW => ?_)
                          refine ls hF hW rfl (y_move hF rfl) (fun a w hF hW => ?_)
                          refine ls_skip hF (wanted_n hF rfl rfl rfl rfl rfl) rfl rfl (fun a hF => ?_)
                          refine ls_skip hF (wanted_n hF rfl rfl rfl rfl rfl) rfl rfl (fun a hF => ?_)
                          refine ls hF hW rfl (y_pick_f hF rfl rfl rfl) (fun a w hF hW => ?_)
                          refine ls hF hW rfl (y_move hF rfl) (fun a w hF hW => ?_)
                          refine ls_skip hF (wanted_n hF rfl rfl rfl rfl rfl) rfl rfl (fun a hF => ?_)
                          refine ls hF hW rfl (y_pick_f hF rfl rfl rfl) (fun a w hF hW => ?_)
                          refine ls hF hW rfl (y_assign hF rfl) (fun a w hF hW => ?_)
                          refine ls_nil ?_
                          refine c_then ?_
                          refine wp_ret ?_
                          refine post1 (.inl rfl) hF hW rfl (rv_tmp hF rfl) ?_
                          exact ⟨congrArg Ending.returned (vbool (show (false) = tickBack x y by rw [tickBack, if_neg c1, if_neg c2, if_neg c3, if_neg c4, if_neg c5, if_neg c6, if_pos c7, if_neg c8, if_pos c9, if_neg c10, if_neg c11, if_neg c12])), hW.frm.below⟩
                  ·
                    have c9 := of_decide_eq_false hb
                    simp only [hb] at hF
                    clear hb
                    refine ls_skip hF (wanted_n hF rfl rfl rfl rfl rfl) rfl rfl (fun a hF => ?_)
                    refine ls_skip hF (wanted_n hF rfl rfl rfl rfl rfl) rfl rfl (fun a hF => ?_)
                    refine ls_w hF hW (wanted_y hF rfl rfl rfl rfl) rfl (Nat.le_of_ble_eq_true rfl) (y_pick_f hF rfl rfl rfl) (fun a w hF hW => ?_)
                    refine ls hF hW rfl (y_pick_f hF rfl rfl rfl) (fun a w hF hW => ?_)
                    refine ls_nil ?_
                    refine c_then ?_
                    refine c_cond_f hF rfl ?_
                    refine wp_skip ?_
                    refine c_then ?_
                    refine c_seq ?_
                    refine c_seq ?_
                    refine reg_list ?_
                    refine ls hF hW rfl (y_move hF rfl) (fun a w hF hW => ?_)
                    refine ls hF hW rfl (y_neq hF rfl rfl) (fun a w hF hW => ?_)
                    refine ls_nil ?_
                    refine c_then ?_
                    refine c_cond hF rfl (fun hb => ?_) (fun hb => ?_)
                    ·
                      have c10 := of_decide_eq_true hb
                      simp only [hb] at hF
                      clear hb
                      refine c_seq ?_
                      refine reg_list ?_
                      refine ls hF hW rfl (y_move hF rfl) (fun a w hF hW => ?_)
                      refine ls hF hW rfl (y_eql hF rfl rfl) (fun a w hF hW => ?_)
                      refine ls hF hW rfl (y_move hF rfl) (fun a w hF hW => ?_)
                      rcases Bool.eq_false_or_eq_true (decide ((tadd_1 x y) = 11)) with hb | hb
                      ·
                        have c11 := of_decide_eq_true hb
                        simp only [hb] at hF
                        clear hb
                        refine ls_w hF hW (wanted_y hF rfl rfl rfl rfl) rfl (Nat.le_of_ble_eq_true rfl) (y_call (v := Value.bool awake1) hF H23 rfl (fun w _ => awake1_any  w )) (fun a w hF hW => ?_)
                        refine ls hF hW rfl (y_pick_t hF rfl rfl rfl) (fun a w hF hW => ?_)
                        refine ls hF hW rfl (y_assign hF rfl) (fun a w hF hW => ?_)
                        refine ls_nil ?_
                        refine c_then ?_
                        refine wp_ret ?_
                        refine r_then ?_
                        refine post1 (.inl rfl) hF hW rfl (rv_tmp hF rfl) ?_
                        exact ⟨congrArg Ending.returned (vbool (show (awake1) = tickBack x y by rw [tickBack, if_neg c1, if_neg c2, if_neg c3, if_neg c4, if_neg c5, if_neg c6, if_pos c7, if_neg c8, if_neg c9, if_pos c10, if_pos c11])), hW.frm.below⟩
                      ·
                        have c11 := of_decide_eq_false hb
                        simp only [hb] at hF
                        clear hb
                        refine ls_skip hF (wanted_n hF rfl rfl rfl rfl rfl) rfl rfl (fun a hF => ?_)
                        refine ls hF hW rfl (y_pick_f hF rfl rfl rfl) (fun a w hF hW => ?_)
                        refine ls hF hW rfl (y_assign hF rfl) (fun a w hF hW => ?_)
                        refine ls_nil ?_
                        refine c_then ?_
                        refine wp_ret ?_
                        refine r_then ?_
                        refine post1 (.inl rfl) hF hW rfl (rv_tmp hF rfl) ?_
                        exact ⟨congrArg Ending.returned (vbool (show (false) = tickBack x y by rw [tickBack, if_neg c1, if_neg c2, if_neg c3, if_neg c4, if_neg c5, if_neg c6, if_pos c7, if_neg c8, if_neg c9, if_pos c10, if_neg c11])), hW.frm.below⟩
                    ·
                      have c10 := of_decide_eq_false hb
                      simp only [hb] at hF
                      clear hb
                      refine wp_skip ?_
                      refine c_then ?_
                      refine c_seq ?_
                      refine reg_list ?_
                      refine ls hF hW rfl (y_move hF rfl) (fun a w hF hW => ?_)
                      refine ls hF hW rfl (y_move hF rfl) (fun a w hF hW => ?_)
                      refine ls hF hW rfl (y_call (v := Value.tuple #[Value.int IntKind.i64 (tsub_0 (tadd_0 x y) y), Value.int IntKind.i64 (tsub_1 (tadd_0 x y) y)]) hF H13 rfl (fun w _ => tsub_any (tadd_0 x y) y w )) (fun a w hF hW => ?_)
                      refine ls hF hW rfl (y_move hF rfl) (fun a w hF hW => ?_)
                      refine ls hF hW rfl (y_extract (v := Value.int IntKind.i64 (tsub_0 (tadd_0 x y) y)) hF rfl rfl) (fun a w hF hW => ?_)
                      refine ls hF hW rfl (y_extract (v := Value.int IntKind.i64 (tsub_1 (tadd_0 x y) y)) hF rfl rfl) (fun a w hF hW => ?_)
                      refine ls hF hW rfl (y_assign hF rfl) (fun a w hF hW => ?_)
                      refine ls hF hW rfl (y_assign hF rfl) (fun a w hF hW => ?_)
                      refine ls_nil ?_
                      refine c_then ?_
                      refine c_seq ?_
                      refine reg_list ?_
                      refine ls hF hW rfl (y_move hF rfl) (fun a w hF hW => ?_)
                      refine ls hF hW rfl (y_call (v := Value.tuple #[Value.int IntKind.i64 (tneg_0 y), Value.int IntKind.i64 (tneg_1 y)]) hF H17 rfl (fun w _ => tneg_any y w )) (fun a w hF hW => ?_)
                      refine ls hF hW rfl (y_move hF rfl) (fun a w hF hW => ?_)
                      refine ls hF hW rfl (y_extract (v := Value.int IntKind.i64 (tneg_0 y)) hF rfl rfl) (fun a w hF hW => ?_)
                      refine ls hF hW rfl (y_extract (v := Value.int IntKind.i64 (tneg_1 y)) hF rfl rfl) (fun a w hF hW => ?_)
                      refine ls hF hW rfl (y_assign hF rfl) (fun a w hF hW => ?_)
                      refine ls hF hW rfl (y_assign hF rfl) (fun a w hF hW => ?_)
                      refine ls_nil ?_
                      refine c_then ?_
                      refine c_seq ?_
                      refine reg_list ?_
                      refine ls hF hW rfl (y_move hF rfl) (fun a w hF hW => ?_)
                      refine ls hF hW rfl (y_move hF rfl) (fun a w hF hW => ?_)
                      refine ls hF hW rfl (y_call (v := Value.tuple #[Value.int IntKind.i64 (tadd_0 (tadd_0 x y) (tneg_0 y)), Value.int IntKind.i64 (tadd_1 (tadd_0 x y) (tneg_0 y))]) hF H11 rfl (fun w _ => tadd_any (tadd_0 x y) (tneg_0 y) w )) (fun a w hF hW => ?_)
                      refine ls hF hW rfl (y_move hF rfl) (fun a w hF hW => ?_)
                      refine ls hF hW rfl (y_extract (v := Value.int IntKind.i64 (tadd_0 (tadd_0 x y) (tneg_0 y))) hF rfl rfl) (fun a w hF hW => ?_)
                      refine ls hF hW rfl (y_extract (v := Value.int IntKind.i64 (tadd_1 (tadd_0 x y) (tneg_0 y))) hF rfl rfl) (fun a w hF hW => ?_)
                      refine ls hF hW rfl (y_assign hF rfl) (fun a w hF hW => ?_)
                      refine ls hF hW rfl (y_assign hF rfl) (fun a w hF hW => ?_)
                      refine ls_nil ?_
                      refine c_then ?_
                      refine c_seq ?_
                      refine reg_list ?_
                      refine ls hF hW rfl (y_move hF rfl) (fun a w hF hW => ?_)
                      refine ls hF hW rfl (y_move hF rfl) (fun a w hF hW => ?_)
                      refine ls hF hW rfl (y_eql hF rfl rfl) (fun a w hF hW => ?_)
                      refine ls hF hW rfl (y_move hF rfl) (fun a w hF hW => ?_)
                      rcases Bool.eq_false_or_eq_true (decide ((tsub_0 (tadd_0 x y) y) = x)) with hb | hb
                      ·
                        have c11 := of_decide_eq_true hb
                        simp only [hb] at hF
                        clear hb
                        refine ls_w hF hW (wanted_y hF rfl rfl rfl rfl) rfl (Nat.le_of_ble_eq_true rfl) (y_move hF rfl) (fun a w hF hW => ?_)
                        refine ls_w hF hW (wanted_y hF rfl rfl rfl rfl) rfl (Nat.le_of_ble_eq_true rfl) (y_eql hF rfl rfl) (fun a w hF hW => ?_)
                        refine ls hF hW rfl (y_pick_t hF rfl rfl rfl) (fun a w hF hW => ?_)
                        refine ls hF hW rfl (y_move hF rfl) (fun a w hF hW => ?_)
                        rcases Bool.eq_false_or_eq_true (decide ((tsub_1 (tadd_0 x y) y) = 0)) with hb | hb
                        ·
                          have c12 := of_decide_eq_true hb
                          simp only [hb] at hF
                          clear hb
                          refine ls_w hF hW (wanted_y hF rfl rfl rfl rfl) rfl (Nat.le_of_ble_eq_true rfl) (y_move hF rfl) (fun a w hF hW => ?_)
                          refine ls_w hF hW (wanted_y hF rfl rfl rfl rfl) rfl (Nat.le_of_ble_eq_true rfl) (y_eql hF rfl rfl) (fun a w hF hW => ?_)
                          refine ls hF hW rfl (y_pick_t hF rfl rfl rfl) (fun a w hF hW => ?_)
                          refine ls hF hW rfl (y_move hF rfl) (fun a w hF hW => ?_)
                          rcases Bool.eq_false_or_eq_true (decide ((tneg_1 y) = 0)) with hb | hb
                          ·
                            have c13 := of_decide_eq_true hb
                            simp only [hb] at hF
                            clear hb
                            refine ls_w hF hW (wanted_y hF rfl rfl rfl rfl) rfl (Nat.le_of_ble_eq_true rfl) (y_move hF rfl) (fun a w hF hW => ?_)
                            refine ls_w hF hW (wanted_y hF rfl rfl rfl rfl) rfl (Nat.le_of_ble_eq_true rfl) (y_move hF rfl) (fun a w hF hW => ?_)
                            refine ls_w hF hW (wanted_y hF rfl rfl rfl rfl) rfl (Nat.le_of_ble_eq_true rfl) (y_eql hF rfl rfl) (fun a w hF hW => ?_)
                            refine ls hF hW rfl (y_pick_t hF rfl rfl rfl) (fun a w hF hW => ?_)
                            refine ls hF hW rfl (y_move hF rfl) (fun a w hF hW => ?_)
                            rcases Bool.eq_false_or_eq_true (decide ((tadd_0 (tadd_0 x y) (tneg_0 y)) = x)) with hb | hb
                            ·
                              have c14 := of_decide_eq_true hb
                              simp only [hb] at hF
                              clear hb
                              refine ls_w hF hW (wanted_y hF rfl rfl rfl rfl) rfl (Nat.le_of_ble_eq_true rfl) (y_move hF rfl) (fun a w hF hW => ?_)
                              refine ls_w hF hW (wanted_y hF rfl rfl rfl rfl) rfl (Nat.le_of_ble_eq_true rfl) (y_eql hF rfl rfl) (fun a w hF hW => ?_)
                              refine ls hF hW rfl (y_pick_t hF rfl rfl rfl) (fun a w hF hW => ?_)
                              refine ls hF hW rfl (y_move hF rfl) (fun a w hF hW => ?_)
                              rcases Bool.eq_false_or_eq_true (decide ((tadd_1 (tadd_0 x y) (tneg_0 y)) = 0)) with hb | hb
                              ·
                                have c15 := of_decide_eq_true hb
                                simp only [hb] at hF
                                clear hb
                                refine ls_w hF hW (wanted_y hF rfl rfl rfl rfl) rfl (Nat.le_of_ble_eq_true rfl) (y_call (v := Value.bool awake1) hF H23 rfl (fun w _ => awake1_any  w )) (fun a w hF hW => ?_)
                                refine ls hF hW rfl (y_pick_t hF rfl rfl rfl) (fun a w hF hW => ?_)
                                refine ls hF hW rfl (y_assign hF rfl) (fun a w hF hW => ?_)
                                refine ls_nil ?_
                                refine c_then ?_
                                refine wp_ret ?_
                                refine post1 (.inl rfl) hF hW rfl (rv_tmp hF rfl) ?_
                                exact ⟨congrArg Ending.returned (vbool (show (awake1) = tickBack x y by rw [tickBack, if_neg c1, if_neg c2, if_neg c3, if_neg c4, if_neg c5, if_neg c6, if_pos c7, if_neg c8, if_neg c9, if_neg c10, if_pos c11, if_pos c12, if_pos c13, if_pos c14, if_pos c15])), hW.frm.below⟩
                              ·
                                have c15 := of_decide_eq_false hb
                                simp only [hb] at hF
                                clear hb
                                refine ls_skip hF (wanted_n hF rfl rfl rfl rfl rfl) rfl rfl (fun a hF => ?_)
                                refine ls hF hW rfl (y_pick_f hF rfl rfl rfl) (fun a w hF hW => ?_)
                                refine ls hF hW rfl (y_assign hF rfl) (fun a w hF hW => ?_)
                                refine ls_nil ?_
                                refine c_then ?_
                                refine wp_ret ?_
                                refine post1 (.inl rfl) hF hW rfl (rv_tmp hF rfl) ?_
                                exact ⟨congrArg Ending.returned (vbool (show (false) = tickBack x y by rw [tickBack, if_neg c1, if_neg c2, if_neg c3, if_neg c4, if_neg c5, if_neg c6, if_pos c7, if_neg c8, if_neg c9, if_neg c10, if_pos c11, if_pos c12, if_pos c13, if_pos c14, if_neg c15])), hW.frm.below⟩
                            ·
                              have c14 := of_decide_eq_false hb
                              simp only [hb] at hF
                              clear hb
                              refine ls_skip hF (wanted_n hF rfl rfl rfl rfl rfl) rfl rfl (fun a hF => ?_)
                              refine ls_skip hF (wanted_n hF rfl rfl rfl rfl rfl) rfl rfl (fun a hF => ?_)
                              refine ls hF hW rfl (y_pick_f hF rfl rfl rfl) (fun a w hF hW => ?_)
                              refine ls hF hW rfl (y_move hF rfl) (fun a w hF hW => ?_)
                              refine ls_skip hF (wanted_n hF rfl rfl rfl rfl rfl) rfl rfl (fun a hF => ?_)
                              refine ls hF hW rfl (y_pick_f hF rfl rfl rfl) (fun a w hF hW => ?_)
                              refine ls hF hW rfl (y_assign hF rfl) (fun a w hF hW => ?_)
                              refine ls_nil ?_
                              refine c_then ?_
                              refine wp_ret ?_
                              refine post1 (.inl rfl) hF hW rfl (rv_tmp hF rfl) ?_
                              exact ⟨congrArg Ending.returned (vbool (show (false) = tickBack x y by rw [tickBack, if_neg c1, if_neg c2, if_neg c3, if_neg c4, if_neg c5, if_neg c6, if_pos c7, if_neg c8, if_neg c9, if_neg c10, if_pos c11, if_pos c12, if_pos c13, if_neg c14])), hW.frm.below⟩
                          ·
                            have c13 := of_decide_eq_false hb
                            simp only [hb] at hF
                            clear hb
                            refine ls_skip hF (wanted_n hF rfl rfl rfl rfl rfl) rfl rfl (fun a hF => ?_)
                            refine ls_skip hF (wanted_n hF rfl rfl rfl rfl rfl) rfl rfl (fun a hF => ?_)
                            refine ls_skip hF (wanted_n hF rfl rfl rfl rfl rfl) rfl rfl (fun a hF => ?_)
                            refine ls hF hW rfl (y_pick_f hF rfl rfl rfl) (fun a w hF hW => ?_)
                            refine ls hF hW rfl (y_move hF rfl) (fun a w hF hW => ?_)
                            refine ls_skip hF (wanted_n hF rfl rfl rfl rfl rfl) rfl rfl (fun a hF => ?_)
                            refine ls_skip hF (wanted_n hF rfl rfl rfl rfl rfl) rfl rfl (fun a hF => ?_)
                            refine ls hF hW rfl (y_pick_f hF rfl rfl rfl) (fun a w hF hW => ?_)
                            refine ls hF hW rfl (y_move hF rfl) (fun a w hF hW => ?_)
                            refine ls_skip hF (wanted_n hF rfl rfl rfl rfl rfl) rfl rfl (fun a hF => ?_)
                            refine ls hF hW rfl (y_pick_f hF rfl rfl rfl) (fun a w hF hW => ?_)
                            refine ls hF hW rfl (y_assign hF rfl) (fun a w hF hW => ?_)
                            refine ls_nil ?_
                            refine c_then ?_
                            refine wp_ret ?_
                            refine post1 (.inl rfl) hF hW rfl (rv_tmp hF rfl) ?_
                            exact ⟨congrArg Ending.returned (vbool (show (false) = tickBack x y by rw [tickBack, if_neg c1, if_neg c2, if_neg c3, if_neg c4, if_neg c5, if_neg c6, if_pos c7, if_neg c8, if_neg c9, if_neg c10, if_pos c11, if_pos c12, if_neg c13])), hW.frm.below⟩
                        ·
                          have c12 := of_decide_eq_false hb
                          simp only [hb] at hF
                          clear hb
                          refine ls_skip hF (wanted_n hF rfl rfl rfl rfl rfl) rfl rfl (fun a hF => ?_)
                          refine ls_skip hF (wanted_n hF rfl rfl rfl rfl rfl) rfl rfl (fun a hF => ?_)
                          refine ls hF hW rfl (y_pick_f hF rfl rfl rfl) (fun a w hF hW => ?_)
                          refine ls hF hW rfl (y_move hF rfl) (fun a w hF hW => ?_)
                          refine ls_skip hF (wanted_n hF rfl rfl rfl rfl rfl) rfl rfl (fun a hF => ?_)
                          refine ls_skip hF (wanted_n hF rfl rfl rfl rfl rfl) rfl rfl (fun a hF => ?_)
                          refine ls_skip hF (wanted_n hF rfl rfl rfl rfl rfl) rfl rfl (fun a hF => ?_)
                          refine ls hF hW rfl (y_pick_f hF rfl rfl rfl) (fun a w hF hW => ?_)
                          refine ls hF hW rfl (y_move hF rfl) (fun a w hF hW => ?_)
                          refine ls_skip hF (wanted_n hF rfl rfl rfl rfl rfl) rfl rfl (fun a hF => ?_)
                          refine ls_skip hF (wanted_n hF rfl rfl rfl rfl rfl) rfl rfl (fun a hF => ?_)
                          refine ls hF hW rfl (y_pick_f hF rfl rfl rfl) (fun a w hF hW => ?_)
                          refine ls hF hW rfl (y_move hF rfl) (fun a w hF hW => ?_)
                          refine ls_skip hF (wanted_n hF rfl rfl rfl rfl rfl) rfl rfl (fun a hF => ?_)
                          refine ls hF hW rfl (y_pick_f hF rfl rfl rfl) (fun a w hF hW => ?_)
                          refine ls hF hW rfl (y_assign hF rfl) (fun a w hF hW => ?_)
                          refine ls_nil ?_
                          refine c_then ?_
                          refine wp_ret ?_
                          refine post1 (.inl rfl) hF hW rfl (rv_tmp hF rfl) ?_
                          exact ⟨congrArg Ending.returned (vbool (show (false) = tickBack x y by rw [tickBack, if_neg c1, if_neg c2, if_neg c3, if_neg c4, if_neg c5, if_neg c6, if_pos c7, if_neg c8, if_neg c9, if_neg c10, if_pos c11, if_neg c12])), hW.frm.below⟩
                      ·
                        have c11 := of_decide_eq_false hb
                        simp only [hb] at hF
                        clear hb
                        refine ls_skip hF (wanted_n hF rfl rfl rfl rfl rfl) rfl rfl (fun a hF => ?_)
                        refine ls_skip hF (wanted_n hF rfl rfl rfl rfl rfl) rfl rfl (fun a hF => ?_)
                        refine ls hF hW rfl (y_pick_f hF rfl rfl rfl) (fun a w hF hW => ?_)
                        refine ls hF hW rfl (y_move hF rfl) (fun a w hF hW => ?_)
                        refine ls_skip hF (wanted_n hF rfl rfl rfl rfl rfl) rfl rfl (fun a hF => ?_)
                        refine ls_skip hF (wanted_n hF rfl rfl rfl rfl rfl) rfl rfl (fun a hF => ?_)
                        refine ls hF hW rfl (y_pick_f hF rfl rfl rfl) (fun a w hF hW => ?_)
                        refine ls hF hW rfl (y_move hF rfl) (fun a w hF hW => ?_)
                        refine ls_skip hF (wanted_n hF rfl rfl rfl rfl rfl) rfl rfl (fun a hF => ?_)
                        refine ls_skip hF (wanted_n hF rfl rfl rfl rfl rfl) rfl rfl (fun a hF => ?_)
                        refine ls_skip hF (wanted_n hF rfl rfl rfl rfl rfl) rfl rfl (fun a hF => ?_)
                        refine ls hF hW rfl (y_pick_f hF rfl rfl rfl) (fun a w hF hW => ?_)
                        refine ls hF hW rfl (y_move hF rfl) (fun a w hF hW => ?_)
                        refine ls_skip hF (wanted_n hF rfl rfl rfl rfl rfl) rfl rfl (fun a hF => ?_)
                        refine ls_skip hF (wanted_n hF rfl rfl rfl rfl rfl) rfl rfl (fun a hF => ?_)
                        refine ls hF hW rfl (y_pick_f hF rfl rfl rfl) (fun a w hF hW => ?_)
                        refine ls hF hW rfl (y_move hF rfl) (fun a w hF hW => ?_)
                        refine ls_skip hF (wanted_n hF rfl rfl rfl rfl rfl) rfl rfl (fun a hF => ?_)
                        refine ls hF hW rfl (y_pick_f hF rfl rfl rfl) (fun a w hF hW => ?_)
                        refine ls hF hW rfl (y_assign hF rfl) (fun a w hF hW => ?_)
                        refine ls_nil ?_
                        refine c_then ?_
                        refine wp_ret ?_
                        refine post1 (.inl rfl) hF hW rfl (rv_tmp hF rfl) ?_
                        exact ⟨congrArg Ending.returned (vbool (show (false) = tickBack x y by rw [tickBack, if_neg c1, if_neg c2, if_neg c3, if_neg c4, if_neg c5, if_neg c6, if_pos c7, if_neg c8, if_neg c9, if_neg c10, if_neg c11])), hW.frm.below⟩
              ·
                have c7 := of_decide_eq_false hb
                simp only [hb] at hF
                clear hb
                refine ls_skip hF (wanted_n hF rfl rfl rfl rfl rfl) rfl rfl (fun a hF => ?_)
                refine ls_skip hF (wanted_n hF rfl rfl rfl rfl rfl) rfl rfl (fun a hF => ?_)
                refine ls_w hF hW (wanted_y hF rfl rfl rfl rfl) rfl (Nat.le_of_ble_eq_true rfl) (y_pick_f hF rfl rfl rfl) (fun a w hF hW => ?_)
                refine ls hF hW rfl (y_pick_f hF rfl rfl rfl) (fun a w hF hW => ?_)
                refine ls hF hW rfl (y_move hF rfl) (fun a w hF hW => ?_)
                refine ls_w hF hW (wanted_y hF rfl rfl rfl rfl) rfl (Nat.le_of_ble_eq_true rfl) (y_move hF rfl) (fun a w hF hW => ?_)
                refine ls_w hF hW (wanted_y hF rfl rfl rfl rfl) rfl (Nat.le_of_ble_eq_true rfl) (y_neq hF rfl rfl) (fun a w hF hW => ?_)
                refine ls_w hF hW (wanted_y hF rfl rfl rfl rfl) rfl (Nat.le_of_ble_eq_true rfl) (y_move hF rfl) (fun a w hF hW => ?_)
                rcases Bool.eq_false_or_eq_true (decide ((tmul_1 x y) ≠ 0)) with hb | hb
                ·
                  have c8 := of_decide_eq_true hb
                  simp only [hb] at hF
                  clear hb
                  refine ls_w hF hW (wanted_y hF rfl rfl rfl rfl) rfl (Nat.le_of_ble_eq_true rfl) (y_move hF rfl) (fun a w hF hW => ?_)
                  refine ls_w hF hW (wanted_y hF rfl rfl rfl rfl) rfl (Nat.le_of_ble_eq_true rfl) (y_neq hF rfl rfl) (fun a w hF hW => ?_)
                  refine ls_w hF hW (wanted_y hF rfl rfl rfl rfl) rfl (Nat.le_of_ble_eq_true rfl) (y_pick_t hF rfl rfl rfl) (fun a w hF hW => ?_)
                  refine ls hF hW rfl (y_pick_f hF rfl rfl rfl) (fun a w hF hW => ?_)
                  refine ls_nil ?_
                  refine c_then ?_
                  refine c_cond hF rfl (fun hb => ?_) (fun hb => ?_)
                  ·
                    have c9 := of_decide_eq_true hb
                    simp only [hb] at hF
                    clear hb
                    refine c_seq ?_
                    refine reg_list ?_
                    refine ls hF hW rfl (y_assign hF rfl) (fun a w hF hW => ?_)
                    refine ls_nil ?_
                    refine c_then ?_
                    refine wp_ret ?_
                    refine r_then ?_
                    refine post1 (.inl rfl) hF hW rfl (rv_tmp hF rfl) ?_
                    exact ⟨congrArg Ending.returned (vbool (show (false) = tickBack x y by rw [tickBack, if_neg c1, if_neg c2, if_neg c3, if_neg c4, if_neg c5, if_neg c6, if_neg c7, if_pos c8, if_pos c9])), hW.frm.below⟩
                  ·
                    have c9 := of_decide_eq_false hb
                    simp only [hb] at hF
                    clear hb
                    refine wp_skip ?_
                    refine c_then ?_
                    refine c_seq ?_
                    refine c_seq ?_
                    refine reg_list ?_
                    refine ls hF hW rfl (y_move hF rfl) (fun a w hF hW => ?_)
                    refine ls hF hW rfl (y_neq hF rfl rfl) (fun a w hF hW => ?_)
                    refine ls_nil ?_
                    refine c_then ?_
                    refine c_cond hF rfl (fun hb => ?_) (fun hb => ?_)
                    ·
                      have c10 := of_decide_eq_true hb
                      simp only [hb] at hF
                      clear hb
                      refine c_seq ?_
                      refine reg_list ?_
                      refine ls hF hW rfl (y_move hF rfl) (fun a w hF hW => ?_)
                      refine ls hF hW rfl (y_eql hF rfl rfl) (fun a w hF hW => ?_)
                      refine ls hF hW rfl (y_move hF rfl) (fun a w hF hW => ?_)
                      rcases Bool.eq_false_or_eq_true (decide ((tadd_1 x y) = 11)) with hb | hb
                      ·
                        have c11 := of_decide_eq_true hb
                        simp only [hb] at hF
                        clear hb
                        refine ls_w hF hW (wanted_y hF rfl rfl rfl rfl) rfl (Nat.le_of_ble_eq_true rfl) (y_call (v := Value.bool awake1) hF H23 rfl (fun w _ => awake1_any  w )) (fun a w hF hW => ?_)
                        refine ls hF hW rfl (y_pick_t hF rfl rfl rfl) (fun a w hF hW => ?_)
                        refine ls hF hW rfl (y_assign hF rfl) (fun a w hF hW => ?_)
                        refine ls_nil ?_
                        refine c_then ?_
                        refine wp_ret ?_
                        refine r_then ?_
                        refine post1 (.inl rfl) hF hW rfl (rv_tmp hF rfl) ?_
                        exact ⟨congrArg Ending.returned (vbool (show (awake1) = tickBack x y by rw [tickBack, if_neg c1, if_neg c2, if_neg c3, if_neg c4, if_neg c5, if_neg c6, if_neg c7, if_pos c8, if_neg c9, if_pos c10, if_pos c11])), hW.frm.below⟩
                      ·
                        have c11 := of_decide_eq_false hb
                        simp only [hb] at hF
                        clear hb
                        refine ls_skip hF (wanted_n hF rfl rfl rfl rfl rfl) rfl rfl (fun a hF => ?_)
                        refine ls hF hW rfl (y_pick_f hF rfl rfl rfl) (fun a w hF hW => ?_)
                        refine ls hF hW rfl (y_assign hF rfl) (fun a w hF hW => ?_)
                        refine ls_nil ?_
                        refine c_then ?_
                        refine wp_ret ?_
                        refine r_then ?_
                        refine post1 (.inl rfl) hF hW rfl (rv_tmp hF rfl) ?_
                        exact ⟨congrArg Ending.returned (vbool (show (false) = tickBack x y by rw [tickBack, if_neg c1, if_neg c2, if_neg c3, if_neg c4, if_neg c5, if_neg c6, if_neg c7, if_pos c8, if_neg c9, if_pos c10, if_neg c11])), hW.frm.below⟩
                    ·
                      have c10 := of_decide_eq_false hb
                      simp only [hb] at hF
                      clear hb
                      refine wp_skip ?_
                      refine c_then ?_
                      refine c_seq ?_
                      refine reg_list ?_
                      refine ls hF hW rfl (y_move hF rfl) (fun a w hF hW => ?_)
                      refine ls hF hW rfl (y_move hF rfl) (fun a w hF hW => ?_)
                      refine ls hF hW rfl (y_call (v := Value.tuple #[Value.int IntKind.i64 (tsub_0 (tadd_0 x y) y), Value.int IntKind.i64 (tsub_1 (tadd_0 x y) y)]) hF H13 rfl (fun w _ => tsub_any (tadd_0 x y) y w )) (fun a w hF hW => ?_)
                      refine ls hF hW rfl (y_move hF rfl) (fun a w hF hW => ?_)
                      refine ls hF hW rfl (y_extract (v := Value.int IntKind.i64 (tsub_0 (tadd_0 x y) y)) hF rfl rfl) (fun a w hF hW => ?_)
                      refine ls hF hW rfl (y_extract (v := Value.int IntKind.i64 (tsub_1 (tadd_0 x y) y)) hF rfl rfl) (fun a w hF hW => ?_)
                      refine ls hF hW rfl (y_assign hF rfl) (fun a w hF hW => ?_)
                      refine ls hF hW rfl (y_assign hF rfl) (fun a w hF hW => ?_)
                      refine ls_nil ?_
                      refine c_then ?_
                      refine c_seq ?_
                      refine reg_list ?_
                      refine ls hF hW rfl (y_move hF rfl) (fun a w hF hW => ?_)
                      refine ls hF hW rfl (y_call (v := Value.tuple #[Value.int IntKind.i64 (tneg_0 y), Value.int IntKind.i64 (tneg_1 y)]) hF H17 rfl (fun w _ => tneg_any y w )) (fun a w hF hW => ?_)
                      refine ls hF hW rfl (y_move hF rfl) (fun a w hF hW => ?_)
                      refine ls hF hW rfl (y_extract (v := Value.int IntKind.i64 (tneg_0 y)) hF rfl rfl) (fun a w hF hW => ?_)
                      refine ls hF hW rfl (y_extract (v := Value.int IntKind.i64 (tneg_1 y)) hF rfl rfl) (fun a w hF hW => ?_)
                      refine ls hF hW rfl (y_assign hF rfl) (fun a w hF hW => ?_)
                      refine ls hF hW rfl (y_assign hF rfl) (fun a w hF hW => ?_)
                      refine ls_nil ?_
                      refine c_then ?_
                      refine c_seq ?_
                      refine reg_list ?_
                      refine ls hF hW rfl (y_move hF rfl) (fun a w hF hW => ?_)
                      refine ls hF hW rfl (y_move hF rfl) (fun a w hF hW => ?_)
                      refine ls hF hW rfl (y_call (v := Value.tuple #[Value.int IntKind.i64 (tadd_0 (tadd_0 x y) (tneg_0 y)), Value.int IntKind.i64 (tadd_1 (tadd_0 x y) (tneg_0 y))]) hF H11 rfl (fun w _ => tadd_any (tadd_0 x y) (tneg_0 y) w )) (fun a w hF hW => ?_)
                      refine ls hF hW rfl (y_move hF rfl) (fun a w hF hW => ?_)
                      refine ls hF hW rfl (y_extract (v := Value.int IntKind.i64 (tadd_0 (tadd_0 x y) (tneg_0 y))) hF rfl rfl) (fun a w hF hW => ?_)
                      refine ls hF hW rfl (y_extract (v := Value.int IntKind.i64 (tadd_1 (tadd_0 x y) (tneg_0 y))) hF rfl rfl) (fun a w hF hW => ?_)
                      refine ls hF hW rfl (y_assign hF rfl) (fun a w hF hW => ?_)
                      refine ls hF hW rfl (y_assign hF rfl) (fun a w hF hW => ?_)
                      refine ls_nil ?_
                      refine c_then ?_
                      refine c_seq ?_
                      refine reg_list ?_
                      refine ls hF hW rfl (y_move hF rfl) (fun a w hF hW => ?_)
                      refine ls hF hW rfl (y_move hF rfl) (fun a w hF hW => ?_)
                      refine ls hF hW rfl (y_eql hF rfl rfl) (fun a w hF hW => ?_)
                      refine ls hF hW rfl (y_move hF rfl) (fun a w hF hW => ?_)
                      rcases Bool.eq_false_or_eq_true (decide ((tsub_0 (tadd_0 x y) y) = x)) with hb | hb
                      ·
                        have c11 := of_decide_eq_true hb
                        simp only [hb] at hF
                        clear hb
                        refine ls_w hF hW (wanted_y hF rfl rfl rfl rfl) rfl (Nat.le_of_ble_eq_true rfl) (y_move hF rfl) (fun a w hF hW => ?_)
                        refine ls_w hF hW (wanted_y hF rfl rfl rfl rfl) rfl (Nat.le_of_ble_eq_true rfl) (y_eql hF rfl rfl) (fun a w hF hW => ?_)
                        refine ls hF hW rfl (y_pick_t hF rfl rfl rfl) (fun a w hF hW => ?_)
                        refine ls hF hW rfl (y_move hF rfl) (fun a w hF hW => ?_)
                        rcases Bool.eq_false_or_eq_true (decide ((tsub_1 (tadd_0 x y) y) = 0)) with hb | hb
                        ·
                          have c12 := of_decide_eq_true hb
                          simp only [hb] at hF
                          clear hb
                          refine ls_w hF hW (wanted_y hF rfl rfl rfl rfl) rfl (Nat.le_of_ble_eq_true rfl) (y_move hF rfl) (fun a w hF hW => ?_)
                          refine ls_w hF hW (wanted_y hF rfl rfl rfl rfl) rfl (Nat.le_of_ble_eq_true rfl) (y_eql hF rfl rfl) (fun a w hF hW => ?_)
                          refine ls hF hW rfl (y_pick_t hF rfl rfl rfl) (fun a w hF hW => ?_)
                          refine ls hF hW rfl (y_move hF rfl) (fun a w hF hW => ?_)
                          rcases Bool.eq_false_or_eq_true (decide ((tneg_1 y) = 0)) with hb | hb
                          ·
                            have c13 := of_decide_eq_true hb
                            simp only [hb] at hF
                            clear hb
                            refine ls_w hF hW (wanted_y hF rfl rfl rfl rfl) rfl (Nat.le_of_ble_eq_true rfl) (y_move hF rfl) (fun a w hF hW => ?_)
                            refine ls_w hF hW (wanted_y hF rfl rfl rfl rfl) rfl (Nat.le_of_ble_eq_true rfl) (y_move hF rfl) (fun a w hF hW => ?_)
                            refine ls_w hF hW (wanted_y hF rfl rfl rfl rfl) rfl (Nat.le_of_ble_eq_true rfl) (y_eql hF rfl rfl) (fun a w hF hW => ?_)
                            refine ls hF hW rfl (y_pick_t hF rfl rfl rfl) (fun a w hF hW => ?_)
                            refine ls hF hW rfl (y_move hF rfl) (fun a w hF hW => ?_)
                            rcases Bool.eq_false_or_eq_true (decide ((tadd_0 (tadd_0 x y) (tneg_0 y)) = x)) with hb | hb
                            ·
                              have c14 := of_decide_eq_true hb
                              simp only [hb] at hF
                              clear hb
                              refine ls_w hF hW (wanted_y hF rfl rfl rfl rfl) rfl (Nat.le_of_ble_eq_true rfl) (y_move hF rfl) (fun a w hF hW => ?_)
                              refine ls_w hF hW (wanted_y hF rfl rfl rfl rfl) rfl (Nat.le_of_ble_eq_true rfl) (y_eql hF rfl rfl) (fun a w hF hW => ?_)
                              refine ls hF hW rfl (y_pick_t hF rfl rfl rfl) (fun a w hF hW => ?_)
                              refine ls hF hW rfl (y_move hF rfl) (fun a w hF hW => ?_)
                              rcases Bool.eq_false_or_eq_true (decide ((tadd_1 (tadd_0 x y) (tneg_0 y)) = 0)) with hb | hb
                              ·
                                have c15 := of_decide_eq_true hb
                                simp only [hb] at hF
                                clear hb
                                refine ls_w hF hW (wanted_y hF rfl rfl rfl rfl) rfl (Nat.le_of_ble_eq_true rfl) (y_call (v := Value.bool awake1) hF H23 rfl (fun w _ => awake1_any  w )) (fun a w hF hW => ?_)
                                refine ls hF hW rfl (y_pick_t hF rfl rfl rfl) (fun a w hF hW => ?_)
                                refine ls hF hW rfl (y_assign hF rfl) (fun a w hF hW => ?_)
                                refine ls_nil ?_
                                refine c_then ?_
                                refine wp_ret ?_
                                refine post1 (.inl rfl) hF hW rfl (rv_tmp hF rfl) ?_
                                exact ⟨congrArg Ending.returned (vbool (show (awake1) = tickBack x y by rw [tickBack, if_neg c1, if_neg c2, if_neg c3, if_neg c4, if_neg c5, if_neg c6, if_neg c7, if_pos c8, if_neg c9, if_neg c10, if_pos c11, if_pos c12, if_pos c13, if_pos c14, if_pos c15])), hW.frm.below⟩
                              ·
                                have c15 := of_decide_eq_false hb
                                simp only [hb] at hF
                                clear hb
                                refine ls_skip hF (wanted_n hF rfl rfl rfl rfl rfl) rfl rfl (fun a hF => ?_)
                                refine ls hF hW rfl (y_pick_f hF rfl rfl rfl) (fun a w hF hW => ?_)
                                refine ls hF hW rfl (y_assign hF rfl) (fun a w hF hW => ?_)
                                refine ls_nil ?_
                                refine c_then ?_
                                refine wp_ret ?_
                                refine post1 (.inl rfl) hF hW rfl (rv_tmp hF rfl) ?_
                                exact ⟨congrArg Ending.returned (vbool (show (false) = tickBack x y by rw [tickBack, if_neg c1, if_neg c2, if_neg c3, if_neg c4, if_neg c5, if_neg c6, if_neg c7, if_pos c8, if_neg c9, if_neg c10, if_pos c11, if_pos c12, if_pos c13, if_pos c14, if_neg c15])), hW.frm.below⟩
                            ·
                              have c14 := of_decide_eq_false hb
                              simp only [hb] at hF
                              clear hb
                              refine ls_skip hF (wanted_n hF rfl rfl rfl rfl rfl) rfl rfl (fun a hF => ?_)
                              refine ls_skip hF (wanted_n hF rfl rfl rfl rfl rfl) rfl rfl (fun a hF => ?_)
                              refine ls hF hW rfl (y_pick_f hF rfl rfl rfl) (fun a w hF hW => ?_)
                              refine ls hF hW rfl (y_move hF rfl) (fun a w hF hW => ?_)
                              refine ls_skip hF (wanted_n hF rfl rfl rfl rfl rfl) rfl rfl (fun a hF => ?_)
                              refine ls hF hW rfl (y_pick_f hF rfl rfl rfl) (fun a w hF hW => ?_)
                              refine ls hF hW rfl (y_assign hF rfl) (fun a w hF hW => ?_)
                              refine ls_nil ?_
                              refine c_then ?_
                              refine wp_ret ?_
                              refine post1 (.inl rfl) hF hW rfl (rv_tmp hF rfl) ?_
                              exact ⟨congrArg Ending.returned (vbool (show (false) = tickBack x y by rw [tickBack, if_neg c1, if_neg c2, if_neg c3, if_neg c4, if_neg c5, if_neg c6, if_neg c7, if_pos c8, if_neg c9, if_neg c10, if_pos c11, if_pos c12, if_pos c13, if_neg c14])), hW.frm.below⟩
                          ·
                            have c13 := of_decide_eq_false hb
                            simp only [hb] at hF
                            clear hb
                            refine ls_skip hF (wanted_n hF rfl rfl rfl rfl rfl) rfl rfl (fun a hF => ?_)
                            refine ls_skip hF (wanted_n hF rfl rfl rfl rfl rfl) rfl rfl (fun a hF => ?_)
                            refine ls_skip hF (wanted_n hF rfl rfl rfl rfl rfl) rfl rfl (fun a hF => ?_)
                            refine ls hF hW rfl (y_pick_f hF rfl rfl rfl) (fun a w hF hW => ?_)
                            refine ls hF hW rfl (y_move hF rfl) (fun a w hF hW => ?_)
                            refine ls_skip hF (wanted_n hF rfl rfl rfl rfl rfl) rfl rfl (fun a hF => ?_)
                            refine ls_skip hF (wanted_n hF rfl rfl rfl rfl rfl) rfl rfl (fun a hF => ?_)
                            refine ls hF hW rfl (y_pick_f hF rfl rfl rfl) (fun a w hF hW => ?_)
                            refine ls hF hW rfl (y_move hF rfl) (fun a w hF hW => ?_)
                            refine ls_skip hF (wanted_n hF rfl rfl rfl rfl rfl) rfl rfl (fun a hF => ?_)
                            refine ls hF hW rfl (y_pick_f hF rfl rfl rfl) (fun a w hF hW => ?_)
                            refine ls hF hW rfl (y_assign hF rfl) (fun a w hF hW => ?_)
                            refine ls_nil ?_
                            refine c_then ?_
                            refine wp_ret ?_
                            refine post1 (.inl rfl) hF hW rfl (rv_tmp hF rfl) ?_
                            exact ⟨congrArg Ending.returned (vbool (show (false) = tickBack x y by rw [tickBack, if_neg c1, if_neg c2, if_neg c3, if_neg c4, if_neg c5, if_neg c6, if_neg c7, if_pos c8, if_neg c9, if_neg c10, if_pos c11, if_pos c12, if_neg c13])), hW.frm.below⟩
                        ·
                          have c12 := of_decide_eq_false hb
                          simp only [hb] at hF
                          clear hb
                          refine ls_skip hF (wanted_n hF rfl rfl rfl rfl rfl) rfl rfl (fun a hF => ?_)
                          refine ls_skip hF (wanted_n hF rfl rfl rfl rfl rfl) rfl rfl (fun a hF => ?_)
                          refine ls hF hW rfl (y_pick_f hF rfl rfl rfl) (fun a w hF hW => ?_)
                          refine ls hF hW rfl (y_move hF rfl) (fun a w hF hW => ?_)
                          refine ls_skip hF (wanted_n hF rfl rfl rfl rfl rfl) rfl rfl (fun a hF => ?_)
                          refine ls_skip hF (wanted_n hF rfl rfl rfl rfl rfl) rfl rfl (fun a hF => ?_)
                          refine ls_skip hF (wanted_n hF rfl rfl rfl rfl rfl) rfl rfl (fun a hF => ?_)
                          refine ls hF hW rfl (y_pick_f hF rfl rfl rfl) (fun a w hF hW => ?_)
                          refine ls hF hW rfl (y_move hF rfl) (fun a w hF hW => ?_)
                          refine ls_skip hF (wanted_n hF rfl rfl rfl rfl rfl) rfl rfl (fun a hF => ?_)
                          refine ls_skip hF (wanted_n hF rfl rfl rfl rfl rfl) rfl rfl (fun a hF => ?_)
                          refine ls hF hW rfl (y_pick_f hF rfl rfl rfl) (fun a w hF hW => ?_)
                          refine ls hF hW rfl (y_move hF rfl) (fun a w hF hW => ?_)
                          refine ls_skip hF (wanted_n hF rfl rfl rfl rfl rfl) rfl rfl (fun a hF => ?_)
                          refine ls hF hW rfl (y_pick_f hF rfl rfl rfl) (fun a w hF hW => ?_)
                          refine ls hF hW rfl (y_assign hF rfl) (fun a w hF hW => ?_)
                          refine ls_nil ?_
                          refine c_then ?_
                          refine wp_ret ?_
                          refine post1 (.inl rfl) hF hW rfl (rv_tmp hF rfl) ?_
                          exact ⟨congrArg Ending.returned (vbool (show (false) = tickBack x y by rw [tickBack, if_neg c1, if_neg c2, if_neg c3, if_neg c4, if_neg c5, if_neg c6, if_neg c7, if_pos c8, if_neg c9, if_neg c10, if_pos c11, if_neg c12])), hW.frm.below⟩
                      ·
                        have c11 := of_decide_eq_false hb
                        simp only [hb] at hF
                        clear hb
                        refine ls_skip hF (wanted_n hF rfl rfl rfl rfl rfl) rfl rfl (fun a hF => ?_)
                        refine ls_skip hF (wanted_n hF rfl rfl rfl rfl rfl) rfl rfl (fun a hF => ?_)
                        refine ls hF hW rfl (y_pick_f hF rfl rfl rfl) (fun a w hF hW => ?_)
                        refine ls hF hW rfl (y_move hF rfl) (fun a w hF hW => ?_)
                        refine ls_skip hF (wanted_n hF rfl rfl rfl rfl rfl) rfl rfl (fun a hF => ?_)
                        refine ls_skip hF (wanted_n hF rfl rfl rfl rfl rfl) rfl rfl (fun a hF => ?_)
                        refine ls hF hW rfl (y_pick_f hF rfl rfl rfl) (fun a w hF hW => ?_)
                        refine ls hF hW rfl (y_move hF rfl) (fun a w hF hW => ?_)
                        refine ls_skip hF (wanted_n hF rfl rfl rfl rfl rfl) rfl rfl (fun a hF => ?_)
                        refine ls_skip hF (wanted_n hF rfl rfl rfl rfl rfl) rfl rfl (fun a hF => ?_)
                        refine ls_skip hF (wanted_n hF rfl rfl rfl rfl rfl) rfl rfl (fun a hF => ?_)
                        refine ls hF hW rfl (y_pick_f hF rfl rfl rfl) (fun a w hF hW => ?_)
                        refine ls hF hW rfl (y_move hF rfl) (fun a w hF hW => ?_)
                        refine ls_skip hF (wanted_n hF rfl rfl rfl rfl rfl) rfl rfl (fun a hF => ?_)
                        refine ls_skip hF (wanted_n hF rfl rfl rfl rfl rfl) rfl rfl (fun a hF => ?_)
                        refine ls hF hW rfl (y_pick_f hF rfl rfl rfl) (fun a w hF hW => ?_)
                        refine ls hF hW rfl (y_move hF rfl) (fun a w hF hW => ?_)
                        refine ls_skip hF (wanted_n hF rfl rfl rfl rfl rfl) rfl rfl (fun a hF => ?_)
                        refine ls hF hW rfl (y_pick_f hF rfl rfl rfl) (fun a w hF hW => ?_)
                        refine ls hF hW rfl (y_assign hF rfl) (fun a w hF hW => ?_)
                        refine ls_nil ?_
                        refine c_then ?_
                        refine wp_ret ?_
                        refine post1 (.inl rfl) hF hW rfl (rv_tmp hF rfl) ?_
                        exact ⟨congrArg Ending.returned (vbool (show (false) = tickBack x y by rw [tickBack, if_neg c1, if_neg c2, if_neg c3, if_neg c4, if_neg c5, if_neg c6, if_neg c7, if_pos c8, if_neg c9, if_neg c10, if_neg c11])), hW.frm.below⟩
                ·
                  have c8 := of_decide_eq_false hb
                  simp only [hb] at hF
                  clear hb
                  refine ls_skip hF (wanted_n hF rfl rfl rfl rfl rfl) rfl rfl (fun a hF => ?_)
                  refine ls_skip hF (wanted_n hF rfl rfl rfl rfl rfl) rfl rfl (fun a hF => ?_)
                  refine ls_w hF hW (wanted_y hF rfl rfl rfl rfl) rfl (Nat.le_of_ble_eq_true rfl) (y_pick_f hF rfl rfl rfl) (fun a w hF hW => ?_)
                  refine ls hF hW rfl (y_pick_f hF rfl rfl rfl) (fun a w hF hW => ?_)
                  refine ls_nil ?_
                  refine c_then ?_
                  refine c_cond_f hF rfl ?_
                  refine wp_skip ?_
                  refine c_then ?_
                  refine c_seq ?_
                  refine c_seq ?_
                  refine reg_list ?_
                  refine ls hF hW rfl (y_move hF rfl) (fun a w hF hW => ?_)
                  refine ls hF hW rfl (y_neq hF rfl rfl) (fun a w hF hW => ?_)
                  refine ls_nil ?_
                  refine c_then ?_
                  refine c_cond hF rfl (fun hb => ?_) (fun hb => ?_)
                  ·
                    have c9 := of_decide_eq_true hb
                    simp only [hb] at hF
                    clear hb
                    refine c_seq ?_
                    refine reg_list ?_
                    refine ls hF hW rfl (y_move hF rfl) (fun a w hF hW => ?_)
                    refine ls hF hW rfl (y_eql hF rfl rfl) (fun a w hF hW => ?_)
                    refine ls hF hW rfl (y_move hF rfl) (fun a w hF hW => ?_)
                    rcases Bool.eq_false_or_eq_true (decide ((tadd_1 x y) = 11)) with hb | hb
                    ·
                      have c10 := of_decide_eq_true hb
                      simp only [hb] at hF
                      clear hb
                      refine ls_w hF hW (wanted_y hF rfl rfl rfl rfl) rfl (Nat.le_of_ble_eq_true rfl) (y_call (v := Value.bool awake1) hF H23 rfl (fun w _ => awake1_any  w )) (fun a w hF hW => ?_)
                      refine ls hF hW rfl (y_pick_t hF rfl rfl rfl) (fun a w hF hW => ?_)
                      refine ls hF hW rfl (y_assign hF rfl) (fun a w hF hW => ?_)
                      refine ls_nil ?_
                      refine c_then ?_
                      refine wp_ret ?_
                      refine r_then ?_
                      refine post1 (.inl rfl) hF hW rfl (rv_tmp hF rfl) ?_
                      exact ⟨congrArg Ending.returned (vbool (show (awake1) = tickBack x y by rw [tickBack, if_neg c1, if_neg c2, if_neg c3, if_neg c4, if_neg c5, if_neg c6, if_neg c7, if_neg c8, if_pos c9, if_pos c10])), hW.frm.below⟩
                    ·
                      have c10 := of_decide_eq_false hb
                      simp only [hb] at hF
                      clear hb
                      refine ls_skip hF (wanted_n hF rfl rfl rfl rfl rfl) rfl rfl (fun a hF => ?_)
                      refine ls hF hW rfl (y_pick_f hF rfl rfl rfl) (fun a w hF hW => ?_)
                      refine ls hF hW rfl (y_assign hF rfl) (fun a w hF hW => ?_)
                      refine ls_nil ?_
                      refine c_then ?_
                      refine wp_ret ?_
                      refine r_then ?_
                      refine post1 (.inl rfl) hF hW rfl (rv_tmp hF rfl) ?_
                      exact ⟨congrArg Ending.returned (vbool (show (false) = tickBack x y by rw [tickBack, if_neg c1, if_neg c2, if_neg c3, if_neg c4, if_neg c5, if_neg c6, if_neg c7, if_neg c8, if_pos c9, if_neg c10])), hW.frm.below⟩
                  ·
                    have c9 := of_decide_eq_false hb
                    simp only [hb] at hF
                    clear hb
                    refine wp_skip ?_
                    refine c_then ?_
                    refine c_seq ?_
                    refine reg_list ?_
                    refine ls hF hW rfl (y_move hF rfl) (fun a w hF hW => ?_)
                    refine ls hF hW rfl (y_move hF rfl) (fun a w hF hW => ?_)
                    refine ls hF hW rfl (y_call (v := Value.tuple #[Value.int IntKind.i64 (tsub_0 (tadd_0 x y) y), Value.int IntKind.i64 (tsub_1 (tadd_0 x y) y)]) hF H13 rfl (fun w _ => tsub_any (tadd_0 x y) y w )) (fun a w hF hW => ?_)
                    refine ls hF hW rfl (y_move hF rfl) (fun a w hF hW => ?_)
                    refine ls hF hW rfl (y_extract (v := Value.int IntKind.i64 (tsub_0 (tadd_0 x y) y)) hF rfl rfl) (fun a w hF hW => ?_)
                    refine ls hF hW rfl (y_extract (v := Value.int IntKind.i64 (tsub_1 (tadd_0 x y) y)) hF rfl rfl) (fun a w hF hW => ?_)
                    refine ls hF hW rfl (y_assign hF rfl) (fun a w hF hW => ?_)
                    refine ls hF hW rfl (y_assign hF rfl) (fun a w hF hW => ?_)
                    refine ls_nil ?_
                    refine c_then ?_
                    refine c_seq ?_
                    refine reg_list ?_
                    refine ls hF hW rfl (y_move hF rfl) (fun a w hF hW => ?_)
                    refine ls hF hW rfl (y_call (v := Value.tuple #[Value.int IntKind.i64 (tneg_0 y), Value.int IntKind.i64 (tneg_1 y)]) hF H17 rfl (fun w _ => tneg_any y w )) (fun a w hF hW => ?_)
                    refine ls hF hW rfl (y_move hF rfl) (fun a w hF hW => ?_)
                    refine ls hF hW rfl (y_extract (v := Value.int IntKind.i64 (tneg_0 y)) hF rfl rfl) (fun a w hF hW => ?_)
                    refine ls hF hW rfl (y_extract (v := Value.int IntKind.i64 (tneg_1 y)) hF rfl rfl) (fun a w hF hW => ?_)
                    refine ls hF hW rfl (y_assign hF rfl) (fun a w hF hW => ?_)
                    refine ls hF hW rfl (y_assign hF rfl) (fun a w hF hW => ?_)
                    refine ls_nil ?_
                    refine c_then ?_
                    refine c_seq ?_
                    refine reg_list ?_
                    refine ls hF hW rfl (y_move hF rfl) (fun a w hF hW => ?_)
                    refine ls hF hW rfl (y_move hF rfl) (fun a w hF hW => ?_)
                    refine ls hF hW rfl (y_call (v := Value.tuple #[Value.int IntKind.i64 (tadd_0 (tadd_0 x y) (tneg_0 y)), Value.int IntKind.i64 (tadd_1 (tadd_0 x y) (tneg_0 y))]) hF H11 rfl (fun w _ => tadd_any (tadd_0 x y) (tneg_0 y) w )) (fun a w hF hW => ?_)
                    refine ls hF hW rfl (y_move hF rfl) (fun a w hF hW => ?_)
                    refine ls hF hW rfl (y_extract (v := Value.int IntKind.i64 (tadd_0 (tadd_0 x y) (tneg_0 y))) hF rfl rfl) (fun a w hF hW => ?_)
                    refine ls hF hW rfl (y_extract (v := Value.int IntKind.i64 (tadd_1 (tadd_0 x y) (tneg_0 y))) hF rfl rfl) (fun a w hF hW => ?_)
                    refine ls hF hW rfl (y_assign hF rfl) (fun a w hF hW => ?_)
                    refine ls hF hW rfl (y_assign hF rfl) (fun a w hF hW => ?_)
                    refine ls_nil ?_
                    refine c_then ?_
                    refine c_seq ?_
                    refine reg_list ?_
                    refine ls hF hW rfl (y_move hF rfl) (fun a w hF hW => ?_)
                    refine ls hF hW rfl (y_move hF rfl) (fun a w hF hW => ?_)
                    refine ls hF hW rfl (y_eql hF rfl rfl) (fun a w hF hW => ?_)
                    refine ls hF hW rfl (y_move hF rfl) (fun a w hF hW => ?_)
                    rcases Bool.eq_false_or_eq_true (decide ((tsub_0 (tadd_0 x y) y) = x)) with hb | hb
                    ·
                      have c10 := of_decide_eq_true hb
                      simp only [hb] at hF
                      clear hb
                      refine ls_w hF hW (wanted_y hF rfl rfl rfl rfl) rfl (Nat.le_of_ble_eq_true rfl) (y_move hF rfl) (fun a w hF hW => ?_)
                      refine ls_w hF hW (wanted_y hF rfl rfl rfl rfl) rfl (Nat.le_of_ble_eq_true rfl) (y_eql hF rfl rfl) (fun a w hF hW => ?_)
                      refine ls hF hW rfl (y_pick_t hF rfl rfl rfl) (fun a w hF hW => ?_)
                      refine ls hF hW rfl (y_move hF rfl) (fun a w hF hW => ?_)
                      rcases Bool.eq_false_or_eq_true (decide ((tsub_1 (tadd_0 x y) y) = 0)) with hb | hb
                      ·
                        have c11 := of_decide_eq_true hb
                        simp only [hb] at hF
                        clear hb
                        refine ls_w hF hW (wanted_y hF rfl rfl rfl rfl) rfl (Nat.le_of_ble_eq_true rfl) (y_move hF rfl) (fun a w hF hW => ?_)
                        refine ls_w hF hW (wanted_y hF rfl rfl rfl rfl) rfl (Nat.le_of_ble_eq_true rfl) (y_eql hF rfl rfl) (fun a w hF hW => ?_)
                        refine ls hF hW rfl (y_pick_t hF rfl rfl rfl) (fun a w hF hW => ?_)
                        refine ls hF hW rfl (y_move hF rfl) (fun a w hF hW => ?_)
                        rcases Bool.eq_false_or_eq_true (decide ((tneg_1 y) = 0)) with hb | hb
                        ·
                          have c12 := of_decide_eq_true hb
                          simp only [hb] at hF
                          clear hb
                          refine ls_w hF hW (wanted_y hF rfl rfl rfl rfl) rfl (Nat.le_of_ble_eq_true rfl) (y_move hF rfl) (fun a w hF hW => ?_)
                          refine ls_w hF hW (wanted_y hF rfl rfl rfl rfl) rfl (Nat.le_of_ble_eq_true rfl) (y_move hF rfl) (fun a w hF hW => ?_)
                          refine ls_w hF hW (wanted_y hF rfl rfl rfl rfl) rfl (Nat.le_of_ble_eq_true rfl) (y_eql hF rfl rfl) (fun a w hF hW => ?_)
                          refine ls hF hW rfl (y_pick_t hF rfl rfl rfl) (fun a w hF hW => ?_)
                          refine ls hF hW rfl (y_move hF rfl) (fun a w hF hW => ?_)
                          rcases Bool.eq_false_or_eq_true (decide ((tadd_0 (tadd_0 x y) (tneg_0 y)) = x)) with hb | hb
                          ·
                            have c13 := of_decide_eq_true hb
                            simp only [hb] at hF
                            clear hb
                            refine ls_w hF hW (wanted_y hF rfl rfl rfl rfl) rfl (Nat.le_of_ble_eq_true rfl) (y_move hF rfl) (fun a w hF hW => ?_)
                            refine ls_w hF hW (wanted_y hF rfl rfl rfl rfl) rfl (Nat.le_of_ble_eq_true rfl) (y_eql hF rfl rfl) (fun a w hF hW => ?_)
                            refine ls hF hW rfl (y_pick_t hF rfl rfl rfl) (fun a w hF hW => ?_)
                            refine ls hF hW rfl (y_move hF rfl) (fun a w hF hW => ?_)
                            rcases Bool.eq_false_or_eq_true (decide ((tadd_1 (tadd_0 x y) (tneg_0 y)) = 0)) with hb | hb
                            ·
                              have c14 := of_decide_eq_true hb
                              simp only [hb] at hF
                              clear hb
                              refine ls_w hF hW (wanted_y hF rfl rfl rfl rfl) rfl (Nat.le_of_ble_eq_true rfl) (y_call (v := Value.bool awake1) hF H23 rfl (fun w _ => awake1_any  w )) (fun a w hF hW => ?_)
                              refine ls hF hW rfl (y_pick_t hF rfl rfl rfl) (fun a w hF hW => ?_)
                              refine ls hF hW rfl (y_assign hF rfl) (fun a w hF hW => ?_)
                              refine ls_nil ?_
                              refine c_then ?_
                              refine wp_ret ?_
                              refine post1 (.inl rfl) hF hW rfl (rv_tmp hF rfl) ?_
                              exact ⟨congrArg Ending.returned (vbool (show (awake1) = tickBack x y by rw [tickBack, if_neg c1, if_neg c2, if_neg c3, if_neg c4, if_neg c5, if_neg c6, if_neg c7, if_neg c8, if_neg c9, if_pos c10, if_pos c11, if_pos c12, if_pos c13, if_pos c14])), hW.frm.below⟩
                            ·
                              have c14 := of_decide_eq_false hb
                              simp only [hb] at hF
                              clear hb
                              refine ls_skip hF (wanted_n hF rfl rfl rfl rfl rfl) rfl rfl (fun a hF => ?_)
                              refine ls hF hW rfl (y_pick_f hF rfl rfl rfl) (fun a w hF hW => ?_)
                              refine ls hF hW rfl (y_assign hF rfl) (fun a w hF hW => ?_)
                              refine ls_nil ?_
                              refine c_then ?_
                              refine wp_ret ?_
                              refine post1 (.inl rfl) hF hW rfl (rv_tmp hF rfl) ?_
                              exact ⟨congrArg Ending.returned (vbool (show (false) = tickBack x y by rw [tickBack, if_neg c1, if_neg c2, if_neg c3, if_neg c4, if_neg c5, if_neg c6, if_neg c7, if_neg c8, if_neg c9, if_pos c10, if_pos c11, if_pos c12, if_pos c13, if_neg c14])), hW.frm.below⟩
                          ·
                            have c13 := of_decide_eq_false hb
                            simp only [hb] at hF
                            clear hb
                            refine ls_skip hF (wanted_n hF rfl rfl rfl rfl rfl) rfl rfl (fun a hF => ?_)
                            refine ls_skip hF (wanted_n hF rfl rfl rfl rfl rfl) rfl rfl (fun a hF => ?_)
                            refine ls hF hW rfl (y_pick_f hF rfl rfl rfl) (fun a w hF hW => ?_)
                            refine ls hF hW rfl (y_move hF rfl) (fun a w hF hW => ?_)
                            refine ls_skip hF (wanted_n hF rfl rfl rfl rfl rfl) rfl rfl (fun a hF => ?_)
                            refine ls hF hW rfl (y_pick_f hF rfl rfl rfl) (fun a w hF hW => ?_)
                            refine ls hF hW rfl (y_assign hF rfl) (fun a w hF hW => ?_)
                            refine ls_nil ?_
                            refine c_then ?_
                            refine wp_ret ?_
                            refine post1 (.inl rfl) hF hW rfl (rv_tmp hF rfl) ?_
                            exact ⟨congrArg Ending.returned (vbool (show (false) = tickBack x y by rw [tickBack, if_neg c1, if_neg c2, if_neg c3, if_neg c4, if_neg c5, if_neg c6, if_neg c7, if_neg c8, if_neg c9, if_pos c10, if_pos c11, if_pos c12, if_neg c13])), hW.frm.below⟩
                        ·
                          have c12 := of_decide_eq_false hb
                          simp only [hb] at hF
                          clear hb
                          refine ls_skip hF (wanted_n hF rfl rfl rfl rfl rfl) rfl rfl (fun a hF => ?_)
                          refine ls_skip hF (wanted_n hF rfl rfl rfl rfl rfl) rfl rfl (fun a hF => ?_)
                          refine ls_skip hF (wanted_n hF rfl rfl rfl rfl rfl) rfl rfl (fun a hF => ?_)
                          refine ls hF hW rfl (y_pick_f hF rfl rfl rfl) (fun a w hF hW => ?_)
                          refine ls hF hW rfl (y_move hF rfl) (fun a w hF hW => ?_)
                          refine ls_skip hF (wanted_n hF rfl rfl rfl rfl rfl) rfl rfl (fun a hF => ?_)
                          refine ls_skip hF (wanted_n hF rfl rfl rfl rfl rfl) rfl rfl (fun a hF => ?_)
                          refine ls hF hW rfl (y_pick_f hF rfl rfl rfl) (fun a w hF hW => ?_)
                          refine ls hF hW rfl (y_move hF rfl) (fun a w hF hW => ?_)
                          refine ls_skip hF (wanted_n hF rfl rfl rfl rfl rfl) rfl rfl (fun a hF => ?_)
                          refine ls hF hW rfl (y_pick_f hF rfl rfl rfl) (fun a w hF hW => ?_)
                          refine ls hF hW rfl (y_assign hF rfl) (fun a w hF hW => ?_)
                          refine ls_nil ?_
                          refine c_then ?_
                          refine wp_ret ?_
                          refine post1 (.inl rfl) hF hW rfl (rv_tmp hF rfl) ?_
                          exact ⟨congrArg Ending.returned (vbool (show (false) = tickBack x y by rw [tickBack, if_neg c1, if_neg c2, if_neg c3, if_neg c4, if_neg c5, if_neg c6, if_neg c7, if_neg c8, if_neg c9, if_pos c10, if_pos c11, if_neg c12])), hW.frm.below⟩
                      ·
                        have c11 := of_decide_eq_false hb
                        simp only [hb] at hF
                        clear hb
                        refine ls_skip hF (wanted_n hF rfl rfl rfl rfl rfl) rfl rfl (fun a hF => ?_)
                        refine ls_skip hF (wanted_n hF rfl rfl rfl rfl rfl) rfl rfl (fun a hF => ?_)
                        refine ls hF hW rfl (y_pick_f hF rfl rfl rfl) (fun a w hF hW => ?_)
                        refine ls hF hW rfl (y_move hF rfl) (fun a w hF hW => ?_)
                        refine ls_skip hF (wanted_n hF rfl rfl rfl rfl rfl) rfl rfl (fun a hF => ?_)
                        refine ls_skip hF (wanted_n hF rfl rfl rfl rfl rfl) rfl rfl (fun a hF => ?_)
                        refine ls_skip hF (wanted_n hF rfl rfl rfl rfl rfl) rfl rfl (fun a hF => ?_)
                        refine ls hF hW rfl (y_pick_f hF rfl rfl rfl) (fun a w hF hW => ?_)
                        refine ls hF hW rfl (y_move hF rfl) (fun a w hF hW => ?_)
                        refine ls_skip hF (wanted_n hF rfl rfl rfl rfl rfl) rfl rfl (fun a hF => ?_)
                        refine ls_skip hF (wanted_n hF rfl rfl rfl rfl rfl) rfl rfl (fun a hF => ?_)
                        refine ls hF hW rfl (y_pick_f hF rfl rfl rfl) (fun a w hF hW => ?_)
                        refine ls hF hW rfl (y_move hF rfl) (fun a w hF hW => ?_)
                        refine ls_skip hF (wanted_n hF rfl rfl rfl rfl rfl) rfl rfl (fun a hF => ?_)
                        refine ls hF hW rfl (y_pick_f hF rfl rfl rfl) (fun a w hF hW => ?_)
                        refine ls hF hW rfl (y_assign hF rfl) (fun a w hF hW => ?_)
                        refine ls_nil ?_
                        refine c_then ?_
                        refine wp_ret ?_
                        refine post1 (.inl rfl) hF hW rfl (rv_tmp hF rfl) ?_
                        exact ⟨congrArg Ending.returned (vbool (show (false) = tickBack x y by rw [tickBack, if_neg c1, if_neg c2, if_neg c3, if_neg c4, if_neg c5, if_neg c6, if_neg c7, if_neg c8, if_neg c9, if_pos c10, if_neg c11])), hW.frm.below⟩
                    ·
                      have c10 := of_decide_eq_false hb
                      simp only [hb] at hF
                      clear hb
                      refine ls_skip hF (wanted_n hF rfl rfl rfl rfl rfl) rfl rfl (fun a hF => ?_)
                      refine ls_skip hF (wanted_n hF rfl rfl rfl rfl rfl) rfl rfl (fun a hF => ?_)
                      refine ls hF hW rfl (y_pick_f hF rfl rfl rfl) (fun a w hF hW => ?_)
                      refine ls hF hW rfl (y_move hF rfl) (fun a w hF hW => ?_)
                      refine ls_skip hF (wanted_n hF rfl rfl rfl rfl rfl) rfl rfl (fun a hF => ?_)
                      refine ls_skip hF (wanted_n hF rfl rfl rfl rfl rfl) rfl rfl (fun a hF => ?_)
                      refine ls hF hW rfl (y_pick_f hF rfl rfl rfl) (fun a w hF hW => ?_)
                      refine ls hF hW rfl (y_move hF rfl) (fun a w hF hW => ?_)
                      refine ls_skip hF (wanted_n hF rfl rfl rfl rfl rfl) rfl rfl (fun a hF => ?_)
                      refine ls_skip hF (wanted_n hF rfl rfl rfl rfl rfl) rfl rfl (fun a hF => ?_)
                      refine ls_skip hF (wanted_n hF rfl rfl rfl rfl rfl) rfl rfl (fun a hF => ?_)
                      refine ls hF hW rfl (y_pick_f hF rfl rfl rfl) (fun a w hF hW => ?_)
                      refine ls hF hW rfl (y_move hF rfl) (fun a w hF hW => ?_)
                      refine ls_skip hF (wanted_n hF rfl rfl rfl rfl rfl) rfl rfl (fun a hF => ?_)
                      refine ls_skip hF (wanted_n hF rfl rfl rfl rfl rfl) rfl rfl (fun a hF => ?_)
                      refine ls hF hW rfl (y_pick_f hF rfl rfl rfl) (fun a w hF hW => ?_)
                      refine ls hF hW rfl (y_move hF rfl) (fun a w hF hW => ?_)
                      refine ls_skip hF (wanted_n hF rfl rfl rfl rfl rfl) rfl rfl (fun a hF => ?_)
                      refine ls hF hW rfl (y_pick_f hF rfl rfl rfl) (fun a w hF hW => ?_)
                      refine ls hF hW rfl (y_assign hF rfl) (fun a w hF hW => ?_)
                      refine ls_nil ?_
                      refine c_then ?_
                      refine wp_ret ?_
                      refine post1 (.inl rfl) hF hW rfl (rv_tmp hF rfl) ?_
                      exact ⟨congrArg Ending.returned (vbool (show (false) = tickBack x y by rw [tickBack, if_neg c1, if_neg c2, if_neg c3, if_neg c4, if_neg c5, if_neg c6, if_neg c7, if_neg c8, if_neg c9, if_neg c10])), hW.frm.below⟩

end Go.Proofs.Ytcnhmbjkippnnaa
