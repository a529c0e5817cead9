/- The walks of layer 1. -/
import Derived.Test.YtcnhmbjkippnnaaA0
namespace Go.Proofs.Ytcnhmbjkippnnaa
open Go Go.RowKit
set_option linter.unusedVariables false
theorem H60 : Has Try.prog 60 := ⟨fun args w => run_callFunc_body Try.func60 rfl (by decide) args w⟩
theorem H62 : Has Try.prog 62 := ⟨fun args w => run_callFunc_body Try.func62 rfl (by decide) args w⟩
def tscale_0 (x : Int) (num : Int) (den : Int) : Int := if num < (-4096) then 0 else if 4096 < num then 0 else if den < 1 then 0 else if 4096 < den then 0 else if -1125899906842624 ≤ x ∧ x ≤ 1125899906842624 then if -1125899906842624 ≤ (fdiv (x * num) den) ∧ (fdiv (x * num) den) ≤ 1125899906842624 then (fdiv (x * num) den) else 0 else 0
def tscale_1 (x : Int) (num : Int) (den : Int) : Int := if num < (-4096) then 2 else if 4096 < num then 2 else if den < 1 then 2 else if 4096 < den then 2 else if -1125899906842624 ≤ x ∧ x ≤ 1125899906842624 then if -1125899906842624 ≤ (fdiv (x * num) den) ∧ (fdiv (x * num) den) ≤ 1125899906842624 then 0 else 11 else 11
theorem tscale_any (x : Int) (num : Int) (den : Int) (w : World)  :
    Calls Try.prog 19 #[Value.int IntKind.i64 x, Value.int IntKind.i64 num, Value.int IntKind.i64 den] w fun e w' => e = .returned (Value.tuple #[Value.int IntKind.i64 (tscale_0 x num den), Value.int IntKind.i64 (tscale_1 x num den)]) ∧ Below w.heap.size w w' := by
  refine enterD Try.func19 rfl Try.ntmps19 rfl (fun a hF => ?_)
  have hW := Stw.start w
  refine c_seq ?_
  refine reg_list ?_
  refine l_alloc (cs := [Value.int IntKind.i64 0]) hF hW rfl Z3 rfl (fun b1 a w hF hW => ?_)
  refine l_alloc (cs := [Value.int IntKind.i64 0]) hF hW rfl Z22 rfl (fun b2 a w hF hW => ?_)
  refine ls_nil ?_
  refine c_then ?_
  refine c_seq ?_
  refine reg_list ?_
  refine ls hF hW rfl (y_makeFunc hF rfl rfl) (fun a w hF hW => ?_)
  refine l_defer hF rfl (fun a hF => ?_)
  refine ls_nil ?_
  refine c_then ?_
  refine c_seq ?_
  refine c_seq ?_
  refine reg_list ?_
  refine ls hF hW rfl (y_move hF rfl) (fun a w hF hW => ?_)
  refine ls hF hW rfl (y_lss hF rfl rfl) (fun a w hF hW => ?_)
  refine ls hF hW rfl (y_move hF rfl) (fun a w hF hW => ?_)
  rcases Bool.eq_false_or_eq_true (decide (num < (-4096))) with hb | hb
  ·
    have c1 := of_decide_eq_true hb
    simp only [hb] at hF
    clear hb
    refine ls_skip hF (wanted_n hF rfl rfl rfl rfl rfl) rfl rfl (fun a hF => ?_)
    refine ls_skip hF (wanted_n hF rfl rfl rfl rfl rfl) rfl rfl (fun a hF => ?_)
    refine ls hF hW rfl (y_pick_t hF rfl rfl rfl) (fun a w hF hW => ?_)
    refine ls hF hW rfl (y_move hF rfl) (fun a w hF hW => ?_)
    refine ls_skip hF (wanted_n hF rfl rfl rfl rfl rfl) rfl rfl (fun a hF => ?_)
    refine ls_skip hF (wanted_n hF rfl rfl rfl rfl rfl) rfl rfl (fun a hF => ?_)
    refine ls hF hW rfl (y_pick_t hF rfl rfl rfl) (fun a w hF hW => ?_)
    refine ls hF hW rfl (y_move hF rfl) (fun a w hF hW => ?_)
    refine ls_skip hF (wanted_n hF rfl rfl rfl rfl rfl) rfl rfl (fun a hF => ?_)
    refine ls_skip hF (wanted_n hF rfl rfl rfl rfl rfl) rfl rfl (fun a hF => ?_)
    refine ls hF hW rfl (y_pick_t hF rfl rfl rfl) (fun a w hF hW => ?_)
    refine ls_nil ?_
    refine c_then ?_
    refine c_cond_t hF rfl ?_
    refine c_seq ?_
    refine reg_list ?_
    refine l_store (vs := [Value.int IntKind.i64 0]) (M' := [(b2, [Value.int IntKind.i64 0]), (b1, [Value.int IntKind.i64 0])]) 1 hF hW rfl rfl rfl T3 rfl rfl rfl rfl rfl (fun w hW => ?_)
    refine l_store (vs := [Value.int IntKind.i64 2]) (M' := [(b2, [Value.int IntKind.i64 2]), (b1, [Value.int IntKind.i64 0])]) 0 hF hW rfl rfl rfl T22 rfl rfl rfl rfl rfl (fun w hW => ?_)
    refine ls_nil ?_
    refine c_then ?_
    refine wp_ret ?_
    refine r_then ?_
    refine postD_ret (.inl rfl) hF ?_
    refine leaves_of H60 (by simp) (cScale_idle b1 b2 _ _ w hW) ?_
    rintro e u' w ⟨rfl, rfl, hW⟩
    refine leaves2 hW rfl (rv_cell (v := Value.int IntKind.i64 0) 1 hF rfl rfl T3 rfl) (rv_cell (v := Value.int IntKind.i64 2) 0 hF rfl rfl T22 rfl) ?_
    exact ⟨congrArg Ending.returned (vtuple (lcons (vint (show (0) = tscale_0 x num den by rw [tscale_0, if_pos c1])) (lcons (vint (show (2) = tscale_1 x num den by rw [tscale_1, if_pos c1])) rfl))), hW.frm.below⟩
  ·
    have c1 := of_decide_eq_false hb
    simp only [hb] at hF
    clear hb
    refine ls_w hF hW (wanted_y hF rfl rfl rfl rfl) rfl (Nat.le_of_ble_eq_true rfl) (y_move hF rfl) (fun a w hF hW => ?_)
    refine ls_w hF hW (wanted_y hF rfl rfl rfl rfl) rfl (Nat.le_of_ble_eq_true rfl) (y_gtr hF rfl rfl) (fun a w hF hW => ?_)
    refine ls hF hW rfl (y_pick_f hF rfl rfl rfl) (fun a w hF hW => ?_)
    refine ls hF hW rfl (y_move hF rfl) (fun a w hF hW => ?_)
    rcases Bool.eq_false_or_eq_true (decide (4096 < num)) with hb | hb
    ·
      have c2 := of_decide_eq_true hb
      simp only [hb] at hF
      clear hb
      refine ls_skip hF (wanted_n hF rfl rfl rfl rfl rfl) rfl rfl (fun a hF => ?_)
      refine ls_skip hF (wanted_n hF rfl rfl rfl rfl rfl) rfl rfl (fun a hF => ?_)
      refine ls hF hW rfl (y_pick_t hF rfl rfl rfl) (fun a w hF hW => ?_)
      refine ls hF hW rfl (y_move hF rfl) (fun a w hF hW => ?_)
      refine ls_skip hF (wanted_n hF rfl rfl rfl rfl rfl) rfl rfl (fun a hF => ?_)
      refine ls_skip hF (wanted_n hF rfl rfl rfl rfl rfl) rfl rfl (fun a hF => ?_)
      refine ls hF hW rfl (y_pick_t hF rfl rfl rfl) (fun a w hF hW => ?_)
      refine ls_nil ?_
      refine c_then ?_
      refine c_cond_t hF rfl ?_
      refine c_seq ?_
      refine reg_list ?_
      refine l_store (vs := [Value.int IntKind.i64 0]) (M' := [(b2, [Value.int IntKind.i64 0]), (b1, [Value.int IntKind.i64 0])]) 1 hF hW rfl rfl rfl T3 rfl rfl rfl rfl rfl (fun w hW => ?_)
      refine l_store (vs := [Value.int IntKind.i64 2]) (M' := [(b2, [Value.int IntKind.i64 2]), (b1, [Value.int IntKind.i64 0])]) 0 hF hW rfl rfl rfl T22 rfl rfl rfl rfl rfl (fun w hW => ?_)
      refine ls_nil ?_
      refine c_then ?_
      refine wp_ret ?_
      refine r_then ?_
      refine postD_ret (.inl rfl) hF ?_
      refine leaves_of H60 (by simp) (cScale_idle b1 b2 _ _ w hW) ?_
      rintro e u' w ⟨rfl, rfl, hW⟩
      refine leaves2 hW rfl (rv_cell (v := Value.int IntKind.i64 0) 1 hF rfl rfl T3 rfl) (rv_cell (v := Value.int IntKind.i64 2) 0 hF rfl rfl T22 rfl) ?_
      exact ⟨congrArg Ending.returned (vtuple (lcons (vint (show (0) = tscale_0 x num den by rw [tscale_0, if_neg c1, if_pos c2])) (lcons (vint (show (2) = tscale_1 x num den by rw [tscale_1, if_neg c1, if_pos c2])) rfl))), hW.frm.below⟩
    ·
      have c2 := of_decide_eq_false hb
      simp only [hb] at hF
      clear hb
      refine ls_w hF hW (wanted_y hF rfl rfl rfl rfl) rfl (Nat.le_of_ble_eq_true rfl) (y_move hF rfl) (fun a w hF hW => ?_)
      refine ls_w hF hW (wanted_y hF rfl rfl rfl rfl) rfl (Nat.le_of_ble_eq_true rfl) (y_lss hF rfl rfl) (fun a w hF hW => ?_)
      refine ls hF hW rfl (y_pick_f hF rfl rfl rfl) (fun a w hF hW => ?_)
      refine ls hF hW rfl (y_move hF rfl) (fun a w hF hW => ?_)
      rcases Bool.eq_false_or_eq_true (decide (den < 1)) with hb | hb
      ·
        have c3 := of_decide_eq_true hb
        simp only [hb] at hF
        clear hb
        refine ls_skip hF (wanted_n hF rfl rfl rfl rfl rfl) rfl rfl (fun a hF => ?_)
        refine ls_skip hF (wanted_n hF rfl rfl rfl rfl rfl) rfl rfl (fun a hF => ?_)
        refine ls hF hW rfl (y_pick_t hF rfl rfl rfl) (fun a w hF hW => ?_)
        refine ls_nil ?_
        refine c_then ?_
        refine c_cond_t hF rfl ?_
        refine c_seq ?_
        refine reg_list ?_
        refine l_store (vs := [Value.int IntKind.i64 0]) (M' := [(b2, [Value.int IntKind.i64 0]), (b1, [Value.int IntKind.i64 0])]) 1 hF hW rfl rfl rfl T3 rfl rfl rfl rfl rfl (fun w hW => ?_)
        refine l_store (vs := [Value.int IntKind.i64 2]) (M' := [(b2, [Value.int IntKind.i64 2]), (b1, [Value.int IntKind.i64 0])]) 0 hF hW rfl rfl rfl T22 rfl rfl rfl rfl rfl (fun w hW => ?_)
        refine ls_nil ?_
        refine c_then ?_
        refine wp_ret ?_
        refine r_then ?_
        refine postD_ret (.inl rfl) hF ?_
        refine leaves_of H60 (by simp) (cScale_idle b1 b2 _ _ w hW) ?_
        rintro e u' w ⟨rfl, rfl, hW⟩
        refine leaves2 hW rfl (rv_cell (v := Value.int IntKind.i64 0) 1 hF rfl rfl T3 rfl) (rv_cell (v := Value.int IntKind.i64 2) 0 hF rfl rfl T22 rfl) ?_
        exact ⟨congrArg Ending.returned (vtuple (lcons (vint (show (0) = tscale_0 x num den by rw [tscale_0, if_neg c1, if_neg c2, if_pos c3])) (lcons (vint (show (2) = tscale_1 x num den by rw [tscale_1, if_neg c1, if_neg c2, if_pos c3])) rfl))), hW.frm.below⟩
      ·
        have c3 := of_decide_eq_false hb
        simp only [hb] at hF
        clear hb
        refine ls_w hF hW (wanted_y hF rfl rfl rfl rfl) rfl (Nat.le_of_ble_eq_true rfl) (y_move hF rfl) (fun a w hF hW => ?_)
        refine ls_w hF hW (wanted_y hF rfl rfl rfl rfl) rfl (Nat.le_of_ble_eq_true rfl) (y_gtr hF rfl rfl) (fun a w hF hW => ?_)
        refine ls hF hW rfl (y_pick_f hF rfl rfl rfl) (fun a w hF hW => ?_)
        refine ls_nil ?_
        refine c_then ?_
        refine c_cond hF rfl (fun hb => ?_) (fun hb => ?_)
        ·
          have c4 := of_decide_eq_true hb
          simp only [hb] at hF
          clear hb
          refine c_seq ?_
          refine reg_list ?_
          refine l_store (vs := [Value.int IntKind.i64 0]) (M' := [(b2, [Value.int IntKind.i64 0]), (b1, [Value.int IntKind.i64 0])]) 1 hF hW rfl rfl rfl T3 rfl rfl rfl rfl rfl (fun w hW => ?_)
          refine l_store (vs := [Value.int IntKind.i64 2]) (M' := [(b2, [Value.int IntKind.i64 2]), (b1, [Value.int IntKind.i64 0])]) 0 hF hW rfl rfl rfl T22 rfl rfl rfl rfl rfl (fun w hW => ?_)
          refine ls_nil ?_
          refine c_then ?_
          refine wp_ret ?_
          refine r_then ?_
          refine postD_ret (.inl rfl) hF ?_
          refine leaves_of H60 (by simp) (cScale_idle b1 b2 _ _ w hW) ?_
          rintro e u' w ⟨rfl, rfl, hW⟩
          refine leaves2 hW rfl (rv_cell (v := Value.int IntKind.i64 0) 1 hF rfl rfl T3 rfl) (rv_cell (v := Value.int IntKind.i64 2) 0 hF rfl rfl T22 rfl) ?_
          exact ⟨congrArg Ending.returned (vtuple (lcons (vint (show (0) = tscale_0 x num den by rw [tscale_0, if_neg c1, if_neg c2, if_neg c3, if_pos c4])) (lcons (vint (show (2) = tscale_1 x num den by rw [tscale_1, if_neg c1, if_neg c2, if_neg c3, if_pos c4])) rfl))), hW.frm.below⟩
        ·
          have c4 := of_decide_eq_false hb
          simp only [hb] at hF
          clear hb
          refine wp_skip ?_
          refine c_then ?_
          refine c_seq ?_
          refine reg_list ?_
          refine ls hF hW rfl (y_move hF rfl) (fun a w hF hW => ?_)
          by_cases c5 : -1125899906842624 ≤ x ∧ x ≤ 1125899906842624
          ·
            refine ls hF hW rfl (y_call (v := Value.int IntKind.i64 x) hF H61 rfl (fun w _ => mp_ok (checked_any x w) c5)) (fun a w hF hW => ?_)
            refine ls hF hW rfl (y_move hF rfl) (fun a w hF hW => ?_)
            refine ls hF hW rfl (y_mul hF rfl rfl (r := x * num) (IntWalk.i64_in _ (by have := scale_bd x num (by omega) (by omega) (by omega) (by omega); omega))) (fun a w hF hW => ?_)
            refine ls hF hW rfl (y_move hF rfl) (fun a w hF hW => ?_)
            refine ls hF hW rfl (y_call (v := Value.int IntKind.i64 (fdiv (x * num) den)) hF H62 rfl (fun w _ => fdiv_any (x * num) den w (by first | omega | (have := scale_bd x num (by omega) (by omega) (by omega) (by omega); omega)) (by first | omega | (have := scale_bd x num (by omega) (by omega) (by omega) (by omega); omega)) (by first | omega | (have := scale_bd x num (by omega) (by omega) (by omega) (by omega); omega)) (by first | omega | (have := scale_bd x num (by omega) (by omega) (by omega) (by omega); omega)))) (fun a w hF hW => ?_)
            by_cases c6 : -1125899906842624 ≤ (fdiv (x * num) den) ∧ (fdiv (x * num) den) ≤ 1125899906842624
            ·
              refine ls hF hW rfl (y_call (v := Value.int IntKind.i64 (fdiv (x * num) den)) hF H61 rfl (fun w _ => mp_ok (checked_any (fdiv (x * num) den) w) c6)) (fun a w hF hW => ?_)
              refine l_store (vs := [Value.int IntKind.i64 (fdiv (x * num) den)]) (M' := [(b2, [Value.int IntKind.i64 0]), (b1, [Value.int IntKind.i64 (fdiv (x * num) den)])]) 1 hF hW rfl rfl rfl T3 rfl rfl rfl rfl rfl (fun w hW => ?_)
              refine l_store (vs := [Value.int IntKind.i64 0]) (M' := [(b2, [Value.int IntKind.i64 0]), (b1, [Value.int IntKind.i64 (fdiv (x * num) den)])]) 0 hF hW rfl rfl rfl T22 rfl rfl rfl rfl rfl (fun w hW => ?_)
              refine ls_nil ?_
              refine c_then ?_
              refine wp_ret ?_
              refine postD_ret (.inl rfl) hF ?_
              refine leaves_of H60 (by simp) (cScale_idle b1 b2 _ _ w hW) ?_
              rintro e u' w ⟨rfl, rfl, hW⟩
              refine leaves2 hW rfl (rv_cell (v := Value.int IntKind.i64 (fdiv (x * num) den)) 1 hF rfl rfl T3 rfl) (rv_cell (v := Value.int IntKind.i64 0) 0 hF rfl rfl T22 rfl) ?_
              exact ⟨congrArg Ending.returned (vtuple (lcons (vint (show ((fdiv (x * num) den)) = tscale_0 x num den by rw [tscale_0, if_neg c1, if_neg c2, if_neg c3, if_neg c4, if_pos c5, if_pos c6])) (lcons (vint (show (0) = tscale_1 x num den by rw [tscale_1, if_neg c1, if_neg c2, if_neg c3, if_neg c4, if_pos c5, if_pos c6])) rfl))), hW.frm.below⟩
            ·
              refine l_call_panic hF hW H61 rfl (mp_no (checked_any (fdiv (x * num) den) w) c6) (fun w hW => ?_)
              refine p_then ?_
              refine postD_panic hF ?_
              refine leaves_of H60 (by simp) (cScale_catch b1 b2 _ _ 11 w hW) ?_
              rintro e u' w ⟨rfl, rfl, hW⟩
              refine leaves2 hW rfl (rv_cell (v := Value.int IntKind.i64 0) 1 hF rfl rfl T3 rfl) (rv_cell (v := Value.int IntKind.i64 11) 0 hF rfl rfl T22 rfl) ?_
              exact ⟨congrArg Ending.returned (vtuple (lcons (vint (show (0) = tscale_0 x num den by rw [tscale_0, if_neg c1, if_neg c2, if_neg c3, if_neg c4, if_pos c5, if_neg c6])) (lcons (vint (show (11) = tscale_1 x num den by rw [tscale_1, if_neg c1, if_neg c2, if_neg c3, if_neg c4, if_pos c5, if_neg c6])) rfl))), hW.frm.below⟩
          ·
            refine l_call_panic hF hW H61 rfl (mp_no (checked_any x w) c5) (fun w hW => ?_)
            refine p_then ?_
            refine postD_panic hF ?_
            refine leaves_of H60 (by simp) (cScale_catch b1 b2 _ _ 11 w hW) ?_
            rintro e u' w ⟨rfl, rfl, hW⟩
            refine leaves2 hW rfl (rv_cell (v := Value.int IntKind.i64 0) 1 hF rfl rfl T3 rfl) (rv_cell (v := Value.int IntKind.i64 11) 0 hF rfl rfl T22 rfl) ?_
            exact ⟨congrArg Ending.returned (vtuple (lcons (vint (show (0) = tscale_0 x num den by rw [tscale_0, if_neg c1, if_neg c2, if_neg c3, if_neg c4, if_neg c5])) (lcons (vint (show (11) = tscale_1 x num den by rw [tscale_1, if_neg c1, if_neg c2, if_neg c3, if_neg c4, if_neg c5])) rfl))), hW.frm.below⟩

def rtime (n : Int) : Bool := if (-1125899906842624) ≤ n then decide (n ≤ 1125899906842624) else false
theorem rtime_any (n : Int) (w : World)  :
    Calls Try.prog 54 #[Value.int IntKind.i64 n] w fun e w' => e = .returned (Value.bool (rtime n)) ∧ Below w.heap.size w w' := by
  refine enter Try.func54 rfl Try.ntmps54 rfl (fun a hF => ?_)
  have hW := Stw.start w
  refine c_seq ?_
  refine reg_list ?_
  refine ls hF hW rfl (y_assign hF rfl) (fun a w hF hW => ?_)
  refine ls_nil ?_
  refine c_then ?_
  refine c_seq ?_
  refine reg_list ?_
  refine ls hF hW rfl (y_move hF rfl) (fun a w hF hW => ?_)
  refine ls hF hW rfl (y_geq hF rfl rfl) (fun a w hF hW => ?_)
  refine ls hF hW rfl (y_move hF rfl) (fun a w hF hW => ?_)
  rcases Bool.eq_false_or_eq_true (decide ((-1125899906842624) ≤ n)) with hb | hb
  ·
    have c1 := of_decide_eq_true hb
    simp only [hb] at hF
    clear hb
    refine ls_w hF hW (wanted_y hF rfl rfl rfl rfl) rfl (Nat.le_of_ble_eq_true rfl) (y_move hF rfl) (fun a w hF hW => ?_)
    refine ls_w hF hW (wanted_y hF rfl rfl rfl rfl) rfl (Nat.le_of_ble_eq_true rfl) (y_leq hF rfl rfl) (fun a w hF hW => ?_)
    refine ls hF hW rfl (y_pick_t hF rfl rfl rfl) (fun a w hF hW => ?_)
    refine ls hF hW rfl (y_assign hF rfl) (fun a w hF hW => ?_)
    refine ls_nil ?_
    refine c_then ?_
    refine wp_ret ?_
    refine post1 (.inl rfl) hF hW rfl (rv_tmp hF rfl) ?_
    exact ⟨congrArg Ending.returned (vbool (show (decide (n ≤ 1125899906842624)) = rtime n by rw [rtime, if_pos c1])), hW.frm.below⟩
  ·
    have c1 := of_decide_eq_false hb
    simp only [hb] at hF
    clear hb
    refine ls_skip hF (wanted_n hF rfl rfl rfl rfl rfl) rfl rfl (fun a hF => ?_)
    refine ls_skip hF (wanted_n hF rfl rfl rfl rfl rfl) rfl rfl (fun a hF => ?_)
    refine ls hF hW rfl (y_pick_f hF rfl rfl rfl) (fun a w hF hW => ?_)
    refine ls hF hW rfl (y_assign hF rfl) (fun a w hF hW => ?_)
    refine ls_nil ?_
    refine c_then ?_
    refine wp_ret ?_
    refine post1 (.inl rfl) hF hW rfl (rv_tmp hF rfl) ?_
    exact ⟨congrArg Ending.returned (vbool (show (false) = rtime n by rw [rtime, if_neg c1])), hW.frm.below⟩

theorem rtime_iff (n : Int) : rtime n = true ↔ -1125899906842624 ≤ n ∧ n ≤ 1125899906842624 := by unfold rtime; by_cases h : -1125899906842624 ≤ n <;> simp [h]
theorem rtime_no (n : Int) : rtime n = false ↔ ¬ (-1125899906842624 ≤ n ∧ n ≤ 1125899906842624) := by rw [← rtime_iff]; simp
theorem H54 : Has Try.prog 54 := ⟨fun args w => run_callFunc_body Try.func54 rfl (by decide) args w⟩
def radd_0 (x : Int) (y : Int) : Int := if (!(rtime x)) = true then 0 else if (!(rtime y)) = true then 0 else if (!(rtime (x + y))) = true then 0 else x + y
def radd_1 (x : Int) (y : Int) : Int := if (!(rtime x)) = true then 11 else if (!(rtime y)) = true then 11 else if (!(rtime (x + y))) = true then 11 else 0
theorem radd_any (x : Int) (y : Int) (w : World)  :
    Calls Try.prog 12 #[Value.int IntKind.i64 x, Value.int IntKind.i64 y] w fun e w' => e = .returned (Value.tuple #[Value.int IntKind.i64 (radd_0 x y), Value.int IntKind.i64 (radd_1 x y)]) ∧ Below w.heap.size w w' := by
  refine enter Try.func12 rfl Try.ntmps12 rfl (fun a hF => ?_)
  have hW := Stw.start w
  refine c_seq ?_
  refine reg_list ?_
  refine ls hF hW rfl (y_assign hF rfl) (fun a w hF hW => ?_)
  refine ls hF hW rfl (y_assign hF rfl) (fun a w hF hW => ?_)
  refine ls_nil ?_
  refine c_then ?_
  refine c_seq ?_
  refine c_seq ?_
  refine reg_list ?_
  refine ls hF hW rfl (y_move hF rfl) (fun a w hF hW => ?_)
  refine ls hF hW rfl (y_call (v := Value.bool (rtime x)) hF H54 rfl (fun w _ => rtime_any x w )) (fun a w hF hW => ?_)
  refine ls hF hW rfl (y_not hF rfl) (fun a w hF hW => ?_)
  refine ls hF hW rfl (y_move hF rfl) (fun a w hF hW => ?_)
  rcases Bool.eq_false_or_eq_true (!(rtime x)) with hb | hb
  ·
    have c1 := hb
    have tc1 := (rtime_no x).1 (by simpa using c1)
    simp only [hb] at hF
    clear hb
    refine ls_skip hF (wanted_n hF rfl rfl rfl rfl rfl) rfl rfl (fun a hF => ?_)
    refine ls_skip hF (wanted_n hF rfl rfl rfl rfl rfl) rfl rfl (fun a hF => ?_)
    refine ls_skip hF (wanted_n hF rfl rfl rfl rfl rfl) rfl rfl (fun a hF => ?_)
    refine ls hF hW rfl (y_pick_t hF rfl rfl rfl) (fun a w hF hW => ?_)
    refine ls hF hW rfl (y_move hF rfl) (fun a w hF hW => ?_)
    refine ls_skip hF (wanted_n hF rfl rfl rfl rfl rfl) rfl rfl (fun a hF => ?_)
    refine ls_skip hF (wanted_n hF rfl rfl rfl rfl rfl) rfl rfl (fun a hF => ?_)
    refine ls_skip hF (wanted_n hF rfl rfl rfl rfl rfl) rfl rfl (fun a hF => ?_)
    refine ls_skip hF (wanted_n hF rfl rfl rfl rfl rfl) rfl rfl (fun a hF => ?_)
    refine ls_skip hF (wanted_n hF rfl rfl rfl rfl rfl) rfl rfl (fun a hF => ?_)
    refine ls hF hW rfl (y_pick_t hF rfl rfl rfl) (fun a w hF hW => ?_)
    refine ls_nil ?_
    refine c_then ?_
    refine c_cond_t hF rfl ?_
    refine c_seq ?_
    refine reg_list ?_
    refine ls hF hW rfl (y_assign hF rfl) (fun a w hF hW => ?_)
    refine ls hF hW rfl (y_assign hF rfl) (fun a w hF hW => ?_)
    refine ls_nil ?_
    refine c_then ?_
    refine wp_ret ?_
    refine r_then ?_
    refine post2 (.inl rfl) hF hW rfl (rv_tmp hF rfl) (rv_tmp hF rfl) ?_
    exact ⟨congrArg Ending.returned (vtuple (lcons (vint (show (0) = radd_0 x y by rw [radd_0, if_pos c1])) (lcons (vint (show (11) = radd_1 x y by rw [radd_1, if_pos c1])) rfl))), hW.frm.below⟩
  ·
    have c1 : ¬ ((!(rtime x)) = true) := by rw [hb]; decide
    have tc1 := (rtime_iff x).1 (by simpa using c1)
    simp only [hb] at hF
    clear hb
    refine ls_w hF hW (wanted_y hF rfl rfl rfl rfl) rfl (Nat.le_of_ble_eq_true rfl) (y_move hF rfl) (fun a w hF hW => ?_)
    refine ls_w hF hW (wanted_y hF rfl rfl rfl rfl) rfl (Nat.le_of_ble_eq_true rfl) (y_call (v := Value.bool (rtime y)) hF H54 rfl (fun w _ => rtime_any y w )) (fun a w hF hW => ?_)
    refine ls_w hF hW (wanted_y hF rfl rfl rfl rfl) rfl (Nat.le_of_ble_eq_true rfl) (y_not hF rfl) (fun a w hF hW => ?_)
    refine ls hF hW rfl (y_pick_f hF rfl rfl rfl) (fun a w hF hW => ?_)
    refine ls hF hW rfl (y_move hF rfl) (fun a w hF hW => ?_)
    rcases Bool.eq_false_or_eq_true (!(rtime y)) with hb | hb
    ·
      have c2 := hb
      have tc2 := (rtime_no y).1 (by simpa using c2)
      simp only [hb] at hF
      clear hb
      refine ls_skip hF (wanted_n hF rfl rfl rfl rfl rfl) rfl rfl (fun a hF => ?_)
      refine ls_skip hF (wanted_n hF rfl rfl rfl rfl rfl) rfl rfl (fun a hF => ?_)
      refine ls_skip hF (wanted_n hF rfl rfl rfl rfl rfl) rfl rfl (fun a hF => ?_)
      refine ls_skip hF (wanted_n hF rfl rfl rfl rfl rfl) rfl rfl (fun a hF => ?_)
      refine ls_skip hF (wanted_n hF rfl rfl rfl rfl rfl) rfl rfl (fun a hF => ?_)
      refine ls hF hW rfl (y_pick_t hF rfl rfl rfl) (fun a w hF hW => ?_)
      refine ls_nil ?_
      refine c_then ?_
      refine c_cond_t hF rfl ?_
      refine c_seq ?_
      refine reg_list ?_
      refine ls hF hW rfl (y_assign hF rfl) (fun a w hF hW => ?_)
      refine ls hF hW rfl (y_assign hF rfl) (fun a w hF hW => ?_)
      refine ls_nil ?_
      refine c_then ?_
      refine wp_ret ?_
      refine r_then ?_
      refine post2 (.inl rfl) hF hW rfl (rv_tmp hF rfl) (rv_tmp hF rfl) ?_
      exact ⟨congrArg Ending.returned (vtuple (lcons (vint (show (0) = radd_0 x y by rw [radd_0, if_neg c1, if_pos c2])) (lcons (vint (show (11) = radd_1 x y by rw [radd_1, if_neg c1, if_pos c2])) rfl))), hW.frm.below⟩
    ·
      have c2 : ¬ ((!(rtime y)) = true) := by rw [hb]; decide
      have tc2 := (rtime_iff y).1 (by simpa using c2)
      simp only [hb] at hF
      clear hb
      refine ls_w hF hW (wanted_y hF rfl rfl rfl rfl) rfl (Nat.le_of_ble_eq_true rfl) (y_move hF rfl) (fun a w hF hW => ?_)
      refine ls_w hF hW (wanted_y hF rfl rfl rfl rfl) rfl (Nat.le_of_ble_eq_true rfl) (y_move hF rfl) (fun a w hF hW => ?_)
      refine ls_w hF hW (wanted_y hF rfl rfl rfl rfl) rfl (Nat.le_of_ble_eq_true rfl) (y_add hF rfl rfl (r := x + y) (IntWalk.i64_in _ (by omega))) (fun a w hF hW => ?_)
      refine ls_w hF hW (wanted_y hF rfl rfl rfl rfl) rfl (Nat.le_of_ble_eq_true rfl) (y_call (v := Value.bool (rtime (x + y))) hF H54 rfl (fun w _ => rtime_any (x + y) w )) (fun a w hF hW => ?_)
      refine ls_w hF hW (wanted_y hF rfl rfl rfl rfl) rfl (Nat.le_of_ble_eq_true rfl) (y_not hF rfl) (fun a w hF hW => ?_)
      refine ls hF hW rfl (y_pick_f hF rfl rfl rfl) (fun a w hF hW => ?_)
      refine ls_nil ?_
      refine c_then ?_
      refine c_cond hF rfl (fun hb => ?_) (fun hb => ?_)
      ·
        have c3 := hb
        have tc3 := (rtime_no (x + y)).1 (by simpa using c3)
        simp only [hb] at hF
        clear hb
        refine c_seq ?_
        refine reg_list ?_
        refine ls hF hW rfl (y_assign hF rfl) (fun a w hF hW => ?_)
        refine ls hF hW rfl (y_assign hF rfl) (fun a w hF hW => ?_)
        refine ls_nil ?_
        refine c_then ?_
        refine wp_ret ?_
        refine r_then ?_
        refine post2 (.inl rfl) hF hW rfl (rv_tmp hF rfl) (rv_tmp hF rfl) ?_
        exact ⟨congrArg Ending.returned (vtuple (lcons (vint (show (0) = radd_0 x y by rw [radd_0, if_neg c1, if_neg c2, if_pos c3])) (lcons (vint (show (11) = radd_1 x y by rw [radd_1, if_neg c1, if_neg c2, if_pos c3])) rfl))), hW.frm.below⟩
      ·
        have c3 : ¬ ((!(rtime (x + y))) = true) := by rw [hb]; decide
        have tc3 := (rtime_iff (x + y)).1 (by simpa using c3)
        simp only [hb] at hF
        clear hb
        refine wp_skip ?_
        refine c_then ?_
        refine c_seq ?_
        refine reg_list ?_
        refine ls hF hW rfl (y_move hF rfl) (fun a w hF hW => ?_)
        refine ls hF hW rfl (y_move hF rfl) (fun a w hF hW => ?_)
        refine ls hF hW rfl (y_add hF rfl rfl (r := x + y) (IntWalk.i64_in _ (by omega))) (fun a w hF hW => ?_)
        refine ls hF hW rfl (y_assign hF rfl) (fun a w hF hW => ?_)
        refine ls hF hW rfl (y_assign hF rfl) (fun a w hF hW => ?_)
        refine ls_nil ?_
        refine c_then ?_
        refine wp_ret ?_
        refine post2 (.inl rfl) hF hW rfl (rv_tmp hF rfl) (rv_tmp hF rfl) ?_
        exact ⟨congrArg Ending.returned (vtuple (lcons (vint (show (x + y) = radd_0 x y by rw [radd_0, if_neg c1, if_neg c2, if_neg c3])) (lcons (vint (show (0) = radd_1 x y by rw [radd_1, if_neg c1, if_neg c2, if_neg c3])) rfl))), hW.frm.below⟩

def rneg_0 (x : Int) : Int := if (!(rtime x)) = true then 0 else 0 - x
def rneg_1 (x : Int) : Int := if (!(rtime x)) = true then 11 else 0
theorem rneg_any (x : Int) (w : World)  :
    Calls Try.prog 18 #[Value.int IntKind.i64 x] w fun e w' => e = .returned (Value.tuple #[Value.int IntKind.i64 (rneg_0 x), Value.int IntKind.i64 (rneg_1 x)]) ∧ Below w.heap.size w w' := by
  refine enter Try.func18 rfl Try.ntmps18 rfl (fun a hF => ?_)
  have hW := Stw.start w
  refine c_seq ?_
  refine reg_list ?_
  refine ls hF hW rfl (y_assign hF rfl) (fun a w hF hW => ?_)
  refine ls hF hW rfl (y_assign hF rfl) (fun a w hF hW => ?_)
  refine ls_nil ?_
  refine c_then ?_
  refine c_seq ?_
  refine c_seq ?_
  refine reg_list ?_
  refine ls hF hW rfl (y_move hF rfl) (fun a w hF hW => ?_)
  refine ls hF hW rfl (y_call (v := Value.bool (rtime x)) hF H54 rfl (fun w _ => rtime_any x w )) (fun a w hF hW => ?_)
  refine ls hF hW rfl (y_not hF rfl) (fun a w hF hW => ?_)
  refine ls_nil ?_
  refine c_then ?_
  refine c_cond hF rfl (fun hb => ?_) (fun hb => ?_)
  ·
    have c1 := hb
    have tc1 := (rtime_no x).1 (by simpa using c1)
    simp only [hb] at hF
    clear hb
    refine c_seq ?_
    refine reg_list ?_
    refine ls hF hW rfl (y_assign hF rfl) (fun a w hF hW => ?_)
    refine ls hF hW rfl (y_assign hF rfl) (fun a w hF hW => ?_)
    refine ls_nil ?_
    refine c_then ?_
    refine wp_ret ?_
    refine r_then ?_
    refine post2 (.inl rfl) hF hW rfl (rv_tmp hF rfl) (rv_tmp hF rfl) ?_
    exact ⟨congrArg Ending.returned (vtuple (lcons (vint (show (0) = rneg_0 x by rw [rneg_0, if_pos c1])) (lcons (vint (show (11) = rneg_1 x by rw [rneg_1, if_pos c1])) rfl))), hW.frm.below⟩
  ·
    have c1 : ¬ ((!(rtime x)) = true) := by rw [hb]; decide
    have tc1 := (rtime_iff x).1 (by simpa using c1)
    simp only [hb] at hF
    clear hb
    refine wp_skip ?_
    refine c_then ?_
    refine c_seq ?_
    refine reg_list ?_
    refine ls hF hW rfl (y_move hF rfl) (fun a w hF hW => ?_)
    refine ls hF hW rfl (y_sub hF rfl rfl (r := 0 - x) (IntWalk.i64_in _ (by omega))) (fun a w hF hW => ?_)
    refine ls hF hW rfl (y_assign hF rfl) (fun a w hF hW => ?_)
    refine ls hF hW rfl (y_assign hF rfl) (fun a w hF hW => ?_)
    refine ls_nil ?_
    refine c_then ?_
    refine wp_ret ?_
    refine post2 (.inl rfl) hF hW rfl (rv_tmp hF rfl) (rv_tmp hF rfl) ?_
    exact ⟨congrArg Ending.returned (vtuple (lcons (vint (show (0 - x) = rneg_0 x by rw [rneg_0, if_neg c1])) (lcons (vint (show (0) = rneg_1 x by rw [rneg_1, if_neg c1])) rfl))), hW.frm.below⟩

theorem H12 : Has Try.prog 12 := ⟨fun args w => run_callFunc_body Try.func12 rfl (by decide) args w⟩
theorem H18 : Has Try.prog 18 := ⟨fun args w => run_callFunc_body Try.func18 rfl (by decide) args w⟩
def rsub_0 (x : Int) (y : Int) : Int := if (rneg_1 y) ≠ 0 then 0 else radd_0 x (rneg_0 y)
def rsub_1 (x : Int) (y : Int) : Int := if (rneg_1 y) ≠ 0 then rneg_1 y else radd_1 x (rneg_0 y)
theorem rsub_any (x : Int) (y : Int) (w : World)  :
    Calls Try.prog 14 #[Value.int IntKind.i64 x, Value.int IntKind.i64 y] w fun e w' => e = .returned (Value.tuple #[Value.int IntKind.i64 (rsub_0 x y), Value.int IntKind.i64 (rsub_1 x y)]) ∧ Below w.heap.size w w' := by
  refine enter Try.func14 rfl Try.ntmps14 rfl (fun a hF => ?_)
  have hW := Stw.start w
  refine c_seq ?_
  refine reg_list ?_
  refine ls hF hW rfl (y_assign hF rfl) (fun a w hF hW => ?_)
  refine ls hF hW rfl (y_assign hF rfl) (fun a w hF hW => ?_)
  refine ls_nil ?_
  refine c_then ?_
  refine c_seq ?_
  refine reg_list ?_
  refine ls hF hW rfl (y_move hF rfl) (fun a w hF hW => ?_)
  refine ls hF hW rfl (y_call (v := Value.tuple #[Value.int IntKind.i64 (rneg_0 y), Value.int IntKind.i64 (rneg_1 y)]) hF H18 rfl (fun w _ => rneg_any y w )) (fun a w hF hW => ?_)
  refine ls hF hW rfl (y_move hF rfl) (fun a w hF hW => ?_)
  refine ls hF hW rfl (y_extract (v := Value.int IntKind.i64 (rneg_0 y)) hF rfl rfl) (fun a w hF hW => ?_)
  refine ls hF hW rfl (y_extract (v := Value.int IntKind.i64 (rneg_1 y)) hF rfl rfl) (fun a w hF hW => ?_)
  refine ls hF hW rfl (y_assign hF rfl) (fun a w hF hW => ?_)
  refine ls hF hW rfl (y_assign hF rfl) (fun a w hF hW => ?_)
  refine ls_nil ?_
  refine c_then ?_
  refine c_seq ?_
  refine c_seq ?_
  refine reg_list ?_
  refine ls hF hW rfl (y_move hF rfl) (fun a w hF hW => ?_)
  refine ls hF hW rfl (y_neq hF rfl rfl) (fun a w hF hW => ?_)
  refine ls_nil ?_
  refine c_then ?_
  refine c_cond hF rfl (fun hb => ?_) (fun hb => ?_)
  ·
    have c1 := of_decide_eq_true hb
    simp only [hb] at hF
    clear hb
    refine c_seq ?_
    refine reg_list ?_
    refine ls hF hW rfl (y_move hF rfl) (fun a w hF hW => ?_)
    refine ls hF hW rfl (y_assign hF rfl) (fun a w hF hW => ?_)
    refine ls hF hW rfl (y_assign hF rfl) (fun a w hF hW => ?_)
    refine ls_nil ?_
    refine c_then ?_
    refine wp_ret ?_
    refine r_then ?_
    refine post2 (.inl rfl) hF hW rfl (rv_tmp hF rfl) (rv_tmp hF rfl) ?_
    exact ⟨congrArg Ending.returned (vtuple (lcons (vint (show (0) = rsub_0 x y by rw [rsub_0, if_pos c1])) (lcons (vint (show (rneg_1 y) = rsub_1 x y by rw [rsub_1, if_pos c1])) rfl))), hW.frm.below⟩
  ·
    have c1 := of_decide_eq_false hb
    simp only [hb] at hF
    clear hb
    refine wp_skip ?_
    refine c_then ?_
    refine c_seq ?_
    refine reg_list ?_
    refine ls hF hW rfl (y_move hF rfl) (fun a w hF hW => ?_)
    refine ls hF hW rfl (y_move hF rfl) (fun a w hF hW => ?_)
    refine ls hF hW rfl (y_call (v := Value.tuple #[Value.int IntKind.i64 (radd_0 x (rneg_0 y)), Value.int IntKind.i64 (radd_1 x (rneg_0 y))]) hF H12 rfl (fun w _ => radd_any x (rneg_0 y) w )) (fun a w hF hW => ?_)
    refine ls hF hW rfl (y_extract (v := Value.int IntKind.i64 (radd_0 x (rneg_0 y))) hF rfl rfl) (fun a w hF hW => ?_)
    refine ls hF hW rfl (y_extract (v := Value.int IntKind.i64 (radd_1 x (rneg_0 y))) hF rfl rfl) (fun a w hF hW => ?_)
    refine ls hF hW rfl (y_assign hF rfl) (fun a w hF hW => ?_)
    refine ls hF hW rfl (y_assign hF rfl) (fun a w hF hW => ?_)
    refine ls_nil ?_
    refine c_then ?_
    refine wp_ret ?_
    refine post2 (.inl rfl) hF hW rfl (rv_tmp hF rfl) (rv_tmp hF rfl) ?_
    exact ⟨congrArg Ending.returned (vtuple (lcons (vint (show (radd_0 x (rneg_0 y)) = rsub_0 x y by rw [rsub_0, if_neg c1])) (lcons (vint (show (radd_1 x (rneg_0 y)) = rsub_1 x y by rw [rsub_1, if_neg c1])) rfl))), hW.frm.below⟩

def rclamp (n : Int) : Int := if n < (-1125899906842624) then (-1125899906842624) else if 1125899906842624 < n then 1125899906842624 else n
theorem rclamp_any (n : Int) (w : World)  :
    Calls Try.prog 22 #[Value.int IntKind.i64 n] w fun e w' => e = .returned (Value.int IntKind.i64 (rclamp n)) ∧ Below w.heap.size w w' := by
  refine enter Try.func22 rfl Try.ntmps22 rfl (fun a hF => ?_)
  have hW := Stw.start w
  refine c_seq ?_
  refine reg_list ?_
  refine ls hF hW rfl (y_assign hF rfl) (fun a w hF hW => ?_)
  refine ls_nil ?_
  refine c_then ?_
  refine c_seq ?_
  refine c_seq ?_
  refine reg_list ?_
  refine ls hF hW rfl (y_move hF rfl) (fun a w hF hW => ?_)
  refine ls hF hW rfl (y_lss hF rfl rfl) (fun a w hF hW => ?_)
  refine ls_nil ?_
  refine c_then ?_
  refine c_cond hF rfl (fun hb => ?_) (fun hb => ?_)
  ·
    have c1 := of_decide_eq_true hb
    simp only [hb] at hF
    clear hb
    refine c_seq ?_
    refine reg_list ?_
    refine ls hF hW rfl (y_assign hF rfl) (fun a w hF hW => ?_)
    refine ls_nil ?_
    refine c_then ?_
    refine wp_ret ?_
    refine r_then ?_
    refine post1 (.inl rfl) hF hW rfl (rv_tmp hF rfl) ?_
    exact ⟨congrArg Ending.returned (vint (show ((-1125899906842624)) = rclamp n by rw [rclamp, if_pos c1])), hW.frm.below⟩
  ·
    have c1 := of_decide_eq_false hb
    simp only [hb] at hF
    clear hb
    refine wp_skip ?_
    refine c_then ?_
    refine c_seq ?_
    refine c_seq ?_
    refine reg_list ?_
    refine ls hF hW rfl (y_move hF rfl) (fun a w hF hW => ?_)
    refine ls hF hW rfl (y_gtr hF rfl rfl) (fun a w hF hW => ?_)
    refine ls_nil ?_
    refine c_then ?_
    refine c_cond hF rfl (fun hb => ?_) (fun hb => ?_)
    ·
      have c2 := of_decide_eq_true hb
      simp only [hb] at hF
      clear hb
      refine c_seq ?_
      refine reg_list ?_
      refine ls hF hW rfl (y_assign hF rfl) (fun a w hF hW => ?_)
      refine ls_nil ?_
      refine c_then ?_
      refine wp_ret ?_
      refine r_then ?_
      refine post1 (.inl rfl) hF hW rfl (rv_tmp hF rfl) ?_
      exact ⟨congrArg Ending.returned (vint (show (1125899906842624) = rclamp n by rw [rclamp, if_neg c1, if_pos c2])), hW.frm.below⟩
    ·
      have c2 := of_decide_eq_false hb
      simp only [hb] at hF
      clear hb
      refine wp_skip ?_
      refine c_then ?_
      refine c_seq ?_
      refine reg_list ?_
      refine ls hF hW rfl (y_move hF rfl) (fun a w hF hW => ?_)
      refine ls hF hW rfl (y_assign hF rfl) (fun a w hF hW => ?_)
      refine ls_nil ?_
      refine c_then ?_
      refine wp_ret ?_
      refine post1 (.inl rfl) hF hW rfl (rv_tmp hF rfl) ?_
      exact ⟨congrArg Ending.returned (vint (show (n) = rclamp n by rw [rclamp, if_neg c1, if_neg c2])), hW.frm.below⟩

theorem tdiv_mul (p d : Int) (hd : 0 < d) : p - d < Int.tdiv p d * d ∧ Int.tdiv p d * d < p + d := by
  have h := Int.mul_tdiv_add_tmod p d
  rw [Int.mul_comm] at h
  have h1 := Int.tmod_lt_of_pos p hd
  have h2 : -d < p.tmod d := by
    have h3 := Int.tmod_lt_of_pos (-p) hd
    rw [Int.neg_tmod] at h3
    omega
  omega
def rfloor (n : Int) (d : Int) : Int := if n < ((Int.tdiv n d) * d) then (Int.tdiv n d) - 1 else Int.tdiv n d
theorem rfloor_any (n : Int) (d : Int) (w : World) (h1 : -9223372036854770000 ≤ n) (h2 : n ≤ 9223372036854770000) (h3 : 0 < d) (h4 : d ≤ 4096) :
    Calls Try.prog 63 #[Value.int IntKind.i64 n, Value.int IntKind.i64 d] w fun e w' => e = .returned (Value.int IntKind.i64 (rfloor n d)) ∧ Below w.heap.size w w' := by
  refine enter Try.func63 rfl Try.ntmps63 rfl (fun a hF => ?_)
  have hW := Stw.start w
  refine c_seq ?_
  refine reg_list ?_
  refine ls hF hW rfl (y_assign hF rfl) (fun a w hF hW => ?_)
  refine ls_nil ?_
  refine c_then ?_
  refine c_seq ?_
  refine reg_list ?_
  refine ls hF hW rfl (y_move hF rfl) (fun a w hF hW => ?_)
  refine ls hF hW rfl (y_move hF rfl) (fun a w hF hW => ?_)
  refine ls hF hW rfl (y_quo hF rfl rfl (by omega) (r := Int.tdiv n d) (IntWalk.i64_in _ (by have := tdiv_bd n d h3; omega))) (fun a w hF hW => ?_)
  refine ls hF hW rfl (y_assign hF rfl) (fun a w hF hW => ?_)
  refine ls_nil ?_
  refine c_then ?_
  refine c_seq ?_
  refine c_seq ?_
  refine reg_list ?_
  refine ls hF hW rfl (y_move hF rfl) (fun a w hF hW => ?_)
  refine ls hF hW rfl (y_move hF rfl) (fun a w hF hW => ?_)
  refine ls hF hW rfl (y_mul hF rfl rfl (r := (Int.tdiv n d) * d) (IntWalk.i64_in _ (by have := tdiv_mul n d h3; omega))) (fun a w hF hW => ?_)
  refine ls hF hW rfl (y_move hF rfl) (fun a w hF hW => ?_)
  refine ls hF hW rfl (y_gtr hF rfl rfl) (fun a w hF hW => ?_)
  refine ls_nil ?_
  refine c_then ?_
  refine c_cond hF rfl (fun hb => ?_) (fun hb => ?_)
  ·
    have c1 := of_decide_eq_true hb
    simp only [hb] at hF
    clear hb
    refine reg_list ?_
    refine ls hF hW rfl (y_move hF rfl) (fun a w hF hW => ?_)
    refine ls hF hW rfl (y_sub hF rfl rfl (r := (Int.tdiv n d) - 1) (IntWalk.i64_in _ (by have := tdiv_bd n d h3; omega))) (fun a w hF hW => ?_)
    refine ls hF hW rfl (y_assign hF rfl) (fun a w hF hW => ?_)
    refine ls_nil ?_
    refine c_then ?_
    refine c_seq ?_
    refine reg_list ?_
    refine ls hF hW rfl (y_move hF rfl) (fun a w hF hW => ?_)
    refine ls hF hW rfl (y_assign hF rfl) (fun a w hF hW => ?_)
    refine ls_nil ?_
    refine c_then ?_
    refine wp_ret ?_
    refine post1 (.inl rfl) hF hW rfl (rv_tmp hF rfl) ?_
    exact ⟨congrArg Ending.returned (vint (show ((Int.tdiv n d) - 1) = rfloor n d by rw [rfloor, if_pos c1])), hW.frm.below⟩
  ·
    have c1 := of_decide_eq_false hb
    simp only [hb] at hF
    clear hb
    refine wp_skip ?_
    refine c_then ?_
    refine c_seq ?_
    refine reg_list ?_
    refine ls hF hW rfl (y_move hF rfl) (fun a w hF hW => ?_)
    refine ls hF hW rfl (y_assign hF rfl) (fun a w hF hW => ?_)
    refine ls_nil ?_
    refine c_then ?_
    refine wp_ret ?_
    refine post1 (.inl rfl) hF hW rfl (rv_tmp hF rfl) ?_
    exact ⟨congrArg Ending.returned (vint (show (Int.tdiv n d) = rfloor n d by rw [rfloor, if_neg c1])), hW.frm.below⟩

theorem H63 : Has Try.prog 63 := ⟨fun args w => run_callFunc_body Try.func63 rfl (by decide) args w⟩
def rscale_0 (x : Int) (num : Int) (den : Int) : Int := if num < (-4096) then 0 else if 4096 < num then 0 else if den < 1 then 0 else if 4096 < den then 0 else if (!(rtime x)) = true then 0 else if (!(rtime (rfloor (x * num) den))) = true then 0 else rfloor (x * num) den
def rscale_1 (x : Int) (num : Int) (den : Int) : Int := if num < (-4096) then 2 else if 4096 < num then 2 else if den < 1 then 2 else if 4096 < den then 2 else if (!(rtime x)) = true then 11 else if (!(rtime (rfloor (x * num) den))) = true then 11 else 0
theorem rscale_any (x : Int) (num : Int) (den : Int) (w : World)  :
    Calls Try.prog 20 #[Value.int IntKind.i64 x, Value.int IntKind.i64 num, Value.int IntKind.i64 den] w fun e w' => e = .returned (Value.tuple #[Value.int IntKind.i64 (rscale_0 x num den), Value.int IntKind.i64 (rscale_1 x num den)]) ∧ Below w.heap.size w w' := by
  refine enter Try.func20 rfl Try.ntmps20 rfl (fun a hF => ?_)
  have hW := Stw.start w
  refine c_seq ?_
  refine reg_list ?_
  refine ls hF hW rfl (y_assign hF rfl) (fun a w hF hW => ?_)
  refine ls hF hW rfl (y_assign hF rfl) (fun a w hF hW => ?_)
  refine ls_nil ?_
  refine c_then ?_
  refine c_seq ?_
  refine c_seq ?_
  refine reg_list ?_
  refine ls hF hW rfl (y_move hF rfl) (fun a w hF hW => ?_)
  refine ls hF hW rfl (y_lss hF rfl rfl) (fun a w hF hW => ?_)
  refine ls hF hW rfl (y_move hF rfl) (fun a w hF hW => ?_)
  rcases Bool.eq_false_or_eq_true (decide (num < (-4096))) with hb | hb
  ·
    have c1 := of_decide_eq_true hb
    simp only [hb] at hF
    clear hb
    refine ls_skip hF (wanted_n hF rfl rfl rfl rfl rfl) rfl rfl (fun a hF => ?_)
    refine ls_skip hF (wanted_n hF rfl rfl rfl rfl rfl) rfl rfl (fun a hF => ?_)
    refine ls hF hW rfl (y_pick_t hF rfl rfl rfl) (fun a w hF hW => ?_)
    refine ls hF hW rfl (y_move hF rfl) (fun a w hF hW => ?_)
    refine ls_skip hF (wanted_n hF rfl rfl rfl rfl rfl) rfl rfl (fun a hF => ?_)
    refine ls_skip hF (wanted_n hF rfl rfl rfl rfl rfl) rfl rfl (fun a hF => ?_)
    refine ls hF hW rfl (y_pick_t hF rfl rfl rfl) (fun a w hF hW => ?_)
    refine ls hF hW rfl (y_move hF rfl) (fun a w hF hW => ?_)
    refine ls_skip hF (wanted_n hF rfl rfl rfl rfl rfl) rfl rfl (fun a hF => ?_)
    refine ls_skip hF (wanted_n hF rfl rfl rfl rfl rfl) rfl rfl (fun a hF => ?_)
    refine ls hF hW rfl (y_pick_t hF rfl rfl rfl) (fun a w hF hW => ?_)
    refine ls_nil ?_
    refine c_then ?_
    refine c_cond_t hF rfl ?_
    refine c_seq ?_
    refine reg_list ?_
    refine ls hF hW rfl (y_assign hF rfl) (fun a w hF hW => ?_)
    refine ls hF hW rfl (y_assign hF rfl) (fun a w hF hW => ?_)
    refine ls_nil ?_
    refine c_then ?_
    refine wp_ret ?_
    refine r_then ?_
    refine post2 (.inl rfl) hF hW rfl (rv_tmp hF rfl) (rv_tmp hF rfl) ?_
    exact ⟨congrArg Ending.returned (vtuple (lcons (vint (show (0) = rscale_0 x num den by rw [rscale_0, if_pos c1])) (lcons (vint (show (2) = rscale_1 x num den by rw [rscale_1, if_pos c1])) rfl))), hW.frm.below⟩
  ·
    have c1 := of_decide_eq_false hb
    simp only [hb] at hF
    clear hb
    refine ls_w hF hW (wanted_y hF rfl rfl rfl rfl) rfl (Nat.le_of_ble_eq_true rfl) (y_move hF rfl) (fun a w hF hW => ?_)
    refine ls_w hF hW (wanted_y hF rfl rfl rfl rfl) rfl (Nat.le_of_ble_eq_true rfl) (y_gtr hF rfl rfl) (fun a w hF hW => ?_)
    refine ls hF hW rfl (y_pick_f hF rfl rfl rfl) (fun a w hF hW => ?_)
    refine ls hF hW rfl (y_move hF rfl) (fun a w hF hW => ?_)
    rcases Bool.eq_false_or_eq_true (decide (4096 < num)) with hb | hb
    ·
      have c2 := of_decide_eq_true hb
      simp only [hb] at hF
      clear hb
      refine ls_skip hF (wanted_n hF rfl rfl rfl rfl rfl) rfl rfl (fun a hF => ?_)
      refine ls_skip hF (wanted_n hF rfl rfl rfl rfl rfl) rfl rfl (fun a hF => ?_)
      refine ls hF hW rfl (y_pick_t hF rfl rfl rfl) (fun a w hF hW => ?_)
      refine ls hF hW rfl (y_move hF rfl) (fun a w hF hW => ?_)
      refine ls_skip hF (wanted_n hF rfl rfl rfl rfl rfl) rfl rfl (fun a hF => ?_)
      refine ls_skip hF (wanted_n hF rfl rfl rfl rfl rfl) rfl rfl (fun a hF => ?_)
      refine ls hF hW rfl (y_pick_t hF rfl rfl rfl) (fun a w hF hW => ?_)
      refine ls_nil ?_
      refine c_then ?_
      refine c_cond_t hF rfl ?_
      refine c_seq ?_
      refine reg_list ?_
      refine ls hF hW rfl (y_assign hF rfl) (fun a w hF hW => ?_)
      refine ls hF hW rfl (y_assign hF rfl) (fun a w hF hW => ?_)
      refine ls_nil ?_
      refine c_then ?_
      refine wp_ret ?_
      refine r_then ?_
      refine post2 (.inl rfl) hF hW rfl (rv_tmp hF rfl) (rv_tmp hF rfl) ?_
      exact ⟨congrArg Ending.returned (vtuple (lcons (vint (show (0) = rscale_0 x num den by rw [rscale_0, if_neg c1, if_pos c2])) (lcons (vint (show (2) = rscale_1 x num den by rw [rscale_1, if_neg c1, if_pos c2])) rfl))), hW.frm.below⟩
    ·
      have c2 := of_decide_eq_false hb
      simp only [hb] at hF
      clear hb
      refine ls_w hF hW (wanted_y hF rfl rfl rfl rfl) rfl (Nat.le_of_ble_eq_true rfl) (y_move hF rfl) (fun a w hF hW => ?_)
      refine ls_w hF hW (wanted_y hF rfl rfl rfl rfl) rfl (Nat.le_of_ble_eq_true rfl) (y_lss hF rfl rfl) (fun a w hF hW => ?_)
      refine ls hF hW rfl (y_pick_f hF rfl rfl rfl) (fun a w hF hW => ?_)
      refine ls hF hW rfl (y_move hF rfl) (fun a w hF hW => ?_)
      rcases Bool.eq_false_or_eq_true (decide (den < 1)) with hb | hb
      ·
        have c3 := of_decide_eq_true hb
        simp only [hb] at hF
        clear hb
        refine ls_skip hF (wanted_n hF rfl rfl rfl rfl rfl) rfl rfl (fun a hF => ?_)
        refine ls_skip hF (wanted_n hF rfl rfl rfl rfl rfl) rfl rfl (fun a hF => ?_)
        refine ls hF hW rfl (y_pick_t hF rfl rfl rfl) (fun a w hF hW => ?_)
        refine ls_nil ?_
        refine c_then ?_
        refine c_cond_t hF rfl ?_
        refine c_seq ?_
        refine reg_list ?_
        refine ls hF hW rfl (y_assign hF rfl) (fun a w hF hW => ?_)
        refine ls hF hW rfl (y_assign hF rfl) (fun a w hF hW => ?_)
        refine ls_nil ?_
        refine c_then ?_
        refine wp_ret ?_
        refine r_then ?_
        refine post2 (.inl rfl) hF hW rfl (rv_tmp hF rfl) (rv_tmp hF rfl) ?_
        exact ⟨congrArg Ending.returned (vtuple (lcons (vint (show (0) = rscale_0 x num den by rw [rscale_0, if_neg c1, if_neg c2, if_pos c3])) (lcons (vint (show (2) = rscale_1 x num den by rw [rscale_1, if_neg c1, if_neg c2, if_pos c3])) rfl))), hW.frm.below⟩
      ·
        have c3 := of_decide_eq_false hb
        simp only [hb] at hF
        clear hb
        refine ls_w hF hW (wanted_y hF rfl rfl rfl rfl) rfl (Nat.le_of_ble_eq_true rfl) (y_move hF rfl) (fun a w hF hW => ?_)
        refine ls_w hF hW (wanted_y hF rfl rfl rfl rfl) rfl (Nat.le_of_ble_eq_true rfl) (y_gtr hF rfl rfl) (fun a w hF hW => ?_)
        refine ls hF hW rfl (y_pick_f hF rfl rfl rfl) (fun a w hF hW => ?_)
        refine ls_nil ?_
        refine c_then ?_
        refine c_cond hF rfl (fun hb => ?_) (fun hb => ?_)
        ·
          have c4 := of_decide_eq_true hb
          simp only [hb] at hF
          clear hb
          refine c_seq ?_
          refine reg_list ?_
          refine ls hF hW rfl (y_assign hF rfl) (fun a w hF hW => ?_)
          refine ls hF hW rfl (y_assign hF rfl) (fun a w hF hW => ?_)
          refine ls_nil ?_
          refine c_then ?_
          refine wp_ret ?_
          refine r_then ?_
          refine post2 (.inl rfl) hF hW rfl (rv_tmp hF rfl) (rv_tmp hF rfl) ?_
          exact ⟨congrArg Ending.returned (vtuple (lcons (vint (show (0) = rscale_0 x num den by rw [rscale_0, if_neg c1, if_neg c2, if_neg c3, if_pos c4])) (lcons (vint (show (2) = rscale_1 x num den by rw [rscale_1, if_neg c1, if_neg c2, if_neg c3, if_pos c4])) rfl))), hW.frm.below⟩
        ·
          have c4 := of_decide_eq_false hb
          simp only [hb] at hF
          clear hb
          refine wp_skip ?_
          refine c_then ?_
          refine c_seq ?_
          refine c_seq ?_
          refine reg_list ?_
          refine ls hF hW rfl (y_move hF rfl) (fun a w hF hW => ?_)
          refine ls hF hW rfl (y_call (v := Value.bool (rtime x)) hF H54 rfl (fun w _ => rtime_any x w )) (fun a w hF hW => ?_)
          refine ls hF hW rfl (y_not hF rfl) (fun a w hF hW => ?_)
          refine ls hF hW rfl (y_move hF rfl) (fun a w hF hW => ?_)
          rcases Bool.eq_false_or_eq_true (!(rtime x)) with hb | hb
          ·
            have c5 := hb
            have tc5 := (rtime_no x).1 (by simpa using c5)
            simp only [hb] at hF
            clear hb
            refine ls_skip hF (wanted_n hF rfl rfl rfl rfl rfl) rfl rfl (fun a hF => ?_)
            refine ls_skip hF (wanted_n hF rfl rfl rfl rfl rfl) rfl rfl (fun a hF => ?_)
            refine ls_skip hF (wanted_n hF rfl rfl rfl rfl rfl) rfl rfl (fun a hF => ?_)
            refine ls_skip hF (wanted_n hF rfl rfl rfl rfl rfl) rfl rfl (fun a hF => ?_)
            refine ls_skip hF (wanted_n hF rfl rfl rfl rfl rfl) rfl rfl (fun a hF => ?_)
            refine ls_skip hF (wanted_n hF rfl rfl rfl rfl rfl) rfl rfl (fun a hF => ?_)
            refine ls_skip hF (wanted_n hF rfl rfl rfl rfl rfl) rfl rfl (fun a hF => ?_)
            refine ls hF hW rfl (y_pick_t hF rfl rfl rfl) (fun a w hF hW => ?_)
            refine ls_nil ?_
            refine c_then ?_
            refine c_cond_t hF rfl ?_
            refine c_seq ?_
            refine reg_list ?_
            refine ls hF hW rfl (y_assign hF rfl) (fun a w hF hW => ?_)
            refine ls hF hW rfl (y_assign hF rfl) (fun a w hF hW => ?_)
            refine ls_nil ?_
            refine c_then ?_
            refine wp_ret ?_
            refine r_then ?_
            refine post2 (.inl rfl) hF hW rfl (rv_tmp hF rfl) (rv_tmp hF rfl) ?_
            exact ⟨congrArg Ending.returned (vtuple (lcons (vint (show (0) = rscale_0 x num den by rw [rscale_0, if_neg c1, if_neg c2, if_neg c3, if_neg c4, if_pos c5])) (lcons (vint (show (11) = rscale_1 x num den by rw [rscale_1, if_neg c1, if_neg c2, if_neg c3, if_neg c4, if_pos c5])) rfl))), hW.frm.below⟩
          ·
            have c5 : ¬ ((!(rtime x)) = true) := by rw [hb]; decide
            have tc5 := (rtime_iff x).1 (by simpa using c5)
            simp only [hb] at hF
            clear hb
            refine ls_w hF hW (wanted_y hF rfl rfl rfl rfl) rfl (Nat.le_of_ble_eq_true rfl) (y_move hF rfl) (fun a w hF hW => ?_)
            refine ls_w hF hW (wanted_y hF rfl rfl rfl rfl) rfl (Nat.le_of_ble_eq_true rfl) (y_move hF rfl) (fun a w hF hW => ?_)
            refine ls_w hF hW (wanted_y hF rfl rfl rfl rfl) rfl (Nat.le_of_ble_eq_true rfl) (y_mul hF rfl rfl (r := x * num) (IntWalk.i64_in _ (by have := scale_bd x num (by omega) (by omega) (by omega) (by omega); omega))) (fun a w hF hW => ?_)
            refine ls_w hF hW (wanted_y hF rfl rfl rfl rfl) rfl (Nat.le_of_ble_eq_true rfl) (y_move hF rfl) (fun a w hF hW => ?_)
            refine ls_w hF hW (wanted_y hF rfl rfl rfl rfl) rfl (Nat.le_of_ble_eq_true rfl) (y_call (v := Value.int IntKind.i64 (rfloor (x * num) den)) hF H63 rfl (fun w _ => rfloor_any (x * num) den w (by first | omega | (have := scale_bd x num (by omega) (by omega) (by omega) (by omega); omega)) (by first | omega | (have := scale_bd x num (by omega) (by omega) (by omega) (by omega); omega)) (by first | omega | (have := scale_bd x num (by omega) (by omega) (by omega) (by omega); omega)) (by first | omega | (have := scale_bd x num (by omega) (by omega) (by omega) (by omega); omega)))) (fun a w hF hW => ?_)
            refine ls_w hF hW (wanted_y hF rfl rfl rfl rfl) rfl (Nat.le_of_ble_eq_true rfl) (y_call (v := Value.bool (rtime (rfloor (x * num) den))) hF H54 rfl (fun w _ => rtime_any (rfloor (x * num) den) w )) (fun a w hF hW => ?_)
            refine ls_w hF hW (wanted_y hF rfl rfl rfl rfl) rfl (Nat.le_of_ble_eq_true rfl) (y_not hF rfl) (fun a w hF hW => ?_)
            refine ls hF hW rfl (y_pick_f hF rfl rfl rfl) (fun a w hF hW => ?_)
            refine ls_nil ?_
            refine c_then ?_
            refine c_cond hF rfl (fun hb => ?_) (fun hb => ?_)
            ·
              have c6 := hb
              have tc6 := (rtime_no (rfloor (x * num) den)).1 (by simpa using c6)
              simp only [hb] at hF
              clear hb
              refine c_seq ?_
              refine reg_list ?_
              refine ls hF hW rfl (y_assign hF rfl) (fun a w hF hW => ?_)
              refine ls hF hW rfl (y_assign hF rfl) (fun a w hF hW => ?_)
              refine ls_nil ?_
              refine c_then ?_
              refine wp_ret ?_
              refine r_then ?_
              refine post2 (.inl rfl) hF hW rfl (rv_tmp hF rfl) (rv_tmp hF rfl) ?_
              exact ⟨congrArg Ending.returned (vtuple (lcons (vint (show (0) = rscale_0 x num den by rw [rscale_0, if_neg c1, if_neg c2, if_neg c3, if_neg c4, if_neg c5, if_pos c6])) (lcons (vint (show (11) = rscale_1 x num den by rw [rscale_1, if_neg c1, if_neg c2, if_neg c3, if_neg c4, if_neg c5, if_pos c6])) rfl))), hW.frm.below⟩
            ·
              have c6 : ¬ ((!(rtime (rfloor (x * num) den))) = true) := by rw [hb]; decide
              have tc6 := (rtime_iff (rfloor (x * num) den)).1 (by simpa using c6)
              simp only [hb] at hF
              clear hb
              refine wp_skip ?_
              refine c_then ?_
              refine c_seq ?_
              refine reg_list ?_
              refine ls hF hW rfl (y_move hF rfl) (fun a w hF hW => ?_)
              refine ls hF hW rfl (y_move hF rfl) (fun a w hF hW => ?_)
              refine ls hF hW rfl (y_mul hF rfl rfl (r := x * num) (IntWalk.i64_in _ (by have := scale_bd x num (by omega) (by omega) (by omega) (by omega); omega))) (fun a w hF hW => ?_)
              refine ls hF hW rfl (y_move hF rfl) (fun a w hF hW => ?_)
              refine ls hF hW rfl (y_call (v := Value.int IntKind.i64 (rfloor (x * num) den)) hF H63 rfl (fun w _ => rfloor_any (x * num) den w (by first | omega | (have := scale_bd x num (by omega) (by omega) (by omega) (by omega); omega)) (by first | omega | (have := scale_bd x num (by omega) (by omega) (by omega) (by omega); omega)) (by first | omega | (have := scale_bd x num (by omega) (by omega) (by omega) (by omega); omega)) (by first | omega | (have := scale_bd x num (by omega) (by omega) (by omega) (by omega); omega)))) (fun a w hF hW => ?_)
              refine ls hF hW rfl (y_assign hF rfl) (fun a w hF hW => ?_)
              refine ls hF hW rfl (y_assign hF rfl) (fun a w hF hW => ?_)
              refine ls_nil ?_
              refine c_then ?_
              refine wp_ret ?_
              refine post2 (.inl rfl) hF hW rfl (rv_tmp hF rfl) (rv_tmp hF rfl) ?_
              exact ⟨congrArg Ending.returned (vtuple (lcons (vint (show (rfloor (x * num) den) = rscale_0 x num den by rw [rscale_0, if_neg c1, if_neg c2, if_neg c3, if_neg c4, if_neg c5, if_neg c6])) (lcons (vint (show (0) = rscale_1 x num den by rw [rscale_1, if_neg c1, if_neg c2, if_neg c3, if_neg c4, if_neg c5, if_neg c6])) rfl))), hW.frm.below⟩

theorem mul_two (a q : Int) : a * (2 * q) = a * q + a * q := by rw [← Int.mul_assoc, Int.mul_comm a 2, Int.mul_assoc]; omega
theorem mul_odd (a b s P : Int) (h : s + a * b = P) (q : Int) (hb : b = 2 * q + 1) : (s + a) + (a + a) * q = P := by
  subst hb h
  rw [Int.mul_add, Int.add_mul, mul_two, Int.mul_one]
  omega
theorem mul_even (a b s P : Int) (h : s + a * b = P) (q : Int) (hb : b = 2 * q) : s + (a + a) * q = P := by
  subst hb h
  rw [Int.add_mul, mul_two]
theorem mul_far (a b s P : Int) (h : s + a * b = P) (hb : 1 ≤ b) (hs : (0 ≤ a ∧ 0 ≤ s) ∨ (a ≤ 0 ∧ s ≤ 0)) : (0 ≤ a → s + a ≤ P) ∧ (a ≤ 0 → P ≤ s + a) := by
  subst h
  constructor
  · intro ha
    have := Int.mul_le_mul_of_nonneg_left hb ha
    omega
  · intro ha
    have h2 := Int.mul_le_mul_of_nonneg_left hb (show (0 : Int) ≤ -a by omega)
    rw [Int.neg_mul, Int.neg_mul] at h2
    omega
end Go.Proofs.Ytcnhmbjkippnnaa
