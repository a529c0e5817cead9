/- The walks of layer 2. -/
import Derived.Test.YtcnhmbjkippnnaaA1
namespace Go.Proofs.Ytcnhmbjkippnnaa
open Go Go.RowKit
set_option linter.unusedVariables false
def spanMeets (lo : Int) (hi : Int) (lo2 : Int) (hi2 : Int) (lo3 : Int) (hi3 : Int) (x : Int) : Bool := if (has (mine2_0 lo hi) (mine2_1 lo hi) x) = true then if (has (meet_0 (mine2_0 lo hi) (mine2_1 lo hi) (mine2_0 lo2 hi2) (mine2_1 lo2 hi2)) (meet_1 (mine2_0 lo hi) (mine2_1 lo hi) (mine2_0 lo2 hi2) (mine2_1 lo2 hi2)) x) ≠ (has (mine2_0 lo2 hi2) (mine2_1 lo2 hi2) x) then false else if (!(has (hull_0 (mine2_0 lo hi) (mine2_1 lo hi) (mine2_0 lo2 hi2) (mine2_1 lo2 hi2)) (hull_1 (mine2_0 lo hi) (mine2_1 lo hi) (mine2_0 lo2 hi2) (mine2_1 lo2 hi2)) x)) = true then false else if (meet_0 (mine2_0 lo hi) (mine2_1 lo hi) (mine2_0 lo2 hi2) (mine2_1 lo2 hi2)) = (meet_0 (mine2_0 lo2 hi2) (mine2_1 lo2 hi2) (mine2_0 lo hi) (mine2_1 lo hi)) ∧ (meet_1 (mine2_0 lo hi) (mine2_1 lo hi) (mine2_0 lo2 hi2) (mine2_1 lo2 hi2)) = (meet_1 (mine2_0 lo2 hi2) (mine2_1 lo2 hi2) (mine2_0 lo hi) (mine2_1 lo hi)) then if (meet_0 (meet_0 (mine2_0 lo hi) (mine2_1 lo hi) (mine2_0 lo2 hi2) (mine2_1 lo2 hi2)) (meet_1 (mine2_0 lo hi) (mine2_1 lo hi) (mine2_0 lo2 hi2) (mine2_1 lo2 hi2)) (mine2_0 lo3 hi3) (mine2_1 lo3 hi3)) = (meet_0 (mine2_0 lo hi) (mine2_1 lo hi) (meet_0 (mine2_0 lo2 hi2) (mine2_1 lo2 hi2) (mine2_0 lo3 hi3) (mine2_1 lo3 hi3)) (meet_1 (mine2_0 lo2 hi2) (mine2_1 lo2 hi2) (mine2_0 lo3 hi3) (mine2_1 lo3 hi3))) ∧ (meet_1 (meet_0 (mine2_0 lo hi) (mine2_1 lo hi) (mine2_0 lo2 hi2) (mine2_1 lo2 hi2)) (meet_1 (mine2_0 lo hi) (mine2_1 lo hi) (mine2_0 lo2 hi2) (mine2_1 lo2 hi2)) (mine2_0 lo3 hi3) (mine2_1 lo3 hi3)) = (meet_1 (mine2_0 lo hi) (mine2_1 lo hi) (meet_0 (mine2_0 lo2 hi2) (mine2_1 lo2 hi2) (mine2_0 lo3 hi3) (mine2_1 lo3 hi3)) (meet_1 (mine2_0 lo2 hi2) (mine2_1 lo2 hi2) (mine2_0 lo3 hi3) (mine2_1 lo3 hi3))) then if (hull_0 (mine2_0 lo hi) (mine2_1 lo hi) (mine2_0 lo2 hi2) (mine2_1 lo2 hi2)) = (hull_0 (mine2_0 lo2 hi2) (mine2_1 lo2 hi2) (mine2_0 lo hi) (mine2_1 lo hi)) ∧ (hull_1 (mine2_0 lo hi) (mine2_1 lo hi) (mine2_0 lo2 hi2) (mine2_1 lo2 hi2)) = (hull_1 (mine2_0 lo2 hi2) (mine2_1 lo2 hi2) (mine2_0 lo hi) (mine2_1 lo hi)) then if (within (meet_0 (mine2_0 lo hi) (mine2_1 lo hi) (mine2_0 lo2 hi2) (mine2_1 lo2 hi2)) (meet_1 (mine2_0 lo hi) (mine2_1 lo hi) (mine2_0 lo2 hi2) (mine2_1 lo2 hi2)) (mine2_0 lo2 hi2) (mine2_1 lo2 hi2)) = true then if (within (mine2_0 lo hi) (mine2_1 lo hi) (hull_0 (mine2_0 lo hi) (mine2_1 lo hi) (mine2_0 lo2 hi2) (mine2_1 lo2 hi2)) (hull_1 (mine2_0 lo hi) (mine2_1 lo hi) (mine2_0 lo2 hi2) (mine2_1 lo2 hi2))) = true then awake2 else false else false else false else false else false else if (has (meet_0 (mine2_0 lo hi) (mine2_1 lo hi) (mine2_0 lo2 hi2) (mine2_1 lo2 hi2)) (meet_1 (mine2_0 lo hi) (mine2_1 lo hi) (mine2_0 lo2 hi2) (mine2_1 lo2 hi2)) x) ≠ false then false else if (has (mine2_0 lo2 hi2) (mine2_1 lo2 hi2) x) = true then if (!(has (hull_0 (mine2_0 lo hi) (mine2_1 lo hi) (mine2_0 lo2 hi2) (mine2_1 lo2 hi2)) (hull_1 (mine2_0 lo hi) (mine2_1 lo hi) (mine2_0 lo2 hi2) (mine2_1 lo2 hi2)) x)) = true then false else if (meet_0 (mine2_0 lo hi) (mine2_1 lo hi) (mine2_0 lo2 hi2) (mine2_1 lo2 hi2)) = (meet_0 (mine2_0 lo2 hi2) (mine2_1 lo2 hi2) (mine2_0 lo hi) (mine2_1 lo hi)) ∧ (meet_1 (mine2_0 lo hi) (mine2_1 lo hi) (mine2_0 lo2 hi2) (mine2_1 lo2 hi2)) = (meet_1 (mine2_0 lo2 hi2) (mine2_1 lo2 hi2) (mine2_0 lo hi) (mine2_1 lo hi)) then if (meet_0 (meet_0 (mine2_0 lo hi) (mine2_1 lo hi) (mine2_0 lo2 hi2) (mine2_1 lo2 hi2)) (meet_1 (mine2_0 lo hi) (mine2_1 lo hi) (mine2_0 lo2 hi2) (mine2_1 lo2 hi2)) (mine2_0 lo3 hi3) (mine2_1 lo3 hi3)) = (meet_0 (mine2_0 lo hi) (mine2_1 lo hi) (meet_0 (mine2_0 lo2 hi2) (mine2_1 lo2 hi2) (mine2_0 lo3 hi3) (mine2_1 lo3 hi3)) (meet_1 (mine2_0 lo2 hi2) (mine2_1 lo2 hi2) (mine2_0 lo3 hi3) (mine2_1 lo3 hi3))) ∧ (meet_1 (meet_0 (mine2_0 lo hi) (mine2_1 lo hi) (mine2_0 lo2 hi2) (mine2_1 lo2 hi2)) (meet_1 (mine2_0 lo hi) (mine2_1 lo hi) (mine2_0 lo2 hi2) (mine2_1 lo2 hi2)) (mine2_0 lo3 hi3) (mine2_1 lo3 hi3)) = (meet_1 (mine2_0 lo hi) (mine2_1 lo hi) (meet_0 (mine2_0 lo2 hi2) (mine2_1 lo2 hi2) (mine2_0 lo3 hi3) (mine2_1 lo3 hi3)) (meet_1 (mine2_0 lo2 hi2) (mine2_1 lo2 hi2) (mine2_0 lo3 hi3) (mine2_1 lo3 hi3))) then if (hull_0 (mine2_0 lo hi) (mine2_1 lo hi) (mine2_0 lo2 hi2) (mine2_1 lo2 hi2)) = (hull_0 (mine2_0 lo2 hi2) (mine2_1 lo2 hi2) (mine2_0 lo hi) (mine2_1 lo hi)) ∧ (hull_1 (mine2_0 lo hi) (mine2_1 lo hi) (mine2_0 lo2 hi2) (mine2_1 lo2 hi2)) = (hull_1 (mine2_0 lo2 hi2) (mine2_1 lo2 hi2) (mine2_0 lo hi) (mine2_1 lo hi)) then if (within (meet_0 (mine2_0 lo hi) (mine2_1 lo hi) (mine2_0 lo2 hi2) (mine2_1 lo2 hi2)) (meet_1 (mine2_0 lo hi) (mine2_1 lo hi) (mine2_0 lo2 hi2) (mine2_1 lo2 hi2)) (mine2_0 lo2 hi2) (mine2_1 lo2 hi2)) = true then if (within (mine2_0 lo hi) (mine2_1 lo hi) (hull_0 (mine2_0 lo hi) (mine2_1 lo hi) (mine2_0 lo2 hi2) (mine2_1 lo2 hi2)) (hull_1 (mine2_0 lo hi) (mine2_1 lo hi) (mine2_0 lo2 hi2) (mine2_1 lo2 hi2))) = true then awake2 else false else false else false else false else false else if (meet_0 (mine2_0 lo hi) (mine2_1 lo hi) (mine2_0 lo2 hi2) (mine2_1 lo2 hi2)) = (meet_0 (mine2_0 lo2 hi2) (mine2_1 lo2 hi2) (mine2_0 lo hi) (mine2_1 lo hi)) ∧ (meet_1 (mine2_0 lo hi) (mine2_1 lo hi) (mine2_0 lo2 hi2) (mine2_1 lo2 hi2)) = (meet_1 (mine2_0 lo2 hi2) (mine2_1 lo2 hi2) (mine2_0 lo hi) (mine2_1 lo hi)) then if (meet_0 (meet_0 (mine2_0 lo hi) (mine2_1 lo hi) (mine2_0 lo2 hi2) (mine2_1 lo2 hi2)) (meet_1 (mine2_0 lo hi) (mine2_1 lo hi) (mine2_0 lo2 hi2) (mine2_1 lo2 hi2)) (mine2_0 lo3 hi3) (mine2_1 lo3 hi3)) = (meet_0 (mine2_0 lo hi) (mine2_1 lo hi) (meet_0 (mine2_0 lo2 hi2) (mine2_1 lo2 hi2) (mine2_0 lo3 hi3) (mine2_1 lo3 hi3)) (meet_1 (mine2_0 lo2 hi2) (mine2_1 lo2 hi2) (mine2_0 lo3 hi3) (mine2_1 lo3 hi3))) ∧ (meet_1 (meet_0 (mine2_0 lo hi) (mine2_1 lo hi) (mine2_0 lo2 hi2) (mine2_1 lo2 hi2)) (meet_1 (mine2_0 lo hi) (mine2_1 lo hi) (mine2_0 lo2 hi2) (mine2_1 lo2 hi2)) (mine2_0 lo3 hi3) (mine2_1 lo3 hi3)) = (meet_1 (mine2_0 lo hi) (mine2_1 lo hi) (meet_0 (mine2_0 lo2 hi2) (mine2_1 lo2 hi2) (mine2_0 lo3 hi3) (mine2_1 lo3 hi3)) (meet_1 (mine2_0 lo2 hi2) (mine2_1 lo2 hi2) (mine2_0 lo3 hi3) (mine2_1 lo3 hi3))) then if (hull_0 (mine2_0 lo hi) (mine2_1 lo hi) (mine2_0 lo2 hi2) (mine2_1 lo2 hi2)) = (hull_0 (mine2_0 lo2 hi2) (mine2_1 lo2 hi2) (mine2_0 lo hi) (mine2_1 lo hi)) ∧ (hull_1 (mine2_0 lo hi) (mine2_1 lo hi) (mine2_0 lo2 hi2) (mine2_1 lo2 hi2)) = (hull_1 (mine2_0 lo2 hi2) (mine2_1 lo2 hi2) (mine2_0 lo hi) (mine2_1 lo hi)) then if (within (meet_0 (mine2_0 lo hi) (mine2_1 lo hi) (mine2_0 lo2 hi2) (mine2_1 lo2 hi2)) (meet_1 (mine2_0 lo hi) (mine2_1 lo hi) (mine2_0 lo2 hi2) (mine2_1 lo2 hi2)) (mine2_0 lo2 hi2) (mine2_1 lo2 hi2)) = true then if (within (mine2_0 lo hi) (mine2_1 lo hi) (hull_0 (mine2_0 lo hi) (mine2_1 lo hi) (mine2_0 lo2 hi2) (mine2_1 lo2 hi2)) (hull_1 (mine2_0 lo hi) (mine2_1 lo hi) (mine2_0 lo2 hi2) (mine2_1 lo2 hi2))) = true then awake2 else false else false else false else false else false
theorem spanMeets_any (lo : Int) (hi : Int) (lo2 : Int) (hi2 : Int) (lo3 : Int) (hi3 : Int) (x : Int) (w : World)  :
    Calls Try.prog 9 #[Value.agg #[Value.int IntKind.i64 lo, Value.int IntKind.i64 hi], Value.agg #[Value.int IntKind.i64 lo2, Value.int IntKind.i64 hi2], Value.agg #[Value.int IntKind.i64 lo3, Value.int IntKind.i64 hi3], Value.int IntKind.i64 x] w fun e w' => e = .returned (Value.bool (spanMeets lo hi lo2 hi2 lo3 hi3 x)) ∧ Below w.heap.size w w' := by
  refine enter Try.func9 rfl Try.ntmps9 rfl (fun a hF => ?_)
  have hW := Stw.start w
  refine c_seq ?_
  refine reg_list ?_
  refine l_box (cs := [Value.int IntKind.i64 lo, Value.int IntKind.i64 hi]) hF hW rfl rfl rfl (fun b1 a w hF hW => ?_)
  refine l_box (cs := [Value.int IntKind.i64 lo2, Value.int IntKind.i64 hi2]) hF hW rfl rfl rfl (fun b2 a w hF hW => ?_)
  refine l_box (cs := [Value.int IntKind.i64 lo3, Value.int IntKind.i64 hi3]) hF hW rfl rfl rfl (fun b3 a w hF hW => ?_)
  refine ls hF hW rfl (y_assign hF rfl) (fun a w hF hW => ?_)
  refine ls_nil ?_
  refine c_then ?_
  refine c_seq ?_
  refine reg_ord 9 [0, 1, 2, 3, 4, 5, 6, 7, 8] hW MO (by kernel_rfl) ?_
  refine hs hF rfl rfl rfl (y_load (v := Value.agg #[Value.int IntKind.i64 lo, Value.int IntKind.i64 hi]) 2 hF rfl rfl T45 rfl) (fun a hF => ?_)
  refine hs hF rfl rfl rfl (y_call (v := Value.agg #[Value.int IntKind.i64 (mine2_0 lo hi), Value.int IntKind.i64 (mine2_1 lo hi)]) hF H27 rfl (fun w _ => mine2_any lo hi w )) (fun a hF => ?_)
  refine hs hF rfl rfl rfl (y_load (v := Value.agg #[Value.int IntKind.i64 lo2, Value.int IntKind.i64 hi2]) 1 hF rfl rfl T45 rfl) (fun a hF => ?_)
  refine hs hF rfl rfl rfl (y_call (v := Value.agg #[Value.int IntKind.i64 (mine2_0 lo2 hi2), Value.int IntKind.i64 (mine2_1 lo2 hi2)]) hF H27 rfl (fun w _ => mine2_any lo2 hi2 w )) (fun a hF => ?_)
  refine hs hF rfl rfl rfl (y_load (v := Value.agg #[Value.int IntKind.i64 lo3, Value.int IntKind.i64 hi3]) 0 hF rfl rfl T45 rfl) (fun a hF => ?_)
  refine hs hF rfl rfl rfl (y_call (v := Value.agg #[Value.int IntKind.i64 (mine2_0 lo3 hi3), Value.int IntKind.i64 (mine2_1 lo3 hi3)]) hF H27 rfl (fun w _ => mine2_any lo3 hi3 w )) (fun a hF => ?_)
  refine ha (cs := [Value.int IntKind.i64 0, Value.int IntKind.i64 0]) hF rfl rfl Z46 rfl (fun b4 a hF => ?_)
  refine ha (cs := [Value.int IntKind.i64 0, Value.int IntKind.i64 0]) hF rfl rfl Z46 rfl (fun b5 a hF => ?_)
  refine ha (cs := [Value.int IntKind.i64 0, Value.int IntKind.i64 0]) hF rfl rfl Z46 rfl (fun b6 a hF => ?_)
  refine h_end (fun w hW => ?_)
  have hW : Stw _ _ [(b6, [Value.int IntKind.i64 0, Value.int IntKind.i64 0]), (b5, [Value.int IntKind.i64 0, Value.int IntKind.i64 0]), (b4, [Value.int IntKind.i64 0, Value.int IntKind.i64 0]), (b3, [Value.int IntKind.i64 lo3, Value.int IntKind.i64 hi3]), (b2, [Value.int IntKind.i64 lo2, Value.int IntKind.i64 hi2]), (b1, [Value.int IntKind.i64 lo, Value.int IntKind.i64 hi])] w := hW
  refine l_store (vs := [Value.int IntKind.i64 (mine2_0 lo hi), Value.int IntKind.i64 (mine2_1 lo hi)]) (M' := [(b6, [Value.int IntKind.i64 0, Value.int IntKind.i64 0]), (b5, [Value.int IntKind.i64 0, Value.int IntKind.i64 0]), (b4, [Value.int IntKind.i64 (mine2_0 lo hi), Value.int IntKind.i64 (mine2_1 lo hi)]), (b3, [Value.int IntKind.i64 lo3, Value.int IntKind.i64 hi3]), (b2, [Value.int IntKind.i64 lo2, Value.int IntKind.i64 hi2]), (b1, [Value.int IntKind.i64 lo, Value.int IntKind.i64 hi])]) 2 hF hW rfl rfl rfl T46 rfl rfl rfl rfl rfl (fun w hW => ?_)
  refine l_store (vs := [Value.int IntKind.i64 (mine2_0 lo2 hi2), Value.int IntKind.i64 (mine2_1 lo2 hi2)]) (M' := [(b6, [Value.int IntKind.i64 0, Value.int IntKind.i64 0]), (b5, [Value.int IntKind.i64 (mine2_0 lo2 hi2), Value.int IntKind.i64 (mine2_1 lo2 hi2)]), (b4, [Value.int IntKind.i64 (mine2_0 lo hi), Value.int IntKind.i64 (mine2_1 lo hi)]), (b3, [Value.int IntKind.i64 lo3, Value.int IntKind.i64 hi3]), (b2, [Value.int IntKind.i64 lo2, Value.int IntKind.i64 hi2]), (b1, [Value.int IntKind.i64 lo, Value.int IntKind.i64 hi])]) 1 hF hW rfl rfl rfl T46 rfl rfl rfl rfl rfl (fun w hW => ?_)
  refine l_store (vs := [Value.int IntKind.i64 (mine2_0 lo3 hi3), Value.int IntKind.i64 (mine2_1 lo3 hi3)]) (M' := [(b6, [Value.int IntKind.i64 (mine2_0 lo3 hi3), Value.int IntKind.i64 (mine2_1 lo3 hi3)]), (b5, [Value.int IntKind.i64 (mine2_0 lo2 hi2), Value.int IntKind.i64 (mine2_1 lo2 hi2)]), (b4, [Value.int IntKind.i64 (mine2_0 lo hi), Value.int IntKind.i64 (mine2_1 lo hi)]), (b3, [Value.int IntKind.i64 lo3, Value.int IntKind.i64 hi3]), (b2, [Value.int IntKind.i64 lo2, Value.int IntKind.i64 hi2]), (b1, [Value.int IntKind.i64 lo, Value.int IntKind.i64 hi])]) 0 hF hW rfl rfl rfl T46 rfl rfl rfl rfl rfl (fun w hW => ?_)
  refine ls_nil ?_
  refine c_then ?_
  refine c_seq ?_
  refine reg_quiet hW MO (by kernel_rfl) ?_
  refine qs hF rfl (y_load (v := Value.agg #[Value.int IntKind.i64 (mine2_0 lo hi), Value.int IntKind.i64 (mine2_1 lo hi)]) 2 hF rfl rfl T46 rfl) (fun a hF => ?_)
  refine qs hF rfl (y_move hF rfl) (fun a hF => ?_)
  refine qs hF rfl (y_call (v := Value.bool (has (mine2_0 lo hi) (mine2_1 lo hi) x)) hF H39 rfl (fun w _ => has_any (mine2_0 lo hi) (mine2_1 lo hi) x w )) (fun a hF => ?_)
  refine qs hF rfl (y_load (v := Value.agg #[Value.int IntKind.i64 (mine2_0 lo2 hi2), Value.int IntKind.i64 (mine2_1 lo2 hi2)]) 1 hF rfl rfl T46 rfl) (fun a hF => ?_)
  refine qs hF rfl (y_move hF rfl) (fun a hF => ?_)
  refine qs hF rfl (y_call (v := Value.bool (has (mine2_0 lo2 hi2) (mine2_1 lo2 hi2) x)) hF H39 rfl (fun w _ => has_any (mine2_0 lo2 hi2) (mine2_1 lo2 hi2) x w )) (fun a hF => ?_)
  refine qs hF rfl (y_assign hF rfl) (fun a hF => ?_)
  refine qs hF rfl (y_assign hF rfl) (fun a hF => ?_)
  refine quiet_end (fun w hW => ?_)
  refine c_then ?_
  refine c_seq ?_
  refine c_seq ?_
  refine reg_list ?_
  refine ls hF hW rfl (y_load (v := Value.agg #[Value.int IntKind.i64 (mine2_0 lo hi), Value.int IntKind.i64 (mine2_1 lo hi)]) 2 hF rfl rfl T46 rfl) (fun a w hF hW => ?_)
  refine ls hF hW rfl (y_load (v := Value.agg #[Value.int IntKind.i64 (mine2_0 lo2 hi2), Value.int IntKind.i64 (mine2_1 lo2 hi2)]) 1 hF rfl rfl T46 rfl) (fun a w hF hW => ?_)
  refine ls hF hW rfl (y_call (v := Value.agg #[Value.int IntKind.i64 (meet_0 (mine2_0 lo hi) (mine2_1 lo hi) (mine2_0 lo2 hi2) (mine2_1 lo2 hi2)), Value.int IntKind.i64 (meet_1 (mine2_0 lo hi) (mine2_1 lo hi) (mine2_0 lo2 hi2) (mine2_1 lo2 hi2))]) hF H31 rfl (fun w _ => meet_any (mine2_0 lo hi) (mine2_1 lo hi) (mine2_0 lo2 hi2) (mine2_1 lo2 hi2) w )) (fun a w hF hW => ?_)
  refine ls hF hW rfl (y_move hF rfl) (fun a w hF hW => ?_)
  refine ls hF hW rfl (y_call (v := Value.bool (has (meet_0 (mine2_0 lo hi) (mine2_1 lo hi) (mine2_0 lo2 hi2) (mine2_1 lo2 hi2)) (meet_1 (mine2_0 lo hi) (mine2_1 lo hi) (mine2_0 lo2 hi2) (mine2_1 lo2 hi2)) x)) hF H39 rfl (fun w _ => has_any (meet_0 (mine2_0 lo hi) (mine2_1 lo hi) (mine2_0 lo2 hi2) (mine2_1 lo2 hi2)) (meet_1 (mine2_0 lo hi) (mine2_1 lo hi) (mine2_0 lo2 hi2) (mine2_1 lo2 hi2)) x w )) (fun a w hF hW => ?_)
  refine ls hF hW rfl (y_move hF rfl) (fun a w hF hW => ?_)
  refine ls hF hW rfl (y_move hF rfl) (fun a w hF hW => ?_)
  rcases Bool.eq_false_or_eq_true (has (mine2_0 lo hi) (mine2_1 lo hi) x) with hb | hb
  ·
    have c1 := hb
    simp only [hb] at hF
    clear hb
    refine ls_w hF hW (wanted_y hF rfl rfl rfl rfl) rfl (Nat.le_of_ble_eq_true rfl) (y_move hF rfl) (fun a w hF hW => ?_)
    refine ls hF hW rfl (y_pick_t hF rfl rfl rfl) (fun a w hF hW => ?_)
    refine ls hF hW rfl (y_neb Try.underlying4 hF rfl rfl) (fun a w hF hW => ?_)
    refine ls hF hW rfl (y_move hF rfl) (fun a w hF hW => ?_)
    rcases Bool.eq_false_or_eq_true (decide ((has (meet_0 (mine2_0 lo hi) (mine2_1 lo hi) (mine2_0 lo2 hi2) (mine2_1 lo2 hi2)) (meet_1 (mine2_0 lo hi) (mine2_1 lo hi) (mine2_0 lo2 hi2) (mine2_1 lo2 hi2)) x) ≠ (has (mine2_0 lo2 hi2) (mine2_1 lo2 hi2) x))) with hb | hb
    ·
      have c2 := of_decide_eq_true hb
      simp only [hb] at hF
      clear hb
      refine ls_skip hF (wanted_n hF rfl rfl rfl rfl rfl) rfl rfl (fun a hF => ?_)
      refine ls_skip hF (wanted_n hF rfl rfl rfl rfl rfl) rfl rfl (fun a hF => ?_)
      refine ls_skip hF (wanted_undef hF rfl rfl rfl rfl) rfl rfl (fun a hF => ?_)
      refine ls_skip hF (wanted_n hF rfl rfl rfl rfl rfl) rfl rfl (fun a hF => ?_)
      refine ls_skip hF (wanted_n hF rfl rfl rfl rfl rfl) rfl rfl (fun a hF => ?_)
      refine ls_skip hF (wanted_undef hF rfl rfl rfl rfl) rfl rfl (fun a hF => ?_)
      refine ls_skip hF (wanted_undef hF rfl rfl rfl rfl) rfl rfl (fun a hF => ?_)
      refine ls_skip hF (wanted_undef hF rfl rfl rfl rfl) rfl rfl (fun a hF => ?_)
      refine ls_skip hF (wanted_undef hF rfl rfl rfl rfl) rfl rfl (fun a hF => ?_)
      refine ls_skip hF (wanted_undef hF rfl rfl rfl rfl) rfl rfl (fun a hF => ?_)
      refine ls_skip hF (wanted_undef hF rfl rfl rfl rfl) rfl rfl (fun a hF => ?_)
      refine ls_skip hF (wanted_n hF rfl rfl rfl rfl rfl) rfl rfl (fun a hF => ?_)
      refine ls hF hW rfl (y_pick_t hF rfl rfl rfl) (fun a w hF hW => ?_)
      refine ls_nil ?_
      refine c_then ?_
      refine c_cond_t hF rfl ?_
      refine c_seq ?_
      refine reg_list ?_
      refine ls hF hW rfl (y_assign hF rfl) (fun a w hF hW => ?_)
      refine ls_nil ?_
      refine c_then ?_
      refine wp_ret ?_
      refine r_then ?_
      refine post1 (.inl rfl) hF hW rfl (rv_tmp hF rfl) ?_
      exact ⟨congrArg Ending.returned (vbool (show (false) = spanMeets lo hi lo2 hi2 lo3 hi3 x by rw [spanMeets, if_pos c1, if_pos c2])), hW.frm.below⟩
    ·
      have c2 := of_decide_eq_false hb
      simp only [hb] at hF
      clear hb
      refine ls_w hF hW (wanted_y hF rfl rfl rfl rfl) rfl (Nat.le_of_ble_eq_true rfl) (y_move hF rfl) (fun a w hF hW => ?_)
      refine ls_w hF hW (wanted_y hF rfl rfl rfl rfl) rfl (Nat.le_of_ble_eq_true rfl) (y_move hF rfl) (fun a w hF hW => ?_)
      refine ls_skip hF (wanted_n hF rfl rfl rfl rfl rfl) rfl rfl (fun a hF => ?_)
      refine ls_w hF hW (wanted_y hF rfl rfl rfl rfl) rfl (Nat.le_of_ble_eq_true rfl) (y_pick_t hF rfl rfl rfl) (fun a w hF hW => ?_)
      refine ls_w hF hW (wanted_y hF rfl rfl rfl rfl) rfl (Nat.le_of_ble_eq_true rfl) (y_move hF rfl) (fun a w hF hW => ?_)
      refine ls_w hF hW (wanted_y hF rfl rfl rfl rfl) rfl (Nat.le_of_ble_eq_true rfl) (y_load (v := Value.agg #[Value.int IntKind.i64 (mine2_0 lo hi), Value.int IntKind.i64 (mine2_1 lo hi)]) 2 hF rfl rfl T46 rfl) (fun a w hF hW => ?_)
      refine ls_w hF hW (wanted_y hF rfl rfl rfl rfl) rfl (Nat.le_of_ble_eq_true rfl) (y_load (v := Value.agg #[Value.int IntKind.i64 (mine2_0 lo2 hi2), Value.int IntKind.i64 (mine2_1 lo2 hi2)]) 1 hF rfl rfl T46 rfl) (fun a w hF hW => ?_)
      refine ls_w hF hW (wanted_y hF rfl rfl rfl rfl) rfl (Nat.le_of_ble_eq_true rfl) (y_call (v := Value.agg #[Value.int IntKind.i64 (hull_0 (mine2_0 lo hi) (mine2_1 lo hi) (mine2_0 lo2 hi2) (mine2_1 lo2 hi2)), Value.int IntKind.i64 (hull_1 (mine2_0 lo hi) (mine2_1 lo hi) (mine2_0 lo2 hi2) (mine2_1 lo2 hi2))]) hF H33 rfl (fun w _ => hull_any (mine2_0 lo hi) (mine2_1 lo hi) (mine2_0 lo2 hi2) (mine2_1 lo2 hi2) w )) (fun a w hF hW => ?_)
      refine ls_w hF hW (wanted_y hF rfl rfl rfl rfl) rfl (Nat.le_of_ble_eq_true rfl) (y_move hF rfl) (fun a w hF hW => ?_)
      refine ls_w hF hW (wanted_y hF rfl rfl rfl rfl) rfl (Nat.le_of_ble_eq_true rfl) (y_call (v := Value.bool (has (hull_0 (mine2_0 lo hi) (mine2_1 lo hi) (mine2_0 lo2 hi2) (mine2_1 lo2 hi2)) (hull_1 (mine2_0 lo hi) (mine2_1 lo hi) (mine2_0 lo2 hi2) (mine2_1 lo2 hi2)) x)) hF H39 rfl (fun w _ => has_any (hull_0 (mine2_0 lo hi) (mine2_1 lo hi) (mine2_0 lo2 hi2) (mine2_1 lo2 hi2)) (hull_1 (mine2_0 lo hi) (mine2_1 lo hi) (mine2_0 lo2 hi2) (mine2_1 lo2 hi2)) x w )) (fun a w hF hW => ?_)
      refine ls_w hF hW (wanted_y hF rfl rfl rfl rfl) rfl (Nat.le_of_ble_eq_true rfl) (y_not hF rfl) (fun a w hF hW => ?_)
      refine ls_w hF hW (wanted_y hF rfl rfl rfl rfl) rfl (Nat.le_of_ble_eq_true rfl) (y_pick_t hF rfl rfl rfl) (fun a w hF hW => ?_)
      refine ls hF hW rfl (y_pick_f hF rfl rfl rfl) (fun a w hF hW => ?_)
      refine ls_nil ?_
      refine c_then ?_
      refine c_cond hF rfl (fun hb => ?_) (fun hb => ?_)
      ·
        have c3 := hb
        simp only [hb] at hF
        clear hb
        refine c_seq ?_
        refine reg_list ?_
        refine ls hF hW rfl (y_assign hF rfl) (fun a w hF hW => ?_)
        refine ls_nil ?_
        refine c_then ?_
        refine wp_ret ?_
        refine r_then ?_
        refine post1 (.inl rfl) hF hW rfl (rv_tmp hF rfl) ?_
        exact ⟨congrArg Ending.returned (vbool (show (false) = spanMeets lo hi lo2 hi2 lo3 hi3 x by rw [spanMeets, if_pos c1, if_neg c2, if_pos c3])), hW.frm.below⟩
      ·
        have c3 : ¬ ((!(has (hull_0 (mine2_0 lo hi) (mine2_1 lo hi) (mine2_0 lo2 hi2) (mine2_1 lo2 hi2)) (hull_1 (mine2_0 lo hi) (mine2_1 lo hi) (mine2_0 lo2 hi2) (mine2_1 lo2 hi2)) x)) = true) := by rw [hb]; decide
        simp only [hb] at hF
        clear hb
        refine wp_skip ?_
        refine c_then ?_
        refine c_seq ?_
        refine reg_quiet hW MO (by kernel_rfl) ?_
        refine qs hF rfl (y_load (v := Value.agg #[Value.int IntKind.i64 (mine2_0 lo hi), Value.int IntKind.i64 (mine2_1 lo hi)]) 2 hF rfl rfl T46 rfl) (fun a hF => ?_)
        refine qs hF rfl (y_load (v := Value.agg #[Value.int IntKind.i64 (mine2_0 lo2 hi2), Value.int IntKind.i64 (mine2_1 lo2 hi2)]) 1 hF rfl rfl T46 rfl) (fun a hF => ?_)
        refine qs hF rfl (y_call (v := Value.agg #[Value.int IntKind.i64 (meet_0 (mine2_0 lo hi) (mine2_1 lo hi) (mine2_0 lo2 hi2) (mine2_1 lo2 hi2)), Value.int IntKind.i64 (meet_1 (mine2_0 lo hi) (mine2_1 lo hi) (mine2_0 lo2 hi2) (mine2_1 lo2 hi2))]) hF H31 rfl (fun w _ => meet_any (mine2_0 lo hi) (mine2_1 lo hi) (mine2_0 lo2 hi2) (mine2_1 lo2 hi2) w )) (fun a hF => ?_)
        refine qs hF rfl (y_load (v := Value.agg #[Value.int IntKind.i64 (mine2_0 lo2 hi2), Value.int IntKind.i64 (mine2_1 lo2 hi2)]) 1 hF rfl rfl T46 rfl) (fun a hF => ?_)
        refine qs hF rfl (y_load (v := Value.agg #[Value.int IntKind.i64 (mine2_0 lo hi), Value.int IntKind.i64 (mine2_1 lo hi)]) 2 hF rfl rfl T46 rfl) (fun a hF => ?_)
        refine qs hF rfl (y_call (v := Value.agg #[Value.int IntKind.i64 (meet_0 (mine2_0 lo2 hi2) (mine2_1 lo2 hi2) (mine2_0 lo hi) (mine2_1 lo hi)), Value.int IntKind.i64 (meet_1 (mine2_0 lo2 hi2) (mine2_1 lo2 hi2) (mine2_0 lo hi) (mine2_1 lo hi))]) hF H31 rfl (fun w _ => meet_any (mine2_0 lo2 hi2) (mine2_1 lo2 hi2) (mine2_0 lo hi) (mine2_1 lo hi) w )) (fun a hF => ?_)
        refine qs hF rfl (y_eqa (t := decide ((meet_0 (mine2_0 lo hi) (mine2_1 lo hi) (mine2_0 lo2 hi2) (mine2_1 lo2 hi2)) = (meet_0 (mine2_0 lo2 hi2) (mine2_1 lo2 hi2) (mine2_0 lo hi) (mine2_1 lo hi)) ∧ (meet_1 (mine2_0 lo hi) (mine2_1 lo hi) (mine2_0 lo2 hi2) (mine2_1 lo2 hi2)) = (meet_1 (mine2_0 lo2 hi2) (mine2_1 lo2 hi2) (mine2_0 lo hi) (mine2_1 lo hi)))) G46 (E46 _ _ _ _) hF rfl rfl) (fun a hF => ?_)
        refine qs hF rfl (y_move hF rfl) (fun a hF => ?_)
        rcases Bool.eq_false_or_eq_true (decide ((meet_0 (mine2_0 lo hi) (mine2_1 lo hi) (mine2_0 lo2 hi2) (mine2_1 lo2 hi2)) = (meet_0 (mine2_0 lo2 hi2) (mine2_1 lo2 hi2) (mine2_0 lo hi) (mine2_1 lo hi)) ∧ (meet_1 (mine2_0 lo hi) (mine2_1 lo hi) (mine2_0 lo2 hi2) (mine2_1 lo2 hi2)) = (meet_1 (mine2_0 lo2 hi2) (mine2_1 lo2 hi2) (mine2_0 lo hi) (mine2_1 lo hi)))) with hb | hb
        ·
          have c4 := of_decide_eq_true hb
          simp only [hb] at hF
          clear hb
          refine qs_w hF (wanted_y hF rfl rfl rfl rfl) rfl (Nat.le_of_ble_eq_true rfl) (y_load (v := Value.agg #[Value.int IntKind.i64 (mine2_0 lo hi), Value.int IntKind.i64 (mine2_1 lo hi)]) 2 hF rfl rfl T46 rfl) (fun a hF => ?_)
          refine qs_w hF (wanted_y hF rfl rfl rfl rfl) rfl (Nat.le_of_ble_eq_true rfl) (y_load (v := Value.agg #[Value.int IntKind.i64 (mine2_0 lo2 hi2), Value.int IntKind.i64 (mine2_1 lo2 hi2)]) 1 hF rfl rfl T46 rfl) (fun a hF => ?_)
          refine qs_w hF (wanted_y hF rfl rfl rfl rfl) rfl (Nat.le_of_ble_eq_true rfl) (y_call (v := Value.agg #[Value.int IntKind.i64 (meet_0 (mine2_0 lo hi) (mine2_1 lo hi) (mine2_0 lo2 hi2) (mine2_1 lo2 hi2)), Value.int IntKind.i64 (meet_1 (mine2_0 lo hi) (mine2_1 lo hi) (mine2_0 lo2 hi2) (mine2_1 lo2 hi2))]) hF H31 rfl (fun w _ => meet_any (mine2_0 lo hi) (mine2_1 lo hi) (mine2_0 lo2 hi2) (mine2_1 lo2 hi2) w )) (fun a hF => ?_)
          refine qs_w hF (wanted_y hF rfl rfl rfl rfl) rfl (Nat.le_of_ble_eq_true rfl) (y_load (v := Value.agg #[Value.int IntKind.i64 (mine2_0 lo3 hi3), Value.int IntKind.i64 (mine2_1 lo3 hi3)]) 0 hF rfl rfl T46 rfl) (fun a hF => ?_)
          refine qs_w hF (wanted_y hF rfl rfl rfl rfl) rfl (Nat.le_of_ble_eq_true rfl) (y_call (v := Value.agg #[Value.int IntKind.i64 (meet_0 (meet_0 (mine2_0 lo hi) (mine2_1 lo hi) (mine2_0 lo2 hi2) (mine2_1 lo2 hi2)) (meet_1 (mine2_0 lo hi) (mine2_1 lo hi) (mine2_0 lo2 hi2) (mine2_1 lo2 hi2)) (mine2_0 lo3 hi3) (mine2_1 lo3 hi3)), Value.int IntKind.i64 (meet_1 (meet_0 (mine2_0 lo hi) (mine2_1 lo hi) (mine2_0 lo2 hi2) (mine2_1 lo2 hi2)) (meet_1 (mine2_0 lo hi) (mine2_1 lo hi) (mine2_0 lo2 hi2) (mine2_1 lo2 hi2)) (mine2_0 lo3 hi3) (mine2_1 lo3 hi3))]) hF H31 rfl (fun w _ => meet_any (meet_0 (mine2_0 lo hi) (mine2_1 lo hi) (mine2_0 lo2 hi2) (mine2_1 lo2 hi2)) (meet_1 (mine2_0 lo hi) (mine2_1 lo hi) (mine2_0 lo2 hi2) (mine2_1 lo2 hi2)) (mine2_0 lo3 hi3) (mine2_1 lo3 hi3) w )) (fun a hF => ?_)
          refine qs_w hF (wanted_y hF rfl rfl rfl rfl) rfl (Nat.le_of_ble_eq_true rfl) (y_load (v := Value.agg #[Value.int IntKind.i64 (mine2_0 lo hi), Value.int IntKind.i64 (mine2_1 lo hi)]) 2 hF rfl rfl T46 rfl) (fun a hF => ?_)
          refine qs_w hF (wanted_y hF rfl rfl rfl rfl) rfl (Nat.le_of_ble_eq_true rfl) (y_load (v := Value.agg #[Value.int IntKind.i64 (mine2_0 lo2 hi2), Value.int IntKind.i64 (mine2_1 lo2 hi2)]) 1 hF rfl rfl T46 rfl) (fun a hF => ?_)
          refine qs_w hF (wanted_y hF rfl rfl rfl rfl) rfl (Nat.le_of_ble_eq_true rfl) (y_load (v := Value.agg #[Value.int IntKind.i64 (mine2_0 lo3 hi3), Value.int IntKind.i64 (mine2_1 lo3 hi3)]) 0 hF rfl rfl T46 rfl) (fun a hF => ?_)
          refine qs_w hF (wanted_y hF rfl rfl rfl rfl) rfl (Nat.le_of_ble_eq_true rfl) (y_call (v := Value.agg #[Value.int IntKind.i64 (meet_0 (mine2_0 lo2 hi2) (mine2_1 lo2 hi2) (mine2_0 lo3 hi3) (mine2_1 lo3 hi3)), Value.int IntKind.i64 (meet_1 (mine2_0 lo2 hi2) (mine2_1 lo2 hi2) (mine2_0 lo3 hi3) (mine2_1 lo3 hi3))]) hF H31 rfl (fun w _ => meet_any (mine2_0 lo2 hi2) (mine2_1 lo2 hi2) (mine2_0 lo3 hi3) (mine2_1 lo3 hi3) w )) (fun a hF => ?_)
          refine qs_w hF (wanted_y hF rfl rfl rfl rfl) rfl (Nat.le_of_ble_eq_true rfl) (y_call (v := Value.agg #[Value.int IntKind.i64 (meet_0 (mine2_0 lo hi) (mine2_1 lo hi) (meet_0 (mine2_0 lo2 hi2) (mine2_1 lo2 hi2) (mine2_0 lo3 hi3) (mine2_1 lo3 hi3)) (meet_1 (mine2_0 lo2 hi2) (mine2_1 lo2 hi2) (mine2_0 lo3 hi3) (mine2_1 lo3 hi3))), Value.int IntKind.i64 (meet_1 (mine2_0 lo hi) (mine2_1 lo hi) (meet_0 (mine2_0 lo2 hi2) (mine2_1 lo2 hi2) (mine2_0 lo3 hi3) (mine2_1 lo3 hi3)) (meet_1 (mine2_0 lo2 hi2) (mine2_1 lo2 hi2) (mine2_0 lo3 hi3) (mine2_1 lo3 hi3)))]) hF H31 rfl (fun w _ => meet_any (mine2_0 lo hi) (mine2_1 lo hi) (meet_0 (mine2_0 lo2 hi2) (mine2_1 lo2 hi2) (mine2_0 lo3 hi3) (mine2_1 lo3 hi3)) (meet_1 (mine2_0 lo2 hi2) (mine2_1 lo2 hi2) (mine2_0 lo3 hi3) (mine2_1 lo3 hi3)) w )) (fun a hF => ?_)
          refine qs_w hF (wanted_y hF rfl rfl rfl rfl) rfl (Nat.le_of_ble_eq_true rfl) (y_eqa (t := decide ((meet_0 (meet_0 (mine2_0 lo hi) (mine2_1 lo hi) (mine2_0 lo2 hi2) (mine2_1 lo2 hi2)) (meet_1 (mine2_0 lo hi) (mine2_1 lo hi) (mine2_0 lo2 hi2) (mine2_1 lo2 hi2)) (mine2_0 lo3 hi3) (mine2_1 lo3 hi3)) = (meet_0 (mine2_0 lo hi) (mine2_1 lo hi) (meet_0 (mine2_0 lo2 hi2) (mine2_1 lo2 hi2) (mine2_0 lo3 hi3) (mine2_1 lo3 hi3)) (meet_1 (mine2_0 lo2 hi2) (mine2_1 lo2 hi2) (mine2_0 lo3 hi3) (mine2_1 lo3 hi3))) ∧ (meet_1 (meet_0 (mine2_0 lo hi) (mine2_1 lo hi) (mine2_0 lo2 hi2) (mine2_1 lo2 hi2)) (meet_1 (mine2_0 lo hi) (mine2_1 lo hi) (mine2_0 lo2 hi2) (mine2_1 lo2 hi2)) (mine2_0 lo3 hi3) (mine2_1 lo3 hi3)) = (meet_1 (mine2_0 lo hi) (mine2_1 lo hi) (meet_0 (mine2_0 lo2 hi2) (mine2_1 lo2 hi2) (mine2_0 lo3 hi3) (mine2_1 lo3 hi3)) (meet_1 (mine2_0 lo2 hi2) (mine2_1 lo2 hi2) (mine2_0 lo3 hi3) (mine2_1 lo3 hi3))))) G46 (E46 _ _ _ _) hF rfl rfl) (fun a hF => ?_)
          refine qs hF rfl (y_pick_t hF rfl rfl rfl) (fun a hF => ?_)
          refine qs hF rfl (y_move hF rfl) (fun a hF => ?_)
          rcases Bool.eq_false_or_eq_true (decide ((meet_0 (meet_0 (mine2_0 lo hi) (mine2_1 lo hi) (mine2_0 lo2 hi2) (mine2_1 lo2 hi2)) (meet_1 (mine2_0 lo hi) (mine2_1 lo hi) (mine2_0 lo2 hi2) (mine2_1 lo2 hi2)) (mine2_0 lo3 hi3) (mine2_1 lo3 hi3)) = (meet_0 (mine2_0 lo hi) (mine2_1 lo hi) (meet_0 (mine2_0 lo2 hi2) (mine2_1 lo2 hi2) (mine2_0 lo3 hi3) (mine2_1 lo3 hi3)) (meet_1 (mine2_0 lo2 hi2) (mine2_1 lo2 hi2) (mine2_0 lo3 hi3) (mine2_1 lo3 hi3))) ∧ (meet_1 (meet_0 (mine2_0 lo hi) (mine2_1 lo hi) (mine2_0 lo2 hi2) (mine2_1 lo2 hi2)) (meet_1 (mine2_0 lo hi) (mine2_1 lo hi) (mine2_0 lo2 hi2) (mine2_1 lo2 hi2)) (mine2_0 lo3 hi3) (mine2_1 lo3 hi3)) = (meet_1 (mine2_0 lo hi) (mine2_1 lo hi) (meet_0 (mine2_0 lo2 hi2) (mine2_1 lo2 hi2) (mine2_0 lo3 hi3) (mine2_1 lo3 hi3)) (meet_1 (mine2_0 lo2 hi2) (mine2_1 lo2 hi2) (mine2_0 lo3 hi3) (mine2_1 lo3 hi3))))) with hb | hb
          ·
            have c5 := of_decide_eq_true hb
            simp only [hb] at hF
            clear hb
            refine qs_w hF (wanted_y hF rfl rfl rfl rfl) rfl (Nat.le_of_ble_eq_true rfl) (y_load (v := Value.agg #[Value.int IntKind.i64 (mine2_0 lo hi), Value.int IntKind.i64 (mine2_1 lo hi)]) 2 hF rfl rfl T46 rfl) (fun a hF => ?_)
            refine qs_w hF (wanted_y hF rfl rfl rfl rfl) rfl (Nat.le_of_ble_eq_true rfl) (y_load (v := Value.agg #[Value.int IntKind.i64 (mine2_0 lo2 hi2), Value.int IntKind.i64 (mine2_1 lo2 hi2)]) 1 hF rfl rfl T46 rfl) (fun a hF => ?_)
            refine qs_w hF (wanted_y hF rfl rfl rfl rfl) rfl (Nat.le_of_ble_eq_true rfl) (y_call (v := Value.agg #[Value.int IntKind.i64 (hull_0 (mine2_0 lo hi) (mine2_1 lo hi) (mine2_0 lo2 hi2) (mine2_1 lo2 hi2)), Value.int IntKind.i64 (hull_1 (mine2_0 lo hi) (mine2_1 lo hi) (mine2_0 lo2 hi2) (mine2_1 lo2 hi2))]) hF H33 rfl (fun w _ => hull_any (mine2_0 lo hi) (mine2_1 lo hi) (mine2_0 lo2 hi2) (mine2_1 lo2 hi2) w )) (fun a hF => ?_)
            refine qs_w hF (wanted_y hF rfl rfl rfl rfl) rfl (Nat.le_of_ble_eq_true rfl) (y_load (v := Value.agg #[Value.int IntKind.i64 (mine2_0 lo2 hi2), Value.int IntKind.i64 (mine2_1 lo2 hi2)]) 1 hF rfl rfl T46 rfl) (fun a hF => ?_)
            refine qs_w hF (wanted_y hF rfl rfl rfl rfl) rfl (Nat.le_of_ble_eq_true rfl) (y_load (v := Value.agg #[Value.int IntKind.i64 (mine2_0 lo hi), Value.int IntKind.i64 (mine2_1 lo hi)]) 2 hF rfl rfl T46 rfl) (fun a hF => ?_)
            refine qs_w hF (wanted_y hF rfl rfl rfl rfl) rfl (Nat.le_of_ble_eq_true rfl) (y_call (v := Value.agg #[Value.int IntKind.i64 (hull_0 (mine2_0 lo2 hi2) (mine2_1 lo2 hi2) (mine2_0 lo hi) (mine2_1 lo hi)), Value.int IntKind.i64 (hull_1 (mine2_0 lo2 hi2) (mine2_1 lo2 hi2) (mine2_0 lo hi) (mine2_1 lo hi))]) hF H33 rfl (fun w _ => hull_any (mine2_0 lo2 hi2) (mine2_1 lo2 hi2) (mine2_0 lo hi) (mine2_1 lo hi) w )) (fun a hF => ?_)
            refine qs_w hF (wanted_y hF rfl rfl rfl rfl) rfl (Nat.le_of_ble_eq_true rfl) (y_eqa (t := decide ((hull_0 (mine2_0 lo hi) (mine2_1 lo hi) (mine2_0 lo2 hi2) (mine2_1 lo2 hi2)) = (hull_0 (mine2_0 lo2 hi2) (mine2_1 lo2 hi2) (mine2_0 lo hi) (mine2_1 lo hi)) ∧ (hull_1 (mine2_0 lo hi) (mine2_1 lo hi) (mine2_0 lo2 hi2) (mine2_1 lo2 hi2)) = (hull_1 (mine2_0 lo2 hi2) (mine2_1 lo2 hi2) (mine2_0 lo hi) (mine2_1 lo hi)))) G46 (E46 _ _ _ _) hF rfl rfl) (fun a hF => ?_)
            refine qs hF rfl (y_pick_t hF rfl rfl rfl) (fun a hF => ?_)
            refine qs hF rfl (y_move hF rfl) (fun a hF => ?_)
            rcases Bool.eq_false_or_eq_true (decide ((hull_0 (mine2_0 lo hi) (mine2_1 lo hi) (mine2_0 lo2 hi2) (mine2_1 lo2 hi2)) = (hull_0 (mine2_0 lo2 hi2) (mine2_1 lo2 hi2) (mine2_0 lo hi) (mine2_1 lo hi)) ∧ (hull_1 (mine2_0 lo hi) (mine2_1 lo hi) (mine2_0 lo2 hi2) (mine2_1 lo2 hi2)) = (hull_1 (mine2_0 lo2 hi2) (mine2_1 lo2 hi2) (mine2_0 lo hi) (mine2_1 lo hi)))) with hb | hb
            ·
              have c6 := of_decide_eq_true hb
              simp only [hb] at hF
              clear hb
              refine qs_w hF (wanted_y hF rfl rfl rfl rfl) rfl (Nat.le_of_ble_eq_true rfl) (y_load (v := Value.agg #[Value.int IntKind.i64 (mine2_0 lo hi), Value.int IntKind.i64 (mine2_1 lo hi)]) 2 hF rfl rfl T46 rfl) (fun a hF => ?_)
              refine qs_w hF (wanted_y hF rfl rfl rfl rfl) rfl (Nat.le_of_ble_eq_true rfl) (y_load (v := Value.agg #[Value.int IntKind.i64 (mine2_0 lo2 hi2), Value.int IntKind.i64 (mine2_1 lo2 hi2)]) 1 hF rfl rfl T46 rfl) (fun a hF => ?_)
              refine qs_w hF (wanted_y hF rfl rfl rfl rfl) rfl (Nat.le_of_ble_eq_true rfl) (y_call (v := Value.agg #[Value.int IntKind.i64 (meet_0 (mine2_0 lo hi) (mine2_1 lo hi) (mine2_0 lo2 hi2) (mine2_1 lo2 hi2)), Value.int IntKind.i64 (meet_1 (mine2_0 lo hi) (mine2_1 lo hi) (mine2_0 lo2 hi2) (mine2_1 lo2 hi2))]) hF H31 rfl (fun w _ => meet_any (mine2_0 lo hi) (mine2_1 lo hi) (mine2_0 lo2 hi2) (mine2_1 lo2 hi2) w )) (fun a hF => ?_)
              refine qs_w hF (wanted_y hF rfl rfl rfl rfl) rfl (Nat.le_of_ble_eq_true rfl) (y_load (v := Value.agg #[Value.int IntKind.i64 (mine2_0 lo2 hi2), Value.int IntKind.i64 (mine2_1 lo2 hi2)]) 1 hF rfl rfl T46 rfl) (fun a hF => ?_)
              refine qs_w hF (wanted_y hF rfl rfl rfl rfl) rfl (Nat.le_of_ble_eq_true rfl) (y_call (v := Value.bool (within (meet_0 (mine2_0 lo hi) (mine2_1 lo hi) (mine2_0 lo2 hi2) (mine2_1 lo2 hi2)) (meet_1 (mine2_0 lo hi) (mine2_1 lo hi) (mine2_0 lo2 hi2) (mine2_1 lo2 hi2)) (mine2_0 lo2 hi2) (mine2_1 lo2 hi2))) hF H43 rfl (fun w _ => within_any (meet_0 (mine2_0 lo hi) (mine2_1 lo hi) (mine2_0 lo2 hi2) (mine2_1 lo2 hi2)) (meet_1 (mine2_0 lo hi) (mine2_1 lo hi) (mine2_0 lo2 hi2) (mine2_1 lo2 hi2)) (mine2_0 lo2 hi2) (mine2_1 lo2 hi2) w )) (fun a hF => ?_)
              refine qs hF rfl (y_pick_t hF rfl rfl rfl) (fun a hF => ?_)
              refine qs hF rfl (y_move hF rfl) (fun a hF => ?_)
              rcases Bool.eq_false_or_eq_true (within (meet_0 (mine2_0 lo hi) (mine2_1 lo hi) (mine2_0 lo2 hi2) (mine2_1 lo2 hi2)) (meet_1 (mine2_0 lo hi) (mine2_1 lo hi) (mine2_0 lo2 hi2) (mine2_1 lo2 hi2)) (mine2_0 lo2 hi2) (mine2_1 lo2 hi2)) with hb | hb
              ·
                have c7 := hb
                simp only [hb] at hF
                clear hb
                refine qs_w hF (wanted_y hF rfl rfl rfl rfl) rfl (Nat.le_of_ble_eq_true rfl) (y_load (v := Value.agg #[Value.int IntKind.i64 (mine2_0 lo hi), Value.int IntKind.i64 (mine2_1 lo hi)]) 2 hF rfl rfl T46 rfl) (fun a hF => ?_)
                refine qs_w hF (wanted_y hF rfl rfl rfl rfl) rfl (Nat.le_of_ble_eq_true rfl) (y_load (v := Value.agg #[Value.int IntKind.i64 (mine2_0 lo hi), Value.int IntKind.i64 (mine2_1 lo hi)]) 2 hF rfl rfl T46 rfl) (fun a hF => ?_)
                refine qs_w hF (wanted_y hF rfl rfl rfl rfl) rfl (Nat.le_of_ble_eq_true rfl) (y_load (v := Value.agg #[Value.int IntKind.i64 (mine2_0 lo2 hi2), Value.int IntKind.i64 (mine2_1 lo2 hi2)]) 1 hF rfl rfl T46 rfl) (fun a hF => ?_)
                refine qs_w hF (wanted_y hF rfl rfl rfl rfl) rfl (Nat.le_of_ble_eq_true rfl) (y_call (v := Value.agg #[Value.int IntKind.i64 (hull_0 (mine2_0 lo hi) (mine2_1 lo hi) (mine2_0 lo2 hi2) (mine2_1 lo2 hi2)), Value.int IntKind.i64 (hull_1 (mine2_0 lo hi) (mine2_1 lo hi) (mine2_0 lo2 hi2) (mine2_1 lo2 hi2))]) hF H33 rfl (fun w _ => hull_any (mine2_0 lo hi) (mine2_1 lo hi) (mine2_0 lo2 hi2) (mine2_1 lo2 hi2) w )) (fun a hF => ?_)
                refine qs_w hF (wanted_y hF rfl rfl rfl rfl) rfl (Nat.le_of_ble_eq_true rfl) (y_call (v := Value.bool (within (mine2_0 lo hi) (mine2_1 lo hi) (hull_0 (mine2_0 lo hi) (mine2_1 lo hi) (mine2_0 lo2 hi2) (mine2_1 lo2 hi2)) (hull_1 (mine2_0 lo hi) (mine2_1 lo hi) (mine2_0 lo2 hi2) (mine2_1 lo2 hi2)))) hF H43 rfl (fun w _ => within_any (mine2_0 lo hi) (mine2_1 lo hi) (hull_0 (mine2_0 lo hi) (mine2_1 lo hi) (mine2_0 lo2 hi2) (mine2_1 lo2 hi2)) (hull_1 (mine2_0 lo hi) (mine2_1 lo hi) (mine2_0 lo2 hi2) (mine2_1 lo2 hi2)) w )) (fun a hF => ?_)
                refine qs hF rfl (y_pick_t hF rfl rfl rfl) (fun a hF => ?_)
                refine qs hF rfl (y_move hF rfl) (fun a hF => ?_)
                rcases Bool.eq_false_or_eq_true (within (mine2_0 lo hi) (mine2_1 lo hi) (hull_0 (mine2_0 lo hi) (mine2_1 lo hi) (mine2_0 lo2 hi2) (mine2_1 lo2 hi2)) (hull_1 (mine2_0 lo hi) (mine2_1 lo hi) (mine2_0 lo2 hi2) (mine2_1 lo2 hi2))) with hb | hb
                ·
                  have c8 := hb
                  simp only [hb] at hF
                  clear hb
                  refine qs_w hF (wanted_y hF rfl rfl rfl rfl) rfl (Nat.le_of_ble_eq_true rfl) (y_call (v := Value.bool awake2) hF H50 rfl (fun w _ => awake2_any  w )) (fun a hF => ?_)
                  refine qs hF rfl (y_pick_t hF rfl rfl rfl) (fun a hF => ?_)
                  refine qs hF rfl (y_assign hF rfl) (fun a hF => ?_)
                  refine quiet_end (fun w hW => ?_)
                  refine c_then ?_
                  refine wp_ret ?_
                  refine post1 (.inl rfl) hF hW rfl (rv_tmp hF rfl) ?_
                  exact ⟨congrArg Ending.returned (vbool (show (awake2) = spanMeets lo hi lo2 hi2 lo3 hi3 x by rw [spanMeets, if_pos c1, if_neg c2, if_neg c3, if_pos c4, if_pos c5, if_pos c6, if_pos c7, if_pos c8])), hW.frm.below⟩
                ·
                  have c8 : ¬ ((within (mine2_0 lo hi) (mine2_1 lo hi) (hull_0 (mine2_0 lo hi) (mine2_1 lo hi) (mine2_0 lo2 hi2) (mine2_1 lo2 hi2)) (hull_1 (mine2_0 lo hi) (mine2_1 lo hi) (mine2_0 lo2 hi2) (mine2_1 lo2 hi2))) = true) := by rw [hb]; decide
                  simp only [hb] at hF
                  clear hb
                  refine qs_skip hF (wanted_n hF rfl rfl rfl rfl rfl) rfl rfl (fun a hF => ?_)
                  refine qs hF rfl (y_pick_f hF rfl rfl rfl) (fun a hF => ?_)
                  refine qs hF rfl (y_assign hF rfl) (fun a hF => ?_)
                  refine quiet_end (fun w hW => ?_)
                  refine c_then ?_
                  refine wp_ret ?_
                  refine post1 (.inl rfl) hF hW rfl (rv_tmp hF rfl) ?_
                  exact ⟨congrArg Ending.returned (vbool (show (false) = spanMeets lo hi lo2 hi2 lo3 hi3 x by rw [spanMeets, if_pos c1, if_neg c2, if_neg c3, if_pos c4, if_pos c5, if_pos c6, if_pos c7, if_neg c8])), hW.frm.below⟩
              ·
                have c7 : ¬ ((within (meet_0 (mine2_0 lo hi) (mine2_1 lo hi) (mine2_0 lo2 hi2) (mine2_1 lo2 hi2)) (meet_1 (mine2_0 lo hi) (mine2_1 lo hi) (mine2_0 lo2 hi2) (mine2_1 lo2 hi2)) (mine2_0 lo2 hi2) (mine2_1 lo2 hi2)) = true) := by rw [hb]; decide
                simp only [hb] at hF
                clear hb
                refine qs_skip hF (wanted_n hF rfl rfl rfl rfl rfl) rfl rfl (fun a hF => ?_)
                refine qs_skip hF (wanted_n hF rfl rfl rfl rfl rfl) rfl rfl (fun a hF => ?_)
                refine qs_skip hF (wanted_n hF rfl rfl rfl rfl rfl) rfl rfl (fun a hF => ?_)
                refine qs_skip hF (wanted_n hF rfl rfl rfl rfl rfl) rfl rfl (fun a hF => ?_)
                refine qs_skip hF (wanted_n hF rfl rfl rfl rfl rfl) rfl rfl (fun a hF => ?_)
                refine qs hF rfl (y_pick_f hF rfl rfl rfl) (fun a hF => ?_)
                refine qs hF rfl (y_move hF rfl) (fun a hF => ?_)
                refine qs_skip hF (wanted_n hF rfl rfl rfl rfl rfl) rfl rfl (fun a hF => ?_)
                refine qs hF rfl (y_pick_f hF rfl rfl rfl) (fun a hF => ?_)
                refine qs hF rfl (y_assign hF rfl) (fun a hF => ?_)
                refine quiet_end (fun w hW => ?_)
                refine c_then ?_
                refine wp_ret ?_
                refine post1 (.inl rfl) hF hW rfl (rv_tmp hF rfl) ?_
                exact ⟨congrArg Ending.returned (vbool (show (false) = spanMeets lo hi lo2 hi2 lo3 hi3 x by rw [spanMeets, if_pos c1, if_neg c2, if_neg c3, if_pos c4, if_pos c5, if_pos c6, if_neg c7])), hW.frm.below⟩
            ·
              have c6 := of_decide_eq_false hb
              simp only [hb] at hF
              clear hb
              refine qs_skip hF (wanted_n hF rfl rfl rfl rfl rfl) rfl rfl (fun a hF => ?_)
              refine qs_skip hF (wanted_n hF rfl rfl rfl rfl rfl) rfl rfl (fun a hF => ?_)
              refine qs_skip hF (wanted_n hF rfl rfl rfl rfl rfl) rfl rfl (fun a hF => ?_)
              refine qs_skip hF (wanted_n hF rfl rfl rfl rfl rfl) rfl rfl (fun a hF => ?_)
              refine qs_skip hF (wanted_n hF rfl rfl rfl rfl rfl) rfl rfl (fun a hF => ?_)
              refine qs hF rfl (y_pick_f hF rfl rfl rfl) (fun a hF => ?_)
              refine qs hF rfl (y_move hF rfl) (fun a hF => ?_)
              refine qs_skip hF (wanted_n hF rfl rfl rfl rfl rfl) rfl rfl (fun a hF => ?_)
              refine qs_skip hF (wanted_n hF rfl rfl rfl rfl rfl) rfl rfl (fun a hF => ?_)
              refine qs_skip hF (wanted_n hF rfl rfl rfl rfl rfl) rfl rfl (fun a hF => ?_)
              refine qs_skip hF (wanted_n hF rfl rfl rfl rfl rfl) rfl rfl (fun a hF => ?_)
              refine qs_skip hF (wanted_n hF rfl rfl rfl rfl rfl) rfl rfl (fun a hF => ?_)
              refine qs hF rfl (y_pick_f hF rfl rfl rfl) (fun a hF => ?_)
              refine qs hF rfl (y_move hF rfl) (fun a hF => ?_)
              refine qs_skip hF (wanted_n hF rfl rfl rfl rfl rfl) rfl rfl (fun a hF => ?_)
              refine qs hF rfl (y_pick_f hF rfl rfl rfl) (fun a hF => ?_)
              refine qs hF rfl (y_assign hF rfl) (fun a hF => ?_)
              refine quiet_end (fun w hW => ?_)
              refine c_then ?_
              refine wp_ret ?_
              refine post1 (.inl rfl) hF hW rfl (rv_tmp hF rfl) ?_
              exact ⟨congrArg Ending.returned (vbool (show (false) = spanMeets lo hi lo2 hi2 lo3 hi3 x by rw [spanMeets, if_pos c1, if_neg c2, if_neg c3, if_pos c4, if_pos c5, if_neg c6])), hW.frm.below⟩
          ·
            have c5 := of_decide_eq_false hb
            simp only [hb] at hF
            clear hb
            refine qs_skip hF (wanted_n hF rfl rfl rfl rfl rfl) rfl rfl (fun a hF => ?_)
            refine qs_skip hF (wanted_n hF rfl rfl rfl rfl rfl) rfl rfl (fun a hF => ?_)
            refine qs_skip hF (wanted_n hF rfl rfl rfl rfl rfl) rfl rfl (fun a hF => ?_)
            refine qs_skip hF (wanted_n hF rfl rfl rfl rfl rfl) rfl rfl (fun a hF => ?_)
            refine qs_skip hF (wanted_n hF rfl rfl rfl rfl rfl) rfl rfl (fun a hF => ?_)
            refine qs_skip hF (wanted_n hF rfl rfl rfl rfl rfl) rfl rfl (fun a hF => ?_)
            refine qs_skip hF (wanted_n hF rfl rfl rfl rfl rfl) rfl rfl (fun a hF => ?_)
            refine qs hF rfl (y_pick_f hF rfl rfl rfl) (fun a hF => ?_)
            refine qs hF rfl (y_move hF rfl) (fun a hF => ?_)
            refine qs_skip hF (wanted_n hF rfl rfl rfl rfl rfl) rfl rfl (fun a hF => ?_)
            refine qs_skip hF (wanted_n hF rfl rfl rfl rfl rfl) rfl rfl (fun a hF => ?_)
            refine qs_skip hF (wanted_n hF rfl rfl rfl rfl rfl) rfl rfl (fun a hF => ?_)
            refine qs_skip hF (wanted_n hF rfl rfl rfl rfl rfl) rfl rfl (fun a hF => ?_)
            refine qs_skip hF (wanted_n hF rfl rfl rfl rfl rfl) rfl rfl (fun a hF => ?_)
            refine qs hF rfl (y_pick_f hF rfl rfl rfl) (fun a hF => ?_)
            refine qs hF rfl (y_move hF rfl) (fun a hF => ?_)
            refine qs_skip hF (wanted_n hF rfl rfl rfl rfl rfl) rfl rfl (fun a hF => ?_)
            refine qs_skip hF (wanted_n hF rfl rfl rfl rfl rfl) rfl rfl (fun a hF => ?_)
            refine qs_skip hF (wanted_n hF rfl rfl rfl rfl rfl) rfl rfl (fun a hF => ?_)
            refine qs_skip hF (wanted_n hF rfl rfl rfl rfl rfl) rfl rfl (fun a hF => ?_)
            refine qs_skip hF (wanted_n hF rfl rfl rfl rfl rfl) rfl rfl (fun a hF => ?_)
            refine qs hF rfl (y_pick_f hF rfl rfl rfl) (fun a hF => ?_)
            refine qs hF rfl (y_move hF rfl) (fun a hF => ?_)
            refine qs_skip hF (wanted_n hF rfl rfl rfl rfl rfl) rfl rfl (fun a hF => ?_)
            refine qs hF rfl (y_pick_f hF rfl rfl rfl) (fun a hF => ?_)
            refine qs hF rfl (y_assign hF rfl) (fun a hF => ?_)
            refine quiet_end (fun w hW => ?_)
            refine c_then ?_
            refine wp_ret ?_
            refine post1 (.inl rfl) hF hW rfl (rv_tmp hF rfl) ?_
            exact ⟨congrArg Ending.returned (vbool (show (false) = spanMeets lo hi lo2 hi2 lo3 hi3 x by rw [spanMeets, if_pos c1, if_neg c2, if_neg c3, if_pos c4, if_neg c5])), hW.frm.below⟩
        ·
          have c4 := of_decide_eq_false hb
          simp only [hb] at hF
          clear hb
          refine qs_skip hF (wanted_n hF rfl rfl rfl rfl rfl) rfl rfl (fun a hF => ?_)
          refine qs_skip hF (wanted_n hF rfl rfl rfl rfl rfl) rfl rfl (fun a hF => ?_)
          refine qs_skip hF (wanted_n hF rfl rfl rfl rfl rfl) rfl rfl (fun a hF => ?_)
          refine qs_skip hF (wanted_n hF rfl rfl rfl rfl rfl) rfl rfl (fun a hF => ?_)
          refine qs_skip hF (wanted_n hF rfl rfl rfl rfl rfl) rfl rfl (fun a hF => ?_)
          refine qs_skip hF (wanted_n hF rfl rfl rfl rfl rfl) rfl rfl (fun a hF => ?_)
          refine qs_skip hF (wanted_n hF rfl rfl rfl rfl rfl) rfl rfl (fun a hF => ?_)
          refine qs_skip hF (wanted_n hF rfl rfl rfl rfl rfl) rfl rfl (fun a hF => ?_)
          refine qs_skip hF (wanted_n hF rfl rfl rfl rfl rfl) rfl rfl (fun a hF => ?_)
          refine qs_skip hF (wanted_n hF rfl rfl rfl rfl rfl) rfl rfl (fun a hF => ?_)
          refine qs_skip hF (wanted_n hF rfl rfl rfl rfl rfl) rfl rfl (fun a hF => ?_)
          refine qs hF rfl (y_pick_f hF rfl rfl rfl) (fun a hF => ?_)
          refine qs hF rfl (y_move hF rfl) (fun a hF => ?_)
          refine qs_skip hF (wanted_n hF rfl rfl rfl rfl rfl) rfl rfl (fun a hF => ?_)
          refine qs_skip hF (wanted_n hF rfl rfl rfl rfl rfl) rfl rfl (fun a hF => ?_)
          refine qs_skip hF (wanted_n hF rfl rfl rfl rfl rfl) rfl rfl (fun a hF => ?_)
          refine qs_skip hF (wanted_n hF rfl rfl rfl rfl rfl) rfl rfl (fun a hF => ?_)
          refine qs_skip hF (wanted_n hF rfl rfl rfl rfl rfl) rfl rfl (fun a hF => ?_)
          refine qs_skip hF (wanted_n hF rfl rfl rfl rfl rfl) rfl rfl (fun a hF => ?_)
          refine qs_skip hF (wanted_n hF rfl rfl rfl rfl rfl) rfl rfl (fun a hF => ?_)
          refine qs hF rfl (y_pick_f hF rfl rfl rfl) (fun a hF => ?_)
          refine qs hF rfl (y_move hF rfl) (fun a hF => ?_)
          refine qs_skip hF (wanted_n hF rfl rfl rfl rfl rfl) rfl rfl (fun a hF => ?_)
          refine qs_skip hF (wanted_n hF rfl rfl rfl rfl rfl) rfl rfl (fun a hF => ?_)
          refine qs_skip hF (wanted_n hF rfl rfl rfl rfl rfl) rfl rfl (fun a hF => ?_)
          refine qs_skip hF (wanted_n hF rfl rfl rfl rfl rfl) rfl rfl (fun a hF => ?_)
          refine qs_skip hF (wanted_n hF rfl rfl rfl rfl rfl) rfl rfl (fun a hF => ?_)
          refine qs hF rfl (y_pick_f hF rfl rfl rfl) (fun a hF => ?_)
          refine qs hF rfl (y_move hF rfl) (fun a hF => ?_)
          refine qs_skip hF (wanted_n hF rfl rfl rfl rfl rfl) rfl rfl (fun a hF => ?_)
          refine qs_skip hF (wanted_n hF rfl rfl rfl rfl rfl) rfl rfl (fun a hF => ?_)
          refine qs_skip hF (wanted_n hF rfl rfl rfl rfl rfl) rfl rfl (fun a hF => ?_)
          refine qs_skip hF (wanted_n hF rfl rfl rfl rfl rfl) rfl rfl (fun a hF => ?_)
          refine qs_skip hF (wanted_n hF rfl rfl rfl rfl rfl) rfl rfl (fun a hF => ?_)
          refine qs hF rfl (y_pick_f hF rfl rfl rfl) (fun a hF => ?_)
          refine qs hF rfl (y_move hF rfl) (fun a hF => ?_)
          refine qs_skip hF (wanted_n hF rfl rfl rfl rfl rfl) rfl rfl (fun a hF => ?_)
          refine qs hF rfl (y_pick_f hF rfl rfl rfl) (fun a hF => ?_)
          refine qs hF rfl (y_assign hF rfl) (fun a hF => ?_)
          refine quiet_end (fun w hW => ?_)
          refine c_then ?_
          refine wp_ret ?_
          refine post1 (.inl rfl) hF hW rfl (rv_tmp hF rfl) ?_
          exact ⟨congrArg Ending.returned (vbool (show (false) = spanMeets lo hi lo2 hi2 lo3 hi3 x by rw [spanMeets, if_pos c1, if_neg c2, if_neg c3, if_neg c4])), hW.frm.below⟩
  ·
    have c1 : ¬ ((has (mine2_0 lo hi) (mine2_1 lo hi) x) = true) := by rw [hb]; decide
    simp only [hb] at hF
    clear hb
    refine ls_skip hF (wanted_n hF rfl rfl rfl rfl rfl) rfl rfl (fun a hF => ?_)
    refine ls hF hW rfl (y_pick_f hF rfl rfl rfl) (fun a w hF hW => ?_)
    refine ls hF hW rfl (y_neb Try.underlying4 hF rfl rfl) (fun a w hF hW => ?_)
    refine ls hF hW rfl (y_move hF rfl) (fun a w hF hW => ?_)
    rcases Bool.eq_false_or_eq_true (decide ((has (meet_0 (mine2_0 lo hi) (mine2_1 lo hi) (mine2_0 lo2 hi2) (mine2_1 lo2 hi2)) (meet_1 (mine2_0 lo hi) (mine2_1 lo hi) (mine2_0 lo2 hi2) (mine2_1 lo2 hi2)) x) ≠ false)) with hb | hb
    ·
      have c2 := of_decide_eq_true hb
      simp only [hb] at hF
      clear hb
      refine ls_skip hF (wanted_n hF rfl rfl rfl rfl rfl) rfl rfl (fun a hF => ?_)
      refine ls_skip hF (wanted_n hF rfl rfl rfl rfl rfl) rfl rfl (fun a hF => ?_)
      refine ls_skip hF (wanted_undef hF rfl rfl rfl rfl) rfl rfl (fun a hF => ?_)
      refine ls_skip hF (wanted_n hF rfl rfl rfl rfl rfl) rfl rfl (fun a hF => ?_)
      refine ls_skip hF (wanted_n hF rfl rfl rfl rfl rfl) rfl rfl (fun a hF => ?_)
      refine ls_skip hF (wanted_undef hF rfl rfl rfl rfl) rfl rfl (fun a hF => ?_)
      refine ls_skip hF (wanted_undef hF rfl rfl rfl rfl) rfl rfl (fun a hF => ?_)
      refine ls_skip hF (wanted_undef hF rfl rfl rfl rfl) rfl rfl (fun a hF => ?_)
      refine ls_skip hF (wanted_undef hF rfl rfl rfl rfl) rfl rfl (fun a hF => ?_)
      refine ls_skip hF (wanted_undef hF rfl rfl rfl rfl) rfl rfl (fun a hF => ?_)
      refine ls_skip hF (wanted_undef hF rfl rfl rfl rfl) rfl rfl (fun a hF => ?_)
      refine ls_skip hF (wanted_n hF rfl rfl rfl rfl rfl) rfl rfl (fun a hF => ?_)
      refine ls hF hW rfl (y_pick_t hF rfl rfl rfl) (fun a w hF hW => ?_)
      refine ls_nil ?_
      refine c_then ?_
      refine c_cond_t hF rfl ?_
      refine c_seq ?_
      refine reg_list ?_
      refine ls hF hW rfl (y_assign hF rfl) (fun a w hF hW => ?_)
      refine ls_nil ?_
      refine c_then ?_
      refine wp_ret ?_
      refine r_then ?_
      refine post1 (.inl rfl) hF hW rfl (rv_tmp hF rfl) ?_
      exact ⟨congrArg Ending.returned (vbool (show (false) = spanMeets lo hi lo2 hi2 lo3 hi3 x by rw [spanMeets, if_neg c1, if_pos c2])), hW.frm.below⟩
    ·
      have c2 := of_decide_eq_false hb
      simp only [hb] at hF
      clear hb
      refine ls_w hF hW (wanted_y hF rfl rfl rfl rfl) rfl (Nat.le_of_ble_eq_true rfl) (y_move hF rfl) (fun a w hF hW => ?_)
      refine ls_w hF hW (wanted_y hF rfl rfl rfl rfl) rfl (Nat.le_of_ble_eq_true rfl) (y_move hF rfl) (fun a w hF hW => ?_)
      refine ls_w hF hW (wanted_y hF rfl rfl rfl rfl) rfl (Nat.le_of_ble_eq_true rfl) (y_move hF rfl) (fun a w hF hW => ?_)
      refine ls_w hF hW (wanted_y hF rfl rfl rfl rfl) rfl (Nat.le_of_ble_eq_true rfl) (y_pick_f hF rfl rfl rfl) (fun a w hF hW => ?_)
      refine ls_w hF hW (wanted_y hF rfl rfl rfl rfl) rfl (Nat.le_of_ble_eq_true rfl) (y_move hF rfl) (fun a w hF hW => ?_)
      rcases Bool.eq_false_or_eq_true (has (mine2_0 lo2 hi2) (mine2_1 lo2 hi2) x) with hb | hb
      ·
        have c3 := hb
        simp only [hb] at hF
        clear hb
        refine ls_w hF hW (wanted_y hF rfl rfl rfl rfl) rfl (Nat.le_of_ble_eq_true rfl) (y_load (v := Value.agg #[Value.int IntKind.i64 (mine2_0 lo hi), Value.int IntKind.i64 (mine2_1 lo hi)]) 2 hF rfl rfl T46 rfl) (fun a w hF hW => ?_)
        refine ls_w hF hW (wanted_y hF rfl rfl rfl rfl) rfl (Nat.le_of_ble_eq_true rfl) (y_load (v := Value.agg #[Value.int IntKind.i64 (mine2_0 lo2 hi2), Value.int IntKind.i64 (mine2_1 lo2 hi2)]) 1 hF rfl rfl T46 rfl) (fun a w hF hW => ?_)
        refine ls_w hF hW (wanted_y hF rfl rfl rfl rfl) rfl (Nat.le_of_ble_eq_true rfl) (y_call (v := Value.agg #[Value.int IntKind.i64 (hull_0 (mine2_0 lo hi) (mine2_1 lo hi) (mine2_0 lo2 hi2) (mine2_1 lo2 hi2)), Value.int IntKind.i64 (hull_1 (mine2_0 lo hi) (mine2_1 lo hi) (mine2_0 lo2 hi2) (mine2_1 lo2 hi2))]) hF H33 rfl (fun w _ => hull_any (mine2_0 lo hi) (mine2_1 lo hi) (mine2_0 lo2 hi2) (mine2_1 lo2 hi2) w )) (fun a w hF hW => ?_)
        refine ls_w hF hW (wanted_y hF rfl rfl rfl rfl) rfl (Nat.le_of_ble_eq_true rfl) (y_move hF rfl) (fun a w hF hW => ?_)
        refine ls_w hF hW (wanted_y hF rfl rfl rfl rfl) rfl (Nat.le_of_ble_eq_true rfl) (y_call (v := Value.bool (has (hull_0 (mine2_0 lo hi) (mine2_1 lo hi) (mine2_0 lo2 hi2) (mine2_1 lo2 hi2)) (hull_1 (mine2_0 lo hi) (mine2_1 lo hi) (mine2_0 lo2 hi2) (mine2_1 lo2 hi2)) x)) hF H39 rfl (fun w _ => has_any (hull_0 (mine2_0 lo hi) (mine2_1 lo hi) (mine2_0 lo2 hi2) (mine2_1 lo2 hi2)) (hull_1 (mine2_0 lo hi) (mine2_1 lo hi) (mine2_0 lo2 hi2) (mine2_1 lo2 hi2)) x w )) (fun a w hF hW => ?_)
        refine ls_w hF hW (wanted_y hF rfl rfl rfl rfl) rfl (Nat.le_of_ble_eq_true rfl) (y_not hF rfl) (fun a w hF hW => ?_)
        refine ls_w hF hW (wanted_y hF rfl rfl rfl rfl) rfl (Nat.le_of_ble_eq_true rfl) (y_pick_t hF rfl rfl rfl) (fun a w hF hW => ?_)
        refine ls hF hW rfl (y_pick_f hF rfl rfl rfl) (fun a w hF hW => ?_)
        refine ls_nil ?_
        refine c_then ?_
        refine c_cond hF rfl (fun hb => ?_) (fun hb => ?_)
        ·
          have c4 := hb
          simp only [hb] at hF
          clear hb
          refine c_seq ?_
          refine reg_list ?_
          refine ls hF hW rfl (y_assign hF rfl) (fun a w hF hW => ?_)
          refine ls_nil ?_
          refine c_then ?_
          refine wp_ret ?_
          refine r_then ?_
          refine post1 (.inl rfl) hF hW rfl (rv_tmp hF rfl) ?_
          exact ⟨congrArg Ending.returned (vbool (show (false) = spanMeets lo hi lo2 hi2 lo3 hi3 x by rw [spanMeets, if_neg c1, if_neg c2, if_pos c3, if_pos c4])), hW.frm.below⟩
        ·
          have c4 : ¬ ((!(has (hull_0 (mine2_0 lo hi) (mine2_1 lo hi) (mine2_0 lo2 hi2) (mine2_1 lo2 hi2)) (hull_1 (mine2_0 lo hi) (mine2_1 lo hi) (mine2_0 lo2 hi2) (mine2_1 lo2 hi2)) x)) = true) := by rw [hb]; decide
          simp only [hb] at hF
          clear hb
          refine wp_skip ?_
          refine c_then ?_
          refine c_seq ?_
          refine reg_quiet hW MO (by kernel_rfl) ?_
          refine qs hF rfl (y_load (v := Value.agg #[Value.int IntKind.i64 (mine2_0 lo hi), Value.int IntKind.i64 (mine2_1 lo hi)]) 2 hF rfl rfl T46 rfl) (fun a hF => ?_)
          refine qs hF rfl (y_load (v := Value.agg #[Value.int IntKind.i64 (mine2_0 lo2 hi2), Value.int IntKind.i64 (mine2_1 lo2 hi2)]) 1 hF rfl rfl T46 rfl) (fun a hF => ?_)
          refine qs hF rfl (y_call (v := Value.agg #[Value.int IntKind.i64 (meet_0 (mine2_0 lo hi) (mine2_1 lo hi) (mine2_0 lo2 hi2) (mine2_1 lo2 hi2)), Value.int IntKind.i64 (meet_1 (mine2_0 lo hi) (mine2_1 lo hi) (mine2_0 lo2 hi2) (mine2_1 lo2 hi2))]) hF H31 rfl (fun w _ => meet_any (mine2_0 lo hi) (mine2_1 lo hi) (mine2_0 lo2 hi2) (mine2_1 lo2 hi2) w )) (fun a hF => ?_)
          refine qs hF rfl (y_load (v := Value.agg #[Value.int IntKind.i64 (mine2_0 lo2 hi2), Value.int IntKind.i64 (mine2_1 lo2 hi2)]) 1 hF rfl rfl T46 rfl) (fun a hF => ?_)
          refine qs hF rfl (y_load (v := Value.agg #[Value.int IntKind.i64 (mine2_0 lo hi), Value.int IntKind.i64 (mine2_1 lo hi)]) 2 hF rfl rfl T46 rfl) (fun a hF => ?_)
          refine qs hF rfl (y_call (v := Value.agg #[Value.int IntKind.i64 (meet_0 (mine2_0 lo2 hi2) (mine2_1 lo2 hi2) (mine2_0 lo hi) (mine2_1 lo hi)), Value.int IntKind.i64 (meet_1 (mine2_0 lo2 hi2) (mine2_1 lo2 hi2) (mine2_0 lo hi) (mine2_1 lo hi))]) hF H31 rfl (fun w _ => meet_any (mine2_0 lo2 hi2) (mine2_1 lo2 hi2) (mine2_0 lo hi) (mine2_1 lo hi) w )) (fun a hF => ?_)
          refine qs hF rfl (y_eqa (t := decide ((meet_0 (mine2_0 lo hi) (mine2_1 lo hi) (mine2_0 lo2 hi2) (mine2_1 lo2 hi2)) = (meet_0 (mine2_0 lo2 hi2) (mine2_1 lo2 hi2) (mine2_0 lo hi) (mine2_1 lo hi)) ∧ (meet_1 (mine2_0 lo hi) (mine2_1 lo hi) (mine2_0 lo2 hi2) (mine2_1 lo2 hi2)) = (meet_1 (mine2_0 lo2 hi2) (mine2_1 lo2 hi2) (mine2_0 lo hi) (mine2_1 lo hi)))) G46 (E46 _ _ _ _) hF rfl rfl) (fun a hF => ?_)
          refine qs hF rfl (y_move hF rfl) (fun a hF => ?_)
          rcases Bool.eq_false_or_eq_true (decide ((meet_0 (mine2_0 lo hi) (mine2_1 lo hi) (mine2_0 lo2 hi2) (mine2_1 lo2 hi2)) = (meet_0 (mine2_0 lo2 hi2) (mine2_1 lo2 hi2) (mine2_0 lo hi) (mine2_1 lo hi)) ∧ (meet_1 (mine2_0 lo hi) (mine2_1 lo hi) (mine2_0 lo2 hi2) (mine2_1 lo2 hi2)) = (meet_1 (mine2_0 lo2 hi2) (mine2_1 lo2 hi2) (mine2_0 lo hi) (mine2_1 lo hi)))) with hb | hb
          ·
            have c5 := of_decide_eq_true hb
            simp only [hb] at hF
            clear hb
            refine qs_w hF (wanted_y hF rfl rfl rfl rfl) rfl (Nat.le_of_ble_eq_true rfl) (y_load (v := Value.agg #[Value.int IntKind.i64 (mine2_0 lo hi), Value.int IntKind.i64 (mine2_1 lo hi)]) 2 hF rfl rfl T46 rfl) (fun a hF => ?_)
            refine qs_w hF (wanted_y hF rfl rfl rfl rfl) rfl (Nat.le_of_ble_eq_true rfl) (y_load (v := Value.agg #[Value.int IntKind.i64 (mine2_0 lo2 hi2), Value.int IntKind.i64 (mine2_1 lo2 hi2)]) 1 hF rfl rfl T46 rfl) (fun a hF => ?_)
            refine qs_w hF (wanted_y hF rfl rfl rfl rfl) rfl (Nat.le_of_ble_eq_true rfl) (y_call (v := Value.agg #[Value.int IntKind.i64 (meet_0 (mine2_0 lo hi) (mine2_1 lo hi) (mine2_0 lo2 hi2) (mine2_1 lo2 hi2)), Value.int IntKind.i64 (meet_1 (mine2_0 lo hi) (mine2_1 lo hi) (mine2_0 lo2 hi2) (mine2_1 lo2 hi2))]) hF H31 rfl (fun w _ => meet_any (mine2_0 lo hi) (mine2_1 lo hi) (mine2_0 lo2 hi2) (mine2_1 lo2 hi2) w )) (fun a hF => ?_)
            refine qs_w hF (wanted_y hF rfl rfl rfl rfl) rfl (Nat.le_of_ble_eq_true rfl) (y_load (v := Value.agg #[Value.int IntKind.i64 (mine2_0 lo3 hi3), Value.int IntKind.i64 (mine2_1 lo3 hi3)]) 0 hF rfl rfl T46 rfl) (fun a hF => ?_)
            refine qs_w hF (wanted_y hF rfl rfl rfl rfl) rfl (Nat.le_of_ble_eq_true rfl) (y_call (v := Value.agg #[Value.int IntKind.i64 (meet_0 (meet_0 (mine2_0 lo hi) (mine2_1 lo hi) (mine2_0 lo2 hi2) (mine2_1 lo2 hi2)) (meet_1 (mine2_0 lo hi) (mine2_1 lo hi) (mine2_0 lo2 hi2) (mine2_1 lo2 hi2)) (mine2_0 lo3 hi3) (mine2_1 lo3 hi3)), Value.int IntKind.i64 (meet_1 (meet_0 (mine2_0 lo hi) (mine2_1 lo hi) (mine2_0 lo2 hi2) (mine2_1 lo2 hi2)) (meet_1 (mine2_0 lo hi) (mine2_1 lo hi) (mine2_0 lo2 hi2) (mine2_1 lo2 hi2)) (mine2_0 lo3 hi3) (mine2_1 lo3 hi3))]) hF H31 rfl (fun w _ => meet_any (meet_0 (mine2_0 lo hi) (mine2_1 lo hi) (mine2_0 lo2 hi2) (mine2_1 lo2 hi2)) (meet_1 (mine2_0 lo hi) (mine2_1 lo hi) (mine2_0 lo2 hi2) (mine2_1 lo2 hi2)) (mine2_0 lo3 hi3) (mine2_1 lo3 hi3) w )) (fun a hF => ?_)
            refine qs_w hF (wanted_y hF rfl rfl rfl rfl) rfl (Nat.le_of_ble_eq_true rfl) (y_load (v := Value.agg #[Value.int IntKind.i64 (mine2_0 lo hi), Value.int IntKind.i64 (mine2_1 lo hi)]) 2 hF rfl rfl T46 rfl) (fun a hF => ?_)
            refine qs_w hF (wanted_y hF rfl rfl rfl rfl) rfl (Nat.le_of_ble_eq_true rfl) (y_load (v := Value.agg #[Value.int IntKind.i64 (mine2_0 lo2 hi2), Value.int IntKind.i64 (mine2_1 lo2 hi2)]) 1 hF rfl rfl T46 rfl) (fun a hF => ?_)
            refine qs_w hF (wanted_y hF rfl rfl rfl rfl) rfl (Nat.le_of_ble_eq_true rfl) (y_load (v := Value.agg #[Value.int IntKind.i64 (mine2_0 lo3 hi3), Value.int IntKind.i64 (mine2_1 lo3 hi3)]) 0 hF rfl rfl T46 rfl) (fun a hF => ?_)
            refine qs_w hF (wanted_y hF rfl rfl rfl rfl) rfl (Nat.le_of_ble_eq_true rfl) (y_call (v := Value.agg #[Value.int IntKind.i64 (meet_0 (mine2_0 lo2 hi2) (mine2_1 lo2 hi2) (mine2_0 lo3 hi3) (mine2_1 lo3 hi3)), Value.int IntKind.i64 (meet_1 (mine2_0 lo2 hi2) (mine2_1 lo2 hi2) (mine2_0 lo3 hi3) (mine2_1 lo3 hi3))]) hF H31 rfl (fun w _ => meet_any (mine2_0 lo2 hi2) (mine2_1 lo2 hi2) (mine2_0 lo3 hi3) (mine2_1 lo3 hi3) w )) (fun a hF => ?_)
            refine qs_w hF (wanted_y hF rfl rfl rfl rfl) rfl (Nat.le_of_ble_eq_true rfl) (y_call (v := Value.agg #[Value.int IntKind.i64 (meet_0 (mine2_0 lo hi) (mine2_1 lo hi) (meet_0 (mine2_0 lo2 hi2) (mine2_1 lo2 hi2) (mine2_0 lo3 hi3) (mine2_1 lo3 hi3)) (meet_1 (mine2_0 lo2 hi2) (mine2_1 lo2 hi2) (mine2_0 lo3 hi3) (mine2_1 lo3 hi3))), Value.int IntKind.i64 (meet_1 (mine2_0 lo hi) (mine2_1 lo hi) (meet_0 (mine2_0 lo2 hi2) (mine2_1 lo2 hi2) (mine2_0 lo3 hi3) (mine2_1 lo3 hi3)) (meet_1 (mine2_0 lo2 hi2) (mine2_1 lo2 hi2) (mine2_0 lo3 hi3) (mine2_1 lo3 hi3)))]) hF H31 rfl (fun w _ => meet_any (mine2_0 lo hi) (mine2_1 lo hi) (meet_0 (mine2_0 lo2 hi2) (mine2_1 lo2 hi2) (mine2_0 lo3 hi3) (mine2_1 lo3 hi3)) (meet_1 (mine2_0 lo2 hi2) (mine2_1 lo2 hi2) (mine2_0 lo3 hi3) (mine2_1 lo3 hi3)) w )) (fun a hF => ?_)
            refine qs_w hF (wanted_y hF rfl rfl rfl rfl) rfl (Nat.le_of_ble_eq_true rfl) (y_eqa (t := decide ((meet_0 (meet_0 (mine2_0 lo hi) (mine2_1 lo hi) (mine2_0 lo2 hi2) (mine2_1 lo2 hi2)) (meet_1 (mine2_0 lo hi) (mine2_1 lo hi) (mine2_0 lo2 hi2) (mine2_1 lo2 hi2)) (mine2_0 lo3 hi3) (mine2_1 lo3 hi3)) = (meet_0 (mine2_0 lo hi) (mine2_1 lo hi) (meet_0 (mine2_0 lo2 hi2) (mine2_1 lo2 hi2) (mine2_0 lo3 hi3) (mine2_1 lo3 hi3)) (meet_1 (mine2_0 lo2 hi2) (mine2_1 lo2 hi2) (mine2_0 lo3 hi3) (mine2_1 lo3 hi3))) ∧ (meet_1 (meet_0 (mine2_0 lo hi) (mine2_1 lo hi) (mine2_0 lo2 hi2) (mine2_1 lo2 hi2)) (meet_1 (mine2_0 lo hi) (mine2_1 lo hi) (mine2_0 lo2 hi2) (mine2_1 lo2 hi2)) (mine2_0 lo3 hi3) (mine2_1 lo3 hi3)) = (meet_1 (mine2_0 lo hi) (mine2_1 lo hi) (meet_0 (mine2_0 lo2 hi2) (mine2_1 lo2 hi2) (mine2_0 lo3 hi3) (mine2_1 lo3 hi3)) (meet_1 (mine2_0 lo2 hi2) (mine2_1 lo2 hi2) (mine2_0 lo3 hi3) (mine2_1 lo3 hi3))))) G46 (E46 _ _ _ _) hF rfl rfl) (fun a hF => ?_)
            refine qs hF rfl (y_pick_t hF rfl rfl rfl) (fun a hF => ?_)
            refine qs hF rfl (y_move hF rfl) (fun a hF => ?_)
            rcases Bool.eq_false_or_eq_true (decide ((meet_0 (meet_0 (mine2_0 lo hi) (mine2_1 lo hi) (mine2_0 lo2 hi2) (mine2_1 lo2 hi2)) (meet_1 (mine2_0 lo hi) (mine2_1 lo hi) (mine2_0 lo2 hi2) (mine2_1 lo2 hi2)) (mine2_0 lo3 hi3) (mine2_1 lo3 hi3)) = (meet_0 (mine2_0 lo hi) (mine2_1 lo hi) (meet_0 (mine2_0 lo2 hi2) (mine2_1 lo2 hi2) (mine2_0 lo3 hi3) (mine2_1 lo3 hi3)) (meet_1 (mine2_0 lo2 hi2) (mine2_1 lo2 hi2) (mine2_0 lo3 hi3) (mine2_1 lo3 hi3))) ∧ (meet_1 (meet_0 (mine2_0 lo hi) (mine2_1 lo hi) (mine2_0 lo2 hi2) (mine2_1 lo2 hi2)) (meet_1 (mine2_0 lo hi) (mine2_1 lo hi) (mine2_0 lo2 hi2) (mine2_1 lo2 hi2)) (mine2_0 lo3 hi3) (mine2_1 lo3 hi3)) = (meet_1 (mine2_0 lo hi) (mine2_1 lo hi) (meet_0 (mine2_0 lo2 hi2) (mine2_1 lo2 hi2) (mine2_0 lo3 hi3) (mine2_1 lo3 hi3)) (meet_1 (mine2_0 lo2 hi2) (mine2_1 lo2 hi2) (mine2_0 lo3 hi3) (mine2_1 lo3 hi3))))) with hb | hb
            ·
              have c6 := of_decide_eq_true hb
              simp only [hb] at hF
              clear hb
              refine qs_w hF (wanted_y hF rfl rfl rfl rfl) rfl (Nat.le_of_ble_eq_true rfl) (y_load (v := Value.agg #[Value.int IntKind.i64 (mine2_0 lo hi), Value.int IntKind.i64 (mine2_1 lo hi)]) 2 hF rfl rfl T46 rfl) (fun a hF => ?_)
              refine qs_w hF (wanted_y hF rfl rfl rfl rfl) rfl (Nat.le_of_ble_eq_true rfl) (y_load (v := Value.agg #[Value.int IntKind.i64 (mine2_0 lo2 hi2), Value.int IntKind.i64 (mine2_1 lo2 hi2)]) 1 hF rfl rfl T46 rfl) (fun a hF => ?_)
              refine qs_w hF (wanted_y hF rfl rfl rfl rfl) rfl (Nat.le_of_ble_eq_true rfl) (y_call (v := Value.agg #[Value.int IntKind.i64 (hull_0 (mine2_0 lo hi) (mine2_1 lo hi) (mine2_0 lo2 hi2) (mine2_1 lo2 hi2)), Value.int IntKind.i64 (hull_1 (mine2_0 lo hi) (mine2_1 lo hi) (mine2_0 lo2 hi2) (mine2_1 lo2 hi2))]) hF H33 rfl (fun w _ => hull_any (mine2_0 lo hi) (mine2_1 lo hi) (mine2_0 lo2 hi2) (mine2_1 lo2 hi2) w )) (fun a hF => ?_)
              refine qs_w hF (wanted_y hF rfl rfl rfl rfl) rfl (Nat.le_of_ble_eq_true rfl) (y_load (v := Value.agg #[Value.int IntKind.i64 (mine2_0 lo2 hi2), Value.int IntKind.i64 (mine2_1 lo2 hi2)]) 1 hF rfl rfl T46 rfl) (fun a hF => ?_)
              refine qs_w hF (wanted_y hF rfl rfl rfl rfl) rfl (Nat.le_of_ble_eq_true rfl) (y_load (v := Value.agg #[Value.int IntKind.i64 (mine2_0 lo hi), Value.int IntKind.i64 (mine2_1 lo hi)]) 2 hF rfl rfl T46 rfl) (fun a hF => ?_)
              refine qs_w hF (wanted_y hF rfl rfl rfl rfl) rfl (Nat.le_of_ble_eq_true rfl) (y_call (v := Value.agg #[Value.int IntKind.i64 (hull_0 (mine2_0 lo2 hi2) (mine2_1 lo2 hi2) (mine2_0 lo hi) (mine2_1 lo hi)), Value.int IntKind.i64 (hull_1 (mine2_0 lo2 hi2) (mine2_1 lo2 hi2) (mine2_0 lo hi) (mine2_1 lo hi))]) hF H33 rfl (fun w _ => hull_any (mine2_0 lo2 hi2) (mine2_1 lo2 hi2) (mine2_0 lo hi) (mine2_1 lo hi) w )) (fun a hF => ?_)
              refine qs_w hF (wanted_y hF rfl rfl rfl rfl) rfl (Nat.le_of_ble_eq_true rfl) (y_eqa (t := decide ((hull_0 (mine2_0 lo hi) (mine2_1 lo hi) (mine2_0 lo2 hi2) (mine2_1 lo2 hi2)) = (hull_0 (mine2_0 lo2 hi2) (mine2_1 lo2 hi2) (mine2_0 lo hi) (mine2_1 lo hi)) ∧ (hull_1 (mine2_0 lo hi) (mine2_1 lo hi) (mine2_0 lo2 hi2) (mine2_1 lo2 hi2)) = (hull_1 (mine2_0 lo2 hi2) (mine2_1 lo2 hi2) (mine2_0 lo hi) (mine2_1 lo hi)))) G46 (E46 _ _ _ _) hF rfl rfl) (fun a hF => ?_)
              refine qs hF rfl (y_pick_t hF rfl rfl rfl) (fun a hF => ?_)
              refine qs hF rfl (y_move hF rfl) (fun a hF => ?_)
              rcases Bool.eq_false_or_eq_true (decide ((hull_0 (mine2_0 lo hi) (mine2_1 lo hi) (mine2_0 lo2 hi2) (mine2_1 lo2 hi2)) = (hull_0 (mine2_0 lo2 hi2) (mine2_1 lo2 hi2) (mine2_0 lo hi) (mine2_1 lo hi)) ∧ (hull_1 (mine2_0 lo hi) (mine2_1 lo hi) (mine2_0 lo2 hi2) (mine2_1 lo2 hi2)) = (hull_1 (mine2_0 lo2 hi2) (mine2_1 lo2 hi2) (mine2_0 lo hi) (mine2_1 lo hi)))) with hb | hb
              ·
                have c7 := of_decide_eq_true hb
                simp only [hb] at hF
                clear hb
                refine qs_w hF (wanted_y hF rfl rfl rfl rfl) rfl (Nat.le_of_ble_eq_true rfl) (y_load (v := Value.agg #[Value.int IntKind.i64 (mine2_0 lo hi), Value.int IntKind.i64 (mine2_1 lo hi)]) 2 hF rfl rfl T46 rfl) (fun a hF => ?_)
                refine qs_w hF (wanted_y hF rfl rfl rfl rfl) rfl (Nat.le_of_ble_eq_true rfl) (y_load (v := Value.agg #[Value.int IntKind.i64 (mine2_0 lo2 hi2), Value.int IntKind.i64 (mine2_1 lo2 hi2)]) 1 hF rfl rfl T46 rfl) (fun a hF => ?_)
                refine qs_w hF (wanted_y hF rfl rfl rfl rfl) rfl (Nat.le_of_ble_eq_true rfl) (y_call (v := Value.agg #[Value.int IntKind.i64 (meet_0 (mine2_0 lo hi) (mine2_1 lo hi) (mine2_0 lo2 hi2) (mine2_1 lo2 hi2)), Value.int IntKind.i64 (meet_1 (mine2_0 lo hi) (mine2_1 lo hi) (mine2_0 lo2 hi2) (mine2_1 lo2 hi2))]) hF H31 rfl (fun w _ => meet_any (mine2_0 lo hi) (mine2_1 lo hi) (mine2_0 lo2 hi2) (mine2_1 lo2 hi2) w )) (fun a hF => ?_)
                refine qs_w hF (wanted_y hF rfl rfl rfl rfl) rfl (Nat.le_of_ble_eq_true rfl) (y_load (v := Value.agg #[Value.int IntKind.i64 (mine2_0 lo2 hi2), Value.int IntKind.i64 (mine2_1 lo2 hi2)]) 1 hF rfl rfl T46 rfl) (fun a hF => ?_)
                refine qs_w hF (wanted_y hF rfl rfl rfl rfl) rfl (Nat.le_of_ble_eq_true rfl) (y_call (v := Value.bool (within (meet_0 (mine2_0 lo hi) (mine2_1 lo hi) (mine2_0 lo2 hi2) (mine2_1 lo2 hi2)) (meet_1 (mine2_0 lo hi) (mine2_1 lo hi) (mine2_0 lo2 hi2) (mine2_1 lo2 hi2)) (mine2_0 lo2 hi2) (mine2_1 lo2 hi2))) hF H43 rfl (fun w _ => within_any (meet_0 (mine2_0 lo hi) (mine2_1 lo hi) (mine2_0 lo2 hi2) (mine2_1 lo2 hi2)) (meet_1 (mine2_0 lo hi) (mine2_1 lo hi) (mine2_0 lo2 hi2) (mine2_1 lo2 hi2)) (mine2_0 lo2 hi2) (mine2_1 lo2 hi2) w )) (fun a hF => ?_)
                refine qs hF rfl (y_pick_t hF rfl rfl rfl) (fun a hF => ?_)
                refine qs hF rfl (y_move hF rfl) (fun a hF => ?_)
                rcases Bool.eq_false_or_eq_true (within (meet_0 (mine2_0 lo hi) (mine2_1 lo hi) (mine2_0 lo2 hi2) (mine2_1 lo2 hi2)) (meet_1 (mine2_0 lo hi) (mine2_1 lo hi) (mine2_0 lo2 hi2) (mine2_1 lo2 hi2)) (mine2_0 lo2 hi2) (mine2_1 lo2 hi2)) with hb | hb
                ·
                  have c8 := hb
                  simp only [hb] at hF
                  clear hb
                  refine qs_w hF (wanted_y hF rfl rfl rfl rfl) rfl (Nat.le_of_ble_eq_true rfl) (y_load (v := Value.agg #[Value.int IntKind.i64 (mine2_0 lo hi), Value.int IntKind.i64 (mine2_1 lo hi)]) 2 hF rfl rfl T46 rfl) (fun a hF => ?_)
                  refine qs_w hF (wanted_y hF rfl rfl rfl rfl) rfl (Nat.le_of_ble_eq_true rfl) (y_load (v := Value.agg #[Value.int IntKind.i64 (mine2_0 lo hi), Value.int IntKind.i64 (mine2_1 lo hi)]) 2 hF rfl rfl T46 rfl) (fun a hF => ?_)
                  refine qs_w hF (wanted_y hF rfl rfl rfl rfl) rfl (Nat.le_of_ble_eq_true rfl) (y_load (v := Value.agg #[Value.int IntKind.i64 (mine2_0 lo2 hi2), Value.int IntKind.i64 (mine2_1 lo2 hi2)]) 1 hF rfl rfl T46 rfl) (fun a hF => ?_)
                  refine qs_w hF (wanted_y hF rfl rfl rfl rfl) rfl (Nat.le_of_ble_eq_true rfl) (y_call (v := Value.agg #[Value.int IntKind.i64 (hull_0 (mine2_0 lo hi) (mine2_1 lo hi) (mine2_0 lo2 hi2) (mine2_1 lo2 hi2)), Value.int IntKind.i64 (hull_1 (mine2_0 lo hi) (mine2_1 lo hi) (mine2_0 lo2 hi2) (mine2_1 lo2 hi2))]) hF H33 rfl (fun w _ => hull_any (mine2_0 lo hi) (mine2_1 lo hi) (mine2_0 lo2 hi2) (mine2_1 lo2 hi2) w )) (fun a hF => ?_)
                  refine qs_w hF (wanted_y hF rfl rfl rfl rfl) rfl (Nat.le_of_ble_eq_true rfl) (y_call (v := Value.bool (within (mine2_0 lo hi) (mine2_1 lo hi) (hull_0 (mine2_0 lo hi) (mine2_1 lo hi) (mine2_0 lo2 hi2) (mine2_1 lo2 hi2)) (hull_1 (mine2_0 lo hi) (mine2_1 lo hi) (mine2_0 lo2 hi2) (mine2_1 lo2 hi2)))) hF H43 rfl (fun w _ => within_any (mine2_0 lo hi) (mine2_1 lo hi) (hull_0 (mine2_0 lo hi) (mine2_1 lo hi) (mine2_0 lo2 hi2) (mine2_1 lo2 hi2)) (hull_1 (mine2_0 lo hi) (mine2_1 lo hi) (mine2_0 lo2 hi2) (mine2_1 lo2 hi2)) w )) (fun a hF => ?_)
                  refine qs hF rfl (y_pick_t hF rfl rfl rfl) (fun a hF => ?_)
                  refine qs hF rfl (y_move hF rfl) (fun a hF => ?_)
                  rcases Bool.eq_false_or_eq_true (within (mine2_0 lo hi) (mine2_1 lo hi) (hull_0 (mine2_0 lo hi) (mine2_1 lo hi) (mine2_0 lo2 hi2) (mine2_1 lo2 hi2)) (hull_1 (mine2_0 lo hi) (mine2_1 lo hi) (mine2_0 lo2 hi2) (mine2_1 lo2 hi2))) with hb | hb
                  ·
                    have c9 := hb
                    simp only [hb] at hF
                    clear hb
                    refine qs_w hF (wanted_y hF rfl rfl rfl rfl) rfl (Nat.le_of_ble_eq_true rfl) (y_call (v := Value.bool awake2) hF H50 rfl (fun w _ => awake2_any  w )) (fun a hF => ?_)
                    refine qs hF rfl (y_pick_t hF rfl rfl rfl) (fun a hF => ?_)
                    refine qs hF rfl (y_assign hF rfl) (fun a hF => ?_)
                    refine quiet_end (fun w hW => ?_)
                    refine c_then ?_
                    refine wp_ret ?_
                    refine post1 (.inl rfl) hF hW rfl (rv_tmp hF rfl) ?_
                    exact ⟨congrArg Ending.returned (vbool (show (awake2) = spanMeets lo hi lo2 hi2 lo3 hi3 x by rw [spanMeets, if_neg c1, if_neg c2, if_pos c3, if_neg c4, if_pos c5, if_pos c6, if_pos c7, if_pos c8, if_pos c9])), hW.frm.below⟩
                  ·
                    have c9 : ¬ ((within (mine2_0 lo hi) (mine2_1 lo hi) (hull_0 (mine2_0 lo hi) (mine2_1 lo hi) (mine2_0 lo2 hi2) (mine2_1 lo2 hi2)) (hull_1 (mine2_0 lo hi) (mine2_1 lo hi) (mine2_0 lo2 hi2) (mine2_1 lo2 hi2))) = true) := by rw [hb]; decide
                    simp only [hb] at hF
                    clear hb
                    refine qs_skip hF (wanted_n hF rfl rfl rfl rfl rfl) rfl rfl (fun a hF => ?_)
                    refine qs hF rfl (y_pick_f hF rfl rfl rfl) (fun a hF => ?_)
                    refine qs hF rfl (y_assign hF rfl) (fun a hF => ?_)
                    refine quiet_end (fun w hW => ?_)
                    refine c_then ?_
                    refine wp_ret ?_
                    refine post1 (.inl rfl) hF hW rfl (rv_tmp hF rfl) ?_
                    exact ⟨congrArg Ending.returned (vbool (show (false) = spanMeets lo hi lo2 hi2 lo3 hi3 x by rw [spanMeets, if_neg c1, if_neg c2, if_pos c3, if_neg c4, if_pos c5, if_pos c6, if_pos c7, if_pos c8, if_neg c9])), hW.frm.below⟩
                ·
                  have c8 : ¬ ((within (meet_0 (mine2_0 lo hi) (mine2_1 lo hi) (mine2_0 lo2 hi2) (mine2_1 lo2 hi2)) (meet_1 (mine2_0 lo hi) (mine2_1 lo hi) (mine2_0 lo2 hi2) (mine2_1 lo2 hi2)) (mine2_0 lo2 hi2) (mine2_1 lo2 hi2)) = true) := by rw [hb]; decide
                  simp only [hb] at hF
                  clear hb
                  refine qs_skip hF (wanted_n hF rfl rfl rfl rfl rfl) rfl rfl (fun a hF => ?_)
                  refine qs_skip hF (wanted_n hF rfl rfl rfl rfl rfl) rfl rfl (fun a hF => ?_)
                  refine qs_skip hF (wanted_n hF rfl rfl rfl rfl rfl) rfl rfl (fun a hF => ?_)
                  refine qs_skip hF (wanted_n hF rfl rfl rfl rfl rfl) rfl rfl (fun a hF => ?_)
                  refine qs_skip hF (wanted_n hF rfl rfl rfl rfl rfl) rfl rfl (fun a hF => ?_)
                  refine qs hF rfl (y_pick_f hF rfl rfl rfl) (fun a hF => ?_)
                  refine qs hF rfl (y_move hF rfl) (fun a hF => ?_)
                  refine qs_skip hF (wanted_n hF rfl rfl rfl rfl rfl) rfl rfl (fun a hF => ?_)
                  refine qs hF rfl (y_pick_f hF rfl rfl rfl) (fun a hF => ?_)
                  refine qs hF rfl (y_assign hF rfl) (fun a hF => ?_)
                  refine quiet_end (fun w hW => ?_)
                  refine c_then ?_
                  refine wp_ret ?_
                  refine post1 (.inl rfl) hF hW rfl (rv_tmp hF rfl) ?_
                  exact ⟨congrArg Ending.returned (vbool (show (false) = spanMeets lo hi lo2 hi2 lo3 hi3 x by rw [spanMeets, if_neg c1, if_neg c2, if_pos c3, if_neg c4, if_pos c5, if_pos c6, if_pos c7, if_neg c8])), hW.frm.below⟩
              ·
                have c7 := of_decide_eq_false hb
                simp only [hb] at hF
                clear hb
                refine qs_skip hF (wanted_n hF rfl rfl rfl rfl rfl) rfl rfl (fun a hF => ?_)
                refine qs_skip hF (wanted_n hF rfl rfl rfl rfl rfl) rfl rfl (fun a hF => ?_)
                refine qs_skip hF (wanted_n hF rfl rfl rfl rfl rfl) rfl rfl (fun a hF => ?_)
                refine qs_skip hF (wanted_n hF rfl rfl rfl rfl rfl) rfl rfl (fun a hF => ?_)
                refine qs_skip hF (wanted_n hF rfl rfl rfl rfl rfl) rfl rfl (fun a hF => ?_)
                refine qs hF rfl (y_pick_f hF rfl rfl rfl) (fun a hF => ?_)
                refine qs hF rfl (y_move hF rfl) (fun a hF => ?_)
                refine qs_skip hF (wanted_n hF rfl rfl rfl rfl rfl) rfl rfl (fun a hF => ?_)
                refine qs_skip hF (wanted_n hF rfl rfl rfl rfl rfl) rfl rfl (fun a hF => ?_)
                refine qs_skip hF (wanted_n hF rfl rfl rfl rfl rfl) rfl rfl (fun a hF => ?_)
                refine qs_skip hF (wanted_n hF rfl rfl rfl rfl rfl) rfl rfl (fun a hF => ?_)
                refine qs_skip hF (wanted_n hF rfl rfl rfl rfl rfl) rfl rfl (fun a hF => ?_)
                refine qs hF rfl (y_pick_f hF rfl rfl rfl) (fun a hF => ?_)
                refine qs hF rfl (y_move hF rfl) (fun a hF => ?_)
                refine qs_skip hF (wanted_n hF rfl rfl rfl rfl rfl) rfl rfl (fun a hF => ?_)
                refine qs hF rfl (y_pick_f hF rfl rfl rfl) (fun a hF => ?_)
                refine qs hF rfl (y_assign hF rfl) (fun a hF => ?_)
                refine quiet_end (fun w hW => ?_)
                refine c_then ?_
                refine wp_ret ?_
                refine post1 (.inl rfl) hF hW rfl (rv_tmp hF rfl) ?_
                exact ⟨congrArg Ending.returned (vbool (show (false) = spanMeets lo hi lo2 hi2 lo3 hi3 x by rw [spanMeets, if_neg c1, if_neg c2, if_pos c3, if_neg c4, if_pos c5, if_pos c6, if_neg c7])), hW.frm.below⟩
            ·
              have c6 := of_decide_eq_false hb
              simp only [hb] at hF
              clear hb
              refine qs_skip hF (wanted_n hF rfl rfl rfl rfl rfl) rfl rfl (fun a hF => ?_)
              refine qs_skip hF (wanted_n hF rfl rfl rfl rfl rfl) rfl rfl (fun a hF => ?_)
              refine qs_skip hF (wanted_n hF rfl rfl rfl rfl rfl) rfl rfl (fun a hF => ?_)
              refine qs_skip hF (wanted_n hF rfl rfl rfl rfl rfl) rfl rfl (fun a hF => ?_)
              refine qs_skip hF (wanted_n hF rfl rfl rfl rfl rfl) rfl rfl (fun a hF => ?_)
              refine qs_skip hF (wanted_n hF rfl rfl rfl rfl rfl) rfl rfl (fun a hF => ?_)
              refine qs_skip hF (wanted_n hF rfl rfl rfl rfl rfl) rfl rfl (fun a hF => ?_)
              refine qs hF rfl (y_pick_f hF rfl rfl rfl) (fun a hF => ?_)
              refine qs hF rfl (y_move hF rfl) (fun a hF => ?_)
              refine qs_skip hF (wanted_n hF rfl rfl rfl rfl rfl) rfl rfl (fun a hF => ?_)
              refine qs_skip hF (wanted_n hF rfl rfl rfl rfl rfl) rfl rfl (fun a hF => ?_)
              refine qs_skip hF (wanted_n hF rfl rfl rfl rfl rfl) rfl rfl (fun a hF => ?_)
              refine qs_skip hF (wanted_n hF rfl rfl rfl rfl rfl) rfl rfl (fun a hF => ?_)
              refine qs_skip hF (wanted_n hF rfl rfl rfl rfl rfl) rfl rfl (fun a hF => ?_)
              refine qs hF rfl (y_pick_f hF rfl rfl rfl) (fun a hF => ?_)
              refine qs hF rfl (y_move hF rfl) (fun a hF => ?_)
              refine qs_skip hF (wanted_n hF rfl rfl rfl rfl rfl) rfl rfl (fun a hF => ?_)
              refine qs_skip hF (wanted_n hF rfl rfl rfl rfl rfl) rfl rfl (fun a hF => ?_)
              refine qs_skip hF (wanted_n hF rfl rfl rfl rfl rfl) rfl rfl (fun a hF => ?_)
              refine qs_skip hF (wanted_n hF rfl rfl rfl rfl rfl) rfl rfl (fun a hF => ?_)
              refine qs_skip hF (wanted_n hF rfl rfl rfl rfl rfl) rfl rfl (fun a hF => ?_)
              refine qs hF rfl (y_pick_f hF rfl rfl rfl) (fun a hF => ?_)
              refine qs hF rfl (y_move hF rfl) (fun a hF => ?_)
              refine qs_skip hF (wanted_n hF rfl rfl rfl rfl rfl) rfl rfl (fun a hF => ?_)
              refine qs hF rfl (y_pick_f hF rfl rfl rfl) (fun a hF => ?_)
              refine qs hF rfl (y_assign hF rfl) (fun a hF => ?_)
              refine quiet_end (fun w hW => ?_)
              refine c_then ?_
              refine wp_ret ?_
              refine post1 (.inl rfl) hF hW rfl (rv_tmp hF rfl) ?_
              exact ⟨congrArg Ending.returned (vbool (show (false) = spanMeets lo hi lo2 hi2 lo3 hi3 x by rw [spanMeets, if_neg c1, if_neg c2, if_pos c3, if_neg c4, if_pos c5, if_neg c6])), hW.frm.below⟩
          ·
            have c5 := of_decide_eq_false hb
            simp only [hb] at hF
            clear hb
            refine qs_skip hF (wanted_n hF rfl rfl rfl rfl rfl) rfl rfl (fun a hF => ?_)
            refine qs_skip hF (wanted_n hF rfl rfl rfl rfl rfl) rfl rfl (fun a hF => ?_)
            refine qs_skip hF (wanted_n hF rfl rfl rfl rfl rfl) rfl rfl (fun a hF => ?_)
            refine qs_skip hF (wanted_n hF rfl rfl rfl rfl rfl) rfl rfl (fun a hF => ?_)
            refine qs_skip hF (wanted_n hF rfl rfl rfl rfl rfl) rfl rfl (fun a hF => ?_)
            refine qs_skip hF (wanted_n hF rfl rfl rfl rfl rfl) rfl rfl (fun a hF => ?_)
            refine qs_skip hF (wanted_n hF rfl rfl rfl rfl rfl) rfl rfl (fun a hF => ?_)
            refine qs_skip hF (wanted_n hF rfl rfl rfl rfl rfl) rfl rfl (fun a hF => ?_)
            refine qs_skip hF (wanted_n hF rfl rfl rfl rfl rfl) rfl rfl (fun a hF => ?_)
            refine qs_skip hF (wanted_n hF rfl rfl rfl rfl rfl) rfl rfl (fun a hF => ?_)
            refine qs_skip hF (wanted_n hF rfl rfl rfl rfl rfl) rfl rfl (fun a hF => ?_)
            refine qs hF rfl (y_pick_f hF rfl rfl rfl) (fun a hF => ?_)
            refine qs hF rfl (y_move hF rfl) (fun a hF => ?_)
            refine qs_skip hF (wanted_n hF rfl rfl rfl rfl rfl) rfl rfl (fun a hF => ?_)
            refine qs_skip hF (wanted_n hF rfl rfl rfl rfl rfl) rfl rfl (fun a hF => ?_)
            refine qs_skip hF (wanted_n hF rfl rfl rfl rfl rfl) rfl rfl (fun a hF => ?_)
            refine qs_skip hF (wanted_n hF rfl rfl rfl rfl rfl) rfl rfl (fun a hF => ?_)
            refine qs_skip hF (wanted_n hF rfl rfl rfl rfl rfl) rfl rfl (fun a hF => ?_)
            refine qs_skip hF (wanted_n hF rfl rfl rfl rfl rfl) rfl rfl (fun a hF => ?_)
            refine qs_skip hF (wanted_n hF rfl rfl rfl rfl rfl) rfl rfl (fun a hF => ?_)
            refine qs hF rfl (y_pick_f hF rfl rfl rfl) (fun a hF => ?_)
            refine qs hF rfl (y_move hF rfl) (fun a hF => ?_)
            refine qs_skip hF (wanted_n hF rfl rfl rfl rfl rfl) rfl rfl (fun a hF => ?_)
            refine qs_skip hF (wanted_n hF rfl rfl rfl rfl rfl) rfl rfl (fun a hF => ?_)
            refine qs_skip hF (wanted_n hF rfl rfl rfl rfl rfl) rfl rfl (fun a hF => ?_)
            refine qs_skip hF (wanted_n hF rfl rfl rfl rfl rfl) rfl rfl (fun a hF => ?_)
            refine qs_skip hF (wanted_n hF rfl rfl rfl rfl rfl) rfl rfl (fun a hF => ?_)
            refine qs hF rfl (y_pick_f hF rfl rfl rfl) (fun a hF => ?_)
            refine qs hF rfl (y_move hF rfl) (fun a hF => ?_)
            refine qs_skip hF (wanted_n hF rfl rfl rfl rfl rfl) rfl rfl (fun a hF => ?_)
            refine qs_skip hF (wanted_n hF rfl rfl rfl rfl rfl) rfl rfl (fun a hF => ?_)
            refine qs_skip hF (wanted_n hF rfl rfl rfl rfl rfl) rfl rfl (fun a hF => ?_)
            refine qs_skip hF (wanted_n hF rfl rfl rfl rfl rfl) rfl rfl (fun a hF => ?_)
            refine qs_skip hF (wanted_n hF rfl rfl rfl rfl rfl) rfl rfl (fun a hF => ?_)
            refine qs hF rfl (y_pick_f hF rfl rfl rfl) (fun a hF => ?_)
            refine qs hF rfl (y_move hF rfl) (fun a hF => ?_)
            refine qs_skip hF (wanted_n hF rfl rfl rfl rfl rfl) rfl rfl (fun a hF => ?_)
            refine qs hF rfl (y_pick_f hF rfl rfl rfl) (fun a hF => ?_)
            refine qs hF rfl (y_assign hF rfl) (fun a hF => ?_)
            refine quiet_end (fun w hW => ?_)
            refine c_then ?_
            refine wp_ret ?_
            refine post1 (.inl rfl) hF hW rfl (rv_tmp hF rfl) ?_
            exact ⟨congrArg Ending.returned (vbool (show (false) = spanMeets lo hi lo2 hi2 lo3 hi3 x by rw [spanMeets, if_neg c1, if_neg c2, if_pos c3, if_neg c4, if_neg c5])), hW.frm.below⟩
      ·
        have c3 : ¬ ((has (mine2_0 lo2 hi2) (mine2_1 lo2 hi2) x) = true) := by rw [hb]; decide
        simp only [hb] at hF
        clear hb
        refine ls_skip hF (wanted_n hF rfl rfl rfl rfl rfl) rfl rfl (fun a hF => ?_)
        refine ls_skip hF (wanted_n hF rfl rfl rfl rfl rfl) rfl rfl (fun a hF => ?_)
        refine ls_skip hF (wanted_n hF rfl rfl rfl rfl rfl) rfl rfl (fun a hF => ?_)
        refine ls_skip hF (wanted_n hF rfl rfl rfl rfl rfl) rfl rfl (fun a hF => ?_)
        refine ls_skip hF (wanted_n hF rfl rfl rfl rfl rfl) rfl rfl (fun a hF => ?_)
        refine ls_skip hF (wanted_n hF rfl rfl rfl rfl rfl) rfl rfl (fun a hF => ?_)
        refine ls_w hF hW (wanted_y hF rfl rfl rfl rfl) rfl (Nat.le_of_ble_eq_true rfl) (y_pick_f hF rfl rfl rfl) (fun a w hF hW => ?_)
        refine ls hF hW rfl (y_pick_f hF rfl rfl rfl) (fun a w hF hW => ?_)
        refine ls_nil ?_
        refine c_then ?_
        refine c_cond_f hF rfl ?_
        refine wp_skip ?_
        refine c_then ?_
        refine c_seq ?_
        refine reg_quiet hW MO (by kernel_rfl) ?_
        refine qs hF rfl (y_load (v := Value.agg #[Value.int IntKind.i64 (mine2_0 lo hi), Value.int IntKind.i64 (mine2_1 lo hi)]) 2 hF rfl rfl T46 rfl) (fun a hF => ?_)
        refine qs hF rfl (y_load (v := Value.agg #[Value.int IntKind.i64 (mine2_0 lo2 hi2), Value.int IntKind.i64 (mine2_1 lo2 hi2)]) 1 hF rfl rfl T46 rfl) (fun a hF => ?_)
        refine qs hF rfl (y_call (v := Value.agg #[Value.int IntKind.i64 (meet_0 (mine2_0 lo hi) (mine2_1 lo hi) (mine2_0 lo2 hi2) (mine2_1 lo2 hi2)), Value.int IntKind.i64 (meet_1 (mine2_0 lo hi) (mine2_1 lo hi) (mine2_0 lo2 hi2) (mine2_1 lo2 hi2))]) hF H31 rfl (fun w _ => meet_any (mine2_0 lo hi) (mine2_1 lo hi) (mine2_0 lo2 hi2) (mine2_1 lo2 hi2) w )) (fun a hF => ?_)
        refine qs hF rfl (y_load (v := Value.agg #[Value.int IntKind.i64 (mine2_0 lo2 hi2), Value.int IntKind.i64 (mine2_1 lo2 hi2)]) 1 hF rfl rfl T46 rfl) (fun a hF => ?_)
        refine qs hF rfl (y_load (v := Value.agg #[Value.int IntKind.i64 (mine2_0 lo hi), Value.int IntKind.i64 (mine2_1 lo hi)]) 2 hF rfl rfl T46 rfl) (fun a hF => ?_)
        refine qs hF rfl (y_call (v := Value.agg #[Value.int IntKind.i64 (meet_0 (mine2_0 lo2 hi2) (mine2_1 lo2 hi2) (mine2_0 lo hi) (mine2_1 lo hi)), Value.int IntKind.i64 (meet_1 (mine2_0 lo2 hi2) (mine2_1 lo2 hi2) (mine2_0 lo hi) (mine2_1 lo hi))]) hF H31 rfl (fun w _ => meet_any (mine2_0 lo2 hi2) (mine2_1 lo2 hi2) (mine2_0 lo hi) (mine2_1 lo hi) w )) (fun a hF => ?_)
        refine qs hF rfl (y_eqa (t := decide ((meet_0 (mine2_0 lo hi) (mine2_1 lo hi) (mine2_0 lo2 hi2) (mine2_1 lo2 hi2)) = (meet_0 (mine2_0 lo2 hi2) (mine2_1 lo2 hi2) (mine2_0 lo hi) (mine2_1 lo hi)) ∧ (meet_1 (mine2_0 lo hi) (mine2_1 lo hi) (mine2_0 lo2 hi2) (mine2_1 lo2 hi2)) = (meet_1 (mine2_0 lo2 hi2) (mine2_1 lo2 hi2) (mine2_0 lo hi) (mine2_1 lo hi)))) G46 (E46 _ _ _ _) hF rfl rfl) (fun a hF => ?_)
        refine qs hF rfl (y_move hF rfl) (fun a hF => ?_)
        rcases Bool.eq_false_or_eq_true (decide ((meet_0 (mine2_0 lo hi) (mine2_1 lo hi) (mine2_0 lo2 hi2) (mine2_1 lo2 hi2)) = (meet_0 (mine2_0 lo2 hi2) (mine2_1 lo2 hi2) (mine2_0 lo hi) (mine2_1 lo hi)) ∧ (meet_1 (mine2_0 lo hi) (mine2_1 lo hi) (mine2_0 lo2 hi2) (mine2_1 lo2 hi2)) = (meet_1 (mine2_0 lo2 hi2) (mine2_1 lo2 hi2) (mine2_0 lo hi) (mine2_1 lo hi)))) with hb | hb
        ·
          have c4 := of_decide_eq_true hb
          simp only [hb] at hF
          clear hb
          refine qs_w hF (wanted_y hF rfl rfl rfl rfl) rfl (Nat.le_of_ble_eq_true rfl) (y_load (v := Value.agg #[Value.int IntKind.i64 (mine2_0 lo hi), Value.int IntKind.i64 (mine2_1 lo hi)]) 2 hF rfl rfl T46 rfl) (fun a hF => ?_)
          refine qs_w hF (wanted_y hF rfl rfl rfl rfl) rfl (Nat.le_of_ble_eq_true rfl) (y_load (v := Value.agg #[Value.int IntKind.i64 (mine2_0 lo2 hi2), Value.int IntKind.i64 (mine2_1 lo2 hi2)]) 1 hF rfl rfl T46 rfl) (fun a hF => ?_)
          refine qs_w hF (wanted_y hF rfl rfl rfl rfl) rfl (Nat.le_of_ble_eq_true rfl) (y_call (v := Value.agg #[Value.int IntKind.i64 (meet_0 (mine2_0 lo hi) (mine2_1 lo hi) (mine2_0 lo2 hi2) (mine2_1 lo2 hi2)), Value.int IntKind.i64 (meet_1 (mine2_0 lo hi) (mine2_1 lo hi) (mine2_0 lo2 hi2) (mine2_1 lo2 hi2))]) hF H31 rfl (fun w _ => meet_any (mine2_0 lo hi) (mine2_1 lo hi) (mine2_0 lo2 hi2) (mine2_1 lo2 hi2) w )) (fun a hF => ?_)
          refine qs_w hF (wanted_y hF rfl rfl rfl rfl) rfl (Nat.le_of_ble_eq_true rfl) (y_load (v := Value.agg #[Value.int IntKind.i64 (mine2_0 lo3 hi3), Value.int IntKind.i64 (mine2_1 lo3 hi3)]) 0 hF rfl rfl T46 rfl) (fun a hF => ?_)
          refine qs_w hF (wanted_y hF rfl rfl rfl rfl) rfl (Nat.le_of_ble_eq_true rfl) (y_call (v := Value.agg #[Value.int IntKind.i64 (meet_0 (meet_0 (mine2_0 lo hi) (mine2_1 lo hi) (mine2_0 lo2 hi2) (mine2_1 lo2 hi2)) (meet_1 (mine2_0 lo hi) (mine2_1 lo hi) (mine2_0 lo2 hi2) (mine2_1 lo2 hi2)) (mine2_0 lo3 hi3) (mine2_1 lo3 hi3)), Value.int IntKind.i64 (meet_1 (meet_0 (mine2_0 lo hi) (mine2_1 lo hi) (mine2_0 lo2 hi2) (mine2_1 lo2 hi2)) (meet_1 (mine2_0 lo hi) (mine2_1 lo hi) (mine2_0 lo2 hi2) (mine2_1 lo2 hi2)) (mine2_0 lo3 hi3) (mine2_1 lo3 hi3))]) hF H31 rfl (fun w _ => meet_any (meet_0 (mine2_0 lo hi) (mine2_1 lo hi) (mine2_0 lo2 hi2) (mine2_1 lo2 hi2)) (meet_1 (mine2_0 lo hi) (mine2_1 lo hi) (mine2_0 lo2 hi2) (mine2_1 lo2 hi2)) (mine2_0 lo3 hi3) (mine2_1 lo3 hi3) w )) (fun a hF => ?_)
          refine qs_w hF (wanted_y hF rfl rfl rfl rfl) rfl (Nat.le_of_ble_eq_true rfl) (y_load (v := Value.agg #[Value.int IntKind.i64 (mine2_0 lo hi), Value.int IntKind.i64 (mine2_1 lo hi)]) 2 hF rfl rfl T46 rfl) (fun a hF => ?_)
          refine qs_w hF (wanted_y hF rfl rfl rfl rfl) rfl (Nat.le_of_ble_eq_true rfl) (y_load (v := Value.agg #[Value.int IntKind.i64 (mine2_0 lo2 hi2), Value.int IntKind.i64 (mine2_1 lo2 hi2)]) 1 hF rfl rfl T46 rfl) (fun a hF => ?_)
          refine qs_w hF (wanted_y hF rfl rfl rfl rfl) rfl (Nat.le_of_ble_eq_true rfl) (y_load (v := Value.agg #[Value.int IntKind.i64 (mine2_0 lo3 hi3), Value.int IntKind.i64 (mine2_1 lo3 hi3)]) 0 hF rfl rfl T46 rfl) (fun a hF => ?_)
          refine qs_w hF (wanted_y hF rfl rfl rfl rfl) rfl (Nat.le_of_ble_eq_true rfl) (y_call (v := Value.agg #[Value.int IntKind.i64 (meet_0 (mine2_0 lo2 hi2) (mine2_1 lo2 hi2) (mine2_0 lo3 hi3) (mine2_1 lo3 hi3)), Value.int IntKind.i64 (meet_1 (mine2_0 lo2 hi2) (mine2_1 lo2 hi2) (mine2_0 lo3 hi3) (mine2_1 lo3 hi3))]) hF H31 rfl (fun w _ => meet_any (mine2_0 lo2 hi2) (mine2_1 lo2 hi2) (mine2_0 lo3 hi3) (mine2_1 lo3 hi3) w )) (fun a hF => ?_)
          refine qs_w hF (wanted_y hF rfl rfl rfl rfl) rfl (Nat.le_of_ble_eq_true rfl) (y_call (v := Value.agg #[Value.int IntKind.i64 (meet_0 (mine2_0 lo hi) (mine2_1 lo hi) (meet_0 (mine2_0 lo2 hi2) (mine2_1 lo2 hi2) (mine2_0 lo3 hi3) (mine2_1 lo3 hi3)) (meet_1 (mine2_0 lo2 hi2) (mine2_1 lo2 hi2) (mine2_0 lo3 hi3) (mine2_1 lo3 hi3))), Value.int IntKind.i64 (meet_1 (mine2_0 lo hi) (mine2_1 lo hi) (meet_0 (mine2_0 lo2 hi2) (mine2_1 lo2 hi2) (mine2_0 lo3 hi3) (mine2_1 lo3 hi3)) (meet_1 (mine2_0 lo2 hi2) (mine2_1 lo2 hi2) (mine2_0 lo3 hi3) (mine2_1 lo3 hi3)))]) hF H31 rfl (fun w _ => meet_any (mine2_0 lo hi) (mine2_1 lo hi) (meet_0 (mine2_0 lo2 hi2) (mine2_1 lo2 hi2) (mine2_0 lo3 hi3) (mine2_1 lo3 hi3)) (meet_1 (mine2_0 lo2 hi2) (mine2_1 lo2 hi2) (mine2_0 lo3 hi3) (mine2_1 lo3 hi3)) w )) (fun a hF => ?_)
          refine qs_w hF (wanted_y hF rfl rfl rfl rfl) rfl (Nat.le_of_ble_eq_true rfl) (y_eqa (t := decide ((meet_0 (meet_0 (mine2_0 lo hi) (mine2_1 lo hi) (mine2_0 lo2 hi2) (mine2_1 lo2 hi2)) (meet_1 (mine2_0 lo hi) (mine2_1 lo hi) (mine2_0 lo2 hi2) (mine2_1 lo2 hi2)) (mine2_0 lo3 hi3) (mine2_1 lo3 hi3)) = (meet_0 (mine2_0 lo hi) (mine2_1 lo hi) (meet_0 (mine2_0 lo2 hi2) (mine2_1 lo2 hi2) (mine2_0 lo3 hi3) (mine2_1 lo3 hi3)) (meet_1 (mine2_0 lo2 hi2) (mine2_1 lo2 hi2) (mine2_0 lo3 hi3) (mine2_1 lo3 hi3))) ∧ (meet_1 (meet_0 (mine2_0 lo hi) (mine2_1 lo hi) (mine2_0 lo2 hi2) (mine2_1 lo2 hi2)) (meet_1 (mine2_0 lo hi) (mine2_1 lo hi) (mine2_0 lo2 hi2) (mine2_1 lo2 hi2)) (mine2_0 lo3 hi3) (mine2_1 lo3 hi3)) = (meet_1 (mine2_0 lo hi) (mine2_1 lo hi) (meet_0 (mine2_0 lo2 hi2) (mine2_1 lo2 hi2) (mine2_0 lo3 hi3) (mine2_1 lo3 hi3)) (meet_1 (mine2_0 lo2 hi2) (mine2_1 lo2 hi2) (mine2_0 lo3 hi3) (mine2_1 lo3 hi3))))) G46 (E46 _ _ _ _) hF rfl rfl) (fun a hF => ?_)
          refine qs hF rfl (y_pick_t hF rfl rfl rfl) (fun a hF => ?_)
          refine qs hF rfl (y_move hF rfl) (fun a hF => ?_)
          rcases Bool.eq_false_or_eq_true (decide ((meet_0 (meet_0 (mine2_0 lo hi) (mine2_1 lo hi) (mine2_0 lo2 hi2) (mine2_1 lo2 hi2)) (meet_1 (mine2_0 lo hi) (mine2_1 lo hi) (mine2_0 lo2 hi2) (mine2_1 lo2 hi2)) (mine2_0 lo3 hi3) (mine2_1 lo3 hi3)) = (meet_0 (mine2_0 lo hi) (mine2_1 lo hi) (meet_0 (mine2_0 lo2 hi2) (mine2_1 lo2 hi2) (mine2_0 lo3 hi3) (mine2_1 lo3 hi3)) (meet_1 (mine2_0 lo2 hi2) (mine2_1 lo2 hi2) (mine2_0 lo3 hi3) (mine2_1 lo3 hi3))) ∧ (meet_1 (meet_0 (mine2_0 lo hi) (mine2_1 lo hi) (mine2_0 lo2 hi2) (mine2_1 lo2 hi2)) (meet_1 (mine2_0 lo hi) (mine2_1 lo hi) (mine2_0 lo2 hi2) (mine2_1 lo2 hi2)) (mine2_0 lo3 hi3) (mine2_1 lo3 hi3)) = (meet_1 (mine2_0 lo hi) (mine2_1 lo hi) (meet_0 (mine2_0 lo2 hi2) (mine2_1 lo2 hi2) (mine2_0 lo3 hi3) (mine2_1 lo3 hi3)) (meet_1 (mine2_0 lo2 hi2) (mine2_1 lo2 hi2) (mine2_0 lo3 hi3) (mine2_1 lo3 hi3))))) with hb | hb
          ·
            have c5 := of_decide_eq_true hb
            simp only [hb] at hF
            clear hb
            refine qs_w hF (wanted_y hF rfl rfl rfl rfl) rfl (Nat.le_of_ble_eq_true rfl) (y_load (v := Value.agg #[Value.int IntKind.i64 (mine2_0 lo hi), Value.int IntKind.i64 (mine2_1 lo hi)]) 2 hF rfl rfl T46 rfl) (fun a hF => ?_)
            refine qs_w hF (wanted_y hF rfl rfl rfl rfl) rfl (Nat.le_of_ble_eq_true rfl) (y_load (v := Value.agg #[Value.int IntKind.i64 (mine2_0 lo2 hi2), Value.int IntKind.i64 (mine2_1 lo2 hi2)]) 1 hF rfl rfl T46 rfl) (fun a hF => ?_)
            refine qs_w hF (wanted_y hF rfl rfl rfl rfl) rfl (Nat.le_of_ble_eq_true rfl) (y_call (v := Value.agg #[Value.int IntKind.i64 (hull_0 (mine2_0 lo hi) (mine2_1 lo hi) (mine2_0 lo2 hi2) (mine2_1 lo2 hi2)), Value.int IntKind.i64 (hull_1 (mine2_0 lo hi) (mine2_1 lo hi) (mine2_0 lo2 hi2) (mine2_1 lo2 hi2))]) hF H33 rfl (fun w _ => hull_any (mine2_0 lo hi) (mine2_1 lo hi) (mine2_0 lo2 hi2) (mine2_1 lo2 hi2) w )) (fun a hF => ?_)
            refine qs_w hF (wanted_y hF rfl rfl rfl rfl) rfl (Nat.le_of_ble_eq_true rfl) (y_load (v := Value.agg #[Value.int IntKind.i64 (mine2_0 lo2 hi2), Value.int IntKind.i64 (mine2_1 lo2 hi2)]) 1 hF rfl rfl T46 rfl) (fun a hF => ?_)
            refine qs_w hF (wanted_y hF rfl rfl rfl rfl) rfl (Nat.le_of_ble_eq_true rfl) (y_load (v := Value.agg #[Value.int IntKind.i64 (mine2_0 lo hi), Value.int IntKind.i64 (mine2_1 lo hi)]) 2 hF rfl rfl T46 rfl) (fun a hF => ?_)
            refine qs_w hF (wanted_y hF rfl rfl rfl rfl) rfl (Nat.le_of_ble_eq_true rfl) (y_call (v := Value.agg #[Value.int IntKind.i64 (hull_0 (mine2_0 lo2 hi2) (mine2_1 lo2 hi2) (mine2_0 lo hi) (mine2_1 lo hi)), Value.int IntKind.i64 (hull_1 (mine2_0 lo2 hi2) (mine2_1 lo2 hi2) (mine2_0 lo hi) (mine2_1 lo hi))]) hF H33 rfl (fun w _ => hull_any (mine2_0 lo2 hi2) (mine2_1 lo2 hi2) (mine2_0 lo hi) (mine2_1 lo hi) w )) (fun a hF => ?_)
            refine qs_w hF (wanted_y hF rfl rfl rfl rfl) rfl (Nat.le_of_ble_eq_true rfl) (y_eqa (t := decide ((hull_0 (mine2_0 lo hi) (mine2_1 lo hi) (mine2_0 lo2 hi2) (mine2_1 lo2 hi2)) = (hull_0 (mine2_0 lo2 hi2) (mine2_1 lo2 hi2) (mine2_0 lo hi) (mine2_1 lo hi)) ∧ (hull_1 (mine2_0 lo hi) (mine2_1 lo hi) (mine2_0 lo2 hi2) (mine2_1 lo2 hi2)) = (hull_1 (mine2_0 lo2 hi2) (mine2_1 lo2 hi2) (mine2_0 lo hi) (mine2_1 lo hi)))) G46 (E46 _ _ _ _) hF rfl rfl) (fun a hF => ?_)
            refine qs hF rfl (y_pick_t hF rfl rfl rfl) (fun a hF => ?_)
            refine qs hF rfl (y_move hF rfl) (fun a hF => ?_)
            rcases Bool.eq_false_or_eq_true (decide ((hull_0 (mine2_0 lo hi) (mine2_1 lo hi) (mine2_0 lo2 hi2) (mine2_1 lo2 hi2)) = (hull_0 (mine2_0 lo2 hi2) (mine2_1 lo2 hi2) (mine2_0 lo hi) (mine2_1 lo hi)) ∧ (hull_1 (mine2_0 lo hi) (mine2_1 lo hi) (mine2_0 lo2 hi2) (mine2_1 lo2 hi2)) = (hull_1 (mine2_0 lo2 hi2) (mine2_1 lo2 hi2) (mine2_0 lo hi) (mine2_1 lo hi)))) with hb | hb
            ·
              have c6 := of_decide_eq_true hb
              simp only [hb] at hF
              clear hb
              refine qs_w hF (wanted_y hF rfl rfl rfl rfl) rfl (Nat.le_of_ble_eq_true rfl) (y_load (v := Value.agg #[Value.int IntKind.i64 (mine2_0 lo hi), Value.int IntKind.i64 (mine2_1 lo hi)]) 2 hF rfl rfl T46 rfl) (fun a hF => ?_)
              refine qs_w hF (wanted_y hF rfl rfl rfl rfl) rfl (Nat.le_of_ble_eq_true rfl) (y_load (v := Value.agg #[Value.int IntKind.i64 (mine2_0 lo2 hi2), Value.int IntKind.i64 (mine2_1 lo2 hi2)]) 1 hF rfl rfl T46 rfl) (fun a hF => ?_)
              refine qs_w hF (wanted_y hF rfl rfl rfl rfl) rfl (Nat.le_of_ble_eq_true rfl) (y_call (v := Value.agg #[Value.int IntKind.i64 (meet_0 (mine2_0 lo hi) (mine2_1 lo hi) (mine2_0 lo2 hi2) (mine2_1 lo2 hi2)), Value.int IntKind.i64 (meet_1 (mine2_0 lo hi) (mine2_1 lo hi) (mine2_0 lo2 hi2) (mine2_1 lo2 hi2))]) hF H31 rfl (fun w _ => meet_any (mine2_0 lo hi) (mine2_1 lo hi) (mine2_0 lo2 hi2) (mine2_1 lo2 hi2) w )) (fun a hF => ?_)
              refine qs_w hF (wanted_y hF rfl rfl rfl rfl) rfl (Nat.le_of_ble_eq_true rfl) (y_load (v := Value.agg #[Value.int IntKind.i64 (mine2_0 lo2 hi2), Value.int IntKind.i64 (mine2_1 lo2 hi2)]) 1 hF rfl rfl T46 rfl) (fun a hF => ?_)
              refine qs_w hF (wanted_y hF rfl rfl rfl rfl) rfl (Nat.le_of_ble_eq_true rfl) (y_call (v := Value.bool (within (meet_0 (mine2_0 lo hi) (mine2_1 lo hi) (mine2_0 lo2 hi2) (mine2_1 lo2 hi2)) (meet_1 (mine2_0 lo hi) (mine2_1 lo hi) (mine2_0 lo2 hi2) (mine2_1 lo2 hi2)) (mine2_0 lo2 hi2) (mine2_1 lo2 hi2))) hF H43 rfl (fun w _ => within_any (meet_0 (mine2_0 lo hi) (mine2_1 lo hi) (mine2_0 lo2 hi2) (mine2_1 lo2 hi2)) (meet_1 (mine2_0 lo hi) (mine2_1 lo hi) (mine2_0 lo2 hi2) (mine2_1 lo2 hi2)) (mine2_0 lo2 hi2) (mine2_1 lo2 hi2) w )) (fun a hF => ?_)
              refine qs hF rfl (y_pick_t hF rfl rfl rfl) (fun a hF => ?_)
              refine qs hF rfl (y_move hF rfl) (fun a hF => ?_)
              rcases Bool.eq_false_or_eq_true (within (meet_0 (mine2_0 lo hi) (mine2_1 lo hi) (mine2_0 lo2 hi2) (mine2_1 lo2 hi2)) (meet_1 (mine2_0 lo hi) (mine2_1 lo hi) (mine2_0 lo2 hi2) (mine2_1 lo2 hi2)) (mine2_0 lo2 hi2) (mine2_1 lo2 hi2)) with hb | hb
              ·
                have c7 := hb
                simp only [hb] at hF
                clear hb
                refine qs_w hF (wanted_y hF rfl rfl rfl rfl) rfl (Nat.le_of_ble_eq_true rfl) (y_load (v := Value.agg #[Value.int IntKind.i64 (mine2_0 lo hi), Value.int IntKind.i64 (mine2_1 lo hi)]) 2 hF rfl rfl T46 rfl) (fun a hF => ?_)
                refine qs_w hF (wanted_y hF rfl rfl rfl rfl) rfl (Nat.le_of_ble_eq_true rfl) (y_load (v := Value.agg #[Value.int IntKind.i64 (mine2_0 lo hi), Value.int IntKind.i64 (mine2_1 lo hi)]) 2 hF rfl rfl T46 rfl) (fun a hF => ?_)
                refine qs_w hF (wanted_y hF rfl rfl rfl rfl) rfl (Nat.le_of_ble_eq_true rfl) (y_load (v := Value.agg #[Value.int IntKind.i64 (mine2_0 lo2 hi2), Value.int IntKind.i64 (mine2_1 lo2 hi2)]) 1 hF rfl rfl T46 rfl) (fun a hF => ?_)
                refine qs_w hF (wanted_y hF rfl rfl rfl rfl) rfl (Nat.le_of_ble_eq_true rfl) (y_call (v := Value.agg #[Value.int IntKind.i64 (hull_0 (mine2_0 lo hi) (mine2_1 lo hi) (mine2_0 lo2 hi2) (mine2_1 lo2 hi2)), Value.int IntKind.i64 (hull_1 (mine2_0 lo hi) (mine2_1 lo hi) (mine2_0 lo2 hi2) (mine2_1 lo2 hi2))]) hF H33 rfl (fun w _ => hull_any (mine2_0 lo hi) (mine2_1 lo hi) (mine2_0 lo2 hi2) (mine2_1 lo2 hi2) w )) (fun a hF => ?_)
                refine qs_w hF (wanted_y hF rfl rfl rfl rfl) rfl (Nat.le_of_ble_eq_true rfl) (y_call (v := Value.bool (within (mine2_0 lo hi) (mine2_1 lo hi) (hull_0 (mine2_0 lo hi) (mine2_1 lo hi) (mine2_0 lo2 hi2) (mine2_1 lo2 hi2)) (hull_1 (mine2_0 lo hi) (mine2_1 lo hi) (mine2_0 lo2 hi2) (mine2_1 lo2 hi2)))) hF H43 rfl (fun w _ => within_any (mine2_0 lo hi) (mine2_1 lo hi) (hull_0 (mine2_0 lo hi) (mine2_1 lo hi) (mine2_0 lo2 hi2) (mine2_1 lo2 hi2)) (hull_1 (mine2_0 lo hi) (mine2_1 lo hi) (mine2_0 lo2 hi2) (mine2_1 lo2 hi2)) w )) (fun a hF => ?_)
                refine qs hF rfl (y_pick_t hF rfl rfl rfl) (fun a hF => ?_)
                refine qs hF rfl (y_move hF rfl) (fun a hF => ?_)
                rcases Bool.eq_false_or_eq_true (within (mine2_0 lo hi) (mine2_1 lo hi) (hull_0 (mine2_0 lo hi) (mine2_1 lo hi) (mine2_0 lo2 hi2) (mine2_1 lo2 hi2)) (hull_1 (mine2_0 lo hi) (mine2_1 lo hi) (mine2_0 lo2 hi2) (mine2_1 lo2 hi2))) with hb | hb
                ·
                  have c8 := hb
                  simp only [hb] at hF
                  clear hb
                  refine qs_w hF (wanted_y hF rfl rfl rfl rfl) rfl (Nat.le_of_ble_eq_true rfl) (y_call (v := Value.bool awake2) hF H50 rfl (fun w _ => awake2_any  w )) (fun a hF => ?_)
                  refine qs hF rfl (y_pick_t hF rfl rfl rfl) (fun a hF => ?_)
                  refine qs hF rfl (y_assign hF rfl) (fun a hF => ?_)
                  refine quiet_end (fun w hW => ?_)
                  refine c_then ?_
                  refine wp_ret ?_
                  refine post1 (.inl rfl) hF hW rfl (rv_tmp hF rfl) ?_
                  exact ⟨congrArg Ending.returned (vbool (show (awake2) = spanMeets lo hi lo2 hi2 lo3 hi3 x by rw [spanMeets, if_neg c1, if_neg c2, if_neg c3, if_pos c4, if_pos c5, if_pos c6, if_pos c7, if_pos c8])), hW.frm.below⟩
                ·
                  have c8 : ¬ ((within (mine2_0 lo hi) (mine2_1 lo hi) (hull_0 (mine2_0 lo hi) (mine2_1 lo hi) (mine2_0 lo2 hi2) (mine2_1 lo2 hi2)) (hull_1 (mine2_0 lo hi) (mine2_1 lo hi) (mine2_0 lo2 hi2) (mine2_1 lo2 hi2))) = true) := by rw [hb]; decide
                  simp only [hb] at hF
                  clear hb
                  refine qs_skip hF (wanted_n hF rfl rfl rfl rfl rfl) rfl rfl (fun a hF => ?_)
                  refine qs hF rfl (y_pick_f hF rfl rfl rfl) (fun a hF => ?_)
                  refine qs hF rfl (y_assign hF rfl) (fun a hF => ?_)
                  refine quiet_end (fun w hW => ?_)
                  refine c_then ?_
                  refine wp_ret ?_
                  refine post1 (.inl rfl) hF hW rfl (rv_tmp hF rfl) ?_
                  exact ⟨congrArg Ending.returned (vbool (show (false) = spanMeets lo hi lo2 hi2 lo3 hi3 x by rw [spanMeets, if_neg c1, if_neg c2, if_neg c3, if_pos c4, if_pos c5, if_pos c6, if_pos c7, if_neg c8])), hW.frm.below⟩
              ·
                have c7 : ¬ ((within (meet_0 (mine2_0 lo hi) (mine2_1 lo hi) (mine2_0 lo2 hi2) (mine2_1 lo2 hi2)) (meet_1 (mine2_0 lo hi) (mine2_1 lo hi) (mine2_0 lo2 hi2) (mine2_1 lo2 hi2)) (mine2_0 lo2 hi2) (mine2_1 lo2 hi2)) = true) := by rw [hb]; decide
                simp only [hb] at hF
                clear hb
                refine qs_skip hF (wanted_n hF rfl rfl rfl rfl rfl) rfl rfl (fun a hF => ?_)
                refine qs_skip hF (wanted_n hF rfl rfl rfl rfl rfl) rfl rfl (fun a hF => ?_)
                refine qs_skip hF (wanted_n hF rfl rfl rfl rfl rfl) rfl rfl (fun a hF => ?_)
                refine qs_skip hF (wanted_n hF rfl rfl rfl rfl rfl) rfl rfl (fun a hF => ?_)
                refine qs_skip hF (wanted_n hF rfl rfl rfl rfl rfl) rfl rfl (fun a hF => ?_)
                refine qs hF rfl (y_pick_f hF rfl rfl rfl) (fun a hF => ?_)
                refine qs hF rfl (y_move hF rfl) (fun a hF => ?_)
                refine qs_skip hF (wanted_n hF rfl rfl rfl rfl rfl) rfl rfl (fun a hF => ?_)
                refine qs hF rfl (y_pick_f hF rfl rfl rfl) (fun a hF => ?_)
                refine qs hF rfl (y_assign hF rfl) (fun a hF => ?_)
                refine quiet_end (fun w hW => ?_)
                refine c_then ?_
                refine wp_ret ?_
                refine post1 (.inl rfl) hF hW rfl (rv_tmp hF rfl) ?_
                exact ⟨congrArg Ending.returned (vbool (show (false) = spanMeets lo hi lo2 hi2 lo3 hi3 x by rw [spanMeets, if_neg c1, if_neg c2, if_neg c3, if_pos c4, if_pos c5, if_pos c6, if_neg c7])), hW.frm.below⟩
            ·
              have c6 := of_decide_eq_false hb
              simp only [hb] at hF
              clear hb
              refine qs_skip hF (wanted_n hF rfl rfl rfl rfl rfl) rfl rfl (fun a hF => ?_)
              refine qs_skip hF (wanted_n hF rfl rfl rfl rfl rfl) rfl rfl (fun a hF => ?_)
              refine qs_skip hF (wanted_n hF rfl rfl rfl rfl rfl) rfl rfl (fun a hF => ?_)
              refine qs_skip hF (wanted_n hF rfl rfl rfl rfl rfl) rfl rfl (fun a hF => ?_)
              refine qs_skip hF (wanted_n hF rfl rfl rfl rfl rfl) rfl rfl (fun a hF => ?_)
              refine qs hF rfl (y_pick_f hF rfl rfl rfl) (fun a hF => ?_)
              refine qs hF rfl (y_move hF rfl) (fun a hF => ?_)
              refine qs_skip hF (wanted_n hF rfl rfl rfl rfl rfl) rfl rfl (fun a hF => ?_)
              refine qs_skip hF (wanted_n hF rfl rfl rfl rfl rfl) rfl rfl (fun a hF => ?_)
              refine qs_skip hF (wanted_n hF rfl rfl rfl rfl rfl) rfl rfl (fun a hF => ?_)
              refine qs_skip hF (wanted_n hF rfl rfl rfl rfl rfl) rfl rfl (fun a hF => ?_)
              refine qs_skip hF (wanted_n hF rfl rfl rfl rfl rfl) rfl rfl (fun a hF => ?_)
              refine qs hF rfl (y_pick_f hF rfl rfl rfl) (fun a hF => ?_)
              refine qs hF rfl (y_move hF rfl) (fun a hF => ?_)
              refine qs_skip hF (wanted_n hF rfl rfl rfl rfl rfl) rfl rfl (fun a hF => ?_)
              refine qs hF rfl (y_pick_f hF rfl rfl rfl) (fun a hF => ?_)
              refine qs hF rfl (y_assign hF rfl) (fun a hF => ?_)
              refine quiet_end (fun w hW => ?_)
              refine c_then ?_
              refine wp_ret ?_
              refine post1 (.inl rfl) hF hW rfl (rv_tmp hF rfl) ?_
              exact ⟨congrArg Ending.returned (vbool (show (false) = spanMeets lo hi lo2 hi2 lo3 hi3 x by rw [spanMeets, if_neg c1, if_neg c2, if_neg c3, if_pos c4, if_pos c5, if_neg c6])), hW.frm.below⟩
          ·
            have c5 := of_decide_eq_false hb
            simp only [hb] at hF
            clear hb
            refine qs_skip hF (wanted_n hF rfl rfl rfl rfl rfl) rfl rfl (fun a hF => ?_)
            refine qs_skip hF (wanted_n hF rfl rfl rfl rfl rfl) rfl rfl (fun a hF => ?_)
            refine qs_skip hF (wanted_n hF rfl rfl rfl rfl rfl) rfl rfl (fun a hF => ?_)
            refine qs_skip hF (wanted_n hF rfl rfl rfl rfl rfl) rfl rfl (fun a hF => ?_)
            refine qs_skip hF (wanted_n hF rfl rfl rfl rfl rfl) rfl rfl (fun a hF => ?_)
            refine qs_skip hF (wanted_n hF rfl rfl rfl rfl rfl) rfl rfl (fun a hF => ?_)
            refine qs_skip hF (wanted_n hF rfl rfl rfl rfl rfl) rfl rfl (fun a hF => ?_)
            refine qs hF rfl (y_pick_f hF rfl rfl rfl) (fun a hF => ?_)
            refine qs hF rfl (y_move hF rfl) (fun a hF => ?_)
            refine qs_skip hF (wanted_n hF rfl rfl rfl rfl rfl) rfl rfl (fun a hF => ?_)
            refine qs_skip hF (wanted_n hF rfl rfl rfl rfl rfl) rfl rfl (fun a hF => ?_)
            refine qs_skip hF (wanted_n hF rfl rfl rfl rfl rfl) rfl rfl (fun a hF => ?_)
            refine qs_skip hF (wanted_n hF rfl rfl rfl rfl rfl) rfl rfl (fun a hF => ?_)
            refine qs_skip hF (wanted_n hF rfl rfl rfl rfl rfl) rfl rfl (fun a hF => ?_)
            refine qs hF rfl (y_pick_f hF rfl rfl rfl) (fun a hF => ?_)
            refine qs hF rfl (y_move hF rfl) (fun a hF => ?_)
            refine qs_skip hF (wanted_n hF rfl rfl rfl rfl rfl) rfl rfl (fun a hF => ?_)
            refine qs_skip hF (wanted_n hF rfl rfl rfl rfl rfl) rfl rfl (fun a hF => ?_)
            refine qs_skip hF (wanted_n hF rfl rfl rfl rfl rfl) rfl rfl (fun a hF => ?_)
            refine qs_skip hF (wanted_n hF rfl rfl rfl rfl rfl) rfl rfl (fun a hF => ?_)
            refine qs_skip hF (wanted_n hF rfl rfl rfl rfl rfl) rfl rfl (fun a hF => ?_)
            refine qs hF rfl (y_pick_f hF rfl rfl rfl) (fun a hF => ?_)
            refine qs hF rfl (y_move hF rfl) (fun a hF => ?_)
            refine qs_skip hF (wanted_n hF rfl rfl rfl rfl rfl) rfl rfl (fun a hF => ?_)
            refine qs hF rfl (y_pick_f hF rfl rfl rfl) (fun a hF => ?_)
            refine qs hF rfl (y_assign hF rfl) (fun a hF => ?_)
            refine quiet_end (fun w hW => ?_)
            refine c_then ?_
            refine wp_ret ?_
            refine post1 (.inl rfl) hF hW rfl (rv_tmp hF rfl) ?_
            exact ⟨congrArg Ending.returned (vbool (show (false) = spanMeets lo hi lo2 hi2 lo3 hi3 x by rw [spanMeets, if_neg c1, if_neg c2, if_neg c3, if_pos c4, if_neg c5])), hW.frm.below⟩
        ·
          have c4 := of_decide_eq_false hb
          simp only [hb] at hF
          clear hb
          refine qs_skip hF (wanted_n hF rfl rfl rfl rfl rfl) rfl rfl (fun a hF => ?_)
          refine qs_skip hF (wanted_n hF rfl rfl rfl rfl rfl) rfl rfl (fun a hF => ?_)
          refine qs_skip hF (wanted_n hF rfl rfl rfl rfl rfl) rfl rfl (fun a hF => ?_)
          refine qs_skip hF (wanted_n hF rfl rfl rfl rfl rfl) rfl rfl (fun a hF => ?_)
          refine qs_skip hF (wanted_n hF rfl rfl rfl rfl rfl) rfl rfl (fun a hF => ?_)
          refine qs_skip hF (wanted_n hF rfl rfl rfl rfl rfl) rfl rfl (fun a hF => ?_)
          refine qs_skip hF (wanted_n hF rfl rfl rfl rfl rfl) rfl rfl (fun a hF => ?_)
          refine qs_skip hF (wanted_n hF rfl rfl rfl rfl rfl) rfl rfl (fun a hF => ?_)
          refine qs_skip hF (wanted_n hF rfl rfl rfl rfl rfl) rfl rfl (fun a hF => ?_)
          refine qs_skip hF (wanted_n hF rfl rfl rfl rfl rfl) rfl rfl (fun a hF => ?_)
          refine qs_skip hF (wanted_n hF rfl rfl rfl rfl rfl) rfl rfl (fun a hF => ?_)
          refine qs hF rfl (y_pick_f hF rfl rfl rfl) (fun a hF => ?_)
          refine qs hF rfl (y_move hF rfl) (fun a hF => ?_)
          refine qs_skip hF (wanted_n hF rfl rfl rfl rfl rfl) rfl rfl (fun a hF => ?_)
          refine qs_skip hF (wanted_n hF rfl rfl rfl rfl rfl) rfl rfl (fun a hF => ?_)
          refine qs_skip hF (wanted_n hF rfl rfl rfl rfl rfl) rfl rfl (fun a hF => ?_)
          refine qs_skip hF (wanted_n hF rfl rfl rfl rfl rfl) rfl rfl (fun a hF => ?_)
          refine qs_skip hF (wanted_n hF rfl rfl rfl rfl rfl) rfl rfl (fun a hF => ?_)
          refine qs_skip hF (wanted_n hF rfl rfl rfl rfl rfl) rfl rfl (fun a hF => ?_)
          refine qs_skip hF (wanted_n hF rfl rfl rfl rfl rfl) rfl rfl (fun a hF => ?_)
          refine qs hF rfl (y_pick_f hF rfl rfl rfl) (fun a hF => ?_)
          refine qs hF rfl (y_move hF rfl) (fun a hF => ?_)
          refine qs_skip hF (wanted_n hF rfl rfl rfl rfl rfl) rfl rfl (fun a hF => ?_)
          refine qs_skip hF (wanted_n hF rfl rfl rfl rfl rfl) rfl rfl (fun a hF => ?_)
          refine qs_skip hF (wanted_n hF rfl rfl rfl rfl rfl) rfl rfl (fun a hF => ?_)
          refine qs_skip hF (wanted_n hF rfl rfl rfl rfl rfl) rfl rfl (fun a hF => ?_)
          refine qs_skip hF (wanted_n hF rfl rfl rfl rfl rfl) rfl rfl (fun a hF => ?_)
          refine qs hF rfl (y_pick_f hF rfl rfl rfl) (fun a hF => ?_)
          refine qs hF rfl (y_move hF rfl) (fun a hF => ?_)
          refine qs_skip hF (wanted_n hF rfl rfl rfl rfl rfl) rfl rfl (fun a hF => ?_)
          refine qs_skip hF (wanted_n hF rfl rfl rfl rfl rfl) rfl rfl (fun a hF => ?_)
          refine qs_skip hF (wanted_n hF rfl rfl rfl rfl rfl) rfl rfl (fun a hF => ?_)
          refine qs_skip hF (wanted_n hF rfl rfl rfl rfl rfl) rfl rfl (fun a hF => ?_)
          refine qs_skip hF (wanted_n hF rfl rfl rfl rfl rfl) rfl rfl (fun a hF => ?_)
          refine qs hF rfl (y_pick_f hF rfl rfl rfl) (fun a hF => ?_)
          refine qs hF rfl (y_move hF rfl) (fun a hF => ?_)
          refine qs_skip hF (wanted_n hF rfl rfl rfl rfl rfl) rfl rfl (fun a hF => ?_)
          refine qs hF rfl (y_pick_f hF rfl rfl rfl) (fun a hF => ?_)
          refine qs hF rfl (y_assign hF rfl) (fun a hF => ?_)
          refine quiet_end (fun w hW => ?_)
          refine c_then ?_
          refine wp_ret ?_
          refine post1 (.inl rfl) hF hW rfl (rv_tmp hF rfl) ?_
          exact ⟨congrArg Ending.returned (vbool (show (false) = spanMeets lo hi lo2 hi2 lo3 hi3 x by rw [spanMeets, if_neg c1, if_neg c2, if_neg c3, if_neg c4])), hW.frm.below⟩

def spanMoves (lo : Int) (hi : Int) (x : Int) (by_ : Int) (less : Int) : Bool := if x < (-1125899906842624) then awake2 else if 1125899906842624 < x then awake2 else if by_ < (-1125899906842624) then awake2 else if 1125899906842624 < by_ then awake2 else if less < 0 then awake2 else if by_ < less then awake2 else if (!(has (mine2_0 lo hi) (mine2_1 lo hi) x)) = true then awake2 else if (half (mine2_0 lo hi) (mine2_1 lo hi)) < (x - (mid (mine2_0 lo hi) (mine2_1 lo hi))) then false else if (half (mine2_0 lo hi) (mine2_1 lo hi)) < ((mid (mine2_0 lo hi) (mine2_1 lo hi)) - x) then false else if (!(has (mine2_0 lo hi) (mine2_1 lo hi) (mid (mine2_0 lo hi) (mine2_1 lo hi)))) = true then false else if (has (shift_0 (mine2_0 lo hi) (mine2_1 lo hi) by_) (shift_1 (mine2_0 lo hi) (mine2_1 lo hi) by_) (x + by_)) = true then if (has (widen_0 (mine2_0 lo hi) (mine2_1 lo hi) by_) (widen_1 (mine2_0 lo hi) (mine2_1 lo hi) by_) (x + less)) = true then if (has (widen_0 (mine2_0 lo hi) (mine2_1 lo hi) by_) (widen_1 (mine2_0 lo hi) (mine2_1 lo hi) by_) (x - less)) = true then if (within (mine2_0 lo hi) (mine2_1 lo hi) (widen_0 (mine2_0 lo hi) (mine2_1 lo hi) by_) (widen_1 (mine2_0 lo hi) (mine2_1 lo hi) by_)) = true then awake2 else false else false else false else false
theorem spanMoves_any (lo : Int) (hi : Int) (x : Int) (by_ : Int) (less : Int) (w : World) (hlo1 : -9223372036854775808 ≤ lo) (hlo2 : lo ≤ 9223372036854775807) (hhi1 : -9223372036854775808 ≤ hi) (hhi2 : hi ≤ 9223372036854775807) (hx1 : -9223372036854775808 ≤ x) (hx2 : x ≤ 9223372036854775807) (hby_1 : -9223372036854775808 ≤ by_) (hby_2 : by_ ≤ 9223372036854775807) (hless1 : -9223372036854775808 ≤ less) (hless2 : less ≤ 9223372036854775807) :
    Calls Try.prog 10 #[Value.agg #[Value.int IntKind.i64 lo, Value.int IntKind.i64 hi], Value.int IntKind.i64 x, Value.int IntKind.i64 by_, Value.int IntKind.i64 less] w fun e w' => e = .returned (Value.bool (spanMoves lo hi x by_ less)) ∧ Below w.heap.size w w' := by
  refine enter Try.func10 rfl Try.ntmps10 rfl (fun a hF => ?_)
  have hW := Stw.start w
  refine c_seq ?_
  refine reg_list ?_
  refine l_box (cs := [Value.int IntKind.i64 lo, Value.int IntKind.i64 hi]) hF hW rfl rfl rfl (fun b1 a w hF hW => ?_)
  refine ls hF hW rfl (y_assign hF rfl) (fun a w hF hW => ?_)
  refine ls_nil ?_
  refine c_then ?_
  refine c_seq ?_
  refine reg_list ?_
  refine ls hF hW rfl (y_load (v := Value.agg #[Value.int IntKind.i64 lo, Value.int IntKind.i64 hi]) 0 hF rfl rfl T45 rfl) (fun a w hF hW => ?_)
  refine ls hF hW rfl (y_call (v := Value.agg #[Value.int IntKind.i64 (mine2_0 lo hi), Value.int IntKind.i64 (mine2_1 lo hi)]) hF H27 rfl (fun w _ => mine2_any lo hi w )) (fun a w hF hW => ?_)
  refine l_alloc (cs := [Value.int IntKind.i64 0, Value.int IntKind.i64 0]) hF hW rfl Z46 rfl (fun b2 a w hF hW => ?_)
  refine l_store (vs := [Value.int IntKind.i64 (mine2_0 lo hi), Value.int IntKind.i64 (mine2_1 lo hi)]) (M' := [(b2, [Value.int IntKind.i64 (mine2_0 lo hi), Value.int IntKind.i64 (mine2_1 lo hi)]), (b1, [Value.int IntKind.i64 lo, Value.int IntKind.i64 hi])]) 0 hF hW rfl rfl rfl T46 rfl rfl rfl rfl rfl (fun w hW => ?_)
  refine ls_nil ?_
  refine c_then ?_
  refine c_seq ?_
  refine c_seq ?_
  refine reg_list ?_
  refine ls hF hW rfl (y_move hF rfl) (fun a w hF hW => ?_)
  refine ls hF hW rfl (y_lss hF rfl rfl) (fun a w hF hW => ?_)
  refine ls hF hW rfl (y_move hF rfl) (fun a w hF hW => ?_)
  rcases Bool.eq_false_or_eq_true (decide (x < (-1125899906842624))) with hb | hb
  ·
    have c1 := of_decide_eq_true hb
    simp only [hb] at hF
    clear hb
    refine ls_skip hF (wanted_n hF rfl rfl rfl rfl rfl) rfl rfl (fun a hF => ?_)
    refine ls_skip hF (wanted_n hF rfl rfl rfl rfl rfl) rfl rfl (fun a hF => ?_)
    refine ls hF hW rfl (y_pick_t hF rfl rfl rfl) (fun a w hF hW => ?_)
    refine ls hF hW rfl (y_move hF rfl) (fun a w hF hW => ?_)
    refine ls_skip hF (wanted_n hF rfl rfl rfl rfl rfl) rfl rfl (fun a hF => ?_)
    refine ls_skip hF (wanted_n hF rfl rfl rfl rfl rfl) rfl rfl (fun a hF => ?_)
    refine ls hF hW rfl (y_pick_t hF rfl rfl rfl) (fun a w hF hW => ?_)
    refine ls hF hW rfl (y_move hF rfl) (fun a w hF hW => ?_)
    refine ls_skip hF (wanted_n hF rfl rfl rfl rfl rfl) rfl rfl (fun a hF => ?_)
    refine ls_skip hF (wanted_n hF rfl rfl rfl rfl rfl) rfl rfl (fun a hF => ?_)
    refine ls hF hW rfl (y_pick_t hF rfl rfl rfl) (fun a w hF hW => ?_)
    refine ls hF hW rfl (y_move hF rfl) (fun a w hF hW => ?_)
    refine ls_skip hF (wanted_n hF rfl rfl rfl rfl rfl) rfl rfl (fun a hF => ?_)
    refine ls_skip hF (wanted_n hF rfl rfl rfl rfl rfl) rfl rfl (fun a hF => ?_)
    refine ls hF hW rfl (y_pick_t hF rfl rfl rfl) (fun a w hF hW => ?_)
    refine ls hF hW rfl (y_move hF rfl) (fun a w hF hW => ?_)
    refine ls_skip hF (wanted_n hF rfl rfl rfl rfl rfl) rfl rfl (fun a hF => ?_)
    refine ls_skip hF (wanted_n hF rfl rfl rfl rfl rfl) rfl rfl (fun a hF => ?_)
    refine ls_skip hF (wanted_n hF rfl rfl rfl rfl rfl) rfl rfl (fun a hF => ?_)
    refine ls hF hW rfl (y_pick_t hF rfl rfl rfl) (fun a w hF hW => ?_)
    refine ls hF hW rfl (y_move hF rfl) (fun a w hF hW => ?_)
    refine ls_skip hF (wanted_n hF rfl rfl rfl rfl rfl) rfl rfl (fun a hF => ?_)
    refine ls_skip hF (wanted_n hF rfl rfl rfl rfl rfl) rfl rfl (fun a hF => ?_)
    refine ls_skip hF (wanted_n hF rfl rfl rfl rfl rfl) rfl rfl (fun a hF => ?_)
    refine ls_skip hF (wanted_n hF rfl rfl rfl rfl rfl) rfl rfl (fun a hF => ?_)
    refine ls hF hW rfl (y_pick_t hF rfl rfl rfl) (fun a w hF hW => ?_)
    refine ls_nil ?_
    refine c_then ?_
    refine c_cond_t hF rfl ?_
    refine c_seq ?_
    refine reg_list ?_
    refine ls hF hW rfl (y_call (v := Value.bool awake2) hF H50 rfl (fun w _ => awake2_any  w )) (fun a w hF hW => ?_)
    refine ls hF hW rfl (y_assign hF rfl) (fun a w hF hW => ?_)
    refine ls_nil ?_
    refine c_then ?_
    refine wp_ret ?_
    refine r_then ?_
    refine post1 (.inl rfl) hF hW rfl (rv_tmp hF rfl) ?_
    exact ⟨congrArg Ending.returned (vbool (show (awake2) = spanMoves lo hi x by_ less by rw [spanMoves, if_pos c1])), hW.frm.below⟩
  ·
    have c1 := of_decide_eq_false hb
    simp only [hb] at hF
    clear hb
    refine ls_w hF hW (wanted_y hF rfl rfl rfl rfl) rfl (Nat.le_of_ble_eq_true rfl) (y_move hF rfl) (fun a w hF hW => ?_)
    refine ls_w hF hW (wanted_y hF rfl rfl rfl rfl) rfl (Nat.le_of_ble_eq_true rfl) (y_gtr hF rfl rfl) (fun a w hF hW => ?_)
    refine ls hF hW rfl (y_pick_f hF rfl rfl rfl) (fun a w hF hW => ?_)
    refine ls hF hW rfl (y_move hF rfl) (fun a w hF hW => ?_)
    rcases Bool.eq_false_or_eq_true (decide (1125899906842624 < x)) with hb | hb
    ·
      have c2 := of_decide_eq_true hb
      simp only [hb] at hF
      clear hb
      refine ls_skip hF (wanted_n hF rfl rfl rfl rfl rfl) rfl rfl (fun a hF => ?_)
      refine ls_skip hF (wanted_n hF rfl rfl rfl rfl rfl) rfl rfl (fun a hF => ?_)
      refine ls hF hW rfl (y_pick_t hF rfl rfl rfl) (fun a w hF hW => ?_)
      refine ls hF hW rfl (y_move hF rfl) (fun a w hF hW => ?_)
      refine ls_skip hF (wanted_n hF rfl rfl rfl rfl rfl) rfl rfl (fun a hF => ?_)
      refine ls_skip hF (wanted_n hF rfl rfl rfl rfl rfl) rfl rfl (fun a hF => ?_)
      refine ls hF hW rfl (y_pick_t hF rfl rfl rfl) (fun a w hF hW => ?_)
      refine ls hF hW rfl (y_move hF rfl) (fun a w hF hW => ?_)
      refine ls_skip hF (wanted_n hF rfl rfl rfl rfl rfl) rfl rfl (fun a hF => ?_)
      refine ls_skip hF (wanted_n hF rfl rfl rfl rfl rfl) rfl rfl (fun a hF => ?_)
      refine ls hF hW rfl (y_pick_t hF rfl rfl rfl) (fun a w hF hW => ?_)
      refine ls hF hW rfl (y_move hF rfl) (fun a w hF hW => ?_)
      refine ls_skip hF (wanted_n hF rfl rfl rfl rfl rfl) rfl rfl (fun a hF => ?_)
      refine ls_skip hF (wanted_n hF rfl rfl rfl rfl rfl) rfl rfl (fun a hF => ?_)
      refine ls_skip hF (wanted_n hF rfl rfl rfl rfl rfl) rfl rfl (fun a hF => ?_)
      refine ls hF hW rfl (y_pick_t hF rfl rfl rfl) (fun a w hF hW => ?_)
      refine ls hF hW rfl (y_move hF rfl) (fun a w hF hW => ?_)
      refine ls_skip hF (wanted_n hF rfl rfl rfl rfl rfl) rfl rfl (fun a hF => ?_)
      refine ls_skip hF (wanted_n hF rfl rfl rfl rfl rfl) rfl rfl (fun a hF => ?_)
      refine ls_skip hF (wanted_n hF rfl rfl rfl rfl rfl) rfl rfl (fun a hF => ?_)
      refine ls_skip hF (wanted_n hF rfl rfl rfl rfl rfl) rfl rfl (fun a hF => ?_)
      refine ls hF hW rfl (y_pick_t hF rfl rfl rfl) (fun a w hF hW => ?_)
      refine ls_nil ?_
      refine c_then ?_
      refine c_cond_t hF rfl ?_
      refine c_seq ?_
      refine reg_list ?_
      refine ls hF hW rfl (y_call (v := Value.bool awake2) hF H50 rfl (fun w _ => awake2_any  w )) (fun a w hF hW => ?_)
      refine ls hF hW rfl (y_assign hF rfl) (fun a w hF hW => ?_)
      refine ls_nil ?_
      refine c_then ?_
      refine wp_ret ?_
      refine r_then ?_
      refine post1 (.inl rfl) hF hW rfl (rv_tmp hF rfl) ?_
      exact ⟨congrArg Ending.returned (vbool (show (awake2) = spanMoves lo hi x by_ less by rw [spanMoves, if_neg c1, if_pos c2])), hW.frm.below⟩
    ·
      have c2 := of_decide_eq_false hb
      simp only [hb] at hF
      clear hb
      refine ls_w hF hW (wanted_y hF rfl rfl rfl rfl) rfl (Nat.le_of_ble_eq_true rfl) (y_move hF rfl) (fun a w hF hW => ?_)
      refine ls_w hF hW (wanted_y hF rfl rfl rfl rfl) rfl (Nat.le_of_ble_eq_true rfl) (y_lss hF rfl rfl) (fun a w hF hW => ?_)
      refine ls hF hW rfl (y_pick_f hF rfl rfl rfl) (fun a w hF hW => ?_)
      refine ls hF hW rfl (y_move hF rfl) (fun a w hF hW => ?_)
      rcases Bool.eq_false_or_eq_true (decide (by_ < (-1125899906842624))) with hb | hb
      ·
        have c3 := of_decide_eq_true hb
        simp only [hb] at hF
        clear hb
        refine ls_skip hF (wanted_n hF rfl rfl rfl rfl rfl) rfl rfl (fun a hF => ?_)
        refine ls_skip hF (wanted_n hF rfl rfl rfl rfl rfl) rfl rfl (fun a hF => ?_)
        refine ls hF hW rfl (y_pick_t hF rfl rfl rfl) (fun a w hF hW => ?_)
        refine ls hF hW rfl (y_move hF rfl) (fun a w hF hW => ?_)
        refine ls_skip hF (wanted_n hF rfl rfl rfl rfl rfl) rfl rfl (fun a hF => ?_)
        refine ls_skip hF (wanted_n hF rfl rfl rfl rfl rfl) rfl rfl (fun a hF => ?_)
        refine ls hF hW rfl (y_pick_t hF rfl rfl rfl) (fun a w hF hW => ?_)
        refine ls hF hW rfl (y_move hF rfl) (fun a w hF hW => ?_)
        refine ls_skip hF (wanted_n hF rfl rfl rfl rfl rfl) rfl rfl (fun a hF => ?_)
        refine ls_skip hF (wanted_n hF rfl rfl rfl rfl rfl) rfl rfl (fun a hF => ?_)
        refine ls_skip hF (wanted_n hF rfl rfl rfl rfl rfl) rfl rfl (fun a hF => ?_)
        refine ls hF hW rfl (y_pick_t hF rfl rfl rfl) (fun a w hF hW => ?_)
        refine ls hF hW rfl (y_move hF rfl) (fun a w hF hW => ?_)
        refine ls_skip hF (wanted_n hF rfl rfl rfl rfl rfl) rfl rfl (fun a hF => ?_)
        refine ls_skip hF (wanted_n hF rfl rfl rfl rfl rfl) rfl rfl (fun a hF => ?_)
        refine ls_skip hF (wanted_n hF rfl rfl rfl rfl rfl) rfl rfl (fun a hF => ?_)
        refine ls_skip hF (wanted_n hF rfl rfl rfl rfl rfl) rfl rfl (fun a hF => ?_)
        refine ls hF hW rfl (y_pick_t hF rfl rfl rfl) (fun a w hF hW => ?_)
        refine ls_nil ?_
        refine c_then ?_
        refine c_cond_t hF rfl ?_
        refine c_seq ?_
        refine reg_list ?_
        refine ls hF hW rfl (y_call (v := Value.bool awake2) hF H50 rfl (fun w _ => awake2_any  w )) (fun a w hF hW => ?_)
        refine ls hF hW rfl (y_assign hF rfl) (fun a w hF hW => ?_)
        refine ls_nil ?_
        refine c_then ?_
        refine wp_ret ?_
        refine r_then ?_
        refine post1 (.inl rfl) hF hW rfl (rv_tmp hF rfl) ?_
        exact ⟨congrArg Ending.returned (vbool (show (awake2) = spanMoves lo hi x by_ less by rw [spanMoves, if_neg c1, if_neg c2, if_pos c3])), hW.frm.below⟩
      ·
        have c3 := of_decide_eq_false hb
        simp only [hb] at hF
        clear hb
        refine ls_w hF hW (wanted_y hF rfl rfl rfl rfl) rfl (Nat.le_of_ble_eq_true rfl) (y_move hF rfl) (fun a w hF hW => ?_)
        refine ls_w hF hW (wanted_y hF rfl rfl rfl rfl) rfl (Nat.le_of_ble_eq_true rfl) (y_gtr hF rfl rfl) (fun a w hF hW => ?_)
        refine ls hF hW rfl (y_pick_f hF rfl rfl rfl) (fun a w hF hW => ?_)
        refine ls hF hW rfl (y_move hF rfl) (fun a w hF hW => ?_)
        rcases Bool.eq_false_or_eq_true (decide (1125899906842624 < by_)) with hb | hb
        ·
          have c4 := of_decide_eq_true hb
          simp only [hb] at hF
          clear hb
          refine ls_skip hF (wanted_n hF rfl rfl rfl rfl rfl) rfl rfl (fun a hF => ?_)
          refine ls_skip hF (wanted_n hF rfl rfl rfl rfl rfl) rfl rfl (fun a hF => ?_)
          refine ls hF hW rfl (y_pick_t hF rfl rfl rfl) (fun a w hF hW => ?_)
          refine ls hF hW rfl (y_move hF rfl) (fun a w hF hW => ?_)
          refine ls_skip hF (wanted_n hF rfl rfl rfl rfl rfl) rfl rfl (fun a hF => ?_)
          refine ls_skip hF (wanted_n hF rfl rfl rfl rfl rfl) rfl rfl (fun a hF => ?_)
          refine ls_skip hF (wanted_n hF rfl rfl rfl rfl rfl) rfl rfl (fun a hF => ?_)
          refine ls hF hW rfl (y_pick_t hF rfl rfl rfl) (fun a w hF hW => ?_)
          refine ls hF hW rfl (y_move hF rfl) (fun a w hF hW => ?_)
          refine ls_skip hF (wanted_n hF rfl rfl rfl rfl rfl) rfl rfl (fun a hF => ?_)
          refine ls_skip hF (wanted_n hF rfl rfl rfl rfl rfl) rfl rfl (fun a hF => ?_)
          refine ls_skip hF (wanted_n hF rfl rfl rfl rfl rfl) rfl rfl (fun a hF => ?_)
          refine ls_skip hF (wanted_n hF rfl rfl rfl rfl rfl) rfl rfl (fun a hF => ?_)
          refine ls hF hW rfl (y_pick_t hF rfl rfl rfl) (fun a w hF hW => ?_)
          refine ls_nil ?_
          refine c_then ?_
          refine c_cond_t hF rfl ?_
          refine c_seq ?_
          refine reg_list ?_
          refine ls hF hW rfl (y_call (v := Value.bool awake2) hF H50 rfl (fun w _ => awake2_any  w )) (fun a w hF hW => ?_)
          refine ls hF hW rfl (y_assign hF rfl) (fun a w hF hW => ?_)
          refine ls_nil ?_
          refine c_then ?_
          refine wp_ret ?_
          refine r_then ?_
          refine post1 (.inl rfl) hF hW rfl (rv_tmp hF rfl) ?_
          exact ⟨congrArg Ending.returned (vbool (show (awake2) = spanMoves lo hi x by_ less by rw [spanMoves, if_neg c1, if_neg c2, if_neg c3, if_pos c4])), hW.frm.below⟩
        ·
          have c4 := of_decide_eq_false hb
          simp only [hb] at hF
          clear hb
          refine ls_w hF hW (wanted_y hF rfl rfl rfl rfl) rfl (Nat.le_of_ble_eq_true rfl) (y_move hF rfl) (fun a w hF hW => ?_)
          refine ls_w hF hW (wanted_y hF rfl rfl rfl rfl) rfl (Nat.le_of_ble_eq_true rfl) (y_lss hF rfl rfl) (fun a w hF hW => ?_)
          refine ls hF hW rfl (y_pick_f hF rfl rfl rfl) (fun a w hF hW => ?_)
          refine ls hF hW rfl (y_move hF rfl) (fun a w hF hW => ?_)
          rcases Bool.eq_false_or_eq_true (decide (less < 0)) with hb | hb
          ·
            have c5 := of_decide_eq_true hb
            simp only [hb] at hF
            clear hb
            refine ls_skip hF (wanted_n hF rfl rfl rfl rfl rfl) rfl rfl (fun a hF => ?_)
            refine ls_skip hF (wanted_n hF rfl rfl rfl rfl rfl) rfl rfl (fun a hF => ?_)
            refine ls_skip hF (wanted_n hF rfl rfl rfl rfl rfl) rfl rfl (fun a hF => ?_)
            refine ls hF hW rfl (y_pick_t hF rfl rfl rfl) (fun a w hF hW => ?_)
            refine ls hF hW rfl (y_move hF rfl) (fun a w hF hW => ?_)
            refine ls_skip hF (wanted_n hF rfl rfl rfl rfl rfl) rfl rfl (fun a hF => ?_)
            refine ls_skip hF (wanted_n hF rfl rfl rfl rfl rfl) rfl rfl (fun a hF => ?_)
            refine ls_skip hF (wanted_n hF rfl rfl rfl rfl rfl) rfl rfl (fun a hF => ?_)
            refine ls_skip hF (wanted_n hF rfl rfl rfl rfl rfl) rfl rfl (fun a hF => ?_)
            refine ls hF hW rfl (y_pick_t hF rfl rfl rfl) (fun a w hF hW => ?_)
            refine ls_nil ?_
            refine c_then ?_
            refine c_cond_t hF rfl ?_
            refine c_seq ?_
            refine reg_list ?_
            refine ls hF hW rfl (y_call (v := Value.bool awake2) hF H50 rfl (fun w _ => awake2_any  w )) (fun a w hF hW => ?_)
            refine ls hF hW rfl (y_assign hF rfl) (fun a w hF hW => ?_)
            refine ls_nil ?_
            refine c_then ?_
            refine wp_ret ?_
            refine r_then ?_
            refine post1 (.inl rfl) hF hW rfl (rv_tmp hF rfl) ?_
            exact ⟨congrArg Ending.returned (vbool (show (awake2) = spanMoves lo hi x by_ less by rw [spanMoves, if_neg c1, if_neg c2, if_neg c3, if_neg c4, if_pos c5])), hW.frm.below⟩
          ·
            have c5 := of_decide_eq_false hb
            simp only [hb] at hF
            clear hb
            refine ls_w hF hW (wanted_y hF rfl rfl rfl rfl) rfl (Nat.le_of_ble_eq_true rfl) (y_move hF rfl) (fun a w hF hW => ?_)
            refine ls_w hF hW (wanted_y hF rfl rfl rfl rfl) rfl (Nat.le_of_ble_eq_true rfl) (y_move hF rfl) (fun a w hF hW => ?_)
            refine ls_w hF hW (wanted_y hF rfl rfl rfl rfl) rfl (Nat.le_of_ble_eq_true rfl) (y_gtr hF rfl rfl) (fun a w hF hW => ?_)
            refine ls hF hW rfl (y_pick_f hF rfl rfl rfl) (fun a w hF hW => ?_)
            refine ls hF hW rfl (y_move hF rfl) (fun a w hF hW => ?_)
            rcases Bool.eq_false_or_eq_true (decide (by_ < less)) with hb | hb
            ·
              have c6 := of_decide_eq_true hb
              simp only [hb] at hF
              clear hb
              refine ls_skip hF (wanted_n hF rfl rfl rfl rfl rfl) rfl rfl (fun a hF => ?_)
              refine ls_skip hF (wanted_n hF rfl rfl rfl rfl rfl) rfl rfl (fun a hF => ?_)
              refine ls_skip hF (wanted_n hF rfl rfl rfl rfl rfl) rfl rfl (fun a hF => ?_)
              refine ls_skip hF (wanted_n hF rfl rfl rfl rfl rfl) rfl rfl (fun a hF => ?_)
              refine ls hF hW rfl (y_pick_t hF rfl rfl rfl) (fun a w hF hW => ?_)
              refine ls_nil ?_
              refine c_then ?_
              refine c_cond_t hF rfl ?_
              refine c_seq ?_
              refine reg_list ?_
              refine ls hF hW rfl (y_call (v := Value.bool awake2) hF H50 rfl (fun w _ => awake2_any  w )) (fun a w hF hW => ?_)
              refine ls hF hW rfl (y_assign hF rfl) (fun a w hF hW => ?_)
              refine ls_nil ?_
              refine c_then ?_
              refine wp_ret ?_
              refine r_then ?_
              refine post1 (.inl rfl) hF hW rfl (rv_tmp hF rfl) ?_
              exact ⟨congrArg Ending.returned (vbool (show (awake2) = spanMoves lo hi x by_ less by rw [spanMoves, if_neg c1, if_neg c2, if_neg c3, if_neg c4, if_neg c5, if_pos c6])), hW.frm.below⟩
            ·
              have c6 := of_decide_eq_false hb
              simp only [hb] at hF
              clear hb
              refine ls_w hF hW (wanted_y hF rfl rfl rfl rfl) rfl (Nat.le_of_ble_eq_true rfl) (y_load (v := Value.agg #[Value.int IntKind.i64 (mine2_0 lo hi), Value.int IntKind.i64 (mine2_1 lo hi)]) 0 hF rfl rfl T46 rfl) (fun a w hF hW => ?_)
              refine ls_w hF hW (wanted_y hF rfl rfl rfl rfl) rfl (Nat.le_of_ble_eq_true rfl) (y_move hF rfl) (fun a w hF hW => ?_)
              refine ls_w hF hW (wanted_y hF rfl rfl rfl rfl) rfl (Nat.le_of_ble_eq_true rfl) (y_call (v := Value.bool (has (mine2_0 lo hi) (mine2_1 lo hi) x)) hF H39 rfl (fun w _ => has_any (mine2_0 lo hi) (mine2_1 lo hi) x w )) (fun a w hF hW => ?_)
              refine ls_w hF hW (wanted_y hF rfl rfl rfl rfl) rfl (Nat.le_of_ble_eq_true rfl) (y_not hF rfl) (fun a w hF hW => ?_)
              refine ls hF hW rfl (y_pick_f hF rfl rfl rfl) (fun a w hF hW => ?_)
              refine ls_nil ?_
              refine c_then ?_
              refine c_cond hF rfl (fun hb => ?_) (fun hb => ?_)
              ·
                have c7 := hb
                simp only [hb] at hF
                clear hb
                refine c_seq ?_
                refine reg_list ?_
                refine ls hF hW rfl (y_call (v := Value.bool awake2) hF H50 rfl (fun w _ => awake2_any  w )) (fun a w hF hW => ?_)
                refine ls hF hW rfl (y_assign hF rfl) (fun a w hF hW => ?_)
                refine ls_nil ?_
                refine c_then ?_
                refine wp_ret ?_
                refine r_then ?_
                refine post1 (.inl rfl) hF hW rfl (rv_tmp hF rfl) ?_
                exact ⟨congrArg Ending.returned (vbool (show (awake2) = spanMoves lo hi x by_ less by rw [spanMoves, if_neg c1, if_neg c2, if_neg c3, if_neg c4, if_neg c5, if_neg c6, if_pos c7])), hW.frm.below⟩
              ·
                have c7 : ¬ ((!(has (mine2_0 lo hi) (mine2_1 lo hi) x)) = true) := by rw [hb]; decide
                simp only [hb] at hF
                clear hb
                refine wp_skip ?_
                refine c_then ?_
                refine c_seq ?_
                refine reg_quiet hW MO (by kernel_rfl) ?_
                refine qs hF rfl (y_load (v := Value.agg #[Value.int IntKind.i64 (mine2_0 lo hi), Value.int IntKind.i64 (mine2_1 lo hi)]) 0 hF rfl rfl T46 rfl) (fun a hF => ?_)
                refine qs hF rfl (y_call (v := Value.int IntKind.i64 (mid (mine2_0 lo hi) (mine2_1 lo hi))) hF H44 rfl (fun w _ => mid_any (mine2_0 lo hi) (mine2_1 lo hi) w )) (fun a hF => ?_)
                have f1 := mid_bd ((mine2_0 lo hi)) ((mine2_1 lo hi))
                refine qs hF rfl (y_load (v := Value.agg #[Value.int IntKind.i64 (mine2_0 lo hi), Value.int IntKind.i64 (mine2_1 lo hi)]) 0 hF rfl rfl T46 rfl) (fun a hF => ?_)
                refine qs hF rfl (y_call (v := Value.int IntKind.i64 (half (mine2_0 lo hi) (mine2_1 lo hi))) hF H47 rfl (fun w _ => half_any (mine2_0 lo hi) (mine2_1 lo hi) w )) (fun a hF => ?_)
                refine qs hF rfl (y_assign hF rfl) (fun a hF => ?_)
                refine qs hF rfl (y_assign hF rfl) (fun a hF => ?_)
                refine quiet_end (fun w hW => ?_)
                refine c_then ?_
                refine c_seq ?_
                refine c_seq ?_
                refine reg_list ?_
                refine ls hF hW rfl (y_move hF rfl) (fun a w hF hW => ?_)
                refine ls hF hW rfl (y_move hF rfl) (fun a w hF hW => ?_)
                refine ls hF hW rfl (y_sub hF rfl rfl (r := x - (mid (mine2_0 lo hi) (mine2_1 lo hi))) (IntWalk.i64_in _ (by omega))) (fun a w hF hW => ?_)
                refine ls hF hW rfl (y_move hF rfl) (fun a w hF hW => ?_)
                refine ls hF hW rfl (y_gtr hF rfl rfl) (fun a w hF hW => ?_)
                refine ls hF hW rfl (y_move hF rfl) (fun a w hF hW => ?_)
                rcases Bool.eq_false_or_eq_true (decide ((half (mine2_0 lo hi) (mine2_1 lo hi)) < (x - (mid (mine2_0 lo hi) (mine2_1 lo hi))))) with hb | hb
                ·
                  have c8 := of_decide_eq_true hb
                  simp only [hb] at hF
                  clear hb
                  refine ls_skip hF (wanted_n hF rfl rfl rfl rfl rfl) rfl rfl (fun a hF => ?_)
                  refine ls_skip hF (wanted_n hF rfl rfl rfl rfl rfl) rfl rfl (fun a hF => ?_)
                  refine ls_skip hF (wanted_n hF rfl rfl rfl rfl rfl) rfl rfl (fun a hF => ?_)
                  refine ls_skip hF (wanted_n hF rfl rfl rfl rfl rfl) rfl rfl (fun a hF => ?_)
                  refine ls_skip hF (wanted_n hF rfl rfl rfl rfl rfl) rfl rfl (fun a hF => ?_)
                  refine ls hF hW rfl (y_pick_t hF rfl rfl rfl) (fun a w hF hW => ?_)
                  refine ls hF hW rfl (y_move hF rfl) (fun a w hF hW => ?_)
                  refine ls_skip hF (wanted_n hF rfl rfl rfl rfl rfl) rfl rfl (fun a hF => ?_)
                  refine ls_skip hF (wanted_n hF rfl rfl rfl rfl rfl) rfl rfl (fun a hF => ?_)
                  refine ls_skip hF (wanted_n hF rfl rfl rfl rfl rfl) rfl rfl (fun a hF => ?_)
                  refine ls_skip hF (wanted_n hF rfl rfl rfl rfl rfl) rfl rfl (fun a hF => ?_)
                  refine ls hF hW rfl (y_pick_t hF rfl rfl rfl) (fun a w hF hW => ?_)
                  refine ls_nil ?_
                  refine c_then ?_
                  refine c_cond_t hF rfl ?_
                  refine c_seq ?_
                  refine reg_list ?_
                  refine ls hF hW rfl (y_assign hF rfl) (fun a w hF hW => ?_)
                  refine ls_nil ?_
                  refine c_then ?_
                  refine wp_ret ?_
                  refine r_then ?_
                  refine post1 (.inl rfl) hF hW rfl (rv_tmp hF rfl) ?_
                  exact ⟨congrArg Ending.returned (vbool (show (false) = spanMoves lo hi x by_ less by rw [spanMoves, if_neg c1, if_neg c2, if_neg c3, if_neg c4, if_neg c5, if_neg c6, if_neg c7, if_pos c8])), hW.frm.below⟩
                ·
                  have c8 := of_decide_eq_false hb
                  simp only [hb] at hF
                  clear hb
                  refine ls_w hF hW (wanted_y hF rfl rfl rfl rfl) rfl (Nat.le_of_ble_eq_true rfl) (y_move hF rfl) (fun a w hF hW => ?_)
                  refine ls_w hF hW (wanted_y hF rfl rfl rfl rfl) rfl (Nat.le_of_ble_eq_true rfl) (y_move hF rfl) (fun a w hF hW => ?_)
                  refine ls_w hF hW (wanted_y hF rfl rfl rfl rfl) rfl (Nat.le_of_ble_eq_true rfl) (y_sub hF rfl rfl (r := (mid (mine2_0 lo hi) (mine2_1 lo hi)) - x) (IntWalk.i64_in _ (by omega))) (fun a w hF hW => ?_)
                  refine ls_w hF hW (wanted_y hF rfl rfl rfl rfl) rfl (Nat.le_of_ble_eq_true rfl) (y_move hF rfl) (fun a w hF hW => ?_)
                  refine ls_w hF hW (wanted_y hF rfl rfl rfl rfl) rfl (Nat.le_of_ble_eq_true rfl) (y_gtr hF rfl rfl) (fun a w hF hW => ?_)
                  refine ls hF hW rfl (y_pick_f hF rfl rfl rfl) (fun a w hF hW => ?_)
                  refine ls hF hW rfl (y_move hF rfl) (fun a w hF hW => ?_)
                  rcases Bool.eq_false_or_eq_true (decide ((half (mine2_0 lo hi) (mine2_1 lo hi)) < ((mid (mine2_0 lo hi) (mine2_1 lo hi)) - x))) with hb | hb
                  ·
                    have c9 := of_decide_eq_true hb
                    simp only [hb] at hF
                    clear hb
                    refine ls_skip hF (wanted_n hF rfl rfl rfl rfl rfl) rfl rfl (fun a hF => ?_)
                    refine ls_skip hF (wanted_n hF rfl rfl rfl rfl rfl) rfl rfl (fun a hF => ?_)
                    refine ls_skip hF (wanted_n hF rfl rfl rfl rfl rfl) rfl rfl (fun a hF => ?_)
                    refine ls_skip hF (wanted_n hF rfl rfl rfl rfl rfl) rfl rfl (fun a hF => ?_)
                    refine ls hF hW rfl (y_pick_t hF rfl rfl rfl) (fun a w hF hW => ?_)
                    refine ls_nil ?_
                    refine c_then ?_
                    refine c_cond_t hF rfl ?_
                    refine c_seq ?_
                    refine reg_list ?_
                    refine ls hF hW rfl (y_assign hF rfl) (fun a w hF hW => ?_)
                    refine ls_nil ?_
                    refine c_then ?_
                    refine wp_ret ?_
                    refine r_then ?_
                    refine post1 (.inl rfl) hF hW rfl (rv_tmp hF rfl) ?_
                    exact ⟨congrArg Ending.returned (vbool (show (false) = spanMoves lo hi x by_ less by rw [spanMoves, if_neg c1, if_neg c2, if_neg c3, if_neg c4, if_neg c5, if_neg c6, if_neg c7, if_neg c8, if_pos c9])), hW.frm.below⟩
                  ·
                    have c9 := of_decide_eq_false hb
                    simp only [hb] at hF
                    clear hb
                    refine ls_w hF hW (wanted_y hF rfl rfl rfl rfl) rfl (Nat.le_of_ble_eq_true rfl) (y_load (v := Value.agg #[Value.int IntKind.i64 (mine2_0 lo hi), Value.int IntKind.i64 (mine2_1 lo hi)]) 0 hF rfl rfl T46 rfl) (fun a w hF hW => ?_)
                    refine ls_w hF hW (wanted_y hF rfl rfl rfl rfl) rfl (Nat.le_of_ble_eq_true rfl) (y_move hF rfl) (fun a w hF hW => ?_)
                    refine ls_w hF hW (wanted_y hF rfl rfl rfl rfl) rfl (Nat.le_of_ble_eq_true rfl) (y_call (v := Value.bool (has (mine2_0 lo hi) (mine2_1 lo hi) (mid (mine2_0 lo hi) (mine2_1 lo hi)))) hF H39 rfl (fun w _ => has_any (mine2_0 lo hi) (mine2_1 lo hi) (mid (mine2_0 lo hi) (mine2_1 lo hi)) w )) (fun a w hF hW => ?_)
                    refine ls_w hF hW (wanted_y hF rfl rfl rfl rfl) rfl (Nat.le_of_ble_eq_true rfl) (y_not hF rfl) (fun a w hF hW => ?_)
                    refine ls hF hW rfl (y_pick_f hF rfl rfl rfl) (fun a w hF hW => ?_)
                    refine ls_nil ?_
                    refine c_then ?_
                    refine c_cond hF rfl (fun hb => ?_) (fun hb => ?_)
                    ·
                      have c10 := hb
                      simp only [hb] at hF
                      clear hb
                      refine c_seq ?_
                      refine reg_list ?_
                      refine ls hF hW rfl (y_assign hF rfl) (fun a w hF hW => ?_)
                      refine ls_nil ?_
                      refine c_then ?_
                      refine wp_ret ?_
                      refine r_then ?_
                      refine post1 (.inl rfl) hF hW rfl (rv_tmp hF rfl) ?_
                      exact ⟨congrArg Ending.returned (vbool (show (false) = spanMoves lo hi x by_ less by rw [spanMoves, if_neg c1, if_neg c2, if_neg c3, if_neg c4, if_neg c5, if_neg c6, if_neg c7, if_neg c8, if_neg c9, if_pos c10])), hW.frm.below⟩
                    ·
                      have c10 : ¬ ((!(has (mine2_0 lo hi) (mine2_1 lo hi) (mid (mine2_0 lo hi) (mine2_1 lo hi)))) = true) := by rw [hb]; decide
                      simp only [hb] at hF
                      clear hb
                      refine wp_skip ?_
                      refine c_then ?_
                      refine c_seq ?_
                      refine reg_list ?_
                      refine ls hF hW rfl (y_load (v := Value.agg #[Value.int IntKind.i64 (mine2_0 lo hi), Value.int IntKind.i64 (mine2_1 lo hi)]) 0 hF rfl rfl T46 rfl) (fun a w hF hW => ?_)
                      refine ls hF hW rfl (y_move hF rfl) (fun a w hF hW => ?_)
                      refine ls hF hW rfl (y_call (v := Value.agg #[Value.int IntKind.i64 (widen_0 (mine2_0 lo hi) (mine2_1 lo hi) by_), Value.int IntKind.i64 (widen_1 (mine2_0 lo hi) (mine2_1 lo hi) by_)]) hF H37 rfl (fun w _ => widen_any (mine2_0 lo hi) (mine2_1 lo hi) by_ w )) (fun a w hF hW => ?_)
                      refine l_alloc (cs := [Value.int IntKind.i64 0, Value.int IntKind.i64 0]) hF hW rfl Z46 rfl (fun b3 a w hF hW => ?_)
                      refine l_store (vs := [Value.int IntKind.i64 (widen_0 (mine2_0 lo hi) (mine2_1 lo hi) by_), Value.int IntKind.i64 (widen_1 (mine2_0 lo hi) (mine2_1 lo hi) by_)]) (M' := [(b3, [Value.int IntKind.i64 (widen_0 (mine2_0 lo hi) (mine2_1 lo hi) by_), Value.int IntKind.i64 (widen_1 (mine2_0 lo hi) (mine2_1 lo hi) by_)]), (b2, [Value.int IntKind.i64 (mine2_0 lo hi), Value.int IntKind.i64 (mine2_1 lo hi)]), (b1, [Value.int IntKind.i64 lo, Value.int IntKind.i64 hi])]) 0 hF hW rfl rfl rfl T46 rfl rfl rfl rfl rfl (fun w hW => ?_)
                      refine ls_nil ?_
                      refine c_then ?_
                      refine c_seq ?_
                      refine reg_list ?_
                      refine ls hF hW rfl (y_load (v := Value.agg #[Value.int IntKind.i64 (mine2_0 lo hi), Value.int IntKind.i64 (mine2_1 lo hi)]) 1 hF rfl rfl T46 rfl) (fun a w hF hW => ?_)
                      refine ls hF hW rfl (y_move hF rfl) (fun a w hF hW => ?_)
                      refine ls hF hW rfl (y_call (v := Value.agg #[Value.int IntKind.i64 (shift_0 (mine2_0 lo hi) (mine2_1 lo hi) by_), Value.int IntKind.i64 (shift_1 (mine2_0 lo hi) (mine2_1 lo hi) by_)]) hF H35 rfl (fun w _ => shift_any (mine2_0 lo hi) (mine2_1 lo hi) by_ w )) (fun a w hF hW => ?_)
                      refine ls hF hW rfl (y_move hF rfl) (fun a w hF hW => ?_)
                      refine ls hF hW rfl (y_move hF rfl) (fun a w hF hW => ?_)
                      refine ls hF hW rfl (y_add hF rfl rfl (r := x + by_) (IntWalk.i64_in _ (by omega))) (fun a w hF hW => ?_)
                      refine ls hF hW rfl (y_call (v := Value.bool (has (shift_0 (mine2_0 lo hi) (mine2_1 lo hi) by_) (shift_1 (mine2_0 lo hi) (mine2_1 lo hi) by_) (x + by_))) hF H39 rfl (fun w _ => has_any (shift_0 (mine2_0 lo hi) (mine2_1 lo hi) by_) (shift_1 (mine2_0 lo hi) (mine2_1 lo hi) by_) (x + by_) w )) (fun a w hF hW => ?_)
                      refine ls hF hW rfl (y_move hF rfl) (fun a w hF hW => ?_)
                      rcases Bool.eq_false_or_eq_true (has (shift_0 (mine2_0 lo hi) (mine2_1 lo hi) by_) (shift_1 (mine2_0 lo hi) (mine2_1 lo hi) by_) (x + by_)) with hb | hb
                      ·
                        have c11 := hb
                        simp only [hb] at hF
                        clear hb
                        refine ls_w hF hW (wanted_y hF rfl rfl rfl rfl) rfl (Nat.le_of_ble_eq_true rfl) (y_load (v := Value.agg #[Value.int IntKind.i64 (widen_0 (mine2_0 lo hi) (mine2_1 lo hi) by_), Value.int IntKind.i64 (widen_1 (mine2_0 lo hi) (mine2_1 lo hi) by_)]) 0 hF rfl rfl T46 rfl) (fun a w hF hW => ?_)
                        refine ls_w hF hW (wanted_y hF rfl rfl rfl rfl) rfl (Nat.le_of_ble_eq_true rfl) (y_move hF rfl) (fun a w hF hW => ?_)
                        refine ls_w hF hW (wanted_y hF rfl rfl rfl rfl) rfl (Nat.le_of_ble_eq_true rfl) (y_move hF rfl) (fun a w hF hW => ?_)
                        refine ls_w hF hW (wanted_y hF rfl rfl rfl rfl) rfl (Nat.le_of_ble_eq_true rfl) (y_add hF rfl rfl (r := x + less) (IntWalk.i64_in _ (by omega))) (fun a w hF hW => ?_)
                        refine ls_w hF hW (wanted_y hF rfl rfl rfl rfl) rfl (Nat.le_of_ble_eq_true rfl) (y_call (v := Value.bool (has (widen_0 (mine2_0 lo hi) (mine2_1 lo hi) by_) (widen_1 (mine2_0 lo hi) (mine2_1 lo hi) by_) (x + less))) hF H39 rfl (fun w _ => has_any (widen_0 (mine2_0 lo hi) (mine2_1 lo hi) by_) (widen_1 (mine2_0 lo hi) (mine2_1 lo hi) by_) (x + less) w )) (fun a w hF hW => ?_)
                        refine ls hF hW rfl (y_pick_t hF rfl rfl rfl) (fun a w hF hW => ?_)
                        refine ls hF hW rfl (y_move hF rfl) (fun a w hF hW => ?_)
                        rcases Bool.eq_false_or_eq_true (has (widen_0 (mine2_0 lo hi) (mine2_1 lo hi) by_) (widen_1 (mine2_0 lo hi) (mine2_1 lo hi) by_) (x + less)) with hb | hb
                        ·
                          have c12 := hb
                          simp only [hb] at hF
                          clear hb
                          refine ls_w hF hW (wanted_y hF rfl rfl rfl rfl) rfl (Nat.le_of_ble_eq_true rfl) (y_load (v := Value.agg #[Value.int IntKind.i64 (widen_0 (mine2_0 lo hi) (mine2_1 lo hi) by_), Value.int IntKind.i64 (widen_1 (mine2_0 lo hi) (mine2_1 lo hi) by_)]) 0 hF rfl rfl T46 rfl) (fun a w hF hW => ?_)
                          refine ls_w hF hW (wanted_y hF rfl rfl rfl rfl) rfl (Nat.le_of_ble_eq_true rfl) (y_move hF rfl) (fun a w hF hW => ?_)
                          refine ls_w hF hW (wanted_y hF rfl rfl rfl rfl) rfl (Nat.le_of_ble_eq_true rfl) (y_move hF rfl) (fun a w hF hW => ?_)
                          refine ls_w hF hW (wanted_y hF rfl rfl rfl rfl) rfl (Nat.le_of_ble_eq_true rfl) (y_sub hF rfl rfl (r := x - less) (IntWalk.i64_in _ (by omega))) (fun a w hF hW => ?_)
                          refine ls_w hF hW (wanted_y hF rfl rfl rfl rfl) rfl (Nat.le_of_ble_eq_true rfl) (y_call (v := Value.bool (has (widen_0 (mine2_0 lo hi) (mine2_1 lo hi) by_) (widen_1 (mine2_0 lo hi) (mine2_1 lo hi) by_) (x - less))) hF H39 rfl (fun w _ => has_any (widen_0 (mine2_0 lo hi) (mine2_1 lo hi) by_) (widen_1 (mine2_0 lo hi) (mine2_1 lo hi) by_) (x - less) w )) (fun a w hF hW => ?_)
                          refine ls hF hW rfl (y_pick_t hF rfl rfl rfl) (fun a w hF hW => ?_)
                          refine ls hF hW rfl (y_move hF rfl) (fun a w hF hW => ?_)
                          rcases Bool.eq_false_or_eq_true (has (widen_0 (mine2_0 lo hi) (mine2_1 lo hi) by_) (widen_1 (mine2_0 lo hi) (mine2_1 lo hi) by_) (x - less)) with hb | hb
                          ·
                            have c13 := hb
                            simp only [hb] at hF
                            clear hb
                            refine ls_w hF hW (wanted_y hF rfl rfl rfl rfl) rfl (Nat.le_of_ble_eq_true rfl) (y_load (v := Value.agg #[Value.int IntKind.i64 (mine2_0 lo hi), Value.int IntKind.i64 (mine2_1 lo hi)]) 1 hF rfl rfl T46 rfl) (fun a w hF hW => ?_)
                            refine ls_w hF hW (wanted_y hF rfl rfl rfl rfl) rfl (Nat.le_of_ble_eq_true rfl) (y_load (v := Value.agg #[Value.int IntKind.i64 (widen_0 (mine2_0 lo hi) (mine2_1 lo hi) by_), Value.int IntKind.i64 (widen_1 (mine2_0 lo hi) (mine2_1 lo hi) by_)]) 0 hF rfl rfl T46 rfl) (fun a w hF hW => ?_)
                            refine ls_w hF hW (wanted_y hF rfl rfl rfl rfl) rfl (Nat.le_of_ble_eq_true rfl) (y_call (v := Value.bool (within (mine2_0 lo hi) (mine2_1 lo hi) (widen_0 (mine2_0 lo hi) (mine2_1 lo hi) by_) (widen_1 (mine2_0 lo hi) (mine2_1 lo hi) by_))) hF H43 rfl (fun w _ => within_any (mine2_0 lo hi) (mine2_1 lo hi) (widen_0 (mine2_0 lo hi) (mine2_1 lo hi) by_) (widen_1 (mine2_0 lo hi) (mine2_1 lo hi) by_) w )) (fun a w hF hW => ?_)
                            refine ls hF hW rfl (y_pick_t hF rfl rfl rfl) (fun a w hF hW => ?_)
                            refine ls hF hW rfl (y_move hF rfl) (fun a w hF hW => ?_)
                            rcases Bool.eq_false_or_eq_true (within (mine2_0 lo hi) (mine2_1 lo hi) (widen_0 (mine2_0 lo hi) (mine2_1 lo hi) by_) (widen_1 (mine2_0 lo hi) (mine2_1 lo hi) by_)) with hb | hb
                            ·
                              have c14 := hb
                              simp only [hb] at hF
                              clear hb
                              refine ls_w hF hW (wanted_y hF rfl rfl rfl rfl) rfl (Nat.le_of_ble_eq_true rfl) (y_call (v := Value.bool awake2) hF H50 rfl (fun w _ => awake2_any  w )) (fun a w hF hW => ?_)
                              refine ls hF hW rfl (y_pick_t hF rfl rfl rfl) (fun a w hF hW => ?_)
                              refine ls hF hW rfl (y_assign hF rfl) (fun a w hF hW => ?_)
                              refine ls_nil ?_
                              refine c_then ?_
                              refine wp_ret ?_
                              refine post1 (.inl rfl) hF hW rfl (rv_tmp hF rfl) ?_
                              exact ⟨congrArg Ending.returned (vbool (show (awake2) = spanMoves lo hi x by_ less by rw [spanMoves, if_neg c1, if_neg c2, if_neg c3, if_neg c4, if_neg c5, if_neg c6, if_neg c7, if_neg c8, if_neg c9, if_neg c10, if_pos c11, if_pos c12, if_pos c13, if_pos c14])), hW.frm.below⟩
                            ·
                              have c14 : ¬ ((within (mine2_0 lo hi) (mine2_1 lo hi) (widen_0 (mine2_0 lo hi) (mine2_1 lo hi) by_) (widen_1 (mine2_0 lo hi) (mine2_1 lo hi) by_)) = true) := by rw [hb]; decide
                              simp only [hb] at hF
                              clear hb
                              refine ls_skip hF (wanted_n hF rfl rfl rfl rfl rfl) rfl rfl (fun a hF => ?_)
                              refine ls hF hW rfl (y_pick_f hF rfl rfl rfl) (fun a w hF hW => ?_)
                              refine ls hF hW rfl (y_assign hF rfl) (fun a w hF hW => ?_)
                              refine ls_nil ?_
                              refine c_then ?_
                              refine wp_ret ?_
                              refine post1 (.inl rfl) hF hW rfl (rv_tmp hF rfl) ?_
                              exact ⟨congrArg Ending.returned (vbool (show (false) = spanMoves lo hi x by_ less by rw [spanMoves, if_neg c1, if_neg c2, if_neg c3, if_neg c4, if_neg c5, if_neg c6, if_neg c7, if_neg c8, if_neg c9, if_neg c10, if_pos c11, if_pos c12, if_pos c13, if_neg c14])), hW.frm.below⟩
                          ·
                            have c13 : ¬ ((has (widen_0 (mine2_0 lo hi) (mine2_1 lo hi) by_) (widen_1 (mine2_0 lo hi) (mine2_1 lo hi) by_) (x - less)) = true) := by rw [hb]; decide
                            simp only [hb] at hF
                            clear hb
                            refine ls_skip hF (wanted_n hF rfl rfl rfl rfl rfl) rfl rfl (fun a hF => ?_)
                            refine ls_skip hF (wanted_n hF rfl rfl rfl rfl rfl) rfl rfl (fun a hF => ?_)
                            refine ls_skip hF (wanted_n hF rfl rfl rfl rfl rfl) rfl rfl (fun a hF => ?_)
                            refine ls hF hW rfl (y_pick_f hF rfl rfl rfl) (fun a w hF hW => ?_)
                            refine ls hF hW rfl (y_move hF rfl) (fun a w hF hW => ?_)
                            refine ls_skip hF (wanted_n hF rfl rfl rfl rfl rfl) rfl rfl (fun a hF => ?_)
                            refine ls hF hW rfl (y_pick_f hF rfl rfl rfl) (fun a w hF hW => ?_)
                            refine ls hF hW rfl (y_assign hF rfl) (fun a w hF hW => ?_)
                            refine ls_nil ?_
                            refine c_then ?_
                            refine wp_ret ?_
                            refine post1 (.inl rfl) hF hW rfl (rv_tmp hF rfl) ?_
                            exact ⟨congrArg Ending.returned (vbool (show (false) = spanMoves lo hi x by_ less by rw [spanMoves, if_neg c1, if_neg c2, if_neg c3, if_neg c4, if_neg c5, if_neg c6, if_neg c7, if_neg c8, if_neg c9, if_neg c10, if_pos c11, if_pos c12, if_neg c13])), hW.frm.below⟩
                        ·
                          have c12 : ¬ ((has (widen_0 (mine2_0 lo hi) (mine2_1 lo hi) by_) (widen_1 (mine2_0 lo hi) (mine2_1 lo hi) by_) (x + less)) = true) := by rw [hb]; decide
                          simp only [hb] at hF
                          clear hb
                          refine ls_skip hF (wanted_n hF rfl rfl rfl rfl rfl) rfl rfl (fun a hF => ?_)
                          refine ls_skip hF (wanted_n hF rfl rfl rfl rfl rfl) rfl rfl (fun a hF => ?_)
                          refine ls_skip hF (wanted_n hF rfl rfl rfl rfl rfl) rfl rfl (fun a hF => ?_)
                          refine ls_skip hF (wanted_n hF rfl rfl rfl rfl rfl) rfl rfl (fun a hF => ?_)
                          refine ls_skip hF (wanted_n hF rfl rfl rfl rfl rfl) rfl rfl (fun a hF => ?_)
                          refine ls hF hW rfl (y_pick_f hF rfl rfl rfl) (fun a w hF hW => ?_)
                          refine ls hF hW rfl (y_move hF rfl) (fun a w hF hW => ?_)
                          refine ls_skip hF (wanted_n hF rfl rfl rfl rfl rfl) rfl rfl (fun a hF => ?_)
                          refine ls_skip hF (wanted_n hF rfl rfl rfl rfl rfl) rfl rfl (fun a hF => ?_)
                          refine ls_skip hF (wanted_n hF rfl rfl rfl rfl rfl) rfl rfl (fun a hF => ?_)
                          refine ls hF hW rfl (y_pick_f hF rfl rfl rfl) (fun a w hF hW => ?_)
                          refine ls hF hW rfl (y_move hF rfl) (fun a w hF hW => ?_)
                          refine ls_skip hF (wanted_n hF rfl rfl rfl rfl rfl) rfl rfl (fun a hF => ?_)
                          refine ls hF hW rfl (y_pick_f hF rfl rfl rfl) (fun a w hF hW => ?_)
                          refine ls hF hW rfl (y_assign hF rfl) (fun a w hF hW => ?_)
                          refine ls_nil ?_
                          refine c_then ?_
                          refine wp_ret ?_
                          refine post1 (.inl rfl) hF hW rfl (rv_tmp hF rfl) ?_
                          exact ⟨congrArg Ending.returned (vbool (show (false) = spanMoves lo hi x by_ less by rw [spanMoves, if_neg c1, if_neg c2, if_neg c3, if_neg c4, if_neg c5, if_neg c6, if_neg c7, if_neg c8, if_neg c9, if_neg c10, if_pos c11, if_neg c12])), hW.frm.below⟩
                      ·
                        have c11 : ¬ ((has (shift_0 (mine2_0 lo hi) (mine2_1 lo hi) by_) (shift_1 (mine2_0 lo hi) (mine2_1 lo hi) by_) (x + by_)) = true) := by rw [hb]; decide
                        simp only [hb] at hF
                        clear hb
                        refine ls_skip hF (wanted_n hF rfl rfl rfl rfl rfl) rfl rfl (fun a hF => ?_)
                        refine ls_skip hF (wanted_n hF rfl rfl rfl rfl rfl) rfl rfl (fun a hF => ?_)
                        refine ls_skip hF (wanted_n hF rfl rfl rfl rfl rfl) rfl rfl (fun a hF => ?_)
                        refine ls_skip hF (wanted_n hF rfl rfl rfl rfl rfl) rfl rfl (fun a hF => ?_)
                        refine ls_skip hF (wanted_n hF rfl rfl rfl rfl rfl) rfl rfl (fun a hF => ?_)
                        refine ls hF hW rfl (y_pick_f hF rfl rfl rfl) (fun a w hF hW => ?_)
                        refine ls hF hW rfl (y_move hF rfl) (fun a w hF hW => ?_)
                        refine ls_skip hF (wanted_n hF rfl rfl rfl rfl rfl) rfl rfl (fun a hF => ?_)
                        refine ls_skip hF (wanted_n hF rfl rfl rfl rfl rfl) rfl rfl (fun a hF => ?_)
                        refine ls_skip hF (wanted_n hF rfl rfl rfl rfl rfl) rfl rfl (fun a hF => ?_)
                        refine ls_skip hF (wanted_n hF rfl rfl rfl rfl rfl) rfl rfl (fun a hF => ?_)
                        refine ls_skip hF (wanted_n hF rfl rfl rfl rfl rfl) rfl rfl (fun a hF => ?_)
                        refine ls hF hW rfl (y_pick_f hF rfl rfl rfl) (fun a w hF hW => ?_)
                        refine ls hF hW rfl (y_move hF rfl) (fun a w hF hW => ?_)
                        refine ls_skip hF (wanted_n hF rfl rfl rfl rfl rfl) rfl rfl (fun a hF => ?_)
                        refine ls_skip hF (wanted_n hF rfl rfl rfl rfl rfl) rfl rfl (fun a hF => ?_)
                        refine ls_skip hF (wanted_n hF rfl rfl rfl rfl rfl) rfl rfl (fun a hF => ?_)
                        refine ls hF hW rfl (y_pick_f hF rfl rfl rfl) (fun a w hF hW => ?_)
                        refine ls hF hW rfl (y_move hF rfl) (fun a w hF hW => ?_)
                        refine ls_skip hF (wanted_n hF rfl rfl rfl rfl rfl) rfl rfl (fun a hF => ?_)
                        refine ls hF hW rfl (y_pick_f hF rfl rfl rfl) (fun a w hF hW => ?_)
                        refine ls hF hW rfl (y_assign hF rfl) (fun a w hF hW => ?_)
                        refine ls_nil ?_
                        refine c_then ?_
                        refine wp_ret ?_
                        refine post1 (.inl rfl) hF hW rfl (rv_tmp hF rfl) ?_
                        exact ⟨congrArg Ending.returned (vbool (show (false) = spanMoves lo hi x by_ less by rw [spanMoves, if_neg c1, if_neg c2, if_neg c3, if_neg c4, if_neg c5, if_neg c6, if_neg c7, if_neg c8, if_neg c9, if_neg c10, if_neg c11])), hW.frm.below⟩

end Go.Proofs.Ytcnhmbjkippnnaa
