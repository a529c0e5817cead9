/- The walks of layer 2. -/
import Derived.Test.YtcnhmbjkippnnaaRows
import Derived.Test.YtcnhmbjkippnnaaO5
namespace Go.Proofs.Ytcnhmbjkippnnaa
open Go Go.RowKit
set_option linter.unusedVariables false
theorem MO : Try.prog.follows .mixedOrders = true := by kernel_rfl
theorem T3 : Ty Try.prog 3 false 1 := ⟨by kernel_rfl, by kernel_rfl⟩
theorem T45 : Ty Try.prog 45 true 2 := ⟨by kernel_rfl, by kernel_rfl⟩
theorem T46 : Ty Try.prog 46 true 2 := ⟨by kernel_rfl, by kernel_rfl⟩
theorem H27 : Has Try.prog 27 := ⟨fun args w => run_callFunc_body Try.func27 rfl (by decide) args w⟩
theorem H28 : Has Try.prog 28 := ⟨fun args w => run_callFunc_body Try.func28 rfl (by decide) args w⟩
theorem H29 : Has Try.prog 29 := ⟨fun args w => run_callFunc_body Try.func29 rfl (by decide) args w⟩
theorem H30 : Has Try.prog 30 := ⟨fun args w => run_callFunc_body Try.func30 rfl (by decide) args w⟩
theorem H31 : Has Try.prog 31 := ⟨fun args w => run_callFunc_body Try.func31 rfl (by decide) args w⟩
theorem H32 : Has Try.prog 32 := ⟨fun args w => run_callFunc_body Try.func32 rfl (by decide) args w⟩
theorem H33 : Has Try.prog 33 := ⟨fun args w => run_callFunc_body Try.func33 rfl (by decide) args w⟩
theorem H34 : Has Try.prog 34 := ⟨fun args w => run_callFunc_body Try.func34 rfl (by decide) args w⟩
theorem H35 : Has Try.prog 35 := ⟨fun args w => run_callFunc_body Try.func35 rfl (by decide) args w⟩
theorem H36 : Has Try.prog 36 := ⟨fun args w => run_callFunc_body Try.func36 rfl (by decide) args w⟩
theorem H37 : Has Try.prog 37 := ⟨fun args w => run_callFunc_body Try.func37 rfl (by decide) args w⟩
theorem H38 : Has Try.prog 38 := ⟨fun args w => run_callFunc_body Try.func38 rfl (by decide) args w⟩
theorem H39 : Has Try.prog 39 := ⟨fun args w => run_callFunc_body Try.func39 rfl (by decide) args w⟩
theorem H40 : Has Try.prog 40 := ⟨fun args w => run_callFunc_body Try.func40 rfl (by decide) args w⟩
theorem H41 : Has Try.prog 41 := ⟨fun args w => run_callFunc_body Try.func41 rfl (by decide) args w⟩
theorem H42 : Has Try.prog 42 := ⟨fun args w => run_callFunc_body Try.func42 rfl (by decide) args w⟩
theorem H43 : Has Try.prog 43 := ⟨fun args w => run_callFunc_body Try.func43 rfl (by decide) args w⟩
theorem H44 : Has Try.prog 44 := ⟨fun args w => run_callFunc_body Try.func44 rfl (by decide) args w⟩
theorem H45 : Has Try.prog 45 := ⟨fun args w => run_callFunc_body Try.func45 rfl (by decide) args w⟩
theorem H46 : Has Try.prog 46 := ⟨fun args w => run_callFunc_body Try.func46 rfl (by decide) args w⟩
theorem H47 : Has Try.prog 47 := ⟨fun args w => run_callFunc_body Try.func47 rfl (by decide) args w⟩
theorem H48 : Has Try.prog 48 := ⟨fun args w => run_callFunc_body Try.func48 rfl (by decide) args w⟩
theorem H49 : Has Try.prog 49 := ⟨fun args w => run_callFunc_body Try.func49 rfl (by decide) args w⟩
theorem H50 : Has Try.prog 50 := ⟨fun args w => run_callFunc_body Try.func50 rfl (by decide) args w⟩
theorem H68 : Has Try.prog 68 := ⟨fun args w => run_callFunc_body Try.func68 rfl (by decide) args w⟩
theorem H69 : Has Try.prog 69 := ⟨fun args w => run_callFunc_body Try.func69 rfl (by decide) args w⟩
theorem H70 : Has Try.prog 70 := ⟨fun args w => run_callFunc_body Try.func70 rfl (by decide) args w⟩
theorem Z45 : (Try.prog.info? 45).bind (·.zero) = some (Value.agg #[Value.int IntKind.i64 0, Value.int IntKind.i64 0]) := by kernel_rfl
theorem Z46 : (Try.prog.info? 46).bind (·.zero) = some (Value.agg #[Value.int IntKind.i64 0, Value.int IntKind.i64 0]) := by kernel_rfl
theorem B45 : Bt Try.prog 45 [Value.int IntKind.i64 0, Value.int IntKind.i64 0] [(0, 1), (1, 1)] := ⟨⟨Value.agg #[Value.int IntKind.i64 0, Value.int IntKind.i64 0], by kernel_rfl, rfl⟩, ⟨_, Try.underlying45, fun w => by kernel_rfl⟩⟩
theorem B46 : Bt Try.prog 46 [Value.int IntKind.i64 0, Value.int IntKind.i64 0] [(0, 1), (1, 1)] := ⟨⟨Value.agg #[Value.int IntKind.i64 0, Value.int IntKind.i64 0], by kernel_rfl, rfl⟩, ⟨_, Try.underlying46, fun w => by kernel_rfl⟩⟩
theorem G45 : Try.prog.eqGuardType Try.prog.depth 45 = false := by kernel_rfl
theorem E45 (x0 : Int) (x1 : Int) (y0 : Int) (y1 : Int) (w : World) : (Op.equalIn 10000 45 (.agg #[.int .i64 x0, .int .i64 x1]) (.agg #[.int .i64 y0, .int .i64 y1])).run Try.prog w = .ok (decide (x0 = y0 ∧ x1 = y1)) w :=
  eq_struct (d := 9999) (rs := [decide (x0 = y0), decide (x1 = y1)]) Try.underlying45 (by kernel_rfl) ⟨rfl, fld_int (d := 9998) rfl rfl Try.underlying3 T3 rfl rfl, rfl, fld_int (d := 9998) rfl rfl Try.underlying3 T3 rfl rfl, trivial⟩ (by simp) w
theorem G46 : Try.prog.eqGuardType Try.prog.depth 46 = false := by kernel_rfl
theorem E46 (x0 : Int) (x1 : Int) (y0 : Int) (y1 : Int) (w : World) : (Op.equalIn 10000 46 (.agg #[.int .i64 x0, .int .i64 x1]) (.agg #[.int .i64 y0, .int .i64 y1])).run Try.prog w = .ok (decide (x0 = y0 ∧ x1 = y1)) w :=
  eq_struct (d := 9999) (rs := [decide (x0 = y0), decide (x1 = y1)]) Try.underlying46 (by kernel_rfl) ⟨rfl, fld_int (d := 9998) rfl rfl Try.underlying3 T3 rfl rfl, rfl, fld_int (d := 9998) rfl rfl Try.underlying3 T3 rfl rfl, trivial⟩ (by simp) w

def lim (n : Int) : Int := min (max n (-4503599627370496)) 4503599627370496
theorem lim_any (n : Int) (w : World)  :
    Calls Try.prog 68 #[Value.int IntKind.i64 n] w fun e w' => e = .returned (Value.int IntKind.i64 (lim n)) ∧ Below w.heap.size w w' := by
  refine enter Try.func68 rfl Try.ntmps68 rfl (fun a hF => ?_)
  have hW := Stw.start w
  refine c_seq ?_
  refine reg_list ?_
  refine ls hF hW rfl (y_assign hF rfl) (fun a w hF hW => ?_)
  refine ls_nil ?_
  refine c_then ?_
  refine c_seq ?_
  refine reg_list ?_
  refine ls hF hW rfl (y_move hF rfl) (fun a w hF hW => ?_)
  refine ls hF hW rfl (y_max hF rfl rfl) (fun a w hF hW => ?_)
  refine ls hF hW rfl (y_min hF rfl rfl) (fun a w hF hW => ?_)
  refine ls hF hW rfl (y_assign hF rfl) (fun a w hF hW => ?_)
  refine ls_nil ?_
  refine c_then ?_
  refine wp_ret ?_
  refine post1 (.inl rfl) hF hW rfl (rv_tmp hF rfl) ?_
  exact ⟨congrArg Ending.returned (vint (show (min (max n (-4503599627370496)) 4503599627370496) = lim n by rw [lim])), hW.frm.below⟩

theorem lim_bd (n : Int) : -4503599627370496 ≤ lim n ∧ lim n ≤ 4503599627370496 := by unfold lim; omega
theorem nothing_any  (w : World)  :
    Calls Try.prog 49 #[] w fun e w' => e = .returned (Value.agg #[Value.int IntKind.i64 1, Value.int IntKind.i64 0]) ∧ Below w.heap.size w w' := by
  refine enter Try.func49 rfl Try.ntmps49 rfl (fun a hF => ?_)
  have hW := Stw.start w
  refine c_seq ?_
  refine reg_list ?_
  refine l_alloc (cs := [Value.int IntKind.i64 0, Value.int IntKind.i64 0]) hF hW rfl Z46 rfl (fun b1 a w hF hW => ?_)
  refine ls_nil ?_
  refine c_then ?_
  refine c_seq ?_
  refine reg_list ?_
  refine ls hF hW rfl (y_build (v := Value.agg #[Value.int IntKind.i64 1, Value.int IntKind.i64 0]) B46 hF rfl rfl rfl) (fun a w hF hW => ?_)
  refine l_store (vs := [Value.int IntKind.i64 1, Value.int IntKind.i64 0]) (M' := [(b1, [Value.int IntKind.i64 1, Value.int IntKind.i64 0])]) 0 hF hW rfl rfl rfl T46 rfl rfl rfl rfl rfl (fun w hW => ?_)
  refine ls_nil ?_
  refine c_then ?_
  refine wp_ret ?_
  refine post1 (.inl rfl) hF hW rfl (rv_cell (v := Value.agg #[Value.int IntKind.i64 1, Value.int IntKind.i64 0]) 0 hF rfl rfl T46 rfl) ?_
  exact ⟨congrArg Ending.returned rfl, hW.frm.below⟩

def cl_0 (lo : Int) (hi : Int) : Int := if (lim hi) < (lim lo) then 1 else lim lo
def cl_1 (lo : Int) (hi : Int) : Int := if (lim hi) < (lim lo) then 0 else lim hi
theorem cl_any (lo : Int) (hi : Int) (w : World)  :
    Calls Try.prog 29 #[Value.agg #[Value.int IntKind.i64 lo, Value.int IntKind.i64 hi]] w fun e w' => e = .returned (Value.agg #[Value.int IntKind.i64 (cl_0 lo hi), Value.int IntKind.i64 (cl_1 lo hi)]) ∧ Below w.heap.size w w' := by
  refine enter Try.func29 rfl Try.ntmps29 rfl (fun a hF => ?_)
  have hW := Stw.start w
  refine c_seq ?_
  refine reg_list ?_
  refine l_box (cs := [Value.int IntKind.i64 lo, Value.int IntKind.i64 hi]) hF hW rfl rfl rfl (fun b1 a w hF hW => ?_)
  refine l_alloc (cs := [Value.int IntKind.i64 0, Value.int IntKind.i64 0]) hF hW rfl Z46 rfl (fun b2 a w hF hW => ?_)
  refine ls_nil ?_
  refine c_then ?_
  refine c_seq ?_
  refine reg_tail 7 hW MO (by kernel_rfl) ?_
  refine qs hF rfl (y_fieldAddr Try.underlying46 rfl rfl rfl T3 hF rfl 0 rfl) (fun a hF => ?_)
  refine qs hF rfl (y_load (v := Value.int IntKind.i64 lo) 1 hF rfl rfl T3 rfl) (fun a hF => ?_)
  refine qs hF rfl (y_call (v := Value.int IntKind.i64 (lim lo)) hF H68 rfl (fun w _ => lim_any lo w )) (fun a hF => ?_)
  have f1 := lim_bd (lo)
  refine qs hF rfl (y_fieldAddr Try.underlying46 rfl rfl rfl T3 hF rfl 1 rfl) (fun a hF => ?_)
  refine qs hF rfl (y_load (v := Value.int IntKind.i64 hi) 1 hF rfl rfl T3 rfl) (fun a hF => ?_)
  refine qs hF rfl (y_call (v := Value.int IntKind.i64 (lim hi)) hF H68 rfl (fun w _ => lim_any hi w )) (fun a hF => ?_)
  have f2 := lim_bd (hi)
  refine qs hF rfl (y_build (v := Value.agg #[Value.int IntKind.i64 (lim lo), Value.int IntKind.i64 (lim hi)]) B46 hF rfl rfl rfl) (fun a hF => ?_)
  refine quiet_end (fun w hW => ?_)
  refine l_store (vs := [Value.int IntKind.i64 (lim lo), Value.int IntKind.i64 (lim hi)]) (M' := [(b2, [Value.int IntKind.i64 0, Value.int IntKind.i64 0]), (b1, [Value.int IntKind.i64 (lim lo), Value.int IntKind.i64 (lim hi)])]) 1 hF hW rfl rfl rfl T46 rfl rfl rfl rfl rfl (fun w hW => ?_)
  refine ls_nil ?_
  refine c_then ?_
  refine c_seq ?_
  refine c_seq ?_
  refine reg_list ?_
  refine ls hF hW rfl (y_fieldAddr Try.underlying46 rfl rfl rfl T3 hF rfl 1 rfl) (fun a w hF hW => ?_)
  refine ls hF hW rfl (y_load (v := Value.int IntKind.i64 (lim hi)) 1 hF rfl rfl T3 rfl) (fun a w hF hW => ?_)
  refine ls hF hW rfl (y_fieldAddr Try.underlying46 rfl rfl rfl T3 hF rfl 0 rfl) (fun a w hF hW => ?_)
  refine ls hF hW rfl (y_load (v := Value.int IntKind.i64 (lim lo)) 1 hF rfl rfl T3 rfl) (fun a w hF hW => ?_)
  refine ls hF hW rfl (y_lss hF rfl rfl) (fun a w hF hW => ?_)
  refine ls_nil ?_
  refine c_then ?_
  refine c_cond hF rfl (fun hb => ?_) (fun hb => ?_)
  ·
    have c1 := of_decide_eq_true hb
    simp only [hb] at hF
    clear hb
    refine c_seq ?_
    refine reg_list ?_
    refine ls hF hW rfl (y_call (v := Value.agg #[Value.int IntKind.i64 1, Value.int IntKind.i64 0]) hF H49 rfl (fun w _ => nothing_any  w )) (fun a w hF hW => ?_)
    refine l_store (vs := [Value.int IntKind.i64 1, Value.int IntKind.i64 0]) (M' := [(b2, [Value.int IntKind.i64 1, Value.int IntKind.i64 0]), (b1, [Value.int IntKind.i64 (lim lo), Value.int IntKind.i64 (lim hi)])]) 0 hF hW rfl rfl rfl T46 rfl rfl rfl rfl rfl (fun w hW => ?_)
    refine ls_nil ?_
    refine c_then ?_
    refine wp_ret ?_
    refine r_then ?_
    refine post1 (.inl rfl) hF hW rfl (rv_cell (v := Value.agg #[Value.int IntKind.i64 1, Value.int IntKind.i64 0]) 0 hF rfl rfl T46 rfl) ?_
    exact ⟨congrArg Ending.returned (vagg (lcons (vint (show (1) = cl_0 lo hi by rw [cl_0, if_pos c1])) (lcons (vint (show (0) = cl_1 lo hi by rw [cl_1, if_pos c1])) rfl))), hW.frm.below⟩
  ·
    have c1 := of_decide_eq_false hb
    simp only [hb] at hF
    clear hb
    refine wp_skip ?_
    refine c_then ?_
    refine c_seq ?_
    refine reg_list ?_
    refine ls hF hW rfl (y_load (v := Value.agg #[Value.int IntKind.i64 (lim lo), Value.int IntKind.i64 (lim hi)]) 1 hF rfl rfl T46 rfl) (fun a w hF hW => ?_)
    refine l_store (vs := [Value.int IntKind.i64 (lim lo), Value.int IntKind.i64 (lim hi)]) (M' := [(b2, [Value.int IntKind.i64 (lim lo), Value.int IntKind.i64 (lim hi)]), (b1, [Value.int IntKind.i64 (lim lo), Value.int IntKind.i64 (lim hi)])]) 0 hF hW rfl rfl rfl T46 rfl rfl rfl rfl rfl (fun w hW => ?_)
    refine ls_nil ?_
    refine c_then ?_
    refine wp_ret ?_
    refine post1 (.inl rfl) hF hW rfl (rv_cell (v := Value.agg #[Value.int IntKind.i64 (lim lo), Value.int IntKind.i64 (lim hi)]) 0 hF rfl rfl T46 rfl) ?_
    exact ⟨congrArg Ending.returned (vagg (lcons (vint (show (lim lo) = cl_0 lo hi by rw [cl_0, if_neg c1])) (lcons (vint (show (lim hi) = cl_1 lo hi by rw [cl_1, if_neg c1])) rfl))), hW.frm.below⟩

theorem cl_bd (lo hi : Int) : -4503599627370496 ≤ cl_0 lo hi ∧ cl_0 lo hi ≤ 4503599627370496 ∧ -4503599627370496 ≤ cl_1 lo hi ∧ cl_1 lo hi ≤ 4503599627370496 := by have := lim_bd lo; have := lim_bd hi; unfold cl_0 cl_1; split <;> omega
def of__0 (lo : Int) (hi : Int) : Int := cl_0 (min lo hi) (max lo hi)
def of__1 (lo : Int) (hi : Int) : Int := cl_1 (min lo hi) (max lo hi)
theorem of__any (lo : Int) (hi : Int) (w : World)  :
    Calls Try.prog 48 #[Value.int IntKind.i64 lo, Value.int IntKind.i64 hi] w fun e w' => e = .returned (Value.agg #[Value.int IntKind.i64 (of__0 lo hi), Value.int IntKind.i64 (of__1 lo hi)]) ∧ Below w.heap.size w w' := by
  refine enter Try.func48 rfl Try.ntmps48 rfl (fun a hF => ?_)
  have hW := Stw.start w
  refine c_seq ?_
  refine reg_list ?_
  refine l_alloc (cs := [Value.int IntKind.i64 0, Value.int IntKind.i64 0]) hF hW rfl Z46 rfl (fun b1 a w hF hW => ?_)
  refine ls_nil ?_
  refine c_then ?_
  refine c_seq ?_
  refine reg_list ?_
  refine ls hF hW rfl (y_move hF rfl) (fun a w hF hW => ?_)
  refine ls hF hW rfl (y_move hF rfl) (fun a w hF hW => ?_)
  refine ls hF hW rfl (y_min hF rfl rfl) (fun a w hF hW => ?_)
  refine ls hF hW rfl (y_move hF rfl) (fun a w hF hW => ?_)
  refine ls hF hW rfl (y_move hF rfl) (fun a w hF hW => ?_)
  refine ls hF hW rfl (y_max hF rfl rfl) (fun a w hF hW => ?_)
  refine ls hF hW rfl (y_build (v := Value.agg #[Value.int IntKind.i64 (min lo hi), Value.int IntKind.i64 (max lo hi)]) B46 hF rfl rfl rfl) (fun a w hF hW => ?_)
  refine ls hF hW rfl (y_call (v := Value.agg #[Value.int IntKind.i64 (cl_0 (min lo hi) (max lo hi)), Value.int IntKind.i64 (cl_1 (min lo hi) (max lo hi))]) hF H29 rfl (fun w _ => cl_any (min lo hi) (max lo hi) w )) (fun a w hF hW => ?_)
  have f1 := cl_bd ((min lo hi)) ((max lo hi))
  refine l_store (vs := [Value.int IntKind.i64 (cl_0 (min lo hi) (max lo hi)), Value.int IntKind.i64 (cl_1 (min lo hi) (max lo hi))]) (M' := [(b1, [Value.int IntKind.i64 (cl_0 (min lo hi) (max lo hi)), Value.int IntKind.i64 (cl_1 (min lo hi) (max lo hi))])]) 0 hF hW rfl rfl rfl T46 rfl rfl rfl rfl rfl (fun w hW => ?_)
  refine ls_nil ?_
  refine c_then ?_
  refine wp_ret ?_
  refine post1 (.inl rfl) hF hW rfl (rv_cell (v := Value.agg #[Value.int IntKind.i64 (cl_0 (min lo hi) (max lo hi)), Value.int IntKind.i64 (cl_1 (min lo hi) (max lo hi))]) 0 hF rfl rfl T46 rfl) ?_
  exact ⟨congrArg Ending.returned (vagg (lcons (vint (show (cl_0 (min lo hi) (max lo hi)) = of__0 lo hi by rw [of__0])) (lcons (vint (show (cl_1 (min lo hi) (max lo hi)) = of__1 lo hi by rw [of__1])) rfl))), hW.frm.below⟩

def empty (lo : Int) (hi : Int) : Bool := decide ((cl_0 lo hi) = 1 ∧ (cl_1 lo hi) = 0)
theorem empty_any (lo : Int) (hi : Int) (w : World)  :
    Calls Try.prog 41 #[Value.agg #[Value.int IntKind.i64 lo, Value.int IntKind.i64 hi]] w fun e w' => e = .returned (Value.bool (empty lo hi)) ∧ Below w.heap.size w w' := by
  refine enter Try.func41 rfl Try.ntmps41 rfl (fun a hF => ?_)
  have hW := Stw.start w
  refine c_seq ?_
  refine reg_list ?_
  refine l_box (cs := [Value.int IntKind.i64 lo, Value.int IntKind.i64 hi]) hF hW rfl rfl rfl (fun b1 a w hF hW => ?_)
  refine ls hF hW rfl (y_assign hF rfl) (fun a w hF hW => ?_)
  refine ls_nil ?_
  refine c_then ?_
  refine c_seq ?_
  refine reg_list ?_
  refine ls hF hW rfl (y_load (v := Value.agg #[Value.int IntKind.i64 lo, Value.int IntKind.i64 hi]) 0 hF rfl rfl T46 rfl) (fun a w hF hW => ?_)
  refine ls hF hW rfl (y_call (v := Value.agg #[Value.int IntKind.i64 (cl_0 lo hi), Value.int IntKind.i64 (cl_1 lo hi)]) hF H29 rfl (fun w _ => cl_any lo hi w )) (fun a w hF hW => ?_)
  have f1 := cl_bd (lo) (hi)
  refine ls hF hW rfl (y_call (v := Value.agg #[Value.int IntKind.i64 1, Value.int IntKind.i64 0]) hF H49 rfl (fun w _ => nothing_any  w )) (fun a w hF hW => ?_)
  refine ls hF hW rfl (y_eqa (t := decide ((cl_0 lo hi) = 1 ∧ (cl_1 lo hi) = 0)) G46 (E46 _ _ _ _) hF rfl rfl) (fun a w hF hW => ?_)
  refine ls hF hW rfl (y_assign hF rfl) (fun a w hF hW => ?_)
  refine ls_nil ?_
  refine c_then ?_
  refine wp_ret ?_
  refine post1 (.inl rfl) hF hW rfl (rv_tmp hF rfl) ?_
  exact ⟨congrArg Ending.returned (vbool (show (decide ((cl_0 lo hi) = 1 ∧ (cl_1 lo hi) = 0)) = empty lo hi by rw [empty])), hW.frm.below⟩

def has (lo : Int) (hi : Int) (x : Int) : Bool := if (cl_0 lo hi) ≤ (lim x) then decide ((lim x) ≤ (cl_1 lo hi)) else false
theorem has_any (lo : Int) (hi : Int) (x : Int) (w : World)  :
    Calls Try.prog 39 #[Value.agg #[Value.int IntKind.i64 lo, Value.int IntKind.i64 hi], Value.int IntKind.i64 x] w fun e w' => e = .returned (Value.bool (has lo hi x)) ∧ Below w.heap.size w w' := by
  refine enter Try.func39 rfl Try.ntmps39 rfl (fun a hF => ?_)
  have hW := Stw.start w
  refine c_seq ?_
  refine reg_list ?_
  refine l_box (cs := [Value.int IntKind.i64 lo, Value.int IntKind.i64 hi]) hF hW rfl rfl rfl (fun b1 a w hF hW => ?_)
  refine ls hF hW rfl (y_assign hF rfl) (fun a w hF hW => ?_)
  refine ls_nil ?_
  refine c_then ?_
  refine c_seq ?_
  refine reg_list ?_
  refine ls hF hW rfl (y_load (v := Value.agg #[Value.int IntKind.i64 lo, Value.int IntKind.i64 hi]) 0 hF rfl rfl T46 rfl) (fun a w hF hW => ?_)
  refine ls hF hW rfl (y_call (v := Value.agg #[Value.int IntKind.i64 (cl_0 lo hi), Value.int IntKind.i64 (cl_1 lo hi)]) hF H29 rfl (fun w _ => cl_any lo hi w )) (fun a w hF hW => ?_)
  have f1 := cl_bd (lo) (hi)
  refine ls hF hW rfl (y_move hF rfl) (fun a w hF hW => ?_)
  refine ls hF hW rfl (y_call (v := Value.int IntKind.i64 (lim x)) hF H68 rfl (fun w _ => lim_any x w )) (fun a w hF hW => ?_)
  have f2 := lim_bd (x)
  refine l_store (vs := [Value.int IntKind.i64 (cl_0 lo hi), Value.int IntKind.i64 (cl_1 lo hi)]) (M' := [(b1, [Value.int IntKind.i64 (cl_0 lo hi), Value.int IntKind.i64 (cl_1 lo hi)])]) 0 hF hW rfl rfl rfl T46 rfl rfl rfl rfl rfl (fun w hW => ?_)
  refine ls hF hW rfl (y_assign hF rfl) (fun a w hF hW => ?_)
  refine ls_nil ?_
  refine c_then ?_
  refine c_seq ?_
  refine reg_list ?_
  refine ls hF hW rfl (y_fieldAddr Try.underlying46 rfl rfl rfl T3 hF rfl 0 rfl) (fun a w hF hW => ?_)
  refine ls hF hW rfl (y_load (v := Value.int IntKind.i64 (cl_0 lo hi)) 0 hF rfl rfl T3 rfl) (fun a w hF hW => ?_)
  refine ls hF hW rfl (y_move hF rfl) (fun a w hF hW => ?_)
  refine ls hF hW rfl (y_leq hF rfl rfl) (fun a w hF hW => ?_)
  refine ls hF hW rfl (y_move hF rfl) (fun a w hF hW => ?_)
  rcases Bool.eq_false_or_eq_true (decide ((cl_0 lo hi) ≤ (lim x))) with hb | hb
  ·
    have c1 := of_decide_eq_true hb
    simp only [hb] at hF
    clear hb
    refine ls_w hF hW (wanted_y hF rfl rfl rfl rfl) rfl (Nat.le_of_ble_eq_true rfl) (y_move hF rfl) (fun a w hF hW => ?_)
    refine ls_w hF hW (wanted_y hF rfl rfl rfl rfl) rfl (Nat.le_of_ble_eq_true rfl) (y_fieldAddr Try.underlying46 rfl rfl rfl T3 hF rfl 1 rfl) (fun a w hF hW => ?_)
    refine ls_w hF hW (wanted_y hF rfl rfl rfl rfl) rfl (Nat.le_of_ble_eq_true rfl) (y_load (v := Value.int IntKind.i64 (cl_1 lo hi)) 0 hF rfl rfl T3 rfl) (fun a w hF hW => ?_)
    refine ls_w hF hW (wanted_y hF rfl rfl rfl rfl) rfl (Nat.le_of_ble_eq_true rfl) (y_leq hF rfl rfl) (fun a w hF hW => ?_)
    refine ls hF hW rfl (y_pick_t hF rfl rfl rfl) (fun a w hF hW => ?_)
    refine ls hF hW rfl (y_assign hF rfl) (fun a w hF hW => ?_)
    refine ls_nil ?_
    refine c_then ?_
    refine wp_ret ?_
    refine post1 (.inl rfl) hF hW rfl (rv_tmp hF rfl) ?_
    exact ⟨congrArg Ending.returned (vbool (show (decide ((lim x) ≤ (cl_1 lo hi))) = has lo hi x by rw [has, if_pos c1])), hW.frm.below⟩
  ·
    have c1 := of_decide_eq_false hb
    simp only [hb] at hF
    clear hb
    refine ls_skip hF (wanted_n hF rfl rfl rfl rfl rfl) rfl rfl (fun a hF => ?_)
    refine ls_skip hF (wanted_n hF rfl rfl rfl rfl rfl) rfl rfl (fun a hF => ?_)
    refine ls_skip hF (wanted_n hF rfl rfl rfl rfl rfl) rfl rfl (fun a hF => ?_)
    refine ls_skip hF (wanted_n hF rfl rfl rfl rfl rfl) rfl rfl (fun a hF => ?_)
    refine ls hF hW rfl (y_pick_f hF rfl rfl rfl) (fun a w hF hW => ?_)
    refine ls hF hW rfl (y_assign hF rfl) (fun a w hF hW => ?_)
    refine ls_nil ?_
    refine c_then ?_
    refine wp_ret ?_
    refine post1 (.inl rfl) hF hW rfl (rv_tmp hF rfl) ?_
    exact ⟨congrArg Ending.returned (vbool (show (false) = has lo hi x by rw [has, if_neg c1])), hW.frm.below⟩

def meet_0 (lo : Int) (hi : Int) (lo2 : Int) (hi2 : Int) : Int := cl_0 (max lo lo2) (min hi hi2)
def meet_1 (lo : Int) (hi : Int) (lo2 : Int) (hi2 : Int) : Int := cl_1 (max lo lo2) (min hi hi2)
theorem meet_any (lo : Int) (hi : Int) (lo2 : Int) (hi2 : Int) (w : World)  :
    Calls Try.prog 31 #[Value.agg #[Value.int IntKind.i64 lo, Value.int IntKind.i64 hi], Value.agg #[Value.int IntKind.i64 lo2, Value.int IntKind.i64 hi2]] w fun e w' => e = .returned (Value.agg #[Value.int IntKind.i64 (meet_0 lo hi lo2 hi2), Value.int IntKind.i64 (meet_1 lo hi lo2 hi2)]) ∧ Below w.heap.size w w' := by
  refine enter Try.func31 rfl Try.ntmps31 rfl (fun a hF => ?_)
  have hW := Stw.start w
  refine c_seq ?_
  refine reg_list ?_
  refine l_box (cs := [Value.int IntKind.i64 lo, Value.int IntKind.i64 hi]) hF hW rfl rfl rfl (fun b1 a w hF hW => ?_)
  refine l_box (cs := [Value.int IntKind.i64 lo2, Value.int IntKind.i64 hi2]) hF hW rfl rfl rfl (fun b2 a w hF hW => ?_)
  refine l_alloc (cs := [Value.int IntKind.i64 0, Value.int IntKind.i64 0]) hF hW rfl Z46 rfl (fun b3 a w hF hW => ?_)
  refine ls_nil ?_
  refine c_then ?_
  refine c_seq ?_
  refine reg_list ?_
  refine ls hF hW rfl (y_fieldAddr Try.underlying46 rfl rfl rfl T3 hF rfl 0 rfl) (fun a w hF hW => ?_)
  refine ls hF hW rfl (y_load (v := Value.int IntKind.i64 lo) 2 hF rfl rfl T3 rfl) (fun a w hF hW => ?_)
  refine ls hF hW rfl (y_fieldAddr Try.underlying46 rfl rfl rfl T3 hF rfl 0 rfl) (fun a w hF hW => ?_)
  refine ls hF hW rfl (y_load (v := Value.int IntKind.i64 lo2) 1 hF rfl rfl T3 rfl) (fun a w hF hW => ?_)
  refine ls hF hW rfl (y_max hF rfl rfl) (fun a w hF hW => ?_)
  refine ls hF hW rfl (y_fieldAddr Try.underlying46 rfl rfl rfl T3 hF rfl 1 rfl) (fun a w hF hW => ?_)
  refine ls hF hW rfl (y_load (v := Value.int IntKind.i64 hi) 2 hF rfl rfl T3 rfl) (fun a w hF hW => ?_)
  refine ls hF hW rfl (y_fieldAddr Try.underlying46 rfl rfl rfl T3 hF rfl 1 rfl) (fun a w hF hW => ?_)
  refine ls hF hW rfl (y_load (v := Value.int IntKind.i64 hi2) 1 hF rfl rfl T3 rfl) (fun a w hF hW => ?_)
  refine ls hF hW rfl (y_min hF rfl rfl) (fun a w hF hW => ?_)
  refine ls hF hW rfl (y_build (v := Value.agg #[Value.int IntKind.i64 (max lo lo2), Value.int IntKind.i64 (min hi hi2)]) B46 hF rfl rfl rfl) (fun a w hF hW => ?_)
  refine ls hF hW rfl (y_call (v := Value.agg #[Value.int IntKind.i64 (cl_0 (max lo lo2) (min hi hi2)), Value.int IntKind.i64 (cl_1 (max lo lo2) (min hi hi2))]) hF H29 rfl (fun w _ => cl_any (max lo lo2) (min hi hi2) w )) (fun a w hF hW => ?_)
  have f1 := cl_bd ((max lo lo2)) ((min hi hi2))
  refine l_store (vs := [Value.int IntKind.i64 (cl_0 (max lo lo2) (min hi hi2)), Value.int IntKind.i64 (cl_1 (max lo lo2) (min hi hi2))]) (M' := [(b3, [Value.int IntKind.i64 (cl_0 (max lo lo2) (min hi hi2)), Value.int IntKind.i64 (cl_1 (max lo lo2) (min hi hi2))]), (b2, [Value.int IntKind.i64 lo2, Value.int IntKind.i64 hi2]), (b1, [Value.int IntKind.i64 lo, Value.int IntKind.i64 hi])]) 0 hF hW rfl rfl rfl T46 rfl rfl rfl rfl rfl (fun w hW => ?_)
  refine ls_nil ?_
  refine c_then ?_
  refine wp_ret ?_
  refine post1 (.inl rfl) hF hW rfl (rv_cell (v := Value.agg #[Value.int IntKind.i64 (cl_0 (max lo lo2) (min hi hi2)), Value.int IntKind.i64 (cl_1 (max lo lo2) (min hi hi2))]) 0 hF rfl rfl T46 rfl) ?_
  exact ⟨congrArg Ending.returned (vagg (lcons (vint (show (cl_0 (max lo lo2) (min hi hi2)) = meet_0 lo hi lo2 hi2 by rw [meet_0])) (lcons (vint (show (cl_1 (max lo lo2) (min hi hi2)) = meet_1 lo hi lo2 hi2 by rw [meet_1])) rfl))), hW.frm.below⟩

def within (lo : Int) (hi : Int) (lo2 : Int) (hi2 : Int) : Bool := decide ((meet_0 lo hi lo2 hi2) = (cl_0 lo hi) ∧ (meet_1 lo hi lo2 hi2) = (cl_1 lo hi))
theorem within_any (lo : Int) (hi : Int) (lo2 : Int) (hi2 : Int) (w : World)  :
    Calls Try.prog 43 #[Value.agg #[Value.int IntKind.i64 lo, Value.int IntKind.i64 hi], Value.agg #[Value.int IntKind.i64 lo2, Value.int IntKind.i64 hi2]] w fun e w' => e = .returned (Value.bool (within lo hi lo2 hi2)) ∧ Below w.heap.size w w' := by
  refine enter Try.func43 rfl Try.ntmps43 rfl (fun a hF => ?_)
  have hW := Stw.start w
  refine c_seq ?_
  refine reg_list ?_
  refine l_box (cs := [Value.int IntKind.i64 lo, Value.int IntKind.i64 hi]) hF hW rfl rfl rfl (fun b1 a w hF hW => ?_)
  refine l_box (cs := [Value.int IntKind.i64 lo2, Value.int IntKind.i64 hi2]) hF hW rfl rfl rfl (fun b2 a w hF hW => ?_)
  refine ls hF hW rfl (y_assign hF rfl) (fun a w hF hW => ?_)
  refine ls_nil ?_
  refine c_then ?_
  refine c_seq ?_
  refine reg_quiet hW MO (by kernel_rfl) ?_
  refine qs hF rfl (y_load (v := Value.agg #[Value.int IntKind.i64 lo, Value.int IntKind.i64 hi]) 1 hF rfl rfl T46 rfl) (fun a hF => ?_)
  refine qs hF rfl (y_load (v := Value.agg #[Value.int IntKind.i64 lo2, Value.int IntKind.i64 hi2]) 0 hF rfl rfl T46 rfl) (fun a hF => ?_)
  refine qs hF rfl (y_call (v := Value.agg #[Value.int IntKind.i64 (meet_0 lo hi lo2 hi2), Value.int IntKind.i64 (meet_1 lo hi lo2 hi2)]) hF H31 rfl (fun w _ => meet_any lo hi lo2 hi2 w )) (fun a hF => ?_)
  refine qs hF rfl (y_load (v := Value.agg #[Value.int IntKind.i64 lo, Value.int IntKind.i64 hi]) 1 hF rfl rfl T46 rfl) (fun a hF => ?_)
  refine qs hF rfl (y_call (v := Value.agg #[Value.int IntKind.i64 (cl_0 lo hi), Value.int IntKind.i64 (cl_1 lo hi)]) hF H29 rfl (fun w _ => cl_any lo hi w )) (fun a hF => ?_)
  have f1 := cl_bd (lo) (hi)
  refine qs hF rfl (y_eqa (t := decide ((meet_0 lo hi lo2 hi2) = (cl_0 lo hi) ∧ (meet_1 lo hi lo2 hi2) = (cl_1 lo hi))) G46 (E46 _ _ _ _) hF rfl rfl) (fun a hF => ?_)
  refine qs hF rfl (y_assign hF rfl) (fun a hF => ?_)
  refine quiet_end (fun w hW => ?_)
  refine c_then ?_
  refine wp_ret ?_
  refine post1 (.inl rfl) hF hW rfl (rv_tmp hF rfl) ?_
  exact ⟨congrArg Ending.returned (vbool (show (decide ((meet_0 lo hi lo2 hi2) = (cl_0 lo hi) ∧ (meet_1 lo hi lo2 hi2) = (cl_1 lo hi))) = within lo hi lo2 hi2 by rw [within])), hW.frm.below⟩

def size (lo : Int) (hi : Int) : Int := ((cl_1 lo hi) - (cl_0 lo hi)) + 1
theorem size_any (lo : Int) (hi : Int) (w : World)  :
    Calls Try.prog 46 #[Value.agg #[Value.int IntKind.i64 lo, Value.int IntKind.i64 hi]] w fun e w' => e = .returned (Value.int IntKind.i64 (size lo hi)) ∧ Below w.heap.size w w' := by
  refine enter Try.func46 rfl Try.ntmps46 rfl (fun a hF => ?_)
  have hW := Stw.start w
  refine c_seq ?_
  refine reg_list ?_
  refine l_box (cs := [Value.int IntKind.i64 lo, Value.int IntKind.i64 hi]) hF hW rfl rfl rfl (fun b1 a w hF hW => ?_)
  refine ls hF hW rfl (y_assign hF rfl) (fun a w hF hW => ?_)
  refine ls_nil ?_
  refine c_then ?_
  refine c_seq ?_
  refine reg_list ?_
  refine ls hF hW rfl (y_load (v := Value.agg #[Value.int IntKind.i64 lo, Value.int IntKind.i64 hi]) 0 hF rfl rfl T46 rfl) (fun a w hF hW => ?_)
  refine ls hF hW rfl (y_call (v := Value.agg #[Value.int IntKind.i64 (cl_0 lo hi), Value.int IntKind.i64 (cl_1 lo hi)]) hF H29 rfl (fun w _ => cl_any lo hi w )) (fun a w hF hW => ?_)
  have f1 := cl_bd (lo) (hi)
  refine l_store (vs := [Value.int IntKind.i64 (cl_0 lo hi), Value.int IntKind.i64 (cl_1 lo hi)]) (M' := [(b1, [Value.int IntKind.i64 (cl_0 lo hi), Value.int IntKind.i64 (cl_1 lo hi)])]) 0 hF hW rfl rfl rfl T46 rfl rfl rfl rfl rfl (fun w hW => ?_)
  refine ls_nil ?_
  refine c_then ?_
  refine c_seq ?_
  refine reg_list ?_
  refine ls hF hW rfl (y_fieldAddr Try.underlying46 rfl rfl rfl T3 hF rfl 1 rfl) (fun a w hF hW => ?_)
  refine ls hF hW rfl (y_load (v := Value.int IntKind.i64 (cl_1 lo hi)) 0 hF rfl rfl T3 rfl) (fun a w hF hW => ?_)
  refine ls hF hW rfl (y_fieldAddr Try.underlying46 rfl rfl rfl T3 hF rfl 0 rfl) (fun a w hF hW => ?_)
  refine ls hF hW rfl (y_load (v := Value.int IntKind.i64 (cl_0 lo hi)) 0 hF rfl rfl T3 rfl) (fun a w hF hW => ?_)
  refine ls hF hW rfl (y_sub hF rfl rfl (r := (cl_1 lo hi) - (cl_0 lo hi)) (IntWalk.i64_in _ (by omega))) (fun a w hF hW => ?_)
  refine ls hF hW rfl (y_add hF rfl rfl (r := ((cl_1 lo hi) - (cl_0 lo hi)) + 1) (IntWalk.i64_in _ (by omega))) (fun a w hF hW => ?_)
  refine ls hF hW rfl (y_assign hF rfl) (fun a w hF hW => ?_)
  refine ls_nil ?_
  refine c_then ?_
  refine wp_ret ?_
  refine post1 (.inl rfl) hF hW rfl (rv_tmp hF rfl) ?_
  exact ⟨congrArg Ending.returned (vint (show (((cl_1 lo hi) - (cl_0 lo hi)) + 1) = size lo hi by rw [size])), hW.frm.below⟩

def hull_0 (lo : Int) (hi : Int) (lo2 : Int) (hi2 : Int) : Int := if (cl_0 lo hi) = 1 ∧ (cl_1 lo hi) = 0 then cl_0 lo2 hi2 else if (cl_0 lo2 hi2) = 1 ∧ (cl_1 lo2 hi2) = 0 then cl_0 lo hi else min (cl_0 lo hi) (cl_0 lo2 hi2)
def hull_1 (lo : Int) (hi : Int) (lo2 : Int) (hi2 : Int) : Int := if (cl_0 lo hi) = 1 ∧ (cl_1 lo hi) = 0 then cl_1 lo2 hi2 else if (cl_0 lo2 hi2) = 1 ∧ (cl_1 lo2 hi2) = 0 then cl_1 lo hi else max (cl_1 lo hi) (cl_1 lo2 hi2)
theorem hull_any (lo : Int) (hi : Int) (lo2 : Int) (hi2 : Int) (w : World)  :
    Calls Try.prog 33 #[Value.agg #[Value.int IntKind.i64 lo, Value.int IntKind.i64 hi], Value.agg #[Value.int IntKind.i64 lo2, Value.int IntKind.i64 hi2]] w fun e w' => e = .returned (Value.agg #[Value.int IntKind.i64 (hull_0 lo hi lo2 hi2), Value.int IntKind.i64 (hull_1 lo hi lo2 hi2)]) ∧ Below w.heap.size w w' := by
  refine enter Try.func33 rfl Try.ntmps33 rfl (fun a hF => ?_)
  have hW := Stw.start w
  refine c_seq ?_
  refine reg_list ?_
  refine l_box (cs := [Value.int IntKind.i64 lo, Value.int IntKind.i64 hi]) hF hW rfl rfl rfl (fun b1 a w hF hW => ?_)
  refine l_box (cs := [Value.int IntKind.i64 lo2, Value.int IntKind.i64 hi2]) hF hW rfl rfl rfl (fun b2 a w hF hW => ?_)
  refine l_alloc (cs := [Value.int IntKind.i64 0, Value.int IntKind.i64 0]) hF hW rfl Z46 rfl (fun b3 a w hF hW => ?_)
  refine ls_nil ?_
  refine c_then ?_
  refine c_seq ?_
  refine reg_tail 4 hW MO (by kernel_rfl) ?_
  refine qs hF rfl (y_load (v := Value.agg #[Value.int IntKind.i64 lo, Value.int IntKind.i64 hi]) 2 hF rfl rfl T46 rfl) (fun a hF => ?_)
  refine qs hF rfl (y_call (v := Value.agg #[Value.int IntKind.i64 (cl_0 lo hi), Value.int IntKind.i64 (cl_1 lo hi)]) hF H29 rfl (fun w _ => cl_any lo hi w )) (fun a hF => ?_)
  have f1 := cl_bd (lo) (hi)
  refine qs hF rfl (y_load (v := Value.agg #[Value.int IntKind.i64 lo2, Value.int IntKind.i64 hi2]) 1 hF rfl rfl T46 rfl) (fun a hF => ?_)
  refine qs hF rfl (y_call (v := Value.agg #[Value.int IntKind.i64 (cl_0 lo2 hi2), Value.int IntKind.i64 (cl_1 lo2 hi2)]) hF H29 rfl (fun w _ => cl_any lo2 hi2 w )) (fun a hF => ?_)
  have f2 := cl_bd (lo2) (hi2)
  refine quiet_end (fun w hW => ?_)
  refine l_store (vs := [Value.int IntKind.i64 (cl_0 lo hi), Value.int IntKind.i64 (cl_1 lo hi)]) (M' := [(b3, [Value.int IntKind.i64 0, Value.int IntKind.i64 0]), (b2, [Value.int IntKind.i64 lo2, Value.int IntKind.i64 hi2]), (b1, [Value.int IntKind.i64 (cl_0 lo hi), Value.int IntKind.i64 (cl_1 lo hi)])]) 2 hF hW rfl rfl rfl T46 rfl rfl rfl rfl rfl (fun w hW => ?_)
  refine l_store (vs := [Value.int IntKind.i64 (cl_0 lo2 hi2), Value.int IntKind.i64 (cl_1 lo2 hi2)]) (M' := [(b3, [Value.int IntKind.i64 0, Value.int IntKind.i64 0]), (b2, [Value.int IntKind.i64 (cl_0 lo2 hi2), Value.int IntKind.i64 (cl_1 lo2 hi2)]), (b1, [Value.int IntKind.i64 (cl_0 lo hi), Value.int IntKind.i64 (cl_1 lo hi)])]) 1 hF hW rfl rfl rfl T46 rfl rfl rfl rfl rfl (fun w hW => ?_)
  refine ls_nil ?_
  refine c_then ?_
  refine c_seq ?_
  refine c_seq ?_
  refine reg_quiet hW MO (by kernel_rfl) ?_
  refine qs hF rfl (y_load (v := Value.agg #[Value.int IntKind.i64 (cl_0 lo hi), Value.int IntKind.i64 (cl_1 lo hi)]) 2 hF rfl rfl T46 rfl) (fun a hF => ?_)
  refine qs hF rfl (y_call (v := Value.agg #[Value.int IntKind.i64 1, Value.int IntKind.i64 0]) hF H49 rfl (fun w _ => nothing_any  w )) (fun a hF => ?_)
  refine qs hF rfl (y_eqa (t := decide ((cl_0 lo hi) = 1 ∧ (cl_1 lo hi) = 0)) G46 (E46 _ _ _ _) hF rfl rfl) (fun a hF => ?_)
  refine quiet_end (fun w hW => ?_)
  refine c_then ?_
  refine c_cond hF rfl (fun hb => ?_) (fun hb => ?_)
  ·
    have c1 := of_decide_eq_true hb
    simp only [hb] at hF
    clear hb
    refine c_seq ?_
    refine reg_list ?_
    refine ls hF hW rfl (y_load (v := Value.agg #[Value.int IntKind.i64 (cl_0 lo2 hi2), Value.int IntKind.i64 (cl_1 lo2 hi2)]) 1 hF rfl rfl T46 rfl) (fun a w hF hW => ?_)
    refine l_store (vs := [Value.int IntKind.i64 (cl_0 lo2 hi2), Value.int IntKind.i64 (cl_1 lo2 hi2)]) (M' := [(b3, [Value.int IntKind.i64 (cl_0 lo2 hi2), Value.int IntKind.i64 (cl_1 lo2 hi2)]), (b2, [Value.int IntKind.i64 (cl_0 lo2 hi2), Value.int IntKind.i64 (cl_1 lo2 hi2)]), (b1, [Value.int IntKind.i64 (cl_0 lo hi), Value.int IntKind.i64 (cl_1 lo hi)])]) 0 hF hW rfl rfl rfl T46 rfl rfl rfl rfl rfl (fun w hW => ?_)
    refine ls_nil ?_
    refine c_then ?_
    refine wp_ret ?_
    refine r_then ?_
    refine post1 (.inl rfl) hF hW rfl (rv_cell (v := Value.agg #[Value.int IntKind.i64 (cl_0 lo2 hi2), Value.int IntKind.i64 (cl_1 lo2 hi2)]) 0 hF rfl rfl T46 rfl) ?_
    exact ⟨congrArg Ending.returned (vagg (lcons (vint (show (cl_0 lo2 hi2) = hull_0 lo hi lo2 hi2 by rw [hull_0, if_pos c1])) (lcons (vint (show (cl_1 lo2 hi2) = hull_1 lo hi lo2 hi2 by rw [hull_1, if_pos c1])) rfl))), hW.frm.below⟩
  ·
    have c1 := of_decide_eq_false hb
    simp only [hb] at hF
    clear hb
    refine wp_skip ?_
    refine c_then ?_
    refine c_seq ?_
    refine c_seq ?_
    refine reg_quiet hW MO (by kernel_rfl) ?_
    refine qs hF rfl (y_load (v := Value.agg #[Value.int IntKind.i64 (cl_0 lo2 hi2), Value.int IntKind.i64 (cl_1 lo2 hi2)]) 1 hF rfl rfl T46 rfl) (fun a hF => ?_)
    refine qs hF rfl (y_call (v := Value.agg #[Value.int IntKind.i64 1, Value.int IntKind.i64 0]) hF H49 rfl (fun w _ => nothing_any  w )) (fun a hF => ?_)
    refine qs hF rfl (y_eqa (t := decide ((cl_0 lo2 hi2) = 1 ∧ (cl_1 lo2 hi2) = 0)) G46 (E46 _ _ _ _) hF rfl rfl) (fun a hF => ?_)
    refine quiet_end (fun w hW => ?_)
    refine c_then ?_
    refine c_cond hF rfl (fun hb => ?_) (fun hb => ?_)
    ·
      have c2 := of_decide_eq_true hb
      simp only [hb] at hF
      clear hb
      refine c_seq ?_
      refine reg_list ?_
      refine ls hF hW rfl (y_load (v := Value.agg #[Value.int IntKind.i64 (cl_0 lo hi), Value.int IntKind.i64 (cl_1 lo hi)]) 2 hF rfl rfl T46 rfl) (fun a w hF hW => ?_)
      refine l_store (vs := [Value.int IntKind.i64 (cl_0 lo hi), Value.int IntKind.i64 (cl_1 lo hi)]) (M' := [(b3, [Value.int IntKind.i64 (cl_0 lo hi), Value.int IntKind.i64 (cl_1 lo hi)]), (b2, [Value.int IntKind.i64 (cl_0 lo2 hi2), Value.int IntKind.i64 (cl_1 lo2 hi2)]), (b1, [Value.int IntKind.i64 (cl_0 lo hi), Value.int IntKind.i64 (cl_1 lo hi)])]) 0 hF hW rfl rfl rfl T46 rfl rfl rfl rfl rfl (fun w hW => ?_)
      refine ls_nil ?_
      refine c_then ?_
      refine wp_ret ?_
      refine r_then ?_
      refine post1 (.inl rfl) hF hW rfl (rv_cell (v := Value.agg #[Value.int IntKind.i64 (cl_0 lo hi), Value.int IntKind.i64 (cl_1 lo hi)]) 0 hF rfl rfl T46 rfl) ?_
      exact ⟨congrArg Ending.returned (vagg (lcons (vint (show (cl_0 lo hi) = hull_0 lo hi lo2 hi2 by rw [hull_0, if_neg c1, if_pos c2])) (lcons (vint (show (cl_1 lo hi) = hull_1 lo hi lo2 hi2 by rw [hull_1, if_neg c1, if_pos c2])) rfl))), hW.frm.below⟩
    ·
      have c2 := of_decide_eq_false hb
      simp only [hb] at hF
      clear hb
      refine wp_skip ?_
      refine c_then ?_
      refine c_seq ?_
      refine reg_list ?_
      refine ls hF hW rfl (y_fieldAddr Try.underlying46 rfl rfl rfl T3 hF rfl 0 rfl) (fun a w hF hW => ?_)
      refine ls hF hW rfl (y_load (v := Value.int IntKind.i64 (cl_0 lo hi)) 2 hF rfl rfl T3 rfl) (fun a w hF hW => ?_)
      refine ls hF hW rfl (y_fieldAddr Try.underlying46 rfl rfl rfl T3 hF rfl 0 rfl) (fun a w hF hW => ?_)
      refine ls hF hW rfl (y_load (v := Value.int IntKind.i64 (cl_0 lo2 hi2)) 1 hF rfl rfl T3 rfl) (fun a w hF hW => ?_)
      refine ls hF hW rfl (y_min hF rfl rfl) (fun a w hF hW => ?_)
      refine ls hF hW rfl (y_fieldAddr Try.underlying46 rfl rfl rfl T3 hF rfl 1 rfl) (fun a w hF hW => ?_)
      refine ls hF hW rfl (y_load (v := Value.int IntKind.i64 (cl_1 lo hi)) 2 hF rfl rfl T3 rfl) (fun a w hF hW => ?_)
      refine ls hF hW rfl (y_fieldAddr Try.underlying46 rfl rfl rfl T3 hF rfl 1 rfl) (fun a w hF hW => ?_)
      refine ls hF hW rfl (y_load (v := Value.int IntKind.i64 (cl_1 lo2 hi2)) 1 hF rfl rfl T3 rfl) (fun a w hF hW => ?_)
      refine ls hF hW rfl (y_max hF rfl rfl) (fun a w hF hW => ?_)
      refine ls hF hW rfl (y_build (v := Value.agg #[Value.int IntKind.i64 (min (cl_0 lo hi) (cl_0 lo2 hi2)), Value.int IntKind.i64 (max (cl_1 lo hi) (cl_1 lo2 hi2))]) B46 hF rfl rfl rfl) (fun a w hF hW => ?_)
      refine l_store (vs := [Value.int IntKind.i64 (min (cl_0 lo hi) (cl_0 lo2 hi2)), Value.int IntKind.i64 (max (cl_1 lo hi) (cl_1 lo2 hi2))]) (M' := [(b3, [Value.int IntKind.i64 (min (cl_0 lo hi) (cl_0 lo2 hi2)), Value.int IntKind.i64 (max (cl_1 lo hi) (cl_1 lo2 hi2))]), (b2, [Value.int IntKind.i64 (cl_0 lo2 hi2), Value.int IntKind.i64 (cl_1 lo2 hi2)]), (b1, [Value.int IntKind.i64 (cl_0 lo hi), Value.int IntKind.i64 (cl_1 lo hi)])]) 0 hF hW rfl rfl rfl T46 rfl rfl rfl rfl rfl (fun w hW => ?_)
      refine ls_nil ?_
      refine c_then ?_
      refine wp_ret ?_
      refine post1 (.inl rfl) hF hW rfl (rv_cell (v := Value.agg #[Value.int IntKind.i64 (min (cl_0 lo hi) (cl_0 lo2 hi2)), Value.int IntKind.i64 (max (cl_1 lo hi) (cl_1 lo2 hi2))]) 0 hF rfl rfl T46 rfl) ?_
      exact ⟨congrArg Ending.returned (vagg (lcons (vint (show (min (cl_0 lo hi) (cl_0 lo2 hi2)) = hull_0 lo hi lo2 hi2 by rw [hull_0, if_neg c1, if_neg c2])) (lcons (vint (show (max (cl_1 lo hi) (cl_1 lo2 hi2)) = hull_1 lo hi lo2 hi2 by rw [hull_1, if_neg c1, if_neg c2])) rfl))), hW.frm.below⟩

def moved_0 (lo : Int) (hi : Int) (x : Int) (y : Int) : Int := if lo = 1 ∧ hi = 0 then lo else cl_0 (lo + x) (hi + y)
def moved_1 (lo : Int) (hi : Int) (x : Int) (y : Int) : Int := if lo = 1 ∧ hi = 0 then hi else cl_1 (lo + x) (hi + y)
theorem moved_any (lo : Int) (hi : Int) (x : Int) (y : Int) (w : World) (hlo1 : -4503599627370496 ≤ lo) (hlo2 : lo ≤ 4503599627370496) (hhi1 : -4503599627370496 ≤ hi) (hhi2 : hi ≤ 4503599627370496) (hx1 : -4503599627370496 ≤ x) (hx2 : x ≤ 4503599627370496) (hy1 : -4503599627370496 ≤ y) (hy2 : y ≤ 4503599627370496) :
    Calls Try.prog 70 #[Value.agg #[Value.int IntKind.i64 lo, Value.int IntKind.i64 hi], Value.int IntKind.i64 x, Value.int IntKind.i64 y] w fun e w' => e = .returned (Value.agg #[Value.int IntKind.i64 (moved_0 lo hi x y), Value.int IntKind.i64 (moved_1 lo hi x y)]) ∧ Below w.heap.size w w' := by
  refine enter Try.func70 rfl Try.ntmps70 rfl (fun a hF => ?_)
  have hW := Stw.start w
  refine c_seq ?_
  refine reg_list ?_
  refine l_box (cs := [Value.int IntKind.i64 lo, Value.int IntKind.i64 hi]) hF hW rfl rfl rfl (fun b1 a w hF hW => ?_)
  refine l_alloc (cs := [Value.int IntKind.i64 0, Value.int IntKind.i64 0]) hF hW rfl Z46 rfl (fun b2 a w hF hW => ?_)
  refine ls_nil ?_
  refine c_then ?_
  refine c_seq ?_
  refine c_seq ?_
  refine reg_quiet hW MO (by kernel_rfl) ?_
  refine qs hF rfl (y_load (v := Value.agg #[Value.int IntKind.i64 lo, Value.int IntKind.i64 hi]) 1 hF rfl rfl T46 rfl) (fun a hF => ?_)
  refine qs hF rfl (y_call (v := Value.agg #[Value.int IntKind.i64 1, Value.int IntKind.i64 0]) hF H49 rfl (fun w _ => nothing_any  w )) (fun a hF => ?_)
  refine qs hF rfl (y_eqa (t := decide (lo = 1 ∧ hi = 0)) G46 (E46 _ _ _ _) hF rfl rfl) (fun a hF => ?_)
  refine quiet_end (fun w hW => ?_)
  refine c_then ?_
  refine c_cond hF rfl (fun hb => ?_) (fun hb => ?_)
  ·
    have c1 := of_decide_eq_true hb
    simp only [hb] at hF
    clear hb
    refine c_seq ?_
    refine reg_list ?_
    refine ls hF hW rfl (y_load (v := Value.agg #[Value.int IntKind.i64 lo, Value.int IntKind.i64 hi]) 1 hF rfl rfl T46 rfl) (fun a w hF hW => ?_)
    refine l_store (vs := [Value.int IntKind.i64 lo, Value.int IntKind.i64 hi]) (M' := [(b2, [Value.int IntKind.i64 lo, Value.int IntKind.i64 hi]), (b1, [Value.int IntKind.i64 lo, Value.int IntKind.i64 hi])]) 0 hF hW rfl rfl rfl T46 rfl rfl rfl rfl rfl (fun w hW => ?_)
    refine ls_nil ?_
    refine c_then ?_
    refine wp_ret ?_
    refine r_then ?_
    refine post1 (.inl rfl) hF hW rfl (rv_cell (v := Value.agg #[Value.int IntKind.i64 lo, Value.int IntKind.i64 hi]) 0 hF rfl rfl T46 rfl) ?_
    exact ⟨congrArg Ending.returned (vagg (lcons (vint (show (lo) = moved_0 lo hi x y by rw [moved_0, if_pos c1])) (lcons (vint (show (hi) = moved_1 lo hi x y by rw [moved_1, if_pos c1])) rfl))), hW.frm.below⟩
  ·
    have c1 := of_decide_eq_false hb
    simp only [hb] at hF
    clear hb
    refine wp_skip ?_
    refine c_then ?_
    refine c_seq ?_
    refine reg_list ?_
    refine ls hF hW rfl (y_fieldAddr Try.underlying46 rfl rfl rfl T3 hF rfl 0 rfl) (fun a w hF hW => ?_)
    refine ls hF hW rfl (y_load (v := Value.int IntKind.i64 lo) 1 hF rfl rfl T3 rfl) (fun a w hF hW => ?_)
    refine ls hF hW rfl (y_move hF rfl) (fun a w hF hW => ?_)
    refine ls hF hW rfl (y_add hF rfl rfl (r := lo + x) (IntWalk.i64_in _ (by omega))) (fun a w hF hW => ?_)
    refine ls hF hW rfl (y_fieldAddr Try.underlying46 rfl rfl rfl T3 hF rfl 1 rfl) (fun a w hF hW => ?_)
    refine ls hF hW rfl (y_load (v := Value.int IntKind.i64 hi) 1 hF rfl rfl T3 rfl) (fun a w hF hW => ?_)
    refine ls hF hW rfl (y_move hF rfl) (fun a w hF hW => ?_)
    refine ls hF hW rfl (y_add hF rfl rfl (r := hi + y) (IntWalk.i64_in _ (by omega))) (fun a w hF hW => ?_)
    refine ls hF hW rfl (y_build (v := Value.agg #[Value.int IntKind.i64 (lo + x), Value.int IntKind.i64 (hi + y)]) B46 hF rfl rfl rfl) (fun a w hF hW => ?_)
    refine ls hF hW rfl (y_call (v := Value.agg #[Value.int IntKind.i64 (cl_0 (lo + x) (hi + y)), Value.int IntKind.i64 (cl_1 (lo + x) (hi + y))]) hF H29 rfl (fun w _ => cl_any (lo + x) (hi + y) w )) (fun a w hF hW => ?_)
    have f1 := cl_bd ((lo + x)) ((hi + y))
    refine l_store (vs := [Value.int IntKind.i64 (cl_0 (lo + x) (hi + y)), Value.int IntKind.i64 (cl_1 (lo + x) (hi + y))]) (M' := [(b2, [Value.int IntKind.i64 (cl_0 (lo + x) (hi + y)), Value.int IntKind.i64 (cl_1 (lo + x) (hi + y))]), (b1, [Value.int IntKind.i64 lo, Value.int IntKind.i64 hi])]) 0 hF hW rfl rfl rfl T46 rfl rfl rfl rfl rfl (fun w hW => ?_)
    refine ls_nil ?_
    refine c_then ?_
    refine wp_ret ?_
    refine post1 (.inl rfl) hF hW rfl (rv_cell (v := Value.agg #[Value.int IntKind.i64 (cl_0 (lo + x) (hi + y)), Value.int IntKind.i64 (cl_1 (lo + x) (hi + y))]) 0 hF rfl rfl T46 rfl) ?_
    exact ⟨congrArg Ending.returned (vagg (lcons (vint (show (cl_0 (lo + x) (hi + y)) = moved_0 lo hi x y by rw [moved_0, if_neg c1])) (lcons (vint (show (cl_1 (lo + x) (hi + y)) = moved_1 lo hi x y by rw [moved_1, if_neg c1])) rfl))), hW.frm.below⟩

def shift_0 (lo : Int) (hi : Int) (x : Int) : Int := moved_0 (cl_0 lo hi) (cl_1 lo hi) (lim x) (lim x)
def shift_1 (lo : Int) (hi : Int) (x : Int) : Int := moved_1 (cl_0 lo hi) (cl_1 lo hi) (lim x) (lim x)
theorem shift_any (lo : Int) (hi : Int) (x : Int) (w : World)  :
    Calls Try.prog 35 #[Value.agg #[Value.int IntKind.i64 lo, Value.int IntKind.i64 hi], Value.int IntKind.i64 x] w fun e w' => e = .returned (Value.agg #[Value.int IntKind.i64 (shift_0 lo hi x), Value.int IntKind.i64 (shift_1 lo hi x)]) ∧ Below w.heap.size w w' := by
  refine enter Try.func35 rfl Try.ntmps35 rfl (fun a hF => ?_)
  have hW := Stw.start w
  refine c_seq ?_
  refine reg_list ?_
  refine l_box (cs := [Value.int IntKind.i64 lo, Value.int IntKind.i64 hi]) hF hW rfl rfl rfl (fun b1 a w hF hW => ?_)
  refine l_alloc (cs := [Value.int IntKind.i64 0, Value.int IntKind.i64 0]) hF hW rfl Z46 rfl (fun b2 a w hF hW => ?_)
  refine ls_nil ?_
  refine c_then ?_
  refine c_seq ?_
  refine reg_list ?_
  refine ls hF hW rfl (y_load (v := Value.agg #[Value.int IntKind.i64 lo, Value.int IntKind.i64 hi]) 1 hF rfl rfl T46 rfl) (fun a w hF hW => ?_)
  refine ls hF hW rfl (y_call (v := Value.agg #[Value.int IntKind.i64 (cl_0 lo hi), Value.int IntKind.i64 (cl_1 lo hi)]) hF H29 rfl (fun w _ => cl_any lo hi w )) (fun a w hF hW => ?_)
  have f1 := cl_bd (lo) (hi)
  refine ls hF hW rfl (y_move hF rfl) (fun a w hF hW => ?_)
  refine ls hF hW rfl (y_call (v := Value.int IntKind.i64 (lim x)) hF H68 rfl (fun w _ => lim_any x w )) (fun a w hF hW => ?_)
  have f2 := lim_bd (x)
  refine l_store (vs := [Value.int IntKind.i64 (cl_0 lo hi), Value.int IntKind.i64 (cl_1 lo hi)]) (M' := [(b2, [Value.int IntKind.i64 0, Value.int IntKind.i64 0]), (b1, [Value.int IntKind.i64 (cl_0 lo hi), Value.int IntKind.i64 (cl_1 lo hi)])]) 1 hF hW rfl rfl rfl T46 rfl rfl rfl rfl rfl (fun w hW => ?_)
  refine ls hF hW rfl (y_assign hF rfl) (fun a w hF hW => ?_)
  refine ls_nil ?_
  refine c_then ?_
  refine c_seq ?_
  refine reg_list ?_
  refine ls hF hW rfl (y_load (v := Value.agg #[Value.int IntKind.i64 (cl_0 lo hi), Value.int IntKind.i64 (cl_1 lo hi)]) 1 hF rfl rfl T46 rfl) (fun a w hF hW => ?_)
  refine ls hF hW rfl (y_move hF rfl) (fun a w hF hW => ?_)
  refine ls hF hW rfl (y_move hF rfl) (fun a w hF hW => ?_)
  refine ls hF hW rfl (y_call (v := Value.agg #[Value.int IntKind.i64 (moved_0 (cl_0 lo hi) (cl_1 lo hi) (lim x) (lim x)), Value.int IntKind.i64 (moved_1 (cl_0 lo hi) (cl_1 lo hi) (lim x) (lim x))]) hF H70 rfl (fun w _ => moved_any (cl_0 lo hi) (cl_1 lo hi) (lim x) (lim x) w (by omega) (by omega) (by omega) (by omega) (by omega) (by omega) (by omega) (by omega))) (fun a w hF hW => ?_)
  refine l_store (vs := [Value.int IntKind.i64 (moved_0 (cl_0 lo hi) (cl_1 lo hi) (lim x) (lim x)), Value.int IntKind.i64 (moved_1 (cl_0 lo hi) (cl_1 lo hi) (lim x) (lim x))]) (M' := [(b2, [Value.int IntKind.i64 (moved_0 (cl_0 lo hi) (cl_1 lo hi) (lim x) (lim x)), Value.int IntKind.i64 (moved_1 (cl_0 lo hi) (cl_1 lo hi) (lim x) (lim x))]), (b1, [Value.int IntKind.i64 (cl_0 lo hi), Value.int IntKind.i64 (cl_1 lo hi)])]) 0 hF hW rfl rfl rfl T46 rfl rfl rfl rfl rfl (fun w hW => ?_)
  refine ls_nil ?_
  refine c_then ?_
  refine wp_ret ?_
  refine post1 (.inl rfl) hF hW rfl (rv_cell (v := Value.agg #[Value.int IntKind.i64 (moved_0 (cl_0 lo hi) (cl_1 lo hi) (lim x) (lim x)), Value.int IntKind.i64 (moved_1 (cl_0 lo hi) (cl_1 lo hi) (lim x) (lim x))]) 0 hF rfl rfl T46 rfl) ?_
  exact ⟨congrArg Ending.returned (vagg (lcons (vint (show (moved_0 (cl_0 lo hi) (cl_1 lo hi) (lim x) (lim x)) = shift_0 lo hi x by rw [shift_0])) (lcons (vint (show (moved_1 (cl_0 lo hi) (cl_1 lo hi) (lim x) (lim x)) = shift_1 lo hi x by rw [shift_1])) rfl))), hW.frm.below⟩

def widen_0 (lo : Int) (hi : Int) (x : Int) : Int := moved_0 (cl_0 lo hi) (cl_1 lo hi) (0 - (lim (max x 0))) (lim (max x 0))
def widen_1 (lo : Int) (hi : Int) (x : Int) : Int := moved_1 (cl_0 lo hi) (cl_1 lo hi) (0 - (lim (max x 0))) (lim (max x 0))
theorem widen_any (lo : Int) (hi : Int) (x : Int) (w : World)  :
    Calls Try.prog 37 #[Value.agg #[Value.int IntKind.i64 lo, Value.int IntKind.i64 hi], Value.int IntKind.i64 x] w fun e w' => e = .returned (Value.agg #[Value.int IntKind.i64 (widen_0 lo hi x), Value.int IntKind.i64 (widen_1 lo hi x)]) ∧ Below w.heap.size w w' := by
  refine enter Try.func37 rfl Try.ntmps37 rfl (fun a hF => ?_)
  have hW := Stw.start w
  refine c_seq ?_
  refine reg_list ?_
  refine l_box (cs := [Value.int IntKind.i64 lo, Value.int IntKind.i64 hi]) hF hW rfl rfl rfl (fun b1 a w hF hW => ?_)
  refine l_alloc (cs := [Value.int IntKind.i64 0, Value.int IntKind.i64 0]) hF hW rfl Z46 rfl (fun b2 a w hF hW => ?_)
  refine ls_nil ?_
  refine c_then ?_
  refine c_seq ?_
  refine reg_list ?_
  refine ls hF hW rfl (y_load (v := Value.agg #[Value.int IntKind.i64 lo, Value.int IntKind.i64 hi]) 1 hF rfl rfl T46 rfl) (fun a w hF hW => ?_)
  refine ls hF hW rfl (y_call (v := Value.agg #[Value.int IntKind.i64 (cl_0 lo hi), Value.int IntKind.i64 (cl_1 lo hi)]) hF H29 rfl (fun w _ => cl_any lo hi w )) (fun a w hF hW => ?_)
  have f1 := cl_bd (lo) (hi)
  refine ls hF hW rfl (y_move hF rfl) (fun a w hF hW => ?_)
  refine ls hF hW rfl (y_max hF rfl rfl) (fun a w hF hW => ?_)
  refine ls hF hW rfl (y_call (v := Value.int IntKind.i64 (lim (max x 0))) hF H68 rfl (fun w _ => lim_any (max x 0) w )) (fun a w hF hW => ?_)
  have f2 := lim_bd ((max x 0))
  refine l_store (vs := [Value.int IntKind.i64 (cl_0 lo hi), Value.int IntKind.i64 (cl_1 lo hi)]) (M' := [(b2, [Value.int IntKind.i64 0, Value.int IntKind.i64 0]), (b1, [Value.int IntKind.i64 (cl_0 lo hi), Value.int IntKind.i64 (cl_1 lo hi)])]) 1 hF hW rfl rfl rfl T46 rfl rfl rfl rfl rfl (fun w hW => ?_)
  refine ls hF hW rfl (y_assign hF rfl) (fun a w hF hW => ?_)
  refine ls_nil ?_
  refine c_then ?_
  refine c_seq ?_
  refine reg_list ?_
  refine ls hF hW rfl (y_load (v := Value.agg #[Value.int IntKind.i64 (cl_0 lo hi), Value.int IntKind.i64 (cl_1 lo hi)]) 1 hF rfl rfl T46 rfl) (fun a w hF hW => ?_)
  refine ls hF hW rfl (y_move hF rfl) (fun a w hF hW => ?_)
  refine ls hF hW rfl (y_neg hF rfl (r := 0 - (lim (max x 0))) (IntWalk.i64_in _ (by omega))) (fun a w hF hW => ?_)
  refine ls hF hW rfl (y_move hF rfl) (fun a w hF hW => ?_)
  refine ls hF hW rfl (y_call (v := Value.agg #[Value.int IntKind.i64 (moved_0 (cl_0 lo hi) (cl_1 lo hi) (0 - (lim (max x 0))) (lim (max x 0))), Value.int IntKind.i64 (moved_1 (cl_0 lo hi) (cl_1 lo hi) (0 - (lim (max x 0))) (lim (max x 0)))]) hF H70 rfl (fun w _ => moved_any (cl_0 lo hi) (cl_1 lo hi) (0 - (lim (max x 0))) (lim (max x 0)) w (by omega) (by omega) (by omega) (by omega) (by omega) (by omega) (by omega) (by omega))) (fun a w hF hW => ?_)
  refine l_store (vs := [Value.int IntKind.i64 (moved_0 (cl_0 lo hi) (cl_1 lo hi) (0 - (lim (max x 0))) (lim (max x 0))), Value.int IntKind.i64 (moved_1 (cl_0 lo hi) (cl_1 lo hi) (0 - (lim (max x 0))) (lim (max x 0)))]) (M' := [(b2, [Value.int IntKind.i64 (moved_0 (cl_0 lo hi) (cl_1 lo hi) (0 - (lim (max x 0))) (lim (max x 0))), Value.int IntKind.i64 (moved_1 (cl_0 lo hi) (cl_1 lo hi) (0 - (lim (max x 0))) (lim (max x 0)))]), (b1, [Value.int IntKind.i64 (cl_0 lo hi), Value.int IntKind.i64 (cl_1 lo hi)])]) 0 hF hW rfl rfl rfl T46 rfl rfl rfl rfl rfl (fun w hW => ?_)
  refine ls_nil ?_
  refine c_then ?_
  refine wp_ret ?_
  refine post1 (.inl rfl) hF hW rfl (rv_cell (v := Value.agg #[Value.int IntKind.i64 (moved_0 (cl_0 lo hi) (cl_1 lo hi) (0 - (lim (max x 0))) (lim (max x 0))), Value.int IntKind.i64 (moved_1 (cl_0 lo hi) (cl_1 lo hi) (0 - (lim (max x 0))) (lim (max x 0)))]) 0 hF rfl rfl T46 rfl) ?_
  exact ⟨congrArg Ending.returned (vagg (lcons (vint (show (moved_0 (cl_0 lo hi) (cl_1 lo hi) (0 - (lim (max x 0))) (lim (max x 0))) = widen_0 lo hi x by rw [widen_0])) (lcons (vint (show (moved_1 (cl_0 lo hi) (cl_1 lo hi) (0 - (lim (max x 0))) (lim (max x 0))) = widen_1 lo hi x by rw [widen_1])) rfl))), hW.frm.below⟩

def mid (lo : Int) (hi : Int) : Int := if (cl_0 lo hi) = 1 ∧ (cl_1 lo hi) = 0 then 0 else (cl_0 lo hi) + (((cl_1 lo hi) - (cl_0 lo hi)).tdiv 2)
theorem mid_any (lo : Int) (hi : Int) (w : World)  :
    Calls Try.prog 44 #[Value.agg #[Value.int IntKind.i64 lo, Value.int IntKind.i64 hi]] w fun e w' => e = .returned (Value.int IntKind.i64 (mid lo hi)) ∧ Below w.heap.size w w' := by
  refine enter Try.func44 rfl Try.ntmps44 rfl (fun a hF => ?_)
  have hW := Stw.start w
  refine c_seq ?_
  refine reg_list ?_
  refine l_box (cs := [Value.int IntKind.i64 lo, Value.int IntKind.i64 hi]) hF hW rfl rfl rfl (fun b1 a w hF hW => ?_)
  refine ls hF hW rfl (y_assign hF rfl) (fun a w hF hW => ?_)
  refine ls_nil ?_
  refine c_then ?_
  refine c_seq ?_
  refine reg_list ?_
  refine ls hF hW rfl (y_load (v := Value.agg #[Value.int IntKind.i64 lo, Value.int IntKind.i64 hi]) 0 hF rfl rfl T46 rfl) (fun a w hF hW => ?_)
  refine ls hF hW rfl (y_call (v := Value.agg #[Value.int IntKind.i64 (cl_0 lo hi), Value.int IntKind.i64 (cl_1 lo hi)]) hF H29 rfl (fun w _ => cl_any lo hi w )) (fun a w hF hW => ?_)
  have f1 := cl_bd (lo) (hi)
  refine l_store (vs := [Value.int IntKind.i64 (cl_0 lo hi), Value.int IntKind.i64 (cl_1 lo hi)]) (M' := [(b1, [Value.int IntKind.i64 (cl_0 lo hi), Value.int IntKind.i64 (cl_1 lo hi)])]) 0 hF hW rfl rfl rfl T46 rfl rfl rfl rfl rfl (fun w hW => ?_)
  refine ls_nil ?_
  refine c_then ?_
  refine c_seq ?_
  refine c_seq ?_
  refine reg_quiet hW MO (by kernel_rfl) ?_
  refine qs hF rfl (y_load (v := Value.agg #[Value.int IntKind.i64 (cl_0 lo hi), Value.int IntKind.i64 (cl_1 lo hi)]) 0 hF rfl rfl T46 rfl) (fun a hF => ?_)
  refine qs hF rfl (y_call (v := Value.agg #[Value.int IntKind.i64 1, Value.int IntKind.i64 0]) hF H49 rfl (fun w _ => nothing_any  w )) (fun a hF => ?_)
  refine qs hF rfl (y_eqa (t := decide ((cl_0 lo hi) = 1 ∧ (cl_1 lo hi) = 0)) G46 (E46 _ _ _ _) hF rfl rfl) (fun a hF => ?_)
  refine quiet_end (fun w hW => ?_)
  refine c_then ?_
  refine c_cond hF rfl (fun hb => ?_) (fun hb => ?_)
  ·
    have c1 := of_decide_eq_true hb
    simp only [hb] at hF
    clear hb
    refine c_seq ?_
    refine reg_list ?_
    refine ls hF hW rfl (y_assign hF rfl) (fun a w hF hW => ?_)
    refine ls_nil ?_
    refine c_then ?_
    refine wp_ret ?_
    refine r_then ?_
    refine post1 (.inl rfl) hF hW rfl (rv_tmp hF rfl) ?_
    exact ⟨congrArg Ending.returned (vint (show (0) = mid lo hi by rw [mid, if_pos c1])), hW.frm.below⟩
  ·
    have c1 := of_decide_eq_false hb
    simp only [hb] at hF
    clear hb
    refine wp_skip ?_
    refine c_then ?_
    refine c_seq ?_
    refine reg_list ?_
    refine ls hF hW rfl (y_fieldAddr Try.underlying46 rfl rfl rfl T3 hF rfl 0 rfl) (fun a w hF hW => ?_)
    refine ls hF hW rfl (y_load (v := Value.int IntKind.i64 (cl_0 lo hi)) 0 hF rfl rfl T3 rfl) (fun a w hF hW => ?_)
    refine ls hF hW rfl (y_fieldAddr Try.underlying46 rfl rfl rfl T3 hF rfl 1 rfl) (fun a w hF hW => ?_)
    refine ls hF hW rfl (y_load (v := Value.int IntKind.i64 (cl_1 lo hi)) 0 hF rfl rfl T3 rfl) (fun a w hF hW => ?_)
    refine ls hF hW rfl (y_fieldAddr Try.underlying46 rfl rfl rfl T3 hF rfl 0 rfl) (fun a w hF hW => ?_)
    refine ls hF hW rfl (y_load (v := Value.int IntKind.i64 (cl_0 lo hi)) 0 hF rfl rfl T3 rfl) (fun a w hF hW => ?_)
    refine ls hF hW rfl (y_sub hF rfl rfl (r := (cl_1 lo hi) - (cl_0 lo hi)) (IntWalk.i64_in _ (by omega))) (fun a w hF hW => ?_)
    have f2 := tdiv_lit ((cl_1 lo hi) - (cl_0 lo hi)) 2 (by decide)
    refine ls hF hW rfl (y_quo hF rfl rfl (by decide) (r := ((cl_1 lo hi) - (cl_0 lo hi)).tdiv 2) (IntWalk.i64_in _ (by omega))) (fun a w hF hW => ?_)
    refine ls hF hW rfl (y_add hF rfl rfl (r := (cl_0 lo hi) + (((cl_1 lo hi) - (cl_0 lo hi)).tdiv 2)) (IntWalk.i64_in _ (by omega))) (fun a w hF hW => ?_)
    refine ls hF hW rfl (y_assign hF rfl) (fun a w hF hW => ?_)
    refine ls_nil ?_
    refine c_then ?_
    refine wp_ret ?_
    refine post1 (.inl rfl) hF hW rfl (rv_tmp hF rfl) ?_
    exact ⟨congrArg Ending.returned (vint (show ((cl_0 lo hi) + (((cl_1 lo hi) - (cl_0 lo hi)).tdiv 2)) = mid lo hi by rw [mid, if_neg c1])), hW.frm.below⟩

theorem cl_ord (lo hi : Int) : (cl_0 lo hi = 1 ∧ cl_1 lo hi = 0) ∨ cl_0 lo hi ≤ cl_1 lo hi := by unfold cl_0 cl_1; split <;> omega
theorem mid_bd (lo hi : Int) : -4503599627370496 ≤ mid lo hi ∧ mid lo hi ≤ 4503599627370496 := by
  have := cl_bd lo hi
  have := cl_ord lo hi
  have := tdiv_lit (cl_1 lo hi - cl_0 lo hi) 2 (by decide)
  unfold mid
  by_cases h : cl_0 lo hi = 1 ∧ cl_1 lo hi = 0
  · rw [if_pos h]; omega
  · rw [if_neg h]; omega
def half (lo : Int) (hi : Int) : Int := if (cl_0 lo hi) = 1 ∧ (cl_1 lo hi) = 0 then 0 else (cl_1 lo hi) - (mid (cl_0 lo hi) (cl_1 lo hi))
theorem half_any (lo : Int) (hi : Int) (w : World)  :
    Calls Try.prog 47 #[Value.agg #[Value.int IntKind.i64 lo, Value.int IntKind.i64 hi]] w fun e w' => e = .returned (Value.int IntKind.i64 (half lo hi)) ∧ Below w.heap.size w w' := by
  refine enter Try.func47 rfl Try.ntmps47 rfl (fun a hF => ?_)
  have hW := Stw.start w
  refine c_seq ?_
  refine reg_list ?_
  refine l_box (cs := [Value.int IntKind.i64 lo, Value.int IntKind.i64 hi]) hF hW rfl rfl rfl (fun b1 a w hF hW => ?_)
  refine ls hF hW rfl (y_assign hF rfl) (fun a w hF hW => ?_)
  refine ls_nil ?_
  refine c_then ?_
  refine c_seq ?_
  refine reg_list ?_
  refine ls hF hW rfl (y_load (v := Value.agg #[Value.int IntKind.i64 lo, Value.int IntKind.i64 hi]) 0 hF rfl rfl T46 rfl) (fun a w hF hW => ?_)
  refine ls hF hW rfl (y_call (v := Value.agg #[Value.int IntKind.i64 (cl_0 lo hi), Value.int IntKind.i64 (cl_1 lo hi)]) hF H29 rfl (fun w _ => cl_any lo hi w )) (fun a w hF hW => ?_)
  have f1 := cl_bd (lo) (hi)
  refine l_store (vs := [Value.int IntKind.i64 (cl_0 lo hi), Value.int IntKind.i64 (cl_1 lo hi)]) (M' := [(b1, [Value.int IntKind.i64 (cl_0 lo hi), Value.int IntKind.i64 (cl_1 lo hi)])]) 0 hF hW rfl rfl rfl T46 rfl rfl rfl rfl rfl (fun w hW => ?_)
  refine ls_nil ?_
  refine c_then ?_
  refine c_seq ?_
  refine c_seq ?_
  refine reg_quiet hW MO (by kernel_rfl) ?_
  refine qs hF rfl (y_load (v := Value.agg #[Value.int IntKind.i64 (cl_0 lo hi), Value.int IntKind.i64 (cl_1 lo hi)]) 0 hF rfl rfl T46 rfl) (fun a hF => ?_)
  refine qs hF rfl (y_call (v := Value.agg #[Value.int IntKind.i64 1, Value.int IntKind.i64 0]) hF H49 rfl (fun w _ => nothing_any  w )) (fun a hF => ?_)
  refine qs hF rfl (y_eqa (t := decide ((cl_0 lo hi) = 1 ∧ (cl_1 lo hi) = 0)) G46 (E46 _ _ _ _) hF rfl rfl) (fun a hF => ?_)
  refine quiet_end (fun w hW => ?_)
  refine c_then ?_
  refine c_cond hF rfl (fun hb => ?_) (fun hb => ?_)
  ·
    have c1 := of_decide_eq_true hb
    simp only [hb] at hF
    clear hb
    refine c_seq ?_
    refine reg_list ?_
    refine ls hF hW rfl (y_assign hF rfl) (fun a w hF hW => ?_)
    refine ls_nil ?_
    refine c_then ?_
    refine wp_ret ?_
    refine r_then ?_
    refine post1 (.inl rfl) hF hW rfl (rv_tmp hF rfl) ?_
    exact ⟨congrArg Ending.returned (vint (show (0) = half lo hi by rw [half, if_pos c1])), hW.frm.below⟩
  ·
    have c1 := of_decide_eq_false hb
    simp only [hb] at hF
    clear hb
    refine wp_skip ?_
    refine c_then ?_
    refine c_seq ?_
    refine reg_quiet hW MO (by kernel_rfl) ?_
    refine qs hF rfl (y_fieldAddr Try.underlying46 rfl rfl rfl T3 hF rfl 1 rfl) (fun a hF => ?_)
    refine qs hF rfl (y_load (v := Value.int IntKind.i64 (cl_1 lo hi)) 0 hF rfl rfl T3 rfl) (fun a hF => ?_)
    refine qs hF rfl (y_load (v := Value.agg #[Value.int IntKind.i64 (cl_0 lo hi), Value.int IntKind.i64 (cl_1 lo hi)]) 0 hF rfl rfl T46 rfl) (fun a hF => ?_)
    refine qs hF rfl (y_call (v := Value.int IntKind.i64 (mid (cl_0 lo hi) (cl_1 lo hi))) hF H44 rfl (fun w _ => mid_any (cl_0 lo hi) (cl_1 lo hi) w )) (fun a hF => ?_)
    have f2 := mid_bd ((cl_0 lo hi)) ((cl_1 lo hi))
    refine qs hF rfl (y_sub hF rfl rfl (r := (cl_1 lo hi) - (mid (cl_0 lo hi) (cl_1 lo hi))) (IntWalk.i64_in _ (by omega))) (fun a hF => ?_)
    refine qs hF rfl (y_assign hF rfl) (fun a hF => ?_)
    refine quiet_end (fun w hW => ?_)
    refine c_then ?_
    refine wp_ret ?_
    refine post1 (.inl rfl) hF hW rfl (rv_tmp hF rfl) ?_
    exact ⟨congrArg Ending.returned (vint (show ((cl_1 lo hi) - (mid (cl_0 lo hi) (cl_1 lo hi))) = half lo hi by rw [half, if_neg c1])), hW.frm.below⟩

def near (n : Int) : Int := if 4503599627370496 < n then 4503599627370496 else if n < (-4503599627370496) then (-4503599627370496) else n
theorem near_any (n : Int) (w : World)  :
    Calls Try.prog 69 #[Value.int IntKind.i64 n] w fun e w' => e = .returned (Value.int IntKind.i64 (near n)) ∧ Below w.heap.size w w' := by
  refine enter Try.func69 rfl Try.ntmps69 rfl (fun a hF => ?_)
  have hW := Stw.start w
  refine c_seq ?_
  refine reg_list ?_
  refine ls hF hW rfl (y_assign hF rfl) (fun a w hF hW => ?_)
  refine ls_nil ?_
  refine c_then ?_
  refine c_seq ?_
  refine c_seq ?_
  refine reg_list ?_
  refine ls hF hW rfl (y_move hF rfl) (fun a w hF hW => ?_)
  refine ls hF hW rfl (y_gtr hF rfl rfl) (fun a w hF hW => ?_)
  refine ls_nil ?_
  refine c_then ?_
  refine c_cond hF rfl (fun hb => ?_) (fun hb => ?_)
  ·
    have c1 := of_decide_eq_true hb
    simp only [hb] at hF
    clear hb
    refine c_seq ?_
    refine reg_list ?_
    refine ls hF hW rfl (y_assign hF rfl) (fun a w hF hW => ?_)
    refine ls_nil ?_
    refine c_then ?_
    refine wp_ret ?_
    refine r_then ?_
    refine post1 (.inl rfl) hF hW rfl (rv_tmp hF rfl) ?_
    exact ⟨congrArg Ending.returned (vint (show (4503599627370496) = near n by rw [near, if_pos c1])), hW.frm.below⟩
  ·
    have c1 := of_decide_eq_false hb
    simp only [hb] at hF
    clear hb
    refine wp_skip ?_
    refine c_then ?_
    refine c_seq ?_
    refine c_seq ?_
    refine reg_list ?_
    refine ls hF hW rfl (y_move hF rfl) (fun a w hF hW => ?_)
    refine ls hF hW rfl (y_lss hF rfl rfl) (fun a w hF hW => ?_)
    refine ls_nil ?_
    refine c_then ?_
    refine c_cond hF rfl (fun hb => ?_) (fun hb => ?_)
    ·
      have c2 := of_decide_eq_true hb
      simp only [hb] at hF
      clear hb
      refine c_seq ?_
      refine reg_list ?_
      refine ls hF hW rfl (y_assign hF rfl) (fun a w hF hW => ?_)
      refine ls_nil ?_
      refine c_then ?_
      refine wp_ret ?_
      refine r_then ?_
      refine post1 (.inl rfl) hF hW rfl (rv_tmp hF rfl) ?_
      exact ⟨congrArg Ending.returned (vint (show ((-4503599627370496)) = near n by rw [near, if_neg c1, if_pos c2])), hW.frm.below⟩
    ·
      have c2 := of_decide_eq_false hb
      simp only [hb] at hF
      clear hb
      refine wp_skip ?_
      refine c_then ?_
      refine c_seq ?_
      refine reg_list ?_
      refine ls hF hW rfl (y_move hF rfl) (fun a w hF hW => ?_)
      refine ls hF hW rfl (y_assign hF rfl) (fun a w hF hW => ?_)
      refine ls_nil ?_
      refine c_then ?_
      refine wp_ret ?_
      refine post1 (.inl rfl) hF hW rfl (rv_tmp hF rfl) ?_
      exact ⟨congrArg Ending.returned (vint (show (n) = near n by rw [near, if_neg c1, if_neg c2])), hW.frm.below⟩

theorem near_bd (n : Int) : -4503599627370496 ≤ near n ∧ near n ≤ 4503599627370496 := by unfold near; repeat (split <;> try omega)
def rcl_0 (lo : Int) (hi : Int) : Int := if (near hi) < (near lo) then 1 else near lo
def rcl_1 (lo : Int) (hi : Int) : Int := if (near hi) < (near lo) then 0 else near hi
theorem rcl_any (lo : Int) (hi : Int) (w : World)  :
    Calls Try.prog 30 #[Value.agg #[Value.int IntKind.i64 lo, Value.int IntKind.i64 hi]] w fun e w' => e = .returned (Value.agg #[Value.int IntKind.i64 (rcl_0 lo hi), Value.int IntKind.i64 (rcl_1 lo hi)]) ∧ Below w.heap.size w w' := by
  refine enter Try.func30 rfl Try.ntmps30 rfl (fun a hF => ?_)
  have hW := Stw.start w
  refine c_seq ?_
  refine reg_list ?_
  refine l_box (cs := [Value.int IntKind.i64 lo, Value.int IntKind.i64 hi]) hF hW rfl rfl rfl (fun b1 a w hF hW => ?_)
  refine l_alloc (cs := [Value.int IntKind.i64 0, Value.int IntKind.i64 0]) hF hW rfl Z45 rfl (fun b2 a w hF hW => ?_)
  refine ls_nil ?_
  refine c_then ?_
  refine c_seq ?_
  refine reg_quiet hW MO (by kernel_rfl) ?_
  refine qs hF rfl (y_fieldAddr Try.underlying45 rfl rfl rfl T3 hF rfl 0 rfl) (fun a hF => ?_)
  refine qs hF rfl (y_load (v := Value.int IntKind.i64 lo) 1 hF rfl rfl T3 rfl) (fun a hF => ?_)
  refine qs hF rfl (y_call (v := Value.int IntKind.i64 (near lo)) hF H69 rfl (fun w _ => near_any lo w )) (fun a hF => ?_)
  have f1 := near_bd (lo)
  refine qs hF rfl (y_fieldAddr Try.underlying45 rfl rfl rfl T3 hF rfl 1 rfl) (fun a hF => ?_)
  refine qs hF rfl (y_load (v := Value.int IntKind.i64 hi) 1 hF rfl rfl T3 rfl) (fun a hF => ?_)
  refine qs hF rfl (y_call (v := Value.int IntKind.i64 (near hi)) hF H69 rfl (fun w _ => near_any hi w )) (fun a hF => ?_)
  have f2 := near_bd (hi)
  refine qs hF rfl (y_assign hF rfl) (fun a hF => ?_)
  refine qs hF rfl (y_assign hF rfl) (fun a hF => ?_)
  refine quiet_end (fun w hW => ?_)
  refine c_then ?_
  refine c_seq ?_
  refine c_seq ?_
  refine reg_list ?_
  refine ls hF hW rfl (y_move hF rfl) (fun a w hF hW => ?_)
  refine ls hF hW rfl (y_move hF rfl) (fun a w hF hW => ?_)
  refine ls hF hW rfl (y_gtr hF rfl rfl) (fun a w hF hW => ?_)
  refine ls_nil ?_
  refine c_then ?_
  refine c_cond hF rfl (fun hb => ?_) (fun hb => ?_)
  ·
    have c1 := of_decide_eq_true hb
    simp only [hb] at hF
    clear hb
    refine c_seq ?_
    refine reg_list ?_
    refine ls hF hW rfl (y_build (v := Value.agg #[Value.int IntKind.i64 1, Value.int IntKind.i64 0]) B45 hF rfl rfl rfl) (fun a w hF hW => ?_)
    refine l_store (vs := [Value.int IntKind.i64 1, Value.int IntKind.i64 0]) (M' := [(b2, [Value.int IntKind.i64 1, Value.int IntKind.i64 0]), (b1, [Value.int IntKind.i64 lo, Value.int IntKind.i64 hi])]) 0 hF hW rfl rfl rfl T45 rfl rfl rfl rfl rfl (fun w hW => ?_)
    refine ls_nil ?_
    refine c_then ?_
    refine wp_ret ?_
    refine r_then ?_
    refine post1 (.inl rfl) hF hW rfl (rv_cell (v := Value.agg #[Value.int IntKind.i64 1, Value.int IntKind.i64 0]) 0 hF rfl rfl T45 rfl) ?_
    exact ⟨congrArg Ending.returned (vagg (lcons (vint (show (1) = rcl_0 lo hi by rw [rcl_0, if_pos c1])) (lcons (vint (show (0) = rcl_1 lo hi by rw [rcl_1, if_pos c1])) rfl))), hW.frm.below⟩
  ·
    have c1 := of_decide_eq_false hb
    simp only [hb] at hF
    clear hb
    refine wp_skip ?_
    refine c_then ?_
    refine c_seq ?_
    refine reg_list ?_
    refine ls hF hW rfl (y_move hF rfl) (fun a w hF hW => ?_)
    refine ls hF hW rfl (y_move hF rfl) (fun a w hF hW => ?_)
    refine ls hF hW rfl (y_build (v := Value.agg #[Value.int IntKind.i64 (near lo), Value.int IntKind.i64 (near hi)]) B45 hF rfl rfl rfl) (fun a w hF hW => ?_)
    refine l_store (vs := [Value.int IntKind.i64 (near lo), Value.int IntKind.i64 (near hi)]) (M' := [(b2, [Value.int IntKind.i64 (near lo), Value.int IntKind.i64 (near hi)]), (b1, [Value.int IntKind.i64 lo, Value.int IntKind.i64 hi])]) 0 hF hW rfl rfl rfl T45 rfl rfl rfl rfl rfl (fun w hW => ?_)
    refine ls_nil ?_
    refine c_then ?_
    refine wp_ret ?_
    refine post1 (.inl rfl) hF hW rfl (rv_cell (v := Value.agg #[Value.int IntKind.i64 (near lo), Value.int IntKind.i64 (near hi)]) 0 hF rfl rfl T45 rfl) ?_
    exact ⟨congrArg Ending.returned (vagg (lcons (vint (show (near lo) = rcl_0 lo hi by rw [rcl_0, if_neg c1])) (lcons (vint (show (near hi) = rcl_1 lo hi by rw [rcl_1, if_neg c1])) rfl))), hW.frm.below⟩

theorem rcl_bd (lo hi : Int) : -4503599627370496 ≤ rcl_0 lo hi ∧ rcl_0 lo hi ≤ 4503599627370496 ∧ -4503599627370496 ≤ rcl_1 lo hi ∧ rcl_1 lo hi ≤ 4503599627370496 := by have := near_bd lo; have := near_bd hi; unfold rcl_0 rcl_1; split <;> omega
def rempty (lo : Int) (hi : Int) : Bool := decide ((near hi) < (near lo))
theorem rempty_any (lo : Int) (hi : Int) (w : World)  :
    Calls Try.prog 42 #[Value.agg #[Value.int IntKind.i64 lo, Value.int IntKind.i64 hi]] w fun e w' => e = .returned (Value.bool (rempty lo hi)) ∧ Below w.heap.size w w' := by
  refine enter Try.func42 rfl Try.ntmps42 rfl (fun a hF => ?_)
  have hW := Stw.start w
  refine c_seq ?_
  refine reg_list ?_
  refine l_box (cs := [Value.int IntKind.i64 lo, Value.int IntKind.i64 hi]) hF hW rfl rfl rfl (fun b1 a w hF hW => ?_)
  refine ls hF hW rfl (y_assign hF rfl) (fun a w hF hW => ?_)
  refine ls_nil ?_
  refine c_then ?_
  refine c_seq ?_
  refine reg_quiet hW MO (by kernel_rfl) ?_
  refine qs hF rfl (y_fieldAddr Try.underlying45 rfl rfl rfl T3 hF rfl 1 rfl) (fun a hF => ?_)
  refine qs hF rfl (y_load (v := Value.int IntKind.i64 hi) 0 hF rfl rfl T3 rfl) (fun a hF => ?_)
  refine qs hF rfl (y_call (v := Value.int IntKind.i64 (near hi)) hF H69 rfl (fun w _ => near_any hi w )) (fun a hF => ?_)
  have f1 := near_bd (hi)
  refine qs hF rfl (y_fieldAddr Try.underlying45 rfl rfl rfl T3 hF rfl 0 rfl) (fun a hF => ?_)
  refine qs hF rfl (y_load (v := Value.int IntKind.i64 lo) 0 hF rfl rfl T3 rfl) (fun a hF => ?_)
  refine qs hF rfl (y_call (v := Value.int IntKind.i64 (near lo)) hF H69 rfl (fun w _ => near_any lo w )) (fun a hF => ?_)
  have f2 := near_bd (lo)
  refine qs hF rfl (y_lss hF rfl rfl) (fun a hF => ?_)
  refine qs hF rfl (y_assign hF rfl) (fun a hF => ?_)
  refine quiet_end (fun w hW => ?_)
  refine c_then ?_
  refine wp_ret ?_
  refine post1 (.inl rfl) hF hW rfl (rv_tmp hF rfl) ?_
  exact ⟨congrArg Ending.returned (vbool (show (decide ((near hi) < (near lo))) = rempty lo hi by rw [rempty])), hW.frm.below⟩

def rhas (lo : Int) (hi : Int) (x : Int) : Bool := if (rcl_0 lo hi) ≤ (near x) then decide ((near x) ≤ (rcl_1 lo hi)) else false
theorem rhas_any (lo : Int) (hi : Int) (x : Int) (w : World)  :
    Calls Try.prog 40 #[Value.agg #[Value.int IntKind.i64 lo, Value.int IntKind.i64 hi], Value.int IntKind.i64 x] w fun e w' => e = .returned (Value.bool (rhas lo hi x)) ∧ Below w.heap.size w w' := by
  refine enter Try.func40 rfl Try.ntmps40 rfl (fun a hF => ?_)
  have hW := Stw.start w
  refine c_seq ?_
  refine reg_list ?_
  refine l_box (cs := [Value.int IntKind.i64 lo, Value.int IntKind.i64 hi]) hF hW rfl rfl rfl (fun b1 a w hF hW => ?_)
  refine ls hF hW rfl (y_assign hF rfl) (fun a w hF hW => ?_)
  refine ls_nil ?_
  refine c_then ?_
  refine c_seq ?_
  refine reg_list ?_
  refine ls hF hW rfl (y_load (v := Value.agg #[Value.int IntKind.i64 lo, Value.int IntKind.i64 hi]) 0 hF rfl rfl T45 rfl) (fun a w hF hW => ?_)
  refine ls hF hW rfl (y_call (v := Value.agg #[Value.int IntKind.i64 (rcl_0 lo hi), Value.int IntKind.i64 (rcl_1 lo hi)]) hF H30 rfl (fun w _ => rcl_any lo hi w )) (fun a w hF hW => ?_)
  have f1 := rcl_bd (lo) (hi)
  refine l_alloc (cs := [Value.int IntKind.i64 0, Value.int IntKind.i64 0]) hF hW rfl Z45 rfl (fun b2 a w hF hW => ?_)
  refine l_store (vs := [Value.int IntKind.i64 (rcl_0 lo hi), Value.int IntKind.i64 (rcl_1 lo hi)]) (M' := [(b2, [Value.int IntKind.i64 (rcl_0 lo hi), Value.int IntKind.i64 (rcl_1 lo hi)]), (b1, [Value.int IntKind.i64 lo, Value.int IntKind.i64 hi])]) 0 hF hW rfl rfl rfl T45 rfl rfl rfl rfl rfl (fun w hW => ?_)
  refine ls_nil ?_
  refine c_then ?_
  refine c_seq ?_
  refine reg_quiet hW MO (by kernel_rfl) ?_
  refine qs hF rfl (y_move hF rfl) (fun a hF => ?_)
  refine qs hF rfl (y_call (v := Value.int IntKind.i64 (near x)) hF H69 rfl (fun w _ => near_any x w )) (fun a hF => ?_)
  have f2 := near_bd (x)
  refine qs hF rfl (y_fieldAddr Try.underlying45 rfl rfl rfl T3 hF rfl 0 rfl) (fun a hF => ?_)
  refine qs hF rfl (y_load (v := Value.int IntKind.i64 (rcl_0 lo hi)) 0 hF rfl rfl T3 rfl) (fun a hF => ?_)
  refine qs hF rfl (y_geq hF rfl rfl) (fun a hF => ?_)
  refine qs hF rfl (y_move hF rfl) (fun a hF => ?_)
  rcases Bool.eq_false_or_eq_true (decide ((rcl_0 lo hi) ≤ (near x))) with hb | hb
  ·
    have c1 := of_decide_eq_true hb
    simp only [hb] at hF
    clear hb
    refine qs_w hF (wanted_y hF rfl rfl rfl rfl) rfl (Nat.le_of_ble_eq_true rfl) (y_move hF rfl) (fun a hF => ?_)
    refine qs_w hF (wanted_y hF rfl rfl rfl rfl) rfl (Nat.le_of_ble_eq_true rfl) (y_call (v := Value.int IntKind.i64 (near x)) hF H69 rfl (fun w _ => near_any x w )) (fun a hF => ?_)
    have f3 := near_bd (x)
    refine qs_w hF (wanted_y hF rfl rfl rfl rfl) rfl (Nat.le_of_ble_eq_true rfl) (y_fieldAddr Try.underlying45 rfl rfl rfl T3 hF rfl 1 rfl) (fun a hF => ?_)
    refine qs_w hF (wanted_y hF rfl rfl rfl rfl) rfl (Nat.le_of_ble_eq_true rfl) (y_load (v := Value.int IntKind.i64 (rcl_1 lo hi)) 0 hF rfl rfl T3 rfl) (fun a hF => ?_)
    refine qs_w hF (wanted_y hF rfl rfl rfl rfl) rfl (Nat.le_of_ble_eq_true rfl) (y_leq hF rfl rfl) (fun a hF => ?_)
    refine qs hF rfl (y_pick_t hF rfl rfl rfl) (fun a hF => ?_)
    refine qs hF rfl (y_assign hF rfl) (fun a hF => ?_)
    refine quiet_end (fun w hW => ?_)
    refine c_then ?_
    refine wp_ret ?_
    refine post1 (.inl rfl) hF hW rfl (rv_tmp hF rfl) ?_
    exact ⟨congrArg Ending.returned (vbool (show (decide ((near x) ≤ (rcl_1 lo hi))) = rhas lo hi x by rw [rhas, if_pos c1])), hW.frm.below⟩
  ·
    have c1 := of_decide_eq_false hb
    simp only [hb] at hF
    clear hb
    refine qs_skip hF (wanted_n hF rfl rfl rfl rfl rfl) rfl rfl (fun a hF => ?_)
    refine qs_skip hF (wanted_n hF rfl rfl rfl rfl rfl) rfl rfl (fun a hF => ?_)
    refine qs_skip hF (wanted_n hF rfl rfl rfl rfl rfl) rfl rfl (fun a hF => ?_)
    refine qs_skip hF (wanted_n hF rfl rfl rfl rfl rfl) rfl rfl (fun a hF => ?_)
    refine qs_skip hF (wanted_n hF rfl rfl rfl rfl rfl) rfl rfl (fun a hF => ?_)
    refine qs hF rfl (y_pick_f hF rfl rfl rfl) (fun a hF => ?_)
    refine qs hF rfl (y_assign hF rfl) (fun a hF => ?_)
    refine quiet_end (fun w hW => ?_)
    refine c_then ?_
    refine wp_ret ?_
    refine post1 (.inl rfl) hF hW rfl (rv_tmp hF rfl) ?_
    exact ⟨congrArg Ending.returned (vbool (show (false) = rhas lo hi x by rw [rhas, if_neg c1])), hW.frm.below⟩

def rmeet_0 (lo : Int) (hi : Int) (lo2 : Int) (hi2 : Int) : Int := if (rcl_0 lo hi) < (rcl_0 lo2 hi2) then if (rcl_1 lo2 hi2) < (rcl_1 lo hi) then rcl_0 (rcl_0 lo2 hi2) (rcl_1 lo2 hi2) else rcl_0 (rcl_0 lo2 hi2) (rcl_1 lo hi) else if (rcl_1 lo2 hi2) < (rcl_1 lo hi) then rcl_0 (rcl_0 lo hi) (rcl_1 lo2 hi2) else rcl_0 (rcl_0 lo hi) (rcl_1 lo hi)
def rmeet_1 (lo : Int) (hi : Int) (lo2 : Int) (hi2 : Int) : Int := if (rcl_0 lo hi) < (rcl_0 lo2 hi2) then if (rcl_1 lo2 hi2) < (rcl_1 lo hi) then rcl_1 (rcl_0 lo2 hi2) (rcl_1 lo2 hi2) else rcl_1 (rcl_0 lo2 hi2) (rcl_1 lo hi) else if (rcl_1 lo2 hi2) < (rcl_1 lo hi) then rcl_1 (rcl_0 lo hi) (rcl_1 lo2 hi2) else rcl_1 (rcl_0 lo hi) (rcl_1 lo hi)
theorem rmeet_any (lo : Int) (hi : Int) (lo2 : Int) (hi2 : Int) (w : World)  :
    Calls Try.prog 32 #[Value.agg #[Value.int IntKind.i64 lo, Value.int IntKind.i64 hi], Value.agg #[Value.int IntKind.i64 lo2, Value.int IntKind.i64 hi2]] w fun e w' => e = .returned (Value.agg #[Value.int IntKind.i64 (rmeet_0 lo hi lo2 hi2), Value.int IntKind.i64 (rmeet_1 lo hi lo2 hi2)]) ∧ Below w.heap.size w w' := by
  refine enter Try.func32 rfl Try.ntmps32 rfl (fun a hF => ?_)
  have hW := Stw.start w
  refine c_seq ?_
  refine reg_list ?_
  refine l_box (cs := [Value.int IntKind.i64 lo, Value.int IntKind.i64 hi]) hF hW rfl rfl rfl (fun b1 a w hF hW => ?_)
  refine l_box (cs := [Value.int IntKind.i64 lo2, Value.int IntKind.i64 hi2]) hF hW rfl rfl rfl (fun b2 a w hF hW => ?_)
  refine l_alloc (cs := [Value.int IntKind.i64 0, Value.int IntKind.i64 0]) hF hW rfl Z45 rfl (fun b3 a w hF hW => ?_)
  refine ls_nil ?_
  refine c_then ?_
  refine c_seq ?_
  refine reg_list ?_
  refine ls hF hW rfl (y_load (v := Value.agg #[Value.int IntKind.i64 lo, Value.int IntKind.i64 hi]) 2 hF rfl rfl T45 rfl) (fun a w hF hW => ?_)
  refine ls hF hW rfl (y_call (v := Value.agg #[Value.int IntKind.i64 (rcl_0 lo hi), Value.int IntKind.i64 (rcl_1 lo hi)]) hF H30 rfl (fun w _ => rcl_any lo hi w )) (fun a w hF hW => ?_)
  have f1 := rcl_bd (lo) (hi)
  refine l_store (vs := [Value.int IntKind.i64 (rcl_0 lo hi), Value.int IntKind.i64 (rcl_1 lo hi)]) (M' := [(b3, [Value.int IntKind.i64 0, Value.int IntKind.i64 0]), (b2, [Value.int IntKind.i64 lo2, Value.int IntKind.i64 hi2]), (b1, [Value.int IntKind.i64 (rcl_0 lo hi), Value.int IntKind.i64 (rcl_1 lo hi)])]) 2 hF hW rfl rfl rfl T45 rfl rfl rfl rfl rfl (fun w hW => ?_)
  refine ls_nil ?_
  refine c_then ?_
  refine c_seq ?_
  refine reg_list ?_
  refine ls hF hW rfl (y_load (v := Value.agg #[Value.int IntKind.i64 lo2, Value.int IntKind.i64 hi2]) 1 hF rfl rfl T45 rfl) (fun a w hF hW => ?_)
  refine ls hF hW rfl (y_call (v := Value.agg #[Value.int IntKind.i64 (rcl_0 lo2 hi2), Value.int IntKind.i64 (rcl_1 lo2 hi2)]) hF H30 rfl (fun w _ => rcl_any lo2 hi2 w )) (fun a w hF hW => ?_)
  have f2 := rcl_bd (lo2) (hi2)
  refine l_store (vs := [Value.int IntKind.i64 (rcl_0 lo2 hi2), Value.int IntKind.i64 (rcl_1 lo2 hi2)]) (M' := [(b3, [Value.int IntKind.i64 0, Value.int IntKind.i64 0]), (b2, [Value.int IntKind.i64 (rcl_0 lo2 hi2), Value.int IntKind.i64 (rcl_1 lo2 hi2)]), (b1, [Value.int IntKind.i64 (rcl_0 lo hi), Value.int IntKind.i64 (rcl_1 lo hi)])]) 1 hF hW rfl rfl rfl T45 rfl rfl rfl rfl rfl (fun w hW => ?_)
  refine ls_nil ?_
  refine c_then ?_
  refine c_seq ?_
  refine reg_list ?_
  refine ls hF hW rfl (y_load (v := Value.agg #[Value.int IntKind.i64 (rcl_0 lo hi), Value.int IntKind.i64 (rcl_1 lo hi)]) 2 hF rfl rfl T45 rfl) (fun a w hF hW => ?_)
  refine l_alloc (cs := [Value.int IntKind.i64 0, Value.int IntKind.i64 0]) hF hW rfl Z45 rfl (fun b4 a w hF hW => ?_)
  refine l_store (vs := [Value.int IntKind.i64 (rcl_0 lo hi), Value.int IntKind.i64 (rcl_1 lo hi)]) (M' := [(b4, [Value.int IntKind.i64 (rcl_0 lo hi), Value.int IntKind.i64 (rcl_1 lo hi)]), (b3, [Value.int IntKind.i64 0, Value.int IntKind.i64 0]), (b2, [Value.int IntKind.i64 (rcl_0 lo2 hi2), Value.int IntKind.i64 (rcl_1 lo2 hi2)]), (b1, [Value.int IntKind.i64 (rcl_0 lo hi), Value.int IntKind.i64 (rcl_1 lo hi)])]) 0 hF hW rfl rfl rfl T45 rfl rfl rfl rfl rfl (fun w hW => ?_)
  refine ls_nil ?_
  refine c_then ?_
  refine c_seq ?_
  refine c_seq ?_
  refine reg_list ?_
  refine ls hF hW rfl (y_fieldAddr Try.underlying45 rfl rfl rfl T3 hF rfl 0 rfl) (fun a w hF hW => ?_)
  refine ls hF hW rfl (y_load (v := Value.int IntKind.i64 (rcl_0 lo2 hi2)) 2 hF rfl rfl T3 rfl) (fun a w hF hW => ?_)
  refine ls hF hW rfl (y_fieldAddr Try.underlying45 rfl rfl rfl T3 hF rfl 0 rfl) (fun a w hF hW => ?_)
  refine ls hF hW rfl (y_load (v := Value.int IntKind.i64 (rcl_0 lo hi)) 0 hF rfl rfl T3 rfl) (fun a w hF hW => ?_)
  refine ls hF hW rfl (y_gtr hF rfl rfl) (fun a w hF hW => ?_)
  refine ls_nil ?_
  refine c_then ?_
  refine c_cond hF rfl (fun hb => ?_) (fun hb => ?_)
  ·
    have c1 := of_decide_eq_true hb
    simp only [hb] at hF
    clear hb
    refine reg_list ?_
    refine ls hF hW rfl (y_fieldAddr Try.underlying45 rfl rfl rfl T3 hF rfl 0 rfl) (fun a w hF hW => ?_)
    refine ls hF hW rfl (y_load (v := Value.int IntKind.i64 (rcl_0 lo2 hi2)) 2 hF rfl rfl T3 rfl) (fun a w hF hW => ?_)
    refine ls hF hW rfl (y_fieldAddr Try.underlying45 rfl rfl rfl T3 hF rfl 0 rfl) (fun a w hF hW => ?_)
    refine l_store (vs := [Value.int IntKind.i64 (rcl_0 lo2 hi2)]) (M' := [(b4, [Value.int IntKind.i64 (rcl_0 lo2 hi2), Value.int IntKind.i64 (rcl_1 lo hi)]), (b3, [Value.int IntKind.i64 0, Value.int IntKind.i64 0]), (b2, [Value.int IntKind.i64 (rcl_0 lo2 hi2), Value.int IntKind.i64 (rcl_1 lo2 hi2)]), (b1, [Value.int IntKind.i64 (rcl_0 lo hi), Value.int IntKind.i64 (rcl_1 lo hi)])]) 0 hF hW rfl rfl rfl T3 rfl rfl rfl rfl rfl (fun w hW => ?_)
    refine ls_nil ?_
    refine c_then ?_
    refine c_seq ?_
    refine c_seq ?_
    refine reg_list ?_
    refine ls hF hW rfl (y_fieldAddr Try.underlying45 rfl rfl rfl T3 hF rfl 1 rfl) (fun a w hF hW => ?_)
    refine ls hF hW rfl (y_load (v := Value.int IntKind.i64 (rcl_1 lo2 hi2)) 2 hF rfl rfl T3 rfl) (fun a w hF hW => ?_)
    refine ls hF hW rfl (y_fieldAddr Try.underlying45 rfl rfl rfl T3 hF rfl 1 rfl) (fun a w hF hW => ?_)
    refine ls hF hW rfl (y_load (v := Value.int IntKind.i64 (rcl_1 lo hi)) 0 hF rfl rfl T3 rfl) (fun a w hF hW => ?_)
    refine ls hF hW rfl (y_lss hF rfl rfl) (fun a w hF hW => ?_)
    refine ls_nil ?_
    refine c_then ?_
    refine c_cond hF rfl (fun hb => ?_) (fun hb => ?_)
    ·
      have c2 := of_decide_eq_true hb
      simp only [hb] at hF
      clear hb
      refine reg_list ?_
      refine ls hF hW rfl (y_fieldAddr Try.underlying45 rfl rfl rfl T3 hF rfl 1 rfl) (fun a w hF hW => ?_)
      refine ls hF hW rfl (y_load (v := Value.int IntKind.i64 (rcl_1 lo2 hi2)) 2 hF rfl rfl T3 rfl) (fun a w hF hW => ?_)
      refine ls hF hW rfl (y_fieldAddr Try.underlying45 rfl rfl rfl T3 hF rfl 1 rfl) (fun a w hF hW => ?_)
      refine l_store (vs := [Value.int IntKind.i64 (rcl_1 lo2 hi2)]) (M' := [(b4, [Value.int IntKind.i64 (rcl_0 lo2 hi2), Value.int IntKind.i64 (rcl_1 lo2 hi2)]), (b3, [Value.int IntKind.i64 0, Value.int IntKind.i64 0]), (b2, [Value.int IntKind.i64 (rcl_0 lo2 hi2), Value.int IntKind.i64 (rcl_1 lo2 hi2)]), (b1, [Value.int IntKind.i64 (rcl_0 lo hi), Value.int IntKind.i64 (rcl_1 lo hi)])]) 0 hF hW rfl rfl rfl T3 rfl rfl rfl rfl rfl (fun w hW => ?_)
      refine ls_nil ?_
      refine c_then ?_
      refine c_seq ?_
      refine reg_list ?_
      refine ls hF hW rfl (y_load (v := Value.agg #[Value.int IntKind.i64 (rcl_0 lo2 hi2), Value.int IntKind.i64 (rcl_1 lo2 hi2)]) 0 hF rfl rfl T45 rfl) (fun a w hF hW => ?_)
      refine ls hF hW rfl (y_call (v := Value.agg #[Value.int IntKind.i64 (rcl_0 (rcl_0 lo2 hi2) (rcl_1 lo2 hi2)), Value.int IntKind.i64 (rcl_1 (rcl_0 lo2 hi2) (rcl_1 lo2 hi2))]) hF H30 rfl (fun w _ => rcl_any (rcl_0 lo2 hi2) (rcl_1 lo2 hi2) w )) (fun a w hF hW => ?_)
      have f3 := rcl_bd ((rcl_0 lo2 hi2)) ((rcl_1 lo2 hi2))
      refine l_store (vs := [Value.int IntKind.i64 (rcl_0 (rcl_0 lo2 hi2) (rcl_1 lo2 hi2)), Value.int IntKind.i64 (rcl_1 (rcl_0 lo2 hi2) (rcl_1 lo2 hi2))]) (M' := [(b4, [Value.int IntKind.i64 (rcl_0 lo2 hi2), Value.int IntKind.i64 (rcl_1 lo2 hi2)]), (b3, [Value.int IntKind.i64 (rcl_0 (rcl_0 lo2 hi2) (rcl_1 lo2 hi2)), Value.int IntKind.i64 (rcl_1 (rcl_0 lo2 hi2) (rcl_1 lo2 hi2))]), (b2, [Value.int IntKind.i64 (rcl_0 lo2 hi2), Value.int IntKind.i64 (rcl_1 lo2 hi2)]), (b1, [Value.int IntKind.i64 (rcl_0 lo hi), Value.int IntKind.i64 (rcl_1 lo hi)])]) 1 hF hW rfl rfl rfl T45 rfl rfl rfl rfl rfl (fun w hW => ?_)
      refine ls_nil ?_
      refine c_then ?_
      refine wp_ret ?_
      refine post1 (.inl rfl) hF hW rfl (rv_cell (v := Value.agg #[Value.int IntKind.i64 (rcl_0 (rcl_0 lo2 hi2) (rcl_1 lo2 hi2)), Value.int IntKind.i64 (rcl_1 (rcl_0 lo2 hi2) (rcl_1 lo2 hi2))]) 1 hF rfl rfl T45 rfl) ?_
      exact ⟨congrArg Ending.returned (vagg (lcons (vint (show (rcl_0 (rcl_0 lo2 hi2) (rcl_1 lo2 hi2)) = rmeet_0 lo hi lo2 hi2 by rw [rmeet_0, if_pos c1, if_pos c2])) (lcons (vint (show (rcl_1 (rcl_0 lo2 hi2) (rcl_1 lo2 hi2)) = rmeet_1 lo hi lo2 hi2 by rw [rmeet_1, if_pos c1, if_pos c2])) rfl))), hW.frm.below⟩
    ·
      have c2 := of_decide_eq_false hb
      simp only [hb] at hF
      clear hb
      refine wp_skip ?_
      refine c_then ?_
      refine c_seq ?_
      refine reg_list ?_
      refine ls hF hW rfl (y_load (v := Value.agg #[Value.int IntKind.i64 (rcl_0 lo2 hi2), Value.int IntKind.i64 (rcl_1 lo hi)]) 0 hF rfl rfl T45 rfl) (fun a w hF hW => ?_)
      refine ls hF hW rfl (y_call (v := Value.agg #[Value.int IntKind.i64 (rcl_0 (rcl_0 lo2 hi2) (rcl_1 lo hi)), Value.int IntKind.i64 (rcl_1 (rcl_0 lo2 hi2) (rcl_1 lo hi))]) hF H30 rfl (fun w _ => rcl_any (rcl_0 lo2 hi2) (rcl_1 lo hi) w )) (fun a w hF hW => ?_)
      have f4 := rcl_bd ((rcl_0 lo2 hi2)) ((rcl_1 lo hi))
      refine l_store (vs := [Value.int IntKind.i64 (rcl_0 (rcl_0 lo2 hi2) (rcl_1 lo hi)), Value.int IntKind.i64 (rcl_1 (rcl_0 lo2 hi2) (rcl_1 lo hi))]) (M' := [(b4, [Value.int IntKind.i64 (rcl_0 lo2 hi2), Value.int IntKind.i64 (rcl_1 lo hi)]), (b3, [Value.int IntKind.i64 (rcl_0 (rcl_0 lo2 hi2) (rcl_1 lo hi)), Value.int IntKind.i64 (rcl_1 (rcl_0 lo2 hi2) (rcl_1 lo hi))]), (b2, [Value.int IntKind.i64 (rcl_0 lo2 hi2), Value.int IntKind.i64 (rcl_1 lo2 hi2)]), (b1, [Value.int IntKind.i64 (rcl_0 lo hi), Value.int IntKind.i64 (rcl_1 lo hi)])]) 1 hF hW rfl rfl rfl T45 rfl rfl rfl rfl rfl (fun w hW => ?_)
      refine ls_nil ?_
      refine c_then ?_
      refine wp_ret ?_
      refine post1 (.inl rfl) hF hW rfl (rv_cell (v := Value.agg #[Value.int IntKind.i64 (rcl_0 (rcl_0 lo2 hi2) (rcl_1 lo hi)), Value.int IntKind.i64 (rcl_1 (rcl_0 lo2 hi2) (rcl_1 lo hi))]) 1 hF rfl rfl T45 rfl) ?_
      exact ⟨congrArg Ending.returned (vagg (lcons (vint (show (rcl_0 (rcl_0 lo2 hi2) (rcl_1 lo hi)) = rmeet_0 lo hi lo2 hi2 by rw [rmeet_0, if_pos c1, if_neg c2])) (lcons (vint (show (rcl_1 (rcl_0 lo2 hi2) (rcl_1 lo hi)) = rmeet_1 lo hi lo2 hi2 by rw [rmeet_1, if_pos c1, if_neg c2])) rfl))), hW.frm.below⟩
  ·
    have c1 := of_decide_eq_false hb
    simp only [hb] at hF
    clear hb
    refine wp_skip ?_
    refine c_then ?_
    refine c_seq ?_
    refine c_seq ?_
    refine reg_list ?_
    refine ls hF hW rfl (y_fieldAddr Try.underlying45 rfl rfl rfl T3 hF rfl 1 rfl) (fun a w hF hW => ?_)
    refine ls hF hW rfl (y_load (v := Value.int IntKind.i64 (rcl_1 lo2 hi2)) 2 hF rfl rfl T3 rfl) (fun a w hF hW => ?_)
    refine ls hF hW rfl (y_fieldAddr Try.underlying45 rfl rfl rfl T3 hF rfl 1 rfl) (fun a w hF hW => ?_)
    refine ls hF hW rfl (y_load (v := Value.int IntKind.i64 (rcl_1 lo hi)) 0 hF rfl rfl T3 rfl) (fun a w hF hW => ?_)
    refine ls hF hW rfl (y_lss hF rfl rfl) (fun a w hF hW => ?_)
    refine ls_nil ?_
    refine c_then ?_
    refine c_cond hF rfl (fun hb => ?_) (fun hb => ?_)
    ·
      have c2 := of_decide_eq_true hb
      simp only [hb] at hF
      clear hb
      refine reg_list ?_
      refine ls hF hW rfl (y_fieldAddr Try.underlying45 rfl rfl rfl T3 hF rfl 1 rfl) (fun a w hF hW => ?_)
      refine ls hF hW rfl (y_load (v := Value.int IntKind.i64 (rcl_1 lo2 hi2)) 2 hF rfl rfl T3 rfl) (fun a w hF hW => ?_)
      refine ls hF hW rfl (y_fieldAddr Try.underlying45 rfl rfl rfl T3 hF rfl 1 rfl) (fun a w hF hW => ?_)
      refine l_store (vs := [Value.int IntKind.i64 (rcl_1 lo2 hi2)]) (M' := [(b4, [Value.int IntKind.i64 (rcl_0 lo hi), Value.int IntKind.i64 (rcl_1 lo2 hi2)]), (b3, [Value.int IntKind.i64 0, Value.int IntKind.i64 0]), (b2, [Value.int IntKind.i64 (rcl_0 lo2 hi2), Value.int IntKind.i64 (rcl_1 lo2 hi2)]), (b1, [Value.int IntKind.i64 (rcl_0 lo hi), Value.int IntKind.i64 (rcl_1 lo hi)])]) 0 hF hW rfl rfl rfl T3 rfl rfl rfl rfl rfl (fun w hW => ?_)
      refine ls_nil ?_
      refine c_then ?_
      refine c_seq ?_
      refine reg_list ?_
      refine ls hF hW rfl (y_load (v := Value.agg #[Value.int IntKind.i64 (rcl_0 lo hi), Value.int IntKind.i64 (rcl_1 lo2 hi2)]) 0 hF rfl rfl T45 rfl) (fun a w hF hW => ?_)
      refine ls hF hW rfl (y_call (v := Value.agg #[Value.int IntKind.i64 (rcl_0 (rcl_0 lo hi) (rcl_1 lo2 hi2)), Value.int IntKind.i64 (rcl_1 (rcl_0 lo hi) (rcl_1 lo2 hi2))]) hF H30 rfl (fun w _ => rcl_any (rcl_0 lo hi) (rcl_1 lo2 hi2) w )) (fun a w hF hW => ?_)
      have f5 := rcl_bd ((rcl_0 lo hi)) ((rcl_1 lo2 hi2))
      refine l_store (vs := [Value.int IntKind.i64 (rcl_0 (rcl_0 lo hi) (rcl_1 lo2 hi2)), Value.int IntKind.i64 (rcl_1 (rcl_0 lo hi) (rcl_1 lo2 hi2))]) (M' := [(b4, [Value.int IntKind.i64 (rcl_0 lo hi), Value.int IntKind.i64 (rcl_1 lo2 hi2)]), (b3, [Value.int IntKind.i64 (rcl_0 (rcl_0 lo hi) (rcl_1 lo2 hi2)), Value.int IntKind.i64 (rcl_1 (rcl_0 lo hi) (rcl_1 lo2 hi2))]), (b2, [Value.int IntKind.i64 (rcl_0 lo2 hi2), Value.int IntKind.i64 (rcl_1 lo2 hi2)]), (b1, [Value.int IntKind.i64 (rcl_0 lo hi), Value.int IntKind.i64 (rcl_1 lo hi)])]) 1 hF hW rfl rfl rfl T45 rfl rfl rfl rfl rfl (fun w hW => ?_)
      refine ls_nil ?_
      refine c_then ?_
      refine wp_ret ?_
      refine post1 (.inl rfl) hF hW rfl (rv_cell (v := Value.agg #[Value.int IntKind.i64 (rcl_0 (rcl_0 lo hi) (rcl_1 lo2 hi2)), Value.int IntKind.i64 (rcl_1 (rcl_0 lo hi) (rcl_1 lo2 hi2))]) 1 hF rfl rfl T45 rfl) ?_
      exact ⟨congrArg Ending.returned (vagg (lcons (vint (show (rcl_0 (rcl_0 lo hi) (rcl_1 lo2 hi2)) = rmeet_0 lo hi lo2 hi2 by rw [rmeet_0, if_neg c1, if_pos c2])) (lcons (vint (show (rcl_1 (rcl_0 lo hi) (rcl_1 lo2 hi2)) = rmeet_1 lo hi lo2 hi2 by rw [rmeet_1, if_neg c1, if_pos c2])) rfl))), hW.frm.below⟩
    ·
      have c2 := of_decide_eq_false hb
      simp only [hb] at hF
      clear hb
      refine wp_skip ?_
      refine c_then ?_
      refine c_seq ?_
      refine reg_list ?_
      refine ls hF hW rfl (y_load (v := Value.agg #[Value.int IntKind.i64 (rcl_0 lo hi), Value.int IntKind.i64 (rcl_1 lo hi)]) 0 hF rfl rfl T45 rfl) (fun a w hF hW => ?_)
      refine ls hF hW rfl (y_call (v := Value.agg #[Value.int IntKind.i64 (rcl_0 (rcl_0 lo hi) (rcl_1 lo hi)), Value.int IntKind.i64 (rcl_1 (rcl_0 lo hi) (rcl_1 lo hi))]) hF H30 rfl (fun w _ => rcl_any (rcl_0 lo hi) (rcl_1 lo hi) w )) (fun a w hF hW => ?_)
      have f6 := rcl_bd ((rcl_0 lo hi)) ((rcl_1 lo hi))
      refine l_store (vs := [Value.int IntKind.i64 (rcl_0 (rcl_0 lo hi) (rcl_1 lo hi)), Value.int IntKind.i64 (rcl_1 (rcl_0 lo hi) (rcl_1 lo hi))]) (M' := [(b4, [Value.int IntKind.i64 (rcl_0 lo hi), Value.int IntKind.i64 (rcl_1 lo hi)]), (b3, [Value.int IntKind.i64 (rcl_0 (rcl_0 lo hi) (rcl_1 lo hi)), Value.int IntKind.i64 (rcl_1 (rcl_0 lo hi) (rcl_1 lo hi))]), (b2, [Value.int IntKind.i64 (rcl_0 lo2 hi2), Value.int IntKind.i64 (rcl_1 lo2 hi2)]), (b1, [Value.int IntKind.i64 (rcl_0 lo hi), Value.int IntKind.i64 (rcl_1 lo hi)])]) 1 hF hW rfl rfl rfl T45 rfl rfl rfl rfl rfl (fun w hW => ?_)
      refine ls_nil ?_
      refine c_then ?_
      refine wp_ret ?_
      refine post1 (.inl rfl) hF hW rfl (rv_cell (v := Value.agg #[Value.int IntKind.i64 (rcl_0 (rcl_0 lo hi) (rcl_1 lo hi)), Value.int IntKind.i64 (rcl_1 (rcl_0 lo hi) (rcl_1 lo hi))]) 1 hF rfl rfl T45 rfl) ?_
      exact ⟨congrArg Ending.returned (vagg (lcons (vint (show (rcl_0 (rcl_0 lo hi) (rcl_1 lo hi)) = rmeet_0 lo hi lo2 hi2 by rw [rmeet_0, if_neg c1, if_neg c2])) (lcons (vint (show (rcl_1 (rcl_0 lo hi) (rcl_1 lo hi)) = rmeet_1 lo hi lo2 hi2 by rw [rmeet_1, if_neg c1, if_neg c2])) rfl))), hW.frm.below⟩

def rhull_0 (lo : Int) (hi : Int) (lo2 : Int) (hi2 : Int) : Int := if (rempty lo hi) = true then rcl_0 lo2 hi2 else if (rempty lo2 hi2) = true then rcl_0 lo hi else if (rcl_0 lo2 hi2) < (rcl_0 lo hi) then if (rcl_1 lo hi) < (rcl_1 lo2 hi2) then rcl_0 lo2 hi2 else rcl_0 lo2 hi2 else if (rcl_1 lo hi) < (rcl_1 lo2 hi2) then rcl_0 lo hi else rcl_0 lo hi
def rhull_1 (lo : Int) (hi : Int) (lo2 : Int) (hi2 : Int) : Int := if (rempty lo hi) = true then rcl_1 lo2 hi2 else if (rempty lo2 hi2) = true then rcl_1 lo hi else if (rcl_0 lo2 hi2) < (rcl_0 lo hi) then if (rcl_1 lo hi) < (rcl_1 lo2 hi2) then rcl_1 lo2 hi2 else rcl_1 lo hi else if (rcl_1 lo hi) < (rcl_1 lo2 hi2) then rcl_1 lo2 hi2 else rcl_1 lo hi
theorem rhull_any (lo : Int) (hi : Int) (lo2 : Int) (hi2 : Int) (w : World)  :
    Calls Try.prog 34 #[Value.agg #[Value.int IntKind.i64 lo, Value.int IntKind.i64 hi], Value.agg #[Value.int IntKind.i64 lo2, Value.int IntKind.i64 hi2]] w fun e w' => e = .returned (Value.agg #[Value.int IntKind.i64 (rhull_0 lo hi lo2 hi2), Value.int IntKind.i64 (rhull_1 lo hi lo2 hi2)]) ∧ Below w.heap.size w w' := by
  refine enter Try.func34 rfl Try.ntmps34 rfl (fun a hF => ?_)
  have hW := Stw.start w
  refine c_seq ?_
  refine reg_list ?_
  refine l_box (cs := [Value.int IntKind.i64 lo, Value.int IntKind.i64 hi]) hF hW rfl rfl rfl (fun b1 a w hF hW => ?_)
  refine l_box (cs := [Value.int IntKind.i64 lo2, Value.int IntKind.i64 hi2]) hF hW rfl rfl rfl (fun b2 a w hF hW => ?_)
  refine l_alloc (cs := [Value.int IntKind.i64 0, Value.int IntKind.i64 0]) hF hW rfl Z45 rfl (fun b3 a w hF hW => ?_)
  refine ls_nil ?_
  refine c_then ?_
  refine c_seq ?_
  refine c_seq ?_
  refine reg_list ?_
  refine ls hF hW rfl (y_load (v := Value.agg #[Value.int IntKind.i64 lo, Value.int IntKind.i64 hi]) 2 hF rfl rfl T45 rfl) (fun a w hF hW => ?_)
  refine ls hF hW rfl (y_call (v := Value.bool (rempty lo hi)) hF H42 rfl (fun w _ => rempty_any lo hi w )) (fun a w hF hW => ?_)
  refine ls_nil ?_
  refine c_then ?_
  refine c_cond hF rfl (fun hb => ?_) (fun hb => ?_)
  ·
    have c1 := hb
    simp only [hb] at hF
    clear hb
    refine c_seq ?_
    refine reg_list ?_
    refine ls hF hW rfl (y_load (v := Value.agg #[Value.int IntKind.i64 lo2, Value.int IntKind.i64 hi2]) 1 hF rfl rfl T45 rfl) (fun a w hF hW => ?_)
    refine ls hF hW rfl (y_call (v := Value.agg #[Value.int IntKind.i64 (rcl_0 lo2 hi2), Value.int IntKind.i64 (rcl_1 lo2 hi2)]) hF H30 rfl (fun w _ => rcl_any lo2 hi2 w )) (fun a w hF hW => ?_)
    have f1 := rcl_bd (lo2) (hi2)
    refine l_store (vs := [Value.int IntKind.i64 (rcl_0 lo2 hi2), Value.int IntKind.i64 (rcl_1 lo2 hi2)]) (M' := [(b3, [Value.int IntKind.i64 (rcl_0 lo2 hi2), Value.int IntKind.i64 (rcl_1 lo2 hi2)]), (b2, [Value.int IntKind.i64 lo2, Value.int IntKind.i64 hi2]), (b1, [Value.int IntKind.i64 lo, Value.int IntKind.i64 hi])]) 0 hF hW rfl rfl rfl T45 rfl rfl rfl rfl rfl (fun w hW => ?_)
    refine ls_nil ?_
    refine c_then ?_
    refine wp_ret ?_
    refine r_then ?_
    refine post1 (.inl rfl) hF hW rfl (rv_cell (v := Value.agg #[Value.int IntKind.i64 (rcl_0 lo2 hi2), Value.int IntKind.i64 (rcl_1 lo2 hi2)]) 0 hF rfl rfl T45 rfl) ?_
    exact ⟨congrArg Ending.returned (vagg (lcons (vint (show (rcl_0 lo2 hi2) = rhull_0 lo hi lo2 hi2 by rw [rhull_0, if_pos c1])) (lcons (vint (show (rcl_1 lo2 hi2) = rhull_1 lo hi lo2 hi2 by rw [rhull_1, if_pos c1])) rfl))), hW.frm.below⟩
  ·
    have c1 : ¬ ((rempty lo hi) = true) := by rw [hb]; decide
    simp only [hb] at hF
    clear hb
    refine wp_skip ?_
    refine c_then ?_
    refine c_seq ?_
    refine c_seq ?_
    refine reg_list ?_
    refine ls hF hW rfl (y_load (v := Value.agg #[Value.int IntKind.i64 lo2, Value.int IntKind.i64 hi2]) 1 hF rfl rfl T45 rfl) (fun a w hF hW => ?_)
    refine ls hF hW rfl (y_call (v := Value.bool (rempty lo2 hi2)) hF H42 rfl (fun w _ => rempty_any lo2 hi2 w )) (fun a w hF hW => ?_)
    refine ls_nil ?_
    refine c_then ?_
    refine c_cond hF rfl (fun hb => ?_) (fun hb => ?_)
    ·
      have c2 := hb
      simp only [hb] at hF
      clear hb
      refine c_seq ?_
      refine reg_list ?_
      refine ls hF hW rfl (y_load (v := Value.agg #[Value.int IntKind.i64 lo, Value.int IntKind.i64 hi]) 2 hF rfl rfl T45 rfl) (fun a w hF hW => ?_)
      refine ls hF hW rfl (y_call (v := Value.agg #[Value.int IntKind.i64 (rcl_0 lo hi), Value.int IntKind.i64 (rcl_1 lo hi)]) hF H30 rfl (fun w _ => rcl_any lo hi w )) (fun a w hF hW => ?_)
      have f2 := rcl_bd (lo) (hi)
      refine l_store (vs := [Value.int IntKind.i64 (rcl_0 lo hi), Value.int IntKind.i64 (rcl_1 lo hi)]) (M' := [(b3, [Value.int IntKind.i64 (rcl_0 lo hi), Value.int IntKind.i64 (rcl_1 lo hi)]), (b2, [Value.int IntKind.i64 lo2, Value.int IntKind.i64 hi2]), (b1, [Value.int IntKind.i64 lo, Value.int IntKind.i64 hi])]) 0 hF hW rfl rfl rfl T45 rfl rfl rfl rfl rfl (fun w hW => ?_)
      refine ls_nil ?_
      refine c_then ?_
      refine wp_ret ?_
      refine r_then ?_
      refine post1 (.inl rfl) hF hW rfl (rv_cell (v := Value.agg #[Value.int IntKind.i64 (rcl_0 lo hi), Value.int IntKind.i64 (rcl_1 lo hi)]) 0 hF rfl rfl T45 rfl) ?_
      exact ⟨congrArg Ending.returned (vagg (lcons (vint (show (rcl_0 lo hi) = rhull_0 lo hi lo2 hi2 by rw [rhull_0, if_neg c1, if_pos c2])) (lcons (vint (show (rcl_1 lo hi) = rhull_1 lo hi lo2 hi2 by rw [rhull_1, if_neg c1, if_pos c2])) rfl))), hW.frm.below⟩
    ·
      have c2 : ¬ ((rempty lo2 hi2) = true) := by rw [hb]; decide
      simp only [hb] at hF
      clear hb
      refine wp_skip ?_
      refine c_then ?_
      refine c_seq ?_
      refine reg_list ?_
      refine ls hF hW rfl (y_load (v := Value.agg #[Value.int IntKind.i64 lo, Value.int IntKind.i64 hi]) 2 hF rfl rfl T45 rfl) (fun a w hF hW => ?_)
      refine ls hF hW rfl (y_call (v := Value.agg #[Value.int IntKind.i64 (rcl_0 lo hi), Value.int IntKind.i64 (rcl_1 lo hi)]) hF H30 rfl (fun w _ => rcl_any lo hi w )) (fun a w hF hW => ?_)
      have f3 := rcl_bd (lo) (hi)
      refine l_alloc (cs := [Value.int IntKind.i64 0, Value.int IntKind.i64 0]) hF hW rfl Z45 rfl (fun b4 a w hF hW => ?_)
      refine l_store (vs := [Value.int IntKind.i64 (rcl_0 lo hi), Value.int IntKind.i64 (rcl_1 lo hi)]) (M' := [(b4, [Value.int IntKind.i64 (rcl_0 lo hi), Value.int IntKind.i64 (rcl_1 lo hi)]), (b3, [Value.int IntKind.i64 0, Value.int IntKind.i64 0]), (b2, [Value.int IntKind.i64 lo2, Value.int IntKind.i64 hi2]), (b1, [Value.int IntKind.i64 lo, Value.int IntKind.i64 hi])]) 0 hF hW rfl rfl rfl T45 rfl rfl rfl rfl rfl (fun w hW => ?_)
      refine ls_nil ?_
      refine c_then ?_
      refine c_seq ?_
      refine c_seq ?_
      refine reg_quiet hW MO (by kernel_rfl) ?_
      refine qs hF rfl (y_load (v := Value.agg #[Value.int IntKind.i64 lo2, Value.int IntKind.i64 hi2]) 2 hF rfl rfl T45 rfl) (fun a hF => ?_)
      refine qs hF rfl (y_call (v := Value.agg #[Value.int IntKind.i64 (rcl_0 lo2 hi2), Value.int IntKind.i64 (rcl_1 lo2 hi2)]) hF H30 rfl (fun w _ => rcl_any lo2 hi2 w )) (fun a hF => ?_)
      have f4 := rcl_bd (lo2) (hi2)
      refine qs hF rfl (y_field (v := Value.int IntKind.i64 (rcl_0 lo2 hi2)) Try.underlying45 rfl rfl rfl T3 hF rfl rfl) (fun a hF => ?_)
      refine qs hF rfl (y_fieldAddr Try.underlying45 rfl rfl rfl T3 hF rfl 0 rfl) (fun a hF => ?_)
      refine qs hF rfl (y_load (v := Value.int IntKind.i64 (rcl_0 lo hi)) 0 hF rfl rfl T3 rfl) (fun a hF => ?_)
      refine qs hF rfl (y_lss hF rfl rfl) (fun a hF => ?_)
      refine quiet_end (fun w hW => ?_)
      refine c_then ?_
      refine c_cond hF rfl (fun hb => ?_) (fun hb => ?_)
      ·
        have c3 := of_decide_eq_true hb
        simp only [hb] at hF
        clear hb
        refine reg_list ?_
        refine ls hF hW rfl (y_load (v := Value.agg #[Value.int IntKind.i64 lo2, Value.int IntKind.i64 hi2]) 2 hF rfl rfl T45 rfl) (fun a w hF hW => ?_)
        refine ls hF hW rfl (y_call (v := Value.agg #[Value.int IntKind.i64 (rcl_0 lo2 hi2), Value.int IntKind.i64 (rcl_1 lo2 hi2)]) hF H30 rfl (fun w _ => rcl_any lo2 hi2 w )) (fun a w hF hW => ?_)
        have f5 := rcl_bd (lo2) (hi2)
        refine ls hF hW rfl (y_field (v := Value.int IntKind.i64 (rcl_0 lo2 hi2)) Try.underlying45 rfl rfl rfl T3 hF rfl rfl) (fun a w hF hW => ?_)
        refine ls hF hW rfl (y_fieldAddr Try.underlying45 rfl rfl rfl T3 hF rfl 0 rfl) (fun a w hF hW => ?_)
        refine l_store (vs := [Value.int IntKind.i64 (rcl_0 lo2 hi2)]) (M' := [(b4, [Value.int IntKind.i64 (rcl_0 lo2 hi2), Value.int IntKind.i64 (rcl_1 lo hi)]), (b3, [Value.int IntKind.i64 0, Value.int IntKind.i64 0]), (b2, [Value.int IntKind.i64 lo2, Value.int IntKind.i64 hi2]), (b1, [Value.int IntKind.i64 lo, Value.int IntKind.i64 hi])]) 0 hF hW rfl rfl rfl T3 rfl rfl rfl rfl rfl (fun w hW => ?_)
        refine ls_nil ?_
        refine c_then ?_
        refine c_seq ?_
        refine c_seq ?_
        refine reg_quiet hW MO (by kernel_rfl) ?_
        refine qs hF rfl (y_load (v := Value.agg #[Value.int IntKind.i64 lo2, Value.int IntKind.i64 hi2]) 2 hF rfl rfl T45 rfl) (fun a hF => ?_)
        refine qs hF rfl (y_call (v := Value.agg #[Value.int IntKind.i64 (rcl_0 lo2 hi2), Value.int IntKind.i64 (rcl_1 lo2 hi2)]) hF H30 rfl (fun w _ => rcl_any lo2 hi2 w )) (fun a hF => ?_)
        have f6 := rcl_bd (lo2) (hi2)
        refine qs hF rfl (y_field (v := Value.int IntKind.i64 (rcl_1 lo2 hi2)) Try.underlying45 rfl rfl rfl T3 hF rfl rfl) (fun a hF => ?_)
        refine qs hF rfl (y_fieldAddr Try.underlying45 rfl rfl rfl T3 hF rfl 1 rfl) (fun a hF => ?_)
        refine qs hF rfl (y_load (v := Value.int IntKind.i64 (rcl_1 lo hi)) 0 hF rfl rfl T3 rfl) (fun a hF => ?_)
        refine qs hF rfl (y_gtr hF rfl rfl) (fun a hF => ?_)
        refine quiet_end (fun w hW => ?_)
        refine c_then ?_
        refine c_cond hF rfl (fun hb => ?_) (fun hb => ?_)
        ·
          have c4 := of_decide_eq_true hb
          simp only [hb] at hF
          clear hb
          refine reg_list ?_
          refine ls hF hW rfl (y_load (v := Value.agg #[Value.int IntKind.i64 lo2, Value.int IntKind.i64 hi2]) 2 hF rfl rfl T45 rfl) (fun a w hF hW => ?_)
          refine ls hF hW rfl (y_call (v := Value.agg #[Value.int IntKind.i64 (rcl_0 lo2 hi2), Value.int IntKind.i64 (rcl_1 lo2 hi2)]) hF H30 rfl (fun w _ => rcl_any lo2 hi2 w )) (fun a w hF hW => ?_)
          have f7 := rcl_bd (lo2) (hi2)
          refine ls hF hW rfl (y_field (v := Value.int IntKind.i64 (rcl_1 lo2 hi2)) Try.underlying45 rfl rfl rfl T3 hF rfl rfl) (fun a w hF hW => ?_)
          refine ls hF hW rfl (y_fieldAddr Try.underlying45 rfl rfl rfl T3 hF rfl 1 rfl) (fun a w hF hW => ?_)
          refine l_store (vs := [Value.int IntKind.i64 (rcl_1 lo2 hi2)]) (M' := [(b4, [Value.int IntKind.i64 (rcl_0 lo2 hi2), Value.int IntKind.i64 (rcl_1 lo2 hi2)]), (b3, [Value.int IntKind.i64 0, Value.int IntKind.i64 0]), (b2, [Value.int IntKind.i64 lo2, Value.int IntKind.i64 hi2]), (b1, [Value.int IntKind.i64 lo, Value.int IntKind.i64 hi])]) 0 hF hW rfl rfl rfl T3 rfl rfl rfl rfl rfl (fun w hW => ?_)
          refine ls_nil ?_
          refine c_then ?_
          refine c_seq ?_
          refine reg_list ?_
          refine ls hF hW rfl (y_load (v := Value.agg #[Value.int IntKind.i64 (rcl_0 lo2 hi2), Value.int IntKind.i64 (rcl_1 lo2 hi2)]) 0 hF rfl rfl T45 rfl) (fun a w hF hW => ?_)
          refine l_store (vs := [Value.int IntKind.i64 (rcl_0 lo2 hi2), Value.int IntKind.i64 (rcl_1 lo2 hi2)]) (M' := [(b4, [Value.int IntKind.i64 (rcl_0 lo2 hi2), Value.int IntKind.i64 (rcl_1 lo2 hi2)]), (b3, [Value.int IntKind.i64 (rcl_0 lo2 hi2), Value.int IntKind.i64 (rcl_1 lo2 hi2)]), (b2, [Value.int IntKind.i64 lo2, Value.int IntKind.i64 hi2]), (b1, [Value.int IntKind.i64 lo, Value.int IntKind.i64 hi])]) 1 hF hW rfl rfl rfl T45 rfl rfl rfl rfl rfl (fun w hW => ?_)
          refine ls_nil ?_
          refine c_then ?_
          refine wp_ret ?_
          refine post1 (.inl rfl) hF hW rfl (rv_cell (v := Value.agg #[Value.int IntKind.i64 (rcl_0 lo2 hi2), Value.int IntKind.i64 (rcl_1 lo2 hi2)]) 1 hF rfl rfl T45 rfl) ?_
          exact ⟨congrArg Ending.returned (vagg (lcons (vint (show (rcl_0 lo2 hi2) = rhull_0 lo hi lo2 hi2 by rw [rhull_0, if_neg c1, if_neg c2, if_pos c3, if_pos c4])) (lcons (vint (show (rcl_1 lo2 hi2) = rhull_1 lo hi lo2 hi2 by rw [rhull_1, if_neg c1, if_neg c2, if_pos c3, if_pos c4])) rfl))), hW.frm.below⟩
        ·
          have c4 := of_decide_eq_false hb
          simp only [hb] at hF
          clear hb
          refine wp_skip ?_
          refine c_then ?_
          refine c_seq ?_
          refine reg_list ?_
          refine ls hF hW rfl (y_load (v := Value.agg #[Value.int IntKind.i64 (rcl_0 lo2 hi2), Value.int IntKind.i64 (rcl_1 lo hi)]) 0 hF rfl rfl T45 rfl) (fun a w hF hW => ?_)
          refine l_store (vs := [Value.int IntKind.i64 (rcl_0 lo2 hi2), Value.int IntKind.i64 (rcl_1 lo hi)]) (M' := [(b4, [Value.int IntKind.i64 (rcl_0 lo2 hi2), Value.int IntKind.i64 (rcl_1 lo hi)]), (b3, [Value.int IntKind.i64 (rcl_0 lo2 hi2), Value.int IntKind.i64 (rcl_1 lo hi)]), (b2, [Value.int IntKind.i64 lo2, Value.int IntKind.i64 hi2]), (b1, [Value.int IntKind.i64 lo, Value.int IntKind.i64 hi])]) 1 hF hW rfl rfl rfl T45 rfl rfl rfl rfl rfl (fun w hW => ?_)
          refine ls_nil ?_
          refine c_then ?_
          refine wp_ret ?_
          refine post1 (.inl rfl) hF hW rfl (rv_cell (v := Value.agg #[Value.int IntKind.i64 (rcl_0 lo2 hi2), Value.int IntKind.i64 (rcl_1 lo hi)]) 1 hF rfl rfl T45 rfl) ?_
          exact ⟨congrArg Ending.returned (vagg (lcons (vint (show (rcl_0 lo2 hi2) = rhull_0 lo hi lo2 hi2 by rw [rhull_0, if_neg c1, if_neg c2, if_pos c3, if_neg c4])) (lcons (vint (show (rcl_1 lo hi) = rhull_1 lo hi lo2 hi2 by rw [rhull_1, if_neg c1, if_neg c2, if_pos c3, if_neg c4])) rfl))), hW.frm.below⟩
      ·
        have c3 := of_decide_eq_false hb
        simp only [hb] at hF
        clear hb
        refine wp_skip ?_
        refine c_then ?_
        refine c_seq ?_
        refine c_seq ?_
        refine reg_quiet hW MO (by kernel_rfl) ?_
        refine qs hF rfl (y_load (v := Value.agg #[Value.int IntKind.i64 lo2, Value.int IntKind.i64 hi2]) 2 hF rfl rfl T45 rfl) (fun a hF => ?_)
        refine qs hF rfl (y_call (v := Value.agg #[Value.int IntKind.i64 (rcl_0 lo2 hi2), Value.int IntKind.i64 (rcl_1 lo2 hi2)]) hF H30 rfl (fun w _ => rcl_any lo2 hi2 w )) (fun a hF => ?_)
        have f8 := rcl_bd (lo2) (hi2)
        refine qs hF rfl (y_field (v := Value.int IntKind.i64 (rcl_1 lo2 hi2)) Try.underlying45 rfl rfl rfl T3 hF rfl rfl) (fun a hF => ?_)
        refine qs hF rfl (y_fieldAddr Try.underlying45 rfl rfl rfl T3 hF rfl 1 rfl) (fun a hF => ?_)
        refine qs hF rfl (y_load (v := Value.int IntKind.i64 (rcl_1 lo hi)) 0 hF rfl rfl T3 rfl) (fun a hF => ?_)
        refine qs hF rfl (y_gtr hF rfl rfl) (fun a hF => ?_)
        refine quiet_end (fun w hW => ?_)
        refine c_then ?_
        refine c_cond hF rfl (fun hb => ?_) (fun hb => ?_)
        ·
          have c4 := of_decide_eq_true hb
          simp only [hb] at hF
          clear hb
          refine reg_list ?_
          refine ls hF hW rfl (y_load (v := Value.agg #[Value.int IntKind.i64 lo2, Value.int IntKind.i64 hi2]) 2 hF rfl rfl T45 rfl) (fun a w hF hW => ?_)
          refine ls hF hW rfl (y_call (v := Value.agg #[Value.int IntKind.i64 (rcl_0 lo2 hi2), Value.int IntKind.i64 (rcl_1 lo2 hi2)]) hF H30 rfl (fun w _ => rcl_any lo2 hi2 w )) (fun a w hF hW => ?_)
          have f9 := rcl_bd (lo2) (hi2)
          refine ls hF hW rfl (y_field (v := Value.int IntKind.i64 (rcl_1 lo2 hi2)) Try.underlying45 rfl rfl rfl T3 hF rfl rfl) (fun a w hF hW => ?_)
          refine ls hF hW rfl (y_fieldAddr Try.underlying45 rfl rfl rfl T3 hF rfl 1 rfl) (fun a w hF hW => ?_)
          refine l_store (vs := [Value.int IntKind.i64 (rcl_1 lo2 hi2)]) (M' := [(b4, [Value.int IntKind.i64 (rcl_0 lo hi), Value.int IntKind.i64 (rcl_1 lo2 hi2)]), (b3, [Value.int IntKind.i64 0, Value.int IntKind.i64 0]), (b2, [Value.int IntKind.i64 lo2, Value.int IntKind.i64 hi2]), (b1, [Value.int IntKind.i64 lo, Value.int IntKind.i64 hi])]) 0 hF hW rfl rfl rfl T3 rfl rfl rfl rfl rfl (fun w hW => ?_)
          refine ls_nil ?_
          refine c_then ?_
          refine c_seq ?_
          refine reg_list ?_
          refine ls hF hW rfl (y_load (v := Value.agg #[Value.int IntKind.i64 (rcl_0 lo hi), Value.int IntKind.i64 (rcl_1 lo2 hi2)]) 0 hF rfl rfl T45 rfl) (fun a w hF hW => ?_)
          refine l_store (vs := [Value.int IntKind.i64 (rcl_0 lo hi), Value.int IntKind.i64 (rcl_1 lo2 hi2)]) (M' := [(b4, [Value.int IntKind.i64 (rcl_0 lo hi), Value.int IntKind.i64 (rcl_1 lo2 hi2)]), (b3, [Value.int IntKind.i64 (rcl_0 lo hi), Value.int IntKind.i64 (rcl_1 lo2 hi2)]), (b2, [Value.int IntKind.i64 lo2, Value.int IntKind.i64 hi2]), (b1, [Value.int IntKind.i64 lo, Value.int IntKind.i64 hi])]) 1 hF hW rfl rfl rfl T45 rfl rfl rfl rfl rfl (fun w hW => ?_)
          refine ls_nil ?_
          refine c_then ?_
          refine wp_ret ?_
          refine post1 (.inl rfl) hF hW rfl (rv_cell (v := Value.agg #[Value.int IntKind.i64 (rcl_0 lo hi), Value.int IntKind.i64 (rcl_1 lo2 hi2)]) 1 hF rfl rfl T45 rfl) ?_
          exact ⟨congrArg Ending.returned (vagg (lcons (vint (show (rcl_0 lo hi) = rhull_0 lo hi lo2 hi2 by rw [rhull_0, if_neg c1, if_neg c2, if_neg c3, if_pos c4])) (lcons (vint (show (rcl_1 lo2 hi2) = rhull_1 lo hi lo2 hi2 by rw [rhull_1, if_neg c1, if_neg c2, if_neg c3, if_pos c4])) rfl))), hW.frm.below⟩
        ·
          have c4 := of_decide_eq_false hb
          simp only [hb] at hF
          clear hb
          refine wp_skip ?_
          refine c_then ?_
          refine c_seq ?_
          refine reg_list ?_
          refine ls hF hW rfl (y_load (v := Value.agg #[Value.int IntKind.i64 (rcl_0 lo hi), Value.int IntKind.i64 (rcl_1 lo hi)]) 0 hF rfl rfl T45 rfl) (fun a w hF hW => ?_)
          refine l_store (vs := [Value.int IntKind.i64 (rcl_0 lo hi), Value.int IntKind.i64 (rcl_1 lo hi)]) (M' := [(b4, [Value.int IntKind.i64 (rcl_0 lo hi), Value.int IntKind.i64 (rcl_1 lo hi)]), (b3, [Value.int IntKind.i64 (rcl_0 lo hi), Value.int IntKind.i64 (rcl_1 lo hi)]), (b2, [Value.int IntKind.i64 lo2, Value.int IntKind.i64 hi2]), (b1, [Value.int IntKind.i64 lo, Value.int IntKind.i64 hi])]) 1 hF hW rfl rfl rfl T45 rfl rfl rfl rfl rfl (fun w hW => ?_)
          refine ls_nil ?_
          refine c_then ?_
          refine wp_ret ?_
          refine post1 (.inl rfl) hF hW rfl (rv_cell (v := Value.agg #[Value.int IntKind.i64 (rcl_0 lo hi), Value.int IntKind.i64 (rcl_1 lo hi)]) 1 hF rfl rfl T45 rfl) ?_
          exact ⟨congrArg Ending.returned (vagg (lcons (vint (show (rcl_0 lo hi) = rhull_0 lo hi lo2 hi2 by rw [rhull_0, if_neg c1, if_neg c2, if_neg c3, if_neg c4])) (lcons (vint (show (rcl_1 lo hi) = rhull_1 lo hi lo2 hi2 by rw [rhull_1, if_neg c1, if_neg c2, if_neg c3, if_neg c4])) rfl))), hW.frm.below⟩

def rmoved_0 (lo : Int) (hi : Int) (x : Int) (y : Int) : Int := if (rempty lo hi) = true then rcl_0 lo hi else rcl_0 ((rcl_0 lo hi) + (near x)) ((rcl_1 lo hi) + (near y))
def rmoved_1 (lo : Int) (hi : Int) (x : Int) (y : Int) : Int := if (rempty lo hi) = true then rcl_1 lo hi else rcl_1 ((rcl_0 lo hi) + (near x)) ((rcl_1 lo hi) + (near y))
theorem rmoved_any (lo : Int) (hi : Int) (x : Int) (y : Int) (w : World)  :
    Calls Try.prog 36 #[Value.agg #[Value.int IntKind.i64 lo, Value.int IntKind.i64 hi], Value.int IntKind.i64 x, Value.int IntKind.i64 y] w fun e w' => e = .returned (Value.agg #[Value.int IntKind.i64 (rmoved_0 lo hi x y), Value.int IntKind.i64 (rmoved_1 lo hi x y)]) ∧ Below w.heap.size w w' := by
  refine enter Try.func36 rfl Try.ntmps36 rfl (fun a hF => ?_)
  have hW := Stw.start w
  refine c_seq ?_
  refine reg_list ?_
  refine l_box (cs := [Value.int IntKind.i64 lo, Value.int IntKind.i64 hi]) hF hW rfl rfl rfl (fun b1 a w hF hW => ?_)
  refine l_alloc (cs := [Value.int IntKind.i64 0, Value.int IntKind.i64 0]) hF hW rfl Z45 rfl (fun b2 a w hF hW => ?_)
  refine ls_nil ?_
  refine c_then ?_
  refine c_seq ?_
  refine c_seq ?_
  refine reg_list ?_
  refine ls hF hW rfl (y_load (v := Value.agg #[Value.int IntKind.i64 lo, Value.int IntKind.i64 hi]) 1 hF rfl rfl T45 rfl) (fun a w hF hW => ?_)
  refine ls hF hW rfl (y_call (v := Value.bool (rempty lo hi)) hF H42 rfl (fun w _ => rempty_any lo hi w )) (fun a w hF hW => ?_)
  refine ls_nil ?_
  refine c_then ?_
  refine c_cond hF rfl (fun hb => ?_) (fun hb => ?_)
  ·
    have c1 := hb
    simp only [hb] at hF
    clear hb
    refine c_seq ?_
    refine reg_list ?_
    refine ls hF hW rfl (y_load (v := Value.agg #[Value.int IntKind.i64 lo, Value.int IntKind.i64 hi]) 1 hF rfl rfl T45 rfl) (fun a w hF hW => ?_)
    refine ls hF hW rfl (y_call (v := Value.agg #[Value.int IntKind.i64 (rcl_0 lo hi), Value.int IntKind.i64 (rcl_1 lo hi)]) hF H30 rfl (fun w _ => rcl_any lo hi w )) (fun a w hF hW => ?_)
    have f1 := rcl_bd (lo) (hi)
    refine l_store (vs := [Value.int IntKind.i64 (rcl_0 lo hi), Value.int IntKind.i64 (rcl_1 lo hi)]) (M' := [(b2, [Value.int IntKind.i64 (rcl_0 lo hi), Value.int IntKind.i64 (rcl_1 lo hi)]), (b1, [Value.int IntKind.i64 lo, Value.int IntKind.i64 hi])]) 0 hF hW rfl rfl rfl T45 rfl rfl rfl rfl rfl (fun w hW => ?_)
    refine ls_nil ?_
    refine c_then ?_
    refine wp_ret ?_
    refine r_then ?_
    refine post1 (.inl rfl) hF hW rfl (rv_cell (v := Value.agg #[Value.int IntKind.i64 (rcl_0 lo hi), Value.int IntKind.i64 (rcl_1 lo hi)]) 0 hF rfl rfl T45 rfl) ?_
    exact ⟨congrArg Ending.returned (vagg (lcons (vint (show (rcl_0 lo hi) = rmoved_0 lo hi x y by rw [rmoved_0, if_pos c1])) (lcons (vint (show (rcl_1 lo hi) = rmoved_1 lo hi x y by rw [rmoved_1, if_pos c1])) rfl))), hW.frm.below⟩
  ·
    have c1 : ¬ ((rempty lo hi) = true) := by rw [hb]; decide
    simp only [hb] at hF
    clear hb
    refine wp_skip ?_
    refine c_then ?_
    refine c_seq ?_
    refine reg_list ?_
    refine ls hF hW rfl (y_load (v := Value.agg #[Value.int IntKind.i64 lo, Value.int IntKind.i64 hi]) 1 hF rfl rfl T45 rfl) (fun a w hF hW => ?_)
    refine ls hF hW rfl (y_call (v := Value.agg #[Value.int IntKind.i64 (rcl_0 lo hi), Value.int IntKind.i64 (rcl_1 lo hi)]) hF H30 rfl (fun w _ => rcl_any lo hi w )) (fun a w hF hW => ?_)
    have f2 := rcl_bd (lo) (hi)
    refine l_alloc (cs := [Value.int IntKind.i64 0, Value.int IntKind.i64 0]) hF hW rfl Z45 rfl (fun b3 a w hF hW => ?_)
    refine l_store (vs := [Value.int IntKind.i64 (rcl_0 lo hi), Value.int IntKind.i64 (rcl_1 lo hi)]) (M' := [(b3, [Value.int IntKind.i64 (rcl_0 lo hi), Value.int IntKind.i64 (rcl_1 lo hi)]), (b2, [Value.int IntKind.i64 0, Value.int IntKind.i64 0]), (b1, [Value.int IntKind.i64 lo, Value.int IntKind.i64 hi])]) 0 hF hW rfl rfl rfl T45 rfl rfl rfl rfl rfl (fun w hW => ?_)
    refine ls_nil ?_
    refine c_then ?_
    refine c_seq ?_
    refine reg_tail 12 hW MO (by kernel_rfl) ?_
    refine qs hF rfl (y_fieldAddr Try.underlying45 rfl rfl rfl T3 hF rfl 0 rfl) (fun a hF => ?_)
    refine qs hF rfl (y_load (v := Value.int IntKind.i64 (rcl_0 lo hi)) 0 hF rfl rfl T3 rfl) (fun a hF => ?_)
    refine qs hF rfl (y_move hF rfl) (fun a hF => ?_)
    refine qs hF rfl (y_call (v := Value.int IntKind.i64 (near x)) hF H69 rfl (fun w _ => near_any x w )) (fun a hF => ?_)
    have f3 := near_bd (x)
    refine qs hF rfl (y_add hF rfl rfl (r := (rcl_0 lo hi) + (near x)) (IntWalk.i64_in _ (by omega))) (fun a hF => ?_)
    refine qs hF rfl (y_fieldAddr Try.underlying45 rfl rfl rfl T3 hF rfl 1 rfl) (fun a hF => ?_)
    refine qs hF rfl (y_load (v := Value.int IntKind.i64 (rcl_1 lo hi)) 0 hF rfl rfl T3 rfl) (fun a hF => ?_)
    refine qs hF rfl (y_move hF rfl) (fun a hF => ?_)
    refine qs hF rfl (y_call (v := Value.int IntKind.i64 (near y)) hF H69 rfl (fun w _ => near_any y w )) (fun a hF => ?_)
    have f4 := near_bd (y)
    refine qs hF rfl (y_add hF rfl rfl (r := (rcl_1 lo hi) + (near y)) (IntWalk.i64_in _ (by omega))) (fun a hF => ?_)
    refine qs hF rfl (y_build (v := Value.agg #[Value.int IntKind.i64 ((rcl_0 lo hi) + (near x)), Value.int IntKind.i64 ((rcl_1 lo hi) + (near y))]) B45 hF rfl rfl rfl) (fun a hF => ?_)
    refine qs hF rfl (y_call (v := Value.agg #[Value.int IntKind.i64 (rcl_0 ((rcl_0 lo hi) + (near x)) ((rcl_1 lo hi) + (near y))), Value.int IntKind.i64 (rcl_1 ((rcl_0 lo hi) + (near x)) ((rcl_1 lo hi) + (near y)))]) hF H30 rfl (fun w _ => rcl_any ((rcl_0 lo hi) + (near x)) ((rcl_1 lo hi) + (near y)) w )) (fun a hF => ?_)
    have f5 := rcl_bd (((rcl_0 lo hi) + (near x))) (((rcl_1 lo hi) + (near y)))
    refine quiet_end (fun w hW => ?_)
    refine l_store (vs := [Value.int IntKind.i64 (rcl_0 ((rcl_0 lo hi) + (near x)) ((rcl_1 lo hi) + (near y))), Value.int IntKind.i64 (rcl_1 ((rcl_0 lo hi) + (near x)) ((rcl_1 lo hi) + (near y)))]) (M' := [(b3, [Value.int IntKind.i64 (rcl_0 lo hi), Value.int IntKind.i64 (rcl_1 lo hi)]), (b2, [Value.int IntKind.i64 (rcl_0 ((rcl_0 lo hi) + (near x)) ((rcl_1 lo hi) + (near y))), Value.int IntKind.i64 (rcl_1 ((rcl_0 lo hi) + (near x)) ((rcl_1 lo hi) + (near y)))]), (b1, [Value.int IntKind.i64 lo, Value.int IntKind.i64 hi])]) 1 hF hW rfl rfl rfl T45 rfl rfl rfl rfl rfl (fun w hW => ?_)
    refine ls_nil ?_
    refine c_then ?_
    refine wp_ret ?_
    refine post1 (.inl rfl) hF hW rfl (rv_cell (v := Value.agg #[Value.int IntKind.i64 (rcl_0 ((rcl_0 lo hi) + (near x)) ((rcl_1 lo hi) + (near y))), Value.int IntKind.i64 (rcl_1 ((rcl_0 lo hi) + (near x)) ((rcl_1 lo hi) + (near y)))]) 1 hF rfl rfl T45 rfl) ?_
    exact ⟨congrArg Ending.returned (vagg (lcons (vint (show (rcl_0 ((rcl_0 lo hi) + (near x)) ((rcl_1 lo hi) + (near y))) = rmoved_0 lo hi x y by rw [rmoved_0, if_neg c1])) (lcons (vint (show (rcl_1 ((rcl_0 lo hi) + (near x)) ((rcl_1 lo hi) + (near y))) = rmoved_1 lo hi x y by rw [rmoved_1, if_neg c1])) rfl))), hW.frm.below⟩

def rwiden_0 (lo : Int) (hi : Int) (x : Int) : Int := if (near x) < 0 then rmoved_0 lo hi 0 0 else rmoved_0 lo hi (0 - (near x)) (near x)
def rwiden_1 (lo : Int) (hi : Int) (x : Int) : Int := if (near x) < 0 then rmoved_1 lo hi 0 0 else rmoved_1 lo hi (0 - (near x)) (near x)
theorem rwiden_any (lo : Int) (hi : Int) (x : Int) (w : World)  :
    Calls Try.prog 38 #[Value.agg #[Value.int IntKind.i64 lo, Value.int IntKind.i64 hi], Value.int IntKind.i64 x] w fun e w' => e = .returned (Value.agg #[Value.int IntKind.i64 (rwiden_0 lo hi x), Value.int IntKind.i64 (rwiden_1 lo hi x)]) ∧ Below w.heap.size w w' := by
  refine enter Try.func38 rfl Try.ntmps38 rfl (fun a hF => ?_)
  have hW := Stw.start w
  refine c_seq ?_
  refine reg_list ?_
  refine l_box (cs := [Value.int IntKind.i64 lo, Value.int IntKind.i64 hi]) hF hW rfl rfl rfl (fun b1 a w hF hW => ?_)
  refine l_alloc (cs := [Value.int IntKind.i64 0, Value.int IntKind.i64 0]) hF hW rfl Z45 rfl (fun b2 a w hF hW => ?_)
  refine ls_nil ?_
  refine c_then ?_
  refine c_seq ?_
  refine reg_list ?_
  refine ls hF hW rfl (y_move hF rfl) (fun a w hF hW => ?_)
  refine ls hF hW rfl (y_call (v := Value.int IntKind.i64 (near x)) hF H69 rfl (fun w _ => near_any x w )) (fun a w hF hW => ?_)
  have f1 := near_bd (x)
  refine ls hF hW rfl (y_assign hF rfl) (fun a w hF hW => ?_)
  refine ls_nil ?_
  refine c_then ?_
  refine c_seq ?_
  refine c_seq ?_
  refine reg_list ?_
  refine ls hF hW rfl (y_move hF rfl) (fun a w hF hW => ?_)
  refine ls hF hW rfl (y_lss hF rfl rfl) (fun a w hF hW => ?_)
  refine ls_nil ?_
  refine c_then ?_
  refine c_cond hF rfl (fun hb => ?_) (fun hb => ?_)
  ·
    have c1 := of_decide_eq_true hb
    simp only [hb] at hF
    clear hb
    refine reg_list ?_
    refine ls hF hW rfl (y_assign hF rfl) (fun a w hF hW => ?_)
    refine ls_nil ?_
    refine c_then ?_
    refine c_seq ?_
    refine reg_list ?_
    refine ls hF hW rfl (y_load (v := Value.agg #[Value.int IntKind.i64 lo, Value.int IntKind.i64 hi]) 1 hF rfl rfl T45 rfl) (fun a w hF hW => ?_)
    refine ls hF hW rfl (y_move hF rfl) (fun a w hF hW => ?_)
    refine ls hF hW rfl (y_sub hF rfl rfl (r := 0) (by decide)) (fun a w hF hW => ?_)
    refine ls hF hW rfl (y_move hF rfl) (fun a w hF hW => ?_)
    refine ls hF hW rfl (y_call (v := Value.agg #[Value.int IntKind.i64 (rmoved_0 lo hi 0 0), Value.int IntKind.i64 (rmoved_1 lo hi 0 0)]) hF H36 rfl (fun w _ => rmoved_any lo hi 0 0 w )) (fun a w hF hW => ?_)
    refine l_store (vs := [Value.int IntKind.i64 (rmoved_0 lo hi 0 0), Value.int IntKind.i64 (rmoved_1 lo hi 0 0)]) (M' := [(b2, [Value.int IntKind.i64 (rmoved_0 lo hi 0 0), Value.int IntKind.i64 (rmoved_1 lo hi 0 0)]), (b1, [Value.int IntKind.i64 lo, Value.int IntKind.i64 hi])]) 0 hF hW rfl rfl rfl T45 rfl rfl rfl rfl rfl (fun w hW => ?_)
    refine ls_nil ?_
    refine c_then ?_
    refine wp_ret ?_
    refine post1 (.inl rfl) hF hW rfl (rv_cell (v := Value.agg #[Value.int IntKind.i64 (rmoved_0 lo hi 0 0), Value.int IntKind.i64 (rmoved_1 lo hi 0 0)]) 0 hF rfl rfl T45 rfl) ?_
    exact ⟨congrArg Ending.returned (vagg (lcons (vint (show (rmoved_0 lo hi 0 0) = rwiden_0 lo hi x by rw [rwiden_0, if_pos c1])) (lcons (vint (show (rmoved_1 lo hi 0 0) = rwiden_1 lo hi x by rw [rwiden_1, if_pos c1])) rfl))), hW.frm.below⟩
  ·
    have c1 := of_decide_eq_false hb
    simp only [hb] at hF
    clear hb
    refine wp_skip ?_
    refine c_then ?_
    refine c_seq ?_
    refine reg_list ?_
    refine ls hF hW rfl (y_load (v := Value.agg #[Value.int IntKind.i64 lo, Value.int IntKind.i64 hi]) 1 hF rfl rfl T45 rfl) (fun a w hF hW => ?_)
    refine ls hF hW rfl (y_move hF rfl) (fun a w hF hW => ?_)
    refine ls hF hW rfl (y_sub hF rfl rfl (r := 0 - (near x)) (IntWalk.i64_in _ (by omega))) (fun a w hF hW => ?_)
    refine ls hF hW rfl (y_move hF rfl) (fun a w hF hW => ?_)
    refine ls hF hW rfl (y_call (v := Value.agg #[Value.int IntKind.i64 (rmoved_0 lo hi (0 - (near x)) (near x)), Value.int IntKind.i64 (rmoved_1 lo hi (0 - (near x)) (near x))]) hF H36 rfl (fun w _ => rmoved_any lo hi (0 - (near x)) (near x) w )) (fun a w hF hW => ?_)
    refine l_store (vs := [Value.int IntKind.i64 (rmoved_0 lo hi (0 - (near x)) (near x)), Value.int IntKind.i64 (rmoved_1 lo hi (0 - (near x)) (near x))]) (M' := [(b2, [Value.int IntKind.i64 (rmoved_0 lo hi (0 - (near x)) (near x)), Value.int IntKind.i64 (rmoved_1 lo hi (0 - (near x)) (near x))]), (b1, [Value.int IntKind.i64 lo, Value.int IntKind.i64 hi])]) 0 hF hW rfl rfl rfl T45 rfl rfl rfl rfl rfl (fun w hW => ?_)
    refine ls_nil ?_
    refine c_then ?_
    refine wp_ret ?_
    refine post1 (.inl rfl) hF hW rfl (rv_cell (v := Value.agg #[Value.int IntKind.i64 (rmoved_0 lo hi (0 - (near x)) (near x)), Value.int IntKind.i64 (rmoved_1 lo hi (0 - (near x)) (near x))]) 0 hF rfl rfl T45 rfl) ?_
    exact ⟨congrArg Ending.returned (vagg (lcons (vint (show (rmoved_0 lo hi (0 - (near x)) (near x)) = rwiden_0 lo hi x by rw [rwiden_0, if_neg c1])) (lcons (vint (show (rmoved_1 lo hi (0 - (near x)) (near x)) = rwiden_1 lo hi x by rw [rwiden_1, if_neg c1])) rfl))), hW.frm.below⟩

def rmid (lo : Int) (hi : Int) : Int := if (rempty lo hi) = true then 0 else if ((rcl_0 lo hi) + (rcl_1 lo hi)) < ((((rcl_0 lo hi) + (rcl_1 lo hi)).tdiv 2) * 2) then (((rcl_0 lo hi) + (rcl_1 lo hi)).tdiv 2) - 1 else ((rcl_0 lo hi) + (rcl_1 lo hi)).tdiv 2
theorem rmid_any (lo : Int) (hi : Int) (w : World)  :
    Calls Try.prog 45 #[Value.agg #[Value.int IntKind.i64 lo, Value.int IntKind.i64 hi]] w fun e w' => e = .returned (Value.int IntKind.i64 (rmid lo hi)) ∧ Below w.heap.size w w' := by
  refine enter Try.func45 rfl Try.ntmps45 rfl (fun a hF => ?_)
  have hW := Stw.start w
  refine c_seq ?_
  refine reg_list ?_
  refine l_box (cs := [Value.int IntKind.i64 lo, Value.int IntKind.i64 hi]) hF hW rfl rfl rfl (fun b1 a w hF hW => ?_)
  refine ls hF hW rfl (y_assign hF rfl) (fun a w hF hW => ?_)
  refine ls_nil ?_
  refine c_then ?_
  refine c_seq ?_
  refine c_seq ?_
  refine reg_list ?_
  refine ls hF hW rfl (y_load (v := Value.agg #[Value.int IntKind.i64 lo, Value.int IntKind.i64 hi]) 0 hF rfl rfl T45 rfl) (fun a w hF hW => ?_)
  refine ls hF hW rfl (y_call (v := Value.bool (rempty lo hi)) hF H42 rfl (fun w _ => rempty_any lo hi w )) (fun a w hF hW => ?_)
  refine ls_nil ?_
  refine c_then ?_
  refine c_cond hF rfl (fun hb => ?_) (fun hb => ?_)
  ·
    have c1 := hb
    simp only [hb] at hF
    clear hb
    refine c_seq ?_
    refine reg_list ?_
    refine ls hF hW rfl (y_assign hF rfl) (fun a w hF hW => ?_)
    refine ls_nil ?_
    refine c_then ?_
    refine wp_ret ?_
    refine r_then ?_
    refine post1 (.inl rfl) hF hW rfl (rv_tmp hF rfl) ?_
    exact ⟨congrArg Ending.returned (vint (show (0) = rmid lo hi by rw [rmid, if_pos c1])), hW.frm.below⟩
  ·
    have c1 : ¬ ((rempty lo hi) = true) := by rw [hb]; decide
    simp only [hb] at hF
    clear hb
    refine wp_skip ?_
    refine c_then ?_
    refine c_seq ?_
    refine reg_list ?_
    refine ls hF hW rfl (y_load (v := Value.agg #[Value.int IntKind.i64 lo, Value.int IntKind.i64 hi]) 0 hF rfl rfl T45 rfl) (fun a w hF hW => ?_)
    refine ls hF hW rfl (y_call (v := Value.agg #[Value.int IntKind.i64 (rcl_0 lo hi), Value.int IntKind.i64 (rcl_1 lo hi)]) hF H30 rfl (fun w _ => rcl_any lo hi w )) (fun a w hF hW => ?_)
    have f1 := rcl_bd (lo) (hi)
    refine l_alloc (cs := [Value.int IntKind.i64 0, Value.int IntKind.i64 0]) hF hW rfl Z45 rfl (fun b2 a w hF hW => ?_)
    refine l_store (vs := [Value.int IntKind.i64 (rcl_0 lo hi), Value.int IntKind.i64 (rcl_1 lo hi)]) (M' := [(b2, [Value.int IntKind.i64 (rcl_0 lo hi), Value.int IntKind.i64 (rcl_1 lo hi)]), (b1, [Value.int IntKind.i64 lo, Value.int IntKind.i64 hi])]) 0 hF hW rfl rfl rfl T45 rfl rfl rfl rfl rfl (fun w hW => ?_)
    refine ls_nil ?_
    refine c_then ?_
    refine c_seq ?_
    refine reg_list ?_
    refine ls hF hW rfl (y_fieldAddr Try.underlying45 rfl rfl rfl T3 hF rfl 0 rfl) (fun a w hF hW => ?_)
    refine ls hF hW rfl (y_load (v := Value.int IntKind.i64 (rcl_0 lo hi)) 0 hF rfl rfl T3 rfl) (fun a w hF hW => ?_)
    refine ls hF hW rfl (y_fieldAddr Try.underlying45 rfl rfl rfl T3 hF rfl 1 rfl) (fun a w hF hW => ?_)
    refine ls hF hW rfl (y_load (v := Value.int IntKind.i64 (rcl_1 lo hi)) 0 hF rfl rfl T3 rfl) (fun a w hF hW => ?_)
    refine ls hF hW rfl (y_add hF rfl rfl (r := (rcl_0 lo hi) + (rcl_1 lo hi)) (IntWalk.i64_in _ (by omega))) (fun a w hF hW => ?_)
    refine ls hF hW rfl (y_assign hF rfl) (fun a w hF hW => ?_)
    refine ls_nil ?_
    refine c_then ?_
    refine c_seq ?_
    refine reg_list ?_
    refine ls hF hW rfl (y_move hF rfl) (fun a w hF hW => ?_)
    have f2 := tdiv_lit ((rcl_0 lo hi) + (rcl_1 lo hi)) 2 (by decide)
    refine ls hF hW rfl (y_quo hF rfl rfl (by decide) (r := ((rcl_0 lo hi) + (rcl_1 lo hi)).tdiv 2) (IntWalk.i64_in _ (by omega))) (fun a w hF hW => ?_)
    refine ls hF hW rfl (y_assign hF rfl) (fun a w hF hW => ?_)
    refine ls_nil ?_
    refine c_then ?_
    refine c_seq ?_
    refine c_seq ?_
    refine reg_list ?_
    refine ls hF hW rfl (y_move hF rfl) (fun a w hF hW => ?_)
    refine ls hF hW rfl (y_mul hF rfl rfl (r := (((rcl_0 lo hi) + (rcl_1 lo hi)).tdiv 2) * 2) (IntWalk.i64_in _ (by omega))) (fun a w hF hW => ?_)
    refine ls hF hW rfl (y_move hF rfl) (fun a w hF hW => ?_)
    refine ls hF hW rfl (y_gtr hF rfl rfl) (fun a w hF hW => ?_)
    refine ls_nil ?_
    refine c_then ?_
    refine c_cond hF rfl (fun hb => ?_) (fun hb => ?_)
    ·
      have c2 := of_decide_eq_true hb
      simp only [hb] at hF
      clear hb
      refine reg_list ?_
      refine ls hF hW rfl (y_move hF rfl) (fun a w hF hW => ?_)
      refine ls hF hW rfl (y_sub hF rfl rfl (r := (((rcl_0 lo hi) + (rcl_1 lo hi)).tdiv 2) - 1) (IntWalk.i64_in _ (by omega))) (fun a w hF hW => ?_)
      refine ls hF hW rfl (y_assign hF rfl) (fun a w hF hW => ?_)
      refine ls_nil ?_
      refine c_then ?_
      refine c_seq ?_
      refine reg_list ?_
      refine ls hF hW rfl (y_move hF rfl) (fun a w hF hW => ?_)
      refine ls hF hW rfl (y_assign hF rfl) (fun a w hF hW => ?_)
      refine ls_nil ?_
      refine c_then ?_
      refine wp_ret ?_
      refine post1 (.inl rfl) hF hW rfl (rv_tmp hF rfl) ?_
      exact ⟨congrArg Ending.returned (vint (show ((((rcl_0 lo hi) + (rcl_1 lo hi)).tdiv 2) - 1) = rmid lo hi by rw [rmid, if_neg c1, if_pos c2])), hW.frm.below⟩
    ·
      have c2 := of_decide_eq_false hb
      simp only [hb] at hF
      clear hb
      refine wp_skip ?_
      refine c_then ?_
      refine c_seq ?_
      refine reg_list ?_
      refine ls hF hW rfl (y_move hF rfl) (fun a w hF hW => ?_)
      refine ls hF hW rfl (y_assign hF rfl) (fun a w hF hW => ?_)
      refine ls_nil ?_
      refine c_then ?_
      refine wp_ret ?_
      refine post1 (.inl rfl) hF hW rfl (rv_tmp hF rfl) ?_
      exact ⟨congrArg Ending.returned (vint (show (((rcl_0 lo hi) + (rcl_1 lo hi)).tdiv 2) = rmid lo hi by rw [rmid, if_neg c1, if_neg c2])), hW.frm.below⟩

def mine2_0 (lo : Int) (hi : Int) : Int := lo
def mine2_1 (lo : Int) (hi : Int) : Int := hi
theorem mine2_any (lo : Int) (hi : Int) (w : World)  :
    Calls Try.prog 27 #[Value.agg #[Value.int IntKind.i64 lo, Value.int IntKind.i64 hi]] w fun e w' => e = .returned (Value.agg #[Value.int IntKind.i64 (mine2_0 lo hi), Value.int IntKind.i64 (mine2_1 lo hi)]) ∧ Below w.heap.size w w' := by
  refine enter Try.func27 rfl Try.ntmps27 rfl (fun a hF => ?_)
  have hW := Stw.start w
  refine c_seq ?_
  refine reg_list ?_
  refine l_box (cs := [Value.int IntKind.i64 lo, Value.int IntKind.i64 hi]) hF hW rfl rfl rfl (fun b1 a w hF hW => ?_)
  refine l_alloc (cs := [Value.int IntKind.i64 0, Value.int IntKind.i64 0]) hF hW rfl Z46 rfl (fun b2 a w hF hW => ?_)
  refine ls_nil ?_
  refine c_then ?_
  refine c_seq ?_
  refine reg_list ?_
  refine ls hF hW rfl (y_fieldAddr Try.underlying45 rfl rfl rfl T3 hF rfl 0 rfl) (fun a w hF hW => ?_)
  refine ls hF hW rfl (y_load (v := Value.int IntKind.i64 lo) 1 hF rfl rfl T3 rfl) (fun a w hF hW => ?_)
  refine ls hF hW rfl (y_fieldAddr Try.underlying45 rfl rfl rfl T3 hF rfl 1 rfl) (fun a w hF hW => ?_)
  refine ls hF hW rfl (y_load (v := Value.int IntKind.i64 hi) 1 hF rfl rfl T3 rfl) (fun a w hF hW => ?_)
  refine ls hF hW rfl (y_build (v := Value.agg #[Value.int IntKind.i64 lo, Value.int IntKind.i64 hi]) B46 hF rfl rfl rfl) (fun a w hF hW => ?_)
  refine l_store (vs := [Value.int IntKind.i64 lo, Value.int IntKind.i64 hi]) (M' := [(b2, [Value.int IntKind.i64 lo, Value.int IntKind.i64 hi]), (b1, [Value.int IntKind.i64 lo, Value.int IntKind.i64 hi])]) 0 hF hW rfl rfl rfl T46 rfl rfl rfl rfl rfl (fun w hW => ?_)
  refine ls_nil ?_
  refine c_then ?_
  refine wp_ret ?_
  refine post1 (.inl rfl) hF hW rfl (rv_cell (v := Value.agg #[Value.int IntKind.i64 lo, Value.int IntKind.i64 hi]) 0 hF rfl rfl T46 rfl) ?_
  exact ⟨congrArg Ending.returned (vagg (lcons (vint (show (lo) = mine2_0 lo hi by rw [mine2_0])) (lcons (vint (show (hi) = mine2_1 lo hi by rw [mine2_1])) rfl))), hW.frm.below⟩

def like (lo : Int) (hi : Int) (lo2 : Int) (hi2 : Int) : Bool := if lo = lo2 then decide (hi = hi2) else false
theorem like_any (lo : Int) (hi : Int) (lo2 : Int) (hi2 : Int) (w : World)  :
    Calls Try.prog 28 #[Value.agg #[Value.int IntKind.i64 lo, Value.int IntKind.i64 hi], Value.agg #[Value.int IntKind.i64 lo2, Value.int IntKind.i64 hi2]] w fun e w' => e = .returned (Value.bool (like lo hi lo2 hi2)) ∧ Below w.heap.size w w' := by
  refine enter Try.func28 rfl Try.ntmps28 rfl (fun a hF => ?_)
  have hW := Stw.start w
  refine c_seq ?_
  refine reg_list ?_
  refine l_box (cs := [Value.int IntKind.i64 lo, Value.int IntKind.i64 hi]) hF hW rfl rfl rfl (fun b1 a w hF hW => ?_)
  refine l_box (cs := [Value.int IntKind.i64 lo2, Value.int IntKind.i64 hi2]) hF hW rfl rfl rfl (fun b2 a w hF hW => ?_)
  refine ls hF hW rfl (y_assign hF rfl) (fun a w hF hW => ?_)
  refine ls_nil ?_
  refine c_then ?_
  refine c_seq ?_
  refine reg_list ?_
  refine ls hF hW rfl (y_fieldAddr Try.underlying46 rfl rfl rfl T3 hF rfl 0 rfl) (fun a w hF hW => ?_)
  refine ls hF hW rfl (y_load (v := Value.int IntKind.i64 lo) 1 hF rfl rfl T3 rfl) (fun a w hF hW => ?_)
  refine ls hF hW rfl (y_fieldAddr Try.underlying45 rfl rfl rfl T3 hF rfl 0 rfl) (fun a w hF hW => ?_)
  refine ls hF hW rfl (y_load (v := Value.int IntKind.i64 lo2) 0 hF rfl rfl T3 rfl) (fun a w hF hW => ?_)
  refine ls hF hW rfl (y_eql hF rfl rfl) (fun a w hF hW => ?_)
  refine ls hF hW rfl (y_move hF rfl) (fun a w hF hW => ?_)
  rcases Bool.eq_false_or_eq_true (decide (lo = lo2)) with hb | hb
  ·
    have c1 := of_decide_eq_true hb
    simp only [hb] at hF
    clear hb
    refine ls_w hF hW (wanted_y hF rfl rfl rfl rfl) rfl (Nat.le_of_ble_eq_true rfl) (y_fieldAddr Try.underlying46 rfl rfl rfl T3 hF rfl 1 rfl) (fun a w hF hW => ?_)
    refine ls_w hF hW (wanted_y hF rfl rfl rfl rfl) rfl (Nat.le_of_ble_eq_true rfl) (y_load (v := Value.int IntKind.i64 hi) 1 hF rfl rfl T3 rfl) (fun a w hF hW => ?_)
    refine ls_w hF hW (wanted_y hF rfl rfl rfl rfl) rfl (Nat.le_of_ble_eq_true rfl) (y_fieldAddr Try.underlying45 rfl rfl rfl T3 hF rfl 1 rfl) (fun a w hF hW => ?_)
    refine ls_w hF hW (wanted_y hF rfl rfl rfl rfl) rfl (Nat.le_of_ble_eq_true rfl) (y_load (v := Value.int IntKind.i64 hi2) 0 hF rfl rfl T3 rfl) (fun a w hF hW => ?_)
    refine ls_w hF hW (wanted_y hF rfl rfl rfl rfl) rfl (Nat.le_of_ble_eq_true rfl) (y_eql hF rfl rfl) (fun a w hF hW => ?_)
    refine ls hF hW rfl (y_pick_t hF rfl rfl rfl) (fun a w hF hW => ?_)
    refine ls hF hW rfl (y_assign hF rfl) (fun a w hF hW => ?_)
    refine ls_nil ?_
    refine c_then ?_
    refine wp_ret ?_
    refine post1 (.inl rfl) hF hW rfl (rv_tmp hF rfl) ?_
    exact ⟨congrArg Ending.returned (vbool (show (decide (hi = hi2)) = like lo hi lo2 hi2 by rw [like, if_pos c1])), hW.frm.below⟩
  ·
    have c1 := of_decide_eq_false hb
    simp only [hb] at hF
    clear hb
    refine ls_skip hF (wanted_n hF rfl rfl rfl rfl rfl) rfl rfl (fun a hF => ?_)
    refine ls_skip hF (wanted_n hF rfl rfl rfl rfl rfl) rfl rfl (fun a hF => ?_)
    refine ls_skip hF (wanted_n hF rfl rfl rfl rfl rfl) rfl rfl (fun a hF => ?_)
    refine ls_skip hF (wanted_n hF rfl rfl rfl rfl rfl) rfl rfl (fun a hF => ?_)
    refine ls_skip hF (wanted_n hF rfl rfl rfl rfl rfl) rfl rfl (fun a hF => ?_)
    refine ls hF hW rfl (y_pick_f hF rfl rfl rfl) (fun a w hF hW => ?_)
    refine ls hF hW rfl (y_assign hF rfl) (fun a w hF hW => ?_)
    refine ls_nil ?_
    refine c_then ?_
    refine wp_ret ?_
    refine post1 (.inl rfl) hF hW rfl (rv_tmp hF rfl) ?_
    exact ⟨congrArg Ending.returned (vbool (show (false) = like lo hi lo2 hi2 by rw [like, if_neg c1])), hW.frm.below⟩

def awake2  : Bool := if (meet_0 1 5 4 9) = 4 ∧ (meet_1 1 5 4 9) = 5 then if (mid (meet_0 1 5 4 9) (meet_1 1 5 4 9)) = 4 then if (half (meet_0 1 5 4 9) (meet_1 1 5 4 9)) = 1 then if (has (meet_0 1 5 4 9) (meet_1 1 5 4 9) 5) = true then !(has (meet_0 1 5 4 9) (meet_1 1 5 4 9) 3) else false else false else false else false
theorem awake2_any  (w : World)  :
    Calls Try.prog 50 #[] w fun e w' => e = .returned (Value.bool awake2) ∧ Below w.heap.size w w' := by
  refine enter Try.func50 rfl Try.ntmps50 rfl (fun a hF => ?_)
  have hW := Stw.start w
  refine c_seq ?_
  refine reg_list ?_
  refine ls hF hW rfl (y_assign hF rfl) (fun a w hF hW => ?_)
  refine ls_nil ?_
  refine c_then ?_
  refine c_seq ?_
  refine reg_list ?_
  refine ls hF hW rfl (y_build (v := Value.agg #[Value.int IntKind.i64 1, Value.int IntKind.i64 5]) B46 hF rfl rfl rfl) (fun a w hF hW => ?_)
  refine ls hF hW rfl (y_build (v := Value.agg #[Value.int IntKind.i64 4, Value.int IntKind.i64 9]) B46 hF rfl rfl rfl) (fun a w hF hW => ?_)
  refine ls hF hW rfl (y_call (v := Value.agg #[Value.int IntKind.i64 (meet_0 1 5 4 9), Value.int IntKind.i64 (meet_1 1 5 4 9)]) hF H31 rfl (fun w _ => meet_any 1 5 4 9 w )) (fun a w hF hW => ?_)
  refine l_alloc (cs := [Value.int IntKind.i64 0, Value.int IntKind.i64 0]) hF hW rfl Z46 rfl (fun b1 a w hF hW => ?_)
  refine l_store (vs := [Value.int IntKind.i64 (meet_0 1 5 4 9), Value.int IntKind.i64 (meet_1 1 5 4 9)]) (M' := [(b1, [Value.int IntKind.i64 (meet_0 1 5 4 9), Value.int IntKind.i64 (meet_1 1 5 4 9)])]) 0 hF hW rfl rfl rfl T46 rfl rfl rfl rfl rfl (fun w hW => ?_)
  refine ls_nil ?_
  refine c_then ?_
  refine c_seq ?_
  refine reg_list ?_
  refine ls hF hW rfl (y_load (v := Value.agg #[Value.int IntKind.i64 (meet_0 1 5 4 9), Value.int IntKind.i64 (meet_1 1 5 4 9)]) 0 hF rfl rfl T46 rfl) (fun a w hF hW => ?_)
  refine ls hF hW rfl (y_build (v := Value.agg #[Value.int IntKind.i64 4, Value.int IntKind.i64 5]) B46 hF rfl rfl rfl) (fun a w hF hW => ?_)
  refine ls hF hW rfl (y_eqa (t := decide ((meet_0 1 5 4 9) = 4 ∧ (meet_1 1 5 4 9) = 5)) G46 (E46 _ _ _ _) hF rfl rfl) (fun a w hF hW => ?_)
  refine ls hF hW rfl (y_move hF rfl) (fun a w hF hW => ?_)
  rcases Bool.eq_false_or_eq_true (decide ((meet_0 1 5 4 9) = 4 ∧ (meet_1 1 5 4 9) = 5)) with hb | hb
  ·
    have c1 := of_decide_eq_true hb
    simp only [hb] at hF
    clear hb
    refine ls_w hF hW (wanted_y hF rfl rfl rfl rfl) rfl (Nat.le_of_ble_eq_true rfl) (y_load (v := Value.agg #[Value.int IntKind.i64 (meet_0 1 5 4 9), Value.int IntKind.i64 (meet_1 1 5 4 9)]) 0 hF rfl rfl T46 rfl) (fun a w hF hW => ?_)
    refine ls_w hF hW (wanted_y hF rfl rfl rfl rfl) rfl (Nat.le_of_ble_eq_true rfl) (y_call (v := Value.int IntKind.i64 (mid (meet_0 1 5 4 9) (meet_1 1 5 4 9))) hF H44 rfl (fun w _ => mid_any (meet_0 1 5 4 9) (meet_1 1 5 4 9) w )) (fun a w hF hW => ?_)
    have f1 := mid_bd ((meet_0 1 5 4 9)) ((meet_1 1 5 4 9))
    refine ls_w hF hW (wanted_y hF rfl rfl rfl rfl) rfl (Nat.le_of_ble_eq_true rfl) (y_eql hF rfl rfl) (fun a w hF hW => ?_)
    refine ls hF hW rfl (y_pick_t hF rfl rfl rfl) (fun a w hF hW => ?_)
    refine ls hF hW rfl (y_move hF rfl) (fun a w hF hW => ?_)
    rcases Bool.eq_false_or_eq_true (decide ((mid (meet_0 1 5 4 9) (meet_1 1 5 4 9)) = 4)) with hb | hb
    ·
      have c2 := of_decide_eq_true hb
      simp only [hb] at hF
      clear hb
      refine ls_w hF hW (wanted_y hF rfl rfl rfl rfl) rfl (Nat.le_of_ble_eq_true rfl) (y_load (v := Value.agg #[Value.int IntKind.i64 (meet_0 1 5 4 9), Value.int IntKind.i64 (meet_1 1 5 4 9)]) 0 hF rfl rfl T46 rfl) (fun a w hF hW => ?_)
      refine ls_w hF hW (wanted_y hF rfl rfl rfl rfl) rfl (Nat.le_of_ble_eq_true rfl) (y_call (v := Value.int IntKind.i64 (half (meet_0 1 5 4 9) (meet_1 1 5 4 9))) hF H47 rfl (fun w _ => half_any (meet_0 1 5 4 9) (meet_1 1 5 4 9) w )) (fun a w hF hW => ?_)
      refine ls_w hF hW (wanted_y hF rfl rfl rfl rfl) rfl (Nat.le_of_ble_eq_true rfl) (y_eql hF rfl rfl) (fun a w hF hW => ?_)
      refine ls hF hW rfl (y_pick_t hF rfl rfl rfl) (fun a w hF hW => ?_)
      refine ls hF hW rfl (y_move hF rfl) (fun a w hF hW => ?_)
      rcases Bool.eq_false_or_eq_true (decide ((half (meet_0 1 5 4 9) (meet_1 1 5 4 9)) = 1)) with hb | hb
      ·
        have c3 := of_decide_eq_true hb
        simp only [hb] at hF
        clear hb
        refine ls_w hF hW (wanted_y hF rfl rfl rfl rfl) rfl (Nat.le_of_ble_eq_true rfl) (y_load (v := Value.agg #[Value.int IntKind.i64 (meet_0 1 5 4 9), Value.int IntKind.i64 (meet_1 1 5 4 9)]) 0 hF rfl rfl T46 rfl) (fun a w hF hW => ?_)
        refine ls_w hF hW (wanted_y hF rfl rfl rfl rfl) rfl (Nat.le_of_ble_eq_true rfl) (y_call (v := Value.bool (has (meet_0 1 5 4 9) (meet_1 1 5 4 9) 5)) hF H39 rfl (fun w _ => has_any (meet_0 1 5 4 9) (meet_1 1 5 4 9) 5 w )) (fun a w hF hW => ?_)
        refine ls hF hW rfl (y_pick_t hF rfl rfl rfl) (fun a w hF hW => ?_)
        refine ls hF hW rfl (y_move hF rfl) (fun a w hF hW => ?_)
        rcases Bool.eq_false_or_eq_true (has (meet_0 1 5 4 9) (meet_1 1 5 4 9) 5) with hb | hb
        ·
          have c4 := hb
          simp only [hb] at hF
          clear hb
          refine ls_w hF hW (wanted_y hF rfl rfl rfl rfl) rfl (Nat.le_of_ble_eq_true rfl) (y_load (v := Value.agg #[Value.int IntKind.i64 (meet_0 1 5 4 9), Value.int IntKind.i64 (meet_1 1 5 4 9)]) 0 hF rfl rfl T46 rfl) (fun a w hF hW => ?_)
          refine ls_w hF hW (wanted_y hF rfl rfl rfl rfl) rfl (Nat.le_of_ble_eq_true rfl) (y_call (v := Value.bool (has (meet_0 1 5 4 9) (meet_1 1 5 4 9) 3)) hF H39 rfl (fun w _ => has_any (meet_0 1 5 4 9) (meet_1 1 5 4 9) 3 w )) (fun a w hF hW => ?_)
          refine ls_w hF hW (wanted_y hF rfl rfl rfl rfl) rfl (Nat.le_of_ble_eq_true rfl) (y_not hF rfl) (fun a w hF hW => ?_)
          refine ls hF hW rfl (y_pick_t hF rfl rfl rfl) (fun a w hF hW => ?_)
          refine ls hF hW rfl (y_assign hF rfl) (fun a w hF hW => ?_)
          refine ls_nil ?_
          refine c_then ?_
          refine wp_ret ?_
          refine post1 (.inl rfl) hF hW rfl (rv_tmp hF rfl) ?_
          exact ⟨congrArg Ending.returned (vbool (show (!(has (meet_0 1 5 4 9) (meet_1 1 5 4 9) 3)) = awake2 by rw [awake2, if_pos c1, if_pos c2, if_pos c3, if_pos c4])), hW.frm.below⟩
        ·
          have c4 : ¬ ((has (meet_0 1 5 4 9) (meet_1 1 5 4 9) 5) = true) := by rw [hb]; decide
          simp only [hb] at hF
          clear hb
          refine ls_skip hF (wanted_n hF rfl rfl rfl rfl rfl) rfl rfl (fun a hF => ?_)
          refine ls_skip hF (wanted_n hF rfl rfl rfl rfl rfl) rfl rfl (fun a hF => ?_)
          refine ls_skip hF (wanted_n hF rfl rfl rfl rfl rfl) rfl rfl (fun a hF => ?_)
          refine ls hF hW rfl (y_pick_f hF rfl rfl rfl) (fun a w hF hW => ?_)
          refine ls hF hW rfl (y_assign hF rfl) (fun a w hF hW => ?_)
          refine ls_nil ?_
          refine c_then ?_
          refine wp_ret ?_
          refine post1 (.inl rfl) hF hW rfl (rv_tmp hF rfl) ?_
          exact ⟨congrArg Ending.returned (vbool (show (false) = awake2 by rw [awake2, if_pos c1, if_pos c2, if_pos c3, if_neg c4])), hW.frm.below⟩
      ·
        have c3 := of_decide_eq_false hb
        simp only [hb] at hF
        clear hb
        refine ls_skip hF (wanted_n hF rfl rfl rfl rfl rfl) rfl rfl (fun a hF => ?_)
        refine ls_skip hF (wanted_n hF rfl rfl rfl rfl rfl) rfl rfl (fun a hF => ?_)
        refine ls hF hW rfl (y_pick_f hF rfl rfl rfl) (fun a w hF hW => ?_)
        refine ls hF hW rfl (y_move hF rfl) (fun a w hF hW => ?_)
        refine ls_skip hF (wanted_n hF rfl rfl rfl rfl rfl) rfl rfl (fun a hF => ?_)
        refine ls_skip hF (wanted_n hF rfl rfl rfl rfl rfl) rfl rfl (fun a hF => ?_)
        refine ls_skip hF (wanted_n hF rfl rfl rfl rfl rfl) rfl rfl (fun a hF => ?_)
        refine ls hF hW rfl (y_pick_f hF rfl rfl rfl) (fun a w hF hW => ?_)
        refine ls hF hW rfl (y_assign hF rfl) (fun a w hF hW => ?_)
        refine ls_nil ?_
        refine c_then ?_
        refine wp_ret ?_
        refine post1 (.inl rfl) hF hW rfl (rv_tmp hF rfl) ?_
        exact ⟨congrArg Ending.returned (vbool (show (false) = awake2 by rw [awake2, if_pos c1, if_pos c2, if_neg c3])), hW.frm.below⟩
    ·
      have c2 := of_decide_eq_false hb
      simp only [hb] at hF
      clear hb
      refine ls_skip hF (wanted_n hF rfl rfl rfl rfl rfl) rfl rfl (fun a hF => ?_)
      refine ls_skip hF (wanted_n hF rfl rfl rfl rfl rfl) rfl rfl (fun a hF => ?_)
      refine ls_skip hF (wanted_n hF rfl rfl rfl rfl rfl) rfl rfl (fun a hF => ?_)
      refine ls hF hW rfl (y_pick_f hF rfl rfl rfl) (fun a w hF hW => ?_)
      refine ls hF hW rfl (y_move hF rfl) (fun a w hF hW => ?_)
      refine ls_skip hF (wanted_n hF rfl rfl rfl rfl rfl) rfl rfl (fun a hF => ?_)
      refine ls_skip hF (wanted_n hF rfl rfl rfl rfl rfl) rfl rfl (fun a hF => ?_)
      refine ls hF hW rfl (y_pick_f hF rfl rfl rfl) (fun a w hF hW => ?_)
      refine ls hF hW rfl (y_move hF rfl) (fun a w hF hW => ?_)
      refine ls_skip hF (wanted_n hF rfl rfl rfl rfl rfl) rfl rfl (fun a hF => ?_)
      refine ls_skip hF (wanted_n hF rfl rfl rfl rfl rfl) rfl rfl (fun a hF => ?_)
      refine ls_skip hF (wanted_n hF rfl rfl rfl rfl rfl) rfl rfl (fun a hF => ?_)
      refine ls hF hW rfl (y_pick_f hF rfl rfl rfl) (fun a w hF hW => ?_)
      refine ls hF hW rfl (y_assign hF rfl) (fun a w hF hW => ?_)
      refine ls_nil ?_
      refine c_then ?_
      refine wp_ret ?_
      refine post1 (.inl rfl) hF hW rfl (rv_tmp hF rfl) ?_
      exact ⟨congrArg Ending.returned (vbool (show (false) = awake2 by rw [awake2, if_pos c1, if_neg c2])), hW.frm.below⟩
  ·
    have c1 := of_decide_eq_false hb
    simp only [hb] at hF
    clear hb
    refine ls_skip hF (wanted_n hF rfl rfl rfl rfl rfl) rfl rfl (fun a hF => ?_)
    refine ls_skip hF (wanted_n hF rfl rfl rfl rfl rfl) rfl rfl (fun a hF => ?_)
    refine ls_skip hF (wanted_n hF rfl rfl rfl rfl rfl) rfl rfl (fun a hF => ?_)
    refine ls hF hW rfl (y_pick_f hF rfl rfl rfl) (fun a w hF hW => ?_)
    refine ls hF hW rfl (y_move hF rfl) (fun a w hF hW => ?_)
    refine ls_skip hF (wanted_n hF rfl rfl rfl rfl rfl) rfl rfl (fun a hF => ?_)
    refine ls_skip hF (wanted_n hF rfl rfl rfl rfl rfl) rfl rfl (fun a hF => ?_)
    refine ls_skip hF (wanted_n hF rfl rfl rfl rfl rfl) rfl rfl (fun a hF => ?_)
    refine ls hF hW rfl (y_pick_f hF rfl rfl rfl) (fun a w hF hW => ?_)
    refine ls hF hW rfl (y_move hF rfl) (fun a w hF hW => ?_)
    refine ls_skip hF (wanted_n hF rfl rfl rfl rfl rfl) rfl rfl (fun a hF => ?_)
    refine ls_skip hF (wanted_n hF rfl rfl rfl rfl rfl) rfl rfl (fun a hF => ?_)
    refine ls hF hW rfl (y_pick_f hF rfl rfl rfl) (fun a w hF hW => ?_)
    refine ls hF hW rfl (y_move hF rfl) (fun a w hF hW => ?_)
    refine ls_skip hF (wanted_n hF rfl rfl rfl rfl rfl) rfl rfl (fun a hF => ?_)
    refine ls_skip hF (wanted_n hF rfl rfl rfl rfl rfl) rfl rfl (fun a hF => ?_)
    refine ls_skip hF (wanted_n hF rfl rfl rfl rfl rfl) rfl rfl (fun a hF => ?_)
    refine ls hF hW rfl (y_pick_f hF rfl rfl rfl) (fun a w hF hW => ?_)
    refine ls hF hW rfl (y_assign hF rfl) (fun a w hF hW => ?_)
    refine ls_nil ?_
    refine c_then ?_
    refine wp_ret ?_
    refine post1 (.inl rfl) hF hW rfl (rv_tmp hF rfl) ?_
    exact ⟨congrArg Ending.returned (vbool (show (false) = awake2 by rw [awake2, if_neg c1])), hW.frm.below⟩

end Go.Proofs.Ytcnhmbjkippnnaa
