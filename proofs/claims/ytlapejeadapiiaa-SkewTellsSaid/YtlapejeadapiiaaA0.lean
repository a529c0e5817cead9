/- The functions of layer 15, lifted. Conditions: none. -/
import Derived.Test.YtlapejeadapiiaaRows
import Derived.Test.YtlapejeadapiiaaOR
namespace Go.Proofs.Ytlapejeadapiiaa
open Go Go.RowKit
set_option linter.unusedVariables false
set_option linter.unusedSimpArgs false
set_option maxRecDepth 20000
theorem T3 : Ty Try.prog 3 false 1 := ⟨by kernel_rfl, by kernel_rfl⟩
theorem Z3 : (Try.prog.info? 3).bind (·.zero) = some (.int .i64 0) := by kernel_rfl
theorem L26 : Et Try.prog 26 3 1 8 := Et.of Try.underlying26 (by kernel_rfl) (by kernel_rfl) (by kernel_rfl) (by decide)
theorem B30 : Bt Try.prog 30 [.bool false, .int .i64 0, .int .i64 0, .int .i64 0] [(0, 1), (1, 2), (3, 1)] := ⟨⟨.agg #[.bool false, .int .i64 0, .int .i64 0, .int .i64 0], by kernel_rfl, rfl⟩, ⟨_, Try.underlying30, fun w => by kernel_rfl⟩⟩
theorem Z30 : (Try.prog.info? 30).bind (·.zero) = some (.agg #[.bool false, .int .i64 0, .int .i64 0, .int .i64 0]) := by kernel_rfl
theorem T4 : Ty Try.prog 4 false 1 := ⟨by kernel_rfl, by kernel_rfl⟩
theorem T30 : Ty Try.prog 30 true 4 := ⟨by kernel_rfl, by kernel_rfl⟩
theorem Z28 : (Try.prog.info? 28).bind (·.zero) = some (.agg #[.int .i64 0, .int .i64 0]) := by kernel_rfl
def skew_minus (p0 : Int) (p1 : Int) : Int := (if (decide (p1 ≤ p0) && decide ((w64 (p0 - p1)) < 0)) = true then 9223372036854775807 else (if (decide (p0 < p1) && decide (0 ≤ (w64 (p0 - p1)))) = true then (-9223372036854775808) else w64 (p0 - p1)))
theorem skew_minus_c (Y : Nat → Prop) (w0 : World)  (p0 : Int) (p1 : Int) (r : Int) (H : skew_minus p0 p1 = r)  :
    Calls Try.prog 33 #[.int .i64 p0, .int .i64 p1] w0 fun e w' => e = .returned (.int .i64 r) ∧ Below w0.heap.size w0 w' := by
  refine enter Try.func33 rfl Try.ntmps33 rfl (fun a hF => ?_)
  have hW := Stw.start Y w0
  unfold skew_minus at H
  refine c_seq ?_
  refine reg_list ?_
  refine ls hF hW rfl ((y_assign hF rfl).q) (fun a w hF hW => ?_)
  refine ls_nil ?_
  refine c_then ?_
  refine c_seq ?_
  refine reg_list ?_
  refine ls hF hW rfl ((y_move hF rfl).q) (fun a w hF hW => ?_)
  refine ls hF hW rfl ((y_move hF rfl).q) (fun a w hF hW => ?_)
  refine ls hF hW rfl ((y_sub hF rfl rfl rfl).q) (fun a w hF hW => ?_)
  refine ls hF hW rfl ((y_assign hF rfl).q) (fun a w hF hW => ?_)
  refine ls_nil ?_
  refine c_then ?_
  refine c_seq ?_
  refine c_seqJ (fun a w => Fr 24 [] [(0, .int .i64 p0), (1, .int .i64 p1), (4, .int .i64 0), (5, .int .i64 (w64 (p0 - p1))), (15, .bool (decide (p1 ≤ p0) && decide ((w64 (p0 - p1)) < 0)))] a ∧ Stw ⟨Y, [], w0⟩ [] [] w) ?_ ?_
  ·
    refine reg_list ?_
    refine ls hF hW rfl ((y_move hF rfl).q) (fun a w hF hW => ?_)
    refine ls hF hW rfl ((y_move hF rfl).q) (fun a w hF hW => ?_)
    refine ls hF hW rfl ((y_geq hF rfl rfl).q) (fun a w hF hW => ?_)
    refine ls hF hW rfl ((y_move hF rfl).q) (fun a w hF hW => ?_)
    rcases Bool.eq_false_or_eq_true (decide (p1 ≤ p0)) with hb0 | hb0
    ·
      rw [hb0] at hF
      refine ls_w hF hW (wanted_y hF rfl rfl rfl rfl) rfl (Nat.le_of_ble_eq_true rfl) ((y_move hF rfl).q) (fun a w hF hW => ?_)
      refine ls_w hF hW (wanted_y hF rfl rfl rfl rfl) rfl (Nat.le_of_ble_eq_true rfl) ((y_lss hF rfl rfl).q) (fun a w hF hW => ?_)
      refine ls hF hW rfl ((y_pick_t hF rfl rfl rfl).q) (fun a w hF hW => ?_)
      refine ls_nil ?_
      refine c_then ?_
      exact ⟨hF.re ⟨rfl, rfl, rfl, rfl, (by show some (Value.bool (decide ((w64 (p0 - p1)) < 0))) = some (Value.bool (decide (p1 ≤ p0) && decide ((w64 (p0 - p1)) < 0))); try rw [hb0]; all_goals simp only [Bool.not_true, Bool.not_false, Bool.true_and, Bool.false_and, Bool.true_or, Bool.false_or, Bool.and_true, Bool.or_false, cond_true, cond_false]), trivial⟩, hW⟩
    ·
      rw [hb0] at hF
      refine ls_skip hF (wanted_n hF rfl rfl rfl rfl rfl) rfl rfl (fun a hF => ?_)
      refine ls_skip hF (wanted_n hF rfl rfl rfl rfl rfl) rfl rfl (fun a hF => ?_)
      refine ls hF hW rfl ((y_pick_f hF rfl rfl rfl).q) (fun a w hF hW => ?_)
      refine ls_nil ?_
      refine c_then ?_
      exact ⟨hF.re ⟨rfl, rfl, rfl, rfl, (by show some (Value.bool false) = some (Value.bool (decide (p1 ≤ p0) && decide ((w64 (p0 - p1)) < 0))); try rw [hb0]; all_goals simp only [Bool.not_true, Bool.not_false, Bool.true_and, Bool.false_and, Bool.true_or, Bool.false_or, Bool.and_true, Bool.or_false, cond_true, cond_false]), trivial⟩, hW⟩
  rintro a w ⟨hF, hW⟩
  refine c_cond hF rfl (fun hb => ?_) (fun hb => ?_)
  ·
    have H := iteT hb H
    rw [hb] at hF
    clear hb
    refine c_seq ?_
    refine reg_list ?_
    refine ls hF hW rfl ((y_assign hF rfl).q) (fun a w hF hW => ?_)
    refine ls_nil ?_
    refine c_then ?_
    refine wp_ret ?_
    refine r_then ?_
    subst H
    refine post1 (.inl rfl) hF hW rfl (rv_tmp hF rfl) ?_
    exact ⟨rfl, hW.done⟩
  ·
    have H := iteF (by rw [hb]; decide) H
    rw [hb] at hF
    clear hb
    refine wp_skip ?_
    refine c_then ?_
    refine c_seq ?_
    refine c_seqJ (fun a w => Fr 24 [] [(4, .int .i64 0), (5, .int .i64 (w64 (p0 - p1))), (22, .bool (decide (p0 < p1) && decide (0 ≤ (w64 (p0 - p1)))))] a ∧ Stw ⟨Y, [], w0⟩ [] [] w) ?_ ?_
    ·
      refine reg_list ?_
      refine ls hF hW rfl ((y_move hF rfl).q) (fun a w hF hW => ?_)
      refine ls hF hW rfl ((y_move hF rfl).q) (fun a w hF hW => ?_)
      refine ls hF hW rfl ((y_lss hF rfl rfl).q) (fun a w hF hW => ?_)
      refine ls hF hW rfl ((y_move hF rfl).q) (fun a w hF hW => ?_)
      rcases Bool.eq_false_or_eq_true (decide (p0 < p1)) with hb0 | hb0
      ·
        rw [hb0] at hF
        refine ls_w hF hW (wanted_y hF rfl rfl rfl rfl) rfl (Nat.le_of_ble_eq_true rfl) ((y_move hF rfl).q) (fun a w hF hW => ?_)
        refine ls_w hF hW (wanted_y hF rfl rfl rfl rfl) rfl (Nat.le_of_ble_eq_true rfl) ((y_geq hF rfl rfl).q) (fun a w hF hW => ?_)
        refine ls hF hW rfl ((y_pick_t hF rfl rfl rfl).q) (fun a w hF hW => ?_)
        refine ls_nil ?_
        refine c_then ?_
        exact ⟨hF.re ⟨rfl, rfl, (by show some (Value.bool (decide (0 ≤ (w64 (p0 - p1))))) = some (Value.bool (decide (p0 < p1) && decide (0 ≤ (w64 (p0 - p1))))); try rw [hb0]; all_goals simp only [Bool.not_true, Bool.not_false, Bool.true_and, Bool.false_and, Bool.true_or, Bool.false_or, Bool.and_true, Bool.or_false, cond_true, cond_false]), trivial⟩, hW⟩
      ·
        rw [hb0] at hF
        refine ls_skip hF (wanted_n hF rfl rfl rfl rfl rfl) rfl rfl (fun a hF => ?_)
        refine ls_skip hF (wanted_n hF rfl rfl rfl rfl rfl) rfl rfl (fun a hF => ?_)
        refine ls hF hW rfl ((y_pick_f hF rfl rfl rfl).q) (fun a w hF hW => ?_)
        refine ls_nil ?_
        refine c_then ?_
        exact ⟨hF.re ⟨rfl, rfl, (by show some (Value.bool false) = some (Value.bool (decide (p0 < p1) && decide (0 ≤ (w64 (p0 - p1))))); try rw [hb0]; all_goals simp only [Bool.not_true, Bool.not_false, Bool.true_and, Bool.false_and, Bool.true_or, Bool.false_or, Bool.and_true, Bool.or_false, cond_true, cond_false]), trivial⟩, hW⟩
    rintro a w ⟨hF, hW⟩
    refine c_cond hF rfl (fun hb => ?_) (fun hb => ?_)
    ·
      have H := iteT hb H
      rw [hb] at hF
      clear hb
      refine c_seq ?_
      refine reg_list ?_
      refine ls hF hW rfl ((y_assign hF rfl).q) (fun a w hF hW => ?_)
      refine ls_nil ?_
      refine c_then ?_
      refine wp_ret ?_
      refine r_then ?_
      subst H
      refine post1 (.inl rfl) hF hW rfl (rv_tmp hF rfl) ?_
      exact ⟨rfl, hW.done⟩
    ·
      have H := iteF (by rw [hb]; decide) H
      rw [hb] at hF
      clear hb
      refine wp_skip ?_
      refine c_then ?_
      refine c_seq ?_
      refine reg_list ?_
      refine ls hF hW rfl ((y_move hF rfl).q) (fun a w hF hW => ?_)
      refine ls hF hW rfl ((y_assign hF rfl).q) (fun a w hF hW => ?_)
      refine ls_nil ?_
      refine c_then ?_
      refine wp_ret ?_
      subst H
      refine post1 (.inl rfl) hF hW rfl (rv_tmp hF rfl) ?_
      exact ⟨rfl, hW.done⟩

theorem H33 : Has Try.prog 33 := ⟨fun args w => run_callFunc_body Try.func33 rfl (by decide) args w⟩
theorem B28 : Bt Try.prog 28 [.int .i64 0, .int .i64 0] [(0, 1), (1, 1)] := ⟨⟨.agg #[.int .i64 0, .int .i64 0], by kernel_rfl, rfl⟩, ⟨_, Try.underlying28, fun w => by kernel_rfl⟩⟩
theorem T28 : Ty Try.prog 28 true 2 := ⟨by kernel_rfl, by kernel_rfl⟩
theorem MO : Try.prog.follows .mixedOrders = true := by kernel_rfl
noncomputable def clock_floorThousandth (p0 : Int) : Option Int := (if (Int.tmod p0 1000) < 0 then some (w64 ((w64 (Int.tdiv p0 1000)) - 1)) else some (w64 (Int.tdiv p0 1000))).bind fun x1 => some x1
theorem clock_floorThousandth_c (Y : Nat → Prop) (w0 : World)  (p0 : Int) (r : Int) (H : clock_floorThousandth p0 = some r)  :
    Calls Try.prog 46 #[.int .i64 p0] w0 fun e w' => e = .returned (.int .i64 r) ∧ Below w0.heap.size w0 w' := by
  refine enter Try.func46 rfl Try.ntmps46 rfl (fun a hF => ?_)
  have hW := Stw.start Y w0
  unfold clock_floorThousandth at H
  refine c_seq ?_
  refine reg_list ?_
  refine ls hF hW rfl ((y_assign hF rfl).q) (fun a w hF hW => ?_)
  refine ls_nil ?_
  refine c_then ?_
  refine c_seq ?_
  refine reg_list ?_
  refine ls hF hW rfl ((y_move hF rfl).q) (fun a w hF hW => ?_)
  refine ls hF hW rfl ((y_quo hF rfl rfl (by decide) rfl).q) (fun a w hF hW => ?_)
  refine ls hF hW rfl ((y_assign hF rfl).q) (fun a w hF hW => ?_)
  refine ls_nil ?_
  refine c_then ?_
  obtain ⟨o1, G1, K1⟩ := bindE H
  refine c_seqJ (fun a w => ∃ x1 : Int, some (x1) = some o1 ∧ Fr 12 [] [(2, .int .i64 0), (3, .int .i64 x1)] a ∧ Stw ⟨Y, [], w0⟩ [] [] w) ?_ ?_
  ·
    have H := G1
    clear G1 K1
    refine c_seq ?_
    refine reg_list ?_
    refine ls hF hW rfl ((y_move hF rfl).q) (fun a w hF hW => ?_)
    refine ls hF hW rfl ((y_rem hF rfl rfl (by decide) rfl).q) (fun a w hF hW => ?_)
    refine ls hF hW rfl ((y_lss hF rfl rfl).q) (fun a w hF hW => ?_)
    refine ls_nil ?_
    refine c_then ?_
    refine c_cond hF rfl (fun hb => ?_) (fun hb => ?_)
    ·
      have H := iteT (of_decide_eq_true hb) H
      rw [hb] at hF
      clear hb
      refine reg_list ?_
      refine ls hF hW rfl ((y_move hF rfl).q) (fun a w hF hW => ?_)
      refine ls hF hW rfl ((y_sub hF rfl rfl rfl).q) (fun a w hF hW => ?_)
      refine ls hF hW rfl ((y_assign hF rfl).q) (fun a w hF hW => ?_)
      refine ls_nil ?_
      refine c_then ?_
      exact ⟨_, H, hF.re ⟨rfl, rfl, trivial⟩, hW⟩
    ·
      have H := iteF (of_decide_eq_false hb) H
      rw [hb] at hF
      clear hb
      refine wp_skip ?_
      refine c_then ?_
      exact ⟨_, H, hF.re ⟨rfl, rfl, trivial⟩, hW⟩
  rintro a w ⟨x1, hj, hF, hW⟩
  have hj := Option.some.inj hj
  subst hj
  have H := K1
  clear G1 K1
  refine c_seq ?_
  refine reg_list ?_
  refine ls hF hW rfl ((y_move hF rfl).q) (fun a w hF hW => ?_)
  refine ls hF hW rfl ((y_assign hF rfl).q) (fun a w hF hW => ?_)
  refine ls_nil ?_
  refine c_then ?_
  refine wp_ret ?_
  have H := Option.some.inj H
  subst H
  refine post1 (.inl rfl) hF hW rfl (rv_tmp hF rfl) ?_
  exact ⟨rfl, hW.done⟩

theorem H46 : Has Try.prog 46 := ⟨fun args w => run_callFunc_body Try.func46 rfl (by decide) args w⟩
noncomputable def clock_Drift (p0 : Int) (p1 : Int) : Option Int := (clock_floorThousandth (w64 ((w64 (0 - (min (max p1 0) 1000))) * (min (max p0 0) 1099511627776)))).bind fun x1 => some (w64 (0 - x1))
theorem clock_Drift_c (Y : Nat → Prop) (w0 : World)  (p0 : Int) (p1 : Int) (r : Int) (H : clock_Drift p0 p1 = some r)  :
    Calls Try.prog 35 #[.int .i64 p0, .int .i64 p1] w0 fun e w' => e = .returned (.int .i64 r) ∧ Below w0.heap.size w0 w' := by
  refine enter Try.func35 rfl Try.ntmps35 rfl (fun a hF => ?_)
  have hW := Stw.start Y w0
  unfold clock_Drift at H
  refine c_seq ?_
  refine reg_list ?_
  refine ls hF hW rfl ((y_assign hF rfl).q) (fun a w hF hW => ?_)
  refine ls_nil ?_
  refine c_then ?_
  refine c_seq ?_
  refine reg_list ?_
  refine ls hF hW rfl ((y_move hF rfl).q) (fun a w hF hW => ?_)
  refine ls hF hW rfl ((y_max hF rfl rfl).q) (fun a w hF hW => ?_)
  refine ls hF hW rfl ((y_min hF rfl rfl).q) (fun a w hF hW => ?_)
  refine ls hF hW rfl ((y_assign hF rfl).q) (fun a w hF hW => ?_)
  refine ls_nil ?_
  refine c_then ?_
  refine c_seq ?_
  refine reg_list ?_
  refine ls hF hW rfl ((y_move hF rfl).q) (fun a w hF hW => ?_)
  refine ls hF hW rfl ((y_max hF rfl rfl).q) (fun a w hF hW => ?_)
  refine ls hF hW rfl ((y_min hF rfl rfl).q) (fun a w hF hW => ?_)
  refine ls hF hW rfl ((y_assign hF rfl).q) (fun a w hF hW => ?_)
  refine ls_nil ?_
  refine c_then ?_
  refine c_seq ?_
  refine reg_list ?_
  refine ls hF hW rfl ((y_move hF rfl).q) (fun a w hF hW => ?_)
  refine ls hF hW rfl ((y_neg hF rfl rfl).q) (fun a w hF hW => ?_)
  refine ls hF hW rfl ((y_move hF rfl).q) (fun a w hF hW => ?_)
  refine ls hF hW rfl ((y_mul hF rfl rfl rfl).q) (fun a w hF hW => ?_)
  obtain ⟨x1, h1, H⟩ := bindE H
  refine ls hF hW rfl (y_call (v := Value.int .i64 x1) hF H46 rfl (fun w hW => clock_floorThousandth_c any w (w64 ((w64 (0 - (min (max p1 0) 1000))) * (min (max p0 0) 1099511627776))) _ h1)) (fun a w hF hW => ?_)
  refine ls hF hW rfl ((y_neg hF rfl rfl).q) (fun a w hF hW => ?_)
  refine ls hF hW rfl ((y_assign hF rfl).q) (fun a w hF hW => ?_)
  refine ls_nil ?_
  refine c_then ?_
  refine wp_ret ?_
  have H := Option.some.inj H
  subst H
  refine post1 (.inl rfl) hF hW rfl (rv_tmp hF rfl) ?_
  exact ⟨rfl, hW.done⟩

theorem H35 : Has Try.prog 35 := ⟨fun args w => run_callFunc_body Try.func35 rfl (by decide) args w⟩
def span_limited (p0 : Int) : Int := min (max p0 (-4503599627370496)) 4503599627370496
theorem span_limited_c (Y : Nat → Prop) (w0 : World)  (p0 : Int) (r : Int) (H : span_limited p0 = r)  :
    Calls Try.prog 44 #[.int .i64 p0] w0 fun e w' => e = .returned (.int .i64 r) ∧ Below w0.heap.size w0 w' := by
  refine enter Try.func44 rfl Try.ntmps44 rfl (fun a hF => ?_)
  have hW := Stw.start Y w0
  unfold span_limited at H
  refine c_seq ?_
  refine reg_list ?_
  refine ls hF hW rfl ((y_assign hF rfl).q) (fun a w hF hW => ?_)
  refine ls_nil ?_
  refine c_then ?_
  refine c_seq ?_
  refine reg_list ?_
  refine ls hF hW rfl ((y_move hF rfl).q) (fun a w hF hW => ?_)
  refine ls hF hW rfl ((y_max hF rfl rfl).q) (fun a w hF hW => ?_)
  refine ls hF hW rfl ((y_min hF rfl rfl).q) (fun a w hF hW => ?_)
  refine ls hF hW rfl ((y_assign hF rfl).q) (fun a w hF hW => ?_)
  refine ls_nil ?_
  refine c_then ?_
  refine wp_ret ?_
  subst H
  refine post1 (.inl rfl) hF hW rfl (rv_tmp hF rfl) ?_
  exact ⟨rfl, hW.done⟩

theorem H44 : Has Try.prog 44 := ⟨fun args w => run_callFunc_body Try.func44 rfl (by decide) args w⟩
def span_Nothing  : (Int × Int) := (1, 0)
theorem span_Nothing_c (Y : Nat → Prop) (w0 : World)   (r : (Int × Int)) (H : span_Nothing  = r)  :
    Calls Try.prog 32 #[] w0 fun e w' => e = .returned (.agg #[.int .i64 r.1, .int .i64 r.2]) ∧ Below w0.heap.size w0 w' := by
  refine enter Try.func32 rfl Try.ntmps32 rfl (fun a hF => ?_)
  have hW := Stw.start Y w0
  unfold span_Nothing at H
  refine c_seq ?_
  refine reg_list ?_
  refine l_alloc (cs := [.int .i64 0, .int .i64 0]) hF hW rfl Z28 rfl (fun b1 a w hF hW => ?_)
  refine ls_nil ?_
  refine c_then ?_
  refine c_seq ?_
  refine reg_list ?_
  refine ls hF hW rfl ((y_build (v := Value.agg #[.int .i64 1, .int .i64 0]) B28 hF rfl rfl rfl).q) (fun a w hF hW => ?_)
  refine l_store (vs := [.int .i64 1, .int .i64 0]) (M' := [(b1, [.int .i64 1, .int .i64 0])]) 0 hF hW rfl rfl rfl T28 rfl rfl rfl rfl rfl (fun w hW => ?_)
  refine ls_nil ?_
  refine c_then ?_
  refine wp_ret ?_
  subst H
  refine post1 (.inl rfl) hF hW rfl (rv_cell 0 hF rfl rfl T28 rfl) ?_
  exact ⟨rfl, hW.done⟩

theorem H32 : Has Try.prog 32 := ⟨fun args w => run_callFunc_body Try.func32 rfl (by decide) args w⟩
def span_Clean (p0 : Int × Int) : (Int × Int) := (if (span_limited p0.2) < (span_limited p0.1) then span_Nothing else ((span_limited p0.1), (span_limited p0.2)))
theorem span_Clean_c (Y : Nat → Prop) (w0 : World)  (p0 : Int × Int) (r : (Int × Int)) (H : span_Clean p0 = r)  :
    Calls Try.prog 43 #[.agg #[.int .i64 p0.1, .int .i64 p0.2]] w0 fun e w' => e = .returned (.agg #[.int .i64 r.1, .int .i64 r.2]) ∧ Below w0.heap.size w0 w' := by
  refine enter Try.func43 rfl Try.ntmps43 rfl (fun a hF => ?_)
  have hW := Stw.start Y w0
  unfold span_Clean at H
  refine c_seq ?_
  refine reg_list ?_
  refine l_box (cs := [.int .i64 p0.1, .int .i64 p0.2]) hF hW rfl rfl rfl (fun b1 a w hF hW => ?_)
  refine l_alloc (cs := [.int .i64 0, .int .i64 0]) hF hW rfl Z28 rfl (fun b2 a w hF hW => ?_)
  refine ls_nil ?_
  refine c_then ?_
  refine c_seq ?_
  refine reg_tail 7 hW MO (by kernel_rfl) ?_
  refine qs hF rfl ((y_fieldAddr Try.underlying28 rfl rfl rfl T3 hF rfl 0 rfl).q) (fun a hF => ?_)
  refine qs hF rfl ((y_load (v := Value.int .i64 p0.1) 1 hF rfl rfl T3 rfl).q) (fun a hF => ?_)
  refine qs hF rfl (y_call (v := Value.int .i64 (span_limited p0.1)) hF H44 rfl (fun w hW => span_limited_c any w p0.1 _ rfl)) (fun a hF => ?_)
  refine qs hF rfl ((y_fieldAddr Try.underlying28 rfl rfl rfl T3 hF rfl 1 rfl).q) (fun a hF => ?_)
  refine qs hF rfl ((y_load (v := Value.int .i64 p0.2) 1 hF rfl rfl T3 rfl).q) (fun a hF => ?_)
  refine qs hF rfl (y_call (v := Value.int .i64 (span_limited p0.2)) hF H44 rfl (fun w hW => span_limited_c any w p0.2 _ rfl)) (fun a hF => ?_)
  refine qs hF rfl ((y_build (v := Value.agg #[.int .i64 (span_limited p0.1), .int .i64 (span_limited p0.2)]) B28 hF rfl rfl rfl).q) (fun a hF => ?_)
  refine quiet_end (fun w hW => ?_)
  refine l_store (vs := [.int .i64 (span_limited p0.1), .int .i64 (span_limited p0.2)]) (M' := [(b2, [.int .i64 0, .int .i64 0]), (b1, [.int .i64 (span_limited p0.1), .int .i64 (span_limited p0.2)])]) 1 hF hW rfl rfl rfl T28 rfl rfl rfl rfl rfl (fun w hW => ?_)
  refine ls_nil ?_
  refine c_then ?_
  refine c_seq ?_
  refine c_seq ?_
  refine reg_list ?_
  refine ls hF hW rfl ((y_fieldAddr Try.underlying28 rfl rfl rfl T3 hF rfl 1 rfl).q) (fun a w hF hW => ?_)
  refine ls hF hW rfl ((y_load (v := Value.int .i64 (span_limited p0.2)) 1 hF rfl rfl T3 rfl).q) (fun a w hF hW => ?_)
  refine ls hF hW rfl ((y_fieldAddr Try.underlying28 rfl rfl rfl T3 hF rfl 0 rfl).q) (fun a w hF hW => ?_)
  refine ls hF hW rfl ((y_load (v := Value.int .i64 (span_limited p0.1)) 1 hF rfl rfl T3 rfl).q) (fun a w hF hW => ?_)
  refine ls hF hW rfl ((y_lss hF rfl rfl).q) (fun a w hF hW => ?_)
  refine ls_nil ?_
  refine c_then ?_
  refine c_cond hF rfl (fun hb => ?_) (fun hb => ?_)
  ·
    have H := iteT (of_decide_eq_true hb) H
    rw [hb] at hF
    clear hb
    refine c_seq ?_
    refine reg_list ?_
    refine ls hF hW rfl (y_call (v := Value.agg #[.int .i64 span_Nothing.1, .int .i64 span_Nothing.2]) hF H32 rfl (fun w hW => span_Nothing_c any w _ rfl)) (fun a w hF hW => ?_)
    refine l_store (vs := [.int .i64 span_Nothing.1, .int .i64 span_Nothing.2]) (M' := [(b2, [.int .i64 span_Nothing.1, .int .i64 span_Nothing.2]), (b1, [.int .i64 (span_limited p0.1), .int .i64 (span_limited p0.2)])]) 0 hF hW rfl rfl rfl T28 rfl rfl rfl rfl rfl (fun w hW => ?_)
    refine ls_nil ?_
    refine c_then ?_
    refine wp_ret ?_
    refine r_then ?_
    subst H
    refine post1 (.inl rfl) hF hW rfl (rv_cell 0 hF rfl rfl T28 rfl) ?_
    exact ⟨rfl, hW.done⟩
  ·
    have H := iteF (of_decide_eq_false hb) H
    rw [hb] at hF
    clear hb
    refine wp_skip ?_
    refine c_then ?_
    refine c_seq ?_
    refine reg_list ?_
    refine ls hF hW rfl ((y_load (v := Value.agg #[.int .i64 (span_limited p0.1), .int .i64 (span_limited p0.2)]) 1 hF rfl rfl T28 rfl).q) (fun a w hF hW => ?_)
    refine l_store (vs := [.int .i64 (span_limited p0.1), .int .i64 (span_limited p0.2)]) (M' := [(b2, [.int .i64 (span_limited p0.1), .int .i64 (span_limited p0.2)]), (b1, [.int .i64 (span_limited p0.1), .int .i64 (span_limited p0.2)])]) 0 hF hW rfl rfl rfl T28 rfl rfl rfl rfl rfl (fun w hW => ?_)
    refine ls_nil ?_
    refine c_then ?_
    refine wp_ret ?_
    subst H
    refine post1 (.inl rfl) hF hW rfl (rv_cell 0 hF rfl rfl T28 rfl) ?_
    exact ⟨rfl, hW.done⟩

theorem H43 : Has Try.prog 43 := ⟨fun args w => run_callFunc_body Try.func43 rfl (by decide) args w⟩
theorem QD28 (dd : Nat) (x0 : Int) (x1 : Int) (y0 : Int) (y1 : Int) (w : World) : (Op.equalIn (dd + 2) 28 (.agg #[.int .i64 x0, .int .i64 x1]) (.agg #[.int .i64 y0, .int .i64 y1])).run Try.prog w = .ok (decide (x0 = y0 ∧ x1 = y1)) w :=
  eq_struct (d := dd + 1) (rs := [decide (x0 = y0), decide (x1 = y1)]) Try.underlying28 (by kernel_rfl) ⟨rfl, fld_int (d := dd + 0) rfl rfl Try.underlying3 T3 rfl rfl, rfl, fld_int (d := dd + 0) rfl rfl Try.underlying3 T3 rfl rfl, trivial⟩ (by simp) w
theorem G28 : Try.prog.eqGuardType Try.prog.depth 28 = false := by kernel_rfl
theorem Q28 (x0 : Int) (x1 : Int) (y0 : Int) (y1 : Int) (w : World) : (Op.equalIn 10000 28 (.agg #[.int .i64 x0, .int .i64 x1]) (.agg #[.int .i64 y0, .int .i64 y1])).run Try.prog w = .ok (decide (x0 = y0 ∧ x1 = y1)) w := QD28 9998 x0 x1 y0 y1 w
def span_moved (p0 : Int × Int) (p1 : Int) (p2 : Int) : (Int × Int) := (if p0.1 = span_Nothing.1 ∧ p0.2 = span_Nothing.2 then p0 else (span_Clean (w64 (p0.1 + p1), w64 (p0.2 + p2))))
theorem span_moved_c (Y : Nat → Prop) (w0 : World)  (p0 : Int × Int) (p1 : Int) (p2 : Int) (r : (Int × Int)) (H : span_moved p0 p1 p2 = r)  :
    Calls Try.prog 48 #[.agg #[.int .i64 p0.1, .int .i64 p0.2], .int .i64 p1, .int .i64 p2] w0 fun e w' => e = .returned (.agg #[.int .i64 r.1, .int .i64 r.2]) ∧ Below w0.heap.size w0 w' := by
  refine enter Try.func48 rfl Try.ntmps48 rfl (fun a hF => ?_)
  have hW := Stw.start Y w0
  unfold span_moved at H
  refine c_seq ?_
  refine reg_list ?_
  refine l_box (cs := [.int .i64 p0.1, .int .i64 p0.2]) hF hW rfl rfl rfl (fun b1 a w hF hW => ?_)
  refine l_alloc (cs := [.int .i64 0, .int .i64 0]) hF hW rfl Z28 rfl (fun b2 a w hF hW => ?_)
  refine ls_nil ?_
  refine c_then ?_
  refine c_seq ?_
  refine c_seq ?_
  refine reg_quiet hW MO (by kernel_rfl) ?_
  refine qs hF rfl ((y_load (v := Value.agg #[.int .i64 p0.1, .int .i64 p0.2]) 1 hF rfl rfl T28 rfl).q) (fun a hF => ?_)
  refine qs hF rfl (y_call (v := Value.agg #[.int .i64 span_Nothing.1, .int .i64 span_Nothing.2]) hF H32 rfl (fun w hW => span_Nothing_c any w _ rfl)) (fun a hF => ?_)
  refine qs hF rfl ((y_eqa (t := decide (p0.1 = span_Nothing.1 ∧ p0.2 = span_Nothing.2)) G28 (Q28 _ _ _ _) hF rfl rfl).q) (fun a hF => ?_)
  refine quiet_end (fun w hW => ?_)
  refine c_then ?_
  refine c_cond hF rfl (fun hb => ?_) (fun hb => ?_)
  ·
    have H := iteT (of_decide_eq_true hb) H
    rw [hb] at hF
    clear hb
    refine c_seq ?_
    refine reg_list ?_
    refine ls hF hW rfl ((y_load (v := Value.agg #[.int .i64 p0.1, .int .i64 p0.2]) 1 hF rfl rfl T28 rfl).q) (fun a w hF hW => ?_)
    refine l_store (vs := [.int .i64 p0.1, .int .i64 p0.2]) (M' := [(b2, [.int .i64 p0.1, .int .i64 p0.2]), (b1, [.int .i64 p0.1, .int .i64 p0.2])]) 0 hF hW rfl rfl rfl T28 rfl rfl rfl rfl rfl (fun w hW => ?_)
    refine ls_nil ?_
    refine c_then ?_
    refine wp_ret ?_
    refine r_then ?_
    subst H
    refine post1 (.inl rfl) hF hW rfl (rv_cell 0 hF rfl rfl T28 rfl) ?_
    exact ⟨rfl, hW.done⟩
  ·
    have H := iteF (of_decide_eq_false hb) H
    rw [hb] at hF
    clear hb
    refine wp_skip ?_
    refine c_then ?_
    refine c_seq ?_
    refine reg_list ?_
    refine ls hF hW rfl ((y_fieldAddr Try.underlying28 rfl rfl rfl T3 hF rfl 0 rfl).q) (fun a w hF hW => ?_)
    refine ls hF hW rfl ((y_load (v := Value.int .i64 p0.1) 1 hF rfl rfl T3 rfl).q) (fun a w hF hW => ?_)
    refine ls hF hW rfl ((y_move hF rfl).q) (fun a w hF hW => ?_)
    refine ls hF hW rfl ((y_add hF rfl rfl rfl).q) (fun a w hF hW => ?_)
    refine ls hF hW rfl ((y_fieldAddr Try.underlying28 rfl rfl rfl T3 hF rfl 1 rfl).q) (fun a w hF hW => ?_)
    refine ls hF hW rfl ((y_load (v := Value.int .i64 p0.2) 1 hF rfl rfl T3 rfl).q) (fun a w hF hW => ?_)
    refine ls hF hW rfl ((y_move hF rfl).q) (fun a w hF hW => ?_)
    refine ls hF hW rfl ((y_add hF rfl rfl rfl).q) (fun a w hF hW => ?_)
    refine ls hF hW rfl ((y_build (v := Value.agg #[.int .i64 (w64 (p0.1 + p1)), .int .i64 (w64 (p0.2 + p2))]) B28 hF rfl rfl rfl).q) (fun a w hF hW => ?_)
    refine ls hF hW rfl (y_call (v := Value.agg #[.int .i64 ((span_Clean (w64 (p0.1 + p1), w64 (p0.2 + p2))).1), .int .i64 ((span_Clean (w64 (p0.1 + p1), w64 (p0.2 + p2))).2)]) hF H43 rfl (fun w hW => span_Clean_c any w (w64 (p0.1 + p1), w64 (p0.2 + p2)) _ rfl)) (fun a w hF hW => ?_)
    refine l_store (vs := [.int .i64 ((span_Clean (w64 (p0.1 + p1), w64 (p0.2 + p2))).1), .int .i64 ((span_Clean (w64 (p0.1 + p1), w64 (p0.2 + p2))).2)]) (M' := [(b2, [.int .i64 ((span_Clean (w64 (p0.1 + p1), w64 (p0.2 + p2))).1), .int .i64 ((span_Clean (w64 (p0.1 + p1), w64 (p0.2 + p2))).2)]), (b1, [.int .i64 p0.1, .int .i64 p0.2])]) 0 hF hW rfl rfl rfl T28 rfl rfl rfl rfl rfl (fun w hW => ?_)
    refine ls_nil ?_
    refine c_then ?_
    refine wp_ret ?_
    subst H
    refine post1 (.inl rfl) hF hW rfl (rv_cell 0 hF rfl rfl T28 rfl) ?_
    exact ⟨rfl, hW.done⟩

theorem H48 : Has Try.prog 48 := ⟨fun args w => run_callFunc_body Try.func48 rfl (by decide) args w⟩
def span_Widen (p0 : Int × Int) (p1 : Int) : (Int × Int) := (span_moved (span_Clean p0) (w64 (0 - (span_limited (max p1 0)))) (span_limited (max p1 0)))
theorem span_Widen_c (Y : Nat → Prop) (w0 : World)  (p0 : Int × Int) (p1 : Int) (r : (Int × Int)) (H : span_Widen p0 p1 = r)  :
    Calls Try.prog 34 #[.agg #[.int .i64 p0.1, .int .i64 p0.2], .int .i64 p1] w0 fun e w' => e = .returned (.agg #[.int .i64 r.1, .int .i64 r.2]) ∧ Below w0.heap.size w0 w' := by
  refine enter Try.func34 rfl Try.ntmps34 rfl (fun a hF => ?_)
  have hW := Stw.start Y w0
  unfold span_Widen at H
  refine c_seq ?_
  refine reg_list ?_
  refine l_box (cs := [.int .i64 p0.1, .int .i64 p0.2]) hF hW rfl rfl rfl (fun b1 a w hF hW => ?_)
  refine l_alloc (cs := [.int .i64 0, .int .i64 0]) hF hW rfl Z28 rfl (fun b2 a w hF hW => ?_)
  refine ls_nil ?_
  refine c_then ?_
  refine c_seq ?_
  refine reg_list ?_
  refine ls hF hW rfl ((y_load (v := Value.agg #[.int .i64 p0.1, .int .i64 p0.2]) 1 hF rfl rfl T28 rfl).q) (fun a w hF hW => ?_)
  refine ls hF hW rfl (y_call (v := Value.agg #[.int .i64 ((span_Clean p0).1), .int .i64 ((span_Clean p0).2)]) hF H43 rfl (fun w hW => span_Clean_c any w p0 _ rfl)) (fun a w hF hW => ?_)
  refine ls hF hW rfl ((y_move hF rfl).q) (fun a w hF hW => ?_)
  refine ls hF hW rfl ((y_max hF rfl rfl).q) (fun a w hF hW => ?_)
  refine ls hF hW rfl (y_call (v := Value.int .i64 (span_limited (max p1 0))) hF H44 rfl (fun w hW => span_limited_c any w (max p1 0) _ rfl)) (fun a w hF hW => ?_)
  refine l_store (vs := [.int .i64 ((span_Clean p0).1), .int .i64 ((span_Clean p0).2)]) (M' := [(b2, [.int .i64 0, .int .i64 0]), (b1, [.int .i64 ((span_Clean p0).1), .int .i64 ((span_Clean p0).2)])]) 1 hF hW rfl rfl rfl T28 rfl rfl rfl rfl rfl (fun w hW => ?_)
  refine ls hF hW rfl ((y_assign hF rfl).q) (fun a w hF hW => ?_)
  refine ls_nil ?_
  refine c_then ?_
  refine c_seq ?_
  refine reg_list ?_
  refine ls hF hW rfl ((y_load (v := Value.agg #[.int .i64 ((span_Clean p0).1), .int .i64 ((span_Clean p0).2)]) 1 hF rfl rfl T28 rfl).q) (fun a w hF hW => ?_)
  refine ls hF hW rfl ((y_move hF rfl).q) (fun a w hF hW => ?_)
  refine ls hF hW rfl ((y_neg hF rfl rfl).q) (fun a w hF hW => ?_)
  refine ls hF hW rfl ((y_move hF rfl).q) (fun a w hF hW => ?_)
  refine ls hF hW rfl (y_call (v := Value.agg #[.int .i64 ((span_moved (span_Clean p0) (w64 (0 - (span_limited (max p1 0)))) (span_limited (max p1 0))).1), .int .i64 ((span_moved (span_Clean p0) (w64 (0 - (span_limited (max p1 0)))) (span_limited (max p1 0))).2)]) hF H48 rfl (fun w hW => span_moved_c any w (span_Clean p0) (w64 (0 - (span_limited (max p1 0)))) (span_limited (max p1 0)) _ rfl)) (fun a w hF hW => ?_)
  refine l_store (vs := [.int .i64 ((span_moved (span_Clean p0) (w64 (0 - (span_limited (max p1 0)))) (span_limited (max p1 0))).1), .int .i64 ((span_moved (span_Clean p0) (w64 (0 - (span_limited (max p1 0)))) (span_limited (max p1 0))).2)]) (M' := [(b2, [.int .i64 ((span_moved (span_Clean p0) (w64 (0 - (span_limited (max p1 0)))) (span_limited (max p1 0))).1), .int .i64 ((span_moved (span_Clean p0) (w64 (0 - (span_limited (max p1 0)))) (span_limited (max p1 0))).2)]), (b1, [.int .i64 ((span_Clean p0).1), .int .i64 ((span_Clean p0).2)])]) 0 hF hW rfl rfl rfl T28 rfl rfl rfl rfl rfl (fun w hW => ?_)
  refine ls_nil ?_
  refine c_then ?_
  refine wp_ret ?_
  subst H
  refine post1 (.inl rfl) hF hW rfl (rv_cell 0 hF rfl rfl T28 rfl) ?_
  exact ⟨rfl, hW.done⟩

theorem H34 : Has Try.prog 34 := ⟨fun args w => run_callFunc_body Try.func34 rfl (by decide) args w⟩
noncomputable def skew_Fresh (p0 : Int) (p1 : Int) (p2 : Int) (p3 : Int) : Option (Int × Int) := (clock_Drift (skew_minus p2 p0) p3).bind fun x1 => some (span_Widen ((skew_minus p1 p2), (skew_minus p1 p0)) x1)
theorem skew_Fresh_c (Y : Nat → Prop) (w0 : World)  (p0 : Int) (p1 : Int) (p2 : Int) (p3 : Int) (r : (Int × Int)) (H : skew_Fresh p0 p1 p2 p3 = some r)  :
    Calls Try.prog 14 #[.int .i64 p0, .int .i64 p1, .int .i64 p2, .int .i64 p3] w0 fun e w' => e = .returned (.agg #[.int .i64 r.1, .int .i64 r.2]) ∧ Below w0.heap.size w0 w' := by
  refine enter Try.func14 rfl Try.ntmps14 rfl (fun a hF => ?_)
  have hW := Stw.start Y w0
  unfold skew_Fresh at H
  refine c_seq ?_
  refine reg_list ?_
  refine l_alloc (cs := [.int .i64 0, .int .i64 0]) hF hW rfl Z28 rfl (fun b1 a w hF hW => ?_)
  refine ls_nil ?_
  refine c_then ?_
  refine c_seq ?_
  refine reg_list ?_
  refine ls hF hW rfl ((y_move hF rfl).q) (fun a w hF hW => ?_)
  refine ls hF hW rfl ((y_move hF rfl).q) (fun a w hF hW => ?_)
  refine ls hF hW rfl (y_call (v := Value.int .i64 (skew_minus p1 p2)) hF H33 rfl (fun w hW => skew_minus_c any w p1 p2 _ rfl)) (fun a w hF hW => ?_)
  refine ls hF hW rfl ((y_move hF rfl).q) (fun a w hF hW => ?_)
  refine ls hF hW rfl ((y_move hF rfl).q) (fun a w hF hW => ?_)
  refine ls hF hW rfl (y_call (v := Value.int .i64 (skew_minus p1 p0)) hF H33 rfl (fun w hW => skew_minus_c any w p1 p0 _ rfl)) (fun a w hF hW => ?_)
  refine ls hF hW rfl ((y_build (v := Value.agg #[.int .i64 (skew_minus p1 p2), .int .i64 (skew_minus p1 p0)]) B28 hF rfl rfl rfl).q) (fun a w hF hW => ?_)
  refine l_alloc (cs := [.int .i64 0, .int .i64 0]) hF hW rfl Z28 rfl (fun b2 a w hF hW => ?_)
  refine l_store (vs := [.int .i64 (skew_minus p1 p2), .int .i64 (skew_minus p1 p0)]) (M' := [(b2, [.int .i64 (skew_minus p1 p2), .int .i64 (skew_minus p1 p0)]), (b1, [.int .i64 0, .int .i64 0])]) 0 hF hW rfl rfl rfl T28 rfl rfl rfl rfl rfl (fun w hW => ?_)
  refine ls_nil ?_
  refine c_then ?_
  refine c_seq ?_
  refine reg_tail 7 hW MO (by kernel_rfl) ?_
  refine qs hF rfl ((y_load (v := Value.agg #[.int .i64 (skew_minus p1 p2), .int .i64 (skew_minus p1 p0)]) 0 hF rfl rfl T28 rfl).q) (fun a hF => ?_)
  refine qs hF rfl ((y_move hF rfl).q) (fun a hF => ?_)
  refine qs hF rfl ((y_move hF rfl).q) (fun a hF => ?_)
  refine qs hF rfl (y_call (v := Value.int .i64 (skew_minus p2 p0)) hF H33 rfl (fun w hW => skew_minus_c any w p2 p0 _ rfl)) (fun a hF => ?_)
  refine qs hF rfl ((y_move hF rfl).q) (fun a hF => ?_)
  obtain ⟨x1, h1, H⟩ := bindE H
  refine qs hF rfl (y_call (v := Value.int .i64 x1) hF H35 rfl (fun w hW => clock_Drift_c any w (skew_minus p2 p0) p3 _ h1)) (fun a hF => ?_)
  refine qs hF rfl (y_call (v := Value.agg #[.int .i64 ((span_Widen ((skew_minus p1 p2), (skew_minus p1 p0)) x1).1), .int .i64 ((span_Widen ((skew_minus p1 p2), (skew_minus p1 p0)) x1).2)]) hF H34 rfl (fun w hW => span_Widen_c any w ((skew_minus p1 p2), (skew_minus p1 p0)) x1 _ rfl)) (fun a hF => ?_)
  refine quiet_end (fun w hW => ?_)
  refine l_store (vs := [.int .i64 ((span_Widen ((skew_minus p1 p2), (skew_minus p1 p0)) x1).1), .int .i64 ((span_Widen ((skew_minus p1 p2), (skew_minus p1 p0)) x1).2)]) (M' := [(b2, [.int .i64 (skew_minus p1 p2), .int .i64 (skew_minus p1 p0)]), (b1, [.int .i64 ((span_Widen ((skew_minus p1 p2), (skew_minus p1 p0)) x1).1), .int .i64 ((span_Widen ((skew_minus p1 p2), (skew_minus p1 p0)) x1).2)])]) 1 hF hW rfl rfl rfl T28 rfl rfl rfl rfl rfl (fun w hW => ?_)
  refine ls_nil ?_
  refine c_then ?_
  refine wp_ret ?_
  have H := Option.some.inj H
  subst H
  refine post1 (.inl rfl) hF hW rfl (rv_cell 1 hF rfl rfl T28 rfl) ?_
  exact ⟨rfl, hW.done⟩

theorem H14 : Has Try.prog 14 := ⟨fun args w => run_callFunc_body Try.func14 rfl (by decide) args w⟩
noncomputable def skew_On (p0 : Bool × (Int × Int) × Int) (p1 : Int) (p2 : Int) : Option (Int × Int) := (if (!p0.1) = true then some span_Nothing else (clock_Drift (max (skew_minus p1 p0.2.2) (skew_minus p0.2.2 p1)) p2).bind fun x1 => some (span_Widen p0.2.1 x1))
theorem skew_On_c (Y : Nat → Prop) (w0 : World)  (p0 : Bool × (Int × Int) × Int) (p1 : Int) (p2 : Int) (r : (Int × Int)) (H : skew_On p0 p1 p2 = some r)  :
    Calls Try.prog 12 #[.agg #[.bool p0.1, .int .i64 p0.2.1.1, .int .i64 p0.2.1.2, .int .i64 p0.2.2], .int .i64 p1, .int .i64 p2] w0 fun e w' => e = .returned (.agg #[.int .i64 r.1, .int .i64 r.2]) ∧ Below w0.heap.size w0 w' := by
  refine enter Try.func12 rfl Try.ntmps12 rfl (fun a hF => ?_)
  have hW := Stw.start Y w0
  unfold skew_On at H
  refine c_seq ?_
  refine reg_list ?_
  refine l_box (cs := [.bool p0.1, .int .i64 p0.2.1.1, .int .i64 p0.2.1.2, .int .i64 p0.2.2]) hF hW rfl rfl rfl (fun b1 a w hF hW => ?_)
  refine l_alloc (cs := [.int .i64 0, .int .i64 0]) hF hW rfl Z28 rfl (fun b2 a w hF hW => ?_)
  refine ls_nil ?_
  refine c_then ?_
  refine c_seq ?_
  refine c_seq ?_
  refine reg_list ?_
  refine ls hF hW rfl ((y_fieldAddr Try.underlying30 rfl rfl rfl T4 hF rfl 0 rfl).q) (fun a w hF hW => ?_)
  refine ls hF hW rfl ((y_load (v := Value.bool p0.1) 1 hF rfl rfl T4 rfl).q) (fun a w hF hW => ?_)
  refine ls hF hW rfl ((y_not hF rfl).q) (fun a w hF hW => ?_)
  refine ls_nil ?_
  refine c_then ?_
  refine c_cond hF rfl (fun hb => ?_) (fun hb => ?_)
  ·
    have H := iteT hb H
    rw [hb] at hF
    clear hb
    refine c_seq ?_
    refine reg_list ?_
    refine ls hF hW rfl (y_call (v := Value.agg #[.int .i64 span_Nothing.1, .int .i64 span_Nothing.2]) hF H32 rfl (fun w hW => span_Nothing_c any w _ rfl)) (fun a w hF hW => ?_)
    refine l_store (vs := [.int .i64 span_Nothing.1, .int .i64 span_Nothing.2]) (M' := [(b2, [.int .i64 span_Nothing.1, .int .i64 span_Nothing.2]), (b1, [.bool p0.1, .int .i64 p0.2.1.1, .int .i64 p0.2.1.2, .int .i64 p0.2.2])]) 0 hF hW rfl rfl rfl T28 rfl rfl rfl rfl rfl (fun w hW => ?_)
    refine ls_nil ?_
    refine c_then ?_
    refine wp_ret ?_
    refine r_then ?_
    have H := Option.some.inj H
    subst H
    refine post1 (.inl rfl) hF hW rfl (rv_cell 0 hF rfl rfl T28 rfl) ?_
    exact ⟨rfl, hW.done⟩
  ·
    have H := iteF (by rw [hb]; decide) H
    rw [hb] at hF
    clear hb
    refine wp_skip ?_
    refine c_then ?_
    refine c_seq ?_
    refine reg_quiet hW MO (by kernel_rfl) ?_
    refine qs hF rfl ((y_move hF rfl).q) (fun a hF => ?_)
    refine qs hF rfl ((y_fieldAddr Try.underlying30 rfl rfl rfl T3 hF rfl 3 rfl).q) (fun a hF => ?_)
    refine qs hF rfl ((y_load (v := Value.int .i64 p0.2.2) 1 hF rfl rfl T3 rfl).q) (fun a hF => ?_)
    refine qs hF rfl (y_call (v := Value.int .i64 (skew_minus p1 p0.2.2)) hF H33 rfl (fun w hW => skew_minus_c any w p1 p0.2.2 _ rfl)) (fun a hF => ?_)
    refine qs hF rfl ((y_fieldAddr Try.underlying30 rfl rfl rfl T3 hF rfl 3 rfl).q) (fun a hF => ?_)
    refine qs hF rfl ((y_load (v := Value.int .i64 p0.2.2) 1 hF rfl rfl T3 rfl).q) (fun a hF => ?_)
    refine qs hF rfl ((y_move hF rfl).q) (fun a hF => ?_)
    refine qs hF rfl (y_call (v := Value.int .i64 (skew_minus p0.2.2 p1)) hF H33 rfl (fun w hW => skew_minus_c any w p0.2.2 p1 _ rfl)) (fun a hF => ?_)
    refine qs hF rfl ((y_max hF rfl rfl).q) (fun a hF => ?_)
    refine qs hF rfl ((y_assign hF rfl).q) (fun a hF => ?_)
    refine quiet_end (fun w hW => ?_)
    refine c_then ?_
    refine c_seq ?_
    refine reg_tail 6 hW MO (by kernel_rfl) ?_
    refine qs hF rfl ((y_fieldAddr Try.underlying30 rfl rfl rfl T28 hF rfl 1 rfl).q) (fun a hF => ?_)
    refine qs hF rfl ((y_load (v := Value.agg #[.int .i64 p0.2.1.1, .int .i64 p0.2.1.2]) 1 hF rfl rfl T28 rfl).q) (fun a hF => ?_)
    refine qs hF rfl ((y_move hF rfl).q) (fun a hF => ?_)
    refine qs hF rfl ((y_move hF rfl).q) (fun a hF => ?_)
    obtain ⟨x1, h1, H⟩ := bindE H
    refine qs hF rfl (y_call (v := Value.int .i64 x1) hF H35 rfl (fun w hW => clock_Drift_c any w (max (skew_minus p1 p0.2.2) (skew_minus p0.2.2 p1)) p2 _ h1)) (fun a hF => ?_)
    refine qs hF rfl (y_call (v := Value.agg #[.int .i64 ((span_Widen p0.2.1 x1).1), .int .i64 ((span_Widen p0.2.1 x1).2)]) hF H34 rfl (fun w hW => span_Widen_c any w p0.2.1 x1 _ rfl)) (fun a hF => ?_)
    refine quiet_end (fun w hW => ?_)
    refine l_store (vs := [.int .i64 ((span_Widen p0.2.1 x1).1), .int .i64 ((span_Widen p0.2.1 x1).2)]) (M' := [(b2, [.int .i64 ((span_Widen p0.2.1 x1).1), .int .i64 ((span_Widen p0.2.1 x1).2)]), (b1, [.bool p0.1, .int .i64 p0.2.1.1, .int .i64 p0.2.1.2, .int .i64 p0.2.2])]) 0 hF hW rfl rfl rfl T28 rfl rfl rfl rfl rfl (fun w hW => ?_)
    refine ls_nil ?_
    refine c_then ?_
    refine wp_ret ?_
    have H := Option.some.inj H
    subst H
    refine post1 (.inl rfl) hF hW rfl (rv_cell 0 hF rfl rfl T28 rfl) ?_
    exact ⟨rfl, hW.done⟩

theorem H12 : Has Try.prog 12 := ⟨fun args w => run_callFunc_body Try.func12 rfl (by decide) args w⟩
def span_Meet (p0 : Int × Int) (p1 : Int × Int) : (Int × Int) := (span_Clean (max p0.1 p1.1, min p0.2 p1.2))
theorem span_Meet_c (Y : Nat → Prop) (w0 : World)  (p0 : Int × Int) (p1 : Int × Int) (r : (Int × Int)) (H : span_Meet p0 p1 = r)  :
    Calls Try.prog 29 #[.agg #[.int .i64 p0.1, .int .i64 p0.2], .agg #[.int .i64 p1.1, .int .i64 p1.2]] w0 fun e w' => e = .returned (.agg #[.int .i64 r.1, .int .i64 r.2]) ∧ Below w0.heap.size w0 w' := by
  refine enter Try.func29 rfl Try.ntmps29 rfl (fun a hF => ?_)
  have hW := Stw.start Y w0
  unfold span_Meet at H
  refine c_seq ?_
  refine reg_list ?_
  refine l_box (cs := [.int .i64 p0.1, .int .i64 p0.2]) hF hW rfl rfl rfl (fun b1 a w hF hW => ?_)
  refine l_box (cs := [.int .i64 p1.1, .int .i64 p1.2]) hF hW rfl rfl rfl (fun b2 a w hF hW => ?_)
  refine l_alloc (cs := [.int .i64 0, .int .i64 0]) hF hW rfl Z28 rfl (fun b3 a w hF hW => ?_)
  refine ls_nil ?_
  refine c_then ?_
  refine c_seq ?_
  refine reg_list ?_
  refine ls hF hW rfl ((y_fieldAddr Try.underlying28 rfl rfl rfl T3 hF rfl 0 rfl).q) (fun a w hF hW => ?_)
  refine ls hF hW rfl ((y_load (v := Value.int .i64 p0.1) 2 hF rfl rfl T3 rfl).q) (fun a w hF hW => ?_)
  refine ls hF hW rfl ((y_fieldAddr Try.underlying28 rfl rfl rfl T3 hF rfl 0 rfl).q) (fun a w hF hW => ?_)
  refine ls hF hW rfl ((y_load (v := Value.int .i64 p1.1) 1 hF rfl rfl T3 rfl).q) (fun a w hF hW => ?_)
  refine ls hF hW rfl ((y_max hF rfl rfl).q) (fun a w hF hW => ?_)
  refine ls hF hW rfl ((y_fieldAddr Try.underlying28 rfl rfl rfl T3 hF rfl 1 rfl).q) (fun a w hF hW => ?_)
  refine ls hF hW rfl ((y_load (v := Value.int .i64 p0.2) 2 hF rfl rfl T3 rfl).q) (fun a w hF hW => ?_)
  refine ls hF hW rfl ((y_fieldAddr Try.underlying28 rfl rfl rfl T3 hF rfl 1 rfl).q) (fun a w hF hW => ?_)
  refine ls hF hW rfl ((y_load (v := Value.int .i64 p1.2) 1 hF rfl rfl T3 rfl).q) (fun a w hF hW => ?_)
  refine ls hF hW rfl ((y_min hF rfl rfl).q) (fun a w hF hW => ?_)
  refine ls hF hW rfl ((y_build (v := Value.agg #[.int .i64 (max p0.1 p1.1), .int .i64 (min p0.2 p1.2)]) B28 hF rfl rfl rfl).q) (fun a w hF hW => ?_)
  refine ls hF hW rfl (y_call (v := Value.agg #[.int .i64 ((span_Clean (max p0.1 p1.1, min p0.2 p1.2)).1), .int .i64 ((span_Clean (max p0.1 p1.1, min p0.2 p1.2)).2)]) hF H43 rfl (fun w hW => span_Clean_c any w (max p0.1 p1.1, min p0.2 p1.2) _ rfl)) (fun a w hF hW => ?_)
  refine l_store (vs := [.int .i64 ((span_Clean (max p0.1 p1.1, min p0.2 p1.2)).1), .int .i64 ((span_Clean (max p0.1 p1.1, min p0.2 p1.2)).2)]) (M' := [(b3, [.int .i64 ((span_Clean (max p0.1 p1.1, min p0.2 p1.2)).1), .int .i64 ((span_Clean (max p0.1 p1.1, min p0.2 p1.2)).2)]), (b2, [.int .i64 p1.1, .int .i64 p1.2]), (b1, [.int .i64 p0.1, .int .i64 p0.2])]) 0 hF hW rfl rfl rfl T28 rfl rfl rfl rfl rfl (fun w hW => ?_)
  refine ls_nil ?_
  refine c_then ?_
  refine wp_ret ?_
  subst H
  refine post1 (.inl rfl) hF hW rfl (rv_cell 0 hF rfl rfl T28 rfl) ?_
  exact ⟨rfl, hW.done⟩

theorem H29 : Has Try.prog 29 := ⟨fun args w => run_callFunc_body Try.func29 rfl (by decide) args w⟩
def span_Empty (p0 : Int × Int) : Bool := decide (((span_Clean p0).1) = span_Nothing.1 ∧ ((span_Clean p0).2) = span_Nothing.2)
theorem span_Empty_c (Y : Nat → Prop) (w0 : World)  (p0 : Int × Int) (r : Bool) (H : span_Empty p0 = r)  :
    Calls Try.prog 22 #[.agg #[.int .i64 p0.1, .int .i64 p0.2]] w0 fun e w' => e = .returned (.bool r) ∧ Below w0.heap.size w0 w' := by
  refine enter Try.func22 rfl Try.ntmps22 rfl (fun a hF => ?_)
  have hW := Stw.start Y w0
  unfold span_Empty at H
  refine c_seq ?_
  refine reg_list ?_
  refine l_box (cs := [.int .i64 p0.1, .int .i64 p0.2]) hF hW rfl rfl rfl (fun b1 a w hF hW => ?_)
  refine ls hF hW rfl ((y_assign hF rfl).q) (fun a w hF hW => ?_)
  refine ls_nil ?_
  refine c_then ?_
  refine c_seq ?_
  refine reg_list ?_
  refine ls hF hW rfl ((y_load (v := Value.agg #[.int .i64 p0.1, .int .i64 p0.2]) 0 hF rfl rfl T28 rfl).q) (fun a w hF hW => ?_)
  refine ls hF hW rfl (y_call (v := Value.agg #[.int .i64 ((span_Clean p0).1), .int .i64 ((span_Clean p0).2)]) hF H43 rfl (fun w hW => span_Clean_c any w p0 _ rfl)) (fun a w hF hW => ?_)
  refine ls hF hW rfl (y_call (v := Value.agg #[.int .i64 span_Nothing.1, .int .i64 span_Nothing.2]) hF H32 rfl (fun w hW => span_Nothing_c any w _ rfl)) (fun a w hF hW => ?_)
  refine ls hF hW rfl ((y_eqa (t := decide (((span_Clean p0).1) = span_Nothing.1 ∧ ((span_Clean p0).2) = span_Nothing.2)) G28 (Q28 _ _ _ _) hF rfl rfl).q) (fun a w hF hW => ?_)
  refine ls hF hW rfl ((y_assign hF rfl).q) (fun a w hF hW => ?_)
  refine ls_nil ?_
  refine c_then ?_
  refine wp_ret ?_
  subst H
  refine post1 (.inl rfl) hF hW rfl (rv_tmp hF rfl) ?_
  exact ⟨rfl, hW.done⟩

theorem H22 : Has Try.prog 22 := ⟨fun args w => run_callFunc_body Try.func22 rfl (by decide) args w⟩
noncomputable def skew_Meet (p0 : Bool × (Int × Int) × Int) (p1 : Int) (p2 : Int) (p3 : Int) (p4 : Int) : Option ((Bool × (Int × Int) × Int) × Int) := (if (decide (p1 < 0) || (decide (p3 < p1) || (decide (1099511627776 < p3) || (decide (p2 < (-1125899906842624)) || (decide (1125899906842624 < p2) || (p0.1 && decide (p3 < p0.2.2))))))) = true then some (p0, 2) else (skew_Fresh p1 p2 p3 p4).bind fun x1 => (if p0.1 = true then (skew_On (true, p0.2.1, p0.2.2) p3 p4).bind fun x5 => some ((span_Meet x1 x5).1, (span_Meet x1 x5).2, true) else some (x1.1, x1.2, false)).bind fun (x2, x3, x4) => (if (span_Empty (x2, x3)) = true then some ((x4, p0.2.1, p0.2.2), 16) else some ((true, (x2, x3), p3), 0)))
theorem skew_Meet_c (Y : Nat → Prop) (w0 : World)  (p0 : Bool × (Int × Int) × Int) (p1 : Int) (p2 : Int) (p3 : Int) (p4 : Int) (r : (Bool × (Int × Int) × Int) × Int) (H : skew_Meet p0 p1 p2 p3 p4 = some r)  :
    Calls Try.prog 8 #[.agg #[.bool p0.1, .int .i64 p0.2.1.1, .int .i64 p0.2.1.2, .int .i64 p0.2.2], .int .i64 p1, .int .i64 p2, .int .i64 p3, .int .i64 p4] w0 fun e w' => e = .returned (.tuple #[.agg #[.bool r.1.1, .int .i64 r.1.2.1.1, .int .i64 r.1.2.1.2, .int .i64 r.1.2.2], .int .i64 r.2]) ∧ Below w0.heap.size w0 w' := by
  refine enter Try.func8 rfl Try.ntmps8 rfl (fun a hF => ?_)
  have hW := Stw.start Y w0
  unfold skew_Meet at H
  refine c_seq ?_
  refine reg_list ?_
  refine l_box (cs := [.bool p0.1, .int .i64 p0.2.1.1, .int .i64 p0.2.1.2, .int .i64 p0.2.2]) hF hW rfl rfl rfl (fun b1 a w hF hW => ?_)
  refine l_alloc (cs := [.bool false, .int .i64 0, .int .i64 0, .int .i64 0]) hF hW rfl Z30 rfl (fun b2 a w hF hW => ?_)
  refine ls hF hW rfl ((y_assign hF rfl).q) (fun a w hF hW => ?_)
  refine ls_nil ?_
  refine c_then ?_
  refine c_seq ?_
  refine c_seqJ (fun a w => Fr 62 [] [(1, .int .i64 p1), (2, .int .i64 p2), (3, .int .i64 p3), (4, .int .i64 p4), (5, .pointer (some ⟨b1, 0, none⟩)), (10, .pointer (some ⟨b2, 0, none⟩)), (11, .int .i64 0), (41, .bool (decide (p1 < 0) || (decide (p3 < p1) || (decide (1099511627776 < p3) || (decide (p2 < (-1125899906842624)) || (decide (1125899906842624 < p2) || (p0.1 && decide (p3 < p0.2.2))))))))] a ∧ Stw ⟨Y, [], w0⟩ [(b2, [.bool false, .int .i64 0, .int .i64 0, .int .i64 0]), (b1, [.bool p0.1, .int .i64 p0.2.1.1, .int .i64 p0.2.1.2, .int .i64 p0.2.2])] [] w) ?_ ?_
  ·
    refine reg_list ?_
    refine ls hF hW rfl ((y_move hF rfl).q) (fun a w hF hW => ?_)
    refine ls hF hW rfl ((y_lss hF rfl rfl).q) (fun a w hF hW => ?_)
    refine ls hF hW rfl ((y_move hF rfl).q) (fun a w hF hW => ?_)
    rcases Bool.eq_false_or_eq_true (decide (p1 < 0)) with hb0 | hb0
    ·
      rw [hb0] at hF
      refine ls_skip hF (wanted_n hF rfl rfl rfl rfl rfl) rfl rfl (fun a hF => ?_)
      refine ls_skip hF (wanted_n hF rfl rfl rfl rfl rfl) rfl rfl (fun a hF => ?_)
      refine ls_skip hF (wanted_n hF rfl rfl rfl rfl rfl) rfl rfl (fun a hF => ?_)
      refine ls hF hW rfl ((y_pick_t hF rfl rfl rfl).q) (fun a w hF hW => ?_)
      refine ls hF hW rfl ((y_move hF rfl).q) (fun a w hF hW => ?_)
      refine ls_skip hF (wanted_n hF rfl rfl rfl rfl rfl) rfl rfl (fun a hF => ?_)
      refine ls_skip hF (wanted_n hF rfl rfl rfl rfl rfl) rfl rfl (fun a hF => ?_)
      refine ls hF hW rfl ((y_pick_t hF rfl rfl rfl).q) (fun a w hF hW => ?_)
      refine ls hF hW rfl ((y_move hF rfl).q) (fun a w hF hW => ?_)
      refine ls_skip hF (wanted_n hF rfl rfl rfl rfl rfl) rfl rfl (fun a hF => ?_)
      refine ls_skip hF (wanted_n hF rfl rfl rfl rfl rfl) rfl rfl (fun a hF => ?_)
      refine ls hF hW rfl ((y_pick_t hF rfl rfl rfl).q) (fun a w hF hW => ?_)
      refine ls hF hW rfl ((y_move hF rfl).q) (fun a w hF hW => ?_)
      refine ls_skip hF (wanted_n hF rfl rfl rfl rfl rfl) rfl rfl (fun a hF => ?_)
      refine ls_skip hF (wanted_n hF rfl rfl rfl rfl rfl) rfl rfl (fun a hF => ?_)
      refine ls hF hW rfl ((y_pick_t hF rfl rfl rfl).q) (fun a w hF hW => ?_)
      refine ls hF hW rfl ((y_move hF rfl).q) (fun a w hF hW => ?_)
      refine ls_skip hF (wanted_n hF rfl rfl rfl rfl rfl) rfl rfl (fun a hF => ?_)
      refine ls_skip hF (wanted_n hF rfl rfl rfl rfl rfl) rfl rfl (fun a hF => ?_)
      refine ls_skip hF (wanted_n hF rfl rfl rfl rfl rfl) rfl rfl (fun a hF => ?_)
      refine ls_skip hF (wanted_undef hF rfl rfl rfl rfl) rfl rfl (fun a hF => ?_)
      refine ls_skip hF (wanted_undef hF rfl rfl rfl rfl) rfl rfl (fun a hF => ?_)
      refine ls_skip hF (wanted_undef hF rfl rfl rfl rfl) rfl rfl (fun a hF => ?_)
      refine ls_skip hF (wanted_undef hF rfl rfl rfl rfl) rfl rfl (fun a hF => ?_)
      refine ls_skip hF (wanted_n hF rfl rfl rfl rfl rfl) rfl rfl (fun a hF => ?_)
      refine ls hF hW rfl ((y_pick_t hF rfl rfl rfl).q) (fun a w hF hW => ?_)
      refine ls_nil ?_
      refine c_then ?_
      exact ⟨hF.re ⟨rfl, rfl, rfl, rfl, rfl, rfl, rfl, (by show some (Value.bool true) = some (Value.bool (decide (p1 < 0) || (decide (p3 < p1) || (decide (1099511627776 < p3) || (decide (p2 < (-1125899906842624)) || (decide (1125899906842624 < p2) || (p0.1 && decide (p3 < p0.2.2)))))))); try rw [hb0]; all_goals simp only [Bool.not_true, Bool.not_false, Bool.true_and, Bool.false_and, Bool.true_or, Bool.false_or, Bool.and_true, Bool.or_false, cond_true, cond_false]), trivial⟩, hW⟩
    ·
      rw [hb0] at hF
      refine ls_w hF hW (wanted_y hF rfl rfl rfl rfl) rfl (Nat.le_of_ble_eq_true rfl) ((y_move hF rfl).q) (fun a w hF hW => ?_)
      refine ls_w hF hW (wanted_y hF rfl rfl rfl rfl) rfl (Nat.le_of_ble_eq_true rfl) ((y_move hF rfl).q) (fun a w hF hW => ?_)
      refine ls_w hF hW (wanted_y hF rfl rfl rfl rfl) rfl (Nat.le_of_ble_eq_true rfl) ((y_lss hF rfl rfl).q) (fun a w hF hW => ?_)
      refine ls hF hW rfl ((y_pick_f hF rfl rfl rfl).q) (fun a w hF hW => ?_)
      refine ls hF hW rfl ((y_move hF rfl).q) (fun a w hF hW => ?_)
      rcases Bool.eq_false_or_eq_true (decide (p3 < p1)) with hb1 | hb1
      ·
        rw [hb1] at hF
        refine ls_skip hF (wanted_n hF rfl rfl rfl rfl rfl) rfl rfl (fun a hF => ?_)
        refine ls_skip hF (wanted_n hF rfl rfl rfl rfl rfl) rfl rfl (fun a hF => ?_)
        refine ls hF hW rfl ((y_pick_t hF rfl rfl rfl).q) (fun a w hF hW => ?_)
        refine ls hF hW rfl ((y_move hF rfl).q) (fun a w hF hW => ?_)
        refine ls_skip hF (wanted_n hF rfl rfl rfl rfl rfl) rfl rfl (fun a hF => ?_)
        refine ls_skip hF (wanted_n hF rfl rfl rfl rfl rfl) rfl rfl (fun a hF => ?_)
        refine ls hF hW rfl ((y_pick_t hF rfl rfl rfl).q) (fun a w hF hW => ?_)
        refine ls hF hW rfl ((y_move hF rfl).q) (fun a w hF hW => ?_)
        refine ls_skip hF (wanted_n hF rfl rfl rfl rfl rfl) rfl rfl (fun a hF => ?_)
        refine ls_skip hF (wanted_n hF rfl rfl rfl rfl rfl) rfl rfl (fun a hF => ?_)
        refine ls hF hW rfl ((y_pick_t hF rfl rfl rfl).q) (fun a w hF hW => ?_)
        refine ls hF hW rfl ((y_move hF rfl).q) (fun a w hF hW => ?_)
        refine ls_skip hF (wanted_n hF rfl rfl rfl rfl rfl) rfl rfl (fun a hF => ?_)
        refine ls_skip hF (wanted_n hF rfl rfl rfl rfl rfl) rfl rfl (fun a hF => ?_)
        refine ls_skip hF (wanted_n hF rfl rfl rfl rfl rfl) rfl rfl (fun a hF => ?_)
        refine ls_skip hF (wanted_undef hF rfl rfl rfl rfl) rfl rfl (fun a hF => ?_)
        refine ls_skip hF (wanted_undef hF rfl rfl rfl rfl) rfl rfl (fun a hF => ?_)
        refine ls_skip hF (wanted_undef hF rfl rfl rfl rfl) rfl rfl (fun a hF => ?_)
        refine ls_skip hF (wanted_undef hF rfl rfl rfl rfl) rfl rfl (fun a hF => ?_)
        refine ls_skip hF (wanted_n hF rfl rfl rfl rfl rfl) rfl rfl (fun a hF => ?_)
        refine ls hF hW rfl ((y_pick_t hF rfl rfl rfl).q) (fun a w hF hW => ?_)
        refine ls_nil ?_
        refine c_then ?_
        exact ⟨hF.re ⟨rfl, rfl, rfl, rfl, rfl, rfl, rfl, (by show some (Value.bool true) = some (Value.bool (decide (p1 < 0) || (decide (p3 < p1) || (decide (1099511627776 < p3) || (decide (p2 < (-1125899906842624)) || (decide (1125899906842624 < p2) || (p0.1 && decide (p3 < p0.2.2)))))))); try rw [hb1]; try rw [hb0]; all_goals simp only [Bool.not_true, Bool.not_false, Bool.true_and, Bool.false_and, Bool.true_or, Bool.false_or, Bool.and_true, Bool.or_false, cond_true, cond_false]), trivial⟩, hW⟩
      ·
        rw [hb1] at hF
        refine ls_w hF hW (wanted_y hF rfl rfl rfl rfl) rfl (Nat.le_of_ble_eq_true rfl) ((y_move hF rfl).q) (fun a w hF hW => ?_)
        refine ls_w hF hW (wanted_y hF rfl rfl rfl rfl) rfl (Nat.le_of_ble_eq_true rfl) ((y_gtr hF rfl rfl).q) (fun a w hF hW => ?_)
        refine ls hF hW rfl ((y_pick_f hF rfl rfl rfl).q) (fun a w hF hW => ?_)
        refine ls hF hW rfl ((y_move hF rfl).q) (fun a w hF hW => ?_)
        rcases Bool.eq_false_or_eq_true (decide (1099511627776 < p3)) with hb2 | hb2
        ·
          rw [hb2] at hF
          refine ls_skip hF (wanted_n hF rfl rfl rfl rfl rfl) rfl rfl (fun a hF => ?_)
          refine ls_skip hF (wanted_n hF rfl rfl rfl rfl rfl) rfl rfl (fun a hF => ?_)
          refine ls hF hW rfl ((y_pick_t hF rfl rfl rfl).q) (fun a w hF hW => ?_)
          refine ls hF hW rfl ((y_move hF rfl).q) (fun a w hF hW => ?_)
          refine ls_skip hF (wanted_n hF rfl rfl rfl rfl rfl) rfl rfl (fun a hF => ?_)
          refine ls_skip hF (wanted_n hF rfl rfl rfl rfl rfl) rfl rfl (fun a hF => ?_)
          refine ls hF hW rfl ((y_pick_t hF rfl rfl rfl).q) (fun a w hF hW => ?_)
          refine ls hF hW rfl ((y_move hF rfl).q) (fun a w hF hW => ?_)
          refine ls_skip hF (wanted_n hF rfl rfl rfl rfl rfl) rfl rfl (fun a hF => ?_)
          refine ls_skip hF (wanted_n hF rfl rfl rfl rfl rfl) rfl rfl (fun a hF => ?_)
          refine ls_skip hF (wanted_n hF rfl rfl rfl rfl rfl) rfl rfl (fun a hF => ?_)
          refine ls_skip hF (wanted_undef hF rfl rfl rfl rfl) rfl rfl (fun a hF => ?_)
          refine ls_skip hF (wanted_undef hF rfl rfl rfl rfl) rfl rfl (fun a hF => ?_)
          refine ls_skip hF (wanted_undef hF rfl rfl rfl rfl) rfl rfl (fun a hF => ?_)
          refine ls_skip hF (wanted_undef hF rfl rfl rfl rfl) rfl rfl (fun a hF => ?_)
          refine ls_skip hF (wanted_n hF rfl rfl rfl rfl rfl) rfl rfl (fun a hF => ?_)
          refine ls hF hW rfl ((y_pick_t hF rfl rfl rfl).q) (fun a w hF hW => ?_)
          refine ls_nil ?_
          refine c_then ?_
          exact ⟨hF.re ⟨rfl, rfl, rfl, rfl, rfl, rfl, rfl, (by show some (Value.bool true) = some (Value.bool (decide (p1 < 0) || (decide (p3 < p1) || (decide (1099511627776 < p3) || (decide (p2 < (-1125899906842624)) || (decide (1125899906842624 < p2) || (p0.1 && decide (p3 < p0.2.2)))))))); try rw [hb2]; try rw [hb1]; try rw [hb0]; all_goals simp only [Bool.not_true, Bool.not_false, Bool.true_and, Bool.false_and, Bool.true_or, Bool.false_or, Bool.and_true, Bool.or_false, cond_true, cond_false]), trivial⟩, hW⟩
        ·
          rw [hb2] at hF
          refine ls_w hF hW (wanted_y hF rfl rfl rfl rfl) rfl (Nat.le_of_ble_eq_true rfl) ((y_move hF rfl).q) (fun a w hF hW => ?_)
          refine ls_w hF hW (wanted_y hF rfl rfl rfl rfl) rfl (Nat.le_of_ble_eq_true rfl) ((y_lss hF rfl rfl).q) (fun a w hF hW => ?_)
          refine ls hF hW rfl ((y_pick_f hF rfl rfl rfl).q) (fun a w hF hW => ?_)
          refine ls hF hW rfl ((y_move hF rfl).q) (fun a w hF hW => ?_)
          rcases Bool.eq_false_or_eq_true (decide (p2 < (-1125899906842624))) with hb3 | hb3
          ·
            rw [hb3] at hF
            refine ls_skip hF (wanted_n hF rfl rfl rfl rfl rfl) rfl rfl (fun a hF => ?_)
            refine ls_skip hF (wanted_n hF rfl rfl rfl rfl rfl) rfl rfl (fun a hF => ?_)
            refine ls hF hW rfl ((y_pick_t hF rfl rfl rfl).q) (fun a w hF hW => ?_)
            refine ls hF hW rfl ((y_move hF rfl).q) (fun a w hF hW => ?_)
            refine ls_skip hF (wanted_n hF rfl rfl rfl rfl rfl) rfl rfl (fun a hF => ?_)
            refine ls_skip hF (wanted_n hF rfl rfl rfl rfl rfl) rfl rfl (fun a hF => ?_)
            refine ls_skip hF (wanted_n hF rfl rfl rfl rfl rfl) rfl rfl (fun a hF => ?_)
            refine ls_skip hF (wanted_undef hF rfl rfl rfl rfl) rfl rfl (fun a hF => ?_)
            refine ls_skip hF (wanted_undef hF rfl rfl rfl rfl) rfl rfl (fun a hF => ?_)
            refine ls_skip hF (wanted_undef hF rfl rfl rfl rfl) rfl rfl (fun a hF => ?_)
            refine ls_skip hF (wanted_undef hF rfl rfl rfl rfl) rfl rfl (fun a hF => ?_)
            refine ls_skip hF (wanted_n hF rfl rfl rfl rfl rfl) rfl rfl (fun a hF => ?_)
            refine ls hF hW rfl ((y_pick_t hF rfl rfl rfl).q) (fun a w hF hW => ?_)
            refine ls_nil ?_
            refine c_then ?_
            exact ⟨hF.re ⟨rfl, rfl, rfl, rfl, rfl, rfl, rfl, (by show some (Value.bool true) = some (Value.bool (decide (p1 < 0) || (decide (p3 < p1) || (decide (1099511627776 < p3) || (decide (p2 < (-1125899906842624)) || (decide (1125899906842624 < p2) || (p0.1 && decide (p3 < p0.2.2)))))))); try rw [hb3]; try rw [hb2]; try rw [hb1]; try rw [hb0]; all_goals simp only [Bool.not_true, Bool.not_false, Bool.true_and, Bool.false_and, Bool.true_or, Bool.false_or, Bool.and_true, Bool.or_false, cond_true, cond_false]), trivial⟩, hW⟩
          ·
            rw [hb3] at hF
            refine ls_w hF hW (wanted_y hF rfl rfl rfl rfl) rfl (Nat.le_of_ble_eq_true rfl) ((y_move hF rfl).q) (fun a w hF hW => ?_)
            refine ls_w hF hW (wanted_y hF rfl rfl rfl rfl) rfl (Nat.le_of_ble_eq_true rfl) ((y_gtr hF rfl rfl).q) (fun a w hF hW => ?_)
            refine ls hF hW rfl ((y_pick_f hF rfl rfl rfl).q) (fun a w hF hW => ?_)
            refine ls hF hW rfl ((y_move hF rfl).q) (fun a w hF hW => ?_)
            rcases Bool.eq_false_or_eq_true (decide (1125899906842624 < p2)) with hb4 | hb4
            ·
              rw [hb4] at hF
              refine ls_skip hF (wanted_n hF rfl rfl rfl rfl rfl) rfl rfl (fun a hF => ?_)
              refine ls_skip hF (wanted_n hF rfl rfl rfl rfl rfl) rfl rfl (fun a hF => ?_)
              refine ls_skip hF (wanted_n hF rfl rfl rfl rfl rfl) rfl rfl (fun a hF => ?_)
              refine ls_skip hF (wanted_undef hF rfl rfl rfl rfl) rfl rfl (fun a hF => ?_)
              refine ls_skip hF (wanted_undef hF rfl rfl rfl rfl) rfl rfl (fun a hF => ?_)
              refine ls_skip hF (wanted_undef hF rfl rfl rfl rfl) rfl rfl (fun a hF => ?_)
              refine ls_skip hF (wanted_undef hF rfl rfl rfl rfl) rfl rfl (fun a hF => ?_)
              refine ls_skip hF (wanted_n hF rfl rfl rfl rfl rfl) rfl rfl (fun a hF => ?_)
              refine ls hF hW rfl ((y_pick_t hF rfl rfl rfl).q) (fun a w hF hW => ?_)
              refine ls_nil ?_
              refine c_then ?_
              exact ⟨hF.re ⟨rfl, rfl, rfl, rfl, rfl, rfl, rfl, (by show some (Value.bool true) = some (Value.bool (decide (p1 < 0) || (decide (p3 < p1) || (decide (1099511627776 < p3) || (decide (p2 < (-1125899906842624)) || (decide (1125899906842624 < p2) || (p0.1 && decide (p3 < p0.2.2)))))))); try rw [hb3]; try rw [hb4]; try rw [hb2]; try rw [hb1]; try rw [hb0]; all_goals simp only [Bool.not_true, Bool.not_false, Bool.true_and, Bool.false_and, Bool.true_or, Bool.false_or, Bool.and_true, Bool.or_false, cond_true, cond_false]), trivial⟩, hW⟩
            ·
              rw [hb4] at hF
              refine ls_w hF hW (wanted_y hF rfl rfl rfl rfl) rfl (Nat.le_of_ble_eq_true rfl) ((y_fieldAddr Try.underlying30 rfl rfl rfl T4 hF rfl 0 rfl).q) (fun a w hF hW => ?_)
              refine ls_w hF hW (wanted_y hF rfl rfl rfl rfl) rfl (Nat.le_of_ble_eq_true rfl) ((y_load (v := Value.bool p0.1) 1 hF rfl rfl T4 rfl).q) (fun a w hF hW => ?_)
              refine ls_w hF hW (wanted_y hF rfl rfl rfl rfl) rfl (Nat.le_of_ble_eq_true rfl) ((y_move hF rfl).q) (fun a w hF hW => ?_)
              rcases Bool.eq_false_or_eq_true p0.1 with hb5 | hb5
              ·
                rw [hb5] at hF
                refine ls_w hF hW (wanted_y hF rfl rfl rfl rfl) rfl (Nat.le_of_ble_eq_true rfl) ((y_move hF rfl).q) (fun a w hF hW => ?_)
                refine ls_w hF hW (wanted_y hF rfl rfl rfl rfl) rfl (Nat.le_of_ble_eq_true rfl) ((y_fieldAddr Try.underlying30 rfl rfl rfl T3 hF rfl 3 rfl).q) (fun a w hF hW => ?_)
                refine ls_w hF hW (wanted_y hF rfl rfl rfl rfl) rfl (Nat.le_of_ble_eq_true rfl) ((y_load (v := Value.int .i64 p0.2.2) 1 hF rfl rfl T3 rfl).q) (fun a w hF hW => ?_)
                refine ls_w hF hW (wanted_y hF rfl rfl rfl rfl) rfl (Nat.le_of_ble_eq_true rfl) ((y_lss hF rfl rfl).q) (fun a w hF hW => ?_)
                refine ls_w hF hW (wanted_y hF rfl rfl rfl rfl) rfl (Nat.le_of_ble_eq_true rfl) ((y_pick_t hF rfl rfl rfl).q) (fun a w hF hW => ?_)
                refine ls hF hW rfl ((y_pick_f hF rfl rfl rfl).q) (fun a w hF hW => ?_)
                refine ls_nil ?_
                refine c_then ?_
                exact ⟨hF.re ⟨rfl, rfl, rfl, rfl, rfl, rfl, rfl, (by show some (Value.bool (decide (p3 < p0.2.2))) = some (Value.bool (decide (p1 < 0) || (decide (p3 < p1) || (decide (1099511627776 < p3) || (decide (p2 < (-1125899906842624)) || (decide (1125899906842624 < p2) || (p0.1 && decide (p3 < p0.2.2)))))))); try rw [hb3]; try rw [hb4]; try rw [hb2]; try rw [hb1]; try rw [hb0]; try rw [hb5]; all_goals simp only [Bool.not_true, Bool.not_false, Bool.true_and, Bool.false_and, Bool.true_or, Bool.false_or, Bool.and_true, Bool.or_false, cond_true, cond_false]), trivial⟩, hW⟩
              ·
                rw [hb5] at hF
                refine ls_skip hF (wanted_n hF rfl rfl rfl rfl rfl) rfl rfl (fun a hF => ?_)
                refine ls_skip hF (wanted_n hF rfl rfl rfl rfl rfl) rfl rfl (fun a hF => ?_)
                refine ls_skip hF (wanted_n hF rfl rfl rfl rfl rfl) rfl rfl (fun a hF => ?_)
                refine ls_skip hF (wanted_n hF rfl rfl rfl rfl rfl) rfl rfl (fun a hF => ?_)
                refine ls_w hF hW (wanted_y hF rfl rfl rfl rfl) rfl (Nat.le_of_ble_eq_true rfl) ((y_pick_f hF rfl rfl rfl).q) (fun a w hF hW => ?_)
                refine ls hF hW rfl ((y_pick_f hF rfl rfl rfl).q) (fun a w hF hW => ?_)
                refine ls_nil ?_
                refine c_then ?_
                exact ⟨hF.re ⟨rfl, rfl, rfl, rfl, rfl, rfl, rfl, (by show some (Value.bool false) = some (Value.bool (decide (p1 < 0) || (decide (p3 < p1) || (decide (1099511627776 < p3) || (decide (p2 < (-1125899906842624)) || (decide (1125899906842624 < p2) || (p0.1 && decide (p3 < p0.2.2)))))))); try rw [hb3]; try rw [hb4]; try rw [hb2]; try rw [hb1]; try rw [hb0]; try rw [hb5]; all_goals simp only [Bool.not_true, Bool.not_false, Bool.true_and, Bool.false_and, Bool.true_or, Bool.false_or, Bool.and_true, Bool.or_false, cond_true, cond_false]), trivial⟩, hW⟩
  rintro a w ⟨hF, hW⟩
  refine c_cond hF rfl (fun hb => ?_) (fun hb => ?_)
  ·
    have H := iteT hb H
    rw [hb] at hF
    clear hb
    refine c_seq ?_
    refine reg_list ?_
    refine ls hF hW rfl ((y_load (v := Value.agg #[.bool p0.1, .int .i64 p0.2.1.1, .int .i64 p0.2.1.2, .int .i64 p0.2.2]) 1 hF rfl rfl T30 rfl).q) (fun a w hF hW => ?_)
    refine l_store (vs := [.bool p0.1, .int .i64 p0.2.1.1, .int .i64 p0.2.1.2, .int .i64 p0.2.2]) (M' := [(b2, [.bool p0.1, .int .i64 p0.2.1.1, .int .i64 p0.2.1.2, .int .i64 p0.2.2]), (b1, [.bool p0.1, .int .i64 p0.2.1.1, .int .i64 p0.2.1.2, .int .i64 p0.2.2])]) 0 hF hW rfl rfl rfl T30 rfl rfl rfl rfl rfl (fun w hW => ?_)
    refine ls hF hW rfl ((y_assign hF rfl).q) (fun a w hF hW => ?_)
    refine ls_nil ?_
    refine c_then ?_
    refine wp_ret ?_
    refine r_then ?_
    have H := Option.some.inj H
    subst H
    refine post2 (.inl rfl) hF hW rfl (rv_cell 0 hF rfl rfl T30 rfl) (rv_tmp hF rfl) ?_
    exact ⟨rfl, hW.done⟩
  ·
    have H := iteF (by rw [hb]; decide) H
    rw [hb] at hF
    clear hb
    refine wp_skip ?_
    refine c_then ?_
    refine c_seq ?_
    refine reg_list ?_
    refine ls hF hW rfl ((y_move hF rfl).q) (fun a w hF hW => ?_)
    refine ls hF hW rfl ((y_move hF rfl).q) (fun a w hF hW => ?_)
    refine ls hF hW rfl ((y_move hF rfl).q) (fun a w hF hW => ?_)
    refine ls hF hW rfl ((y_move hF rfl).q) (fun a w hF hW => ?_)
    obtain ⟨x1, h1, H⟩ := bindE H
    refine ls hF hW rfl (y_call (v := Value.agg #[.int .i64 x1.1, .int .i64 x1.2]) hF H14 rfl (fun w hW => skew_Fresh_c any w p1 p2 p3 p4 _ h1)) (fun a w hF hW => ?_)
    refine l_alloc (cs := [.int .i64 0, .int .i64 0]) hF hW rfl Z28 rfl (fun b3 a w hF hW => ?_)
    refine l_store (vs := [.int .i64 x1.1, .int .i64 x1.2]) (M' := [(b3, [.int .i64 x1.1, .int .i64 x1.2]), (b2, [.bool false, .int .i64 0, .int .i64 0, .int .i64 0]), (b1, [.bool p0.1, .int .i64 p0.2.1.1, .int .i64 p0.2.1.2, .int .i64 p0.2.2])]) 0 hF hW rfl rfl rfl T28 rfl rfl rfl rfl rfl (fun w hW => ?_)
    refine ls_nil ?_
    refine c_then ?_
    obtain ⟨o1, G1, K1⟩ := bindE H
    refine c_seqJ (fun a w => ∃ x2 : Int, ∃ x3 : Int, ∃ x4 : Bool, some ((x2, x3, x4)) = some o1 ∧ Fr 62 [] [(3, .int .i64 p3), (5, .pointer (some ⟨b1, 0, none⟩)), (10, .pointer (some ⟨b2, 0, none⟩)), (11, .int .i64 0), (12, .pointer (some ⟨b3, 0, none⟩))] a ∧ Stw ⟨Y, [], w0⟩ [(b3, [.int .i64 x2, .int .i64 x3]), (b2, [.bool false, .int .i64 0, .int .i64 0, .int .i64 0]), (b1, [.bool x4, .int .i64 p0.2.1.1, .int .i64 p0.2.1.2, .int .i64 p0.2.2])] [] w) ?_ ?_
    ·
      have H := G1
      clear G1 K1
      refine c_seq ?_
      refine reg_list ?_
      refine ls hF hW rfl ((y_fieldAddr Try.underlying30 rfl rfl rfl T4 hF rfl 0 rfl).q) (fun a w hF hW => ?_)
      refine ls hF hW rfl ((y_load (v := Value.bool p0.1) 2 hF rfl rfl T4 rfl).q) (fun a w hF hW => ?_)
      refine ls_nil ?_
      refine c_then ?_
      refine c_cond hF rfl (fun hb => ?_) (fun hb => ?_)
      ·
        have H := iteT hb H
        rw [hb] at hF
        rw [hb] at hW
        clear hb
        refine reg_tail 6 hW MO (by kernel_rfl) ?_
        refine qs hF rfl ((y_load (v := Value.agg #[.int .i64 x1.1, .int .i64 x1.2]) 0 hF rfl rfl T28 rfl).q) (fun a hF => ?_)
        refine qs hF rfl ((y_load (v := Value.agg #[.bool true, .int .i64 p0.2.1.1, .int .i64 p0.2.1.2, .int .i64 p0.2.2]) 2 hF rfl rfl T30 rfl).q) (fun a hF => ?_)
        refine qs hF rfl ((y_move hF rfl).q) (fun a hF => ?_)
        refine qs hF rfl ((y_move hF rfl).q) (fun a hF => ?_)
        obtain ⟨x5, h2, H⟩ := bindE H
        refine qs hF rfl (y_call (v := Value.agg #[.int .i64 x5.1, .int .i64 x5.2]) hF H12 rfl (fun w hW => skew_On_c any w (true, p0.2.1, p0.2.2) p3 p4 _ h2)) (fun a hF => ?_)
        refine qs hF rfl (y_call (v := Value.agg #[.int .i64 ((span_Meet x1 x5).1), .int .i64 ((span_Meet x1 x5).2)]) hF H29 rfl (fun w hW => span_Meet_c any w x1 x5 _ rfl)) (fun a hF => ?_)
        refine quiet_end (fun w hW => ?_)
        refine l_store (vs := [.int .i64 ((span_Meet x1 x5).1), .int .i64 ((span_Meet x1 x5).2)]) (M' := [(b3, [.int .i64 ((span_Meet x1 x5).1), .int .i64 ((span_Meet x1 x5).2)]), (b2, [.bool false, .int .i64 0, .int .i64 0, .int .i64 0]), (b1, [.bool true, .int .i64 p0.2.1.1, .int .i64 p0.2.1.2, .int .i64 p0.2.2])]) 0 hF hW rfl rfl rfl T28 rfl rfl rfl rfl rfl (fun w hW => ?_)
        refine ls_nil ?_
        refine c_then ?_
        have hW := hW.frontM (i := 2) rfl rfl
        have hW := hW.frontM (i := 2) rfl rfl
        have hW := hW.frontM (i := 2) rfl rfl
        exact ⟨_, _, _, H, hF.re ⟨rfl, rfl, rfl, rfl, rfl, trivial⟩, hW⟩
      ·
        have H := iteF (by rw [hb]; decide) H
        rw [hb] at hF
        rw [hb] at hW
        clear hb
        refine wp_skip ?_
        refine c_then ?_
        have hW := hW.frontM (i := 2) rfl rfl
        have hW := hW.frontM (i := 2) rfl rfl
        have hW := hW.frontM (i := 2) rfl rfl
        exact ⟨_, _, _, H, hF.re ⟨rfl, rfl, rfl, rfl, rfl, trivial⟩, hW⟩
    rintro a w ⟨x2, x3, x4, hj, hF, hW⟩
    have hj := Option.some.inj hj
    subst hj
    have H := K1
    clear G1 K1
    refine c_seq ?_
    refine c_seq ?_
    refine reg_list ?_
    refine ls hF hW rfl ((y_load (v := Value.agg #[.int .i64 x2, .int .i64 x3]) 0 hF rfl rfl T28 rfl).q) (fun a w hF hW => ?_)
    refine ls hF hW rfl (y_call (v := Value.bool (span_Empty (x2, x3))) hF H22 rfl (fun w hW => span_Empty_c any w (x2, x3) _ rfl)) (fun a w hF hW => ?_)
    refine ls_nil ?_
    refine c_then ?_
    refine c_cond hF rfl (fun hb => ?_) (fun hb => ?_)
    ·
      have H := iteT hb H
      rw [hb] at hF
      clear hb
      refine c_seq ?_
      refine reg_list ?_
      refine ls hF hW rfl ((y_load (v := Value.agg #[.bool x4, .int .i64 p0.2.1.1, .int .i64 p0.2.1.2, .int .i64 p0.2.2]) 2 hF rfl rfl T30 rfl).q) (fun a w hF hW => ?_)
      refine l_store (vs := [.bool x4, .int .i64 p0.2.1.1, .int .i64 p0.2.1.2, .int .i64 p0.2.2]) (M' := [(b3, [.int .i64 x2, .int .i64 x3]), (b2, [.bool x4, .int .i64 p0.2.1.1, .int .i64 p0.2.1.2, .int .i64 p0.2.2]), (b1, [.bool x4, .int .i64 p0.2.1.1, .int .i64 p0.2.1.2, .int .i64 p0.2.2])]) 1 hF hW rfl rfl rfl T30 rfl rfl rfl rfl rfl (fun w hW => ?_)
      refine ls hF hW rfl ((y_assign hF rfl).q) (fun a w hF hW => ?_)
      refine ls_nil ?_
      refine c_then ?_
      refine wp_ret ?_
      refine r_then ?_
      have H := Option.some.inj H
      subst H
      refine post2 (.inl rfl) hF hW rfl (rv_cell 1 hF rfl rfl T30 rfl) (rv_tmp hF rfl) ?_
      exact ⟨rfl, hW.done⟩
    ·
      have H := iteF (by rw [hb]; decide) H
      rw [hb] at hF
      clear hb
      refine wp_skip ?_
      refine c_then ?_
      refine c_seq ?_
      refine reg_list ?_
      refine ls hF hW rfl ((y_load (v := Value.agg #[.int .i64 x2, .int .i64 x3]) 0 hF rfl rfl T28 rfl).q) (fun a w hF hW => ?_)
      refine ls hF hW rfl ((y_move hF rfl).q) (fun a w hF hW => ?_)
      refine ls hF hW rfl ((y_build (v := Value.agg #[.bool true, .int .i64 x2, .int .i64 x3, .int .i64 p3]) B30 hF rfl rfl rfl).q) (fun a w hF hW => ?_)
      refine l_store (vs := [.bool true, .int .i64 x2, .int .i64 x3, .int .i64 p3]) (M' := [(b3, [.int .i64 x2, .int .i64 x3]), (b2, [.bool true, .int .i64 x2, .int .i64 x3, .int .i64 p3]), (b1, [.bool x4, .int .i64 p0.2.1.1, .int .i64 p0.2.1.2, .int .i64 p0.2.2])]) 1 hF hW rfl rfl rfl T30 rfl rfl rfl rfl rfl (fun w hW => ?_)
      refine ls hF hW rfl ((y_assign hF rfl).q) (fun a w hF hW => ?_)
      refine ls_nil ?_
      refine c_then ?_
      refine wp_ret ?_
      have H := Option.some.inj H
      subst H
      refine post2 (.inl rfl) hF hW rfl (rv_cell 1 hF rfl rfl T30 rfl) (rv_tmp hF rfl) ?_
      exact ⟨rfl, hW.done⟩

theorem H8 : Has Try.prog 8 := ⟨fun args w => run_callFunc_body Try.func8 rfl (by decide) args w⟩
def span_Mid (p0 : Int × Int) : Int := (if ((span_Clean p0).1) = span_Nothing.1 ∧ ((span_Clean p0).2) = span_Nothing.2 then 0 else w64 (((span_Clean p0).1) + (w64 (Int.tdiv (w64 (((span_Clean p0).2) - ((span_Clean p0).1))) 2))))
theorem span_Mid_c (Y : Nat → Prop) (w0 : World)  (p0 : Int × Int) (r : Int) (H : span_Mid p0 = r)  :
    Calls Try.prog 38 #[.agg #[.int .i64 p0.1, .int .i64 p0.2]] w0 fun e w' => e = .returned (.int .i64 r) ∧ Below w0.heap.size w0 w' := by
  refine enter Try.func38 rfl Try.ntmps38 rfl (fun a hF => ?_)
  have hW := Stw.start Y w0
  unfold span_Mid at H
  refine c_seq ?_
  refine reg_list ?_
  refine l_box (cs := [.int .i64 p0.1, .int .i64 p0.2]) hF hW rfl rfl rfl (fun b1 a w hF hW => ?_)
  refine ls hF hW rfl ((y_assign hF rfl).q) (fun a w hF hW => ?_)
  refine ls_nil ?_
  refine c_then ?_
  refine c_seq ?_
  refine reg_list ?_
  refine ls hF hW rfl ((y_load (v := Value.agg #[.int .i64 p0.1, .int .i64 p0.2]) 0 hF rfl rfl T28 rfl).q) (fun a w hF hW => ?_)
  refine ls hF hW rfl (y_call (v := Value.agg #[.int .i64 ((span_Clean p0).1), .int .i64 ((span_Clean p0).2)]) hF H43 rfl (fun w hW => span_Clean_c any w p0 _ rfl)) (fun a w hF hW => ?_)
  refine l_store (vs := [.int .i64 ((span_Clean p0).1), .int .i64 ((span_Clean p0).2)]) (M' := [(b1, [.int .i64 ((span_Clean p0).1), .int .i64 ((span_Clean p0).2)])]) 0 hF hW rfl rfl rfl T28 rfl rfl rfl rfl rfl (fun w hW => ?_)
  refine ls_nil ?_
  refine c_then ?_
  refine c_seq ?_
  refine c_seq ?_
  refine reg_quiet hW MO (by kernel_rfl) ?_
  refine qs hF rfl ((y_load (v := Value.agg #[.int .i64 ((span_Clean p0).1), .int .i64 ((span_Clean p0).2)]) 0 hF rfl rfl T28 rfl).q) (fun a hF => ?_)
  refine qs hF rfl (y_call (v := Value.agg #[.int .i64 span_Nothing.1, .int .i64 span_Nothing.2]) hF H32 rfl (fun w hW => span_Nothing_c any w _ rfl)) (fun a hF => ?_)
  refine qs hF rfl ((y_eqa (t := decide (((span_Clean p0).1) = span_Nothing.1 ∧ ((span_Clean p0).2) = span_Nothing.2)) G28 (Q28 _ _ _ _) hF rfl rfl).q) (fun a hF => ?_)
  refine quiet_end (fun w hW => ?_)
  refine c_then ?_
  refine c_cond hF rfl (fun hb => ?_) (fun hb => ?_)
  ·
    have H := iteT (of_decide_eq_true hb) H
    rw [hb] at hF
    clear hb
    refine c_seq ?_
    refine reg_list ?_
    refine ls hF hW rfl ((y_assign hF rfl).q) (fun a w hF hW => ?_)
    refine ls_nil ?_
    refine c_then ?_
    refine wp_ret ?_
    refine r_then ?_
    subst H
    refine post1 (.inl rfl) hF hW rfl (rv_tmp hF rfl) ?_
    exact ⟨rfl, hW.done⟩
  ·
    have H := iteF (of_decide_eq_false hb) H
    rw [hb] at hF
    clear hb
    refine wp_skip ?_
    refine c_then ?_
    refine c_seq ?_
    refine reg_list ?_
    refine ls hF hW rfl ((y_fieldAddr Try.underlying28 rfl rfl rfl T3 hF rfl 0 rfl).q) (fun a w hF hW => ?_)
    refine ls hF hW rfl ((y_load (v := Value.int .i64 ((span_Clean p0).1)) 0 hF rfl rfl T3 rfl).q) (fun a w hF hW => ?_)
    refine ls hF hW rfl ((y_fieldAddr Try.underlying28 rfl rfl rfl T3 hF rfl 1 rfl).q) (fun a w hF hW => ?_)
    refine ls hF hW rfl ((y_load (v := Value.int .i64 ((span_Clean p0).2)) 0 hF rfl rfl T3 rfl).q) (fun a w hF hW => ?_)
    refine ls hF hW rfl ((y_fieldAddr Try.underlying28 rfl rfl rfl T3 hF rfl 0 rfl).q) (fun a w hF hW => ?_)
    refine ls hF hW rfl ((y_load (v := Value.int .i64 ((span_Clean p0).1)) 0 hF rfl rfl T3 rfl).q) (fun a w hF hW => ?_)
    refine ls hF hW rfl ((y_sub hF rfl rfl rfl).q) (fun a w hF hW => ?_)
    refine ls hF hW rfl ((y_quo hF rfl rfl (by decide) rfl).q) (fun a w hF hW => ?_)
    refine ls hF hW rfl ((y_add hF rfl rfl rfl).q) (fun a w hF hW => ?_)
    refine ls hF hW rfl ((y_assign hF rfl).q) (fun a w hF hW => ?_)
    refine ls_nil ?_
    refine c_then ?_
    refine wp_ret ?_
    subst H
    refine post1 (.inl rfl) hF hW rfl (rv_tmp hF rfl) ?_
    exact ⟨rfl, hW.done⟩

theorem H38 : Has Try.prog 38 := ⟨fun args w => run_callFunc_body Try.func38 rfl (by decide) args w⟩
def span_Half (p0 : Int × Int) : Int := (if ((span_Clean p0).1) = span_Nothing.1 ∧ ((span_Clean p0).2) = span_Nothing.2 then 0 else w64 (((span_Clean p0).2) - (span_Mid (span_Clean p0))))
theorem span_Half_c (Y : Nat → Prop) (w0 : World)  (p0 : Int × Int) (r : Int) (H : span_Half p0 = r)  :
    Calls Try.prog 39 #[.agg #[.int .i64 p0.1, .int .i64 p0.2]] w0 fun e w' => e = .returned (.int .i64 r) ∧ Below w0.heap.size w0 w' := by
  refine enter Try.func39 rfl Try.ntmps39 rfl (fun a hF => ?_)
  have hW := Stw.start Y w0
  unfold span_Half at H
  refine c_seq ?_
  refine reg_list ?_
  refine l_box (cs := [.int .i64 p0.1, .int .i64 p0.2]) hF hW rfl rfl rfl (fun b1 a w hF hW => ?_)
  refine ls hF hW rfl ((y_assign hF rfl).q) (fun a w hF hW => ?_)
  refine ls_nil ?_
  refine c_then ?_
  refine c_seq ?_
  refine reg_list ?_
  refine ls hF hW rfl ((y_load (v := Value.agg #[.int .i64 p0.1, .int .i64 p0.2]) 0 hF rfl rfl T28 rfl).q) (fun a w hF hW => ?_)
  refine ls hF hW rfl (y_call (v := Value.agg #[.int .i64 ((span_Clean p0).1), .int .i64 ((span_Clean p0).2)]) hF H43 rfl (fun w hW => span_Clean_c any w p0 _ rfl)) (fun a w hF hW => ?_)
  refine l_store (vs := [.int .i64 ((span_Clean p0).1), .int .i64 ((span_Clean p0).2)]) (M' := [(b1, [.int .i64 ((span_Clean p0).1), .int .i64 ((span_Clean p0).2)])]) 0 hF hW rfl rfl rfl T28 rfl rfl rfl rfl rfl (fun w hW => ?_)
  refine ls_nil ?_
  refine c_then ?_
  refine c_seq ?_
  refine c_seq ?_
  refine reg_quiet hW MO (by kernel_rfl) ?_
  refine qs hF rfl ((y_load (v := Value.agg #[.int .i64 ((span_Clean p0).1), .int .i64 ((span_Clean p0).2)]) 0 hF rfl rfl T28 rfl).q) (fun a hF => ?_)
  refine qs hF rfl (y_call (v := Value.agg #[.int .i64 span_Nothing.1, .int .i64 span_Nothing.2]) hF H32 rfl (fun w hW => span_Nothing_c any w _ rfl)) (fun a hF => ?_)
  refine qs hF rfl ((y_eqa (t := decide (((span_Clean p0).1) = span_Nothing.1 ∧ ((span_Clean p0).2) = span_Nothing.2)) G28 (Q28 _ _ _ _) hF rfl rfl).q) (fun a hF => ?_)
  refine quiet_end (fun w hW => ?_)
  refine c_then ?_
  refine c_cond hF rfl (fun hb => ?_) (fun hb => ?_)
  ·
    have H := iteT (of_decide_eq_true hb) H
    rw [hb] at hF
    clear hb
    refine c_seq ?_
    refine reg_list ?_
    refine ls hF hW rfl ((y_assign hF rfl).q) (fun a w hF hW => ?_)
    refine ls_nil ?_
    refine c_then ?_
    refine wp_ret ?_
    refine r_then ?_
    subst H
    refine post1 (.inl rfl) hF hW rfl (rv_tmp hF rfl) ?_
    exact ⟨rfl, hW.done⟩
  ·
    have H := iteF (of_decide_eq_false hb) H
    rw [hb] at hF
    clear hb
    refine wp_skip ?_
    refine c_then ?_
    refine c_seq ?_
    refine reg_quiet hW MO (by kernel_rfl) ?_
    refine qs hF rfl ((y_fieldAddr Try.underlying28 rfl rfl rfl T3 hF rfl 1 rfl).q) (fun a hF => ?_)
    refine qs hF rfl ((y_load (v := Value.int .i64 ((span_Clean p0).2)) 0 hF rfl rfl T3 rfl).q) (fun a hF => ?_)
    refine qs hF rfl ((y_load (v := Value.agg #[.int .i64 ((span_Clean p0).1), .int .i64 ((span_Clean p0).2)]) 0 hF rfl rfl T28 rfl).q) (fun a hF => ?_)
    refine qs hF rfl (y_call (v := Value.int .i64 (span_Mid (span_Clean p0))) hF H38 rfl (fun w hW => span_Mid_c any w (span_Clean p0) _ rfl)) (fun a hF => ?_)
    refine qs hF rfl ((y_sub hF rfl rfl rfl).q) (fun a hF => ?_)
    refine qs hF rfl ((y_assign hF rfl).q) (fun a hF => ?_)
    refine quiet_end (fun w hW => ?_)
    refine c_then ?_
    refine wp_ret ?_
    subst H
    refine post1 (.inl rfl) hF hW rfl (rv_tmp hF rfl) ?_
    exact ⟨rfl, hW.done⟩

theorem H39 : Has Try.prog 39 := ⟨fun args w => run_callFunc_body Try.func39 rfl (by decide) args w⟩
noncomputable def skew_Aim (p0 : Bool × (Int × Int) × Int) (p1 : Int) (p2 : Int) : Option (Int × Int × Bool) := (if (!p0.1 || (decide (p1 < 0) || decide (1099511627776 < p1))) = true then some (0, 0, false) else (skew_On p0 p1 p2).bind fun x1 => some (w64 (p1 + (span_Mid x1)), (span_Half x1), true))
theorem skew_Aim_c (Y : Nat → Prop) (w0 : World)  (p0 : Bool × (Int × Int) × Int) (p1 : Int) (p2 : Int) (r : Int × Int × Bool) (H : skew_Aim p0 p1 p2 = some r)  :
    Calls Try.prog 16 #[.agg #[.bool p0.1, .int .i64 p0.2.1.1, .int .i64 p0.2.1.2, .int .i64 p0.2.2], .int .i64 p1, .int .i64 p2] w0 fun e w' => e = .returned (.tuple #[.int .i64 r.1, .int .i64 r.2.1, .bool r.2.2]) ∧ Below w0.heap.size w0 w' := by
  refine enter Try.func16 rfl Try.ntmps16 rfl (fun a hF => ?_)
  have hW := Stw.start Y w0
  unfold skew_Aim at H
  refine c_seq ?_
  refine reg_list ?_
  refine l_box (cs := [.bool p0.1, .int .i64 p0.2.1.1, .int .i64 p0.2.1.2, .int .i64 p0.2.2]) hF hW rfl rfl rfl (fun b1 a w hF hW => ?_)
  refine ls hF hW rfl ((y_assign hF rfl).q) (fun a w hF hW => ?_)
  refine ls hF hW rfl ((y_assign hF rfl).q) (fun a w hF hW => ?_)
  refine ls hF hW rfl ((y_assign hF rfl).q) (fun a w hF hW => ?_)
  refine ls_nil ?_
  refine c_then ?_
  refine c_seq ?_
  refine c_seqJ (fun a w => Fr 31 [] [(1, .int .i64 p1), (2, .int .i64 p2), (3, .pointer (some ⟨b1, 0, none⟩)), (6, .int .i64 0), (7, .int .i64 0), (8, .bool false), (20, .bool (!p0.1 || (decide (p1 < 0) || decide (1099511627776 < p1))))] a ∧ Stw ⟨Y, [], w0⟩ [(b1, [.bool p0.1, .int .i64 p0.2.1.1, .int .i64 p0.2.1.2, .int .i64 p0.2.2])] [] w) ?_ ?_
  ·
    refine reg_list ?_
    refine ls hF hW rfl ((y_fieldAddr Try.underlying30 rfl rfl rfl T4 hF rfl 0 rfl).q) (fun a w hF hW => ?_)
    refine ls hF hW rfl ((y_load (v := Value.bool p0.1) 0 hF rfl rfl T4 rfl).q) (fun a w hF hW => ?_)
    refine ls hF hW rfl ((y_not hF rfl).q) (fun a w hF hW => ?_)
    refine ls hF hW rfl ((y_move hF rfl).q) (fun a w hF hW => ?_)
    rcases Bool.eq_false_or_eq_true (!p0.1) with hb0 | hb0
    ·
      rw [hb0] at hF
      refine ls_skip hF (wanted_n hF rfl rfl rfl rfl rfl) rfl rfl (fun a hF => ?_)
      refine ls_skip hF (wanted_n hF rfl rfl rfl rfl rfl) rfl rfl (fun a hF => ?_)
      refine ls hF hW rfl ((y_pick_t hF rfl rfl rfl).q) (fun a w hF hW => ?_)
      refine ls hF hW rfl ((y_move hF rfl).q) (fun a w hF hW => ?_)
      refine ls_skip hF (wanted_n hF rfl rfl rfl rfl rfl) rfl rfl (fun a hF => ?_)
      refine ls_skip hF (wanted_n hF rfl rfl rfl rfl rfl) rfl rfl (fun a hF => ?_)
      refine ls hF hW rfl ((y_pick_t hF rfl rfl rfl).q) (fun a w hF hW => ?_)
      refine ls_nil ?_
      refine c_then ?_
      exact ⟨hF.re ⟨rfl, rfl, rfl, rfl, rfl, rfl, (by show some (Value.bool true) = some (Value.bool (!p0.1 || (decide (p1 < 0) || decide (1099511627776 < p1)))); try rw [hb0]; all_goals simp only [Bool.not_true, Bool.not_false, Bool.true_and, Bool.false_and, Bool.true_or, Bool.false_or, Bool.and_true, Bool.or_false, cond_true, cond_false]), trivial⟩, hW⟩
    ·
      rw [hb0] at hF
      refine ls_w hF hW (wanted_y hF rfl rfl rfl rfl) rfl (Nat.le_of_ble_eq_true rfl) ((y_move hF rfl).q) (fun a w hF hW => ?_)
      refine ls_w hF hW (wanted_y hF rfl rfl rfl rfl) rfl (Nat.le_of_ble_eq_true rfl) ((y_lss hF rfl rfl).q) (fun a w hF hW => ?_)
      refine ls hF hW rfl ((y_pick_f hF rfl rfl rfl).q) (fun a w hF hW => ?_)
      refine ls hF hW rfl ((y_move hF rfl).q) (fun a w hF hW => ?_)
      rcases Bool.eq_false_or_eq_true (decide (p1 < 0)) with hb1 | hb1
      ·
        rw [hb1] at hF
        refine ls_skip hF (wanted_n hF rfl rfl rfl rfl rfl) rfl rfl (fun a hF => ?_)
        refine ls_skip hF (wanted_n hF rfl rfl rfl rfl rfl) rfl rfl (fun a hF => ?_)
        refine ls hF hW rfl ((y_pick_t hF rfl rfl rfl).q) (fun a w hF hW => ?_)
        refine ls_nil ?_
        refine c_then ?_
        exact ⟨hF.re ⟨rfl, rfl, rfl, rfl, rfl, rfl, (by show some (Value.bool true) = some (Value.bool (!p0.1 || (decide (p1 < 0) || decide (1099511627776 < p1)))); try rw [hb1]; try rw [hb0]; all_goals simp only [Bool.not_true, Bool.not_false, Bool.true_and, Bool.false_and, Bool.true_or, Bool.false_or, Bool.and_true, Bool.or_false, cond_true, cond_false]), trivial⟩, hW⟩
      ·
        rw [hb1] at hF
        refine ls_w hF hW (wanted_y hF rfl rfl rfl rfl) rfl (Nat.le_of_ble_eq_true rfl) ((y_move hF rfl).q) (fun a w hF hW => ?_)
        refine ls_w hF hW (wanted_y hF rfl rfl rfl rfl) rfl (Nat.le_of_ble_eq_true rfl) ((y_gtr hF rfl rfl).q) (fun a w hF hW => ?_)
        refine ls hF hW rfl ((y_pick_f hF rfl rfl rfl).q) (fun a w hF hW => ?_)
        refine ls_nil ?_
        refine c_then ?_
        exact ⟨hF.re ⟨rfl, rfl, rfl, rfl, rfl, rfl, (by show some (Value.bool (decide (1099511627776 < p1))) = some (Value.bool (!p0.1 || (decide (p1 < 0) || decide (1099511627776 < p1)))); try rw [hb1]; try rw [hb0]; all_goals simp only [Bool.not_true, Bool.not_false, Bool.true_and, Bool.false_and, Bool.true_or, Bool.false_or, Bool.and_true, Bool.or_false, cond_true, cond_false]), trivial⟩, hW⟩
  rintro a w ⟨hF, hW⟩
  refine c_cond hF rfl (fun hb => ?_) (fun hb => ?_)
  ·
    have H := iteT hb H
    rw [hb] at hF
    clear hb
    refine c_seq ?_
    refine reg_list ?_
    refine ls hF hW rfl ((y_assign hF rfl).q) (fun a w hF hW => ?_)
    refine ls hF hW rfl ((y_assign hF rfl).q) (fun a w hF hW => ?_)
    refine ls hF hW rfl ((y_assign hF rfl).q) (fun a w hF hW => ?_)
    refine ls_nil ?_
    refine c_then ?_
    refine wp_ret ?_
    refine r_then ?_
    have H := Option.some.inj H
    subst H
    refine post3 (.inl rfl) hF hW rfl (rv_tmp hF rfl) (rv_tmp hF rfl) (rv_tmp hF rfl) ?_
    exact ⟨rfl, hW.done⟩
  ·
    have H := iteF (by rw [hb]; decide) H
    rw [hb] at hF
    clear hb
    refine wp_skip ?_
    refine c_then ?_
    refine c_seq ?_
    refine reg_list ?_
    refine ls hF hW rfl ((y_load (v := Value.agg #[.bool p0.1, .int .i64 p0.2.1.1, .int .i64 p0.2.1.2, .int .i64 p0.2.2]) 0 hF rfl rfl T30 rfl).q) (fun a w hF hW => ?_)
    refine ls hF hW rfl ((y_move hF rfl).q) (fun a w hF hW => ?_)
    refine ls hF hW rfl ((y_move hF rfl).q) (fun a w hF hW => ?_)
    obtain ⟨x1, h1, H⟩ := bindE H
    refine ls hF hW rfl (y_call (v := Value.agg #[.int .i64 x1.1, .int .i64 x1.2]) hF H12 rfl (fun w hW => skew_On_c any w p0 p1 p2 _ h1)) (fun a w hF hW => ?_)
    refine l_alloc (cs := [.int .i64 0, .int .i64 0]) hF hW rfl Z28 rfl (fun b2 a w hF hW => ?_)
    refine l_store (vs := [.int .i64 x1.1, .int .i64 x1.2]) (M' := [(b2, [.int .i64 x1.1, .int .i64 x1.2]), (b1, [.bool p0.1, .int .i64 p0.2.1.1, .int .i64 p0.2.1.2, .int .i64 p0.2.2])]) 0 hF hW rfl rfl rfl T28 rfl rfl rfl rfl rfl (fun w hW => ?_)
    refine ls_nil ?_
    refine c_then ?_
    refine c_seq ?_
    refine reg_quiet hW MO (by kernel_rfl) ?_
    refine qs hF rfl ((y_move hF rfl).q) (fun a hF => ?_)
    refine qs hF rfl ((y_load (v := Value.agg #[.int .i64 x1.1, .int .i64 x1.2]) 0 hF rfl rfl T28 rfl).q) (fun a hF => ?_)
    refine qs hF rfl (y_call (v := Value.int .i64 (span_Mid x1)) hF H38 rfl (fun w hW => span_Mid_c any w x1 _ rfl)) (fun a hF => ?_)
    refine qs hF rfl ((y_add hF rfl rfl rfl).q) (fun a hF => ?_)
    refine qs hF rfl ((y_load (v := Value.agg #[.int .i64 x1.1, .int .i64 x1.2]) 0 hF rfl rfl T28 rfl).q) (fun a hF => ?_)
    refine qs hF rfl (y_call (v := Value.int .i64 (span_Half x1)) hF H39 rfl (fun w hW => span_Half_c any w x1 _ rfl)) (fun a hF => ?_)
    refine qs hF rfl ((y_assign hF rfl).q) (fun a hF => ?_)
    refine qs hF rfl ((y_assign hF rfl).q) (fun a hF => ?_)
    refine qs hF rfl ((y_assign hF rfl).q) (fun a hF => ?_)
    refine quiet_end (fun w hW => ?_)
    refine c_then ?_
    refine wp_ret ?_
    have H := Option.some.inj H
    subst H
    refine post3 (.inl rfl) hF hW rfl (rv_tmp hF rfl) (rv_tmp hF rfl) (rv_tmp hF rfl) ?_
    exact ⟨rfl, hW.done⟩

theorem H16 : Has Try.prog 16 := ⟨fun args w => run_callFunc_body Try.func16 rfl (by decide) args w⟩
def skew_Miss (p0 : Int) : Int := w64 ((w64 (2 * (min (max p0 0) 1073741824))) + 2)
theorem skew_Miss_c (Y : Nat → Prop) (w0 : World)  (p0 : Int) (r : Int) (H : skew_Miss p0 = r)  :
    Calls Try.prog 18 #[.int .i64 p0] w0 fun e w' => e = .returned (.int .i64 r) ∧ Below w0.heap.size w0 w' := by
  refine enter Try.func18 rfl Try.ntmps18 rfl (fun a hF => ?_)
  have hW := Stw.start Y w0
  unfold skew_Miss at H
  refine c_seq ?_
  refine reg_list ?_
  refine ls hF hW rfl ((y_assign hF rfl).q) (fun a w hF hW => ?_)
  refine ls_nil ?_
  refine c_then ?_
  refine c_seq ?_
  refine reg_list ?_
  refine ls hF hW rfl ((y_move hF rfl).q) (fun a w hF hW => ?_)
  refine ls hF hW rfl ((y_max hF rfl rfl).q) (fun a w hF hW => ?_)
  refine ls hF hW rfl ((y_min hF rfl rfl).q) (fun a w hF hW => ?_)
  refine ls hF hW rfl ((y_mul hF rfl rfl rfl).q) (fun a w hF hW => ?_)
  refine ls hF hW rfl ((y_add hF rfl rfl rfl).q) (fun a w hF hW => ?_)
  refine ls hF hW rfl ((y_assign hF rfl).q) (fun a w hF hW => ?_)
  refine ls_nil ?_
  refine c_then ?_
  refine wp_ret ?_
  subst H
  refine post1 (.inl rfl) hF hW rfl (rv_tmp hF rfl) ?_
  exact ⟨rfl, hW.done⟩

theorem H18 : Has Try.prog 18 := ⟨fun args w => run_callFunc_body Try.func18 rfl (by decide) args w⟩
noncomputable def L15_awake  : Option Bool := (skew_Meet (false, (0, 0), 0) 10 27 14 0).bind fun x1 => (skew_Aim x1.1 20 0).bind fun x2 => some (decide (x1.2 = 0) && (decide (x1.1.2.1.1 = 13 ∧ x1.1.2.1.2 = 17) && (decide (x2.1 = 35) && (decide (x2.2.1 = 2) && (x2.2.2 && decide ((skew_Miss 2) = 6))))))
theorem L15_awake_c (Y : Nat → Prop) (w0 : World)   (r : Bool) (H : L15_awake  = some r)  :
    Calls Try.prog 7 #[] w0 fun e w' => e = .returned (.bool r) ∧ Below w0.heap.size w0 w' := by
  refine enter Try.func7 rfl Try.ntmps7 rfl (fun a hF => ?_)
  have hW := Stw.start Y w0
  unfold L15_awake at H
  refine c_seq ?_
  refine reg_list ?_
  refine ls hF hW rfl ((y_assign hF rfl).q) (fun a w hF hW => ?_)
  refine ls_nil ?_
  refine c_then ?_
  refine c_seq ?_
  refine reg_list ?_
  refine ls hF hW rfl ((y_build (v := Value.agg #[.bool false, .int .i64 0, .int .i64 0, .int .i64 0]) B30 hF rfl rfl rfl).q) (fun a w hF hW => ?_)
  obtain ⟨x1, h1, H⟩ := bindE H
  refine ls hF hW rfl (y_call (v := Value.tuple #[.agg #[.bool x1.1.1, .int .i64 x1.1.2.1.1, .int .i64 x1.1.2.1.2, .int .i64 x1.1.2.2], .int .i64 x1.2]) hF H8 rfl (fun w hW => skew_Meet_c any w (false, (0, 0), 0) 10 27 14 0 _ h1)) (fun a w hF hW => ?_)
  refine ls hF hW rfl ((y_move hF rfl).q) (fun a w hF hW => ?_)
  refine ls hF hW rfl ((y_extract (v := Value.agg #[.bool x1.1.1, .int .i64 x1.1.2.1.1, .int .i64 x1.1.2.1.2, .int .i64 x1.1.2.2]) hF rfl rfl).q) (fun a w hF hW => ?_)
  refine ls hF hW rfl ((y_extract (v := Value.int .i64 x1.2) hF rfl rfl).q) (fun a w hF hW => ?_)
  refine l_alloc (cs := [.bool false, .int .i64 0, .int .i64 0, .int .i64 0]) hF hW rfl Z30 rfl (fun b1 a w hF hW => ?_)
  refine l_store (vs := [.bool x1.1.1, .int .i64 x1.1.2.1.1, .int .i64 x1.1.2.1.2, .int .i64 x1.1.2.2]) (M' := [(b1, [.bool x1.1.1, .int .i64 x1.1.2.1.1, .int .i64 x1.1.2.1.2, .int .i64 x1.1.2.2])]) 0 hF hW rfl rfl rfl T30 rfl rfl rfl rfl rfl (fun w hW => ?_)
  refine ls hF hW rfl ((y_assign hF rfl).q) (fun a w hF hW => ?_)
  refine ls_nil ?_
  refine c_then ?_
  refine c_seq ?_
  refine reg_list ?_
  refine ls hF hW rfl ((y_load (v := Value.agg #[.bool x1.1.1, .int .i64 x1.1.2.1.1, .int .i64 x1.1.2.1.2, .int .i64 x1.1.2.2]) 0 hF rfl rfl T30 rfl).q) (fun a w hF hW => ?_)
  obtain ⟨x2, h2, H⟩ := bindE H
  refine ls hF hW rfl (y_call (v := Value.tuple #[.int .i64 x2.1, .int .i64 x2.2.1, .bool x2.2.2]) hF H16 rfl (fun w hW => skew_Aim_c any w x1.1 20 0 _ h2)) (fun a w hF hW => ?_)
  refine ls hF hW rfl ((y_move hF rfl).q) (fun a w hF hW => ?_)
  refine ls hF hW rfl ((y_extract (v := Value.int .i64 x2.1) hF rfl rfl).q) (fun a w hF hW => ?_)
  refine ls hF hW rfl ((y_extract (v := Value.int .i64 x2.2.1) hF rfl rfl).q) (fun a w hF hW => ?_)
  refine ls hF hW rfl ((y_extract (v := Value.bool x2.2.2) hF rfl rfl).q) (fun a w hF hW => ?_)
  refine ls hF hW rfl ((y_assign hF rfl).q) (fun a w hF hW => ?_)
  refine ls hF hW rfl ((y_assign hF rfl).q) (fun a w hF hW => ?_)
  refine ls hF hW rfl ((y_assign hF rfl).q) (fun a w hF hW => ?_)
  refine ls_nil ?_
  refine c_then ?_
  refine c_seqJ (fun a w => Fr 40 [] [(0, .bool (decide (x1.2 = 0) && (decide (x1.1.2.1.1 = 13 ∧ x1.1.2.1.2 = 17) && (decide (x2.1 = 35) && (decide (x2.2.1 = 2) && (x2.2.2 && decide ((skew_Miss 2) = 6)))))))] a ∧ Stw ⟨Y, [], w0⟩ [(b1, [.bool x1.1.1, .int .i64 x1.1.2.1.1, .int .i64 x1.1.2.1.2, .int .i64 x1.1.2.2])] [] w) ?_ ?_
  ·
    refine reg_list ?_
    refine ls hF hW rfl ((y_move hF rfl).q) (fun a w hF hW => ?_)
    refine ls hF hW rfl ((y_eql hF rfl rfl).q) (fun a w hF hW => ?_)
    refine ls hF hW rfl ((y_move hF rfl).q) (fun a w hF hW => ?_)
    rcases Bool.eq_false_or_eq_true (decide (x1.2 = 0)) with hb0 | hb0
    ·
      rw [hb0] at hF
      refine ls_w hF hW (wanted_y hF rfl rfl rfl rfl) rfl (Nat.le_of_ble_eq_true rfl) ((y_fieldAddr Try.underlying30 rfl rfl rfl T28 hF rfl 1 rfl).q) (fun a w hF hW => ?_)
      refine ls_w hF hW (wanted_y hF rfl rfl rfl rfl) rfl (Nat.le_of_ble_eq_true rfl) ((y_load (v := Value.agg #[.int .i64 x1.1.2.1.1, .int .i64 x1.1.2.1.2]) 0 hF rfl rfl T28 rfl).q) (fun a w hF hW => ?_)
      refine ls_w hF hW (wanted_y hF rfl rfl rfl rfl) rfl (Nat.le_of_ble_eq_true rfl) ((y_build (v := Value.agg #[.int .i64 13, .int .i64 17]) B28 hF rfl rfl rfl).q) (fun a w hF hW => ?_)
      refine ls_w hF hW (wanted_y hF rfl rfl rfl rfl) rfl (Nat.le_of_ble_eq_true rfl) ((y_eqa (t := decide (x1.1.2.1.1 = 13 ∧ x1.1.2.1.2 = 17)) G28 (Q28 _ _ _ _) hF rfl rfl).q) (fun a w hF hW => ?_)
      refine ls hF hW rfl ((y_pick_t hF rfl rfl rfl).q) (fun a w hF hW => ?_)
      refine ls hF hW rfl ((y_move hF rfl).q) (fun a w hF hW => ?_)
      rcases Bool.eq_false_or_eq_true (decide (x1.1.2.1.1 = 13 ∧ x1.1.2.1.2 = 17)) with hb1 | hb1
      ·
        rw [hb1] at hF
        refine ls_w hF hW (wanted_y hF rfl rfl rfl rfl) rfl (Nat.le_of_ble_eq_true rfl) ((y_move hF rfl).q) (fun a w hF hW => ?_)
        refine ls_w hF hW (wanted_y hF rfl rfl rfl rfl) rfl (Nat.le_of_ble_eq_true rfl) ((y_eql hF rfl rfl).q) (fun a w hF hW => ?_)
        refine ls hF hW rfl ((y_pick_t hF rfl rfl rfl).q) (fun a w hF hW => ?_)
        refine ls hF hW rfl ((y_move hF rfl).q) (fun a w hF hW => ?_)
        rcases Bool.eq_false_or_eq_true (decide (x2.1 = 35)) with hb2 | hb2
        ·
          rw [hb2] at hF
          refine ls_w hF hW (wanted_y hF rfl rfl rfl rfl) rfl (Nat.le_of_ble_eq_true rfl) ((y_move hF rfl).q) (fun a w hF hW => ?_)
          refine ls_w hF hW (wanted_y hF rfl rfl rfl rfl) rfl (Nat.le_of_ble_eq_true rfl) ((y_eql hF rfl rfl).q) (fun a w hF hW => ?_)
          refine ls hF hW rfl ((y_pick_t hF rfl rfl rfl).q) (fun a w hF hW => ?_)
          refine ls hF hW rfl ((y_move hF rfl).q) (fun a w hF hW => ?_)
          rcases Bool.eq_false_or_eq_true (decide (x2.2.1 = 2)) with hb3 | hb3
          ·
            rw [hb3] at hF
            refine ls_w hF hW (wanted_y hF rfl rfl rfl rfl) rfl (Nat.le_of_ble_eq_true rfl) ((y_move hF rfl).q) (fun a w hF hW => ?_)
            refine ls hF hW rfl ((y_pick_t hF rfl rfl rfl).q) (fun a w hF hW => ?_)
            refine ls hF hW rfl ((y_move hF rfl).q) (fun a w hF hW => ?_)
            rcases Bool.eq_false_or_eq_true x2.2.2 with hb4 | hb4
            ·
              rw [hb4] at hF
              refine ls_g (wanted_y hF rfl rfl rfl rfl) ?_
              refine ls hF hW rfl (y_call (v := Value.int .i64 (skew_Miss 2)) hF H18 rfl (fun w hW => skew_Miss_c any w 2 _ rfl)) (fun a w hF hW => ?_)
              refine ls_w hF hW (wanted_y hF rfl rfl rfl rfl) rfl (Nat.le_of_ble_eq_true rfl) ((y_eql hF rfl rfl).q) (fun a w hF hW => ?_)
              refine ls hF hW rfl ((y_pick_t hF rfl rfl rfl).q) (fun a w hF hW => ?_)
              refine ls hF hW rfl ((y_assign hF rfl).q) (fun a w hF hW => ?_)
              refine ls_nil ?_
              refine c_then ?_
              exact ⟨hF.re ⟨(by show some (Value.bool (decide ((skew_Miss 2) = 6))) = some (Value.bool (decide (x1.2 = 0) && (decide (x1.1.2.1.1 = 13 ∧ x1.1.2.1.2 = 17) && (decide (x2.1 = 35) && (decide (x2.2.1 = 2) && (x2.2.2 && decide ((skew_Miss 2) = 6))))))); try rw [hb1]; try rw [hb3]; try rw [hb2]; try rw [hb0]; try rw [hb4]; all_goals simp only [Bool.not_true, Bool.not_false, Bool.true_and, Bool.false_and, Bool.true_or, Bool.false_or, Bool.and_true, Bool.or_false, cond_true, cond_false]), trivial⟩, hW⟩
            ·
              rw [hb4] at hF
              refine ls_skip hF (wanted_n hF rfl rfl rfl rfl rfl) rfl rfl (fun a hF => ?_)
              refine ls_skip hF (wanted_n hF rfl rfl rfl rfl rfl) rfl rfl (fun a hF => ?_)
              refine ls hF hW rfl ((y_pick_f hF rfl rfl rfl).q) (fun a w hF hW => ?_)
              refine ls hF hW rfl ((y_assign hF rfl).q) (fun a w hF hW => ?_)
              refine ls_nil ?_
              refine c_then ?_
              exact ⟨hF.re ⟨(by show some (Value.bool false) = some (Value.bool (decide (x1.2 = 0) && (decide (x1.1.2.1.1 = 13 ∧ x1.1.2.1.2 = 17) && (decide (x2.1 = 35) && (decide (x2.2.1 = 2) && (x2.2.2 && decide ((skew_Miss 2) = 6))))))); try rw [hb1]; try rw [hb3]; try rw [hb2]; try rw [hb0]; try rw [hb4]; all_goals simp only [Bool.not_true, Bool.not_false, Bool.true_and, Bool.false_and, Bool.true_or, Bool.false_or, Bool.and_true, Bool.or_false, cond_true, cond_false]), trivial⟩, hW⟩
          ·
            rw [hb3] at hF
            refine ls_skip hF (wanted_n hF rfl rfl rfl rfl rfl) rfl rfl (fun a hF => ?_)
            refine ls hF hW rfl ((y_pick_f hF rfl rfl rfl).q) (fun a w hF hW => ?_)
            refine ls hF hW rfl ((y_move hF rfl).q) (fun a w hF hW => ?_)
            refine ls_skip hF (wanted_n hF rfl rfl rfl rfl rfl) rfl rfl (fun a hF => ?_)
            refine ls_skip hF (wanted_n hF rfl rfl rfl rfl rfl) rfl rfl (fun a hF => ?_)
            refine ls hF hW rfl ((y_pick_f hF rfl rfl rfl).q) (fun a w hF hW => ?_)
            refine ls hF hW rfl ((y_assign hF rfl).q) (fun a w hF hW => ?_)
            refine ls_nil ?_
            refine c_then ?_
            exact ⟨hF.re ⟨(by show some (Value.bool false) = some (Value.bool (decide (x1.2 = 0) && (decide (x1.1.2.1.1 = 13 ∧ x1.1.2.1.2 = 17) && (decide (x2.1 = 35) && (decide (x2.2.1 = 2) && (x2.2.2 && decide ((skew_Miss 2) = 6))))))); try rw [hb1]; try rw [hb3]; try rw [hb2]; try rw [hb0]; all_goals simp only [Bool.not_true, Bool.not_false, Bool.true_and, Bool.false_and, Bool.true_or, Bool.false_or, Bool.and_true, Bool.or_false, cond_true, cond_false]), trivial⟩, hW⟩
        ·
          rw [hb2] at hF
          refine ls_skip hF (wanted_n hF rfl rfl rfl rfl rfl) rfl rfl (fun a hF => ?_)
          refine ls_skip hF (wanted_n hF rfl rfl rfl rfl rfl) rfl rfl (fun a hF => ?_)
          refine ls hF hW rfl ((y_pick_f hF rfl rfl rfl).q) (fun a w hF hW => ?_)
          refine ls hF hW rfl ((y_move hF rfl).q) (fun a w hF hW => ?_)
          refine ls_skip hF (wanted_n hF rfl rfl rfl rfl rfl) rfl rfl (fun a hF => ?_)
          refine ls hF hW rfl ((y_pick_f hF rfl rfl rfl).q) (fun a w hF hW => ?_)
          refine ls hF hW rfl ((y_move hF rfl).q) (fun a w hF hW => ?_)
          refine ls_skip hF (wanted_n hF rfl rfl rfl rfl rfl) rfl rfl (fun a hF => ?_)
          refine ls_skip hF (wanted_n hF rfl rfl rfl rfl rfl) rfl rfl (fun a hF => ?_)
          refine ls hF hW rfl ((y_pick_f hF rfl rfl rfl).q) (fun a w hF hW => ?_)
          refine ls hF hW rfl ((y_assign hF rfl).q) (fun a w hF hW => ?_)
          refine ls_nil ?_
          refine c_then ?_
          exact ⟨hF.re ⟨(by show some (Value.bool false) = some (Value.bool (decide (x1.2 = 0) && (decide (x1.1.2.1.1 = 13 ∧ x1.1.2.1.2 = 17) && (decide (x2.1 = 35) && (decide (x2.2.1 = 2) && (x2.2.2 && decide ((skew_Miss 2) = 6))))))); try rw [hb1]; try rw [hb2]; try rw [hb0]; all_goals simp only [Bool.not_true, Bool.not_false, Bool.true_and, Bool.false_and, Bool.true_or, Bool.false_or, Bool.and_true, Bool.or_false, cond_true, cond_false]), trivial⟩, hW⟩
      ·
        rw [hb1] at hF
        refine ls_skip hF (wanted_n hF rfl rfl rfl rfl rfl) rfl rfl (fun a hF => ?_)
        refine ls_skip hF (wanted_n hF rfl rfl rfl rfl rfl) rfl rfl (fun a hF => ?_)
        refine ls hF hW rfl ((y_pick_f hF rfl rfl rfl).q) (fun a w hF hW => ?_)
        refine ls hF hW rfl ((y_move hF rfl).q) (fun a w hF hW => ?_)
        refine ls_skip hF (wanted_n hF rfl rfl rfl rfl rfl) rfl rfl (fun a hF => ?_)
        refine ls_skip hF (wanted_n hF rfl rfl rfl rfl rfl) rfl rfl (fun a hF => ?_)
        refine ls hF hW rfl ((y_pick_f hF rfl rfl rfl).q) (fun a w hF hW => ?_)
        refine ls hF hW rfl ((y_move hF rfl).q) (fun a w hF hW => ?_)
        refine ls_skip hF (wanted_n hF rfl rfl rfl rfl rfl) rfl rfl (fun a hF => ?_)
        refine ls hF hW rfl ((y_pick_f hF rfl rfl rfl).q) (fun a w hF hW => ?_)
        refine ls hF hW rfl ((y_move hF rfl).q) (fun a w hF hW => ?_)
        refine ls_skip hF (wanted_n hF rfl rfl rfl rfl rfl) rfl rfl (fun a hF => ?_)
        refine ls_skip hF (wanted_n hF rfl rfl rfl rfl rfl) rfl rfl (fun a hF => ?_)
        refine ls hF hW rfl ((y_pick_f hF rfl rfl rfl).q) (fun a w hF hW => ?_)
        refine ls hF hW rfl ((y_assign hF rfl).q) (fun a w hF hW => ?_)
        refine ls_nil ?_
        refine c_then ?_
        exact ⟨hF.re ⟨(by show some (Value.bool false) = some (Value.bool (decide (x1.2 = 0) && (decide (x1.1.2.1.1 = 13 ∧ x1.1.2.1.2 = 17) && (decide (x2.1 = 35) && (decide (x2.2.1 = 2) && (x2.2.2 && decide ((skew_Miss 2) = 6))))))); try rw [hb1]; try rw [hb0]; all_goals simp only [Bool.not_true, Bool.not_false, Bool.true_and, Bool.false_and, Bool.true_or, Bool.false_or, Bool.and_true, Bool.or_false, cond_true, cond_false]), trivial⟩, hW⟩
    ·
      rw [hb0] at hF
      refine ls_skip hF (wanted_n hF rfl rfl rfl rfl rfl) rfl rfl (fun a hF => ?_)
      refine ls_skip hF (wanted_n hF rfl rfl rfl rfl rfl) rfl rfl (fun a hF => ?_)
      refine ls_skip hF (wanted_n hF rfl rfl rfl rfl rfl) rfl rfl (fun a hF => ?_)
      refine ls_skip hF (wanted_n hF rfl rfl rfl rfl rfl) rfl rfl (fun a hF => ?_)
      refine ls hF hW rfl ((y_pick_f hF rfl rfl rfl).q) (fun a w hF hW => ?_)
      refine ls hF hW rfl ((y_move hF rfl).q) (fun a w hF hW => ?_)
      refine ls_skip hF (wanted_n hF rfl rfl rfl rfl rfl) rfl rfl (fun a hF => ?_)
      refine ls_skip hF (wanted_n hF rfl rfl rfl rfl rfl) rfl rfl (fun a hF => ?_)
      refine ls hF hW rfl ((y_pick_f hF rfl rfl rfl).q) (fun a w hF hW => ?_)
      refine ls hF hW rfl ((y_move hF rfl).q) (fun a w hF hW => ?_)
      refine ls_skip hF (wanted_n hF rfl rfl rfl rfl rfl) rfl rfl (fun a hF => ?_)
      refine ls_skip hF (wanted_n hF rfl rfl rfl rfl rfl) rfl rfl (fun a hF => ?_)
      refine ls hF hW rfl ((y_pick_f hF rfl rfl rfl).q) (fun a w hF hW => ?_)
      refine ls hF hW rfl ((y_move hF rfl).q) (fun a w hF hW => ?_)
      refine ls_skip hF (wanted_n hF rfl rfl rfl rfl rfl) rfl rfl (fun a hF => ?_)
      refine ls hF hW rfl ((y_pick_f hF rfl rfl rfl).q) (fun a w hF hW => ?_)
      refine ls hF hW rfl ((y_move hF rfl).q) (fun a w hF hW => ?_)
      refine ls_skip hF (wanted_n hF rfl rfl rfl rfl rfl) rfl rfl (fun a hF => ?_)
      refine ls_skip hF (wanted_n hF rfl rfl rfl rfl rfl) rfl rfl (fun a hF => ?_)
      refine ls hF hW rfl ((y_pick_f hF rfl rfl rfl).q) (fun a w hF hW => ?_)
      refine ls hF hW rfl ((y_assign hF rfl).q) (fun a w hF hW => ?_)
      refine ls_nil ?_
      refine c_then ?_
      exact ⟨hF.re ⟨(by show some (Value.bool false) = some (Value.bool (decide (x1.2 = 0) && (decide (x1.1.2.1.1 = 13 ∧ x1.1.2.1.2 = 17) && (decide (x2.1 = 35) && (decide (x2.2.1 = 2) && (x2.2.2 && decide ((skew_Miss 2) = 6))))))); try rw [hb0]; all_goals simp only [Bool.not_true, Bool.not_false, Bool.true_and, Bool.false_and, Bool.true_or, Bool.false_or, Bool.and_true, Bool.or_false, cond_true, cond_false]), trivial⟩, hW⟩
  rintro a w ⟨hF, hW⟩
  refine wp_ret ?_
  have H := Option.some.inj H
  subst H
  refine post1 (.inl rfl) hF hW rfl (rv_tmp hF rfl) ?_
  exact ⟨rfl, hW.done⟩

theorem H7 : Has Try.prog 7 := ⟨fun args w => run_callFunc_body Try.func7 rfl (by decide) args w⟩
theorem T25 : Ty Try.prog 25 true 4 := ⟨by kernel_rfl, by kernel_rfl⟩
theorem T23 : Ty Try.prog 23 true 2 := ⟨by kernel_rfl, by kernel_rfl⟩
def L15_mine (p0 : Bool × (Int × Int) × Int) : (Bool × (Int × Int) × Int) := p0
theorem L15_mine_c (Y : Nat → Prop) (w0 : World)  (p0 : Bool × (Int × Int) × Int) (r : (Bool × (Int × Int) × Int)) (H : L15_mine p0 = r)  :
    Calls Try.prog 9 #[.agg #[.bool p0.1, .int .i64 p0.2.1.1, .int .i64 p0.2.1.2, .int .i64 p0.2.2]] w0 fun e w' => e = .returned (.agg #[.bool r.1, .int .i64 r.2.1.1, .int .i64 r.2.1.2, .int .i64 r.2.2]) ∧ Below w0.heap.size w0 w' := by
  refine enter Try.func9 rfl Try.ntmps9 rfl (fun a hF => ?_)
  have hW := Stw.start Y w0
  unfold L15_mine at H
  refine c_seq ?_
  refine reg_list ?_
  refine l_box (cs := [.bool p0.1, .int .i64 p0.2.1.1, .int .i64 p0.2.1.2, .int .i64 p0.2.2]) hF hW rfl rfl rfl (fun b1 a w hF hW => ?_)
  refine l_alloc (cs := [.bool false, .int .i64 0, .int .i64 0, .int .i64 0]) hF hW rfl Z30 rfl (fun b2 a w hF hW => ?_)
  refine ls_nil ?_
  refine c_then ?_
  refine c_seq ?_
  refine reg_list ?_
  refine ls hF hW rfl ((y_fieldAddr Try.underlying25 rfl rfl rfl T4 hF rfl 0 rfl).q) (fun a w hF hW => ?_)
  refine ls hF hW rfl ((y_load (v := Value.bool p0.1) 1 hF rfl rfl T4 rfl).q) (fun a w hF hW => ?_)
  refine ls hF hW rfl ((y_fieldAddr Try.underlying25 rfl rfl rfl T23 hF rfl 1 rfl).q) (fun a w hF hW => ?_)
  refine ls hF hW rfl ((y_fieldAddr Try.underlying23 rfl rfl rfl T3 hF rfl 1 rfl).q) (fun a w hF hW => ?_)
  refine ls hF hW rfl ((y_load (v := Value.int .i64 p0.2.1.1) 1 hF rfl rfl T3 rfl).q) (fun a w hF hW => ?_)
  refine ls hF hW rfl ((y_fieldAddr Try.underlying25 rfl rfl rfl T23 hF rfl 1 rfl).q) (fun a w hF hW => ?_)
  refine ls hF hW rfl ((y_fieldAddr Try.underlying23 rfl rfl rfl T3 hF rfl 2 rfl).q) (fun a w hF hW => ?_)
  refine ls hF hW rfl ((y_load (v := Value.int .i64 p0.2.1.2) 1 hF rfl rfl T3 rfl).q) (fun a w hF hW => ?_)
  refine ls hF hW rfl ((y_build (v := Value.agg #[.int .i64 p0.2.1.1, .int .i64 p0.2.1.2]) B28 hF rfl rfl rfl).q) (fun a w hF hW => ?_)
  refine ls hF hW rfl ((y_fieldAddr Try.underlying25 rfl rfl rfl T3 hF rfl 3 rfl).q) (fun a w hF hW => ?_)
  refine ls hF hW rfl ((y_load (v := Value.int .i64 p0.2.2) 1 hF rfl rfl T3 rfl).q) (fun a w hF hW => ?_)
  refine ls hF hW rfl ((y_build (v := Value.agg #[.bool p0.1, .int .i64 p0.2.1.1, .int .i64 p0.2.1.2, .int .i64 p0.2.2]) B30 hF rfl rfl rfl).q) (fun a w hF hW => ?_)
  refine l_store (vs := [.bool p0.1, .int .i64 p0.2.1.1, .int .i64 p0.2.1.2, .int .i64 p0.2.2]) (M' := [(b2, [.bool p0.1, .int .i64 p0.2.1.1, .int .i64 p0.2.1.2, .int .i64 p0.2.2]), (b1, [.bool p0.1, .int .i64 p0.2.1.1, .int .i64 p0.2.1.2, .int .i64 p0.2.2])]) 0 hF hW rfl rfl rfl T30 rfl rfl rfl rfl rfl (fun w hW => ?_)
  refine ls_nil ?_
  refine c_then ?_
  refine wp_ret ?_
  subst H
  refine post1 (.inl rfl) hF hW rfl (rv_cell 0 hF rfl rfl T30 rfl) ?_
  exact ⟨rfl, hW.done⟩

theorem H9 : Has Try.prog 9 := ⟨fun args w => run_callFunc_body Try.func9 rfl (by decide) args w⟩
theorem Z25 : (Try.prog.info? 25).bind (·.zero) = some (.agg #[.bool false, .int .i64 0, .int .i64 0, .int .i64 0]) := by kernel_rfl
theorem Z23 : (Try.prog.info? 23).bind (·.zero) = some (.agg #[.int .i64 0, .int .i64 0]) := by kernel_rfl
noncomputable def r01_Floor (p0 : Int) (p1 : Int) : Option Int := (dvI .i64 p0 p1).bind fun x1 => (if p0 < (w64 (x1 * p1)) then some (w64 (x1 - 1)) else some x1).bind fun x2 => some x2
theorem r01_Floor_c (Y : Nat → Prop) (w0 : World)  (p0 : Int) (p1 : Int) (r : Int) (H : r01_Floor p0 p1 = some r)  :
    Calls Try.prog 50 #[.int .i64 p0, .int .i64 p1] w0 fun e w' => e = .returned (.int .i64 r) ∧ Below w0.heap.size w0 w' := by
  refine enter Try.func50 rfl Try.ntmps50 rfl (fun a hF => ?_)
  have hW := Stw.start Y w0
  unfold r01_Floor at H
  refine c_seq ?_
  refine reg_list ?_
  refine ls hF hW rfl ((y_assign hF rfl).q) (fun a w hF hW => ?_)
  refine ls_nil ?_
  refine c_then ?_
  refine c_seq ?_
  refine reg_list ?_
  refine ls hF hW rfl ((y_move hF rfl).q) (fun a w hF hW => ?_)
  refine ls hF hW rfl ((y_move hF rfl).q) (fun a w hF hW => ?_)
  obtain ⟨x1, h1, H⟩ := bindE H
  refine ls hF hW rfl ((y_quo hF rfl rfl (dvI_some h1).1 (dvI_some h1).2).q) (fun a w hF hW => ?_)
  refine ls hF hW rfl ((y_assign hF rfl).q) (fun a w hF hW => ?_)
  refine ls_nil ?_
  refine c_then ?_
  obtain ⟨o1, G1, K1⟩ := bindE H
  refine c_seqJ (fun a w => ∃ x2 : Int, some (x2) = some o1 ∧ Fr 17 [] [(4, .int .i64 0), (5, .int .i64 x2)] a ∧ Stw ⟨Y, [], w0⟩ [] [] w) ?_ ?_
  ·
    have H := G1
    clear G1 K1
    refine c_seq ?_
    refine reg_list ?_
    refine ls hF hW rfl ((y_move hF rfl).q) (fun a w hF hW => ?_)
    refine ls hF hW rfl ((y_move hF rfl).q) (fun a w hF hW => ?_)
    refine ls hF hW rfl ((y_mul hF rfl rfl rfl).q) (fun a w hF hW => ?_)
    refine ls hF hW rfl ((y_move hF rfl).q) (fun a w hF hW => ?_)
    refine ls hF hW rfl ((y_gtr hF rfl rfl).q) (fun a w hF hW => ?_)
    refine ls_nil ?_
    refine c_then ?_
    refine c_cond hF rfl (fun hb => ?_) (fun hb => ?_)
    ·
      have H := iteT (of_decide_eq_true hb) H
      rw [hb] at hF
      clear hb
      refine reg_list ?_
      refine ls hF hW rfl ((y_move hF rfl).q) (fun a w hF hW => ?_)
      refine ls hF hW rfl ((y_sub hF rfl rfl rfl).q) (fun a w hF hW => ?_)
      refine ls hF hW rfl ((y_assign hF rfl).q) (fun a w hF hW => ?_)
      refine ls_nil ?_
      refine c_then ?_
      exact ⟨_, H, hF.re ⟨rfl, rfl, trivial⟩, hW⟩
    ·
      have H := iteF (of_decide_eq_false hb) H
      rw [hb] at hF
      clear hb
      refine wp_skip ?_
      refine c_then ?_
      exact ⟨_, H, hF.re ⟨rfl, rfl, trivial⟩, hW⟩
  rintro a w ⟨x2, hj, hF, hW⟩
  have hj := Option.some.inj hj
  subst hj
  have H := K1
  clear G1 K1
  refine c_seq ?_
  refine reg_list ?_
  refine ls hF hW rfl ((y_move hF rfl).q) (fun a w hF hW => ?_)
  refine ls hF hW rfl ((y_assign hF rfl).q) (fun a w hF hW => ?_)
  refine ls_nil ?_
  refine c_then ?_
  refine wp_ret ?_
  have H := Option.some.inj H
  subst H
  refine post1 (.inl rfl) hF hW rfl (rv_tmp hF rfl) ?_
  exact ⟨rfl, hW.done⟩

theorem H50 : Has Try.prog 50 := ⟨fun args w => run_callFunc_body Try.func50 rfl (by decide) args w⟩
noncomputable def r14_Drift (p0 : Int) (p1 : Int) : Option Int := (if (decide (p0 < 0) || decide (p1 < 0)) = true then some 0 else (if 1099511627776 < p0 then some 1099511627776 else some p0).bind fun x1 => (if 1000 < p1 then some 1000 else some p1).bind fun x2 => (r01_Floor (w64 (0 - (w64 (x1 * x2)))) 1000).bind fun x3 => some (w64 (0 - x3)))
theorem r14_Drift_c (Y : Nat → Prop) (w0 : World)  (p0 : Int) (p1 : Int) (r : Int) (H : r14_Drift p0 p1 = some r)  :
    Calls Try.prog 37 #[.int .i64 p0, .int .i64 p1] w0 fun e w' => e = .returned (.int .i64 r) ∧ Below w0.heap.size w0 w' := by
  refine enter Try.func37 rfl Try.ntmps37 rfl (fun a hF => ?_)
  have hW := Stw.start Y w0
  unfold r14_Drift at H
  refine c_seq ?_
  refine reg_list ?_
  refine ls hF hW rfl ((y_assign hF rfl).q) (fun a w hF hW => ?_)
  refine ls_nil ?_
  refine c_then ?_
  refine c_seq ?_
  refine c_seqJ (fun a w => Fr 21 [] [(0, .int .i64 p0), (1, .int .i64 p1), (4, .int .i64 0), (10, .bool (decide (p0 < 0) || decide (p1 < 0)))] a ∧ Stw ⟨Y, [], w0⟩ [] [] w) ?_ ?_
  ·
    refine reg_list ?_
    refine ls hF hW rfl ((y_move hF rfl).q) (fun a w hF hW => ?_)
    refine ls hF hW rfl ((y_lss hF rfl rfl).q) (fun a w hF hW => ?_)
    refine ls hF hW rfl ((y_move hF rfl).q) (fun a w hF hW => ?_)
    rcases Bool.eq_false_or_eq_true (decide (p0 < 0)) with hb0 | hb0
    ·
      rw [hb0] at hF
      refine ls_skip hF (wanted_n hF rfl rfl rfl rfl rfl) rfl rfl (fun a hF => ?_)
      refine ls_skip hF (wanted_n hF rfl rfl rfl rfl rfl) rfl rfl (fun a hF => ?_)
      refine ls hF hW rfl ((y_pick_t hF rfl rfl rfl).q) (fun a w hF hW => ?_)
      refine ls_nil ?_
      refine c_then ?_
      exact ⟨hF.re ⟨rfl, rfl, rfl, (by show some (Value.bool true) = some (Value.bool (decide (p0 < 0) || decide (p1 < 0))); try rw [hb0]; all_goals simp only [Bool.not_true, Bool.not_false, Bool.true_and, Bool.false_and, Bool.true_or, Bool.false_or, Bool.and_true, Bool.or_false, cond_true, cond_false]), trivial⟩, hW⟩
    ·
      rw [hb0] at hF
      refine ls_w hF hW (wanted_y hF rfl rfl rfl rfl) rfl (Nat.le_of_ble_eq_true rfl) ((y_move hF rfl).q) (fun a w hF hW => ?_)
      refine ls_w hF hW (wanted_y hF rfl rfl rfl rfl) rfl (Nat.le_of_ble_eq_true rfl) ((y_lss hF rfl rfl).q) (fun a w hF hW => ?_)
      refine ls hF hW rfl ((y_pick_f hF rfl rfl rfl).q) (fun a w hF hW => ?_)
      refine ls_nil ?_
      refine c_then ?_
      exact ⟨hF.re ⟨rfl, rfl, rfl, (by show some (Value.bool (decide (p1 < 0))) = some (Value.bool (decide (p0 < 0) || decide (p1 < 0))); try rw [hb0]; all_goals simp only [Bool.not_true, Bool.not_false, Bool.true_and, Bool.false_and, Bool.true_or, Bool.false_or, Bool.and_true, Bool.or_false, cond_true, cond_false]), trivial⟩, hW⟩
  rintro a w ⟨hF, hW⟩
  refine c_cond hF rfl (fun hb => ?_) (fun hb => ?_)
  ·
    have H := iteT hb H
    rw [hb] at hF
    clear hb
    refine c_seq ?_
    refine reg_list ?_
    refine ls hF hW rfl ((y_assign hF rfl).q) (fun a w hF hW => ?_)
    refine ls_nil ?_
    refine c_then ?_
    refine wp_ret ?_
    refine r_then ?_
    have H := Option.some.inj H
    subst H
    refine post1 (.inl rfl) hF hW rfl (rv_tmp hF rfl) ?_
    exact ⟨rfl, hW.done⟩
  ·
    have H := iteF (by rw [hb]; decide) H
    rw [hb] at hF
    clear hb
    refine wp_skip ?_
    refine c_then ?_
    obtain ⟨o1, G1, K1⟩ := bindE H
    refine c_seqJ (fun a w => ∃ x1 : Int, some (x1) = some o1 ∧ Fr 21 [] [(0, .int .i64 x1), (1, .int .i64 p1), (4, .int .i64 0)] a ∧ Stw ⟨Y, [], w0⟩ [] [] w) ?_ ?_
    ·
      have H := G1
      clear G1 K1
      refine c_seq ?_
      refine reg_list ?_
      refine ls hF hW rfl ((y_move hF rfl).q) (fun a w hF hW => ?_)
      refine ls hF hW rfl ((y_gtr hF rfl rfl).q) (fun a w hF hW => ?_)
      refine ls_nil ?_
      refine c_then ?_
      refine c_cond hF rfl (fun hb => ?_) (fun hb => ?_)
      ·
        have H := iteT (of_decide_eq_true hb) H
        rw [hb] at hF
        clear hb
        refine reg_list ?_
        refine ls hF hW rfl ((y_assign hF rfl).q) (fun a w hF hW => ?_)
        refine ls_nil ?_
        refine c_then ?_
        exact ⟨_, H, hF.re ⟨rfl, rfl, rfl, trivial⟩, hW⟩
      ·
        have H := iteF (of_decide_eq_false hb) H
        rw [hb] at hF
        clear hb
        refine wp_skip ?_
        refine c_then ?_
        exact ⟨_, H, hF.re ⟨rfl, rfl, rfl, trivial⟩, hW⟩
    rintro a w ⟨x1, hj, hF, hW⟩
    have hj := Option.some.inj hj
    subst hj
    have H := K1
    clear G1 K1
    obtain ⟨o2, G2, K2⟩ := bindE H
    refine c_seqJ (fun a w => ∃ x2 : Int, some (x2) = some o2 ∧ Fr 21 [] [(0, .int .i64 x1), (1, .int .i64 x2), (4, .int .i64 0)] a ∧ Stw ⟨Y, [], w0⟩ [] [] w) ?_ ?_
    ·
      have H := G2
      clear G2 K2
      refine c_seq ?_
      refine reg_list ?_
      refine ls hF hW rfl ((y_move hF rfl).q) (fun a w hF hW => ?_)
      refine ls hF hW rfl ((y_gtr hF rfl rfl).q) (fun a w hF hW => ?_)
      refine ls_nil ?_
      refine c_then ?_
      refine c_cond hF rfl (fun hb => ?_) (fun hb => ?_)
      ·
        have H := iteT (of_decide_eq_true hb) H
        rw [hb] at hF
        clear hb
        refine reg_list ?_
        refine ls hF hW rfl ((y_assign hF rfl).q) (fun a w hF hW => ?_)
        refine ls_nil ?_
        refine c_then ?_
        exact ⟨_, H, hF.re ⟨rfl, rfl, rfl, trivial⟩, hW⟩
      ·
        have H := iteF (of_decide_eq_false hb) H
        rw [hb] at hF
        clear hb
        refine wp_skip ?_
        refine c_then ?_
        exact ⟨_, H, hF.re ⟨rfl, rfl, rfl, trivial⟩, hW⟩
    rintro a w ⟨x2, hj, hF, hW⟩
    have hj := Option.some.inj hj
    subst hj
    have H := K2
    clear G2 K2
    refine c_seq ?_
    refine reg_list ?_
    refine ls hF hW rfl ((y_move hF rfl).q) (fun a w hF hW => ?_)
    refine ls hF hW rfl ((y_move hF rfl).q) (fun a w hF hW => ?_)
    refine ls hF hW rfl ((y_mul hF rfl rfl rfl).q) (fun a w hF hW => ?_)
    refine ls hF hW rfl ((y_sub hF rfl rfl rfl).q) (fun a w hF hW => ?_)
    obtain ⟨x3, h1, H⟩ := bindE H
    refine ls hF hW rfl (y_call (v := Value.int .i64 x3) hF H50 rfl (fun w hW => r01_Floor_c any w (w64 (0 - (w64 (x1 * x2)))) 1000 _ h1)) (fun a w hF hW => ?_)
    refine ls hF hW rfl ((y_sub hF rfl rfl rfl).q) (fun a w hF hW => ?_)
    refine ls hF hW rfl ((y_assign hF rfl).q) (fun a w hF hW => ?_)
    refine ls_nil ?_
    refine c_then ?_
    refine wp_ret ?_
    have H := Option.some.inj H
    subst H
    refine post1 (.inl rfl) hF hW rfl (rv_tmp hF rfl) ?_
    exact ⟨rfl, hW.done⟩

theorem H37 : Has Try.prog 37 := ⟨fun args w => run_callFunc_body Try.func37 rfl (by decide) args w⟩
theorem B23 : Bt Try.prog 23 [.int .i64 0, .int .i64 0] [(0, 1), (1, 1)] := ⟨⟨.agg #[.int .i64 0, .int .i64 0], by kernel_rfl, rfl⟩, ⟨_, Try.underlying23, fun w => by kernel_rfl⟩⟩
def r02_Near (p0 : Int) : Int := (if 4503599627370496 < p0 then 4503599627370496 else (if p0 < (-4503599627370496) then (-4503599627370496) else p0))
theorem r02_Near_c (Y : Nat → Prop) (w0 : World)  (p0 : Int) (r : Int) (H : r02_Near p0 = r)  :
    Calls Try.prog 47 #[.int .i64 p0] w0 fun e w' => e = .returned (.int .i64 r) ∧ Below w0.heap.size w0 w' := by
  refine enter Try.func47 rfl Try.ntmps47 rfl (fun a hF => ?_)
  have hW := Stw.start Y w0
  unfold r02_Near at H
  refine c_seq ?_
  refine reg_list ?_
  refine ls hF hW rfl ((y_assign hF rfl).q) (fun a w hF hW => ?_)
  refine ls_nil ?_
  refine c_then ?_
  refine c_seq ?_
  refine c_seq ?_
  refine reg_list ?_
  refine ls hF hW rfl ((y_move hF rfl).q) (fun a w hF hW => ?_)
  refine ls hF hW rfl ((y_gtr hF rfl rfl).q) (fun a w hF hW => ?_)
  refine ls_nil ?_
  refine c_then ?_
  refine c_cond hF rfl (fun hb => ?_) (fun hb => ?_)
  ·
    have H := iteT (of_decide_eq_true hb) H
    rw [hb] at hF
    clear hb
    refine c_seq ?_
    refine reg_list ?_
    refine ls hF hW rfl ((y_assign hF rfl).q) (fun a w hF hW => ?_)
    refine ls_nil ?_
    refine c_then ?_
    refine wp_ret ?_
    refine r_then ?_
    subst H
    refine post1 (.inl rfl) hF hW rfl (rv_tmp hF rfl) ?_
    exact ⟨rfl, hW.done⟩
  ·
    have H := iteF (of_decide_eq_false hb) H
    rw [hb] at hF
    clear hb
    refine wp_skip ?_
    refine c_then ?_
    refine c_seq ?_
    refine c_seq ?_
    refine reg_list ?_
    refine ls hF hW rfl ((y_move hF rfl).q) (fun a w hF hW => ?_)
    refine ls hF hW rfl ((y_lss hF rfl rfl).q) (fun a w hF hW => ?_)
    refine ls_nil ?_
    refine c_then ?_
    refine c_cond hF rfl (fun hb => ?_) (fun hb => ?_)
    ·
      have H := iteT (of_decide_eq_true hb) H
      rw [hb] at hF
      clear hb
      refine c_seq ?_
      refine reg_list ?_
      refine ls hF hW rfl ((y_assign hF rfl).q) (fun a w hF hW => ?_)
      refine ls_nil ?_
      refine c_then ?_
      refine wp_ret ?_
      refine r_then ?_
      subst H
      refine post1 (.inl rfl) hF hW rfl (rv_tmp hF rfl) ?_
      exact ⟨rfl, hW.done⟩
    ·
      have H := iteF (of_decide_eq_false hb) H
      rw [hb] at hF
      clear hb
      refine wp_skip ?_
      refine c_then ?_
      refine c_seq ?_
      refine reg_list ?_
      refine ls hF hW rfl ((y_move hF rfl).q) (fun a w hF hW => ?_)
      refine ls hF hW rfl ((y_assign hF rfl).q) (fun a w hF hW => ?_)
      refine ls_nil ?_
      refine c_then ?_
      refine wp_ret ?_
      subst H
      refine post1 (.inl rfl) hF hW rfl (rv_tmp hF rfl) ?_
      exact ⟨rfl, hW.done⟩

theorem H47 : Has Try.prog 47 := ⟨fun args w => run_callFunc_body Try.func47 rfl (by decide) args w⟩
def r02_Empty (p0 : Int × Int) : Bool := decide ((r02_Near p0.2) < (r02_Near p0.1))
theorem r02_Empty_c (Y : Nat → Prop) (w0 : World)  (p0 : Int × Int) (r : Bool) (H : r02_Empty p0 = r)  :
    Calls Try.prog 31 #[.agg #[.int .i64 p0.1, .int .i64 p0.2]] w0 fun e w' => e = .returned (.bool r) ∧ Below w0.heap.size w0 w' := by
  refine enter Try.func31 rfl Try.ntmps31 rfl (fun a hF => ?_)
  have hW := Stw.start Y w0
  unfold r02_Empty at H
  refine c_seq ?_
  refine reg_list ?_
  refine l_box (cs := [.int .i64 p0.1, .int .i64 p0.2]) hF hW rfl rfl rfl (fun b1 a w hF hW => ?_)
  refine ls hF hW rfl ((y_assign hF rfl).q) (fun a w hF hW => ?_)
  refine ls_nil ?_
  refine c_then ?_
  refine c_seq ?_
  refine reg_quiet hW MO (by kernel_rfl) ?_
  refine qs hF rfl ((y_fieldAddr Try.underlying23 rfl rfl rfl T3 hF rfl 1 rfl).q) (fun a hF => ?_)
  refine qs hF rfl ((y_load (v := Value.int .i64 p0.2) 0 hF rfl rfl T3 rfl).q) (fun a hF => ?_)
  refine qs hF rfl (y_call (v := Value.int .i64 (r02_Near p0.2)) hF H47 rfl (fun w hW => r02_Near_c any w p0.2 _ rfl)) (fun a hF => ?_)
  refine qs hF rfl ((y_fieldAddr Try.underlying23 rfl rfl rfl T3 hF rfl 0 rfl).q) (fun a hF => ?_)
  refine qs hF rfl ((y_load (v := Value.int .i64 p0.1) 0 hF rfl rfl T3 rfl).q) (fun a hF => ?_)
  refine qs hF rfl (y_call (v := Value.int .i64 (r02_Near p0.1)) hF H47 rfl (fun w hW => r02_Near_c any w p0.1 _ rfl)) (fun a hF => ?_)
  refine qs hF rfl ((y_lss hF rfl rfl).q) (fun a hF => ?_)
  refine qs hF rfl ((y_assign hF rfl).q) (fun a hF => ?_)
  refine quiet_end (fun w hW => ?_)
  refine c_then ?_
  refine wp_ret ?_
  subst H
  refine post1 (.inl rfl) hF hW rfl (rv_tmp hF rfl) ?_
  exact ⟨rfl, hW.done⟩

end Go.Proofs.Ytlapejeadapiiaa
