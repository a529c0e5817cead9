/- The functions of layer 14, lifted. Conditions: none. -/
import Derived.Test.YthmpfhjdodfchaaA0
namespace Go.Proofs.Ythmpfhjdodfchaa
open Go Go.RowKit
set_option linter.unusedVariables false
set_option linter.unusedSimpArgs false
set_option maxRecDepth 20000
def clock_Clocks_Real_2  : Unit := ()
theorem clock_Clocks_Real_2_c (Y : Nat → Prop) (w0 : World)   (r : Unit) (H : clock_Clocks_Real_2  = r)  :
    Calls Try.prog 16 #[.pointer none] w0 fun e w' => e = .returned (.int .i64 0) ∧ Below w0.heap.size w0 w' := by
  refine enter Try.func16 rfl Try.ntmps16 rfl (fun a hF => ?_)
  have hW := Stw.start Y w0
  unfold clock_Clocks_Real_2 at H
  refine c_seq ?_
  refine reg_list ?_
  refine ls hF hW rfl ((y_assign hF rfl).q) (fun a w hF hW => ?_)
  refine ls_nil ?_
  refine c_then ?_
  refine c_seq ?_
  refine c_seq ?_
  refine reg_list ?_
  refine ls hF hW rfl ((y_move hF rfl).q) (fun a w hF hW => ?_)
  refine ls hF hW rfl ((y_peq_nil_nil Try.underlying24 hF rfl rfl).q) (fun a w hF hW => ?_)
  refine ls_nil ?_
  refine c_then ?_
  refine c_cond_t hF rfl ?_
  refine c_seq ?_
  refine reg_list ?_
  refine ls hF hW rfl ((y_assign hF rfl).q) (fun a w hF hW => ?_)
  refine ls_nil ?_
  refine c_then ?_
  refine wp_ret ?_
  refine r_then ?_
  subst H
  refine post1 (.inl rfl) hF hW rfl (rv_tmp hF rfl) ?_
  exact ⟨rfl, hW.done⟩

def clock_Clocks_Read_2 (p1 : Int) : Unit := ()
theorem clock_Clocks_Read_2_c (Y : Nat → Prop) (w0 : World)  (p1 : Int) (r : Unit) (H : clock_Clocks_Read_2 p1 = r)  :
    Calls Try.prog 14 #[.pointer none, .int .i64 p1] w0 fun e w' => e = .returned (.int .i64 0) ∧ Below w0.heap.size w0 w' := by
  refine enter Try.func14 rfl Try.ntmps14 rfl (fun a hF => ?_)
  have hW := Stw.start Y w0
  unfold clock_Clocks_Read_2 at H
  refine c_seq ?_
  refine reg_list ?_
  refine ls hF hW rfl ((y_assign hF rfl).q) (fun a w hF hW => ?_)
  refine ls_nil ?_
  refine c_then ?_
  refine c_seq ?_
  refine c_seq ?_
  refine reg_list ?_
  refine ls hF hW rfl ((y_move hF rfl).q) (fun a w hF hW => ?_)
  refine ls hF hW rfl ((y_move hF rfl).q) (fun a w hF hW => ?_)
  refine ls hF hW rfl (y_call (v := Value.bool false) hF H22 rfl (fun w hW => clock_Clocks_has_2_c any w p1 _ rfl)) (fun a w hF hW => ?_)
  refine ls hF hW rfl ((y_not hF rfl).q) (fun a w hF hW => ?_)
  refine ls_nil ?_
  refine c_then ?_
  refine c_cond_t hF rfl ?_
  refine c_seq ?_
  refine reg_list ?_
  refine ls hF hW rfl ((y_assign hF rfl).q) (fun a w hF hW => ?_)
  refine ls_nil ?_
  refine c_then ?_
  refine wp_ret ?_
  refine r_then ?_
  subst H
  refine post1 (.inl rfl) hF hW rfl (rv_tmp hF rfl) ?_
  exact ⟨rfl, hW.done⟩

def clock_Clocks_Apart_2 (p1 : Int) : Unit := ()
theorem clock_Clocks_Apart_2_c (Y : Nat → Prop) (w0 : World)  (p1 : Int) (r : Unit) (H : clock_Clocks_Apart_2 p1 = r)  :
    Calls Try.prog 18 #[.pointer none, .int .i64 p1] w0 fun e w' => e = .returned (.int .i64 0) ∧ Below w0.heap.size w0 w' := by
  refine enter Try.func18 rfl Try.ntmps18 rfl (fun a hF => ?_)
  have hW := Stw.start Y w0
  unfold clock_Clocks_Apart_2 at H
  refine c_seq ?_
  refine reg_list ?_
  refine ls hF hW rfl ((y_assign hF rfl).q) (fun a w hF hW => ?_)
  refine ls_nil ?_
  refine c_then ?_
  refine c_seq ?_
  refine c_seq ?_
  refine reg_list ?_
  refine ls hF hW rfl ((y_move hF rfl).q) (fun a w hF hW => ?_)
  refine ls hF hW rfl ((y_move hF rfl).q) (fun a w hF hW => ?_)
  refine ls hF hW rfl (y_call (v := Value.bool false) hF H22 rfl (fun w hW => clock_Clocks_has_2_c any w p1 _ rfl)) (fun a w hF hW => ?_)
  refine ls hF hW rfl ((y_not hF rfl).q) (fun a w hF hW => ?_)
  refine ls_nil ?_
  refine c_then ?_
  refine c_cond_t hF rfl ?_
  refine c_seq ?_
  refine reg_list ?_
  refine ls hF hW rfl ((y_assign hF rfl).q) (fun a w hF hW => ?_)
  refine ls_nil ?_
  refine c_then ?_
  refine wp_ret ?_
  refine r_then ?_
  subst H
  refine post1 (.inl rfl) hF hW rfl (rv_tmp hF rfl) ?_
  exact ⟨rfl, hW.done⟩

noncomputable def r01_Floor (p0 : Int) (p1 : Int) : Option Int := (dvI .i64 p0 p1).bind fun x1 => (if p0 < (w64 (x1 * p1)) then some (w64 (x1 - 1)) else some x1).bind fun x2 => some x2
theorem r01_Floor_c (Y : Nat → Prop) (w0 : World)  (p0 : Int) (p1 : Int) (r : Int) (H : r01_Floor p0 p1 = some r)  :
    Calls Try.prog 24 #[.int .i64 p0, .int .i64 p1] w0 fun e w' => e = .returned (.int .i64 r) ∧ Below w0.heap.size w0 w' := by
  refine enter Try.func24 rfl Try.ntmps24 rfl (fun a hF => ?_)
  have hW := Stw.start Y w0
  unfold r01_Floor at H
  refine c_seq ?_
  refine reg_list ?_
  refine ls hF hW rfl ((y_assign hF rfl).q) (fun a w hF hW => ?_)
  refine ls_nil ?_
  refine c_then ?_
  refine c_seq ?_
  refine reg_list ?_
  refine ls hF hW rfl ((y_move hF rfl).q) (fun a w hF hW => ?_)
  refine ls hF hW rfl ((y_move hF rfl).q) (fun a w hF hW => ?_)
  obtain ⟨x1, h1, H⟩ := bindE H
  refine ls hF hW rfl ((y_quo hF rfl rfl (dvI_some h1).1 (dvI_some h1).2).q) (fun a w hF hW => ?_)
  refine ls hF hW rfl ((y_assign hF rfl).q) (fun a w hF hW => ?_)
  refine ls_nil ?_
  refine c_then ?_
  obtain ⟨o1, G1, K1⟩ := bindE H
  refine c_seqJ (fun a w => ∃ x2 : Int, some (x2) = some o1 ∧ Fr 17 [] [(4, .int .i64 0), (5, .int .i64 x2)] a ∧ Stw ⟨Y, [], w0⟩ [] [] w) ?_ ?_
  ·
    have H := G1
    clear G1 K1
    refine c_seq ?_
    refine reg_list ?_
    refine ls hF hW rfl ((y_move hF rfl).q) (fun a w hF hW => ?_)
    refine ls hF hW rfl ((y_move hF rfl).q) (fun a w hF hW => ?_)
    refine ls hF hW rfl ((y_mul hF rfl rfl rfl).q) (fun a w hF hW => ?_)
    refine ls hF hW rfl ((y_move hF rfl).q) (fun a w hF hW => ?_)
    refine ls hF hW rfl ((y_gtr hF rfl rfl).q) (fun a w hF hW => ?_)
    refine ls_nil ?_
    refine c_then ?_
    refine c_cond hF rfl (fun hb => ?_) (fun hb => ?_)
    ·
      have H := iteT (of_decide_eq_true hb) H
      rw [hb] at hF
      clear hb
      refine reg_list ?_
      refine ls hF hW rfl ((y_move hF rfl).q) (fun a w hF hW => ?_)
      refine ls hF hW rfl ((y_sub hF rfl rfl rfl).q) (fun a w hF hW => ?_)
      refine ls hF hW rfl ((y_assign hF rfl).q) (fun a w hF hW => ?_)
      refine ls_nil ?_
      refine c_then ?_
      exact ⟨_, H, hF.re ⟨rfl, rfl, trivial⟩, hW⟩
    ·
      have H := iteF (of_decide_eq_false hb) H
      rw [hb] at hF
      clear hb
      refine wp_skip ?_
      refine c_then ?_
      exact ⟨_, H, hF.re ⟨rfl, rfl, trivial⟩, hW⟩
  rintro a w ⟨x2, hj, hF, hW⟩
  have hj := Option.some.inj hj
  subst hj
  have H := K1
  clear G1 K1
  refine c_seq ?_
  refine reg_list ?_
  refine ls hF hW rfl ((y_move hF rfl).q) (fun a w hF hW => ?_)
  refine ls hF hW rfl ((y_assign hF rfl).q) (fun a w hF hW => ?_)
  refine ls_nil ?_
  refine c_then ?_
  refine wp_ret ?_
  have H := Option.some.inj H
  subst H
  refine post1 (.inl rfl) hF hW rfl (rv_tmp hF rfl) ?_
  exact ⟨rfl, hW.done⟩

theorem H24 : Has Try.prog 24 := ⟨fun args w => run_callFunc_body Try.func24 rfl (by decide) args w⟩
noncomputable def r14_Drift (p0 : Int) (p1 : Int) : Option Int := (if (decide (p0 < 0) || decide (p1 < 0)) = true then some 0 else (if 1099511627776 < p0 then some 1099511627776 else some p0).bind fun x1 => (if 1000 < p1 then some 1000 else some p1).bind fun x2 => (r01_Floor (w64 (0 - (w64 (x1 * x2)))) 1000).bind fun x3 => some (w64 (0 - x3)))
theorem r14_Drift_c (Y : Nat → Prop) (w0 : World)  (p0 : Int) (p1 : Int) (r : Int) (H : r14_Drift p0 p1 = some r)  :
    Calls Try.prog 21 #[.int .i64 p0, .int .i64 p1] w0 fun e w' => e = .returned (.int .i64 r) ∧ Below w0.heap.size w0 w' := by
  refine enter Try.func21 rfl Try.ntmps21 rfl (fun a hF => ?_)
  have hW := Stw.start Y w0
  unfold r14_Drift at H
  refine c_seq ?_
  refine reg_list ?_
  refine ls hF hW rfl ((y_assign hF rfl).q) (fun a w hF hW => ?_)
  refine ls_nil ?_
  refine c_then ?_
  refine c_seq ?_
  refine c_seqJ (fun a w => Fr 21 [] [(0, .int .i64 p0), (1, .int .i64 p1), (4, .int .i64 0), (10, .bool (decide (p0 < 0) || decide (p1 < 0)))] a ∧ Stw ⟨Y, [], w0⟩ [] [] w) ?_ ?_
  ·
    refine reg_list ?_
    refine ls hF hW rfl ((y_move hF rfl).q) (fun a w hF hW => ?_)
    refine ls hF hW rfl ((y_lss hF rfl rfl).q) (fun a w hF hW => ?_)
    refine ls hF hW rfl ((y_move hF rfl).q) (fun a w hF hW => ?_)
    rcases Bool.eq_false_or_eq_true (decide (p0 < 0)) with hb0 | hb0
    ·
      rw [hb0] at hF
      refine ls_skip hF (wanted_n hF rfl rfl rfl rfl rfl) rfl rfl (fun a hF => ?_)
      refine ls_skip hF (wanted_n hF rfl rfl rfl rfl rfl) rfl rfl (fun a hF => ?_)
      refine ls hF hW rfl ((y_pick_t hF rfl rfl rfl).q) (fun a w hF hW => ?_)
      refine ls_nil ?_
      refine c_then ?_
      exact ⟨hF.re ⟨rfl, rfl, rfl, (by show some (Value.bool true) = some (Value.bool (decide (p0 < 0) || decide (p1 < 0))); try rw [hb0]; all_goals simp only [Bool.not_true, Bool.not_false, Bool.true_and, Bool.false_and, Bool.true_or, Bool.false_or, Bool.and_true, Bool.or_false, cond_true, cond_false]), trivial⟩, hW⟩
    ·
      rw [hb0] at hF
      refine ls_w hF hW (wanted_y hF rfl rfl rfl rfl) rfl (Nat.le_of_ble_eq_true rfl) ((y_move hF rfl).q) (fun a w hF hW => ?_)
      refine ls_w hF hW (wanted_y hF rfl rfl rfl rfl) rfl (Nat.le_of_ble_eq_true rfl) ((y_lss hF rfl rfl).q) (fun a w hF hW => ?_)
      refine ls hF hW rfl ((y_pick_f hF rfl rfl rfl).q) (fun a w hF hW => ?_)
      refine ls_nil ?_
      refine c_then ?_
      exact ⟨hF.re ⟨rfl, rfl, rfl, (by show some (Value.bool (decide (p1 < 0))) = some (Value.bool (decide (p0 < 0) || decide (p1 < 0))); try rw [hb0]; all_goals simp only [Bool.not_true, Bool.not_false, Bool.true_and, Bool.false_and, Bool.true_or, Bool.false_or, Bool.and_true, Bool.or_false, cond_true, cond_false]), trivial⟩, hW⟩
  rintro a w ⟨hF, hW⟩
  refine c_cond hF rfl (fun hb => ?_) (fun hb => ?_)
  ·
    have H := iteT hb H
    rw [hb] at hF
    clear hb
    refine c_seq ?_
    refine reg_list ?_
    refine ls hF hW rfl ((y_assign hF rfl).q) (fun a w hF hW => ?_)
    refine ls_nil ?_
    refine c_then ?_
    refine wp_ret ?_
    refine r_then ?_
    have H := Option.some.inj H
    subst H
    refine post1 (.inl rfl) hF hW rfl (rv_tmp hF rfl) ?_
    exact ⟨rfl, hW.done⟩
  ·
    have H := iteF (by rw [hb]; decide) H
    rw [hb] at hF
    clear hb
    refine wp_skip ?_
    refine c_then ?_
    obtain ⟨o1, G1, K1⟩ := bindE H
    refine c_seqJ (fun a w => ∃ x1 : Int, some (x1) = some o1 ∧ Fr 21 [] [(0, .int .i64 x1), (1, .int .i64 p1), (4, .int .i64 0)] a ∧ Stw ⟨Y, [], w0⟩ [] [] w) ?_ ?_
    ·
      have H := G1
      clear G1 K1
      refine c_seq ?_
      refine reg_list ?_
      refine ls hF hW rfl ((y_move hF rfl).q) (fun a w hF hW => ?_)
      refine ls hF hW rfl ((y_gtr hF rfl rfl).q) (fun a w hF hW => ?_)
      refine ls_nil ?_
      refine c_then ?_
      refine c_cond hF rfl (fun hb => ?_) (fun hb => ?_)
      ·
        have H := iteT (of_decide_eq_true hb) H
        rw [hb] at hF
        clear hb
        refine reg_list ?_
        refine ls hF hW rfl ((y_assign hF rfl).q) (fun a w hF hW => ?_)
        refine ls_nil ?_
        refine c_then ?_
        exact ⟨_, H, hF.re ⟨rfl, rfl, rfl, trivial⟩, hW⟩
      ·
        have H := iteF (of_decide_eq_false hb) H
        rw [hb] at hF
        clear hb
        refine wp_skip ?_
        refine c_then ?_
        exact ⟨_, H, hF.re ⟨rfl, rfl, rfl, trivial⟩, hW⟩
    rintro a w ⟨x1, hj, hF, hW⟩
    have hj := Option.some.inj hj
    subst hj
    have H := K1
    clear G1 K1
    obtain ⟨o2, G2, K2⟩ := bindE H
    refine c_seqJ (fun a w => ∃ x2 : Int, some (x2) = some o2 ∧ Fr 21 [] [(0, .int .i64 x1), (1, .int .i64 x2), (4, .int .i64 0)] a ∧ Stw ⟨Y, [], w0⟩ [] [] w) ?_ ?_
    ·
      have H := G2
      clear G2 K2
      refine c_seq ?_
      refine reg_list ?_
      refine ls hF hW rfl ((y_move hF rfl).q) (fun a w hF hW => ?_)
      refine ls hF hW rfl ((y_gtr hF rfl rfl).q) (fun a w hF hW => ?_)
      refine ls_nil ?_
      refine c_then ?_
      refine c_cond hF rfl (fun hb => ?_) (fun hb => ?_)
      ·
        have H := iteT (of_decide_eq_true hb) H
        rw [hb] at hF
        clear hb
        refine reg_list ?_
        refine ls hF hW rfl ((y_assign hF rfl).q) (fun a w hF hW => ?_)
        refine ls_nil ?_
        refine c_then ?_
        exact ⟨_, H, hF.re ⟨rfl, rfl, rfl, trivial⟩, hW⟩
      ·
        have H := iteF (of_decide_eq_false hb) H
        rw [hb] at hF
        clear hb
        refine wp_skip ?_
        refine c_then ?_
        exact ⟨_, H, hF.re ⟨rfl, rfl, rfl, trivial⟩, hW⟩
    rintro a w ⟨x2, hj, hF, hW⟩
    have hj := Option.some.inj hj
    subst hj
    have H := K2
    clear G2 K2
    refine c_seq ?_
    refine reg_list ?_
    refine ls hF hW rfl ((y_move hF rfl).q) (fun a w hF hW => ?_)
    refine ls hF hW rfl ((y_move hF rfl).q) (fun a w hF hW => ?_)
    refine ls hF hW rfl ((y_mul hF rfl rfl rfl).q) (fun a w hF hW => ?_)
    refine ls hF hW rfl ((y_sub hF rfl rfl rfl).q) (fun a w hF hW => ?_)
    obtain ⟨x3, h1, H⟩ := bindE H
    refine ls hF hW rfl (y_call (v := Value.int .i64 x3) hF H24 rfl (fun w hW => r01_Floor_c any w (w64 (0 - (w64 (x1 * x2)))) 1000 _ h1)) (fun a w hF hW => ?_)
    refine ls hF hW rfl ((y_sub hF rfl rfl rfl).q) (fun a w hF hW => ?_)
    refine ls hF hW rfl ((y_assign hF rfl).q) (fun a w hF hW => ?_)
    refine ls_nil ?_
    refine c_then ?_
    refine wp_ret ?_
    have H := Option.some.inj H
    subst H
    refine post1 (.inl rfl) hF hW rfl (rv_tmp hF rfl) ?_
    exact ⟨rfl, hW.done⟩

theorem H21 : Has Try.prog 21 := ⟨fun args w => run_callFunc_body Try.func21 rfl (by decide) args w⟩
noncomputable def L14_ClockSpans (p0 : Int) (p1 : Int) (p2 : Int) : Option Bool := (clock_Drift p0 p2).bind fun x1 => ((clock_Drift p0 p2).bind fun x3 => (r14_Drift p0 p2).bind fun x4 => (if x3 ≠ x4 then some true else (if x1 < 0 then some true else (if p0 ≤ p1 then (clock_Drift p1 p2).bind fun x5 => some (decide (x5 < x1)) else some false)))).bind fun x2 => (if x2 = true then some false else (if (decide (p0 < 0) || (decide (p1 < 0) || (decide (1073741824 < p0) || decide (1073741824 < p1)))) = true then (L14_awake).bind fun x6 => some x6 else (clock_Drift (w64 (p0 + p1)) p2).bind fun x7 => ((clock_Drift p1 p2).bind fun x9 => (if x7 ≤ (w64 (x1 + x9)) then (clock_Drift p1 p2).bind fun x10 => (if (w64 (x1 + x10)) ≤ (w64 (x7 + 1)) then (L14_awake).bind fun x11 => some x11 else some false) else some false)).bind fun x8 => some x8))
theorem L14_ClockSpans_c (Y : Nat → Prop) (w0 : World)  (p0 : Int) (p1 : Int) (p2 : Int) (r : Bool) (H : L14_ClockSpans p0 p1 p2 = some r)  :
    Calls Try.prog 5 #[.int .i64 p0, .int .i64 p1, .int .i64 p2] w0 fun e w' => e = .returned (.bool r) ∧ Below w0.heap.size w0 w' := by
  refine enter Try.func5 rfl Try.ntmps5 rfl (fun a hF => ?_)
  have hW := Stw.start Y w0
  unfold L14_ClockSpans at H
  refine c_seq ?_
  refine reg_list ?_
  refine ls hF hW rfl ((y_assign hF rfl).q) (fun a w hF hW => ?_)
  refine ls_nil ?_
  refine c_then ?_
  refine c_seq ?_
  refine reg_list ?_
  refine ls hF hW rfl ((y_assign hF rfl).q) (fun a w hF hW => ?_)
  refine ls_nil ?_
  refine c_then ?_
  refine c_seq ?_
  refine reg_list ?_
  refine ls hF hW rfl ((y_move hF rfl).q) (fun a w hF hW => ?_)
  refine ls hF hW rfl ((y_move hF rfl).q) (fun a w hF hW => ?_)
  refine ls hF hW rfl (y_call (v := Value.tuple #[]) hF H10 rfl (fun w hW => clock_Clocks_Tick_2_c any w p0 _ rfl)) (fun a w hF hW => ?_)
  refine ls_nil ?_
  refine c_then ?_
  refine c_seq ?_
  refine c_seq ?_
  refine reg_list ?_
  refine ls hF hW rfl ((y_move hF rfl).q) (fun a w hF hW => ?_)
  refine ls hF hW rfl (y_call (v := Value.int .i64 0) hF H16 rfl (fun w hW => clock_Clocks_Real_2_c any w _ rfl)) (fun a w hF hW => ?_)
  refine ls hF hW rfl ((y_move hF rfl).q) (fun a w hF hW => ?_)
  refine ls hF hW rfl ((y_move hF rfl).q) (fun a w hF hW => ?_)
  refine ls hF hW rfl (y_call (v := Value.int .i64 0) hF H14 rfl (fun w hW => clock_Clocks_Read_2_c any w p0 _ rfl)) (fun a w hF hW => ?_)
  refine ls hF hW rfl ((y_add hF rfl rfl (r := 0) (by decide)).q) (fun a w hF hW => ?_)
  refine ls hF hW rfl ((y_move hF rfl).q) (fun a w hF hW => ?_)
  refine ls hF hW rfl ((y_move hF rfl).q) (fun a w hF hW => ?_)
  refine ls hF hW rfl (y_call (v := Value.int .i64 0) hF H18 rfl (fun w hW => clock_Clocks_Apart_2_c any w p1 _ rfl)) (fun a w hF hW => ?_)
  refine ls hF hW rfl ((y_add hF rfl rfl (r := 0) (by decide)).q) (fun a w hF hW => ?_)
  refine ls hF hW rfl ((y_neq hF rfl rfl).q) (fun a w hF hW => ?_)
  rw [show decide ((0 : Int) ≠ 0) = false from by decide] at hF
  refine ls hF hW rfl ((y_move hF rfl).q) (fun a w hF hW => ?_)
  refine ls_w hF hW (wanted_y hF rfl rfl rfl rfl) rfl (Nat.le_of_ble_eq_true rfl) ((y_move hF rfl).q) (fun a w hF hW => ?_)
  refine ls_w hF hW (wanted_y hF rfl rfl rfl rfl) rfl (Nat.le_of_ble_eq_true rfl) ((y_move hF rfl).q) (fun a w hF hW => ?_)
  refine ls_w hF hW (wanted_y hF rfl rfl rfl rfl) rfl (Nat.le_of_ble_eq_true rfl) ((y_move hF rfl).q) (fun a w hF hW => ?_)
  refine ls_g (wanted_y hF rfl rfl rfl rfl) ?_
  refine ls hF hW rfl (y_call (v := Value.int .i64 7) hF H12 rfl (fun w hW => clock_Clocks_Rate_2_c any w p0 p1 _ rfl)) (fun a w hF hW => ?_)
  refine ls_w hF hW (wanted_y hF rfl rfl rfl rfl) rfl (Nat.le_of_ble_eq_true rfl) ((y_neq hF rfl rfl).q) (fun a w hF hW => ?_)
  rw [show decide ((7 : Int) ≠ 7) = false from by decide] at hF
  refine ls hF hW rfl ((y_pick_f hF rfl rfl rfl).q) (fun a w hF hW => ?_)
  refine ls_nil ?_
  refine c_then ?_
  refine c_cond_f hF rfl ?_
  refine wp_skip ?_
  refine c_then ?_
  refine c_seq ?_
  refine reg_list ?_
  refine ls hF hW rfl ((y_move hF rfl).q) (fun a w hF hW => ?_)
  refine ls hF hW rfl ((y_move hF rfl).q) (fun a w hF hW => ?_)
  obtain ⟨x1, h1, H⟩ := bindE H
  refine ls hF hW rfl (y_call (v := Value.int .i64 x1) hF H20 rfl (fun w hW => clock_Drift_c any w p0 p2 _ h1)) (fun a w hF hW => ?_)
  refine ls hF hW rfl ((y_assign hF rfl).q) (fun a w hF hW => ?_)
  refine ls_nil ?_
  refine c_then ?_
  refine c_seq ?_
  obtain ⟨o1, G1, K1⟩ := bindE H
  refine c_seqJ (fun a w => ∃ x2 : Bool, some (x2) = some o1 ∧ Fr 97 [] [(0, .int .i64 p0), (1, .int .i64 p1), (2, .int .i64 p2), (6, .bool false), (8, .int .i64 x1), (56, .bool x2)] a ∧ Stw ⟨Y, [], w0⟩ [] [] w) ?_ ?_
  ·
    have H := G1
    clear G1 K1
    refine reg_list ?_
    refine ls hF hW rfl ((y_move hF rfl).q) (fun a w hF hW => ?_)
    refine ls hF hW rfl ((y_move hF rfl).q) (fun a w hF hW => ?_)
    obtain ⟨x3, h2, H⟩ := bindE H
    refine ls hF hW rfl (y_call (v := Value.int .i64 x3) hF H20 rfl (fun w hW => clock_Drift_c any w p0 p2 _ h2)) (fun a w hF hW => ?_)
    refine ls hF hW rfl ((y_move hF rfl).q) (fun a w hF hW => ?_)
    refine ls hF hW rfl ((y_move hF rfl).q) (fun a w hF hW => ?_)
    obtain ⟨x4, h3, H⟩ := bindE H
    refine ls hF hW rfl (y_call (v := Value.int .i64 x4) hF H21 rfl (fun w hW => r14_Drift_c any w p0 p2 _ h3)) (fun a w hF hW => ?_)
    refine ls hF hW rfl ((y_neq hF rfl rfl).q) (fun a w hF hW => ?_)
    refine ls hF hW rfl ((y_move hF rfl).q) (fun a w hF hW => ?_)
    rcases Bool.eq_false_or_eq_true (decide (x3 ≠ x4)) with hb | hb
    ·
      have H := iteT (of_decide_eq_true hb) H
      rw [hb] at hF
      clear hb
      refine ls_skip hF (wanted_n hF rfl rfl rfl rfl rfl) rfl rfl (fun a hF => ?_)
      refine ls_skip hF (wanted_n hF rfl rfl rfl rfl rfl) rfl rfl (fun a hF => ?_)
      refine ls hF hW rfl ((y_pick_t hF rfl rfl rfl).q) (fun a w hF hW => ?_)
      refine ls hF hW rfl ((y_move hF rfl).q) (fun a w hF hW => ?_)
      refine ls_skip hF (wanted_n hF rfl rfl rfl rfl rfl) rfl rfl (fun a hF => ?_)
      refine ls_skip hF (wanted_n hF rfl rfl rfl rfl rfl) rfl rfl (fun a hF => ?_)
      refine ls_skip hF (wanted_n hF rfl rfl rfl rfl rfl) rfl rfl (fun a hF => ?_)
      refine ls_skip hF (wanted_n hF rfl rfl rfl rfl rfl) rfl rfl (fun a hF => ?_)
      refine ls_skip hF (wanted_undef hF rfl rfl rfl rfl) rfl rfl (fun a hF => ?_)
      refine ls_skip hF (wanted_undef hF rfl rfl rfl rfl) rfl rfl (fun a hF => ?_)
      refine ls_skip hF (wanted_undef hF rfl rfl rfl rfl) rfl rfl (fun a hF => ?_)
      refine ls_skip hF (wanted_undef hF rfl rfl rfl rfl) rfl rfl (fun a hF => ?_)
      refine ls_skip hF (wanted_undef hF rfl rfl rfl rfl) rfl rfl (fun a hF => ?_)
      refine ls_skip hF (wanted_n hF rfl rfl rfl rfl rfl) rfl rfl (fun a hF => ?_)
      refine ls hF hW rfl ((y_pick_t hF rfl rfl rfl).q) (fun a w hF hW => ?_)
      refine ls_nil ?_
      refine c_then ?_
      exact ⟨_, H, hF.re ⟨rfl, rfl, rfl, rfl, rfl, rfl, trivial⟩, hW⟩
    ·
      have H := iteF (of_decide_eq_false hb) H
      rw [hb] at hF
      clear hb
      refine ls_w hF hW (wanted_y hF rfl rfl rfl rfl) rfl (Nat.le_of_ble_eq_true rfl) ((y_move hF rfl).q) (fun a w hF hW => ?_)
      refine ls_w hF hW (wanted_y hF rfl rfl rfl rfl) rfl (Nat.le_of_ble_eq_true rfl) ((y_lss hF rfl rfl).q) (fun a w hF hW => ?_)
      refine ls hF hW rfl ((y_pick_f hF rfl rfl rfl).q) (fun a w hF hW => ?_)
      refine ls hF hW rfl ((y_move hF rfl).q) (fun a w hF hW => ?_)
      rcases Bool.eq_false_or_eq_true (decide (x1 < 0)) with hb | hb
      ·
        have H := iteT (of_decide_eq_true hb) H
        rw [hb] at hF
        clear hb
        refine ls_skip hF (wanted_n hF rfl rfl rfl rfl rfl) rfl rfl (fun a hF => ?_)
        refine ls_skip hF (wanted_n hF rfl rfl rfl rfl rfl) rfl rfl (fun a hF => ?_)
        refine ls_skip hF (wanted_n hF rfl rfl rfl rfl rfl) rfl rfl (fun a hF => ?_)
        refine ls_skip hF (wanted_n hF rfl rfl rfl rfl rfl) rfl rfl (fun a hF => ?_)
        refine ls_skip hF (wanted_undef hF rfl rfl rfl rfl) rfl rfl (fun a hF => ?_)
        refine ls_skip hF (wanted_undef hF rfl rfl rfl rfl) rfl rfl (fun a hF => ?_)
        refine ls_skip hF (wanted_undef hF rfl rfl rfl rfl) rfl rfl (fun a hF => ?_)
        refine ls_skip hF (wanted_undef hF rfl rfl rfl rfl) rfl rfl (fun a hF => ?_)
        refine ls_skip hF (wanted_undef hF rfl rfl rfl rfl) rfl rfl (fun a hF => ?_)
        refine ls_skip hF (wanted_n hF rfl rfl rfl rfl rfl) rfl rfl (fun a hF => ?_)
        refine ls hF hW rfl ((y_pick_t hF rfl rfl rfl).q) (fun a w hF hW => ?_)
        refine ls_nil ?_
        refine c_then ?_
        exact ⟨_, H, hF.re ⟨rfl, rfl, rfl, rfl, rfl, rfl, trivial⟩, hW⟩
      ·
        have H := iteF (of_decide_eq_false hb) H
        rw [hb] at hF
        clear hb
        refine ls_w hF hW (wanted_y hF rfl rfl rfl rfl) rfl (Nat.le_of_ble_eq_true rfl) ((y_move hF rfl).q) (fun a w hF hW => ?_)
        refine ls_w hF hW (wanted_y hF rfl rfl rfl rfl) rfl (Nat.le_of_ble_eq_true rfl) ((y_move hF rfl).q) (fun a w hF hW => ?_)
        refine ls_w hF hW (wanted_y hF rfl rfl rfl rfl) rfl (Nat.le_of_ble_eq_true rfl) ((y_leq hF rfl rfl).q) (fun a w hF hW => ?_)
        refine ls_w hF hW (wanted_y hF rfl rfl rfl rfl) rfl (Nat.le_of_ble_eq_true rfl) ((y_move hF rfl).q) (fun a w hF hW => ?_)
        rcases Bool.eq_false_or_eq_true (decide (p0 ≤ p1)) with hb | hb
        ·
          have H := iteT (of_decide_eq_true hb) H
          rw [hb] at hF
          clear hb
          refine ls_w hF hW (wanted_y hF rfl rfl rfl rfl) rfl (Nat.le_of_ble_eq_true rfl) ((y_move hF rfl).q) (fun a w hF hW => ?_)
          refine ls_w hF hW (wanted_y hF rfl rfl rfl rfl) rfl (Nat.le_of_ble_eq_true rfl) ((y_move hF rfl).q) (fun a w hF hW => ?_)
          refine ls_w hF hW (wanted_y hF rfl rfl rfl rfl) rfl (Nat.le_of_ble_eq_true rfl) ((y_move hF rfl).q) (fun a w hF hW => ?_)
          refine ls_g (wanted_y hF rfl rfl rfl rfl) ?_
          obtain ⟨x5, h4, H⟩ := bindE H
          refine ls hF hW rfl (y_call (v := Value.int .i64 x5) hF H20 rfl (fun w hW => clock_Drift_c any w p1 p2 _ h4)) (fun a w hF hW => ?_)
          refine ls_w hF hW (wanted_y hF rfl rfl rfl rfl) rfl (Nat.le_of_ble_eq_true rfl) ((y_gtr hF rfl rfl).q) (fun a w hF hW => ?_)
          refine ls_w hF hW (wanted_y hF rfl rfl rfl rfl) rfl (Nat.le_of_ble_eq_true rfl) ((y_pick_t hF rfl rfl rfl).q) (fun a w hF hW => ?_)
          refine ls hF hW rfl ((y_pick_f hF rfl rfl rfl).q) (fun a w hF hW => ?_)
          refine ls_nil ?_
          refine c_then ?_
          exact ⟨_, H, hF.re ⟨rfl, rfl, rfl, rfl, rfl, rfl, trivial⟩, hW⟩
        ·
          have H := iteF (of_decide_eq_false hb) H
          rw [hb] at hF
          clear hb
          refine ls_skip hF (wanted_n hF rfl rfl rfl rfl rfl) rfl rfl (fun a hF => ?_)
          refine ls_skip hF (wanted_n hF rfl rfl rfl rfl rfl) rfl rfl (fun a hF => ?_)
          refine ls_skip hF (wanted_n hF rfl rfl rfl rfl rfl) rfl rfl (fun a hF => ?_)
          refine ls_skip hF (wanted_n hF rfl rfl rfl rfl rfl) rfl rfl (fun a hF => ?_)
          refine ls_skip hF (wanted_n hF rfl rfl rfl rfl rfl) rfl rfl (fun a hF => ?_)
          refine ls_w hF hW (wanted_y hF rfl rfl rfl rfl) rfl (Nat.le_of_ble_eq_true rfl) ((y_pick_f hF rfl rfl rfl).q) (fun a w hF hW => ?_)
          refine ls hF hW rfl ((y_pick_f hF rfl rfl rfl).q) (fun a w hF hW => ?_)
          refine ls_nil ?_
          refine c_then ?_
          exact ⟨_, H, hF.re ⟨rfl, rfl, rfl, rfl, rfl, rfl, trivial⟩, hW⟩
  rintro a w ⟨x2, hj, hF, hW⟩
  have hj := Option.some.inj hj
  subst hj
  have H := K1
  clear G1 K1
  refine c_cond hF rfl (fun hb => ?_) (fun hb => ?_)
  ·
    have H := iteT hb H
    rw [hb] at hF
    clear hb
    refine c_seq ?_
    refine reg_list ?_
    refine ls hF hW rfl ((y_assign hF rfl).q) (fun a w hF hW => ?_)
    refine ls_nil ?_
    refine c_then ?_
    refine wp_ret ?_
    refine r_then ?_
    have H := Option.some.inj H
    subst H
    refine post1 (.inl rfl) hF hW rfl (rv_tmp hF rfl) ?_
    exact ⟨rfl, hW.done⟩
  ·
    have H := iteF (by rw [hb]; decide) H
    rw [hb] at hF
    clear hb
    refine wp_skip ?_
    refine c_then ?_
    refine c_seq ?_
    refine c_seqJ (fun a w => Fr 97 [] [(0, .int .i64 p0), (1, .int .i64 p1), (2, .int .i64 p2), (6, .bool false), (8, .int .i64 x1), (70, .bool (decide (p0 < 0) || (decide (p1 < 0) || (decide (1073741824 < p0) || decide (1073741824 < p1)))))] a ∧ Stw ⟨Y, [], w0⟩ [] [] w) ?_ ?_
    ·
      refine reg_list ?_
      refine ls hF hW rfl ((y_move hF rfl).q) (fun a w hF hW => ?_)
      refine ls hF hW rfl ((y_lss hF rfl rfl).q) (fun a w hF hW => ?_)
      refine ls hF hW rfl ((y_move hF rfl).q) (fun a w hF hW => ?_)
      rcases Bool.eq_false_or_eq_true (decide (p0 < 0)) with hb0 | hb0
      ·
        rw [hb0] at hF
        refine ls_skip hF (wanted_n hF rfl rfl rfl rfl rfl) rfl rfl (fun a hF => ?_)
        refine ls_skip hF (wanted_n hF rfl rfl rfl rfl rfl) rfl rfl (fun a hF => ?_)
        refine ls hF hW rfl ((y_pick_t hF rfl rfl rfl).q) (fun a w hF hW => ?_)
        refine ls hF hW rfl ((y_move hF rfl).q) (fun a w hF hW => ?_)
        refine ls_skip hF (wanted_n hF rfl rfl rfl rfl rfl) rfl rfl (fun a hF => ?_)
        refine ls_skip hF (wanted_n hF rfl rfl rfl rfl rfl) rfl rfl (fun a hF => ?_)
        refine ls hF hW rfl ((y_pick_t hF rfl rfl rfl).q) (fun a w hF hW => ?_)
        refine ls hF hW rfl ((y_move hF rfl).q) (fun a w hF hW => ?_)
        refine ls_skip hF (wanted_n hF rfl rfl rfl rfl rfl) rfl rfl (fun a hF => ?_)
        refine ls_skip hF (wanted_n hF rfl rfl rfl rfl rfl) rfl rfl (fun a hF => ?_)
        refine ls hF hW rfl ((y_pick_t hF rfl rfl rfl).q) (fun a w hF hW => ?_)
        refine ls_nil ?_
        refine c_then ?_
        exact ⟨hF.re ⟨rfl, rfl, rfl, rfl, rfl, (by show some (Value.bool true) = some (Value.bool (decide (p0 < 0) || (decide (p1 < 0) || (decide (1073741824 < p0) || decide (1073741824 < p1))))); try rw [hb0]; all_goals simp only [Bool.not_true, Bool.not_false, Bool.true_and, Bool.false_and, Bool.true_or, Bool.false_or, Bool.and_true, Bool.or_false, cond_true, cond_false]), trivial⟩, hW⟩
      ·
        rw [hb0] at hF
        refine ls_w hF hW (wanted_y hF rfl rfl rfl rfl) rfl (Nat.le_of_ble_eq_true rfl) ((y_move hF rfl).q) (fun a w hF hW => ?_)
        refine ls_w hF hW (wanted_y hF rfl rfl rfl rfl) rfl (Nat.le_of_ble_eq_true rfl) ((y_lss hF rfl rfl).q) (fun a w hF hW => ?_)
        refine ls hF hW rfl ((y_pick_f hF rfl rfl rfl).q) (fun a w hF hW => ?_)
        refine ls hF hW rfl ((y_move hF rfl).q) (fun a w hF hW => ?_)
        rcases Bool.eq_false_or_eq_true (decide (p1 < 0)) with hb1 | hb1
        ·
          rw [hb1] at hF
          refine ls_skip hF (wanted_n hF rfl rfl rfl rfl rfl) rfl rfl (fun a hF => ?_)
          refine ls_skip hF (wanted_n hF rfl rfl rfl rfl rfl) rfl rfl (fun a hF => ?_)
          refine ls hF hW rfl ((y_pick_t hF rfl rfl rfl).q) (fun a w hF hW => ?_)
          refine ls hF hW rfl ((y_move hF rfl).q) (fun a w hF hW => ?_)
          refine ls_skip hF (wanted_n hF rfl rfl rfl rfl rfl) rfl rfl (fun a hF => ?_)
          refine ls_skip hF (wanted_n hF rfl rfl rfl rfl rfl) rfl rfl (fun a hF => ?_)
          refine ls hF hW rfl ((y_pick_t hF rfl rfl rfl).q) (fun a w hF hW => ?_)
          refine ls_nil ?_
          refine c_then ?_
          exact ⟨hF.re ⟨rfl, rfl, rfl, rfl, rfl, (by show some (Value.bool true) = some (Value.bool (decide (p0 < 0) || (decide (p1 < 0) || (decide (1073741824 < p0) || decide (1073741824 < p1))))); try rw [hb0]; try rw [hb1]; all_goals simp only [Bool.not_true, Bool.not_false, Bool.true_and, Bool.false_and, Bool.true_or, Bool.false_or, Bool.and_true, Bool.or_false, cond_true, cond_false]), trivial⟩, hW⟩
        ·
          rw [hb1] at hF
          refine ls_w hF hW (wanted_y hF rfl rfl rfl rfl) rfl (Nat.le_of_ble_eq_true rfl) ((y_move hF rfl).q) (fun a w hF hW => ?_)
          refine ls_w hF hW (wanted_y hF rfl rfl rfl rfl) rfl (Nat.le_of_ble_eq_true rfl) ((y_gtr hF rfl rfl).q) (fun a w hF hW => ?_)
          refine ls hF hW rfl ((y_pick_f hF rfl rfl rfl).q) (fun a w hF hW => ?_)
          refine ls hF hW rfl ((y_move hF rfl).q) (fun a w hF hW => ?_)
          rcases Bool.eq_false_or_eq_true (decide (1073741824 < p0)) with hb2 | hb2
          ·
            rw [hb2] at hF
            refine ls_skip hF (wanted_n hF rfl rfl rfl rfl rfl) rfl rfl (fun a hF => ?_)
            refine ls_skip hF (wanted_n hF rfl rfl rfl rfl rfl) rfl rfl (fun a hF => ?_)
            refine ls hF hW rfl ((y_pick_t hF rfl rfl rfl).q) (fun a w hF hW => ?_)
            refine ls_nil ?_
            refine c_then ?_
            exact ⟨hF.re ⟨rfl, rfl, rfl, rfl, rfl, (by show some (Value.bool true) = some (Value.bool (decide (p0 < 0) || (decide (p1 < 0) || (decide (1073741824 < p0) || decide (1073741824 < p1))))); try rw [hb2]; try rw [hb0]; try rw [hb1]; all_goals simp only [Bool.not_true, Bool.not_false, Bool.true_and, Bool.false_and, Bool.true_or, Bool.false_or, Bool.and_true, Bool.or_false, cond_true, cond_false]), trivial⟩, hW⟩
          ·
            rw [hb2] at hF
            refine ls_w hF hW (wanted_y hF rfl rfl rfl rfl) rfl (Nat.le_of_ble_eq_true rfl) ((y_move hF rfl).q) (fun a w hF hW => ?_)
            refine ls_w hF hW (wanted_y hF rfl rfl rfl rfl) rfl (Nat.le_of_ble_eq_true rfl) ((y_gtr hF rfl rfl).q) (fun a w hF hW => ?_)
            refine ls hF hW rfl ((y_pick_f hF rfl rfl rfl).q) (fun a w hF hW => ?_)
            refine ls_nil ?_
            refine c_then ?_
            exact ⟨hF.re ⟨rfl, rfl, rfl, rfl, rfl, (by show some (Value.bool (decide (1073741824 < p1))) = some (Value.bool (decide (p0 < 0) || (decide (p1 < 0) || (decide (1073741824 < p0) || decide (1073741824 < p1))))); try rw [hb2]; try rw [hb0]; try rw [hb1]; all_goals simp only [Bool.not_true, Bool.not_false, Bool.true_and, Bool.false_and, Bool.true_or, Bool.false_or, Bool.and_true, Bool.or_false, cond_true, cond_false]), trivial⟩, hW⟩
    rintro a w ⟨hF, hW⟩
    refine c_cond hF rfl (fun hb => ?_) (fun hb => ?_)
    ·
      have H := iteT hb H
      rw [hb] at hF
      clear hb
      refine c_seq ?_
      refine reg_list ?_
      obtain ⟨x6, h5, H⟩ := bindE H
      refine ls hF hW rfl (y_call (v := Value.bool x6) hF H9 rfl (fun w hW => L14_awake_c any w _ h5)) (fun a w hF hW => ?_)
      refine ls hF hW rfl ((y_assign hF rfl).q) (fun a w hF hW => ?_)
      refine ls_nil ?_
      refine c_then ?_
      refine wp_ret ?_
      refine r_then ?_
      have H := Option.some.inj H
      subst H
      refine post1 (.inl rfl) hF hW rfl (rv_tmp hF rfl) ?_
      exact ⟨rfl, hW.done⟩
    ·
      have H := iteF (by rw [hb]; decide) H
      rw [hb] at hF
      clear hb
      refine wp_skip ?_
      refine c_then ?_
      refine c_seq ?_
      refine reg_list ?_
      refine ls hF hW rfl ((y_move hF rfl).q) (fun a w hF hW => ?_)
      refine ls hF hW rfl ((y_move hF rfl).q) (fun a w hF hW => ?_)
      refine ls hF hW rfl ((y_add hF rfl rfl rfl).q) (fun a w hF hW => ?_)
      refine ls hF hW rfl ((y_move hF rfl).q) (fun a w hF hW => ?_)
      obtain ⟨x7, h6, H⟩ := bindE H
      refine ls hF hW rfl (y_call (v := Value.int .i64 x7) hF H20 rfl (fun w hW => clock_Drift_c any w (w64 (p0 + p1)) p2 _ h6)) (fun a w hF hW => ?_)
      refine ls hF hW rfl ((y_assign hF rfl).q) (fun a w hF hW => ?_)
      refine ls_nil ?_
      refine c_then ?_
      obtain ⟨o2, G2, K2⟩ := bindE H
      refine c_seqJ (fun a w => ∃ x8 : Bool, some (x8) = some o2 ∧ Fr 97 [] [(6, .bool x8)] a ∧ Stw ⟨Y, [], w0⟩ [] [] w) ?_ ?_
      ·
        have H := G2
        clear G2 K2
        refine reg_list ?_
        refine ls hF hW rfl ((y_move hF rfl).q) (fun a w hF hW => ?_)
        refine ls hF hW rfl ((y_move hF rfl).q) (fun a w hF hW => ?_)
        refine ls hF hW rfl ((y_move hF rfl).q) (fun a w hF hW => ?_)
        obtain ⟨x9, h7, H⟩ := bindE H
        refine ls hF hW rfl (y_call (v := Value.int .i64 x9) hF H20 rfl (fun w hW => clock_Drift_c any w p1 p2 _ h7)) (fun a w hF hW => ?_)
        refine ls hF hW rfl ((y_add hF rfl rfl rfl).q) (fun a w hF hW => ?_)
        refine ls hF hW rfl ((y_move hF rfl).q) (fun a w hF hW => ?_)
        refine ls hF hW rfl ((y_geq hF rfl rfl).q) (fun a w hF hW => ?_)
        refine ls hF hW rfl ((y_move hF rfl).q) (fun a w hF hW => ?_)
        rcases Bool.eq_false_or_eq_true (decide (x7 ≤ (w64 (x1 + x9)))) with hb | hb
        ·
          have H := iteT (of_decide_eq_true hb) H
          rw [hb] at hF
          clear hb
          refine ls_w hF hW (wanted_y hF rfl rfl rfl rfl) rfl (Nat.le_of_ble_eq_true rfl) ((y_move hF rfl).q) (fun a w hF hW => ?_)
          refine ls_w hF hW (wanted_y hF rfl rfl rfl rfl) rfl (Nat.le_of_ble_eq_true rfl) ((y_move hF rfl).q) (fun a w hF hW => ?_)
          refine ls_w hF hW (wanted_y hF rfl rfl rfl rfl) rfl (Nat.le_of_ble_eq_true rfl) ((y_move hF rfl).q) (fun a w hF hW => ?_)
          refine ls_g (wanted_y hF rfl rfl rfl rfl) ?_
          obtain ⟨x10, h8, H⟩ := bindE H
          refine ls hF hW rfl (y_call (v := Value.int .i64 x10) hF H20 rfl (fun w hW => clock_Drift_c any w p1 p2 _ h8)) (fun a w hF hW => ?_)
          refine ls_w hF hW (wanted_y hF rfl rfl rfl rfl) rfl (Nat.le_of_ble_eq_true rfl) ((y_add hF rfl rfl rfl).q) (fun a w hF hW => ?_)
          refine ls_w hF hW (wanted_y hF rfl rfl rfl rfl) rfl (Nat.le_of_ble_eq_true rfl) ((y_move hF rfl).q) (fun a w hF hW => ?_)
          refine ls_w hF hW (wanted_y hF rfl rfl rfl rfl) rfl (Nat.le_of_ble_eq_true rfl) ((y_add hF rfl rfl rfl).q) (fun a w hF hW => ?_)
          refine ls_w hF hW (wanted_y hF rfl rfl rfl rfl) rfl (Nat.le_of_ble_eq_true rfl) ((y_leq hF rfl rfl).q) (fun a w hF hW => ?_)
          refine ls hF hW rfl ((y_pick_t hF rfl rfl rfl).q) (fun a w hF hW => ?_)
          refine ls hF hW rfl ((y_move hF rfl).q) (fun a w hF hW => ?_)
          rcases Bool.eq_false_or_eq_true (decide ((w64 (x1 + x10)) ≤ (w64 (x7 + 1)))) with hb | hb
          ·
            have H := iteT (of_decide_eq_true hb) H
            rw [hb] at hF
            clear hb
            refine ls_g (wanted_y hF rfl rfl rfl rfl) ?_
            obtain ⟨x11, h9, H⟩ := bindE H
            refine ls hF hW rfl (y_call (v := Value.bool x11) hF H9 rfl (fun w hW => L14_awake_c any w _ h9)) (fun a w hF hW => ?_)
            refine ls hF hW rfl ((y_pick_t hF rfl rfl rfl).q) (fun a w hF hW => ?_)
            refine ls hF hW rfl ((y_assign hF rfl).q) (fun a w hF hW => ?_)
            refine ls_nil ?_
            refine c_then ?_
            exact ⟨_, H, hF.re ⟨rfl, trivial⟩, hW⟩
          ·
            have H := iteF (of_decide_eq_false hb) H
            rw [hb] at hF
            clear hb
            refine ls_skip hF (wanted_n hF rfl rfl rfl rfl rfl) rfl rfl (fun a hF => ?_)
            refine ls hF hW rfl ((y_pick_f hF rfl rfl rfl).q) (fun a w hF hW => ?_)
            refine ls hF hW rfl ((y_assign hF rfl).q) (fun a w hF hW => ?_)
            refine ls_nil ?_
            refine c_then ?_
            exact ⟨_, H, hF.re ⟨rfl, trivial⟩, hW⟩
        ·
          have H := iteF (of_decide_eq_false hb) H
          rw [hb] at hF
          clear hb
          refine ls_skip hF (wanted_n hF rfl rfl rfl rfl rfl) rfl rfl (fun a hF => ?_)
          refine ls_skip hF (wanted_n hF rfl rfl rfl rfl rfl) rfl rfl (fun a hF => ?_)
          refine ls_skip hF (wanted_n hF rfl rfl rfl rfl rfl) rfl rfl (fun a hF => ?_)
          refine ls_skip hF (wanted_n hF rfl rfl rfl rfl rfl) rfl rfl (fun a hF => ?_)
          refine ls_skip hF (wanted_n hF rfl rfl rfl rfl rfl) rfl rfl (fun a hF => ?_)
          refine ls_skip hF (wanted_n hF rfl rfl rfl rfl rfl) rfl rfl (fun a hF => ?_)
          refine ls_skip hF (wanted_n hF rfl rfl rfl rfl rfl) rfl rfl (fun a hF => ?_)
          refine ls_skip hF (wanted_n hF rfl rfl rfl rfl rfl) rfl rfl (fun a hF => ?_)
          refine ls hF hW rfl ((y_pick_f hF rfl rfl rfl).q) (fun a w hF hW => ?_)
          refine ls hF hW rfl ((y_move hF rfl).q) (fun a w hF hW => ?_)
          refine ls_skip hF (wanted_n hF rfl rfl rfl rfl rfl) rfl rfl (fun a hF => ?_)
          refine ls hF hW rfl ((y_pick_f hF rfl rfl rfl).q) (fun a w hF hW => ?_)
          refine ls hF hW rfl ((y_assign hF rfl).q) (fun a w hF hW => ?_)
          refine ls_nil ?_
          refine c_then ?_
          exact ⟨_, H, hF.re ⟨rfl, trivial⟩, hW⟩
      rintro a w ⟨x8, hj, hF, hW⟩
      have hj := Option.some.inj hj
      subst hj
      have H := K2
      clear G2 K2
      refine wp_ret ?_
      have H := Option.some.inj H
      subst H
      refine post1 (.inl rfl) hF hW rfl (rv_tmp hF rfl) ?_
      exact ⟨rfl, hW.done⟩

noncomputable def L14_ClockTicks_l1 (p0 : List Int) (p2 : List Int) : (Int × Int × Int × (List (Int × Int × Int)) × Int × Int × (List (Int × Int × Int))) → Option ((Int × Int × Int × (List (Int × Int × Int)) × Int × Int × (List (Int × Int × Int))) ⊕ ((Int × Int × (List (Int × Int × Int)) × Int × Int × (List (Int × Int × Int))) ⊕ Bool))
  | (x14, x15, x16, x17, x18, x19, x20) => (if (decide (x14 < (p0.length : Int)) && decide (x14 < (p2.length : Int))) = true then (ix p2 x14).bind fun x21 => (ix p2 x14).bind fun x22 => (clock_Clocks_Rate (x18, x19, x20) x14 x21).bind fun x23 => (clock_Clocks_Rate (x15, x16, x17) x14 x22).bind fun x24 => (if x23.1 ≠ x24.1 then some (.inr (.inr false)) else some (.inl (w64 (x14 + 1), x24.2.1, x24.2.2.1, x24.2.2.2, x23.2.1, x23.2.2.1, x23.2.2.2))) else some (.inr (.inl (x15, x16, x17, x18, x19, x20))))
noncomputable def L14_ClockTicks_l2 (p0 : List Int) (x27 : (Int × Int × (List (Int × Int × Int)))) : (Int × Int × Int × (List (Int × Int × Int))) → Option ((Int × Int × Int × (List (Int × Int × Int))) ⊕ ((Int × Int × (List (Int × Int × Int))) ⊕ Bool))
  | (x31, x32, x33, x34) => (if x31 < (p0.length : Int) then ((clock_Clocks_Read (x32, x33, x34) x31).bind fun x39 => (clock_Clocks_Read x27 x31).bind fun x40 => (if x39 ≠ x40 then some (true, x32, x33, x34) else (clock_Clocks_Rate (x32, x33, x34) x31 0).bind fun x41 => some (decide (x41.1 ≠ 0), x41.2.1, x41.2.2.1, x41.2.2.2))).bind fun (x35, x36, x37, x38) => (if x35 = true then some (.inr (.inr false)) else some (.inl (w64 (x31 + 1), x36, x37, x38))) else some (.inr (.inl (x32, x33, x34))))
noncomputable def L14_ClockTicks_l3 (p0 : List Int) (x27 : (Int × Int × (List (Int × Int × Int)))) (x42 : (Int × Int × (List (Int × Int × Int)))) : Int → Option (Int ⊕ (Unit ⊕ Bool))
  | x43 => (if x43 < (p0.length : Int) then (clock_Clocks_Apart x42 x43).bind fun x44 => (clock_Clocks_Apart x27 x43).bind fun x45 => (if x44 ≠ x45 then some (.inr (.inr false)) else some (.inl (w64 (x43 + 1)))) else some (.inr (.inl ())))
noncomputable def L14_ClockTicks (p0 : List Int) (p1 : Int) (p2 : List Int) (p3 : Int) (p4 : Int) : Option Bool := (clock_New p0 p1).bind fun x1 => altS x1 (fun x2 => (clock_New p0 p1).bind fun x4 => altS x4 (fun x5 => (if (decide (p3 < 0) || (decide (p4 < 0) || (decide (1073741824 < p3) || decide (1073741824 < p4)))) = true then (L14_awake).bind fun x7 => some x7 else orR (loopW (L14_ClockTicks_l1 p0 p2) (0, x5.1, x5.2.1, x5.2.2, x2.1, x2.2.1, x2.2.2)) fun (x8, x9, x10, x11, x12, x13) => (clock_Clocks_Tick (x11, x12, x13) p3).bind fun x25 => (clock_Clocks_Tick x25 p4).bind fun x26 => (clock_Clocks_Tick (x8, x9, x10) (w64 (p3 + p4))).bind fun x27 => orR (loopW (L14_ClockTicks_l2 p0 x27) (0, x26.1, x26.2.1, x26.2.2)) fun (x28, x29, x30) => (clock_Clocks_Tick (x28, x29, x30) p3).bind fun x42 => orR (loopW (L14_ClockTicks_l3 p0 x27 x42) 0) fun _ => (if (clock_Clocks_Real x42) = (w64 ((clock_Clocks_Real x27) + p3)) then (L14_awake).bind fun x47 => some x47 else some false).bind fun x46 => some x46)) (fun x6 => some false)) (fun x3 => (clock_New p0 p1).bind fun x48 => altS x48 (fun x49 => some false) (fun x50 => (L14_awake).bind fun x51 => some x51))
theorem L14_ClockTicks_c (Y : Nat → Prop) (w0 : World) (v1 : Value) (v2 : Value) (p0 : List Int) (p1 : Int) (p2 : List Int) (p3 : Int) (p4 : Int) (r : Bool) (H : L14_ClockTicks p0 p1 p2 p3 p4 = some r) (h_v1 : Sl w0 (NX []) (Rp.int .i64) v1 p0) (h_v2 : Sl w0 (NX []) (Rp.int .i64) v2 p2) :
    Calls Try.prog 6 #[v1, .int .i64 p1, v2, .int .i64 p3, .int .i64 p4] w0 fun e w' => e = .returned (.bool r) ∧ Below w0.heap.size w0 w' := by
  refine enter Try.func6 rfl Try.ntmps6 rfl (fun a hF => ?_)
  have hW := Stw.start Y w0
  unfold L14_ClockTicks at H
  refine c_seq ?_
  refine reg_list ?_
  refine ls hF hW rfl ((y_assign hF rfl).q) (fun a w hF hW => ?_)
  refine ls_nil ?_
  refine c_then ?_
  refine c_seq ?_
  refine reg_list ?_
  refine ls hF hW rfl ((y_move hF rfl).q) (fun a w hF hW => ?_)
  refine ls hF hW rfl ((y_move hF rfl).q) (fun a w hF hW => ?_)
  obtain ⟨x1, h1, H⟩ := bindE H
  rcases x1 with x2 | x3
  ·
    have H := altL H
    refine l_callG (Ml := []) (Zl := []) (M := []) (Z := []) (β := Nat × Value) (rv := fun x => .tuple #[.pointer (some ⟨x.1, 0, none⟩), .int .i64 0]) (MM := fun x => [(x.1, [.int .i64 x2.1, .int .i64 x2.2.1, x.2])]) (ZZ := fun x => [row x.2 50 R50 x2.2.2]) hF hW H7 rfl rfl (fun hL => clock_New_c _ w (v1) p0 p1 _ h1 ((rdc_ro h_v1) w hW).nx) (fun x a w hF hW => ?_)
    obtain ⟨b1, v3⟩ := x
    have hW : Stw ⟨Y, [], w0⟩ [(b1, [.int .i64 x2.1, .int .i64 x2.2.1, v3])] [row v3 50 R50 x2.2.2] w := hW
    refine ls hF hW rfl ((y_move hF rfl).q) (fun a w hF hW => ?_)
    refine ls hF hW rfl ((y_extract (v := Value.pointer (some ⟨b1, 0, none⟩)) hF rfl rfl).q) (fun a w hF hW => ?_)
    refine ls hF hW rfl ((y_extract (v := Value.int .i64 0) hF rfl rfl).q) (fun a w hF hW => ?_)
    refine ls hF hW rfl ((y_assign hF rfl).q) (fun a w hF hW => ?_)
    refine ls hF hW rfl ((y_assign hF rfl).q) (fun a w hF hW => ?_)
    refine ls_nil ?_
    refine c_then ?_
    refine c_seq ?_
    refine reg_list ?_
    refine ls hF hW rfl ((y_move hF rfl).q) (fun a w hF hW => ?_)
    refine ls hF hW rfl ((y_move hF rfl).q) (fun a w hF hW => ?_)
    obtain ⟨x4, h2, H⟩ := bindE H
    rcases x4 with x5 | x6
    ·
      have H := altL H
      refine l_callG (Ml := []) (Zl := []) (M := [(b1, [.int .i64 x2.1, .int .i64 x2.2.1, v3])]) (Z := [row v3 50 R50 x2.2.2]) (β := Nat × Value) (rv := fun x => .tuple #[.pointer (some ⟨x.1, 0, none⟩), .int .i64 0]) (MM := fun x => [(x.1, [.int .i64 x5.1, .int .i64 x5.2.1, x.2])]) (ZZ := fun x => [row x.2 50 R50 x5.2.2]) hF hW H7 rfl rfl (fun hL => clock_New_c _ w (v1) p0 p1 _ h2 ((rdc_ro h_v1) w hW).nx) (fun x a w hF hW => ?_)
      obtain ⟨b2, v4⟩ := x
      have hW : Stw ⟨Y, [], w0⟩ [(b2, [.int .i64 x5.1, .int .i64 x5.2.1, v4]), (b1, [.int .i64 x2.1, .int .i64 x2.2.1, v3])] [row v4 50 R50 x5.2.2, row v3 50 R50 x2.2.2] w := hW
      refine ls hF hW rfl ((y_move hF rfl).q) (fun a w hF hW => ?_)
      refine ls hF hW rfl ((y_extract (v := Value.pointer (some ⟨b2, 0, none⟩)) hF rfl rfl).q) (fun a w hF hW => ?_)
      refine ls hF hW rfl ((y_extract (v := Value.int .i64 0) hF rfl rfl).q) (fun a w hF hW => ?_)
      refine ls hF hW rfl ((y_assign hF rfl).q) (fun a w hF hW => ?_)
      refine ls hF hW rfl ((y_assign hF rfl).q) (fun a w hF hW => ?_)
      refine ls_nil ?_
      refine c_then ?_
      refine c_seq ?_
      refine c_seqJ (fun a w => Fr 141 [] [(0, v1), (2, v2), (3, .int .i64 p3), (4, .int .i64 p4), (10, .bool false), (11, .pointer (some ⟨b1, 0, none⟩)), (12, .int .i64 0), (13, .pointer (some ⟨b2, 0, none⟩)), (14, .int .i64 0), (51, .bool (decide (p3 < 0) || (decide (p4 < 0) || (decide (1073741824 < p3) || decide (1073741824 < p4)))))] a ∧ Stw ⟨Y, [], w0⟩ [(b2, [.int .i64 x5.1, .int .i64 x5.2.1, v4]), (b1, [.int .i64 x2.1, .int .i64 x2.2.1, v3])] [row v4 50 R50 x5.2.2, row v3 50 R50 x2.2.2] w) ?_ ?_
      ·
        refine reg_list ?_
        refine ls hF hW rfl ((y_move hF rfl).q) (fun a w hF hW => ?_)
        refine ls hF hW rfl ((y_neq hF rfl rfl).q) (fun a w hF hW => ?_)
        rw [show decide ((0 : Int) ≠ 0) = false from by decide] at hF
        refine ls hF hW rfl ((y_move hF rfl).q) (fun a w hF hW => ?_)
        refine ls_w hF hW (wanted_y hF rfl rfl rfl rfl) rfl (Nat.le_of_ble_eq_true rfl) ((y_move hF rfl).q) (fun a w hF hW => ?_)
        refine ls_w hF hW (wanted_y hF rfl rfl rfl rfl) rfl (Nat.le_of_ble_eq_true rfl) ((y_neq hF rfl rfl).q) (fun a w hF hW => ?_)
        rw [show decide ((0 : Int) ≠ 0) = false from by decide] at hF
        refine ls hF hW rfl ((y_pick_f hF rfl rfl rfl).q) (fun a w hF hW => ?_)
        refine ls hF hW rfl ((y_move hF rfl).q) (fun a w hF hW => ?_)
        refine ls_w hF hW (wanted_y hF rfl rfl rfl rfl) rfl (Nat.le_of_ble_eq_true rfl) ((y_move hF rfl).q) (fun a w hF hW => ?_)
        refine ls_w hF hW (wanted_y hF rfl rfl rfl rfl) rfl (Nat.le_of_ble_eq_true rfl) ((y_lss hF rfl rfl).q) (fun a w hF hW => ?_)
        refine ls hF hW rfl ((y_pick_f hF rfl rfl rfl).q) (fun a w hF hW => ?_)
        refine ls hF hW rfl ((y_move hF rfl).q) (fun a w hF hW => ?_)
        rcases Bool.eq_false_or_eq_true (decide (p3 < 0)) with hb0 | hb0
        ·
          rw [hb0] at hF
          refine ls_skip hF (wanted_n hF rfl rfl rfl rfl rfl) rfl rfl (fun a hF => ?_)
          refine ls_skip hF (wanted_n hF rfl rfl rfl rfl rfl) rfl rfl (fun a hF => ?_)
          refine ls hF hW rfl ((y_pick_t hF rfl rfl rfl).q) (fun a w hF hW => ?_)
          refine ls hF hW rfl ((y_move hF rfl).q) (fun a w hF hW => ?_)
          refine ls_skip hF (wanted_n hF rfl rfl rfl rfl rfl) rfl rfl (fun a hF => ?_)
          refine ls_skip hF (wanted_n hF rfl rfl rfl rfl rfl) rfl rfl (fun a hF => ?_)
          refine ls hF hW rfl ((y_pick_t hF rfl rfl rfl).q) (fun a w hF hW => ?_)
          refine ls hF hW rfl ((y_move hF rfl).q) (fun a w hF hW => ?_)
          refine ls_skip hF (wanted_n hF rfl rfl rfl rfl rfl) rfl rfl (fun a hF => ?_)
          refine ls_skip hF (wanted_n hF rfl rfl rfl rfl rfl) rfl rfl (fun a hF => ?_)
          refine ls hF hW rfl ((y_pick_t hF rfl rfl rfl).q) (fun a w hF hW => ?_)
          refine ls_nil ?_
          refine c_then ?_
          exact ⟨hF.re ⟨rfl, rfl, rfl, rfl, rfl, rfl, rfl, rfl, rfl, (by show some (Value.bool true) = some (Value.bool (decide (p3 < 0) || (decide (p4 < 0) || (decide (1073741824 < p3) || decide (1073741824 < p4))))); try rw [hb0]; all_goals simp only [Bool.not_true, Bool.not_false, Bool.true_and, Bool.false_and, Bool.true_or, Bool.false_or, Bool.and_true, Bool.or_false, cond_true, cond_false]), trivial⟩, hW⟩
        ·
          rw [hb0] at hF
          refine ls_w hF hW (wanted_y hF rfl rfl rfl rfl) rfl (Nat.le_of_ble_eq_true rfl) ((y_move hF rfl).q) (fun a w hF hW => ?_)
          refine ls_w hF hW (wanted_y hF rfl rfl rfl rfl) rfl (Nat.le_of_ble_eq_true rfl) ((y_lss hF rfl rfl).q) (fun a w hF hW => ?_)
          refine ls hF hW rfl ((y_pick_f hF rfl rfl rfl).q) (fun a w hF hW => ?_)
          refine ls hF hW rfl ((y_move hF rfl).q) (fun a w hF hW => ?_)
          rcases Bool.eq_false_or_eq_true (decide (p4 < 0)) with hb1 | hb1
          ·
            rw [hb1] at hF
            refine ls_skip hF (wanted_n hF rfl rfl rfl rfl rfl) rfl rfl (fun a hF => ?_)
            refine ls_skip hF (wanted_n hF rfl rfl rfl rfl rfl) rfl rfl (fun a hF => ?_)
            refine ls hF hW rfl ((y_pick_t hF rfl rfl rfl).q) (fun a w hF hW => ?_)
            refine ls hF hW rfl ((y_move hF rfl).q) (fun a w hF hW => ?_)
            refine ls_skip hF (wanted_n hF rfl rfl rfl rfl rfl) rfl rfl (fun a hF => ?_)
            refine ls_skip hF (wanted_n hF rfl rfl rfl rfl rfl) rfl rfl (fun a hF => ?_)
            refine ls hF hW rfl ((y_pick_t hF rfl rfl rfl).q) (fun a w hF hW => ?_)
            refine ls_nil ?_
            refine c_then ?_
            exact ⟨hF.re ⟨rfl, rfl, rfl, rfl, rfl, rfl, rfl, rfl, rfl, (by show some (Value.bool true) = some (Value.bool (decide (p3 < 0) || (decide (p4 < 0) || (decide (1073741824 < p3) || decide (1073741824 < p4))))); try rw [hb0]; try rw [hb1]; all_goals simp only [Bool.not_true, Bool.not_false, Bool.true_and, Bool.false_and, Bool.true_or, Bool.false_or, Bool.and_true, Bool.or_false, cond_true, cond_false]), trivial⟩, hW⟩
          ·
            rw [hb1] at hF
            refine ls_w hF hW (wanted_y hF rfl rfl rfl rfl) rfl (Nat.le_of_ble_eq_true rfl) ((y_move hF rfl).q) (fun a w hF hW => ?_)
            refine ls_w hF hW (wanted_y hF rfl rfl rfl rfl) rfl (Nat.le_of_ble_eq_true rfl) ((y_gtr hF rfl rfl).q) (fun a w hF hW => ?_)
            refine ls hF hW rfl ((y_pick_f hF rfl rfl rfl).q) (fun a w hF hW => ?_)
            refine ls hF hW rfl ((y_move hF rfl).q) (fun a w hF hW => ?_)
            rcases Bool.eq_false_or_eq_true (decide (1073741824 < p3)) with hb2 | hb2
            ·
              rw [hb2] at hF
              refine ls_skip hF (wanted_n hF rfl rfl rfl rfl rfl) rfl rfl (fun a hF => ?_)
              refine ls_skip hF (wanted_n hF rfl rfl rfl rfl rfl) rfl rfl (fun a hF => ?_)
              refine ls hF hW rfl ((y_pick_t hF rfl rfl rfl).q) (fun a w hF hW => ?_)
              refine ls_nil ?_
              refine c_then ?_
              exact ⟨hF.re ⟨rfl, rfl, rfl, rfl, rfl, rfl, rfl, rfl, rfl, (by show some (Value.bool true) = some (Value.bool (decide (p3 < 0) || (decide (p4 < 0) || (decide (1073741824 < p3) || decide (1073741824 < p4))))); try rw [hb2]; try rw [hb0]; try rw [hb1]; all_goals simp only [Bool.not_true, Bool.not_false, Bool.true_and, Bool.false_and, Bool.true_or, Bool.false_or, Bool.and_true, Bool.or_false, cond_true, cond_false]), trivial⟩, hW⟩
            ·
              rw [hb2] at hF
              refine ls_w hF hW (wanted_y hF rfl rfl rfl rfl) rfl (Nat.le_of_ble_eq_true rfl) ((y_move hF rfl).q) (fun a w hF hW => ?_)
              refine ls_w hF hW (wanted_y hF rfl rfl rfl rfl) rfl (Nat.le_of_ble_eq_true rfl) ((y_gtr hF rfl rfl).q) (fun a w hF hW => ?_)
              refine ls hF hW rfl ((y_pick_f hF rfl rfl rfl).q) (fun a w hF hW => ?_)
              refine ls_nil ?_
              refine c_then ?_
              exact ⟨hF.re ⟨rfl, rfl, rfl, rfl, rfl, rfl, rfl, rfl, rfl, (by show some (Value.bool (decide (1073741824 < p4))) = some (Value.bool (decide (p3 < 0) || (decide (p4 < 0) || (decide (1073741824 < p3) || decide (1073741824 < p4))))); try rw [hb2]; try rw [hb0]; try rw [hb1]; all_goals simp only [Bool.not_true, Bool.not_false, Bool.true_and, Bool.false_and, Bool.true_or, Bool.false_or, Bool.and_true, Bool.or_false, cond_true, cond_false]), trivial⟩, hW⟩
      rintro a w ⟨hF, hW⟩
      refine c_cond hF rfl (fun hb => ?_) (fun hb => ?_)
      ·
        have H := iteT hb H
        rw [hb] at hF
        clear hb
        refine c_seq ?_
        refine reg_list ?_
        refine ls hF hW rfl ((y_move hF rfl).q) (fun a w hF hW => ?_)
        refine ls hF hW rfl ((y_move hF rfl).q) (fun a w hF hW => ?_)
        refine ls hF hW rfl ((y_eql hF rfl rfl).q) (fun a w hF hW => ?_)
        rw [show decide ((0 : Int) = 0) = true from by decide] at hF
        refine ls hF hW rfl ((y_move hF rfl).q) (fun a w hF hW => ?_)
        refine ls_g (wanted_y hF rfl rfl rfl rfl) ?_
        obtain ⟨x7, h3, H⟩ := bindE H
        refine ls hF hW rfl (y_call (v := Value.bool x7) hF H9 rfl (fun w hW => L14_awake_c any w _ h3)) (fun a w hF hW => ?_)
        refine ls hF hW rfl ((y_pick_t hF rfl rfl rfl).q) (fun a w hF hW => ?_)
        refine ls hF hW rfl ((y_assign hF rfl).q) (fun a w hF hW => ?_)
        refine ls_nil ?_
        refine c_then ?_
        refine wp_ret ?_
        refine r_then ?_
        have H := Option.some.inj H
        subst H
        refine post1 (.inl rfl) hF hW rfl (rv_tmp hF rfl) ?_
        exact ⟨rfl, hW.done⟩
      ·
        have H := iteF (by rw [hb]; decide) H
        rw [hb] at hF
        clear hb
        refine wp_skip ?_
        refine c_then ?_
        obtain ⟨o1, G1, K1, L1⟩ := orE H
        refine c_seqJ (fun a w => ∃ x8 : Int, ∃ x9 : Int, ∃ x10 : List (Int × Int × Int), ∃ x11 : Int, ∃ x12 : Int, ∃ x13 : List (Int × Int × Int), ∃ v5 : Value, ∃ v6 : Value, some (Sum.inl (x8, x9, x10, x11, x12, x13)) = some o1 ∧ Fr 141 [] [(0, v1), (3, .int .i64 p3), (4, .int .i64 p4), (10, .bool false), (11, .pointer (some ⟨b1, 0, none⟩)), (13, .pointer (some ⟨b2, 0, none⟩))] a ∧ Stw ⟨Y, [], w0⟩ [(b2, [.int .i64 x8, .int .i64 x9, v5]), (b1, [.int .i64 x11, .int .i64 x12, v6])] [row v5 50 R50 x10, row v6 50 R50 x13] w) ?_ ?_
        ·
          have H := G1
          clear G1 K1
          refine c_seq ?_
          refine reg_list ?_
          refine ls hF hW rfl ((y_assign hF rfl).q) (fun a w hF hW => ?_)
          refine ls_nil ?_
          refine c_then ?_
          refine wp_block ?_
          have hW := hW.frontZ (i := 1) rfl rfl
          have hW := hW.frontZ (i := 1) rfl rfl
          have hW := hW.frontM (i := 1) rfl rfl
          have hW := hW.frontM (i := 1) rfl rfl
          refine c_loopW H (fun s a w => ∃ v7 : Value, ∃ v8 : Value, Fr 141 [] [(0, v1), (2, v2), (3, .int .i64 p3), (4, .int .i64 p4), (10, .bool false), (11, .pointer (some ⟨b1, 0, none⟩)), (13, .pointer (some ⟨b2, 0, none⟩)), (15, .int .i64 s.1)] a ∧ Stw ⟨Y, [], w0⟩ [(b2, [.int .i64 s.2.1, .int .i64 s.2.2.1, v7]), (b1, [.int .i64 s.2.2.2.2.1, .int .i64 s.2.2.2.2.2.1, v8])] [row v7 50 R50 s.2.2.2.1, row v8 50 R50 s.2.2.2.2.2.2] w) ⟨(v4), (v3), hF.re ⟨rfl, rfl, rfl, rfl, rfl, rfl, rfl, rfl, trivial⟩, hW⟩ (fun s o a w H L2 hR => ?_)
          obtain ⟨x14, x15, x16, x17, x18, x19, x20⟩ := s
          obtain ⟨v7, v8, hF, hW⟩ := hR
          have hF : Fr 141 [] [(0, v1), (2, v2), (3, .int .i64 p3), (4, .int .i64 p4), (10, .bool false), (11, .pointer (some ⟨b1, 0, none⟩)), (13, .pointer (some ⟨b2, 0, none⟩)), (15, .int .i64 x14)] a := hF
          have hW : Stw ⟨Y, [], w0⟩ [(b2, [.int .i64 x15, .int .i64 x16, v7]), (b1, [.int .i64 x18, .int .i64 x19, v8])] [row v7 50 R50 x17, row v8 50 R50 x20] w := hW
          rw [L14_ClockTicks_l1] at H
          refine c_seq ?_
          refine c_seqJ (fun a w => Fr 141 [] [(0, v1), (2, v2), (3, .int .i64 p3), (4, .int .i64 p4), (10, .bool false), (11, .pointer (some ⟨b1, 0, none⟩)), (13, .pointer (some ⟨b2, 0, none⟩)), (15, .int .i64 x14), (67, .bool (decide (x14 < (p0.length : Int)) && decide (x14 < (p2.length : Int))))] a ∧ Stw ⟨Y, [], w0⟩ [(b2, [.int .i64 x15, .int .i64 x16, v7]), (b1, [.int .i64 x18, .int .i64 x19, v8])] [row v7 50 R50 x17, row v8 50 R50 x20] w) ?_ ?_
          ·
            refine reg_list ?_
            refine ls hF hW rfl ((y_move hF rfl).q) (fun a w hF hW => ?_)
            refine ls hF hW rfl ((y_move hF rfl).q) (fun a w hF hW => ?_)
            refine ls hF hW rfl ((y_len (r := (Rp.int .i64)) (l := p0) Try.underlying22 rfl hF rfl (rdc_ro h_v1)).q) (fun a w hF hW => ?_)
            refine ls hF hW rfl ((y_lss hF rfl rfl).q) (fun a w hF hW => ?_)
            refine ls hF hW rfl ((y_move hF rfl).q) (fun a w hF hW => ?_)
            rcases Bool.eq_false_or_eq_true (decide (x14 < (p0.length : Int))) with hb0 | hb0
            ·
              rw [hb0] at hF
              refine ls_w hF hW (wanted_y hF rfl rfl rfl rfl) rfl (Nat.le_of_ble_eq_true rfl) ((y_move hF rfl).q) (fun a w hF hW => ?_)
              refine ls_w hF hW (wanted_y hF rfl rfl rfl rfl) rfl (Nat.le_of_ble_eq_true rfl) ((y_move hF rfl).q) (fun a w hF hW => ?_)
              refine ls_w hF hW (wanted_y hF rfl rfl rfl rfl) rfl (Nat.le_of_ble_eq_true rfl) ((y_len (r := (Rp.int .i64)) (l := p2) Try.underlying22 rfl hF rfl (rdc_ro h_v2)).q) (fun a w hF hW => ?_)
              refine ls_w hF hW (wanted_y hF rfl rfl rfl rfl) rfl (Nat.le_of_ble_eq_true rfl) ((y_lss hF rfl rfl).q) (fun a w hF hW => ?_)
              refine ls hF hW rfl ((y_pick_t hF rfl rfl rfl).q) (fun a w hF hW => ?_)
              refine ls_nil ?_
              refine c_then ?_
              exact ⟨hF.re ⟨rfl, rfl, rfl, rfl, rfl, rfl, rfl, rfl, (by show some (Value.bool (decide (x14 < (p2.length : Int)))) = some (Value.bool (decide (x14 < (p0.length : Int)) && decide (x14 < (p2.length : Int)))); try rw [hb0]; all_goals simp only [Bool.not_true, Bool.not_false, Bool.true_and, Bool.false_and, Bool.true_or, Bool.false_or, Bool.and_true, Bool.or_false, cond_true, cond_false]), trivial⟩, hW⟩
            ·
              rw [hb0] at hF
              refine ls_skip hF (wanted_n hF rfl rfl rfl rfl rfl) rfl rfl (fun a hF => ?_)
              refine ls_skip hF (wanted_n hF rfl rfl rfl rfl rfl) rfl rfl (fun a hF => ?_)
              refine ls_skip hF (wanted_n hF rfl rfl rfl rfl rfl) rfl rfl (fun a hF => ?_)
              refine ls_skip hF (wanted_n hF rfl rfl rfl rfl rfl) rfl rfl (fun a hF => ?_)
              refine ls hF hW rfl ((y_pick_f hF rfl rfl rfl).q) (fun a w hF hW => ?_)
              refine ls_nil ?_
              refine c_then ?_
              exact ⟨hF.re ⟨rfl, rfl, rfl, rfl, rfl, rfl, rfl, rfl, (by show some (Value.bool false) = some (Value.bool (decide (x14 < (p0.length : Int)) && decide (x14 < (p2.length : Int)))); try rw [hb0]; all_goals simp only [Bool.not_true, Bool.not_false, Bool.true_and, Bool.false_and, Bool.true_or, Bool.false_or, Bool.and_true, Bool.or_false, cond_true, cond_false]), trivial⟩, hW⟩
          rintro a w ⟨hF, hW⟩
          refine c_cond hF rfl (fun hb => ?_) (fun hb => ?_)
          ·
            have H := iteT hb H
            rw [hb] at hF
            clear hb
            refine wp_skip ?_
            refine c_then ?_
            refine c_seq ?_
            refine wp_block ?_
            refine c_seq ?_
            refine reg_plan [(true, 0), (true, 1), (true, 2), (true, 3), (true, 4), (true, 5), (true, 7), (true, 8), (true, 9), (true, 10), (true, 11), (true, 12), (false, 6), (false, 13), (true, 14)] (CN ⟨Y, [], w0⟩ [] []) (fun ch a d v w h => by cases d <;> exact h) MO (by kernel_rfl) hW (fun w hW => ⟨_, _, hW, (fun p h => nomatch h), (fun z h => nomatch h)⟩) (fun w hW => ?_)
            refine pl_t hF rfl rfl (yC fun M Z hN hZ => y_move hF rfl) (fun a hF => ?_)
            refine pl_t hF rfl rfl (yC fun M Z hN hZ => y_move hF rfl) (fun a hF => ?_)
            refine pl_t hF rfl rfl (yC fun M Z hN hZ => y_move hF rfl) (fun a hF => ?_)
            refine pl_t hF rfl rfl (yC fun M Z hN hZ => y_move hF rfl) (fun a hF => ?_)
            obtain ⟨x21, h4, H⟩ := bindE H
            refine pl_t hF rfl rfl (yC fun M Z hN hZ => y_index (r := (Rp.int .i64)) L22 hF rfl rfl (rdc_ro h_v2) h4) (fun a hF => ?_)
            refine pl_t hF rfl rfl (yC fun M Z hN hZ => y_load_el (y := Value.int .i64 x21) (j := 0) (i := x14) hF rfl rfl (rdc_ro h_v2) h4 Fl.int.to T3 rfl) (fun a hF => ?_)
            refine pl_t hF rfl rfl (yC fun M Z hN hZ => y_move hF rfl) (fun a hF => ?_)
            refine pl_t hF rfl rfl (yC fun M Z hN hZ => y_move hF rfl) (fun a hF => ?_)
            refine pl_t hF rfl rfl (yC fun M Z hN hZ => y_move hF rfl) (fun a hF => ?_)
            refine pl_t hF rfl rfl (yC fun M Z hN hZ => y_move hF rfl) (fun a hF => ?_)
            obtain ⟨x22, h5, H⟩ := bindE H
            refine pl_t hF rfl rfl (yC fun M Z hN hZ => y_index (r := (Rp.int .i64)) L22 hF rfl rfl (rdc_ro h_v2) h5) (fun a hF => ?_)
            refine pl_t hF rfl rfl (yC fun M Z hN hZ => y_load_el (y := Value.int .i64 x22) (j := 0) (i := x14) hF rfl rfl (rdc_ro h_v2) h5 Fl.int.to T3 rfl) (fun a hF => ?_)
            refine pl_f rfl ?_
            obtain ⟨x23, h6, H⟩ := bindE H
            have hW := hW.frontZ (i := 1) rfl rfl
            have hW := hW.frontM (i := 1) rfl rfl
            refine l_callG (Ml := [(b1, [.int .i64 x18, .int .i64 x19, v8])]) (Zl := [row v8 50 R50 x20]) (M := [(b2, [.int .i64 x15, .int .i64 x16, v7])]) (Z := [row v7 50 R50 x17]) (β := Value) (rv := fun x => .int .i64 x23.1) (MM := fun x => [(b1, [.int .i64 x23.2.1, .int .i64 x23.2.2.1, x])]) (ZZ := fun x => [row x 50 R50 x23.2.2.2]) hF hW H12 rfl rfl (fun hL => clock_Clocks_Rate_c _ _ w b1 (v8) (x18, x19, x20) x14 x21 _ h6 hL) (fun x a w hF hW => ?_)
            obtain ⟨v9, rfl⟩ : ∃ y, y = x := ⟨x, rfl⟩
            have hW : Stw ⟨Y, [], w0⟩ [(b1, [.int .i64 x23.2.1, .int .i64 x23.2.2.1, v9]), (b2, [.int .i64 x15, .int .i64 x16, v7])] [row v9 50 R50 x23.2.2.2, row v7 50 R50 x17] w := hW
            refine pl_next (N2 := []) (NZ2 := []) hW (fun p h => nomatch h) (fun z h => nomatch h) ?_
            refine pl_f rfl ?_
            obtain ⟨x24, h7, H⟩ := bindE H
            have hW := hW.frontZ (i := 1) rfl rfl
            have hW := hW.frontM (i := 1) rfl rfl
            refine l_callG (Ml := [(b2, [.int .i64 x15, .int .i64 x16, v7])]) (Zl := [row v7 50 R50 x17]) (M := [(b1, [.int .i64 x23.2.1, .int .i64 x23.2.2.1, v9])]) (Z := [row v9 50 R50 x23.2.2.2]) (β := Value) (rv := fun x => .int .i64 x24.1) (MM := fun x => [(b2, [.int .i64 x24.2.1, .int .i64 x24.2.2.1, x])]) (ZZ := fun x => [row x 50 R50 x24.2.2.2]) hF hW H12 rfl rfl (fun hL => clock_Clocks_Rate_c _ _ w b2 (v7) (x15, x16, x17) x14 x22 _ h7 hL) (fun x a w hF hW => ?_)
            obtain ⟨v10, rfl⟩ : ∃ y, y = x := ⟨x, rfl⟩
            have hW : Stw ⟨Y, [], w0⟩ [(b2, [.int .i64 x24.2.1, .int .i64 x24.2.2.1, v10]), (b1, [.int .i64 x23.2.1, .int .i64 x23.2.2.1, v9])] [row v10 50 R50 x24.2.2.2, row v9 50 R50 x23.2.2.2] w := hW
            refine pl_next (N2 := []) (NZ2 := []) hW (fun p h => nomatch h) (fun z h => nomatch h) ?_
            refine pl_t hF rfl rfl (yC fun M Z hN hZ => y_neq hF rfl rfl) (fun a hF => ?_)
            refine pl_end ?_
            refine c_then ?_
            refine c_cond hF rfl (fun hb => ?_) (fun hb => ?_)
            ·
              have H := iteT (of_decide_eq_true hb) H
              rw [hb] at hF
              clear hb
              refine c_seq ?_
              refine reg_list ?_
              refine ls hF hW rfl ((y_assign hF rfl).q) (fun a w hF hW => ?_)
              refine ls_nil ?_
              refine c_then ?_
              refine wp_ret ?_
              refine r_block ?_
              refine r_then ?_
              refine r_then ?_
              refine r_block ?_
              refine r_then ?_
              have H := L2 _ H
              have H := L1 _ H
              have H := Option.some.inj H
              subst H
              refine post1 (.inl rfl) hF hW rfl (rv_tmp hF rfl) ?_
              exact ⟨rfl, hW.done⟩
            ·
              have H := iteF (of_decide_eq_false hb) H
              rw [hb] at hF
              clear hb
              refine wp_skip ?_
              refine b_normal ?_
              refine c_then ?_
              refine reg_list ?_
              refine ls hF hW rfl ((y_move hF rfl).q) (fun a w hF hW => ?_)
              refine ls hF hW rfl ((y_add hF rfl rfl rfl).q) (fun a w hF hW => ?_)
              refine ls hF hW rfl ((y_assign hF rfl).q) (fun a w hF hW => ?_)
              refine ls_nil ?_
              refine c_then ?_
              have hW := hW.frontZ (i := 1) rfl rfl
              have hW := hW.frontZ (i := 1) rfl rfl
              have hW := hW.frontM (i := 1) rfl rfl
              have hW := hW.frontM (i := 1) rfl rfl
              exact ⟨_, H, (v10), (v9), hF.re ⟨rfl, rfl, rfl, rfl, rfl, rfl, rfl, rfl, trivial⟩, hW⟩
          ·
            have H := iteF (by rw [hb]; decide) H
            rw [hb] at hF
            clear hb
            refine wp_exit ?_
            refine e_then ?_
            refine e_then ?_
            refine e_block ?_
            refine c_then ?_
            have hW := hW.frontZ (i := 1) rfl rfl
            have hW := hW.frontZ (i := 1) rfl rfl
            have hW := hW.frontM (i := 1) rfl rfl
            have hW := hW.frontM (i := 1) rfl rfl
            have H := L2 _ H
            exact ⟨_, _, _, _, _, _, (v7), (v8), H, hF.re ⟨rfl, rfl, rfl, rfl, rfl, rfl, trivial⟩, hW⟩
        rintro a w ⟨x8, x9, x10, x11, x12, x13, v5, v6, hj, hF, hW⟩
        have H := K1 _ hj
        clear hj G1 K1 L1
        refine c_seq ?_
        refine reg_list ?_
        refine ls hF hW rfl ((y_move hF rfl).q) (fun a w hF hW => ?_)
        refine ls hF hW rfl ((y_move hF rfl).q) (fun a w hF hW => ?_)
        obtain ⟨x25, h8, H⟩ := bindE H
        have hW := hW.frontZ (i := 1) rfl rfl
        have hW := hW.frontM (i := 1) rfl rfl
        refine l_callG (Ml := [(b1, [.int .i64 x11, .int .i64 x12, v6])]) (Zl := [row v6 50 R50 x13]) (M := [(b2, [.int .i64 x8, .int .i64 x9, v5])]) (Z := [row v5 50 R50 x10]) (β := Value) (rv := fun x => .tuple #[]) (MM := fun x => [(b1, [.int .i64 x25.1, .int .i64 x25.2.1, x])]) (ZZ := fun x => [row x 50 R50 x25.2.2]) hF hW H10 rfl rfl (fun hL => clock_Clocks_Tick_c _ _ w b1 (v6) (x11, x12, x13) p3 _ h8 hL) (fun x a w hF hW => ?_)
        obtain ⟨v11, rfl⟩ : ∃ y, y = x := ⟨x, rfl⟩
        have hW : Stw ⟨Y, [], w0⟩ [(b1, [.int .i64 x25.1, .int .i64 x25.2.1, v11]), (b2, [.int .i64 x8, .int .i64 x9, v5])] [row v11 50 R50 x25.2.2, row v5 50 R50 x10] w := hW
        refine ls_nil ?_
        refine c_then ?_
        refine c_seq ?_
        refine reg_list ?_
        refine ls hF hW rfl ((y_move hF rfl).q) (fun a w hF hW => ?_)
        refine ls hF hW rfl ((y_move hF rfl).q) (fun a w hF hW => ?_)
        obtain ⟨x26, h9, H⟩ := bindE H
        refine l_callG (Ml := [(b1, [.int .i64 x25.1, .int .i64 x25.2.1, v11])]) (Zl := [row v11 50 R50 x25.2.2]) (M := [(b2, [.int .i64 x8, .int .i64 x9, v5])]) (Z := [row v5 50 R50 x10]) (β := Value) (rv := fun x => .tuple #[]) (MM := fun x => [(b1, [.int .i64 x26.1, .int .i64 x26.2.1, x])]) (ZZ := fun x => [row x 50 R50 x26.2.2]) hF hW H10 rfl rfl (fun hL => clock_Clocks_Tick_c _ _ w b1 (v11) x25 p4 _ h9 hL) (fun x a w hF hW => ?_)
        obtain ⟨v12, rfl⟩ : ∃ y, y = x := ⟨x, rfl⟩
        have hW : Stw ⟨Y, [], w0⟩ [(b1, [.int .i64 x26.1, .int .i64 x26.2.1, v12]), (b2, [.int .i64 x8, .int .i64 x9, v5])] [row v12 50 R50 x26.2.2, row v5 50 R50 x10] w := hW
        refine ls_nil ?_
        refine c_then ?_
        refine c_seq ?_
        refine reg_list ?_
        refine ls hF hW rfl ((y_move hF rfl).q) (fun a w hF hW => ?_)
        refine ls hF hW rfl ((y_move hF rfl).q) (fun a w hF hW => ?_)
        refine ls hF hW rfl ((y_move hF rfl).q) (fun a w hF hW => ?_)
        refine ls hF hW rfl ((y_add hF rfl rfl rfl).q) (fun a w hF hW => ?_)
        obtain ⟨x27, h10, H⟩ := bindE H
        have hW := hW.frontZ (i := 1) rfl rfl
        have hW := hW.frontM (i := 1) rfl rfl
        refine l_callG (Ml := [(b2, [.int .i64 x8, .int .i64 x9, v5])]) (Zl := [row v5 50 R50 x10]) (M := [(b1, [.int .i64 x26.1, .int .i64 x26.2.1, v12])]) (Z := [row v12 50 R50 x26.2.2]) (β := Value) (rv := fun x => .tuple #[]) (MM := fun x => [(b2, [.int .i64 x27.1, .int .i64 x27.2.1, x])]) (ZZ := fun x => [row x 50 R50 x27.2.2]) hF hW H10 rfl rfl (fun hL => clock_Clocks_Tick_c _ _ w b2 (v5) (x8, x9, x10) (w64 (p3 + p4)) _ h10 hL) (fun x a w hF hW => ?_)
        obtain ⟨v13, rfl⟩ : ∃ y, y = x := ⟨x, rfl⟩
        have hW : Stw ⟨Y, [], w0⟩ [(b2, [.int .i64 x27.1, .int .i64 x27.2.1, v13]), (b1, [.int .i64 x26.1, .int .i64 x26.2.1, v12])] [row v13 50 R50 x27.2.2, row v12 50 R50 x26.2.2] w := hW
        refine ls_nil ?_
        refine c_then ?_
        obtain ⟨o3, G3, K3, L3⟩ := orE H
        refine c_seqJ (fun a w => ∃ x28 : Int, ∃ x29 : Int, ∃ x30 : List (Int × Int × Int), ∃ v14 : Value, some (Sum.inl (x28, x29, x30)) = some o3 ∧ Fr 141 [] [(0, v1), (3, .int .i64 p3), (10, .bool false), (11, .pointer (some ⟨b1, 0, none⟩)), (13, .pointer (some ⟨b2, 0, none⟩))] a ∧ Stw ⟨Y, [], w0⟩ [(b2, [.int .i64 x27.1, .int .i64 x27.2.1, v13]), (b1, [.int .i64 x28, .int .i64 x29, v14])] [row v13 50 R50 x27.2.2, row v14 50 R50 x30] w) ?_ ?_
        ·
          have H := G3
          clear G3 K3
          refine c_seq ?_
          refine reg_list ?_
          refine ls hF hW rfl ((y_assign hF rfl).q) (fun a w hF hW => ?_)
          refine ls_nil ?_
          refine c_then ?_
          refine wp_block ?_
          have hW := hW.frontZ (i := 1) rfl rfl
          have hW := hW.frontZ (i := 1) rfl rfl
          have hW := hW.frontM (i := 1) rfl rfl
          have hW := hW.frontM (i := 1) rfl rfl
          refine c_loopW H (fun s a w => ∃ v15 : Value, Fr 141 [] [(0, v1), (3, .int .i64 p3), (10, .bool false), (11, .pointer (some ⟨b1, 0, none⟩)), (13, .pointer (some ⟨b2, 0, none⟩)), (16, .int .i64 s.1)] a ∧ Stw ⟨Y, [], w0⟩ [(b2, [.int .i64 x27.1, .int .i64 x27.2.1, v13]), (b1, [.int .i64 s.2.1, .int .i64 s.2.2.1, v15])] [row v13 50 R50 x27.2.2, row v15 50 R50 s.2.2.2] w) ⟨(v12), hF.re ⟨rfl, rfl, rfl, rfl, rfl, rfl, trivial⟩, hW⟩ (fun s o a w H L4 hR => ?_)
          obtain ⟨x31, x32, x33, x34⟩ := s
          obtain ⟨v15, hF, hW⟩ := hR
          have hF : Fr 141 [] [(0, v1), (3, .int .i64 p3), (10, .bool false), (11, .pointer (some ⟨b1, 0, none⟩)), (13, .pointer (some ⟨b2, 0, none⟩)), (16, .int .i64 x31)] a := hF
          have hW : Stw ⟨Y, [], w0⟩ [(b2, [.int .i64 x27.1, .int .i64 x27.2.1, v13]), (b1, [.int .i64 x32, .int .i64 x33, v15])] [row v13 50 R50 x27.2.2, row v15 50 R50 x34] w := hW
          rw [L14_ClockTicks_l2] at H
          refine c_seq ?_
          refine c_seq ?_
          refine reg_list ?_
          refine ls hF hW rfl ((y_move hF rfl).q) (fun a w hF hW => ?_)
          refine ls hF hW rfl ((y_move hF rfl).q) (fun a w hF hW => ?_)
          refine ls hF hW rfl ((y_len (r := (Rp.int .i64)) (l := p0) Try.underlying22 rfl hF rfl (rdc_ro h_v1)).q) (fun a w hF hW => ?_)
          refine ls hF hW rfl ((y_lss hF rfl rfl).q) (fun a w hF hW => ?_)
          refine ls_nil ?_
          refine c_then ?_
          refine c_cond hF rfl (fun hb => ?_) (fun hb => ?_)
          ·
            have H := iteT (of_decide_eq_true hb) H
            rw [hb] at hF
            clear hb
            refine wp_skip ?_
            refine c_then ?_
            refine c_seq ?_
            refine wp_block ?_
            obtain ⟨o5, G5, K5⟩ := bindE H
            refine c_seqJ (fun a w => ∃ x35 : Bool, ∃ x36 : Int, ∃ x37 : Int, ∃ x38 : List (Int × Int × Int), ∃ v16 : Value, some ((x35, x36, x37, x38)) = some o5 ∧ Fr 141 [] [(0, v1), (3, .int .i64 p3), (10, .bool false), (11, .pointer (some ⟨b1, 0, none⟩)), (13, .pointer (some ⟨b2, 0, none⟩)), (16, .int .i64 x31), (114, .bool x35)] a ∧ Stw ⟨Y, [], w0⟩ [(b2, [.int .i64 x27.1, .int .i64 x27.2.1, v13]), (b1, [.int .i64 x36, .int .i64 x37, v16])] [row v13 50 R50 x27.2.2, row v16 50 R50 x38] w) ?_ ?_
            ·
              have H := G5
              clear G5 K5
              refine reg_list ?_
              refine ls hF hW rfl ((y_move hF rfl).q) (fun a w hF hW => ?_)
              refine ls hF hW rfl ((y_move hF rfl).q) (fun a w hF hW => ?_)
              obtain ⟨x39, h11, H⟩ := bindE H
              refine ls hF hW rfl (y_call (v := Value.int .i64 x39) hF H14 rfl (fun w hW => clock_Clocks_Read_c any w b1 (v15) (x32, x33, x34) x31 _ h11 (((rdc_row 1 rfl) : Rdc _ _ _ _ _ _) w hW).nx (at_M hW 1 rfl))) (fun a w hF hW => ?_)
              refine ls hF hW rfl ((y_move hF rfl).q) (fun a w hF hW => ?_)
              refine ls hF hW rfl ((y_move hF rfl).q) (fun a w hF hW => ?_)
              obtain ⟨x40, h12, H⟩ := bindE H
              refine ls hF hW rfl (y_call (v := Value.int .i64 x40) hF H14 rfl (fun w hW => clock_Clocks_Read_c any w b2 (v13) x27 x31 _ h12 (((rdc_row 0 rfl) : Rdc _ _ _ _ _ _) w hW).nx (at_M hW 0 rfl))) (fun a w hF hW => ?_)
              refine ls hF hW rfl ((y_neq hF rfl rfl).q) (fun a w hF hW => ?_)
              refine ls hF hW rfl ((y_move hF rfl).q) (fun a w hF hW => ?_)
              rcases Bool.eq_false_or_eq_true (decide (x39 ≠ x40)) with hb | hb
              ·
                have H := iteT (of_decide_eq_true hb) H
                rw [hb] at hF
                clear hb
                refine ls_skip hF (wanted_n hF rfl rfl rfl rfl rfl) rfl rfl (fun a hF => ?_)
                refine ls_skip hF (wanted_n hF rfl rfl rfl rfl rfl) rfl rfl (fun a hF => ?_)
                refine ls_skip hF (wanted_n hF rfl rfl rfl rfl rfl) rfl rfl (fun a hF => ?_)
                refine ls_skip hF (wanted_n hF rfl rfl rfl rfl rfl) rfl rfl (fun a hF => ?_)
                refine ls hF hW rfl ((y_pick_t hF rfl rfl rfl).q) (fun a w hF hW => ?_)
                refine ls_nil ?_
                refine c_then ?_
                have hW := hW.frontZ (i := 1) rfl rfl
                have hW := hW.frontZ (i := 1) rfl rfl
                have hW := hW.frontM (i := 1) rfl rfl
                have hW := hW.frontM (i := 1) rfl rfl
                exact ⟨_, _, _, _, (v15), H, hF.re ⟨rfl, rfl, rfl, rfl, rfl, rfl, rfl, trivial⟩, hW⟩
              ·
                have H := iteF (of_decide_eq_false hb) H
                rw [hb] at hF
                clear hb
                refine ls_w hF hW (wanted_y hF rfl rfl rfl rfl) rfl (Nat.le_of_ble_eq_true rfl) ((y_move hF rfl).q) (fun a w hF hW => ?_)
                refine ls_w hF hW (wanted_y hF rfl rfl rfl rfl) rfl (Nat.le_of_ble_eq_true rfl) ((y_move hF rfl).q) (fun a w hF hW => ?_)
                refine ls_g (wanted_y hF rfl rfl rfl rfl) ?_
                obtain ⟨x41, h13, H⟩ := bindE H
                have hW := hW.frontZ (i := 1) rfl rfl
                have hW := hW.frontM (i := 1) rfl rfl
                refine l_callG (Ml := [(b1, [.int .i64 x32, .int .i64 x33, v15])]) (Zl := [row v15 50 R50 x34]) (M := [(b2, [.int .i64 x27.1, .int .i64 x27.2.1, v13])]) (Z := [row v13 50 R50 x27.2.2]) (β := Value) (rv := fun x => .int .i64 x41.1) (MM := fun x => [(b1, [.int .i64 x41.2.1, .int .i64 x41.2.2.1, x])]) (ZZ := fun x => [row x 50 R50 x41.2.2.2]) hF hW H12 rfl rfl (fun hL => clock_Clocks_Rate_c _ _ w b1 (v15) (x32, x33, x34) x31 0 _ h13 hL) (fun x a w hF hW => ?_)
                obtain ⟨v17, rfl⟩ : ∃ y, y = x := ⟨x, rfl⟩
                have hW : Stw ⟨Y, [], w0⟩ [(b1, [.int .i64 x41.2.1, .int .i64 x41.2.2.1, v17]), (b2, [.int .i64 x27.1, .int .i64 x27.2.1, v13])] [row v17 50 R50 x41.2.2.2, row v13 50 R50 x27.2.2] w := hW
                refine ls_w hF hW (wanted_y hF rfl rfl rfl rfl) rfl (Nat.le_of_ble_eq_true rfl) ((y_neq hF rfl rfl).q) (fun a w hF hW => ?_)
                refine ls hF hW rfl ((y_pick_f hF rfl rfl rfl).q) (fun a w hF hW => ?_)
                refine ls_nil ?_
                refine c_then ?_
                have hW := hW.frontZ (i := 1) rfl rfl
                have hW := hW.frontM (i := 1) rfl rfl
                exact ⟨_, _, _, _, (v17), H, hF.re ⟨rfl, rfl, rfl, rfl, rfl, rfl, rfl, trivial⟩, hW⟩
            rintro a w ⟨x35, x36, x37, x38, v16, hj, hF, hW⟩
            have hj := Option.some.inj hj
            subst hj
            have H := K5
            clear G5 K5
            refine c_cond hF rfl (fun hb => ?_) (fun hb => ?_)
            ·
              have H := iteT hb H
              rw [hb] at hF
              clear hb
              refine c_seq ?_
              refine reg_list ?_
              refine ls hF hW rfl ((y_assign hF rfl).q) (fun a w hF hW => ?_)
              refine ls_nil ?_
              refine c_then ?_
              refine wp_ret ?_
              refine r_block ?_
              refine r_then ?_
              refine r_then ?_
              refine r_block ?_
              refine r_then ?_
              have H := L4 _ H
              have H := L3 _ H
              have H := Option.some.inj H
              subst H
              refine post1 (.inl rfl) hF hW rfl (rv_tmp hF rfl) ?_
              exact ⟨rfl, hW.done⟩
            ·
              have H := iteF (by rw [hb]; decide) H
              rw [hb] at hF
              clear hb
              refine wp_skip ?_
              refine b_normal ?_
              refine c_then ?_
              refine reg_list ?_
              refine ls hF hW rfl ((y_move hF rfl).q) (fun a w hF hW => ?_)
              refine ls hF hW rfl ((y_add hF rfl rfl rfl).q) (fun a w hF hW => ?_)
              refine ls hF hW rfl ((y_assign hF rfl).q) (fun a w hF hW => ?_)
              refine ls_nil ?_
              refine c_then ?_
              have hW := hW.frontZ (i := 1) rfl rfl
              have hW := hW.frontZ (i := 1) rfl rfl
              have hW := hW.frontM (i := 1) rfl rfl
              have hW := hW.frontM (i := 1) rfl rfl
              exact ⟨_, H, (v16), hF.re ⟨rfl, rfl, rfl, rfl, rfl, rfl, trivial⟩, hW⟩
          ·
            have H := iteF (of_decide_eq_false hb) H
            rw [hb] at hF
            clear hb
            refine wp_exit ?_
            refine e_then ?_
            refine e_then ?_
            refine e_block ?_
            refine c_then ?_
            have hW := hW.frontZ (i := 1) rfl rfl
            have hW := hW.frontZ (i := 1) rfl rfl
            have hW := hW.frontM (i := 1) rfl rfl
            have hW := hW.frontM (i := 1) rfl rfl
            have H := L4 _ H
            exact ⟨_, _, _, (v15), H, hF.re ⟨rfl, rfl, rfl, rfl, rfl, trivial⟩, hW⟩
        rintro a w ⟨x28, x29, x30, v14, hj, hF, hW⟩
        have H := K3 _ hj
        clear hj G3 K3 L3
        refine c_seq ?_
        refine reg_list ?_
        refine ls hF hW rfl ((y_move hF rfl).q) (fun a w hF hW => ?_)
        refine ls hF hW rfl ((y_move hF rfl).q) (fun a w hF hW => ?_)
        obtain ⟨x42, h14, H⟩ := bindE H
        have hW := hW.frontZ (i := 1) rfl rfl
        have hW := hW.frontM (i := 1) rfl rfl
        refine l_callG (Ml := [(b1, [.int .i64 x28, .int .i64 x29, v14])]) (Zl := [row v14 50 R50 x30]) (M := [(b2, [.int .i64 x27.1, .int .i64 x27.2.1, v13])]) (Z := [row v13 50 R50 x27.2.2]) (β := Value) (rv := fun x => .tuple #[]) (MM := fun x => [(b1, [.int .i64 x42.1, .int .i64 x42.2.1, x])]) (ZZ := fun x => [row x 50 R50 x42.2.2]) hF hW H10 rfl rfl (fun hL => clock_Clocks_Tick_c _ _ w b1 (v14) (x28, x29, x30) p3 _ h14 hL) (fun x a w hF hW => ?_)
        obtain ⟨v18, rfl⟩ : ∃ y, y = x := ⟨x, rfl⟩
        have hW : Stw ⟨Y, [], w0⟩ [(b1, [.int .i64 x42.1, .int .i64 x42.2.1, v18]), (b2, [.int .i64 x27.1, .int .i64 x27.2.1, v13])] [row v18 50 R50 x42.2.2, row v13 50 R50 x27.2.2] w := hW
        refine ls_nil ?_
        refine c_then ?_
        obtain ⟨o6, G6, K6, L6⟩ := orE H
        refine c_seqJ (fun a w => some (Sum.inl ()) = some o6 ∧ Fr 141 [] [(3, .int .i64 p3), (10, .bool false), (11, .pointer (some ⟨b1, 0, none⟩)), (13, .pointer (some ⟨b2, 0, none⟩))] a ∧ Stw ⟨Y, [], w0⟩ [(b1, [.int .i64 x42.1, .int .i64 x42.2.1, v18]), (b2, [.int .i64 x27.1, .int .i64 x27.2.1, v13])] [row v18 50 R50 x42.2.2, row v13 50 R50 x27.2.2] w) ?_ ?_
        ·
          have H := G6
          clear G6 K6
          refine c_seq ?_
          refine reg_list ?_
          refine ls hF hW rfl ((y_assign hF rfl).q) (fun a w hF hW => ?_)
          refine ls_nil ?_
          refine c_then ?_
          refine wp_block ?_
          have hW := hW.frontZ (i := 1) rfl rfl
          have hW := hW.frontZ (i := 1) rfl rfl
          have hW := hW.frontM (i := 1) rfl rfl
          have hW := hW.frontM (i := 1) rfl rfl
          refine c_loopW H (fun s a w => Fr 141 [] [(0, v1), (3, .int .i64 p3), (10, .bool false), (11, .pointer (some ⟨b1, 0, none⟩)), (13, .pointer (some ⟨b2, 0, none⟩)), (17, .int .i64 s)] a ∧ Stw ⟨Y, [], w0⟩ [(b1, [.int .i64 x42.1, .int .i64 x42.2.1, v18]), (b2, [.int .i64 x27.1, .int .i64 x27.2.1, v13])] [row v18 50 R50 x42.2.2, row v13 50 R50 x27.2.2] w) ⟨hF.re ⟨rfl, rfl, rfl, rfl, rfl, rfl, trivial⟩, hW⟩ (fun s o a w H L7 hR => ?_)
          obtain ⟨x43, rfl⟩ : ∃ x, x = s := ⟨s, rfl⟩
          obtain ⟨hF, hW⟩ := hR
          have hF : Fr 141 [] [(0, v1), (3, .int .i64 p3), (10, .bool false), (11, .pointer (some ⟨b1, 0, none⟩)), (13, .pointer (some ⟨b2, 0, none⟩)), (17, .int .i64 x43)] a := hF
          have hW : Stw ⟨Y, [], w0⟩ [(b1, [.int .i64 x42.1, .int .i64 x42.2.1, v18]), (b2, [.int .i64 x27.1, .int .i64 x27.2.1, v13])] [row v18 50 R50 x42.2.2, row v13 50 R50 x27.2.2] w := hW
          rw [L14_ClockTicks_l3] at H
          refine c_seq ?_
          refine c_seq ?_
          refine reg_list ?_
          refine ls hF hW rfl ((y_move hF rfl).q) (fun a w hF hW => ?_)
          refine ls hF hW rfl ((y_move hF rfl).q) (fun a w hF hW => ?_)
          refine ls hF hW rfl ((y_len (r := (Rp.int .i64)) (l := p0) Try.underlying22 rfl hF rfl (rdc_ro h_v1)).q) (fun a w hF hW => ?_)
          refine ls hF hW rfl ((y_lss hF rfl rfl).q) (fun a w hF hW => ?_)
          refine ls_nil ?_
          refine c_then ?_
          refine c_cond hF rfl (fun hb => ?_) (fun hb => ?_)
          ·
            have H := iteT (of_decide_eq_true hb) H
            rw [hb] at hF
            clear hb
            refine wp_skip ?_
            refine c_then ?_
            refine c_seq ?_
            refine wp_block ?_
            refine c_seq ?_
            refine reg_list ?_
            refine ls hF hW rfl ((y_move hF rfl).q) (fun a w hF hW => ?_)
            refine ls hF hW rfl ((y_move hF rfl).q) (fun a w hF hW => ?_)
            obtain ⟨x44, h15, H⟩ := bindE H
            refine ls hF hW rfl (y_call (v := Value.int .i64 x44) hF H18 rfl (fun w hW => clock_Clocks_Apart_c any w b1 (v18) x42 x43 _ h15 (((rdc_row 0 rfl) : Rdc _ _ _ _ _ _) w hW).nx (at_M hW 0 rfl))) (fun a w hF hW => ?_)
            refine ls hF hW rfl ((y_move hF rfl).q) (fun a w hF hW => ?_)
            refine ls hF hW rfl ((y_move hF rfl).q) (fun a w hF hW => ?_)
            obtain ⟨x45, h16, H⟩ := bindE H
            refine ls hF hW rfl (y_call (v := Value.int .i64 x45) hF H18 rfl (fun w hW => clock_Clocks_Apart_c any w b2 (v13) x27 x43 _ h16 (((rdc_row 1 rfl) : Rdc _ _ _ _ _ _) w hW).nx (at_M hW 1 rfl))) (fun a w hF hW => ?_)
            refine ls hF hW rfl ((y_neq hF rfl rfl).q) (fun a w hF hW => ?_)
            refine ls_nil ?_
            refine c_then ?_
            refine c_cond hF rfl (fun hb => ?_) (fun hb => ?_)
            ·
              have H := iteT (of_decide_eq_true hb) H
              rw [hb] at hF
              clear hb
              refine c_seq ?_
              refine reg_list ?_
              refine ls hF hW rfl ((y_assign hF rfl).q) (fun a w hF hW => ?_)
              refine ls_nil ?_
              refine c_then ?_
              refine wp_ret ?_
              refine r_block ?_
              refine r_then ?_
              refine r_then ?_
              refine r_block ?_
              refine r_then ?_
              have H := L7 _ H
              have H := L6 _ H
              have H := Option.some.inj H
              subst H
              refine post1 (.inl rfl) hF hW rfl (rv_tmp hF rfl) ?_
              exact ⟨rfl, hW.done⟩
            ·
              have H := iteF (of_decide_eq_false hb) H
              rw [hb] at hF
              clear hb
              refine wp_skip ?_
              refine b_normal ?_
              refine c_then ?_
              refine reg_list ?_
              refine ls hF hW rfl ((y_move hF rfl).q) (fun a w hF hW => ?_)
              refine ls hF hW rfl ((y_add hF rfl rfl rfl).q) (fun a w hF hW => ?_)
              refine ls hF hW rfl ((y_assign hF rfl).q) (fun a w hF hW => ?_)
              refine ls_nil ?_
              refine c_then ?_
              have hW := hW.frontZ (i := 1) rfl rfl
              have hW := hW.frontZ (i := 1) rfl rfl
              have hW := hW.frontM (i := 1) rfl rfl
              have hW := hW.frontM (i := 1) rfl rfl
              exact ⟨_, H, hF.re ⟨rfl, rfl, rfl, rfl, rfl, rfl, trivial⟩, hW⟩
          ·
            have H := iteF (of_decide_eq_false hb) H
            rw [hb] at hF
            clear hb
            refine wp_exit ?_
            refine e_then ?_
            refine e_then ?_
            refine e_block ?_
            refine c_then ?_
            have hW := hW.frontZ (i := 1) rfl rfl
            have hW := hW.frontZ (i := 1) rfl rfl
            have hW := hW.frontM (i := 1) rfl rfl
            have hW := hW.frontM (i := 1) rfl rfl
            have H := L7 _ H
            exact ⟨H, hF.re ⟨rfl, rfl, rfl, rfl, trivial⟩, hW⟩
        rintro a w ⟨hj, hF, hW⟩
        have H := K6 _ hj
        clear hj G6 K6 L6
        obtain ⟨o8, G8, K8⟩ := bindE H
        refine c_seqJ (fun a w => ∃ x46 : Bool, some (x46) = some o8 ∧ Fr 141 [] [(10, .bool x46)] a ∧ Stw ⟨Y, [], w0⟩ [(b1, [.int .i64 x42.1, .int .i64 x42.2.1, v18]), (b2, [.int .i64 x27.1, .int .i64 x27.2.1, v13])] [row v18 50 R50 x42.2.2, row v13 50 R50 x27.2.2] w) ?_ ?_
        ·
          have H := G8
          clear G8 K8
          refine reg_list ?_
          refine ls hF hW rfl ((y_move hF rfl).q) (fun a w hF hW => ?_)
          refine ls hF hW rfl (y_call (v := Value.int .i64 (clock_Clocks_Real x42)) hF H16 rfl (fun w hW => clock_Clocks_Real_c any w b1 (v18) x42 _ rfl (((rdc_row 0 rfl) : Rdc _ _ _ _ _ _) w hW).nx (at_M hW 0 rfl))) (fun a w hF hW => ?_)
          refine ls hF hW rfl ((y_move hF rfl).q) (fun a w hF hW => ?_)
          refine ls hF hW rfl (y_call (v := Value.int .i64 (clock_Clocks_Real x27)) hF H16 rfl (fun w hW => clock_Clocks_Real_c any w b2 (v13) x27 _ rfl (((rdc_row 1 rfl) : Rdc _ _ _ _ _ _) w hW).nx (at_M hW 1 rfl))) (fun a w hF hW => ?_)
          refine ls hF hW rfl ((y_move hF rfl).q) (fun a w hF hW => ?_)
          refine ls hF hW rfl ((y_add hF rfl rfl rfl).q) (fun a w hF hW => ?_)
          refine ls hF hW rfl ((y_eql hF rfl rfl).q) (fun a w hF hW => ?_)
          refine ls hF hW rfl ((y_move hF rfl).q) (fun a w hF hW => ?_)
          rcases Bool.eq_false_or_eq_true (decide ((clock_Clocks_Real x42) = (w64 ((clock_Clocks_Real x27) + p3)))) with hb | hb
          ·
            have H := iteT (of_decide_eq_true hb) H
            rw [hb] at hF
            clear hb
            refine ls_g (wanted_y hF rfl rfl rfl rfl) ?_
            obtain ⟨x47, h17, H⟩ := bindE H
            refine ls hF hW rfl (y_call (v := Value.bool x47) hF H9 rfl (fun w hW => L14_awake_c any w _ h17)) (fun a w hF hW => ?_)
            refine ls hF hW rfl ((y_pick_t hF rfl rfl rfl).q) (fun a w hF hW => ?_)
            refine ls hF hW rfl ((y_assign hF rfl).q) (fun a w hF hW => ?_)
            refine ls_nil ?_
            refine c_then ?_
            have hW := hW.frontZ (i := 1) rfl rfl
            have hW := hW.frontZ (i := 1) rfl rfl
            have hW := hW.frontM (i := 1) rfl rfl
            have hW := hW.frontM (i := 1) rfl rfl
            exact ⟨_, H, hF.re ⟨rfl, trivial⟩, hW⟩
          ·
            have H := iteF (of_decide_eq_false hb) H
            rw [hb] at hF
            clear hb
            refine ls_skip hF (wanted_n hF rfl rfl rfl rfl rfl) rfl rfl (fun a hF => ?_)
            refine ls hF hW rfl ((y_pick_f hF rfl rfl rfl).q) (fun a w hF hW => ?_)
            refine ls hF hW rfl ((y_assign hF rfl).q) (fun a w hF hW => ?_)
            refine ls_nil ?_
            refine c_then ?_
            have hW := hW.frontZ (i := 1) rfl rfl
            have hW := hW.frontZ (i := 1) rfl rfl
            have hW := hW.frontM (i := 1) rfl rfl
            have hW := hW.frontM (i := 1) rfl rfl
            exact ⟨_, H, hF.re ⟨rfl, trivial⟩, hW⟩
        rintro a w ⟨x46, hj, hF, hW⟩
        have hj := Option.some.inj hj
        subst hj
        have H := K8
        clear G8 K8
        refine wp_ret ?_
        have H := Option.some.inj H
        subst H
        refine post1 (.inl rfl) hF hW rfl (rv_tmp hF rfl) ?_
        exact ⟨rfl, hW.done⟩
    ·
      have H := altR H
      refine l_callG (Ml := []) (Zl := []) (M := [(b1, [.int .i64 x2.1, .int .i64 x2.2.1, v3])]) (Z := [row v3 50 R50 x2.2.2]) (β := Unit) (rv := fun x => .tuple #[.pointer none, .int .i64 2]) (MM := fun x => []) (ZZ := fun x => []) hF hW H7 rfl rfl (fun hL => clock_New_c _ w (v1) p0 p1 _ h2 ((rdc_ro h_v1) w hW).nx) (fun x a w hF hW => ?_)
      have hW : Stw ⟨Y, [], w0⟩ [(b1, [.int .i64 x2.1, .int .i64 x2.2.1, v3])] [row v3 50 R50 x2.2.2] w := hW
      refine ls hF hW rfl ((y_move hF rfl).q) (fun a w hF hW => ?_)
      refine ls hF hW rfl ((y_extract (v := Value.pointer none) hF rfl rfl).q) (fun a w hF hW => ?_)
      refine ls hF hW rfl ((y_extract (v := Value.int .i64 2) hF rfl rfl).q) (fun a w hF hW => ?_)
      refine ls hF hW rfl ((y_assign hF rfl).q) (fun a w hF hW => ?_)
      refine ls hF hW rfl ((y_assign hF rfl).q) (fun a w hF hW => ?_)
      refine ls_nil ?_
      refine c_then ?_
      refine c_seq ?_
      refine c_seq ?_
      refine reg_list ?_
      refine ls hF hW rfl ((y_move hF rfl).q) (fun a w hF hW => ?_)
      refine ls hF hW rfl ((y_neq hF rfl rfl).q) (fun a w hF hW => ?_)
      rw [show decide ((0 : Int) ≠ 0) = false from by decide] at hF
      refine ls hF hW rfl ((y_move hF rfl).q) (fun a w hF hW => ?_)
      refine ls_w hF hW (wanted_y hF rfl rfl rfl rfl) rfl (Nat.le_of_ble_eq_true rfl) ((y_move hF rfl).q) (fun a w hF hW => ?_)
      refine ls_w hF hW (wanted_y hF rfl rfl rfl rfl) rfl (Nat.le_of_ble_eq_true rfl) ((y_neq hF rfl rfl).q) (fun a w hF hW => ?_)
      rw [show decide ((2 : Int) ≠ 0) = true from by decide] at hF
      refine ls hF hW rfl ((y_pick_f hF rfl rfl rfl).q) (fun a w hF hW => ?_)
      refine ls hF hW rfl ((y_move hF rfl).q) (fun a w hF hW => ?_)
      refine ls_skip hF (wanted_n hF rfl rfl rfl rfl rfl) rfl rfl (fun a hF => ?_)
      refine ls_skip hF (wanted_n hF rfl rfl rfl rfl rfl) rfl rfl (fun a hF => ?_)
      refine ls hF hW rfl ((y_pick_t hF rfl rfl rfl).q) (fun a w hF hW => ?_)
      refine ls hF hW rfl ((y_move hF rfl).q) (fun a w hF hW => ?_)
      refine ls_skip hF (wanted_n hF rfl rfl rfl rfl rfl) rfl rfl (fun a hF => ?_)
      refine ls_skip hF (wanted_n hF rfl rfl rfl rfl rfl) rfl rfl (fun a hF => ?_)
      refine ls hF hW rfl ((y_pick_t hF rfl rfl rfl).q) (fun a w hF hW => ?_)
      refine ls hF hW rfl ((y_move hF rfl).q) (fun a w hF hW => ?_)
      refine ls_skip hF (wanted_n hF rfl rfl rfl rfl rfl) rfl rfl (fun a hF => ?_)
      refine ls_skip hF (wanted_n hF rfl rfl rfl rfl rfl) rfl rfl (fun a hF => ?_)
      refine ls hF hW rfl ((y_pick_t hF rfl rfl rfl).q) (fun a w hF hW => ?_)
      refine ls hF hW rfl ((y_move hF rfl).q) (fun a w hF hW => ?_)
      refine ls_skip hF (wanted_n hF rfl rfl rfl rfl rfl) rfl rfl (fun a hF => ?_)
      refine ls_skip hF (wanted_n hF rfl rfl rfl rfl rfl) rfl rfl (fun a hF => ?_)
      refine ls hF hW rfl ((y_pick_t hF rfl rfl rfl).q) (fun a w hF hW => ?_)
      refine ls_nil ?_
      refine c_then ?_
      refine c_cond_t hF rfl ?_
      refine c_seq ?_
      refine reg_list ?_
      refine ls hF hW rfl ((y_move hF rfl).q) (fun a w hF hW => ?_)
      refine ls hF hW rfl ((y_move hF rfl).q) (fun a w hF hW => ?_)
      refine ls hF hW rfl ((y_eql hF rfl rfl).q) (fun a w hF hW => ?_)
      rw [show decide ((0 : Int) = 2) = false from by decide] at hF
      refine ls hF hW rfl ((y_move hF rfl).q) (fun a w hF hW => ?_)
      refine ls_skip hF (wanted_n hF rfl rfl rfl rfl rfl) rfl rfl (fun a hF => ?_)
      refine ls hF hW rfl ((y_pick_f hF rfl rfl rfl).q) (fun a w hF hW => ?_)
      refine ls hF hW rfl ((y_assign hF rfl).q) (fun a w hF hW => ?_)
      refine ls_nil ?_
      refine c_then ?_
      refine wp_ret ?_
      refine r_then ?_
      have H := Option.some.inj H
      subst H
      refine post1 (.inl rfl) hF hW rfl (rv_tmp hF rfl) ?_
      exact ⟨rfl, hW.done⟩
  ·
    have H := altR H
    refine l_callG (Ml := []) (Zl := []) (M := []) (Z := []) (β := Unit) (rv := fun x => .tuple #[.pointer none, .int .i64 2]) (MM := fun x => []) (ZZ := fun x => []) hF hW H7 rfl rfl (fun hL => clock_New_c _ w (v1) p0 p1 _ h1 ((rdc_ro h_v1) w hW).nx) (fun x a w hF hW => ?_)
    have hW : Stw ⟨Y, [], w0⟩ [] [] w := hW
    refine ls hF hW rfl ((y_move hF rfl).q) (fun a w hF hW => ?_)
    refine ls hF hW rfl ((y_extract (v := Value.pointer none) hF rfl rfl).q) (fun a w hF hW => ?_)
    refine ls hF hW rfl ((y_extract (v := Value.int .i64 2) hF rfl rfl).q) (fun a w hF hW => ?_)
    refine ls hF hW rfl ((y_assign hF rfl).q) (fun a w hF hW => ?_)
    refine ls hF hW rfl ((y_assign hF rfl).q) (fun a w hF hW => ?_)
    refine ls_nil ?_
    refine c_then ?_
    refine c_seq ?_
    refine reg_list ?_
    refine ls hF hW rfl ((y_move hF rfl).q) (fun a w hF hW => ?_)
    refine ls hF hW rfl ((y_move hF rfl).q) (fun a w hF hW => ?_)
    obtain ⟨x48, h18, H⟩ := bindE H
    rcases x48 with x49 | x50
    ·
      have H := altL H
      refine l_callG (Ml := []) (Zl := []) (M := []) (Z := []) (β := Nat × Value) (rv := fun x => .tuple #[.pointer (some ⟨x.1, 0, none⟩), .int .i64 0]) (MM := fun x => [(x.1, [.int .i64 x49.1, .int .i64 x49.2.1, x.2])]) (ZZ := fun x => [row x.2 50 R50 x49.2.2]) hF hW H7 rfl rfl (fun hL => clock_New_c _ w (v1) p0 p1 _ h18 ((rdc_ro h_v1) w hW).nx) (fun x a w hF hW => ?_)
      obtain ⟨b3, v19⟩ := x
      have hW : Stw ⟨Y, [], w0⟩ [(b3, [.int .i64 x49.1, .int .i64 x49.2.1, v19])] [row v19 50 R50 x49.2.2] w := hW
      refine ls hF hW rfl ((y_move hF rfl).q) (fun a w hF hW => ?_)
      refine ls hF hW rfl ((y_extract (v := Value.pointer (some ⟨b3, 0, none⟩)) hF rfl rfl).q) (fun a w hF hW => ?_)
      refine ls hF hW rfl ((y_extract (v := Value.int .i64 0) hF rfl rfl).q) (fun a w hF hW => ?_)
      refine ls hF hW rfl ((y_assign hF rfl).q) (fun a w hF hW => ?_)
      refine ls hF hW rfl ((y_assign hF rfl).q) (fun a w hF hW => ?_)
      refine ls_nil ?_
      refine c_then ?_
      refine c_seq ?_
      refine c_seq ?_
      refine reg_list ?_
      refine ls hF hW rfl ((y_move hF rfl).q) (fun a w hF hW => ?_)
      refine ls hF hW rfl ((y_neq hF rfl rfl).q) (fun a w hF hW => ?_)
      rw [show decide ((2 : Int) ≠ 0) = true from by decide] at hF
      refine ls hF hW rfl ((y_move hF rfl).q) (fun a w hF hW => ?_)
      refine ls_skip hF (wanted_n hF rfl rfl rfl rfl rfl) rfl rfl (fun a hF => ?_)
      refine ls_skip hF (wanted_n hF rfl rfl rfl rfl rfl) rfl rfl (fun a hF => ?_)
      refine ls hF hW rfl ((y_pick_t hF rfl rfl rfl).q) (fun a w hF hW => ?_)
      refine ls hF hW rfl ((y_move hF rfl).q) (fun a w hF hW => ?_)
      refine ls_skip hF (wanted_n hF rfl rfl rfl rfl rfl) rfl rfl (fun a hF => ?_)
      refine ls_skip hF (wanted_n hF rfl rfl rfl rfl rfl) rfl rfl (fun a hF => ?_)
      refine ls hF hW rfl ((y_pick_t hF rfl rfl rfl).q) (fun a w hF hW => ?_)
      refine ls hF hW rfl ((y_move hF rfl).q) (fun a w hF hW => ?_)
      refine ls_skip hF (wanted_n hF rfl rfl rfl rfl rfl) rfl rfl (fun a hF => ?_)
      refine ls_skip hF (wanted_n hF rfl rfl rfl rfl rfl) rfl rfl (fun a hF => ?_)
      refine ls hF hW rfl ((y_pick_t hF rfl rfl rfl).q) (fun a w hF hW => ?_)
      refine ls hF hW rfl ((y_move hF rfl).q) (fun a w hF hW => ?_)
      refine ls_skip hF (wanted_n hF rfl rfl rfl rfl rfl) rfl rfl (fun a hF => ?_)
      refine ls_skip hF (wanted_n hF rfl rfl rfl rfl rfl) rfl rfl (fun a hF => ?_)
      refine ls hF hW rfl ((y_pick_t hF rfl rfl rfl).q) (fun a w hF hW => ?_)
      refine ls hF hW rfl ((y_move hF rfl).q) (fun a w hF hW => ?_)
      refine ls_skip hF (wanted_n hF rfl rfl rfl rfl rfl) rfl rfl (fun a hF => ?_)
      refine ls_skip hF (wanted_n hF rfl rfl rfl rfl rfl) rfl rfl (fun a hF => ?_)
      refine ls hF hW rfl ((y_pick_t hF rfl rfl rfl).q) (fun a w hF hW => ?_)
      refine ls_nil ?_
      refine c_then ?_
      refine c_cond_t hF rfl ?_
      refine c_seq ?_
      refine reg_list ?_
      refine ls hF hW rfl ((y_move hF rfl).q) (fun a w hF hW => ?_)
      refine ls hF hW rfl ((y_move hF rfl).q) (fun a w hF hW => ?_)
      refine ls hF hW rfl ((y_eql hF rfl rfl).q) (fun a w hF hW => ?_)
      rw [show decide ((2 : Int) = 0) = false from by decide] at hF
      refine ls hF hW rfl ((y_move hF rfl).q) (fun a w hF hW => ?_)
      refine ls_skip hF (wanted_n hF rfl rfl rfl rfl rfl) rfl rfl (fun a hF => ?_)
      refine ls hF hW rfl ((y_pick_f hF rfl rfl rfl).q) (fun a w hF hW => ?_)
      refine ls hF hW rfl ((y_assign hF rfl).q) (fun a w hF hW => ?_)
      refine ls_nil ?_
      refine c_then ?_
      refine wp_ret ?_
      refine r_then ?_
      have H := Option.some.inj H
      subst H
      refine post1 (.inl rfl) hF hW rfl (rv_tmp hF rfl) ?_
      exact ⟨rfl, hW.done⟩
    ·
      have H := altR H
      refine l_callG (Ml := []) (Zl := []) (M := []) (Z := []) (β := Unit) (rv := fun x => .tuple #[.pointer none, .int .i64 2]) (MM := fun x => []) (ZZ := fun x => []) hF hW H7 rfl rfl (fun hL => clock_New_c _ w (v1) p0 p1 _ h18 ((rdc_ro h_v1) w hW).nx) (fun x a w hF hW => ?_)
      have hW : Stw ⟨Y, [], w0⟩ [] [] w := hW
      refine ls hF hW rfl ((y_move hF rfl).q) (fun a w hF hW => ?_)
      refine ls hF hW rfl ((y_extract (v := Value.pointer none) hF rfl rfl).q) (fun a w hF hW => ?_)
      refine ls hF hW rfl ((y_extract (v := Value.int .i64 2) hF rfl rfl).q) (fun a w hF hW => ?_)
      refine ls hF hW rfl ((y_assign hF rfl).q) (fun a w hF hW => ?_)
      refine ls hF hW rfl ((y_assign hF rfl).q) (fun a w hF hW => ?_)
      refine ls_nil ?_
      refine c_then ?_
      refine c_seq ?_
      refine c_seq ?_
      refine reg_list ?_
      refine ls hF hW rfl ((y_move hF rfl).q) (fun a w hF hW => ?_)
      refine ls hF hW rfl ((y_neq hF rfl rfl).q) (fun a w hF hW => ?_)
      rw [show decide ((2 : Int) ≠ 0) = true from by decide] at hF
      refine ls hF hW rfl ((y_move hF rfl).q) (fun a w hF hW => ?_)
      refine ls_skip hF (wanted_n hF rfl rfl rfl rfl rfl) rfl rfl (fun a hF => ?_)
      refine ls_skip hF (wanted_n hF rfl rfl rfl rfl rfl) rfl rfl (fun a hF => ?_)
      refine ls hF hW rfl ((y_pick_t hF rfl rfl rfl).q) (fun a w hF hW => ?_)
      refine ls hF hW rfl ((y_move hF rfl).q) (fun a w hF hW => ?_)
      refine ls_skip hF (wanted_n hF rfl rfl rfl rfl rfl) rfl rfl (fun a hF => ?_)
      refine ls_skip hF (wanted_n hF rfl rfl rfl rfl rfl) rfl rfl (fun a hF => ?_)
      refine ls hF hW rfl ((y_pick_t hF rfl rfl rfl).q) (fun a w hF hW => ?_)
      refine ls hF hW rfl ((y_move hF rfl).q) (fun a w hF hW => ?_)
      refine ls_skip hF (wanted_n hF rfl rfl rfl rfl rfl) rfl rfl (fun a hF => ?_)
      refine ls_skip hF (wanted_n hF rfl rfl rfl rfl rfl) rfl rfl (fun a hF => ?_)
      refine ls hF hW rfl ((y_pick_t hF rfl rfl rfl).q) (fun a w hF hW => ?_)
      refine ls hF hW rfl ((y_move hF rfl).q) (fun a w hF hW => ?_)
      refine ls_skip hF (wanted_n hF rfl rfl rfl rfl rfl) rfl rfl (fun a hF => ?_)
      refine ls_skip hF (wanted_n hF rfl rfl rfl rfl rfl) rfl rfl (fun a hF => ?_)
      refine ls hF hW rfl ((y_pick_t hF rfl rfl rfl).q) (fun a w hF hW => ?_)
      refine ls hF hW rfl ((y_move hF rfl).q) (fun a w hF hW => ?_)
      refine ls_skip hF (wanted_n hF rfl rfl rfl rfl rfl) rfl rfl (fun a hF => ?_)
      refine ls_skip hF (wanted_n hF rfl rfl rfl rfl rfl) rfl rfl (fun a hF => ?_)
      refine ls hF hW rfl ((y_pick_t hF rfl rfl rfl).q) (fun a w hF hW => ?_)
      refine ls_nil ?_
      refine c_then ?_
      refine c_cond_t hF rfl ?_
      refine c_seq ?_
      refine reg_list ?_
      refine ls hF hW rfl ((y_move hF rfl).q) (fun a w hF hW => ?_)
      refine ls hF hW rfl ((y_move hF rfl).q) (fun a w hF hW => ?_)
      refine ls hF hW rfl ((y_eql hF rfl rfl).q) (fun a w hF hW => ?_)
      rw [show decide ((2 : Int) = 2) = true from by decide] at hF
      refine ls hF hW rfl ((y_move hF rfl).q) (fun a w hF hW => ?_)
      refine ls_g (wanted_y hF rfl rfl rfl rfl) ?_
      obtain ⟨x51, h19, H⟩ := bindE H
      refine ls hF hW rfl (y_call (v := Value.bool x51) hF H9 rfl (fun w hW => L14_awake_c any w _ h19)) (fun a w hF hW => ?_)
      refine ls hF hW rfl ((y_pick_t hF rfl rfl rfl).q) (fun a w hF hW => ?_)
      refine ls hF hW rfl ((y_assign hF rfl).q) (fun a w hF hW => ?_)
      refine ls_nil ?_
      refine c_then ?_
      refine wp_ret ?_
      refine r_then ?_
      have H := Option.some.inj H
      subst H
      refine post1 (.inl rfl) hF hW rfl (rv_tmp hF rfl) ?_
      exact ⟨rfl, hW.done⟩

end Go.Proofs.Ythmpfhjdodfchaa
