/- The functions of layer 43, lifted. Conditions: none. -/
import Derived.Test.YtdogfpoekndknaaRows
import Derived.Test.YtdogfpoekndknaaOF
import Derived.Test.YtdogfpoekndknaaOT
import Derived.Test.YtdogfpoekndknaaOD
import Derived.Test.YtdogfpoekndknaaOC
namespace Go.Proofs.Ytdogfpoekndknaa
open Go Go.RowKit
set_option linter.unusedVariables false
set_option linter.unusedSimpArgs false
set_option maxRecDepth 20000
theorem X42 : Ext Try.prog 42 Extern.MathFloatBits.float64frombits := fun args w => run_callFunc_extern Try.func42 (by kernel_rfl) (by kernel_rfl) (by kernel_rfl) (by kernel_rfl) args w
def L43_raw (p0 : Int) : Nat := (Int.toNat p0)
theorem L43_raw_c (Y : Nat → Prop) (w0 : World)  (p0 : Int) (r : Nat) (H : L43_raw p0 = r)  :
    Calls Try.prog 12 #[.int .u64 p0] w0 fun e w' => e = .returned (.float .f64 r) ∧ Below w0.heap.size w0 w' := by
 refine enter Try.func12 rfl Try.ntmps12 rfl (fun a hF => ?_)
 have hW := Stw.start Y w0
 unfold L43_raw at H
 refine c_seq (reg_list ?_)
 refine ls hF hW rfl ((y_assign hF rfl).q) (fun a w hF hW => ?_)
 refine ls_nil (c_then ?_)
 refine c_seq (reg_list ?_)
 refine ls hF hW rfl ((y_move hF rfl).q) (fun a w hF hW => ?_)
 refine ls hF hW rfl ((y_ext (v := Value.float .f64 (Int.toNat p0)) hF X42 rfl (fun w => rfl)).q) (fun a w hF hW => ?_)
 refine ls hF hW rfl ((y_assign hF rfl).q) (fun a w hF hW => ?_)
 refine ls_nil (c_then ?_)
 refine wp_ret ?_
 subst H
 refine post1 (.inl rfl) hF hW rfl (rv_tmp hF rfl) ?_
 exact ⟨rfl, hW.done⟩

theorem H12 : Has Try.prog 12 := ⟨fun args w => run_callFunc_body Try.func12 rfl (by decide) args w⟩
def r03_Cost (p0 : Int) : Bool := (decide (p0 ≤ 9218868437227405312) || decide (p0 = 9223372036854775808))
theorem r03_Cost_c (Y : Nat → Prop) (w0 : World)  (p0 : Int) (r : Bool) (H : r03_Cost p0 = r)  :
    Calls Try.prog 35 #[.int .u64 p0] w0 fun e w' => e = .returned (.bool r) ∧ Below w0.heap.size w0 w' := by
 refine enter Try.func35 rfl Try.ntmps35 rfl (fun a hF => ?_)
 have hW := Stw.start Y w0
 unfold r03_Cost at H
 refine c_seq (reg_list ?_)
 refine ls hF hW rfl ((y_assign hF rfl).q) (fun a w hF hW => ?_)
 refine ls_nil (c_then ?_)
 refine c_seqJ (fun a w => Fr 9 [] [(2, .bool (decide (p0 ≤ 9218868437227405312) || decide (p0 = 9223372036854775808)))] a ∧ Stw ⟨Y, [], w0⟩ [] [] w) ?_ ?_
 ·
  refine reg_list ?_
  refine ls hF hW rfl ((y_move hF rfl).q) (fun a w hF hW => ?_)
  refine ls hF hW rfl ((y_leq hF rfl rfl).q) (fun a w hF hW => ?_)
  refine ls hF hW rfl ((y_move hF rfl).q) (fun a w hF hW => ?_)
  rcases Bool.eq_false_or_eq_true (decide (p0 ≤ 9218868437227405312)) with hb0 | hb0
  ·
   rw [hb0] at hF
   iterate 2 refine lsn hF rfl rfl rfl rfl rfl rfl rfl (fun a hF => ?_)
   refine ls hF hW rfl ((y_pick_t hF rfl rfl rfl).q) (fun a w hF hW => ?_)
   refine ls hF hW rfl ((y_assign hF rfl).q) (fun a w hF hW => ?_)
   refine ls_nil (c_then ?_)
   exact ⟨hF.re ⟨(by show some (Value.bool true) = some (Value.bool (decide (p0 ≤ 9218868437227405312) || decide (p0 = 9223372036854775808))); try rw [hb0]; all_goals simp only [Bool.not_true, Bool.not_false, Bool.true_and, Bool.false_and, Bool.true_or, Bool.false_or, Bool.and_true, Bool.or_false, cond_true, cond_false]), trivial⟩, hW⟩
  ·
   rw [hb0] at hF
   refine ls_w hF hW (wanted_y hF rfl rfl rfl rfl) rfl (Nat.le_of_ble_eq_true rfl) ((y_move hF rfl).q) (fun a w hF hW => ?_)
   refine ls_w hF hW (wanted_y hF rfl rfl rfl rfl) rfl (Nat.le_of_ble_eq_true rfl) ((y_eql hF rfl rfl).q) (fun a w hF hW => ?_)
   refine ls hF hW rfl ((y_pick_f hF rfl rfl rfl).q) (fun a w hF hW => ?_)
   refine ls hF hW rfl ((y_assign hF rfl).q) (fun a w hF hW => ?_)
   refine ls_nil (c_then ?_)
   exact ⟨hF.re ⟨(by show some (Value.bool (decide (p0 = 9223372036854775808))) = some (Value.bool (decide (p0 ≤ 9218868437227405312) || decide (p0 = 9223372036854775808))); try rw [hb0]; all_goals simp only [Bool.not_true, Bool.not_false, Bool.true_and, Bool.false_and, Bool.true_or, Bool.false_or, Bool.and_true, Bool.or_false, cond_true, cond_false]), trivial⟩, hW⟩
 rintro a w ⟨hF, hW⟩
 refine wp_ret ?_
 subst H
 refine post1 (.inl rfl) hF hW rfl (rv_tmp hF rfl) ?_
 exact ⟨rfl, hW.done⟩

theorem H35 : Has Try.prog 35 := ⟨fun args w => run_callFunc_body Try.func35 rfl (by decide) args w⟩
def math_NaN  : Nat := 9221120237041090561
theorem math_NaN_c (Y : Nat → Prop) (w0 : World)   (r : Nat) (H : math_NaN  = r)  :
    Calls Try.prog 50 #[] w0 fun e w' => e = .returned (.float .f64 r) ∧ Below w0.heap.size w0 w' := by
 refine enter Try.func50 rfl Try.ntmps50 rfl (fun a hF => ?_)
 have hW := Stw.start Y w0
 unfold math_NaN at H
 refine c_seq (reg_list ?_)
 refine ls hF hW rfl ((y_assign hF rfl).q) (fun a w hF hW => ?_)
 refine ls_nil (c_then ?_)
 refine c_seq (reg_list ?_)
 refine ls hF hW rfl ((y_ext (v := Value.float .f64 9221120237041090561) hF X42 rfl (fun w => rfl)).q) (fun a w hF hW => ?_)
 refine ls hF hW rfl ((y_assign hF rfl).q) (fun a w hF hW => ?_)
 refine ls_nil (c_then ?_)
 refine wp_ret ?_
 subst H
 refine post1 (.inl rfl) hF hW rfl (rv_tmp hF rfl) ?_
 exact ⟨rfl, hW.done⟩

theorem H50 : Has Try.prog 50 := ⟨fun args w => run_callFunc_body Try.func50 rfl (by decide) args w⟩
def math_IsNaN (p0 : Nat) : Bool := (!(fEq p0 p0))
theorem math_IsNaN_c (Y : Nat → Prop) (w0 : World)  (p0 : Nat) (r : Bool) (H : math_IsNaN p0 = r)  :
    Calls Try.prog 37 #[.float .f64 p0] w0 fun e w' => e = .returned (.bool r) ∧ Below w0.heap.size w0 w' := by
 refine enter Try.func37 rfl Try.ntmps37 rfl (fun a hF => ?_)
 have hW := Stw.start Y w0
 unfold math_IsNaN at H
 refine c_seq (reg_list ?_)
 refine ls hF hW rfl ((y_assign hF rfl).q) (fun a w hF hW => ?_)
 refine ls_nil (c_then ?_)
 refine c_seq (reg_list ?_)
 iterate 2 refine ls hF hW rfl ((y_move hF rfl).q) (fun a w hF hW => ?_)
 refine ls hF hW rfl ((y_fneq hF rfl rfl).q) (fun a w hF hW => ?_)
 refine ls hF hW rfl ((y_assign hF rfl).q) (fun a w hF hW => ?_)
 refine ls_nil (c_then ?_)
 refine wp_ret ?_
 subst H
 refine post1 (.inl rfl) hF hW rfl (rv_tmp hF rfl) ?_
 exact ⟨rfl, hW.done⟩

theorem H37 : Has Try.prog 37 := ⟨fun args w => run_callFunc_body Try.func37 rfl (by decide) args w⟩
def float_Clean (p0 : Nat) : Nat := (if (math_IsNaN p0) = true then 9221120237041090561 else p0)
theorem float_Clean_c (Y : Nat → Prop) (w0 : World)  (p0 : Nat) (r : Nat) (H : float_Clean p0 = r)  :
    Calls Try.prog 39 #[.float .f64 p0] w0 fun e w' => e = .returned (.float .f64 r) ∧ Below w0.heap.size w0 w' := by
 refine enter Try.func39 rfl Try.ntmps39 rfl (fun a hF => ?_)
 have hW := Stw.start Y w0
 unfold float_Clean at H
 refine c_seq (reg_list ?_)
 refine ls hF hW rfl ((y_assign hF rfl).q) (fun a w hF hW => ?_)
 refine ls_nil (c_then ?_)
 refine c_seq ?_
 refine c_seq (reg_list ?_)
 refine ls hF hW rfl ((y_move hF rfl).q) (fun a w hF hW => ?_)
 refine ls hF hW rfl (y_call (v := Value.bool (math_IsNaN p0)) hF H37 rfl (fun w hW => math_IsNaN_c any w p0 _ rfl)) (fun a w hF hW => ?_)
 refine ls_nil (c_then ?_)
 refine c_cond hF rfl (fun hb => ?_) (fun hb => ?_)
 ·
  have H := iteT hb H
  rw [hb] at hF
  clear hb
  refine c_seq (reg_list ?_)
  refine ls hF hW rfl ((y_ext (v := Value.float .f64 9221120237041090561) hF X42 rfl (fun w => rfl)).q) (fun a w hF hW => ?_)
  refine ls hF hW rfl ((y_assign hF rfl).q) (fun a w hF hW => ?_)
  refine ls_nil (c_then ?_)
  refine wp_ret ?_
  refine r_then ?_
  subst H
  refine post1 (.inl rfl) hF hW rfl (rv_tmp hF rfl) ?_
  exact ⟨rfl, hW.done⟩
 ·
  have H := iteF (by rw [hb]; decide) H
  rw [hb] at hF
  clear hb
  refine wp_skip ?_
  refine c_then ?_
  refine c_seq (reg_list ?_)
  refine ls hF hW rfl ((y_move hF rfl).q) (fun a w hF hW => ?_)
  refine ls hF hW rfl ((y_assign hF rfl).q) (fun a w hF hW => ?_)
  refine ls_nil (c_then ?_)
  refine wp_ret ?_
  subst H
  refine post1 (.inl rfl) hF hW rfl (rv_tmp hF rfl) ?_
  exact ⟨rfl, hW.done⟩

theorem u67_ : type_of% Try.underlying67 := Try.underlying67
theorem H39 : Has Try.prog 39 := ⟨fun args w => run_callFunc_body Try.func39 rfl (by decide) args w⟩
theorem B67 : Bt Try.prog 67 [.float .f64 0, .float .f64 0, .int .i64 0, .int .i64 0] [(0, 1), (1, 1), (2, 1), (3, 1)] := ⟨⟨.agg #[.float .f64 0, .float .f64 0, .int .i64 0, .int .i64 0], by kernel_rfl, rfl⟩, ⟨_, u67_, fun w => by kernel_rfl⟩⟩
def meter_New (p0 : Nat) : (Nat × Nat × Int × Int) := (p0, (float_Clean math_NaN), 0, 0)
theorem meter_New_c (Y : Nat → Prop) (w0 : World)  (p0 : Nat) (r : (Nat × Nat × Int × Int)) (H : meter_New p0 = r)  :
    Calls Try.prog 25 #[.float .f64 p0] w0 fun e w' => ∃ x : Nat, e = .returned (.pointer (some ⟨x, 0, none⟩)) ∧ Stw ⟨Y, [], w0⟩ [(x, [.float .f64 r.1, .float .f64 r.2.1, .int .i64 r.2.2.1, .int .i64 r.2.2.2])] [] w' := by
 refine enter Try.func25 rfl Try.ntmps25 rfl (fun a hF => ?_)
 have hW := Stw.start Y w0
 unfold meter_New at H
 refine c_seq (reg_list ?_)
 refine ls hF hW rfl ((y_assign hF rfl).q) (fun a w hF hW => ?_)
 refine ls_nil (c_then ?_)
 refine c_seq (reg_list ?_)
 refine ls hF hW rfl ((y_move hF rfl).q) (fun a w hF hW => ?_)
 refine ls hF hW rfl (y_call (v := Value.float .f64 math_NaN) hF H50 rfl (fun w hW => math_NaN_c any w _ rfl)) (fun a w hF hW => ?_)
 refine ls hF hW rfl (y_call (v := Value.float .f64 (float_Clean math_NaN)) hF H39 rfl (fun w hW => float_Clean_c any w math_NaN _ rfl)) (fun a w hF hW => ?_)
 refine ls hF hW rfl ((y_build (v := Value.agg #[.float .f64 p0, .float .f64 (float_Clean math_NaN), .int .i64 0, .int .i64 0]) B67 hF rfl rfl rfl).q) (fun a w hF hW => ?_)
 refine l_box (cs := [.float .f64 p0, .float .f64 (float_Clean math_NaN), .int .i64 0, .int .i64 0]) hF hW rfl rfl rfl (fun b1 a w hF hW => ?_)
 refine ls hF hW rfl ((y_assign hF rfl).q) (fun a w hF hW => ?_)
 refine ls_nil (c_then ?_)
 refine wp_ret ?_
 subst H
 refine post1 (.inl rfl) hF hW rfl (rv_tmp hF rfl) ?_
 exact ⟨b1, rfl, hW⟩

theorem u45_ : type_of% Try.underlying45 := Try.underlying45
theorem H25 : Has Try.prog 25 := ⟨fun args w => run_callFunc_body Try.func25 rfl (by decide) args w⟩
theorem T3 : Ty Try.prog 3 false 1 := ⟨by kernel_rfl, by kernel_rfl⟩
def meter_Meter_Count (p0 : Nat × Nat × Int × Int) (p1 : Int) : (Nat × Nat × Int × Int) := (if (decide ((w64 (0 - p0.2.2.1)) ≤ p1) && decide (p1 ≤ (w64 (1125899906842624 - p0.2.2.1)))) = true then (p0.1, p0.2.1, w64 (p0.2.2.1 + p1), p0.2.2.2) else p0)
theorem meter_Meter_Count_c (Y : Nat → Prop) (X : List Nat) (w0 : World) (q_p0 : Nat) (p0 : Nat × Nat × Int × Int) (p1 : Int) (r : (Nat × Nat × Int × Int)) (H : meter_Meter_Count p0 p1 = r) (hL : Stw ⟨Y, X, w0⟩ [(q_p0, [.float .f64 p0.1, .float .f64 p0.2.1, .int .i64 p0.2.2.1, .int .i64 p0.2.2.2])] [] w0) :
    Calls Try.prog 27 #[.pointer (some ⟨q_p0, 0, none⟩), .int .i64 p1] w0 fun e w' => ∃ x : Unit, e = .returned (.tuple #[]) ∧ Stw ⟨Y, X, w0⟩ [(q_p0, [.float .f64 r.1, .float .f64 r.2.1, .int .i64 r.2.2.1, .int .i64 r.2.2.2])] [] w' := by
 refine enter Try.func27 rfl Try.ntmps27 rfl (fun a hF => ?_)
 have hW := hL
 unfold meter_Meter_Count at H
 refine c_seqJ (fun a w => Fr 32 [] [(0, .pointer (some ⟨q_p0, 0, none⟩)), (1, .int .i64 p1), (23, .bool (decide ((w64 (0 - p0.2.2.1)) ≤ p1) && decide (p1 ≤ (w64 (1125899906842624 - p0.2.2.1)))))] a ∧ Stw ⟨Y, X, w0⟩ [(q_p0, [.float .f64 p0.1, .float .f64 p0.2.1, .int .i64 p0.2.2.1, .int .i64 p0.2.2.2])] [] w) ?_ ?_
 ·
  refine reg_list ?_
  refine ls hF hW rfl ((y_move hF rfl).q) (fun a w hF hW => ?_)
  refine ls hF hW rfl ((y_pne_some_nil u45_ hF rfl rfl).q) (fun a w hF hW => ?_)
  refine ls hF hW rfl ((y_move hF rfl).q) (fun a w hF hW => ?_)
  iterate 2 refine ls_w hF hW (wanted_y hF rfl rfl rfl rfl) rfl (Nat.le_of_ble_eq_true rfl) ((y_move hF rfl).q) (fun a w hF hW => ?_)
  refine ls_w hF hW (wanted_y hF rfl rfl rfl rfl) rfl (Nat.le_of_ble_eq_true rfl) ((y_nilCheck hF rfl).q) (fun a w hF hW => ?_)
  refine ls_w hF hW (wanted_y hF rfl rfl rfl rfl) rfl (Nat.le_of_ble_eq_true rfl) ((y_fieldAddr u67_ rfl rfl rfl T3 hF rfl 2 rfl).q) (fun a w hF hW => ?_)
  refine ls_w hF hW (wanted_y hF rfl rfl rfl rfl) rfl (Nat.le_of_ble_eq_true rfl) ((y_load (v := Value.int .i64 p0.2.2.1) 0 hF rfl rfl T3 rfl).q) (fun a w hF hW => ?_)
  refine ls_w hF hW (wanted_y hF rfl rfl rfl rfl) rfl (Nat.le_of_ble_eq_true rfl) ((y_neg hF rfl rfl).q) (fun a w hF hW => ?_)
  refine ls_w hF hW (wanted_y hF rfl rfl rfl rfl) rfl (Nat.le_of_ble_eq_true rfl) ((y_geq hF rfl rfl).q) (fun a w hF hW => ?_)
  refine ls hF hW rfl ((y_pick_t hF rfl rfl rfl).q) (fun a w hF hW => ?_)
  refine ls hF hW rfl ((y_move hF rfl).q) (fun a w hF hW => ?_)
  rcases Bool.eq_false_or_eq_true (decide ((w64 (0 - p0.2.2.1)) ≤ p1)) with hb0 | hb0
  ·
   rw [hb0] at hF
   iterate 2 refine ls_w hF hW (wanted_y hF rfl rfl rfl rfl) rfl (Nat.le_of_ble_eq_true rfl) ((y_move hF rfl).q) (fun a w hF hW => ?_)
   refine ls_w hF hW (wanted_y hF rfl rfl rfl rfl) rfl (Nat.le_of_ble_eq_true rfl) ((y_nilCheck hF rfl).q) (fun a w hF hW => ?_)
   refine ls_w hF hW (wanted_y hF rfl rfl rfl rfl) rfl (Nat.le_of_ble_eq_true rfl) ((y_fieldAddr u67_ rfl rfl rfl T3 hF rfl 2 rfl).q) (fun a w hF hW => ?_)
   refine ls_w hF hW (wanted_y hF rfl rfl rfl rfl) rfl (Nat.le_of_ble_eq_true rfl) ((y_load (v := Value.int .i64 p0.2.2.1) 0 hF rfl rfl T3 rfl).q) (fun a w hF hW => ?_)
   refine ls_w hF hW (wanted_y hF rfl rfl rfl rfl) rfl (Nat.le_of_ble_eq_true rfl) ((y_sub hF rfl rfl rfl).q) (fun a w hF hW => ?_)
   refine ls_w hF hW (wanted_y hF rfl rfl rfl rfl) rfl (Nat.le_of_ble_eq_true rfl) ((y_leq hF rfl rfl).q) (fun a w hF hW => ?_)
   refine ls hF hW rfl ((y_pick_t hF rfl rfl rfl).q) (fun a w hF hW => ?_)
   refine ls_nil (c_then ?_)
   exact ⟨hF.re ⟨rfl, rfl, (by show some (Value.bool (decide (p1 ≤ (w64 (1125899906842624 - p0.2.2.1))))) = some (Value.bool (decide ((w64 (0 - p0.2.2.1)) ≤ p1) && decide (p1 ≤ (w64 (1125899906842624 - p0.2.2.1))))); try rw [hb0]; all_goals simp only [Bool.not_true, Bool.not_false, Bool.true_and, Bool.false_and, Bool.true_or, Bool.false_or, Bool.and_true, Bool.or_false, cond_true, cond_false]), trivial⟩, hW⟩
  ·
   rw [hb0] at hF
   iterate 7 refine lsn hF rfl rfl rfl rfl rfl rfl rfl (fun a hF => ?_)
   refine ls hF hW rfl ((y_pick_f hF rfl rfl rfl).q) (fun a w hF hW => ?_)
   refine ls_nil (c_then ?_)
   exact ⟨hF.re ⟨rfl, rfl, (by show some (Value.bool false) = some (Value.bool (decide ((w64 (0 - p0.2.2.1)) ≤ p1) && decide (p1 ≤ (w64 (1125899906842624 - p0.2.2.1))))); try rw [hb0]; all_goals simp only [Bool.not_true, Bool.not_false, Bool.true_and, Bool.false_and, Bool.true_or, Bool.false_or, Bool.and_true, Bool.or_false, cond_true, cond_false]), trivial⟩, hW⟩
 rintro a w ⟨hF, hW⟩
 refine c_cond hF rfl (fun hb => ?_) (fun hb => ?_)
 ·
  have H := iteT hb H
  rw [hb] at hF
  clear hb
  refine reg_list ?_
  refine ls hF hW rfl ((y_move hF rfl).q) (fun a w hF hW => ?_)
  refine ls hF hW rfl ((y_nilCheck hF rfl).q) (fun a w hF hW => ?_)
  refine ls hF hW rfl ((y_fieldAddr u67_ rfl rfl rfl T3 hF rfl 2 rfl).q) (fun a w hF hW => ?_)
  refine ls hF hW rfl ((y_load (v := Value.int .i64 p0.2.2.1) 0 hF rfl rfl T3 rfl).q) (fun a w hF hW => ?_)
  refine ls hF hW rfl ((y_move hF rfl).q) (fun a w hF hW => ?_)
  refine ls hF hW rfl ((y_add hF rfl rfl rfl).q) (fun a w hF hW => ?_)
  refine ls hF hW rfl ((y_nilCheck hF rfl).q) (fun a w hF hW => ?_)
  refine ls hF hW rfl ((y_fieldAddr u67_ rfl rfl rfl T3 hF rfl 2 rfl).q) (fun a w hF hW => ?_)
  refine l_store (vs := [.int .i64 (w64 (p0.2.2.1 + p1))]) (M' := [(q_p0, [.float .f64 p0.1, .float .f64 p0.2.1, .int .i64 (w64 (p0.2.2.1 + p1)), .int .i64 p0.2.2.2])]) 0 hF hW rfl rfl rfl T3 rfl rfl rfl rfl rfl (fun w hW => ?_)
  refine ls_nil ?_
  subst H
  refine post0 (.inr rfl) hF rfl ?_
  exact ⟨(), rfl, hW⟩
 ·
  have H := iteF (by rw [hb]; decide) H
  rw [hb] at hF
  clear hb
  refine wp_skip ?_
  subst H
  refine post0 (.inr rfl) hF rfl ?_
  exact ⟨(), rfl, hW⟩

theorem float_Clean_cf {a b : Nat} (h : cfn a = cfn b) : float_Clean a = float_Clean b := by
  refine cf_of (f := fun a : Nat => float_Clean a) (fun a h => ?_) h
  first
  | (have e1 : math_IsNaN a = true := by unfold math_IsNaN; rw [fEq_nan h]; rfl
     have e2 : math_IsNaN 9221120237041090561 = true := by unfold math_IsNaN; rw [fEq_nan (by decide)]; rfl
     show float_Clean a = float_Clean 9221120237041090561
     unfold float_Clean
     simp only [e1, e2, if_true]; done)
  | exact r03_Clean_nan h

theorem u3_ : type_of% Try.underlying3 := Try.underlying3
theorem u25_ : type_of% Try.underlying25 := Try.underlying25
theorem H27 : Has Try.prog 27 := ⟨fun args w => run_callFunc_body Try.func27 rfl (by decide) args w⟩
theorem MO : Try.prog.follows .mixedOrders = true := by kernel_rfl
theorem T25 : Ty Try.prog 25 false 1 := ⟨by kernel_rfl, by kernel_rfl⟩
def meter_Rate (p0 : Int) (p1 : Int) : Nat := (float_Clean (fdiv (fInt p0) (fInt p1)))
theorem meter_Rate_c (Y : Nat → Prop) (w0 : World)  (p0 : Int) (p1 : Int) (r : Nat) (H : meter_Rate p0 p1 = r)  :
    Calls Try.prog 9 #[.int .i64 p0, .int .i64 p1] w0 fun e w' => e = .returned (.float .f64 r) ∧ Below w0.heap.size w0 w' := by
 refine enter Try.func9 rfl Try.ntmps9 rfl (fun a hF => ?_)
 have hW := Stw.start Y w0
 unfold meter_Rate at H
 refine c_seq (reg_list ?_)
 refine ls hF hW rfl ((y_assign hF rfl).q) (fun a w hF hW => ?_)
 refine ls_nil (c_then ?_)
 refine c_seq (reg_list ?_)
 refine ls hF hW rfl ((y_move hF rfl).q) (fun a w hF hW => ?_)
 refine ls hF hW rfl ((y_convIF u3_ u25_ hF rfl).q) (fun a w hF hW => ?_)
 refine ls hF hW rfl ((y_move hF rfl).q) (fun a w hF hW => ?_)
 refine ls hF hW rfl ((y_convIF u3_ u25_ hF rfl).q) (fun a w hF hW => ?_)
 refine l_fdiv hF hW rfl rfl rfl (fun b1 a w c_b1 hF hW => ?_)
 refine ls hF hW rfl (y_call (v := Value.float .f64 (float_Clean b1)) hF H39 rfl (fun w hW => float_Clean_c any w b1 _ rfl)) (fun a w hF hW => ?_)
 rw [float_Clean_cf c_b1] at hF
 refine ls hF hW rfl ((y_assign hF rfl).q) (fun a w hF hW => ?_)
 refine ls_nil (c_then ?_)
 refine wp_ret ?_
 subst H
 refine post1 (.inl rfl) hF hW rfl (rv_tmp hF rfl) ?_
 exact ⟨rfl, hW.done⟩

theorem H9 : Has Try.prog 9 := ⟨fun args w => run_callFunc_body Try.func9 rfl (by decide) args w⟩
theorem X38 : Ext Try.prog 38 Extern.MathFloatBits.float64bits := fun args w => run_callFunc_extern Try.func38 (by kernel_rfl) (by kernel_rfl) (by kernel_rfl) (by kernel_rfl) args w
def math_Abs (p0 : Nat) : Nat := (Int.toNat (andNotI .u64 (p0 : Int) 9223372036854775808))
theorem math_Abs_c (Y : Nat → Prop) (w0 : World)  (p0 : Nat) (r : Nat) (H : math_Abs p0 = r)  :
    Calls Try.prog 57 #[.float .f64 p0] w0 fun e w' => e = .returned (.float .f64 r) ∧ Below w0.heap.size w0 w' := by
 refine enter Try.func57 rfl Try.ntmps57 rfl (fun a hF => ?_)
 have hW := Stw.start Y w0
 unfold math_Abs at H
 refine c_seq (reg_list ?_)
 refine ls hF hW rfl ((y_assign hF rfl).q) (fun a w hF hW => ?_)
 refine ls_nil (c_then ?_)
 refine c_seq (reg_list ?_)
 refine ls hF hW rfl ((y_move hF rfl).q) (fun a w hF hW => ?_)
 refine ls hF hW rfl ((y_ext (v := Value.int .u64 (p0 : Int)) hF X38 rfl (fun w => rfl)).q) (fun a w hF hW => ?_)
 refine ls hF hW rfl ((y_andNot hF rfl rfl).q) (fun a w hF hW => ?_)
 refine ls hF hW rfl ((y_ext (v := Value.float .f64 (Int.toNat (andNotI .u64 (p0 : Int) 9223372036854775808))) hF X42 rfl (fun w => rfl)).q) (fun a w hF hW => ?_)
 refine ls hF hW rfl ((y_assign hF rfl).q) (fun a w hF hW => ?_)
 refine ls_nil (c_then ?_)
 refine wp_ret ?_
 subst H
 refine post1 (.inl rfl) hF hW rfl (rv_tmp hF rfl) ?_
 exact ⟨rfl, hW.done⟩

theorem H57 : Has Try.prog 57 := ⟨fun args w => run_callFunc_body Try.func57 rfl (by decide) args w⟩
noncomputable def math_IsInf (p0 : Nat) (p1 : Int) : Option Bool := (if p1 = 0 then some (math_Abs p0) else (if p1 < 0 then some (Op.negFloat .f64 p0) else some p0)).bind fun x1 => some (fGt x1 9218868437227405311)
theorem math_IsInf_c (Y : Nat → Prop) (w0 : World)  (p0 : Nat) (p1 : Int) (r : Bool) (H : math_IsInf p0 p1 = some r)  :
    Calls Try.prog 52 #[.float .f64 p0, .int .i64 p1] w0 fun e w' => e = .returned (.bool r) ∧ Below w0.heap.size w0 w' := by
 refine enter Try.func52 rfl Try.ntmps52 rfl (fun a hF => ?_)
 have hW := Stw.start Y w0
 unfold math_IsInf at H
 refine c_seq (reg_list ?_)
 refine ls hF hW rfl ((y_assign hF rfl).q) (fun a w hF hW => ?_)
 refine ls_nil (c_then ?_)
 obtain ⟨o1, G1, K1⟩ := bindE H
 refine c_seqJ (fun a w => ∃ x1 : Nat, some (x1) = some o1 ∧ Fr 15 [] [(0, .float .f64 x1), (4, .bool false)] a ∧ Stw ⟨Y, [], w0⟩ [] [] w) ?_ ?_
 ·
  have H := G1
  clear G1 K1
  refine c_seq (reg_list ?_)
  refine ls hF hW rfl ((y_move hF rfl).q) (fun a w hF hW => ?_)
  refine ls hF hW rfl ((y_eql hF rfl rfl).q) (fun a w hF hW => ?_)
  refine ls_nil (c_then ?_)
  refine c_cond hF rfl (fun hb => ?_) (fun hb => ?_)
  ·
   have H := iteT (of_decide_eq_true hb) H
   rw [hb] at hF
   clear hb
   refine reg_list ?_
   refine ls hF hW rfl ((y_move hF rfl).q) (fun a w hF hW => ?_)
   refine ls hF hW rfl (y_call (v := Value.float .f64 (math_Abs p0)) hF H57 rfl (fun w hW => math_Abs_c any w p0 _ rfl)) (fun a w hF hW => ?_)
   refine ls hF hW rfl ((y_assign hF rfl).q) (fun a w hF hW => ?_)
   refine ls_nil (c_then ?_)
   exact ⟨_, H, hF.re ⟨rfl, rfl, trivial⟩, hW⟩
  ·
   have H := iteF (of_decide_eq_false hb) H
   rw [hb] at hF
   clear hb
   refine c_seq (reg_list ?_)
   refine ls hF hW rfl ((y_move hF rfl).q) (fun a w hF hW => ?_)
   refine ls hF hW rfl ((y_lss hF rfl rfl).q) (fun a w hF hW => ?_)
   refine ls_nil (c_then ?_)
   refine c_cond hF rfl (fun hb => ?_) (fun hb => ?_)
   ·
    have H := iteT (of_decide_eq_true hb) H
    rw [hb] at hF
    clear hb
    refine reg_list ?_
    refine ls hF hW rfl ((y_move hF rfl).q) (fun a w hF hW => ?_)
    refine ls hF hW rfl ((y_fneg hF rfl).q) (fun a w hF hW => ?_)
    refine ls hF hW rfl ((y_assign hF rfl).q) (fun a w hF hW => ?_)
    refine ls_nil (c_then ?_)
    exact ⟨_, H, hF.re ⟨rfl, rfl, trivial⟩, hW⟩
   ·
    have H := iteF (of_decide_eq_false hb) H
    rw [hb] at hF
    clear hb
    refine wp_skip ?_
    refine c_then ?_
    exact ⟨_, H, hF.re ⟨rfl, rfl, trivial⟩, hW⟩
 rintro a w ⟨x1, hj, hF, hW⟩
 have hj := Option.some.inj hj
 subst hj
 have H := K1
 clear G1 K1
 refine c_seq (reg_list ?_)
 refine ls hF hW rfl ((y_move hF rfl).q) (fun a w hF hW => ?_)
 refine ls hF hW rfl ((y_fgtr hF rfl rfl).q) (fun a w hF hW => ?_)
 refine ls hF hW rfl ((y_assign hF rfl).q) (fun a w hF hW => ?_)
 refine ls_nil (c_then ?_)
 refine wp_ret ?_
 have H := Option.some.inj H
 subst H
 refine post1 (.inl rfl) hF hW rfl (rv_tmp hF rfl) ?_
 exact ⟨rfl, hW.done⟩

theorem u2_ : type_of% Try.underlying2 := Try.underlying2
theorem u22_ : type_of% Try.underlying22 := Try.underlying22
theorem H52 : Has Try.prog 52 := ⟨fun args w => run_callFunc_body Try.func52 rfl (by decide) args w⟩
def math_Signbit (p0 : Nat) : Bool := decide ((w64 (p0 : Int)) < 0)
theorem math_Signbit_c (Y : Nat → Prop) (w0 : World)  (p0 : Nat) (r : Bool) (H : math_Signbit p0 = r)  :
    Calls Try.prog 53 #[.float .f64 p0] w0 fun e w' => e = .returned (.bool r) ∧ Below w0.heap.size w0 w' := by
 refine enter Try.func53 rfl Try.ntmps53 rfl (fun a hF => ?_)
 have hW := Stw.start Y w0
 unfold math_Signbit at H
 refine c_seq (reg_list ?_)
 refine ls hF hW rfl ((y_assign hF rfl).q) (fun a w hF hW => ?_)
 refine ls_nil (c_then ?_)
 refine c_seq (reg_list ?_)
 refine ls hF hW rfl ((y_move hF rfl).q) (fun a w hF hW => ?_)
 refine ls hF hW rfl ((y_ext (v := Value.int .u64 (p0 : Int)) hF X38 rfl (fun w => rfl)).q) (fun a w hF hW => ?_)
 refine ls hF hW rfl ((y_convI u22_ u2_ hF rfl).q) (fun a w hF hW => ?_)
 refine ls hF hW rfl ((y_lss hF rfl rfl).q) (fun a w hF hW => ?_)
 refine ls hF hW rfl ((y_assign hF rfl).q) (fun a w hF hW => ?_)
 refine ls_nil (c_then ?_)
 refine wp_ret ?_
 subst H
 refine post1 (.inl rfl) hF hW rfl (rv_tmp hF rfl) ?_
 exact ⟨rfl, hW.done⟩

theorem H53 : Has Try.prog 53 := ⟨fun args w => run_callFunc_body Try.func53 rfl (by decide) args w⟩
noncomputable def float_Class (p0 : Nat) : Option Int := (if (math_IsNaN p0) = true then some 0 else (math_IsInf p0 (-1)).bind fun x1 => (if x1 = true then some 1 else (if (fLt p0 0) = true then some 2 else (math_IsInf p0 1).bind fun x2 => (if x2 = true then some 6 else (if (fGt p0 0) = true then some 5 else (if (math_Signbit p0) = true then some 3 else some 4))))))
theorem float_Class_c (Y : Nat → Prop) (w0 : World)  (p0 : Nat) (r : Int) (H : float_Class p0 = some r)  :
    Calls Try.prog 36 #[.float .f64 p0] w0 fun e w' => e = .returned (.int .i64 r) ∧ Below w0.heap.size w0 w' := by
 refine enter Try.func36 rfl Try.ntmps36 rfl (fun a hF => ?_)
 have hW := Stw.start Y w0
 unfold float_Class at H
 refine c_seq (reg_list ?_)
 refine ls hF hW rfl ((y_assign hF rfl).q) (fun a w hF hW => ?_)
 refine ls_nil (c_then ?_)
 refine c_seq ?_
 refine wp_block ?_
 refine c_seq (reg_list ?_)
 refine ls hF hW rfl ((y_move hF rfl).q) (fun a w hF hW => ?_)
 refine ls hF hW rfl (y_call (v := Value.bool (math_IsNaN p0)) hF H37 rfl (fun w hW => math_IsNaN_c any w p0 _ rfl)) (fun a w hF hW => ?_)
 refine ls hF hW rfl ((y_assign hF rfl).q) (fun a w hF hW => ?_)
 refine ls_nil (c_then ?_)
 refine c_cond hF rfl (fun hb => ?_) (fun hb => ?_)
 ·
  have H := iteT hb H
  rw [hb] at hF
  clear hb
  refine c_seq (reg_list ?_)
  refine ls hF hW rfl ((y_assign hF rfl).q) (fun a w hF hW => ?_)
  refine ls_nil (c_then ?_)
  refine wp_ret ?_
  refine r_block ?_
  refine r_then ?_
  have H := Option.some.inj H
  subst H
  refine post1 (.inl rfl) hF hW rfl (rv_tmp hF rfl) ?_
  exact ⟨rfl, hW.done⟩
 ·
  have H := iteF (by rw [hb]; decide) H
  rw [hb] at hF
  clear hb
  refine c_seq (reg_list ?_)
  refine ls hF hW rfl ((y_move hF rfl).q) (fun a w hF hW => ?_)
  obtain ⟨x1, h1, H⟩ := bindE H
  refine ls hF hW rfl (y_call (v := Value.bool x1) hF H52 rfl (fun w hW => math_IsInf_c any w p0 (-1) _ h1)) (fun a w hF hW => ?_)
  refine ls hF hW rfl ((y_assign hF rfl).q) (fun a w hF hW => ?_)
  refine ls_nil (c_then ?_)
  refine c_cond hF rfl (fun hb => ?_) (fun hb => ?_)
  ·
   have H := iteT hb H
   rw [hb] at hF
   clear hb
   refine c_seq (reg_list ?_)
   refine ls hF hW rfl ((y_assign hF rfl).q) (fun a w hF hW => ?_)
   refine ls_nil (c_then ?_)
   refine wp_ret ?_
   refine r_block ?_
   refine r_then ?_
   have H := Option.some.inj H
   subst H
   refine post1 (.inl rfl) hF hW rfl (rv_tmp hF rfl) ?_
   exact ⟨rfl, hW.done⟩
  ·
   have H := iteF (by rw [hb]; decide) H
   rw [hb] at hF
   clear hb
   refine c_seq (reg_list ?_)
   refine ls hF hW rfl ((y_move hF rfl).q) (fun a w hF hW => ?_)
   refine ls hF hW rfl ((y_flss hF rfl rfl).q) (fun a w hF hW => ?_)
   refine ls hF hW rfl ((y_assign hF rfl).q) (fun a w hF hW => ?_)
   refine ls_nil (c_then ?_)
   refine c_cond hF rfl (fun hb => ?_) (fun hb => ?_)
   ·
    have H := iteT hb H
    rw [hb] at hF
    clear hb
    refine c_seq (reg_list ?_)
    refine ls hF hW rfl ((y_assign hF rfl).q) (fun a w hF hW => ?_)
    refine ls_nil (c_then ?_)
    refine wp_ret ?_
    refine r_block ?_
    refine r_then ?_
    have H := Option.some.inj H
    subst H
    refine post1 (.inl rfl) hF hW rfl (rv_tmp hF rfl) ?_
    exact ⟨rfl, hW.done⟩
   ·
    have H := iteF (by rw [hb]; decide) H
    rw [hb] at hF
    clear hb
    refine c_seq (reg_list ?_)
    refine ls hF hW rfl ((y_move hF rfl).q) (fun a w hF hW => ?_)
    obtain ⟨x2, h2, H⟩ := bindE H
    refine ls hF hW rfl (y_call (v := Value.bool x2) hF H52 rfl (fun w hW => math_IsInf_c any w p0 1 _ h2)) (fun a w hF hW => ?_)
    refine ls hF hW rfl ((y_assign hF rfl).q) (fun a w hF hW => ?_)
    refine ls_nil (c_then ?_)
    refine c_cond hF rfl (fun hb => ?_) (fun hb => ?_)
    ·
     have H := iteT hb H
     rw [hb] at hF
     clear hb
     refine c_seq (reg_list ?_)
     refine ls hF hW rfl ((y_assign hF rfl).q) (fun a w hF hW => ?_)
     refine ls_nil (c_then ?_)
     refine wp_ret ?_
     refine r_block ?_
     refine r_then ?_
     have H := Option.some.inj H
     subst H
     refine post1 (.inl rfl) hF hW rfl (rv_tmp hF rfl) ?_
     exact ⟨rfl, hW.done⟩
    ·
     have H := iteF (by rw [hb]; decide) H
     rw [hb] at hF
     clear hb
     refine c_seq (reg_list ?_)
     refine ls hF hW rfl ((y_move hF rfl).q) (fun a w hF hW => ?_)
     refine ls hF hW rfl ((y_fgtr hF rfl rfl).q) (fun a w hF hW => ?_)
     refine ls hF hW rfl ((y_assign hF rfl).q) (fun a w hF hW => ?_)
     refine ls_nil (c_then ?_)
     refine c_cond hF rfl (fun hb => ?_) (fun hb => ?_)
     ·
      have H := iteT hb H
      rw [hb] at hF
      clear hb
      refine c_seq (reg_list ?_)
      refine ls hF hW rfl ((y_assign hF rfl).q) (fun a w hF hW => ?_)
      refine ls_nil (c_then ?_)
      refine wp_ret ?_
      refine r_block ?_
      refine r_then ?_
      have H := Option.some.inj H
      subst H
      refine post1 (.inl rfl) hF hW rfl (rv_tmp hF rfl) ?_
      exact ⟨rfl, hW.done⟩
     ·
      have H := iteF (by rw [hb]; decide) H
      rw [hb] at hF
      clear hb
      refine c_seq (reg_list ?_)
      refine ls hF hW rfl ((y_move hF rfl).q) (fun a w hF hW => ?_)
      refine ls hF hW rfl (y_call (v := Value.bool (math_Signbit p0)) hF H53 rfl (fun w hW => math_Signbit_c any w p0 _ rfl)) (fun a w hF hW => ?_)
      refine ls hF hW rfl ((y_assign hF rfl).q) (fun a w hF hW => ?_)
      refine ls_nil (c_then ?_)
      refine c_cond hF rfl (fun hb => ?_) (fun hb => ?_)
      ·
       have H := iteT hb H
       rw [hb] at hF
       clear hb
       refine c_seq (reg_list ?_)
       refine ls hF hW rfl ((y_assign hF rfl).q) (fun a w hF hW => ?_)
       refine ls_nil (c_then ?_)
       refine wp_ret ?_
       refine r_block ?_
       refine r_then ?_
       have H := Option.some.inj H
       subst H
       refine post1 (.inl rfl) hF hW rfl (rv_tmp hF rfl) ?_
       exact ⟨rfl, hW.done⟩
      ·
       have H := iteF (by rw [hb]; decide) H
       rw [hb] at hF
       clear hb
       refine wp_skip ?_
       refine b_normal ?_
       refine c_then ?_
       refine c_seq (reg_list ?_)
       refine ls hF hW rfl ((y_assign hF rfl).q) (fun a w hF hW => ?_)
       refine ls_nil (c_then ?_)
       refine wp_ret ?_
       have H := Option.some.inj H
       subst H
       refine post1 (.inl rfl) hF hW rfl (rv_tmp hF rfl) ?_
       exact ⟨rfl, hW.done⟩

theorem H36 : Has Try.prog 36 := ⟨fun args w => run_callFunc_body Try.func36 rfl (by decide) args w⟩
noncomputable def meter_isNaN (p0 : Nat) : Option Bool := (float_Class p0).bind fun x1 => some (decide (x1 = 0))
theorem meter_isNaN_c (Y : Nat → Prop) (w0 : World)  (p0 : Nat) (r : Bool) (H : meter_isNaN p0 = some r)  :
    Calls Try.prog 41 #[.float .f64 p0] w0 fun e w' => e = .returned (.bool r) ∧ Below w0.heap.size w0 w' := by
 refine enter Try.func41 rfl Try.ntmps41 rfl (fun a hF => ?_)
 have hW := Stw.start Y w0
 unfold meter_isNaN at H
 refine c_seq (reg_list ?_)
 refine ls hF hW rfl ((y_assign hF rfl).q) (fun a w hF hW => ?_)
 refine ls_nil (c_then ?_)
 refine c_seq (reg_list ?_)
 refine ls hF hW rfl ((y_move hF rfl).q) (fun a w hF hW => ?_)
 obtain ⟨x1, h1, H⟩ := bindE H
 refine ls hF hW rfl (y_call (v := Value.int .i64 x1) hF H36 rfl (fun w hW => float_Class_c any w p0 _ h1)) (fun a w hF hW => ?_)
 refine ls hF hW rfl ((y_eql hF rfl rfl).q) (fun a w hF hW => ?_)
 refine ls hF hW rfl ((y_assign hF rfl).q) (fun a w hF hW => ?_)
 refine ls_nil (c_then ?_)
 refine wp_ret ?_
 have H := Option.some.inj H
 subst H
 refine post1 (.inl rfl) hF hW rfl (rv_tmp hF rfl) ?_
 exact ⟨rfl, hW.done⟩

theorem H41 : Has Try.prog 41 := ⟨fun args w => run_callFunc_body Try.func41 rfl (by decide) args w⟩
noncomputable def meter_Mix (p0 : Nat) (p1 : Nat) (p2 : Nat) : Option Nat := (meter_isNaN p0).bind fun x1 => (if x1 = true then some (float_Clean p1) else ((meter_isNaN p1).bind fun x3 => (if x3 = true then some true else (meter_isNaN p2).bind fun x4 => (if x4 = true then some true else some (fLt p2 0 || fEq p2 0)))).bind fun x2 => (if x2 = true then some p0 else (if (fGt p2 4607182418800017408 || fEq p2 4607182418800017408) = true then some p1 else some (float_Clean (fadd (fmul p0 (fsub 4607182418800017408 p2)) (fmul p1 p2))))))
theorem meter_Mix_c (Y : Nat → Prop) (w0 : World)  (p0 : Nat) (p1 : Nat) (p2 : Nat) (r : Nat) (H : meter_Mix p0 p1 p2 = some r)  :
    Calls Try.prog 11 #[.float .f64 p0, .float .f64 p1, .float .f64 p2] w0 fun e w' => e = .returned (.float .f64 r) ∧ Below w0.heap.size w0 w' := by
 refine enter Try.func11 rfl Try.ntmps11 rfl (fun a hF => ?_)
 have hW := Stw.start Y w0
 unfold meter_Mix at H
 refine c_seq (reg_list ?_)
 refine ls hF hW rfl ((y_assign hF rfl).q) (fun a w hF hW => ?_)
 refine ls_nil (c_then ?_)
 refine c_seq ?_
 refine wp_block ?_
 refine c_seq (reg_list ?_)
 refine ls hF hW rfl ((y_move hF rfl).q) (fun a w hF hW => ?_)
 obtain ⟨x1, h1, H⟩ := bindE H
 refine ls hF hW rfl (y_call (v := Value.bool x1) hF H41 rfl (fun w hW => meter_isNaN_c any w p0 _ h1)) (fun a w hF hW => ?_)
 refine ls hF hW rfl ((y_assign hF rfl).q) (fun a w hF hW => ?_)
 refine ls_nil (c_then ?_)
 refine c_cond hF rfl (fun hb => ?_) (fun hb => ?_)
 ·
  have H := iteT hb H
  rw [hb] at hF
  clear hb
  refine c_seq (reg_list ?_)
  refine ls hF hW rfl ((y_move hF rfl).q) (fun a w hF hW => ?_)
  refine ls hF hW rfl (y_call (v := Value.float .f64 (float_Clean p1)) hF H39 rfl (fun w hW => float_Clean_c any w p1 _ rfl)) (fun a w hF hW => ?_)
  refine ls hF hW rfl ((y_assign hF rfl).q) (fun a w hF hW => ?_)
  refine ls_nil (c_then ?_)
  refine wp_ret ?_
  refine r_block ?_
  refine r_then ?_
  have H := Option.some.inj H
  subst H
  refine post1 (.inl rfl) hF hW rfl (rv_tmp hF rfl) ?_
  exact ⟨rfl, hW.done⟩
 ·
  have H := iteF (by rw [hb]; decide) H
  rw [hb] at hF
  clear hb
  obtain ⟨o1, G1, K1⟩ := bindE H
  refine c_seqJ (fun a w => ∃ x2 : Bool, some (x2) = some o1 ∧ Fr 33 [] [(0, .float .f64 p0), (1, .float .f64 p1), (2, .float .f64 p2), (6, .float .f64 0), (12, .bool x2)] a ∧ Stw ⟨Y, [], w0⟩ [] [] w) ?_ ?_
  ·
   have H := G1
   clear G1 K1
   refine c_seq (reg_list ?_)
   refine ls hF hW rfl ((y_move hF rfl).q) (fun a w hF hW => ?_)
   obtain ⟨x3, h2, H⟩ := bindE H
   refine ls hF hW rfl (y_call (v := Value.bool x3) hF H41 rfl (fun w hW => meter_isNaN_c any w p1 _ h2)) (fun a w hF hW => ?_)
   refine ls hF hW rfl ((y_assign hF rfl).q) (fun a w hF hW => ?_)
   refine ls_nil (c_then ?_)
   refine c_cond hF rfl (fun hb => ?_) (fun hb => ?_)
   ·
    have H := iteT hb H
    rw [hb] at hF
    clear hb
    refine wp_skip ?_
    refine c_then ?_
    exact ⟨_, H, hF.re ⟨rfl, rfl, rfl, rfl, rfl, trivial⟩, hW⟩
   ·
    have H := iteF (by rw [hb]; decide) H
    rw [hb] at hF
    clear hb
    refine c_seq (reg_list ?_)
    refine ls hF hW rfl ((y_move hF rfl).q) (fun a w hF hW => ?_)
    obtain ⟨x4, h3, H⟩ := bindE H
    refine ls hF hW rfl (y_call (v := Value.bool x4) hF H41 rfl (fun w hW => meter_isNaN_c any w p2 _ h3)) (fun a w hF hW => ?_)
    refine ls hF hW rfl ((y_assign hF rfl).q) (fun a w hF hW => ?_)
    refine ls_nil (c_then ?_)
    refine c_cond hF rfl (fun hb => ?_) (fun hb => ?_)
    ·
     have H := iteT hb H
     rw [hb] at hF
     clear hb
     refine wp_skip ?_
     refine c_then ?_
     exact ⟨_, H, hF.re ⟨rfl, rfl, rfl, rfl, rfl, trivial⟩, hW⟩
    ·
     have H := iteF (by rw [hb]; decide) H
     rw [hb] at hF
     clear hb
     refine reg_list ?_
     refine ls hF hW rfl ((y_move hF rfl).q) (fun a w hF hW => ?_)
     refine ls hF hW rfl ((y_fleq hF rfl rfl).q) (fun a w hF hW => ?_)
     refine ls hF hW rfl ((y_assign hF rfl).q) (fun a w hF hW => ?_)
     refine ls_nil (c_then ?_)
     exact ⟨_, H, hF.re ⟨rfl, rfl, rfl, rfl, rfl, trivial⟩, hW⟩
  rintro a w ⟨x2, hj, hF, hW⟩
  have hj := Option.some.inj hj
  subst hj
  have H := K1
  clear G1 K1
  refine c_cond hF rfl (fun hb => ?_) (fun hb => ?_)
  ·
   have H := iteT hb H
   rw [hb] at hF
   clear hb
   refine c_seq (reg_list ?_)
   refine ls hF hW rfl ((y_move hF rfl).q) (fun a w hF hW => ?_)
   refine ls hF hW rfl ((y_assign hF rfl).q) (fun a w hF hW => ?_)
   refine ls_nil (c_then ?_)
   refine wp_ret ?_
   refine r_block ?_
   refine r_then ?_
   have H := Option.some.inj H
   subst H
   refine post1 (.inl rfl) hF hW rfl (rv_tmp hF rfl) ?_
   exact ⟨rfl, hW.done⟩
  ·
   have H := iteF (by rw [hb]; decide) H
   rw [hb] at hF
   clear hb
   refine c_seq (reg_list ?_)
   refine ls hF hW rfl ((y_move hF rfl).q) (fun a w hF hW => ?_)
   refine ls hF hW rfl ((y_fgeq hF rfl rfl).q) (fun a w hF hW => ?_)
   refine ls hF hW rfl ((y_assign hF rfl).q) (fun a w hF hW => ?_)
   refine ls_nil (c_then ?_)
   refine c_cond hF rfl (fun hb => ?_) (fun hb => ?_)
   ·
    have H := iteT hb H
    rw [hb] at hF
    clear hb
    refine c_seq (reg_list ?_)
    refine ls hF hW rfl ((y_move hF rfl).q) (fun a w hF hW => ?_)
    refine ls hF hW rfl ((y_assign hF rfl).q) (fun a w hF hW => ?_)
    refine ls_nil (c_then ?_)
    refine wp_ret ?_
    refine r_block ?_
    refine r_then ?_
    have H := Option.some.inj H
    subst H
    refine post1 (.inl rfl) hF hW rfl (rv_tmp hF rfl) ?_
    exact ⟨rfl, hW.done⟩
   ·
    have H := iteF (by rw [hb]; decide) H
    rw [hb] at hF
    clear hb
    refine wp_skip ?_
    refine b_normal ?_
    refine c_then ?_
    refine c_seq (reg_list ?_)
    iterate 2 refine ls hF hW rfl ((y_move hF rfl).q) (fun a w hF hW => ?_)
    refine l_fsub hF hW rfl rfl rfl (fun b1 a w c_b1 hF hW => ?_)
    refine l_fmul hF hW rfl rfl rfl (fun b2 a w c_b2 hF hW => ?_)
    have c_b2 := fmul_cf rfl c_b1 c_b2
    iterate 2 refine ls hF hW rfl ((y_move hF rfl).q) (fun a w hF hW => ?_)
    refine l_fmul hF hW rfl rfl rfl (fun b3 a w c_b3 hF hW => ?_)
    refine l_fadd hF hW rfl rfl rfl (fun b4 a w c_b4 hF hW => ?_)
    have c_b4 := fadd_cf c_b2 c_b3 c_b4
    refine ls hF hW rfl (y_call (v := Value.float .f64 (float_Clean b4)) hF H39 rfl (fun w hW => float_Clean_c any w b4 _ rfl)) (fun a w hF hW => ?_)
    rw [float_Clean_cf c_b4] at hF
    refine ls hF hW rfl ((y_assign hF rfl).q) (fun a w hF hW => ?_)
    refine ls_nil (c_then ?_)
    refine wp_ret ?_
    have H := Option.some.inj H
    subst H
    refine post1 (.inl rfl) hF hW rfl (rv_tmp hF rfl) ?_
    exact ⟨rfl, hW.done⟩

theorem H11 : Has Try.prog 11 := ⟨fun args w => run_callFunc_body Try.func11 rfl (by decide) args w⟩
noncomputable def meter_Meter_Close (p0 : Nat × Nat × Int × Int) (p1 : Int) : Option (Nat × Nat × Int × Int) := (if (decide (p1 ≤ p0.2.2.2) || decide (1125899906842624 < p1)) = true then some p0 else (meter_Mix p0.2.1 (meter_Rate p0.2.2.1 (w64 (p1 - p0.2.2.2))) p0.1).bind fun x1 => some (p0.1, x1, 0, p1))
theorem meter_Meter_Close_c (Y : Nat → Prop) (X : List Nat) (w0 : World) (q_p0 : Nat) (p0 : Nat × Nat × Int × Int) (p1 : Int) (r : (Nat × Nat × Int × Int)) (H : meter_Meter_Close p0 p1 = some r) (hL : Stw ⟨Y, X, w0⟩ [(q_p0, [.float .f64 p0.1, .float .f64 p0.2.1, .int .i64 p0.2.2.1, .int .i64 p0.2.2.2])] [] w0) :
    Calls Try.prog 29 #[.pointer (some ⟨q_p0, 0, none⟩), .int .i64 p1] w0 fun e w' => ∃ x : Unit, e = .returned (.tuple #[]) ∧ Stw ⟨Y, X, w0⟩ [(q_p0, [.float .f64 r.1, .float .f64 r.2.1, .int .i64 r.2.2.1, .int .i64 r.2.2.2])] [] w' := by
 refine enter Try.func29 rfl Try.ntmps29 rfl (fun a hF => ?_)
 have hW := hL
 unfold meter_Meter_Close at H
 refine c_seq ?_
 refine c_seqJ (fun a w => Fr 48 [] [(0, .pointer (some ⟨q_p0, 0, none⟩)), (1, .int .i64 p1), (17, .bool (decide (p1 ≤ p0.2.2.2) || decide (1125899906842624 < p1)))] a ∧ Stw ⟨Y, X, w0⟩ [(q_p0, [.float .f64 p0.1, .float .f64 p0.2.1, .int .i64 p0.2.2.1, .int .i64 p0.2.2.2])] [] w) ?_ ?_
 ·
  refine reg_list ?_
  refine ls hF hW rfl ((y_move hF rfl).q) (fun a w hF hW => ?_)
  refine ls hF hW rfl ((y_peq_some_nil u45_ hF rfl rfl).q) (fun a w hF hW => ?_)
  refine ls hF hW rfl ((y_move hF rfl).q) (fun a w hF hW => ?_)
  iterate 2 refine ls_w hF hW (wanted_y hF rfl rfl rfl rfl) rfl (Nat.le_of_ble_eq_true rfl) ((y_move hF rfl).q) (fun a w hF hW => ?_)
  refine ls_w hF hW (wanted_y hF rfl rfl rfl rfl) rfl (Nat.le_of_ble_eq_true rfl) ((y_nilCheck hF rfl).q) (fun a w hF hW => ?_)
  refine ls_w hF hW (wanted_y hF rfl rfl rfl rfl) rfl (Nat.le_of_ble_eq_true rfl) ((y_fieldAddr u67_ rfl rfl rfl T3 hF rfl 3 rfl).q) (fun a w hF hW => ?_)
  refine ls_w hF hW (wanted_y hF rfl rfl rfl rfl) rfl (Nat.le_of_ble_eq_true rfl) ((y_load (v := Value.int .i64 p0.2.2.2) 0 hF rfl rfl T3 rfl).q) (fun a w hF hW => ?_)
  refine ls_w hF hW (wanted_y hF rfl rfl rfl rfl) rfl (Nat.le_of_ble_eq_true rfl) ((y_leq hF rfl rfl).q) (fun a w hF hW => ?_)
  refine ls hF hW rfl ((y_pick_f hF rfl rfl rfl).q) (fun a w hF hW => ?_)
  refine ls hF hW rfl ((y_move hF rfl).q) (fun a w hF hW => ?_)
  rcases Bool.eq_false_or_eq_true (decide (p1 ≤ p0.2.2.2)) with hb0 | hb0
  ·
   rw [hb0] at hF
   iterate 2 refine lsn hF rfl rfl rfl rfl rfl rfl rfl (fun a hF => ?_)
   refine ls hF hW rfl ((y_pick_t hF rfl rfl rfl).q) (fun a w hF hW => ?_)
   refine ls_nil (c_then ?_)
   exact ⟨hF.re ⟨rfl, rfl, (by show some (Value.bool true) = some (Value.bool (decide (p1 ≤ p0.2.2.2) || decide (1125899906842624 < p1))); try rw [hb0]; all_goals simp only [Bool.not_true, Bool.not_false, Bool.true_and, Bool.false_and, Bool.true_or, Bool.false_or, Bool.and_true, Bool.or_false, cond_true, cond_false]), trivial⟩, hW⟩
  ·
   rw [hb0] at hF
   refine ls_w hF hW (wanted_y hF rfl rfl rfl rfl) rfl (Nat.le_of_ble_eq_true rfl) ((y_move hF rfl).q) (fun a w hF hW => ?_)
   refine ls_w hF hW (wanted_y hF rfl rfl rfl rfl) rfl (Nat.le_of_ble_eq_true rfl) ((y_gtr hF rfl rfl).q) (fun a w hF hW => ?_)
   refine ls hF hW rfl ((y_pick_f hF rfl rfl rfl).q) (fun a w hF hW => ?_)
   refine ls_nil (c_then ?_)
   exact ⟨hF.re ⟨rfl, rfl, (by show some (Value.bool (decide (1125899906842624 < p1))) = some (Value.bool (decide (p1 ≤ p0.2.2.2) || decide (1125899906842624 < p1))); try rw [hb0]; all_goals simp only [Bool.not_true, Bool.not_false, Bool.true_and, Bool.false_and, Bool.true_or, Bool.false_or, Bool.and_true, Bool.or_false, cond_true, cond_false]), trivial⟩, hW⟩
 rintro a w ⟨hF, hW⟩
 refine c_cond hF rfl (fun hb => ?_) (fun hb => ?_)
 ·
  have H := iteT hb H
  rw [hb] at hF
  clear hb
  refine wp_ret ?_
  refine r_then ?_
  have H := Option.some.inj H
  subst H
  refine post0 (.inl rfl) hF rfl ?_
  exact ⟨(), rfl, hW⟩
 ·
  have H := iteF (by rw [hb]; decide) H
  rw [hb] at hF
  clear hb
  refine wp_skip ?_
  refine c_then ?_
  refine c_seq ?_
  refine reg_tail 23 hW MO (by kernel_rfl) ?_
  iterate 2 refine qs hF rfl ((y_move hF rfl).q) (fun a hF => ?_)
  refine qs hF rfl ((y_nilCheck hF rfl).q) (fun a hF => ?_)
  refine qs hF rfl ((y_fieldAddr u67_ rfl rfl rfl T25 hF rfl 1 rfl).q) (fun a hF => ?_)
  refine qs hF rfl ((y_load (v := Value.float .f64 p0.2.1) 0 hF rfl rfl T25 rfl).q) (fun a hF => ?_)
  refine qs hF rfl ((y_move hF rfl).q) (fun a hF => ?_)
  refine qs hF rfl ((y_nilCheck hF rfl).q) (fun a hF => ?_)
  refine qs hF rfl ((y_fieldAddr u67_ rfl rfl rfl T3 hF rfl 2 rfl).q) (fun a hF => ?_)
  refine qs hF rfl ((y_load (v := Value.int .i64 p0.2.2.1) 0 hF rfl rfl T3 rfl).q) (fun a hF => ?_)
  iterate 2 refine qs hF rfl ((y_move hF rfl).q) (fun a hF => ?_)
  refine qs hF rfl ((y_nilCheck hF rfl).q) (fun a hF => ?_)
  refine qs hF rfl ((y_fieldAddr u67_ rfl rfl rfl T3 hF rfl 3 rfl).q) (fun a hF => ?_)
  refine qs hF rfl ((y_load (v := Value.int .i64 p0.2.2.2) 0 hF rfl rfl T3 rfl).q) (fun a hF => ?_)
  refine qs hF rfl ((y_sub hF rfl rfl rfl).q) (fun a hF => ?_)
  refine qs hF rfl (y_call (v := Value.float .f64 (meter_Rate p0.2.2.1 (w64 (p1 - p0.2.2.2)))) hF H9 rfl (fun w hW => meter_Rate_c any w p0.2.2.1 (w64 (p1 - p0.2.2.2)) _ rfl)) (fun a hF => ?_)
  refine qs hF rfl ((y_move hF rfl).q) (fun a hF => ?_)
  refine qs hF rfl ((y_nilCheck hF rfl).q) (fun a hF => ?_)
  refine qs hF rfl ((y_fieldAddr u67_ rfl rfl rfl T25 hF rfl 0 rfl).q) (fun a hF => ?_)
  refine qs hF rfl ((y_load (v := Value.float .f64 p0.1) 0 hF rfl rfl T25 rfl).q) (fun a hF => ?_)
  obtain ⟨x1, h1, H⟩ := bindE H
  refine qs hF rfl (y_call (v := Value.float .f64 x1) hF H11 rfl (fun w hW => meter_Mix_c any w p0.2.1 (meter_Rate p0.2.2.1 (w64 (p1 - p0.2.2.2))) p0.1 _ h1)) (fun a hF => ?_)
  refine qs hF rfl ((y_nilCheck hF rfl).q) (fun a hF => ?_)
  refine qs hF rfl ((y_fieldAddr u67_ rfl rfl rfl T25 hF rfl 1 rfl).q) (fun a hF => ?_)
  refine quiet_end (fun w hW => ?_)
  refine l_store (vs := [.float .f64 x1]) (M' := [(q_p0, [.float .f64 p0.1, .float .f64 x1, .int .i64 p0.2.2.1, .int .i64 p0.2.2.2])]) 0 hF hW rfl rfl rfl T25 rfl rfl rfl rfl rfl (fun w hW => ?_)
  refine ls_nil (c_then ?_)
  refine reg_list ?_
  iterate 3 refine ls hF hW rfl ((y_move hF rfl).q) (fun a w hF hW => ?_)
  refine ls hF hW rfl ((y_nilCheck hF rfl).q) (fun a w hF hW => ?_)
  refine ls hF hW rfl ((y_fieldAddr u67_ rfl rfl rfl T3 hF rfl 2 rfl).q) (fun a w hF hW => ?_)
  refine l_store (vs := [.int .i64 0]) (M' := [(q_p0, [.float .f64 p0.1, .float .f64 x1, .int .i64 0, .int .i64 p0.2.2.2])]) 0 hF hW rfl rfl rfl T3 rfl rfl rfl rfl rfl (fun w hW => ?_)
  refine ls hF hW rfl ((y_nilCheck hF rfl).q) (fun a w hF hW => ?_)
  refine ls hF hW rfl ((y_fieldAddr u67_ rfl rfl rfl T3 hF rfl 3 rfl).q) (fun a w hF hW => ?_)
  refine l_store (vs := [.int .i64 p1]) (M' := [(q_p0, [.float .f64 p0.1, .float .f64 x1, .int .i64 0, .int .i64 p1])]) 0 hF hW rfl rfl rfl T3 rfl rfl rfl rfl rfl (fun w hW => ?_)
  refine ls_nil ?_
  have H := Option.some.inj H
  subst H
  refine post0 (.inr rfl) hF rfl ?_
  exact ⟨(), rfl, hW⟩

theorem H29 : Has Try.prog 29 := ⟨fun args w => run_callFunc_body Try.func29 rfl (by decide) args w⟩
def meter_Meter_Value (p0 : Nat × Nat × Int × Int) : Nat := p0.2.1
theorem meter_Meter_Value_c (Y : Nat → Prop) (w0 : World) (q_p0 : Nat) (p0 : Nat × Nat × Int × Int) (r : Nat) (H : meter_Meter_Value p0 = r) (a_q_p0 : At ⟨Y, [], w0⟩ q_p0 0 [.float .f64 p0.1, .float .f64 p0.2.1, .int .i64 p0.2.2.1, .int .i64 p0.2.2.2]) :
    Calls Try.prog 31 #[.pointer (some ⟨q_p0, 0, none⟩)] w0 fun e w' => e = .returned (.float .f64 r) ∧ Below w0.heap.size w0 w' := by
 refine enter Try.func31 rfl Try.ntmps31 rfl (fun a hF => ?_)
 have hW := Stw.start Y w0
 unfold meter_Meter_Value at H
 refine c_seq (reg_list ?_)
 refine ls hF hW rfl ((y_assign hF rfl).q) (fun a w hF hW => ?_)
 refine ls_nil (c_then ?_)
 refine c_seq ?_
 refine c_seq (reg_list ?_)
 refine ls hF hW rfl ((y_move hF rfl).q) (fun a w hF hW => ?_)
 refine ls hF hW rfl ((y_peq_some_nil u45_ hF rfl rfl).q) (fun a w hF hW => ?_)
 refine ls_nil (c_then ?_)
 refine c_cond_f hF rfl ?_
 refine wp_skip ?_
 refine c_then ?_
 refine c_seq (reg_list ?_)
 refine ls hF hW rfl ((y_move hF rfl).q) (fun a w hF hW => ?_)
 refine ls hF hW rfl ((y_nilCheck hF rfl).q) (fun a w hF hW => ?_)
 refine ls hF hW rfl ((y_fieldAddr u67_ rfl rfl rfl T25 hF rfl 1 rfl).q) (fun a w hF hW => ?_)
 refine ls hF hW rfl ((y_load_at (y := Value.float .f64 p0.2.1) (j := 1) hF rfl (Nat.zero_add _).symm a_q_p0 T25 rfl).q) (fun a w hF hW => ?_)
 refine ls hF hW rfl ((y_assign hF rfl).q) (fun a w hF hW => ?_)
 refine ls_nil (c_then ?_)
 refine wp_ret ?_
 subst H
 refine post1 (.inl rfl) hF hW rfl (rv_tmp hF rfl) ?_
 exact ⟨rfl, hW.done⟩

theorem H31 : Has Try.prog 31 := ⟨fun args w => run_callFunc_body Try.func31 rfl (by decide) args w⟩
def meter_Meter_Since (p0 : Nat × Nat × Int × Int) : Int := p0.2.2.2
theorem meter_Meter_Since_c (Y : Nat → Prop) (w0 : World) (q_p0 : Nat) (p0 : Nat × Nat × Int × Int) (r : Int) (H : meter_Meter_Since p0 = r) (a_q_p0 : At ⟨Y, [], w0⟩ q_p0 0 [.float .f64 p0.1, .float .f64 p0.2.1, .int .i64 p0.2.2.1, .int .i64 p0.2.2.2]) :
    Calls Try.prog 33 #[.pointer (some ⟨q_p0, 0, none⟩)] w0 fun e w' => e = .returned (.int .i64 r) ∧ Below w0.heap.size w0 w' := by
 refine enter Try.func33 rfl Try.ntmps33 rfl (fun a hF => ?_)
 have hW := Stw.start Y w0
 unfold meter_Meter_Since at H
 refine c_seq (reg_list ?_)
 refine ls hF hW rfl ((y_assign hF rfl).q) (fun a w hF hW => ?_)
 refine ls_nil (c_then ?_)
 refine c_seq ?_
 refine c_seq (reg_list ?_)
 refine ls hF hW rfl ((y_move hF rfl).q) (fun a w hF hW => ?_)
 refine ls hF hW rfl ((y_peq_some_nil u45_ hF rfl rfl).q) (fun a w hF hW => ?_)
 refine ls_nil (c_then ?_)
 refine c_cond_f hF rfl ?_
 refine wp_skip ?_
 refine c_then ?_
 refine c_seq (reg_list ?_)
 refine ls hF hW rfl ((y_move hF rfl).q) (fun a w hF hW => ?_)
 refine ls hF hW rfl ((y_nilCheck hF rfl).q) (fun a w hF hW => ?_)
 refine ls hF hW rfl ((y_fieldAddr u67_ rfl rfl rfl T3 hF rfl 3 rfl).q) (fun a w hF hW => ?_)
 refine ls hF hW rfl ((y_load_at (y := Value.int .i64 p0.2.2.2) (j := 3) hF rfl (Nat.zero_add _).symm a_q_p0 T3 rfl).q) (fun a w hF hW => ?_)
 refine ls hF hW rfl ((y_assign hF rfl).q) (fun a w hF hW => ?_)
 refine ls_nil (c_then ?_)
 refine wp_ret ?_
 subst H
 refine post1 (.inl rfl) hF hW rfl (rv_tmp hF rfl) ?_
 exact ⟨rfl, hW.done⟩

theorem H33 : Has Try.prog 33 := ⟨fun args w => run_callFunc_body Try.func33 rfl (by decide) args w⟩
noncomputable def L43_awake  : Option Bool := (meter_Meter_Close (meter_Meter_Count (meter_New 4602678819172646912) 4) 2).bind fun x1 => (meter_Meter_Close x1 4).bind fun x2 => (if (fEq (meter_Meter_Value x1) 4611686018427387904) = true then (if (fEq (meter_Meter_Value x2) 4607182418800017408) = true then (float_Class (meter_Rate 0 0)).bind fun x4 => (if x4 = 0 then (float_Class (meter_Rate (-1) 0)).bind fun x5 => (if x5 = 1 then some (decide ((meter_Meter_Since x2) = 4)) else some false) else some false) else some false) else some false).bind fun x3 => some x3
theorem L43_awake_c (Y : Nat → Prop) (w0 : World)   (r : Bool) (H : L43_awake  = some r)  :
    Calls Try.prog 7 #[] w0 fun e w' => e = .returned (.bool r) ∧ Below w0.heap.size w0 w' := by
 refine enter Try.func7 rfl Try.ntmps7 rfl (fun a hF => ?_)
 have hW := Stw.start Y w0
 unfold L43_awake at H
 refine c_seq (reg_list ?_)
 refine ls hF hW rfl ((y_assign hF rfl).q) (fun a w hF hW => ?_)
 refine ls_nil (c_then ?_)
 refine c_seq (reg_list ?_)
 refine l_callG (Ml := []) (Zl := []) (M := []) (Z := []) (β := Nat) (rv := fun x => .pointer (some ⟨x, 0, none⟩)) (MM := fun x => [(x, [.float .f64 ((meter_New 4602678819172646912).1), .float .f64 ((meter_New 4602678819172646912).2.1), .int .i64 ((meter_New 4602678819172646912).2.2.1), .int .i64 ((meter_New 4602678819172646912).2.2.2)])]) (ZZ := fun x => []) hF hW H25 rfl rfl (fun hL => meter_New_c _ w 4602678819172646912 _ rfl) (fun x a w hF hW => ?_)
 obtain ⟨b1, rfl⟩ : ∃ y, y = x := ⟨x, rfl⟩
 have hW : Stw ⟨Y, [], w0⟩ [(b1, [.float .f64 ((meter_New 4602678819172646912).1), .float .f64 ((meter_New 4602678819172646912).2.1), .int .i64 ((meter_New 4602678819172646912).2.2.1), .int .i64 ((meter_New 4602678819172646912).2.2.2)])] [] w := hW
 refine ls hF hW rfl ((y_assign hF rfl).q) (fun a w hF hW => ?_)
 refine ls_nil (c_then ?_)
 refine c_seq (reg_list ?_)
 refine ls hF hW rfl ((y_move hF rfl).q) (fun a w hF hW => ?_)
 refine l_callG (Ml := [(b1, [.float .f64 ((meter_New 4602678819172646912).1), .float .f64 ((meter_New 4602678819172646912).2.1), .int .i64 ((meter_New 4602678819172646912).2.2.1), .int .i64 ((meter_New 4602678819172646912).2.2.2)])]) (Zl := []) (M := []) (Z := []) (β := Unit) (rv := fun x => .tuple #[]) (MM := fun x => [(b1, [.float .f64 ((meter_Meter_Count (meter_New 4602678819172646912) 4).1), .float .f64 ((meter_Meter_Count (meter_New 4602678819172646912) 4).2.1), .int .i64 ((meter_Meter_Count (meter_New 4602678819172646912) 4).2.2.1), .int .i64 ((meter_Meter_Count (meter_New 4602678819172646912) 4).2.2.2)])]) (ZZ := fun x => []) hF hW H27 rfl rfl (fun hL => meter_Meter_Count_c _ _ w b1 (meter_New 4602678819172646912) 4 _ rfl hL) (fun x a w hF hW => ?_)
 have hW : Stw ⟨Y, [], w0⟩ [(b1, [.float .f64 ((meter_Meter_Count (meter_New 4602678819172646912) 4).1), .float .f64 ((meter_Meter_Count (meter_New 4602678819172646912) 4).2.1), .int .i64 ((meter_Meter_Count (meter_New 4602678819172646912) 4).2.2.1), .int .i64 ((meter_Meter_Count (meter_New 4602678819172646912) 4).2.2.2)])] [] w := hW
 refine ls_nil (c_then ?_)
 refine c_seq (reg_list ?_)
 refine ls hF hW rfl ((y_move hF rfl).q) (fun a w hF hW => ?_)
 obtain ⟨x1, h1, H⟩ := bindE H
 refine l_callG (Ml := [(b1, [.float .f64 ((meter_Meter_Count (meter_New 4602678819172646912) 4).1), .float .f64 ((meter_Meter_Count (meter_New 4602678819172646912) 4).2.1), .int .i64 ((meter_Meter_Count (meter_New 4602678819172646912) 4).2.2.1), .int .i64 ((meter_Meter_Count (meter_New 4602678819172646912) 4).2.2.2)])]) (Zl := []) (M := []) (Z := []) (β := Unit) (rv := fun x => .tuple #[]) (MM := fun x => [(b1, [.float .f64 x1.1, .float .f64 x1.2.1, .int .i64 x1.2.2.1, .int .i64 x1.2.2.2])]) (ZZ := fun x => []) hF hW H29 rfl rfl (fun hL => meter_Meter_Close_c _ _ w b1 (meter_Meter_Count (meter_New 4602678819172646912) 4) 2 _ h1 hL) (fun x a w hF hW => ?_)
 have hW : Stw ⟨Y, [], w0⟩ [(b1, [.float .f64 x1.1, .float .f64 x1.2.1, .int .i64 x1.2.2.1, .int .i64 x1.2.2.2])] [] w := hW
 refine ls_nil (c_then ?_)
 refine c_seq (reg_list ?_)
 refine ls hF hW rfl ((y_move hF rfl).q) (fun a w hF hW => ?_)
 refine ls hF hW rfl (y_call (v := Value.float .f64 (meter_Meter_Value x1)) hF H31 rfl (fun w hW => meter_Meter_Value_c any w b1 x1 _ rfl (at_M hW 0 rfl))) (fun a w hF hW => ?_)
 refine ls hF hW rfl ((y_assign hF rfl).q) (fun a w hF hW => ?_)
 refine ls_nil (c_then ?_)
 refine c_seq (reg_list ?_)
 refine ls hF hW rfl ((y_move hF rfl).q) (fun a w hF hW => ?_)
 obtain ⟨x2, h2, H⟩ := bindE H
 refine l_callG (Ml := [(b1, [.float .f64 x1.1, .float .f64 x1.2.1, .int .i64 x1.2.2.1, .int .i64 x1.2.2.2])]) (Zl := []) (M := []) (Z := []) (β := Unit) (rv := fun x => .tuple #[]) (MM := fun x => [(b1, [.float .f64 x2.1, .float .f64 x2.2.1, .int .i64 x2.2.2.1, .int .i64 x2.2.2.2])]) (ZZ := fun x => []) hF hW H29 rfl rfl (fun hL => meter_Meter_Close_c _ _ w b1 x1 4 _ h2 hL) (fun x a w hF hW => ?_)
 have hW : Stw ⟨Y, [], w0⟩ [(b1, [.float .f64 x2.1, .float .f64 x2.2.1, .int .i64 x2.2.2.1, .int .i64 x2.2.2.2])] [] w := hW
 refine ls_nil (c_then ?_)
 obtain ⟨o1, G1, K1⟩ := bindE H
 refine c_seqJ (fun a w => ∃ x3 : Bool, some (x3) = some o1 ∧ Fr 34 [] [(0, .bool x3)] a ∧ Stw ⟨Y, [], w0⟩ [(b1, [.float .f64 x2.1, .float .f64 x2.2.1, .int .i64 x2.2.2.1, .int .i64 x2.2.2.2])] [] w) ?_ ?_
 ·
  have H := G1
  clear G1 K1
  refine reg_list ?_
  refine ls hF hW rfl ((y_move hF rfl).q) (fun a w hF hW => ?_)
  refine ls hF hW rfl ((y_feql hF rfl rfl).q) (fun a w hF hW => ?_)
  refine ls hF hW rfl ((y_move hF rfl).q) (fun a w hF hW => ?_)
  rcases Bool.eq_false_or_eq_true (fEq (meter_Meter_Value x1) 4611686018427387904) with hb | hb
  ·
   have H := iteT hb H
   rw [hb] at hF
   clear hb
   refine ls_w hF hW (wanted_y hF rfl rfl rfl rfl) rfl (Nat.le_of_ble_eq_true rfl) ((y_move hF rfl).q) (fun a w hF hW => ?_)
   refine ls_g (wanted_y hF rfl rfl rfl rfl) ?_
   refine ls hF hW rfl (y_call (v := Value.float .f64 (meter_Meter_Value x2)) hF H31 rfl (fun w hW => meter_Meter_Value_c any w b1 x2 _ rfl (at_M hW 0 rfl))) (fun a w hF hW => ?_)
   refine ls_w hF hW (wanted_y hF rfl rfl rfl rfl) rfl (Nat.le_of_ble_eq_true rfl) ((y_feql hF rfl rfl).q) (fun a w hF hW => ?_)
   refine ls hF hW rfl ((y_pick_t hF rfl rfl rfl).q) (fun a w hF hW => ?_)
   refine ls hF hW rfl ((y_move hF rfl).q) (fun a w hF hW => ?_)
   rcases Bool.eq_false_or_eq_true (fEq (meter_Meter_Value x2) 4607182418800017408) with hb | hb
   ·
    have H := iteT hb H
    rw [hb] at hF
    clear hb
    refine ls_g (wanted_y hF rfl rfl rfl rfl) ?_
    refine ls hF hW rfl (y_call (v := Value.float .f64 (meter_Rate 0 0)) hF H9 rfl (fun w hW => meter_Rate_c any w 0 0 _ rfl)) (fun a w hF hW => ?_)
    refine ls_g (wanted_y hF rfl rfl rfl rfl) ?_
    obtain ⟨x4, h3, H⟩ := bindE H
    refine ls hF hW rfl (y_call (v := Value.int .i64 x4) hF H36 rfl (fun w hW => float_Class_c any w (meter_Rate 0 0) _ h3)) (fun a w hF hW => ?_)
    refine ls_w hF hW (wanted_y hF rfl rfl rfl rfl) rfl (Nat.le_of_ble_eq_true rfl) ((y_eql hF rfl rfl).q) (fun a w hF hW => ?_)
    refine ls hF hW rfl ((y_pick_t hF rfl rfl rfl).q) (fun a w hF hW => ?_)
    refine ls hF hW rfl ((y_move hF rfl).q) (fun a w hF hW => ?_)
    rcases Bool.eq_false_or_eq_true (decide (x4 = 0)) with hb | hb
    ·
     have H := iteT (of_decide_eq_true hb) H
     rw [hb] at hF
     clear hb
     refine ls_g (wanted_y hF rfl rfl rfl rfl) ?_
     refine ls hF hW rfl (y_call (v := Value.float .f64 (meter_Rate (-1) 0)) hF H9 rfl (fun w hW => meter_Rate_c any w (-1) 0 _ rfl)) (fun a w hF hW => ?_)
     refine ls_g (wanted_y hF rfl rfl rfl rfl) ?_
     obtain ⟨x5, h4, H⟩ := bindE H
     refine ls hF hW rfl (y_call (v := Value.int .i64 x5) hF H36 rfl (fun w hW => float_Class_c any w (meter_Rate (-1) 0) _ h4)) (fun a w hF hW => ?_)
     refine ls_w hF hW (wanted_y hF rfl rfl rfl rfl) rfl (Nat.le_of_ble_eq_true rfl) ((y_eql hF rfl rfl).q) (fun a w hF hW => ?_)
     refine ls hF hW rfl ((y_pick_t hF rfl rfl rfl).q) (fun a w hF hW => ?_)
     refine ls hF hW rfl ((y_move hF rfl).q) (fun a w hF hW => ?_)
     rcases Bool.eq_false_or_eq_true (decide (x5 = 1)) with hb | hb
     ·
      have H := iteT (of_decide_eq_true hb) H
      rw [hb] at hF
      clear hb
      refine ls_w hF hW (wanted_y hF rfl rfl rfl rfl) rfl (Nat.le_of_ble_eq_true rfl) ((y_move hF rfl).q) (fun a w hF hW => ?_)
      refine ls_g (wanted_y hF rfl rfl rfl rfl) ?_
      refine ls hF hW rfl (y_call (v := Value.int .i64 (meter_Meter_Since x2)) hF H33 rfl (fun w hW => meter_Meter_Since_c any w b1 x2 _ rfl (at_M hW 0 rfl))) (fun a w hF hW => ?_)
      refine ls_w hF hW (wanted_y hF rfl rfl rfl rfl) rfl (Nat.le_of_ble_eq_true rfl) ((y_eql hF rfl rfl).q) (fun a w hF hW => ?_)
      refine ls hF hW rfl ((y_pick_t hF rfl rfl rfl).q) (fun a w hF hW => ?_)
      refine ls hF hW rfl ((y_assign hF rfl).q) (fun a w hF hW => ?_)
      refine ls_nil (c_then ?_)
      exact ⟨_, H, hF.re ⟨rfl, trivial⟩, hW⟩
     ·
      have H := iteF (of_decide_eq_false hb) H
      rw [hb] at hF
      clear hb
      iterate 3 refine lsn hF rfl rfl rfl rfl rfl rfl rfl (fun a hF => ?_)
      refine ls hF hW rfl ((y_pick_f hF rfl rfl rfl).q) (fun a w hF hW => ?_)
      refine ls hF hW rfl ((y_assign hF rfl).q) (fun a w hF hW => ?_)
      refine ls_nil (c_then ?_)
      exact ⟨_, H, hF.re ⟨rfl, trivial⟩, hW⟩
    ·
     have H := iteF (of_decide_eq_false hb) H
     rw [hb] at hF
     clear hb
     iterate 3 refine lsn hF rfl rfl rfl rfl rfl rfl rfl (fun a hF => ?_)
     refine ls hF hW rfl ((y_pick_f hF rfl rfl rfl).q) (fun a w hF hW => ?_)
     refine ls hF hW rfl ((y_move hF rfl).q) (fun a w hF hW => ?_)
     iterate 3 refine lsn hF rfl rfl rfl rfl rfl rfl rfl (fun a hF => ?_)
     refine ls hF hW rfl ((y_pick_f hF rfl rfl rfl).q) (fun a w hF hW => ?_)
     refine ls hF hW rfl ((y_assign hF rfl).q) (fun a w hF hW => ?_)
     refine ls_nil (c_then ?_)
     exact ⟨_, H, hF.re ⟨rfl, trivial⟩, hW⟩
   ·
    have H := iteF (by rw [hb]; decide) H
    rw [hb] at hF
    clear hb
    iterate 3 refine lsn hF rfl rfl rfl rfl rfl rfl rfl (fun a hF => ?_)
    refine ls hF hW rfl ((y_pick_f hF rfl rfl rfl).q) (fun a w hF hW => ?_)
    refine ls hF hW rfl ((y_move hF rfl).q) (fun a w hF hW => ?_)
    iterate 3 refine lsn hF rfl rfl rfl rfl rfl rfl rfl (fun a hF => ?_)
    refine ls hF hW rfl ((y_pick_f hF rfl rfl rfl).q) (fun a w hF hW => ?_)
    refine ls hF hW rfl ((y_move hF rfl).q) (fun a w hF hW => ?_)
    iterate 3 refine lsn hF rfl rfl rfl rfl rfl rfl rfl (fun a hF => ?_)
    refine ls hF hW rfl ((y_pick_f hF rfl rfl rfl).q) (fun a w hF hW => ?_)
    refine ls hF hW rfl ((y_assign hF rfl).q) (fun a w hF hW => ?_)
    refine ls_nil (c_then ?_)
    exact ⟨_, H, hF.re ⟨rfl, trivial⟩, hW⟩
  ·
   have H := iteF (by rw [hb]; decide) H
   rw [hb] at hF
   clear hb
   iterate 3 refine lsn hF rfl rfl rfl rfl rfl rfl rfl (fun a hF => ?_)
   refine ls hF hW rfl ((y_pick_f hF rfl rfl rfl).q) (fun a w hF hW => ?_)
   refine ls hF hW rfl ((y_move hF rfl).q) (fun a w hF hW => ?_)
   iterate 3 refine lsn hF rfl rfl rfl rfl rfl rfl rfl (fun a hF => ?_)
   refine ls hF hW rfl ((y_pick_f hF rfl rfl rfl).q) (fun a w hF hW => ?_)
   refine ls hF hW rfl ((y_move hF rfl).q) (fun a w hF hW => ?_)
   iterate 3 refine lsn hF rfl rfl rfl rfl rfl rfl rfl (fun a hF => ?_)
   refine ls hF hW rfl ((y_pick_f hF rfl rfl rfl).q) (fun a w hF hW => ?_)
   refine ls hF hW rfl ((y_move hF rfl).q) (fun a w hF hW => ?_)
   iterate 3 refine lsn hF rfl rfl rfl rfl rfl rfl rfl (fun a hF => ?_)
   refine ls hF hW rfl ((y_pick_f hF rfl rfl rfl).q) (fun a w hF hW => ?_)
   refine ls hF hW rfl ((y_assign hF rfl).q) (fun a w hF hW => ?_)
   refine ls_nil (c_then ?_)
   exact ⟨_, H, hF.re ⟨rfl, trivial⟩, hW⟩
 rintro a w ⟨x3, hj, hF, hW⟩
 have hj := Option.some.inj hj
 subst hj
 have H := K1
 clear G1 K1
 refine wp_ret ?_
 have H := Option.some.inj H
 subst H
 refine post1 (.inl rfl) hF hW rfl (rv_tmp hF rfl) ?_
 exact ⟨rfl, hW.done⟩

theorem H7 : Has Try.prog 7 := ⟨fun args w => run_callFunc_body Try.func7 rfl (by decide) args w⟩
def float_Cost (p0 : Nat) : Bool := (fGt p0 0 || fEq p0 0)
theorem float_Cost_c (Y : Nat → Prop) (w0 : World)  (p0 : Nat) (r : Bool) (H : float_Cost p0 = r)  :
    Calls Try.prog 34 #[.float .f64 p0] w0 fun e w' => e = .returned (.bool r) ∧ Below w0.heap.size w0 w' := by
 refine enter Try.func34 rfl Try.ntmps34 rfl (fun a hF => ?_)
 have hW := Stw.start Y w0
 unfold float_Cost at H
 refine c_seq (reg_list ?_)
 refine ls hF hW rfl ((y_assign hF rfl).q) (fun a w hF hW => ?_)
 refine ls_nil (c_then ?_)
 refine c_seq (reg_list ?_)
 refine ls hF hW rfl ((y_move hF rfl).q) (fun a w hF hW => ?_)
 refine ls hF hW rfl ((y_fgeq hF rfl rfl).q) (fun a w hF hW => ?_)
 refine ls hF hW rfl ((y_assign hF rfl).q) (fun a w hF hW => ?_)
 refine ls_nil (c_then ?_)
 refine wp_ret ?_
 subst H
 refine post1 (.inl rfl) hF hW rfl (rv_tmp hF rfl) ?_
 exact ⟨rfl, hW.done⟩

theorem H34 : Has Try.prog 34 := ⟨fun args w => run_callFunc_body Try.func34 rfl (by decide) args w⟩
noncomputable def L43_MeterBetween (p0 : Int) (p1 : Int) (p2 : Int) : Option Bool := (if (!(r03_Cost p0) || (!(r03_Cost p1) || (!(r03_Cost p2) || (bif decide (9218868437227405312 ≤ p0) then (decide (p0 ≠ 9223372036854775808) || (bif decide (9218868437227405312 ≤ p1) then (decide (p1 ≠ 9223372036854775808) || fGt (L43_raw p2) 4607182418800017408) else fGt (L43_raw p2) 4607182418800017408)) else (bif decide (9218868437227405312 ≤ p1) then (decide (p1 ≠ 9223372036854775808) || fGt (L43_raw p2) 4607182418800017408) else fGt (L43_raw p2) 4607182418800017408))))) = true then (L43_awake).bind fun x1 => some x1 else (meter_Mix (L43_raw p0) (L43_raw p1) (L43_raw p2)).bind fun x2 => (meter_Mix (L43_raw p0) (L43_raw p0) (L43_raw p2)).bind fun x3 => (if (float_Cost x2) = true then (if (fGt x3 0 || fEq x3 0) = true then (if (fLt x3 (fadd (L43_raw p0) (L43_raw p0)) || fEq x3 (fadd (L43_raw p0) (L43_raw p0))) = true then (L43_awake).bind fun x5 => some x5 else some false) else some false) else some false).bind fun x4 => some x4)
theorem L43_MeterBetween_c (Y : Nat → Prop) (w0 : World)  (p0 : Int) (p1 : Int) (p2 : Int) (r : Bool) (H : L43_MeterBetween p0 p1 p2 = some r)  :
    Calls Try.prog 6 #[.int .u64 p0, .int .u64 p1, .int .u64 p2] w0 fun e w' => e = .returned (.bool r) ∧ Below w0.heap.size w0 w' := by
 refine enter Try.func6 rfl Try.ntmps6 rfl (fun a hF => ?_)
 have hW := Stw.start Y w0
 unfold L43_MeterBetween at H
 refine c_seq (reg_list ?_)
 refine ls hF hW rfl ((y_assign hF rfl).q) (fun a w hF hW => ?_)
 refine ls_nil (c_then ?_)
 refine c_seq (reg_list ?_)
 refine ls hF hW rfl ((y_move hF rfl).q) (fun a w hF hW => ?_)
 refine ls hF hW rfl (y_call (v := Value.float .f64 (L43_raw p0)) hF H12 rfl (fun w hW => L43_raw_c any w p0 _ rfl)) (fun a w hF hW => ?_)
 refine ls hF hW rfl ((y_move hF rfl).q) (fun a w hF hW => ?_)
 refine ls hF hW rfl (y_call (v := Value.float .f64 (L43_raw p1)) hF H12 rfl (fun w hW => L43_raw_c any w p1 _ rfl)) (fun a w hF hW => ?_)
 refine ls hF hW rfl ((y_move hF rfl).q) (fun a w hF hW => ?_)
 refine ls hF hW rfl (y_call (v := Value.float .f64 (L43_raw p2)) hF H12 rfl (fun w hW => L43_raw_c any w p2 _ rfl)) (fun a w hF hW => ?_)
 iterate 3 refine ls hF hW rfl ((y_assign hF rfl).q) (fun a w hF hW => ?_)
 refine ls_nil (c_then ?_)
 refine c_seq ?_
 refine c_seqJ (fun a w => Fr 76 [] [(6, .bool false), (7, .float .f64 (L43_raw p0)), (8, .float .f64 (L43_raw p1)), (9, .float .f64 (L43_raw p2)), (50, .bool (!(r03_Cost p0) || (!(r03_Cost p1) || (!(r03_Cost p2) || (bif decide (9218868437227405312 ≤ p0) then (decide (p0 ≠ 9223372036854775808) || (bif decide (9218868437227405312 ≤ p1) then (decide (p1 ≠ 9223372036854775808) || fGt (L43_raw p2) 4607182418800017408) else fGt (L43_raw p2) 4607182418800017408)) else (bif decide (9218868437227405312 ≤ p1) then (decide (p1 ≠ 9223372036854775808) || fGt (L43_raw p2) 4607182418800017408) else fGt (L43_raw p2) 4607182418800017408))))))] a ∧ Stw ⟨Y, [], w0⟩ [] [] w) ?_ ?_
 ·
  refine reg_list ?_
  refine ls hF hW rfl ((y_move hF rfl).q) (fun a w hF hW => ?_)
  refine ls hF hW rfl (y_call (v := Value.bool (r03_Cost p0)) hF H35 rfl (fun w hW => r03_Cost_c any w p0 _ rfl)) (fun a w hF hW => ?_)
  refine ls hF hW rfl ((y_not hF rfl).q) (fun a w hF hW => ?_)
  refine ls hF hW rfl ((y_move hF rfl).q) (fun a w hF hW => ?_)
  rcases Bool.eq_false_or_eq_true (!(r03_Cost p0)) with hb0 | hb0
  ·
   rw [hb0] at hF
   iterate 3 refine lsn hF rfl rfl rfl rfl rfl rfl rfl (fun a hF => ?_)
   refine ls hF hW rfl ((y_pick_t hF rfl rfl rfl).q) (fun a w hF hW => ?_)
   refine ls hF hW rfl ((y_move hF rfl).q) (fun a w hF hW => ?_)
   iterate 3 refine lsn hF rfl rfl rfl rfl rfl rfl rfl (fun a hF => ?_)
   refine ls hF hW rfl ((y_pick_t hF rfl rfl rfl).q) (fun a w hF hW => ?_)
   refine ls hF hW rfl ((y_move hF rfl).q) (fun a w hF hW => ?_)
   iterate 3 refine lsn hF rfl rfl rfl rfl rfl rfl rfl (fun a hF => ?_)
   iterate 2 refine lsu hF rfl rfl rfl rfl rfl rfl (fun a hF => ?_)
   refine lsn hF rfl rfl rfl rfl rfl rfl rfl (fun a hF => ?_)
   refine ls hF hW rfl ((y_pick_t hF rfl rfl rfl).q) (fun a w hF hW => ?_)
   refine ls hF hW rfl ((y_move hF rfl).q) (fun a w hF hW => ?_)
   iterate 3 refine lsn hF rfl rfl rfl rfl rfl rfl rfl (fun a hF => ?_)
   iterate 2 refine lsu hF rfl rfl rfl rfl rfl rfl (fun a hF => ?_)
   refine lsn hF rfl rfl rfl rfl rfl rfl rfl (fun a hF => ?_)
   refine ls hF hW rfl ((y_pick_t hF rfl rfl rfl).q) (fun a w hF hW => ?_)
   refine ls hF hW rfl ((y_move hF rfl).q) (fun a w hF hW => ?_)
   iterate 2 refine lsn hF rfl rfl rfl rfl rfl rfl rfl (fun a hF => ?_)
   refine ls hF hW rfl ((y_pick_t hF rfl rfl rfl).q) (fun a w hF hW => ?_)
   refine ls_nil (c_then ?_)
   exact ⟨hF.re ⟨rfl, rfl, rfl, rfl, (by show some (Value.bool true) = some (Value.bool (!(r03_Cost p0) || (!(r03_Cost p1) || (!(r03_Cost p2) || (bif decide (9218868437227405312 ≤ p0) then (decide (p0 ≠ 9223372036854775808) || (bif decide (9218868437227405312 ≤ p1) then (decide (p1 ≠ 9223372036854775808) || fGt (L43_raw p2) 4607182418800017408) else fGt (L43_raw p2) 4607182418800017408)) else (bif decide (9218868437227405312 ≤ p1) then (decide (p1 ≠ 9223372036854775808) || fGt (L43_raw p2) 4607182418800017408) else fGt (L43_raw p2) 4607182418800017408)))))); try rw [hb0]; all_goals simp only [Bool.not_true, Bool.not_false, Bool.true_and, Bool.false_and, Bool.true_or, Bool.false_or, Bool.and_true, Bool.or_false, cond_true, cond_false]), trivial⟩, hW⟩
  ·
   rw [hb0] at hF
   refine ls_w hF hW (wanted_y hF rfl rfl rfl rfl) rfl (Nat.le_of_ble_eq_true rfl) ((y_move hF rfl).q) (fun a w hF hW => ?_)
   refine ls_g (wanted_y hF rfl rfl rfl rfl) ?_
   refine ls hF hW rfl (y_call (v := Value.bool (r03_Cost p1)) hF H35 rfl (fun w hW => r03_Cost_c any w p1 _ rfl)) (fun a w hF hW => ?_)
   refine ls_w hF hW (wanted_y hF rfl rfl rfl rfl) rfl (Nat.le_of_ble_eq_true rfl) ((y_not hF rfl).q) (fun a w hF hW => ?_)
   refine ls hF hW rfl ((y_pick_f hF rfl rfl rfl).q) (fun a w hF hW => ?_)
   refine ls hF hW rfl ((y_move hF rfl).q) (fun a w hF hW => ?_)
   rcases Bool.eq_false_or_eq_true (!(r03_Cost p1)) with hb1 | hb1
   ·
    rw [hb1] at hF
    iterate 3 refine lsn hF rfl rfl rfl rfl rfl rfl rfl (fun a hF => ?_)
    refine ls hF hW rfl ((y_pick_t hF rfl rfl rfl).q) (fun a w hF hW => ?_)
    refine ls hF hW rfl ((y_move hF rfl).q) (fun a w hF hW => ?_)
    iterate 3 refine lsn hF rfl rfl rfl rfl rfl rfl rfl (fun a hF => ?_)
    iterate 2 refine lsu hF rfl rfl rfl rfl rfl rfl (fun a hF => ?_)
    refine lsn hF rfl rfl rfl rfl rfl rfl rfl (fun a hF => ?_)
    refine ls hF hW rfl ((y_pick_t hF rfl rfl rfl).q) (fun a w hF hW => ?_)
    refine ls hF hW rfl ((y_move hF rfl).q) (fun a w hF hW => ?_)
    iterate 3 refine lsn hF rfl rfl rfl rfl rfl rfl rfl (fun a hF => ?_)
    iterate 2 refine lsu hF rfl rfl rfl rfl rfl rfl (fun a hF => ?_)
    refine lsn hF rfl rfl rfl rfl rfl rfl rfl (fun a hF => ?_)
    refine ls hF hW rfl ((y_pick_t hF rfl rfl rfl).q) (fun a w hF hW => ?_)
    refine ls hF hW rfl ((y_move hF rfl).q) (fun a w hF hW => ?_)
    iterate 2 refine lsn hF rfl rfl rfl rfl rfl rfl rfl (fun a hF => ?_)
    refine ls hF hW rfl ((y_pick_t hF rfl rfl rfl).q) (fun a w hF hW => ?_)
    refine ls_nil (c_then ?_)
    exact ⟨hF.re ⟨rfl, rfl, rfl, rfl, (by show some (Value.bool true) = some (Value.bool (!(r03_Cost p0) || (!(r03_Cost p1) || (!(r03_Cost p2) || (bif decide (9218868437227405312 ≤ p0) then (decide (p0 ≠ 9223372036854775808) || (bif decide (9218868437227405312 ≤ p1) then (decide (p1 ≠ 9223372036854775808) || fGt (L43_raw p2) 4607182418800017408) else fGt (L43_raw p2) 4607182418800017408)) else (bif decide (9218868437227405312 ≤ p1) then (decide (p1 ≠ 9223372036854775808) || fGt (L43_raw p2) 4607182418800017408) else fGt (L43_raw p2) 4607182418800017408)))))); try rw [hb0]; try rw [hb1]; all_goals simp only [Bool.not_true, Bool.not_false, Bool.true_and, Bool.false_and, Bool.true_or, Bool.false_or, Bool.and_true, Bool.or_false, cond_true, cond_false]), trivial⟩, hW⟩
   ·
    rw [hb1] at hF
    refine ls_w hF hW (wanted_y hF rfl rfl rfl rfl) rfl (Nat.le_of_ble_eq_true rfl) ((y_move hF rfl).q) (fun a w hF hW => ?_)
    refine ls_g (wanted_y hF rfl rfl rfl rfl) ?_
    refine ls hF hW rfl (y_call (v := Value.bool (r03_Cost p2)) hF H35 rfl (fun w hW => r03_Cost_c any w p2 _ rfl)) (fun a w hF hW => ?_)
    refine ls_w hF hW (wanted_y hF rfl rfl rfl rfl) rfl (Nat.le_of_ble_eq_true rfl) ((y_not hF rfl).q) (fun a w hF hW => ?_)
    refine ls hF hW rfl ((y_pick_f hF rfl rfl rfl).q) (fun a w hF hW => ?_)
    refine ls hF hW rfl ((y_move hF rfl).q) (fun a w hF hW => ?_)
    rcases Bool.eq_false_or_eq_true (!(r03_Cost p2)) with hb2 | hb2
    ·
     rw [hb2] at hF
     iterate 3 refine lsn hF rfl rfl rfl rfl rfl rfl rfl (fun a hF => ?_)
     iterate 2 refine lsu hF rfl rfl rfl rfl rfl rfl (fun a hF => ?_)
     refine lsn hF rfl rfl rfl rfl rfl rfl rfl (fun a hF => ?_)
     refine ls hF hW rfl ((y_pick_t hF rfl rfl rfl).q) (fun a w hF hW => ?_)
     refine ls hF hW rfl ((y_move hF rfl).q) (fun a w hF hW => ?_)
     iterate 3 refine lsn hF rfl rfl rfl rfl rfl rfl rfl (fun a hF => ?_)
     iterate 2 refine lsu hF rfl rfl rfl rfl rfl rfl (fun a hF => ?_)
     refine lsn hF rfl rfl rfl rfl rfl rfl rfl (fun a hF => ?_)
     refine ls hF hW rfl ((y_pick_t hF rfl rfl rfl).q) (fun a w hF hW => ?_)
     refine ls hF hW rfl ((y_move hF rfl).q) (fun a w hF hW => ?_)
     iterate 2 refine lsn hF rfl rfl rfl rfl rfl rfl rfl (fun a hF => ?_)
     refine ls hF hW rfl ((y_pick_t hF rfl rfl rfl).q) (fun a w hF hW => ?_)
     refine ls_nil (c_then ?_)
     exact ⟨hF.re ⟨rfl, rfl, rfl, rfl, (by show some (Value.bool true) = some (Value.bool (!(r03_Cost p0) || (!(r03_Cost p1) || (!(r03_Cost p2) || (bif decide (9218868437227405312 ≤ p0) then (decide (p0 ≠ 9223372036854775808) || (bif decide (9218868437227405312 ≤ p1) then (decide (p1 ≠ 9223372036854775808) || fGt (L43_raw p2) 4607182418800017408) else fGt (L43_raw p2) 4607182418800017408)) else (bif decide (9218868437227405312 ≤ p1) then (decide (p1 ≠ 9223372036854775808) || fGt (L43_raw p2) 4607182418800017408) else fGt (L43_raw p2) 4607182418800017408)))))); try rw [hb0]; try rw [hb1]; try rw [hb2]; all_goals simp only [Bool.not_true, Bool.not_false, Bool.true_and, Bool.false_and, Bool.true_or, Bool.false_or, Bool.and_true, Bool.or_false, cond_true, cond_false]), trivial⟩, hW⟩
    ·
     rw [hb2] at hF
     refine ls_w hF hW (wanted_y hF rfl rfl rfl rfl) rfl (Nat.le_of_ble_eq_true rfl) ((y_move hF rfl).q) (fun a w hF hW => ?_)
     refine ls_w hF hW (wanted_y hF rfl rfl rfl rfl) rfl (Nat.le_of_ble_eq_true rfl) ((y_geq hF rfl rfl).q) (fun a w hF hW => ?_)
     refine ls_w hF hW (wanted_y hF rfl rfl rfl rfl) rfl (Nat.le_of_ble_eq_true rfl) ((y_move hF rfl).q) (fun a w hF hW => ?_)
     rcases Bool.eq_false_or_eq_true (decide (9218868437227405312 ≤ p0)) with hb3 | hb3
     ·
      rw [hb3] at hF
      refine ls_w hF hW (wanted_y hF rfl rfl rfl rfl) rfl (Nat.le_of_ble_eq_true rfl) ((y_move hF rfl).q) (fun a w hF hW => ?_)
      refine ls_w hF hW (wanted_y hF rfl rfl rfl rfl) rfl (Nat.le_of_ble_eq_true rfl) ((y_neq hF rfl rfl).q) (fun a w hF hW => ?_)
      refine ls_w hF hW (wanted_y hF rfl rfl rfl rfl) rfl (Nat.le_of_ble_eq_true rfl) ((y_pick_t hF rfl rfl rfl).q) (fun a w hF hW => ?_)
      refine ls hF hW rfl ((y_pick_f hF rfl rfl rfl).q) (fun a w hF hW => ?_)
      refine ls hF hW rfl ((y_move hF rfl).q) (fun a w hF hW => ?_)
      rcases Bool.eq_false_or_eq_true (decide (p0 ≠ 9223372036854775808)) with hb4 | hb4
      ·
       rw [hb4] at hF
       iterate 3 refine lsn hF rfl rfl rfl rfl rfl rfl rfl (fun a hF => ?_)
       iterate 2 refine lsu hF rfl rfl rfl rfl rfl rfl (fun a hF => ?_)
       refine lsn hF rfl rfl rfl rfl rfl rfl rfl (fun a hF => ?_)
       refine ls hF hW rfl ((y_pick_t hF rfl rfl rfl).q) (fun a w hF hW => ?_)
       refine ls hF hW rfl ((y_move hF rfl).q) (fun a w hF hW => ?_)
       iterate 2 refine lsn hF rfl rfl rfl rfl rfl rfl rfl (fun a hF => ?_)
       refine ls hF hW rfl ((y_pick_t hF rfl rfl rfl).q) (fun a w hF hW => ?_)
       refine ls_nil (c_then ?_)
       exact ⟨hF.re ⟨rfl, rfl, rfl, rfl, (by show some (Value.bool true) = some (Value.bool (!(r03_Cost p0) || (!(r03_Cost p1) || (!(r03_Cost p2) || (bif decide (9218868437227405312 ≤ p0) then (decide (p0 ≠ 9223372036854775808) || (bif decide (9218868437227405312 ≤ p1) then (decide (p1 ≠ 9223372036854775808) || fGt (L43_raw p2) 4607182418800017408) else fGt (L43_raw p2) 4607182418800017408)) else (bif decide (9218868437227405312 ≤ p1) then (decide (p1 ≠ 9223372036854775808) || fGt (L43_raw p2) 4607182418800017408) else fGt (L43_raw p2) 4607182418800017408)))))); try rw [hb3]; try rw [hb4]; try rw [hb0]; try rw [hb1]; try rw [hb2]; all_goals simp only [Bool.not_true, Bool.not_false, Bool.true_and, Bool.false_and, Bool.true_or, Bool.false_or, Bool.and_true, Bool.or_false, cond_true, cond_false]), trivial⟩, hW⟩
      ·
       rw [hb4] at hF
       refine ls_w hF hW (wanted_y hF rfl rfl rfl rfl) rfl (Nat.le_of_ble_eq_true rfl) ((y_move hF rfl).q) (fun a w hF hW => ?_)
       refine ls_w hF hW (wanted_y hF rfl rfl rfl rfl) rfl (Nat.le_of_ble_eq_true rfl) ((y_geq hF rfl rfl).q) (fun a w hF hW => ?_)
       refine ls_w hF hW (wanted_y hF rfl rfl rfl rfl) rfl (Nat.le_of_ble_eq_true rfl) ((y_move hF rfl).q) (fun a w hF hW => ?_)
       rcases Bool.eq_false_or_eq_true (decide (9218868437227405312 ≤ p1)) with hb5 | hb5
       ·
        rw [hb5] at hF
        refine ls_w hF hW (wanted_y hF rfl rfl rfl rfl) rfl (Nat.le_of_ble_eq_true rfl) ((y_move hF rfl).q) (fun a w hF hW => ?_)
        refine ls_w hF hW (wanted_y hF rfl rfl rfl rfl) rfl (Nat.le_of_ble_eq_true rfl) ((y_neq hF rfl rfl).q) (fun a w hF hW => ?_)
        refine ls_w hF hW (wanted_y hF rfl rfl rfl rfl) rfl (Nat.le_of_ble_eq_true rfl) ((y_pick_t hF rfl rfl rfl).q) (fun a w hF hW => ?_)
        refine ls hF hW rfl ((y_pick_f hF rfl rfl rfl).q) (fun a w hF hW => ?_)
        refine ls hF hW rfl ((y_move hF rfl).q) (fun a w hF hW => ?_)
        rcases Bool.eq_false_or_eq_true (decide (p1 ≠ 9223372036854775808)) with hb6 | hb6
        ·
         rw [hb6] at hF
         iterate 2 refine lsn hF rfl rfl rfl rfl rfl rfl rfl (fun a hF => ?_)
         refine ls hF hW rfl ((y_pick_t hF rfl rfl rfl).q) (fun a w hF hW => ?_)
         refine ls_nil (c_then ?_)
         exact ⟨hF.re ⟨rfl, rfl, rfl, rfl, (by show some (Value.bool true) = some (Value.bool (!(r03_Cost p0) || (!(r03_Cost p1) || (!(r03_Cost p2) || (bif decide (9218868437227405312 ≤ p0) then (decide (p0 ≠ 9223372036854775808) || (bif decide (9218868437227405312 ≤ p1) then (decide (p1 ≠ 9223372036854775808) || fGt (L43_raw p2) 4607182418800017408) else fGt (L43_raw p2) 4607182418800017408)) else (bif decide (9218868437227405312 ≤ p1) then (decide (p1 ≠ 9223372036854775808) || fGt (L43_raw p2) 4607182418800017408) else fGt (L43_raw p2) 4607182418800017408)))))); try rw [hb3]; try rw [hb4]; try rw [hb5]; try rw [hb6]; try rw [hb0]; try rw [hb1]; try rw [hb2]; all_goals simp only [Bool.not_true, Bool.not_false, Bool.true_and, Bool.false_and, Bool.true_or, Bool.false_or, Bool.and_true, Bool.or_false, cond_true, cond_false]), trivial⟩, hW⟩
        ·
         rw [hb6] at hF
         refine ls_w hF hW (wanted_y hF rfl rfl rfl rfl) rfl (Nat.le_of_ble_eq_true rfl) ((y_move hF rfl).q) (fun a w hF hW => ?_)
         refine ls_w hF hW (wanted_y hF rfl rfl rfl rfl) rfl (Nat.le_of_ble_eq_true rfl) ((y_fgtr hF rfl rfl).q) (fun a w hF hW => ?_)
         refine ls hF hW rfl ((y_pick_f hF rfl rfl rfl).q) (fun a w hF hW => ?_)
         refine ls_nil (c_then ?_)
         exact ⟨hF.re ⟨rfl, rfl, rfl, rfl, (by show some (Value.bool (fGt (L43_raw p2) 4607182418800017408)) = some (Value.bool (!(r03_Cost p0) || (!(r03_Cost p1) || (!(r03_Cost p2) || (bif decide (9218868437227405312 ≤ p0) then (decide (p0 ≠ 9223372036854775808) || (bif decide (9218868437227405312 ≤ p1) then (decide (p1 ≠ 9223372036854775808) || fGt (L43_raw p2) 4607182418800017408) else fGt (L43_raw p2) 4607182418800017408)) else (bif decide (9218868437227405312 ≤ p1) then (decide (p1 ≠ 9223372036854775808) || fGt (L43_raw p2) 4607182418800017408) else fGt (L43_raw p2) 4607182418800017408)))))); try rw [hb3]; try rw [hb4]; try rw [hb5]; try rw [hb6]; try rw [hb0]; try rw [hb1]; try rw [hb2]; all_goals simp only [Bool.not_true, Bool.not_false, Bool.true_and, Bool.false_and, Bool.true_or, Bool.false_or, Bool.and_true, Bool.or_false, cond_true, cond_false]), trivial⟩, hW⟩
       ·
        rw [hb5] at hF
        iterate 2 refine lsn hF rfl rfl rfl rfl rfl rfl rfl (fun a hF => ?_)
        refine ls_w hF hW (wanted_y hF rfl rfl rfl rfl) rfl (Nat.le_of_ble_eq_true rfl) ((y_pick_f hF rfl rfl rfl).q) (fun a w hF hW => ?_)
        refine ls hF hW rfl ((y_pick_f hF rfl rfl rfl).q) (fun a w hF hW => ?_)
        refine ls hF hW rfl ((y_move hF rfl).q) (fun a w hF hW => ?_)
        refine ls_w hF hW (wanted_y hF rfl rfl rfl rfl) rfl (Nat.le_of_ble_eq_true rfl) ((y_move hF rfl).q) (fun a w hF hW => ?_)
        refine ls_w hF hW (wanted_y hF rfl rfl rfl rfl) rfl (Nat.le_of_ble_eq_true rfl) ((y_fgtr hF rfl rfl).q) (fun a w hF hW => ?_)
        refine ls hF hW rfl ((y_pick_f hF rfl rfl rfl).q) (fun a w hF hW => ?_)
        refine ls_nil (c_then ?_)
        exact ⟨hF.re ⟨rfl, rfl, rfl, rfl, (by show some (Value.bool (fGt (L43_raw p2) 4607182418800017408)) = some (Value.bool (!(r03_Cost p0) || (!(r03_Cost p1) || (!(r03_Cost p2) || (bif decide (9218868437227405312 ≤ p0) then (decide (p0 ≠ 9223372036854775808) || (bif decide (9218868437227405312 ≤ p1) then (decide (p1 ≠ 9223372036854775808) || fGt (L43_raw p2) 4607182418800017408) else fGt (L43_raw p2) 4607182418800017408)) else (bif decide (9218868437227405312 ≤ p1) then (decide (p1 ≠ 9223372036854775808) || fGt (L43_raw p2) 4607182418800017408) else fGt (L43_raw p2) 4607182418800017408)))))); try rw [hb3]; try rw [hb4]; try rw [hb5]; try rw [hb0]; try rw [hb1]; try rw [hb2]; all_goals simp only [Bool.not_true, Bool.not_false, Bool.true_and, Bool.false_and, Bool.true_or, Bool.false_or, Bool.and_true, Bool.or_false, cond_true, cond_false]), trivial⟩, hW⟩
     ·
      rw [hb3] at hF
      iterate 2 refine lsn hF rfl rfl rfl rfl rfl rfl rfl (fun a hF => ?_)
      refine ls_w hF hW (wanted_y hF rfl rfl rfl rfl) rfl (Nat.le_of_ble_eq_true rfl) ((y_pick_f hF rfl rfl rfl).q) (fun a w hF hW => ?_)
      refine ls hF hW rfl ((y_pick_f hF rfl rfl rfl).q) (fun a w hF hW => ?_)
      refine ls hF hW rfl ((y_move hF rfl).q) (fun a w hF hW => ?_)
      refine ls_w hF hW (wanted_y hF rfl rfl rfl rfl) rfl (Nat.le_of_ble_eq_true rfl) ((y_move hF rfl).q) (fun a w hF hW => ?_)
      refine ls_w hF hW (wanted_y hF rfl rfl rfl rfl) rfl (Nat.le_of_ble_eq_true rfl) ((y_geq hF rfl rfl).q) (fun a w hF hW => ?_)
      refine ls_w hF hW (wanted_y hF rfl rfl rfl rfl) rfl (Nat.le_of_ble_eq_true rfl) ((y_move hF rfl).q) (fun a w hF hW => ?_)
      rcases Bool.eq_false_or_eq_true (decide (9218868437227405312 ≤ p1)) with hb4 | hb4
      ·
       rw [hb4] at hF
       refine ls_w hF hW (wanted_y hF rfl rfl rfl rfl) rfl (Nat.le_of_ble_eq_true rfl) ((y_move hF rfl).q) (fun a w hF hW => ?_)
       refine ls_w hF hW (wanted_y hF rfl rfl rfl rfl) rfl (Nat.le_of_ble_eq_true rfl) ((y_neq hF rfl rfl).q) (fun a w hF hW => ?_)
       refine ls_w hF hW (wanted_y hF rfl rfl rfl rfl) rfl (Nat.le_of_ble_eq_true rfl) ((y_pick_t hF rfl rfl rfl).q) (fun a w hF hW => ?_)
       refine ls hF hW rfl ((y_pick_f hF rfl rfl rfl).q) (fun a w hF hW => ?_)
       refine ls hF hW rfl ((y_move hF rfl).q) (fun a w hF hW => ?_)
       rcases Bool.eq_false_or_eq_true (decide (p1 ≠ 9223372036854775808)) with hb5 | hb5
       ·
        rw [hb5] at hF
        iterate 2 refine lsn hF rfl rfl rfl rfl rfl rfl rfl (fun a hF => ?_)
        refine ls hF hW rfl ((y_pick_t hF rfl rfl rfl).q) (fun a w hF hW => ?_)
        refine ls_nil (c_then ?_)
        exact ⟨hF.re ⟨rfl, rfl, rfl, rfl, (by show some (Value.bool true) = some (Value.bool (!(r03_Cost p0) || (!(r03_Cost p1) || (!(r03_Cost p2) || (bif decide (9218868437227405312 ≤ p0) then (decide (p0 ≠ 9223372036854775808) || (bif decide (9218868437227405312 ≤ p1) then (decide (p1 ≠ 9223372036854775808) || fGt (L43_raw p2) 4607182418800017408) else fGt (L43_raw p2) 4607182418800017408)) else (bif decide (9218868437227405312 ≤ p1) then (decide (p1 ≠ 9223372036854775808) || fGt (L43_raw p2) 4607182418800017408) else fGt (L43_raw p2) 4607182418800017408)))))); try rw [hb3]; try rw [hb4]; try rw [hb5]; try rw [hb0]; try rw [hb1]; try rw [hb2]; all_goals simp only [Bool.not_true, Bool.not_false, Bool.true_and, Bool.false_and, Bool.true_or, Bool.false_or, Bool.and_true, Bool.or_false, cond_true, cond_false]), trivial⟩, hW⟩
       ·
        rw [hb5] at hF
        refine ls_w hF hW (wanted_y hF rfl rfl rfl rfl) rfl (Nat.le_of_ble_eq_true rfl) ((y_move hF rfl).q) (fun a w hF hW => ?_)
        refine ls_w hF hW (wanted_y hF rfl rfl rfl rfl) rfl (Nat.le_of_ble_eq_true rfl) ((y_fgtr hF rfl rfl).q) (fun a w hF hW => ?_)
        refine ls hF hW rfl ((y_pick_f hF rfl rfl rfl).q) (fun a w hF hW => ?_)
        refine ls_nil (c_then ?_)
        exact ⟨hF.re ⟨rfl, rfl, rfl, rfl, (by show some (Value.bool (fGt (L43_raw p2) 4607182418800017408)) = some (Value.bool (!(r03_Cost p0) || (!(r03_Cost p1) || (!(r03_Cost p2) || (bif decide (9218868437227405312 ≤ p0) then (decide (p0 ≠ 9223372036854775808) || (bif decide (9218868437227405312 ≤ p1) then (decide (p1 ≠ 9223372036854775808) || fGt (L43_raw p2) 4607182418800017408) else fGt (L43_raw p2) 4607182418800017408)) else (bif decide (9218868437227405312 ≤ p1) then (decide (p1 ≠ 9223372036854775808) || fGt (L43_raw p2) 4607182418800017408) else fGt (L43_raw p2) 4607182418800017408)))))); try rw [hb3]; try rw [hb4]; try rw [hb5]; try rw [hb0]; try rw [hb1]; try rw [hb2]; all_goals simp only [Bool.not_true, Bool.not_false, Bool.true_and, Bool.false_and, Bool.true_or, Bool.false_or, Bool.and_true, Bool.or_false, cond_true, cond_false]), trivial⟩, hW⟩
      ·
       rw [hb4] at hF
       iterate 2 refine lsn hF rfl rfl rfl rfl rfl rfl rfl (fun a hF => ?_)
       refine ls_w hF hW (wanted_y hF rfl rfl rfl rfl) rfl (Nat.le_of_ble_eq_true rfl) ((y_pick_f hF rfl rfl rfl).q) (fun a w hF hW => ?_)
       refine ls hF hW rfl ((y_pick_f hF rfl rfl rfl).q) (fun a w hF hW => ?_)
       refine ls hF hW rfl ((y_move hF rfl).q) (fun a w hF hW => ?_)
       refine ls_w hF hW (wanted_y hF rfl rfl rfl rfl) rfl (Nat.le_of_ble_eq_true rfl) ((y_move hF rfl).q) (fun a w hF hW => ?_)
       refine ls_w hF hW (wanted_y hF rfl rfl rfl rfl) rfl (Nat.le_of_ble_eq_true rfl) ((y_fgtr hF rfl rfl).q) (fun a w hF hW => ?_)
       refine ls hF hW rfl ((y_pick_f hF rfl rfl rfl).q) (fun a w hF hW => ?_)
       refine ls_nil (c_then ?_)
       exact ⟨hF.re ⟨rfl, rfl, rfl, rfl, (by show some (Value.bool (fGt (L43_raw p2) 4607182418800017408)) = some (Value.bool (!(r03_Cost p0) || (!(r03_Cost p1) || (!(r03_Cost p2) || (bif decide (9218868437227405312 ≤ p0) then (decide (p0 ≠ 9223372036854775808) || (bif decide (9218868437227405312 ≤ p1) then (decide (p1 ≠ 9223372036854775808) || fGt (L43_raw p2) 4607182418800017408) else fGt (L43_raw p2) 4607182418800017408)) else (bif decide (9218868437227405312 ≤ p1) then (decide (p1 ≠ 9223372036854775808) || fGt (L43_raw p2) 4607182418800017408) else fGt (L43_raw p2) 4607182418800017408)))))); try rw [hb3]; try rw [hb4]; try rw [hb0]; try rw [hb1]; try rw [hb2]; all_goals simp only [Bool.not_true, Bool.not_false, Bool.true_and, Bool.false_and, Bool.true_or, Bool.false_or, Bool.and_true, Bool.or_false, cond_true, cond_false]), trivial⟩, hW⟩
 rintro a w ⟨hF, hW⟩
 refine c_cond hF rfl (fun hb => ?_) (fun hb => ?_)
 ·
  have H := iteT hb H
  rw [hb] at hF
  clear hb
  refine c_seq (reg_list ?_)
  obtain ⟨x1, h1, H⟩ := bindE H
  refine ls hF hW rfl (y_call (v := Value.bool x1) hF H7 rfl (fun w hW => L43_awake_c any w _ h1)) (fun a w hF hW => ?_)
  refine ls hF hW rfl ((y_assign hF rfl).q) (fun a w hF hW => ?_)
  refine ls_nil (c_then ?_)
  refine wp_ret ?_
  refine r_then ?_
  have H := Option.some.inj H
  subst H
  refine post1 (.inl rfl) hF hW rfl (rv_tmp hF rfl) ?_
  exact ⟨rfl, hW.done⟩
 ·
  have H := iteF (by rw [hb]; decide) H
  rw [hb] at hF
  clear hb
  refine wp_skip ?_
  refine c_then ?_
  refine c_seq (reg_list ?_)
  iterate 3 refine ls hF hW rfl ((y_move hF rfl).q) (fun a w hF hW => ?_)
  obtain ⟨x2, h2, H⟩ := bindE H
  refine ls hF hW rfl (y_call (v := Value.float .f64 x2) hF H11 rfl (fun w hW => meter_Mix_c any w (L43_raw p0) (L43_raw p1) (L43_raw p2) _ h2)) (fun a w hF hW => ?_)
  iterate 3 refine ls hF hW rfl ((y_move hF rfl).q) (fun a w hF hW => ?_)
  obtain ⟨x3, h3, H⟩ := bindE H
  refine ls hF hW rfl (y_call (v := Value.float .f64 x3) hF H11 rfl (fun w hW => meter_Mix_c any w (L43_raw p0) (L43_raw p0) (L43_raw p2) _ h3)) (fun a w hF hW => ?_)
  iterate 2 refine ls hF hW rfl ((y_assign hF rfl).q) (fun a w hF hW => ?_)
  refine ls_nil (c_then ?_)
  obtain ⟨o1, G1, K1⟩ := bindE H
  refine c_seqJ (fun a w => ∃ x4 : Bool, some (x4) = some o1 ∧ Fr 76 [] [(6, .bool x4)] a ∧ Stw ⟨Y, [], w0⟩ [] [] w) ?_ ?_
  ·
   have H := G1
   clear G1 K1
   refine reg_list ?_
   refine ls hF hW rfl ((y_move hF rfl).q) (fun a w hF hW => ?_)
   refine ls hF hW rfl (y_call (v := Value.bool (float_Cost x2)) hF H34 rfl (fun w hW => float_Cost_c any w x2 _ rfl)) (fun a w hF hW => ?_)
   refine ls hF hW rfl ((y_move hF rfl).q) (fun a w hF hW => ?_)
   rcases Bool.eq_false_or_eq_true (float_Cost x2) with hb | hb
   ·
    have H := iteT hb H
    rw [hb] at hF
    clear hb
    refine ls_w hF hW (wanted_y hF rfl rfl rfl rfl) rfl (Nat.le_of_ble_eq_true rfl) ((y_move hF rfl).q) (fun a w hF hW => ?_)
    refine ls_w hF hW (wanted_y hF rfl rfl rfl rfl) rfl (Nat.le_of_ble_eq_true rfl) ((y_fgeq hF rfl rfl).q) (fun a w hF hW => ?_)
    refine ls hF hW rfl ((y_pick_t hF rfl rfl rfl).q) (fun a w hF hW => ?_)
    refine ls hF hW rfl ((y_move hF rfl).q) (fun a w hF hW => ?_)
    rcases Bool.eq_false_or_eq_true (fGt x3 0 || fEq x3 0) with hb | hb
    ·
     have H := iteT hb H
     rw [hb] at hF
     clear hb
     iterate 3 refine ls_w hF hW (wanted_y hF rfl rfl rfl rfl) rfl (Nat.le_of_ble_eq_true rfl) ((y_move hF rfl).q) (fun a w hF hW => ?_)
     refine ls_g (wanted_y hF rfl rfl rfl rfl) ?_
     refine l_fadd hF hW rfl rfl rfl (fun b1 a w c_b1 hF hW => ?_)
     refine ls_w hF hW (wanted_y hF rfl rfl rfl rfl) rfl (Nat.le_of_ble_eq_true rfl) ((y_fleq hF rfl rfl).q) (fun a w hF hW => ?_)
     rw [fLt_cf (a := x3) (b := x3) (c := b1) (d := (fadd (L43_raw p0) (L43_raw p0))) rfl c_b1, fEq_cf (a := x3) (b := x3) (c := b1) (d := (fadd (L43_raw p0) (L43_raw p0))) rfl c_b1] at hF
     refine ls hF hW rfl ((y_pick_t hF rfl rfl rfl).q) (fun a w hF hW => ?_)
     refine ls hF hW rfl ((y_move hF rfl).q) (fun a w hF hW => ?_)
     rcases Bool.eq_false_or_eq_true (fLt x3 (fadd (L43_raw p0) (L43_raw p0)) || fEq x3 (fadd (L43_raw p0) (L43_raw p0))) with hb | hb
     ·
      have H := iteT hb H
      rw [hb] at hF
      clear hb
      refine ls_g (wanted_y hF rfl rfl rfl rfl) ?_
      obtain ⟨x5, h4, H⟩ := bindE H
      refine ls hF hW rfl (y_call (v := Value.bool x5) hF H7 rfl (fun w hW => L43_awake_c any w _ h4)) (fun a w hF hW => ?_)
      refine ls hF hW rfl ((y_pick_t hF rfl rfl rfl).q) (fun a w hF hW => ?_)
      refine ls hF hW rfl ((y_assign hF rfl).q) (fun a w hF hW => ?_)
      refine ls_nil (c_then ?_)
      exact ⟨_, H, hF.re ⟨rfl, trivial⟩, hW⟩
     ·
      have H := iteF (by rw [hb]; decide) H
      rw [hb] at hF
      clear hb
      refine lsn hF rfl rfl rfl rfl rfl rfl rfl (fun a hF => ?_)
      refine ls hF hW rfl ((y_pick_f hF rfl rfl rfl).q) (fun a w hF hW => ?_)
      refine ls hF hW rfl ((y_assign hF rfl).q) (fun a w hF hW => ?_)
      refine ls_nil (c_then ?_)
      exact ⟨_, H, hF.re ⟨rfl, trivial⟩, hW⟩
    ·
     have H := iteF (by rw [hb]; decide) H
     rw [hb] at hF
     clear hb
     iterate 5 refine lsn hF rfl rfl rfl rfl rfl rfl rfl (fun a hF => ?_)
     refine ls hF hW rfl ((y_pick_f hF rfl rfl rfl).q) (fun a w hF hW => ?_)
     refine ls hF hW rfl ((y_move hF rfl).q) (fun a w hF hW => ?_)
     refine lsn hF rfl rfl rfl rfl rfl rfl rfl (fun a hF => ?_)
     refine ls hF hW rfl ((y_pick_f hF rfl rfl rfl).q) (fun a w hF hW => ?_)
     refine ls hF hW rfl ((y_assign hF rfl).q) (fun a w hF hW => ?_)
     refine ls_nil (c_then ?_)
     exact ⟨_, H, hF.re ⟨rfl, trivial⟩, hW⟩
   ·
    have H := iteF (by rw [hb]; decide) H
    rw [hb] at hF
    clear hb
    iterate 2 refine lsn hF rfl rfl rfl rfl rfl rfl rfl (fun a hF => ?_)
    refine ls hF hW rfl ((y_pick_f hF rfl rfl rfl).q) (fun a w hF hW => ?_)
    refine ls hF hW rfl ((y_move hF rfl).q) (fun a w hF hW => ?_)
    iterate 5 refine lsn hF rfl rfl rfl rfl rfl rfl rfl (fun a hF => ?_)
    refine ls hF hW rfl ((y_pick_f hF rfl rfl rfl).q) (fun a w hF hW => ?_)
    refine ls hF hW rfl ((y_move hF rfl).q) (fun a w hF hW => ?_)
    refine lsn hF rfl rfl rfl rfl rfl rfl rfl (fun a hF => ?_)
    refine ls hF hW rfl ((y_pick_f hF rfl rfl rfl).q) (fun a w hF hW => ?_)
    refine ls hF hW rfl ((y_assign hF rfl).q) (fun a w hF hW => ?_)
    refine ls_nil (c_then ?_)
    exact ⟨_, H, hF.re ⟨rfl, trivial⟩, hW⟩
  rintro a w ⟨x4, hj, hF, hW⟩
  have hj := Option.some.inj hj
  subst hj
  have H := K1
  clear G1 K1
  refine wp_ret ?_
  have H := Option.some.inj H
  subst H
  refine post1 (.inl rfl) hF hW rfl (rv_tmp hF rfl) ?_
  exact ⟨rfl, hW.done⟩

end Go.Proofs.Ytdogfpoekndknaa
