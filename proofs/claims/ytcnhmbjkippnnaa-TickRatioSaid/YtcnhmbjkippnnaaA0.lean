/- The walks of layer 1. -/
import Derived.Test.YtcnhmbjkippnnaaRows
import Derived.Test.YtcnhmbjkippnnaaO9
namespace Go.Proofs.Ytcnhmbjkippnnaa
open Go Go.RowKit
set_option linter.unusedVariables false
theorem MO : Try.prog.follows .mixedOrders = true := by kernel_rfl
def clamp (n : Int) : Int := min (max n (-1125899906842624)) 1125899906842624
theorem clamp_any (n : Int) (w : World)  :
    Calls Try.prog 21 #[Value.int IntKind.i64 n] w fun e w' => e = .returned (Value.int IntKind.i64 (clamp n)) ∧ Below w.heap.size w w' := by
  refine enter Try.func21 rfl Try.ntmps21 rfl (fun a hF => ?_)
  have hW := Stw.start w
  refine c_seq ?_
  refine reg_list ?_
  refine ls hF hW rfl (y_assign hF rfl) (fun a w hF hW => ?_)
  refine ls_nil ?_
  refine c_then ?_
  refine c_seq ?_
  refine reg_list ?_
  refine ls hF hW rfl (y_move hF rfl) (fun a w hF hW => ?_)
  refine ls hF hW rfl (y_max hF rfl rfl) (fun a w hF hW => ?_)
  refine ls hF hW rfl (y_min hF rfl rfl) (fun a w hF hW => ?_)
  refine ls hF hW rfl (y_assign hF rfl) (fun a w hF hW => ?_)
  refine ls_nil ?_
  refine c_then ?_
  refine wp_ret ?_
  refine post1 (.inl rfl) hF hW rfl (rv_tmp hF rfl) ?_
  exact ⟨congrArg Ending.returned (vint (show (min (max n (-1125899906842624)) 1125899906842624) = clamp n by rw [clamp])), hW.frm.below⟩

theorem clamp_eq (n : Int) : clamp n = n ↔ -1125899906842624 ≤ n ∧ n ≤ 1125899906842624 := by unfold clamp; omega
theorem H21 : Has Try.prog 21 := ⟨fun args w => run_callFunc_body Try.func21 rfl (by decide) args w⟩
theorem B79 : Bt Try.prog 79 [Value.int IntKind.i64 0] [(0, 1)] := ⟨⟨Value.agg #[Value.int IntKind.i64 0], by kernel_rfl, rfl⟩, ⟨_, Try.underlying79, fun w => by kernel_rfl⟩⟩
theorem I79 : (Try.prog.underlying 79).map (fun d => match d with | .interface _ => true | _ => false) = some false := by kernel_rfl
theorem checked_any (n : Int) (w : World)  :
    Calls Try.prog 61 #[Value.int IntKind.i64 n] w (MayP (-1125899906842624 ≤ n ∧ n ≤ 1125899906842624) (Value.int IntKind.i64 n) [{ v := Value.iface 79 (Value.agg #[Value.int IntKind.i64 11]), recovered := false }] w) := by
  refine enter Try.func61 rfl Try.ntmps61 rfl (fun a hF => ?_)
  have hW := Stw.start w
  refine c_seq ?_
  refine reg_list ?_
  refine ls hF hW rfl (y_assign hF rfl) (fun a w hF hW => ?_)
  refine ls_nil ?_
  refine c_then ?_
  refine c_seq ?_
  refine c_seq ?_
  refine reg_list ?_
  refine ls hF hW rfl (y_move hF rfl) (fun a w hF hW => ?_)
  refine ls hF hW rfl (y_move hF rfl) (fun a w hF hW => ?_)
  refine ls hF hW rfl (y_call (v := Value.int IntKind.i64 (clamp n)) hF H21 rfl (fun w _ => clamp_any n w )) (fun a w hF hW => ?_)
  refine ls hF hW rfl (y_neq hF rfl rfl) (fun a w hF hW => ?_)
  refine ls_nil ?_
  refine c_then ?_
  refine c_cond hF rfl (fun hb => ?_) (fun hb => ?_)
  ·
    have c1 := of_decide_eq_true hb
    simp only [hb] at hF
    clear hb
    refine reg_list ?_
    refine ls hF hW rfl (y_build (v := Value.agg #[Value.int IntKind.i64 11]) B79 hF rfl rfl rfl) (fun a w hF hW => ?_)
    refine ls hF hW rfl (y_makeIface I79 hF rfl) (fun a w hF hW => ?_)
    refine l_panic hF rfl ?_
    refine p_then ?_
    refine post_panic hF ?_
    exact ⟨.inr ⟨by have := clamp_eq n; omega, rfl⟩, hW.frm.below⟩
  ·
    have c1 := of_decide_eq_false hb
    simp only [hb] at hF
    clear hb
    refine wp_skip ?_
    refine c_then ?_
    refine c_seq ?_
    refine reg_list ?_
    refine ls hF hW rfl (y_move hF rfl) (fun a w hF hW => ?_)
    refine ls hF hW rfl (y_assign hF rfl) (fun a w hF hW => ?_)
    refine ls_nil ?_
    refine c_then ?_
    refine wp_ret ?_
    refine post1 (.inl rfl) hF hW rfl (rv_tmp hF rfl) ?_
    exact ⟨.inl ⟨by have := clamp_eq n; omega, congrArg Ending.returned rfl⟩, hW.frm.below⟩

theorem H61 : Has Try.prog 61 := ⟨fun args w => run_callFunc_body Try.func61 rfl (by decide) args w⟩
theorem add_any (x : Int) (y : Int) (w : World)  :
    Calls Try.prog 53 #[Value.int IntKind.i64 x, Value.int IntKind.i64 y] w (MayP ((-1125899906842624 ≤ x ∧ x ≤ 1125899906842624) ∧ (-1125899906842624 ≤ y ∧ y ≤ 1125899906842624) ∧ (-1125899906842624 ≤ (x + y) ∧ (x + y) ≤ 1125899906842624)) (Value.int IntKind.i64 (x + y)) [{ v := Value.iface 79 (Value.agg #[Value.int IntKind.i64 11]), recovered := false }] w) := by
  refine enter Try.func53 rfl Try.ntmps53 rfl (fun a hF => ?_)
  have hW := Stw.start w
  refine c_seq ?_
  refine reg_list ?_
  refine ls hF hW rfl (y_assign hF rfl) (fun a w hF hW => ?_)
  refine ls_nil ?_
  refine c_then ?_
  refine c_seq ?_
  refine reg_list ?_
  refine ls hF hW rfl (y_move hF rfl) (fun a w hF hW => ?_)
  by_cases c1 : -1125899906842624 ≤ x ∧ x ≤ 1125899906842624
  ·
    refine ls hF hW rfl (y_call (v := Value.int IntKind.i64 x) hF H61 rfl (fun w _ => mp_ok (checked_any x w) c1)) (fun a w hF hW => ?_)
    refine ls hF hW rfl (y_move hF rfl) (fun a w hF hW => ?_)
    by_cases c2 : -1125899906842624 ≤ y ∧ y ≤ 1125899906842624
    ·
      refine ls hF hW rfl (y_call (v := Value.int IntKind.i64 y) hF H61 rfl (fun w _ => mp_ok (checked_any y w) c2)) (fun a w hF hW => ?_)
      refine ls hF hW rfl (y_add hF rfl rfl (r := x + y) (IntWalk.i64_in _ (by omega))) (fun a w hF hW => ?_)
      by_cases c3 : -1125899906842624 ≤ (x + y) ∧ (x + y) ≤ 1125899906842624
      ·
        refine ls hF hW rfl (y_call (v := Value.int IntKind.i64 (x + y)) hF H61 rfl (fun w _ => mp_ok (checked_any (x + y) w) c3)) (fun a w hF hW => ?_)
        refine ls hF hW rfl (y_assign hF rfl) (fun a w hF hW => ?_)
        refine ls_nil ?_
        refine c_then ?_
        refine wp_ret ?_
        refine post1 (.inl rfl) hF hW rfl (rv_tmp hF rfl) ?_
        exact ⟨.inl ⟨by omega, congrArg Ending.returned rfl⟩, hW.frm.below⟩
      ·
        refine l_call_panic hF hW H61 rfl (mp_no (checked_any (x + y) w) c3) (fun w hW => ?_)
        refine p_then ?_
        refine post_panic hF ?_
        exact ⟨.inr ⟨by omega, rfl⟩, hW.frm.below⟩
    ·
      refine l_call_panic hF hW H61 rfl (mp_no (checked_any y w) c2) (fun w hW => ?_)
      refine p_then ?_
      refine post_panic hF ?_
      exact ⟨.inr ⟨by omega, rfl⟩, hW.frm.below⟩
  ·
    refine l_call_panic hF hW H61 rfl (mp_no (checked_any x w) c1) (fun w hW => ?_)
    refine p_then ?_
    refine post_panic hF ?_
    exact ⟨.inr ⟨by omega, rfl⟩, hW.frm.below⟩

theorem sub_any (x : Int) (y : Int) (w : World)  :
    Calls Try.prog 56 #[Value.int IntKind.i64 x, Value.int IntKind.i64 y] w (MayP ((-1125899906842624 ≤ x ∧ x ≤ 1125899906842624) ∧ (-1125899906842624 ≤ y ∧ y ≤ 1125899906842624) ∧ (-1125899906842624 ≤ (x - y) ∧ (x - y) ≤ 1125899906842624)) (Value.int IntKind.i64 (x - y)) [{ v := Value.iface 79 (Value.agg #[Value.int IntKind.i64 11]), recovered := false }] w) := by
  refine enter Try.func56 rfl Try.ntmps56 rfl (fun a hF => ?_)
  have hW := Stw.start w
  refine c_seq ?_
  refine reg_list ?_
  refine ls hF hW rfl (y_assign hF rfl) (fun a w hF hW => ?_)
  refine ls_nil ?_
  refine c_then ?_
  refine c_seq ?_
  refine reg_list ?_
  refine ls hF hW rfl (y_move hF rfl) (fun a w hF hW => ?_)
  by_cases c1 : -1125899906842624 ≤ x ∧ x ≤ 1125899906842624
  ·
    refine ls hF hW rfl (y_call (v := Value.int IntKind.i64 x) hF H61 rfl (fun w _ => mp_ok (checked_any x w) c1)) (fun a w hF hW => ?_)
    refine ls hF hW rfl (y_move hF rfl) (fun a w hF hW => ?_)
    by_cases c2 : -1125899906842624 ≤ y ∧ y ≤ 1125899906842624
    ·
      refine ls hF hW rfl (y_call (v := Value.int IntKind.i64 y) hF H61 rfl (fun w _ => mp_ok (checked_any y w) c2)) (fun a w hF hW => ?_)
      refine ls hF hW rfl (y_sub hF rfl rfl (r := x - y) (IntWalk.i64_in _ (by omega))) (fun a w hF hW => ?_)
      by_cases c3 : -1125899906842624 ≤ (x - y) ∧ (x - y) ≤ 1125899906842624
      ·
        refine ls hF hW rfl (y_call (v := Value.int IntKind.i64 (x - y)) hF H61 rfl (fun w _ => mp_ok (checked_any (x - y) w) c3)) (fun a w hF hW => ?_)
        refine ls hF hW rfl (y_assign hF rfl) (fun a w hF hW => ?_)
        refine ls_nil ?_
        refine c_then ?_
        refine wp_ret ?_
        refine post1 (.inl rfl) hF hW rfl (rv_tmp hF rfl) ?_
        exact ⟨.inl ⟨by omega, congrArg Ending.returned rfl⟩, hW.frm.below⟩
      ·
        refine l_call_panic hF hW H61 rfl (mp_no (checked_any (x - y) w) c3) (fun w hW => ?_)
        refine p_then ?_
        refine post_panic hF ?_
        exact ⟨.inr ⟨by omega, rfl⟩, hW.frm.below⟩
    ·
      refine l_call_panic hF hW H61 rfl (mp_no (checked_any y w) c2) (fun w hW => ?_)
      refine p_then ?_
      refine post_panic hF ?_
      exact ⟨.inr ⟨by omega, rfl⟩, hW.frm.below⟩
  ·
    refine l_call_panic hF hW H61 rfl (mp_no (checked_any x w) c1) (fun w hW => ?_)
    refine p_then ?_
    refine post_panic hF ?_
    exact ⟨.inr ⟨by omega, rfl⟩, hW.frm.below⟩

theorem mul_abs (x y : Int) (hy : y ≠ 0) : (max x (0 - x) ≤ (1125899906842624 : Int).tdiv (max y (0 - y))) ↔ (-1125899906842624 ≤ x * y ∧ x * y ≤ 1125899906842624) := by
  have hA : max x (0 - x) = (x.natAbs : Int) := by omega
  have hB : max y (0 - y) = (y.natAbs : Int) := by omega
  have hp : (0 : Int) < (y.natAbs : Int) := by omega
  rw [hA, hB, Int.tdiv_eq_ediv_of_nonneg (by decide), Int.le_ediv_iff_mul_le hp]
  have hm : (x.natAbs : Int) * (y.natAbs : Int) = ((x * y).natAbs : Int) := by rw [Int.natAbs_mul]; rfl
  rw [hm]
  omega
theorem tdiv_le (q : Int) (hq : 0 < q) : 0 ≤ (1125899906842624 : Int).tdiv q ∧ (1125899906842624 : Int).tdiv q ≤ 1125899906842624 := by
  rw [Int.tdiv_eq_ediv_of_nonneg (by decide)]
  exact ⟨Int.ediv_nonneg (by decide) (by omega), Int.ediv_le_self _ (by decide)⟩
theorem mul_any (x : Int) (y : Int) (w : World)  :
    Calls Try.prog 58 #[Value.int IntKind.i64 x, Value.int IntKind.i64 y] w (MayP ((-1125899906842624 ≤ x ∧ x ≤ 1125899906842624) ∧ (-1125899906842624 ≤ y ∧ y ≤ 1125899906842624) ∧ (-1125899906842624 ≤ (x * y) ∧ (x * y) ≤ 1125899906842624)) (Value.int IntKind.i64 (x * y)) [{ v := Value.iface 79 (Value.agg #[Value.int IntKind.i64 11]), recovered := false }] w) := by
  refine enter Try.func58 rfl Try.ntmps58 rfl (fun a hF => ?_)
  have hW := Stw.start w
  refine c_seq ?_
  refine reg_list ?_
  refine ls hF hW rfl (y_assign hF rfl) (fun a w hF hW => ?_)
  refine ls_nil ?_
  refine c_then ?_
  refine c_seq ?_
  refine reg_list ?_
  refine ls hF hW rfl (y_move hF rfl) (fun a w hF hW => ?_)
  by_cases c1 : -1125899906842624 ≤ x ∧ x ≤ 1125899906842624
  ·
    refine ls hF hW rfl (y_call (v := Value.int IntKind.i64 x) hF H61 rfl (fun w _ => mp_ok (checked_any x w) c1)) (fun a w hF hW => ?_)
    refine ls hF hW rfl (y_move hF rfl) (fun a w hF hW => ?_)
    by_cases c2 : -1125899906842624 ≤ y ∧ y ≤ 1125899906842624
    ·
      refine ls hF hW rfl (y_call (v := Value.int IntKind.i64 y) hF H61 rfl (fun w _ => mp_ok (checked_any y w) c2)) (fun a w hF hW => ?_)
      refine ls hF hW rfl (y_assign hF rfl) (fun a w hF hW => ?_)
      refine ls hF hW rfl (y_assign hF rfl) (fun a w hF hW => ?_)
      refine ls_nil ?_
      refine c_then ?_
      refine c_seq ?_
      refine c_seq ?_
      refine reg_list ?_
      refine ls hF hW rfl (y_move hF rfl) (fun a w hF hW => ?_)
      refine ls hF hW rfl (y_neq hF rfl rfl) (fun a w hF hW => ?_)
      refine ls hF hW rfl (y_move hF rfl) (fun a w hF hW => ?_)
      rcases Bool.eq_false_or_eq_true (decide (y ≠ 0)) with hb | hb
      ·
        have c3 := of_decide_eq_true hb
        simp only [hb] at hF
        clear hb
        refine ls_w hF hW (wanted_y hF rfl rfl rfl rfl) rfl (Nat.le_of_ble_eq_true rfl) (y_move hF rfl) (fun a w hF hW => ?_)
        refine ls_w hF hW (wanted_y hF rfl rfl rfl rfl) rfl (Nat.le_of_ble_eq_true rfl) (y_move hF rfl) (fun a w hF hW => ?_)
        refine ls_w hF hW (wanted_y hF rfl rfl rfl rfl) rfl (Nat.le_of_ble_eq_true rfl) (y_neg hF rfl (r := 0 - x) (IntWalk.i64_in _ (by omega))) (fun a w hF hW => ?_)
        refine ls_w hF hW (wanted_y hF rfl rfl rfl rfl) rfl (Nat.le_of_ble_eq_true rfl) (y_max hF rfl rfl) (fun a w hF hW => ?_)
        refine ls_w hF hW (wanted_y hF rfl rfl rfl rfl) rfl (Nat.le_of_ble_eq_true rfl) (y_move hF rfl) (fun a w hF hW => ?_)
        refine ls_w hF hW (wanted_y hF rfl rfl rfl rfl) rfl (Nat.le_of_ble_eq_true rfl) (y_move hF rfl) (fun a w hF hW => ?_)
        refine ls_w hF hW (wanted_y hF rfl rfl rfl rfl) rfl (Nat.le_of_ble_eq_true rfl) (y_neg hF rfl (r := 0 - y) (IntWalk.i64_in _ (by omega))) (fun a w hF hW => ?_)
        refine ls_w hF hW (wanted_y hF rfl rfl rfl rfl) rfl (Nat.le_of_ble_eq_true rfl) (y_max hF rfl rfl) (fun a w hF hW => ?_)
        refine ls_w hF hW (wanted_y hF rfl rfl rfl rfl) rfl (Nat.le_of_ble_eq_true rfl) (y_quo hF rfl rfl (by omega) (r := Int.tdiv 1125899906842624 (max y (0 - y))) (IntWalk.i64_in _ (by have := tdiv_le (max y (0 - y)) (by omega); omega))) (fun a w hF hW => ?_)
        refine ls_w hF hW (wanted_y hF rfl rfl rfl rfl) rfl (Nat.le_of_ble_eq_true rfl) (y_gtr hF rfl rfl) (fun a w hF hW => ?_)
        refine ls hF hW rfl (y_pick_t hF rfl rfl rfl) (fun a w hF hW => ?_)
        refine ls_nil ?_
        refine c_then ?_
        refine c_cond hF rfl (fun hb => ?_) (fun hb => ?_)
        ·
          have c4 := of_decide_eq_true hb
          simp only [hb] at hF
          clear hb
          refine reg_list ?_
          refine ls hF hW rfl (y_build (v := Value.agg #[Value.int IntKind.i64 11]) B79 hF rfl rfl rfl) (fun a w hF hW => ?_)
          refine ls hF hW rfl (y_makeIface I79 hF rfl) (fun a w hF hW => ?_)
          refine l_panic hF rfl ?_
          refine p_then ?_
          refine post_panic hF ?_
          exact ⟨.inr ⟨by first | omega | (have := mul_abs x y (by omega); omega) | (have h0 : y = 0 := (by omega); subst h0; simp; omega), rfl⟩, hW.frm.below⟩
        ·
          have c4 := of_decide_eq_false hb
          simp only [hb] at hF
          clear hb
          refine wp_skip ?_
          refine c_then ?_
          refine c_seq ?_
          refine reg_list ?_
          refine ls hF hW rfl (y_move hF rfl) (fun a w hF hW => ?_)
          refine ls hF hW rfl (y_move hF rfl) (fun a w hF hW => ?_)
          refine ls hF hW rfl (y_mul hF rfl rfl (r := x * y) (IntWalk.i64_in _ (by first | (have := mul_abs x y (by omega); omega) | (have h0 : y = 0 := (by omega); subst h0; simp)))) (fun a w hF hW => ?_)
          refine ls hF hW rfl (y_assign hF rfl) (fun a w hF hW => ?_)
          refine ls_nil ?_
          refine c_then ?_
          refine wp_ret ?_
          refine post1 (.inl rfl) hF hW rfl (rv_tmp hF rfl) ?_
          exact ⟨.inl ⟨by first | omega | (have := mul_abs x y (by omega); omega) | (have h0 : y = 0 := (by omega); subst h0; simp; omega), congrArg Ending.returned rfl⟩, hW.frm.below⟩
      ·
        have c3 := of_decide_eq_false hb
        simp only [hb] at hF
        clear hb
        refine ls_skip hF (wanted_n hF rfl rfl rfl rfl rfl) rfl rfl (fun a hF => ?_)
        refine ls_skip hF (wanted_n hF rfl rfl rfl rfl rfl) rfl rfl (fun a hF => ?_)
        refine ls_skip hF (wanted_n hF rfl rfl rfl rfl rfl) rfl rfl (fun a hF => ?_)
        refine ls_skip hF (wanted_n hF rfl rfl rfl rfl rfl) rfl rfl (fun a hF => ?_)
        refine ls_skip hF (wanted_n hF rfl rfl rfl rfl rfl) rfl rfl (fun a hF => ?_)
        refine ls_skip hF (wanted_n hF rfl rfl rfl rfl rfl) rfl rfl (fun a hF => ?_)
        refine ls_skip hF (wanted_n hF rfl rfl rfl rfl rfl) rfl rfl (fun a hF => ?_)
        refine ls_skip hF (wanted_n hF rfl rfl rfl rfl rfl) rfl rfl (fun a hF => ?_)
        refine ls_skip hF (wanted_n hF rfl rfl rfl rfl rfl) rfl rfl (fun a hF => ?_)
        refine ls_skip hF (wanted_n hF rfl rfl rfl rfl rfl) rfl rfl (fun a hF => ?_)
        refine ls hF hW rfl (y_pick_f hF rfl rfl rfl) (fun a w hF hW => ?_)
        refine ls_nil ?_
        refine c_then ?_
        refine c_cond_f hF rfl ?_
        refine wp_skip ?_
        refine c_then ?_
        refine c_seq ?_
        refine reg_list ?_
        refine ls hF hW rfl (y_move hF rfl) (fun a w hF hW => ?_)
        refine ls hF hW rfl (y_move hF rfl) (fun a w hF hW => ?_)
        refine ls hF hW rfl (y_mul hF rfl rfl (r := x * y) (IntWalk.i64_in _ (by first | (have := mul_abs x y (by omega); omega) | (have h0 : y = 0 := (by omega); subst h0; simp)))) (fun a w hF hW => ?_)
        refine ls hF hW rfl (y_assign hF rfl) (fun a w hF hW => ?_)
        refine ls_nil ?_
        refine c_then ?_
        refine wp_ret ?_
        refine post1 (.inl rfl) hF hW rfl (rv_tmp hF rfl) ?_
        exact ⟨.inl ⟨by first | omega | (have := mul_abs x y (by omega); omega) | (have h0 : y = 0 := (by omega); subst h0; simp; omega), congrArg Ending.returned rfl⟩, hW.frm.below⟩
    ·
      refine l_call_panic hF hW H61 rfl (mp_no (checked_any y w) c2) (fun w hW => ?_)
      refine p_then ?_
      refine post_panic hF ?_
      exact ⟨.inr ⟨by first | omega | (have := mul_abs x y (by omega); omega) | (have h0 : y = 0 := (by omega); subst h0; simp; omega), rfl⟩, hW.frm.below⟩
  ·
    refine l_call_panic hF hW H61 rfl (mp_no (checked_any x w) c1) (fun w hW => ?_)
    refine p_then ?_
    refine post_panic hF ?_
    exact ⟨.inr ⟨by first | omega | (have := mul_abs x y (by omega); omega) | (have h0 : y = 0 := (by omega); subst h0; simp; omega), rfl⟩, hW.frm.below⟩

def fdiv (n : Int) (d : Int) : Int := if (Int.tmod n d) < 0 then (Int.tdiv n d) - 1 else Int.tdiv n d
theorem fdiv_any (n : Int) (d : Int) (w : World) (h1 : -9223372036854775800 ≤ n) (h2 : n ≤ 9223372036854775800) (h3 : 0 < d) (h4 : d ≤ 4096) :
    Calls Try.prog 62 #[Value.int IntKind.i64 n, Value.int IntKind.i64 d] w fun e w' => e = .returned (Value.int IntKind.i64 (fdiv n d)) ∧ Below w.heap.size w w' := by
  refine enter Try.func62 rfl Try.ntmps62 rfl (fun a hF => ?_)
  have hW := Stw.start w
  refine c_seq ?_
  refine reg_list ?_
  refine ls hF hW rfl (y_assign hF rfl) (fun a w hF hW => ?_)
  refine ls_nil ?_
  refine c_then ?_
  refine c_seq ?_
  refine reg_list ?_
  refine ls hF hW rfl (y_move hF rfl) (fun a w hF hW => ?_)
  refine ls hF hW rfl (y_move hF rfl) (fun a w hF hW => ?_)
  refine ls hF hW rfl (y_quo hF rfl rfl (by omega) (r := Int.tdiv n d) (IntWalk.i64_in _ (by have := tdiv_bd n d h3; omega))) (fun a w hF hW => ?_)
  refine ls hF hW rfl (y_assign hF rfl) (fun a w hF hW => ?_)
  refine ls_nil ?_
  refine c_then ?_
  refine c_seq ?_
  refine c_seq ?_
  refine reg_list ?_
  refine ls hF hW rfl (y_move hF rfl) (fun a w hF hW => ?_)
  refine ls hF hW rfl (y_move hF rfl) (fun a w hF hW => ?_)
  refine ls hF hW rfl (y_rem hF rfl rfl (by omega) rfl) (fun a w hF hW => ?_)
  refine ls hF hW rfl (y_lss hF rfl rfl) (fun a w hF hW => ?_)
  refine ls_nil ?_
  refine c_then ?_
  refine c_cond hF rfl (fun hb => ?_) (fun hb => ?_)
  ·
    have c1 := of_decide_eq_true hb
    simp only [hb] at hF
    clear hb
    refine reg_list ?_
    refine ls hF hW rfl (y_move hF rfl) (fun a w hF hW => ?_)
    refine ls hF hW rfl (y_sub hF rfl rfl (r := (Int.tdiv n d) - 1) (IntWalk.i64_in _ (by have := tdiv_bd n d h3; omega))) (fun a w hF hW => ?_)
    refine ls hF hW rfl (y_assign hF rfl) (fun a w hF hW => ?_)
    refine ls_nil ?_
    refine c_then ?_
    refine c_seq ?_
    refine reg_list ?_
    refine ls hF hW rfl (y_move hF rfl) (fun a w hF hW => ?_)
    refine ls hF hW rfl (y_assign hF rfl) (fun a w hF hW => ?_)
    refine ls_nil ?_
    refine c_then ?_
    refine wp_ret ?_
    refine post1 (.inl rfl) hF hW rfl (rv_tmp hF rfl) ?_
    exact ⟨congrArg Ending.returned (vint (show ((Int.tdiv n d) - 1) = fdiv n d by rw [fdiv, if_pos c1])), hW.frm.below⟩
  ·
    have c1 := of_decide_eq_false hb
    simp only [hb] at hF
    clear hb
    refine wp_skip ?_
    refine c_then ?_
    refine c_seq ?_
    refine reg_list ?_
    refine ls hF hW rfl (y_move hF rfl) (fun a w hF hW => ?_)
    refine ls hF hW rfl (y_assign hF rfl) (fun a w hF hW => ?_)
    refine ls_nil ?_
    refine c_then ?_
    refine wp_ret ?_
    refine post1 (.inl rfl) hF hW rfl (rv_tmp hF rfl) ?_
    exact ⟨congrArg Ending.returned (vint (show (Int.tdiv n d) = fdiv n d by rw [fdiv, if_neg c1])), hW.frm.below⟩

theorem scale_bd (x y : Int) (h1 : -1125899906842624 ≤ x) (h2 : x ≤ 1125899906842624) (h3 : -4096 ≤ y) (h4 : y ≤ 4096) : -4611686018427387904 ≤ x * y ∧ x * y ≤ 4611686018427387904 := by
  have hm : (x * y).natAbs = x.natAbs * y.natAbs := Int.natAbs_mul x y
  have h5 : x.natAbs * y.natAbs ≤ 1125899906842624 * 4096 := Nat.mul_le_mul (by omega) (by omega)
  omega
theorem T22 : Ty Try.prog 22 false 1 := ⟨by kernel_rfl, by kernel_rfl⟩
theorem T79 : Ty Try.prog 79 true 1 := ⟨by kernel_rfl, by kernel_rfl⟩
theorem Z79 : (Try.prog.info? 79).bind (·.zero) = some (Value.agg #[Value.int IntKind.i64 0]) := by kernel_rfl
theorem cause_any (c : Int) (w : World)  :
    Calls Try.prog 52 #[Value.iface 79 (Value.agg #[Value.int IntKind.i64 c])] w fun e w' => e = .returned (Value.int IntKind.i64 c) ∧ Below w.heap.size w w' := by
  refine enter Try.func52 rfl Try.ntmps52 rfl (fun a hF => ?_)
  have hW := Stw.start w
  refine c_seq ?_
  refine reg_list ?_
  refine ls hF hW rfl (y_assign hF rfl) (fun a w hF hW => ?_)
  refine ls_nil ?_
  refine c_then ?_
  refine c_seq ?_
  refine reg_list ?_
  refine ls hF hW rfl (y_move hF rfl) (fun a w hF hW => ?_)
  refine ls hF hW rfl (y_assert_yes I79 hF rfl) (fun a w hF hW => ?_)
  refine ls hF hW rfl (y_move hF rfl) (fun a w hF hW => ?_)
  refine ls hF hW rfl (y_extract (v := Value.agg #[Value.int IntKind.i64 c]) hF rfl rfl) (fun a w hF hW => ?_)
  refine ls hF hW rfl (y_extract (v := Value.bool true) hF rfl rfl) (fun a w hF hW => ?_)
  refine l_alloc (cs := [Value.int IntKind.i64 0]) hF hW rfl Z79 rfl (fun b1 a w hF hW => ?_)
  refine l_store (vs := [Value.int IntKind.i64 c]) (M' := [(b1, [Value.int IntKind.i64 c])]) 0 hF hW rfl rfl rfl T79 rfl rfl rfl rfl rfl (fun w hW => ?_)
  refine ls hF hW rfl (y_assign hF rfl) (fun a w hF hW => ?_)
  refine ls_nil ?_
  refine c_then ?_
  refine c_seq ?_
  refine c_seq ?_
  refine reg_list ?_
  refine ls hF hW rfl (y_move hF rfl) (fun a w hF hW => ?_)
  refine ls hF hW rfl (y_not hF rfl) (fun a w hF hW => ?_)
  refine ls_nil ?_
  refine c_then ?_
  refine c_cond_f hF rfl ?_
  refine wp_skip ?_
  refine c_then ?_
  refine c_seq ?_
  refine reg_list ?_
  refine ls hF hW rfl (y_fieldAddr Try.underlying79 rfl rfl rfl T22 hF rfl 0 rfl) (fun a w hF hW => ?_)
  refine ls hF hW rfl (y_load (v := Value.int IntKind.i64 c) 0 hF rfl rfl T22 rfl) (fun a w hF hW => ?_)
  refine ls hF hW rfl (y_assign hF rfl) (fun a w hF hW => ?_)
  refine ls_nil ?_
  refine c_then ?_
  refine wp_ret ?_
  refine post1 (.inl rfl) hF hW rfl (rv_tmp hF rfl) ?_
  exact ⟨congrArg Ending.returned rfl, hW.frm.below⟩

theorem cAdd_idle {X : List Nat} {w0 : World} {M : Blks} {Z : List RowE} (q1 q2 : Nat) (x y : Value) (w : World) (hW : Stw X w0 ((q2, [y]) :: (q1, [x]) :: M) Z w) :
    CallsD Try.prog 51 #[Value.pointer (some ⟨q1, 0, none⟩), Value.pointer (some ⟨q2, 0, none⟩)] .returning w fun e u' w' => u' = .returning ∧ (e = .returned (.tuple #[]) ∧ Stw X w0 ((q2, [y]) :: (q1, [x]) :: M) Z w') := by
  refine rec_returning Try.func51 rfl Try.ntmps51 rfl rfl rfl (fun a hF => ?_)
  refine c_seq ?_
  refine reg_list ?_
  refine ls hF hW rfl (y_move hF rfl) (fun a w hF hW => ?_)
  refine ls hF hW rfl (y_neqnil_nil Try.underlying20 hF rfl) (fun a w hF hW => ?_)
  refine ls_nil ?_
  refine c_then ?_
  refine c_cond_f hF rfl ?_
  refine wp_skip ?_
  refine post0 (.inr rfl) hF rfl ?_
  exact ⟨rfl, hW⟩

theorem T3 : Ty Try.prog 3 false 1 := ⟨by kernel_rfl, by kernel_rfl⟩
theorem H52 : Has Try.prog 52 := ⟨fun args w => run_callFunc_body Try.func52 rfl (by decide) args w⟩
theorem cAdd_catch {X : List Nat} {w0 : World} {M : Blks} {Z : List RowE} (q1 q2 : Nat) (x y : Value) (c : Int) (w : World) (hW : Stw X w0 ((q2, [y]) :: (q1, [x]) :: M) Z w) :
    CallsD Try.prog 51 #[Value.pointer (some ⟨q1, 0, none⟩), Value.pointer (some ⟨q2, 0, none⟩)] (.panicking ({ v := Value.iface 79 (Value.agg #[Value.int IntKind.i64 c]), recovered := false } :: [])) w fun e u' w' => u' = .panicking ({ v := Value.iface 79 (Value.agg #[Value.int IntKind.i64 c]), recovered := true } :: []) ∧ (e = .returned (.tuple #[]) ∧ Stw X w0 ((q2, [Value.int IntKind.i64 c]) :: (q1, [Value.int IntKind.i64 0]) :: M) Z w') := by
  refine rec_panicking Try.func51 rfl Try.ntmps51 rfl rfl rfl (fun a hF => ?_)
  refine c_seq ?_
  refine reg_list ?_
  refine ls hF hW rfl (y_move hF rfl) (fun a w hF hW => ?_)
  refine ls hF hW rfl (y_neqnil_some Try.underlying20 hF rfl) (fun a w hF hW => ?_)
  refine ls_nil ?_
  refine c_then ?_
  refine c_cond_t hF rfl ?_
  refine reg_list ?_
  refine ls hF hW rfl (y_move hF rfl) (fun a w hF hW => ?_)
  refine ls hF hW rfl (y_call (v := Value.int IntKind.i64 c) hF H52 rfl (fun w _ => cause_any c w )) (fun a w hF hW => ?_)
  refine l_store (vs := [Value.int IntKind.i64 0]) (M' := ((q2, [y]) :: (q1, [Value.int IntKind.i64 0]) :: M)) 1 hF hW rfl rfl rfl T3 rfl rfl rfl rfl rfl (fun w hW => ?_)
  refine l_store (vs := [Value.int IntKind.i64 c]) (M' := ((q2, [Value.int IntKind.i64 c]) :: (q1, [Value.int IntKind.i64 0]) :: M)) 0 hF hW rfl rfl rfl T22 rfl rfl rfl rfl rfl (fun w hW => ?_)
  refine ls_nil ?_
  refine post0 (.inr rfl) hF rfl ?_
  exact ⟨rfl, hW⟩

theorem H51 : Has Try.prog 51 := ⟨fun args w => run_callFunc_body Try.func51 rfl (by decide) args w⟩
theorem H53 : Has Try.prog 53 := ⟨fun args w => run_callFunc_body Try.func53 rfl (by decide) args w⟩
theorem Z3 : (Try.prog.info? 3).bind (·.zero) = some (Value.int IntKind.i64 0) := by kernel_rfl
theorem Z22 : (Try.prog.info? 22).bind (·.zero) = some (Value.int IntKind.i64 0) := by kernel_rfl
def tadd_0 (x : Int) (y : Int) : Int := if (-1125899906842624 ≤ x ∧ x ≤ 1125899906842624) ∧ (-1125899906842624 ≤ y ∧ y ≤ 1125899906842624) ∧ (-1125899906842624 ≤ (x + y) ∧ (x + y) ≤ 1125899906842624) then x + y else 0
def tadd_1 (x : Int) (y : Int) : Int := if (-1125899906842624 ≤ x ∧ x ≤ 1125899906842624) ∧ (-1125899906842624 ≤ y ∧ y ≤ 1125899906842624) ∧ (-1125899906842624 ≤ (x + y) ∧ (x + y) ≤ 1125899906842624) then 0 else 11
theorem tadd_any (x : Int) (y : Int) (w : World)  :
    Calls Try.prog 11 #[Value.int IntKind.i64 x, Value.int IntKind.i64 y] w fun e w' => e = .returned (Value.tuple #[Value.int IntKind.i64 (tadd_0 x y), Value.int IntKind.i64 (tadd_1 x y)]) ∧ Below w.heap.size w w' := by
  refine enterD Try.func11 rfl Try.ntmps11 rfl (fun a hF => ?_)
  have hW := Stw.start w
  refine c_seq ?_
  refine reg_list ?_
  refine l_alloc (cs := [Value.int IntKind.i64 0]) hF hW rfl Z3 rfl (fun b1 a w hF hW => ?_)
  refine l_alloc (cs := [Value.int IntKind.i64 0]) hF hW rfl Z22 rfl (fun b2 a w hF hW => ?_)
  refine ls_nil ?_
  refine c_then ?_
  refine c_seq ?_
  refine reg_list ?_
  refine ls hF hW rfl (y_makeFunc hF rfl rfl) (fun a w hF hW => ?_)
  refine l_defer hF rfl (fun a hF => ?_)
  refine ls_nil ?_
  refine c_then ?_
  refine c_seq ?_
  refine reg_list ?_
  refine ls hF hW rfl (y_move hF rfl) (fun a w hF hW => ?_)
  refine ls hF hW rfl (y_move hF rfl) (fun a w hF hW => ?_)
  by_cases c1 : (-1125899906842624 ≤ x ∧ x ≤ 1125899906842624) ∧ (-1125899906842624 ≤ y ∧ y ≤ 1125899906842624) ∧ (-1125899906842624 ≤ (x + y) ∧ (x + y) ≤ 1125899906842624)
  ·
    refine ls hF hW rfl (y_call (v := Value.int IntKind.i64 (x + y)) hF H53 rfl (fun w _ => mp_ok (add_any x y w) c1)) (fun a w hF hW => ?_)
    refine l_store (vs := [Value.int IntKind.i64 (x + y)]) (M' := [(b2, [Value.int IntKind.i64 0]), (b1, [Value.int IntKind.i64 (x + y)])]) 1 hF hW rfl rfl rfl T3 rfl rfl rfl rfl rfl (fun w hW => ?_)
    refine l_store (vs := [Value.int IntKind.i64 0]) (M' := [(b2, [Value.int IntKind.i64 0]), (b1, [Value.int IntKind.i64 (x + y)])]) 0 hF hW rfl rfl rfl T22 rfl rfl rfl rfl rfl (fun w hW => ?_)
    refine ls_nil ?_
    refine c_then ?_
    refine wp_ret ?_
    refine postD_ret (.inl rfl) hF ?_
    refine leaves_of H51 (by simp) (cAdd_idle b1 b2 _ _ w hW) ?_
    rintro e u' w ⟨rfl, rfl, hW⟩
    refine leaves2 hW rfl (rv_cell (v := Value.int IntKind.i64 (x + y)) 1 hF rfl rfl T3 rfl) (rv_cell (v := Value.int IntKind.i64 0) 0 hF rfl rfl T22 rfl) ?_
    exact ⟨congrArg Ending.returned (vtuple (lcons (vint (show (x + y) = tadd_0 x y by rw [tadd_0, if_pos c1])) (lcons (vint (show (0) = tadd_1 x y by rw [tadd_1, if_pos c1])) rfl))), hW.frm.below⟩
  ·
    refine l_call_panic hF hW H53 rfl (mp_no (add_any x y w) c1) (fun w hW => ?_)
    refine p_then ?_
    refine postD_panic hF ?_
    refine leaves_of H51 (by simp) (cAdd_catch b1 b2 _ _ 11 w hW) ?_
    rintro e u' w ⟨rfl, rfl, hW⟩
    refine leaves2 hW rfl (rv_cell (v := Value.int IntKind.i64 0) 1 hF rfl rfl T3 rfl) (rv_cell (v := Value.int IntKind.i64 11) 0 hF rfl rfl T22 rfl) ?_
    exact ⟨congrArg Ending.returned (vtuple (lcons (vint (show (0) = tadd_0 x y by rw [tadd_0, if_neg c1])) (lcons (vint (show (11) = tadd_1 x y by rw [tadd_1, if_neg c1])) rfl))), hW.frm.below⟩

theorem cSub_idle {X : List Nat} {w0 : World} {M : Blks} {Z : List RowE} (q1 q2 : Nat) (x y : Value) (w : World) (hW : Stw X w0 ((q2, [y]) :: (q1, [x]) :: M) Z w) :
    CallsD Try.prog 55 #[Value.pointer (some ⟨q1, 0, none⟩), Value.pointer (some ⟨q2, 0, none⟩)] .returning w fun e u' w' => u' = .returning ∧ (e = .returned (.tuple #[]) ∧ Stw X w0 ((q2, [y]) :: (q1, [x]) :: M) Z w') := by
  refine rec_returning Try.func55 rfl Try.ntmps55 rfl rfl rfl (fun a hF => ?_)
  refine c_seq ?_
  refine reg_list ?_
  refine ls hF hW rfl (y_move hF rfl) (fun a w hF hW => ?_)
  refine ls hF hW rfl (y_neqnil_nil Try.underlying20 hF rfl) (fun a w hF hW => ?_)
  refine ls_nil ?_
  refine c_then ?_
  refine c_cond_f hF rfl ?_
  refine wp_skip ?_
  refine post0 (.inr rfl) hF rfl ?_
  exact ⟨rfl, hW⟩

theorem cSub_catch {X : List Nat} {w0 : World} {M : Blks} {Z : List RowE} (q1 q2 : Nat) (x y : Value) (c : Int) (w : World) (hW : Stw X w0 ((q2, [y]) :: (q1, [x]) :: M) Z w) :
    CallsD Try.prog 55 #[Value.pointer (some ⟨q1, 0, none⟩), Value.pointer (some ⟨q2, 0, none⟩)] (.panicking ({ v := Value.iface 79 (Value.agg #[Value.int IntKind.i64 c]), recovered := false } :: [])) w fun e u' w' => u' = .panicking ({ v := Value.iface 79 (Value.agg #[Value.int IntKind.i64 c]), recovered := true } :: []) ∧ (e = .returned (.tuple #[]) ∧ Stw X w0 ((q2, [Value.int IntKind.i64 c]) :: (q1, [Value.int IntKind.i64 0]) :: M) Z w') := by
  refine rec_panicking Try.func55 rfl Try.ntmps55 rfl rfl rfl (fun a hF => ?_)
  refine c_seq ?_
  refine reg_list ?_
  refine ls hF hW rfl (y_move hF rfl) (fun a w hF hW => ?_)
  refine ls hF hW rfl (y_neqnil_some Try.underlying20 hF rfl) (fun a w hF hW => ?_)
  refine ls_nil ?_
  refine c_then ?_
  refine c_cond_t hF rfl ?_
  refine reg_list ?_
  refine ls hF hW rfl (y_move hF rfl) (fun a w hF hW => ?_)
  refine ls hF hW rfl (y_call (v := Value.int IntKind.i64 c) hF H52 rfl (fun w _ => cause_any c w )) (fun a w hF hW => ?_)
  refine l_store (vs := [Value.int IntKind.i64 0]) (M' := ((q2, [y]) :: (q1, [Value.int IntKind.i64 0]) :: M)) 1 hF hW rfl rfl rfl T3 rfl rfl rfl rfl rfl (fun w hW => ?_)
  refine l_store (vs := [Value.int IntKind.i64 c]) (M' := ((q2, [Value.int IntKind.i64 c]) :: (q1, [Value.int IntKind.i64 0]) :: M)) 0 hF hW rfl rfl rfl T22 rfl rfl rfl rfl rfl (fun w hW => ?_)
  refine ls_nil ?_
  refine post0 (.inr rfl) hF rfl ?_
  exact ⟨rfl, hW⟩

theorem H55 : Has Try.prog 55 := ⟨fun args w => run_callFunc_body Try.func55 rfl (by decide) args w⟩
theorem H56 : Has Try.prog 56 := ⟨fun args w => run_callFunc_body Try.func56 rfl (by decide) args w⟩
def tsub_0 (x : Int) (y : Int) : Int := if (-1125899906842624 ≤ x ∧ x ≤ 1125899906842624) ∧ (-1125899906842624 ≤ y ∧ y ≤ 1125899906842624) ∧ (-1125899906842624 ≤ (x - y) ∧ (x - y) ≤ 1125899906842624) then x - y else 0
def tsub_1 (x : Int) (y : Int) : Int := if (-1125899906842624 ≤ x ∧ x ≤ 1125899906842624) ∧ (-1125899906842624 ≤ y ∧ y ≤ 1125899906842624) ∧ (-1125899906842624 ≤ (x - y) ∧ (x - y) ≤ 1125899906842624) then 0 else 11
theorem tsub_any (x : Int) (y : Int) (w : World)  :
    Calls Try.prog 13 #[Value.int IntKind.i64 x, Value.int IntKind.i64 y] w fun e w' => e = .returned (Value.tuple #[Value.int IntKind.i64 (tsub_0 x y), Value.int IntKind.i64 (tsub_1 x y)]) ∧ Below w.heap.size w w' := by
  refine enterD Try.func13 rfl Try.ntmps13 rfl (fun a hF => ?_)
  have hW := Stw.start w
  refine c_seq ?_
  refine reg_list ?_
  refine l_alloc (cs := [Value.int IntKind.i64 0]) hF hW rfl Z3 rfl (fun b1 a w hF hW => ?_)
  refine l_alloc (cs := [Value.int IntKind.i64 0]) hF hW rfl Z22 rfl (fun b2 a w hF hW => ?_)
  refine ls_nil ?_
  refine c_then ?_
  refine c_seq ?_
  refine reg_list ?_
  refine ls hF hW rfl (y_makeFunc hF rfl rfl) (fun a w hF hW => ?_)
  refine l_defer hF rfl (fun a hF => ?_)
  refine ls_nil ?_
  refine c_then ?_
  refine c_seq ?_
  refine reg_list ?_
  refine ls hF hW rfl (y_move hF rfl) (fun a w hF hW => ?_)
  refine ls hF hW rfl (y_move hF rfl) (fun a w hF hW => ?_)
  by_cases c1 : (-1125899906842624 ≤ x ∧ x ≤ 1125899906842624) ∧ (-1125899906842624 ≤ y ∧ y ≤ 1125899906842624) ∧ (-1125899906842624 ≤ (x - y) ∧ (x - y) ≤ 1125899906842624)
  ·
    refine ls hF hW rfl (y_call (v := Value.int IntKind.i64 (x - y)) hF H56 rfl (fun w _ => mp_ok (sub_any x y w) c1)) (fun a w hF hW => ?_)
    refine l_store (vs := [Value.int IntKind.i64 (x - y)]) (M' := [(b2, [Value.int IntKind.i64 0]), (b1, [Value.int IntKind.i64 (x - y)])]) 1 hF hW rfl rfl rfl T3 rfl rfl rfl rfl rfl (fun w hW => ?_)
    refine l_store (vs := [Value.int IntKind.i64 0]) (M' := [(b2, [Value.int IntKind.i64 0]), (b1, [Value.int IntKind.i64 (x - y)])]) 0 hF hW rfl rfl rfl T22 rfl rfl rfl rfl rfl (fun w hW => ?_)
    refine ls_nil ?_
    refine c_then ?_
    refine wp_ret ?_
    refine postD_ret (.inl rfl) hF ?_
    refine leaves_of H55 (by simp) (cSub_idle b1 b2 _ _ w hW) ?_
    rintro e u' w ⟨rfl, rfl, hW⟩
    refine leaves2 hW rfl (rv_cell (v := Value.int IntKind.i64 (x - y)) 1 hF rfl rfl T3 rfl) (rv_cell (v := Value.int IntKind.i64 0) 0 hF rfl rfl T22 rfl) ?_
    exact ⟨congrArg Ending.returned (vtuple (lcons (vint (show (x - y) = tsub_0 x y by rw [tsub_0, if_pos c1])) (lcons (vint (show (0) = tsub_1 x y by rw [tsub_1, if_pos c1])) rfl))), hW.frm.below⟩
  ·
    refine l_call_panic hF hW H56 rfl (mp_no (sub_any x y w) c1) (fun w hW => ?_)
    refine p_then ?_
    refine postD_panic hF ?_
    refine leaves_of H55 (by simp) (cSub_catch b1 b2 _ _ 11 w hW) ?_
    rintro e u' w ⟨rfl, rfl, hW⟩
    refine leaves2 hW rfl (rv_cell (v := Value.int IntKind.i64 0) 1 hF rfl rfl T3 rfl) (rv_cell (v := Value.int IntKind.i64 11) 0 hF rfl rfl T22 rfl) ?_
    exact ⟨congrArg Ending.returned (vtuple (lcons (vint (show (0) = tsub_0 x y by rw [tsub_0, if_neg c1])) (lcons (vint (show (11) = tsub_1 x y by rw [tsub_1, if_neg c1])) rfl))), hW.frm.below⟩

theorem cMul_idle {X : List Nat} {w0 : World} {M : Blks} {Z : List RowE} (q1 q2 : Nat) (x y : Value) (w : World) (hW : Stw X w0 ((q2, [y]) :: (q1, [x]) :: M) Z w) :
    CallsD Try.prog 57 #[Value.pointer (some ⟨q1, 0, none⟩), Value.pointer (some ⟨q2, 0, none⟩)] .returning w fun e u' w' => u' = .returning ∧ (e = .returned (.tuple #[]) ∧ Stw X w0 ((q2, [y]) :: (q1, [x]) :: M) Z w') := by
  refine rec_returning Try.func57 rfl Try.ntmps57 rfl rfl rfl (fun a hF => ?_)
  refine c_seq ?_
  refine reg_list ?_
  refine ls hF hW rfl (y_move hF rfl) (fun a w hF hW => ?_)
  refine ls hF hW rfl (y_neqnil_nil Try.underlying20 hF rfl) (fun a w hF hW => ?_)
  refine ls_nil ?_
  refine c_then ?_
  refine c_cond_f hF rfl ?_
  refine wp_skip ?_
  refine post0 (.inr rfl) hF rfl ?_
  exact ⟨rfl, hW⟩

theorem cMul_catch {X : List Nat} {w0 : World} {M : Blks} {Z : List RowE} (q1 q2 : Nat) (x y : Value) (c : Int) (w : World) (hW : Stw X w0 ((q2, [y]) :: (q1, [x]) :: M) Z w) :
    CallsD Try.prog 57 #[Value.pointer (some ⟨q1, 0, none⟩), Value.pointer (some ⟨q2, 0, none⟩)] (.panicking ({ v := Value.iface 79 (Value.agg #[Value.int IntKind.i64 c]), recovered := false } :: [])) w fun e u' w' => u' = .panicking ({ v := Value.iface 79 (Value.agg #[Value.int IntKind.i64 c]), recovered := true } :: []) ∧ (e = .returned (.tuple #[]) ∧ Stw X w0 ((q2, [Value.int IntKind.i64 c]) :: (q1, [Value.int IntKind.i64 0]) :: M) Z w') := by
  refine rec_panicking Try.func57 rfl Try.ntmps57 rfl rfl rfl (fun a hF => ?_)
  refine c_seq ?_
  refine reg_list ?_
  refine ls hF hW rfl (y_move hF rfl) (fun a w hF hW => ?_)
  refine ls hF hW rfl (y_neqnil_some Try.underlying20 hF rfl) (fun a w hF hW => ?_)
  refine ls_nil ?_
  refine c_then ?_
  refine c_cond_t hF rfl ?_
  refine reg_list ?_
  refine ls hF hW rfl (y_move hF rfl) (fun a w hF hW => ?_)
  refine ls hF hW rfl (y_call (v := Value.int IntKind.i64 c) hF H52 rfl (fun w _ => cause_any c w )) (fun a w hF hW => ?_)
  refine l_store (vs := [Value.int IntKind.i64 0]) (M' := ((q2, [y]) :: (q1, [Value.int IntKind.i64 0]) :: M)) 1 hF hW rfl rfl rfl T3 rfl rfl rfl rfl rfl (fun w hW => ?_)
  refine l_store (vs := [Value.int IntKind.i64 c]) (M' := ((q2, [Value.int IntKind.i64 c]) :: (q1, [Value.int IntKind.i64 0]) :: M)) 0 hF hW rfl rfl rfl T22 rfl rfl rfl rfl rfl (fun w hW => ?_)
  refine ls_nil ?_
  refine post0 (.inr rfl) hF rfl ?_
  exact ⟨rfl, hW⟩

theorem H57 : Has Try.prog 57 := ⟨fun args w => run_callFunc_body Try.func57 rfl (by decide) args w⟩
theorem H58 : Has Try.prog 58 := ⟨fun args w => run_callFunc_body Try.func58 rfl (by decide) args w⟩
def tmul_0 (x : Int) (y : Int) : Int := if (-1125899906842624 ≤ x ∧ x ≤ 1125899906842624) ∧ (-1125899906842624 ≤ y ∧ y ≤ 1125899906842624) ∧ (-1125899906842624 ≤ (x * y) ∧ (x * y) ≤ 1125899906842624) then x * y else 0
def tmul_1 (x : Int) (y : Int) : Int := if (-1125899906842624 ≤ x ∧ x ≤ 1125899906842624) ∧ (-1125899906842624 ≤ y ∧ y ≤ 1125899906842624) ∧ (-1125899906842624 ≤ (x * y) ∧ (x * y) ≤ 1125899906842624) then 0 else 11
theorem tmul_any (x : Int) (y : Int) (w : World)  :
    Calls Try.prog 15 #[Value.int IntKind.i64 x, Value.int IntKind.i64 y] w fun e w' => e = .returned (Value.tuple #[Value.int IntKind.i64 (tmul_0 x y), Value.int IntKind.i64 (tmul_1 x y)]) ∧ Below w.heap.size w w' := by
  refine enterD Try.func15 rfl Try.ntmps15 rfl (fun a hF => ?_)
  have hW := Stw.start w
  refine c_seq ?_
  refine reg_list ?_
  refine l_alloc (cs := [Value.int IntKind.i64 0]) hF hW rfl Z3 rfl (fun b1 a w hF hW => ?_)
  refine l_alloc (cs := [Value.int IntKind.i64 0]) hF hW rfl Z22 rfl (fun b2 a w hF hW => ?_)
  refine ls_nil ?_
  refine c_then ?_
  refine c_seq ?_
  refine reg_list ?_
  refine ls hF hW rfl (y_makeFunc hF rfl rfl) (fun a w hF hW => ?_)
  refine l_defer hF rfl (fun a hF => ?_)
  refine ls_nil ?_
  refine c_then ?_
  refine c_seq ?_
  refine reg_list ?_
  refine ls hF hW rfl (y_move hF rfl) (fun a w hF hW => ?_)
  refine ls hF hW rfl (y_move hF rfl) (fun a w hF hW => ?_)
  by_cases c1 : (-1125899906842624 ≤ x ∧ x ≤ 1125899906842624) ∧ (-1125899906842624 ≤ y ∧ y ≤ 1125899906842624) ∧ (-1125899906842624 ≤ (x * y) ∧ (x * y) ≤ 1125899906842624)
  ·
    refine ls hF hW rfl (y_call (v := Value.int IntKind.i64 (x * y)) hF H58 rfl (fun w _ => mp_ok (mul_any x y w) c1)) (fun a w hF hW => ?_)
    refine l_store (vs := [Value.int IntKind.i64 (x * y)]) (M' := [(b2, [Value.int IntKind.i64 0]), (b1, [Value.int IntKind.i64 (x * y)])]) 1 hF hW rfl rfl rfl T3 rfl rfl rfl rfl rfl (fun w hW => ?_)
    refine l_store (vs := [Value.int IntKind.i64 0]) (M' := [(b2, [Value.int IntKind.i64 0]), (b1, [Value.int IntKind.i64 (x * y)])]) 0 hF hW rfl rfl rfl T22 rfl rfl rfl rfl rfl (fun w hW => ?_)
    refine ls_nil ?_
    refine c_then ?_
    refine wp_ret ?_
    refine postD_ret (.inl rfl) hF ?_
    refine leaves_of H57 (by simp) (cMul_idle b1 b2 _ _ w hW) ?_
    rintro e u' w ⟨rfl, rfl, hW⟩
    refine leaves2 hW rfl (rv_cell (v := Value.int IntKind.i64 (x * y)) 1 hF rfl rfl T3 rfl) (rv_cell (v := Value.int IntKind.i64 0) 0 hF rfl rfl T22 rfl) ?_
    exact ⟨congrArg Ending.returned (vtuple (lcons (vint (show (x * y) = tmul_0 x y by rw [tmul_0, if_pos c1])) (lcons (vint (show (0) = tmul_1 x y by rw [tmul_1, if_pos c1])) rfl))), hW.frm.below⟩
  ·
    refine l_call_panic hF hW H58 rfl (mp_no (mul_any x y w) c1) (fun w hW => ?_)
    refine p_then ?_
    refine postD_panic hF ?_
    refine leaves_of H57 (by simp) (cMul_catch b1 b2 _ _ 11 w hW) ?_
    rintro e u' w ⟨rfl, rfl, hW⟩
    refine leaves2 hW rfl (rv_cell (v := Value.int IntKind.i64 0) 1 hF rfl rfl T3 rfl) (rv_cell (v := Value.int IntKind.i64 11) 0 hF rfl rfl T22 rfl) ?_
    exact ⟨congrArg Ending.returned (vtuple (lcons (vint (show (0) = tmul_0 x y by rw [tmul_0, if_neg c1])) (lcons (vint (show (11) = tmul_1 x y by rw [tmul_1, if_neg c1])) rfl))), hW.frm.below⟩

theorem cNeg_idle {X : List Nat} {w0 : World} {M : Blks} {Z : List RowE} (q1 q2 : Nat) (x y : Value) (w : World) (hW : Stw X w0 ((q2, [y]) :: (q1, [x]) :: M) Z w) :
    CallsD Try.prog 59 #[Value.pointer (some ⟨q1, 0, none⟩), Value.pointer (some ⟨q2, 0, none⟩)] .returning w fun e u' w' => u' = .returning ∧ (e = .returned (.tuple #[]) ∧ Stw X w0 ((q2, [y]) :: (q1, [x]) :: M) Z w') := by
  refine rec_returning Try.func59 rfl Try.ntmps59 rfl rfl rfl (fun a hF => ?_)
  refine c_seq ?_
  refine reg_list ?_
  refine ls hF hW rfl (y_move hF rfl) (fun a w hF hW => ?_)
  refine ls hF hW rfl (y_neqnil_nil Try.underlying20 hF rfl) (fun a w hF hW => ?_)
  refine ls_nil ?_
  refine c_then ?_
  refine c_cond_f hF rfl ?_
  refine wp_skip ?_
  refine post0 (.inr rfl) hF rfl ?_
  exact ⟨rfl, hW⟩

theorem cNeg_catch {X : List Nat} {w0 : World} {M : Blks} {Z : List RowE} (q1 q2 : Nat) (x y : Value) (c : Int) (w : World) (hW : Stw X w0 ((q2, [y]) :: (q1, [x]) :: M) Z w) :
    CallsD Try.prog 59 #[Value.pointer (some ⟨q1, 0, none⟩), Value.pointer (some ⟨q2, 0, none⟩)] (.panicking ({ v := Value.iface 79 (Value.agg #[Value.int IntKind.i64 c]), recovered := false } :: [])) w fun e u' w' => u' = .panicking ({ v := Value.iface 79 (Value.agg #[Value.int IntKind.i64 c]), recovered := true } :: []) ∧ (e = .returned (.tuple #[]) ∧ Stw X w0 ((q2, [Value.int IntKind.i64 c]) :: (q1, [Value.int IntKind.i64 0]) :: M) Z w') := by
  refine rec_panicking Try.func59 rfl Try.ntmps59 rfl rfl rfl (fun a hF => ?_)
  refine c_seq ?_
  refine reg_list ?_
  refine ls hF hW rfl (y_move hF rfl) (fun a w hF hW => ?_)
  refine ls hF hW rfl (y_neqnil_some Try.underlying20 hF rfl) (fun a w hF hW => ?_)
  refine ls_nil ?_
  refine c_then ?_
  refine c_cond_t hF rfl ?_
  refine reg_list ?_
  refine ls hF hW rfl (y_move hF rfl) (fun a w hF hW => ?_)
  refine ls hF hW rfl (y_call (v := Value.int IntKind.i64 c) hF H52 rfl (fun w _ => cause_any c w )) (fun a w hF hW => ?_)
  refine l_store (vs := [Value.int IntKind.i64 0]) (M' := ((q2, [y]) :: (q1, [Value.int IntKind.i64 0]) :: M)) 1 hF hW rfl rfl rfl T3 rfl rfl rfl rfl rfl (fun w hW => ?_)
  refine l_store (vs := [Value.int IntKind.i64 c]) (M' := ((q2, [Value.int IntKind.i64 c]) :: (q1, [Value.int IntKind.i64 0]) :: M)) 0 hF hW rfl rfl rfl T22 rfl rfl rfl rfl rfl (fun w hW => ?_)
  refine ls_nil ?_
  refine post0 (.inr rfl) hF rfl ?_
  exact ⟨rfl, hW⟩

theorem H59 : Has Try.prog 59 := ⟨fun args w => run_callFunc_body Try.func59 rfl (by decide) args w⟩
def tneg_0 (x : Int) : Int := if (-1125899906842624 ≤ (0 : Int) ∧ (0 : Int) ≤ 1125899906842624) ∧ (-1125899906842624 ≤ x ∧ x ≤ 1125899906842624) ∧ (-1125899906842624 ≤ ((0 : Int) - x) ∧ ((0 : Int) - x) ≤ 1125899906842624) then 0 - x else 0
def tneg_1 (x : Int) : Int := if (-1125899906842624 ≤ (0 : Int) ∧ (0 : Int) ≤ 1125899906842624) ∧ (-1125899906842624 ≤ x ∧ x ≤ 1125899906842624) ∧ (-1125899906842624 ≤ ((0 : Int) - x) ∧ ((0 : Int) - x) ≤ 1125899906842624) then 0 else 11
theorem tneg_any (x : Int) (w : World)  :
    Calls Try.prog 17 #[Value.int IntKind.i64 x] w fun e w' => e = .returned (Value.tuple #[Value.int IntKind.i64 (tneg_0 x), Value.int IntKind.i64 (tneg_1 x)]) ∧ Below w.heap.size w w' := by
  refine enterD Try.func17 rfl Try.ntmps17 rfl (fun a hF => ?_)
  have hW := Stw.start w
  refine c_seq ?_
  refine reg_list ?_
  refine l_alloc (cs := [Value.int IntKind.i64 0]) hF hW rfl Z3 rfl (fun b1 a w hF hW => ?_)
  refine l_alloc (cs := [Value.int IntKind.i64 0]) hF hW rfl Z22 rfl (fun b2 a w hF hW => ?_)
  refine ls_nil ?_
  refine c_then ?_
  refine c_seq ?_
  refine reg_list ?_
  refine ls hF hW rfl (y_makeFunc hF rfl rfl) (fun a w hF hW => ?_)
  refine l_defer hF rfl (fun a hF => ?_)
  refine ls_nil ?_
  refine c_then ?_
  refine c_seq ?_
  refine reg_list ?_
  refine ls hF hW rfl (y_move hF rfl) (fun a w hF hW => ?_)
  by_cases c1 : (-1125899906842624 ≤ (0 : Int) ∧ (0 : Int) ≤ 1125899906842624) ∧ (-1125899906842624 ≤ x ∧ x ≤ 1125899906842624) ∧ (-1125899906842624 ≤ ((0 : Int) - x) ∧ ((0 : Int) - x) ≤ 1125899906842624)
  ·
    refine ls hF hW rfl (y_call (v := Value.int IntKind.i64 (0 - x)) hF H56 rfl (fun w _ => mp_ok (sub_any 0 x w) c1)) (fun a w hF hW => ?_)
    refine l_store (vs := [Value.int IntKind.i64 (0 - x)]) (M' := [(b2, [Value.int IntKind.i64 0]), (b1, [Value.int IntKind.i64 (0 - x)])]) 1 hF hW rfl rfl rfl T3 rfl rfl rfl rfl rfl (fun w hW => ?_)
    refine l_store (vs := [Value.int IntKind.i64 0]) (M' := [(b2, [Value.int IntKind.i64 0]), (b1, [Value.int IntKind.i64 (0 - x)])]) 0 hF hW rfl rfl rfl T22 rfl rfl rfl rfl rfl (fun w hW => ?_)
    refine ls_nil ?_
    refine c_then ?_
    refine wp_ret ?_
    refine postD_ret (.inl rfl) hF ?_
    refine leaves_of H59 (by simp) (cNeg_idle b1 b2 _ _ w hW) ?_
    rintro e u' w ⟨rfl, rfl, hW⟩
    refine leaves2 hW rfl (rv_cell (v := Value.int IntKind.i64 (0 - x)) 1 hF rfl rfl T3 rfl) (rv_cell (v := Value.int IntKind.i64 0) 0 hF rfl rfl T22 rfl) ?_
    exact ⟨congrArg Ending.returned (vtuple (lcons (vint (show (0 - x) = tneg_0 x by rw [tneg_0, if_pos c1])) (lcons (vint (show (0) = tneg_1 x by rw [tneg_1, if_pos c1])) rfl))), hW.frm.below⟩
  ·
    refine l_call_panic hF hW H56 rfl (mp_no (sub_any 0 x w) c1) (fun w hW => ?_)
    refine p_then ?_
    refine postD_panic hF ?_
    refine leaves_of H59 (by simp) (cNeg_catch b1 b2 _ _ 11 w hW) ?_
    rintro e u' w ⟨rfl, rfl, hW⟩
    refine leaves2 hW rfl (rv_cell (v := Value.int IntKind.i64 0) 1 hF rfl rfl T3 rfl) (rv_cell (v := Value.int IntKind.i64 11) 0 hF rfl rfl T22 rfl) ?_
    exact ⟨congrArg Ending.returned (vtuple (lcons (vint (show (0) = tneg_0 x by rw [tneg_0, if_neg c1])) (lcons (vint (show (11) = tneg_1 x by rw [tneg_1, if_neg c1])) rfl))), hW.frm.below⟩

theorem cScale_idle {X : List Nat} {w0 : World} {M : Blks} {Z : List RowE} (q1 q2 : Nat) (x y : Value) (w : World) (hW : Stw X w0 ((q2, [y]) :: (q1, [x]) :: M) Z w) :
    CallsD Try.prog 60 #[Value.pointer (some ⟨q1, 0, none⟩), Value.pointer (some ⟨q2, 0, none⟩)] .returning w fun e u' w' => u' = .returning ∧ (e = .returned (.tuple #[]) ∧ Stw X w0 ((q2, [y]) :: (q1, [x]) :: M) Z w') := by
  refine rec_returning Try.func60 rfl Try.ntmps60 rfl rfl rfl (fun a hF => ?_)
  refine c_seq ?_
  refine reg_list ?_
  refine ls hF hW rfl (y_move hF rfl) (fun a w hF hW => ?_)
  refine ls hF hW rfl (y_neqnil_nil Try.underlying20 hF rfl) (fun a w hF hW => ?_)
  refine ls_nil ?_
  refine c_then ?_
  refine c_cond_f hF rfl ?_
  refine wp_skip ?_
  refine post0 (.inr rfl) hF rfl ?_
  exact ⟨rfl, hW⟩

theorem cScale_catch {X : List Nat} {w0 : World} {M : Blks} {Z : List RowE} (q1 q2 : Nat) (x y : Value) (c : Int) (w : World) (hW : Stw X w0 ((q2, [y]) :: (q1, [x]) :: M) Z w) :
    CallsD Try.prog 60 #[Value.pointer (some ⟨q1, 0, none⟩), Value.pointer (some ⟨q2, 0, none⟩)] (.panicking ({ v := Value.iface 79 (Value.agg #[Value.int IntKind.i64 c]), recovered := false } :: [])) w fun e u' w' => u' = .panicking ({ v := Value.iface 79 (Value.agg #[Value.int IntKind.i64 c]), recovered := true } :: []) ∧ (e = .returned (.tuple #[]) ∧ Stw X w0 ((q2, [Value.int IntKind.i64 c]) :: (q1, [Value.int IntKind.i64 0]) :: M) Z w') := by
  refine rec_panicking Try.func60 rfl Try.ntmps60 rfl rfl rfl (fun a hF => ?_)
  refine c_seq ?_
  refine reg_list ?_
  refine ls hF hW rfl (y_move hF rfl) (fun a w hF hW => ?_)
  refine ls hF hW rfl (y_neqnil_some Try.underlying20 hF rfl) (fun a w hF hW => ?_)
  refine ls_nil ?_
  refine c_then ?_
  refine c_cond_t hF rfl ?_
  refine reg_list ?_
  refine ls hF hW rfl (y_move hF rfl) (fun a w hF hW => ?_)
  refine ls hF hW rfl (y_call (v := Value.int IntKind.i64 c) hF H52 rfl (fun w _ => cause_any c w )) (fun a w hF hW => ?_)
  refine l_store (vs := [Value.int IntKind.i64 0]) (M' := ((q2, [y]) :: (q1, [Value.int IntKind.i64 0]) :: M)) 1 hF hW rfl rfl rfl T3 rfl rfl rfl rfl rfl (fun w hW => ?_)
  refine l_store (vs := [Value.int IntKind.i64 c]) (M' := ((q2, [Value.int IntKind.i64 c]) :: (q1, [Value.int IntKind.i64 0]) :: M)) 0 hF hW rfl rfl rfl T22 rfl rfl rfl rfl rfl (fun w hW => ?_)
  refine ls_nil ?_
  refine post0 (.inr rfl) hF rfl ?_
  exact ⟨rfl, hW⟩

end Go.Proofs.Ytcnhmbjkippnnaa
