/- The walks of layer 1. -/
import Derived.Test.YtcnhmbjkippnnaaA1
namespace Go.Proofs.Ytcnhmbjkippnnaa
open Go Go.RowKit
set_option linter.unusedVariables false
theorem rmul_any (x : Int) (y : Int) (w : World)  :
    Calls Try.prog 16 #[Value.int IntKind.i64 x, Value.int IntKind.i64 y] w fun e w' => e = .returned (Value.tuple #[Value.int IntKind.i64 (if (-1125899906842624 ≤ x ∧ x ≤ 1125899906842624) ∧ (-1125899906842624 ≤ y ∧ y ≤ 1125899906842624) ∧ (-1125899906842624 ≤ (x * y) ∧ (x * y) ≤ 1125899906842624) then x * y else 0), Value.int IntKind.i64 (if (-1125899906842624 ≤ x ∧ x ≤ 1125899906842624) ∧ (-1125899906842624 ≤ y ∧ y ≤ 1125899906842624) ∧ (-1125899906842624 ≤ (x * y) ∧ (x * y) ≤ 1125899906842624) then 0 else 11)]) ∧ Below w.heap.size w w' := by
  refine enter Try.func16 rfl Try.ntmps16 rfl (fun a hF => ?_)
  have hW := Stw.start w
  refine c_seq ?_
  refine reg_list ?_
  refine ls hF hW rfl (y_assign hF rfl) (fun a w hF hW => ?_)
  refine ls hF hW rfl (y_assign hF rfl) (fun a w hF hW => ?_)
  refine ls_nil ?_
  refine c_then ?_
  refine c_seq ?_
  refine c_seq ?_
  refine reg_list ?_
  refine ls hF hW rfl (y_move hF rfl) (fun a w hF hW => ?_)
  refine ls hF hW rfl (y_call (v := Value.bool (rtime x)) hF H54 rfl (fun w _ => rtime_any x w )) (fun a w hF hW => ?_)
  refine ls hF hW rfl (y_not hF rfl) (fun a w hF hW => ?_)
  refine ls hF hW rfl (y_move hF rfl) (fun a w hF hW => ?_)
  rcases Bool.eq_false_or_eq_true (!(rtime x)) with hb | hb
  ·
    have c1 := hb
    have tc1 := (rtime_no x).1 (by simpa using c1)
    simp only [hb] at hF
    clear hb
    refine ls_skip hF (wanted_n hF rfl rfl rfl rfl rfl) rfl rfl (fun a hF => ?_)
    refine ls_skip hF (wanted_n hF rfl rfl rfl rfl rfl) rfl rfl (fun a hF => ?_)
    refine ls_skip hF (wanted_n hF rfl rfl rfl rfl rfl) rfl rfl (fun a hF => ?_)
    refine ls hF hW rfl (y_pick_t hF rfl rfl rfl) (fun a w hF hW => ?_)
    refine ls_nil ?_
    refine c_then ?_
    refine c_cond_t hF rfl ?_
    refine c_seq ?_
    refine reg_list ?_
    refine ls hF hW rfl (y_assign hF rfl) (fun a w hF hW => ?_)
    refine ls hF hW rfl (y_assign hF rfl) (fun a w hF hW => ?_)
    refine ls_nil ?_
    refine c_then ?_
    refine wp_ret ?_
    refine r_then ?_
    refine post2 (.inl rfl) hF hW rfl (rv_tmp hF rfl) (rv_tmp hF rfl) ?_
    have hz : ¬ ((-1125899906842624 ≤ x ∧ x ≤ 1125899906842624) ∧ (-1125899906842624 ≤ y ∧ y ≤ 1125899906842624) ∧ (-1125899906842624 ≤ (x * y) ∧ (x * y) ≤ 1125899906842624)) := by first | omega | (have h5 := mul_far _ _ _ _ i4 (by omega) i5; omega) | (have h6 : 1 ≤ Int.tdiv lb 2 := (by omega); have h5 := mul_far _ _ _ _ (mul_even _ _ _ _ i4 (Int.tdiv lb 2) (by have := tdiv_lit lb 2 (by decide); omega)) h6 (by omega); omega) | (have h6 : 1 ≤ Int.tdiv lb 2 := (by omega); have h5 := mul_far _ _ _ _ (mul_odd _ _ _ _ i4 (Int.tdiv lb 2) (by have := tdiv_lit lb 2 (by decide); omega)) h6 (by omega); omega)
    exact ⟨congrArg Ending.returned (vtuple (lcons (vint (by rw [if_neg hz])) (lcons (vint (by rw [if_neg hz])) rfl))), hW.frm.below⟩
  ·
    have c1 : ¬ ((!(rtime x)) = true) := by rw [hb]; decide
    have tc1 := (rtime_iff x).1 (by simpa using c1)
    simp only [hb] at hF
    clear hb
    refine ls_w hF hW (wanted_y hF rfl rfl rfl rfl) rfl (Nat.le_of_ble_eq_true rfl) (y_move hF rfl) (fun a w hF hW => ?_)
    refine ls_w hF hW (wanted_y hF rfl rfl rfl rfl) rfl (Nat.le_of_ble_eq_true rfl) (y_call (v := Value.bool (rtime y)) hF H54 rfl (fun w _ => rtime_any y w )) (fun a w hF hW => ?_)
    refine ls_w hF hW (wanted_y hF rfl rfl rfl rfl) rfl (Nat.le_of_ble_eq_true rfl) (y_not hF rfl) (fun a w hF hW => ?_)
    refine ls hF hW rfl (y_pick_f hF rfl rfl rfl) (fun a w hF hW => ?_)
    refine ls_nil ?_
    refine c_then ?_
    refine c_cond hF rfl (fun hb => ?_) (fun hb => ?_)
    ·
      have c2 := hb
      have tc2 := (rtime_no y).1 (by simpa using c2)
      simp only [hb] at hF
      clear hb
      refine c_seq ?_
      refine reg_list ?_
      refine ls hF hW rfl (y_assign hF rfl) (fun a w hF hW => ?_)
      refine ls hF hW rfl (y_assign hF rfl) (fun a w hF hW => ?_)
      refine ls_nil ?_
      refine c_then ?_
      refine wp_ret ?_
      refine r_then ?_
      refine post2 (.inl rfl) hF hW rfl (rv_tmp hF rfl) (rv_tmp hF rfl) ?_
      have hz : ¬ ((-1125899906842624 ≤ x ∧ x ≤ 1125899906842624) ∧ (-1125899906842624 ≤ y ∧ y ≤ 1125899906842624) ∧ (-1125899906842624 ≤ (x * y) ∧ (x * y) ≤ 1125899906842624)) := by first | omega | (have h5 := mul_far _ _ _ _ i4 (by omega) i5; omega) | (have h6 : 1 ≤ Int.tdiv lb 2 := (by omega); have h5 := mul_far _ _ _ _ (mul_even _ _ _ _ i4 (Int.tdiv lb 2) (by have := tdiv_lit lb 2 (by decide); omega)) h6 (by omega); omega) | (have h6 : 1 ≤ Int.tdiv lb 2 := (by omega); have h5 := mul_far _ _ _ _ (mul_odd _ _ _ _ i4 (Int.tdiv lb 2) (by have := tdiv_lit lb 2 (by decide); omega)) h6 (by omega); omega)
      exact ⟨congrArg Ending.returned (vtuple (lcons (vint (by rw [if_neg hz])) (lcons (vint (by rw [if_neg hz])) rfl))), hW.frm.below⟩
    ·
      have c2 : ¬ ((!(rtime y)) = true) := by rw [hb]; decide
      have tc2 := (rtime_iff y).1 (by simpa using c2)
      simp only [hb] at hF
      clear hb
      refine wp_skip ?_
      refine c_then ?_
      refine c_seq ?_
      refine c_seq ?_
      refine reg_list ?_
      refine ls hF hW rfl (y_move hF rfl) (fun a w hF hW => ?_)
      refine ls hF hW rfl (y_lss hF rfl rfl) (fun a w hF hW => ?_)
      refine ls_nil ?_
      refine c_then ?_
      refine c_cond hF rfl (fun hb => ?_) (fun hb => ?_)
      ·
        have c3 := of_decide_eq_true hb
        simp only [hb] at hF
        clear hb
        refine c_seq ?_
        refine reg_list ?_
        refine ls hF hW rfl (y_move hF rfl) (fun a w hF hW => ?_)
        refine ls hF hW rfl (y_sub hF rfl rfl (r := 0 - x) (IntWalk.i64_in _ (by omega))) (fun a w hF hW => ?_)
        refine ls hF hW rfl (y_assign hF rfl) (fun a w hF hW => ?_)
        refine ls_nil ?_
        refine c_then ?_
        refine reg_list ?_
        refine ls hF hW rfl (y_move hF rfl) (fun a w hF hW => ?_)
        refine ls hF hW rfl (y_sub hF rfl rfl (r := 0 - y) (IntWalk.i64_in _ (by omega))) (fun a w hF hW => ?_)
        refine ls hF hW rfl (y_assign hF rfl) (fun a w hF hW => ?_)
        refine ls_nil ?_
        refine c_then ?_
        refine c_seq ?_
        refine reg_list ?_
        refine ls hF hW rfl (y_assign hF rfl) (fun a w hF hW => ?_)
        refine ls_nil ?_
        refine c_then ?_
        refine c_seq ?_
        refine wp_block ?_
        have e0 : 0 ≤ (0 - y) := by first | omega | (simp; done) | (simp [Int.neg_mul_neg]; done) | (rw [Int.zero_sub, Int.zero_sub, Int.neg_mul_neg]; omega)
        have e1 : -1125899906842624 ≤ (0 - x) ∧ (0 - x) ≤ 1125899906842624 := by first | omega | (simp; done) | (simp [Int.neg_mul_neg]; done) | (rw [Int.zero_sub, Int.zero_sub, Int.neg_mul_neg]; omega)
        have e2 : -1125899906842624 ≤ (0 : Int) ∧ (0 : Int) ≤ 1125899906842624 := by first | omega | (simp; done) | (simp [Int.neg_mul_neg]; done) | (rw [Int.zero_sub, Int.zero_sub, Int.neg_mul_neg]; omega)
        have e3 : (0 - y) ≤ 1125899906842624 := by first | omega | (simp; done) | (simp [Int.neg_mul_neg]; done) | (rw [Int.zero_sub, Int.zero_sub, Int.neg_mul_neg]; omega)
        have e4 : (0 : Int) + (0 - x) * (0 - y) = x * y := by first | omega | (simp; done) | (simp [Int.neg_mul_neg]; done) | (rw [Int.zero_sub, Int.zero_sub, Int.neg_mul_neg]; omega)
        have e5 : (0 ≤ (0 - x) ∧ 0 ≤ (0 : Int)) ∨ ((0 - x) ≤ 0 ∧ (0 : Int) ≤ 0) := by first | omega | (simp; done) | (simp [Int.neg_mul_neg]; done) | (rw [Int.zero_sub, Int.zero_sub, Int.neg_mul_neg]; omega)
        refine c_loopz (σ := Int × Int × Int) (fun s => (0 ≤ s.2.1) ∧ (-1125899906842624 ≤ s.1 ∧ s.1 ≤ 1125899906842624) ∧ (-1125899906842624 ≤ s.2.2 ∧ s.2.2 ≤ 1125899906842624) ∧ (s.2.1 ≤ 1125899906842624) ∧ (s.2.2 + s.1 * s.2.1 = x * y) ∧ ((0 ≤ s.1 ∧ 0 ≤ s.2.2) ∨ (s.1 ≤ 0 ∧ s.2.2 ≤ 0))) (fun s => [(0, Value.int IntKind.i64 s.1), (1, Value.int IntKind.i64 s.2.1), (6, Value.int IntKind.i64 s.2.2), (7, Value.int IntKind.i64 x), (8, Value.bool (rtime x)), (9, Value.bool false), (10, Value.bool false), (11, Value.int IntKind.i64 y), (12, Value.bool (rtime y)), (13, Value.bool false), (14, Value.bool false), (15, Value.int IntKind.i64 y), (16, Value.bool true), (17, Value.int IntKind.i64 x), (18, Value.int IntKind.i64 (0 - x)), (19, Value.int IntKind.i64 y), (20, Value.int IntKind.i64 (0 - y))]) (fun s => []) (fun s => []) (fun s => s.2.1.toNat) (0 - x, 0 - y, 0) ⟨e0, e1, e2, e3, e4, e5⟩ (hF.re ⟨rfl, rfl, rfl, rfl, rfl, rfl, rfl, rfl, rfl, rfl, rfl, rfl, rfl, rfl, rfl, rfl, rfl, trivial⟩) hW (fun s a w hI hF hW => ?_)
        obtain ⟨la, lb, sm⟩ := s
        obtain ⟨i0, i1, i2, i3, i4, i5⟩ : (0 ≤ lb) ∧ (-1125899906842624 ≤ la ∧ la ≤ 1125899906842624) ∧ (-1125899906842624 ≤ sm ∧ sm ≤ 1125899906842624) ∧ (lb ≤ 1125899906842624) ∧ (sm + la * lb = x * y) ∧ ((0 ≤ la ∧ 0 ≤ sm) ∨ (la ≤ 0 ∧ sm ≤ 0)) := hI
        have hF : Fr _ _ [(0, Value.int IntKind.i64 la), (1, Value.int IntKind.i64 lb), (6, Value.int IntKind.i64 sm), (7, Value.int IntKind.i64 x), (8, Value.bool (rtime x)), (9, Value.bool false), (10, Value.bool false), (11, Value.int IntKind.i64 y), (12, Value.bool (rtime y)), (13, Value.bool false), (14, Value.bool false), (15, Value.int IntKind.i64 y), (16, Value.bool true), (17, Value.int IntKind.i64 x), (18, Value.int IntKind.i64 (0 - x)), (19, Value.int IntKind.i64 y), (20, Value.int IntKind.i64 (0 - y))] a := hF
        have hW : Stw _ _ [] [] w := hW
        refine c_seq ?_
        refine c_seq ?_
        refine reg_list ?_
        refine ls hF hW rfl (y_move hF rfl) (fun a w hF hW => ?_)
        refine ls hF hW rfl (y_gtr hF rfl rfl) (fun a w hF hW => ?_)
        refine ls_nil ?_
        refine c_then ?_
        refine c_cond hF rfl (fun hb => ?_) (fun hb => ?_)
        ·
          have c4 := of_decide_eq_true hb
          simp only [hb] at hF
          clear hb
          refine wp_skip ?_
          refine c_then ?_
          refine wp_block ?_
          refine c_seq ?_
          refine c_seq ?_
          refine reg_list ?_
          refine ls hF hW rfl (y_move hF rfl) (fun a w hF hW => ?_)
          have f1 := tdiv_lit lb 2 (by decide)
          refine ls hF hW rfl (y_rem hF rfl rfl (by decide) rfl) (fun a w hF hW => ?_)
          refine ls hF hW rfl (y_eql hF rfl rfl) (fun a w hF hW => ?_)
          refine ls_nil ?_
          refine c_then ?_
          refine c_cond hF rfl (fun hb => ?_) (fun hb => ?_)
          ·
            have c5 := of_decide_eq_true hb
            simp only [hb] at hF
            clear hb
            refine c_seq ?_
            refine reg_list ?_
            refine ls hF hW rfl (y_move hF rfl) (fun a w hF hW => ?_)
            refine ls hF hW rfl (y_move hF rfl) (fun a w hF hW => ?_)
            refine ls hF hW rfl (y_add hF rfl rfl (r := sm + la) (IntWalk.i64_in _ (by omega))) (fun a w hF hW => ?_)
            refine ls hF hW rfl (y_assign hF rfl) (fun a w hF hW => ?_)
            refine ls_nil ?_
            refine c_then ?_
            refine c_seq ?_
            refine reg_list ?_
            refine ls hF hW rfl (y_move hF rfl) (fun a w hF hW => ?_)
            refine ls hF hW rfl (y_call (v := Value.bool (rtime (sm + la))) hF H54 rfl (fun w _ => rtime_any (sm + la) w )) (fun a w hF hW => ?_)
            refine ls hF hW rfl (y_not hF rfl) (fun a w hF hW => ?_)
            refine ls_nil ?_
            refine c_then ?_
            refine c_cond hF rfl (fun hb => ?_) (fun hb => ?_)
            ·
              have c6 := hb
              have tc6 := (rtime_no (sm + la)).1 (by simpa using c6)
              simp only [hb] at hF
              clear hb
              refine c_seq ?_
              refine reg_list ?_
              refine ls hF hW rfl (y_assign hF rfl) (fun a w hF hW => ?_)
              refine ls hF hW rfl (y_assign hF rfl) (fun a w hF hW => ?_)
              refine ls_nil ?_
              refine c_then ?_
              refine wp_ret ?_
              refine r_then ?_
              refine r_block ?_
              refine r_then ?_
              refine r_block ?_
              refine r_then ?_
              refine post2 (.inl rfl) hF hW rfl (rv_tmp hF rfl) (rv_tmp hF rfl) ?_
              have hz : ¬ ((-1125899906842624 ≤ x ∧ x ≤ 1125899906842624) ∧ (-1125899906842624 ≤ y ∧ y ≤ 1125899906842624) ∧ (-1125899906842624 ≤ (x * y) ∧ (x * y) ≤ 1125899906842624)) := by first | omega | (have h5 := mul_far _ _ _ _ i4 (by omega) i5; omega) | (have h6 : 1 ≤ Int.tdiv lb 2 := (by omega); have h5 := mul_far _ _ _ _ (mul_even _ _ _ _ i4 (Int.tdiv lb 2) (by have := tdiv_lit lb 2 (by decide); omega)) h6 (by omega); omega) | (have h6 : 1 ≤ Int.tdiv lb 2 := (by omega); have h5 := mul_far _ _ _ _ (mul_odd _ _ _ _ i4 (Int.tdiv lb 2) (by have := tdiv_lit lb 2 (by decide); omega)) h6 (by omega); omega)
              exact ⟨congrArg Ending.returned (vtuple (lcons (vint (by rw [if_neg hz])) (lcons (vint (by rw [if_neg hz])) rfl))), hW.frm.below⟩
            ·
              have c6 : ¬ ((!(rtime (sm + la))) = true) := by rw [hb]; decide
              have tc6 := (rtime_iff (sm + la)).1 (by simpa using c6)
              simp only [hb] at hF
              clear hb
              refine wp_skip ?_
              refine c_then ?_
              refine c_seq ?_
              refine reg_list ?_
              refine ls hF hW rfl (y_move hF rfl) (fun a w hF hW => ?_)
              have f2 := tdiv_lit lb 2 (by decide)
              refine ls hF hW rfl (y_quo hF rfl rfl (by decide) (r := Int.tdiv lb 2) (IntWalk.i64_in _ (by omega))) (fun a w hF hW => ?_)
              refine ls hF hW rfl (y_assign hF rfl) (fun a w hF hW => ?_)
              refine ls_nil ?_
              refine c_then ?_
              refine c_seq ?_
              refine reg_list ?_
              refine ls hF hW rfl (y_move hF rfl) (fun a w hF hW => ?_)
              refine ls hF hW rfl (y_gtr hF rfl rfl) (fun a w hF hW => ?_)
              refine ls_nil ?_
              refine c_then ?_
              refine c_cond hF rfl (fun hb => ?_) (fun hb => ?_)
              ·
                have c7 := of_decide_eq_true hb
                simp only [hb] at hF
                clear hb
                refine c_seq ?_
                refine reg_list ?_
                refine ls hF hW rfl (y_move hF rfl) (fun a w hF hW => ?_)
                refine ls hF hW rfl (y_move hF rfl) (fun a w hF hW => ?_)
                refine ls hF hW rfl (y_add hF rfl rfl (r := la + la) (IntWalk.i64_in _ (by omega))) (fun a w hF hW => ?_)
                refine ls hF hW rfl (y_assign hF rfl) (fun a w hF hW => ?_)
                refine ls_nil ?_
                refine c_then ?_
                refine c_seq ?_
                refine reg_list ?_
                refine ls hF hW rfl (y_move hF rfl) (fun a w hF hW => ?_)
                refine ls hF hW rfl (y_call (v := Value.bool (rtime (la + la))) hF H54 rfl (fun w _ => rtime_any (la + la) w )) (fun a w hF hW => ?_)
                refine ls hF hW rfl (y_not hF rfl) (fun a w hF hW => ?_)
                refine ls_nil ?_
                refine c_then ?_
                refine c_cond hF rfl (fun hb => ?_) (fun hb => ?_)
                ·
                  have c8 := hb
                  have tc8 := (rtime_no (la + la)).1 (by simpa using c8)
                  simp only [hb] at hF
                  clear hb
                  refine c_seq ?_
                  refine reg_list ?_
                  refine ls hF hW rfl (y_assign hF rfl) (fun a w hF hW => ?_)
                  refine ls hF hW rfl (y_assign hF rfl) (fun a w hF hW => ?_)
                  refine ls_nil ?_
                  refine c_then ?_
                  refine wp_ret ?_
                  refine r_block ?_
                  refine r_then ?_
                  refine r_block ?_
                  refine r_then ?_
                  refine post2 (.inl rfl) hF hW rfl (rv_tmp hF rfl) (rv_tmp hF rfl) ?_
                  have hz : ¬ ((-1125899906842624 ≤ x ∧ x ≤ 1125899906842624) ∧ (-1125899906842624 ≤ y ∧ y ≤ 1125899906842624) ∧ (-1125899906842624 ≤ (x * y) ∧ (x * y) ≤ 1125899906842624)) := by first | omega | (have h5 := mul_far _ _ _ _ i4 (by omega) i5; omega) | (have h6 : 1 ≤ Int.tdiv lb 2 := (by omega); have h5 := mul_far _ _ _ _ (mul_even _ _ _ _ i4 (Int.tdiv lb 2) (by have := tdiv_lit lb 2 (by decide); omega)) h6 (by omega); omega) | (have h6 : 1 ≤ Int.tdiv lb 2 := (by omega); have h5 := mul_far _ _ _ _ (mul_odd _ _ _ _ i4 (Int.tdiv lb 2) (by have := tdiv_lit lb 2 (by decide); omega)) h6 (by omega); omega)
                  exact ⟨congrArg Ending.returned (vtuple (lcons (vint (by rw [if_neg hz])) (lcons (vint (by rw [if_neg hz])) rfl))), hW.frm.below⟩
                ·
                  have c8 : ¬ ((!(rtime (la + la))) = true) := by rw [hb]; decide
                  have tc8 := (rtime_iff (la + la)).1 (by simpa using c8)
                  simp only [hb] at hF
                  clear hb
                  refine wp_skip ?_
                  refine b_normal ?_
                  refine c_then ?_
                  have j0 : 0 ≤ (Int.tdiv lb 2) := by first | omega | exact mul_odd _ _ _ _ i4 _ (by have := tdiv_lit lb 2 (by decide); omega) | exact mul_even _ _ _ _ i4 _ (by have := tdiv_lit lb 2 (by decide); omega) | (have h1 : lb = 1 := (by have := tdiv_lit lb 2 (by decide); omega); have h2 : Int.tdiv lb 2 = 0 := (by have := tdiv_lit lb 2 (by decide); omega); rw [h2]; subst h1; omega)
                  have j1 : -1125899906842624 ≤ (la + la) ∧ (la + la) ≤ 1125899906842624 := by first | omega | exact mul_odd _ _ _ _ i4 _ (by have := tdiv_lit lb 2 (by decide); omega) | exact mul_even _ _ _ _ i4 _ (by have := tdiv_lit lb 2 (by decide); omega) | (have h1 : lb = 1 := (by have := tdiv_lit lb 2 (by decide); omega); have h2 : Int.tdiv lb 2 = 0 := (by have := tdiv_lit lb 2 (by decide); omega); rw [h2]; subst h1; omega)
                  have j2 : -1125899906842624 ≤ (sm + la) ∧ (sm + la) ≤ 1125899906842624 := by first | omega | exact mul_odd _ _ _ _ i4 _ (by have := tdiv_lit lb 2 (by decide); omega) | exact mul_even _ _ _ _ i4 _ (by have := tdiv_lit lb 2 (by decide); omega) | (have h1 : lb = 1 := (by have := tdiv_lit lb 2 (by decide); omega); have h2 : Int.tdiv lb 2 = 0 := (by have := tdiv_lit lb 2 (by decide); omega); rw [h2]; subst h1; omega)
                  have j3 : (Int.tdiv lb 2) ≤ 1125899906842624 := by first | omega | exact mul_odd _ _ _ _ i4 _ (by have := tdiv_lit lb 2 (by decide); omega) | exact mul_even _ _ _ _ i4 _ (by have := tdiv_lit lb 2 (by decide); omega) | (have h1 : lb = 1 := (by have := tdiv_lit lb 2 (by decide); omega); have h2 : Int.tdiv lb 2 = 0 := (by have := tdiv_lit lb 2 (by decide); omega); rw [h2]; subst h1; omega)
                  have j4 : (sm + la) + (la + la) * (Int.tdiv lb 2) = x * y := by first | omega | exact mul_odd _ _ _ _ i4 _ (by have := tdiv_lit lb 2 (by decide); omega) | exact mul_even _ _ _ _ i4 _ (by have := tdiv_lit lb 2 (by decide); omega) | (have h1 : lb = 1 := (by have := tdiv_lit lb 2 (by decide); omega); have h2 : Int.tdiv lb 2 = 0 := (by have := tdiv_lit lb 2 (by decide); omega); rw [h2]; subst h1; omega)
                  have j5 : (0 ≤ (la + la) ∧ 0 ≤ (sm + la)) ∨ ((la + la) ≤ 0 ∧ (sm + la) ≤ 0) := by first | omega | exact mul_odd _ _ _ _ i4 _ (by have := tdiv_lit lb 2 (by decide); omega) | exact mul_even _ _ _ _ i4 _ (by have := tdiv_lit lb 2 (by decide); omega) | (have h1 : lb = 1 := (by have := tdiv_lit lb 2 (by decide); omega); have h2 : Int.tdiv lb 2 = 0 := (by have := tdiv_lit lb 2 (by decide); omega); rw [h2]; subst h1; omega)
                  have jm : (Int.tdiv lb 2).toNat < lb.toNat := by have := tdiv_lit lb 2 (by decide); omega
                  exact ⟨(la + la, Int.tdiv lb 2, sm + la), ⟨j0, j1, j2, j3, j4, j5⟩, jm, hF.re ⟨rfl, rfl, rfl, rfl, rfl, rfl, rfl, rfl, rfl, rfl, rfl, rfl, rfl, rfl, rfl, rfl, rfl, trivial⟩, hW⟩
              ·
                have c7 := of_decide_eq_false hb
                simp only [hb] at hF
                clear hb
                refine wp_skip ?_
                refine b_normal ?_
                refine c_then ?_
                have j0 : 0 ≤ (Int.tdiv lb 2) := by first | omega | exact mul_odd _ _ _ _ i4 _ (by have := tdiv_lit lb 2 (by decide); omega) | exact mul_even _ _ _ _ i4 _ (by have := tdiv_lit lb 2 (by decide); omega) | (have h1 : lb = 1 := (by have := tdiv_lit lb 2 (by decide); omega); have h2 : Int.tdiv lb 2 = 0 := (by have := tdiv_lit lb 2 (by decide); omega); rw [h2]; subst h1; omega)
                have j1 : -1125899906842624 ≤ la ∧ la ≤ 1125899906842624 := by first | omega | exact mul_odd _ _ _ _ i4 _ (by have := tdiv_lit lb 2 (by decide); omega) | exact mul_even _ _ _ _ i4 _ (by have := tdiv_lit lb 2 (by decide); omega) | (have h1 : lb = 1 := (by have := tdiv_lit lb 2 (by decide); omega); have h2 : Int.tdiv lb 2 = 0 := (by have := tdiv_lit lb 2 (by decide); omega); rw [h2]; subst h1; omega)
                have j2 : -1125899906842624 ≤ (sm + la) ∧ (sm + la) ≤ 1125899906842624 := by first | omega | exact mul_odd _ _ _ _ i4 _ (by have := tdiv_lit lb 2 (by decide); omega) | exact mul_even _ _ _ _ i4 _ (by have := tdiv_lit lb 2 (by decide); omega) | (have h1 : lb = 1 := (by have := tdiv_lit lb 2 (by decide); omega); have h2 : Int.tdiv lb 2 = 0 := (by have := tdiv_lit lb 2 (by decide); omega); rw [h2]; subst h1; omega)
                have j3 : (Int.tdiv lb 2) ≤ 1125899906842624 := by first | omega | exact mul_odd _ _ _ _ i4 _ (by have := tdiv_lit lb 2 (by decide); omega) | exact mul_even _ _ _ _ i4 _ (by have := tdiv_lit lb 2 (by decide); omega) | (have h1 : lb = 1 := (by have := tdiv_lit lb 2 (by decide); omega); have h2 : Int.tdiv lb 2 = 0 := (by have := tdiv_lit lb 2 (by decide); omega); rw [h2]; subst h1; omega)
                have j4 : (sm + la) + la * (Int.tdiv lb 2) = x * y := by first | omega | exact mul_odd _ _ _ _ i4 _ (by have := tdiv_lit lb 2 (by decide); omega) | exact mul_even _ _ _ _ i4 _ (by have := tdiv_lit lb 2 (by decide); omega) | (have h1 : lb = 1 := (by have := tdiv_lit lb 2 (by decide); omega); have h2 : Int.tdiv lb 2 = 0 := (by have := tdiv_lit lb 2 (by decide); omega); rw [h2]; subst h1; omega)
                have j5 : (0 ≤ la ∧ 0 ≤ (sm + la)) ∨ (la ≤ 0 ∧ (sm + la) ≤ 0) := by first | omega | exact mul_odd _ _ _ _ i4 _ (by have := tdiv_lit lb 2 (by decide); omega) | exact mul_even _ _ _ _ i4 _ (by have := tdiv_lit lb 2 (by decide); omega) | (have h1 : lb = 1 := (by have := tdiv_lit lb 2 (by decide); omega); have h2 : Int.tdiv lb 2 = 0 := (by have := tdiv_lit lb 2 (by decide); omega); rw [h2]; subst h1; omega)
                have jm : (Int.tdiv lb 2).toNat < lb.toNat := by have := tdiv_lit lb 2 (by decide); omega
                exact ⟨(la, Int.tdiv lb 2, sm + la), ⟨j0, j1, j2, j3, j4, j5⟩, jm, hF.re ⟨rfl, rfl, rfl, rfl, rfl, rfl, rfl, rfl, rfl, rfl, rfl, rfl, rfl, rfl, rfl, rfl, rfl, trivial⟩, hW⟩
          ·
            have c5 := of_decide_eq_false hb
            simp only [hb] at hF
            clear hb
            refine wp_skip ?_
            refine c_then ?_
            refine c_seq ?_
            refine reg_list ?_
            refine ls hF hW rfl (y_move hF rfl) (fun a w hF hW => ?_)
            have f3 := tdiv_lit lb 2 (by decide)
            refine ls hF hW rfl (y_quo hF rfl rfl (by decide) (r := Int.tdiv lb 2) (IntWalk.i64_in _ (by omega))) (fun a w hF hW => ?_)
            refine ls hF hW rfl (y_assign hF rfl) (fun a w hF hW => ?_)
            refine ls_nil ?_
            refine c_then ?_
            refine c_seq ?_
            refine reg_list ?_
            refine ls hF hW rfl (y_move hF rfl) (fun a w hF hW => ?_)
            refine ls hF hW rfl (y_gtr hF rfl rfl) (fun a w hF hW => ?_)
            refine ls_nil ?_
            refine c_then ?_
            refine c_cond hF rfl (fun hb => ?_) (fun hb => ?_)
            ·
              have c6 := of_decide_eq_true hb
              simp only [hb] at hF
              clear hb
              refine c_seq ?_
              refine reg_list ?_
              refine ls hF hW rfl (y_move hF rfl) (fun a w hF hW => ?_)
              refine ls hF hW rfl (y_move hF rfl) (fun a w hF hW => ?_)
              refine ls hF hW rfl (y_add hF rfl rfl (r := la + la) (IntWalk.i64_in _ (by omega))) (fun a w hF hW => ?_)
              refine ls hF hW rfl (y_assign hF rfl) (fun a w hF hW => ?_)
              refine ls_nil ?_
              refine c_then ?_
              refine c_seq ?_
              refine reg_list ?_
              refine ls hF hW rfl (y_move hF rfl) (fun a w hF hW => ?_)
              refine ls hF hW rfl (y_call (v := Value.bool (rtime (la + la))) hF H54 rfl (fun w _ => rtime_any (la + la) w )) (fun a w hF hW => ?_)
              refine ls hF hW rfl (y_not hF rfl) (fun a w hF hW => ?_)
              refine ls_nil ?_
              refine c_then ?_
              refine c_cond hF rfl (fun hb => ?_) (fun hb => ?_)
              ·
                have c7 := hb
                have tc7 := (rtime_no (la + la)).1 (by simpa using c7)
                simp only [hb] at hF
                clear hb
                refine c_seq ?_
                refine reg_list ?_
                refine ls hF hW rfl (y_assign hF rfl) (fun a w hF hW => ?_)
                refine ls hF hW rfl (y_assign hF rfl) (fun a w hF hW => ?_)
                refine ls_nil ?_
                refine c_then ?_
                refine wp_ret ?_
                refine r_block ?_
                refine r_then ?_
                refine r_block ?_
                refine r_then ?_
                refine post2 (.inl rfl) hF hW rfl (rv_tmp hF rfl) (rv_tmp hF rfl) ?_
                have hz : ¬ ((-1125899906842624 ≤ x ∧ x ≤ 1125899906842624) ∧ (-1125899906842624 ≤ y ∧ y ≤ 1125899906842624) ∧ (-1125899906842624 ≤ (x * y) ∧ (x * y) ≤ 1125899906842624)) := by first | omega | (have h5 := mul_far _ _ _ _ i4 (by omega) i5; omega) | (have h6 : 1 ≤ Int.tdiv lb 2 := (by omega); have h5 := mul_far _ _ _ _ (mul_even _ _ _ _ i4 (Int.tdiv lb 2) (by have := tdiv_lit lb 2 (by decide); omega)) h6 (by omega); omega) | (have h6 : 1 ≤ Int.tdiv lb 2 := (by omega); have h5 := mul_far _ _ _ _ (mul_odd _ _ _ _ i4 (Int.tdiv lb 2) (by have := tdiv_lit lb 2 (by decide); omega)) h6 (by omega); omega)
                exact ⟨congrArg Ending.returned (vtuple (lcons (vint (by rw [if_neg hz])) (lcons (vint (by rw [if_neg hz])) rfl))), hW.frm.below⟩
              ·
                have c7 : ¬ ((!(rtime (la + la))) = true) := by rw [hb]; decide
                have tc7 := (rtime_iff (la + la)).1 (by simpa using c7)
                simp only [hb] at hF
                clear hb
                refine wp_skip ?_
                refine b_normal ?_
                refine c_then ?_
                have j0 : 0 ≤ (Int.tdiv lb 2) := by first | omega | exact mul_odd _ _ _ _ i4 _ (by have := tdiv_lit lb 2 (by decide); omega) | exact mul_even _ _ _ _ i4 _ (by have := tdiv_lit lb 2 (by decide); omega) | (have h1 : lb = 1 := (by have := tdiv_lit lb 2 (by decide); omega); have h2 : Int.tdiv lb 2 = 0 := (by have := tdiv_lit lb 2 (by decide); omega); rw [h2]; subst h1; omega)
                have j1 : -1125899906842624 ≤ (la + la) ∧ (la + la) ≤ 1125899906842624 := by first | omega | exact mul_odd _ _ _ _ i4 _ (by have := tdiv_lit lb 2 (by decide); omega) | exact mul_even _ _ _ _ i4 _ (by have := tdiv_lit lb 2 (by decide); omega) | (have h1 : lb = 1 := (by have := tdiv_lit lb 2 (by decide); omega); have h2 : Int.tdiv lb 2 = 0 := (by have := tdiv_lit lb 2 (by decide); omega); rw [h2]; subst h1; omega)
                have j2 : -1125899906842624 ≤ sm ∧ sm ≤ 1125899906842624 := by first | omega | exact mul_odd _ _ _ _ i4 _ (by have := tdiv_lit lb 2 (by decide); omega) | exact mul_even _ _ _ _ i4 _ (by have := tdiv_lit lb 2 (by decide); omega) | (have h1 : lb = 1 := (by have := tdiv_lit lb 2 (by decide); omega); have h2 : Int.tdiv lb 2 = 0 := (by have := tdiv_lit lb 2 (by decide); omega); rw [h2]; subst h1; omega)
                have j3 : (Int.tdiv lb 2) ≤ 1125899906842624 := by first | omega | exact mul_odd _ _ _ _ i4 _ (by have := tdiv_lit lb 2 (by decide); omega) | exact mul_even _ _ _ _ i4 _ (by have := tdiv_lit lb 2 (by decide); omega) | (have h1 : lb = 1 := (by have := tdiv_lit lb 2 (by decide); omega); have h2 : Int.tdiv lb 2 = 0 := (by have := tdiv_lit lb 2 (by decide); omega); rw [h2]; subst h1; omega)
                have j4 : sm + (la + la) * (Int.tdiv lb 2) = x * y := by first | omega | exact mul_odd _ _ _ _ i4 _ (by have := tdiv_lit lb 2 (by decide); omega) | exact mul_even _ _ _ _ i4 _ (by have := tdiv_lit lb 2 (by decide); omega) | (have h1 : lb = 1 := (by have := tdiv_lit lb 2 (by decide); omega); have h2 : Int.tdiv lb 2 = 0 := (by have := tdiv_lit lb 2 (by decide); omega); rw [h2]; subst h1; omega)
                have j5 : (0 ≤ (la + la) ∧ 0 ≤ sm) ∨ ((la + la) ≤ 0 ∧ sm ≤ 0) := by first | omega | exact mul_odd _ _ _ _ i4 _ (by have := tdiv_lit lb 2 (by decide); omega) | exact mul_even _ _ _ _ i4 _ (by have := tdiv_lit lb 2 (by decide); omega) | (have h1 : lb = 1 := (by have := tdiv_lit lb 2 (by decide); omega); have h2 : Int.tdiv lb 2 = 0 := (by have := tdiv_lit lb 2 (by decide); omega); rw [h2]; subst h1; omega)
                have jm : (Int.tdiv lb 2).toNat < lb.toNat := by have := tdiv_lit lb 2 (by decide); omega
                exact ⟨(la + la, Int.tdiv lb 2, sm), ⟨j0, j1, j2, j3, j4, j5⟩, jm, hF.re ⟨rfl, rfl, rfl, rfl, rfl, rfl, rfl, rfl, rfl, rfl, rfl, rfl, rfl, rfl, rfl, rfl, rfl, trivial⟩, hW⟩
            ·
              have c6 := of_decide_eq_false hb
              simp only [hb] at hF
              clear hb
              refine wp_skip ?_
              refine b_normal ?_
              refine c_then ?_
              have j0 : 0 ≤ (Int.tdiv lb 2) := by first | omega | exact mul_odd _ _ _ _ i4 _ (by have := tdiv_lit lb 2 (by decide); omega) | exact mul_even _ _ _ _ i4 _ (by have := tdiv_lit lb 2 (by decide); omega) | (have h1 : lb = 1 := (by have := tdiv_lit lb 2 (by decide); omega); have h2 : Int.tdiv lb 2 = 0 := (by have := tdiv_lit lb 2 (by decide); omega); rw [h2]; subst h1; omega)
              have j1 : -1125899906842624 ≤ la ∧ la ≤ 1125899906842624 := by first | omega | exact mul_odd _ _ _ _ i4 _ (by have := tdiv_lit lb 2 (by decide); omega) | exact mul_even _ _ _ _ i4 _ (by have := tdiv_lit lb 2 (by decide); omega) | (have h1 : lb = 1 := (by have := tdiv_lit lb 2 (by decide); omega); have h2 : Int.tdiv lb 2 = 0 := (by have := tdiv_lit lb 2 (by decide); omega); rw [h2]; subst h1; omega)
              have j2 : -1125899906842624 ≤ sm ∧ sm ≤ 1125899906842624 := by first | omega | exact mul_odd _ _ _ _ i4 _ (by have := tdiv_lit lb 2 (by decide); omega) | exact mul_even _ _ _ _ i4 _ (by have := tdiv_lit lb 2 (by decide); omega) | (have h1 : lb = 1 := (by have := tdiv_lit lb 2 (by decide); omega); have h2 : Int.tdiv lb 2 = 0 := (by have := tdiv_lit lb 2 (by decide); omega); rw [h2]; subst h1; omega)
              have j3 : (Int.tdiv lb 2) ≤ 1125899906842624 := by first | omega | exact mul_odd _ _ _ _ i4 _ (by have := tdiv_lit lb 2 (by decide); omega) | exact mul_even _ _ _ _ i4 _ (by have := tdiv_lit lb 2 (by decide); omega) | (have h1 : lb = 1 := (by have := tdiv_lit lb 2 (by decide); omega); have h2 : Int.tdiv lb 2 = 0 := (by have := tdiv_lit lb 2 (by decide); omega); rw [h2]; subst h1; omega)
              have j4 : sm + la * (Int.tdiv lb 2) = x * y := by first | omega | exact mul_odd _ _ _ _ i4 _ (by have := tdiv_lit lb 2 (by decide); omega) | exact mul_even _ _ _ _ i4 _ (by have := tdiv_lit lb 2 (by decide); omega) | (have h1 : lb = 1 := (by have := tdiv_lit lb 2 (by decide); omega); have h2 : Int.tdiv lb 2 = 0 := (by have := tdiv_lit lb 2 (by decide); omega); rw [h2]; subst h1; omega)
              have j5 : (0 ≤ la ∧ 0 ≤ sm) ∨ (la ≤ 0 ∧ sm ≤ 0) := by first | omega | exact mul_odd _ _ _ _ i4 _ (by have := tdiv_lit lb 2 (by decide); omega) | exact mul_even _ _ _ _ i4 _ (by have := tdiv_lit lb 2 (by decide); omega) | (have h1 : lb = 1 := (by have := tdiv_lit lb 2 (by decide); omega); have h2 : Int.tdiv lb 2 = 0 := (by have := tdiv_lit lb 2 (by decide); omega); rw [h2]; subst h1; omega)
              have jm : (Int.tdiv lb 2).toNat < lb.toNat := by have := tdiv_lit lb 2 (by decide); omega
              exact ⟨(la, Int.tdiv lb 2, sm), ⟨j0, j1, j2, j3, j4, j5⟩, jm, hF.re ⟨rfl, rfl, rfl, rfl, rfl, rfl, rfl, rfl, rfl, rfl, rfl, rfl, rfl, rfl, rfl, rfl, rfl, trivial⟩, hW⟩
        ·
          have c4 := of_decide_eq_false hb
          simp only [hb] at hF
          clear hb
          refine wp_exit ?_
          refine e_then ?_
          refine e_then ?_
          refine e_block ?_
          refine c_then ?_
          refine c_seq ?_
          refine reg_list ?_
          refine ls hF hW rfl (y_move hF rfl) (fun a w hF hW => ?_)
          refine ls hF hW rfl (y_assign hF rfl) (fun a w hF hW => ?_)
          refine ls hF hW rfl (y_assign hF rfl) (fun a w hF hW => ?_)
          refine ls_nil ?_
          refine c_then ?_
          refine wp_ret ?_
          refine post2 (.inl rfl) hF hW rfl (rv_tmp hF rfl) (rv_tmp hF rfl) ?_
          have hz : (-1125899906842624 ≤ x ∧ x ≤ 1125899906842624) ∧ (-1125899906842624 ≤ y ∧ y ≤ 1125899906842624) ∧ (-1125899906842624 ≤ (x * y) ∧ (x * y) ≤ 1125899906842624) := by first | omega | (have h0 : lb = 0 := (by omega); subst h0; simp at i4; omega)
          exact ⟨congrArg Ending.returned (vtuple (lcons (vint (by rw [if_pos hz]; first | omega | (have h0 : lb = 0 := (by omega); subst h0; simp at i4; omega))) (lcons (vint (by rw [if_pos hz])) rfl))), hW.frm.below⟩
      ·
        have c3 := of_decide_eq_false hb
        simp only [hb] at hF
        clear hb
        refine wp_skip ?_
        refine c_then ?_
        refine c_seq ?_
        refine reg_list ?_
        refine ls hF hW rfl (y_assign hF rfl) (fun a w hF hW => ?_)
        refine ls_nil ?_
        refine c_then ?_
        refine c_seq ?_
        refine wp_block ?_
        have e0 : 0 ≤ y := by first | omega | (simp; done) | (simp [Int.neg_mul_neg]; done) | (rw [Int.zero_sub, Int.zero_sub, Int.neg_mul_neg]; omega)
        have e1 : -1125899906842624 ≤ x ∧ x ≤ 1125899906842624 := by first | omega | (simp; done) | (simp [Int.neg_mul_neg]; done) | (rw [Int.zero_sub, Int.zero_sub, Int.neg_mul_neg]; omega)
        have e2 : -1125899906842624 ≤ (0 : Int) ∧ (0 : Int) ≤ 1125899906842624 := by first | omega | (simp; done) | (simp [Int.neg_mul_neg]; done) | (rw [Int.zero_sub, Int.zero_sub, Int.neg_mul_neg]; omega)
        have e3 : y ≤ 1125899906842624 := by first | omega | (simp; done) | (simp [Int.neg_mul_neg]; done) | (rw [Int.zero_sub, Int.zero_sub, Int.neg_mul_neg]; omega)
        have e4 : (0 : Int) + x * y = x * y := by first | omega | (simp; done) | (simp [Int.neg_mul_neg]; done) | (rw [Int.zero_sub, Int.zero_sub, Int.neg_mul_neg]; omega)
        have e5 : (0 ≤ x ∧ 0 ≤ (0 : Int)) ∨ (x ≤ 0 ∧ (0 : Int) ≤ 0) := by first | omega | (simp; done) | (simp [Int.neg_mul_neg]; done) | (rw [Int.zero_sub, Int.zero_sub, Int.neg_mul_neg]; omega)
        refine c_loopz (σ := Int × Int × Int) (fun s => (0 ≤ s.2.1) ∧ (-1125899906842624 ≤ s.1 ∧ s.1 ≤ 1125899906842624) ∧ (-1125899906842624 ≤ s.2.2 ∧ s.2.2 ≤ 1125899906842624) ∧ (s.2.1 ≤ 1125899906842624) ∧ (s.2.2 + s.1 * s.2.1 = x * y) ∧ ((0 ≤ s.1 ∧ 0 ≤ s.2.2) ∨ (s.1 ≤ 0 ∧ s.2.2 ≤ 0))) (fun s => [(0, Value.int IntKind.i64 s.1), (1, Value.int IntKind.i64 s.2.1), (6, Value.int IntKind.i64 s.2.2), (7, Value.int IntKind.i64 x), (8, Value.bool (rtime x)), (9, Value.bool false), (10, Value.bool false), (11, Value.int IntKind.i64 y), (12, Value.bool (rtime y)), (13, Value.bool false), (14, Value.bool false), (15, Value.int IntKind.i64 y), (16, Value.bool false)]) (fun s => []) (fun s => []) (fun s => s.2.1.toNat) (x, y, 0) ⟨e0, e1, e2, e3, e4, e5⟩ (hF.re ⟨rfl, rfl, rfl, rfl, rfl, rfl, rfl, rfl, rfl, rfl, rfl, rfl, rfl, trivial⟩) hW (fun s a w hI hF hW => ?_)
        obtain ⟨la, lb, sm⟩ := s
        obtain ⟨i0, i1, i2, i3, i4, i5⟩ : (0 ≤ lb) ∧ (-1125899906842624 ≤ la ∧ la ≤ 1125899906842624) ∧ (-1125899906842624 ≤ sm ∧ sm ≤ 1125899906842624) ∧ (lb ≤ 1125899906842624) ∧ (sm + la * lb = x * y) ∧ ((0 ≤ la ∧ 0 ≤ sm) ∨ (la ≤ 0 ∧ sm ≤ 0)) := hI
        have hF : Fr _ _ [(0, Value.int IntKind.i64 la), (1, Value.int IntKind.i64 lb), (6, Value.int IntKind.i64 sm), (7, Value.int IntKind.i64 x), (8, Value.bool (rtime x)), (9, Value.bool false), (10, Value.bool false), (11, Value.int IntKind.i64 y), (12, Value.bool (rtime y)), (13, Value.bool false), (14, Value.bool false), (15, Value.int IntKind.i64 y), (16, Value.bool false)] a := hF
        have hW : Stw _ _ [] [] w := hW
        refine c_seq ?_
        refine c_seq ?_
        refine reg_list ?_
        refine ls hF hW rfl (y_move hF rfl) (fun a w hF hW => ?_)
        refine ls hF hW rfl (y_gtr hF rfl rfl) (fun a w hF hW => ?_)
        refine ls_nil ?_
        refine c_then ?_
        refine c_cond hF rfl (fun hb => ?_) (fun hb => ?_)
        ·
          have c4 := of_decide_eq_true hb
          simp only [hb] at hF
          clear hb
          refine wp_skip ?_
          refine c_then ?_
          refine wp_block ?_
          refine c_seq ?_
          refine c_seq ?_
          refine reg_list ?_
          refine ls hF hW rfl (y_move hF rfl) (fun a w hF hW => ?_)
          have f4 := tdiv_lit lb 2 (by decide)
          refine ls hF hW rfl (y_rem hF rfl rfl (by decide) rfl) (fun a w hF hW => ?_)
          refine ls hF hW rfl (y_eql hF rfl rfl) (fun a w hF hW => ?_)
          refine ls_nil ?_
          refine c_then ?_
          refine c_cond hF rfl (fun hb => ?_) (fun hb => ?_)
          ·
            have c5 := of_decide_eq_true hb
            simp only [hb] at hF
            clear hb
            refine c_seq ?_
            refine reg_list ?_
            refine ls hF hW rfl (y_move hF rfl) (fun a w hF hW => ?_)
            refine ls hF hW rfl (y_move hF rfl) (fun a w hF hW => ?_)
            refine ls hF hW rfl (y_add hF rfl rfl (r := sm + la) (IntWalk.i64_in _ (by omega))) (fun a w hF hW => ?_)
            refine ls hF hW rfl (y_assign hF rfl) (fun a w hF hW => ?_)
            refine ls_nil ?_
            refine c_then ?_
            refine c_seq ?_
            refine reg_list ?_
            refine ls hF hW rfl (y_move hF rfl) (fun a w hF hW => ?_)
            refine ls hF hW rfl (y_call (v := Value.bool (rtime (sm + la))) hF H54 rfl (fun w _ => rtime_any (sm + la) w )) (fun a w hF hW => ?_)
            refine ls hF hW rfl (y_not hF rfl) (fun a w hF hW => ?_)
            refine ls_nil ?_
            refine c_then ?_
            refine c_cond hF rfl (fun hb => ?_) (fun hb => ?_)
            ·
              have c6 := hb
              have tc6 := (rtime_no (sm + la)).1 (by simpa using c6)
              simp only [hb] at hF
              clear hb
              refine c_seq ?_
              refine reg_list ?_
              refine ls hF hW rfl (y_assign hF rfl) (fun a w hF hW => ?_)
              refine ls hF hW rfl (y_assign hF rfl) (fun a w hF hW => ?_)
              refine ls_nil ?_
              refine c_then ?_
              refine wp_ret ?_
              refine r_then ?_
              refine r_block ?_
              refine r_then ?_
              refine r_block ?_
              refine r_then ?_
              refine post2 (.inl rfl) hF hW rfl (rv_tmp hF rfl) (rv_tmp hF rfl) ?_
              have hz : ¬ ((-1125899906842624 ≤ x ∧ x ≤ 1125899906842624) ∧ (-1125899906842624 ≤ y ∧ y ≤ 1125899906842624) ∧ (-1125899906842624 ≤ (x * y) ∧ (x * y) ≤ 1125899906842624)) := by first | omega | (have h5 := mul_far _ _ _ _ i4 (by omega) i5; omega) | (have h6 : 1 ≤ Int.tdiv lb 2 := (by omega); have h5 := mul_far _ _ _ _ (mul_even _ _ _ _ i4 (Int.tdiv lb 2) (by have := tdiv_lit lb 2 (by decide); omega)) h6 (by omega); omega) | (have h6 : 1 ≤ Int.tdiv lb 2 := (by omega); have h5 := mul_far _ _ _ _ (mul_odd _ _ _ _ i4 (Int.tdiv lb 2) (by have := tdiv_lit lb 2 (by decide); omega)) h6 (by omega); omega)
              exact ⟨congrArg Ending.returned (vtuple (lcons (vint (by rw [if_neg hz])) (lcons (vint (by rw [if_neg hz])) rfl))), hW.frm.below⟩
            ·
              have c6 : ¬ ((!(rtime (sm + la))) = true) := by rw [hb]; decide
              have tc6 := (rtime_iff (sm + la)).1 (by simpa using c6)
              simp only [hb] at hF
              clear hb
              refine wp_skip ?_
              refine c_then ?_
              refine c_seq ?_
              refine reg_list ?_
              refine ls hF hW rfl (y_move hF rfl) (fun a w hF hW => ?_)
              have f5 := tdiv_lit lb 2 (by decide)
              refine ls hF hW rfl (y_quo hF rfl rfl (by decide) (r := Int.tdiv lb 2) (IntWalk.i64_in _ (by omega))) (fun a w hF hW => ?_)
              refine ls hF hW rfl (y_assign hF rfl) (fun a w hF hW => ?_)
              refine ls_nil ?_
              refine c_then ?_
              refine c_seq ?_
              refine reg_list ?_
              refine ls hF hW rfl (y_move hF rfl) (fun a w hF hW => ?_)
              refine ls hF hW rfl (y_gtr hF rfl rfl) (fun a w hF hW => ?_)
              refine ls_nil ?_
              refine c_then ?_
              refine c_cond hF rfl (fun hb => ?_) (fun hb => ?_)
              ·
                have c7 := of_decide_eq_true hb
                simp only [hb] at hF
                clear hb
                refine c_seq ?_
                refine reg_list ?_
                refine ls hF hW rfl (y_move hF rfl) (fun a w hF hW => ?_)
                refine ls hF hW rfl (y_move hF rfl) (fun a w hF hW => ?_)
                refine ls hF hW rfl (y_add hF rfl rfl (r := la + la) (IntWalk.i64_in _ (by omega))) (fun a w hF hW => ?_)
                refine ls hF hW rfl (y_assign hF rfl) (fun a w hF hW => ?_)
                refine ls_nil ?_
                refine c_then ?_
                refine c_seq ?_
                refine reg_list ?_
                refine ls hF hW rfl (y_move hF rfl) (fun a w hF hW => ?_)
                refine ls hF hW rfl (y_call (v := Value.bool (rtime (la + la))) hF H54 rfl (fun w _ => rtime_any (la + la) w )) (fun a w hF hW => ?_)
                refine ls hF hW rfl (y_not hF rfl) (fun a w hF hW => ?_)
                refine ls_nil ?_
                refine c_then ?_
                refine c_cond hF rfl (fun hb => ?_) (fun hb => ?_)
                ·
                  have c8 := hb
                  have tc8 := (rtime_no (la + la)).1 (by simpa using c8)
                  simp only [hb] at hF
                  clear hb
                  refine c_seq ?_
                  refine reg_list ?_
                  refine ls hF hW rfl (y_assign hF rfl) (fun a w hF hW => ?_)
                  refine ls hF hW rfl (y_assign hF rfl) (fun a w hF hW => ?_)
                  refine ls_nil ?_
                  refine c_then ?_
                  refine wp_ret ?_
                  refine r_block ?_
                  refine r_then ?_
                  refine r_block ?_
                  refine r_then ?_
                  refine post2 (.inl rfl) hF hW rfl (rv_tmp hF rfl) (rv_tmp hF rfl) ?_
                  have hz : ¬ ((-1125899906842624 ≤ x ∧ x ≤ 1125899906842624) ∧ (-1125899906842624 ≤ y ∧ y ≤ 1125899906842624) ∧ (-1125899906842624 ≤ (x * y) ∧ (x * y) ≤ 1125899906842624)) := by first | omega | (have h5 := mul_far _ _ _ _ i4 (by omega) i5; omega) | (have h6 : 1 ≤ Int.tdiv lb 2 := (by omega); have h5 := mul_far _ _ _ _ (mul_even _ _ _ _ i4 (Int.tdiv lb 2) (by have := tdiv_lit lb 2 (by decide); omega)) h6 (by omega); omega) | (have h6 : 1 ≤ Int.tdiv lb 2 := (by omega); have h5 := mul_far _ _ _ _ (mul_odd _ _ _ _ i4 (Int.tdiv lb 2) (by have := tdiv_lit lb 2 (by decide); omega)) h6 (by omega); omega)
                  exact ⟨congrArg Ending.returned (vtuple (lcons (vint (by rw [if_neg hz])) (lcons (vint (by rw [if_neg hz])) rfl))), hW.frm.below⟩
                ·
                  have c8 : ¬ ((!(rtime (la + la))) = true) := by rw [hb]; decide
                  have tc8 := (rtime_iff (la + la)).1 (by simpa using c8)
                  simp only [hb] at hF
                  clear hb
                  refine wp_skip ?_
                  refine b_normal ?_
                  refine c_then ?_
                  have j0 : 0 ≤ (Int.tdiv lb 2) := by first | omega | exact mul_odd _ _ _ _ i4 _ (by have := tdiv_lit lb 2 (by decide); omega) | exact mul_even _ _ _ _ i4 _ (by have := tdiv_lit lb 2 (by decide); omega) | (have h1 : lb = 1 := (by have := tdiv_lit lb 2 (by decide); omega); have h2 : Int.tdiv lb 2 = 0 := (by have := tdiv_lit lb 2 (by decide); omega); rw [h2]; subst h1; omega)
                  have j1 : -1125899906842624 ≤ (la + la) ∧ (la + la) ≤ 1125899906842624 := by first | omega | exact mul_odd _ _ _ _ i4 _ (by have := tdiv_lit lb 2 (by decide); omega) | exact mul_even _ _ _ _ i4 _ (by have := tdiv_lit lb 2 (by decide); omega) | (have h1 : lb = 1 := (by have := tdiv_lit lb 2 (by decide); omega); have h2 : Int.tdiv lb 2 = 0 := (by have := tdiv_lit lb 2 (by decide); omega); rw [h2]; subst h1; omega)
                  have j2 : -1125899906842624 ≤ (sm + la) ∧ (sm + la) ≤ 1125899906842624 := by first | omega | exact mul_odd _ _ _ _ i4 _ (by have := tdiv_lit lb 2 (by decide); omega) | exact mul_even _ _ _ _ i4 _ (by have := tdiv_lit lb 2 (by decide); omega) | (have h1 : lb = 1 := (by have := tdiv_lit lb 2 (by decide); omega); have h2 : Int.tdiv lb 2 = 0 := (by have := tdiv_lit lb 2 (by decide); omega); rw [h2]; subst h1; omega)
                  have j3 : (Int.tdiv lb 2) ≤ 1125899906842624 := by first | omega | exact mul_odd _ _ _ _ i4 _ (by have := tdiv_lit lb 2 (by decide); omega) | exact mul_even _ _ _ _ i4 _ (by have := tdiv_lit lb 2 (by decide); omega) | (have h1 : lb = 1 := (by have := tdiv_lit lb 2 (by decide); omega); have h2 : Int.tdiv lb 2 = 0 := (by have := tdiv_lit lb 2 (by decide); omega); rw [h2]; subst h1; omega)
                  have j4 : (sm + la) + (la + la) * (Int.tdiv lb 2) = x * y := by first | omega | exact mul_odd _ _ _ _ i4 _ (by have := tdiv_lit lb 2 (by decide); omega) | exact mul_even _ _ _ _ i4 _ (by have := tdiv_lit lb 2 (by decide); omega) | (have h1 : lb = 1 := (by have := tdiv_lit lb 2 (by decide); omega); have h2 : Int.tdiv lb 2 = 0 := (by have := tdiv_lit lb 2 (by decide); omega); rw [h2]; subst h1; omega)
                  have j5 : (0 ≤ (la + la) ∧ 0 ≤ (sm + la)) ∨ ((la + la) ≤ 0 ∧ (sm + la) ≤ 0) := by first | omega | exact mul_odd _ _ _ _ i4 _ (by have := tdiv_lit lb 2 (by decide); omega) | exact mul_even _ _ _ _ i4 _ (by have := tdiv_lit lb 2 (by decide); omega) | (have h1 : lb = 1 := (by have := tdiv_lit lb 2 (by decide); omega); have h2 : Int.tdiv lb 2 = 0 := (by have := tdiv_lit lb 2 (by decide); omega); rw [h2]; subst h1; omega)
                  have jm : (Int.tdiv lb 2).toNat < lb.toNat := by have := tdiv_lit lb 2 (by decide); omega
                  exact ⟨(la + la, Int.tdiv lb 2, sm + la), ⟨j0, j1, j2, j3, j4, j5⟩, jm, hF.re ⟨rfl, rfl, rfl, rfl, rfl, rfl, rfl, rfl, rfl, rfl, rfl, rfl, rfl, trivial⟩, hW⟩
              ·
                have c7 := of_decide_eq_false hb
                simp only [hb] at hF
                clear hb
                refine wp_skip ?_
                refine b_normal ?_
                refine c_then ?_
                have j0 : 0 ≤ (Int.tdiv lb 2) := by first | omega | exact mul_odd _ _ _ _ i4 _ (by have := tdiv_lit lb 2 (by decide); omega) | exact mul_even _ _ _ _ i4 _ (by have := tdiv_lit lb 2 (by decide); omega) | (have h1 : lb = 1 := (by have := tdiv_lit lb 2 (by decide); omega); have h2 : Int.tdiv lb 2 = 0 := (by have := tdiv_lit lb 2 (by decide); omega); rw [h2]; subst h1; omega)
                have j1 : -1125899906842624 ≤ la ∧ la ≤ 1125899906842624 := by first | omega | exact mul_odd _ _ _ _ i4 _ (by have := tdiv_lit lb 2 (by decide); omega) | exact mul_even _ _ _ _ i4 _ (by have := tdiv_lit lb 2 (by decide); omega) | (have h1 : lb = 1 := (by have := tdiv_lit lb 2 (by decide); omega); have h2 : Int.tdiv lb 2 = 0 := (by have := tdiv_lit lb 2 (by decide); omega); rw [h2]; subst h1; omega)
                have j2 : -1125899906842624 ≤ (sm + la) ∧ (sm + la) ≤ 1125899906842624 := by first | omega | exact mul_odd _ _ _ _ i4 _ (by have := tdiv_lit lb 2 (by decide); omega) | exact mul_even _ _ _ _ i4 _ (by have := tdiv_lit lb 2 (by decide); omega) | (have h1 : lb = 1 := (by have := tdiv_lit lb 2 (by decide); omega); have h2 : Int.tdiv lb 2 = 0 := (by have := tdiv_lit lb 2 (by decide); omega); rw [h2]; subst h1; omega)
                have j3 : (Int.tdiv lb 2) ≤ 1125899906842624 := by first | omega | exact mul_odd _ _ _ _ i4 _ (by have := tdiv_lit lb 2 (by decide); omega) | exact mul_even _ _ _ _ i4 _ (by have := tdiv_lit lb 2 (by decide); omega) | (have h1 : lb = 1 := (by have := tdiv_lit lb 2 (by decide); omega); have h2 : Int.tdiv lb 2 = 0 := (by have := tdiv_lit lb 2 (by decide); omega); rw [h2]; subst h1; omega)
                have j4 : (sm + la) + la * (Int.tdiv lb 2) = x * y := by first | omega | exact mul_odd _ _ _ _ i4 _ (by have := tdiv_lit lb 2 (by decide); omega) | exact mul_even _ _ _ _ i4 _ (by have := tdiv_lit lb 2 (by decide); omega) | (have h1 : lb = 1 := (by have := tdiv_lit lb 2 (by decide); omega); have h2 : Int.tdiv lb 2 = 0 := (by have := tdiv_lit lb 2 (by decide); omega); rw [h2]; subst h1; omega)
                have j5 : (0 ≤ la ∧ 0 ≤ (sm + la)) ∨ (la ≤ 0 ∧ (sm + la) ≤ 0) := by first | omega | exact mul_odd _ _ _ _ i4 _ (by have := tdiv_lit lb 2 (by decide); omega) | exact mul_even _ _ _ _ i4 _ (by have := tdiv_lit lb 2 (by decide); omega) | (have h1 : lb = 1 := (by have := tdiv_lit lb 2 (by decide); omega); have h2 : Int.tdiv lb 2 = 0 := (by have := tdiv_lit lb 2 (by decide); omega); rw [h2]; subst h1; omega)
                have jm : (Int.tdiv lb 2).toNat < lb.toNat := by have := tdiv_lit lb 2 (by decide); omega
                exact ⟨(la, Int.tdiv lb 2, sm + la), ⟨j0, j1, j2, j3, j4, j5⟩, jm, hF.re ⟨rfl, rfl, rfl, rfl, rfl, rfl, rfl, rfl, rfl, rfl, rfl, rfl, rfl, trivial⟩, hW⟩
          ·
            have c5 := of_decide_eq_false hb
            simp only [hb] at hF
            clear hb
            refine wp_skip ?_
            refine c_then ?_
            refine c_seq ?_
            refine reg_list ?_
            refine ls hF hW rfl (y_move hF rfl) (fun a w hF hW => ?_)
            have f6 := tdiv_lit lb 2 (by decide)
            refine ls hF hW rfl (y_quo hF rfl rfl (by decide) (r := Int.tdiv lb 2) (IntWalk.i64_in _ (by omega))) (fun a w hF hW => ?_)
            refine ls hF hW rfl (y_assign hF rfl) (fun a w hF hW => ?_)
            refine ls_nil ?_
            refine c_then ?_
            refine c_seq ?_
            refine reg_list ?_
            refine ls hF hW rfl (y_move hF rfl) (fun a w hF hW => ?_)
            refine ls hF hW rfl (y_gtr hF rfl rfl) (fun a w hF hW => ?_)
            refine ls_nil ?_
            refine c_then ?_
            refine c_cond hF rfl (fun hb => ?_) (fun hb => ?_)
            ·
              have c6 := of_decide_eq_true hb
              simp only [hb] at hF
              clear hb
              refine c_seq ?_
              refine reg_list ?_
              refine ls hF hW rfl (y_move hF rfl) (fun a w hF hW => ?_)
              refine ls hF hW rfl (y_move hF rfl) (fun a w hF hW => ?_)
              refine ls hF hW rfl (y_add hF rfl rfl (r := la + la) (IntWalk.i64_in _ (by omega))) (fun a w hF hW => ?_)
              refine ls hF hW rfl (y_assign hF rfl) (fun a w hF hW => ?_)
              refine ls_nil ?_
              refine c_then ?_
              refine c_seq ?_
              refine reg_list ?_
              refine ls hF hW rfl (y_move hF rfl) (fun a w hF hW => ?_)
              refine ls hF hW rfl (y_call (v := Value.bool (rtime (la + la))) hF H54 rfl (fun w _ => rtime_any (la + la) w )) (fun a w hF hW => ?_)
              refine ls hF hW rfl (y_not hF rfl) (fun a w hF hW => ?_)
              refine ls_nil ?_
              refine c_then ?_
              refine c_cond hF rfl (fun hb => ?_) (fun hb => ?_)
              ·
                have c7 := hb
                have tc7 := (rtime_no (la + la)).1 (by simpa using c7)
                simp only [hb] at hF
                clear hb
                refine c_seq ?_
                refine reg_list ?_
                refine ls hF hW rfl (y_assign hF rfl) (fun a w hF hW => ?_)
                refine ls hF hW rfl (y_assign hF rfl) (fun a w hF hW => ?_)
                refine ls_nil ?_
                refine c_then ?_
                refine wp_ret ?_
                refine r_block ?_
                refine r_then ?_
                refine r_block ?_
                refine r_then ?_
                refine post2 (.inl rfl) hF hW rfl (rv_tmp hF rfl) (rv_tmp hF rfl) ?_
                have hz : ¬ ((-1125899906842624 ≤ x ∧ x ≤ 1125899906842624) ∧ (-1125899906842624 ≤ y ∧ y ≤ 1125899906842624) ∧ (-1125899906842624 ≤ (x * y) ∧ (x * y) ≤ 1125899906842624)) := by first | omega | (have h5 := mul_far _ _ _ _ i4 (by omega) i5; omega) | (have h6 : 1 ≤ Int.tdiv lb 2 := (by omega); have h5 := mul_far _ _ _ _ (mul_even _ _ _ _ i4 (Int.tdiv lb 2) (by have := tdiv_lit lb 2 (by decide); omega)) h6 (by omega); omega) | (have h6 : 1 ≤ Int.tdiv lb 2 := (by omega); have h5 := mul_far _ _ _ _ (mul_odd _ _ _ _ i4 (Int.tdiv lb 2) (by have := tdiv_lit lb 2 (by decide); omega)) h6 (by omega); omega)
                exact ⟨congrArg Ending.returned (vtuple (lcons (vint (by rw [if_neg hz])) (lcons (vint (by rw [if_neg hz])) rfl))), hW.frm.below⟩
              ·
                have c7 : ¬ ((!(rtime (la + la))) = true) := by rw [hb]; decide
                have tc7 := (rtime_iff (la + la)).1 (by simpa using c7)
                simp only [hb] at hF
                clear hb
                refine wp_skip ?_
                refine b_normal ?_
                refine c_then ?_
                have j0 : 0 ≤ (Int.tdiv lb 2) := by first | omega | exact mul_odd _ _ _ _ i4 _ (by have := tdiv_lit lb 2 (by decide); omega) | exact mul_even _ _ _ _ i4 _ (by have := tdiv_lit lb 2 (by decide); omega) | (have h1 : lb = 1 := (by have := tdiv_lit lb 2 (by decide); omega); have h2 : Int.tdiv lb 2 = 0 := (by have := tdiv_lit lb 2 (by decide); omega); rw [h2]; subst h1; omega)
                have j1 : -1125899906842624 ≤ (la + la) ∧ (la + la) ≤ 1125899906842624 := by first | omega | exact mul_odd _ _ _ _ i4 _ (by have := tdiv_lit lb 2 (by decide); omega) | exact mul_even _ _ _ _ i4 _ (by have := tdiv_lit lb 2 (by decide); omega) | (have h1 : lb = 1 := (by have := tdiv_lit lb 2 (by decide); omega); have h2 : Int.tdiv lb 2 = 0 := (by have := tdiv_lit lb 2 (by decide); omega); rw [h2]; subst h1; omega)
                have j2 : -1125899906842624 ≤ sm ∧ sm ≤ 1125899906842624 := by first | omega | exact mul_odd _ _ _ _ i4 _ (by have := tdiv_lit lb 2 (by decide); omega) | exact mul_even _ _ _ _ i4 _ (by have := tdiv_lit lb 2 (by decide); omega) | (have h1 : lb = 1 := (by have := tdiv_lit lb 2 (by decide); omega); have h2 : Int.tdiv lb 2 = 0 := (by have := tdiv_lit lb 2 (by decide); omega); rw [h2]; subst h1; omega)
                have j3 : (Int.tdiv lb 2) ≤ 1125899906842624 := by first | omega | exact mul_odd _ _ _ _ i4 _ (by have := tdiv_lit lb 2 (by decide); omega) | exact mul_even _ _ _ _ i4 _ (by have := tdiv_lit lb 2 (by decide); omega) | (have h1 : lb = 1 := (by have := tdiv_lit lb 2 (by decide); omega); have h2 : Int.tdiv lb 2 = 0 := (by have := tdiv_lit lb 2 (by decide); omega); rw [h2]; subst h1; omega)
                have j4 : sm + (la + la) * (Int.tdiv lb 2) = x * y := by first | omega | exact mul_odd _ _ _ _ i4 _ (by have := tdiv_lit lb 2 (by decide); omega) | exact mul_even _ _ _ _ i4 _ (by have := tdiv_lit lb 2 (by decide); omega) | (have h1 : lb = 1 := (by have := tdiv_lit lb 2 (by decide); omega); have h2 : Int.tdiv lb 2 = 0 := (by have := tdiv_lit lb 2 (by decide); omega); rw [h2]; subst h1; omega)
                have j5 : (0 ≤ (la + la) ∧ 0 ≤ sm) ∨ ((la + la) ≤ 0 ∧ sm ≤ 0) := by first | omega | exact mul_odd _ _ _ _ i4 _ (by have := tdiv_lit lb 2 (by decide); omega) | exact mul_even _ _ _ _ i4 _ (by have := tdiv_lit lb 2 (by decide); omega) | (have h1 : lb = 1 := (by have := tdiv_lit lb 2 (by decide); omega); have h2 : Int.tdiv lb 2 = 0 := (by have := tdiv_lit lb 2 (by decide); omega); rw [h2]; subst h1; omega)
                have jm : (Int.tdiv lb 2).toNat < lb.toNat := by have := tdiv_lit lb 2 (by decide); omega
                exact ⟨(la + la, Int.tdiv lb 2, sm), ⟨j0, j1, j2, j3, j4, j5⟩, jm, hF.re ⟨rfl, rfl, rfl, rfl, rfl, rfl, rfl, rfl, rfl, rfl, rfl, rfl, rfl, trivial⟩, hW⟩
            ·
              have c6 := of_decide_eq_false hb
              simp only [hb] at hF
              clear hb
              refine wp_skip ?_
              refine b_normal ?_
              refine c_then ?_
              have j0 : 0 ≤ (Int.tdiv lb 2) := by first | omega | exact mul_odd _ _ _ _ i4 _ (by have := tdiv_lit lb 2 (by decide); omega) | exact mul_even _ _ _ _ i4 _ (by have := tdiv_lit lb 2 (by decide); omega) | (have h1 : lb = 1 := (by have := tdiv_lit lb 2 (by decide); omega); have h2 : Int.tdiv lb 2 = 0 := (by have := tdiv_lit lb 2 (by decide); omega); rw [h2]; subst h1; omega)
              have j1 : -1125899906842624 ≤ la ∧ la ≤ 1125899906842624 := by first | omega | exact mul_odd _ _ _ _ i4 _ (by have := tdiv_lit lb 2 (by decide); omega) | exact mul_even _ _ _ _ i4 _ (by have := tdiv_lit lb 2 (by decide); omega) | (have h1 : lb = 1 := (by have := tdiv_lit lb 2 (by decide); omega); have h2 : Int.tdiv lb 2 = 0 := (by have := tdiv_lit lb 2 (by decide); omega); rw [h2]; subst h1; omega)
              have j2 : -1125899906842624 ≤ sm ∧ sm ≤ 1125899906842624 := by first | omega | exact mul_odd _ _ _ _ i4 _ (by have := tdiv_lit lb 2 (by decide); omega) | exact mul_even _ _ _ _ i4 _ (by have := tdiv_lit lb 2 (by decide); omega) | (have h1 : lb = 1 := (by have := tdiv_lit lb 2 (by decide); omega); have h2 : Int.tdiv lb 2 = 0 := (by have := tdiv_lit lb 2 (by decide); omega); rw [h2]; subst h1; omega)
              have j3 : (Int.tdiv lb 2) ≤ 1125899906842624 := by first | omega | exact mul_odd _ _ _ _ i4 _ (by have := tdiv_lit lb 2 (by decide); omega) | exact mul_even _ _ _ _ i4 _ (by have := tdiv_lit lb 2 (by decide); omega) | (have h1 : lb = 1 := (by have := tdiv_lit lb 2 (by decide); omega); have h2 : Int.tdiv lb 2 = 0 := (by have := tdiv_lit lb 2 (by decide); omega); rw [h2]; subst h1; omega)
              have j4 : sm + la * (Int.tdiv lb 2) = x * y := by first | omega | exact mul_odd _ _ _ _ i4 _ (by have := tdiv_lit lb 2 (by decide); omega) | exact mul_even _ _ _ _ i4 _ (by have := tdiv_lit lb 2 (by decide); omega) | (have h1 : lb = 1 := (by have := tdiv_lit lb 2 (by decide); omega); have h2 : Int.tdiv lb 2 = 0 := (by have := tdiv_lit lb 2 (by decide); omega); rw [h2]; subst h1; omega)
              have j5 : (0 ≤ la ∧ 0 ≤ sm) ∨ (la ≤ 0 ∧ sm ≤ 0) := by first | omega | exact mul_odd _ _ _ _ i4 _ (by have := tdiv_lit lb 2 (by decide); omega) | exact mul_even _ _ _ _ i4 _ (by have := tdiv_lit lb 2 (by decide); omega) | (have h1 : lb = 1 := (by have := tdiv_lit lb 2 (by decide); omega); have h2 : Int.tdiv lb 2 = 0 := (by have := tdiv_lit lb 2 (by decide); omega); rw [h2]; subst h1; omega)
              have jm : (Int.tdiv lb 2).toNat < lb.toNat := by have := tdiv_lit lb 2 (by decide); omega
              exact ⟨(la, Int.tdiv lb 2, sm), ⟨j0, j1, j2, j3, j4, j5⟩, jm, hF.re ⟨rfl, rfl, rfl, rfl, rfl, rfl, rfl, rfl, rfl, rfl, rfl, rfl, rfl, trivial⟩, hW⟩
        ·
          have c4 := of_decide_eq_false hb
          simp only [hb] at hF
          clear hb
          refine wp_exit ?_
          refine e_then ?_
          refine e_then ?_
          refine e_block ?_
          refine c_then ?_
          refine c_seq ?_
          refine reg_list ?_
          refine ls hF hW rfl (y_move hF rfl) (fun a w hF hW => ?_)
          refine ls hF hW rfl (y_assign hF rfl) (fun a w hF hW => ?_)
          refine ls hF hW rfl (y_assign hF rfl) (fun a w hF hW => ?_)
          refine ls_nil ?_
          refine c_then ?_
          refine wp_ret ?_
          refine post2 (.inl rfl) hF hW rfl (rv_tmp hF rfl) (rv_tmp hF rfl) ?_
          have hz : (-1125899906842624 ≤ x ∧ x ≤ 1125899906842624) ∧ (-1125899906842624 ≤ y ∧ y ≤ 1125899906842624) ∧ (-1125899906842624 ≤ (x * y) ∧ (x * y) ≤ 1125899906842624) := by first | omega | (have h0 : lb = 0 := (by omega); subst h0; simp at i4; omega)
          exact ⟨congrArg Ending.returned (vtuple (lcons (vint (by rw [if_pos hz]; first | omega | (have h0 : lb = 0 := (by omega); subst h0; simp at i4; omega))) (lcons (vint (by rw [if_pos hz])) rfl))), hW.frm.below⟩

end Go.Proofs.Ytcnhmbjkippnnaa
