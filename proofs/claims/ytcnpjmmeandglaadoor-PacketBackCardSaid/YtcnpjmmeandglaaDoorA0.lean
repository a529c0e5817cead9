/- The functions of layer 7, lifted. Conditions: none. -/
import Derived.Test.YtcnpjmmeandglaaDoorRows
import Derived.Test.YtcnpjmmeandglaaDoorOB
import Derived.Test.YtcnpjmmeandglaaDoorOG
import Derived.Test.YtcnpjmmeandglaaDoorOT
import Derived.Test.YtcnpjmmeandglaaDoorOD
namespace Go.Proofs.YtcnpjmmeandglaaDoor
open Go Go.RowKit
set_option linter.unusedVariables false
set_option linter.unusedSimpArgs false
set_option maxRecDepth 20000
theorem MO : Tryd.prog.follows .mixedOrders = true := by kernel_rfl
noncomputable def packet_Bits (p0 : Int) : Option Int := (if p0 = 0 then some true else (if p0 = 1 then some true else some (decide (p0 = 3)))).bind fun x1 => (if x1 = true then some 8 else (if p0 = 2 then some 4 else some 0))
theorem packet_Bits_c (Y : Nat → Prop) (w0 : World)  (p0 : Int) (r : Int) (H : packet_Bits p0 = some r)  :
    Calls Tryd.prog 6 #[.int .i64 p0] w0 fun e w' => e = .returned (.int .i64 r) ∧ Below w0.heap.size w0 w' := by
  refine enter Tryd.func6 rfl Tryd.ntmps6 rfl (fun a hF => ?_)
  have hW := Stw.start Y w0
  unfold packet_Bits at H
  refine c_seq ?_
  refine reg_list ?_
  refine ls hF hW rfl ((y_assign hF rfl).q) (fun a w hF hW => ?_)
  refine ls_nil ?_
  refine c_then ?_
  refine c_seq ?_
  refine c_seq ?_
  refine reg_list ?_
  refine ls hF hW rfl ((y_move hF rfl).q) (fun a w hF hW => ?_)
  refine ls_nil ?_
  refine c_then ?_
  refine wp_block ?_
  obtain ⟨o1, G1, K1⟩ := bindE H
  refine c_seqJ (fun a w => ∃ x1 : Bool, some (x1) = some o1 ∧ Fr 10 [] [(2, .int .i64 0), (3, .int .i64 p0), (4, .bool x1)] a ∧ Stw ⟨Y, [], w0⟩ [] [] w) ?_ ?_
  ·
    have H := G1
    clear G1 K1
    refine c_seq ?_
    refine reg_list ?_
    refine ls hF hW rfl ((y_eql hF rfl rfl).q) (fun a w hF hW => ?_)
    refine ls hF hW rfl ((y_assign hF rfl).q) (fun a w hF hW => ?_)
    refine ls_nil ?_
    refine c_then ?_
    refine c_cond hF rfl (fun hb => ?_) (fun hb => ?_)
    ·
      have H := iteT (of_decide_eq_true hb) H
      rw [hb] at hF
      clear hb
      refine wp_skip ?_
      refine c_then ?_
      exact ⟨_, H, hF.re ⟨rfl, rfl, rfl, trivial⟩, hW⟩
    ·
      have H := iteF (of_decide_eq_false hb) H
      rw [hb] at hF
      clear hb
      refine c_seq ?_
      refine reg_list ?_
      refine ls hF hW rfl ((y_eql hF rfl rfl).q) (fun a w hF hW => ?_)
      refine ls hF hW rfl ((y_assign hF rfl).q) (fun a w hF hW => ?_)
      refine ls_nil ?_
      refine c_then ?_
      refine c_cond hF rfl (fun hb => ?_) (fun hb => ?_)
      ·
        have H := iteT (of_decide_eq_true hb) H
        rw [hb] at hF
        clear hb
        refine wp_skip ?_
        refine c_then ?_
        exact ⟨_, H, hF.re ⟨rfl, rfl, rfl, trivial⟩, hW⟩
      ·
        have H := iteF (of_decide_eq_false hb) H
        rw [hb] at hF
        clear hb
        refine reg_list ?_
        refine ls hF hW rfl ((y_eql hF rfl rfl).q) (fun a w hF hW => ?_)
        refine ls hF hW rfl ((y_assign hF rfl).q) (fun a w hF hW => ?_)
        refine ls_nil ?_
        refine c_then ?_
        exact ⟨_, H, hF.re ⟨rfl, rfl, rfl, trivial⟩, hW⟩
  rintro a w ⟨x1, hj, hF, hW⟩
  have hj := Option.some.inj hj
  subst hj
  have H := K1
  clear G1 K1
  refine c_cond hF rfl (fun hb => ?_) (fun hb => ?_)
  ·
    have H := iteT hb H
    rw [hb] at hF
    clear hb
    refine c_seq ?_
    refine reg_list ?_
    refine ls hF hW rfl ((y_assign hF rfl).q) (fun a w hF hW => ?_)
    refine ls_nil ?_
    refine c_then ?_
    refine wp_ret ?_
    refine r_block ?_
    refine r_then ?_
    have H := Option.some.inj H
    subst H
    refine post1 (.inl rfl) hF hW rfl (rv_tmp hF rfl) ?_
    exact ⟨rfl, hW.done⟩
  ·
    have H := iteF (by rw [hb]; decide) H
    rw [hb] at hF
    clear hb
    refine c_seq ?_
    refine reg_list ?_
    refine ls hF hW rfl ((y_eql hF rfl rfl).q) (fun a w hF hW => ?_)
    refine ls hF hW rfl ((y_assign hF rfl).q) (fun a w hF hW => ?_)
    refine ls_nil ?_
    refine c_then ?_
    refine c_cond hF rfl (fun hb => ?_) (fun hb => ?_)
    ·
      have H := iteT (of_decide_eq_true hb) H
      rw [hb] at hF
      clear hb
      refine c_seq ?_
      refine reg_list ?_
      refine ls hF hW rfl ((y_assign hF rfl).q) (fun a w hF hW => ?_)
      refine ls_nil ?_
      refine c_then ?_
      refine wp_ret ?_
      refine r_block ?_
      refine r_then ?_
      have H := Option.some.inj H
      subst H
      refine post1 (.inl rfl) hF hW rfl (rv_tmp hF rfl) ?_
      exact ⟨rfl, hW.done⟩
    ·
      have H := iteF (of_decide_eq_false hb) H
      rw [hb] at hF
      clear hb
      refine wp_skip ?_
      refine b_normal ?_
      refine c_then ?_
      refine c_seq ?_
      refine reg_list ?_
      refine ls hF hW rfl ((y_assign hF rfl).q) (fun a w hF hW => ?_)
      refine ls_nil ?_
      refine c_then ?_
      refine wp_ret ?_
      have H := Option.some.inj H
      subst H
      refine post1 (.inl rfl) hF hW rfl (rv_tmp hF rfl) ?_
      exact ⟨rfl, hW.done⟩

theorem H6 : Has Tryd.prog 6 := ⟨fun args w => run_callFunc_body Tryd.func6 rfl (by decide) args w⟩
def r07_Top (p0 : Int) : Int := (if p0 = 2 then 15 else (if (decide (p0 = 0) || (decide (p0 = 1) || decide (p0 = 3))) = true then 255 else 0))
theorem r07_Top_c (Y : Nat → Prop) (w0 : World)  (p0 : Int) (r : Int) (H : r07_Top p0 = r)  :
    Calls Tryd.prog 9 #[.int .i64 p0] w0 fun e w' => e = .returned (.int .i64 r) ∧ Below w0.heap.size w0 w' := by
  refine enter Tryd.func9 rfl Tryd.ntmps9 rfl (fun a hF => ?_)
  have hW := Stw.start Y w0
  unfold r07_Top at H
  refine c_seq ?_
  refine reg_list ?_
  refine ls hF hW rfl ((y_assign hF rfl).q) (fun a w hF hW => ?_)
  refine ls_nil ?_
  refine c_then ?_
  refine c_seq ?_
  refine c_seq ?_
  refine reg_list ?_
  refine ls hF hW rfl ((y_move hF rfl).q) (fun a w hF hW => ?_)
  refine ls hF hW rfl ((y_eql hF rfl rfl).q) (fun a w hF hW => ?_)
  refine ls_nil ?_
  refine c_then ?_
  refine c_cond hF rfl (fun hb => ?_) (fun hb => ?_)
  ·
    have H := iteT (of_decide_eq_true hb) H
    rw [hb] at hF
    clear hb
    refine c_seq ?_
    refine reg_list ?_
    refine ls hF hW rfl ((y_assign hF rfl).q) (fun a w hF hW => ?_)
    refine ls_nil ?_
    refine c_then ?_
    refine wp_ret ?_
    refine r_then ?_
    subst H
    refine post1 (.inl rfl) hF hW rfl (rv_tmp hF rfl) ?_
    exact ⟨rfl, hW.done⟩
  ·
    have H := iteF (of_decide_eq_false hb) H
    rw [hb] at hF
    clear hb
    refine wp_skip ?_
    refine c_then ?_
    refine c_seq ?_
    refine c_seqJ (fun a w => Fr 15 [] [(2, .int .i64 0), (14, .bool (decide (p0 = 0) || (decide (p0 = 1) || decide (p0 = 3))))] a ∧ Stw ⟨Y, [], w0⟩ [] [] w) ?_ ?_
    ·
      refine reg_list ?_
      refine ls hF hW rfl ((y_move hF rfl).q) (fun a w hF hW => ?_)
      refine ls hF hW rfl ((y_eql hF rfl rfl).q) (fun a w hF hW => ?_)
      refine ls hF hW rfl ((y_move hF rfl).q) (fun a w hF hW => ?_)
      rcases Bool.eq_false_or_eq_true (decide (p0 = 0)) with hb0 | hb0
      ·
        rw [hb0] at hF
        refine ls_skip hF (wanted_n hF rfl rfl rfl rfl rfl) rfl rfl (fun a hF => ?_)
        refine ls_skip hF (wanted_n hF rfl rfl rfl rfl rfl) rfl rfl (fun a hF => ?_)
        refine ls hF hW rfl ((y_pick_t hF rfl rfl rfl).q) (fun a w hF hW => ?_)
        refine ls hF hW rfl ((y_move hF rfl).q) (fun a w hF hW => ?_)
        refine ls_skip hF (wanted_n hF rfl rfl rfl rfl rfl) rfl rfl (fun a hF => ?_)
        refine ls_skip hF (wanted_n hF rfl rfl rfl rfl rfl) rfl rfl (fun a hF => ?_)
        refine ls hF hW rfl ((y_pick_t hF rfl rfl rfl).q) (fun a w hF hW => ?_)
        refine ls_nil ?_
        refine c_then ?_
        exact ⟨hF.re ⟨rfl, (by show some (Value.bool true) = some (Value.bool (decide (p0 = 0) || (decide (p0 = 1) || decide (p0 = 3)))); try rw [hb0]; all_goals simp only [Bool.not_true, Bool.not_false, Bool.true_and, Bool.false_and, Bool.true_or, Bool.false_or, Bool.and_true, Bool.or_false, cond_true, cond_false]), trivial⟩, hW⟩
      ·
        rw [hb0] at hF
        refine ls_w hF hW (wanted_y hF rfl rfl rfl rfl) rfl (Nat.le_of_ble_eq_true rfl) ((y_move hF rfl).q) (fun a w hF hW => ?_)
        refine ls_w hF hW (wanted_y hF rfl rfl rfl rfl) rfl (Nat.le_of_ble_eq_true rfl) ((y_eql hF rfl rfl).q) (fun a w hF hW => ?_)
        refine ls hF hW rfl ((y_pick_f hF rfl rfl rfl).q) (fun a w hF hW => ?_)
        refine ls hF hW rfl ((y_move hF rfl).q) (fun a w hF hW => ?_)
        rcases Bool.eq_false_or_eq_true (decide (p0 = 1)) with hb1 | hb1
        ·
          rw [hb1] at hF
          refine ls_skip hF (wanted_n hF rfl rfl rfl rfl rfl) rfl rfl (fun a hF => ?_)
          refine ls_skip hF (wanted_n hF rfl rfl rfl rfl rfl) rfl rfl (fun a hF => ?_)
          refine ls hF hW rfl ((y_pick_t hF rfl rfl rfl).q) (fun a w hF hW => ?_)
          refine ls_nil ?_
          refine c_then ?_
          exact ⟨hF.re ⟨rfl, (by show some (Value.bool true) = some (Value.bool (decide (p0 = 0) || (decide (p0 = 1) || decide (p0 = 3)))); try rw [hb0]; try rw [hb1]; all_goals simp only [Bool.not_true, Bool.not_false, Bool.true_and, Bool.false_and, Bool.true_or, Bool.false_or, Bool.and_true, Bool.or_false, cond_true, cond_false]), trivial⟩, hW⟩
        ·
          rw [hb1] at hF
          refine ls_w hF hW (wanted_y hF rfl rfl rfl rfl) rfl (Nat.le_of_ble_eq_true rfl) ((y_move hF rfl).q) (fun a w hF hW => ?_)
          refine ls_w hF hW (wanted_y hF rfl rfl rfl rfl) rfl (Nat.le_of_ble_eq_true rfl) ((y_eql hF rfl rfl).q) (fun a w hF hW => ?_)
          refine ls hF hW rfl ((y_pick_f hF rfl rfl rfl).q) (fun a w hF hW => ?_)
          refine ls_nil ?_
          refine c_then ?_
          exact ⟨hF.re ⟨rfl, (by show some (Value.bool (decide (p0 = 3))) = some (Value.bool (decide (p0 = 0) || (decide (p0 = 1) || decide (p0 = 3)))); try rw [hb0]; try rw [hb1]; all_goals simp only [Bool.not_true, Bool.not_false, Bool.true_and, Bool.false_and, Bool.true_or, Bool.false_or, Bool.and_true, Bool.or_false, cond_true, cond_false]), trivial⟩, hW⟩
    rintro a w ⟨hF, hW⟩
    refine c_cond hF rfl (fun hb => ?_) (fun hb => ?_)
    ·
      have H := iteT hb H
      rw [hb] at hF
      clear hb
      refine c_seq ?_
      refine reg_list ?_
      refine ls hF hW rfl ((y_assign hF rfl).q) (fun a w hF hW => ?_)
      refine ls_nil ?_
      refine c_then ?_
      refine wp_ret ?_
      refine r_then ?_
      subst H
      refine post1 (.inl rfl) hF hW rfl (rv_tmp hF rfl) ?_
      exact ⟨rfl, hW.done⟩
    ·
      have H := iteF (by rw [hb]; decide) H
      rw [hb] at hF
      clear hb
      refine wp_skip ?_
      refine c_then ?_
      refine c_seq ?_
      refine reg_list ?_
      refine ls hF hW rfl ((y_assign hF rfl).q) (fun a w hF hW => ?_)
      refine ls_nil ?_
      refine c_then ?_
      refine wp_ret ?_
      subst H
      refine post1 (.inl rfl) hF hW rfl (rv_tmp hF rfl) ?_
      exact ⟨rfl, hW.done⟩

theorem H9 : Has Tryd.prog 9 := ⟨fun args w => run_callFunc_body Tryd.func9 rfl (by decide) args w⟩
noncomputable def r07_Bits_l1  : (Int × Int) → Option ((Int × Int) ⊕ Int)
  | (x2, x3) => (if 0 < x3 then some (.inl (w64 (x2 + 1), w64 (Int.tdiv x3 2))) else some (.inr x2))
noncomputable def r07_Bits (p0 : Int) : Option Int := (loopW (r07_Bits_l1) (0, (r07_Top p0))).bind fun x1 => some x1
theorem r07_Bits_c (Y : Nat → Prop) (w0 : World)  (p0 : Int) (r : Int) (H : r07_Bits p0 = some r)  :
    Calls Tryd.prog 7 #[.int .i64 p0] w0 fun e w' => e = .returned (.int .i64 r) ∧ Below w0.heap.size w0 w' := by
  refine enter Tryd.func7 rfl Tryd.ntmps7 rfl (fun a hF => ?_)
  have hW := Stw.start Y w0
  unfold r07_Bits at H
  refine c_seq ?_
  refine reg_list ?_
  refine ls hF hW rfl ((y_assign hF rfl).q) (fun a w hF hW => ?_)
  refine ls_nil ?_
  refine c_then ?_
  refine c_seq ?_
  refine reg_list ?_
  refine ls hF hW rfl ((y_assign hF rfl).q) (fun a w hF hW => ?_)
  refine ls_nil ?_
  refine c_then ?_
  obtain ⟨o1, G1, K1⟩ := bindE H
  refine c_seqJ (fun a w => ∃ x1 : Int, some (x1) = some o1 ∧ Fr 14 [] [(2, .int .i64 0), (3, .int .i64 x1)] a ∧ Stw ⟨Y, [], w0⟩ [] [] w) ?_ ?_
  ·
    have H := G1
    clear G1 K1
    refine c_seq ?_
    refine reg_list ?_
    refine ls hF hW rfl ((y_move hF rfl).q) (fun a w hF hW => ?_)
    refine ls hF hW rfl (y_call (v := Value.int .i64 (r07_Top p0)) hF H9 rfl (fun w hW => r07_Top_c any w p0 _ rfl)) (fun a w hF hW => ?_)
    refine ls hF hW rfl ((y_assign hF rfl).q) (fun a w hF hW => ?_)
    refine ls_nil ?_
    refine c_then ?_
    refine wp_block ?_
    refine c_loopW H (fun s a w => Fr 14 [] [(2, .int .i64 0), (3, .int .i64 s.1), (4, .int .i64 s.2)] a ∧ Stw ⟨Y, [], w0⟩ [] [] w) ⟨hF.re ⟨rfl, rfl, rfl, trivial⟩, hW⟩ (fun s o a w H L2 hR => ?_)
    obtain ⟨x2, x3⟩ := s
    obtain ⟨hF, hW⟩ := hR
    have hF : Fr 14 [] [(2, .int .i64 0), (3, .int .i64 x2), (4, .int .i64 x3)] a := hF
    have hW : Stw ⟨Y, [], w0⟩ [] [] w := hW
    rw [r07_Bits_l1] at H
    refine c_seq ?_
    refine c_seq ?_
    refine reg_list ?_
    refine ls hF hW rfl ((y_move hF rfl).q) (fun a w hF hW => ?_)
    refine ls hF hW rfl ((y_gtr hF rfl rfl).q) (fun a w hF hW => ?_)
    refine ls_nil ?_
    refine c_then ?_
    refine c_cond hF rfl (fun hb => ?_) (fun hb => ?_)
    ·
      have H := iteT (of_decide_eq_true hb) H
      rw [hb] at hF
      clear hb
      refine wp_skip ?_
      refine c_then ?_
      refine c_seq ?_
      refine wp_block ?_
      refine reg_list ?_
      refine ls hF hW rfl ((y_move hF rfl).q) (fun a w hF hW => ?_)
      refine ls hF hW rfl ((y_add hF rfl rfl rfl).q) (fun a w hF hW => ?_)
      refine ls hF hW rfl ((y_assign hF rfl).q) (fun a w hF hW => ?_)
      refine ls_nil ?_
      refine b_normal ?_
      refine c_then ?_
      refine reg_list ?_
      refine ls hF hW rfl ((y_move hF rfl).q) (fun a w hF hW => ?_)
      refine ls hF hW rfl ((y_quo hF rfl rfl (by decide) rfl).q) (fun a w hF hW => ?_)
      refine ls hF hW rfl ((y_assign hF rfl).q) (fun a w hF hW => ?_)
      refine ls_nil ?_
      refine c_then ?_
      exact ⟨_, H, hF.re ⟨rfl, rfl, rfl, trivial⟩, hW⟩
    ·
      have H := iteF (of_decide_eq_false hb) H
      rw [hb] at hF
      clear hb
      refine wp_exit ?_
      refine e_then ?_
      refine e_then ?_
      refine e_block ?_
      refine c_then ?_
      have H := L2 _ H
      exact ⟨_, H, hF.re ⟨rfl, rfl, trivial⟩, hW⟩
  rintro a w ⟨x1, hj, hF, hW⟩
  have hj := Option.some.inj hj
  subst hj
  have H := K1
  clear G1 K1
  refine c_seq ?_
  refine reg_list ?_
  refine ls hF hW rfl ((y_move hF rfl).q) (fun a w hF hW => ?_)
  refine ls hF hW rfl ((y_assign hF rfl).q) (fun a w hF hW => ?_)
  refine ls_nil ?_
  refine c_then ?_
  refine wp_ret ?_
  have H := Option.some.inj H
  subst H
  refine post1 (.inl rfl) hF hW rfl (rv_tmp hF rfl) ?_
  exact ⟨rfl, hW.done⟩

theorem H7 : Has Tryd.prog 7 := ⟨fun args w => run_callFunc_body Tryd.func7 rfl (by decide) args w⟩
noncomputable def packet_Top (p0 : Int) : Option Int := (packet_Bits p0).bind fun x1 => (shN (shlI .i64 1 x1) x1).bind fun x2 => some (w64 (x2 - 1))
theorem packet_Top_c (Y : Nat → Prop) (w0 : World)  (p0 : Int) (r : Int) (H : packet_Top p0 = some r)  :
    Calls Tryd.prog 8 #[.int .i64 p0] w0 fun e w' => e = .returned (.int .i64 r) ∧ Below w0.heap.size w0 w' := by
  refine enter Tryd.func8 rfl Tryd.ntmps8 rfl (fun a hF => ?_)
  have hW := Stw.start Y w0
  unfold packet_Top at H
  refine c_seq ?_
  refine reg_list ?_
  refine ls hF hW rfl ((y_assign hF rfl).q) (fun a w hF hW => ?_)
  refine ls_nil ?_
  refine c_then ?_
  refine c_seq ?_
  refine reg_list ?_
  refine ls hF hW rfl ((y_move hF rfl).q) (fun a w hF hW => ?_)
  obtain ⟨x1, h1, H⟩ := bindE H
  refine ls hF hW rfl (y_call (v := Value.int .i64 x1) hF H6 rfl (fun w hW => packet_Bits_c any w p0 _ h1)) (fun a w hF hW => ?_)
  obtain ⟨x2, h2, H⟩ := bindE H
  refine ls hF hW rfl ((y_shc (shN_some h2).2 (y_shl hF rfl rfl (shN_some h2).1)).q) (fun a w hF hW => ?_)
  refine ls hF hW rfl ((y_sub hF rfl rfl rfl).q) (fun a w hF hW => ?_)
  refine ls hF hW rfl ((y_assign hF rfl).q) (fun a w hF hW => ?_)
  refine ls_nil ?_
  refine c_then ?_
  refine wp_ret ?_
  have H := Option.some.inj H
  subst H
  refine post1 (.inl rfl) hF hW rfl (rv_tmp hF rfl) ?_
  exact ⟨rfl, hW.done⟩

theorem H8 : Has Tryd.prog 8 := ⟨fun args w => run_callFunc_body Tryd.func8 rfl (by decide) args w⟩
theorem T23 : Ty Tryd.prog 23 true 4 := ⟨by kernel_rfl, by kernel_rfl⟩
theorem Ar23 : Ar Tryd.prog 23 4 3 1 := ⟨Tryd.underlying23, by kernel_rfl⟩
theorem T3 : Ty Tryd.prog 3 false 1 := ⟨by kernel_rfl, by kernel_rfl⟩
noncomputable def packet_fits (p0 : Int) (p1 : Int) : Option Bool := (if 0 ≤ p1 then (packet_Top p0).bind fun x2 => some (decide (p1 ≤ x2)) else some false).bind fun x1 => some x1
theorem packet_fits_c (Y : Nat → Prop) (w0 : World)  (p0 : Int) (p1 : Int) (r : Bool) (H : packet_fits p0 p1 = some r)  :
    Calls Tryd.prog 29 #[.int .i64 p0, .int .i64 p1] w0 fun e w' => e = .returned (.bool r) ∧ Below w0.heap.size w0 w' := by
  refine enter Tryd.func29 rfl Tryd.ntmps29 rfl (fun a hF => ?_)
  have hW := Stw.start Y w0
  unfold packet_fits at H
  refine c_seq ?_
  refine reg_list ?_
  refine ls hF hW rfl ((y_assign hF rfl).q) (fun a w hF hW => ?_)
  refine ls_nil ?_
  refine c_then ?_
  obtain ⟨o1, G1, K1⟩ := bindE H
  refine c_seqJ (fun a w => ∃ x1 : Bool, some (x1) = some o1 ∧ Fr 13 [] [(4, .bool x1)] a ∧ Stw ⟨Y, [], w0⟩ [] [] w) ?_ ?_
  ·
    have H := G1
    clear G1 K1
    refine reg_list ?_
    refine ls hF hW rfl ((y_move hF rfl).q) (fun a w hF hW => ?_)
    refine ls hF hW rfl ((y_geq hF rfl rfl).q) (fun a w hF hW => ?_)
    refine ls hF hW rfl ((y_move hF rfl).q) (fun a w hF hW => ?_)
    rcases Bool.eq_false_or_eq_true (decide (0 ≤ p1)) with hb | hb
    ·
      have H := iteT (of_decide_eq_true hb) H
      rw [hb] at hF
      clear hb
      refine ls_w hF hW (wanted_y hF rfl rfl rfl rfl) rfl (Nat.le_of_ble_eq_true rfl) ((y_move hF rfl).q) (fun a w hF hW => ?_)
      refine ls_w hF hW (wanted_y hF rfl rfl rfl rfl) rfl (Nat.le_of_ble_eq_true rfl) ((y_move hF rfl).q) (fun a w hF hW => ?_)
      refine ls_g (wanted_y hF rfl rfl rfl rfl) ?_
      obtain ⟨x2, h1, H⟩ := bindE H
      refine ls hF hW rfl (y_call (v := Value.int .i64 x2) hF H8 rfl (fun w hW => packet_Top_c any w p0 _ h1)) (fun a w hF hW => ?_)
      refine ls_w hF hW (wanted_y hF rfl rfl rfl rfl) rfl (Nat.le_of_ble_eq_true rfl) ((y_leq hF rfl rfl).q) (fun a w hF hW => ?_)
      refine ls hF hW rfl ((y_pick_t hF rfl rfl rfl).q) (fun a w hF hW => ?_)
      refine ls hF hW rfl ((y_assign hF rfl).q) (fun a w hF hW => ?_)
      refine ls_nil ?_
      refine c_then ?_
      exact ⟨_, H, hF.re ⟨rfl, trivial⟩, hW⟩
    ·
      have H := iteF (of_decide_eq_false hb) H
      rw [hb] at hF
      clear hb
      refine ls_skip hF (wanted_n hF rfl rfl rfl rfl rfl) rfl rfl (fun a hF => ?_)
      refine ls_skip hF (wanted_n hF rfl rfl rfl rfl rfl) rfl rfl (fun a hF => ?_)
      refine ls_skip hF (wanted_n hF rfl rfl rfl rfl rfl) rfl rfl (fun a hF => ?_)
      refine ls_skip hF (wanted_n hF rfl rfl rfl rfl rfl) rfl rfl (fun a hF => ?_)
      refine ls hF hW rfl ((y_pick_f hF rfl rfl rfl).q) (fun a w hF hW => ?_)
      refine ls hF hW rfl ((y_assign hF rfl).q) (fun a w hF hW => ?_)
      refine ls_nil ?_
      refine c_then ?_
      exact ⟨_, H, hF.re ⟨rfl, trivial⟩, hW⟩
  rintro a w ⟨x1, hj, hF, hW⟩
  have hj := Option.some.inj hj
  subst hj
  have H := K1
  clear G1 K1
  refine wp_ret ?_
  have H := Option.some.inj H
  subst H
  refine post1 (.inl rfl) hF hW rfl (rv_tmp hF rfl) ?_
  exact ⟨rfl, hW.done⟩

theorem H29 : Has Tryd.prog 29 := ⟨fun args w => run_callFunc_body Tryd.func29 rfl (by decide) args w⟩
noncomputable def packet_Right_l1 (p0 : Int × Int × Int × Int) : Int → Option (Int ⊕ (Unit ⊕ Bool))
  | x1 => (if x1 < 4 then (ix ([p0.1, p0.2.1, p0.2.2.1, p0.2.2.2] : List Int) x1).bind fun x2 => (packet_fits x1 x2).bind fun x3 => (if (!x3) = true then some (.inr (.inr false)) else some (.inl (w64 (x1 + 1)))) else some (.inr (.inl ())))
noncomputable def packet_Right (p0 : Int × Int × Int × Int) : Option Bool := orR (loopW (packet_Right_l1 p0) 0) fun _ => some true
theorem packet_Right_c (Y : Nat → Prop) (w0 : World)  (p0 : Int × Int × Int × Int) (r : Bool) (H : packet_Right p0 = some r)  :
    Calls Tryd.prog 10 #[.agg #[.int .i64 p0.1, .int .i64 p0.2.1, .int .i64 p0.2.2.1, .int .i64 p0.2.2.2]] w0 fun e w' => e = .returned (.bool r) ∧ Below w0.heap.size w0 w' := by
  refine enter Tryd.func10 rfl Tryd.ntmps10 rfl (fun a hF => ?_)
  have hW := Stw.start Y w0
  unfold packet_Right at H
  refine c_seq ?_
  refine reg_list ?_
  refine l_box (cs := [.int .i64 p0.1, .int .i64 p0.2.1, .int .i64 p0.2.2.1, .int .i64 p0.2.2.2]) hF hW rfl rfl rfl (fun b1 a w hF hW => ?_)
  refine ls hF hW rfl ((y_assign hF rfl).q) (fun a w hF hW => ?_)
  refine ls_nil ?_
  refine c_then ?_
  obtain ⟨o1, G1, K1, L1⟩ := orE H
  refine c_seqJ (fun a w => some (Sum.inl ()) = some o1 ∧ Fr 15 [] [(2, .bool false)] a ∧ Stw ⟨Y, [], w0⟩ [(b1, [.int .i64 p0.1, .int .i64 p0.2.1, .int .i64 p0.2.2.1, .int .i64 p0.2.2.2])] [] w) ?_ ?_
  ·
    have H := G1
    clear G1 K1
    refine c_seq ?_
    refine reg_list ?_
    refine ls hF hW rfl ((y_load (v := Value.agg #[.int .i64 p0.1, .int .i64 p0.2.1, .int .i64 p0.2.2.1, .int .i64 p0.2.2.2]) 0 hF rfl rfl T23 rfl).q) (fun a w hF hW => ?_)
    refine ls hF hW rfl ((y_move hF rfl).q) (fun a w hF hW => ?_)
    refine ls_nil ?_
    refine c_then ?_
    refine wp_block ?_
    refine c_loopW H (fun s a w => Fr 15 [] [(2, .bool false), (5, .agg #[.int .i64 p0.1, .int .i64 p0.2.1, .int .i64 p0.2.2.1, .int .i64 p0.2.2.2]), (6, .int .i64 s)] a ∧ Stw ⟨Y, [], w0⟩ [(b1, [.int .i64 p0.1, .int .i64 p0.2.1, .int .i64 p0.2.2.1, .int .i64 p0.2.2.2])] [] w) ⟨hF.re ⟨rfl, rfl, rfl, trivial⟩, hW⟩ (fun s o a w H L2 hR => ?_)
    obtain ⟨x1, rfl⟩ : ∃ x, x = s := ⟨s, rfl⟩
    obtain ⟨hF, hW⟩ := hR
    have hF : Fr 15 [] [(2, .bool false), (5, .agg #[.int .i64 p0.1, .int .i64 p0.2.1, .int .i64 p0.2.2.1, .int .i64 p0.2.2.2]), (6, .int .i64 x1)] a := hF
    have hW : Stw ⟨Y, [], w0⟩ [(b1, [.int .i64 p0.1, .int .i64 p0.2.1, .int .i64 p0.2.2.1, .int .i64 p0.2.2.2])] [] w := hW
    rw [packet_Right_l1] at H
    refine c_seq ?_
    refine reg_list ?_
    refine ls hF hW rfl ((y_lss hF rfl rfl).q) (fun a w hF hW => ?_)
    refine ls_nil ?_
    refine c_then ?_
    refine c_seq ?_
    refine c_cond hF rfl (fun hb => ?_) (fun hb => ?_)
    ·
      have H := iteT (of_decide_eq_true hb) H
      rw [hb] at hF
      clear hb
      refine wp_skip ?_
      refine c_then ?_
      refine c_seq ?_
      refine wp_block ?_
      refine c_seq ?_
      refine reg_list ?_
      refine ls hF hW rfl ((y_move hF rfl).q) (fun a w hF hW => ?_)
      obtain ⟨x2, h1, H⟩ := bindE H
      refine ls hF hW rfl ((y_indexA (enc := Value.int .i64) (cs := [.int .i64 p0.1, .int .i64 p0.2.1, .int .i64 p0.2.2.1, .int .i64 p0.2.2.2]) Ar23 T3 hF rfl rfl rfl rfl h1).q) (fun a w hF hW => ?_)
      refine ls hF hW rfl ((y_assign hF rfl).q) (fun a w hF hW => ?_)
      refine ls hF hW rfl ((y_assign hF rfl).q) (fun a w hF hW => ?_)
      refine ls_nil ?_
      refine c_then ?_
      refine c_seq ?_
      refine reg_list ?_
      refine ls hF hW rfl ((y_move hF rfl).q) (fun a w hF hW => ?_)
      refine ls hF hW rfl ((y_move hF rfl).q) (fun a w hF hW => ?_)
      obtain ⟨x3, h2, H⟩ := bindE H
      refine ls hF hW rfl (y_call (v := Value.bool x3) hF H29 rfl (fun w hW => packet_fits_c any w x1 x2 _ h2)) (fun a w hF hW => ?_)
      refine ls hF hW rfl ((y_not hF rfl).q) (fun a w hF hW => ?_)
      refine ls_nil ?_
      refine c_then ?_
      refine c_cond hF rfl (fun hb => ?_) (fun hb => ?_)
      ·
        have H := iteT hb H
        rw [hb] at hF
        clear hb
        refine c_seq ?_
        refine reg_list ?_
        refine ls hF hW rfl ((y_assign hF rfl).q) (fun a w hF hW => ?_)
        refine ls_nil ?_
        refine c_then ?_
        refine wp_ret ?_
        refine r_block ?_
        refine r_then ?_
        refine r_then ?_
        refine r_block ?_
        refine r_then ?_
        have H := L2 _ H
        have H := L1 _ H
        have H := Option.some.inj H
        subst H
        refine post1 (.inl rfl) hF hW rfl (rv_tmp hF rfl) ?_
        exact ⟨rfl, hW.done⟩
      ·
        have H := iteF (by rw [hb]; decide) H
        rw [hb] at hF
        clear hb
        refine wp_skip ?_
        refine b_normal ?_
        refine c_then ?_
        refine reg_list ?_
        refine ls hF hW rfl ((y_add hF rfl rfl rfl).q) (fun a w hF hW => ?_)
        refine ls hF hW rfl ((y_move hF rfl).q) (fun a w hF hW => ?_)
        refine ls_nil ?_
        refine c_then ?_
        exact ⟨_, H, hF.re ⟨rfl, rfl, rfl, trivial⟩, hW⟩
    ·
      have H := iteF (of_decide_eq_false hb) H
      rw [hb] at hF
      clear hb
      refine wp_exit ?_
      refine e_then ?_
      refine e_then ?_
      refine e_block ?_
      refine c_then ?_
      have H := L2 _ H
      exact ⟨H, hF.re ⟨rfl, trivial⟩, hW⟩
  rintro a w ⟨hj, hF, hW⟩
  have H := K1 _ hj
  clear hj G1 K1 L1
  refine c_seq ?_
  refine reg_list ?_
  refine ls hF hW rfl ((y_assign hF rfl).q) (fun a w hF hW => ?_)
  refine ls_nil ?_
  refine c_then ?_
  refine wp_ret ?_
  have H := Option.some.inj H
  subst H
  refine post1 (.inl rfl) hF hW rfl (rv_tmp hF rfl) ?_
  exact ⟨rfl, hW.done⟩

theorem H10 : Has Tryd.prog 10 := ⟨fun args w => run_callFunc_body Tryd.func10 rfl (by decide) args w⟩
noncomputable def r07_Right_l1 (p0 : Int × Int × Int × Int) : Int → Option (Int ⊕ (Unit ⊕ Bool))
  | x1 => (if x1 < 4 then ((ix ([p0.1, p0.2.1, p0.2.2.1, p0.2.2.2] : List Int) x1).bind fun x3 => (if x3 < 0 then some true else (ix ([p0.1, p0.2.1, p0.2.2.1, p0.2.2.2] : List Int) x1).bind fun x4 => some (decide ((r07_Top x1) < x4)))).bind fun x2 => (if x2 = true then some (.inr (.inr false)) else some (.inl (w64 (x1 + 1)))) else some (.inr (.inl ())))
noncomputable def r07_Right (p0 : Int × Int × Int × Int) : Option Bool := orR (loopW (r07_Right_l1 p0) 0) fun _ => some true
theorem r07_Right_c (Y : Nat → Prop) (w0 : World)  (p0 : Int × Int × Int × Int) (r : Bool) (H : r07_Right p0 = some r)  :
    Calls Tryd.prog 11 #[.agg #[.int .i64 p0.1, .int .i64 p0.2.1, .int .i64 p0.2.2.1, .int .i64 p0.2.2.2]] w0 fun e w' => e = .returned (.bool r) ∧ Below w0.heap.size w0 w' := by
  refine enter Tryd.func11 rfl Tryd.ntmps11 rfl (fun a hF => ?_)
  have hW := Stw.start Y w0
  unfold r07_Right at H
  refine c_seq ?_
  refine reg_list ?_
  refine l_box (cs := [.int .i64 p0.1, .int .i64 p0.2.1, .int .i64 p0.2.2.1, .int .i64 p0.2.2.2]) hF hW rfl rfl rfl (fun b1 a w hF hW => ?_)
  refine ls hF hW rfl ((y_assign hF rfl).q) (fun a w hF hW => ?_)
  refine ls_nil ?_
  refine c_then ?_
  obtain ⟨o1, G1, K1, L1⟩ := orE H
  refine c_seqJ (fun a w => some (Sum.inl ()) = some o1 ∧ Fr 20 [] [(2, .bool false)] a ∧ Stw ⟨Y, [], w0⟩ [(b1, [.int .i64 p0.1, .int .i64 p0.2.1, .int .i64 p0.2.2.1, .int .i64 p0.2.2.2])] [] w) ?_ ?_
  ·
    have H := G1
    clear G1 K1
    refine c_seq ?_
    refine reg_list ?_
    refine ls hF hW rfl ((y_assign hF rfl).q) (fun a w hF hW => ?_)
    refine ls_nil ?_
    refine c_then ?_
    refine wp_block ?_
    refine c_loopW H (fun s a w => Fr 20 [] [(1, .pointer (some ⟨b1, 0, none⟩)), (2, .bool false), (3, .int .i64 s)] a ∧ Stw ⟨Y, [], w0⟩ [(b1, [.int .i64 p0.1, .int .i64 p0.2.1, .int .i64 p0.2.2.1, .int .i64 p0.2.2.2])] [] w) ⟨hF.re ⟨rfl, rfl, rfl, trivial⟩, hW⟩ (fun s o a w H L2 hR => ?_)
    obtain ⟨x1, rfl⟩ : ∃ x, x = s := ⟨s, rfl⟩
    obtain ⟨hF, hW⟩ := hR
    have hF : Fr 20 [] [(1, .pointer (some ⟨b1, 0, none⟩)), (2, .bool false), (3, .int .i64 x1)] a := hF
    have hW : Stw ⟨Y, [], w0⟩ [(b1, [.int .i64 p0.1, .int .i64 p0.2.1, .int .i64 p0.2.2.1, .int .i64 p0.2.2.2])] [] w := hW
    rw [r07_Right_l1] at H
    refine c_seq ?_
    refine c_seq ?_
    refine reg_list ?_
    refine ls hF hW rfl ((y_move hF rfl).q) (fun a w hF hW => ?_)
    refine ls hF hW rfl ((y_lss hF rfl rfl).q) (fun a w hF hW => ?_)
    refine ls_nil ?_
    refine c_then ?_
    refine c_cond hF rfl (fun hb => ?_) (fun hb => ?_)
    ·
      have H := iteT (of_decide_eq_true hb) H
      rw [hb] at hF
      clear hb
      refine wp_skip ?_
      refine c_then ?_
      refine c_seq ?_
      refine wp_block ?_
      obtain ⟨o3, G3, K3⟩ := bindE H
      refine c_seqJ (fun a w => ∃ x2 : Bool, some (x2) = some o3 ∧ Fr 20 [] [(1, .pointer (some ⟨b1, 0, none⟩)), (2, .bool false), (3, .int .i64 x1), (19, .bool x2)] a ∧ Stw ⟨Y, [], w0⟩ [(b1, [.int .i64 p0.1, .int .i64 p0.2.1, .int .i64 p0.2.2.1, .int .i64 p0.2.2.2])] [] w) ?_ ?_
      ·
        have H := G3
        clear G3 K3
        refine reg_quiet hW MO (by kernel_rfl) ?_
        refine qs hF rfl ((y_move hF rfl).q) (fun a hF => ?_)
        obtain ⟨x3, h1, H⟩ := bindE H
        refine qs hF rfl ((y_indexP (0 + (x1).toNat * 1) Ar23 hF rfl rfl rfl h1 rfl).q) (fun a hF => ?_)
        refine qs hF rfl ((y_load (v := Value.int .i64 x3) 0 hF rfl rfl T3 (rdv_dyn (base := 0) (m := 4) (l := [p0.1, p0.2.1, p0.2.2.1, p0.2.2.2]) (enc := Value.int .i64) rfl h1)).q) (fun a hF => ?_)
        refine qs hF rfl ((y_lss hF rfl rfl).q) (fun a hF => ?_)
        refine qs hF rfl ((y_move hF rfl).q) (fun a hF => ?_)
        rcases Bool.eq_false_or_eq_true (decide (x3 < 0)) with hb | hb
        ·
          have H := iteT (of_decide_eq_true hb) H
          rw [hb] at hF
          clear hb
          refine qs_skip hF (wanted_n hF rfl rfl rfl rfl rfl) rfl rfl (fun a hF => ?_)
          refine qs_skip hF (wanted_n hF rfl rfl rfl rfl rfl) rfl rfl (fun a hF => ?_)
          refine qs_skip hF (wanted_n hF rfl rfl rfl rfl rfl) rfl rfl (fun a hF => ?_)
          refine qs_skip hF (wanted_n hF rfl rfl rfl rfl rfl) rfl rfl (fun a hF => ?_)
          refine qs_skip hF (wanted_n hF rfl rfl rfl rfl rfl) rfl rfl (fun a hF => ?_)
          refine qs_skip hF (wanted_n hF rfl rfl rfl rfl rfl) rfl rfl (fun a hF => ?_)
          refine qs hF rfl ((y_pick_t hF rfl rfl rfl).q) (fun a hF => ?_)
          refine quiet_end (fun w hW => ?_)
          refine c_then ?_
          exact ⟨_, H, hF.re ⟨rfl, rfl, rfl, rfl, trivial⟩, hW⟩
        ·
          have H := iteF (of_decide_eq_false hb) H
          rw [hb] at hF
          clear hb
          refine qs_w hF (wanted_y hF rfl rfl rfl rfl) rfl (Nat.le_of_ble_eq_true rfl) ((y_move hF rfl).q) (fun a hF => ?_)
          obtain ⟨x4, h2, H⟩ := bindE H
          refine qs_w hF (wanted_y hF rfl rfl rfl rfl) rfl (Nat.le_of_ble_eq_true rfl) ((y_indexP (0 + (x1).toNat * 1) Ar23 hF rfl rfl rfl h2 rfl).q) (fun a hF => ?_)
          refine qs_w hF (wanted_y hF rfl rfl rfl rfl) rfl (Nat.le_of_ble_eq_true rfl) ((y_load (v := Value.int .i64 x4) 0 hF rfl rfl T3 (rdv_dyn (base := 0) (m := 4) (l := [p0.1, p0.2.1, p0.2.2.1, p0.2.2.2]) (enc := Value.int .i64) rfl h2)).q) (fun a hF => ?_)
          refine qs_w hF (wanted_y hF rfl rfl rfl rfl) rfl (Nat.le_of_ble_eq_true rfl) ((y_move hF rfl).q) (fun a hF => ?_)
          refine qs_w hF (wanted_y hF rfl rfl rfl rfl) rfl (Nat.le_of_ble_eq_true rfl) (y_call (v := Value.int .i64 (r07_Top x1)) hF H9 rfl (fun w hW => r07_Top_c any w x1 _ rfl)) (fun a hF => ?_)
          refine qs_w hF (wanted_y hF rfl rfl rfl rfl) rfl (Nat.le_of_ble_eq_true rfl) ((y_gtr hF rfl rfl).q) (fun a hF => ?_)
          refine qs hF rfl ((y_pick_f hF rfl rfl rfl).q) (fun a hF => ?_)
          refine quiet_end (fun w hW => ?_)
          refine c_then ?_
          exact ⟨_, H, hF.re ⟨rfl, rfl, rfl, rfl, trivial⟩, hW⟩
      rintro a w ⟨x2, hj, hF, hW⟩
      have hj := Option.some.inj hj
      subst hj
      have H := K3
      clear G3 K3
      refine c_cond hF rfl (fun hb => ?_) (fun hb => ?_)
      ·
        have H := iteT hb H
        rw [hb] at hF
        clear hb
        refine c_seq ?_
        refine reg_list ?_
        refine ls hF hW rfl ((y_assign hF rfl).q) (fun a w hF hW => ?_)
        refine ls_nil ?_
        refine c_then ?_
        refine wp_ret ?_
        refine r_block ?_
        refine r_then ?_
        refine r_then ?_
        refine r_block ?_
        refine r_then ?_
        have H := L2 _ H
        have H := L1 _ H
        have H := Option.some.inj H
        subst H
        refine post1 (.inl rfl) hF hW rfl (rv_tmp hF rfl) ?_
        exact ⟨rfl, hW.done⟩
      ·
        have H := iteF (by rw [hb]; decide) H
        rw [hb] at hF
        clear hb
        refine wp_skip ?_
        refine b_normal ?_
        refine c_then ?_
        refine reg_list ?_
        refine ls hF hW rfl ((y_move hF rfl).q) (fun a w hF hW => ?_)
        refine ls hF hW rfl ((y_add hF rfl rfl rfl).q) (fun a w hF hW => ?_)
        refine ls hF hW rfl ((y_assign hF rfl).q) (fun a w hF hW => ?_)
        refine ls_nil ?_
        refine c_then ?_
        exact ⟨_, H, hF.re ⟨rfl, rfl, rfl, trivial⟩, hW⟩
    ·
      have H := iteF (of_decide_eq_false hb) H
      rw [hb] at hF
      clear hb
      refine wp_exit ?_
      refine e_then ?_
      refine e_then ?_
      refine e_block ?_
      refine c_then ?_
      have H := L2 _ H
      exact ⟨H, hF.re ⟨rfl, trivial⟩, hW⟩
  rintro a w ⟨hj, hF, hW⟩
  have H := K1 _ hj
  clear hj G1 K1 L1
  refine c_seq ?_
  refine reg_list ?_
  refine ls hF hW rfl ((y_assign hF rfl).q) (fun a w hF hW => ?_)
  refine ls_nil ?_
  refine c_then ?_
  refine wp_ret ?_
  have H := Option.some.inj H
  subst H
  refine post1 (.inl rfl) hF hW rfl (rv_tmp hF rfl) ?_
  exact ⟨rfl, hW.done⟩

theorem H11 : Has Tryd.prog 11 := ⟨fun args w => run_callFunc_body Tryd.func11 rfl (by decide) args w⟩
theorem Z23 : (Tryd.prog.info? 23).bind (·.zero) = some (.agg #[.int .i64 0, .int .i64 0, .int .i64 0, .int .i64 0]) := by kernel_rfl
def packet_known (p0 : Int) : Bool := (decide (0 ≤ p0) && decide (p0 < 4))
theorem packet_known_c (Y : Nat → Prop) (w0 : World)  (p0 : Int) (r : Bool) (H : packet_known p0 = r)  :
    Calls Tryd.prog 30 #[.int .i64 p0] w0 fun e w' => e = .returned (.bool r) ∧ Below w0.heap.size w0 w' := by
  refine enter Tryd.func30 rfl Tryd.ntmps30 rfl (fun a hF => ?_)
  have hW := Stw.start Y w0
  unfold packet_known at H
  refine c_seq ?_
  refine reg_list ?_
  refine ls hF hW rfl ((y_assign hF rfl).q) (fun a w hF hW => ?_)
  refine ls_nil ?_
  refine c_then ?_
  refine c_seqJ (fun a w => Fr 9 [] [(2, .bool (decide (0 ≤ p0) && decide (p0 < 4)))] a ∧ Stw ⟨Y, [], w0⟩ [] [] w) ?_ ?_
  ·
    refine reg_list ?_
    refine ls hF hW rfl ((y_move hF rfl).q) (fun a w hF hW => ?_)
    refine ls hF hW rfl ((y_geq hF rfl rfl).q) (fun a w hF hW => ?_)
    refine ls hF hW rfl ((y_move hF rfl).q) (fun a w hF hW => ?_)
    rcases Bool.eq_false_or_eq_true (decide (0 ≤ p0)) with hb0 | hb0
    ·
      rw [hb0] at hF
      refine ls_w hF hW (wanted_y hF rfl rfl rfl rfl) rfl (Nat.le_of_ble_eq_true rfl) ((y_move hF rfl).q) (fun a w hF hW => ?_)
      refine ls_w hF hW (wanted_y hF rfl rfl rfl rfl) rfl (Nat.le_of_ble_eq_true rfl) ((y_lss hF rfl rfl).q) (fun a w hF hW => ?_)
      refine ls hF hW rfl ((y_pick_t hF rfl rfl rfl).q) (fun a w hF hW => ?_)
      refine ls hF hW rfl ((y_assign hF rfl).q) (fun a w hF hW => ?_)
      refine ls_nil ?_
      refine c_then ?_
      exact ⟨hF.re ⟨(by show some (Value.bool (decide (p0 < 4))) = some (Value.bool (decide (0 ≤ p0) && decide (p0 < 4))); try rw [hb0]; all_goals simp only [Bool.not_true, Bool.not_false, Bool.true_and, Bool.false_and, Bool.true_or, Bool.false_or, Bool.and_true, Bool.or_false, cond_true, cond_false]), trivial⟩, hW⟩
    ·
      rw [hb0] at hF
      refine ls_skip hF (wanted_n hF rfl rfl rfl rfl rfl) rfl rfl (fun a hF => ?_)
      refine ls_skip hF (wanted_n hF rfl rfl rfl rfl rfl) rfl rfl (fun a hF => ?_)
      refine ls hF hW rfl ((y_pick_f hF rfl rfl rfl).q) (fun a w hF hW => ?_)
      refine ls hF hW rfl ((y_assign hF rfl).q) (fun a w hF hW => ?_)
      refine ls_nil ?_
      refine c_then ?_
      exact ⟨hF.re ⟨(by show some (Value.bool false) = some (Value.bool (decide (0 ≤ p0) && decide (p0 < 4))); try rw [hb0]; all_goals simp only [Bool.not_true, Bool.not_false, Bool.true_and, Bool.false_and, Bool.true_or, Bool.false_or, Bool.and_true, Bool.or_false, cond_true, cond_false]), trivial⟩, hW⟩
  rintro a w ⟨hF, hW⟩
  refine wp_ret ?_
  subst H
  refine post1 (.inl rfl) hF hW rfl (rv_tmp hF rfl) ?_
  exact ⟨rfl, hW.done⟩

theorem H30 : Has Tryd.prog 30 := ⟨fun args w => run_callFunc_body Tryd.func30 rfl (by decide) args w⟩
noncomputable def packet_With (p0 : Int × Int × Int × Int) (p1 : Int) (p2 : Int) : Option (Int × Int × Int × Int) := ((if (packet_known p1) = true then (packet_fits p1 p2).bind fun x6 => some x6 else some false).bind fun x5 => (if x5 = true then (ix ([p0.1, p0.2.1, p0.2.2.1, p0.2.2.2] : List Int) p1).bind fun x7 => some ((if p1 = 0 then p2 else p0.1), (if p1 = 1 then p2 else p0.2.1), (if p1 = 2 then p2 else p0.2.2.1), (if p1 = 3 then p2 else p0.2.2.2)) else some (p0.1, p0.2.1, p0.2.2.1, p0.2.2.2))).bind fun (x1, x2, x3, x4) => some (x1, x2, x3, x4)
theorem packet_With_c (Y : Nat → Prop) (w0 : World)  (p0 : Int × Int × Int × Int) (p1 : Int) (p2 : Int) (r : (Int × Int × Int × Int)) (H : packet_With p0 p1 p2 = some r)  :
    Calls Tryd.prog 12 #[.agg #[.int .i64 p0.1, .int .i64 p0.2.1, .int .i64 p0.2.2.1, .int .i64 p0.2.2.2], .int .i64 p1, .int .i64 p2] w0 fun e w' => e = .returned (.agg #[.int .i64 r.1, .int .i64 r.2.1, .int .i64 r.2.2.1, .int .i64 r.2.2.2]) ∧ Below w0.heap.size w0 w' := by
  refine enter Tryd.func12 rfl Tryd.ntmps12 rfl (fun a hF => ?_)
  have hW := Stw.start Y w0
  unfold packet_With at H
  refine c_seq ?_
  refine reg_list ?_
  refine l_box (cs := [.int .i64 p0.1, .int .i64 p0.2.1, .int .i64 p0.2.2.1, .int .i64 p0.2.2.2]) hF hW rfl rfl rfl (fun b1 a w hF hW => ?_)
  refine l_alloc (cs := [.int .i64 0, .int .i64 0, .int .i64 0, .int .i64 0]) hF hW rfl Z23 rfl (fun b2 a w hF hW => ?_)
  refine ls_nil ?_
  refine c_then ?_
  obtain ⟨o1, G1, K1⟩ := bindE H
  refine c_seqJ (fun a w => ∃ x1 : Int, ∃ x2 : Int, ∃ x3 : Int, ∃ x4 : Int, some ((x1, x2, x3, x4)) = some o1 ∧ Fr 18 [] [(3, .pointer (some ⟨b1, 0, none⟩)), (6, .pointer (some ⟨b2, 0, none⟩))] a ∧ Stw ⟨Y, [], w0⟩ [(b2, [.int .i64 0, .int .i64 0, .int .i64 0, .int .i64 0]), (b1, [.int .i64 x1, .int .i64 x2, .int .i64 x3, .int .i64 x4])] [] w) ?_ ?_
  ·
    have H := G1
    clear G1 K1
    obtain ⟨o2, G2, K2⟩ := bindE H
    refine c_seqJ (fun a w => ∃ x5 : Bool, some (x5) = some o2 ∧ Fr 18 [] [(1, .int .i64 p1), (2, .int .i64 p2), (3, .pointer (some ⟨b1, 0, none⟩)), (6, .pointer (some ⟨b2, 0, none⟩)), (13, .bool x5)] a ∧ Stw ⟨Y, [], w0⟩ [(b2, [.int .i64 0, .int .i64 0, .int .i64 0, .int .i64 0]), (b1, [.int .i64 p0.1, .int .i64 p0.2.1, .int .i64 p0.2.2.1, .int .i64 p0.2.2.2])] [] w) ?_ ?_
    ·
      have H := G2
      clear G2 K2
      refine reg_list ?_
      refine ls hF hW rfl ((y_move hF rfl).q) (fun a w hF hW => ?_)
      refine ls hF hW rfl (y_call (v := Value.bool (packet_known p1)) hF H30 rfl (fun w hW => packet_known_c any w p1 _ rfl)) (fun a w hF hW => ?_)
      refine ls hF hW rfl ((y_move hF rfl).q) (fun a w hF hW => ?_)
      rcases Bool.eq_false_or_eq_true (packet_known p1) with hb | hb
      ·
        have H := iteT hb H
        rw [hb] at hF
        clear hb
        refine ls_w hF hW (wanted_y hF rfl rfl rfl rfl) rfl (Nat.le_of_ble_eq_true rfl) ((y_move hF rfl).q) (fun a w hF hW => ?_)
        refine ls_w hF hW (wanted_y hF rfl rfl rfl rfl) rfl (Nat.le_of_ble_eq_true rfl) ((y_move hF rfl).q) (fun a w hF hW => ?_)
        refine ls_g (wanted_y hF rfl rfl rfl rfl) ?_
        obtain ⟨x6, h1, H⟩ := bindE H
        refine ls hF hW rfl (y_call (v := Value.bool x6) hF H29 rfl (fun w hW => packet_fits_c any w p1 p2 _ h1)) (fun a w hF hW => ?_)
        refine ls hF hW rfl ((y_pick_t hF rfl rfl rfl).q) (fun a w hF hW => ?_)
        refine ls_nil ?_
        refine c_then ?_
        have hW := hW.frontM (i := 1) rfl rfl
        have hW := hW.frontM (i := 1) rfl rfl
        exact ⟨_, H, hF.re ⟨rfl, rfl, rfl, rfl, rfl, trivial⟩, hW⟩
      ·
        have H := iteF (by rw [hb]; decide) H
        rw [hb] at hF
        clear hb
        refine ls_skip hF (wanted_n hF rfl rfl rfl rfl rfl) rfl rfl (fun a hF => ?_)
        refine ls_skip hF (wanted_n hF rfl rfl rfl rfl rfl) rfl rfl (fun a hF => ?_)
        refine ls_skip hF (wanted_n hF rfl rfl rfl rfl rfl) rfl rfl (fun a hF => ?_)
        refine ls hF hW rfl ((y_pick_f hF rfl rfl rfl).q) (fun a w hF hW => ?_)
        refine ls_nil ?_
        refine c_then ?_
        have hW := hW.frontM (i := 1) rfl rfl
        have hW := hW.frontM (i := 1) rfl rfl
        exact ⟨_, H, hF.re ⟨rfl, rfl, rfl, rfl, rfl, trivial⟩, hW⟩
    rintro a w ⟨x5, hj, hF, hW⟩
    have hj := Option.some.inj hj
    subst hj
    have H := K2
    clear G2 K2
    refine c_cond hF rfl (fun hb => ?_) (fun hb => ?_)
    ·
      have H := iteT hb H
      rw [hb] at hF
      clear hb
      refine reg_list ?_
      refine ls hF hW rfl ((y_move hF rfl).q) (fun a w hF hW => ?_)
      refine ls hF hW rfl ((y_move hF rfl).q) (fun a w hF hW => ?_)
      obtain ⟨x7, h2, H⟩ := bindE H
      refine ls hF hW rfl ((y_indexP (0 + (p1).toNat * 1) Ar23 hF rfl rfl rfl h2 rfl).q) (fun a w hF hW => ?_)
      refine l_store_dyn (o := 0) (m := 4) (i := p1) (l := ([p0.1, p0.2.1, p0.2.2.1, p0.2.2.2] : List Int)) (x := x7) (cs := [.int .i64 p0.1, .int .i64 p0.2.1, .int .i64 p0.2.2.1, .int .i64 p0.2.2.2]) (cs' := [.int .i64 (if p1 = 0 then p2 else p0.1), .int .i64 (if p1 = 1 then p2 else p0.2.1), .int .i64 (if p1 = 2 then p2 else p0.2.2.1), .int .i64 (if p1 = 3 then p2 else p0.2.2.2)]) 1 hF hW rfl rfl rfl T3 rfl rfl rfl rfl h2 (by intro k hk hn; rw [hk]; match k, hn with | 0, _ => rfl | 1, _ => rfl | 2, _ => rfl | 3, _ => rfl | (z + 4), h => exact absurd h (by omega)) (fun w hW => ?_)
      have hW : Stw ⟨Y, [], w0⟩ [(b2, [.int .i64 0, .int .i64 0, .int .i64 0, .int .i64 0]), (b1, [.int .i64 (if p1 = 0 then p2 else p0.1), .int .i64 (if p1 = 1 then p2 else p0.2.1), .int .i64 (if p1 = 2 then p2 else p0.2.2.1), .int .i64 (if p1 = 3 then p2 else p0.2.2.2)])] [] w := hW
      refine ls_nil ?_
      refine c_then ?_
      have hW := hW.frontM (i := 1) rfl rfl
      have hW := hW.frontM (i := 1) rfl rfl
      exact ⟨_, _, _, _, H, hF.re ⟨rfl, rfl, trivial⟩, hW⟩
    ·
      have H := iteF (by rw [hb]; decide) H
      rw [hb] at hF
      clear hb
      refine wp_skip ?_
      refine c_then ?_
      have hW := hW.frontM (i := 1) rfl rfl
      have hW := hW.frontM (i := 1) rfl rfl
      exact ⟨_, _, _, _, H, hF.re ⟨rfl, rfl, trivial⟩, hW⟩
  rintro a w ⟨x1, x2, x3, x4, hj, hF, hW⟩
  have hj := Option.some.inj hj
  subst hj
  have H := K1
  clear G1 K1
  refine c_seq ?_
  refine reg_list ?_
  refine ls hF hW rfl ((y_load (v := Value.agg #[.int .i64 x1, .int .i64 x2, .int .i64 x3, .int .i64 x4]) 1 hF rfl rfl T23 rfl).q) (fun a w hF hW => ?_)
  refine l_store (vs := [.int .i64 x1, .int .i64 x2, .int .i64 x3, .int .i64 x4]) (M' := [(b2, [.int .i64 x1, .int .i64 x2, .int .i64 x3, .int .i64 x4]), (b1, [.int .i64 x1, .int .i64 x2, .int .i64 x3, .int .i64 x4])]) 0 hF hW rfl rfl rfl T23 rfl rfl rfl rfl rfl (fun w hW => ?_)
  refine ls_nil ?_
  refine c_then ?_
  refine wp_ret ?_
  have H := Option.some.inj H
  subst H
  refine post1 (.inl rfl) hF hW rfl (rv_cell 0 hF rfl rfl T23 rfl) ?_
  exact ⟨rfl, hW.done⟩

theorem H12 : Has Tryd.prog 12 := ⟨fun args w => run_callFunc_body Tryd.func12 rfl (by decide) args w⟩
noncomputable def r07_With (p0 : Int × Int × Int × Int) (p1 : Int) (p2 : Int) : Option (Int × Int × Int × Int) := (if (decide (0 ≤ p1) && (decide (p1 < 4) && (decide (0 ≤ p2) && decide (p2 ≤ (r07_Top p1))))) = true then (ix ([p0.1, p0.2.1, p0.2.2.1, p0.2.2.2] : List Int) p1).bind fun x5 => some ((if p1 = 0 then p2 else p0.1), (if p1 = 1 then p2 else p0.2.1), (if p1 = 2 then p2 else p0.2.2.1), (if p1 = 3 then p2 else p0.2.2.2)) else some (p0.1, p0.2.1, p0.2.2.1, p0.2.2.2)).bind fun (x1, x2, x3, x4) => some (x1, x2, x3, x4)
theorem r07_With_c (Y : Nat → Prop) (w0 : World)  (p0 : Int × Int × Int × Int) (p1 : Int) (p2 : Int) (r : (Int × Int × Int × Int)) (H : r07_With p0 p1 p2 = some r)  :
    Calls Tryd.prog 13 #[.agg #[.int .i64 p0.1, .int .i64 p0.2.1, .int .i64 p0.2.2.1, .int .i64 p0.2.2.2], .int .i64 p1, .int .i64 p2] w0 fun e w' => e = .returned (.agg #[.int .i64 r.1, .int .i64 r.2.1, .int .i64 r.2.2.1, .int .i64 r.2.2.2]) ∧ Below w0.heap.size w0 w' := by
  refine enter Tryd.func13 rfl Tryd.ntmps13 rfl (fun a hF => ?_)
  have hW := Stw.start Y w0
  unfold r07_With at H
  refine c_seq ?_
  refine reg_list ?_
  refine l_box (cs := [.int .i64 p0.1, .int .i64 p0.2.1, .int .i64 p0.2.2.1, .int .i64 p0.2.2.2]) hF hW rfl rfl rfl (fun b1 a w hF hW => ?_)
  refine l_alloc (cs := [.int .i64 0, .int .i64 0, .int .i64 0, .int .i64 0]) hF hW rfl Z23 rfl (fun b2 a w hF hW => ?_)
  refine ls_nil ?_
  refine c_then ?_
  obtain ⟨o1, G1, K1⟩ := bindE H
  refine c_seqJ (fun a w => ∃ x1 : Int, ∃ x2 : Int, ∃ x3 : Int, ∃ x4 : Int, some ((x1, x2, x3, x4)) = some o1 ∧ Fr 27 [] [(3, .pointer (some ⟨b1, 0, none⟩)), (6, .pointer (some ⟨b2, 0, none⟩))] a ∧ Stw ⟨Y, [], w0⟩ [(b2, [.int .i64 0, .int .i64 0, .int .i64 0, .int .i64 0]), (b1, [.int .i64 x1, .int .i64 x2, .int .i64 x3, .int .i64 x4])] [] w) ?_ ?_
  ·
    have H := G1
    clear G1 K1
    refine c_seqJ (fun a w => Fr 27 [] [(1, .int .i64 p1), (2, .int .i64 p2), (3, .pointer (some ⟨b1, 0, none⟩)), (6, .pointer (some ⟨b2, 0, none⟩)), (22, .bool (decide (0 ≤ p1) && (decide (p1 < 4) && (decide (0 ≤ p2) && decide (p2 ≤ (r07_Top p1))))))] a ∧ Stw ⟨Y, [], w0⟩ [(b2, [.int .i64 0, .int .i64 0, .int .i64 0, .int .i64 0]), (b1, [.int .i64 p0.1, .int .i64 p0.2.1, .int .i64 p0.2.2.1, .int .i64 p0.2.2.2])] [] w) ?_ ?_
    ·
      refine reg_list ?_
      refine ls hF hW rfl ((y_move hF rfl).q) (fun a w hF hW => ?_)
      refine ls hF hW rfl ((y_geq hF rfl rfl).q) (fun a w hF hW => ?_)
      refine ls hF hW rfl ((y_move hF rfl).q) (fun a w hF hW => ?_)
      rcases Bool.eq_false_or_eq_true (decide (0 ≤ p1)) with hb0 | hb0
      ·
        rw [hb0] at hF
        refine ls_w hF hW (wanted_y hF rfl rfl rfl rfl) rfl (Nat.le_of_ble_eq_true rfl) ((y_move hF rfl).q) (fun a w hF hW => ?_)
        refine ls_w hF hW (wanted_y hF rfl rfl rfl rfl) rfl (Nat.le_of_ble_eq_true rfl) ((y_lss hF rfl rfl).q) (fun a w hF hW => ?_)
        refine ls hF hW rfl ((y_pick_t hF rfl rfl rfl).q) (fun a w hF hW => ?_)
        refine ls hF hW rfl ((y_move hF rfl).q) (fun a w hF hW => ?_)
        rcases Bool.eq_false_or_eq_true (decide (p1 < 4)) with hb1 | hb1
        ·
          rw [hb1] at hF
          refine ls_w hF hW (wanted_y hF rfl rfl rfl rfl) rfl (Nat.le_of_ble_eq_true rfl) ((y_move hF rfl).q) (fun a w hF hW => ?_)
          refine ls_w hF hW (wanted_y hF rfl rfl rfl rfl) rfl (Nat.le_of_ble_eq_true rfl) ((y_geq hF rfl rfl).q) (fun a w hF hW => ?_)
          refine ls hF hW rfl ((y_pick_t hF rfl rfl rfl).q) (fun a w hF hW => ?_)
          refine ls hF hW rfl ((y_move hF rfl).q) (fun a w hF hW => ?_)
          rcases Bool.eq_false_or_eq_true (decide (0 ≤ p2)) with hb2 | hb2
          ·
            rw [hb2] at hF
            refine ls_w hF hW (wanted_y hF rfl rfl rfl rfl) rfl (Nat.le_of_ble_eq_true rfl) ((y_move hF rfl).q) (fun a w hF hW => ?_)
            refine ls_w hF hW (wanted_y hF rfl rfl rfl rfl) rfl (Nat.le_of_ble_eq_true rfl) ((y_move hF rfl).q) (fun a w hF hW => ?_)
            refine ls_g (wanted_y hF rfl rfl rfl rfl) ?_
            refine ls hF hW rfl (y_call (v := Value.int .i64 (r07_Top p1)) hF H9 rfl (fun w hW => r07_Top_c any w p1 _ rfl)) (fun a w hF hW => ?_)
            refine ls_w hF hW (wanted_y hF rfl rfl rfl rfl) rfl (Nat.le_of_ble_eq_true rfl) ((y_leq hF rfl rfl).q) (fun a w hF hW => ?_)
            refine ls hF hW rfl ((y_pick_t hF rfl rfl rfl).q) (fun a w hF hW => ?_)
            refine ls_nil ?_
            refine c_then ?_
            exact ⟨hF.re ⟨rfl, rfl, rfl, rfl, (by show some (Value.bool (decide (p2 ≤ (r07_Top p1)))) = some (Value.bool (decide (0 ≤ p1) && (decide (p1 < 4) && (decide (0 ≤ p2) && decide (p2 ≤ (r07_Top p1)))))); try rw [hb0]; try rw [hb1]; try rw [hb2]; all_goals simp only [Bool.not_true, Bool.not_false, Bool.true_and, Bool.false_and, Bool.true_or, Bool.false_or, Bool.and_true, Bool.or_false, cond_true, cond_false]), trivial⟩, hW⟩
          ·
            rw [hb2] at hF
            refine ls_skip hF (wanted_n hF rfl rfl rfl rfl rfl) rfl rfl (fun a hF => ?_)
            refine ls_skip hF (wanted_n hF rfl rfl rfl rfl rfl) rfl rfl (fun a hF => ?_)
            refine ls_skip hF (wanted_n hF rfl rfl rfl rfl rfl) rfl rfl (fun a hF => ?_)
            refine ls_skip hF (wanted_n hF rfl rfl rfl rfl rfl) rfl rfl (fun a hF => ?_)
            refine ls hF hW rfl ((y_pick_f hF rfl rfl rfl).q) (fun a w hF hW => ?_)
            refine ls_nil ?_
            refine c_then ?_
            exact ⟨hF.re ⟨rfl, rfl, rfl, rfl, (by show some (Value.bool false) = some (Value.bool (decide (0 ≤ p1) && (decide (p1 < 4) && (decide (0 ≤ p2) && decide (p2 ≤ (r07_Top p1)))))); try rw [hb0]; try rw [hb1]; try rw [hb2]; all_goals simp only [Bool.not_true, Bool.not_false, Bool.true_and, Bool.false_and, Bool.true_or, Bool.false_or, Bool.and_true, Bool.or_false, cond_true, cond_false]), trivial⟩, hW⟩
        ·
          rw [hb1] at hF
          refine ls_skip hF (wanted_n hF rfl rfl rfl rfl rfl) rfl rfl (fun a hF => ?_)
          refine ls_skip hF (wanted_n hF rfl rfl rfl rfl rfl) rfl rfl (fun a hF => ?_)
          refine ls hF hW rfl ((y_pick_f hF rfl rfl rfl).q) (fun a w hF hW => ?_)
          refine ls hF hW rfl ((y_move hF rfl).q) (fun a w hF hW => ?_)
          refine ls_skip hF (wanted_n hF rfl rfl rfl rfl rfl) rfl rfl (fun a hF => ?_)
          refine ls_skip hF (wanted_n hF rfl rfl rfl rfl rfl) rfl rfl (fun a hF => ?_)
          refine ls_skip hF (wanted_n hF rfl rfl rfl rfl rfl) rfl rfl (fun a hF => ?_)
          refine ls_skip hF (wanted_n hF rfl rfl rfl rfl rfl) rfl rfl (fun a hF => ?_)
          refine ls hF hW rfl ((y_pick_f hF rfl rfl rfl).q) (fun a w hF hW => ?_)
          refine ls_nil ?_
          refine c_then ?_
          exact ⟨hF.re ⟨rfl, rfl, rfl, rfl, (by show some (Value.bool false) = some (Value.bool (decide (0 ≤ p1) && (decide (p1 < 4) && (decide (0 ≤ p2) && decide (p2 ≤ (r07_Top p1)))))); try rw [hb0]; try rw [hb1]; all_goals simp only [Bool.not_true, Bool.not_false, Bool.true_and, Bool.false_and, Bool.true_or, Bool.false_or, Bool.and_true, Bool.or_false, cond_true, cond_false]), trivial⟩, hW⟩
      ·
        rw [hb0] at hF
        refine ls_skip hF (wanted_n hF rfl rfl rfl rfl rfl) rfl rfl (fun a hF => ?_)
        refine ls_skip hF (wanted_n hF rfl rfl rfl rfl rfl) rfl rfl (fun a hF => ?_)
        refine ls hF hW rfl ((y_pick_f hF rfl rfl rfl).q) (fun a w hF hW => ?_)
        refine ls hF hW rfl ((y_move hF rfl).q) (fun a w hF hW => ?_)
        refine ls_skip hF (wanted_n hF rfl rfl rfl rfl rfl) rfl rfl (fun a hF => ?_)
        refine ls_skip hF (wanted_n hF rfl rfl rfl rfl rfl) rfl rfl (fun a hF => ?_)
        refine ls hF hW rfl ((y_pick_f hF rfl rfl rfl).q) (fun a w hF hW => ?_)
        refine ls hF hW rfl ((y_move hF rfl).q) (fun a w hF hW => ?_)
        refine ls_skip hF (wanted_n hF rfl rfl rfl rfl rfl) rfl rfl (fun a hF => ?_)
        refine ls_skip hF (wanted_n hF rfl rfl rfl rfl rfl) rfl rfl (fun a hF => ?_)
        refine ls_skip hF (wanted_n hF rfl rfl rfl rfl rfl) rfl rfl (fun a hF => ?_)
        refine ls_skip hF (wanted_n hF rfl rfl rfl rfl rfl) rfl rfl (fun a hF => ?_)
        refine ls hF hW rfl ((y_pick_f hF rfl rfl rfl).q) (fun a w hF hW => ?_)
        refine ls_nil ?_
        refine c_then ?_
        exact ⟨hF.re ⟨rfl, rfl, rfl, rfl, (by show some (Value.bool false) = some (Value.bool (decide (0 ≤ p1) && (decide (p1 < 4) && (decide (0 ≤ p2) && decide (p2 ≤ (r07_Top p1)))))); try rw [hb0]; all_goals simp only [Bool.not_true, Bool.not_false, Bool.true_and, Bool.false_and, Bool.true_or, Bool.false_or, Bool.and_true, Bool.or_false, cond_true, cond_false]), trivial⟩, hW⟩
    rintro a w ⟨hF, hW⟩
    refine c_cond hF rfl (fun hb => ?_) (fun hb => ?_)
    ·
      have H := iteT hb H
      rw [hb] at hF
      clear hb
      refine reg_list ?_
      refine ls hF hW rfl ((y_move hF rfl).q) (fun a w hF hW => ?_)
      refine ls hF hW rfl ((y_move hF rfl).q) (fun a w hF hW => ?_)
      obtain ⟨x5, h1, H⟩ := bindE H
      refine ls hF hW rfl ((y_indexP (0 + (p1).toNat * 1) Ar23 hF rfl rfl rfl h1 rfl).q) (fun a w hF hW => ?_)
      refine l_store_dyn (o := 0) (m := 4) (i := p1) (l := ([p0.1, p0.2.1, p0.2.2.1, p0.2.2.2] : List Int)) (x := x5) (cs := [.int .i64 p0.1, .int .i64 p0.2.1, .int .i64 p0.2.2.1, .int .i64 p0.2.2.2]) (cs' := [.int .i64 (if p1 = 0 then p2 else p0.1), .int .i64 (if p1 = 1 then p2 else p0.2.1), .int .i64 (if p1 = 2 then p2 else p0.2.2.1), .int .i64 (if p1 = 3 then p2 else p0.2.2.2)]) 1 hF hW rfl rfl rfl T3 rfl rfl rfl rfl h1 (by intro k hk hn; rw [hk]; match k, hn with | 0, _ => rfl | 1, _ => rfl | 2, _ => rfl | 3, _ => rfl | (z + 4), h => exact absurd h (by omega)) (fun w hW => ?_)
      have hW : Stw ⟨Y, [], w0⟩ [(b2, [.int .i64 0, .int .i64 0, .int .i64 0, .int .i64 0]), (b1, [.int .i64 (if p1 = 0 then p2 else p0.1), .int .i64 (if p1 = 1 then p2 else p0.2.1), .int .i64 (if p1 = 2 then p2 else p0.2.2.1), .int .i64 (if p1 = 3 then p2 else p0.2.2.2)])] [] w := hW
      refine ls_nil ?_
      refine c_then ?_
      have hW := hW.frontM (i := 1) rfl rfl
      have hW := hW.frontM (i := 1) rfl rfl
      exact ⟨_, _, _, _, H, hF.re ⟨rfl, rfl, trivial⟩, hW⟩
    ·
      have H := iteF (by rw [hb]; decide) H
      rw [hb] at hF
      clear hb
      refine wp_skip ?_
      refine c_then ?_
      have hW := hW.frontM (i := 1) rfl rfl
      have hW := hW.frontM (i := 1) rfl rfl
      exact ⟨_, _, _, _, H, hF.re ⟨rfl, rfl, trivial⟩, hW⟩
  rintro a w ⟨x1, x2, x3, x4, hj, hF, hW⟩
  have hj := Option.some.inj hj
  subst hj
  have H := K1
  clear G1 K1
  refine c_seq ?_
  refine reg_list ?_
  refine ls hF hW rfl ((y_load (v := Value.agg #[.int .i64 x1, .int .i64 x2, .int .i64 x3, .int .i64 x4]) 1 hF rfl rfl T23 rfl).q) (fun a w hF hW => ?_)
  refine l_store (vs := [.int .i64 x1, .int .i64 x2, .int .i64 x3, .int .i64 x4]) (M' := [(b2, [.int .i64 x1, .int .i64 x2, .int .i64 x3, .int .i64 x4]), (b1, [.int .i64 x1, .int .i64 x2, .int .i64 x3, .int .i64 x4])]) 0 hF hW rfl rfl rfl T23 rfl rfl rfl rfl rfl (fun w hW => ?_)
  refine ls_nil ?_
  refine c_then ?_
  refine wp_ret ?_
  have H := Option.some.inj H
  subst H
  refine post1 (.inl rfl) hF hW rfl (rv_cell 0 hF rfl rfl T23 rfl) ?_
  exact ⟨rfl, hW.done⟩

theorem H13 : Has Tryd.prog 13 := ⟨fun args w => run_callFunc_body Tryd.func13 rfl (by decide) args w⟩
theorem QA23 (d : Nat) (x0 x1 x2 x3 y0 y1 y2 y3 : Int) (w : World) : (Op.equalIn (d + 2) 23 (.agg #[.int .i64 x0, .int .i64 x1, .int .i64 x2, .int .i64 x3]) (.agg #[.int .i64 y0, .int .i64 y1, .int .i64 y2, .int .i64 y3])).run Tryd.prog w = .ok (decide (x0 = y0 ∧ x1 = y1 ∧ x2 = y2 ∧ x3 = y3)) w :=
  (eq_arr (d := d) (k := .i64) Ar23 Tryd.underlying3 T3 [x0, x1, x2, x3] [y0, y1, y2, y3] rfl rfl w).trans (by congr 1; exact decide_eq_decide.2 (by simp))
theorem G23 : Tryd.prog.eqGuardType Tryd.prog.depth 23 = false := by kernel_rfl
theorem Q23 (x0 : Int) (x1 : Int) (x2 : Int) (x3 : Int) (y0 : Int) (y1 : Int) (y2 : Int) (y3 : Int) (w : World) : (Op.equalIn 10000 23 (.agg #[.int .i64 x0, .int .i64 x1, .int .i64 x2, .int .i64 x3]) (.agg #[.int .i64 y0, .int .i64 y1, .int .i64 y2, .int .i64 y3])).run Tryd.prog w = .ok (decide (x0 = y0 ∧ x1 = y1 ∧ x2 = y2 ∧ x3 = y3)) w := QA23 9998 x0 x1 x2 x3 y0 y1 y2 y3 w
noncomputable def packet_Get (p0 : Int × Int × Int × Int) (p1 : Int) : Option Int := (if (!(packet_known p1)) = true then some 0 else (ix ([p0.1, p0.2.1, p0.2.2.1, p0.2.2.2] : List Int) p1).bind fun x1 => some x1)
theorem packet_Get_c (Y : Nat → Prop) (w0 : World)  (p0 : Int × Int × Int × Int) (p1 : Int) (r : Int) (H : packet_Get p0 p1 = some r)  :
    Calls Tryd.prog 14 #[.agg #[.int .i64 p0.1, .int .i64 p0.2.1, .int .i64 p0.2.2.1, .int .i64 p0.2.2.2], .int .i64 p1] w0 fun e w' => e = .returned (.int .i64 r) ∧ Below w0.heap.size w0 w' := by
  refine enter Tryd.func14 rfl Tryd.ntmps14 rfl (fun a hF => ?_)
  have hW := Stw.start Y w0
  unfold packet_Get at H
  refine c_seq ?_
  refine reg_list ?_
  refine l_box (cs := [.int .i64 p0.1, .int .i64 p0.2.1, .int .i64 p0.2.2.1, .int .i64 p0.2.2.2]) hF hW rfl rfl rfl (fun b1 a w hF hW => ?_)
  refine ls hF hW rfl ((y_assign hF rfl).q) (fun a w hF hW => ?_)
  refine ls_nil ?_
  refine c_then ?_
  refine c_seq ?_
  refine c_seq ?_
  refine reg_list ?_
  refine ls hF hW rfl ((y_move hF rfl).q) (fun a w hF hW => ?_)
  refine ls hF hW rfl (y_call (v := Value.bool (packet_known p1)) hF H30 rfl (fun w hW => packet_known_c any w p1 _ rfl)) (fun a w hF hW => ?_)
  refine ls hF hW rfl ((y_not hF rfl).q) (fun a w hF hW => ?_)
  refine ls_nil ?_
  refine c_then ?_
  refine c_cond hF rfl (fun hb => ?_) (fun hb => ?_)
  ·
    have H := iteT hb H
    rw [hb] at hF
    clear hb
    refine c_seq ?_
    refine reg_list ?_
    refine ls hF hW rfl ((y_assign hF rfl).q) (fun a w hF hW => ?_)
    refine ls_nil ?_
    refine c_then ?_
    refine wp_ret ?_
    refine r_then ?_
    have H := Option.some.inj H
    subst H
    refine post1 (.inl rfl) hF hW rfl (rv_tmp hF rfl) ?_
    exact ⟨rfl, hW.done⟩
  ·
    have H := iteF (by rw [hb]; decide) H
    rw [hb] at hF
    clear hb
    refine wp_skip ?_
    refine c_then ?_
    refine c_seq ?_
    refine reg_list ?_
    refine ls hF hW rfl ((y_move hF rfl).q) (fun a w hF hW => ?_)
    obtain ⟨x1, h1, H⟩ := bindE H
    refine ls hF hW rfl ((y_indexP (0 + (p1).toNat * 1) Ar23 hF rfl rfl rfl h1 rfl).q) (fun a w hF hW => ?_)
    refine ls hF hW rfl ((y_load (v := Value.int .i64 x1) 0 hF rfl rfl T3 (rdv_dyn (base := 0) (m := 4) (l := [p0.1, p0.2.1, p0.2.2.1, p0.2.2.2]) (enc := Value.int .i64) rfl h1)).q) (fun a w hF hW => ?_)
    refine ls hF hW rfl ((y_assign hF rfl).q) (fun a w hF hW => ?_)
    refine ls_nil ?_
    refine c_then ?_
    refine wp_ret ?_
    have H := Option.some.inj H
    subst H
    refine post1 (.inl rfl) hF hW rfl (rv_tmp hF rfl) ?_
    exact ⟨rfl, hW.done⟩

theorem H14 : Has Tryd.prog 14 := ⟨fun args w => run_callFunc_body Tryd.func14 rfl (by decide) args w⟩
theorem L50 : Et Tryd.prog 50 5 1 1 := Et.of Tryd.underlying50 (by kernel_rfl) (by kernel_rfl) (by kernel_rfl) (by decide)
theorem Z5 : (Tryd.prog.info? 5).bind (·.zero) = some (.int .u8 0) := by kernel_rfl
theorem T5 : Ty Tryd.prog 5 false 1 := ⟨by kernel_rfl, by kernel_rfl⟩
noncomputable def octet_bigEndian_l1 (p0 : Int) (p1 : Int) : (List Int × Int) → Option ((List Int × Int) ⊕ (List Int))
  | (x3, x4) => (if x4 < p1 then (shN (shrI .i64 p0 (w64 (8 * (w64 ((w64 (p1 - 1)) - x4))))) (w64 (8 * (w64 ((w64 (p1 - 1)) - x4))))).bind fun x5 => (ix x3 x4).bind fun x6 => some (.inl ((setAt x3 x4 (IntKind.u8.wrap x5)), w64 (x4 + 1))) else some (.inr x3))
noncomputable def octet_bigEndian (p0 : Int) (p1 : Int) : Option (List UInt8) := (mk p1 (0 : Int)).bind fun x1 => (loopW (octet_bigEndian_l1 p0 p1) (x1, 0)).bind fun x2 => some (strOf x2)
theorem octet_bigEndian_c (Y : Nat → Prop) (w0 : World)  (p0 : Int) (p1 : Int) (r : List UInt8) (H : octet_bigEndian p0 p1 = some r)  :
    Calls Tryd.prog 47 #[.int .i64 p0, .int .i64 p1] w0 fun e w' => e = .returned (.string (bs r)) ∧ Below w0.heap.size w0 w' := by
  refine enter Tryd.func47 rfl Tryd.ntmps47 rfl (fun a hF => ?_)
  have hW := Stw.start Y w0
  unfold octet_bigEndian at H
  refine c_seq ?_
  refine reg_list ?_
  refine ls hF hW rfl ((y_assign (v := Value.string (bs ([] : List UInt8))) hF rfl).q) (fun a w hF hW => ?_)
  refine ls_nil ?_
  refine c_then ?_
  refine c_seq ?_
  refine reg_list ?_
  refine ls hF hW rfl ((y_move hF rfl).q) (fun a w hF hW => ?_)
  obtain ⟨x1, h1, H⟩ := bindE H
  refine l_make (r := (Rp.int .u8)) (0 : Int) hF hW rfl L50 Z5 rfl rfl (fun w A => Fl.int.mk' w A _) h1 rfl (fun v1 a w hF hW => ?_)
  refine ls hF hW rfl ((y_assign hF rfl).q) (fun a w hF hW => ?_)
  refine ls_nil ?_
  refine c_then ?_
  obtain ⟨o1, G1, K1⟩ := bindE H
  refine c_seqJ (fun a w => ∃ x2 : List Int, some (x2) = some o1 ∧ Fr 27 [] [(4, .string (bs ([] : List UInt8))), (5, v1)] a ∧ Stw ⟨Y, [], w0⟩ [] [row v1 5 (Rp.int .u8) x2] w) ?_ ?_
  ·
    have H := G1
    clear G1 K1
    refine c_seq ?_
    refine reg_list ?_
    refine ls hF hW rfl ((y_move hF rfl).q) (fun a w hF hW => ?_)
    refine ls hF hW rfl ((y_move hF rfl).q) (fun a w hF hW => ?_)
    refine ls_nil ?_
    refine c_then ?_
    refine wp_block ?_
    refine c_loopW H (fun s a w => Fr 27 [] [(0, .int .i64 p0), (1, .int .i64 p1), (4, .string (bs ([] : List UInt8))), (5, v1), (9, .int .i64 p1), (10, .int .i64 s.2)] a ∧ Stw ⟨Y, [], w0⟩ [] [row v1 5 (Rp.int .u8) s.1] w) ⟨hF.re ⟨rfl, rfl, rfl, rfl, rfl, rfl, trivial⟩, hW⟩ (fun s o a w H L2 hR => ?_)
    obtain ⟨x3, x4⟩ := s
    obtain ⟨hF, hW⟩ := hR
    have hF : Fr 27 [] [(0, .int .i64 p0), (1, .int .i64 p1), (4, .string (bs ([] : List UInt8))), (5, v1), (9, .int .i64 p1), (10, .int .i64 x4)] a := hF
    have hW : Stw ⟨Y, [], w0⟩ [] [row v1 5 (Rp.int .u8) x3] w := hW
    rw [octet_bigEndian_l1] at H
    refine c_seq ?_
    refine reg_list ?_
    refine ls hF hW rfl ((y_lss hF rfl rfl).q) (fun a w hF hW => ?_)
    refine ls_nil ?_
    refine c_then ?_
    refine c_seq ?_
    refine c_cond hF rfl (fun hb => ?_) (fun hb => ?_)
    ·
      have H := iteT (of_decide_eq_true hb) H
      rw [hb] at hF
      clear hb
      refine wp_skip ?_
      refine c_then ?_
      refine c_seq ?_
      refine wp_block ?_
      refine c_seq ?_
      refine reg_list ?_
      refine ls hF hW rfl ((y_move hF rfl).q) (fun a w hF hW => ?_)
      refine ls hF hW rfl ((y_assign hF rfl).q) (fun a w hF hW => ?_)
      refine ls_nil ?_
      refine c_then ?_
      refine reg_list ?_
      refine ls hF hW rfl ((y_move hF rfl).q) (fun a w hF hW => ?_)
      refine ls hF hW rfl ((y_move hF rfl).q) (fun a w hF hW => ?_)
      refine ls hF hW rfl ((y_move hF rfl).q) (fun a w hF hW => ?_)
      refine ls hF hW rfl ((y_move hF rfl).q) (fun a w hF hW => ?_)
      refine ls hF hW rfl ((y_sub hF rfl rfl rfl).q) (fun a w hF hW => ?_)
      refine ls hF hW rfl ((y_move hF rfl).q) (fun a w hF hW => ?_)
      refine ls hF hW rfl ((y_sub hF rfl rfl rfl).q) (fun a w hF hW => ?_)
      refine ls hF hW rfl ((y_mul hF rfl rfl rfl).q) (fun a w hF hW => ?_)
      obtain ⟨x5, h2, H⟩ := bindE H
      refine ls hF hW rfl ((y_shc (shN_some h2).2 (y_shr hF rfl rfl (shN_some h2).1)).q) (fun a w hF hW => ?_)
      refine ls hF hW rfl ((y_convI Tryd.underlying3 Tryd.underlying5 hF rfl).q) (fun a w hF hW => ?_)
      obtain ⟨x6, h3, H⟩ := bindE H
      refine ls hF hW rfl ((y_index (r := (Rp.int .u8)) L50 hF rfl rfl (rdc_row 0 rfl) h3).q) (fun a w hF hW => ?_)
      refine l_store_el (i := x4) (j := 0) (vs := [.int .u8 (IntKind.u8.wrap x5)]) (x' := IntKind.u8.wrap x5) hF hW rfl rfl rfl (k := 0) rfl rfl h3 T5 rfl rfl rfl rfl (fun A cs _ => Fl.int.sto (by rfl) _ _ _) (fun w hW => ?_)
      refine ls_nil ?_
      refine b_normal ?_
      refine c_then ?_
      refine reg_list ?_
      refine ls hF hW rfl ((y_add hF rfl rfl rfl).q) (fun a w hF hW => ?_)
      refine ls hF hW rfl ((y_move hF rfl).q) (fun a w hF hW => ?_)
      refine ls_nil ?_
      refine c_then ?_
      exact ⟨_, H, hF.re ⟨rfl, rfl, rfl, rfl, rfl, rfl, trivial⟩, hW⟩
    ·
      have H := iteF (of_decide_eq_false hb) H
      rw [hb] at hF
      clear hb
      refine wp_exit ?_
      refine e_then ?_
      refine e_then ?_
      refine e_block ?_
      refine c_then ?_
      have H := L2 _ H
      exact ⟨_, H, hF.re ⟨rfl, rfl, trivial⟩, hW⟩
  rintro a w ⟨x2, hj, hF, hW⟩
  have hj := Option.some.inj hj
  subst hj
  have H := K1
  clear G1 K1
  refine c_seq ?_
  refine reg_list ?_
  refine ls hF hW rfl ((y_move hF rfl).q) (fun a w hF hW => ?_)
  refine ls hF hW rfl ((y_convB (ns := x2) Tryd.underlying50 Tryd.underlying5 Tryd.underlying9 hF rfl (rdc_row 0 rfl)).q) (fun a w hF hW => ?_)
  refine ls hF hW rfl ((y_assign hF rfl).q) (fun a w hF hW => ?_)
  refine ls_nil ?_
  refine c_then ?_
  refine wp_ret ?_
  have H := Option.some.inj H
  subst H
  refine post1 (.inl rfl) hF hW rfl (rv_tmp hF rfl) ?_
  exact ⟨rfl, hW.done⟩

theorem H47 : Has Tryd.prog 47 := ⟨fun args w => run_callFunc_body Tryd.func47 rfl (by decide) args w⟩
noncomputable def octet_Num (p0 : Int) (p1 : Int) : Option (List UInt8) := (if p1 < 1 then some true else (if 7 < p1 then some true else (if p0 < 0 then some true else (shN (shrI .i64 p0 (w64 (8 * p1))) (w64 (8 * p1))).bind fun x2 => some (decide (x2 ≠ 0))))).bind fun x1 => (if x1 = true then some ([] : List UInt8) else (octet_bigEndian p0 p1).bind fun x3 => some x3)
theorem octet_Num_c (Y : Nat → Prop) (w0 : World)  (p0 : Int) (p1 : Int) (r : List UInt8) (H : octet_Num p0 p1 = some r)  :
    Calls Tryd.prog 32 #[.int .i64 p0, .int .i64 p1] w0 fun e w' => e = .returned (.string (bs r)) ∧ Below w0.heap.size w0 w' := by
  refine enter Tryd.func32 rfl Tryd.ntmps32 rfl (fun a hF => ?_)
  have hW := Stw.start Y w0
  unfold octet_Num at H
  refine c_seq ?_
  refine reg_list ?_
  refine ls hF hW rfl ((y_assign (v := Value.string (bs ([] : List UInt8))) hF rfl).q) (fun a w hF hW => ?_)
  refine ls_nil ?_
  refine c_then ?_
  refine c_seq ?_
  obtain ⟨o1, G1, K1⟩ := bindE H
  refine c_seqJ (fun a w => ∃ x1 : Bool, some (x1) = some o1 ∧ Fr 25 [] [(0, .int .i64 p0), (1, .int .i64 p1), (4, .string (bs ([] : List UInt8))), (21, .bool x1)] a ∧ Stw ⟨Y, [], w0⟩ [] [] w) ?_ ?_
  ·
    have H := G1
    clear G1 K1
    refine reg_list ?_
    refine ls hF hW rfl ((y_move hF rfl).q) (fun a w hF hW => ?_)
    refine ls hF hW rfl ((y_lss hF rfl rfl).q) (fun a w hF hW => ?_)
    refine ls hF hW rfl ((y_move hF rfl).q) (fun a w hF hW => ?_)
    rcases Bool.eq_false_or_eq_true (decide (p1 < 1)) with hb | hb
    ·
      have H := iteT (of_decide_eq_true hb) H
      rw [hb] at hF
      clear hb
      refine ls_skip hF (wanted_n hF rfl rfl rfl rfl rfl) rfl rfl (fun a hF => ?_)
      refine ls_skip hF (wanted_n hF rfl rfl rfl rfl rfl) rfl rfl (fun a hF => ?_)
      refine ls hF hW rfl ((y_pick_t hF rfl rfl rfl).q) (fun a w hF hW => ?_)
      refine ls hF hW rfl ((y_move hF rfl).q) (fun a w hF hW => ?_)
      refine ls_skip hF (wanted_n hF rfl rfl rfl rfl rfl) rfl rfl (fun a hF => ?_)
      refine ls_skip hF (wanted_n hF rfl rfl rfl rfl rfl) rfl rfl (fun a hF => ?_)
      refine ls hF hW rfl ((y_pick_t hF rfl rfl rfl).q) (fun a w hF hW => ?_)
      refine ls hF hW rfl ((y_move hF rfl).q) (fun a w hF hW => ?_)
      refine ls_skip hF (wanted_n hF rfl rfl rfl rfl rfl) rfl rfl (fun a hF => ?_)
      refine ls_skip hF (wanted_n hF rfl rfl rfl rfl rfl) rfl rfl (fun a hF => ?_)
      refine ls_skip hF (wanted_n hF rfl rfl rfl rfl rfl) rfl rfl (fun a hF => ?_)
      refine ls_skip hF (wanted_n hF rfl rfl rfl rfl rfl) rfl rfl (fun a hF => ?_)
      refine ls_skip hF (wanted_n hF rfl rfl rfl rfl rfl) rfl rfl (fun a hF => ?_)
      refine ls hF hW rfl ((y_pick_t hF rfl rfl rfl).q) (fun a w hF hW => ?_)
      refine ls_nil ?_
      refine c_then ?_
      exact ⟨_, H, hF.re ⟨rfl, rfl, rfl, rfl, trivial⟩, hW⟩
    ·
      have H := iteF (of_decide_eq_false hb) H
      rw [hb] at hF
      clear hb
      refine ls_w hF hW (wanted_y hF rfl rfl rfl rfl) rfl (Nat.le_of_ble_eq_true rfl) ((y_move hF rfl).q) (fun a w hF hW => ?_)
      refine ls_w hF hW (wanted_y hF rfl rfl rfl rfl) rfl (Nat.le_of_ble_eq_true rfl) ((y_gtr hF rfl rfl).q) (fun a w hF hW => ?_)
      refine ls hF hW rfl ((y_pick_f hF rfl rfl rfl).q) (fun a w hF hW => ?_)
      refine ls hF hW rfl ((y_move hF rfl).q) (fun a w hF hW => ?_)
      rcases Bool.eq_false_or_eq_true (decide (7 < p1)) with hb | hb
      ·
        have H := iteT (of_decide_eq_true hb) H
        rw [hb] at hF
        clear hb
        refine ls_skip hF (wanted_n hF rfl rfl rfl rfl rfl) rfl rfl (fun a hF => ?_)
        refine ls_skip hF (wanted_n hF rfl rfl rfl rfl rfl) rfl rfl (fun a hF => ?_)
        refine ls hF hW rfl ((y_pick_t hF rfl rfl rfl).q) (fun a w hF hW => ?_)
        refine ls hF hW rfl ((y_move hF rfl).q) (fun a w hF hW => ?_)
        refine ls_skip hF (wanted_n hF rfl rfl rfl rfl rfl) rfl rfl (fun a hF => ?_)
        refine ls_skip hF (wanted_n hF rfl rfl rfl rfl rfl) rfl rfl (fun a hF => ?_)
        refine ls_skip hF (wanted_n hF rfl rfl rfl rfl rfl) rfl rfl (fun a hF => ?_)
        refine ls_skip hF (wanted_n hF rfl rfl rfl rfl rfl) rfl rfl (fun a hF => ?_)
        refine ls_skip hF (wanted_n hF rfl rfl rfl rfl rfl) rfl rfl (fun a hF => ?_)
        refine ls hF hW rfl ((y_pick_t hF rfl rfl rfl).q) (fun a w hF hW => ?_)
        refine ls_nil ?_
        refine c_then ?_
        exact ⟨_, H, hF.re ⟨rfl, rfl, rfl, rfl, trivial⟩, hW⟩
      ·
        have H := iteF (of_decide_eq_false hb) H
        rw [hb] at hF
        clear hb
        refine ls_w hF hW (wanted_y hF rfl rfl rfl rfl) rfl (Nat.le_of_ble_eq_true rfl) ((y_move hF rfl).q) (fun a w hF hW => ?_)
        refine ls_w hF hW (wanted_y hF rfl rfl rfl rfl) rfl (Nat.le_of_ble_eq_true rfl) ((y_lss hF rfl rfl).q) (fun a w hF hW => ?_)
        refine ls hF hW rfl ((y_pick_f hF rfl rfl rfl).q) (fun a w hF hW => ?_)
        refine ls hF hW rfl ((y_move hF rfl).q) (fun a w hF hW => ?_)
        rcases Bool.eq_false_or_eq_true (decide (p0 < 0)) with hb | hb
        ·
          have H := iteT (of_decide_eq_true hb) H
          rw [hb] at hF
          clear hb
          refine ls_skip hF (wanted_n hF rfl rfl rfl rfl rfl) rfl rfl (fun a hF => ?_)
          refine ls_skip hF (wanted_n hF rfl rfl rfl rfl rfl) rfl rfl (fun a hF => ?_)
          refine ls_skip hF (wanted_n hF rfl rfl rfl rfl rfl) rfl rfl (fun a hF => ?_)
          refine ls_skip hF (wanted_n hF rfl rfl rfl rfl rfl) rfl rfl (fun a hF => ?_)
          refine ls_skip hF (wanted_n hF rfl rfl rfl rfl rfl) rfl rfl (fun a hF => ?_)
          refine ls hF hW rfl ((y_pick_t hF rfl rfl rfl).q) (fun a w hF hW => ?_)
          refine ls_nil ?_
          refine c_then ?_
          exact ⟨_, H, hF.re ⟨rfl, rfl, rfl, rfl, trivial⟩, hW⟩
        ·
          have H := iteF (of_decide_eq_false hb) H
          rw [hb] at hF
          clear hb
          refine ls_w hF hW (wanted_y hF rfl rfl rfl rfl) rfl (Nat.le_of_ble_eq_true rfl) ((y_move hF rfl).q) (fun a w hF hW => ?_)
          refine ls_w hF hW (wanted_y hF rfl rfl rfl rfl) rfl (Nat.le_of_ble_eq_true rfl) ((y_move hF rfl).q) (fun a w hF hW => ?_)
          refine ls_w hF hW (wanted_y hF rfl rfl rfl rfl) rfl (Nat.le_of_ble_eq_true rfl) ((y_mul hF rfl rfl rfl).q) (fun a w hF hW => ?_)
          obtain ⟨x2, h1, H⟩ := bindE H
          refine ls_w hF hW (wanted_y hF rfl rfl rfl rfl) rfl (Nat.le_of_ble_eq_true rfl) ((y_shc (shN_some h1).2 (y_shr hF rfl rfl (shN_some h1).1)).q) (fun a w hF hW => ?_)
          refine ls_w hF hW (wanted_y hF rfl rfl rfl rfl) rfl (Nat.le_of_ble_eq_true rfl) ((y_neq hF rfl rfl).q) (fun a w hF hW => ?_)
          refine ls hF hW rfl ((y_pick_f hF rfl rfl rfl).q) (fun a w hF hW => ?_)
          refine ls_nil ?_
          refine c_then ?_
          exact ⟨_, H, hF.re ⟨rfl, rfl, rfl, rfl, trivial⟩, hW⟩
  rintro a w ⟨x1, hj, hF, hW⟩
  have hj := Option.some.inj hj
  subst hj
  have H := K1
  clear G1 K1
  refine c_cond hF rfl (fun hb => ?_) (fun hb => ?_)
  ·
    have H := iteT hb H
    rw [hb] at hF
    clear hb
    refine c_seq ?_
    refine reg_list ?_
    refine ls hF hW rfl ((y_assign (v := Value.string (bs ([] : List UInt8))) hF rfl).q) (fun a w hF hW => ?_)
    refine ls_nil ?_
    refine c_then ?_
    refine wp_ret ?_
    refine r_then ?_
    have H := Option.some.inj H
    subst H
    refine post1 (.inl rfl) hF hW rfl (rv_tmp hF rfl) ?_
    exact ⟨rfl, hW.done⟩
  ·
    have H := iteF (by rw [hb]; decide) H
    rw [hb] at hF
    clear hb
    refine wp_skip ?_
    refine c_then ?_
    refine c_seq ?_
    refine reg_list ?_
    refine ls hF hW rfl ((y_move hF rfl).q) (fun a w hF hW => ?_)
    refine ls hF hW rfl ((y_move hF rfl).q) (fun a w hF hW => ?_)
    obtain ⟨x3, h2, H⟩ := bindE H
    refine ls hF hW rfl (y_call (v := Value.string (bs x3)) hF H47 rfl (fun w hW => octet_bigEndian_c any w p0 p1 _ h2)) (fun a w hF hW => ?_)
    refine ls hF hW rfl ((y_assign hF rfl).q) (fun a w hF hW => ?_)
    refine ls_nil ?_
    refine c_then ?_
    refine wp_ret ?_
    have H := Option.some.inj H
    subst H
    refine post1 (.inl rfl) hF hW rfl (rv_tmp hF rfl) ?_
    exact ⟨rfl, hW.done⟩

theorem H32 : Has Tryd.prog 32 := ⟨fun args w => run_callFunc_body Tryd.func32 rfl (by decide) args w⟩
theorem H31 : Has Tryd.prog 31 := ⟨fun args w => run_callFunc_body Tryd.func31 rfl (by decide) args w⟩
theorem H33 : Has Tryd.prog 33 := ⟨fun args w => run_callFunc_body Tryd.func33 rfl (by decide) args w⟩
noncomputable def packet_Code_l1 (p0 : Int × Int × Int × Int) : (Int × List UInt8) → Option ((Int × List UInt8) ⊕ (List UInt8))
  | (x3, x4) => (if x3 < 4 then (ix ([p0.1, p0.2.1, p0.2.2.1, p0.2.2.2] : List Int) x3).bind fun x5 => (octet_Num x5 1).bind fun x6 => (app x4 x6).bind fun x7 => some (.inl (w64 (x3 + 1), x7)) else some (.inr x4))
noncomputable def packet_Code (p0 : Int × Int × Int × Int) : Option (List UInt8) := (packet_Right p0).bind fun x1 => (if (!x1) = true then some ([] : List UInt8) else (loopW (packet_Code_l1 p0) (0, ([] : List UInt8))).bind fun x2 => (lenB x2).bind fun x8 => some x8)
theorem packet_Code_c (Y : Nat → Prop) (w0 : World)  (p0 : Int × Int × Int × Int) (r : List UInt8) (H : packet_Code p0 = some r)  :
    Calls Tryd.prog 15 #[.agg #[.int .i64 p0.1, .int .i64 p0.2.1, .int .i64 p0.2.2.1, .int .i64 p0.2.2.2]] w0 fun e w' => e = .returned (.string (bs r)) ∧ Below w0.heap.size w0 w' := by
  refine enter Tryd.func15 rfl Tryd.ntmps15 rfl (fun a hF => ?_)
  have hW := Stw.start Y w0
  unfold packet_Code at H
  refine c_seq ?_
  refine reg_list ?_
  refine l_box (cs := [.int .i64 p0.1, .int .i64 p0.2.1, .int .i64 p0.2.2.1, .int .i64 p0.2.2.2]) hF hW rfl rfl rfl (fun b1 a w hF hW => ?_)
  refine ls hF hW rfl ((y_assign (v := Value.string (bs ([] : List UInt8))) hF rfl).q) (fun a w hF hW => ?_)
  refine ls_nil ?_
  refine c_then ?_
  refine c_seq ?_
  refine c_seq ?_
  refine reg_list ?_
  refine ls hF hW rfl ((y_load (v := Value.agg #[.int .i64 p0.1, .int .i64 p0.2.1, .int .i64 p0.2.2.1, .int .i64 p0.2.2.2]) 0 hF rfl rfl T23 rfl).q) (fun a w hF hW => ?_)
  obtain ⟨x1, h1, H⟩ := bindE H
  refine ls hF hW rfl (y_call (v := Value.bool x1) hF H10 rfl (fun w hW => packet_Right_c any w p0 _ h1)) (fun a w hF hW => ?_)
  refine ls hF hW rfl ((y_not hF rfl).q) (fun a w hF hW => ?_)
  refine ls_nil ?_
  refine c_then ?_
  refine c_cond hF rfl (fun hb => ?_) (fun hb => ?_)
  ·
    have H := iteT hb H
    rw [hb] at hF
    clear hb
    refine c_seq ?_
    refine reg_list ?_
    refine ls hF hW rfl ((y_assign (v := Value.string (bs ([] : List UInt8))) hF rfl).q) (fun a w hF hW => ?_)
    refine ls_nil ?_
    refine c_then ?_
    refine wp_ret ?_
    refine r_then ?_
    have H := Option.some.inj H
    subst H
    refine post1 (.inl rfl) hF hW rfl (rv_tmp hF rfl) ?_
    exact ⟨rfl, hW.done⟩
  ·
    have H := iteF (by rw [hb]; decide) H
    rw [hb] at hF
    clear hb
    refine wp_skip ?_
    refine c_then ?_
    refine c_seq ?_
    refine reg_list ?_
    refine l_allocB hF hW rfl (fun b2 a w hF hW => ?_)
    have hW : Stw ⟨Y, [], w0⟩ [(b1, [.int .i64 p0.1, .int .i64 p0.2.1, .int .i64 p0.2.2.1, .int .i64 p0.2.2.2])] [bldr 52 5 b2 (Value.slice none 0 0) ([] : List UInt8)] w := hW
    refine ls_nil ?_
    refine c_then ?_
    obtain ⟨o1, G1, K1⟩ := bindE H
    refine c_seqJ (fun a w => ∃ x2 : List UInt8, ∃ v1 : Value, some (x2) = some o1 ∧ Fr 18 [] [(2, .string (bs ([] : List UInt8))), (3, .pointer (some ⟨b2, 0, none⟩))] a ∧ Stw ⟨Y, [], w0⟩ [(b1, [.int .i64 p0.1, .int .i64 p0.2.1, .int .i64 p0.2.2.1, .int .i64 p0.2.2.2])] [bldr 52 5 b2 v1 x2] w) ?_ ?_
    ·
      have H := G1
      clear G1 K1
      refine c_seq ?_
      refine reg_list ?_
      refine ls hF hW rfl ((y_load (v := Value.agg #[.int .i64 p0.1, .int .i64 p0.2.1, .int .i64 p0.2.2.1, .int .i64 p0.2.2.2]) 0 hF rfl rfl T23 rfl).q) (fun a w hF hW => ?_)
      refine ls hF hW rfl ((y_move hF rfl).q) (fun a w hF hW => ?_)
      refine ls_nil ?_
      refine c_then ?_
      refine wp_block ?_
      refine c_loopW H (fun s a w => ∃ v2 : Value, Fr 18 [] [(2, .string (bs ([] : List UInt8))), (3, .pointer (some ⟨b2, 0, none⟩)), (9, .agg #[.int .i64 p0.1, .int .i64 p0.2.1, .int .i64 p0.2.2.1, .int .i64 p0.2.2.2]), (10, .int .i64 s.1)] a ∧ Stw ⟨Y, [], w0⟩ [(b1, [.int .i64 p0.1, .int .i64 p0.2.1, .int .i64 p0.2.2.1, .int .i64 p0.2.2.2])] [bldr 52 5 b2 v2 s.2] w) ⟨(Value.slice none 0 0), hF.re ⟨rfl, rfl, rfl, rfl, trivial⟩, hW⟩ (fun s o a w H L2 hR => ?_)
      obtain ⟨x3, x4⟩ := s
      obtain ⟨v2, hF, hW⟩ := hR
      have hF : Fr 18 [] [(2, .string (bs ([] : List UInt8))), (3, .pointer (some ⟨b2, 0, none⟩)), (9, .agg #[.int .i64 p0.1, .int .i64 p0.2.1, .int .i64 p0.2.2.1, .int .i64 p0.2.2.2]), (10, .int .i64 x3)] a := hF
      have hW : Stw ⟨Y, [], w0⟩ [(b1, [.int .i64 p0.1, .int .i64 p0.2.1, .int .i64 p0.2.2.1, .int .i64 p0.2.2.2])] [bldr 52 5 b2 v2 x4] w := hW
      rw [packet_Code_l1] at H
      refine c_seq ?_
      refine reg_list ?_
      refine ls hF hW rfl ((y_lss hF rfl rfl).q) (fun a w hF hW => ?_)
      refine ls_nil ?_
      refine c_then ?_
      refine c_seq ?_
      refine c_cond hF rfl (fun hb => ?_) (fun hb => ?_)
      ·
        have H := iteT (of_decide_eq_true hb) H
        rw [hb] at hF
        clear hb
        refine wp_skip ?_
        refine c_then ?_
        refine c_seq ?_
        refine wp_block ?_
        refine c_seq ?_
        refine reg_list ?_
        obtain ⟨x5, h2, H⟩ := bindE H
        refine ls hF hW rfl ((y_indexA (enc := Value.int .i64) (cs := [.int .i64 p0.1, .int .i64 p0.2.1, .int .i64 p0.2.2.1, .int .i64 p0.2.2.2]) Ar23 T3 hF rfl rfl rfl rfl h2).q) (fun a w hF hW => ?_)
        refine ls hF hW rfl ((y_assign hF rfl).q) (fun a w hF hW => ?_)
        refine ls_nil ?_
        refine c_then ?_
        refine reg_list ?_
        refine ls hF hW rfl ((y_move hF rfl).q) (fun a w hF hW => ?_)
        obtain ⟨x6, h3, H⟩ := bindE H
        refine ls hF hW rfl (y_call (v := Value.string (bs x6)) hF H32 rfl (fun w hW => octet_Num_c any w x5 1 _ h3)) (fun a w hF hW => ?_)
        obtain ⟨x7, h4, H⟩ := bindE H
        refine l_callG (Ml := []) (Zl := [bldr 52 5 b2 v2 x4]) (M := [(b1, [.int .i64 p0.1, .int .i64 p0.2.1, .int .i64 p0.2.2.1, .int .i64 p0.2.2.2])]) (Z := []) (β := Value) (rv := fun x => .tuple #[.int .i64 (x6.length : Int), .nilIface]) (MM := fun x => []) (ZZ := fun x => [bldr 52 5 b2 x x7]) hF hW H31 rfl rfl (fun hL => ws_c _ _ w b2 v2 x4 x6 _ h4 hL) (fun v3 a w hF hW => ?_)
        have hW : Stw ⟨Y, [], w0⟩ [(b1, [.int .i64 p0.1, .int .i64 p0.2.1, .int .i64 p0.2.2.1, .int .i64 p0.2.2.2])] [bldr 52 5 b2 v3 x7] w := hW
        refine ls_nil ?_
        refine b_normal ?_
        refine c_then ?_
        refine reg_list ?_
        refine ls hF hW rfl ((y_add hF rfl rfl rfl).q) (fun a w hF hW => ?_)
        refine ls hF hW rfl ((y_move hF rfl).q) (fun a w hF hW => ?_)
        refine ls_nil ?_
        refine c_then ?_
        exact ⟨_, H, v3, hF.re ⟨rfl, rfl, rfl, rfl, trivial⟩, hW⟩
      ·
        have H := iteF (of_decide_eq_false hb) H
        rw [hb] at hF
        clear hb
        refine wp_exit ?_
        refine e_then ?_
        refine e_then ?_
        refine e_block ?_
        refine c_then ?_
        have H := L2 _ H
        exact ⟨_, v2, H, hF.re ⟨rfl, rfl, trivial⟩, hW⟩
    rintro a w ⟨x2, v1, hj, hF, hW⟩
    have hj := Option.some.inj hj
    subst hj
    have H := K1
    clear G1 K1
    refine c_seq ?_
    refine reg_list ?_
    obtain ⟨x8, h5, H⟩ := bindE H
    refine l_callG (Ml := []) (Zl := [bldr 52 5 b2 v1 x2]) (M := [(b1, [.int .i64 p0.1, .int .i64 p0.2.1, .int .i64 p0.2.2.1, .int .i64 p0.2.2.2])]) (Z := []) (β := Unit) (rv := fun x => .string (bs x8)) (MM := fun x => []) (ZZ := fun x => [bldr 52 5 b2 v1 x2]) hF hW H33 rfl rfl (fun hL => st_c _ _ w b2 v1 x2 _ h5 hL) (fun _ a w hF hW => ?_)
    have hW : Stw ⟨Y, [], w0⟩ [(b1, [.int .i64 p0.1, .int .i64 p0.2.1, .int .i64 p0.2.2.1, .int .i64 p0.2.2.2])] [bldr 52 5 b2 v1 x2] w := hW
    refine ls hF hW rfl ((y_assign hF rfl).q) (fun a w hF hW => ?_)
    refine ls_nil ?_
    refine c_then ?_
    refine wp_ret ?_
    have H := Option.some.inj H
    subst H
    refine post1 (.inl rfl) hF hW rfl (rv_tmp hF rfl) ?_
    exact ⟨rfl, hW.done⟩

theorem H15 : Has Tryd.prog 15 := ⟨fun args w => run_callFunc_body Tryd.func15 rfl (by decide) args w⟩
noncomputable def r04_Num_l1 (p1 : Int) : (Int × List UInt8 × Int) → Option ((Int × List UInt8 × Int) ⊕ (Int × List UInt8))
  | (x3, x4, x5) => (if x5 < p1 then (app (strOf ([IntKind.u8.wrap (Int.tmod x3 256)] : List Int)) x4).bind fun x6 => some (.inl (w64 (Int.tdiv x3 256), x6, w64 (x5 + 1))) else some (.inr (x3, x4)))
noncomputable def r04_Num (p0 : Int) (p1 : Int) : Option (List UInt8) := (if (decide (p1 < 1) || (decide (7 < p1) || decide (p0 < 0))) = true then some ([] : List UInt8) else (loopW (r04_Num_l1 p1) (p0, ([] : List UInt8), 0)).bind fun (x1, x2) => (if x1 ≠ 0 then some ([] : List UInt8) else some x2))
theorem r04_Num_c (Y : Nat → Prop) (w0 : World)  (p0 : Int) (p1 : Int) (r : List UInt8) (H : r04_Num p0 p1 = some r)  :
    Calls Tryd.prog 34 #[.int .i64 p0, .int .i64 p1] w0 fun e w' => e = .returned (.string (bs r)) ∧ Below w0.heap.size w0 w' := by
  refine enter Tryd.func34 rfl Tryd.ntmps34 rfl (fun a hF => ?_)
  have hW := Stw.start Y w0
  unfold r04_Num at H
  refine c_seq ?_
  refine reg_list ?_
  refine ls hF hW rfl ((y_assign (v := Value.string (bs ([] : List UInt8))) hF rfl).q) (fun a w hF hW => ?_)
  refine ls_nil ?_
  refine c_then ?_
  refine c_seq ?_
  refine c_seqJ (fun a w => Fr 34 [] [(0, .int .i64 p0), (1, .int .i64 p1), (4, .string (bs ([] : List UInt8))), (16, .bool (decide (p1 < 1) || (decide (7 < p1) || decide (p0 < 0))))] a ∧ Stw ⟨Y, [], w0⟩ [] [] w) ?_ ?_
  ·
    refine reg_list ?_
    refine ls hF hW rfl ((y_move hF rfl).q) (fun a w hF hW => ?_)
    refine ls hF hW rfl ((y_lss hF rfl rfl).q) (fun a w hF hW => ?_)
    refine ls hF hW rfl ((y_move hF rfl).q) (fun a w hF hW => ?_)
    rcases Bool.eq_false_or_eq_true (decide (p1 < 1)) with hb0 | hb0
    ·
      rw [hb0] at hF
      refine ls_skip hF (wanted_n hF rfl rfl rfl rfl rfl) rfl rfl (fun a hF => ?_)
      refine ls_skip hF (wanted_n hF rfl rfl rfl rfl rfl) rfl rfl (fun a hF => ?_)
      refine ls hF hW rfl ((y_pick_t hF rfl rfl rfl).q) (fun a w hF hW => ?_)
      refine ls hF hW rfl ((y_move hF rfl).q) (fun a w hF hW => ?_)
      refine ls_skip hF (wanted_n hF rfl rfl rfl rfl rfl) rfl rfl (fun a hF => ?_)
      refine ls_skip hF (wanted_n hF rfl rfl rfl rfl rfl) rfl rfl (fun a hF => ?_)
      refine ls hF hW rfl ((y_pick_t hF rfl rfl rfl).q) (fun a w hF hW => ?_)
      refine ls_nil ?_
      refine c_then ?_
      exact ⟨hF.re ⟨rfl, rfl, rfl, (by show some (Value.bool true) = some (Value.bool (decide (p1 < 1) || (decide (7 < p1) || decide (p0 < 0)))); try rw [hb0]; all_goals simp only [Bool.not_true, Bool.not_false, Bool.true_and, Bool.false_and, Bool.true_or, Bool.false_or, Bool.and_true, Bool.or_false, cond_true, cond_false]), trivial⟩, hW⟩
    ·
      rw [hb0] at hF
      refine ls_w hF hW (wanted_y hF rfl rfl rfl rfl) rfl (Nat.le_of_ble_eq_true rfl) ((y_move hF rfl).q) (fun a w hF hW => ?_)
      refine ls_w hF hW (wanted_y hF rfl rfl rfl rfl) rfl (Nat.le_of_ble_eq_true rfl) ((y_gtr hF rfl rfl).q) (fun a w hF hW => ?_)
      refine ls hF hW rfl ((y_pick_f hF rfl rfl rfl).q) (fun a w hF hW => ?_)
      refine ls hF hW rfl ((y_move hF rfl).q) (fun a w hF hW => ?_)
      rcases Bool.eq_false_or_eq_true (decide (7 < p1)) with hb1 | hb1
      ·
        rw [hb1] at hF
        refine ls_skip hF (wanted_n hF rfl rfl rfl rfl rfl) rfl rfl (fun a hF => ?_)
        refine ls_skip hF (wanted_n hF rfl rfl rfl rfl rfl) rfl rfl (fun a hF => ?_)
        refine ls hF hW rfl ((y_pick_t hF rfl rfl rfl).q) (fun a w hF hW => ?_)
        refine ls_nil ?_
        refine c_then ?_
        exact ⟨hF.re ⟨rfl, rfl, rfl, (by show some (Value.bool true) = some (Value.bool (decide (p1 < 1) || (decide (7 < p1) || decide (p0 < 0)))); try rw [hb0]; try rw [hb1]; all_goals simp only [Bool.not_true, Bool.not_false, Bool.true_and, Bool.false_and, Bool.true_or, Bool.false_or, Bool.and_true, Bool.or_false, cond_true, cond_false]), trivial⟩, hW⟩
      ·
        rw [hb1] at hF
        refine ls_w hF hW (wanted_y hF rfl rfl rfl rfl) rfl (Nat.le_of_ble_eq_true rfl) ((y_move hF rfl).q) (fun a w hF hW => ?_)
        refine ls_w hF hW (wanted_y hF rfl rfl rfl rfl) rfl (Nat.le_of_ble_eq_true rfl) ((y_lss hF rfl rfl).q) (fun a w hF hW => ?_)
        refine ls hF hW rfl ((y_pick_f hF rfl rfl rfl).q) (fun a w hF hW => ?_)
        refine ls_nil ?_
        refine c_then ?_
        exact ⟨hF.re ⟨rfl, rfl, rfl, (by show some (Value.bool (decide (p0 < 0))) = some (Value.bool (decide (p1 < 1) || (decide (7 < p1) || decide (p0 < 0)))); try rw [hb0]; try rw [hb1]; all_goals simp only [Bool.not_true, Bool.not_false, Bool.true_and, Bool.false_and, Bool.true_or, Bool.false_or, Bool.and_true, Bool.or_false, cond_true, cond_false]), trivial⟩, hW⟩
  rintro a w ⟨hF, hW⟩
  refine c_cond hF rfl (fun hb => ?_) (fun hb => ?_)
  ·
    have H := iteT hb H
    rw [hb] at hF
    clear hb
    refine c_seq ?_
    refine reg_list ?_
    refine ls hF hW rfl ((y_assign (v := Value.string (bs ([] : List UInt8))) hF rfl).q) (fun a w hF hW => ?_)
    refine ls_nil ?_
    refine c_then ?_
    refine wp_ret ?_
    refine r_then ?_
    have H := Option.some.inj H
    subst H
    refine post1 (.inl rfl) hF hW rfl (rv_tmp hF rfl) ?_
    exact ⟨rfl, hW.done⟩
  ·
    have H := iteF (by rw [hb]; decide) H
    rw [hb] at hF
    clear hb
    refine wp_skip ?_
    refine c_then ?_
    refine c_seq ?_
    refine reg_list ?_
    refine ls hF hW rfl ((y_assign (v := Value.string (bs ([] : List UInt8))) hF rfl).q) (fun a w hF hW => ?_)
    refine ls_nil ?_
    refine c_then ?_
    obtain ⟨o1, G1, K1⟩ := bindE H
    refine c_seqJ (fun a w => ∃ x1 : Int, ∃ x2 : List UInt8, some ((x1, x2)) = some o1 ∧ Fr 34 [] [(0, .int .i64 x1), (4, .string (bs ([] : List UInt8))), (5, .string (bs x2))] a ∧ Stw ⟨Y, [], w0⟩ [] [] w) ?_ ?_
    ·
      have H := G1
      clear G1 K1
      refine c_seq ?_
      refine reg_list ?_
      refine ls hF hW rfl ((y_assign hF rfl).q) (fun a w hF hW => ?_)
      refine ls_nil ?_
      refine c_then ?_
      refine wp_block ?_
      refine c_loopW H (fun s a w => Fr 34 [] [(0, .int .i64 s.1), (1, .int .i64 p1), (4, .string (bs ([] : List UInt8))), (5, .string (bs s.2.1)), (6, .int .i64 s.2.2)] a ∧ Stw ⟨Y, [], w0⟩ [] [] w) ⟨hF.re ⟨rfl, rfl, rfl, rfl, rfl, trivial⟩, hW⟩ (fun s o a w H L2 hR => ?_)
      obtain ⟨x3, x4, x5⟩ := s
      obtain ⟨hF, hW⟩ := hR
      have hF : Fr 34 [] [(0, .int .i64 x3), (1, .int .i64 p1), (4, .string (bs ([] : List UInt8))), (5, .string (bs x4)), (6, .int .i64 x5)] a := hF
      have hW : Stw ⟨Y, [], w0⟩ [] [] w := hW
      rw [r04_Num_l1] at H
      refine c_seq ?_
      refine c_seq ?_
      refine reg_list ?_
      refine ls hF hW rfl ((y_move hF rfl).q) (fun a w hF hW => ?_)
      refine ls hF hW rfl ((y_move hF rfl).q) (fun a w hF hW => ?_)
      refine ls hF hW rfl ((y_lss hF rfl rfl).q) (fun a w hF hW => ?_)
      refine ls_nil ?_
      refine c_then ?_
      refine c_cond hF rfl (fun hb => ?_) (fun hb => ?_)
      ·
        have H := iteT (of_decide_eq_true hb) H
        rw [hb] at hF
        clear hb
        refine wp_skip ?_
        refine c_then ?_
        refine c_seq ?_
        refine wp_block ?_
        refine c_seq ?_
        refine reg_list ?_
        refine ls hF hW rfl ((y_move hF rfl).q) (fun a w hF hW => ?_)
        refine ls hF hW rfl ((y_rem hF rfl rfl (by decide) rfl).q) (fun a w hF hW => ?_)
        refine ls hF hW rfl ((y_convI Tryd.underlying3 Tryd.underlying5 hF rfl).q) (fun a w hF hW => ?_)
        refine l_lit (z := Value.int .u8 0) (cs := [.int .u8 (IntKind.u8.wrap (Int.tmod x3 256))]) (Rp.int .u8) ([IntKind.u8.wrap (Int.tmod x3 256)] : List Int) hF hW rfl L50 Z5 rfl rfl rfl rfl rfl rfl (Fl.int.repL _ _ ([IntKind.u8.wrap (Int.tmod x3 256)] : List Int)) (fun v1 a w hF hW => ?_)
        refine ls hF hW rfl ((y_convB (ns := ([IntKind.u8.wrap (Int.tmod x3 256)] : List Int)) Tryd.underlying50 Tryd.underlying5 Tryd.underlying9 hF rfl (rdc_row 0 rfl)).q) (fun a w hF hW => ?_)
        refine ls hF hW rfl ((y_move hF rfl).q) (fun a w hF hW => ?_)
        obtain ⟨x6, h1, H⟩ := bindE H
        refine ls hF hW rfl ((y_sadd (l := strOf ([IntKind.u8.wrap (Int.tmod x3 256)] : List Int)) (m := x4) hF rfl rfl h1).q) (fun a w hF hW => ?_)
        refine ls hF hW rfl ((y_assign hF rfl).q) (fun a w hF hW => ?_)
        refine ls_nil ?_
        refine c_then ?_
        refine reg_list ?_
        refine ls hF hW rfl ((y_move hF rfl).q) (fun a w hF hW => ?_)
        refine ls hF hW rfl ((y_quo hF rfl rfl (by decide) rfl).q) (fun a w hF hW => ?_)
        refine ls hF hW rfl ((y_assign hF rfl).q) (fun a w hF hW => ?_)
        refine ls_nil ?_
        refine b_normal ?_
        refine c_then ?_
        refine reg_list ?_
        refine ls hF hW rfl ((y_move hF rfl).q) (fun a w hF hW => ?_)
        refine ls hF hW rfl ((y_add hF rfl rfl rfl).q) (fun a w hF hW => ?_)
        refine ls hF hW rfl ((y_assign hF rfl).q) (fun a w hF hW => ?_)
        refine ls_nil ?_
        refine c_then ?_
        have hW := hW.sub (M' := []) (Z' := []) (List.Sublist.refl _) (List.nil_sublist _)
        exact ⟨_, H, hF.re ⟨rfl, rfl, rfl, rfl, rfl, trivial⟩, hW⟩
      ·
        have H := iteF (of_decide_eq_false hb) H
        rw [hb] at hF
        clear hb
        refine wp_exit ?_
        refine e_then ?_
        refine e_then ?_
        refine e_block ?_
        refine c_then ?_
        have H := L2 _ H
        exact ⟨_, _, H, hF.re ⟨rfl, rfl, rfl, trivial⟩, hW⟩
    rintro a w ⟨x1, x2, hj, hF, hW⟩
    have hj := Option.some.inj hj
    subst hj
    have H := K1
    clear G1 K1
    refine c_seq ?_
    refine c_seq ?_
    refine reg_list ?_
    refine ls hF hW rfl ((y_move hF rfl).q) (fun a w hF hW => ?_)
    refine ls hF hW rfl ((y_neq hF rfl rfl).q) (fun a w hF hW => ?_)
    refine ls_nil ?_
    refine c_then ?_
    refine c_cond hF rfl (fun hb => ?_) (fun hb => ?_)
    ·
      have H := iteT (of_decide_eq_true hb) H
      rw [hb] at hF
      clear hb
      refine c_seq ?_
      refine reg_list ?_
      refine ls hF hW rfl ((y_assign (v := Value.string (bs ([] : List UInt8))) hF rfl).q) (fun a w hF hW => ?_)
      refine ls_nil ?_
      refine c_then ?_
      refine wp_ret ?_
      refine r_then ?_
      have H := Option.some.inj H
      subst H
      refine post1 (.inl rfl) hF hW rfl (rv_tmp hF rfl) ?_
      exact ⟨rfl, hW.done⟩
    ·
      have H := iteF (of_decide_eq_false hb) H
      rw [hb] at hF
      clear hb
      refine wp_skip ?_
      refine c_then ?_
      refine c_seq ?_
      refine reg_list ?_
      refine ls hF hW rfl ((y_move hF rfl).q) (fun a w hF hW => ?_)
      refine ls hF hW rfl ((y_assign hF rfl).q) (fun a w hF hW => ?_)
      refine ls_nil ?_
      refine c_then ?_
      refine wp_ret ?_
      have H := Option.some.inj H
      subst H
      refine post1 (.inl rfl) hF hW rfl (rv_tmp hF rfl) ?_
      exact ⟨rfl, hW.done⟩

theorem H34 : Has Tryd.prog 34 := ⟨fun args w => run_callFunc_body Tryd.func34 rfl (by decide) args w⟩
noncomputable def r07_Code (p0 : Int × Int × Int × Int) : Option (List UInt8) := (r07_Right p0).bind fun x1 => (if (!x1) = true then some ([] : List UInt8) else (r04_Num p0.1 1).bind fun x2 => (r04_Num p0.2.1 1).bind fun x3 => (app x2 x3).bind fun x4 => (r04_Num p0.2.2.1 1).bind fun x5 => (app x4 x5).bind fun x6 => (r04_Num p0.2.2.2 1).bind fun x7 => (app x6 x7).bind fun x8 => some x8)
theorem r07_Code_c (Y : Nat → Prop) (w0 : World)  (p0 : Int × Int × Int × Int) (r : List UInt8) (H : r07_Code p0 = some r)  :
    Calls Tryd.prog 16 #[.agg #[.int .i64 p0.1, .int .i64 p0.2.1, .int .i64 p0.2.2.1, .int .i64 p0.2.2.2]] w0 fun e w' => e = .returned (.string (bs r)) ∧ Below w0.heap.size w0 w' := by
  refine enter Tryd.func16 rfl Tryd.ntmps16 rfl (fun a hF => ?_)
  have hW := Stw.start Y w0
  unfold r07_Code at H
  refine c_seq ?_
  refine reg_list ?_
  refine l_box (cs := [.int .i64 p0.1, .int .i64 p0.2.1, .int .i64 p0.2.2.1, .int .i64 p0.2.2.2]) hF hW rfl rfl rfl (fun b1 a w hF hW => ?_)
  refine ls hF hW rfl ((y_assign (v := Value.string (bs ([] : List UInt8))) hF rfl).q) (fun a w hF hW => ?_)
  refine ls_nil ?_
  refine c_then ?_
  refine c_seq ?_
  refine c_seq ?_
  refine reg_list ?_
  refine ls hF hW rfl ((y_load (v := Value.agg #[.int .i64 p0.1, .int .i64 p0.2.1, .int .i64 p0.2.2.1, .int .i64 p0.2.2.2]) 0 hF rfl rfl T23 rfl).q) (fun a w hF hW => ?_)
  obtain ⟨x1, h1, H⟩ := bindE H
  refine ls hF hW rfl (y_call (v := Value.bool x1) hF H11 rfl (fun w hW => r07_Right_c any w p0 _ h1)) (fun a w hF hW => ?_)
  refine ls hF hW rfl ((y_not hF rfl).q) (fun a w hF hW => ?_)
  refine ls_nil ?_
  refine c_then ?_
  refine c_cond hF rfl (fun hb => ?_) (fun hb => ?_)
  ·
    have H := iteT hb H
    rw [hb] at hF
    clear hb
    refine c_seq ?_
    refine reg_list ?_
    refine ls hF hW rfl ((y_assign (v := Value.string (bs ([] : List UInt8))) hF rfl).q) (fun a w hF hW => ?_)
    refine ls_nil ?_
    refine c_then ?_
    refine wp_ret ?_
    refine r_then ?_
    have H := Option.some.inj H
    subst H
    refine post1 (.inl rfl) hF hW rfl (rv_tmp hF rfl) ?_
    exact ⟨rfl, hW.done⟩
  ·
    have H := iteF (by rw [hb]; decide) H
    rw [hb] at hF
    clear hb
    refine wp_skip ?_
    refine c_then ?_
    refine c_seq ?_
    refine reg_quiet hW MO (by kernel_rfl) ?_
    refine qs hF rfl ((y_indexP (l := [(), (), (), ()]) (i := 0) 0 Ar23 hF rfl rfl rfl rfl rfl).q) (fun a hF => ?_)
    refine qs hF rfl ((y_load (v := Value.int .i64 p0.1) 0 hF rfl rfl T3 rfl).q) (fun a hF => ?_)
    obtain ⟨x2, h2, H⟩ := bindE H
    refine qs hF rfl (y_call (v := Value.string (bs x2)) hF H34 rfl (fun w hW => r04_Num_c any w p0.1 1 _ h2)) (fun a hF => ?_)
    refine qs hF rfl ((y_indexP (l := [(), (), (), ()]) (i := 1) 1 Ar23 hF rfl rfl rfl rfl rfl).q) (fun a hF => ?_)
    refine qs hF rfl ((y_load (v := Value.int .i64 p0.2.1) 0 hF rfl rfl T3 rfl).q) (fun a hF => ?_)
    obtain ⟨x3, h3, H⟩ := bindE H
    refine qs hF rfl (y_call (v := Value.string (bs x3)) hF H34 rfl (fun w hW => r04_Num_c any w p0.2.1 1 _ h3)) (fun a hF => ?_)
    obtain ⟨x4, h4, H⟩ := bindE H
    refine qs hF rfl ((y_sadd (l := x2) (m := x3) hF rfl rfl h4).q) (fun a hF => ?_)
    refine qs hF rfl ((y_indexP (l := [(), (), (), ()]) (i := 2) 2 Ar23 hF rfl rfl rfl rfl rfl).q) (fun a hF => ?_)
    refine qs hF rfl ((y_load (v := Value.int .i64 p0.2.2.1) 0 hF rfl rfl T3 rfl).q) (fun a hF => ?_)
    obtain ⟨x5, h5, H⟩ := bindE H
    refine qs hF rfl (y_call (v := Value.string (bs x5)) hF H34 rfl (fun w hW => r04_Num_c any w p0.2.2.1 1 _ h5)) (fun a hF => ?_)
    obtain ⟨x6, h6, H⟩ := bindE H
    refine qs hF rfl ((y_sadd (l := x4) (m := x5) hF rfl rfl h6).q) (fun a hF => ?_)
    refine qs hF rfl ((y_indexP (l := [(), (), (), ()]) (i := 3) 3 Ar23 hF rfl rfl rfl rfl rfl).q) (fun a hF => ?_)
    refine qs hF rfl ((y_load (v := Value.int .i64 p0.2.2.2) 0 hF rfl rfl T3 rfl).q) (fun a hF => ?_)
    obtain ⟨x7, h7, H⟩ := bindE H
    refine qs hF rfl (y_call (v := Value.string (bs x7)) hF H34 rfl (fun w hW => r04_Num_c any w p0.2.2.2 1 _ h7)) (fun a hF => ?_)
    obtain ⟨x8, h8, H⟩ := bindE H
    refine qs hF rfl ((y_sadd (l := x6) (m := x7) hF rfl rfl h8).q) (fun a hF => ?_)
    refine qs hF rfl ((y_assign hF rfl).q) (fun a hF => ?_)
    refine quiet_end (fun w hW => ?_)
    refine c_then ?_
    refine wp_ret ?_
    have H := Option.some.inj H
    subst H
    refine post1 (.inl rfl) hF hW rfl (rv_tmp hF rfl) ?_
    exact ⟨rfl, hW.done⟩

theorem H16 : Has Tryd.prog 16 := ⟨fun args w => run_callFunc_body Tryd.func16 rfl (by decide) args w⟩
theorem H35 : Has Tryd.prog 35 := ⟨fun args w => run_callFunc_body Tryd.func35 rfl (by decide) args w⟩
noncomputable def packet_Text (p0 : Int × Int × Int × Int) : Option (List UInt8) := (itoaP p0.1).bind fun x1 => (app x1 ([62] : List UInt8)).bind fun x2 => (itoaP p0.2.1).bind fun x3 => (app x2 x3).bind fun x4 => (app x4 ([32] : List UInt8)).bind fun x5 => (itoaP p0.2.2.1).bind fun x6 => (app x5 x6).bind fun x7 => (app x7 ([32] : List UInt8)).bind fun x8 => (itoaP p0.2.2.2).bind fun x9 => (app x8 x9).bind fun x10 => some x10
theorem packet_Text_c (Y : Nat → Prop) (w0 : World)  (p0 : Int × Int × Int × Int) (r : List UInt8) (H : packet_Text p0 = some r) (hG : Gk [] w0) :
    Calls Tryd.prog 17 #[.agg #[.int .i64 p0.1, .int .i64 p0.2.1, .int .i64 p0.2.2.1, .int .i64 p0.2.2.2]] w0 fun e w' => e = .returned (.string (bs r)) ∧ Below w0.heap.size w0 w' := by
  refine enter Tryd.func17 rfl Tryd.ntmps17 rfl (fun a hF => ?_)
  have hW := Stw.start Y w0
  unfold packet_Text at H
  refine c_seq ?_
  refine reg_list ?_
  refine l_box (cs := [.int .i64 p0.1, .int .i64 p0.2.1, .int .i64 p0.2.2.1, .int .i64 p0.2.2.2]) hF hW rfl rfl rfl (fun b1 a w hF hW => ?_)
  refine ls hF hW rfl ((y_assign (v := Value.string (bs ([] : List UInt8))) hF rfl).q) (fun a w hF hW => ?_)
  refine ls_nil ?_
  refine c_then ?_
  refine c_seq ?_
  refine reg_quiet hW MO (by kernel_rfl) ?_
  refine qs hF rfl ((y_indexP (l := [(), (), (), ()]) (i := 0) 0 Ar23 hF rfl rfl rfl rfl rfl).q) (fun a hF => ?_)
  refine qs hF rfl ((y_load (v := Value.int .i64 p0.1) 0 hF rfl rfl T3 rfl).q) (fun a hF => ?_)
  obtain ⟨x1, h1, H⟩ := bindE H
  refine qs hF rfl (y_call (v := Value.string (bs x1)) hF H35 rfl (fun w hW => itoa_c any w p0.1 _ h1 (hG.go0 hW))) (fun a hF => ?_)
  obtain ⟨x2, h2, H⟩ := bindE H
  refine qs hF rfl ((y_sadd (l := x1) (m := ([62] : List UInt8)) hF rfl rfl h2).q) (fun a hF => ?_)
  refine qs hF rfl ((y_indexP (l := [(), (), (), ()]) (i := 1) 1 Ar23 hF rfl rfl rfl rfl rfl).q) (fun a hF => ?_)
  refine qs hF rfl ((y_load (v := Value.int .i64 p0.2.1) 0 hF rfl rfl T3 rfl).q) (fun a hF => ?_)
  obtain ⟨x3, h3, H⟩ := bindE H
  refine qs hF rfl (y_call (v := Value.string (bs x3)) hF H35 rfl (fun w hW => itoa_c any w p0.2.1 _ h3 (hG.go0 hW))) (fun a hF => ?_)
  obtain ⟨x4, h4, H⟩ := bindE H
  refine qs hF rfl ((y_sadd (l := x2) (m := x3) hF rfl rfl h4).q) (fun a hF => ?_)
  obtain ⟨x5, h5, H⟩ := bindE H
  refine qs hF rfl ((y_sadd (l := x4) (m := ([32] : List UInt8)) hF rfl rfl h5).q) (fun a hF => ?_)
  refine qs hF rfl ((y_indexP (l := [(), (), (), ()]) (i := 2) 2 Ar23 hF rfl rfl rfl rfl rfl).q) (fun a hF => ?_)
  refine qs hF rfl ((y_load (v := Value.int .i64 p0.2.2.1) 0 hF rfl rfl T3 rfl).q) (fun a hF => ?_)
  obtain ⟨x6, h6, H⟩ := bindE H
  refine qs hF rfl (y_call (v := Value.string (bs x6)) hF H35 rfl (fun w hW => itoa_c any w p0.2.2.1 _ h6 (hG.go0 hW))) (fun a hF => ?_)
  obtain ⟨x7, h7, H⟩ := bindE H
  refine qs hF rfl ((y_sadd (l := x5) (m := x6) hF rfl rfl h7).q) (fun a hF => ?_)
  obtain ⟨x8, h8, H⟩ := bindE H
  refine qs hF rfl ((y_sadd (l := x7) (m := ([32] : List UInt8)) hF rfl rfl h8).q) (fun a hF => ?_)
  refine qs hF rfl ((y_indexP (l := [(), (), (), ()]) (i := 3) 3 Ar23 hF rfl rfl rfl rfl rfl).q) (fun a hF => ?_)
  refine qs hF rfl ((y_load (v := Value.int .i64 p0.2.2.2) 0 hF rfl rfl T3 rfl).q) (fun a hF => ?_)
  obtain ⟨x9, h9, H⟩ := bindE H
  refine qs hF rfl (y_call (v := Value.string (bs x9)) hF H35 rfl (fun w hW => itoa_c any w p0.2.2.2 _ h9 (hG.go0 hW))) (fun a hF => ?_)
  obtain ⟨x10, h10, H⟩ := bindE H
  refine qs hF rfl ((y_sadd (l := x8) (m := x9) hF rfl rfl h10).q) (fun a hF => ?_)
  refine qs hF rfl ((y_assign hF rfl).q) (fun a hF => ?_)
  refine quiet_end (fun w hW => ?_)
  refine c_then ?_
  refine wp_ret ?_
  have H := Option.some.inj H
  subst H
  refine post1 (.inl rfl) hF hW rfl (rv_tmp hF rfl) ?_
  exact ⟨rfl, hW.done⟩

theorem H17 : Has Tryd.prog 17 := ⟨fun args w => run_callFunc_body Tryd.func17 rfl (by decide) args w⟩
theorem H36 : Has Tryd.prog 36 := ⟨fun args w => run_callFunc_body Tryd.func36 rfl (by decide) args w⟩
noncomputable def r07_Digits_st (fRec : Int → Option (List UInt8)) (p0 : Int) : Option (List UInt8) := (if p0 < 0 then (if (-10) < p0 then (fRec (w64 (0 - p0))).bind fun x1 => (app ([45] : List UInt8) x1).bind fun x2 => some x2 else (fRec (w64 (0 - (w64 (Int.tdiv p0 10))))).bind fun x3 => (app ([45] : List UInt8) x3).bind fun x4 => (fRec (w64 (0 - (Int.tmod p0 10)))).bind fun x5 => (app x4 x5).bind fun x6 => some x6) else (if p0 < 10 then (subl ([48, 49, 50, 51, 52, 53, 54, 55, 56, 57] : List UInt8) p0 (w64 (p0 + 1))).bind fun x7 => some x7 else (fRec (w64 (Int.tdiv p0 10))).bind fun x8 => (subl ([48, 49, 50, 51, 52, 53, 54, 55, 56, 57] : List UInt8) (Int.tmod p0 10) (w64 ((Int.tmod p0 10) + 1))).bind fun x9 => (app x8 x9).bind fun x10 => some x10))
noncomputable def r07_Digits_n : Nat → Int → Option (List UInt8)
  | 0 => fun _ => none
  | n + 1 => r07_Digits_st (r07_Digits_n n)
noncomputable def r07_Digits (p0 : Int) : Option (List UInt8) := limF fun n => r07_Digits_n n p0
theorem r07_Digits_stc (fRec : Int → Option (List UInt8)) (ih : ∀ (Y : Nat → Prop) (w0 : World)  (p0 : Int) (r : List UInt8) (H : fRec p0 = some r) , Calls Tryd.prog 36 #[.int .i64 p0] w0 fun e w' => e = .returned (.string (bs r)) ∧ Below w0.heap.size w0 w') (Y : Nat → Prop) (w0 : World)  (p0 : Int) (r : List UInt8) (H : r07_Digits_st fRec p0 = some r)  :
    Calls Tryd.prog 36 #[.int .i64 p0] w0 fun e w' => e = .returned (.string (bs r)) ∧ Below w0.heap.size w0 w' := by
  refine enter Tryd.func36 rfl Tryd.ntmps36 rfl (fun a hF => ?_)
  have hW := Stw.start Y w0
  unfold r07_Digits_st at H
  refine c_seq ?_
  refine reg_list ?_
  refine ls hF hW rfl ((y_assign (v := Value.string (bs ([] : List UInt8))) hF rfl).q) (fun a w hF hW => ?_)
  refine ls_nil ?_
  refine c_then ?_
  refine c_seq ?_
  refine c_seq ?_
  refine reg_list ?_
  refine ls hF hW rfl ((y_move hF rfl).q) (fun a w hF hW => ?_)
  refine ls hF hW rfl ((y_lss hF rfl rfl).q) (fun a w hF hW => ?_)
  refine ls_nil ?_
  refine c_then ?_
  refine c_cond hF rfl (fun hb => ?_) (fun hb => ?_)
  ·
    have H := iteT (of_decide_eq_true hb) H
    rw [hb] at hF
    clear hb
    refine c_seq ?_
    refine c_seq ?_
    refine reg_list ?_
    refine ls hF hW rfl ((y_move hF rfl).q) (fun a w hF hW => ?_)
    refine ls hF hW rfl ((y_gtr hF rfl rfl).q) (fun a w hF hW => ?_)
    refine ls_nil ?_
    refine c_then ?_
    refine c_cond hF rfl (fun hb => ?_) (fun hb => ?_)
    ·
      have H := iteT (of_decide_eq_true hb) H
      rw [hb] at hF
      clear hb
      refine c_seq ?_
      refine reg_list ?_
      refine ls hF hW rfl ((y_move hF rfl).q) (fun a w hF hW => ?_)
      refine ls hF hW rfl ((y_sub hF rfl rfl rfl).q) (fun a w hF hW => ?_)
      obtain ⟨x1, h1, H⟩ := bindE H
      refine ls hF hW rfl (y_call (v := Value.string (bs x1)) hF H36 rfl (fun w hW => ih any w (w64 (0 - p0)) _ h1)) (fun a w hF hW => ?_)
      obtain ⟨x2, h2, H⟩ := bindE H
      refine ls hF hW rfl ((y_sadd (l := ([45] : List UInt8)) (m := x1) hF rfl rfl h2).q) (fun a w hF hW => ?_)
      refine ls hF hW rfl ((y_assign hF rfl).q) (fun a w hF hW => ?_)
      refine ls_nil ?_
      refine c_then ?_
      refine wp_ret ?_
      refine r_then ?_
      refine r_then ?_
      have H := Option.some.inj H
      subst H
      refine post1 (.inl rfl) hF hW rfl (rv_tmp hF rfl) ?_
      exact ⟨rfl, hW.done⟩
    ·
      have H := iteF (of_decide_eq_false hb) H
      rw [hb] at hF
      clear hb
      refine wp_skip ?_
      refine c_then ?_
      refine c_seq ?_
      refine reg_list ?_
      refine ls hF hW rfl ((y_move hF rfl).q) (fun a w hF hW => ?_)
      refine ls hF hW rfl ((y_quo hF rfl rfl (by decide) rfl).q) (fun a w hF hW => ?_)
      refine ls hF hW rfl ((y_sub hF rfl rfl rfl).q) (fun a w hF hW => ?_)
      obtain ⟨x3, h3, H⟩ := bindE H
      refine ls hF hW rfl (y_call (v := Value.string (bs x3)) hF H36 rfl (fun w hW => ih any w (w64 (0 - (w64 (Int.tdiv p0 10)))) _ h3)) (fun a w hF hW => ?_)
      obtain ⟨x4, h4, H⟩ := bindE H
      refine ls hF hW rfl ((y_sadd (l := ([45] : List UInt8)) (m := x3) hF rfl rfl h4).q) (fun a w hF hW => ?_)
      refine ls hF hW rfl ((y_move hF rfl).q) (fun a w hF hW => ?_)
      refine ls hF hW rfl ((y_rem hF rfl rfl (by decide) rfl).q) (fun a w hF hW => ?_)
      refine ls hF hW rfl ((y_sub hF rfl rfl rfl).q) (fun a w hF hW => ?_)
      obtain ⟨x5, h5, H⟩ := bindE H
      refine ls hF hW rfl (y_call (v := Value.string (bs x5)) hF H36 rfl (fun w hW => ih any w (w64 (0 - (Int.tmod p0 10))) _ h5)) (fun a w hF hW => ?_)
      obtain ⟨x6, h6, H⟩ := bindE H
      refine ls hF hW rfl ((y_sadd (l := x4) (m := x5) hF rfl rfl h6).q) (fun a w hF hW => ?_)
      refine ls hF hW rfl ((y_assign hF rfl).q) (fun a w hF hW => ?_)
      refine ls_nil ?_
      refine c_then ?_
      refine wp_ret ?_
      refine r_then ?_
      have H := Option.some.inj H
      subst H
      refine post1 (.inl rfl) hF hW rfl (rv_tmp hF rfl) ?_
      exact ⟨rfl, hW.done⟩
  ·
    have H := iteF (of_decide_eq_false hb) H
    rw [hb] at hF
    clear hb
    refine wp_skip ?_
    refine c_then ?_
    refine c_seq ?_
    refine c_seq ?_
    refine reg_list ?_
    refine ls hF hW rfl ((y_move hF rfl).q) (fun a w hF hW => ?_)
    refine ls hF hW rfl ((y_lss hF rfl rfl).q) (fun a w hF hW => ?_)
    refine ls_nil ?_
    refine c_then ?_
    refine c_cond hF rfl (fun hb => ?_) (fun hb => ?_)
    ·
      have H := iteT (of_decide_eq_true hb) H
      rw [hb] at hF
      clear hb
      refine c_seq ?_
      refine reg_list ?_
      refine ls hF hW rfl ((y_move hF rfl).q) (fun a w hF hW => ?_)
      refine ls hF hW rfl ((y_move hF rfl).q) (fun a w hF hW => ?_)
      refine ls hF hW rfl ((y_add hF rfl rfl rfl).q) (fun a w hF hW => ?_)
      obtain ⟨x7, h7, H⟩ := bindE H
      refine ls hF hW rfl ((y_sslice (l := ([48, 49, 50, 51, 52, 53, 54, 55, 56, 57] : List UInt8)) Tryd.underlying9 hF rfl rfl rfl h7).q) (fun a w hF hW => ?_)
      refine ls hF hW rfl ((y_assign hF rfl).q) (fun a w hF hW => ?_)
      refine ls_nil ?_
      refine c_then ?_
      refine wp_ret ?_
      refine r_then ?_
      have H := Option.some.inj H
      subst H
      refine post1 (.inl rfl) hF hW rfl (rv_tmp hF rfl) ?_
      exact ⟨rfl, hW.done⟩
    ·
      have H := iteF (of_decide_eq_false hb) H
      rw [hb] at hF
      clear hb
      refine wp_skip ?_
      refine c_then ?_
      refine c_seq ?_
      refine reg_quiet hW MO (by kernel_rfl) ?_
      refine qs hF rfl ((y_move hF rfl).q) (fun a hF => ?_)
      refine qs hF rfl ((y_quo hF rfl rfl (by decide) rfl).q) (fun a hF => ?_)
      obtain ⟨x8, h8, H⟩ := bindE H
      refine qs hF rfl (y_call (v := Value.string (bs x8)) hF H36 rfl (fun w hW => ih any w (w64 (Int.tdiv p0 10)) _ h8)) (fun a hF => ?_)
      refine qs hF rfl ((y_move hF rfl).q) (fun a hF => ?_)
      refine qs hF rfl ((y_rem hF rfl rfl (by decide) rfl).q) (fun a hF => ?_)
      refine qs hF rfl ((y_move hF rfl).q) (fun a hF => ?_)
      refine qs hF rfl ((y_rem hF rfl rfl (by decide) rfl).q) (fun a hF => ?_)
      refine qs hF rfl ((y_add hF rfl rfl rfl).q) (fun a hF => ?_)
      obtain ⟨x9, h9, H⟩ := bindE H
      refine qs hF rfl ((y_sslice (l := ([48, 49, 50, 51, 52, 53, 54, 55, 56, 57] : List UInt8)) Tryd.underlying9 hF rfl rfl rfl h9).q) (fun a hF => ?_)
      obtain ⟨x10, h10, H⟩ := bindE H
      refine qs hF rfl ((y_sadd (l := x8) (m := x9) hF rfl rfl h10).q) (fun a hF => ?_)
      refine qs hF rfl ((y_assign hF rfl).q) (fun a hF => ?_)
      refine quiet_end (fun w hW => ?_)
      refine c_then ?_
      refine wp_ret ?_
      have H := Option.some.inj H
      subst H
      refine post1 (.inl rfl) hF hW rfl (rv_tmp hF rfl) ?_
      exact ⟨rfl, hW.done⟩
theorem r07_Digits_nc : ∀ (n : Nat) (Y : Nat → Prop) (w0 : World)  (p0 : Int) (r : List UInt8) (H : r07_Digits_n n p0 = some r) , Calls Tryd.prog 36 #[.int .i64 p0] w0 fun e w' => e = .returned (.string (bs r)) ∧ Below w0.heap.size w0 w' := by
  intro n
  induction n with
  | zero => intro Y w0  p0 r H; exact nomatch H
  | succ n ih => intro Y w0  p0 r H ; exact r07_Digits_stc (r07_Digits_n n) ih Y w0  p0 r H 
theorem r07_Digits_c (Y : Nat → Prop) (w0 : World)  (p0 : Int) (r : List UInt8) (H : r07_Digits p0 = some r)  :
    Calls Tryd.prog 36 #[.int .i64 p0] w0 fun e w' => e = .returned (.string (bs r)) ∧ Below w0.heap.size w0 w' := by
  obtain ⟨n, H⟩ := limF_some H
  exact r07_Digits_nc n Y w0  p0 r H 

noncomputable def r07_Text (p0 : Int × Int × Int × Int) : Option (List UInt8) := (r07_Digits p0.1).bind fun x1 => (app x1 ([62] : List UInt8)).bind fun x2 => (r07_Digits p0.2.1).bind fun x3 => (app x2 x3).bind fun x4 => (app x4 ([32] : List UInt8)).bind fun x5 => (r07_Digits p0.2.2.1).bind fun x6 => (app x5 x6).bind fun x7 => (app x7 ([32] : List UInt8)).bind fun x8 => (r07_Digits p0.2.2.2).bind fun x9 => (app x8 x9).bind fun x10 => some x10
theorem r07_Text_c (Y : Nat → Prop) (w0 : World)  (p0 : Int × Int × Int × Int) (r : List UInt8) (H : r07_Text p0 = some r)  :
    Calls Tryd.prog 18 #[.agg #[.int .i64 p0.1, .int .i64 p0.2.1, .int .i64 p0.2.2.1, .int .i64 p0.2.2.2]] w0 fun e w' => e = .returned (.string (bs r)) ∧ Below w0.heap.size w0 w' := by
  refine enter Tryd.func18 rfl Tryd.ntmps18 rfl (fun a hF => ?_)
  have hW := Stw.start Y w0
  unfold r07_Text at H
  refine c_seq ?_
  refine reg_list ?_
  refine l_box (cs := [.int .i64 p0.1, .int .i64 p0.2.1, .int .i64 p0.2.2.1, .int .i64 p0.2.2.2]) hF hW rfl rfl rfl (fun b1 a w hF hW => ?_)
  refine ls hF hW rfl ((y_assign (v := Value.string (bs ([] : List UInt8))) hF rfl).q) (fun a w hF hW => ?_)
  refine ls_nil ?_
  refine c_then ?_
  refine c_seq ?_
  refine reg_quiet hW MO (by kernel_rfl) ?_
  refine qs hF rfl ((y_indexP (l := [(), (), (), ()]) (i := 0) 0 Ar23 hF rfl rfl rfl rfl rfl).q) (fun a hF => ?_)
  refine qs hF rfl ((y_load (v := Value.int .i64 p0.1) 0 hF rfl rfl T3 rfl).q) (fun a hF => ?_)
  obtain ⟨x1, h1, H⟩ := bindE H
  refine qs hF rfl (y_call (v := Value.string (bs x1)) hF H36 rfl (fun w hW => r07_Digits_c any w p0.1 _ h1)) (fun a hF => ?_)
  obtain ⟨x2, h2, H⟩ := bindE H
  refine qs hF rfl ((y_sadd (l := x1) (m := ([62] : List UInt8)) hF rfl rfl h2).q) (fun a hF => ?_)
  refine qs hF rfl ((y_indexP (l := [(), (), (), ()]) (i := 1) 1 Ar23 hF rfl rfl rfl rfl rfl).q) (fun a hF => ?_)
  refine qs hF rfl ((y_load (v := Value.int .i64 p0.2.1) 0 hF rfl rfl T3 rfl).q) (fun a hF => ?_)
  obtain ⟨x3, h3, H⟩ := bindE H
  refine qs hF rfl (y_call (v := Value.string (bs x3)) hF H36 rfl (fun w hW => r07_Digits_c any w p0.2.1 _ h3)) (fun a hF => ?_)
  obtain ⟨x4, h4, H⟩ := bindE H
  refine qs hF rfl ((y_sadd (l := x2) (m := x3) hF rfl rfl h4).q) (fun a hF => ?_)
  obtain ⟨x5, h5, H⟩ := bindE H
  refine qs hF rfl ((y_sadd (l := x4) (m := ([32] : List UInt8)) hF rfl rfl h5).q) (fun a hF => ?_)
  refine qs hF rfl ((y_indexP (l := [(), (), (), ()]) (i := 2) 2 Ar23 hF rfl rfl rfl rfl rfl).q) (fun a hF => ?_)
  refine qs hF rfl ((y_load (v := Value.int .i64 p0.2.2.1) 0 hF rfl rfl T3 rfl).q) (fun a hF => ?_)
  obtain ⟨x6, h6, H⟩ := bindE H
  refine qs hF rfl (y_call (v := Value.string (bs x6)) hF H36 rfl (fun w hW => r07_Digits_c any w p0.2.2.1 _ h6)) (fun a hF => ?_)
  obtain ⟨x7, h7, H⟩ := bindE H
  refine qs hF rfl ((y_sadd (l := x5) (m := x6) hF rfl rfl h7).q) (fun a hF => ?_)
  obtain ⟨x8, h8, H⟩ := bindE H
  refine qs hF rfl ((y_sadd (l := x7) (m := ([32] : List UInt8)) hF rfl rfl h8).q) (fun a hF => ?_)
  refine qs hF rfl ((y_indexP (l := [(), (), (), ()]) (i := 3) 3 Ar23 hF rfl rfl rfl rfl rfl).q) (fun a hF => ?_)
  refine qs hF rfl ((y_load (v := Value.int .i64 p0.2.2.2) 0 hF rfl rfl T3 rfl).q) (fun a hF => ?_)
  obtain ⟨x9, h9, H⟩ := bindE H
  refine qs hF rfl (y_call (v := Value.string (bs x9)) hF H36 rfl (fun w hW => r07_Digits_c any w p0.2.2.2 _ h9)) (fun a hF => ?_)
  obtain ⟨x10, h10, H⟩ := bindE H
  refine qs hF rfl ((y_sadd (l := x8) (m := x9) hF rfl rfl h10).q) (fun a hF => ?_)
  refine qs hF rfl ((y_assign hF rfl).q) (fun a hF => ?_)
  refine quiet_end (fun w hW => ?_)
  refine c_then ?_
  refine wp_ret ?_
  have H := Option.some.inj H
  subst H
  refine post1 (.inl rfl) hF hW rfl (rv_tmp hF rfl) ?_
  exact ⟨rfl, hW.done⟩

theorem H18 : Has Tryd.prog 18 := ⟨fun args w => run_callFunc_body Tryd.func18 rfl (by decide) args w⟩
theorem ZA23 : ∃ z, (Tryd.prog.info? 23).bind (·.zero) = some z ∧ z.cells = [.int .i64 0, .int .i64 0, .int .i64 0, .int .i64 0].toArray := ⟨.agg #[.int .i64 0, .int .i64 0, .int .i64 0, .int .i64 0], by kernel_rfl, rfl⟩
def packet_separator (p0 : Int) : List UInt8 := (if p0 = 0 then ([62] : List UInt8) else ([32] : List UInt8))
theorem packet_separator_c (Y : Nat → Prop) (w0 : World)  (p0 : Int) (r : List UInt8) (H : packet_separator p0 = r)  :
    Calls Tryd.prog 43 #[.int .i64 p0] w0 fun e w' => e = .returned (.string (bs r)) ∧ Below w0.heap.size w0 w' := by
  refine enter Tryd.func43 rfl Tryd.ntmps43 rfl (fun a hF => ?_)
  have hW := Stw.start Y w0
  unfold packet_separator at H
  refine c_seq ?_
  refine reg_list ?_
  refine ls hF hW rfl ((y_assign (v := Value.string (bs ([] : List UInt8))) hF rfl).q) (fun a w hF hW => ?_)
  refine ls_nil ?_
  refine c_then ?_
  refine c_seq ?_
  refine c_seq ?_
  refine reg_list ?_
  refine ls hF hW rfl ((y_move hF rfl).q) (fun a w hF hW => ?_)
  refine ls hF hW rfl ((y_eql hF rfl rfl).q) (fun a w hF hW => ?_)
  refine ls_nil ?_
  refine c_then ?_
  refine c_cond hF rfl (fun hb => ?_) (fun hb => ?_)
  ·
    have H := iteT (of_decide_eq_true hb) H
    rw [hb] at hF
    clear hb
    refine c_seq ?_
    refine reg_list ?_
    refine ls hF hW rfl ((y_assign (v := Value.string (bs ([62] : List UInt8))) hF rfl).q) (fun a w hF hW => ?_)
    refine ls_nil ?_
    refine c_then ?_
    refine wp_ret ?_
    refine r_then ?_
    subst H
    refine post1 (.inl rfl) hF hW rfl (rv_tmp hF rfl) ?_
    exact ⟨rfl, hW.done⟩
  ·
    have H := iteF (of_decide_eq_false hb) H
    rw [hb] at hF
    clear hb
    refine wp_skip ?_
    refine c_then ?_
    refine c_seq ?_
    refine reg_list ?_
    refine ls hF hW rfl ((y_assign (v := Value.string (bs ([32] : List UInt8))) hF rfl).q) (fun a w hF hW => ?_)
    refine ls_nil ?_
    refine c_then ?_
    refine wp_ret ?_
    subst H
    refine post1 (.inl rfl) hF hW rfl (rv_tmp hF rfl) ?_
    exact ⟨rfl, hW.done⟩

end Go.Proofs.YtcnpjmmeandglaaDoor
