/- The functions of layer 3, lifted. Conditions: none. -/
import Derived.Test.YtfnllhjbbcaomaaA1
namespace Go.Proofs.Ytfnllhjbbcaomaa
open Go Go.RowKit
set_option linter.unusedVariables false
set_option linter.unusedSimpArgs false
set_option maxRecDepth 20000
noncomputable def L03_FloatSums (p0 : List Int) (p1 : Int) : Option Bool := (if 40 < (p0.length : Int) then (L03_awake).bind fun x1 => some x1 else (L03_list p0).bind fun x2 => (float_Sum x2).bind fun x3 => (L03_list p0).bind fun x4 => (app x4 ([(L03_raw p1)] : List Nat)).bind fun x5 => (float_Sum x5).bind fun x6 => (if (bif decide ((p0.length : Int) = 0) then (decide ((float_Bits x3) ≠ 0) || (decide ((r03_Class (float_Bits x3)) = 0) && decide ((r03_Class (float_Bits x6)) ≠ 0))) else (decide ((r03_Class (float_Bits x3)) = 0) && decide ((r03_Class (float_Bits x6)) ≠ 0))) = true then some false else (if (float_Bits x6) = (float_Bits (fadd x3 (L03_raw p1))) then (L03_awake).bind fun x8 => some x8 else some false).bind fun x7 => some x7))
theorem L03_FloatSums_c (Y : Nat → Prop) (w0 : World) (v1 : Value) (p0 : List Int) (p1 : Int) (r : Bool) (H : L03_FloatSums p0 p1 = some r) (h_v1 : Sl w0 (NX []) (Rp.int .u64) v1 p0) :
    Calls Try.prog 8 #[v1, .int .u64 p1] w0 fun e w' => e = .returned (.bool r) ∧ Below w0.heap.size w0 w' := by
  refine enter Try.func8 rfl Try.ntmps8 rfl (fun a hF => ?_)
  have hW := Stw.start Y w0
  unfold L03_FloatSums at H
  refine c_seq ?_
  refine reg_list ?_
  refine ls hF hW rfl ((y_assign hF rfl).q) (fun a w hF hW => ?_)
  refine ls_nil ?_
  refine c_then ?_
  refine c_seq ?_
  refine c_seq ?_
  refine reg_list ?_
  refine ls hF hW rfl ((y_move hF rfl).q) (fun a w hF hW => ?_)
  refine ls hF hW rfl ((y_len (r := (Rp.int .u64)) (l := p0) Try.underlying39 rfl hF rfl (rdc_ro h_v1)).q) (fun a w hF hW => ?_)
  refine ls hF hW rfl ((y_gtr hF rfl rfl).q) (fun a w hF hW => ?_)
  refine ls_nil ?_
  refine c_then ?_
  refine c_cond hF rfl (fun hb => ?_) (fun hb => ?_)
  ·
    have H := iteT (of_decide_eq_true hb) H
    rw [hb] at hF
    clear hb
    refine c_seq ?_
    refine reg_list ?_
    obtain ⟨x1, h1, H⟩ := bindE H
    refine ls hF hW rfl (y_call (v := Value.bool x1) hF H24 rfl (fun w hW => L03_awake_c any w _ h1)) (fun a w hF hW => ?_)
    refine ls hF hW rfl ((y_assign hF rfl).q) (fun a w hF hW => ?_)
    refine ls_nil ?_
    refine c_then ?_
    refine wp_ret ?_
    refine r_then ?_
    have H := Option.some.inj H
    subst H
    refine post1 (.inl rfl) hF hW rfl (rv_tmp hF rfl) ?_
    exact ⟨rfl, hW.done⟩
  ·
    have H := iteF (of_decide_eq_false hb) H
    rw [hb] at hF
    clear hb
    refine wp_skip ?_
    refine c_then ?_
    refine c_seq ?_
    refine reg_list ?_
    refine ls hF hW rfl ((y_move hF rfl).q) (fun a w hF hW => ?_)
    obtain ⟨x2, h2, H⟩ := bindE H
    refine l_callG (Ml := []) (Zl := []) (M := []) (Z := []) (β := Value) (rv := fun x => x) (MM := fun x => []) (ZZ := fun x => [row x 23 (Rp.flt .f64) x2]) hF hW H26 rfl rfl (fun hL => L03_list_c _ w (v1) p0 _ h2 ((rdc_ro h_v1) w hW).nx) (fun x a w hF hW => ?_)
    obtain ⟨v2, rfl⟩ : ∃ y, y = x := ⟨x, rfl⟩
    have hW : Stw ⟨Y, [], w0⟩ [] [row v2 23 (Rp.flt .f64) x2] w := hW
    obtain ⟨x3, h3, H⟩ := bindE H
    refine ls hF hW rfl (y_call (v := Value.float .f64 x3) hF H32 rfl (fun w hW => float_Sum_c any w (v2) x2 _ h3 (((rdc_row 0 rfl) : Rdc _ _ _ _ _ _) w hW).nx)) (fun a w hF hW => ?_)
    refine ls hF hW rfl ((y_assign hF rfl).q) (fun a w hF hW => ?_)
    refine ls_nil ?_
    refine c_then ?_
    refine c_seq ?_
    refine reg_list ?_
    refine ls hF hW rfl ((y_move hF rfl).q) (fun a w hF hW => ?_)
    obtain ⟨x4, h4, H⟩ := bindE H
    refine l_callG (Ml := []) (Zl := []) (M := []) (Z := [row v2 23 (Rp.flt .f64) x2]) (β := Value) (rv := fun x => x) (MM := fun x => []) (ZZ := fun x => [row x 23 (Rp.flt .f64) x4]) hF hW H26 rfl rfl (fun hL => L03_list_c _ w (v1) p0 _ h4 ((rdc_ro h_v1) w hW).nx) (fun x a w hF hW => ?_)
    obtain ⟨v3, rfl⟩ : ∃ y, y = x := ⟨x, rfl⟩
    have hW : Stw ⟨Y, [], w0⟩ [] [row v3 23 (Rp.flt .f64) x4, row v2 23 (Rp.flt .f64) x2] w := hW
    refine ls hF hW rfl ((y_move hF rfl).q) (fun a w hF hW => ?_)
    refine ls hF hW rfl (y_call (v := Value.float .f64 (L03_raw p1)) hF H9 rfl (fun w hW => L03_raw_c any w p1 _ rfl)) (fun a w hF hW => ?_)
    refine l_lit (z := Value.float .f64 0) (cs := [.float .f64 (L03_raw p1)]) (Rp.flt .f64) ([(L03_raw p1)] : List Nat) hF hW rfl L41 Z23 rfl rfl rfl rfl rfl rfl (Fl.flt.repL _ _ ([(L03_raw p1)] : List Nat)) (fun v4 a w hF hW => ?_)
    obtain ⟨x5, h5, H⟩ := bindE H
    refine l_append (r := (Rp.flt .f64)) (i := 1) hF hW rfl L41 rfl rfl rfl rfl (src_row hW 0 rfl) h5 rfl (fun v5 a w hF hW => ?_)
    have hW : Stw ⟨Y, [], w0⟩ [] [row v5 23 (Rp.flt .f64) x5, row v4 23 (Rp.flt .f64) ([(L03_raw p1)] : List Nat), row v2 23 (Rp.flt .f64) x2] w := hW
    obtain ⟨x6, h6, H⟩ := bindE H
    refine ls hF hW rfl (y_call (v := Value.float .f64 x6) hF H32 rfl (fun w hW => float_Sum_c any w (v5) x5 _ h6 (((rdc_row 0 rfl) : Rdc _ _ _ _ _ _) w hW).nx)) (fun a w hF hW => ?_)
    refine ls hF hW rfl ((y_assign hF rfl).q) (fun a w hF hW => ?_)
    refine ls_nil ?_
    refine c_then ?_
    refine c_seq ?_
    refine c_seqJ (fun a w => Fr 52 [] [(1, .int .u64 p1), (4, .bool false), (5, .float .f64 x3), (6, .float .f64 x6), (40, .bool (bif decide ((p0.length : Int) = 0) then (decide ((float_Bits x3) ≠ 0) || (decide ((r03_Class (float_Bits x3)) = 0) && decide ((r03_Class (float_Bits x6)) ≠ 0))) else (decide ((r03_Class (float_Bits x3)) = 0) && decide ((r03_Class (float_Bits x6)) ≠ 0))))] a ∧ Stw ⟨Y, [], w0⟩ [] [row v5 23 (Rp.flt .f64) x5, row v4 23 (Rp.flt .f64) ([(L03_raw p1)] : List Nat), row v2 23 (Rp.flt .f64) x2] w) ?_ ?_
    ·
      refine reg_list ?_
      refine ls hF hW rfl ((y_move hF rfl).q) (fun a w hF hW => ?_)
      refine ls hF hW rfl ((y_len (r := (Rp.int .u64)) (l := p0) Try.underlying39 rfl hF rfl (rdc_ro h_v1)).q) (fun a w hF hW => ?_)
      refine ls hF hW rfl ((y_eql hF rfl rfl).q) (fun a w hF hW => ?_)
      refine ls hF hW rfl ((y_move hF rfl).q) (fun a w hF hW => ?_)
      rcases Bool.eq_false_or_eq_true (decide ((p0.length : Int) = 0)) with hb0 | hb0
      ·
        rw [hb0] at hF
        refine ls_w hF hW (wanted_y hF rfl rfl rfl rfl) rfl (Nat.le_of_ble_eq_true rfl) ((y_move hF rfl).q) (fun a w hF hW => ?_)
        refine ls_g (wanted_y hF rfl rfl rfl rfl) ?_
        refine ls hF hW rfl (y_call (v := Value.int .u64 (float_Bits x3)) hF H12 rfl (fun w hW => float_Bits_c any w x3 _ rfl)) (fun a w hF hW => ?_)
        refine ls_w hF hW (wanted_y hF rfl rfl rfl rfl) rfl (Nat.le_of_ble_eq_true rfl) ((y_neq hF rfl rfl).q) (fun a w hF hW => ?_)
        refine ls hF hW rfl ((y_pick_t hF rfl rfl rfl).q) (fun a w hF hW => ?_)
        refine ls hF hW rfl ((y_move hF rfl).q) (fun a w hF hW => ?_)
        rcases Bool.eq_false_or_eq_true (decide ((float_Bits x3) ≠ 0)) with hb1 | hb1
        ·
          rw [hb1] at hF
          refine ls_skip hF (wanted_n hF rfl rfl rfl rfl rfl) rfl rfl (fun a hF => ?_)
          refine ls_skip hF (wanted_n hF rfl rfl rfl rfl rfl) rfl rfl (fun a hF => ?_)
          refine ls_skip hF (wanted_n hF rfl rfl rfl rfl rfl) rfl rfl (fun a hF => ?_)
          refine ls_skip hF (wanted_n hF rfl rfl rfl rfl rfl) rfl rfl (fun a hF => ?_)
          refine ls_skip hF (wanted_n hF rfl rfl rfl rfl rfl) rfl rfl (fun a hF => ?_)
          refine ls_skip hF (wanted_undef hF rfl rfl rfl rfl) rfl rfl (fun a hF => ?_)
          refine ls_skip hF (wanted_undef hF rfl rfl rfl rfl) rfl rfl (fun a hF => ?_)
          refine ls_skip hF (wanted_undef hF rfl rfl rfl rfl) rfl rfl (fun a hF => ?_)
          refine ls_skip hF (wanted_undef hF rfl rfl rfl rfl) rfl rfl (fun a hF => ?_)
          refine ls_skip hF (wanted_n hF rfl rfl rfl rfl rfl) rfl rfl (fun a hF => ?_)
          refine ls hF hW rfl ((y_pick_t hF rfl rfl rfl).q) (fun a w hF hW => ?_)
          refine ls_nil ?_
          refine c_then ?_
          exact ⟨hF.re ⟨rfl, rfl, rfl, rfl, (by show some (Value.bool true) = some (Value.bool (bif decide ((p0.length : Int) = 0) then (decide ((float_Bits x3) ≠ 0) || (decide ((r03_Class (float_Bits x3)) = 0) && decide ((r03_Class (float_Bits x6)) ≠ 0))) else (decide ((r03_Class (float_Bits x3)) = 0) && decide ((r03_Class (float_Bits x6)) ≠ 0)))); try rw [hb0]; try rw [hb1]; all_goals simp only [Bool.not_true, Bool.not_false, Bool.true_and, Bool.false_and, Bool.true_or, Bool.false_or, Bool.and_true, Bool.or_false, cond_true, cond_false]), trivial⟩, hW⟩
        ·
          rw [hb1] at hF
          refine ls_w hF hW (wanted_y hF rfl rfl rfl rfl) rfl (Nat.le_of_ble_eq_true rfl) ((y_move hF rfl).q) (fun a w hF hW => ?_)
          refine ls_g (wanted_y hF rfl rfl rfl rfl) ?_
          refine ls hF hW rfl (y_call (v := Value.int .u64 (float_Bits x3)) hF H12 rfl (fun w hW => float_Bits_c any w x3 _ rfl)) (fun a w hF hW => ?_)
          refine ls_g (wanted_y hF rfl rfl rfl rfl) ?_
          refine ls hF hW rfl (y_call (v := Value.int .i64 (r03_Class (float_Bits x3))) hF H15 rfl (fun w hW => r03_Class_c any w (float_Bits x3) _ rfl)) (fun a w hF hW => ?_)
          refine ls_w hF hW (wanted_y hF rfl rfl rfl rfl) rfl (Nat.le_of_ble_eq_true rfl) ((y_eql hF rfl rfl).q) (fun a w hF hW => ?_)
          refine ls_w hF hW (wanted_y hF rfl rfl rfl rfl) rfl (Nat.le_of_ble_eq_true rfl) ((y_move hF rfl).q) (fun a w hF hW => ?_)
          rcases Bool.eq_false_or_eq_true (decide ((r03_Class (float_Bits x3)) = 0)) with hb2 | hb2
          ·
            rw [hb2] at hF
            refine ls_w hF hW (wanted_y hF rfl rfl rfl rfl) rfl (Nat.le_of_ble_eq_true rfl) ((y_move hF rfl).q) (fun a w hF hW => ?_)
            refine ls_g (wanted_y hF rfl rfl rfl rfl) ?_
            refine ls hF hW rfl (y_call (v := Value.int .u64 (float_Bits x6)) hF H12 rfl (fun w hW => float_Bits_c any w x6 _ rfl)) (fun a w hF hW => ?_)
            refine ls_g (wanted_y hF rfl rfl rfl rfl) ?_
            refine ls hF hW rfl (y_call (v := Value.int .i64 (r03_Class (float_Bits x6))) hF H15 rfl (fun w hW => r03_Class_c any w (float_Bits x6) _ rfl)) (fun a w hF hW => ?_)
            refine ls_w hF hW (wanted_y hF rfl rfl rfl rfl) rfl (Nat.le_of_ble_eq_true rfl) ((y_neq hF rfl rfl).q) (fun a w hF hW => ?_)
            refine ls_w hF hW (wanted_y hF rfl rfl rfl rfl) rfl (Nat.le_of_ble_eq_true rfl) ((y_pick_t hF rfl rfl rfl).q) (fun a w hF hW => ?_)
            refine ls hF hW rfl ((y_pick_f hF rfl rfl rfl).q) (fun a w hF hW => ?_)
            refine ls_nil ?_
            refine c_then ?_
            exact ⟨hF.re ⟨rfl, rfl, rfl, rfl, (by show some (Value.bool (decide ((r03_Class (float_Bits x6)) ≠ 0))) = some (Value.bool (bif decide ((p0.length : Int) = 0) then (decide ((float_Bits x3) ≠ 0) || (decide ((r03_Class (float_Bits x3)) = 0) && decide ((r03_Class (float_Bits x6)) ≠ 0))) else (decide ((r03_Class (float_Bits x3)) = 0) && decide ((r03_Class (float_Bits x6)) ≠ 0)))); try rw [hb2]; try rw [hb0]; try rw [hb1]; all_goals simp only [Bool.not_true, Bool.not_false, Bool.true_and, Bool.false_and, Bool.true_or, Bool.false_or, Bool.and_true, Bool.or_false, cond_true, cond_false]), trivial⟩, hW⟩
          ·
            rw [hb2] at hF
            refine ls_skip hF (wanted_n hF rfl rfl rfl rfl rfl) rfl rfl (fun a hF => ?_)
            refine ls_skip hF (wanted_n hF rfl rfl rfl rfl rfl) rfl rfl (fun a hF => ?_)
            refine ls_skip hF (wanted_n hF rfl rfl rfl rfl rfl) rfl rfl (fun a hF => ?_)
            refine ls_skip hF (wanted_n hF rfl rfl rfl rfl rfl) rfl rfl (fun a hF => ?_)
            refine ls_w hF hW (wanted_y hF rfl rfl rfl rfl) rfl (Nat.le_of_ble_eq_true rfl) ((y_pick_f hF rfl rfl rfl).q) (fun a w hF hW => ?_)
            refine ls hF hW rfl ((y_pick_f hF rfl rfl rfl).q) (fun a w hF hW => ?_)
            refine ls_nil ?_
            refine c_then ?_
            exact ⟨hF.re ⟨rfl, rfl, rfl, rfl, (by show some (Value.bool false) = some (Value.bool (bif decide ((p0.length : Int) = 0) then (decide ((float_Bits x3) ≠ 0) || (decide ((r03_Class (float_Bits x3)) = 0) && decide ((r03_Class (float_Bits x6)) ≠ 0))) else (decide ((r03_Class (float_Bits x3)) = 0) && decide ((r03_Class (float_Bits x6)) ≠ 0)))); try rw [hb2]; try rw [hb0]; try rw [hb1]; all_goals simp only [Bool.not_true, Bool.not_false, Bool.true_and, Bool.false_and, Bool.true_or, Bool.false_or, Bool.and_true, Bool.or_false, cond_true, cond_false]), trivial⟩, hW⟩
      ·
        rw [hb0] at hF
        refine ls_skip hF (wanted_n hF rfl rfl rfl rfl rfl) rfl rfl (fun a hF => ?_)
        refine ls_skip hF (wanted_n hF rfl rfl rfl rfl rfl) rfl rfl (fun a hF => ?_)
        refine ls_skip hF (wanted_n hF rfl rfl rfl rfl rfl) rfl rfl (fun a hF => ?_)
        refine ls hF hW rfl ((y_pick_f hF rfl rfl rfl).q) (fun a w hF hW => ?_)
        refine ls hF hW rfl ((y_move hF rfl).q) (fun a w hF hW => ?_)
        refine ls_w hF hW (wanted_y hF rfl rfl rfl rfl) rfl (Nat.le_of_ble_eq_true rfl) ((y_move hF rfl).q) (fun a w hF hW => ?_)
        refine ls_g (wanted_y hF rfl rfl rfl rfl) ?_
        refine ls hF hW rfl (y_call (v := Value.int .u64 (float_Bits x3)) hF H12 rfl (fun w hW => float_Bits_c any w x3 _ rfl)) (fun a w hF hW => ?_)
        refine ls_g (wanted_y hF rfl rfl rfl rfl) ?_
        refine ls hF hW rfl (y_call (v := Value.int .i64 (r03_Class (float_Bits x3))) hF H15 rfl (fun w hW => r03_Class_c any w (float_Bits x3) _ rfl)) (fun a w hF hW => ?_)
        refine ls_w hF hW (wanted_y hF rfl rfl rfl rfl) rfl (Nat.le_of_ble_eq_true rfl) ((y_eql hF rfl rfl).q) (fun a w hF hW => ?_)
        refine ls_w hF hW (wanted_y hF rfl rfl rfl rfl) rfl (Nat.le_of_ble_eq_true rfl) ((y_move hF rfl).q) (fun a w hF hW => ?_)
        rcases Bool.eq_false_or_eq_true (decide ((r03_Class (float_Bits x3)) = 0)) with hb1 | hb1
        ·
          rw [hb1] at hF
          refine ls_w hF hW (wanted_y hF rfl rfl rfl rfl) rfl (Nat.le_of_ble_eq_true rfl) ((y_move hF rfl).q) (fun a w hF hW => ?_)
          refine ls_g (wanted_y hF rfl rfl rfl rfl) ?_
          refine ls hF hW rfl (y_call (v := Value.int .u64 (float_Bits x6)) hF H12 rfl (fun w hW => float_Bits_c any w x6 _ rfl)) (fun a w hF hW => ?_)
          refine ls_g (wanted_y hF rfl rfl rfl rfl) ?_
          refine ls hF hW rfl (y_call (v := Value.int .i64 (r03_Class (float_Bits x6))) hF H15 rfl (fun w hW => r03_Class_c any w (float_Bits x6) _ rfl)) (fun a w hF hW => ?_)
          refine ls_w hF hW (wanted_y hF rfl rfl rfl rfl) rfl (Nat.le_of_ble_eq_true rfl) ((y_neq hF rfl rfl).q) (fun a w hF hW => ?_)
          refine ls_w hF hW (wanted_y hF rfl rfl rfl rfl) rfl (Nat.le_of_ble_eq_true rfl) ((y_pick_t hF rfl rfl rfl).q) (fun a w hF hW => ?_)
          refine ls hF hW rfl ((y_pick_f hF rfl rfl rfl).q) (fun a w hF hW => ?_)
          refine ls_nil ?_
          refine c_then ?_
          exact ⟨hF.re ⟨rfl, rfl, rfl, rfl, (by show some (Value.bool (decide ((r03_Class (float_Bits x6)) ≠ 0))) = some (Value.bool (bif decide ((p0.length : Int) = 0) then (decide ((float_Bits x3) ≠ 0) || (decide ((r03_Class (float_Bits x3)) = 0) && decide ((r03_Class (float_Bits x6)) ≠ 0))) else (decide ((r03_Class (float_Bits x3)) = 0) && decide ((r03_Class (float_Bits x6)) ≠ 0)))); try rw [hb1]; try rw [hb0]; all_goals simp only [Bool.not_true, Bool.not_false, Bool.true_and, Bool.false_and, Bool.true_or, Bool.false_or, Bool.and_true, Bool.or_false, cond_true, cond_false]), trivial⟩, hW⟩
        ·
          rw [hb1] at hF
          refine ls_skip hF (wanted_n hF rfl rfl rfl rfl rfl) rfl rfl (fun a hF => ?_)
          refine ls_skip hF (wanted_n hF rfl rfl rfl rfl rfl) rfl rfl (fun a hF => ?_)
          refine ls_skip hF (wanted_n hF rfl rfl rfl rfl rfl) rfl rfl (fun a hF => ?_)
          refine ls_skip hF (wanted_n hF rfl rfl rfl rfl rfl) rfl rfl (fun a hF => ?_)
          refine ls_w hF hW (wanted_y hF rfl rfl rfl rfl) rfl (Nat.le_of_ble_eq_true rfl) ((y_pick_f hF rfl rfl rfl).q) (fun a w hF hW => ?_)
          refine ls hF hW rfl ((y_pick_f hF rfl rfl rfl).q) (fun a w hF hW => ?_)
          refine ls_nil ?_
          refine c_then ?_
          exact ⟨hF.re ⟨rfl, rfl, rfl, rfl, (by show some (Value.bool false) = some (Value.bool (bif decide ((p0.length : Int) = 0) then (decide ((float_Bits x3) ≠ 0) || (decide ((r03_Class (float_Bits x3)) = 0) && decide ((r03_Class (float_Bits x6)) ≠ 0))) else (decide ((r03_Class (float_Bits x3)) = 0) && decide ((r03_Class (float_Bits x6)) ≠ 0)))); try rw [hb1]; try rw [hb0]; all_goals simp only [Bool.not_true, Bool.not_false, Bool.true_and, Bool.false_and, Bool.true_or, Bool.false_or, Bool.and_true, Bool.or_false, cond_true, cond_false]), trivial⟩, hW⟩
    rintro a w ⟨hF, hW⟩
    refine c_cond hF rfl (fun hb => ?_) (fun hb => ?_)
    ·
      have H := iteT hb H
      rw [hb] at hF
      clear hb
      refine c_seq ?_
      refine reg_list ?_
      refine ls hF hW rfl ((y_assign hF rfl).q) (fun a w hF hW => ?_)
      refine ls_nil ?_
      refine c_then ?_
      refine wp_ret ?_
      refine r_then ?_
      have H := Option.some.inj H
      subst H
      refine post1 (.inl rfl) hF hW rfl (rv_tmp hF rfl) ?_
      exact ⟨rfl, hW.done⟩
    ·
      have H := iteF (by rw [hb]; decide) H
      rw [hb] at hF
      clear hb
      refine wp_skip ?_
      refine c_then ?_
      obtain ⟨o1, G1, K1⟩ := bindE H
      refine c_seqJ (fun a w => ∃ x7 : Bool, some (x7) = some o1 ∧ Fr 52 [] [(4, .bool x7)] a ∧ Stw ⟨Y, [], w0⟩ [] [] w) ?_ ?_
      ·
        have H := G1
        clear G1 K1
        refine reg_list ?_
        refine ls hF hW rfl ((y_move hF rfl).q) (fun a w hF hW => ?_)
        refine ls hF hW rfl (y_call (v := Value.int .u64 (float_Bits x6)) hF H12 rfl (fun w hW => float_Bits_c any w x6 _ rfl)) (fun a w hF hW => ?_)
        refine ls hF hW rfl ((y_move hF rfl).q) (fun a w hF hW => ?_)
        refine ls hF hW rfl ((y_move hF rfl).q) (fun a w hF hW => ?_)
        refine ls hF hW rfl (y_call (v := Value.float .f64 (L03_raw p1)) hF H9 rfl (fun w hW => L03_raw_c any w p1 _ rfl)) (fun a w hF hW => ?_)
        refine l_fadd hF hW rfl rfl rfl (fun b1 a w c_b1 hF hW => ?_)
        refine ls hF hW rfl (y_call (v := Value.int .u64 (float_Bits b1)) hF H12 rfl (fun w hW => float_Bits_c any w b1 _ rfl)) (fun a w hF hW => ?_)
        rw [float_Bits_cf c_b1] at hF
        refine ls hF hW rfl ((y_eql hF rfl rfl).q) (fun a w hF hW => ?_)
        refine ls hF hW rfl ((y_move hF rfl).q) (fun a w hF hW => ?_)
        rcases Bool.eq_false_or_eq_true (decide ((float_Bits x6) = (float_Bits (fadd x3 (L03_raw p1))))) with hb | hb
        ·
          have H := iteT (of_decide_eq_true hb) H
          rw [hb] at hF
          clear hb
          refine ls_g (wanted_y hF rfl rfl rfl rfl) ?_
          obtain ⟨x8, h7, H⟩ := bindE H
          refine ls hF hW rfl (y_call (v := Value.bool x8) hF H24 rfl (fun w hW => L03_awake_c any w _ h7)) (fun a w hF hW => ?_)
          refine ls hF hW rfl ((y_pick_t hF rfl rfl rfl).q) (fun a w hF hW => ?_)
          refine ls hF hW rfl ((y_assign hF rfl).q) (fun a w hF hW => ?_)
          refine ls_nil ?_
          refine c_then ?_
          have hW := hW.sub (M' := []) (Z' := []) (List.Sublist.refl _) (List.nil_sublist _)
          exact ⟨_, H, hF.re ⟨rfl, trivial⟩, hW⟩
        ·
          have H := iteF (of_decide_eq_false hb) H
          rw [hb] at hF
          clear hb
          refine ls_skip hF (wanted_n hF rfl rfl rfl rfl rfl) rfl rfl (fun a hF => ?_)
          refine ls hF hW rfl ((y_pick_f hF rfl rfl rfl).q) (fun a w hF hW => ?_)
          refine ls hF hW rfl ((y_assign hF rfl).q) (fun a w hF hW => ?_)
          refine ls_nil ?_
          refine c_then ?_
          have hW := hW.sub (M' := []) (Z' := []) (List.Sublist.refl _) (List.nil_sublist _)
          exact ⟨_, H, hF.re ⟨rfl, trivial⟩, hW⟩
      rintro a w ⟨x7, hj, hF, hW⟩
      have hj := Option.some.inj hj
      subst hj
      have H := K1
      clear G1 K1
      refine wp_ret ?_
      have H := Option.some.inj H
      subst H
      refine post1 (.inl rfl) hF hW rfl (rv_tmp hF rfl) ?_
      exact ⟨rfl, hW.done⟩

noncomputable def L03_FloatCosts (p0 : Int) (p1 : Int) (p2 : Int) : Option Bool := (if (!(r03_Cost p0) || (!(r03_Cost p1) || !(r03_Cost p2))) = true then (L03_awake).bind fun x1 => some x1 else (if (!(float_Cost (float_Plus (L03_raw p0) (L03_raw p1)))) = true then some true else (if (fLt (float_Plus (L03_raw p0) (L03_raw p1)) (L03_raw p0)) = true then some true else (if (fLt (float_Plus (L03_raw p0) (L03_raw p1)) (L03_raw p1)) = true then some true else (float_Class (float_Plus (L03_raw p0) (L03_raw p1))).bind fun x3 => (if x3 = 3 then some true else some (decide ((float_Bits (float_Plus (L03_raw p0) (L03_raw p1))) ≠ (float_Bits (float_Plus (L03_raw p1) (L03_raw p0))))))))).bind fun x2 => (if x2 = true then some false else (if (fGt (L03_raw p1) (L03_raw p2)) = true then (L03_awake).bind fun x5 => some x5 else (if (fLt (float_Plus (L03_raw p0) (L03_raw p1)) (float_Plus (L03_raw p0) (L03_raw p2)) || fEq (float_Plus (L03_raw p0) (L03_raw p1)) (float_Plus (L03_raw p0) (L03_raw p2))) = true then (L03_awake).bind fun x6 => some x6 else some false)).bind fun x4 => some x4))
theorem L03_FloatCosts_c (Y : Nat → Prop) (w0 : World)  (p0 : Int) (p1 : Int) (p2 : Int) (r : Bool) (H : L03_FloatCosts p0 p1 p2 = some r)  :
    Calls Try.prog 7 #[.int .u64 p0, .int .u64 p1, .int .u64 p2] w0 fun e w' => e = .returned (.bool r) ∧ Below w0.heap.size w0 w' := by
  refine enter Try.func7 rfl Try.ntmps7 rfl (fun a hF => ?_)
  have hW := Stw.start Y w0
  unfold L03_FloatCosts at H
  refine c_seq ?_
  refine reg_list ?_
  refine ls hF hW rfl ((y_assign hF rfl).q) (fun a w hF hW => ?_)
  refine ls_nil ?_
  refine c_then ?_
  refine c_seq ?_
  refine reg_list ?_
  refine ls hF hW rfl ((y_move hF rfl).q) (fun a w hF hW => ?_)
  refine ls hF hW rfl (y_call (v := Value.float .f64 (L03_raw p0)) hF H9 rfl (fun w hW => L03_raw_c any w p0 _ rfl)) (fun a w hF hW => ?_)
  refine ls hF hW rfl ((y_move hF rfl).q) (fun a w hF hW => ?_)
  refine ls hF hW rfl (y_call (v := Value.float .f64 (L03_raw p1)) hF H9 rfl (fun w hW => L03_raw_c any w p1 _ rfl)) (fun a w hF hW => ?_)
  refine ls hF hW rfl ((y_move hF rfl).q) (fun a w hF hW => ?_)
  refine ls hF hW rfl (y_call (v := Value.float .f64 (L03_raw p2)) hF H9 rfl (fun w hW => L03_raw_c any w p2 _ rfl)) (fun a w hF hW => ?_)
  refine ls hF hW rfl ((y_assign hF rfl).q) (fun a w hF hW => ?_)
  refine ls hF hW rfl ((y_assign hF rfl).q) (fun a w hF hW => ?_)
  refine ls hF hW rfl ((y_assign hF rfl).q) (fun a w hF hW => ?_)
  refine ls_nil ?_
  refine c_then ?_
  refine c_seq ?_
  refine c_seqJ (fun a w => Fr 74 [] [(6, .bool false), (7, .float .f64 (L03_raw p0)), (8, .float .f64 (L03_raw p1)), (9, .float .f64 (L03_raw p2)), (29, .bool (!(r03_Cost p0) || (!(r03_Cost p1) || !(r03_Cost p2))))] a ∧ Stw ⟨Y, [], w0⟩ [] [] w) ?_ ?_
  ·
    refine reg_list ?_
    refine ls hF hW rfl ((y_move hF rfl).q) (fun a w hF hW => ?_)
    refine ls hF hW rfl (y_call (v := Value.bool (r03_Cost p0)) hF H21 rfl (fun w hW => r03_Cost_c any w p0 _ rfl)) (fun a w hF hW => ?_)
    refine ls hF hW rfl ((y_not hF rfl).q) (fun a w hF hW => ?_)
    refine ls hF hW rfl ((y_move hF rfl).q) (fun a w hF hW => ?_)
    rcases Bool.eq_false_or_eq_true (!(r03_Cost p0)) with hb0 | hb0
    ·
      rw [hb0] at hF
      refine ls_skip hF (wanted_n hF rfl rfl rfl rfl rfl) rfl rfl (fun a hF => ?_)
      refine ls_skip hF (wanted_n hF rfl rfl rfl rfl rfl) rfl rfl (fun a hF => ?_)
      refine ls_skip hF (wanted_n hF rfl rfl rfl rfl rfl) rfl rfl (fun a hF => ?_)
      refine ls hF hW rfl ((y_pick_t hF rfl rfl rfl).q) (fun a w hF hW => ?_)
      refine ls hF hW rfl ((y_move hF rfl).q) (fun a w hF hW => ?_)
      refine ls_skip hF (wanted_n hF rfl rfl rfl rfl rfl) rfl rfl (fun a hF => ?_)
      refine ls_skip hF (wanted_n hF rfl rfl rfl rfl rfl) rfl rfl (fun a hF => ?_)
      refine ls_skip hF (wanted_n hF rfl rfl rfl rfl rfl) rfl rfl (fun a hF => ?_)
      refine ls hF hW rfl ((y_pick_t hF rfl rfl rfl).q) (fun a w hF hW => ?_)
      refine ls_nil ?_
      refine c_then ?_
      exact ⟨hF.re ⟨rfl, rfl, rfl, rfl, (by show some (Value.bool true) = some (Value.bool (!(r03_Cost p0) || (!(r03_Cost p1) || !(r03_Cost p2)))); try rw [hb0]; all_goals simp only [Bool.not_true, Bool.not_false, Bool.true_and, Bool.false_and, Bool.true_or, Bool.false_or, Bool.and_true, Bool.or_false, cond_true, cond_false]), trivial⟩, hW⟩
    ·
      rw [hb0] at hF
      refine ls_w hF hW (wanted_y hF rfl rfl rfl rfl) rfl (Nat.le_of_ble_eq_true rfl) ((y_move hF rfl).q) (fun a w hF hW => ?_)
      refine ls_g (wanted_y hF rfl rfl rfl rfl) ?_
      refine ls hF hW rfl (y_call (v := Value.bool (r03_Cost p1)) hF H21 rfl (fun w hW => r03_Cost_c any w p1 _ rfl)) (fun a w hF hW => ?_)
      refine ls_w hF hW (wanted_y hF rfl rfl rfl rfl) rfl (Nat.le_of_ble_eq_true rfl) ((y_not hF rfl).q) (fun a w hF hW => ?_)
      refine ls hF hW rfl ((y_pick_f hF rfl rfl rfl).q) (fun a w hF hW => ?_)
      refine ls hF hW rfl ((y_move hF rfl).q) (fun a w hF hW => ?_)
      rcases Bool.eq_false_or_eq_true (!(r03_Cost p1)) with hb1 | hb1
      ·
        rw [hb1] at hF
        refine ls_skip hF (wanted_n hF rfl rfl rfl rfl rfl) rfl rfl (fun a hF => ?_)
        refine ls_skip hF (wanted_n hF rfl rfl rfl rfl rfl) rfl rfl (fun a hF => ?_)
        refine ls_skip hF (wanted_n hF rfl rfl rfl rfl rfl) rfl rfl (fun a hF => ?_)
        refine ls hF hW rfl ((y_pick_t hF rfl rfl rfl).q) (fun a w hF hW => ?_)
        refine ls_nil ?_
        refine c_then ?_
        exact ⟨hF.re ⟨rfl, rfl, rfl, rfl, (by show some (Value.bool true) = some (Value.bool (!(r03_Cost p0) || (!(r03_Cost p1) || !(r03_Cost p2)))); try rw [hb0]; try rw [hb1]; all_goals simp only [Bool.not_true, Bool.not_false, Bool.true_and, Bool.false_and, Bool.true_or, Bool.false_or, Bool.and_true, Bool.or_false, cond_true, cond_false]), trivial⟩, hW⟩
      ·
        rw [hb1] at hF
        refine ls_w hF hW (wanted_y hF rfl rfl rfl rfl) rfl (Nat.le_of_ble_eq_true rfl) ((y_move hF rfl).q) (fun a w hF hW => ?_)
        refine ls_g (wanted_y hF rfl rfl rfl rfl) ?_
        refine ls hF hW rfl (y_call (v := Value.bool (r03_Cost p2)) hF H21 rfl (fun w hW => r03_Cost_c any w p2 _ rfl)) (fun a w hF hW => ?_)
        refine ls_w hF hW (wanted_y hF rfl rfl rfl rfl) rfl (Nat.le_of_ble_eq_true rfl) ((y_not hF rfl).q) (fun a w hF hW => ?_)
        refine ls hF hW rfl ((y_pick_f hF rfl rfl rfl).q) (fun a w hF hW => ?_)
        refine ls_nil ?_
        refine c_then ?_
        exact ⟨hF.re ⟨rfl, rfl, rfl, rfl, (by show some (Value.bool (!(r03_Cost p2))) = some (Value.bool (!(r03_Cost p0) || (!(r03_Cost p1) || !(r03_Cost p2)))); try rw [hb0]; try rw [hb1]; all_goals simp only [Bool.not_true, Bool.not_false, Bool.true_and, Bool.false_and, Bool.true_or, Bool.false_or, Bool.and_true, Bool.or_false, cond_true, cond_false]), trivial⟩, hW⟩
  rintro a w ⟨hF, hW⟩
  refine c_cond hF rfl (fun hb => ?_) (fun hb => ?_)
  ·
    have H := iteT hb H
    rw [hb] at hF
    clear hb
    refine c_seq ?_
    refine reg_list ?_
    obtain ⟨x1, h1, H⟩ := bindE H
    refine ls hF hW rfl (y_call (v := Value.bool x1) hF H24 rfl (fun w hW => L03_awake_c any w _ h1)) (fun a w hF hW => ?_)
    refine ls hF hW rfl ((y_assign hF rfl).q) (fun a w hF hW => ?_)
    refine ls_nil ?_
    refine c_then ?_
    refine wp_ret ?_
    refine r_then ?_
    have H := Option.some.inj H
    subst H
    refine post1 (.inl rfl) hF hW rfl (rv_tmp hF rfl) ?_
    exact ⟨rfl, hW.done⟩
  ·
    have H := iteF (by rw [hb]; decide) H
    rw [hb] at hF
    clear hb
    refine wp_skip ?_
    refine c_then ?_
    refine c_seq ?_
    refine reg_list ?_
    refine ls hF hW rfl ((y_move hF rfl).q) (fun a w hF hW => ?_)
    refine ls hF hW rfl ((y_move hF rfl).q) (fun a w hF hW => ?_)
    refine ls hF hW rfl (y_call (v := Value.float .f64 (float_Plus (L03_raw p0) (L03_raw p1))) hF H13 rfl (fun w hW => float_Plus_c any w (L03_raw p0) (L03_raw p1) _ rfl)) (fun a w hF hW => ?_)
    refine ls hF hW rfl ((y_assign hF rfl).q) (fun a w hF hW => ?_)
    refine ls_nil ?_
    refine c_then ?_
    refine c_seq ?_
    obtain ⟨o1, G1, K1⟩ := bindE H
    refine c_seqJ (fun a w => ∃ x2 : Bool, some (x2) = some o1 ∧ Fr 74 [] [(6, .bool false), (7, .float .f64 (L03_raw p0)), (8, .float .f64 (L03_raw p1)), (9, .float .f64 (L03_raw p2)), (10, .float .f64 (float_Plus (L03_raw p0) (L03_raw p1))), (60, .bool x2)] a ∧ Stw ⟨Y, [], w0⟩ [] [] w) ?_ ?_
    ·
      have H := G1
      clear G1 K1
      refine reg_list ?_
      refine ls hF hW rfl ((y_move hF rfl).q) (fun a w hF hW => ?_)
      refine ls hF hW rfl (y_call (v := Value.bool (float_Cost (float_Plus (L03_raw p0) (L03_raw p1)))) hF H20 rfl (fun w hW => float_Cost_c any w (float_Plus (L03_raw p0) (L03_raw p1)) _ rfl)) (fun a w hF hW => ?_)
      refine ls hF hW rfl ((y_not hF rfl).q) (fun a w hF hW => ?_)
      refine ls hF hW rfl ((y_move hF rfl).q) (fun a w hF hW => ?_)
      rcases Bool.eq_false_or_eq_true (!(float_Cost (float_Plus (L03_raw p0) (L03_raw p1)))) with hb | hb
      ·
        have H := iteT hb H
        rw [hb] at hF
        clear hb
        refine ls_skip hF (wanted_n hF rfl rfl rfl rfl rfl) rfl rfl (fun a hF => ?_)
        refine ls_skip hF (wanted_n hF rfl rfl rfl rfl rfl) rfl rfl (fun a hF => ?_)
        refine ls_skip hF (wanted_n hF rfl rfl rfl rfl rfl) rfl rfl (fun a hF => ?_)
        refine ls hF hW rfl ((y_pick_t hF rfl rfl rfl).q) (fun a w hF hW => ?_)
        refine ls hF hW rfl ((y_move hF rfl).q) (fun a w hF hW => ?_)
        refine ls_skip hF (wanted_n hF rfl rfl rfl rfl rfl) rfl rfl (fun a hF => ?_)
        refine ls_skip hF (wanted_n hF rfl rfl rfl rfl rfl) rfl rfl (fun a hF => ?_)
        refine ls_skip hF (wanted_n hF rfl rfl rfl rfl rfl) rfl rfl (fun a hF => ?_)
        refine ls hF hW rfl ((y_pick_t hF rfl rfl rfl).q) (fun a w hF hW => ?_)
        refine ls hF hW rfl ((y_move hF rfl).q) (fun a w hF hW => ?_)
        refine ls_skip hF (wanted_n hF rfl rfl rfl rfl rfl) rfl rfl (fun a hF => ?_)
        refine ls_skip hF (wanted_n hF rfl rfl rfl rfl rfl) rfl rfl (fun a hF => ?_)
        refine ls_skip hF (wanted_n hF rfl rfl rfl rfl rfl) rfl rfl (fun a hF => ?_)
        refine ls hF hW rfl ((y_pick_t hF rfl rfl rfl).q) (fun a w hF hW => ?_)
        refine ls hF hW rfl ((y_move hF rfl).q) (fun a w hF hW => ?_)
        refine ls_skip hF (wanted_n hF rfl rfl rfl rfl rfl) rfl rfl (fun a hF => ?_)
        refine ls_skip hF (wanted_n hF rfl rfl rfl rfl rfl) rfl rfl (fun a hF => ?_)
        refine ls_skip hF (wanted_n hF rfl rfl rfl rfl rfl) rfl rfl (fun a hF => ?_)
        refine ls_skip hF (wanted_n hF rfl rfl rfl rfl rfl) rfl rfl (fun a hF => ?_)
        refine ls_skip hF (wanted_n hF rfl rfl rfl rfl rfl) rfl rfl (fun a hF => ?_)
        refine ls_skip hF (wanted_n hF rfl rfl rfl rfl rfl) rfl rfl (fun a hF => ?_)
        refine ls_skip hF (wanted_n hF rfl rfl rfl rfl rfl) rfl rfl (fun a hF => ?_)
        refine ls hF hW rfl ((y_pick_t hF rfl rfl rfl).q) (fun a w hF hW => ?_)
        refine ls_nil ?_
        refine c_then ?_
        exact ⟨_, H, hF.re ⟨rfl, rfl, rfl, rfl, rfl, rfl, trivial⟩, hW⟩
      ·
        have H := iteF (by rw [hb]; decide) H
        rw [hb] at hF
        clear hb
        refine ls_w hF hW (wanted_y hF rfl rfl rfl rfl) rfl (Nat.le_of_ble_eq_true rfl) ((y_move hF rfl).q) (fun a w hF hW => ?_)
        refine ls_w hF hW (wanted_y hF rfl rfl rfl rfl) rfl (Nat.le_of_ble_eq_true rfl) ((y_move hF rfl).q) (fun a w hF hW => ?_)
        refine ls_w hF hW (wanted_y hF rfl rfl rfl rfl) rfl (Nat.le_of_ble_eq_true rfl) ((y_flss hF rfl rfl).q) (fun a w hF hW => ?_)
        refine ls hF hW rfl ((y_pick_f hF rfl rfl rfl).q) (fun a w hF hW => ?_)
        refine ls hF hW rfl ((y_move hF rfl).q) (fun a w hF hW => ?_)
        rcases Bool.eq_false_or_eq_true (fLt (float_Plus (L03_raw p0) (L03_raw p1)) (L03_raw p0)) with hb | hb
        ·
          have H := iteT hb H
          rw [hb] at hF
          clear hb
          refine ls_skip hF (wanted_n hF rfl rfl rfl rfl rfl) rfl rfl (fun a hF => ?_)
          refine ls_skip hF (wanted_n hF rfl rfl rfl rfl rfl) rfl rfl (fun a hF => ?_)
          refine ls_skip hF (wanted_n hF rfl rfl rfl rfl rfl) rfl rfl (fun a hF => ?_)
          refine ls hF hW rfl ((y_pick_t hF rfl rfl rfl).q) (fun a w hF hW => ?_)
          refine ls hF hW rfl ((y_move hF rfl).q) (fun a w hF hW => ?_)
          refine ls_skip hF (wanted_n hF rfl rfl rfl rfl rfl) rfl rfl (fun a hF => ?_)
          refine ls_skip hF (wanted_n hF rfl rfl rfl rfl rfl) rfl rfl (fun a hF => ?_)
          refine ls_skip hF (wanted_n hF rfl rfl rfl rfl rfl) rfl rfl (fun a hF => ?_)
          refine ls hF hW rfl ((y_pick_t hF rfl rfl rfl).q) (fun a w hF hW => ?_)
          refine ls hF hW rfl ((y_move hF rfl).q) (fun a w hF hW => ?_)
          refine ls_skip hF (wanted_n hF rfl rfl rfl rfl rfl) rfl rfl (fun a hF => ?_)
          refine ls_skip hF (wanted_n hF rfl rfl rfl rfl rfl) rfl rfl (fun a hF => ?_)
          refine ls_skip hF (wanted_n hF rfl rfl rfl rfl rfl) rfl rfl (fun a hF => ?_)
          refine ls_skip hF (wanted_n hF rfl rfl rfl rfl rfl) rfl rfl (fun a hF => ?_)
          refine ls_skip hF (wanted_n hF rfl rfl rfl rfl rfl) rfl rfl (fun a hF => ?_)
          refine ls_skip hF (wanted_n hF rfl rfl rfl rfl rfl) rfl rfl (fun a hF => ?_)
          refine ls_skip hF (wanted_n hF rfl rfl rfl rfl rfl) rfl rfl (fun a hF => ?_)
          refine ls hF hW rfl ((y_pick_t hF rfl rfl rfl).q) (fun a w hF hW => ?_)
          refine ls_nil ?_
          refine c_then ?_
          exact ⟨_, H, hF.re ⟨rfl, rfl, rfl, rfl, rfl, rfl, trivial⟩, hW⟩
        ·
          have H := iteF (by rw [hb]; decide) H
          rw [hb] at hF
          clear hb
          refine ls_w hF hW (wanted_y hF rfl rfl rfl rfl) rfl (Nat.le_of_ble_eq_true rfl) ((y_move hF rfl).q) (fun a w hF hW => ?_)
          refine ls_w hF hW (wanted_y hF rfl rfl rfl rfl) rfl (Nat.le_of_ble_eq_true rfl) ((y_move hF rfl).q) (fun a w hF hW => ?_)
          refine ls_w hF hW (wanted_y hF rfl rfl rfl rfl) rfl (Nat.le_of_ble_eq_true rfl) ((y_flss hF rfl rfl).q) (fun a w hF hW => ?_)
          refine ls hF hW rfl ((y_pick_f hF rfl rfl rfl).q) (fun a w hF hW => ?_)
          refine ls hF hW rfl ((y_move hF rfl).q) (fun a w hF hW => ?_)
          rcases Bool.eq_false_or_eq_true (fLt (float_Plus (L03_raw p0) (L03_raw p1)) (L03_raw p1)) with hb | hb
          ·
            have H := iteT hb H
            rw [hb] at hF
            clear hb
            refine ls_skip hF (wanted_n hF rfl rfl rfl rfl rfl) rfl rfl (fun a hF => ?_)
            refine ls_skip hF (wanted_n hF rfl rfl rfl rfl rfl) rfl rfl (fun a hF => ?_)
            refine ls_skip hF (wanted_n hF rfl rfl rfl rfl rfl) rfl rfl (fun a hF => ?_)
            refine ls hF hW rfl ((y_pick_t hF rfl rfl rfl).q) (fun a w hF hW => ?_)
            refine ls hF hW rfl ((y_move hF rfl).q) (fun a w hF hW => ?_)
            refine ls_skip hF (wanted_n hF rfl rfl rfl rfl rfl) rfl rfl (fun a hF => ?_)
            refine ls_skip hF (wanted_n hF rfl rfl rfl rfl rfl) rfl rfl (fun a hF => ?_)
            refine ls_skip hF (wanted_n hF rfl rfl rfl rfl rfl) rfl rfl (fun a hF => ?_)
            refine ls_skip hF (wanted_n hF rfl rfl rfl rfl rfl) rfl rfl (fun a hF => ?_)
            refine ls_skip hF (wanted_n hF rfl rfl rfl rfl rfl) rfl rfl (fun a hF => ?_)
            refine ls_skip hF (wanted_n hF rfl rfl rfl rfl rfl) rfl rfl (fun a hF => ?_)
            refine ls_skip hF (wanted_n hF rfl rfl rfl rfl rfl) rfl rfl (fun a hF => ?_)
            refine ls hF hW rfl ((y_pick_t hF rfl rfl rfl).q) (fun a w hF hW => ?_)
            refine ls_nil ?_
            refine c_then ?_
            exact ⟨_, H, hF.re ⟨rfl, rfl, rfl, rfl, rfl, rfl, trivial⟩, hW⟩
          ·
            have H := iteF (by rw [hb]; decide) H
            rw [hb] at hF
            clear hb
            refine ls_w hF hW (wanted_y hF rfl rfl rfl rfl) rfl (Nat.le_of_ble_eq_true rfl) ((y_move hF rfl).q) (fun a w hF hW => ?_)
            refine ls_g (wanted_y hF rfl rfl rfl rfl) ?_
            obtain ⟨x3, h2, H⟩ := bindE H
            refine ls hF hW rfl (y_call (v := Value.int .i64 x3) hF H14 rfl (fun w hW => float_Class_c any w (float_Plus (L03_raw p0) (L03_raw p1)) _ h2)) (fun a w hF hW => ?_)
            refine ls_w hF hW (wanted_y hF rfl rfl rfl rfl) rfl (Nat.le_of_ble_eq_true rfl) ((y_eql hF rfl rfl).q) (fun a w hF hW => ?_)
            refine ls hF hW rfl ((y_pick_f hF rfl rfl rfl).q) (fun a w hF hW => ?_)
            refine ls hF hW rfl ((y_move hF rfl).q) (fun a w hF hW => ?_)
            rcases Bool.eq_false_or_eq_true (decide (x3 = 3)) with hb | hb
            ·
              have H := iteT (of_decide_eq_true hb) H
              rw [hb] at hF
              clear hb
              refine ls_skip hF (wanted_n hF rfl rfl rfl rfl rfl) rfl rfl (fun a hF => ?_)
              refine ls_skip hF (wanted_n hF rfl rfl rfl rfl rfl) rfl rfl (fun a hF => ?_)
              refine ls_skip hF (wanted_n hF rfl rfl rfl rfl rfl) rfl rfl (fun a hF => ?_)
              refine ls_skip hF (wanted_n hF rfl rfl rfl rfl rfl) rfl rfl (fun a hF => ?_)
              refine ls_skip hF (wanted_n hF rfl rfl rfl rfl rfl) rfl rfl (fun a hF => ?_)
              refine ls_skip hF (wanted_n hF rfl rfl rfl rfl rfl) rfl rfl (fun a hF => ?_)
              refine ls_skip hF (wanted_n hF rfl rfl rfl rfl rfl) rfl rfl (fun a hF => ?_)
              refine ls hF hW rfl ((y_pick_t hF rfl rfl rfl).q) (fun a w hF hW => ?_)
              refine ls_nil ?_
              refine c_then ?_
              exact ⟨_, H, hF.re ⟨rfl, rfl, rfl, rfl, rfl, rfl, trivial⟩, hW⟩
            ·
              have H := iteF (of_decide_eq_false hb) H
              rw [hb] at hF
              clear hb
              refine ls_w hF hW (wanted_y hF rfl rfl rfl rfl) rfl (Nat.le_of_ble_eq_true rfl) ((y_move hF rfl).q) (fun a w hF hW => ?_)
              refine ls_g (wanted_y hF rfl rfl rfl rfl) ?_
              refine ls hF hW rfl (y_call (v := Value.int .u64 (float_Bits (float_Plus (L03_raw p0) (L03_raw p1)))) hF H12 rfl (fun w hW => float_Bits_c any w (float_Plus (L03_raw p0) (L03_raw p1)) _ rfl)) (fun a w hF hW => ?_)
              refine ls_w hF hW (wanted_y hF rfl rfl rfl rfl) rfl (Nat.le_of_ble_eq_true rfl) ((y_move hF rfl).q) (fun a w hF hW => ?_)
              refine ls_w hF hW (wanted_y hF rfl rfl rfl rfl) rfl (Nat.le_of_ble_eq_true rfl) ((y_move hF rfl).q) (fun a w hF hW => ?_)
              refine ls_g (wanted_y hF rfl rfl rfl rfl) ?_
              refine ls hF hW rfl (y_call (v := Value.float .f64 (float_Plus (L03_raw p1) (L03_raw p0))) hF H13 rfl (fun w hW => float_Plus_c any w (L03_raw p1) (L03_raw p0) _ rfl)) (fun a w hF hW => ?_)
              refine ls_g (wanted_y hF rfl rfl rfl rfl) ?_
              refine ls hF hW rfl (y_call (v := Value.int .u64 (float_Bits (float_Plus (L03_raw p1) (L03_raw p0)))) hF H12 rfl (fun w hW => float_Bits_c any w (float_Plus (L03_raw p1) (L03_raw p0)) _ rfl)) (fun a w hF hW => ?_)
              refine ls_w hF hW (wanted_y hF rfl rfl rfl rfl) rfl (Nat.le_of_ble_eq_true rfl) ((y_neq hF rfl rfl).q) (fun a w hF hW => ?_)
              refine ls hF hW rfl ((y_pick_f hF rfl rfl rfl).q) (fun a w hF hW => ?_)
              refine ls_nil ?_
              refine c_then ?_
              exact ⟨_, H, hF.re ⟨rfl, rfl, rfl, rfl, rfl, rfl, trivial⟩, hW⟩
    rintro a w ⟨x2, hj, hF, hW⟩
    have hj := Option.some.inj hj
    subst hj
    have H := K1
    clear G1 K1
    refine c_cond hF rfl (fun hb => ?_) (fun hb => ?_)
    ·
      have H := iteT hb H
      rw [hb] at hF
      clear hb
      refine c_seq ?_
      refine reg_list ?_
      refine ls hF hW rfl ((y_assign hF rfl).q) (fun a w hF hW => ?_)
      refine ls_nil ?_
      refine c_then ?_
      refine wp_ret ?_
      refine r_then ?_
      have H := Option.some.inj H
      subst H
      refine post1 (.inl rfl) hF hW rfl (rv_tmp hF rfl) ?_
      exact ⟨rfl, hW.done⟩
    ·
      have H := iteF (by rw [hb]; decide) H
      rw [hb] at hF
      clear hb
      refine wp_skip ?_
      refine c_then ?_
      obtain ⟨o2, G2, K2⟩ := bindE H
      refine c_seqJ (fun a w => ∃ x4 : Bool, some (x4) = some o2 ∧ Fr 74 [] [(6, .bool x4)] a ∧ Stw ⟨Y, [], w0⟩ [] [] w) ?_ ?_
      ·
        have H := G2
        clear G2 K2
        refine reg_list ?_
        refine ls hF hW rfl ((y_move hF rfl).q) (fun a w hF hW => ?_)
        refine ls hF hW rfl ((y_move hF rfl).q) (fun a w hF hW => ?_)
        refine ls hF hW rfl ((y_fgtr hF rfl rfl).q) (fun a w hF hW => ?_)
        refine ls hF hW rfl ((y_move hF rfl).q) (fun a w hF hW => ?_)
        rcases Bool.eq_false_or_eq_true (fGt (L03_raw p1) (L03_raw p2)) with hb | hb
        ·
          have H := iteT hb H
          rw [hb] at hF
          clear hb
          refine ls_skip hF (wanted_n hF rfl rfl rfl rfl rfl) rfl rfl (fun a hF => ?_)
          refine ls_skip hF (wanted_n hF rfl rfl rfl rfl rfl) rfl rfl (fun a hF => ?_)
          refine ls_skip hF (wanted_n hF rfl rfl rfl rfl rfl) rfl rfl (fun a hF => ?_)
          refine ls_skip hF (wanted_n hF rfl rfl rfl rfl rfl) rfl rfl (fun a hF => ?_)
          refine ls_skip hF (wanted_n hF rfl rfl rfl rfl rfl) rfl rfl (fun a hF => ?_)
          refine ls hF hW rfl ((y_pick_t hF rfl rfl rfl).q) (fun a w hF hW => ?_)
          refine ls hF hW rfl ((y_move hF rfl).q) (fun a w hF hW => ?_)
          refine ls_g (wanted_y hF rfl rfl rfl rfl) ?_
          obtain ⟨x5, h3, H⟩ := bindE H
          refine ls hF hW rfl (y_call (v := Value.bool x5) hF H24 rfl (fun w hW => L03_awake_c any w _ h3)) (fun a w hF hW => ?_)
          refine ls hF hW rfl ((y_pick_t hF rfl rfl rfl).q) (fun a w hF hW => ?_)
          refine ls hF hW rfl ((y_assign hF rfl).q) (fun a w hF hW => ?_)
          refine ls_nil ?_
          refine c_then ?_
          exact ⟨_, H, hF.re ⟨rfl, trivial⟩, hW⟩
        ·
          have H := iteF (by rw [hb]; decide) H
          rw [hb] at hF
          clear hb
          refine ls_w hF hW (wanted_y hF rfl rfl rfl rfl) rfl (Nat.le_of_ble_eq_true rfl) ((y_move hF rfl).q) (fun a w hF hW => ?_)
          refine ls_w hF hW (wanted_y hF rfl rfl rfl rfl) rfl (Nat.le_of_ble_eq_true rfl) ((y_move hF rfl).q) (fun a w hF hW => ?_)
          refine ls_w hF hW (wanted_y hF rfl rfl rfl rfl) rfl (Nat.le_of_ble_eq_true rfl) ((y_move hF rfl).q) (fun a w hF hW => ?_)
          refine ls_g (wanted_y hF rfl rfl rfl rfl) ?_
          refine ls hF hW rfl (y_call (v := Value.float .f64 (float_Plus (L03_raw p0) (L03_raw p2))) hF H13 rfl (fun w hW => float_Plus_c any w (L03_raw p0) (L03_raw p2) _ rfl)) (fun a w hF hW => ?_)
          refine ls_w hF hW (wanted_y hF rfl rfl rfl rfl) rfl (Nat.le_of_ble_eq_true rfl) ((y_fleq hF rfl rfl).q) (fun a w hF hW => ?_)
          refine ls hF hW rfl ((y_pick_f hF rfl rfl rfl).q) (fun a w hF hW => ?_)
          refine ls hF hW rfl ((y_move hF rfl).q) (fun a w hF hW => ?_)
          rcases Bool.eq_false_or_eq_true (fLt (float_Plus (L03_raw p0) (L03_raw p1)) (float_Plus (L03_raw p0) (L03_raw p2)) || fEq (float_Plus (L03_raw p0) (L03_raw p1)) (float_Plus (L03_raw p0) (L03_raw p2))) with hb | hb
          ·
            have H := iteT hb H
            rw [hb] at hF
            clear hb
            refine ls_g (wanted_y hF rfl rfl rfl rfl) ?_
            obtain ⟨x6, h4, H⟩ := bindE H
            refine ls hF hW rfl (y_call (v := Value.bool x6) hF H24 rfl (fun w hW => L03_awake_c any w _ h4)) (fun a w hF hW => ?_)
            refine ls hF hW rfl ((y_pick_t hF rfl rfl rfl).q) (fun a w hF hW => ?_)
            refine ls hF hW rfl ((y_assign hF rfl).q) (fun a w hF hW => ?_)
            refine ls_nil ?_
            refine c_then ?_
            exact ⟨_, H, hF.re ⟨rfl, trivial⟩, hW⟩
          ·
            have H := iteF (by rw [hb]; decide) H
            rw [hb] at hF
            clear hb
            refine ls_skip hF (wanted_n hF rfl rfl rfl rfl rfl) rfl rfl (fun a hF => ?_)
            refine ls hF hW rfl ((y_pick_f hF rfl rfl rfl).q) (fun a w hF hW => ?_)
            refine ls hF hW rfl ((y_assign hF rfl).q) (fun a w hF hW => ?_)
            refine ls_nil ?_
            refine c_then ?_
            exact ⟨_, H, hF.re ⟨rfl, trivial⟩, hW⟩
      rintro a w ⟨x4, hj, hF, hW⟩
      have hj := Option.some.inj hj
      subst hj
      have H := K2
      clear G2 K2
      refine wp_ret ?_
      have H := Option.some.inj H
      subst H
      refine post1 (.inl rfl) hF hW rfl (rv_tmp hF rfl) ?_
      exact ⟨rfl, hW.done⟩

end Go.Proofs.Ytfnllhjbbcaomaa
