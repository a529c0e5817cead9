/- The functions of layer 10, lifted. Conditions: none. -/
import Derived.Test.YteeioghoidjbpaaDoorA3
namespace Go.Proofs.YteeioghoidjbpaaDoor
open Go Go.RowKit
set_option linter.unusedVariables false
set_option linter.unusedSimpArgs false
set_option maxRecDepth 20000
theorem H17 : Has Tryd.prog 17 := ⟨fun args w => run_callFunc_body Tryd.func17 rfl (by decide) args w⟩
noncomputable def r04_Num_l1 (p1 : Int) : (Int × List UInt8 × Int) → Option ((Int × List UInt8 × Int) ⊕ (Int × List UInt8))
  | (x3, x4, x5) => (if x5 < p1 then (app (strOf ([IntKind.u8.wrap (Int.tmod x3 256)] : List Int)) x4).bind fun x6 => some (.inl (w64 (Int.tdiv x3 256), x6, w64 (x5 + 1))) else some (.inr (x3, x4)))
noncomputable def r04_Num (p0 : Int) (p1 : Int) : Option (List UInt8) := (if (decide (p1 < 1) || (decide (7 < p1) || decide (p0 < 0))) = true then some ([] : List UInt8) else (loopW (r04_Num_l1 p1) (p0, ([] : List UInt8), 0)).bind fun (x1, x2) => (if x1 ≠ 0 then some ([] : List UInt8) else some x2))
theorem r04_Num_c (Y : Nat → Prop) (w0 : World)  (p0 : Int) (p1 : Int) (r : List UInt8) (H : r04_Num p0 p1 = some r)  :
    Calls Tryd.prog 43 #[.int .i64 p0, .int .i64 p1] w0 fun e w' => e = .returned (.string (bs r)) ∧ Below w0.heap.size w0 w' := by
  refine enter Tryd.func43 rfl Tryd.ntmps43 rfl (fun a hF => ?_)
  have hW := Stw.start Y w0
  unfold r04_Num at H
  refine c_seq ?_
  refine reg_list ?_
  refine ls hF hW rfl ((y_assign (v := Value.string (bs ([] : List UInt8))) hF rfl).q) (fun a w hF hW => ?_)
  refine ls_nil ?_
  refine c_then ?_
  refine c_seq ?_
  refine c_seqJ (fun a w => Fr 34 [] [(0, .int .i64 p0), (1, .int .i64 p1), (4, .string (bs ([] : List UInt8))), (16, .bool (decide (p1 < 1) || (decide (7 < p1) || decide (p0 < 0))))] a ∧ Stw ⟨Y, [], w0⟩ [] [] w) ?_ ?_
  ·
    refine reg_list ?_
    refine ls hF hW rfl ((y_move hF rfl).q) (fun a w hF hW => ?_)
    refine ls hF hW rfl ((y_lss hF rfl rfl).q) (fun a w hF hW => ?_)
    refine ls hF hW rfl ((y_move hF rfl).q) (fun a w hF hW => ?_)
    rcases Bool.eq_false_or_eq_true (decide (p1 < 1)) with hb0 | hb0
    ·
      rw [hb0] at hF
      refine ls_skip hF (wanted_n hF rfl rfl rfl rfl rfl) rfl rfl (fun a hF => ?_)
      refine ls_skip hF (wanted_n hF rfl rfl rfl rfl rfl) rfl rfl (fun a hF => ?_)
      refine ls hF hW rfl ((y_pick_t hF rfl rfl rfl).q) (fun a w hF hW => ?_)
      refine ls hF hW rfl ((y_move hF rfl).q) (fun a w hF hW => ?_)
      refine ls_skip hF (wanted_n hF rfl rfl rfl rfl rfl) rfl rfl (fun a hF => ?_)
      refine ls_skip hF (wanted_n hF rfl rfl rfl rfl rfl) rfl rfl (fun a hF => ?_)
      refine ls hF hW rfl ((y_pick_t hF rfl rfl rfl).q) (fun a w hF hW => ?_)
      refine ls_nil ?_
      refine c_then ?_
      exact ⟨hF.re ⟨rfl, rfl, rfl, (by show some (Value.bool true) = some (Value.bool (decide (p1 < 1) || (decide (7 < p1) || decide (p0 < 0)))); try rw [hb0]; all_goals simp only [Bool.not_true, Bool.not_false, Bool.true_and, Bool.false_and, Bool.true_or, Bool.false_or, Bool.and_true, Bool.or_false, cond_true, cond_false]), trivial⟩, hW⟩
    ·
      rw [hb0] at hF
      refine ls_w hF hW (wanted_y hF rfl rfl rfl rfl) rfl (Nat.le_of_ble_eq_true rfl) ((y_move hF rfl).q) (fun a w hF hW => ?_)
      refine ls_w hF hW (wanted_y hF rfl rfl rfl rfl) rfl (Nat.le_of_ble_eq_true rfl) ((y_gtr hF rfl rfl).q) (fun a w hF hW => ?_)
      refine ls hF hW rfl ((y_pick_f hF rfl rfl rfl).q) (fun a w hF hW => ?_)
      refine ls hF hW rfl ((y_move hF rfl).q) (fun a w hF hW => ?_)
      rcases Bool.eq_false_or_eq_true (decide (7 < p1)) with hb1 | hb1
      ·
        rw [hb1] at hF
        refine ls_skip hF (wanted_n hF rfl rfl rfl rfl rfl) rfl rfl (fun a hF => ?_)
        refine ls_skip hF (wanted_n hF rfl rfl rfl rfl rfl) rfl rfl (fun a hF => ?_)
        refine ls hF hW rfl ((y_pick_t hF rfl rfl rfl).q) (fun a w hF hW => ?_)
        refine ls_nil ?_
        refine c_then ?_
        exact ⟨hF.re ⟨rfl, rfl, rfl, (by show some (Value.bool true) = some (Value.bool (decide (p1 < 1) || (decide (7 < p1) || decide (p0 < 0)))); try rw [hb0]; try rw [hb1]; all_goals simp only [Bool.not_true, Bool.not_false, Bool.true_and, Bool.false_and, Bool.true_or, Bool.false_or, Bool.and_true, Bool.or_false, cond_true, cond_false]), trivial⟩, hW⟩
      ·
        rw [hb1] at hF
        refine ls_w hF hW (wanted_y hF rfl rfl rfl rfl) rfl (Nat.le_of_ble_eq_true rfl) ((y_move hF rfl).q) (fun a w hF hW => ?_)
        refine ls_w hF hW (wanted_y hF rfl rfl rfl rfl) rfl (Nat.le_of_ble_eq_true rfl) ((y_lss hF rfl rfl).q) (fun a w hF hW => ?_)
        refine ls hF hW rfl ((y_pick_f hF rfl rfl rfl).q) (fun a w hF hW => ?_)
        refine ls_nil ?_
        refine c_then ?_
        exact ⟨hF.re ⟨rfl, rfl, rfl, (by show some (Value.bool (decide (p0 < 0))) = some (Value.bool (decide (p1 < 1) || (decide (7 < p1) || decide (p0 < 0)))); try rw [hb0]; try rw [hb1]; all_goals simp only [Bool.not_true, Bool.not_false, Bool.true_and, Bool.false_and, Bool.true_or, Bool.false_or, Bool.and_true, Bool.or_false, cond_true, cond_false]), trivial⟩, hW⟩
  rintro a w ⟨hF, hW⟩
  refine c_cond hF rfl (fun hb => ?_) (fun hb => ?_)
  ·
    have H := iteT hb H
    rw [hb] at hF
    clear hb
    refine c_seq ?_
    refine reg_list ?_
    refine ls hF hW rfl ((y_assign (v := Value.string (bs ([] : List UInt8))) hF rfl).q) (fun a w hF hW => ?_)
    refine ls_nil ?_
    refine c_then ?_
    refine wp_ret ?_
    refine r_then ?_
    have H := Option.some.inj H
    subst H
    refine post1 (.inl rfl) hF hW rfl (rv_tmp hF rfl) ?_
    exact ⟨rfl, hW.done⟩
  ·
    have H := iteF (by rw [hb]; decide) H
    rw [hb] at hF
    clear hb
    refine wp_skip ?_
    refine c_then ?_
    refine c_seq ?_
    refine reg_list ?_
    refine ls hF hW rfl ((y_assign (v := Value.string (bs ([] : List UInt8))) hF rfl).q) (fun a w hF hW => ?_)
    refine ls_nil ?_
    refine c_then ?_
    obtain ⟨o1, G1, K1⟩ := bindE H
    refine c_seqJ (fun a w => ∃ x1 : Int, ∃ x2 : List UInt8, some ((x1, x2)) = some o1 ∧ Fr 34 [] [(0, .int .i64 x1), (4, .string (bs ([] : List UInt8))), (5, .string (bs x2))] a ∧ Stw ⟨Y, [], w0⟩ [] [] w) ?_ ?_
    ·
      have H := G1
      clear G1 K1
      refine c_seq ?_
      refine reg_list ?_
      refine ls hF hW rfl ((y_assign hF rfl).q) (fun a w hF hW => ?_)
      refine ls_nil ?_
      refine c_then ?_
      refine wp_block ?_
      refine c_loopW H (fun s a w => Fr 34 [] [(0, .int .i64 s.1), (1, .int .i64 p1), (4, .string (bs ([] : List UInt8))), (5, .string (bs s.2.1)), (6, .int .i64 s.2.2)] a ∧ Stw ⟨Y, [], w0⟩ [] [] w) ⟨hF.re ⟨rfl, rfl, rfl, rfl, rfl, trivial⟩, hW⟩ (fun s o a w H L2 hR => ?_)
      obtain ⟨x3, x4, x5⟩ := s
      obtain ⟨hF, hW⟩ := hR
      have hF : Fr 34 [] [(0, .int .i64 x3), (1, .int .i64 p1), (4, .string (bs ([] : List UInt8))), (5, .string (bs x4)), (6, .int .i64 x5)] a := hF
      have hW : Stw ⟨Y, [], w0⟩ [] [] w := hW
      rw [r04_Num_l1] at H
      refine c_seq ?_
      refine c_seq ?_
      refine reg_list ?_
      refine ls hF hW rfl ((y_move hF rfl).q) (fun a w hF hW => ?_)
      refine ls hF hW rfl ((y_move hF rfl).q) (fun a w hF hW => ?_)
      refine ls hF hW rfl ((y_lss hF rfl rfl).q) (fun a w hF hW => ?_)
      refine ls_nil ?_
      refine c_then ?_
      refine c_cond hF rfl (fun hb => ?_) (fun hb => ?_)
      ·
        have H := iteT (of_decide_eq_true hb) H
        rw [hb] at hF
        clear hb
        refine wp_skip ?_
        refine c_then ?_
        refine c_seq ?_
        refine wp_block ?_
        refine c_seq ?_
        refine reg_list ?_
        refine ls hF hW rfl ((y_move hF rfl).q) (fun a w hF hW => ?_)
        refine ls hF hW rfl ((y_rem hF rfl rfl (by decide) rfl).q) (fun a w hF hW => ?_)
        refine ls hF hW rfl ((y_convI Tryd.underlying3 Tryd.underlying5 hF rfl).q) (fun a w hF hW => ?_)
        refine l_lit (z := Value.int .u8 0) (cs := [.int .u8 (IntKind.u8.wrap (Int.tmod x3 256))]) (Rp.int .u8) ([IntKind.u8.wrap (Int.tmod x3 256)] : List Int) hF hW rfl L73 Z5 rfl rfl rfl rfl rfl rfl (Fl.int.repL _ _ ([IntKind.u8.wrap (Int.tmod x3 256)] : List Int)) (fun v1 a w hF hW => ?_)
        refine ls hF hW rfl ((y_convB (ns := ([IntKind.u8.wrap (Int.tmod x3 256)] : List Int)) Tryd.underlying73 Tryd.underlying5 Tryd.underlying9 hF rfl (rdc_row 0 rfl)).q) (fun a w hF hW => ?_)
        refine ls hF hW rfl ((y_move hF rfl).q) (fun a w hF hW => ?_)
        obtain ⟨x6, h1, H⟩ := bindE H
        refine ls hF hW rfl ((y_sadd (l := strOf ([IntKind.u8.wrap (Int.tmod x3 256)] : List Int)) (m := x4) hF rfl rfl h1).q) (fun a w hF hW => ?_)
        refine ls hF hW rfl ((y_assign hF rfl).q) (fun a w hF hW => ?_)
        refine ls_nil ?_
        refine c_then ?_
        refine reg_list ?_
        refine ls hF hW rfl ((y_move hF rfl).q) (fun a w hF hW => ?_)
        refine ls hF hW rfl ((y_quo hF rfl rfl (by decide) rfl).q) (fun a w hF hW => ?_)
        refine ls hF hW rfl ((y_assign hF rfl).q) (fun a w hF hW => ?_)
        refine ls_nil ?_
        refine b_normal ?_
        refine c_then ?_
        refine reg_list ?_
        refine ls hF hW rfl ((y_move hF rfl).q) (fun a w hF hW => ?_)
        refine ls hF hW rfl ((y_add hF rfl rfl rfl).q) (fun a w hF hW => ?_)
        refine ls hF hW rfl ((y_assign hF rfl).q) (fun a w hF hW => ?_)
        refine ls_nil ?_
        refine c_then ?_
        have hW := hW.sub (M' := []) (Z' := []) (List.Sublist.refl _) (List.nil_sublist _)
        exact ⟨_, H, hF.re ⟨rfl, rfl, rfl, rfl, rfl, trivial⟩, hW⟩
      ·
        have H := iteF (of_decide_eq_false hb) H
        rw [hb] at hF
        clear hb
        refine wp_exit ?_
        refine e_then ?_
        refine e_then ?_
        refine e_block ?_
        refine c_then ?_
        have H := L2 _ H
        exact ⟨_, _, H, hF.re ⟨rfl, rfl, rfl, trivial⟩, hW⟩
    rintro a w ⟨x1, x2, hj, hF, hW⟩
    have hj := Option.some.inj hj
    subst hj
    have H := K1
    clear G1 K1
    refine c_seq ?_
    refine c_seq ?_
    refine reg_list ?_
    refine ls hF hW rfl ((y_move hF rfl).q) (fun a w hF hW => ?_)
    refine ls hF hW rfl ((y_neq hF rfl rfl).q) (fun a w hF hW => ?_)
    refine ls_nil ?_
    refine c_then ?_
    refine c_cond hF rfl (fun hb => ?_) (fun hb => ?_)
    ·
      have H := iteT (of_decide_eq_true hb) H
      rw [hb] at hF
      clear hb
      refine c_seq ?_
      refine reg_list ?_
      refine ls hF hW rfl ((y_assign (v := Value.string (bs ([] : List UInt8))) hF rfl).q) (fun a w hF hW => ?_)
      refine ls_nil ?_
      refine c_then ?_
      refine wp_ret ?_
      refine r_then ?_
      have H := Option.some.inj H
      subst H
      refine post1 (.inl rfl) hF hW rfl (rv_tmp hF rfl) ?_
      exact ⟨rfl, hW.done⟩
    ·
      have H := iteF (of_decide_eq_false hb) H
      rw [hb] at hF
      clear hb
      refine wp_skip ?_
      refine c_then ?_
      refine c_seq ?_
      refine reg_list ?_
      refine ls hF hW rfl ((y_move hF rfl).q) (fun a w hF hW => ?_)
      refine ls hF hW rfl ((y_assign hF rfl).q) (fun a w hF hW => ?_)
      refine ls_nil ?_
      refine c_then ?_
      refine wp_ret ?_
      have H := Option.some.inj H
      subst H
      refine post1 (.inl rfl) hF hW rfl (rv_tmp hF rfl) ?_
      exact ⟨rfl, hW.done⟩

theorem H43 : Has Tryd.prog 43 := ⟨fun args w => run_callFunc_body Tryd.func43 rfl (by decide) args w⟩
noncomputable def r08_Code_l1 (p0 : Int × (Int × Int × Int × Int) × (Int × Int × Int × Int)) : (List UInt8 × Int) → Option ((List UInt8 × Int) ⊕ (List UInt8))
  | (x3, x4) => (if x4 < 4 then (ix ([p0.2.1.1, p0.2.1.2.1, p0.2.1.2.2.1, p0.2.1.2.2.2] : List Int) x4).bind fun x5 => (r04_Num x5 1).bind fun x6 => (app x3 x6).bind fun x7 => (ix ([p0.2.2.1, p0.2.2.2.1, p0.2.2.2.2.1, p0.2.2.2.2.2] : List Int) x4).bind fun x8 => (r04_Num x8 1).bind fun x9 => (app x7 x9).bind fun x10 => some (.inl (x10, w64 (x4 + 1))) else some (.inr x3))
noncomputable def r08_Code (p0 : Int × (Int × Int × Int × Int) × (Int × Int × Int × Int)) : Option (List UInt8) := (r04_Num (w64 (p0.1 + 1)) 1).bind fun x1 => (loopW (r08_Code_l1 p0) (x1, 0)).bind fun x2 => some x2
theorem r08_Code_c (Y : Nat → Prop) (w0 : World)  (p0 : Int × (Int × Int × Int × Int) × (Int × Int × Int × Int)) (r : List UInt8) (H : r08_Code p0 = some r)  :
    Calls Tryd.prog 44 #[.agg #[.int .i64 p0.1, .int .i64 p0.2.1.1, .int .i64 p0.2.1.2.1, .int .i64 p0.2.1.2.2.1, .int .i64 p0.2.1.2.2.2, .int .i64 p0.2.2.1, .int .i64 p0.2.2.2.1, .int .i64 p0.2.2.2.2.1, .int .i64 p0.2.2.2.2.2]] w0 fun e w' => e = .returned (.string (bs r)) ∧ Below w0.heap.size w0 w' := by
  refine enter Tryd.func44 rfl Tryd.ntmps44 rfl (fun a hF => ?_)
  have hW := Stw.start Y w0
  unfold r08_Code at H
  refine c_seq ?_
  refine reg_list ?_
  refine l_box (cs := [.int .i64 p0.1, .int .i64 p0.2.1.1, .int .i64 p0.2.1.2.1, .int .i64 p0.2.1.2.2.1, .int .i64 p0.2.1.2.2.2, .int .i64 p0.2.2.1, .int .i64 p0.2.2.2.1, .int .i64 p0.2.2.2.2.1, .int .i64 p0.2.2.2.2.2]) hF hW rfl rfl rfl (fun b1 a w hF hW => ?_)
  refine ls hF hW rfl ((y_assign (v := Value.string (bs ([] : List UInt8))) hF rfl).q) (fun a w hF hW => ?_)
  refine ls_nil ?_
  refine c_then ?_
  refine c_seq ?_
  refine reg_list ?_
  refine ls hF hW rfl ((y_fieldAddr Tryd.underlying24 rfl rfl rfl T3 hF rfl 0 rfl).q) (fun a w hF hW => ?_)
  refine ls hF hW rfl ((y_load (v := Value.int .i64 p0.1) 0 hF rfl rfl T3 rfl).q) (fun a w hF hW => ?_)
  refine ls hF hW rfl ((y_add hF rfl rfl rfl).q) (fun a w hF hW => ?_)
  obtain ⟨x1, h1, H⟩ := bindE H
  refine ls hF hW rfl (y_call (v := Value.string (bs x1)) hF H43 rfl (fun w hW => r04_Num_c any w (w64 (p0.1 + 1)) 1 _ h1)) (fun a w hF hW => ?_)
  refine ls hF hW rfl ((y_assign hF rfl).q) (fun a w hF hW => ?_)
  refine ls_nil ?_
  refine c_then ?_
  obtain ⟨o1, G1, K1⟩ := bindE H
  refine c_seqJ (fun a w => ∃ x2 : List UInt8, some (x2) = some o1 ∧ Fr 27 [] [(2, .string (bs ([] : List UInt8))), (3, .string (bs x2))] a ∧ Stw ⟨Y, [], w0⟩ [(b1, [.int .i64 p0.1, .int .i64 p0.2.1.1, .int .i64 p0.2.1.2.1, .int .i64 p0.2.1.2.2.1, .int .i64 p0.2.1.2.2.2, .int .i64 p0.2.2.1, .int .i64 p0.2.2.2.1, .int .i64 p0.2.2.2.2.1, .int .i64 p0.2.2.2.2.2])] [] w) ?_ ?_
  ·
    have H := G1
    clear G1 K1
    refine c_seq ?_
    refine reg_list ?_
    refine ls hF hW rfl ((y_assign hF rfl).q) (fun a w hF hW => ?_)
    refine ls_nil ?_
    refine c_then ?_
    refine wp_block ?_
    refine c_loopW H (fun s a w => Fr 27 [] [(1, .pointer (some ⟨b1, 0, none⟩)), (2, .string (bs ([] : List UInt8))), (3, .string (bs s.1)), (4, .int .i64 s.2)] a ∧ Stw ⟨Y, [], w0⟩ [(b1, [.int .i64 p0.1, .int .i64 p0.2.1.1, .int .i64 p0.2.1.2.1, .int .i64 p0.2.1.2.2.1, .int .i64 p0.2.1.2.2.2, .int .i64 p0.2.2.1, .int .i64 p0.2.2.2.1, .int .i64 p0.2.2.2.2.1, .int .i64 p0.2.2.2.2.2])] [] w) ⟨hF.re ⟨rfl, rfl, rfl, rfl, trivial⟩, hW⟩ (fun s o a w H L2 hR => ?_)
    obtain ⟨x3, x4⟩ := s
    obtain ⟨hF, hW⟩ := hR
    have hF : Fr 27 [] [(1, .pointer (some ⟨b1, 0, none⟩)), (2, .string (bs ([] : List UInt8))), (3, .string (bs x3)), (4, .int .i64 x4)] a := hF
    have hW : Stw ⟨Y, [], w0⟩ [(b1, [.int .i64 p0.1, .int .i64 p0.2.1.1, .int .i64 p0.2.1.2.1, .int .i64 p0.2.1.2.2.1, .int .i64 p0.2.1.2.2.2, .int .i64 p0.2.2.1, .int .i64 p0.2.2.2.1, .int .i64 p0.2.2.2.2.1, .int .i64 p0.2.2.2.2.2])] [] w := hW
    rw [r08_Code_l1] at H
    refine c_seq ?_
    refine c_seq ?_
    refine reg_list ?_
    refine ls hF hW rfl ((y_move hF rfl).q) (fun a w hF hW => ?_)
    refine ls hF hW rfl ((y_lss hF rfl rfl).q) (fun a w hF hW => ?_)
    refine ls_nil ?_
    refine c_then ?_
    refine c_cond hF rfl (fun hb => ?_) (fun hb => ?_)
    ·
      have H := iteT (of_decide_eq_true hb) H
      rw [hb] at hF
      clear hb
      refine wp_skip ?_
      refine c_then ?_
      refine c_seq ?_
      refine wp_block ?_
      refine reg_quiet hW MO (by kernel_rfl) ?_
      refine qs hF rfl ((y_move hF rfl).q) (fun a hF => ?_)
      refine qs hF rfl ((y_move hF rfl).q) (fun a hF => ?_)
      refine qs hF rfl ((y_fieldAddr Tryd.underlying24 rfl rfl rfl T22 hF rfl 1 rfl).q) (fun a hF => ?_)
      obtain ⟨x5, h2, H⟩ := bindE H
      refine qs hF rfl ((y_indexP (1 + (x4).toNat * 1) Ar22 hF rfl rfl rfl h2 rfl).q) (fun a hF => ?_)
      refine qs hF rfl ((y_load (v := Value.int .i64 x5) 0 hF rfl rfl T3 (rdv_dyn (base := 1) (m := 4) (l := [p0.2.1.1, p0.2.1.2.1, p0.2.1.2.2.1, p0.2.1.2.2.2]) (enc := Value.int .i64) rfl h2)).q) (fun a hF => ?_)
      obtain ⟨x6, h3, H⟩ := bindE H
      refine qs hF rfl (y_call (v := Value.string (bs x6)) hF H43 rfl (fun w hW => r04_Num_c any w x5 1 _ h3)) (fun a hF => ?_)
      obtain ⟨x7, h4, H⟩ := bindE H
      refine qs hF rfl ((y_sadd (l := x3) (m := x6) hF rfl rfl h4).q) (fun a hF => ?_)
      refine qs hF rfl ((y_move hF rfl).q) (fun a hF => ?_)
      refine qs hF rfl ((y_fieldAddr Tryd.underlying24 rfl rfl rfl T22 hF rfl 5 rfl).q) (fun a hF => ?_)
      obtain ⟨x8, h5, H⟩ := bindE H
      refine qs hF rfl ((y_indexP (5 + (x4).toNat * 1) Ar22 hF rfl rfl rfl h5 rfl).q) (fun a hF => ?_)
      refine qs hF rfl ((y_load (v := Value.int .i64 x8) 0 hF rfl rfl T3 (rdv_dyn (base := 5) (m := 4) (l := [p0.2.2.1, p0.2.2.2.1, p0.2.2.2.2.1, p0.2.2.2.2.2]) (enc := Value.int .i64) rfl h5)).q) (fun a hF => ?_)
      obtain ⟨x9, h6, H⟩ := bindE H
      refine qs hF rfl (y_call (v := Value.string (bs x9)) hF H43 rfl (fun w hW => r04_Num_c any w x8 1 _ h6)) (fun a hF => ?_)
      obtain ⟨x10, h7, H⟩ := bindE H
      refine qs hF rfl ((y_sadd (l := x7) (m := x9) hF rfl rfl h7).q) (fun a hF => ?_)
      refine qs hF rfl ((y_assign hF rfl).q) (fun a hF => ?_)
      refine quiet_end (fun w hW => ?_)
      refine b_normal ?_
      refine c_then ?_
      refine reg_list ?_
      refine ls hF hW rfl ((y_move hF rfl).q) (fun a w hF hW => ?_)
      refine ls hF hW rfl ((y_add hF rfl rfl rfl).q) (fun a w hF hW => ?_)
      refine ls hF hW rfl ((y_assign hF rfl).q) (fun a w hF hW => ?_)
      refine ls_nil ?_
      refine c_then ?_
      exact ⟨_, H, hF.re ⟨rfl, rfl, rfl, rfl, trivial⟩, hW⟩
    ·
      have H := iteF (of_decide_eq_false hb) H
      rw [hb] at hF
      clear hb
      refine wp_exit ?_
      refine e_then ?_
      refine e_then ?_
      refine e_block ?_
      refine c_then ?_
      have H := L2 _ H
      exact ⟨_, H, hF.re ⟨rfl, rfl, trivial⟩, hW⟩
  rintro a w ⟨x2, hj, hF, hW⟩
  have hj := Option.some.inj hj
  subst hj
  have H := K1
  clear G1 K1
  refine c_seq ?_
  refine reg_list ?_
  refine ls hF hW rfl ((y_move hF rfl).q) (fun a w hF hW => ?_)
  refine ls hF hW rfl ((y_assign hF rfl).q) (fun a w hF hW => ?_)
  refine ls_nil ?_
  refine c_then ?_
  refine wp_ret ?_
  have H := Option.some.inj H
  subst H
  refine post1 (.inl rfl) hF hW rfl (rv_tmp hF rfl) ?_
  exact ⟨rfl, hW.done⟩

theorem H44 : Has Tryd.prog 44 := ⟨fun args w => run_callFunc_body Tryd.func44 rfl (by decide) args w⟩
noncomputable def r09_Code_l1 (p0 : List (Int × Int × Int)) : (List UInt8 × Int) → Option ((List UInt8 × Int) ⊕ (List UInt8))
  | (x3, x4) => (if x4 < (p0.length : Int) then (ix p0 x4).bind fun x5 => (r04_Num x5.1 1).bind fun x6 => (app x3 x6).bind fun x7 => (ix p0 x4).bind fun x8 => (r04_Num x8.2.1 1).bind fun x9 => (app x7 x9).bind fun x10 => (ix p0 x4).bind fun x11 => (r04_Num x11.2.2 1).bind fun x12 => (app x10 x12).bind fun x13 => some (.inl (x13, w64 (x4 + 1))) else some (.inr x3))
noncomputable def r09_Code (p0 : List (Int × Int × Int)) : Option (List UInt8) := (r04_Num (p0.length : Int) 1).bind fun x1 => (loopW (r09_Code_l1 p0) (x1, 0)).bind fun x2 => some x2
theorem r09_Code_c (Y : Nat → Prop) (w0 : World) (v1 : Value) (p0 : List (Int × Int × Int)) (r : List UInt8) (H : r09_Code p0 = some r) (h_v1 : Sl w0 (NX []) R60 v1 p0) :
    Calls Tryd.prog 45 #[v1] w0 fun e w' => e = .returned (.string (bs r)) ∧ Below w0.heap.size w0 w' := by
  refine enter Tryd.func45 rfl Tryd.ntmps45 rfl (fun a hF => ?_)
  have hW := Stw.start Y w0
  unfold r09_Code at H
  refine c_seq ?_
  refine reg_list ?_
  refine ls hF hW rfl ((y_assign (v := Value.string (bs ([] : List UInt8))) hF rfl).q) (fun a w hF hW => ?_)
  refine ls_nil ?_
  refine c_then ?_
  refine c_seq ?_
  refine reg_list ?_
  refine ls hF hW rfl ((y_move hF rfl).q) (fun a w hF hW => ?_)
  refine ls hF hW rfl ((y_len (r := R60) (l := p0) Tryd.underlying25 rfl hF rfl (rdc_ro h_v1)).q) (fun a w hF hW => ?_)
  obtain ⟨x1, h1, H⟩ := bindE H
  refine ls hF hW rfl (y_call (v := Value.string (bs x1)) hF H43 rfl (fun w hW => r04_Num_c any w (p0.length : Int) 1 _ h1)) (fun a w hF hW => ?_)
  refine ls hF hW rfl ((y_assign hF rfl).q) (fun a w hF hW => ?_)
  refine ls_nil ?_
  refine c_then ?_
  obtain ⟨o1, G1, K1⟩ := bindE H
  refine c_seqJ (fun a w => ∃ x2 : List UInt8, some (x2) = some o1 ∧ Fr 37 [] [(2, .string (bs ([] : List UInt8))), (3, .string (bs x2))] a ∧ Stw ⟨Y, [], w0⟩ [] [] w) ?_ ?_
  ·
    have H := G1
    clear G1 K1
    refine c_seq ?_
    refine reg_list ?_
    refine ls hF hW rfl ((y_assign hF rfl).q) (fun a w hF hW => ?_)
    refine ls_nil ?_
    refine c_then ?_
    refine wp_block ?_
    refine c_loopW H (fun s a w => Fr 37 [] [(0, v1), (2, .string (bs ([] : List UInt8))), (3, .string (bs s.1)), (4, .int .i64 s.2)] a ∧ Stw ⟨Y, [], w0⟩ [] [] w) ⟨hF.re ⟨rfl, rfl, rfl, rfl, trivial⟩, hW⟩ (fun s o a w H L2 hR => ?_)
    obtain ⟨x3, x4⟩ := s
    obtain ⟨hF, hW⟩ := hR
    have hF : Fr 37 [] [(0, v1), (2, .string (bs ([] : List UInt8))), (3, .string (bs x3)), (4, .int .i64 x4)] a := hF
    have hW : Stw ⟨Y, [], w0⟩ [] [] w := hW
    rw [r09_Code_l1] at H
    refine c_seq ?_
    refine c_seq ?_
    refine reg_list ?_
    refine ls hF hW rfl ((y_move hF rfl).q) (fun a w hF hW => ?_)
    refine ls hF hW rfl ((y_move hF rfl).q) (fun a w hF hW => ?_)
    refine ls hF hW rfl ((y_len (r := R60) (l := p0) Tryd.underlying25 rfl hF rfl (rdc_ro h_v1)).q) (fun a w hF hW => ?_)
    refine ls hF hW rfl ((y_lss hF rfl rfl).q) (fun a w hF hW => ?_)
    refine ls_nil ?_
    refine c_then ?_
    refine c_cond hF rfl (fun hb => ?_) (fun hb => ?_)
    ·
      have H := iteT (of_decide_eq_true hb) H
      rw [hb] at hF
      clear hb
      refine wp_skip ?_
      refine c_then ?_
      refine c_seq ?_
      refine wp_block ?_
      refine reg_quiet hW MO (by kernel_rfl) ?_
      refine qs hF rfl ((y_move hF rfl).q) (fun a hF => ?_)
      refine qs hF rfl ((y_move hF rfl).q) (fun a hF => ?_)
      refine qs hF rfl ((y_move hF rfl).q) (fun a hF => ?_)
      obtain ⟨x5, h2, H⟩ := bindE H
      refine qs hF rfl ((y_index (r := R60) L25 hF rfl rfl (rdc_ro h_v1) h2).q) (fun a hF => ?_)
      refine qs hF rfl ((y_fieldAddr Tryd.underlying60 rfl rfl rfl T3 hF rfl (voff v1 + (x4).toNat * 3) rfl).q) (fun a hF => ?_)
      refine qs hF rfl ((y_load_el (y := Value.int .i64 x5.1) (j := 0) (i := x4) hF rfl rfl (rdc_ro h_v1) h2 F60.to T3 rfl).q) (fun a hF => ?_)
      obtain ⟨x6, h3, H⟩ := bindE H
      refine qs hF rfl (y_call (v := Value.string (bs x6)) hF H43 rfl (fun w hW => r04_Num_c any w x5.1 1 _ h3)) (fun a hF => ?_)
      obtain ⟨x7, h4, H⟩ := bindE H
      refine qs hF rfl ((y_sadd (l := x3) (m := x6) hF rfl rfl h4).q) (fun a hF => ?_)
      refine qs hF rfl ((y_move hF rfl).q) (fun a hF => ?_)
      refine qs hF rfl ((y_move hF rfl).q) (fun a hF => ?_)
      obtain ⟨x8, h5, H⟩ := bindE H
      refine qs hF rfl ((y_index (r := R60) L25 hF rfl rfl (rdc_ro h_v1) h5).q) (fun a hF => ?_)
      refine qs hF rfl ((y_fieldAddr Tryd.underlying60 rfl rfl rfl T3 hF rfl (voff v1 + (x4).toNat * 3 + 1) rfl).q) (fun a hF => ?_)
      refine qs hF rfl ((y_load_el (y := Value.int .i64 x8.2.1) (j := 1) (i := x4) hF rfl rfl (rdc_ro h_v1) h5 F60.to T3 rfl).q) (fun a hF => ?_)
      obtain ⟨x9, h6, H⟩ := bindE H
      refine qs hF rfl (y_call (v := Value.string (bs x9)) hF H43 rfl (fun w hW => r04_Num_c any w x8.2.1 1 _ h6)) (fun a hF => ?_)
      obtain ⟨x10, h7, H⟩ := bindE H
      refine qs hF rfl ((y_sadd (l := x7) (m := x9) hF rfl rfl h7).q) (fun a hF => ?_)
      refine qs hF rfl ((y_move hF rfl).q) (fun a hF => ?_)
      refine qs hF rfl ((y_move hF rfl).q) (fun a hF => ?_)
      obtain ⟨x11, h8, H⟩ := bindE H
      refine qs hF rfl ((y_index (r := R60) L25 hF rfl rfl (rdc_ro h_v1) h8).q) (fun a hF => ?_)
      refine qs hF rfl ((y_fieldAddr Tryd.underlying60 rfl rfl rfl T3 hF rfl (voff v1 + (x4).toNat * 3 + 2) rfl).q) (fun a hF => ?_)
      refine qs hF rfl ((y_load_el (y := Value.int .i64 x11.2.2) (j := 2) (i := x4) hF rfl rfl (rdc_ro h_v1) h8 F60.to T3 rfl).q) (fun a hF => ?_)
      obtain ⟨x12, h9, H⟩ := bindE H
      refine qs hF rfl (y_call (v := Value.string (bs x12)) hF H43 rfl (fun w hW => r04_Num_c any w x11.2.2 1 _ h9)) (fun a hF => ?_)
      obtain ⟨x13, h10, H⟩ := bindE H
      refine qs hF rfl ((y_sadd (l := x10) (m := x12) hF rfl rfl h10).q) (fun a hF => ?_)
      refine qs hF rfl ((y_assign hF rfl).q) (fun a hF => ?_)
      refine quiet_end (fun w hW => ?_)
      refine b_normal ?_
      refine c_then ?_
      refine reg_list ?_
      refine ls hF hW rfl ((y_move hF rfl).q) (fun a w hF hW => ?_)
      refine ls hF hW rfl ((y_add hF rfl rfl rfl).q) (fun a w hF hW => ?_)
      refine ls hF hW rfl ((y_assign hF rfl).q) (fun a w hF hW => ?_)
      refine ls_nil ?_
      refine c_then ?_
      exact ⟨_, H, hF.re ⟨rfl, rfl, rfl, rfl, trivial⟩, hW⟩
    ·
      have H := iteF (of_decide_eq_false hb) H
      rw [hb] at hF
      clear hb
      refine wp_exit ?_
      refine e_then ?_
      refine e_then ?_
      refine e_block ?_
      refine c_then ?_
      have H := L2 _ H
      exact ⟨_, H, hF.re ⟨rfl, rfl, trivial⟩, hW⟩
  rintro a w ⟨x2, hj, hF, hW⟩
  have hj := Option.some.inj hj
  subst hj
  have H := K1
  clear G1 K1
  refine c_seq ?_
  refine reg_list ?_
  refine ls hF hW rfl ((y_move hF rfl).q) (fun a w hF hW => ?_)
  refine ls hF hW rfl ((y_assign hF rfl).q) (fun a w hF hW => ?_)
  refine ls_nil ?_
  refine c_then ?_
  refine wp_ret ?_
  have H := Option.some.inj H
  subst H
  refine post1 (.inl rfl) hF hW rfl (rv_tmp hF rfl) ?_
  exact ⟨rfl, hW.done⟩

theorem H45 : Has Tryd.prog 45 := ⟨fun args w => run_callFunc_body Tryd.func45 rfl (by decide) args w⟩
noncomputable def r10_Code (p0 : Int × (Int × (Int × Int × Int × Int) × (Int × Int × Int × Int)) × (List (Int × Int × Int))) : Option (List UInt8) := (r04_Num p0.1 2).bind fun x1 => (r08_Code p0.2.1).bind fun x2 => (app x1 x2).bind fun x3 => (r09_Code p0.2.2).bind fun x4 => (app x3 x4).bind fun x5 => some x5
theorem r10_Code_c (Y : Nat → Prop) (w0 : World) (v1 : Value) (p0 : Int × (Int × (Int × Int × Int × Int) × (Int × Int × Int × Int)) × (List (Int × Int × Int))) (r : List UInt8) (H : r10_Code p0 = some r) (h_v1 : Sl w0 (NX []) R60 v1 p0.2.2) :
    Calls Tryd.prog 18 #[.agg #[.int .i64 p0.1, .int .i64 p0.2.1.1, .int .i64 p0.2.1.2.1.1, .int .i64 p0.2.1.2.1.2.1, .int .i64 p0.2.1.2.1.2.2.1, .int .i64 p0.2.1.2.1.2.2.2, .int .i64 p0.2.1.2.2.1, .int .i64 p0.2.1.2.2.2.1, .int .i64 p0.2.1.2.2.2.2.1, .int .i64 p0.2.1.2.2.2.2.2, v1]] w0 fun e w' => e = .returned (.string (bs r)) ∧ Below w0.heap.size w0 w' := by
  refine enter Tryd.func18 rfl Tryd.ntmps18 rfl (fun a hF => ?_)
  have hW := Stw.start Y w0
  unfold r10_Code at H
  refine c_seq ?_
  refine reg_list ?_
  refine l_box (cs := [.int .i64 p0.1, .int .i64 p0.2.1.1, .int .i64 p0.2.1.2.1.1, .int .i64 p0.2.1.2.1.2.1, .int .i64 p0.2.1.2.1.2.2.1, .int .i64 p0.2.1.2.1.2.2.2, .int .i64 p0.2.1.2.2.1, .int .i64 p0.2.1.2.2.2.1, .int .i64 p0.2.1.2.2.2.2.1, .int .i64 p0.2.1.2.2.2.2.2, v1]) hF hW rfl rfl rfl (fun b1 a w hF hW => ?_)
  refine ls hF hW rfl ((y_assign (v := Value.string (bs ([] : List UInt8))) hF rfl).q) (fun a w hF hW => ?_)
  refine ls_nil ?_
  refine c_then ?_
  refine c_seq ?_
  refine reg_quiet hW MO (by kernel_rfl) ?_
  refine qs hF rfl ((y_fieldAddr Tryd.underlying27 rfl rfl rfl T3 hF rfl 0 rfl).q) (fun a hF => ?_)
  refine qs hF rfl ((y_load (v := Value.int .i64 p0.1) 0 hF rfl rfl T3 rfl).q) (fun a hF => ?_)
  obtain ⟨x1, h1, H⟩ := bindE H
  refine qs hF rfl (y_call (v := Value.string (bs x1)) hF H43 rfl (fun w hW => r04_Num_c any w p0.1 2 _ h1)) (fun a hF => ?_)
  refine qs hF rfl ((y_fieldAddr Tryd.underlying27 rfl rfl rfl T24 hF rfl 1 rfl).q) (fun a hF => ?_)
  refine qs hF rfl ((y_load (v := Value.agg #[.int .i64 p0.2.1.1, .int .i64 p0.2.1.2.1.1, .int .i64 p0.2.1.2.1.2.1, .int .i64 p0.2.1.2.1.2.2.1, .int .i64 p0.2.1.2.1.2.2.2, .int .i64 p0.2.1.2.2.1, .int .i64 p0.2.1.2.2.2.1, .int .i64 p0.2.1.2.2.2.2.1, .int .i64 p0.2.1.2.2.2.2.2]) 0 hF rfl rfl T24 rfl).q) (fun a hF => ?_)
  obtain ⟨x2, h2, H⟩ := bindE H
  refine qs hF rfl (y_call (v := Value.string (bs x2)) hF H44 rfl (fun w hW => r08_Code_c any w p0.2.1 _ h2)) (fun a hF => ?_)
  obtain ⟨x3, h3, H⟩ := bindE H
  refine qs hF rfl ((y_sadd (l := x1) (m := x2) hF rfl rfl h3).q) (fun a hF => ?_)
  refine qs hF rfl ((y_fieldAddr Tryd.underlying27 rfl rfl rfl T25 hF rfl 10 rfl).q) (fun a hF => ?_)
  refine qs hF rfl ((y_load (v := v1) 0 hF rfl rfl T25 rfl).q) (fun a hF => ?_)
  obtain ⟨x4, h4, H⟩ := bindE H
  refine qs hF rfl (y_call (v := Value.string (bs x4)) hF H45 rfl (fun w hW => r09_Code_c any w (v1) p0.2.2 _ h4 (((rdc_ro h_v1) : Rdc _ _ _ _ _ _) w hW).nx)) (fun a hF => ?_)
  obtain ⟨x5, h5, H⟩ := bindE H
  refine qs hF rfl ((y_sadd (l := x3) (m := x4) hF rfl rfl h5).q) (fun a hF => ?_)
  refine qs hF rfl ((y_assign hF rfl).q) (fun a hF => ?_)
  refine quiet_end (fun w hW => ?_)
  refine c_then ?_
  refine wp_ret ?_
  have H := Option.some.inj H
  subst H
  refine post1 (.inl rfl) hF hW rfl (rv_tmp hF rfl) ?_
  exact ⟨rfl, hW.done⟩

theorem H18 : Has Tryd.prog 18 := ⟨fun args w => run_callFunc_body Tryd.func18 rfl (by decide) args w⟩
theorem H49 : Has Tryd.prog 49 := ⟨fun args w => run_callFunc_body Tryd.func49 rfl (by decide) args w⟩
noncomputable def r07_Digits_st (fRec : Int → Option (List UInt8)) (p0 : Int) : Option (List UInt8) := (if p0 < 0 then (if (-10) < p0 then (fRec (w64 (0 - p0))).bind fun x1 => (app ([45] : List UInt8) x1).bind fun x2 => some x2 else (fRec (w64 (0 - (w64 (Int.tdiv p0 10))))).bind fun x3 => (app ([45] : List UInt8) x3).bind fun x4 => (fRec (w64 (0 - (Int.tmod p0 10)))).bind fun x5 => (app x4 x5).bind fun x6 => some x6) else (if p0 < 10 then (subl ([48, 49, 50, 51, 52, 53, 54, 55, 56, 57] : List UInt8) p0 (w64 (p0 + 1))).bind fun x7 => some x7 else (fRec (w64 (Int.tdiv p0 10))).bind fun x8 => (subl ([48, 49, 50, 51, 52, 53, 54, 55, 56, 57] : List UInt8) (Int.tmod p0 10) (w64 ((Int.tmod p0 10) + 1))).bind fun x9 => (app x8 x9).bind fun x10 => some x10))
noncomputable def r07_Digits_n : Nat → Int → Option (List UInt8)
  | 0 => fun _ => none
  | n + 1 => r07_Digits_st (r07_Digits_n n)
noncomputable def r07_Digits (p0 : Int) : Option (List UInt8) := limF fun n => r07_Digits_n n p0
theorem r07_Digits_stc (fRec : Int → Option (List UInt8)) (ih : ∀ (Y : Nat → Prop) (w0 : World)  (p0 : Int) (r : List UInt8) (H : fRec p0 = some r) , Calls Tryd.prog 49 #[.int .i64 p0] w0 fun e w' => e = .returned (.string (bs r)) ∧ Below w0.heap.size w0 w') (Y : Nat → Prop) (w0 : World)  (p0 : Int) (r : List UInt8) (H : r07_Digits_st fRec p0 = some r)  :
    Calls Tryd.prog 49 #[.int .i64 p0] w0 fun e w' => e = .returned (.string (bs r)) ∧ Below w0.heap.size w0 w' := by
  refine enter Tryd.func49 rfl Tryd.ntmps49 rfl (fun a hF => ?_)
  have hW := Stw.start Y w0
  unfold r07_Digits_st at H
  refine c_seq ?_
  refine reg_list ?_
  refine ls hF hW rfl ((y_assign (v := Value.string (bs ([] : List UInt8))) hF rfl).q) (fun a w hF hW => ?_)
  refine ls_nil ?_
  refine c_then ?_
  refine c_seq ?_
  refine c_seq ?_
  refine reg_list ?_
  refine ls hF hW rfl ((y_move hF rfl).q) (fun a w hF hW => ?_)
  refine ls hF hW rfl ((y_lss hF rfl rfl).q) (fun a w hF hW => ?_)
  refine ls_nil ?_
  refine c_then ?_
  refine c_cond hF rfl (fun hb => ?_) (fun hb => ?_)
  ·
    have H := iteT (of_decide_eq_true hb) H
    rw [hb] at hF
    clear hb
    refine c_seq ?_
    refine c_seq ?_
    refine reg_list ?_
    refine ls hF hW rfl ((y_move hF rfl).q) (fun a w hF hW => ?_)
    refine ls hF hW rfl ((y_gtr hF rfl rfl).q) (fun a w hF hW => ?_)
    refine ls_nil ?_
    refine c_then ?_
    refine c_cond hF rfl (fun hb => ?_) (fun hb => ?_)
    ·
      have H := iteT (of_decide_eq_true hb) H
      rw [hb] at hF
      clear hb
      refine c_seq ?_
      refine reg_list ?_
      refine ls hF hW rfl ((y_move hF rfl).q) (fun a w hF hW => ?_)
      refine ls hF hW rfl ((y_sub hF rfl rfl rfl).q) (fun a w hF hW => ?_)
      obtain ⟨x1, h1, H⟩ := bindE H
      refine ls hF hW rfl (y_call (v := Value.string (bs x1)) hF H49 rfl (fun w hW => ih any w (w64 (0 - p0)) _ h1)) (fun a w hF hW => ?_)
      obtain ⟨x2, h2, H⟩ := bindE H
      refine ls hF hW rfl ((y_sadd (l := ([45] : List UInt8)) (m := x1) hF rfl rfl h2).q) (fun a w hF hW => ?_)
      refine ls hF hW rfl ((y_assign hF rfl).q) (fun a w hF hW => ?_)
      refine ls_nil ?_
      refine c_then ?_
      refine wp_ret ?_
      refine r_then ?_
      refine r_then ?_
      have H := Option.some.inj H
      subst H
      refine post1 (.inl rfl) hF hW rfl (rv_tmp hF rfl) ?_
      exact ⟨rfl, hW.done⟩
    ·
      have H := iteF (of_decide_eq_false hb) H
      rw [hb] at hF
      clear hb
      refine wp_skip ?_
      refine c_then ?_
      refine c_seq ?_
      refine reg_list ?_
      refine ls hF hW rfl ((y_move hF rfl).q) (fun a w hF hW => ?_)
      refine ls hF hW rfl ((y_quo hF rfl rfl (by decide) rfl).q) (fun a w hF hW => ?_)
      refine ls hF hW rfl ((y_sub hF rfl rfl rfl).q) (fun a w hF hW => ?_)
      obtain ⟨x3, h3, H⟩ := bindE H
      refine ls hF hW rfl (y_call (v := Value.string (bs x3)) hF H49 rfl (fun w hW => ih any w (w64 (0 - (w64 (Int.tdiv p0 10)))) _ h3)) (fun a w hF hW => ?_)
      obtain ⟨x4, h4, H⟩ := bindE H
      refine ls hF hW rfl ((y_sadd (l := ([45] : List UInt8)) (m := x3) hF rfl rfl h4).q) (fun a w hF hW => ?_)
      refine ls hF hW rfl ((y_move hF rfl).q) (fun a w hF hW => ?_)
      refine ls hF hW rfl ((y_rem hF rfl rfl (by decide) rfl).q) (fun a w hF hW => ?_)
      refine ls hF hW rfl ((y_sub hF rfl rfl rfl).q) (fun a w hF hW => ?_)
      obtain ⟨x5, h5, H⟩ := bindE H
      refine ls hF hW rfl (y_call (v := Value.string (bs x5)) hF H49 rfl (fun w hW => ih any w (w64 (0 - (Int.tmod p0 10))) _ h5)) (fun a w hF hW => ?_)
      obtain ⟨x6, h6, H⟩ := bindE H
      refine ls hF hW rfl ((y_sadd (l := x4) (m := x5) hF rfl rfl h6).q) (fun a w hF hW => ?_)
      refine ls hF hW rfl ((y_assign hF rfl).q) (fun a w hF hW => ?_)
      refine ls_nil ?_
      refine c_then ?_
      refine wp_ret ?_
      refine r_then ?_
      have H := Option.some.inj H
      subst H
      refine post1 (.inl rfl) hF hW rfl (rv_tmp hF rfl) ?_
      exact ⟨rfl, hW.done⟩
  ·
    have H := iteF (of_decide_eq_false hb) H
    rw [hb] at hF
    clear hb
    refine wp_skip ?_
    refine c_then ?_
    refine c_seq ?_
    refine c_seq ?_
    refine reg_list ?_
    refine ls hF hW rfl ((y_move hF rfl).q) (fun a w hF hW => ?_)
    refine ls hF hW rfl ((y_lss hF rfl rfl).q) (fun a w hF hW => ?_)
    refine ls_nil ?_
    refine c_then ?_
    refine c_cond hF rfl (fun hb => ?_) (fun hb => ?_)
    ·
      have H := iteT (of_decide_eq_true hb) H
      rw [hb] at hF
      clear hb
      refine c_seq ?_
      refine reg_list ?_
      refine ls hF hW rfl ((y_move hF rfl).q) (fun a w hF hW => ?_)
      refine ls hF hW rfl ((y_move hF rfl).q) (fun a w hF hW => ?_)
      refine ls hF hW rfl ((y_add hF rfl rfl rfl).q) (fun a w hF hW => ?_)
      obtain ⟨x7, h7, H⟩ := bindE H
      refine ls hF hW rfl ((y_sslice (l := ([48, 49, 50, 51, 52, 53, 54, 55, 56, 57] : List UInt8)) Tryd.underlying9 hF rfl rfl rfl h7).q) (fun a w hF hW => ?_)
      refine ls hF hW rfl ((y_assign hF rfl).q) (fun a w hF hW => ?_)
      refine ls_nil ?_
      refine c_then ?_
      refine wp_ret ?_
      refine r_then ?_
      have H := Option.some.inj H
      subst H
      refine post1 (.inl rfl) hF hW rfl (rv_tmp hF rfl) ?_
      exact ⟨rfl, hW.done⟩
    ·
      have H := iteF (of_decide_eq_false hb) H
      rw [hb] at hF
      clear hb
      refine wp_skip ?_
      refine c_then ?_
      refine c_seq ?_
      refine reg_quiet hW MO (by kernel_rfl) ?_
      refine qs hF rfl ((y_move hF rfl).q) (fun a hF => ?_)
      refine qs hF rfl ((y_quo hF rfl rfl (by decide) rfl).q) (fun a hF => ?_)
      obtain ⟨x8, h8, H⟩ := bindE H
      refine qs hF rfl (y_call (v := Value.string (bs x8)) hF H49 rfl (fun w hW => ih any w (w64 (Int.tdiv p0 10)) _ h8)) (fun a hF => ?_)
      refine qs hF rfl ((y_move hF rfl).q) (fun a hF => ?_)
      refine qs hF rfl ((y_rem hF rfl rfl (by decide) rfl).q) (fun a hF => ?_)
      refine qs hF rfl ((y_move hF rfl).q) (fun a hF => ?_)
      refine qs hF rfl ((y_rem hF rfl rfl (by decide) rfl).q) (fun a hF => ?_)
      refine qs hF rfl ((y_add hF rfl rfl rfl).q) (fun a hF => ?_)
      obtain ⟨x9, h9, H⟩ := bindE H
      refine qs hF rfl ((y_sslice (l := ([48, 49, 50, 51, 52, 53, 54, 55, 56, 57] : List UInt8)) Tryd.underlying9 hF rfl rfl rfl h9).q) (fun a hF => ?_)
      obtain ⟨x10, h10, H⟩ := bindE H
      refine qs hF rfl ((y_sadd (l := x8) (m := x9) hF rfl rfl h10).q) (fun a hF => ?_)
      refine qs hF rfl ((y_assign hF rfl).q) (fun a hF => ?_)
      refine quiet_end (fun w hW => ?_)
      refine c_then ?_
      refine wp_ret ?_
      have H := Option.some.inj H
      subst H
      refine post1 (.inl rfl) hF hW rfl (rv_tmp hF rfl) ?_
      exact ⟨rfl, hW.done⟩
theorem r07_Digits_nc : ∀ (n : Nat) (Y : Nat → Prop) (w0 : World)  (p0 : Int) (r : List UInt8) (H : r07_Digits_n n p0 = some r) , Calls Tryd.prog 49 #[.int .i64 p0] w0 fun e w' => e = .returned (.string (bs r)) ∧ Below w0.heap.size w0 w' := by
  intro n
  induction n with
  | zero => intro Y w0  p0 r H; exact nomatch H
  | succ n ih => intro Y w0  p0 r H ; exact r07_Digits_stc (r07_Digits_n n) ih Y w0  p0 r H 
theorem r07_Digits_c (Y : Nat → Prop) (w0 : World)  (p0 : Int) (r : List UInt8) (H : r07_Digits p0 = some r)  :
    Calls Tryd.prog 49 #[.int .i64 p0] w0 fun e w' => e = .returned (.string (bs r)) ∧ Below w0.heap.size w0 w' := by
  obtain ⟨n, H⟩ := limF_some H
  exact r07_Digits_nc n Y w0  p0 r H 

noncomputable def r08_Text_l1 (p0 : Int × (Int × Int × Int × Int) × (Int × Int × Int × Int)) : (List UInt8 × Int) → Option ((List UInt8 × Int) ⊕ (List UInt8))
  | (x5, x6) => (if x6 < 4 then ((ix ([p0.2.2.1, p0.2.2.2.1, p0.2.2.2.2.1, p0.2.2.2.2.2] : List Int) x6).bind fun x8 => (if x8 = 0 then some x5 else (app x5 ([44, 32] : List UInt8)).bind fun x9 => (ix ([([115, 114, 99, 32] : List UInt8), ([100, 115, 116, 32] : List UInt8), ([107, 105, 110, 100, 32] : List UInt8), ([116, 97, 103, 32] : List UInt8)] : List (List UInt8)) x6).bind fun x10 => (app x9 x10).bind fun x11 => (ix ([p0.2.1.1, p0.2.1.2.1, p0.2.1.2.2.1, p0.2.1.2.2.2] : List Int) x6).bind fun x12 => (r07_Digits x12).bind fun x13 => (app x11 x13).bind fun x14 => (ix ([p0.2.2.1, p0.2.2.2.1, p0.2.2.2.2.1, p0.2.2.2.2.2] : List Int) x6).bind fun x15 => (if x15 ≠ (r07_Top x6) then (app x14 ([47] : List UInt8)).bind fun x16 => (ix ([p0.2.2.1, p0.2.2.2.1, p0.2.2.2.2.1, p0.2.2.2.2.2] : List Int) x6).bind fun x17 => (r07_Digits x17).bind fun x18 => (app x16 x18).bind fun x19 => some x19 else some x14))).bind fun x7 => some (.inl (x7, w64 (x6 + 1))) else some (.inr x5))
noncomputable def r08_Text (p0 : Int × (Int × Int × Int × Int) × (Int × Int × Int × Int)) : Option (List UInt8) := (if p0.1 ≠ (-1) then (r07_Digits p0.1).bind fun x2 => (app ([44, 32, 112, 111, 114, 116, 32] : List UInt8) x2).bind fun x3 => some x3 else some ([] : List UInt8)).bind fun x1 => (loopW (r08_Text_l1 p0) (x1, 0)).bind fun x4 => (if x4 = ([] : List UInt8) then some ([97, 110, 121] : List UInt8) else (subl x4 2 (x4.length : Int)).bind fun x20 => some x20)
theorem r08_Text_c (Y : Nat → Prop) (w0 : World)  (p0 : Int × (Int × Int × Int × Int) × (Int × Int × Int × Int)) (r : List UInt8) (H : r08_Text p0 = some r)  :
    Calls Tryd.prog 50 #[.agg #[.int .i64 p0.1, .int .i64 p0.2.1.1, .int .i64 p0.2.1.2.1, .int .i64 p0.2.1.2.2.1, .int .i64 p0.2.1.2.2.2, .int .i64 p0.2.2.1, .int .i64 p0.2.2.2.1, .int .i64 p0.2.2.2.2.1, .int .i64 p0.2.2.2.2.2]] w0 fun e w' => e = .returned (.string (bs r)) ∧ Below w0.heap.size w0 w' := by
  refine enter Tryd.func50 rfl Tryd.ntmps50 rfl (fun a hF => ?_)
  have hW := Stw.start Y w0
  unfold r08_Text at H
  refine c_seq ?_
  refine reg_list ?_
  refine l_box (cs := [.int .i64 p0.1, .int .i64 p0.2.1.1, .int .i64 p0.2.1.2.1, .int .i64 p0.2.1.2.2.1, .int .i64 p0.2.1.2.2.2, .int .i64 p0.2.2.1, .int .i64 p0.2.2.2.1, .int .i64 p0.2.2.2.2.1, .int .i64 p0.2.2.2.2.2]) hF hW rfl rfl rfl (fun b1 a w hF hW => ?_)
  refine ls hF hW rfl ((y_assign (v := Value.string (bs ([] : List UInt8))) hF rfl).q) (fun a w hF hW => ?_)
  refine ls_nil ?_
  refine c_then ?_
  refine c_seq ?_
  refine reg_list ?_
  refine l_lit (z := Value.string (bs ([] : List UInt8))) (cs := [.string (bs ([115, 114, 99, 32] : List UInt8)), .string (bs ([100, 115, 116, 32] : List UInt8)), .string (bs ([107, 105, 110, 100, 32] : List UInt8)), .string (bs ([116, 97, 103, 32] : List UInt8))]) Rp.str ([([115, 114, 99, 32] : List UInt8), ([100, 115, 116, 32] : List UInt8), ([107, 105, 110, 100, 32] : List UInt8), ([116, 97, 103, 32] : List UInt8)] : List (List UInt8)) hF hW rfl L82 Z9 rfl rfl rfl rfl rfl rfl (Fl.str.repL _ _ ([([115, 114, 99, 32] : List UInt8), ([100, 115, 116, 32] : List UInt8), ([107, 105, 110, 100, 32] : List UInt8), ([116, 97, 103, 32] : List UInt8)] : List (List UInt8))) (fun v1 a w hF hW => ?_)
  refine ls hF hW rfl ((y_assign hF rfl).q) (fun a w hF hW => ?_)
  refine ls_nil ?_
  refine c_then ?_
  refine c_seq ?_
  refine reg_list ?_
  refine ls hF hW rfl ((y_assign (v := Value.string (bs ([] : List UInt8))) hF rfl).q) (fun a w hF hW => ?_)
  refine ls_nil ?_
  refine c_then ?_
  obtain ⟨o1, G1, K1⟩ := bindE H
  refine c_seqJ (fun a w => ∃ x1 : List UInt8, some (x1) = some o1 ∧ Fr 55 [] [(1, .pointer (some ⟨b1, 0, none⟩)), (2, .string (bs ([] : List UInt8))), (3, v1), (4, .string (bs x1))] a ∧ Stw ⟨Y, [], w0⟩ [(b1, [.int .i64 p0.1, .int .i64 p0.2.1.1, .int .i64 p0.2.1.2.1, .int .i64 p0.2.1.2.2.1, .int .i64 p0.2.1.2.2.2, .int .i64 p0.2.2.1, .int .i64 p0.2.2.2.1, .int .i64 p0.2.2.2.2.1, .int .i64 p0.2.2.2.2.2])] [row v1 9 Rp.str ([([115, 114, 99, 32] : List UInt8), ([100, 115, 116, 32] : List UInt8), ([107, 105, 110, 100, 32] : List UInt8), ([116, 97, 103, 32] : List UInt8)] : List (List UInt8))] w) ?_ ?_
  ·
    have H := G1
    clear G1 K1
    refine c_seq ?_
    refine reg_list ?_
    refine ls hF hW rfl ((y_fieldAddr Tryd.underlying24 rfl rfl rfl T3 hF rfl 0 rfl).q) (fun a w hF hW => ?_)
    refine ls hF hW rfl ((y_load (v := Value.int .i64 p0.1) 0 hF rfl rfl T3 rfl).q) (fun a w hF hW => ?_)
    refine ls hF hW rfl ((y_neq hF rfl rfl).q) (fun a w hF hW => ?_)
    refine ls_nil ?_
    refine c_then ?_
    refine c_cond hF rfl (fun hb => ?_) (fun hb => ?_)
    ·
      have H := iteT (of_decide_eq_true hb) H
      rw [hb] at hF
      clear hb
      refine reg_list ?_
      refine ls hF hW rfl ((y_fieldAddr Tryd.underlying24 rfl rfl rfl T3 hF rfl 0 rfl).q) (fun a w hF hW => ?_)
      refine ls hF hW rfl ((y_load (v := Value.int .i64 p0.1) 0 hF rfl rfl T3 rfl).q) (fun a w hF hW => ?_)
      obtain ⟨x2, h1, H⟩ := bindE H
      refine ls hF hW rfl (y_call (v := Value.string (bs x2)) hF H49 rfl (fun w hW => r07_Digits_c any w p0.1 _ h1)) (fun a w hF hW => ?_)
      obtain ⟨x3, h2, H⟩ := bindE H
      refine ls hF hW rfl ((y_sadd (l := ([44, 32, 112, 111, 114, 116, 32] : List UInt8)) (m := x2) hF rfl rfl h2).q) (fun a w hF hW => ?_)
      refine ls hF hW rfl ((y_assign hF rfl).q) (fun a w hF hW => ?_)
      refine ls_nil ?_
      refine c_then ?_
      exact ⟨_, H, hF.re ⟨rfl, rfl, rfl, rfl, trivial⟩, hW⟩
    ·
      have H := iteF (of_decide_eq_false hb) H
      rw [hb] at hF
      clear hb
      refine wp_skip ?_
      refine c_then ?_
      exact ⟨_, H, hF.re ⟨rfl, rfl, rfl, rfl, trivial⟩, hW⟩
  rintro a w ⟨x1, hj, hF, hW⟩
  have hj := Option.some.inj hj
  subst hj
  have H := K1
  clear G1 K1
  obtain ⟨o2, G2, K2⟩ := bindE H
  refine c_seqJ (fun a w => ∃ x4 : List UInt8, some (x4) = some o2 ∧ Fr 55 [] [(2, .string (bs ([] : List UInt8))), (4, .string (bs x4))] a ∧ Stw ⟨Y, [], w0⟩ [(b1, [.int .i64 p0.1, .int .i64 p0.2.1.1, .int .i64 p0.2.1.2.1, .int .i64 p0.2.1.2.2.1, .int .i64 p0.2.1.2.2.2, .int .i64 p0.2.2.1, .int .i64 p0.2.2.2.1, .int .i64 p0.2.2.2.2.1, .int .i64 p0.2.2.2.2.2])] [] w) ?_ ?_
  ·
    have H := G2
    clear G2 K2
    refine c_seq ?_
    refine reg_list ?_
    refine ls hF hW rfl ((y_assign hF rfl).q) (fun a w hF hW => ?_)
    refine ls_nil ?_
    refine c_then ?_
    refine wp_block ?_
    refine c_loopW H (fun s a w => Fr 55 [] [(1, .pointer (some ⟨b1, 0, none⟩)), (2, .string (bs ([] : List UInt8))), (3, v1), (4, .string (bs s.1)), (5, .int .i64 s.2)] a ∧ Stw ⟨Y, [], w0⟩ [(b1, [.int .i64 p0.1, .int .i64 p0.2.1.1, .int .i64 p0.2.1.2.1, .int .i64 p0.2.1.2.2.1, .int .i64 p0.2.1.2.2.2, .int .i64 p0.2.2.1, .int .i64 p0.2.2.2.1, .int .i64 p0.2.2.2.2.1, .int .i64 p0.2.2.2.2.2])] [row v1 9 Rp.str ([([115, 114, 99, 32] : List UInt8), ([100, 115, 116, 32] : List UInt8), ([107, 105, 110, 100, 32] : List UInt8), ([116, 97, 103, 32] : List UInt8)] : List (List UInt8))] w) ⟨hF.re ⟨rfl, rfl, rfl, rfl, rfl, trivial⟩, hW⟩ (fun s o a w H L3 hR => ?_)
    obtain ⟨x5, x6⟩ := s
    obtain ⟨hF, hW⟩ := hR
    have hF : Fr 55 [] [(1, .pointer (some ⟨b1, 0, none⟩)), (2, .string (bs ([] : List UInt8))), (3, v1), (4, .string (bs x5)), (5, .int .i64 x6)] a := hF
    have hW : Stw ⟨Y, [], w0⟩ [(b1, [.int .i64 p0.1, .int .i64 p0.2.1.1, .int .i64 p0.2.1.2.1, .int .i64 p0.2.1.2.2.1, .int .i64 p0.2.1.2.2.2, .int .i64 p0.2.2.1, .int .i64 p0.2.2.2.1, .int .i64 p0.2.2.2.2.1, .int .i64 p0.2.2.2.2.2])] [row v1 9 Rp.str ([([115, 114, 99, 32] : List UInt8), ([100, 115, 116, 32] : List UInt8), ([107, 105, 110, 100, 32] : List UInt8), ([116, 97, 103, 32] : List UInt8)] : List (List UInt8))] w := hW
    rw [r08_Text_l1] at H
    refine c_seq ?_
    refine c_seq ?_
    refine reg_list ?_
    refine ls hF hW rfl ((y_move hF rfl).q) (fun a w hF hW => ?_)
    refine ls hF hW rfl ((y_lss hF rfl rfl).q) (fun a w hF hW => ?_)
    refine ls_nil ?_
    refine c_then ?_
    refine c_cond hF rfl (fun hb => ?_) (fun hb => ?_)
    ·
      have H := iteT (of_decide_eq_true hb) H
      rw [hb] at hF
      clear hb
      refine wp_skip ?_
      refine c_then ?_
      obtain ⟨o4, G4, K4⟩ := bindE H
      refine c_seqJ (fun a w => ∃ x7 : List UInt8, some (x7) = some o4 ∧ Fr 55 [] [(1, .pointer (some ⟨b1, 0, none⟩)), (2, .string (bs ([] : List UInt8))), (3, v1), (4, .string (bs x7)), (5, .int .i64 x6)] a ∧ Stw ⟨Y, [], w0⟩ [(b1, [.int .i64 p0.1, .int .i64 p0.2.1.1, .int .i64 p0.2.1.2.1, .int .i64 p0.2.1.2.2.1, .int .i64 p0.2.1.2.2.2, .int .i64 p0.2.2.1, .int .i64 p0.2.2.2.1, .int .i64 p0.2.2.2.2.1, .int .i64 p0.2.2.2.2.2])] [row v1 9 Rp.str ([([115, 114, 99, 32] : List UInt8), ([100, 115, 116, 32] : List UInt8), ([107, 105, 110, 100, 32] : List UInt8), ([116, 97, 103, 32] : List UInt8)] : List (List UInt8))] w) ?_ ?_
      ·
        have H := G4
        clear G4 K4
        refine wp_block ?_
        refine c_seq ?_
        refine c_seq ?_
        refine reg_list ?_
        refine ls hF hW rfl ((y_move hF rfl).q) (fun a w hF hW => ?_)
        refine ls hF hW rfl ((y_fieldAddr Tryd.underlying24 rfl rfl rfl T22 hF rfl 5 rfl).q) (fun a w hF hW => ?_)
        obtain ⟨x8, h3, H⟩ := bindE H
        refine ls hF hW rfl ((y_indexP (5 + (x6).toNat * 1) Ar22 hF rfl rfl rfl h3 rfl).q) (fun a w hF hW => ?_)
        refine ls hF hW rfl ((y_load (v := Value.int .i64 x8) 0 hF rfl rfl T3 (rdv_dyn (base := 5) (m := 4) (l := [p0.2.2.1, p0.2.2.2.1, p0.2.2.2.2.1, p0.2.2.2.2.2]) (enc := Value.int .i64) rfl h3)).q) (fun a w hF hW => ?_)
        refine ls hF hW rfl ((y_eql hF rfl rfl).q) (fun a w hF hW => ?_)
        refine ls_nil ?_
        refine c_then ?_
        refine c_cond hF rfl (fun hb => ?_) (fun hb => ?_)
        ·
          have H := iteT (of_decide_eq_true hb) H
          rw [hb] at hF
          clear hb
          refine wp_exit ?_
          refine e_then ?_
          refine e_block ?_
          refine c_then ?_
          exact ⟨_, H, hF.re ⟨rfl, rfl, rfl, rfl, rfl, trivial⟩, hW⟩
        ·
          have H := iteF (of_decide_eq_false hb) H
          rw [hb] at hF
          clear hb
          refine wp_skip ?_
          refine c_then ?_
          refine c_seq ?_
          refine reg_quiet hW MO (by kernel_rfl) ?_
          refine qs hF rfl ((y_move hF rfl).q) (fun a hF => ?_)
          obtain ⟨x9, h4, H⟩ := bindE H
          refine qs hF rfl ((y_sadd (l := x5) (m := ([44, 32] : List UInt8)) hF rfl rfl h4).q) (fun a hF => ?_)
          refine qs hF rfl ((y_move hF rfl).q) (fun a hF => ?_)
          refine qs hF rfl ((y_move hF rfl).q) (fun a hF => ?_)
          obtain ⟨x10, h5, H⟩ := bindE H
          refine qs hF rfl ((y_index (r := Rp.str) L82 hF rfl rfl (rdc_row 0 rfl) h5).q) (fun a hF => ?_)
          refine qs hF rfl ((y_load_el (y := Value.string (bs x10)) (j := 0) (i := x6) hF rfl rfl (rdc_row 0 rfl) h5 Fl.str.to T9 rfl).q) (fun a hF => ?_)
          obtain ⟨x11, h6, H⟩ := bindE H
          refine qs hF rfl ((y_sadd (l := x9) (m := x10) hF rfl rfl h6).q) (fun a hF => ?_)
          refine qs hF rfl ((y_move hF rfl).q) (fun a hF => ?_)
          refine qs hF rfl ((y_fieldAddr Tryd.underlying24 rfl rfl rfl T22 hF rfl 1 rfl).q) (fun a hF => ?_)
          obtain ⟨x12, h7, H⟩ := bindE H
          refine qs hF rfl ((y_indexP (1 + (x6).toNat * 1) Ar22 hF rfl rfl rfl h7 rfl).q) (fun a hF => ?_)
          refine qs hF rfl ((y_load (v := Value.int .i64 x12) 0 hF rfl rfl T3 (rdv_dyn (base := 1) (m := 4) (l := [p0.2.1.1, p0.2.1.2.1, p0.2.1.2.2.1, p0.2.1.2.2.2]) (enc := Value.int .i64) rfl h7)).q) (fun a hF => ?_)
          obtain ⟨x13, h8, H⟩ := bindE H
          refine qs hF rfl (y_call (v := Value.string (bs x13)) hF H49 rfl (fun w hW => r07_Digits_c any w x12 _ h8)) (fun a hF => ?_)
          obtain ⟨x14, h9, H⟩ := bindE H
          refine qs hF rfl ((y_sadd (l := x11) (m := x13) hF rfl rfl h9).q) (fun a hF => ?_)
          refine qs hF rfl ((y_assign hF rfl).q) (fun a hF => ?_)
          refine quiet_end (fun w hW => ?_)
          refine c_then ?_
          refine c_seq ?_
          refine reg_quiet hW MO (by kernel_rfl) ?_
          refine qs hF rfl ((y_move hF rfl).q) (fun a hF => ?_)
          refine qs hF rfl ((y_fieldAddr Tryd.underlying24 rfl rfl rfl T22 hF rfl 5 rfl).q) (fun a hF => ?_)
          obtain ⟨x15, h10, H⟩ := bindE H
          refine qs hF rfl ((y_indexP (5 + (x6).toNat * 1) Ar22 hF rfl rfl rfl h10 rfl).q) (fun a hF => ?_)
          refine qs hF rfl ((y_load (v := Value.int .i64 x15) 0 hF rfl rfl T3 (rdv_dyn (base := 5) (m := 4) (l := [p0.2.2.1, p0.2.2.2.1, p0.2.2.2.2.1, p0.2.2.2.2.2]) (enc := Value.int .i64) rfl h10)).q) (fun a hF => ?_)
          refine qs hF rfl ((y_move hF rfl).q) (fun a hF => ?_)
          refine qs hF rfl (y_call (v := Value.int .i64 (r07_Top x6)) hF H64 rfl (fun w hW => r07_Top_c any w x6 _ rfl)) (fun a hF => ?_)
          refine qs hF rfl ((y_neq hF rfl rfl).q) (fun a hF => ?_)
          refine quiet_end (fun w hW => ?_)
          refine c_then ?_
          refine c_cond hF rfl (fun hb => ?_) (fun hb => ?_)
          ·
            have H := iteT (of_decide_eq_true hb) H
            rw [hb] at hF
            clear hb
            refine reg_list ?_
            refine ls hF hW rfl ((y_move hF rfl).q) (fun a w hF hW => ?_)
            obtain ⟨x16, h11, H⟩ := bindE H
            refine ls hF hW rfl ((y_sadd (l := x14) (m := ([47] : List UInt8)) hF rfl rfl h11).q) (fun a w hF hW => ?_)
            refine ls hF hW rfl ((y_move hF rfl).q) (fun a w hF hW => ?_)
            refine ls hF hW rfl ((y_fieldAddr Tryd.underlying24 rfl rfl rfl T22 hF rfl 5 rfl).q) (fun a w hF hW => ?_)
            obtain ⟨x17, h12, H⟩ := bindE H
            refine ls hF hW rfl ((y_indexP (5 + (x6).toNat * 1) Ar22 hF rfl rfl rfl h12 rfl).q) (fun a w hF hW => ?_)
            refine ls hF hW rfl ((y_load (v := Value.int .i64 x17) 0 hF rfl rfl T3 (rdv_dyn (base := 5) (m := 4) (l := [p0.2.2.1, p0.2.2.2.1, p0.2.2.2.2.1, p0.2.2.2.2.2]) (enc := Value.int .i64) rfl h12)).q) (fun a w hF hW => ?_)
            obtain ⟨x18, h13, H⟩ := bindE H
            refine ls hF hW rfl (y_call (v := Value.string (bs x18)) hF H49 rfl (fun w hW => r07_Digits_c any w x17 _ h13)) (fun a w hF hW => ?_)
            obtain ⟨x19, h14, H⟩ := bindE H
            refine ls hF hW rfl ((y_sadd (l := x16) (m := x18) hF rfl rfl h14).q) (fun a w hF hW => ?_)
            refine ls hF hW rfl ((y_assign hF rfl).q) (fun a w hF hW => ?_)
            refine ls_nil ?_
            refine b_normal ?_
            refine c_then ?_
            exact ⟨_, H, hF.re ⟨rfl, rfl, rfl, rfl, rfl, trivial⟩, hW⟩
          ·
            have H := iteF (of_decide_eq_false hb) H
            rw [hb] at hF
            clear hb
            refine wp_skip ?_
            refine b_normal ?_
            refine c_then ?_
            exact ⟨_, H, hF.re ⟨rfl, rfl, rfl, rfl, rfl, trivial⟩, hW⟩
      rintro a w ⟨x7, hj, hF, hW⟩
      have hj := Option.some.inj hj
      subst hj
      have H := K4
      clear G4 K4
      refine reg_list ?_
      refine ls hF hW rfl ((y_move hF rfl).q) (fun a w hF hW => ?_)
      refine ls hF hW rfl ((y_add hF rfl rfl rfl).q) (fun a w hF hW => ?_)
      refine ls hF hW rfl ((y_assign hF rfl).q) (fun a w hF hW => ?_)
      refine ls_nil ?_
      refine c_then ?_
      exact ⟨_, H, hF.re ⟨rfl, rfl, rfl, rfl, rfl, trivial⟩, hW⟩
    ·
      have H := iteF (of_decide_eq_false hb) H
      rw [hb] at hF
      clear hb
      refine wp_exit ?_
      refine e_then ?_
      refine e_then ?_
      refine e_block ?_
      refine c_then ?_
      have hW := hW.sub (M' := [(b1, [.int .i64 p0.1, .int .i64 p0.2.1.1, .int .i64 p0.2.1.2.1, .int .i64 p0.2.1.2.2.1, .int .i64 p0.2.1.2.2.2, .int .i64 p0.2.2.1, .int .i64 p0.2.2.2.1, .int .i64 p0.2.2.2.2.1, .int .i64 p0.2.2.2.2.2])]) (Z' := []) (List.Sublist.refl _) (List.nil_sublist _)
      have H := L3 _ H
      exact ⟨_, H, hF.re ⟨rfl, rfl, trivial⟩, hW⟩
  rintro a w ⟨x4, hj, hF, hW⟩
  have hj := Option.some.inj hj
  subst hj
  have H := K2
  clear G2 K2
  refine c_seq ?_
  refine c_seq ?_
  refine reg_list ?_
  refine ls hF hW rfl ((y_move hF rfl).q) (fun a w hF hW => ?_)
  refine ls hF hW rfl ((y_seq (l := x4) (m := ([] : List UInt8)) hF rfl rfl).q) (fun a w hF hW => ?_)
  refine ls_nil ?_
  refine c_then ?_
  refine c_cond hF rfl (fun hb => ?_) (fun hb => ?_)
  ·
    have H := iteT (of_decide_eq_true hb) H
    rw [hb] at hF
    clear hb
    refine c_seq ?_
    refine reg_list ?_
    refine ls hF hW rfl ((y_assign (v := Value.string (bs ([97, 110, 121] : List UInt8))) hF rfl).q) (fun a w hF hW => ?_)
    refine ls_nil ?_
    refine c_then ?_
    refine wp_ret ?_
    refine r_then ?_
    have H := Option.some.inj H
    subst H
    refine post1 (.inl rfl) hF hW rfl (rv_tmp hF rfl) ?_
    exact ⟨rfl, hW.done⟩
  ·
    have H := iteF (of_decide_eq_false hb) H
    rw [hb] at hF
    clear hb
    refine wp_skip ?_
    refine c_then ?_
    refine c_seq ?_
    refine reg_list ?_
    refine ls hF hW rfl ((y_move hF rfl).q) (fun a w hF hW => ?_)
    obtain ⟨x20, h15, H⟩ := bindE H
    refine ls hF hW rfl ((y_sslice (l := x4) Tryd.underlying9 hF rfl rfl rfl h15).q) (fun a w hF hW => ?_)
    refine ls hF hW rfl ((y_assign hF rfl).q) (fun a w hF hW => ?_)
    refine ls_nil ?_
    refine c_then ?_
    refine wp_ret ?_
    have H := Option.some.inj H
    subst H
    refine post1 (.inl rfl) hF hW rfl (rv_tmp hF rfl) ?_
    exact ⟨rfl, hW.done⟩

theorem H50 : Has Tryd.prog 50 := ⟨fun args w => run_callFunc_body Tryd.func50 rfl (by decide) args w⟩
noncomputable def r09_Text_l1 (p0 : List (Int × Int × Int)) : (List UInt8 × Int) → Option ((List UInt8 × Int) ⊕ (List UInt8))
  | (x2, x3) => (if x3 < (p0.length : Int) then ((ix p0 x3).bind fun x5 => (if x5.1 = 1 then (app x2 ([44, 32, 115, 101, 116, 32] : List UInt8)).bind fun x6 => (ix p0 x3).bind fun x7 => (ix ([([115, 114, 99, 32] : List UInt8), ([100, 115, 116, 32] : List UInt8), ([107, 105, 110, 100, 32] : List UInt8), ([116, 97, 103, 32] : List UInt8)] : List (List UInt8)) x7.2.1).bind fun x8 => (app x6 x8).bind fun x9 => (ix p0 x3).bind fun x10 => (r07_Digits x10.2.2).bind fun x11 => (app x9 x11).bind fun x12 => some x12 else (ix p0 x3).bind fun x13 => (if x13.1 = 3 then (app x2 ([44, 32, 98, 97, 99, 107] : List UInt8)).bind fun x14 => some x14 else (app x2 ([44, 32, 111, 117, 116, 32] : List UInt8)).bind fun x15 => (ix p0 x3).bind fun x16 => (r07_Digits x16.2.2).bind fun x17 => (app x15 x17).bind fun x18 => some x18))).bind fun x4 => some (.inl (x4, w64 (x3 + 1))) else some (.inr x2))
noncomputable def r09_Text (p0 : List (Int × Int × Int)) : Option (List UInt8) := (loopW (r09_Text_l1 p0) (([] : List UInt8), 0)).bind fun x1 => (if x1 = ([] : List UInt8) then some ([100, 114, 111, 112] : List UInt8) else (subl x1 2 (x1.length : Int)).bind fun x19 => some x19)
theorem r09_Text_c (Y : Nat → Prop) (w0 : World) (v1 : Value) (p0 : List (Int × Int × Int)) (r : List UInt8) (H : r09_Text p0 = some r) (h_v1 : Sl w0 (NX []) R60 v1 p0) :
    Calls Tryd.prog 51 #[v1] w0 fun e w' => e = .returned (.string (bs r)) ∧ Below w0.heap.size w0 w' := by
  refine enter Tryd.func51 rfl Tryd.ntmps51 rfl (fun a hF => ?_)
  have hW := Stw.start Y w0
  unfold r09_Text at H
  refine c_seq ?_
  refine reg_list ?_
  refine ls hF hW rfl ((y_assign (v := Value.string (bs ([] : List UInt8))) hF rfl).q) (fun a w hF hW => ?_)
  refine ls_nil ?_
  refine c_then ?_
  refine c_seq ?_
  refine reg_list ?_
  refine l_lit (z := Value.string (bs ([] : List UInt8))) (cs := [.string (bs ([115, 114, 99, 32] : List UInt8)), .string (bs ([100, 115, 116, 32] : List UInt8)), .string (bs ([107, 105, 110, 100, 32] : List UInt8)), .string (bs ([116, 97, 103, 32] : List UInt8))]) Rp.str ([([115, 114, 99, 32] : List UInt8), ([100, 115, 116, 32] : List UInt8), ([107, 105, 110, 100, 32] : List UInt8), ([116, 97, 103, 32] : List UInt8)] : List (List UInt8)) hF hW rfl L82 Z9 rfl rfl rfl rfl rfl rfl (Fl.str.repL _ _ ([([115, 114, 99, 32] : List UInt8), ([100, 115, 116, 32] : List UInt8), ([107, 105, 110, 100, 32] : List UInt8), ([116, 97, 103, 32] : List UInt8)] : List (List UInt8))) (fun v2 a w hF hW => ?_)
  refine ls hF hW rfl ((y_assign hF rfl).q) (fun a w hF hW => ?_)
  refine ls_nil ?_
  refine c_then ?_
  refine c_seq ?_
  refine reg_list ?_
  refine ls hF hW rfl ((y_assign (v := Value.string (bs ([] : List UInt8))) hF rfl).q) (fun a w hF hW => ?_)
  refine ls_nil ?_
  refine c_then ?_
  obtain ⟨o1, G1, K1⟩ := bindE H
  refine c_seqJ (fun a w => ∃ x1 : List UInt8, some (x1) = some o1 ∧ Fr 58 [] [(2, .string (bs ([] : List UInt8))), (4, .string (bs x1))] a ∧ Stw ⟨Y, [], w0⟩ [] [] w) ?_ ?_
  ·
    have H := G1
    clear G1 K1
    refine c_seq ?_
    refine reg_list ?_
    refine ls hF hW rfl ((y_assign hF rfl).q) (fun a w hF hW => ?_)
    refine ls_nil ?_
    refine c_then ?_
    refine wp_block ?_
    refine c_loopW H (fun s a w => Fr 58 [] [(0, v1), (2, .string (bs ([] : List UInt8))), (3, v2), (4, .string (bs s.1)), (5, .int .i64 s.2)] a ∧ Stw ⟨Y, [], w0⟩ [] [row v2 9 Rp.str ([([115, 114, 99, 32] : List UInt8), ([100, 115, 116, 32] : List UInt8), ([107, 105, 110, 100, 32] : List UInt8), ([116, 97, 103, 32] : List UInt8)] : List (List UInt8))] w) ⟨hF.re ⟨rfl, rfl, rfl, rfl, rfl, trivial⟩, hW⟩ (fun s o a w H L2 hR => ?_)
    obtain ⟨x2, x3⟩ := s
    obtain ⟨hF, hW⟩ := hR
    have hF : Fr 58 [] [(0, v1), (2, .string (bs ([] : List UInt8))), (3, v2), (4, .string (bs x2)), (5, .int .i64 x3)] a := hF
    have hW : Stw ⟨Y, [], w0⟩ [] [row v2 9 Rp.str ([([115, 114, 99, 32] : List UInt8), ([100, 115, 116, 32] : List UInt8), ([107, 105, 110, 100, 32] : List UInt8), ([116, 97, 103, 32] : List UInt8)] : List (List UInt8))] w := hW
    rw [r09_Text_l1] at H
    refine c_seq ?_
    refine c_seq ?_
    refine reg_list ?_
    refine ls hF hW rfl ((y_move hF rfl).q) (fun a w hF hW => ?_)
    refine ls hF hW rfl ((y_move hF rfl).q) (fun a w hF hW => ?_)
    refine ls hF hW rfl ((y_len (r := R60) (l := p0) Tryd.underlying25 rfl hF rfl (rdc_ro h_v1)).q) (fun a w hF hW => ?_)
    refine ls hF hW rfl ((y_lss hF rfl rfl).q) (fun a w hF hW => ?_)
    refine ls_nil ?_
    refine c_then ?_
    refine c_cond hF rfl (fun hb => ?_) (fun hb => ?_)
    ·
      have H := iteT (of_decide_eq_true hb) H
      rw [hb] at hF
      clear hb
      refine wp_skip ?_
      refine c_then ?_
      obtain ⟨o3, G3, K3⟩ := bindE H
      refine c_seqJ (fun a w => ∃ x4 : List UInt8, some (x4) = some o3 ∧ Fr 58 [] [(0, v1), (2, .string (bs ([] : List UInt8))), (3, v2), (4, .string (bs x4)), (5, .int .i64 x3)] a ∧ Stw ⟨Y, [], w0⟩ [] [row v2 9 Rp.str ([([115, 114, 99, 32] : List UInt8), ([100, 115, 116, 32] : List UInt8), ([107, 105, 110, 100, 32] : List UInt8), ([116, 97, 103, 32] : List UInt8)] : List (List UInt8))] w) ?_ ?_
      ·
        have H := G3
        clear G3 K3
        refine wp_block ?_
        refine c_seq ?_
        refine reg_list ?_
        refine ls hF hW rfl ((y_move hF rfl).q) (fun a w hF hW => ?_)
        refine ls hF hW rfl ((y_move hF rfl).q) (fun a w hF hW => ?_)
        obtain ⟨x5, h1, H⟩ := bindE H
        refine ls hF hW rfl ((y_index (r := R60) L25 hF rfl rfl (rdc_ro h_v1) h1).q) (fun a w hF hW => ?_)
        refine ls hF hW rfl ((y_fieldAddr Tryd.underlying60 rfl rfl rfl T3 hF rfl (voff v1 + (x3).toNat * 3) rfl).q) (fun a w hF hW => ?_)
        refine ls hF hW rfl ((y_load_el (y := Value.int .i64 x5.1) (j := 0) (i := x3) hF rfl rfl (rdc_ro h_v1) h1 F60.to T3 rfl).q) (fun a w hF hW => ?_)
        refine ls hF hW rfl ((y_eql hF rfl rfl).q) (fun a w hF hW => ?_)
        refine ls_nil ?_
        refine c_then ?_
        refine c_cond hF rfl (fun hb => ?_) (fun hb => ?_)
        ·
          have H := iteT (of_decide_eq_true hb) H
          rw [hb] at hF
          clear hb
          refine reg_quiet hW MO (by kernel_rfl) ?_
          refine qs hF rfl ((y_move hF rfl).q) (fun a hF => ?_)
          obtain ⟨x6, h2, H⟩ := bindE H
          refine qs hF rfl ((y_sadd (l := x2) (m := ([44, 32, 115, 101, 116, 32] : List UInt8)) hF rfl rfl h2).q) (fun a hF => ?_)
          refine qs hF rfl ((y_move hF rfl).q) (fun a hF => ?_)
          refine qs hF rfl ((y_move hF rfl).q) (fun a hF => ?_)
          refine qs hF rfl ((y_move hF rfl).q) (fun a hF => ?_)
          obtain ⟨x7, h3, H⟩ := bindE H
          refine qs hF rfl ((y_index (r := R60) L25 hF rfl rfl (rdc_ro h_v1) h3).q) (fun a hF => ?_)
          refine qs hF rfl ((y_fieldAddr Tryd.underlying60 rfl rfl rfl T3 hF rfl (voff v1 + (x3).toNat * 3 + 1) rfl).q) (fun a hF => ?_)
          refine qs hF rfl ((y_load_el (y := Value.int .i64 x7.2.1) (j := 1) (i := x3) hF rfl rfl (rdc_ro h_v1) h3 F60.to T3 rfl).q) (fun a hF => ?_)
          obtain ⟨x8, h4, H⟩ := bindE H
          refine qs hF rfl ((y_index (r := Rp.str) L82 hF rfl rfl (rdc_row 0 rfl) h4).q) (fun a hF => ?_)
          refine qs hF rfl ((y_load_el (y := Value.string (bs x8)) (j := 0) (i := x7.2.1) hF rfl rfl (rdc_row 0 rfl) h4 Fl.str.to T9 rfl).q) (fun a hF => ?_)
          obtain ⟨x9, h5, H⟩ := bindE H
          refine qs hF rfl ((y_sadd (l := x6) (m := x8) hF rfl rfl h5).q) (fun a hF => ?_)
          refine qs hF rfl ((y_move hF rfl).q) (fun a hF => ?_)
          refine qs hF rfl ((y_move hF rfl).q) (fun a hF => ?_)
          obtain ⟨x10, h6, H⟩ := bindE H
          refine qs hF rfl ((y_index (r := R60) L25 hF rfl rfl (rdc_ro h_v1) h6).q) (fun a hF => ?_)
          refine qs hF rfl ((y_fieldAddr Tryd.underlying60 rfl rfl rfl T3 hF rfl (voff v1 + (x3).toNat * 3 + 2) rfl).q) (fun a hF => ?_)
          refine qs hF rfl ((y_load_el (y := Value.int .i64 x10.2.2) (j := 2) (i := x3) hF rfl rfl (rdc_ro h_v1) h6 F60.to T3 rfl).q) (fun a hF => ?_)
          obtain ⟨x11, h7, H⟩ := bindE H
          refine qs hF rfl (y_call (v := Value.string (bs x11)) hF H49 rfl (fun w hW => r07_Digits_c any w x10.2.2 _ h7)) (fun a hF => ?_)
          obtain ⟨x12, h8, H⟩ := bindE H
          refine qs hF rfl ((y_sadd (l := x9) (m := x11) hF rfl rfl h8).q) (fun a hF => ?_)
          refine qs hF rfl ((y_assign hF rfl).q) (fun a hF => ?_)
          refine quiet_end (fun w hW => ?_)
          refine b_normal ?_
          refine c_then ?_
          exact ⟨_, H, hF.re ⟨rfl, rfl, rfl, rfl, rfl, trivial⟩, hW⟩
        ·
          have H := iteF (of_decide_eq_false hb) H
          rw [hb] at hF
          clear hb
          refine c_seq ?_
          refine reg_list ?_
          refine ls hF hW rfl ((y_move hF rfl).q) (fun a w hF hW => ?_)
          refine ls hF hW rfl ((y_move hF rfl).q) (fun a w hF hW => ?_)
          obtain ⟨x13, h9, H⟩ := bindE H
          refine ls hF hW rfl ((y_index (r := R60) L25 hF rfl rfl (rdc_ro h_v1) h9).q) (fun a w hF hW => ?_)
          refine ls hF hW rfl ((y_fieldAddr Tryd.underlying60 rfl rfl rfl T3 hF rfl (voff v1 + (x3).toNat * 3) rfl).q) (fun a w hF hW => ?_)
          refine ls hF hW rfl ((y_load_el (y := Value.int .i64 x13.1) (j := 0) (i := x3) hF rfl rfl (rdc_ro h_v1) h9 F60.to T3 rfl).q) (fun a w hF hW => ?_)
          refine ls hF hW rfl ((y_eql hF rfl rfl).q) (fun a w hF hW => ?_)
          refine ls_nil ?_
          refine c_then ?_
          refine c_cond hF rfl (fun hb => ?_) (fun hb => ?_)
          ·
            have H := iteT (of_decide_eq_true hb) H
            rw [hb] at hF
            clear hb
            refine reg_list ?_
            refine ls hF hW rfl ((y_move hF rfl).q) (fun a w hF hW => ?_)
            obtain ⟨x14, h10, H⟩ := bindE H
            refine ls hF hW rfl ((y_sadd (l := x2) (m := ([44, 32, 98, 97, 99, 107] : List UInt8)) hF rfl rfl h10).q) (fun a w hF hW => ?_)
            refine ls hF hW rfl ((y_assign hF rfl).q) (fun a w hF hW => ?_)
            refine ls_nil ?_
            refine b_normal ?_
            refine c_then ?_
            exact ⟨_, H, hF.re ⟨rfl, rfl, rfl, rfl, rfl, trivial⟩, hW⟩
          ·
            have H := iteF (of_decide_eq_false hb) H
            rw [hb] at hF
            clear hb
            refine reg_list ?_
            refine ls hF hW rfl ((y_move hF rfl).q) (fun a w hF hW => ?_)
            obtain ⟨x15, h11, H⟩ := bindE H
            refine ls hF hW rfl ((y_sadd (l := x2) (m := ([44, 32, 111, 117, 116, 32] : List UInt8)) hF rfl rfl h11).q) (fun a w hF hW => ?_)
            refine ls hF hW rfl ((y_move hF rfl).q) (fun a w hF hW => ?_)
            refine ls hF hW rfl ((y_move hF rfl).q) (fun a w hF hW => ?_)
            obtain ⟨x16, h12, H⟩ := bindE H
            refine ls hF hW rfl ((y_index (r := R60) L25 hF rfl rfl (rdc_ro h_v1) h12).q) (fun a w hF hW => ?_)
            refine ls hF hW rfl ((y_fieldAddr Tryd.underlying60 rfl rfl rfl T3 hF rfl (voff v1 + (x3).toNat * 3 + 2) rfl).q) (fun a w hF hW => ?_)
            refine ls hF hW rfl ((y_load_el (y := Value.int .i64 x16.2.2) (j := 2) (i := x3) hF rfl rfl (rdc_ro h_v1) h12 F60.to T3 rfl).q) (fun a w hF hW => ?_)
            obtain ⟨x17, h13, H⟩ := bindE H
            refine ls hF hW rfl (y_call (v := Value.string (bs x17)) hF H49 rfl (fun w hW => r07_Digits_c any w x16.2.2 _ h13)) (fun a w hF hW => ?_)
            obtain ⟨x18, h14, H⟩ := bindE H
            refine ls hF hW rfl ((y_sadd (l := x15) (m := x17) hF rfl rfl h14).q) (fun a w hF hW => ?_)
            refine ls hF hW rfl ((y_assign hF rfl).q) (fun a w hF hW => ?_)
            refine ls_nil ?_
            refine b_normal ?_
            refine c_then ?_
            exact ⟨_, H, hF.re ⟨rfl, rfl, rfl, rfl, rfl, trivial⟩, hW⟩
      rintro a w ⟨x4, hj, hF, hW⟩
      have hj := Option.some.inj hj
      subst hj
      have H := K3
      clear G3 K3
      refine reg_list ?_
      refine ls hF hW rfl ((y_move hF rfl).q) (fun a w hF hW => ?_)
      refine ls hF hW rfl ((y_add hF rfl rfl rfl).q) (fun a w hF hW => ?_)
      refine ls hF hW rfl ((y_assign hF rfl).q) (fun a w hF hW => ?_)
      refine ls_nil ?_
      refine c_then ?_
      exact ⟨_, H, hF.re ⟨rfl, rfl, rfl, rfl, rfl, trivial⟩, hW⟩
    ·
      have H := iteF (of_decide_eq_false hb) H
      rw [hb] at hF
      clear hb
      refine wp_exit ?_
      refine e_then ?_
      refine e_then ?_
      refine e_block ?_
      refine c_then ?_
      have hW := hW.sub (M' := []) (Z' := []) (List.Sublist.refl _) (List.nil_sublist _)
      have H := L2 _ H
      exact ⟨_, H, hF.re ⟨rfl, rfl, trivial⟩, hW⟩
  rintro a w ⟨x1, hj, hF, hW⟩
  have hj := Option.some.inj hj
  subst hj
  have H := K1
  clear G1 K1
  refine c_seq ?_
  refine c_seq ?_
  refine reg_list ?_
  refine ls hF hW rfl ((y_move hF rfl).q) (fun a w hF hW => ?_)
  refine ls hF hW rfl ((y_seq (l := x1) (m := ([] : List UInt8)) hF rfl rfl).q) (fun a w hF hW => ?_)
  refine ls_nil ?_
  refine c_then ?_
  refine c_cond hF rfl (fun hb => ?_) (fun hb => ?_)
  ·
    have H := iteT (of_decide_eq_true hb) H
    rw [hb] at hF
    clear hb
    refine c_seq ?_
    refine reg_list ?_
    refine ls hF hW rfl ((y_assign (v := Value.string (bs ([100, 114, 111, 112] : List UInt8))) hF rfl).q) (fun a w hF hW => ?_)
    refine ls_nil ?_
    refine c_then ?_
    refine wp_ret ?_
    refine r_then ?_
    have H := Option.some.inj H
    subst H
    refine post1 (.inl rfl) hF hW rfl (rv_tmp hF rfl) ?_
    exact ⟨rfl, hW.done⟩
  ·
    have H := iteF (of_decide_eq_false hb) H
    rw [hb] at hF
    clear hb
    refine wp_skip ?_
    refine c_then ?_
    refine c_seq ?_
    refine reg_list ?_
    refine ls hF hW rfl ((y_move hF rfl).q) (fun a w hF hW => ?_)
    obtain ⟨x19, h15, H⟩ := bindE H
    refine ls hF hW rfl ((y_sslice (l := x1) Tryd.underlying9 hF rfl rfl rfl h15).q) (fun a w hF hW => ?_)
    refine ls hF hW rfl ((y_assign hF rfl).q) (fun a w hF hW => ?_)
    refine ls_nil ?_
    refine c_then ?_
    refine wp_ret ?_
    have H := Option.some.inj H
    subst H
    refine post1 (.inl rfl) hF hW rfl (rv_tmp hF rfl) ?_
    exact ⟨rfl, hW.done⟩

theorem H51 : Has Tryd.prog 51 := ⟨fun args w => run_callFunc_body Tryd.func51 rfl (by decide) args w⟩
noncomputable def r10_Text (p0 : Int × (Int × (Int × Int × Int × Int) × (Int × Int × Int × Int)) × (List (Int × Int × Int))) : Option (List UInt8) := (r07_Digits p0.1).bind fun x1 => (app x1 ([32] : List UInt8)).bind fun x2 => (r08_Text p0.2.1).bind fun x3 => (app x2 x3).bind fun x4 => (app x4 ([58, 32] : List UInt8)).bind fun x5 => (r09_Text p0.2.2).bind fun x6 => (app x5 x6).bind fun x7 => some x7
theorem r10_Text_c (Y : Nat → Prop) (w0 : World) (v1 : Value) (p0 : Int × (Int × (Int × Int × Int × Int) × (Int × Int × Int × Int)) × (List (Int × Int × Int))) (r : List UInt8) (H : r10_Text p0 = some r) (h_v1 : Sl w0 (NX []) R60 v1 p0.2.2) :
    Calls Tryd.prog 20 #[.agg #[.int .i64 p0.1, .int .i64 p0.2.1.1, .int .i64 p0.2.1.2.1.1, .int .i64 p0.2.1.2.1.2.1, .int .i64 p0.2.1.2.1.2.2.1, .int .i64 p0.2.1.2.1.2.2.2, .int .i64 p0.2.1.2.2.1, .int .i64 p0.2.1.2.2.2.1, .int .i64 p0.2.1.2.2.2.2.1, .int .i64 p0.2.1.2.2.2.2.2, v1]] w0 fun e w' => e = .returned (.string (bs r)) ∧ Below w0.heap.size w0 w' := by
  refine enter Tryd.func20 rfl Tryd.ntmps20 rfl (fun a hF => ?_)
  have hW := Stw.start Y w0
  unfold r10_Text at H
  refine c_seq ?_
  refine reg_list ?_
  refine l_box (cs := [.int .i64 p0.1, .int .i64 p0.2.1.1, .int .i64 p0.2.1.2.1.1, .int .i64 p0.2.1.2.1.2.1, .int .i64 p0.2.1.2.1.2.2.1, .int .i64 p0.2.1.2.1.2.2.2, .int .i64 p0.2.1.2.2.1, .int .i64 p0.2.1.2.2.2.1, .int .i64 p0.2.1.2.2.2.2.1, .int .i64 p0.2.1.2.2.2.2.2, v1]) hF hW rfl rfl rfl (fun b1 a w hF hW => ?_)
  refine ls hF hW rfl ((y_assign (v := Value.string (bs ([] : List UInt8))) hF rfl).q) (fun a w hF hW => ?_)
  refine ls_nil ?_
  refine c_then ?_
  refine c_seq ?_
  refine reg_quiet hW MO (by kernel_rfl) ?_
  refine qs hF rfl ((y_fieldAddr Tryd.underlying27 rfl rfl rfl T3 hF rfl 0 rfl).q) (fun a hF => ?_)
  refine qs hF rfl ((y_load (v := Value.int .i64 p0.1) 0 hF rfl rfl T3 rfl).q) (fun a hF => ?_)
  obtain ⟨x1, h1, H⟩ := bindE H
  refine qs hF rfl (y_call (v := Value.string (bs x1)) hF H49 rfl (fun w hW => r07_Digits_c any w p0.1 _ h1)) (fun a hF => ?_)
  obtain ⟨x2, h2, H⟩ := bindE H
  refine qs hF rfl ((y_sadd (l := x1) (m := ([32] : List UInt8)) hF rfl rfl h2).q) (fun a hF => ?_)
  refine qs hF rfl ((y_fieldAddr Tryd.underlying27 rfl rfl rfl T24 hF rfl 1 rfl).q) (fun a hF => ?_)
  refine qs hF rfl ((y_load (v := Value.agg #[.int .i64 p0.2.1.1, .int .i64 p0.2.1.2.1.1, .int .i64 p0.2.1.2.1.2.1, .int .i64 p0.2.1.2.1.2.2.1, .int .i64 p0.2.1.2.1.2.2.2, .int .i64 p0.2.1.2.2.1, .int .i64 p0.2.1.2.2.2.1, .int .i64 p0.2.1.2.2.2.2.1, .int .i64 p0.2.1.2.2.2.2.2]) 0 hF rfl rfl T24 rfl).q) (fun a hF => ?_)
  obtain ⟨x3, h3, H⟩ := bindE H
  refine qs hF rfl (y_call (v := Value.string (bs x3)) hF H50 rfl (fun w hW => r08_Text_c any w p0.2.1 _ h3)) (fun a hF => ?_)
  obtain ⟨x4, h4, H⟩ := bindE H
  refine qs hF rfl ((y_sadd (l := x2) (m := x3) hF rfl rfl h4).q) (fun a hF => ?_)
  obtain ⟨x5, h5, H⟩ := bindE H
  refine qs hF rfl ((y_sadd (l := x4) (m := ([58, 32] : List UInt8)) hF rfl rfl h5).q) (fun a hF => ?_)
  refine qs hF rfl ((y_fieldAddr Tryd.underlying27 rfl rfl rfl T25 hF rfl 10 rfl).q) (fun a hF => ?_)
  refine qs hF rfl ((y_load (v := v1) 0 hF rfl rfl T25 rfl).q) (fun a hF => ?_)
  obtain ⟨x6, h6, H⟩ := bindE H
  refine qs hF rfl (y_call (v := Value.string (bs x6)) hF H51 rfl (fun w hW => r09_Text_c any w (v1) p0.2.2 _ h6 (((rdc_ro h_v1) : Rdc _ _ _ _ _ _) w hW).nx)) (fun a hF => ?_)
  obtain ⟨x7, h7, H⟩ := bindE H
  refine qs hF rfl ((y_sadd (l := x5) (m := x6) hF rfl rfl h7).q) (fun a hF => ?_)
  refine qs hF rfl ((y_assign hF rfl).q) (fun a hF => ?_)
  refine quiet_end (fun w hW => ?_)
  refine c_then ?_
  refine wp_ret ?_
  have H := Option.some.inj H
  subst H
  refine post1 (.inl rfl) hF hW rfl (rv_tmp hF rfl) ?_
  exact ⟨rfl, hW.done⟩

end Go.Proofs.YteeioghoidjbpaaDoor
