/- The functions of layer 8, lifted. Conditions: none. -/
import Derived.Test.YtmlaadalggngkaaDoorA0
namespace Go.Proofs.YtmlaadalggngkaaDoor
open Go Go.RowKit
set_option linter.unusedVariables false
set_option linter.unusedSimpArgs false
set_option maxRecDepth 20000
theorem H12 : Has Tryd.prog 12 := ⟨fun args w => run_callFunc_body Tryd.func12 rfl (by decide) args w⟩
theorem ZA25 : ∃ z, (Tryd.prog.info? 25).bind (·.zero) = some z ∧ z.cells = [.int .i64 0, .int .i64 0, .int .i64 0, .int .i64 0].toArray := ⟨.agg #[.int .i64 0, .int .i64 0, .int .i64 0, .int .i64 0], by kernel_rfl, rfl⟩
noncomputable def match_Hits_l1 (p0 : Int × (Int × Int × Int × Int) × (Int × Int × Int × Int)) (p2 : Int × Int × Int × Int) : Int → Option (Int ⊕ (Unit ⊕ Bool))
  | x1 => (if x1 < 4 then (ix ([p0.2.2.1, p0.2.2.2.1, p0.2.2.2.2.1, p0.2.2.2.2.2] : List Int) x1).bind fun x2 => (ix ([p2.1, p2.2.1, p2.2.2.1, p2.2.2.2] : List Int) x1).bind fun x3 => (ix ([p0.2.1.1, p0.2.1.2.1, p0.2.1.2.2.1, p0.2.1.2.2.2] : List Int) x1).bind fun x4 => (if (andI .i64 (xorI .i64 x3 x4) x2) ≠ 0 then some (.inr (.inr false)) else some (.inl (w64 (x1 + 1)))) else some (.inr (.inl ())))
noncomputable def match_Hits (p0 : Int × (Int × Int × Int × Int) × (Int × Int × Int × Int)) (p1 : Int) (p2 : Int × Int × Int × Int) : Option Bool := (if (decide (p0.1 ≠ (-1)) && decide (p0.1 ≠ p1)) = true then some false else orR (loopW (match_Hits_l1 p0 p2) 0) fun _ => some true)
theorem match_Hits_c (Y : Nat → Prop) (w0 : World)  (p0 : Int × (Int × Int × Int × Int) × (Int × Int × Int × Int)) (p1 : Int) (p2 : Int × Int × Int × Int) (r : Bool) (H : match_Hits p0 p1 p2 = some r)  :
    Calls Tryd.prog 16 #[.agg #[.int .i64 p0.1, .int .i64 p0.2.1.1, .int .i64 p0.2.1.2.1, .int .i64 p0.2.1.2.2.1, .int .i64 p0.2.1.2.2.2, .int .i64 p0.2.2.1, .int .i64 p0.2.2.2.1, .int .i64 p0.2.2.2.2.1, .int .i64 p0.2.2.2.2.2], .int .i64 p1, .agg #[.int .i64 p2.1, .int .i64 p2.2.1, .int .i64 p2.2.2.1, .int .i64 p2.2.2.2]] w0 fun e w' => e = .returned (.bool r) ∧ Below w0.heap.size w0 w' := by
  refine enter Tryd.func16 rfl Tryd.ntmps16 rfl (fun a hF => ?_)
  have hW := Stw.start Y w0
  unfold match_Hits at H
  refine c_seq ?_
  refine reg_list ?_
  refine l_box (cs := [.int .i64 p0.1, .int .i64 p0.2.1.1, .int .i64 p0.2.1.2.1, .int .i64 p0.2.1.2.2.1, .int .i64 p0.2.1.2.2.2, .int .i64 p0.2.2.1, .int .i64 p0.2.2.2.1, .int .i64 p0.2.2.2.2.1, .int .i64 p0.2.2.2.2.2]) hF hW rfl rfl rfl (fun b1 a w hF hW => ?_)
  refine l_box (cs := [.int .i64 p2.1, .int .i64 p2.2.1, .int .i64 p2.2.2.1, .int .i64 p2.2.2.2]) hF hW rfl rfl rfl (fun b2 a w hF hW => ?_)
  refine ls hF hW rfl ((y_assign hF rfl).q) (fun a w hF hW => ?_)
  refine ls_nil ?_
  refine c_then ?_
  refine c_seq ?_
  refine c_seqJ (fun a w => Fr 36 [] [(3, .pointer (some ⟨b1, 0, none⟩)), (5, .pointer (some ⟨b2, 0, none⟩)), (6, .bool false), (17, .bool (decide (p0.1 ≠ (-1)) && decide (p0.1 ≠ p1)))] a ∧ Stw ⟨Y, [], w0⟩ [(b2, [.int .i64 p2.1, .int .i64 p2.2.1, .int .i64 p2.2.2.1, .int .i64 p2.2.2.2]), (b1, [.int .i64 p0.1, .int .i64 p0.2.1.1, .int .i64 p0.2.1.2.1, .int .i64 p0.2.1.2.2.1, .int .i64 p0.2.1.2.2.2, .int .i64 p0.2.2.1, .int .i64 p0.2.2.2.1, .int .i64 p0.2.2.2.2.1, .int .i64 p0.2.2.2.2.2])] [] w) ?_ ?_
  ·
    refine reg_list ?_
    refine ls hF hW rfl ((y_fieldAddr Tryd.underlying24 rfl rfl rfl T3 hF rfl 0 rfl).q) (fun a w hF hW => ?_)
    refine ls hF hW rfl ((y_load (v := Value.int .i64 p0.1) 1 hF rfl rfl T3 rfl).q) (fun a w hF hW => ?_)
    refine ls hF hW rfl ((y_neq hF rfl rfl).q) (fun a w hF hW => ?_)
    refine ls hF hW rfl ((y_move hF rfl).q) (fun a w hF hW => ?_)
    rcases Bool.eq_false_or_eq_true (decide (p0.1 ≠ (-1))) with hb0 | hb0
    ·
      rw [hb0] at hF
      refine ls_w hF hW (wanted_y hF rfl rfl rfl rfl) rfl (Nat.le_of_ble_eq_true rfl) ((y_fieldAddr Tryd.underlying24 rfl rfl rfl T3 hF rfl 0 rfl).q) (fun a w hF hW => ?_)
      refine ls_w hF hW (wanted_y hF rfl rfl rfl rfl) rfl (Nat.le_of_ble_eq_true rfl) ((y_load (v := Value.int .i64 p0.1) 1 hF rfl rfl T3 rfl).q) (fun a w hF hW => ?_)
      refine ls_w hF hW (wanted_y hF rfl rfl rfl rfl) rfl (Nat.le_of_ble_eq_true rfl) ((y_move hF rfl).q) (fun a w hF hW => ?_)
      refine ls_w hF hW (wanted_y hF rfl rfl rfl rfl) rfl (Nat.le_of_ble_eq_true rfl) ((y_neq hF rfl rfl).q) (fun a w hF hW => ?_)
      refine ls hF hW rfl ((y_pick_t hF rfl rfl rfl).q) (fun a w hF hW => ?_)
      refine ls_nil ?_
      refine c_then ?_
      exact ⟨hF.re ⟨rfl, rfl, rfl, (by show some (Value.bool (decide (p0.1 ≠ p1))) = some (Value.bool (decide (p0.1 ≠ (-1)) && decide (p0.1 ≠ p1))); try rw [hb0]; all_goals simp only [Bool.not_true, Bool.not_false, Bool.true_and, Bool.false_and, Bool.true_or, Bool.false_or, Bool.and_true, Bool.or_false, cond_true, cond_false]), trivial⟩, hW⟩
    ·
      rw [hb0] at hF
      refine ls_skip hF (wanted_n hF rfl rfl rfl rfl rfl) rfl rfl (fun a hF => ?_)
      refine ls_skip hF (wanted_n hF rfl rfl rfl rfl rfl) rfl rfl (fun a hF => ?_)
      refine ls_skip hF (wanted_n hF rfl rfl rfl rfl rfl) rfl rfl (fun a hF => ?_)
      refine ls_skip hF (wanted_n hF rfl rfl rfl rfl rfl) rfl rfl (fun a hF => ?_)
      refine ls hF hW rfl ((y_pick_f hF rfl rfl rfl).q) (fun a w hF hW => ?_)
      refine ls_nil ?_
      refine c_then ?_
      exact ⟨hF.re ⟨rfl, rfl, rfl, (by show some (Value.bool false) = some (Value.bool (decide (p0.1 ≠ (-1)) && decide (p0.1 ≠ p1))); try rw [hb0]; all_goals simp only [Bool.not_true, Bool.not_false, Bool.true_and, Bool.false_and, Bool.true_or, Bool.false_or, Bool.and_true, Bool.or_false, cond_true, cond_false]), trivial⟩, hW⟩
  rintro a w ⟨hF, hW⟩
  refine c_cond hF rfl (fun hb => ?_) (fun hb => ?_)
  ·
    have H := iteT hb H
    rw [hb] at hF
    clear hb
    refine c_seq ?_
    refine reg_list ?_
    refine ls hF hW rfl ((y_assign hF rfl).q) (fun a w hF hW => ?_)
    refine ls_nil ?_
    refine c_then ?_
    refine wp_ret ?_
    refine r_then ?_
    have H := Option.some.inj H
    subst H
    refine post1 (.inl rfl) hF hW rfl (rv_tmp hF rfl) ?_
    exact ⟨rfl, hW.done⟩
  ·
    have H := iteF (by rw [hb]; decide) H
    rw [hb] at hF
    clear hb
    refine wp_skip ?_
    refine c_then ?_
    obtain ⟨o1, G1, K1, L1⟩ := orE H
    refine c_seqJ (fun a w => some (Sum.inl ()) = some o1 ∧ Fr 36 [] [(6, .bool false)] a ∧ Stw ⟨Y, [], w0⟩ [(b2, [.int .i64 p2.1, .int .i64 p2.2.1, .int .i64 p2.2.2.1, .int .i64 p2.2.2.2]), (b1, [.int .i64 p0.1, .int .i64 p0.2.1.1, .int .i64 p0.2.1.2.1, .int .i64 p0.2.1.2.2.1, .int .i64 p0.2.1.2.2.2, .int .i64 p0.2.2.1, .int .i64 p0.2.2.2.1, .int .i64 p0.2.2.2.2.1, .int .i64 p0.2.2.2.2.2])] [] w) ?_ ?_
    ·
      have H := G1
      clear G1 K1
      refine c_seq ?_
      refine reg_list ?_
      refine ls hF hW rfl ((y_fieldAddr Tryd.underlying24 rfl rfl rfl T22 hF rfl 5 rfl).q) (fun a w hF hW => ?_)
      refine ls hF hW rfl ((y_load (v := Value.agg #[.int .i64 p0.2.2.1, .int .i64 p0.2.2.2.1, .int .i64 p0.2.2.2.2.1, .int .i64 p0.2.2.2.2.2]) 1 hF rfl rfl T22 rfl).q) (fun a w hF hW => ?_)
      refine ls hF hW rfl ((y_move hF rfl).q) (fun a w hF hW => ?_)
      refine ls_nil ?_
      refine c_then ?_
      refine wp_block ?_
      have hW := hW.frontM (i := 1) rfl rfl
      have hW := hW.frontM (i := 1) rfl rfl
      refine c_loopW H (fun s a w => Fr 36 [] [(3, .pointer (some ⟨b1, 0, none⟩)), (5, .pointer (some ⟨b2, 0, none⟩)), (6, .bool false), (19, .agg #[.int .i64 p0.2.2.1, .int .i64 p0.2.2.2.1, .int .i64 p0.2.2.2.2.1, .int .i64 p0.2.2.2.2.2]), (20, .int .i64 s)] a ∧ Stw ⟨Y, [], w0⟩ [(b2, [.int .i64 p2.1, .int .i64 p2.2.1, .int .i64 p2.2.2.1, .int .i64 p2.2.2.2]), (b1, [.int .i64 p0.1, .int .i64 p0.2.1.1, .int .i64 p0.2.1.2.1, .int .i64 p0.2.1.2.2.1, .int .i64 p0.2.1.2.2.2, .int .i64 p0.2.2.1, .int .i64 p0.2.2.2.1, .int .i64 p0.2.2.2.2.1, .int .i64 p0.2.2.2.2.2])] [] w) ⟨hF.re ⟨rfl, rfl, rfl, rfl, rfl, trivial⟩, hW⟩ (fun s o a w H L2 hR => ?_)
      obtain ⟨x1, rfl⟩ : ∃ x, x = s := ⟨s, rfl⟩
      obtain ⟨hF, hW⟩ := hR
      have hF : Fr 36 [] [(3, .pointer (some ⟨b1, 0, none⟩)), (5, .pointer (some ⟨b2, 0, none⟩)), (6, .bool false), (19, .agg #[.int .i64 p0.2.2.1, .int .i64 p0.2.2.2.1, .int .i64 p0.2.2.2.2.1, .int .i64 p0.2.2.2.2.2]), (20, .int .i64 x1)] a := hF
      have hW : Stw ⟨Y, [], w0⟩ [(b2, [.int .i64 p2.1, .int .i64 p2.2.1, .int .i64 p2.2.2.1, .int .i64 p2.2.2.2]), (b1, [.int .i64 p0.1, .int .i64 p0.2.1.1, .int .i64 p0.2.1.2.1, .int .i64 p0.2.1.2.2.1, .int .i64 p0.2.1.2.2.2, .int .i64 p0.2.2.1, .int .i64 p0.2.2.2.1, .int .i64 p0.2.2.2.2.1, .int .i64 p0.2.2.2.2.2])] [] w := hW
      rw [match_Hits_l1] at H
      refine c_seq ?_
      refine reg_list ?_
      refine ls hF hW rfl ((y_lss hF rfl rfl).q) (fun a w hF hW => ?_)
      refine ls_nil ?_
      refine c_then ?_
      refine c_seq ?_
      refine c_cond hF rfl (fun hb => ?_) (fun hb => ?_)
      ·
        have H := iteT (of_decide_eq_true hb) H
        rw [hb] at hF
        clear hb
        refine wp_skip ?_
        refine c_then ?_
        refine c_seq ?_
        refine wp_block ?_
        refine c_seq ?_
        refine reg_list ?_
        refine ls hF hW rfl ((y_move hF rfl).q) (fun a w hF hW => ?_)
        obtain ⟨x2, h1, H⟩ := bindE H
        refine ls hF hW rfl ((y_indexA (enc := Value.int .i64) (cs := [.int .i64 p0.2.2.1, .int .i64 p0.2.2.2.1, .int .i64 p0.2.2.2.2.1, .int .i64 p0.2.2.2.2.2]) Ar22 T3 hF rfl rfl rfl rfl h1).q) (fun a w hF hW => ?_)
        refine ls hF hW rfl ((y_assign hF rfl).q) (fun a w hF hW => ?_)
        refine ls hF hW rfl ((y_assign hF rfl).q) (fun a w hF hW => ?_)
        refine ls_nil ?_
        refine c_then ?_
        refine c_seq ?_
        refine reg_quiet hW MO (by kernel_rfl) ?_
        refine qs hF rfl ((y_move hF rfl).q) (fun a hF => ?_)
        obtain ⟨x3, h2, H⟩ := bindE H
        refine qs hF rfl ((y_indexP (0 + (x1).toNat * 1) Ar25 hF rfl rfl rfl h2 rfl).q) (fun a hF => ?_)
        refine qs hF rfl ((y_load (v := Value.int .i64 x3) 0 hF rfl rfl T3 (rdv_dyn (base := 0) (m := 4) (l := [p2.1, p2.2.1, p2.2.2.1, p2.2.2.2]) (enc := Value.int .i64) rfl h2)).q) (fun a hF => ?_)
        refine qs hF rfl ((y_move hF rfl).q) (fun a hF => ?_)
        refine qs hF rfl ((y_fieldAddr Tryd.underlying24 rfl rfl rfl T22 hF rfl 1 rfl).q) (fun a hF => ?_)
        obtain ⟨x4, h3, H⟩ := bindE H
        refine qs hF rfl ((y_indexP (1 + (x1).toNat * 1) Ar22 hF rfl rfl rfl h3 rfl).q) (fun a hF => ?_)
        refine qs hF rfl ((y_load (v := Value.int .i64 x4) 1 hF rfl rfl T3 (rdv_dyn (base := 1) (m := 4) (l := [p0.2.1.1, p0.2.1.2.1, p0.2.1.2.2.1, p0.2.1.2.2.2]) (enc := Value.int .i64) rfl h3)).q) (fun a hF => ?_)
        refine qs hF rfl ((y_xor hF rfl rfl).q) (fun a hF => ?_)
        refine qs hF rfl ((y_move hF rfl).q) (fun a hF => ?_)
        refine qs hF rfl ((y_and hF rfl rfl).q) (fun a hF => ?_)
        refine qs hF rfl ((y_neq hF rfl rfl).q) (fun a hF => ?_)
        refine quiet_end (fun w hW => ?_)
        refine c_then ?_
        refine c_cond hF rfl (fun hb => ?_) (fun hb => ?_)
        ·
          have H := iteT (of_decide_eq_true hb) H
          rw [hb] at hF
          clear hb
          refine c_seq ?_
          refine reg_list ?_
          refine ls hF hW rfl ((y_assign hF rfl).q) (fun a w hF hW => ?_)
          refine ls_nil ?_
          refine c_then ?_
          refine wp_ret ?_
          refine r_block ?_
          refine r_then ?_
          refine r_then ?_
          refine r_block ?_
          refine r_then ?_
          have H := L2 _ H
          have H := L1 _ H
          have H := Option.some.inj H
          subst H
          refine post1 (.inl rfl) hF hW rfl (rv_tmp hF rfl) ?_
          exact ⟨rfl, hW.done⟩
        ·
          have H := iteF (of_decide_eq_false hb) H
          rw [hb] at hF
          clear hb
          refine wp_skip ?_
          refine b_normal ?_
          refine c_then ?_
          refine reg_list ?_
          refine ls hF hW rfl ((y_add hF rfl rfl rfl).q) (fun a w hF hW => ?_)
          refine ls hF hW rfl ((y_move hF rfl).q) (fun a w hF hW => ?_)
          refine ls_nil ?_
          refine c_then ?_
          have hW := hW.frontM (i := 1) rfl rfl
          have hW := hW.frontM (i := 1) rfl rfl
          exact ⟨_, H, hF.re ⟨rfl, rfl, rfl, rfl, rfl, trivial⟩, hW⟩
      ·
        have H := iteF (of_decide_eq_false hb) H
        rw [hb] at hF
        clear hb
        refine wp_exit ?_
        refine e_then ?_
        refine e_then ?_
        refine e_block ?_
        refine c_then ?_
        have hW := hW.frontM (i := 1) rfl rfl
        have hW := hW.frontM (i := 1) rfl rfl
        have H := L2 _ H
        exact ⟨H, hF.re ⟨rfl, trivial⟩, hW⟩
    rintro a w ⟨hj, hF, hW⟩
    have H := K1 _ hj
    clear hj G1 K1 L1
    refine c_seq ?_
    refine reg_list ?_
    refine ls hF hW rfl ((y_assign hF rfl).q) (fun a w hF hW => ?_)
    refine ls_nil ?_
    refine c_then ?_
    refine wp_ret ?_
    have H := Option.some.inj H
    subst H
    refine post1 (.inl rfl) hF hW rfl (rv_tmp hF rfl) ?_
    exact ⟨rfl, hW.done⟩

theorem H16 : Has Tryd.prog 16 := ⟨fun args w => run_callFunc_body Tryd.func16 rfl (by decide) args w⟩
theorem H42 : Has Tryd.prog 42 := ⟨fun args w => run_callFunc_body Tryd.func42 rfl (by decide) args w⟩
theorem Z9 : (Tryd.prog.info? 9).bind (·.zero) = some (.string (bs ([] : List UInt8))) := by kernel_rfl
theorem L66 : Et Tryd.prog 66 9 1 16 := Et.of Tryd.underlying66 (by kernel_rfl) (by kernel_rfl) (by kernel_rfl) (by decide)
theorem ZA79 : ∃ z, (Tryd.prog.info? 79).bind (·.zero) = some z ∧ z.cells = [.string (bs ([] : List UInt8)), .string (bs ([] : List UInt8)), .string (bs ([] : List UInt8)), .string (bs ([] : List UInt8))].toArray := ⟨.agg #[.string (bs ([] : List UInt8)), .string (bs ([] : List UInt8)), .string (bs ([] : List UInt8)), .string (bs ([] : List UInt8))], by kernel_rfl, rfl⟩
theorem Ar79 : Ar Tryd.prog 79 4 9 1 := ⟨Tryd.underlying79, by kernel_rfl⟩
theorem Z79 : (Tryd.prog.info? 79).bind (·.zero) = some (.agg #[.string (bs ([] : List UInt8)), .string (bs ([] : List UInt8)), .string (bs ([] : List UInt8)), .string (bs ([] : List UInt8))]) := by kernel_rfl
theorem T79 : Ty Tryd.prog 79 true 4 := ⟨by kernel_rfl, by kernel_rfl⟩
theorem T9 : Ty Tryd.prog 9 false 1 := ⟨by kernel_rfl, by kernel_rfl⟩
noncomputable def match_fieldText (p0 : Int) (p1 : Int) (p2 : Int) : Option (List UInt8) := (ix ([([115, 114, 99] : List UInt8), ([100, 115, 116] : List UInt8), ([107, 105, 110, 100] : List UInt8), ([116, 97, 103] : List UInt8)] : List (List UInt8)) p0).bind fun x1 => (app x1 ([32] : List UInt8)).bind fun x2 => (itoaP p1).bind fun x3 => (app x2 x3).bind fun x4 => ((packet_Top p0).bind fun x6 => (if p2 ≠ x6 then (itoaP p2).bind fun x7 => (app ([47] : List UInt8) x7).bind fun x8 => (app x4 x8).bind fun x9 => some x9 else some x4)).bind fun x5 => some x5
theorem match_fieldText_c (Y : Nat → Prop) (w0 : World)  (p0 : Int) (p1 : Int) (p2 : Int) (r : List UInt8) (H : match_fieldText p0 p1 p2 = some r) (hG : Gk [] w0) :
    Calls Tryd.prog 43 #[.int .i64 p0, .int .i64 p1, .int .i64 p2] w0 fun e w' => e = .returned (.string (bs r)) ∧ Below w0.heap.size w0 w' := by
  refine enter Tryd.func43 rfl Tryd.ntmps43 rfl (fun a hF => ?_)
  have hW := Stw.start Y w0
  unfold match_fieldText at H
  refine c_seq ?_
  refine reg_list ?_
  refine ls hF hW rfl ((y_assign (v := Value.string (bs ([] : List UInt8))) hF rfl).q) (fun a w hF hW => ?_)
  refine ls_nil ?_
  refine c_then ?_
  refine c_seq ?_
  refine reg_list ?_
  refine ls hF hW rfl ((y_buildA (v := Value.agg #[.string (bs ([115, 114, 99] : List UInt8)), .string (bs ([100, 115, 116] : List UInt8)), .string (bs ([107, 105, 110, 100] : List UInt8)), .string (bs ([116, 97, 103] : List UInt8))]) Ar79 ZA79 hF rfl rfl rfl).q) (fun a w hF hW => ?_)
  refine l_alloc (cs := [.string (bs ([] : List UInt8)), .string (bs ([] : List UInt8)), .string (bs ([] : List UInt8)), .string (bs ([] : List UInt8))]) hF hW rfl Z79 rfl (fun b1 a w hF hW => ?_)
  refine l_store (vs := [.string (bs ([115, 114, 99] : List UInt8)), .string (bs ([100, 115, 116] : List UInt8)), .string (bs ([107, 105, 110, 100] : List UInt8)), .string (bs ([116, 97, 103] : List UInt8))]) (M' := [(b1, [.string (bs ([115, 114, 99] : List UInt8)), .string (bs ([100, 115, 116] : List UInt8)), .string (bs ([107, 105, 110, 100] : List UInt8)), .string (bs ([116, 97, 103] : List UInt8))])]) 0 hF hW rfl rfl rfl T79 rfl rfl rfl rfl rfl (fun w hW => ?_)
  refine ls_nil ?_
  refine c_then ?_
  refine c_seq ?_
  refine reg_quiet hW MO (by kernel_rfl) ?_
  refine qs hF rfl ((y_move hF rfl).q) (fun a hF => ?_)
  obtain ⟨x1, h1, H⟩ := bindE H
  refine qs hF rfl ((y_indexP (0 + (p0).toNat * 1) Ar79 hF rfl rfl rfl h1 rfl).q) (fun a hF => ?_)
  refine qs hF rfl ((y_load (v := Value.string (bs x1)) 0 hF rfl rfl T9 (rdv_dyn (base := 0) (m := 4) (l := [([115, 114, 99] : List UInt8), ([100, 115, 116] : List UInt8), ([107, 105, 110, 100] : List UInt8), ([116, 97, 103] : List UInt8)]) (enc := (fun l => Value.string (bs l))) rfl h1)).q) (fun a hF => ?_)
  obtain ⟨x2, h2, H⟩ := bindE H
  refine qs hF rfl ((y_sadd (l := x1) (m := ([32] : List UInt8)) hF rfl rfl h2).q) (fun a hF => ?_)
  refine qs hF rfl ((y_move hF rfl).q) (fun a hF => ?_)
  obtain ⟨x3, h3, H⟩ := bindE H
  refine qs hF rfl (y_call (v := Value.string (bs x3)) hF H42 rfl (fun w hW => itoa_c any w p1 _ h3 (hG.go0 hW))) (fun a hF => ?_)
  obtain ⟨x4, h4, H⟩ := bindE H
  refine qs hF rfl ((y_sadd (l := x2) (m := x3) hF rfl rfl h4).q) (fun a hF => ?_)
  refine qs hF rfl ((y_assign hF rfl).q) (fun a hF => ?_)
  refine quiet_end (fun w hW => ?_)
  refine c_then ?_
  obtain ⟨o1, G1, K1⟩ := bindE H
  refine c_seqJ (fun a w => ∃ x5 : List UInt8, some (x5) = some o1 ∧ Fr 27 [] [(6, .string (bs ([] : List UInt8))), (8, .string (bs x5))] a ∧ Stw ⟨Y, [], w0⟩ [(b1, [.string (bs ([115, 114, 99] : List UInt8)), .string (bs ([100, 115, 116] : List UInt8)), .string (bs ([107, 105, 110, 100] : List UInt8)), .string (bs ([116, 97, 103] : List UInt8))])] [] w) ?_ ?_
  ·
    have H := G1
    clear G1 K1
    refine c_seq ?_
    refine reg_list ?_
    refine ls hF hW rfl ((y_move hF rfl).q) (fun a w hF hW => ?_)
    refine ls hF hW rfl ((y_move hF rfl).q) (fun a w hF hW => ?_)
    obtain ⟨x6, h5, H⟩ := bindE H
    refine ls hF hW rfl (y_call (v := Value.int .i64 x6) hF H34 rfl (fun w hW => packet_Top_c any w p0 _ h5)) (fun a w hF hW => ?_)
    refine ls hF hW rfl ((y_neq hF rfl rfl).q) (fun a w hF hW => ?_)
    refine ls_nil ?_
    refine c_then ?_
    refine c_cond hF rfl (fun hb => ?_) (fun hb => ?_)
    ·
      have H := iteT (of_decide_eq_true hb) H
      rw [hb] at hF
      clear hb
      refine reg_list ?_
      refine ls hF hW rfl ((y_move hF rfl).q) (fun a w hF hW => ?_)
      refine ls hF hW rfl ((y_move hF rfl).q) (fun a w hF hW => ?_)
      obtain ⟨x7, h6, H⟩ := bindE H
      refine ls hF hW rfl (y_call (v := Value.string (bs x7)) hF H42 rfl (fun w hW => itoa_c any w p2 _ h6 (hG.go0 hW))) (fun a w hF hW => ?_)
      obtain ⟨x8, h7, H⟩ := bindE H
      refine ls hF hW rfl ((y_sadd (l := ([47] : List UInt8)) (m := x7) hF rfl rfl h7).q) (fun a w hF hW => ?_)
      obtain ⟨x9, h8, H⟩ := bindE H
      refine ls hF hW rfl ((y_sadd (l := x4) (m := x8) hF rfl rfl h8).q) (fun a w hF hW => ?_)
      refine ls hF hW rfl ((y_assign hF rfl).q) (fun a w hF hW => ?_)
      refine ls_nil ?_
      refine c_then ?_
      exact ⟨_, H, hF.re ⟨rfl, rfl, trivial⟩, hW⟩
    ·
      have H := iteF (of_decide_eq_false hb) H
      rw [hb] at hF
      clear hb
      refine wp_skip ?_
      refine c_then ?_
      exact ⟨_, H, hF.re ⟨rfl, rfl, trivial⟩, hW⟩
  rintro a w ⟨x5, hj, hF, hW⟩
  have hj := Option.some.inj hj
  subst hj
  have H := K1
  clear G1 K1
  refine c_seq ?_
  refine reg_list ?_
  refine ls hF hW rfl ((y_move hF rfl).q) (fun a w hF hW => ?_)
  refine ls hF hW rfl ((y_assign hF rfl).q) (fun a w hF hW => ?_)
  refine ls_nil ?_
  refine c_then ?_
  refine wp_ret ?_
  have H := Option.some.inj H
  subst H
  refine post1 (.inl rfl) hF hW rfl (rv_tmp hF rfl) ?_
  exact ⟨rfl, hW.done⟩

theorem H43 : Has Tryd.prog 43 := ⟨fun args w => run_callFunc_body Tryd.func43 rfl (by decide) args w⟩
theorem H44 : Has Tryd.prog 44 := ⟨fun args w => run_callFunc_body Tryd.func44 rfl (by decide) args w⟩
noncomputable def match_Text_l1 (p0 : Int × (Int × Int × Int × Int) × (Int × Int × Int × Int)) : (List (List UInt8) × Int) → Option ((List (List UInt8) × Int) ⊕ (List (List UInt8)))
  | (x6, x7) => (if x7 < 4 then ((ix ([p0.2.2.1, p0.2.2.2.1, p0.2.2.2.2.1, p0.2.2.2.2.2] : List Int) x7).bind fun x9 => (if x9 ≠ 0 then (ix ([p0.2.1.1, p0.2.1.2.1, p0.2.1.2.2.1, p0.2.1.2.2.2] : List Int) x7).bind fun x10 => (match_fieldText x7 x10 x9).bind fun x11 => (app x6 ([x11] : List (List UInt8))).bind fun x12 => some x12 else some x6)).bind fun x8 => some (.inl (x8, w64 (x7 + 1))) else some (.inr x6))
noncomputable def match_Text (p0 : Int × (Int × Int × Int × Int) × (Int × Int × Int × Int)) : Option (List UInt8) := (if p0.1 = match_Any.1 ∧ p0.2.1.1 = match_Any.2.1.1 ∧ p0.2.1.2.1 = match_Any.2.1.2.1 ∧ p0.2.1.2.2.1 = match_Any.2.1.2.2.1 ∧ p0.2.1.2.2.2 = match_Any.2.1.2.2.2 ∧ p0.2.2.1 = match_Any.2.2.1 ∧ p0.2.2.2.1 = match_Any.2.2.2.1 ∧ p0.2.2.2.2.1 = match_Any.2.2.2.2.1 ∧ p0.2.2.2.2.2 = match_Any.2.2.2.2.2 then some ([97, 110, 121] : List UInt8) else (if p0.1 ≠ (-1) then (itoaP p0.1).bind fun x2 => (app ([112, 111, 114, 116, 32] : List UInt8) x2).bind fun x3 => (app ([] : List (List UInt8)) ([x3] : List (List UInt8))).bind fun x4 => some x4 else some ([])).bind fun x1 => (loopW (match_Text_l1 p0) (x1, 0)).bind fun x5 => (joinP x5 ([44, 32] : List UInt8)).bind fun x13 => some x13)
theorem match_Text_c (Y : Nat → Prop) (w0 : World)  (p0 : Int × (Int × Int × Int × Int) × (Int × Int × Int × Int)) (r : List UInt8) (H : match_Text p0 = some r) (hG : Gk [] w0) :
    Calls Tryd.prog 24 #[.agg #[.int .i64 p0.1, .int .i64 p0.2.1.1, .int .i64 p0.2.1.2.1, .int .i64 p0.2.1.2.2.1, .int .i64 p0.2.1.2.2.2, .int .i64 p0.2.2.1, .int .i64 p0.2.2.2.1, .int .i64 p0.2.2.2.2.1, .int .i64 p0.2.2.2.2.2]] w0 fun e w' => e = .returned (.string (bs r)) ∧ Below w0.heap.size w0 w' := by
  refine enter Tryd.func24 rfl Tryd.ntmps24 rfl (fun a hF => ?_)
  have hW := Stw.start Y w0
  unfold match_Text at H
  refine c_seq ?_
  refine reg_list ?_
  refine l_box (cs := [.int .i64 p0.1, .int .i64 p0.2.1.1, .int .i64 p0.2.1.2.1, .int .i64 p0.2.1.2.2.1, .int .i64 p0.2.1.2.2.2, .int .i64 p0.2.2.1, .int .i64 p0.2.2.2.1, .int .i64 p0.2.2.2.2.1, .int .i64 p0.2.2.2.2.2]) hF hW rfl rfl rfl (fun b1 a w hF hW => ?_)
  refine ls hF hW rfl ((y_assign (v := Value.string (bs ([] : List UInt8))) hF rfl).q) (fun a w hF hW => ?_)
  refine ls_nil ?_
  refine c_then ?_
  refine c_seq ?_
  refine c_seq ?_
  refine reg_quiet hW MO (by kernel_rfl) ?_
  refine qs hF rfl ((y_load (v := Value.agg #[.int .i64 p0.1, .int .i64 p0.2.1.1, .int .i64 p0.2.1.2.1, .int .i64 p0.2.1.2.2.1, .int .i64 p0.2.1.2.2.2, .int .i64 p0.2.2.1, .int .i64 p0.2.2.2.1, .int .i64 p0.2.2.2.2.1, .int .i64 p0.2.2.2.2.2]) 0 hF rfl rfl T24 rfl).q) (fun a hF => ?_)
  refine qs hF rfl (y_call (v := Value.agg #[.int .i64 match_Any.1, .int .i64 match_Any.2.1.1, .int .i64 match_Any.2.1.2.1, .int .i64 match_Any.2.1.2.2.1, .int .i64 match_Any.2.1.2.2.2, .int .i64 match_Any.2.2.1, .int .i64 match_Any.2.2.2.1, .int .i64 match_Any.2.2.2.2.1, .int .i64 match_Any.2.2.2.2.2]) hF H11 rfl (fun w hW => match_Any_c any w _ rfl)) (fun a hF => ?_)
  refine qs hF rfl ((y_eqa (t := decide (p0.1 = match_Any.1 ∧ p0.2.1.1 = match_Any.2.1.1 ∧ p0.2.1.2.1 = match_Any.2.1.2.1 ∧ p0.2.1.2.2.1 = match_Any.2.1.2.2.1 ∧ p0.2.1.2.2.2 = match_Any.2.1.2.2.2 ∧ p0.2.2.1 = match_Any.2.2.1 ∧ p0.2.2.2.1 = match_Any.2.2.2.1 ∧ p0.2.2.2.2.1 = match_Any.2.2.2.2.1 ∧ p0.2.2.2.2.2 = match_Any.2.2.2.2.2)) G24 (Q24 _ _ _ _ _ _ _ _ _ _ _ _ _ _ _ _ _ _) hF rfl rfl).q) (fun a hF => ?_)
  refine quiet_end (fun w hW => ?_)
  refine c_then ?_
  refine c_cond hF rfl (fun hb => ?_) (fun hb => ?_)
  ·
    have H := iteT (of_decide_eq_true hb) H
    rw [hb] at hF
    clear hb
    refine c_seq ?_
    refine reg_list ?_
    refine ls hF hW rfl ((y_assign (v := Value.string (bs ([97, 110, 121] : List UInt8))) hF rfl).q) (fun a w hF hW => ?_)
    refine ls_nil ?_
    refine c_then ?_
    refine wp_ret ?_
    refine r_then ?_
    have H := Option.some.inj H
    subst H
    refine post1 (.inl rfl) hF hW rfl (rv_tmp hF rfl) ?_
    exact ⟨rfl, hW.done⟩
  ·
    have H := iteF (of_decide_eq_false hb) H
    rw [hb] at hF
    clear hb
    refine wp_skip ?_
    refine c_then ?_
    refine c_seq ?_
    refine reg_list ?_
    refine ls hF hW rfl ((y_assign hF rfl).q) (fun a w hF hW => ?_)
    refine ls_nil ?_
    refine c_then ?_
    obtain ⟨o1, G1, K1⟩ := bindE H
    refine c_seqJ (fun a w => ∃ x1 : List (List UInt8), ∃ v1 : Value, some (x1) = some o1 ∧ Fr 40 [] [(1, .pointer (some ⟨b1, 0, none⟩)), (2, .string (bs ([] : List UInt8))), (3, v1)] a ∧ Stw ⟨Y, [], w0⟩ [(b1, [.int .i64 p0.1, .int .i64 p0.2.1.1, .int .i64 p0.2.1.2.1, .int .i64 p0.2.1.2.2.1, .int .i64 p0.2.1.2.2.2, .int .i64 p0.2.2.1, .int .i64 p0.2.2.2.1, .int .i64 p0.2.2.2.2.1, .int .i64 p0.2.2.2.2.2])] [row v1 9 Rp.str x1] w) ?_ ?_
    ·
      have H := G1
      clear G1 K1
      refine c_seq ?_
      refine reg_list ?_
      refine ls hF hW rfl ((y_fieldAddr Tryd.underlying24 rfl rfl rfl T3 hF rfl 0 rfl).q) (fun a w hF hW => ?_)
      refine ls hF hW rfl ((y_load (v := Value.int .i64 p0.1) 0 hF rfl rfl T3 rfl).q) (fun a w hF hW => ?_)
      refine ls hF hW rfl ((y_neq hF rfl rfl).q) (fun a w hF hW => ?_)
      refine ls_nil ?_
      refine c_then ?_
      refine c_cond hF rfl (fun hb => ?_) (fun hb => ?_)
      ·
        have H := iteT (of_decide_eq_true hb) H
        rw [hb] at hF
        clear hb
        refine reg_list ?_
        refine ls hF hW rfl ((y_move hF rfl).q) (fun a w hF hW => ?_)
        refine ls hF hW rfl ((y_fieldAddr Tryd.underlying24 rfl rfl rfl T3 hF rfl 0 rfl).q) (fun a w hF hW => ?_)
        refine ls hF hW rfl ((y_load (v := Value.int .i64 p0.1) 0 hF rfl rfl T3 rfl).q) (fun a w hF hW => ?_)
        obtain ⟨x2, h1, H⟩ := bindE H
        refine ls hF hW rfl (y_call (v := Value.string (bs x2)) hF H42 rfl (fun w hW => itoa_c any w p0.1 _ h1 (hG.go0 hW))) (fun a w hF hW => ?_)
        obtain ⟨x3, h2, H⟩ := bindE H
        refine ls hF hW rfl ((y_sadd (l := ([112, 111, 114, 116, 32] : List UInt8)) (m := x2) hF rfl rfl h2).q) (fun a w hF hW => ?_)
        refine l_lit (z := Value.string (bs ([] : List UInt8))) (cs := [.string (bs x3)]) Rp.str ([x3] : List (List UInt8)) hF hW rfl L66 Z9 rfl rfl rfl rfl rfl rfl (Fl.str.repL _ _ ([x3] : List (List UInt8))) (fun v2 a w hF hW => ?_)
        have hW := hW.nilRow 9 Rp.str
        obtain ⟨x4, h3, H⟩ := bindE H
        refine l_append (r := Rp.str) (i := 0) hF hW rfl L66 rfl rfl rfl rfl (src_row hW 1 rfl) h3 rfl (fun v3 a w hF hW => ?_)
        have hW : Stw ⟨Y, [], w0⟩ [(b1, [.int .i64 p0.1, .int .i64 p0.2.1.1, .int .i64 p0.2.1.2.1, .int .i64 p0.2.1.2.2.1, .int .i64 p0.2.1.2.2.2, .int .i64 p0.2.2.1, .int .i64 p0.2.2.2.1, .int .i64 p0.2.2.2.2.1, .int .i64 p0.2.2.2.2.2])] [row v3 9 Rp.str x4, row v2 9 Rp.str ([x3] : List (List UInt8))] w := hW
        refine ls hF hW rfl ((y_assign hF rfl).q) (fun a w hF hW => ?_)
        refine ls_nil ?_
        refine c_then ?_
        have hW := hW.sub (M' := [(b1, [.int .i64 p0.1, .int .i64 p0.2.1.1, .int .i64 p0.2.1.2.1, .int .i64 p0.2.1.2.2.1, .int .i64 p0.2.1.2.2.2, .int .i64 p0.2.2.1, .int .i64 p0.2.2.2.1, .int .i64 p0.2.2.2.2.1, .int .i64 p0.2.2.2.2.2])]) (Z' := [row v3 9 Rp.str x4]) (List.Sublist.refl _) (List.Sublist.cons_cons _ (List.nil_sublist _))
        exact ⟨_, (v3), H, hF.re ⟨rfl, rfl, rfl, trivial⟩, hW⟩
      ·
        have H := iteF (of_decide_eq_false hb) H
        rw [hb] at hF
        clear hb
        refine wp_skip ?_
        refine c_then ?_
        have hW := hW.nilRow 9 Rp.str
        exact ⟨_, (Value.slice none 0 0), H, hF.re ⟨rfl, rfl, rfl, trivial⟩, hW⟩
    rintro a w ⟨x1, v1, hj, hF, hW⟩
    have hj := Option.some.inj hj
    subst hj
    have H := K1
    clear G1 K1
    obtain ⟨o2, G2, K2⟩ := bindE H
    refine c_seqJ (fun a w => ∃ x5 : List (List UInt8), ∃ v4 : Value, some (x5) = some o2 ∧ Fr 40 [] [(2, .string (bs ([] : List UInt8))), (3, v4)] a ∧ Stw ⟨Y, [], w0⟩ [(b1, [.int .i64 p0.1, .int .i64 p0.2.1.1, .int .i64 p0.2.1.2.1, .int .i64 p0.2.1.2.2.1, .int .i64 p0.2.1.2.2.2, .int .i64 p0.2.2.1, .int .i64 p0.2.2.2.1, .int .i64 p0.2.2.2.2.1, .int .i64 p0.2.2.2.2.2])] [row v4 9 Rp.str x5] w) ?_ ?_
    ·
      have H := G2
      clear G2 K2
      refine c_seq ?_
      refine reg_list ?_
      refine ls hF hW rfl ((y_fieldAddr Tryd.underlying24 rfl rfl rfl T22 hF rfl 5 rfl).q) (fun a w hF hW => ?_)
      refine ls hF hW rfl ((y_load (v := Value.agg #[.int .i64 p0.2.2.1, .int .i64 p0.2.2.2.1, .int .i64 p0.2.2.2.2.1, .int .i64 p0.2.2.2.2.2]) 0 hF rfl rfl T22 rfl).q) (fun a w hF hW => ?_)
      refine ls hF hW rfl ((y_move hF rfl).q) (fun a w hF hW => ?_)
      refine ls_nil ?_
      refine c_then ?_
      refine wp_block ?_
      refine c_loopW H (fun s a w => ∃ v5 : Value, Fr 40 [] [(1, .pointer (some ⟨b1, 0, none⟩)), (2, .string (bs ([] : List UInt8))), (3, v5), (20, .agg #[.int .i64 p0.2.2.1, .int .i64 p0.2.2.2.1, .int .i64 p0.2.2.2.2.1, .int .i64 p0.2.2.2.2.2]), (21, .int .i64 s.2)] a ∧ Stw ⟨Y, [], w0⟩ [(b1, [.int .i64 p0.1, .int .i64 p0.2.1.1, .int .i64 p0.2.1.2.1, .int .i64 p0.2.1.2.2.1, .int .i64 p0.2.1.2.2.2, .int .i64 p0.2.2.1, .int .i64 p0.2.2.2.1, .int .i64 p0.2.2.2.2.1, .int .i64 p0.2.2.2.2.2])] [row v5 9 Rp.str s.1] w) ⟨(v1), hF.re ⟨rfl, rfl, rfl, rfl, rfl, trivial⟩, hW⟩ (fun s o a w H L3 hR => ?_)
      obtain ⟨x6, x7⟩ := s
      obtain ⟨v5, hF, hW⟩ := hR
      have hF : Fr 40 [] [(1, .pointer (some ⟨b1, 0, none⟩)), (2, .string (bs ([] : List UInt8))), (3, v5), (20, .agg #[.int .i64 p0.2.2.1, .int .i64 p0.2.2.2.1, .int .i64 p0.2.2.2.2.1, .int .i64 p0.2.2.2.2.2]), (21, .int .i64 x7)] a := hF
      have hW : Stw ⟨Y, [], w0⟩ [(b1, [.int .i64 p0.1, .int .i64 p0.2.1.1, .int .i64 p0.2.1.2.1, .int .i64 p0.2.1.2.2.1, .int .i64 p0.2.1.2.2.2, .int .i64 p0.2.2.1, .int .i64 p0.2.2.2.1, .int .i64 p0.2.2.2.2.1, .int .i64 p0.2.2.2.2.2])] [row v5 9 Rp.str x6] w := hW
      rw [match_Text_l1] at H
      refine c_seq ?_
      refine reg_list ?_
      refine ls hF hW rfl ((y_lss hF rfl rfl).q) (fun a w hF hW => ?_)
      refine ls_nil ?_
      refine c_then ?_
      refine c_seq ?_
      refine c_cond hF rfl (fun hb => ?_) (fun hb => ?_)
      ·
        have H := iteT (of_decide_eq_true hb) H
        rw [hb] at hF
        clear hb
        refine wp_skip ?_
        refine c_then ?_
        obtain ⟨o4, G4, K4⟩ := bindE H
        refine c_seqJ (fun a w => ∃ x8 : List (List UInt8), ∃ v6 : Value, some (x8) = some o4 ∧ Fr 40 [] [(1, .pointer (some ⟨b1, 0, none⟩)), (2, .string (bs ([] : List UInt8))), (3, v6), (20, .agg #[.int .i64 p0.2.2.1, .int .i64 p0.2.2.2.1, .int .i64 p0.2.2.2.2.1, .int .i64 p0.2.2.2.2.2]), (21, .int .i64 x7)] a ∧ Stw ⟨Y, [], w0⟩ [(b1, [.int .i64 p0.1, .int .i64 p0.2.1.1, .int .i64 p0.2.1.2.1, .int .i64 p0.2.1.2.2.1, .int .i64 p0.2.1.2.2.2, .int .i64 p0.2.2.1, .int .i64 p0.2.2.2.1, .int .i64 p0.2.2.2.2.1, .int .i64 p0.2.2.2.2.2])] [row v6 9 Rp.str x8] w) ?_ ?_
        ·
          have H := G4
          clear G4 K4
          refine wp_block ?_
          refine c_seq ?_
          refine reg_list ?_
          refine ls hF hW rfl ((y_move hF rfl).q) (fun a w hF hW => ?_)
          obtain ⟨x9, h4, H⟩ := bindE H
          refine ls hF hW rfl ((y_indexA (enc := Value.int .i64) (cs := [.int .i64 p0.2.2.1, .int .i64 p0.2.2.2.1, .int .i64 p0.2.2.2.2.1, .int .i64 p0.2.2.2.2.2]) Ar22 T3 hF rfl rfl rfl rfl h4).q) (fun a w hF hW => ?_)
          refine ls hF hW rfl ((y_assign hF rfl).q) (fun a w hF hW => ?_)
          refine ls hF hW rfl ((y_assign hF rfl).q) (fun a w hF hW => ?_)
          refine ls_nil ?_
          refine c_then ?_
          refine c_seq ?_
          refine reg_list ?_
          refine ls hF hW rfl ((y_move hF rfl).q) (fun a w hF hW => ?_)
          refine ls hF hW rfl ((y_neq hF rfl rfl).q) (fun a w hF hW => ?_)
          refine ls_nil ?_
          refine c_then ?_
          refine c_cond hF rfl (fun hb => ?_) (fun hb => ?_)
          ·
            have H := iteT (of_decide_eq_true hb) H
            rw [hb] at hF
            clear hb
            refine reg_list ?_
            refine ls hF hW rfl ((y_move hF rfl).q) (fun a w hF hW => ?_)
            refine ls hF hW rfl ((y_move hF rfl).q) (fun a w hF hW => ?_)
            refine ls hF hW rfl ((y_move hF rfl).q) (fun a w hF hW => ?_)
            refine ls hF hW rfl ((y_fieldAddr Tryd.underlying24 rfl rfl rfl T22 hF rfl 1 rfl).q) (fun a w hF hW => ?_)
            obtain ⟨x10, h5, H⟩ := bindE H
            refine ls hF hW rfl ((y_indexP (1 + (x7).toNat * 1) Ar22 hF rfl rfl rfl h5 rfl).q) (fun a w hF hW => ?_)
            refine ls hF hW rfl ((y_load (v := Value.int .i64 x10) 0 hF rfl rfl T3 (rdv_dyn (base := 1) (m := 4) (l := [p0.2.1.1, p0.2.1.2.1, p0.2.1.2.2.1, p0.2.1.2.2.2]) (enc := Value.int .i64) rfl h5)).q) (fun a w hF hW => ?_)
            refine ls hF hW rfl ((y_move hF rfl).q) (fun a w hF hW => ?_)
            obtain ⟨x11, h6, H⟩ := bindE H
            refine ls hF hW rfl (y_call (v := Value.string (bs x11)) hF H43 rfl (fun w hW => match_fieldText_c any w x7 x10 x9 _ h6 (hG.go0 hW))) (fun a w hF hW => ?_)
            refine l_lit (z := Value.string (bs ([] : List UInt8))) (cs := [.string (bs x11)]) Rp.str ([x11] : List (List UInt8)) hF hW rfl L66 Z9 rfl rfl rfl rfl rfl rfl (Fl.str.repL _ _ ([x11] : List (List UInt8))) (fun v7 a w hF hW => ?_)
            obtain ⟨x12, h7, H⟩ := bindE H
            refine l_append (r := Rp.str) (i := 1) hF hW rfl L66 rfl rfl rfl rfl (src_row hW 0 rfl) h7 rfl (fun v8 a w hF hW => ?_)
            have hW : Stw ⟨Y, [], w0⟩ [(b1, [.int .i64 p0.1, .int .i64 p0.2.1.1, .int .i64 p0.2.1.2.1, .int .i64 p0.2.1.2.2.1, .int .i64 p0.2.1.2.2.2, .int .i64 p0.2.2.1, .int .i64 p0.2.2.2.1, .int .i64 p0.2.2.2.2.1, .int .i64 p0.2.2.2.2.2])] [row v8 9 Rp.str x12, row v7 9 Rp.str ([x11] : List (List UInt8))] w := hW
            refine ls hF hW rfl ((y_assign hF rfl).q) (fun a w hF hW => ?_)
            refine ls_nil ?_
            refine b_normal ?_
            refine c_then ?_
            have hW := hW.sub (M' := [(b1, [.int .i64 p0.1, .int .i64 p0.2.1.1, .int .i64 p0.2.1.2.1, .int .i64 p0.2.1.2.2.1, .int .i64 p0.2.1.2.2.2, .int .i64 p0.2.2.1, .int .i64 p0.2.2.2.1, .int .i64 p0.2.2.2.2.1, .int .i64 p0.2.2.2.2.2])]) (Z' := [row v8 9 Rp.str x12]) (List.Sublist.refl _) (List.Sublist.cons_cons _ (List.nil_sublist _))
            exact ⟨_, (v8), H, hF.re ⟨rfl, rfl, rfl, rfl, rfl, trivial⟩, hW⟩
          ·
            have H := iteF (of_decide_eq_false hb) H
            rw [hb] at hF
            clear hb
            refine wp_skip ?_
            refine b_normal ?_
            refine c_then ?_
            exact ⟨_, (v5), H, hF.re ⟨rfl, rfl, rfl, rfl, rfl, trivial⟩, hW⟩
        rintro a w ⟨x8, v6, hj, hF, hW⟩
        have hj := Option.some.inj hj
        subst hj
        have H := K4
        clear G4 K4
        refine reg_list ?_
        refine ls hF hW rfl ((y_add hF rfl rfl rfl).q) (fun a w hF hW => ?_)
        refine ls hF hW rfl ((y_move hF rfl).q) (fun a w hF hW => ?_)
        refine ls_nil ?_
        refine c_then ?_
        exact ⟨_, H, (v6), hF.re ⟨rfl, rfl, rfl, rfl, rfl, trivial⟩, hW⟩
      ·
        have H := iteF (of_decide_eq_false hb) H
        rw [hb] at hF
        clear hb
        refine wp_exit ?_
        refine e_then ?_
        refine e_then ?_
        refine e_block ?_
        refine c_then ?_
        have H := L3 _ H
        exact ⟨_, (v5), H, hF.re ⟨rfl, rfl, trivial⟩, hW⟩
    rintro a w ⟨x5, v4, hj, hF, hW⟩
    have hj := Option.some.inj hj
    subst hj
    have H := K2
    clear G2 K2
    refine c_seq ?_
    refine reg_list ?_
    refine ls hF hW rfl ((y_move hF rfl).q) (fun a w hF hW => ?_)
    obtain ⟨x13, h8, H⟩ := bindE H
    refine ls hF hW rfl (y_call (v := Value.string (bs x13)) hF H44 rfl (fun w hW => join_c any w (v4) x5 ([44, 32] : List UInt8) _ h8 (((rdc_row 0 rfl) : Rdc _ _ _ _ _ _) w hW).nx)) (fun a w hF hW => ?_)
    refine ls hF hW rfl ((y_assign hF rfl).q) (fun a w hF hW => ?_)
    refine ls_nil ?_
    refine c_then ?_
    refine wp_ret ?_
    have H := Option.some.inj H
    subst H
    refine post1 (.inl rfl) hF hW rfl (rv_tmp hF rfl) ?_
    exact ⟨rfl, hW.done⟩

theorem H24 : Has Tryd.prog 24 := ⟨fun args w => run_callFunc_body Tryd.func24 rfl (by decide) args w⟩
noncomputable def L08_awake  : Option Bool := ((match_Of 1 3).bind fun x2 => (match_Hits x2 0 (1, 3, 0, 0)).bind fun x3 => (if x3 = true then (match_Of 1 3).bind fun x4 => (match_Hits x4 0 (1, 2, 0, 0)).bind fun x5 => (if (!x5) = true then (match_Hits (match_Any.1, (match_Any.2.1.1, 2, match_Any.2.1.2.2.1, match_Any.2.1.2.2.2), (match_Any.2.2.1, 2, match_Any.2.2.2.2.1, match_Any.2.2.2.2.2)) 5 (0, 7, 0, 0)).bind fun x6 => (if x6 = true then (match_Hits (match_Any.1, (match_Any.2.1.1, 2, match_Any.2.1.2.2.1, match_Any.2.1.2.2.2), (match_Any.2.2.1, 2, match_Any.2.2.2.2.1, match_Any.2.2.2.2.2)) 5 (0, 5, 0, 0)).bind fun x7 => (if (!x7) = true then (match_Right (match_Any.1, (match_Any.2.1.1, 2, match_Any.2.1.2.2.1, match_Any.2.1.2.2.2), (match_Any.2.2.1, 2, match_Any.2.2.2.2.1, match_Any.2.2.2.2.2))).bind fun x8 => (if x8 = true then (match_Text (match_Any.1, (match_Any.2.1.1, 2, match_Any.2.1.2.2.1, match_Any.2.1.2.2.2), (match_Any.2.2.1, 2, match_Any.2.2.2.2.1, match_Any.2.2.2.2.2))).bind fun x9 => some (decide (x9 = ([100, 115, 116, 32, 50, 47, 50] : List UInt8))) else some false) else some false) else some false) else some false) else some false)).bind fun x1 => some x1
theorem L08_awake_c (Y : Nat → Prop) (w0 : World)   (r : Bool) (H : L08_awake  = some r) (hG : Gk [] w0) :
    Calls Tryd.prog 13 #[] w0 fun e w' => e = .returned (.bool r) ∧ Below w0.heap.size w0 w' := by
  refine enter Tryd.func13 rfl Tryd.ntmps13 rfl (fun a hF => ?_)
  have hW := Stw.start Y w0
  unfold L08_awake at H
  refine c_seq ?_
  refine reg_list ?_
  refine ls hF hW rfl ((y_assign hF rfl).q) (fun a w hF hW => ?_)
  refine ls_nil ?_
  refine c_then ?_
  refine c_seq ?_
  refine reg_list ?_
  refine ls hF hW rfl (y_call (v := Value.agg #[.int .i64 match_Any.1, .int .i64 match_Any.2.1.1, .int .i64 match_Any.2.1.2.1, .int .i64 match_Any.2.1.2.2.1, .int .i64 match_Any.2.1.2.2.2, .int .i64 match_Any.2.2.1, .int .i64 match_Any.2.2.2.1, .int .i64 match_Any.2.2.2.2.1, .int .i64 match_Any.2.2.2.2.2]) hF H11 rfl (fun w hW => match_Any_c any w _ rfl)) (fun a w hF hW => ?_)
  refine l_alloc (cs := [.int .i64 0, .int .i64 0, .int .i64 0, .int .i64 0, .int .i64 0, .int .i64 0, .int .i64 0, .int .i64 0, .int .i64 0]) hF hW rfl Z24 rfl (fun b1 a w hF hW => ?_)
  refine l_store (vs := [.int .i64 match_Any.1, .int .i64 match_Any.2.1.1, .int .i64 match_Any.2.1.2.1, .int .i64 match_Any.2.1.2.2.1, .int .i64 match_Any.2.1.2.2.2, .int .i64 match_Any.2.2.1, .int .i64 match_Any.2.2.2.1, .int .i64 match_Any.2.2.2.2.1, .int .i64 match_Any.2.2.2.2.2]) (M' := [(b1, [.int .i64 match_Any.1, .int .i64 match_Any.2.1.1, .int .i64 match_Any.2.1.2.1, .int .i64 match_Any.2.1.2.2.1, .int .i64 match_Any.2.1.2.2.2, .int .i64 match_Any.2.2.1, .int .i64 match_Any.2.2.2.1, .int .i64 match_Any.2.2.2.2.1, .int .i64 match_Any.2.2.2.2.2])]) 0 hF hW rfl rfl rfl T24 rfl rfl rfl rfl rfl (fun w hW => ?_)
  refine ls_nil ?_
  refine c_then ?_
  refine c_seq ?_
  refine reg_list ?_
  refine ls hF hW rfl ((y_fieldAddr Tryd.underlying24 rfl rfl rfl T22 hF rfl 1 rfl).q) (fun a w hF hW => ?_)
  refine ls hF hW rfl ((y_indexP (l := [(), (), (), ()]) (i := 1) 2 Ar22 hF rfl rfl rfl rfl rfl).q) (fun a w hF hW => ?_)
  refine l_store (vs := [.int .i64 2]) (M' := [(b1, [.int .i64 match_Any.1, .int .i64 match_Any.2.1.1, .int .i64 2, .int .i64 match_Any.2.1.2.2.1, .int .i64 match_Any.2.1.2.2.2, .int .i64 match_Any.2.2.1, .int .i64 match_Any.2.2.2.1, .int .i64 match_Any.2.2.2.2.1, .int .i64 match_Any.2.2.2.2.2])]) 0 hF hW rfl rfl rfl T3 rfl rfl rfl rfl rfl (fun w hW => ?_)
  refine ls hF hW rfl ((y_fieldAddr Tryd.underlying24 rfl rfl rfl T22 hF rfl 5 rfl).q) (fun a w hF hW => ?_)
  refine ls hF hW rfl ((y_indexP (l := [(), (), (), ()]) (i := 1) 6 Ar22 hF rfl rfl rfl rfl rfl).q) (fun a w hF hW => ?_)
  refine l_store (vs := [.int .i64 2]) (M' := [(b1, [.int .i64 match_Any.1, .int .i64 match_Any.2.1.1, .int .i64 2, .int .i64 match_Any.2.1.2.2.1, .int .i64 match_Any.2.1.2.2.2, .int .i64 match_Any.2.2.1, .int .i64 2, .int .i64 match_Any.2.2.2.2.1, .int .i64 match_Any.2.2.2.2.2])]) 0 hF hW rfl rfl rfl T3 rfl rfl rfl rfl rfl (fun w hW => ?_)
  refine ls_nil ?_
  refine c_then ?_
  obtain ⟨o1, G1, K1⟩ := bindE H
  refine c_seqJ (fun a w => ∃ x1 : Bool, some (x1) = some o1 ∧ Fr 36 [] [(0, .bool x1)] a ∧ Stw ⟨Y, [], w0⟩ [(b1, [.int .i64 match_Any.1, .int .i64 match_Any.2.1.1, .int .i64 2, .int .i64 match_Any.2.1.2.2.1, .int .i64 match_Any.2.1.2.2.2, .int .i64 match_Any.2.2.1, .int .i64 2, .int .i64 match_Any.2.2.2.2.1, .int .i64 match_Any.2.2.2.2.2])] [] w) ?_ ?_
  ·
    have H := G1
    clear G1 K1
    refine reg_list ?_
    obtain ⟨x2, h1, H⟩ := bindE H
    refine ls hF hW rfl (y_call (v := Value.agg #[.int .i64 x2.1, .int .i64 x2.2.1.1, .int .i64 x2.2.1.2.1, .int .i64 x2.2.1.2.2.1, .int .i64 x2.2.1.2.2.2, .int .i64 x2.2.2.1, .int .i64 x2.2.2.2.1, .int .i64 x2.2.2.2.2.1, .int .i64 x2.2.2.2.2.2]) hF H9 rfl (fun w hW => match_Of_c any w 1 3 _ h1)) (fun a w hF hW => ?_)
    refine ls hF hW rfl ((y_buildA (v := Value.agg #[.int .i64 1, .int .i64 3, .int .i64 0, .int .i64 0]) Ar25 ZA25 hF rfl rfl rfl).q) (fun a w hF hW => ?_)
    obtain ⟨x3, h2, H⟩ := bindE H
    refine ls hF hW rfl (y_call (v := Value.bool x3) hF H16 rfl (fun w hW => match_Hits_c any w x2 0 (1, 3, 0, 0) _ h2)) (fun a w hF hW => ?_)
    refine ls hF hW rfl ((y_move hF rfl).q) (fun a w hF hW => ?_)
    rcases Bool.eq_false_or_eq_true x3 with hb | hb
    ·
      have H := iteT hb H
      rw [hb] at hF
      clear hb
      refine ls_g (wanted_y hF rfl rfl rfl rfl) ?_
      obtain ⟨x4, h3, H⟩ := bindE H
      refine ls hF hW rfl (y_call (v := Value.agg #[.int .i64 x4.1, .int .i64 x4.2.1.1, .int .i64 x4.2.1.2.1, .int .i64 x4.2.1.2.2.1, .int .i64 x4.2.1.2.2.2, .int .i64 x4.2.2.1, .int .i64 x4.2.2.2.1, .int .i64 x4.2.2.2.2.1, .int .i64 x4.2.2.2.2.2]) hF H9 rfl (fun w hW => match_Of_c any w 1 3 _ h3)) (fun a w hF hW => ?_)
      refine ls_w hF hW (wanted_y hF rfl rfl rfl rfl) rfl (Nat.le_of_ble_eq_true rfl) ((y_buildA (v := Value.agg #[.int .i64 1, .int .i64 2, .int .i64 0, .int .i64 0]) Ar25 ZA25 hF rfl rfl rfl).q) (fun a w hF hW => ?_)
      refine ls_g (wanted_y hF rfl rfl rfl rfl) ?_
      obtain ⟨x5, h4, H⟩ := bindE H
      refine ls hF hW rfl (y_call (v := Value.bool x5) hF H16 rfl (fun w hW => match_Hits_c any w x4 0 (1, 2, 0, 0) _ h4)) (fun a w hF hW => ?_)
      refine ls_w hF hW (wanted_y hF rfl rfl rfl rfl) rfl (Nat.le_of_ble_eq_true rfl) ((y_not hF rfl).q) (fun a w hF hW => ?_)
      refine ls hF hW rfl ((y_pick_t hF rfl rfl rfl).q) (fun a w hF hW => ?_)
      refine ls hF hW rfl ((y_move hF rfl).q) (fun a w hF hW => ?_)
      rcases Bool.eq_false_or_eq_true (!x5) with hb | hb
      ·
        have H := iteT hb H
        rw [hb] at hF
        clear hb
        refine ls_w hF hW (wanted_y hF rfl rfl rfl rfl) rfl (Nat.le_of_ble_eq_true rfl) ((y_load (v := Value.agg #[.int .i64 match_Any.1, .int .i64 match_Any.2.1.1, .int .i64 2, .int .i64 match_Any.2.1.2.2.1, .int .i64 match_Any.2.1.2.2.2, .int .i64 match_Any.2.2.1, .int .i64 2, .int .i64 match_Any.2.2.2.2.1, .int .i64 match_Any.2.2.2.2.2]) 0 hF rfl rfl T24 rfl).q) (fun a w hF hW => ?_)
        refine ls_w hF hW (wanted_y hF rfl rfl rfl rfl) rfl (Nat.le_of_ble_eq_true rfl) ((y_buildA (v := Value.agg #[.int .i64 0, .int .i64 7, .int .i64 0, .int .i64 0]) Ar25 ZA25 hF rfl rfl rfl).q) (fun a w hF hW => ?_)
        refine ls_g (wanted_y hF rfl rfl rfl rfl) ?_
        obtain ⟨x6, h5, H⟩ := bindE H
        refine ls hF hW rfl (y_call (v := Value.bool x6) hF H16 rfl (fun w hW => match_Hits_c any w (match_Any.1, (match_Any.2.1.1, 2, match_Any.2.1.2.2.1, match_Any.2.1.2.2.2), (match_Any.2.2.1, 2, match_Any.2.2.2.2.1, match_Any.2.2.2.2.2)) 5 (0, 7, 0, 0) _ h5)) (fun a w hF hW => ?_)
        refine ls hF hW rfl ((y_pick_t hF rfl rfl rfl).q) (fun a w hF hW => ?_)
        refine ls hF hW rfl ((y_move hF rfl).q) (fun a w hF hW => ?_)
        rcases Bool.eq_false_or_eq_true x6 with hb | hb
        ·
          have H := iteT hb H
          rw [hb] at hF
          clear hb
          refine ls_w hF hW (wanted_y hF rfl rfl rfl rfl) rfl (Nat.le_of_ble_eq_true rfl) ((y_load (v := Value.agg #[.int .i64 match_Any.1, .int .i64 match_Any.2.1.1, .int .i64 2, .int .i64 match_Any.2.1.2.2.1, .int .i64 match_Any.2.1.2.2.2, .int .i64 match_Any.2.2.1, .int .i64 2, .int .i64 match_Any.2.2.2.2.1, .int .i64 match_Any.2.2.2.2.2]) 0 hF rfl rfl T24 rfl).q) (fun a w hF hW => ?_)
          refine ls_w hF hW (wanted_y hF rfl rfl rfl rfl) rfl (Nat.le_of_ble_eq_true rfl) ((y_buildA (v := Value.agg #[.int .i64 0, .int .i64 5, .int .i64 0, .int .i64 0]) Ar25 ZA25 hF rfl rfl rfl).q) (fun a w hF hW => ?_)
          refine ls_g (wanted_y hF rfl rfl rfl rfl) ?_
          obtain ⟨x7, h6, H⟩ := bindE H
          refine ls hF hW rfl (y_call (v := Value.bool x7) hF H16 rfl (fun w hW => match_Hits_c any w (match_Any.1, (match_Any.2.1.1, 2, match_Any.2.1.2.2.1, match_Any.2.1.2.2.2), (match_Any.2.2.1, 2, match_Any.2.2.2.2.1, match_Any.2.2.2.2.2)) 5 (0, 5, 0, 0) _ h6)) (fun a w hF hW => ?_)
          refine ls_w hF hW (wanted_y hF rfl rfl rfl rfl) rfl (Nat.le_of_ble_eq_true rfl) ((y_not hF rfl).q) (fun a w hF hW => ?_)
          refine ls hF hW rfl ((y_pick_t hF rfl rfl rfl).q) (fun a w hF hW => ?_)
          refine ls hF hW rfl ((y_move hF rfl).q) (fun a w hF hW => ?_)
          rcases Bool.eq_false_or_eq_true (!x7) with hb | hb
          ·
            have H := iteT hb H
            rw [hb] at hF
            clear hb
            refine ls_w hF hW (wanted_y hF rfl rfl rfl rfl) rfl (Nat.le_of_ble_eq_true rfl) ((y_load (v := Value.agg #[.int .i64 match_Any.1, .int .i64 match_Any.2.1.1, .int .i64 2, .int .i64 match_Any.2.1.2.2.1, .int .i64 match_Any.2.1.2.2.2, .int .i64 match_Any.2.2.1, .int .i64 2, .int .i64 match_Any.2.2.2.2.1, .int .i64 match_Any.2.2.2.2.2]) 0 hF rfl rfl T24 rfl).q) (fun a w hF hW => ?_)
            refine ls_g (wanted_y hF rfl rfl rfl rfl) ?_
            obtain ⟨x8, h7, H⟩ := bindE H
            refine ls hF hW rfl (y_call (v := Value.bool x8) hF H7 rfl (fun w hW => match_Right_c any w (match_Any.1, (match_Any.2.1.1, 2, match_Any.2.1.2.2.1, match_Any.2.1.2.2.2), (match_Any.2.2.1, 2, match_Any.2.2.2.2.1, match_Any.2.2.2.2.2)) _ h7)) (fun a w hF hW => ?_)
            refine ls hF hW rfl ((y_pick_t hF rfl rfl rfl).q) (fun a w hF hW => ?_)
            refine ls hF hW rfl ((y_move hF rfl).q) (fun a w hF hW => ?_)
            rcases Bool.eq_false_or_eq_true x8 with hb | hb
            ·
              have H := iteT hb H
              rw [hb] at hF
              clear hb
              refine ls_w hF hW (wanted_y hF rfl rfl rfl rfl) rfl (Nat.le_of_ble_eq_true rfl) ((y_load (v := Value.agg #[.int .i64 match_Any.1, .int .i64 match_Any.2.1.1, .int .i64 2, .int .i64 match_Any.2.1.2.2.1, .int .i64 match_Any.2.1.2.2.2, .int .i64 match_Any.2.2.1, .int .i64 2, .int .i64 match_Any.2.2.2.2.1, .int .i64 match_Any.2.2.2.2.2]) 0 hF rfl rfl T24 rfl).q) (fun a w hF hW => ?_)
              refine ls_g (wanted_y hF rfl rfl rfl rfl) ?_
              obtain ⟨x9, h8, H⟩ := bindE H
              refine ls hF hW rfl (y_call (v := Value.string (bs x9)) hF H24 rfl (fun w hW => match_Text_c any w (match_Any.1, (match_Any.2.1.1, 2, match_Any.2.1.2.2.1, match_Any.2.1.2.2.2), (match_Any.2.2.1, 2, match_Any.2.2.2.2.1, match_Any.2.2.2.2.2)) _ h8 (hG.go0 hW))) (fun a w hF hW => ?_)
              refine ls_w hF hW (wanted_y hF rfl rfl rfl rfl) rfl (Nat.le_of_ble_eq_true rfl) ((y_seq (l := x9) (m := ([100, 115, 116, 32, 50, 47, 50] : List UInt8)) hF rfl rfl).q) (fun a w hF hW => ?_)
              refine ls hF hW rfl ((y_pick_t hF rfl rfl rfl).q) (fun a w hF hW => ?_)
              refine ls hF hW rfl ((y_assign hF rfl).q) (fun a w hF hW => ?_)
              refine ls_nil ?_
              refine c_then ?_
              exact ⟨_, H, hF.re ⟨rfl, trivial⟩, hW⟩
            ·
              have H := iteF (by rw [hb]; decide) H
              rw [hb] at hF
              clear hb
              refine ls_skip hF (wanted_n hF rfl rfl rfl rfl rfl) rfl rfl (fun a hF => ?_)
              refine ls_skip hF (wanted_n hF rfl rfl rfl rfl rfl) rfl rfl (fun a hF => ?_)
              refine ls_skip hF (wanted_n hF rfl rfl rfl rfl rfl) rfl rfl (fun a hF => ?_)
              refine ls hF hW rfl ((y_pick_f hF rfl rfl rfl).q) (fun a w hF hW => ?_)
              refine ls hF hW rfl ((y_assign hF rfl).q) (fun a w hF hW => ?_)
              refine ls_nil ?_
              refine c_then ?_
              exact ⟨_, H, hF.re ⟨rfl, trivial⟩, hW⟩
          ·
            have H := iteF (by rw [hb]; decide) H
            rw [hb] at hF
            clear hb
            refine ls_skip hF (wanted_n hF rfl rfl rfl rfl rfl) rfl rfl (fun a hF => ?_)
            refine ls_skip hF (wanted_n hF rfl rfl rfl rfl rfl) rfl rfl (fun a hF => ?_)
            refine ls hF hW rfl ((y_pick_f hF rfl rfl rfl).q) (fun a w hF hW => ?_)
            refine ls hF hW rfl ((y_move hF rfl).q) (fun a w hF hW => ?_)
            refine ls_skip hF (wanted_n hF rfl rfl rfl rfl rfl) rfl rfl (fun a hF => ?_)
            refine ls_skip hF (wanted_n hF rfl rfl rfl rfl rfl) rfl rfl (fun a hF => ?_)
            refine ls_skip hF (wanted_n hF rfl rfl rfl rfl rfl) rfl rfl (fun a hF => ?_)
            refine ls hF hW rfl ((y_pick_f hF rfl rfl rfl).q) (fun a w hF hW => ?_)
            refine ls hF hW rfl ((y_assign hF rfl).q) (fun a w hF hW => ?_)
            refine ls_nil ?_
            refine c_then ?_
            exact ⟨_, H, hF.re ⟨rfl, trivial⟩, hW⟩
        ·
          have H := iteF (by rw [hb]; decide) H
          rw [hb] at hF
          clear hb
          refine ls_skip hF (wanted_n hF rfl rfl rfl rfl rfl) rfl rfl (fun a hF => ?_)
          refine ls_skip hF (wanted_n hF rfl rfl rfl rfl rfl) rfl rfl (fun a hF => ?_)
          refine ls_skip hF (wanted_n hF rfl rfl rfl rfl rfl) rfl rfl (fun a hF => ?_)
          refine ls_skip hF (wanted_n hF rfl rfl rfl rfl rfl) rfl rfl (fun a hF => ?_)
          refine ls hF hW rfl ((y_pick_f hF rfl rfl rfl).q) (fun a w hF hW => ?_)
          refine ls hF hW rfl ((y_move hF rfl).q) (fun a w hF hW => ?_)
          refine ls_skip hF (wanted_n hF rfl rfl rfl rfl rfl) rfl rfl (fun a hF => ?_)
          refine ls_skip hF (wanted_n hF rfl rfl rfl rfl rfl) rfl rfl (fun a hF => ?_)
          refine ls hF hW rfl ((y_pick_f hF rfl rfl rfl).q) (fun a w hF hW => ?_)
          refine ls hF hW rfl ((y_move hF rfl).q) (fun a w hF hW => ?_)
          refine ls_skip hF (wanted_n hF rfl rfl rfl rfl rfl) rfl rfl (fun a hF => ?_)
          refine ls_skip hF (wanted_n hF rfl rfl rfl rfl rfl) rfl rfl (fun a hF => ?_)
          refine ls_skip hF (wanted_n hF rfl rfl rfl rfl rfl) rfl rfl (fun a hF => ?_)
          refine ls hF hW rfl ((y_pick_f hF rfl rfl rfl).q) (fun a w hF hW => ?_)
          refine ls hF hW rfl ((y_assign hF rfl).q) (fun a w hF hW => ?_)
          refine ls_nil ?_
          refine c_then ?_
          exact ⟨_, H, hF.re ⟨rfl, trivial⟩, hW⟩
      ·
        have H := iteF (by rw [hb]; decide) H
        rw [hb] at hF
        clear hb
        refine ls_skip hF (wanted_n hF rfl rfl rfl rfl rfl) rfl rfl (fun a hF => ?_)
        refine ls_skip hF (wanted_n hF rfl rfl rfl rfl rfl) rfl rfl (fun a hF => ?_)
        refine ls_skip hF (wanted_n hF rfl rfl rfl rfl rfl) rfl rfl (fun a hF => ?_)
        refine ls hF hW rfl ((y_pick_f hF rfl rfl rfl).q) (fun a w hF hW => ?_)
        refine ls hF hW rfl ((y_move hF rfl).q) (fun a w hF hW => ?_)
        refine ls_skip hF (wanted_n hF rfl rfl rfl rfl rfl) rfl rfl (fun a hF => ?_)
        refine ls_skip hF (wanted_n hF rfl rfl rfl rfl rfl) rfl rfl (fun a hF => ?_)
        refine ls_skip hF (wanted_n hF rfl rfl rfl rfl rfl) rfl rfl (fun a hF => ?_)
        refine ls_skip hF (wanted_n hF rfl rfl rfl rfl rfl) rfl rfl (fun a hF => ?_)
        refine ls hF hW rfl ((y_pick_f hF rfl rfl rfl).q) (fun a w hF hW => ?_)
        refine ls hF hW rfl ((y_move hF rfl).q) (fun a w hF hW => ?_)
        refine ls_skip hF (wanted_n hF rfl rfl rfl rfl rfl) rfl rfl (fun a hF => ?_)
        refine ls_skip hF (wanted_n hF rfl rfl rfl rfl rfl) rfl rfl (fun a hF => ?_)
        refine ls hF hW rfl ((y_pick_f hF rfl rfl rfl).q) (fun a w hF hW => ?_)
        refine ls hF hW rfl ((y_move hF rfl).q) (fun a w hF hW => ?_)
        refine ls_skip hF (wanted_n hF rfl rfl rfl rfl rfl) rfl rfl (fun a hF => ?_)
        refine ls_skip hF (wanted_n hF rfl rfl rfl rfl rfl) rfl rfl (fun a hF => ?_)
        refine ls_skip hF (wanted_n hF rfl rfl rfl rfl rfl) rfl rfl (fun a hF => ?_)
        refine ls hF hW rfl ((y_pick_f hF rfl rfl rfl).q) (fun a w hF hW => ?_)
        refine ls hF hW rfl ((y_assign hF rfl).q) (fun a w hF hW => ?_)
        refine ls_nil ?_
        refine c_then ?_
        exact ⟨_, H, hF.re ⟨rfl, trivial⟩, hW⟩
    ·
      have H := iteF (by rw [hb]; decide) H
      rw [hb] at hF
      clear hb
      refine ls_skip hF (wanted_n hF rfl rfl rfl rfl rfl) rfl rfl (fun a hF => ?_)
      refine ls_skip hF (wanted_n hF rfl rfl rfl rfl rfl) rfl rfl (fun a hF => ?_)
      refine ls_skip hF (wanted_n hF rfl rfl rfl rfl rfl) rfl rfl (fun a hF => ?_)
      refine ls_skip hF (wanted_n hF rfl rfl rfl rfl rfl) rfl rfl (fun a hF => ?_)
      refine ls hF hW rfl ((y_pick_f hF rfl rfl rfl).q) (fun a w hF hW => ?_)
      refine ls hF hW rfl ((y_move hF rfl).q) (fun a w hF hW => ?_)
      refine ls_skip hF (wanted_n hF rfl rfl rfl rfl rfl) rfl rfl (fun a hF => ?_)
      refine ls_skip hF (wanted_n hF rfl rfl rfl rfl rfl) rfl rfl (fun a hF => ?_)
      refine ls_skip hF (wanted_n hF rfl rfl rfl rfl rfl) rfl rfl (fun a hF => ?_)
      refine ls hF hW rfl ((y_pick_f hF rfl rfl rfl).q) (fun a w hF hW => ?_)
      refine ls hF hW rfl ((y_move hF rfl).q) (fun a w hF hW => ?_)
      refine ls_skip hF (wanted_n hF rfl rfl rfl rfl rfl) rfl rfl (fun a hF => ?_)
      refine ls_skip hF (wanted_n hF rfl rfl rfl rfl rfl) rfl rfl (fun a hF => ?_)
      refine ls_skip hF (wanted_n hF rfl rfl rfl rfl rfl) rfl rfl (fun a hF => ?_)
      refine ls_skip hF (wanted_n hF rfl rfl rfl rfl rfl) rfl rfl (fun a hF => ?_)
      refine ls hF hW rfl ((y_pick_f hF rfl rfl rfl).q) (fun a w hF hW => ?_)
      refine ls hF hW rfl ((y_move hF rfl).q) (fun a w hF hW => ?_)
      refine ls_skip hF (wanted_n hF rfl rfl rfl rfl rfl) rfl rfl (fun a hF => ?_)
      refine ls_skip hF (wanted_n hF rfl rfl rfl rfl rfl) rfl rfl (fun a hF => ?_)
      refine ls hF hW rfl ((y_pick_f hF rfl rfl rfl).q) (fun a w hF hW => ?_)
      refine ls hF hW rfl ((y_move hF rfl).q) (fun a w hF hW => ?_)
      refine ls_skip hF (wanted_n hF rfl rfl rfl rfl rfl) rfl rfl (fun a hF => ?_)
      refine ls_skip hF (wanted_n hF rfl rfl rfl rfl rfl) rfl rfl (fun a hF => ?_)
      refine ls_skip hF (wanted_n hF rfl rfl rfl rfl rfl) rfl rfl (fun a hF => ?_)
      refine ls hF hW rfl ((y_pick_f hF rfl rfl rfl).q) (fun a w hF hW => ?_)
      refine ls hF hW rfl ((y_assign hF rfl).q) (fun a w hF hW => ?_)
      refine ls_nil ?_
      refine c_then ?_
      exact ⟨_, H, hF.re ⟨rfl, trivial⟩, hW⟩
  rintro a w ⟨x1, hj, hF, hW⟩
  have hj := Option.some.inj hj
  subst hj
  have H := K1
  clear G1 K1
  refine wp_ret ?_
  have H := Option.some.inj H
  subst H
  refine post1 (.inl rfl) hF hW rfl (rv_tmp hF rfl) ?_
  exact ⟨rfl, hW.done⟩

theorem H13 : Has Tryd.prog 13 := ⟨fun args w => run_callFunc_body Tryd.func13 rfl (by decide) args w⟩
noncomputable def match_Meet_l1 (p1 : Int × (Int × Int × Int × Int) × (Int × Int × Int × Int)) : (Int × Int × Int × Int × Int × Int × Int × Int × Int) → Option ((Int × Int × Int × Int × Int × Int × Int × Int × Int) ⊕ ((Int × Int × Int × Int × Int × Int × Int × Int) ⊕ ((Int × (Int × Int × Int × Int) × (Int × Int × Int × Int)) × Bool)))
  | (x10, x11, x12, x13, x14, x15, x16, x17, x18) => (if x10 < 4 then (ix ([x11, x12, x13, x14] : List Int) x10).bind fun x19 => (ix ([p1.2.1.1, p1.2.1.2.1, p1.2.1.2.2.1, p1.2.1.2.2.2] : List Int) x10).bind fun x20 => (ix ([x15, x16, x17, x18] : List Int) x10).bind fun x21 => (ix ([p1.2.2.1, p1.2.2.2.1, p1.2.2.2.2.1, p1.2.2.2.2.2] : List Int) x10).bind fun x22 => (if (andI .i64 (andI .i64 (xorI .i64 x19 x20) x21) x22) ≠ 0 then some (.inr (.inr ((0, (0, 0, 0, 0), (0, 0, 0, 0)), false))) else (ix ([x11, x12, x13, x14] : List Int) x10).bind fun x23 => (ix ([p1.2.1.1, p1.2.1.2.1, p1.2.1.2.2.1, p1.2.1.2.2.2] : List Int) x10).bind fun x24 => (ix ([x11, x12, x13, x14] : List Int) x10).bind fun x25 => (ix ([x15, x16, x17, x18] : List Int) x10).bind fun x26 => (ix ([p1.2.2.1, p1.2.2.2.1, p1.2.2.2.2.1, p1.2.2.2.2.2] : List Int) x10).bind fun x27 => (ix ([x15, x16, x17, x18] : List Int) x10).bind fun x28 => some (.inl (w64 (x10 + 1), (if x10 = 0 then orI .i64 x23 x24 else x11), (if x10 = 1 then orI .i64 x23 x24 else x12), (if x10 = 2 then orI .i64 x23 x24 else x13), (if x10 = 3 then orI .i64 x23 x24 else x14), (if x10 = 0 then orI .i64 x26 x27 else x15), (if x10 = 1 then orI .i64 x26 x27 else x16), (if x10 = 2 then orI .i64 x26 x27 else x17), (if x10 = 3 then orI .i64 x26 x27 else x18)))) else some (.inr (.inl (x11, x12, x13, x14, x15, x16, x17, x18))))
noncomputable def match_Meet (p0 : Int × (Int × Int × Int × Int) × (Int × Int × Int × Int)) (p1 : Int × (Int × Int × Int × Int) × (Int × Int × Int × Int)) : Option ((Int × (Int × Int × Int × Int) × (Int × Int × Int × Int)) × Bool) := (if p0.1 = (-1) then some p1.1 else some p0.1).bind fun x1 => (if (decide (p1.1 ≠ (-1)) && decide (x1 ≠ p1.1)) = true then some ((0, (0, 0, 0, 0), (0, 0, 0, 0)), false) else orR (loopW (match_Meet_l1 p1) (0, p0.2.1.1, p0.2.1.2.1, p0.2.1.2.2.1, p0.2.1.2.2.2, p0.2.2.1, p0.2.2.2.1, p0.2.2.2.2.1, p0.2.2.2.2.2)) fun (x2, x3, x4, x5, x6, x7, x8, x9) => some ((x1, (x2, x3, x4, x5), (x6, x7, x8, x9)), true))
theorem match_Meet_c (Y : Nat → Prop) (w0 : World)  (p0 : Int × (Int × Int × Int × Int) × (Int × Int × Int × Int)) (p1 : Int × (Int × Int × Int × Int) × (Int × Int × Int × Int)) (r : (Int × (Int × Int × Int × Int) × (Int × Int × Int × Int)) × Bool) (H : match_Meet p0 p1 = some r)  :
    Calls Tryd.prog 14 #[.agg #[.int .i64 p0.1, .int .i64 p0.2.1.1, .int .i64 p0.2.1.2.1, .int .i64 p0.2.1.2.2.1, .int .i64 p0.2.1.2.2.2, .int .i64 p0.2.2.1, .int .i64 p0.2.2.2.1, .int .i64 p0.2.2.2.2.1, .int .i64 p0.2.2.2.2.2], .agg #[.int .i64 p1.1, .int .i64 p1.2.1.1, .int .i64 p1.2.1.2.1, .int .i64 p1.2.1.2.2.1, .int .i64 p1.2.1.2.2.2, .int .i64 p1.2.2.1, .int .i64 p1.2.2.2.1, .int .i64 p1.2.2.2.2.1, .int .i64 p1.2.2.2.2.2]] w0 fun e w' => e = .returned (.tuple #[.agg #[.int .i64 r.1.1, .int .i64 r.1.2.1.1, .int .i64 r.1.2.1.2.1, .int .i64 r.1.2.1.2.2.1, .int .i64 r.1.2.1.2.2.2, .int .i64 r.1.2.2.1, .int .i64 r.1.2.2.2.1, .int .i64 r.1.2.2.2.2.1, .int .i64 r.1.2.2.2.2.2], .bool r.2]) ∧ Below w0.heap.size w0 w' := by
  refine enter Tryd.func14 rfl Tryd.ntmps14 rfl (fun a hF => ?_)
  have hW := Stw.start Y w0
  unfold match_Meet at H
  refine c_seq ?_
  refine reg_list ?_
  refine l_box (cs := [.int .i64 p0.1, .int .i64 p0.2.1.1, .int .i64 p0.2.1.2.1, .int .i64 p0.2.1.2.2.1, .int .i64 p0.2.1.2.2.2, .int .i64 p0.2.2.1, .int .i64 p0.2.2.2.1, .int .i64 p0.2.2.2.2.1, .int .i64 p0.2.2.2.2.2]) hF hW rfl rfl rfl (fun b1 a w hF hW => ?_)
  refine l_box (cs := [.int .i64 p1.1, .int .i64 p1.2.1.1, .int .i64 p1.2.1.2.1, .int .i64 p1.2.1.2.2.1, .int .i64 p1.2.1.2.2.2, .int .i64 p1.2.2.1, .int .i64 p1.2.2.2.1, .int .i64 p1.2.2.2.2.1, .int .i64 p1.2.2.2.2.2]) hF hW rfl rfl rfl (fun b2 a w hF hW => ?_)
  refine l_alloc (cs := [.int .i64 0, .int .i64 0, .int .i64 0, .int .i64 0, .int .i64 0, .int .i64 0, .int .i64 0, .int .i64 0, .int .i64 0]) hF hW rfl Z24 rfl (fun b3 a w hF hW => ?_)
  refine ls hF hW rfl ((y_assign hF rfl).q) (fun a w hF hW => ?_)
  refine ls_nil ?_
  refine c_then ?_
  obtain ⟨o1, G1, K1⟩ := bindE H
  refine c_seqJ (fun a w => ∃ x1 : Int, some (x1) = some o1 ∧ Fr 72 [] [(2, .pointer (some ⟨b1, 0, none⟩)), (3, .pointer (some ⟨b2, 0, none⟩)), (4, .pointer (some ⟨b3, 0, none⟩)), (5, .bool false)] a ∧ Stw ⟨Y, [], w0⟩ [(b3, [.int .i64 0, .int .i64 0, .int .i64 0, .int .i64 0, .int .i64 0, .int .i64 0, .int .i64 0, .int .i64 0, .int .i64 0]), (b2, [.int .i64 p1.1, .int .i64 p1.2.1.1, .int .i64 p1.2.1.2.1, .int .i64 p1.2.1.2.2.1, .int .i64 p1.2.1.2.2.2, .int .i64 p1.2.2.1, .int .i64 p1.2.2.2.1, .int .i64 p1.2.2.2.2.1, .int .i64 p1.2.2.2.2.2]), (b1, [.int .i64 x1, .int .i64 p0.2.1.1, .int .i64 p0.2.1.2.1, .int .i64 p0.2.1.2.2.1, .int .i64 p0.2.1.2.2.2, .int .i64 p0.2.2.1, .int .i64 p0.2.2.2.1, .int .i64 p0.2.2.2.2.1, .int .i64 p0.2.2.2.2.2])] [] w) ?_ ?_
  ·
    have H := G1
    clear G1 K1
    refine c_seq ?_
    refine reg_list ?_
    refine ls hF hW rfl ((y_fieldAddr Tryd.underlying24 rfl rfl rfl T3 hF rfl 0 rfl).q) (fun a w hF hW => ?_)
    refine ls hF hW rfl ((y_load (v := Value.int .i64 p0.1) 2 hF rfl rfl T3 rfl).q) (fun a w hF hW => ?_)
    refine ls hF hW rfl ((y_eql hF rfl rfl).q) (fun a w hF hW => ?_)
    refine ls_nil ?_
    refine c_then ?_
    refine c_cond hF rfl (fun hb => ?_) (fun hb => ?_)
    ·
      have H := iteT (of_decide_eq_true hb) H
      rw [hb] at hF
      clear hb
      refine reg_list ?_
      refine ls hF hW rfl ((y_fieldAddr Tryd.underlying24 rfl rfl rfl T3 hF rfl 0 rfl).q) (fun a w hF hW => ?_)
      refine ls hF hW rfl ((y_load (v := Value.int .i64 p1.1) 1 hF rfl rfl T3 rfl).q) (fun a w hF hW => ?_)
      refine ls hF hW rfl ((y_fieldAddr Tryd.underlying24 rfl rfl rfl T3 hF rfl 0 rfl).q) (fun a w hF hW => ?_)
      refine l_store (vs := [.int .i64 p1.1]) (M' := [(b3, [.int .i64 0, .int .i64 0, .int .i64 0, .int .i64 0, .int .i64 0, .int .i64 0, .int .i64 0, .int .i64 0, .int .i64 0]), (b2, [.int .i64 p1.1, .int .i64 p1.2.1.1, .int .i64 p1.2.1.2.1, .int .i64 p1.2.1.2.2.1, .int .i64 p1.2.1.2.2.2, .int .i64 p1.2.2.1, .int .i64 p1.2.2.2.1, .int .i64 p1.2.2.2.2.1, .int .i64 p1.2.2.2.2.2]), (b1, [.int .i64 p1.1, .int .i64 p0.2.1.1, .int .i64 p0.2.1.2.1, .int .i64 p0.2.1.2.2.1, .int .i64 p0.2.1.2.2.2, .int .i64 p0.2.2.1, .int .i64 p0.2.2.2.1, .int .i64 p0.2.2.2.2.1, .int .i64 p0.2.2.2.2.2])]) 2 hF hW rfl rfl rfl T3 rfl rfl rfl rfl rfl (fun w hW => ?_)
      refine ls_nil ?_
      refine c_then ?_
      have hW := hW.frontM (i := 2) rfl rfl
      have hW := hW.frontM (i := 2) rfl rfl
      have hW := hW.frontM (i := 2) rfl rfl
      exact ⟨_, H, hF.re ⟨rfl, rfl, rfl, rfl, trivial⟩, hW⟩
    ·
      have H := iteF (of_decide_eq_false hb) H
      rw [hb] at hF
      clear hb
      refine wp_skip ?_
      refine c_then ?_
      have hW := hW.frontM (i := 2) rfl rfl
      have hW := hW.frontM (i := 2) rfl rfl
      have hW := hW.frontM (i := 2) rfl rfl
      exact ⟨_, H, hF.re ⟨rfl, rfl, rfl, rfl, trivial⟩, hW⟩
  rintro a w ⟨x1, hj, hF, hW⟩
  have hj := Option.some.inj hj
  subst hj
  have H := K1
  clear G1 K1
  refine c_seq ?_
  refine c_seqJ (fun a w => Fr 72 [] [(2, .pointer (some ⟨b1, 0, none⟩)), (3, .pointer (some ⟨b2, 0, none⟩)), (4, .pointer (some ⟨b3, 0, none⟩)), (5, .bool false), (22, .bool (decide (p1.1 ≠ (-1)) && decide (x1 ≠ p1.1)))] a ∧ Stw ⟨Y, [], w0⟩ [(b3, [.int .i64 0, .int .i64 0, .int .i64 0, .int .i64 0, .int .i64 0, .int .i64 0, .int .i64 0, .int .i64 0, .int .i64 0]), (b2, [.int .i64 p1.1, .int .i64 p1.2.1.1, .int .i64 p1.2.1.2.1, .int .i64 p1.2.1.2.2.1, .int .i64 p1.2.1.2.2.2, .int .i64 p1.2.2.1, .int .i64 p1.2.2.2.1, .int .i64 p1.2.2.2.2.1, .int .i64 p1.2.2.2.2.2]), (b1, [.int .i64 x1, .int .i64 p0.2.1.1, .int .i64 p0.2.1.2.1, .int .i64 p0.2.1.2.2.1, .int .i64 p0.2.1.2.2.2, .int .i64 p0.2.2.1, .int .i64 p0.2.2.2.1, .int .i64 p0.2.2.2.2.1, .int .i64 p0.2.2.2.2.2])] [] w) ?_ ?_
  ·
    refine reg_list ?_
    refine ls hF hW rfl ((y_fieldAddr Tryd.underlying24 rfl rfl rfl T3 hF rfl 0 rfl).q) (fun a w hF hW => ?_)
    refine ls hF hW rfl ((y_load (v := Value.int .i64 p1.1) 1 hF rfl rfl T3 rfl).q) (fun a w hF hW => ?_)
    refine ls hF hW rfl ((y_neq hF rfl rfl).q) (fun a w hF hW => ?_)
    refine ls hF hW rfl ((y_move hF rfl).q) (fun a w hF hW => ?_)
    rcases Bool.eq_false_or_eq_true (decide (p1.1 ≠ (-1))) with hb0 | hb0
    ·
      rw [hb0] at hF
      refine ls_w hF hW (wanted_y hF rfl rfl rfl rfl) rfl (Nat.le_of_ble_eq_true rfl) ((y_fieldAddr Tryd.underlying24 rfl rfl rfl T3 hF rfl 0 rfl).q) (fun a w hF hW => ?_)
      refine ls_w hF hW (wanted_y hF rfl rfl rfl rfl) rfl (Nat.le_of_ble_eq_true rfl) ((y_load (v := Value.int .i64 x1) 2 hF rfl rfl T3 rfl).q) (fun a w hF hW => ?_)
      refine ls_w hF hW (wanted_y hF rfl rfl rfl rfl) rfl (Nat.le_of_ble_eq_true rfl) ((y_fieldAddr Tryd.underlying24 rfl rfl rfl T3 hF rfl 0 rfl).q) (fun a w hF hW => ?_)
      refine ls_w hF hW (wanted_y hF rfl rfl rfl rfl) rfl (Nat.le_of_ble_eq_true rfl) ((y_load (v := Value.int .i64 p1.1) 1 hF rfl rfl T3 rfl).q) (fun a w hF hW => ?_)
      refine ls_w hF hW (wanted_y hF rfl rfl rfl rfl) rfl (Nat.le_of_ble_eq_true rfl) ((y_neq hF rfl rfl).q) (fun a w hF hW => ?_)
      refine ls hF hW rfl ((y_pick_t hF rfl rfl rfl).q) (fun a w hF hW => ?_)
      refine ls_nil ?_
      refine c_then ?_
      exact ⟨hF.re ⟨rfl, rfl, rfl, rfl, (by show some (Value.bool (decide (x1 ≠ p1.1))) = some (Value.bool (decide (p1.1 ≠ (-1)) && decide (x1 ≠ p1.1))); try rw [hb0]; all_goals simp only [Bool.not_true, Bool.not_false, Bool.true_and, Bool.false_and, Bool.true_or, Bool.false_or, Bool.and_true, Bool.or_false, cond_true, cond_false]), trivial⟩, hW⟩
    ·
      rw [hb0] at hF
      refine ls_skip hF (wanted_n hF rfl rfl rfl rfl rfl) rfl rfl (fun a hF => ?_)
      refine ls_skip hF (wanted_n hF rfl rfl rfl rfl rfl) rfl rfl (fun a hF => ?_)
      refine ls_skip hF (wanted_n hF rfl rfl rfl rfl rfl) rfl rfl (fun a hF => ?_)
      refine ls_skip hF (wanted_n hF rfl rfl rfl rfl rfl) rfl rfl (fun a hF => ?_)
      refine ls_skip hF (wanted_n hF rfl rfl rfl rfl rfl) rfl rfl (fun a hF => ?_)
      refine ls hF hW rfl ((y_pick_f hF rfl rfl rfl).q) (fun a w hF hW => ?_)
      refine ls_nil ?_
      refine c_then ?_
      exact ⟨hF.re ⟨rfl, rfl, rfl, rfl, (by show some (Value.bool false) = some (Value.bool (decide (p1.1 ≠ (-1)) && decide (x1 ≠ p1.1))); try rw [hb0]; all_goals simp only [Bool.not_true, Bool.not_false, Bool.true_and, Bool.false_and, Bool.true_or, Bool.false_or, Bool.and_true, Bool.or_false, cond_true, cond_false]), trivial⟩, hW⟩
  rintro a w ⟨hF, hW⟩
  refine c_cond hF rfl (fun hb => ?_) (fun hb => ?_)
  ·
    have H := iteT hb H
    rw [hb] at hF
    clear hb
    refine c_seq ?_
    refine reg_list ?_
    refine ls hF hW rfl ((y_build (v := Value.agg #[.int .i64 0, .int .i64 0, .int .i64 0, .int .i64 0, .int .i64 0, .int .i64 0, .int .i64 0, .int .i64 0, .int .i64 0]) B24 hF rfl rfl rfl).q) (fun a w hF hW => ?_)
    refine l_store (vs := [.int .i64 0, .int .i64 0, .int .i64 0, .int .i64 0, .int .i64 0, .int .i64 0, .int .i64 0, .int .i64 0, .int .i64 0]) (M' := [(b3, [.int .i64 0, .int .i64 0, .int .i64 0, .int .i64 0, .int .i64 0, .int .i64 0, .int .i64 0, .int .i64 0, .int .i64 0]), (b2, [.int .i64 p1.1, .int .i64 p1.2.1.1, .int .i64 p1.2.1.2.1, .int .i64 p1.2.1.2.2.1, .int .i64 p1.2.1.2.2.2, .int .i64 p1.2.2.1, .int .i64 p1.2.2.2.1, .int .i64 p1.2.2.2.2.1, .int .i64 p1.2.2.2.2.2]), (b1, [.int .i64 x1, .int .i64 p0.2.1.1, .int .i64 p0.2.1.2.1, .int .i64 p0.2.1.2.2.1, .int .i64 p0.2.1.2.2.2, .int .i64 p0.2.2.1, .int .i64 p0.2.2.2.1, .int .i64 p0.2.2.2.2.1, .int .i64 p0.2.2.2.2.2])]) 0 hF hW rfl rfl rfl T24 rfl rfl rfl rfl rfl (fun w hW => ?_)
    refine ls hF hW rfl ((y_assign hF rfl).q) (fun a w hF hW => ?_)
    refine ls_nil ?_
    refine c_then ?_
    refine wp_ret ?_
    refine r_then ?_
    have H := Option.some.inj H
    subst H
    refine post2 (.inl rfl) hF hW rfl (rv_cell 0 hF rfl rfl T24 rfl) (rv_tmp hF rfl) ?_
    exact ⟨rfl, hW.done⟩
  ·
    have H := iteF (by rw [hb]; decide) H
    rw [hb] at hF
    clear hb
    refine wp_skip ?_
    refine c_then ?_
    obtain ⟨o2, G2, K2, L2⟩ := orE H
    refine c_seqJ (fun a w => ∃ x2 : Int, ∃ x3 : Int, ∃ x4 : Int, ∃ x5 : Int, ∃ x6 : Int, ∃ x7 : Int, ∃ x8 : Int, ∃ x9 : Int, some (Sum.inl (x2, x3, x4, x5, x6, x7, x8, x9)) = some o2 ∧ Fr 72 [] [(2, .pointer (some ⟨b1, 0, none⟩)), (4, .pointer (some ⟨b3, 0, none⟩)), (5, .bool false)] a ∧ Stw ⟨Y, [], w0⟩ [(b3, [.int .i64 0, .int .i64 0, .int .i64 0, .int .i64 0, .int .i64 0, .int .i64 0, .int .i64 0, .int .i64 0, .int .i64 0]), (b2, [.int .i64 p1.1, .int .i64 p1.2.1.1, .int .i64 p1.2.1.2.1, .int .i64 p1.2.1.2.2.1, .int .i64 p1.2.1.2.2.2, .int .i64 p1.2.2.1, .int .i64 p1.2.2.2.1, .int .i64 p1.2.2.2.2.1, .int .i64 p1.2.2.2.2.2]), (b1, [.int .i64 x1, .int .i64 x2, .int .i64 x3, .int .i64 x4, .int .i64 x5, .int .i64 x6, .int .i64 x7, .int .i64 x8, .int .i64 x9])] [] w) ?_ ?_
    ·
      have H := G2
      clear G2 K2
      refine c_seq ?_
      refine reg_list ?_
      refine ls hF hW rfl ((y_move hF rfl).q) (fun a w hF hW => ?_)
      refine ls_nil ?_
      refine c_then ?_
      refine wp_block ?_
      have hW := hW.frontM (i := 2) rfl rfl
      have hW := hW.frontM (i := 2) rfl rfl
      have hW := hW.frontM (i := 2) rfl rfl
      refine c_loopW H (fun s a w => Fr 72 [] [(2, .pointer (some ⟨b1, 0, none⟩)), (3, .pointer (some ⟨b2, 0, none⟩)), (4, .pointer (some ⟨b3, 0, none⟩)), (5, .bool false), (24, .int .i64 s.1)] a ∧ Stw ⟨Y, [], w0⟩ [(b3, [.int .i64 0, .int .i64 0, .int .i64 0, .int .i64 0, .int .i64 0, .int .i64 0, .int .i64 0, .int .i64 0, .int .i64 0]), (b2, [.int .i64 p1.1, .int .i64 p1.2.1.1, .int .i64 p1.2.1.2.1, .int .i64 p1.2.1.2.2.1, .int .i64 p1.2.1.2.2.2, .int .i64 p1.2.2.1, .int .i64 p1.2.2.2.1, .int .i64 p1.2.2.2.2.1, .int .i64 p1.2.2.2.2.2]), (b1, [.int .i64 x1, .int .i64 s.2.1, .int .i64 s.2.2.1, .int .i64 s.2.2.2.1, .int .i64 s.2.2.2.2.1, .int .i64 s.2.2.2.2.2.1, .int .i64 s.2.2.2.2.2.2.1, .int .i64 s.2.2.2.2.2.2.2.1, .int .i64 s.2.2.2.2.2.2.2.2])] [] w) ⟨hF.re ⟨rfl, rfl, rfl, rfl, rfl, trivial⟩, hW⟩ (fun s o a w H L3 hR => ?_)
      obtain ⟨x10, x11, x12, x13, x14, x15, x16, x17, x18⟩ := s
      obtain ⟨hF, hW⟩ := hR
      have hF : Fr 72 [] [(2, .pointer (some ⟨b1, 0, none⟩)), (3, .pointer (some ⟨b2, 0, none⟩)), (4, .pointer (some ⟨b3, 0, none⟩)), (5, .bool false), (24, .int .i64 x10)] a := hF
      have hW : Stw ⟨Y, [], w0⟩ [(b3, [.int .i64 0, .int .i64 0, .int .i64 0, .int .i64 0, .int .i64 0, .int .i64 0, .int .i64 0, .int .i64 0, .int .i64 0]), (b2, [.int .i64 p1.1, .int .i64 p1.2.1.1, .int .i64 p1.2.1.2.1, .int .i64 p1.2.1.2.2.1, .int .i64 p1.2.1.2.2.2, .int .i64 p1.2.2.1, .int .i64 p1.2.2.2.1, .int .i64 p1.2.2.2.2.1, .int .i64 p1.2.2.2.2.2]), (b1, [.int .i64 x1, .int .i64 x11, .int .i64 x12, .int .i64 x13, .int .i64 x14, .int .i64 x15, .int .i64 x16, .int .i64 x17, .int .i64 x18])] [] w := hW
      rw [match_Meet_l1] at H
      refine c_seq ?_
      refine reg_list ?_
      refine ls hF hW rfl ((y_lss hF rfl rfl).q) (fun a w hF hW => ?_)
      refine ls_nil ?_
      refine c_then ?_
      refine c_seq ?_
      refine c_cond hF rfl (fun hb => ?_) (fun hb => ?_)
      ·
        have H := iteT (of_decide_eq_true hb) H
        rw [hb] at hF
        clear hb
        refine wp_skip ?_
        refine c_then ?_
        refine c_seq ?_
        refine wp_block ?_
        refine c_seq ?_
        refine reg_list ?_
        refine ls hF hW rfl ((y_move hF rfl).q) (fun a w hF hW => ?_)
        refine ls hF hW rfl ((y_assign hF rfl).q) (fun a w hF hW => ?_)
        refine ls_nil ?_
        refine c_then ?_
        refine c_seq ?_
        refine c_seq ?_
        refine reg_quiet hW MO (by kernel_rfl) ?_
        refine qs hF rfl ((y_move hF rfl).q) (fun a hF => ?_)
        refine qs hF rfl ((y_fieldAddr Tryd.underlying24 rfl rfl rfl T22 hF rfl 1 rfl).q) (fun a hF => ?_)
        obtain ⟨x19, h1, H⟩ := bindE H
        refine qs hF rfl ((y_indexP (1 + (x10).toNat * 1) Ar22 hF rfl rfl rfl h1 rfl).q) (fun a hF => ?_)
        refine qs hF rfl ((y_load (v := Value.int .i64 x19) 2 hF rfl rfl T3 (rdv_dyn (base := 1) (m := 4) (l := [x11, x12, x13, x14]) (enc := Value.int .i64) rfl h1)).q) (fun a hF => ?_)
        refine qs hF rfl ((y_move hF rfl).q) (fun a hF => ?_)
        refine qs hF rfl ((y_fieldAddr Tryd.underlying24 rfl rfl rfl T22 hF rfl 1 rfl).q) (fun a hF => ?_)
        obtain ⟨x20, h2, H⟩ := bindE H
        refine qs hF rfl ((y_indexP (1 + (x10).toNat * 1) Ar22 hF rfl rfl rfl h2 rfl).q) (fun a hF => ?_)
        refine qs hF rfl ((y_load (v := Value.int .i64 x20) 1 hF rfl rfl T3 (rdv_dyn (base := 1) (m := 4) (l := [p1.2.1.1, p1.2.1.2.1, p1.2.1.2.2.1, p1.2.1.2.2.2]) (enc := Value.int .i64) rfl h2)).q) (fun a hF => ?_)
        refine qs hF rfl ((y_xor hF rfl rfl).q) (fun a hF => ?_)
        refine qs hF rfl ((y_move hF rfl).q) (fun a hF => ?_)
        refine qs hF rfl ((y_fieldAddr Tryd.underlying24 rfl rfl rfl T22 hF rfl 5 rfl).q) (fun a hF => ?_)
        obtain ⟨x21, h3, H⟩ := bindE H
        refine qs hF rfl ((y_indexP (5 + (x10).toNat * 1) Ar22 hF rfl rfl rfl h3 rfl).q) (fun a hF => ?_)
        refine qs hF rfl ((y_load (v := Value.int .i64 x21) 2 hF rfl rfl T3 (rdv_dyn (base := 5) (m := 4) (l := [x15, x16, x17, x18]) (enc := Value.int .i64) rfl h3)).q) (fun a hF => ?_)
        refine qs hF rfl ((y_and hF rfl rfl).q) (fun a hF => ?_)
        refine qs hF rfl ((y_move hF rfl).q) (fun a hF => ?_)
        refine qs hF rfl ((y_fieldAddr Tryd.underlying24 rfl rfl rfl T22 hF rfl 5 rfl).q) (fun a hF => ?_)
        obtain ⟨x22, h4, H⟩ := bindE H
        refine qs hF rfl ((y_indexP (5 + (x10).toNat * 1) Ar22 hF rfl rfl rfl h4 rfl).q) (fun a hF => ?_)
        refine qs hF rfl ((y_load (v := Value.int .i64 x22) 1 hF rfl rfl T3 (rdv_dyn (base := 5) (m := 4) (l := [p1.2.2.1, p1.2.2.2.1, p1.2.2.2.2.1, p1.2.2.2.2.2]) (enc := Value.int .i64) rfl h4)).q) (fun a hF => ?_)
        refine qs hF rfl ((y_and hF rfl rfl).q) (fun a hF => ?_)
        refine qs hF rfl ((y_neq hF rfl rfl).q) (fun a hF => ?_)
        refine quiet_end (fun w hW => ?_)
        refine c_then ?_
        refine c_cond hF rfl (fun hb => ?_) (fun hb => ?_)
        ·
          have H := iteT (of_decide_eq_true hb) H
          rw [hb] at hF
          clear hb
          refine c_seq ?_
          refine reg_list ?_
          refine ls hF hW rfl ((y_build (v := Value.agg #[.int .i64 0, .int .i64 0, .int .i64 0, .int .i64 0, .int .i64 0, .int .i64 0, .int .i64 0, .int .i64 0, .int .i64 0]) B24 hF rfl rfl rfl).q) (fun a w hF hW => ?_)
          refine l_store (vs := [.int .i64 0, .int .i64 0, .int .i64 0, .int .i64 0, .int .i64 0, .int .i64 0, .int .i64 0, .int .i64 0, .int .i64 0]) (M' := [(b3, [.int .i64 0, .int .i64 0, .int .i64 0, .int .i64 0, .int .i64 0, .int .i64 0, .int .i64 0, .int .i64 0, .int .i64 0]), (b2, [.int .i64 p1.1, .int .i64 p1.2.1.1, .int .i64 p1.2.1.2.1, .int .i64 p1.2.1.2.2.1, .int .i64 p1.2.1.2.2.2, .int .i64 p1.2.2.1, .int .i64 p1.2.2.2.1, .int .i64 p1.2.2.2.2.1, .int .i64 p1.2.2.2.2.2]), (b1, [.int .i64 x1, .int .i64 x11, .int .i64 x12, .int .i64 x13, .int .i64 x14, .int .i64 x15, .int .i64 x16, .int .i64 x17, .int .i64 x18])]) 0 hF hW rfl rfl rfl T24 rfl rfl rfl rfl rfl (fun w hW => ?_)
          refine ls hF hW rfl ((y_assign hF rfl).q) (fun a w hF hW => ?_)
          refine ls_nil ?_
          refine c_then ?_
          refine wp_ret ?_
          refine r_then ?_
          refine r_block ?_
          refine r_then ?_
          refine r_then ?_
          refine r_block ?_
          refine r_then ?_
          have H := L3 _ H
          have H := L2 _ H
          have H := Option.some.inj H
          subst H
          refine post2 (.inl rfl) hF hW rfl (rv_cell 0 hF rfl rfl T24 rfl) (rv_tmp hF rfl) ?_
          exact ⟨rfl, hW.done⟩
        ·
          have H := iteF (of_decide_eq_false hb) H
          rw [hb] at hF
          clear hb
          refine wp_skip ?_
          refine c_then ?_
          refine c_seq ?_
          refine reg_tail 11 hW MO (by kernel_rfl) ?_
          refine qs hF rfl ((y_move hF rfl).q) (fun a hF => ?_)
          refine qs hF rfl ((y_fieldAddr Tryd.underlying24 rfl rfl rfl T22 hF rfl 1 rfl).q) (fun a hF => ?_)
          obtain ⟨x23, h5, H⟩ := bindE H
          refine qs hF rfl ((y_indexP (1 + (x10).toNat * 1) Ar22 hF rfl rfl rfl h5 rfl).q) (fun a hF => ?_)
          refine qs hF rfl ((y_load (v := Value.int .i64 x23) 2 hF rfl rfl T3 (rdv_dyn (base := 1) (m := 4) (l := [x11, x12, x13, x14]) (enc := Value.int .i64) rfl h5)).q) (fun a hF => ?_)
          refine qs hF rfl ((y_move hF rfl).q) (fun a hF => ?_)
          refine qs hF rfl ((y_fieldAddr Tryd.underlying24 rfl rfl rfl T22 hF rfl 1 rfl).q) (fun a hF => ?_)
          obtain ⟨x24, h6, H⟩ := bindE H
          refine qs hF rfl ((y_indexP (1 + (x10).toNat * 1) Ar22 hF rfl rfl rfl h6 rfl).q) (fun a hF => ?_)
          refine qs hF rfl ((y_load (v := Value.int .i64 x24) 1 hF rfl rfl T3 (rdv_dyn (base := 1) (m := 4) (l := [p1.2.1.1, p1.2.1.2.1, p1.2.1.2.2.1, p1.2.1.2.2.2]) (enc := Value.int .i64) rfl h6)).q) (fun a hF => ?_)
          refine qs hF rfl ((y_or hF rfl rfl).q) (fun a hF => ?_)
          refine qs hF rfl ((y_fieldAddr Tryd.underlying24 rfl rfl rfl T22 hF rfl 1 rfl).q) (fun a hF => ?_)
          obtain ⟨x25, h7, H⟩ := bindE H
          refine qs hF rfl ((y_indexP (1 + (x10).toNat * 1) Ar22 hF rfl rfl rfl h7 rfl).q) (fun a hF => ?_)
          refine quiet_end (fun w hW => ?_)
          refine l_store_dyn (o := 1) (m := 4) (i := x10) (l := ([x11, x12, x13, x14] : List Int)) (x := x25) (cs := [.int .i64 x1, .int .i64 x11, .int .i64 x12, .int .i64 x13, .int .i64 x14, .int .i64 x15, .int .i64 x16, .int .i64 x17, .int .i64 x18]) (cs' := [.int .i64 x1, .int .i64 (if x10 = 0 then orI .i64 x23 x24 else x11), .int .i64 (if x10 = 1 then orI .i64 x23 x24 else x12), .int .i64 (if x10 = 2 then orI .i64 x23 x24 else x13), .int .i64 (if x10 = 3 then orI .i64 x23 x24 else x14), .int .i64 x15, .int .i64 x16, .int .i64 x17, .int .i64 x18]) 2 hF hW rfl rfl rfl T3 rfl rfl rfl rfl h7 (by intro k hk hn; rw [hk]; match k, hn with | 0, _ => rfl | 1, _ => rfl | 2, _ => rfl | 3, _ => rfl | (z + 4), h => exact absurd h (by omega)) (fun w hW => ?_)
          have hW : Stw ⟨Y, [], w0⟩ [(b3, [.int .i64 0, .int .i64 0, .int .i64 0, .int .i64 0, .int .i64 0, .int .i64 0, .int .i64 0, .int .i64 0, .int .i64 0]), (b2, [.int .i64 p1.1, .int .i64 p1.2.1.1, .int .i64 p1.2.1.2.1, .int .i64 p1.2.1.2.2.1, .int .i64 p1.2.1.2.2.2, .int .i64 p1.2.2.1, .int .i64 p1.2.2.2.1, .int .i64 p1.2.2.2.2.1, .int .i64 p1.2.2.2.2.2]), (b1, [.int .i64 x1, .int .i64 (if x10 = 0 then orI .i64 x23 x24 else x11), .int .i64 (if x10 = 1 then orI .i64 x23 x24 else x12), .int .i64 (if x10 = 2 then orI .i64 x23 x24 else x13), .int .i64 (if x10 = 3 then orI .i64 x23 x24 else x14), .int .i64 x15, .int .i64 x16, .int .i64 x17, .int .i64 x18])] [] w := hW
          refine ls_nil ?_
          refine c_then ?_
          refine reg_tail 11 hW MO (by kernel_rfl) ?_
          refine qs hF rfl ((y_move hF rfl).q) (fun a hF => ?_)
          refine qs hF rfl ((y_fieldAddr Tryd.underlying24 rfl rfl rfl T22 hF rfl 5 rfl).q) (fun a hF => ?_)
          obtain ⟨x26, h8, H⟩ := bindE H
          refine qs hF rfl ((y_indexP (5 + (x10).toNat * 1) Ar22 hF rfl rfl rfl h8 rfl).q) (fun a hF => ?_)
          refine qs hF rfl ((y_load (v := Value.int .i64 x26) 2 hF rfl rfl T3 (rdv_dyn (base := 5) (m := 4) (l := [x15, x16, x17, x18]) (enc := Value.int .i64) rfl h8)).q) (fun a hF => ?_)
          refine qs hF rfl ((y_move hF rfl).q) (fun a hF => ?_)
          refine qs hF rfl ((y_fieldAddr Tryd.underlying24 rfl rfl rfl T22 hF rfl 5 rfl).q) (fun a hF => ?_)
          obtain ⟨x27, h9, H⟩ := bindE H
          refine qs hF rfl ((y_indexP (5 + (x10).toNat * 1) Ar22 hF rfl rfl rfl h9 rfl).q) (fun a hF => ?_)
          refine qs hF rfl ((y_load (v := Value.int .i64 x27) 1 hF rfl rfl T3 (rdv_dyn (base := 5) (m := 4) (l := [p1.2.2.1, p1.2.2.2.1, p1.2.2.2.2.1, p1.2.2.2.2.2]) (enc := Value.int .i64) rfl h9)).q) (fun a hF => ?_)
          refine qs hF rfl ((y_or hF rfl rfl).q) (fun a hF => ?_)
          refine qs hF rfl ((y_fieldAddr Tryd.underlying24 rfl rfl rfl T22 hF rfl 5 rfl).q) (fun a hF => ?_)
          obtain ⟨x28, h10, H⟩ := bindE H
          refine qs hF rfl ((y_indexP (5 + (x10).toNat * 1) Ar22 hF rfl rfl rfl h10 rfl).q) (fun a hF => ?_)
          refine quiet_end (fun w hW => ?_)
          refine l_store_dyn (o := 5) (m := 4) (i := x10) (l := ([x15, x16, x17, x18] : List Int)) (x := x28) (cs := [.int .i64 x1, .int .i64 (if x10 = 0 then orI .i64 x23 x24 else x11), .int .i64 (if x10 = 1 then orI .i64 x23 x24 else x12), .int .i64 (if x10 = 2 then orI .i64 x23 x24 else x13), .int .i64 (if x10 = 3 then orI .i64 x23 x24 else x14), .int .i64 x15, .int .i64 x16, .int .i64 x17, .int .i64 x18]) (cs' := [.int .i64 x1, .int .i64 (if x10 = 0 then orI .i64 x23 x24 else x11), .int .i64 (if x10 = 1 then orI .i64 x23 x24 else x12), .int .i64 (if x10 = 2 then orI .i64 x23 x24 else x13), .int .i64 (if x10 = 3 then orI .i64 x23 x24 else x14), .int .i64 (if x10 = 0 then orI .i64 x26 x27 else x15), .int .i64 (if x10 = 1 then orI .i64 x26 x27 else x16), .int .i64 (if x10 = 2 then orI .i64 x26 x27 else x17), .int .i64 (if x10 = 3 then orI .i64 x26 x27 else x18)]) 2 hF hW rfl rfl rfl T3 rfl rfl rfl rfl h10 (by intro k hk hn; rw [hk]; match k, hn with | 0, _ => rfl | 1, _ => rfl | 2, _ => rfl | 3, _ => rfl | (z + 4), h => exact absurd h (by omega)) (fun w hW => ?_)
          have hW : Stw ⟨Y, [], w0⟩ [(b3, [.int .i64 0, .int .i64 0, .int .i64 0, .int .i64 0, .int .i64 0, .int .i64 0, .int .i64 0, .int .i64 0, .int .i64 0]), (b2, [.int .i64 p1.1, .int .i64 p1.2.1.1, .int .i64 p1.2.1.2.1, .int .i64 p1.2.1.2.2.1, .int .i64 p1.2.1.2.2.2, .int .i64 p1.2.2.1, .int .i64 p1.2.2.2.1, .int .i64 p1.2.2.2.2.1, .int .i64 p1.2.2.2.2.2]), (b1, [.int .i64 x1, .int .i64 (if x10 = 0 then orI .i64 x23 x24 else x11), .int .i64 (if x10 = 1 then orI .i64 x23 x24 else x12), .int .i64 (if x10 = 2 then orI .i64 x23 x24 else x13), .int .i64 (if x10 = 3 then orI .i64 x23 x24 else x14), .int .i64 (if x10 = 0 then orI .i64 x26 x27 else x15), .int .i64 (if x10 = 1 then orI .i64 x26 x27 else x16), .int .i64 (if x10 = 2 then orI .i64 x26 x27 else x17), .int .i64 (if x10 = 3 then orI .i64 x26 x27 else x18)])] [] w := hW
          refine ls_nil ?_
          refine b_normal ?_
          refine c_then ?_
          refine reg_list ?_
          refine ls hF hW rfl ((y_add hF rfl rfl rfl).q) (fun a w hF hW => ?_)
          refine ls hF hW rfl ((y_move hF rfl).q) (fun a w hF hW => ?_)
          refine ls_nil ?_
          refine c_then ?_
          have hW := hW.frontM (i := 2) rfl rfl
          have hW := hW.frontM (i := 2) rfl rfl
          have hW := hW.frontM (i := 2) rfl rfl
          exact ⟨_, H, hF.re ⟨rfl, rfl, rfl, rfl, rfl, trivial⟩, hW⟩
      ·
        have H := iteF (of_decide_eq_false hb) H
        rw [hb] at hF
        clear hb
        refine wp_exit ?_
        refine e_then ?_
        refine e_then ?_
        refine e_block ?_
        refine c_then ?_
        have hW := hW.frontM (i := 2) rfl rfl
        have hW := hW.frontM (i := 2) rfl rfl
        have hW := hW.frontM (i := 2) rfl rfl
        have H := L3 _ H
        exact ⟨_, _, _, _, _, _, _, _, H, hF.re ⟨rfl, rfl, rfl, trivial⟩, hW⟩
    rintro a w ⟨x2, x3, x4, x5, x6, x7, x8, x9, hj, hF, hW⟩
    have H := K2 _ hj
    clear hj G2 K2 L2
    refine c_seq ?_
    refine reg_list ?_
    refine ls hF hW rfl ((y_load (v := Value.agg #[.int .i64 x1, .int .i64 x2, .int .i64 x3, .int .i64 x4, .int .i64 x5, .int .i64 x6, .int .i64 x7, .int .i64 x8, .int .i64 x9]) 2 hF rfl rfl T24 rfl).q) (fun a w hF hW => ?_)
    refine l_store (vs := [.int .i64 x1, .int .i64 x2, .int .i64 x3, .int .i64 x4, .int .i64 x5, .int .i64 x6, .int .i64 x7, .int .i64 x8, .int .i64 x9]) (M' := [(b3, [.int .i64 x1, .int .i64 x2, .int .i64 x3, .int .i64 x4, .int .i64 x5, .int .i64 x6, .int .i64 x7, .int .i64 x8, .int .i64 x9]), (b2, [.int .i64 p1.1, .int .i64 p1.2.1.1, .int .i64 p1.2.1.2.1, .int .i64 p1.2.1.2.2.1, .int .i64 p1.2.1.2.2.2, .int .i64 p1.2.2.1, .int .i64 p1.2.2.2.1, .int .i64 p1.2.2.2.2.1, .int .i64 p1.2.2.2.2.2]), (b1, [.int .i64 x1, .int .i64 x2, .int .i64 x3, .int .i64 x4, .int .i64 x5, .int .i64 x6, .int .i64 x7, .int .i64 x8, .int .i64 x9])]) 0 hF hW rfl rfl rfl T24 rfl rfl rfl rfl rfl (fun w hW => ?_)
    refine ls hF hW rfl ((y_assign hF rfl).q) (fun a w hF hW => ?_)
    refine ls_nil ?_
    refine c_then ?_
    refine wp_ret ?_
    have H := Option.some.inj H
    subst H
    refine post2 (.inl rfl) hF hW rfl (rv_cell 0 hF rfl rfl T24 rfl) (rv_tmp hF rfl) ?_
    exact ⟨rfl, hW.done⟩

end Go.Proofs.YtmlaadalggngkaaDoor
