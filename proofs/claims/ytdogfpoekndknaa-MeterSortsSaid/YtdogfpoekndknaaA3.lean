/- The functions of layer 43, lifted. Conditions: none. -/
import Derived.Test.YtdogfpoekndknaaA2
namespace Go.Proofs.Ytdogfpoekndknaa
open Go Go.RowKit
set_option linter.unusedVariables false
set_option linter.unusedSimpArgs false
set_option maxRecDepth 20000
theorem H23 : Has Try.prog 23 := ⟨fun args w => run_callFunc_body Try.func23 rfl (by decide) args w⟩
noncomputable def L43_MeterSorts_l1 (p0 : List Int) (p1 : Int) (x3 : List Nat) : (Int × Int × Int) → Option ((Int × Int × Int) ⊕ ((Int × Int) ⊕ Bool))
  | (x16, x17, x18) => (if x18 < (p0.length : Int) then orR ((if 0 < x18 then (ix x3 (w64 (x18 - 1))).bind fun x22 => (ix x3 x18).bind fun x23 => (float_Compare x22 x23).bind fun x24 => some (decide (0 < x24)) else some false).bind fun x21 => (if x21 = true then some (.inr (.inr (.inr false))) else ((ix p0 x18).bind fun x26 => (if (r03_Clean x26) = (r03_Clean p1) then some (w64 (x16 + 1)) else some x16)).bind fun x25 => (ix x3 x18).bind fun x27 => (if (float_Bits x27) = (r03_Clean p1) then some (.inl (x25, w64 (x17 + 1))) else some (.inl (x25, x17))))) fun (x19, x20) => some (.inl (x19, x20, w64 (x18 + 1))) else some (.inr (.inl (x16, x17))))
noncomputable def L43_MeterSorts (p0 : List Int) (p1 : Int) : Option Bool := (if 40 < (p0.length : Int) then (L43_awake).bind fun x1 => some x1 else (L43_list p0).bind fun x2 => (meter_Sort x2).bind fun x3 => ((L43_bitsOf x3).bind fun x5 => (r43_Sort p0).bind fun x6 => (r43_Same x5 x6).bind fun x7 => (if (!x7) = true then some true else (L43_list p0).bind fun x8 => (meter_Middle x8).bind fun x9 => (r43_Middle p0).bind fun x10 => (if (float_Bits x9) ≠ x10 then some true else (L43_list p0).bind fun x11 => (meter_Spread x11).bind fun x12 => (r43_Spread p0).bind fun x13 => some (decide ((float_Bits x12) ≠ x13))))).bind fun x4 => (if x4 = true then some false else orR (loopW (L43_MeterSorts_l1 p0 p1 x3) (0, 0, 0)) fun (x14, x15) => (if x14 = x15 then (L43_awake).bind fun x29 => some x29 else some false).bind fun x28 => some x28))
theorem L43_MeterSorts_c (Y : Nat → Prop) (w0 : World) (v1 : Value) (p0 : List Int) (p1 : Int) (r : Bool) (H : L43_MeterSorts p0 p1 = some r) (h_v1 : Sl w0 (NX []) (Rp.int .u64) v1 p0) :
    Calls Try.prog 4 #[v1, .int .u64 p1] w0 fun e w' => e = .returned (.bool r) ∧ Below w0.heap.size w0 w' := by
 refine enter Try.func4 rfl Try.ntmps4 rfl (fun a hF => ?_)
 have hW := Stw.start Y w0
 unfold L43_MeterSorts at H
 refine c_seq (reg_list ?_)
 refine ls hF hW rfl ((y_assign hF rfl).q) (fun a w hF hW => ?_)
 refine ls_nil (c_then ?_)
 refine c_seq ?_
 refine c_seq (reg_list ?_)
 refine ls hF hW rfl ((y_move hF rfl).q) (fun a w hF hW => ?_)
 refine ls hF hW rfl ((y_len (r := (Rp.int .u64)) (l := p0) u33_ rfl hF rfl (rdc_ro h_v1)).q) (fun a w hF hW => ?_)
 refine ls hF hW rfl ((y_gtr hF rfl rfl).q) (fun a w hF hW => ?_)
 refine ls_nil (c_then ?_)
 refine c_cond hF rfl (fun hb => ?_) (fun hb => ?_)
 ·
  have H := iteT (of_decide_eq_true hb) H
  rw [hb] at hF
  clear hb
  refine c_seq (reg_list ?_)
  obtain ⟨x1, h1, H⟩ := bindE H
  refine ls hF hW rfl (y_call (v := Value.bool x1) hF H7 rfl (fun w hW => L43_awake_c any w _ h1)) (fun a w hF hW => ?_)
  refine ls hF hW rfl ((y_assign hF rfl).q) (fun a w hF hW => ?_)
  refine ls_nil (c_then ?_)
  refine wp_ret ?_
  refine r_then ?_
  have H := Option.some.inj H
  subst H
  refine post1 (.inl rfl) hF hW rfl (rv_tmp hF rfl) ?_
  exact ⟨rfl, hW.done⟩
 ·
  have H := iteF (of_decide_eq_false hb) H
  rw [hb] at hF
  clear hb
  refine wp_skip ?_
  refine c_then ?_
  refine c_seq (reg_list ?_)
  refine ls hF hW rfl ((y_move hF rfl).q) (fun a w hF hW => ?_)
  obtain ⟨x2, h2, H⟩ := bindE H
  refine l_callG (Ml := []) (Zl := []) (M := []) (Z := []) (β := Value) (rv := fun x => x) (MM := fun x => []) (ZZ := fun x => [row x 25 (Rp.flt .f64) x2]) hF hW H16 rfl rfl (fun hL => L43_list_c _ w (v1) p0 _ h2 ((rdc_ro h_v1) w hW).nx) (fun x a w hF hW => ?_)
  obtain ⟨v2, rfl⟩ : ∃ y, y = x := ⟨x, rfl⟩
  have hW : Stw ⟨Y, [], w0⟩ [] [row v2 25 (Rp.flt .f64) x2] w := hW
  obtain ⟨x3, h3, H⟩ := bindE H
  have hW := hW.freeze
  refine l_callG (Ml := []) (Zl := []) (M := []) (Z := [frz v2 (Rp.flt .f64) x2]) (β := Value) (rv := fun x => x) (MM := fun x => []) (ZZ := fun x => [row x 25 (Rp.flt .f64) x3]) hF hW H15 rfl rfl (fun hL => meter_Sort_c _ w (v2) x2 _ h3 (hW.item (i := 0) rfl)) (fun x a w hF hW => ?_)
  obtain ⟨v3, rfl⟩ : ∃ y, y = x := ⟨x, rfl⟩
  have hW : Stw ⟨Y, [], w0⟩ [] [row v3 25 (Rp.flt .f64) x3, frz v2 (Rp.flt .f64) x2] w := hW
  refine ls hF hW rfl ((y_assign hF rfl).q) (fun a w hF hW => ?_)
  refine ls_nil (c_then ?_)
  refine c_seq ?_
  obtain ⟨o1, G1, K1⟩ := bindE H
  refine c_seqJ (fun a w => ∃ x4 : Bool, some (x4) = some o1 ∧ Fr 87 [] [(0, v1), (1, .int .u64 p1), (4, .bool false), (5, v3), (39, .bool x4)] a ∧ Stw ⟨Y, [], w0⟩ [] [row v3 25 (Rp.flt .f64) x3] w) ?_ ?_
  ·
   have H := G1
   clear G1 K1
   refine reg_list ?_
   refine ls hF hW rfl ((y_move hF rfl).q) (fun a w hF hW => ?_)
   obtain ⟨x5, h4, H⟩ := bindE H
   refine l_callG (Ml := []) (Zl := []) (M := []) (Z := [row v3 25 (Rp.flt .f64) x3, frz v2 (Rp.flt .f64) x2]) (β := Value) (rv := fun x => x) (MM := fun x => []) (ZZ := fun x => [row x 22 (Rp.int .u64) x5]) hF hW H18 rfl rfl (fun hL => L43_bitsOf_c _ w (v3) x3 _ h4 ((rdc_row 0 rfl) w hW).nx) (fun x a w hF hW => ?_)
   obtain ⟨v4, rfl⟩ : ∃ y, y = x := ⟨x, rfl⟩
   have hW : Stw ⟨Y, [], w0⟩ [] [row v4 22 (Rp.int .u64) x5, row v3 25 (Rp.flt .f64) x3, frz v2 (Rp.flt .f64) x2] w := hW
   refine ls hF hW rfl ((y_move hF rfl).q) (fun a w hF hW => ?_)
   obtain ⟨x6, h5, H⟩ := bindE H
   refine l_callG (Ml := []) (Zl := []) (M := []) (Z := [row v4 22 (Rp.int .u64) x5, row v3 25 (Rp.flt .f64) x3, frz v2 (Rp.flt .f64) x2]) (β := Value) (rv := fun x => x) (MM := fun x => []) (ZZ := fun x => [row x 22 (Rp.int .u64) x6]) hF hW H19 rfl rfl (fun hL => r43_Sort_c _ w (v1) p0 _ h5 ((rdc_ro h_v1) w hW).nx) (fun x a w hF hW => ?_)
   obtain ⟨v5, rfl⟩ : ∃ y, y = x := ⟨x, rfl⟩
   have hW : Stw ⟨Y, [], w0⟩ [] [row v5 22 (Rp.int .u64) x6, row v4 22 (Rp.int .u64) x5, row v3 25 (Rp.flt .f64) x3, frz v2 (Rp.flt .f64) x2] w := hW
   obtain ⟨x7, h6, H⟩ := bindE H
   refine ls hF hW rfl (y_call (v := Value.bool x7) hF H17 rfl (fun w hW => r43_Same_c any w (v4) (v5) x5 x6 _ h6 (((rdc_row 1 rfl) : Rdc _ _ _ _ _ _) w hW).nx (((rdc_row 0 rfl) : Rdc _ _ _ _ _ _) w hW).nx)) (fun a w hF hW => ?_)
   refine ls hF hW rfl ((y_not hF rfl).q) (fun a w hF hW => ?_)
   refine ls hF hW rfl ((y_move hF rfl).q) (fun a w hF hW => ?_)
   rcases Bool.eq_false_or_eq_true (!x7) with hb | hb
   ·
    have H := iteT hb H
    rw [hb] at hF
    clear hb
    iterate 7 refine lsn hF rfl rfl rfl rfl rfl rfl rfl (fun a hF => ?_)
    refine ls hF hW rfl ((y_pick_t hF rfl rfl rfl).q) (fun a w hF hW => ?_)
    refine ls hF hW rfl ((y_move hF rfl).q) (fun a w hF hW => ?_)
    iterate 7 refine lsn hF rfl rfl rfl rfl rfl rfl rfl (fun a hF => ?_)
    refine ls hF hW rfl ((y_pick_t hF rfl rfl rfl).q) (fun a w hF hW => ?_)
    refine ls_nil (c_then ?_)
    have hW := hW.frontZ (i := 2) rfl rfl
    have hW := hW.sub (M' := []) (Z' := [row v3 25 (Rp.flt .f64) x3]) (List.Sublist.refl _) (List.Sublist.cons_cons _ (List.nil_sublist _))
    exact ⟨_, H, hF.re ⟨rfl, rfl, rfl, rfl, rfl, trivial⟩, hW⟩
   ·
    have H := iteF (by rw [hb]; decide) H
    rw [hb] at hF
    clear hb
    refine ls_w hF hW (wanted_y hF rfl rfl rfl rfl) rfl (Nat.le_of_ble_eq_true rfl) ((y_move hF rfl).q) (fun a w hF hW => ?_)
    refine ls_g (wanted_y hF rfl rfl rfl rfl) ?_
    obtain ⟨x8, h7, H⟩ := bindE H
    refine l_callG (Ml := []) (Zl := []) (M := []) (Z := [row v5 22 (Rp.int .u64) x6, row v4 22 (Rp.int .u64) x5, row v3 25 (Rp.flt .f64) x3, frz v2 (Rp.flt .f64) x2]) (β := Value) (rv := fun x => x) (MM := fun x => []) (ZZ := fun x => [row x 25 (Rp.flt .f64) x8]) hF hW H16 rfl rfl (fun hL => L43_list_c _ w (v1) p0 _ h7 ((rdc_ro h_v1) w hW).nx) (fun x a w hF hW => ?_)
    obtain ⟨v6, rfl⟩ : ∃ y, y = x := ⟨x, rfl⟩
    have hW : Stw ⟨Y, [], w0⟩ [] [row v6 25 (Rp.flt .f64) x8, row v5 22 (Rp.int .u64) x6, row v4 22 (Rp.int .u64) x5, row v3 25 (Rp.flt .f64) x3, frz v2 (Rp.flt .f64) x2] w := hW
    refine ls_g (wanted_y hF rfl rfl rfl rfl) ?_
    obtain ⟨x9, h8, H⟩ := bindE H
    refine ls hF hW rfl (y_call (v := Value.float .f64 x9) hF H20 rfl (fun w hW => meter_Middle_c any w (v6) x8 _ h8 ((rdc_row 0 rfl) w hW))) (fun a w hF hW => ?_)
    refine ls_g (wanted_y hF rfl rfl rfl rfl) ?_
    refine ls hF hW rfl (y_call (v := Value.int .u64 (float_Bits x9)) hF H8 rfl (fun w hW => float_Bits_c any w x9 _ rfl)) (fun a w hF hW => ?_)
    refine ls_w hF hW (wanted_y hF rfl rfl rfl rfl) rfl (Nat.le_of_ble_eq_true rfl) ((y_move hF rfl).q) (fun a w hF hW => ?_)
    refine ls_g (wanted_y hF rfl rfl rfl rfl) ?_
    obtain ⟨x10, h9, H⟩ := bindE H
    refine ls hF hW rfl (y_call (v := Value.int .u64 x10) hF H21 rfl (fun w hW => r43_Middle_c any w (v1) p0 _ h9 (((rdc_ro h_v1) : Rdc _ _ _ _ _ _) w hW).nx)) (fun a w hF hW => ?_)
    refine ls_w hF hW (wanted_y hF rfl rfl rfl rfl) rfl (Nat.le_of_ble_eq_true rfl) ((y_neq hF rfl rfl).q) (fun a w hF hW => ?_)
    refine ls hF hW rfl ((y_pick_f hF rfl rfl rfl).q) (fun a w hF hW => ?_)
    refine ls hF hW rfl ((y_move hF rfl).q) (fun a w hF hW => ?_)
    rcases Bool.eq_false_or_eq_true (decide ((float_Bits x9) ≠ x10)) with hb | hb
    ·
     have H := iteT (of_decide_eq_true hb) H
     rw [hb] at hF
     clear hb
     iterate 7 refine lsn hF rfl rfl rfl rfl rfl rfl rfl (fun a hF => ?_)
     refine ls hF hW rfl ((y_pick_t hF rfl rfl rfl).q) (fun a w hF hW => ?_)
     refine ls_nil (c_then ?_)
     have hW := hW.frontZ (i := 3) rfl rfl
     have hW := hW.sub (M' := []) (Z' := [row v3 25 (Rp.flt .f64) x3]) (List.Sublist.refl _) (List.Sublist.cons_cons _ (List.nil_sublist _))
     exact ⟨_, H, hF.re ⟨rfl, rfl, rfl, rfl, rfl, trivial⟩, hW⟩
    ·
     have H := iteF (of_decide_eq_false hb) H
     rw [hb] at hF
     clear hb
     refine ls_w hF hW (wanted_y hF rfl rfl rfl rfl) rfl (Nat.le_of_ble_eq_true rfl) ((y_move hF rfl).q) (fun a w hF hW => ?_)
     refine ls_g (wanted_y hF rfl rfl rfl rfl) ?_
     obtain ⟨x11, h10, H⟩ := bindE H
     refine l_callG (Ml := []) (Zl := []) (M := []) (Z := [row v6 25 (Rp.flt .f64) x8, row v5 22 (Rp.int .u64) x6, row v4 22 (Rp.int .u64) x5, row v3 25 (Rp.flt .f64) x3, frz v2 (Rp.flt .f64) x2]) (β := Value) (rv := fun x => x) (MM := fun x => []) (ZZ := fun x => [row x 25 (Rp.flt .f64) x11]) hF hW H16 rfl rfl (fun hL => L43_list_c _ w (v1) p0 _ h10 ((rdc_ro h_v1) w hW).nx) (fun x a w hF hW => ?_)
     obtain ⟨v7, rfl⟩ : ∃ y, y = x := ⟨x, rfl⟩
     have hW : Stw ⟨Y, [], w0⟩ [] [row v7 25 (Rp.flt .f64) x11, row v6 25 (Rp.flt .f64) x8, row v5 22 (Rp.int .u64) x6, row v4 22 (Rp.int .u64) x5, row v3 25 (Rp.flt .f64) x3, frz v2 (Rp.flt .f64) x2] w := hW
     refine ls_g (wanted_y hF rfl rfl rfl rfl) ?_
     obtain ⟨x12, h11, H⟩ := bindE H
     refine ls hF hW rfl (y_call (v := Value.float .f64 x12) hF H22 rfl (fun w hW => meter_Spread_c any w (v7) x11 _ h11 ((rdc_row 0 rfl) w hW))) (fun a w hF hW => ?_)
     refine ls_g (wanted_y hF rfl rfl rfl rfl) ?_
     refine ls hF hW rfl (y_call (v := Value.int .u64 (float_Bits x12)) hF H8 rfl (fun w hW => float_Bits_c any w x12 _ rfl)) (fun a w hF hW => ?_)
     refine ls_w hF hW (wanted_y hF rfl rfl rfl rfl) rfl (Nat.le_of_ble_eq_true rfl) ((y_move hF rfl).q) (fun a w hF hW => ?_)
     refine ls_g (wanted_y hF rfl rfl rfl rfl) ?_
     obtain ⟨x13, h12, H⟩ := bindE H
     refine ls hF hW rfl (y_call (v := Value.int .u64 x13) hF H23 rfl (fun w hW => r43_Spread_c any w (v1) p0 _ h12 (((rdc_ro h_v1) : Rdc _ _ _ _ _ _) w hW).nx)) (fun a w hF hW => ?_)
     refine ls_w hF hW (wanted_y hF rfl rfl rfl rfl) rfl (Nat.le_of_ble_eq_true rfl) ((y_neq hF rfl rfl).q) (fun a w hF hW => ?_)
     refine ls hF hW rfl ((y_pick_f hF rfl rfl rfl).q) (fun a w hF hW => ?_)
     refine ls_nil (c_then ?_)
     have hW := hW.frontZ (i := 4) rfl rfl
     have hW := hW.sub (M' := []) (Z' := [row v3 25 (Rp.flt .f64) x3]) (List.Sublist.refl _) (List.Sublist.cons_cons _ (List.nil_sublist _))
     exact ⟨_, H, hF.re ⟨rfl, rfl, rfl, rfl, rfl, trivial⟩, hW⟩
  rintro a w ⟨x4, hj, hF, hW⟩
  have hj := Option.some.inj hj
  subst hj
  have H := K1
  clear G1 K1
  refine c_cond hF rfl (fun hb => ?_) (fun hb => ?_)
  ·
   have H := iteT hb H
   rw [hb] at hF
   clear hb
   refine c_seq (reg_list ?_)
   refine ls hF hW rfl ((y_assign hF rfl).q) (fun a w hF hW => ?_)
   refine ls_nil (c_then ?_)
   refine wp_ret ?_
   refine r_then ?_
   have H := Option.some.inj H
   subst H
   refine post1 (.inl rfl) hF hW rfl (rv_tmp hF rfl) ?_
   exact ⟨rfl, hW.done⟩
  ·
   have H := iteF (by rw [hb]; decide) H
   rw [hb] at hF
   clear hb
   refine wp_skip ?_
   refine c_then ?_
   refine c_seq (reg_list ?_)
   iterate 2 refine ls hF hW rfl ((y_assign hF rfl).q) (fun a w hF hW => ?_)
   refine ls_nil (c_then ?_)
   obtain ⟨o2, G2, K2, L2⟩ := orE H
   refine c_seqJ (fun a w => ∃ x14 : Int, ∃ x15 : Int, some (Sum.inl (x14, x15)) = some o2 ∧ Fr 87 [] [(4, .bool false), (6, .int .i64 x14), (7, .int .i64 x15)] a ∧ Stw ⟨Y, [], w0⟩ [] [] w) ?_ ?_
   ·
    have H := G2
    clear G2 K2
    refine c_seq (reg_list ?_)
    refine ls hF hW rfl ((y_assign hF rfl).q) (fun a w hF hW => ?_)
    refine ls_nil (c_then ?_)
    refine wp_block ?_
    refine c_loopW H (fun s a w => Fr 87 [] [(0, v1), (1, .int .u64 p1), (4, .bool false), (5, v3), (6, .int .i64 s.1), (7, .int .i64 s.2.1), (8, .int .i64 s.2.2)] a ∧ Stw ⟨Y, [], w0⟩ [] [row v3 25 (Rp.flt .f64) x3] w) ⟨hF.re ⟨rfl, rfl, rfl, rfl, rfl, rfl, rfl, trivial⟩, hW⟩ (fun s o a w H L3 hR => ?_)
    obtain ⟨x16, x17, x18⟩ := s
    obtain ⟨hF, hW⟩ := hR
    have hF : Fr 87 [] [(0, v1), (1, .int .u64 p1), (4, .bool false), (5, v3), (6, .int .i64 x16), (7, .int .i64 x17), (8, .int .i64 x18)] a := hF
    have hW : Stw ⟨Y, [], w0⟩ [] [row v3 25 (Rp.flt .f64) x3] w := hW
    rw [L43_MeterSorts_l1] at H
    refine c_seq ?_
    refine c_seq (reg_list ?_)
    iterate 2 refine ls hF hW rfl ((y_move hF rfl).q) (fun a w hF hW => ?_)
    refine ls hF hW rfl ((y_len (r := (Rp.int .u64)) (l := p0) u33_ rfl hF rfl (rdc_ro h_v1)).q) (fun a w hF hW => ?_)
    refine ls hF hW rfl ((y_lss hF rfl rfl).q) (fun a w hF hW => ?_)
    refine ls_nil (c_then ?_)
    refine c_cond hF rfl (fun hb => ?_) (fun hb => ?_)
    ·
     have H := iteT (of_decide_eq_true hb) H
     rw [hb] at hF
     clear hb
     refine wp_skip ?_
     refine c_then ?_
     obtain ⟨o4, G4, K4, L4⟩ := orE H
     refine c_seqJ (fun a w => ∃ x19 : Int, ∃ x20 : Int, some (Sum.inl (x19, x20)) = some o4 ∧ Fr 87 [] [(0, v1), (1, .int .u64 p1), (4, .bool false), (5, v3), (6, .int .i64 x19), (7, .int .i64 x20), (8, .int .i64 x18)] a ∧ Stw ⟨Y, [], w0⟩ [] [row v3 25 (Rp.flt .f64) x3] w) ?_ ?_
     ·
      have H := G4
      clear G4 K4
      refine wp_block ?_
      refine c_seq ?_
      obtain ⟨o5, G5, K5⟩ := bindE H
      refine c_seqJ (fun a w => ∃ x21 : Bool, some (x21) = some o5 ∧ Fr 87 [] [(0, v1), (1, .int .u64 p1), (4, .bool false), (5, v3), (6, .int .i64 x16), (7, .int .i64 x17), (8, .int .i64 x18), (60, .bool x21)] a ∧ Stw ⟨Y, [], w0⟩ [] [row v3 25 (Rp.flt .f64) x3] w) ?_ ?_
      ·
       have H := G5
       clear G5 K5
       refine reg_quiet hW MO (by kernel_rfl) ?_
       refine qs hF rfl ((y_move hF rfl).q) (fun a hF => ?_)
       refine qs hF rfl ((y_gtr hF rfl rfl).q) (fun a hF => ?_)
       refine qs hF rfl ((y_move hF rfl).q) (fun a hF => ?_)
       rcases Bool.eq_false_or_eq_true (decide (0 < x18)) with hb | hb
       ·
        have H := iteT (of_decide_eq_true hb) H
        rw [hb] at hF
        clear hb
        iterate 2 refine qs_w hF (wanted_y hF rfl rfl rfl rfl) rfl (Nat.le_of_ble_eq_true rfl) ((y_move hF rfl).q) (fun a hF => ?_)
        refine qs_w hF (wanted_y hF rfl rfl rfl rfl) rfl (Nat.le_of_ble_eq_true rfl) ((y_sub hF rfl rfl rfl).q) (fun a hF => ?_)
        obtain ⟨x22, h13, H⟩ := bindE H
        refine qs_w hF (wanted_y hF rfl rfl rfl rfl) rfl (Nat.le_of_ble_eq_true rfl) ((y_index (r := (Rp.flt .f64)) L34 hF rfl rfl (rdc_row 0 rfl) h13).q) (fun a hF => ?_)
        refine qs_w hF (wanted_y hF rfl rfl rfl rfl) rfl (Nat.le_of_ble_eq_true rfl) ((y_load_el (y := Value.float .f64 x22) (j := 0) (i := w64 (x18 - 1)) hF rfl rfl (rdc_row 0 rfl) h13 Fl.flt.to T25 rfl).q) (fun a hF => ?_)
        iterate 2 refine qs_w hF (wanted_y hF rfl rfl rfl rfl) rfl (Nat.le_of_ble_eq_true rfl) ((y_move hF rfl).q) (fun a hF => ?_)
        obtain ⟨x23, h14, H⟩ := bindE H
        refine qs_w hF (wanted_y hF rfl rfl rfl rfl) rfl (Nat.le_of_ble_eq_true rfl) ((y_index (r := (Rp.flt .f64)) L34 hF rfl rfl (rdc_row 0 rfl) h14).q) (fun a hF => ?_)
        refine qs_w hF (wanted_y hF rfl rfl rfl rfl) rfl (Nat.le_of_ble_eq_true rfl) ((y_load_el (y := Value.float .f64 x23) (j := 0) (i := x18) hF rfl rfl (rdc_row 0 rfl) h14 Fl.flt.to T25 rfl).q) (fun a hF => ?_)
        obtain ⟨x24, h15, H⟩ := bindE H
        refine qs_w hF (wanted_y hF rfl rfl rfl rfl) rfl (Nat.le_of_ble_eq_true rfl) (y_call (v := Value.int .i64 x24) hF H24 rfl (fun w hW => float_Compare_c any w x22 x23 _ h15)) (fun a hF => ?_)
        refine qs_w hF (wanted_y hF rfl rfl rfl rfl) rfl (Nat.le_of_ble_eq_true rfl) ((y_gtr hF rfl rfl).q) (fun a hF => ?_)
        refine qs hF rfl ((y_pick_t hF rfl rfl rfl).q) (fun a hF => ?_)
        refine quiet_end (fun w hW => ?_)
        refine c_then ?_
        exact ⟨_, H, hF.re ⟨rfl, rfl, rfl, rfl, rfl, rfl, rfl, rfl, trivial⟩, hW⟩
       ·
        have H := iteF (of_decide_eq_false hb) H
        rw [hb] at hF
        clear hb
        iterate 11 refine qs_skip hF (wanted_n hF rfl rfl rfl rfl rfl) rfl rfl (fun a hF => ?_)
        refine qs hF rfl ((y_pick_f hF rfl rfl rfl).q) (fun a hF => ?_)
        refine quiet_end (fun w hW => ?_)
        refine c_then ?_
        exact ⟨_, H, hF.re ⟨rfl, rfl, rfl, rfl, rfl, rfl, rfl, rfl, trivial⟩, hW⟩
      rintro a w ⟨x21, hj, hF, hW⟩
      have hj := Option.some.inj hj
      subst hj
      have H := K5
      clear G5 K5
      refine c_cond hF rfl (fun hb => ?_) (fun hb => ?_)
      ·
       have H := iteT hb H
       rw [hb] at hF
       clear hb
       refine c_seq (reg_list ?_)
       refine ls hF hW rfl ((y_assign hF rfl).q) (fun a w hF hW => ?_)
       refine ls_nil (c_then ?_)
       refine wp_ret ?_
       refine r_then ?_
       refine r_block ?_
       iterate 2 refine r_then ?_
       refine r_block ?_
       refine r_then ?_
       have H := L4 _ H
       have H := L3 _ H
       have H := L2 _ H
       have H := Option.some.inj H
       subst H
       refine post1 (.inl rfl) hF hW rfl (rv_tmp hF rfl) ?_
       exact ⟨rfl, hW.done⟩
      ·
       have H := iteF (by rw [hb]; decide) H
       rw [hb] at hF
       clear hb
       refine wp_skip ?_
       refine c_then ?_
       obtain ⟨o6, G6, K6⟩ := bindE H
       refine c_seqJ (fun a w => ∃ x25 : Int, some (x25) = some o6 ∧ Fr 87 [] [(0, v1), (1, .int .u64 p1), (4, .bool false), (5, v3), (6, .int .i64 x25), (7, .int .i64 x17), (8, .int .i64 x18)] a ∧ Stw ⟨Y, [], w0⟩ [] [row v3 25 (Rp.flt .f64) x3] w) ?_ ?_
       ·
        have H := G6
        clear G6 K6
        refine c_seq (reg_list ?_)
        iterate 2 refine ls hF hW rfl ((y_move hF rfl).q) (fun a w hF hW => ?_)
        obtain ⟨x26, h16, H⟩ := bindE H
        refine ls hF hW rfl ((y_index (r := (Rp.int .u64)) L33 hF rfl rfl (rdc_ro h_v1) h16).q) (fun a w hF hW => ?_)
        refine ls hF hW rfl ((y_load_el (y := Value.int .u64 x26) (j := 0) (i := x18) hF rfl rfl (rdc_ro h_v1) h16 Fl.int.to T22 rfl).q) (fun a w hF hW => ?_)
        refine ls hF hW rfl (y_call (v := Value.int .u64 (r03_Clean x26)) hF H13 rfl (fun w hW => r03_Clean_c any w x26 _ rfl)) (fun a w hF hW => ?_)
        refine ls hF hW rfl ((y_move hF rfl).q) (fun a w hF hW => ?_)
        refine ls hF hW rfl (y_call (v := Value.int .u64 (r03_Clean p1)) hF H13 rfl (fun w hW => r03_Clean_c any w p1 _ rfl)) (fun a w hF hW => ?_)
        refine ls hF hW rfl ((y_eql hF rfl rfl).q) (fun a w hF hW => ?_)
        refine ls_nil (c_then ?_)
        refine c_cond hF rfl (fun hb => ?_) (fun hb => ?_)
        ·
         have H := iteT (of_decide_eq_true hb) H
         rw [hb] at hF
         clear hb
         refine reg_list ?_
         refine ls hF hW rfl ((y_move hF rfl).q) (fun a w hF hW => ?_)
         refine ls hF hW rfl ((y_add hF rfl rfl rfl).q) (fun a w hF hW => ?_)
         refine ls hF hW rfl ((y_assign hF rfl).q) (fun a w hF hW => ?_)
         refine ls_nil (c_then ?_)
         exact ⟨_, H, hF.re ⟨rfl, rfl, rfl, rfl, rfl, rfl, rfl, trivial⟩, hW⟩
        ·
         have H := iteF (of_decide_eq_false hb) H
         rw [hb] at hF
         clear hb
         refine wp_skip ?_
         refine c_then ?_
         exact ⟨_, H, hF.re ⟨rfl, rfl, rfl, rfl, rfl, rfl, rfl, trivial⟩, hW⟩
       rintro a w ⟨x25, hj, hF, hW⟩
       have hj := Option.some.inj hj
       subst hj
       have H := K6
       clear G6 K6
       refine c_seq (reg_list ?_)
       iterate 2 refine ls hF hW rfl ((y_move hF rfl).q) (fun a w hF hW => ?_)
       obtain ⟨x27, h17, H⟩ := bindE H
       refine ls hF hW rfl ((y_index (r := (Rp.flt .f64)) L34 hF rfl rfl (rdc_row 0 rfl) h17).q) (fun a w hF hW => ?_)
       refine ls hF hW rfl ((y_load_el (y := Value.float .f64 x27) (j := 0) (i := x18) hF rfl rfl (rdc_row 0 rfl) h17 Fl.flt.to T25 rfl).q) (fun a w hF hW => ?_)
       refine ls hF hW rfl (y_call (v := Value.int .u64 (float_Bits x27)) hF H8 rfl (fun w hW => float_Bits_c any w x27 _ rfl)) (fun a w hF hW => ?_)
       refine ls hF hW rfl ((y_move hF rfl).q) (fun a w hF hW => ?_)
       refine ls hF hW rfl (y_call (v := Value.int .u64 (r03_Clean p1)) hF H13 rfl (fun w hW => r03_Clean_c any w p1 _ rfl)) (fun a w hF hW => ?_)
       refine ls hF hW rfl ((y_eql hF rfl rfl).q) (fun a w hF hW => ?_)
       refine ls_nil (c_then ?_)
       refine c_cond hF rfl (fun hb => ?_) (fun hb => ?_)
       ·
        have H := iteT (of_decide_eq_true hb) H
        rw [hb] at hF
        clear hb
        refine reg_list ?_
        refine ls hF hW rfl ((y_move hF rfl).q) (fun a w hF hW => ?_)
        refine ls hF hW rfl ((y_add hF rfl rfl rfl).q) (fun a w hF hW => ?_)
        refine ls hF hW rfl ((y_assign hF rfl).q) (fun a w hF hW => ?_)
        refine ls_nil ?_
        refine b_normal ?_
        refine c_then ?_
        exact ⟨_, _, H, hF.re ⟨rfl, rfl, rfl, rfl, rfl, rfl, rfl, trivial⟩, hW⟩
       ·
        have H := iteF (of_decide_eq_false hb) H
        rw [hb] at hF
        clear hb
        refine wp_skip ?_
        refine b_normal ?_
        refine c_then ?_
        exact ⟨_, _, H, hF.re ⟨rfl, rfl, rfl, rfl, rfl, rfl, rfl, trivial⟩, hW⟩
     rintro a w ⟨x19, x20, hj, hF, hW⟩
     have H := K4 _ hj
     clear hj G4 K4 L4
     refine reg_list ?_
     refine ls hF hW rfl ((y_move hF rfl).q) (fun a w hF hW => ?_)
     refine ls hF hW rfl ((y_add hF rfl rfl rfl).q) (fun a w hF hW => ?_)
     refine ls hF hW rfl ((y_assign hF rfl).q) (fun a w hF hW => ?_)
     refine ls_nil (c_then ?_)
     exact ⟨_, H, hF.re ⟨rfl, rfl, rfl, rfl, rfl, rfl, rfl, trivial⟩, hW⟩
    ·
     have H := iteF (of_decide_eq_false hb) H
     rw [hb] at hF
     clear hb
     refine wp_exit ?_
     iterate 2 refine e_then ?_
     refine e_block ?_
     refine c_then ?_
     have hW := hW.sub (M' := []) (Z' := []) (List.Sublist.refl _) (List.nil_sublist _)
     have H := L3 _ H
     exact ⟨_, _, H, hF.re ⟨rfl, rfl, rfl, trivial⟩, hW⟩
   rintro a w ⟨x14, x15, hj, hF, hW⟩
   have H := K2 _ hj
   clear hj G2 K2 L2
   obtain ⟨o7, G7, K7⟩ := bindE H
   refine c_seqJ (fun a w => ∃ x28 : Bool, some (x28) = some o7 ∧ Fr 87 [] [(4, .bool x28)] a ∧ Stw ⟨Y, [], w0⟩ [] [] w) ?_ ?_
   ·
    have H := G7
    clear G7 K7
    refine reg_list ?_
    iterate 2 refine ls hF hW rfl ((y_move hF rfl).q) (fun a w hF hW => ?_)
    refine ls hF hW rfl ((y_eql hF rfl rfl).q) (fun a w hF hW => ?_)
    refine ls hF hW rfl ((y_move hF rfl).q) (fun a w hF hW => ?_)
    rcases Bool.eq_false_or_eq_true (decide (x14 = x15)) with hb | hb
    ·
     have H := iteT (of_decide_eq_true hb) H
     rw [hb] at hF
     clear hb
     refine ls_g (wanted_y hF rfl rfl rfl rfl) ?_
     obtain ⟨x29, h18, H⟩ := bindE H
     refine ls hF hW rfl (y_call (v := Value.bool x29) hF H7 rfl (fun w hW => L43_awake_c any w _ h18)) (fun a w hF hW => ?_)
     refine ls hF hW rfl ((y_pick_t hF rfl rfl rfl).q) (fun a w hF hW => ?_)
     refine ls hF hW rfl ((y_assign hF rfl).q) (fun a w hF hW => ?_)
     refine ls_nil (c_then ?_)
     exact ⟨_, H, hF.re ⟨rfl, trivial⟩, hW⟩
    ·
     have H := iteF (of_decide_eq_false hb) H
     rw [hb] at hF
     clear hb
     refine lsn hF rfl rfl rfl rfl rfl rfl rfl (fun a hF => ?_)
     refine ls hF hW rfl ((y_pick_f hF rfl rfl rfl).q) (fun a w hF hW => ?_)
     refine ls hF hW rfl ((y_assign hF rfl).q) (fun a w hF hW => ?_)
     refine ls_nil (c_then ?_)
     exact ⟨_, H, hF.re ⟨rfl, trivial⟩, hW⟩
   rintro a w ⟨x28, hj, hF, hW⟩
   have hj := Option.some.inj hj
   subst hj
   have H := K7
   clear G7 K7
   refine wp_ret ?_
   have H := Option.some.inj H
   subst H
   refine post1 (.inl rfl) hF hW rfl (rv_tmp hF rfl) ?_
   exact ⟨rfl, hW.done⟩

end Go.Proofs.Ytdogfpoekndknaa
