/- The functions of layer 17, lifted. Conditions: none. -/
import Derived.Test.YtnkleniifdkpmaaA1
namespace Go.Proofs.Ytnkleniifdkpmaa
open Go Go.RowKit
set_option linter.unusedVariables false
set_option linter.unusedSimpArgs false
set_option maxRecDepth 20000
theorem H16 : Has Try.prog 16 := ⟨fun args w => run_callFunc_body Try.func16 rfl (by decide) args w⟩
noncomputable def topo_Hops_l2 (x7 : Int) (x9 : (List (Int × Int × Int))) : (List Int × List Int × Int) → Option ((List Int × List Int × Int) ⊕ ((List Int × List Int) ⊕ (List Int)))
  | (x10, x11, x12) => (if x12 < (x9.length : Int) then ((ix x9 x12).bind fun x15 => (ix x10 x15.2.1).bind fun x16 => (if x16 < 0 then (ix x10 x7).bind fun x17 => (ix x10 x15.2.1).bind fun x18 => (app x11 ([x15.2.1] : List Int)).bind fun x19 => some ((setAt x10 x15.2.1 (w64 (x17 + 1))), x19) else some (x10, x11))).bind fun (x13, x14) => some (.inl (x13, x14, w64 (x12 + 1))) else some (.inr (.inl (x10, x11))))
noncomputable def topo_Hops_l1 (p0 : Int × (List (Int × Int × Int × Int × Int × Int)) × (List (Int × Int))) : (List Int × List Int) → Option ((List Int × List Int) ⊕ (List Int))
  | (x5, x6) => (if 0 < (x6.length : Int) then (ix x6 0).bind fun x7 => (subl x6 1 (x6.length : Int)).bind fun x8 => (topo_Near p0 x7).bind fun x9 => loopW (topo_Hops_l2 x7 x9) (x5, x8, 0) else some (.inr x5))
noncomputable def topo_Hops (p0 : Int × (List (Int × Int × Int × Int × Int × Int)) × (List (Int × Int))) (p1 : Int) : Option (List Int) := (topo_Right p0).bind fun x1 => (if (!x1) = true then some ([] : List Int) else (slices_Repeat_int_int ([(-1)] : List Int) p0.1).bind fun x2 => (if (decide (p1 < 0) || decide (p0.1 ≤ p1)) = true then some x2 else (ix x2 p1).bind fun x3 => (loopW (topo_Hops_l1 p0) ((setAt x2 p1 0), ([p1] : List Int))).bind fun x4 => some x4))
theorem topo_Hops_c (Y : Nat → Prop) (w0 : World) (v1 : Value) (v2 : Value) (p0 : Int × (List (Int × Int × Int × Int × Int × Int)) × (List (Int × Int))) (p1 : Int) (r : List Int) (H : topo_Hops p0 p1 = some r) (h_v1 : Sl w0 (NX []) R44 v1 p0.2.1) (h_v2 : Sl w0 (NX []) R47 v2 p0.2.2) :
    Calls Try.prog 20 #[.agg #[.int .i64 p0.1, v1, v2], .int .i64 p1] w0 fun e w' => ∃ x : Value, e = .returned (x) ∧ Stw ⟨Y, [], w0⟩ [] [row (x) 3 (Rp.int .i64) r] w' := by
 refine enter Try.func20 rfl Try.ntmps20 rfl (fun a hF => ?_)
 have hW := Stw.start Y w0
 unfold topo_Hops at H
 refine c_seq ?_
 refine reg_list ?_
 refine l_box (cs := [.int .i64 p0.1, v1, v2]) hF hW rfl rfl rfl (fun b1 a w hF hW => ?_)
 refine ls hF hW rfl ((y_assign hF rfl).q) (fun a w hF hW => ?_)
 refine ls_nil ?_
 refine c_then ?_
 refine c_seq ?_
 refine c_seq ?_
 refine reg_list ?_
 refine ls hF hW rfl ((y_load (v := Value.agg #[.int .i64 p0.1, v1, v2]) 0 hF rfl rfl T25 rfl).q) (fun a w hF hW => ?_)
 obtain ⟨x1, h1, H⟩ := bindE H
 refine ls hF hW rfl (y_call (v := Value.bool x1) hF H9 rfl (fun w hW => topo_Right_c any w (v1) (v2) p0 _ h1 (((rdc_ro h_v1) : Rdc _ _ _ _ _ _) w hW).nx (((rdc_ro h_v2) : Rdc _ _ _ _ _ _) w hW).nx)) (fun a w hF hW => ?_)
 refine ls hF hW rfl ((y_not hF rfl).q) (fun a w hF hW => ?_)
 refine ls_nil ?_
 refine c_then ?_
 refine c_cond hF rfl (fun hb => ?_) (fun hb => ?_)
 ·
  have H := iteT hb H
  rw [hb] at hF
  clear hb
  refine c_seq ?_
  refine reg_list ?_
  refine ls hF hW rfl ((y_assign hF rfl).q) (fun a w hF hW => ?_)
  refine ls_nil ?_
  refine c_then ?_
  refine wp_ret ?_
  refine r_then ?_
  have H := Option.some.inj H
  subst H
  refine post1 (.inl rfl) hF hW rfl (rv_tmp hF rfl) ?_
  have hW := hW.nilRow 3 (Rp.int .i64)
  have hW := hW.sub (M' := []) (Z' := [row (Value.slice none 0 0) 3 (Rp.int .i64) ([])]) (List.nil_sublist _) (List.Sublist.refl _)
  exact ⟨(Value.slice none 0 0), rfl, hW⟩
 ·
  have H := iteF (by rw [hb]; decide) H
  rw [hb] at hF
  clear hb
  refine wp_skip ?_
  refine c_then ?_
  refine c_seq ?_
  refine reg_list ?_
  refine l_lit (z := Value.int .i64 0) (cs := [.int .i64 (-1)]) (Rp.int .i64) ([(-1)] : List Int) hF hW rfl L39 Z3 rfl rfl rfl rfl rfl rfl (Fl.int.repL _ _ ([(-1)] : List Int)) (fun v3 a w hF hW => ?_)
  refine ls hF hW rfl ((y_fieldAddr u25_ rfl rfl rfl T3 hF rfl 0 rfl).q) (fun a w hF hW => ?_)
  refine ls hF hW rfl ((y_load (v := Value.int .i64 p0.1) 0 hF rfl rfl T3 rfl).q) (fun a w hF hW => ?_)
  obtain ⟨x2, h2, H⟩ := bindE H
  have hW := hW.freeze
  refine l_callG (Ml := []) (Zl := []) (M := [(b1, [.int .i64 p0.1, v1, v2])]) (Z := [frz v3 (Rp.int .i64) ([(-1)] : List Int)]) (β := Value) (rv := fun x => x) (MM := fun x => []) (ZZ := fun x => [row x 3 (Rp.int .i64) x2]) hF hW H30 rfl rfl (fun hL => slices_Repeat_int_int_c _ w (v3) ([(-1)] : List Int) p0.1 _ h2 (hW.item (i := 0) rfl)) (fun x a w hF hW => ?_)
  obtain ⟨v4, rfl⟩ : ∃ y, y = x := ⟨x, rfl⟩
  have hW : Stw ⟨Y, [], w0⟩ [(b1, [.int .i64 p0.1, v1, v2])] [row v4 3 (Rp.int .i64) x2, frz v3 (Rp.int .i64) ([(-1)] : List Int)] w := hW
  refine ls hF hW rfl ((y_assign hF rfl).q) (fun a w hF hW => ?_)
  refine ls_nil ?_
  refine c_then ?_
  refine c_seq ?_
  refine c_seqJ (fun a w => Fr 69 [] [(1, .int .i64 p1), (2, .pointer (some ⟨b1, 0, none⟩)), (4, .slice none 0 0), (5, v4), (24, .bool (decide (p1 < 0) || decide (p0.1 ≤ p1)))] a ∧ Stw ⟨Y, [], w0⟩ [(b1, [.int .i64 p0.1, v1, v2])] [row v4 3 (Rp.int .i64) x2, frz v3 (Rp.int .i64) ([(-1)] : List Int)] w) ?_ ?_
  ·
   refine reg_list ?_
   refine ls hF hW rfl ((y_move hF rfl).q) (fun a w hF hW => ?_)
   refine ls hF hW rfl ((y_lss hF rfl rfl).q) (fun a w hF hW => ?_)
   refine ls hF hW rfl ((y_move hF rfl).q) (fun a w hF hW => ?_)
   rcases Bool.eq_false_or_eq_true (decide (p1 < 0)) with hb0 | hb0
   ·
    rw [hb0] at hF
    refine lsn hF rfl rfl rfl rfl rfl rfl rfl (fun a hF => ?_)
    refine lsn hF rfl rfl rfl rfl rfl rfl rfl (fun a hF => ?_)
    refine lsn hF rfl rfl rfl rfl rfl rfl rfl (fun a hF => ?_)
    refine lsn hF rfl rfl rfl rfl rfl rfl rfl (fun a hF => ?_)
    refine ls hF hW rfl ((y_pick_t hF rfl rfl rfl).q) (fun a w hF hW => ?_)
    refine ls_nil ?_
    refine c_then ?_
    exact ⟨hF.re ⟨rfl, rfl, rfl, rfl, (by show some (Value.bool true) = some (Value.bool (decide (p1 < 0) || decide (p0.1 ≤ p1))); try rw [hb0]; all_goals simp only [Bool.not_true, Bool.not_false, Bool.true_and, Bool.false_and, Bool.true_or, Bool.false_or, Bool.and_true, Bool.or_false, cond_true, cond_false]), trivial⟩, hW⟩
   ·
    rw [hb0] at hF
    refine ls_w hF hW (wanted_y hF rfl rfl rfl rfl) rfl (Nat.le_of_ble_eq_true rfl) ((y_move hF rfl).q) (fun a w hF hW => ?_)
    refine ls_w hF hW (wanted_y hF rfl rfl rfl rfl) rfl (Nat.le_of_ble_eq_true rfl) ((y_fieldAddr u25_ rfl rfl rfl T3 hF rfl 0 rfl).q) (fun a w hF hW => ?_)
    refine ls_w hF hW (wanted_y hF rfl rfl rfl rfl) rfl (Nat.le_of_ble_eq_true rfl) ((y_load (v := Value.int .i64 p0.1) 0 hF rfl rfl T3 rfl).q) (fun a w hF hW => ?_)
    refine ls_w hF hW (wanted_y hF rfl rfl rfl rfl) rfl (Nat.le_of_ble_eq_true rfl) ((y_geq hF rfl rfl).q) (fun a w hF hW => ?_)
    refine ls hF hW rfl ((y_pick_f hF rfl rfl rfl).q) (fun a w hF hW => ?_)
    refine ls_nil ?_
    refine c_then ?_
    exact ⟨hF.re ⟨rfl, rfl, rfl, rfl, (by show some (Value.bool (decide (p0.1 ≤ p1))) = some (Value.bool (decide (p1 < 0) || decide (p0.1 ≤ p1))); try rw [hb0]; all_goals simp only [Bool.not_true, Bool.not_false, Bool.true_and, Bool.false_and, Bool.true_or, Bool.false_or, Bool.and_true, Bool.or_false, cond_true, cond_false]), trivial⟩, hW⟩
  rintro a w ⟨hF, hW⟩
  refine c_cond hF rfl (fun hb => ?_) (fun hb => ?_)
  ·
   have H := iteT hb H
   rw [hb] at hF
   clear hb
   refine c_seq ?_
   refine reg_list ?_
   refine ls hF hW rfl ((y_move hF rfl).q) (fun a w hF hW => ?_)
   refine ls hF hW rfl ((y_assign hF rfl).q) (fun a w hF hW => ?_)
   refine ls_nil ?_
   refine c_then ?_
   refine wp_ret ?_
   refine r_then ?_
   have H := Option.some.inj H
   subst H
   refine post1 (.inl rfl) hF hW rfl (rv_tmp hF rfl) ?_
   have hW := hW.sub (M' := []) (Z' := [row v4 3 (Rp.int .i64) x2]) (List.nil_sublist _) (List.Sublist.cons_cons _ (List.nil_sublist _))
   exact ⟨(v4), rfl, hW⟩
  ·
   have H := iteF (by rw [hb]; decide) H
   rw [hb] at hF
   clear hb
   refine wp_skip ?_
   refine c_then ?_
   refine c_seq ?_
   refine reg_list ?_
   refine ls hF hW rfl ((y_move hF rfl).q) (fun a w hF hW => ?_)
   refine ls hF hW rfl ((y_move hF rfl).q) (fun a w hF hW => ?_)
   obtain ⟨x3, h3, H⟩ := bindE H
   refine ls hF hW rfl ((y_index (r := (Rp.int .i64)) L39 hF rfl rfl (rdc_row 0 rfl) h3).q) (fun a w hF hW => ?_)
   refine l_store_el (i := p1) (j := 0) (vs := [.int .i64 0]) (x' := 0) hF hW rfl rfl rfl (k := 0) rfl rfl h3 T3 rfl rfl rfl rfl (fun A cs _ => Fl.int.sto (by rfl) _ _ _) (fun w hW => ?_)
   refine ls_nil ?_
   refine c_then ?_
   refine c_seq ?_
   refine reg_list ?_
   refine ls hF hW rfl ((y_move hF rfl).q) (fun a w hF hW => ?_)
   refine l_lit (z := Value.int .i64 0) (cs := [.int .i64 p1]) (Rp.int .i64) ([p1] : List Int) hF hW rfl L39 Z3 rfl rfl rfl rfl rfl rfl (Fl.int.repL _ _ ([p1] : List Int)) (fun v5 a w hF hW => ?_)
   refine ls hF hW rfl ((y_assign hF rfl).q) (fun a w hF hW => ?_)
   refine ls_nil ?_
   refine c_then ?_
   obtain ⟨o1, G1, K1⟩ := bindE H
   refine c_seqJ (fun a w => ∃ x4 : List Int, some (x4) = some o1 ∧ Fr 69 [] [(4, .slice none 0 0), (5, v4)] a ∧ Stw ⟨Y, [], w0⟩ [(b1, [.int .i64 p0.1, v1, v2])] [row v4 3 (Rp.int .i64) x4] w) ?_ ?_
   ·
    have H := G1
    clear G1 K1
    refine wp_block ?_
    have hW := hW.frontZ (i := 1) rfl rfl
    have hW := hW.sub (M' := [(b1, [.int .i64 p0.1, v1, v2])]) (Z' := [row v4 3 (Rp.int .i64) (setAt x2 p1 0), row v5 3 (Rp.int .i64) ([p1] : List Int)]) (List.Sublist.refl _) (List.Sublist.cons_cons _ (List.Sublist.cons_cons _ (List.nil_sublist _)))
    refine c_loopW H (fun s a w => ∃ v6 : Value, Fr 69 [] [(2, .pointer (some ⟨b1, 0, none⟩)), (4, .slice none 0 0), (5, v4), (6, v6)] a ∧ Stw ⟨Y, [], w0⟩ [(b1, [.int .i64 p0.1, v1, v2])] [row v4 3 (Rp.int .i64) s.1, row v6 3 (Rp.int .i64) s.2] w) ⟨(v5), hF.re ⟨rfl, rfl, rfl, rfl, trivial⟩, hW⟩ (fun s o a w H L2 hR => ?_)
    obtain ⟨x5, x6⟩ := s
    obtain ⟨v6, hF, hW⟩ := hR
    have hF : Fr 69 [] [(2, .pointer (some ⟨b1, 0, none⟩)), (4, .slice none 0 0), (5, v4), (6, v6)] a := hF
    have hW : Stw ⟨Y, [], w0⟩ [(b1, [.int .i64 p0.1, v1, v2])] [row v4 3 (Rp.int .i64) x5, row v6 3 (Rp.int .i64) x6] w := hW
    rw [topo_Hops_l1] at H
    refine c_seq ?_
    refine c_seq ?_
    refine reg_list ?_
    refine ls hF hW rfl ((y_move hF rfl).q) (fun a w hF hW => ?_)
    refine ls hF hW rfl ((y_len (r := (Rp.int .i64)) (l := x6) u39_ rfl hF rfl (rdc_row 1 rfl)).q) (fun a w hF hW => ?_)
    refine ls hF hW rfl ((y_gtr hF rfl rfl).q) (fun a w hF hW => ?_)
    refine ls_nil ?_
    refine c_then ?_
    refine c_cond hF rfl (fun hb => ?_) (fun hb => ?_)
    ·
     have H := iteT (of_decide_eq_true hb) H
     rw [hb] at hF
     clear hb
     refine wp_skip ?_
     refine c_then ?_
     refine wp_block ?_
     refine c_seq ?_
     refine reg_list ?_
     refine ls hF hW rfl ((y_move hF rfl).q) (fun a w hF hW => ?_)
     obtain ⟨x7, h4, H⟩ := bindE H
     refine ls hF hW rfl ((y_index (r := (Rp.int .i64)) L39 hF rfl rfl (rdc_row 1 rfl) h4).q) (fun a w hF hW => ?_)
     refine ls hF hW rfl ((y_load_el (y := Value.int .i64 x7) (j := 0) (i := 0) hF rfl rfl (rdc_row 1 rfl) h4 Fl.int.to T3 rfl).q) (fun a w hF hW => ?_)
     refine ls hF hW rfl ((y_assign hF rfl).q) (fun a w hF hW => ?_)
     refine ls_nil ?_
     refine c_then ?_
     refine c_seq ?_
     refine reg_list ?_
     refine ls hF hW rfl ((y_move hF rfl).q) (fun a w hF hW => ?_)
     obtain ⟨x8, h5, H⟩ := bindE H
     refine ls hF hW rfl ((y_slice (r := (Rp.int .i64)) L39 hF rfl rfl rfl (rdc_row 1 rfl) h5).q) (fun a w hF hW => ?_)
     refine ls hF hW rfl ((y_assign hF rfl).q) (fun a w hF hW => ?_)
     refine ls_nil ?_
     refine c_then ?_
     refine c_seq ?_
     refine reg_list ?_
     refine ls hF hW rfl ((y_load (v := Value.agg #[.int .i64 p0.1, v1, v2]) 0 hF rfl rfl T25 rfl).q) (fun a w hF hW => ?_)
     refine ls hF hW rfl ((y_move hF rfl).q) (fun a w hF hW => ?_)
     obtain ⟨x9, h6, H⟩ := bindE H
     refine l_callG (Ml := []) (Zl := []) (M := [(b1, [.int .i64 p0.1, v1, v2])]) (Z := [row v4 3 (Rp.int .i64) x5, row v6 3 (Rp.int .i64) x6]) (β := Value) (rv := fun x => x) (MM := fun x => []) (ZZ := fun x => [row x 37 R37 x9]) hF hW H16 rfl rfl (fun hL => topo_Near_c _ w (v1) (v2) p0 x7 _ h6 ((rdc_ro h_v1) w hW).nx ((rdc_ro h_v2) w hW).nx) (fun x a w hF hW => ?_)
     obtain ⟨v7, rfl⟩ : ∃ y, y = x := ⟨x, rfl⟩
     have hW : Stw ⟨Y, [], w0⟩ [(b1, [.int .i64 p0.1, v1, v2])] [row v7 37 R37 x9, row v4 3 (Rp.int .i64) x5, row v6 3 (Rp.int .i64) x6] w := hW
     refine ls hF hW rfl ((y_len (r := R37) (l := x9) u32_ rfl hF rfl (rdc_row 0 rfl)).q) (fun a w hF hW => ?_)
     refine ls hF hW rfl ((y_move hF rfl).q) (fun a w hF hW => ?_)
     refine ls_nil ?_
     refine c_then ?_
     refine wp_block ?_
     have hW := hW.subRow (k := 2) rfl rfl h5
     have hW := hW.frontZ (i := 1) rfl rfl
     have hW := hW.frontZ (i := 1) rfl rfl
     have hW := hW.frontZ (i := 2) rfl rfl
     refine c_loopW H (fun s a w => ∃ v8 : Value, Fr 69 [] [(2, .pointer (some ⟨b1, 0, none⟩)), (4, .slice none 0 0), (5, v4), (6, v8), (7, .int .i64 x7), (41, v7), (42, .int .i64 (x9.length : Int)), (43, .int .i64 s.2.2)] a ∧ Stw ⟨Y, [], w0⟩ [(b1, [.int .i64 p0.1, v1, v2])] [row v4 3 (Rp.int .i64) s.1, row v8 3 (Rp.int .i64) s.2.1, row v7 37 R37 x9] w) ⟨((slSub v6 (1 : Int) (x6.length : Int) 1)), hF.re ⟨rfl, rfl, rfl, rfl, rfl, rfl, rfl, rfl, trivial⟩, hW⟩ (fun s o a w H L3 hR => ?_)
     obtain ⟨x10, x11, x12⟩ := s
     obtain ⟨v8, hF, hW⟩ := hR
     have hF : Fr 69 [] [(2, .pointer (some ⟨b1, 0, none⟩)), (4, .slice none 0 0), (5, v4), (6, v8), (7, .int .i64 x7), (41, v7), (42, .int .i64 (x9.length : Int)), (43, .int .i64 x12)] a := hF
     have hW : Stw ⟨Y, [], w0⟩ [(b1, [.int .i64 p0.1, v1, v2])] [row v4 3 (Rp.int .i64) x10, row v8 3 (Rp.int .i64) x11, row v7 37 R37 x9] w := hW
     rw [topo_Hops_l2] at H
     refine c_seq ?_
     refine reg_list ?_
     refine ls hF hW rfl ((y_lss hF rfl rfl).q) (fun a w hF hW => ?_)
     refine ls_nil ?_
     refine c_then ?_
     refine c_seq ?_
     refine c_cond hF rfl (fun hb => ?_) (fun hb => ?_)
     ·
      have H := iteT (of_decide_eq_true hb) H
      rw [hb] at hF
      clear hb
      refine wp_skip ?_
      refine c_then ?_
      obtain ⟨o4, G4, K4⟩ := bindE H
      refine c_seqJ (fun a w => ∃ x13 : List Int, ∃ x14 : List Int, ∃ v9 : Value, some ((x13, x14)) = some o4 ∧ Fr 69 [] [(2, .pointer (some ⟨b1, 0, none⟩)), (4, .slice none 0 0), (5, v4), (6, v9), (7, .int .i64 x7), (41, v7), (42, .int .i64 (x9.length : Int)), (43, .int .i64 x12)] a ∧ Stw ⟨Y, [], w0⟩ [(b1, [.int .i64 p0.1, v1, v2])] [row v4 3 (Rp.int .i64) x13, row v9 3 (Rp.int .i64) x14, row v7 37 R37 x9] w) ?_ ?_
      ·
       have H := G4
       clear G4 K4
       refine wp_block ?_
       refine c_seq ?_
       refine reg_list ?_
       obtain ⟨x15, h7, H⟩ := bindE H
       refine ls hF hW rfl ((y_index (r := R37) L32 hF rfl rfl (rdc_row 2 rfl) h7).q) (fun a w hF hW => ?_)
       refine ls hF hW rfl ((y_load_el (y := Value.agg #[.int .i64 x15.1, .int .i64 x15.2.1, .int .i64 x15.2.2]) (j := 0) (i := x12) hF rfl rfl (rdc_row 2 rfl) h7 F37.to T37 rfl).q) (fun a w hF hW => ?_)
       refine l_alloc (cs := [.int .i64 0, .int .i64 0, .int .i64 0]) hF hW rfl Z37 rfl (fun b2 a w hF hW => ?_)
       refine l_store (vs := [.int .i64 x15.1, .int .i64 x15.2.1, .int .i64 x15.2.2]) (M' := [(b2, [.int .i64 x15.1, .int .i64 x15.2.1, .int .i64 x15.2.2]), (b1, [.int .i64 p0.1, v1, v2])]) 0 hF hW rfl rfl rfl T37 rfl rfl rfl rfl rfl (fun w hW => ?_)
       refine ls_nil ?_
       refine c_then ?_
       refine c_seq ?_
       refine reg_list ?_
       refine ls hF hW rfl ((y_move hF rfl).q) (fun a w hF hW => ?_)
       refine ls hF hW rfl ((y_fieldAddr u37_ rfl rfl rfl T3 hF rfl 1 rfl).q) (fun a w hF hW => ?_)
       refine ls hF hW rfl ((y_load (v := Value.int .i64 x15.2.1) 0 hF rfl rfl T3 rfl).q) (fun a w hF hW => ?_)
       obtain ⟨x16, h8, H⟩ := bindE H
       refine ls hF hW rfl ((y_index (r := (Rp.int .i64)) L39 hF rfl rfl (rdc_row 0 rfl) h8).q) (fun a w hF hW => ?_)
       refine ls hF hW rfl ((y_load_el (y := Value.int .i64 x16) (j := 0) (i := x15.2.1) hF rfl rfl (rdc_row 0 rfl) h8 Fl.int.to T3 rfl).q) (fun a w hF hW => ?_)
       refine ls hF hW rfl ((y_lss hF rfl rfl).q) (fun a w hF hW => ?_)
       refine ls_nil ?_
       refine c_then ?_
       refine c_cond hF rfl (fun hb => ?_) (fun hb => ?_)
       ·
        have H := iteT (of_decide_eq_true hb) H
        rw [hb] at hF
        clear hb
        refine c_seq ?_
        refine reg_tail 9 hW MO (by kernel_rfl) ?_
        refine qs hF rfl ((y_move hF rfl).q) (fun a hF => ?_)
        refine qs hF rfl ((y_fieldAddr u37_ rfl rfl rfl T3 hF rfl 1 rfl).q) (fun a hF => ?_)
        refine qs hF rfl ((y_load (v := Value.int .i64 x15.2.1) 0 hF rfl rfl T3 rfl).q) (fun a hF => ?_)
        refine qs hF rfl ((y_move hF rfl).q) (fun a hF => ?_)
        refine qs hF rfl ((y_move hF rfl).q) (fun a hF => ?_)
        obtain ⟨x17, h9, H⟩ := bindE H
        refine qs hF rfl ((y_index (r := (Rp.int .i64)) L39 hF rfl rfl (rdc_row 0 rfl) h9).q) (fun a hF => ?_)
        refine qs hF rfl ((y_load_el (y := Value.int .i64 x17) (j := 0) (i := x7) hF rfl rfl (rdc_row 0 rfl) h9 Fl.int.to T3 rfl).q) (fun a hF => ?_)
        refine qs hF rfl ((y_add hF rfl rfl rfl).q) (fun a hF => ?_)
        obtain ⟨x18, h10, H⟩ := bindE H
        refine qs hF rfl ((y_index (r := (Rp.int .i64)) L39 hF rfl rfl (rdc_row 0 rfl) h10).q) (fun a hF => ?_)
        refine quiet_end (fun w hW => ?_)
        refine l_store_el (i := x15.2.1) (j := 0) (vs := [.int .i64 (w64 (x17 + 1))]) (x' := w64 (x17 + 1)) hF hW rfl rfl rfl (k := 0) rfl rfl h10 T3 rfl rfl rfl rfl (fun A cs _ => Fl.int.sto (by rfl) _ _ _) (fun w hW => ?_)
        refine ls_nil ?_
        refine c_then ?_
        refine reg_list ?_
        refine ls hF hW rfl ((y_move hF rfl).q) (fun a w hF hW => ?_)
        refine ls hF hW rfl ((y_fieldAddr u37_ rfl rfl rfl T3 hF rfl 1 rfl).q) (fun a w hF hW => ?_)
        refine ls hF hW rfl ((y_load (v := Value.int .i64 x15.2.1) 0 hF rfl rfl T3 rfl).q) (fun a w hF hW => ?_)
        refine l_lit (z := Value.int .i64 0) (cs := [.int .i64 x15.2.1]) (Rp.int .i64) ([x15.2.1] : List Int) hF hW rfl L39 Z3 rfl rfl rfl rfl rfl rfl (Fl.int.repL _ _ ([x15.2.1] : List Int)) (fun v10 a w hF hW => ?_)
        obtain ⟨x19, h11, H⟩ := bindE H
        refine l_append (r := (Rp.int .i64)) (i := 2) hF hW rfl L39 rfl rfl rfl rfl (src_row hW 0 rfl) h11 rfl (fun v11 a w hF hW => ?_)
        have hW : Stw ⟨Y, [], w0⟩ [(b2, [.int .i64 x15.1, .int .i64 x15.2.1, .int .i64 x15.2.2]), (b1, [.int .i64 p0.1, v1, v2])] [row v11 3 (Rp.int .i64) x19, row v10 3 (Rp.int .i64) ([x15.2.1] : List Int), row v4 3 (Rp.int .i64) (setAt x10 x15.2.1 (w64 (x17 + 1))), row v7 37 R37 x9] w := hW
        refine ls hF hW rfl ((y_assign hF rfl).q) (fun a w hF hW => ?_)
        refine ls_nil ?_
        refine b_normal ?_
        refine c_then ?_
        have hW := hW.frontZ (i := 3) rfl rfl
        have hW := hW.frontZ (i := 1) rfl rfl
        have hW := hW.frontZ (i := 3) rfl rfl
        have hW := hW.frontM (i := 1) rfl rfl
        have hW := hW.sub (M' := [(b1, [.int .i64 p0.1, v1, v2])]) (Z' := [row v4 3 (Rp.int .i64) (setAt x10 x15.2.1 (w64 (x17 + 1))), row v11 3 (Rp.int .i64) x19, row v7 37 R37 x9]) (List.Sublist.cons_cons _ (List.nil_sublist _)) (List.Sublist.cons_cons _ (List.Sublist.cons_cons _ (List.Sublist.cons_cons _ (List.nil_sublist _))))
        exact ⟨_, _, (v11), H, hF.re ⟨rfl, rfl, rfl, rfl, rfl, rfl, rfl, rfl, trivial⟩, hW⟩
       ·
        have H := iteF (of_decide_eq_false hb) H
        rw [hb] at hF
        clear hb
        refine wp_skip ?_
        refine b_normal ?_
        refine c_then ?_
        have hW := hW.frontZ (i := 2) rfl rfl
        have hW := hW.frontZ (i := 2) rfl rfl
        have hW := hW.frontZ (i := 2) rfl rfl
        have hW := hW.frontM (i := 1) rfl rfl
        have hW := hW.sub (M' := [(b1, [.int .i64 p0.1, v1, v2])]) (Z' := [row v4 3 (Rp.int .i64) x10, row v8 3 (Rp.int .i64) x11, row v7 37 R37 x9]) (List.Sublist.cons_cons _ (List.nil_sublist _)) (List.Sublist.refl _)
        exact ⟨_, _, (v8), H, hF.re ⟨rfl, rfl, rfl, rfl, rfl, rfl, rfl, rfl, trivial⟩, hW⟩
      rintro a w ⟨x13, x14, v9, hj, hF, hW⟩
      have hj := Option.some.inj hj
      subst hj
      have H := K4
      clear G4 K4
      refine reg_list ?_
      refine ls hF hW rfl ((y_add hF rfl rfl rfl).q) (fun a w hF hW => ?_)
      refine ls hF hW rfl ((y_move hF rfl).q) (fun a w hF hW => ?_)
      refine ls_nil ?_
      refine c_then ?_
      have hW := hW.frontZ (i := 2) rfl rfl
      have hW := hW.frontZ (i := 2) rfl rfl
      have hW := hW.frontZ (i := 2) rfl rfl
      exact ⟨_, H, (v9), hF.re ⟨rfl, rfl, rfl, rfl, rfl, rfl, rfl, rfl, trivial⟩, hW⟩
     ·
      have H := iteF (of_decide_eq_false hb) H
      rw [hb] at hF
      clear hb
      refine wp_exit ?_
      refine e_then ?_
      refine e_then ?_
      refine e_block ?_
      refine b_normal ?_
      refine c_then ?_
      have hW := hW.frontZ (i := 1) rfl rfl
      have hW := hW.frontZ (i := 1) rfl rfl
      have hW := hW.sub (M' := [(b1, [.int .i64 p0.1, v1, v2])]) (Z' := [row v4 3 (Rp.int .i64) x10, row v8 3 (Rp.int .i64) x11]) (List.Sublist.refl _) (List.Sublist.cons_cons _ (List.Sublist.cons_cons _ (List.nil_sublist _)))
      have H := L3 _ H
      exact ⟨_, H, (v8), hF.re ⟨rfl, rfl, rfl, rfl, trivial⟩, hW⟩
    ·
     have H := iteF (of_decide_eq_false hb) H
     rw [hb] at hF
     clear hb
     refine wp_exit ?_
     refine e_then ?_
     refine e_then ?_
     refine e_block ?_
     refine c_then ?_
     have hW := hW.sub (M' := [(b1, [.int .i64 p0.1, v1, v2])]) (Z' := [row v4 3 (Rp.int .i64) x5]) (List.Sublist.refl _) (List.Sublist.cons_cons _ (List.nil_sublist _))
     have H := L2 _ H
     exact ⟨_, H, hF.re ⟨rfl, rfl, trivial⟩, hW⟩
   rintro a w ⟨x4, hj, hF, hW⟩
   have hj := Option.some.inj hj
   subst hj
   have H := K1
   clear G1 K1
   refine c_seq ?_
   refine reg_list ?_
   refine ls hF hW rfl ((y_move hF rfl).q) (fun a w hF hW => ?_)
   refine ls hF hW rfl ((y_assign hF rfl).q) (fun a w hF hW => ?_)
   refine ls_nil ?_
   refine c_then ?_
   refine wp_ret ?_
   have H := Option.some.inj H
   subst H
   refine post1 (.inl rfl) hF hW rfl (rv_tmp hF rfl) ?_
   have hW := hW.sub (M' := []) (Z' := [row v4 3 (Rp.int .i64) x4]) (List.nil_sublist _) (List.Sublist.refl _)
   exact ⟨(v4), rfl, hW⟩

theorem H20 : Has Try.prog 20 := ⟨fun args w => run_callFunc_body Try.func20 rfl (by decide) args w⟩
noncomputable def slices_Index_int_int_l1 (p0 : List Int) (p1 : Int) : Int → Option (Int ⊕ (Unit ⊕ Int))
  | x1 => (if x1 < (p0.length : Int) then (ix p0 x1).bind fun x2 => (if p1 = x2 then some (.inr (.inr x1)) else some (.inl (w64 (x1 + 1)))) else some (.inr (.inl ())))
noncomputable def slices_Index_int_int (p0 : List Int) (p1 : Int) : Option Int := orR (loopW (slices_Index_int_int_l1 p0 p1) 0) fun _ => some (-1)
theorem slices_Index_int_int_c (Y : Nat → Prop) (w0 : World) (v1 : Value) (p0 : List Int) (p1 : Int) (r : Int) (H : slices_Index_int_int p0 p1 = some r) (h_v1 : Sl w0 (NX []) (Rp.int .i64) v1 p0) :
    Calls Try.prog 37 #[v1, .int .i64 p1] w0 fun e w' => e = .returned (.int .i64 r) ∧ Below w0.heap.size w0 w' := by
 refine enter Try.func37 rfl Try.ntmps37 rfl (fun a hF => ?_)
 have hW := Stw.start Y w0
 unfold slices_Index_int_int at H
 refine c_seq ?_
 refine reg_list ?_
 refine ls hF hW rfl ((y_assign hF rfl).q) (fun a w hF hW => ?_)
 refine ls_nil ?_
 refine c_then ?_
 obtain ⟨o1, G1, K1, L1⟩ := orE H
 refine c_seqJ (fun a w => some (Sum.inl ()) = some o1 ∧ Fr 19 [] [(4, .int .i64 0)] a ∧ Stw ⟨Y, [], w0⟩ [] [] w) ?_ ?_
 ·
  have H := G1
  clear G1 K1
  refine c_seq ?_
  refine reg_list ?_
  refine ls hF hW rfl ((y_move hF rfl).q) (fun a w hF hW => ?_)
  refine ls hF hW rfl ((y_len (r := (Rp.int .i64)) (l := p0) u39_ rfl hF rfl (rdc_ro h_v1)).q) (fun a w hF hW => ?_)
  refine ls hF hW rfl ((y_move hF rfl).q) (fun a w hF hW => ?_)
  refine ls_nil ?_
  refine c_then ?_
  refine wp_block ?_
  refine c_loopW H (fun s a w => Fr 19 [] [(0, v1), (1, .int .i64 p1), (4, .int .i64 0), (7, .int .i64 (p0.length : Int)), (8, .int .i64 s)] a ∧ Stw ⟨Y, [], w0⟩ [] [] w) ⟨hF.re ⟨rfl, rfl, rfl, rfl, rfl, trivial⟩, hW⟩ (fun s o a w H L2 hR => ?_)
  obtain ⟨x1, rfl⟩ : ∃ x, x = s := ⟨s, rfl⟩
  obtain ⟨hF, hW⟩ := hR
  have hF : Fr 19 [] [(0, v1), (1, .int .i64 p1), (4, .int .i64 0), (7, .int .i64 (p0.length : Int)), (8, .int .i64 x1)] a := hF
  have hW : Stw ⟨Y, [], w0⟩ [] [] w := hW
  rw [slices_Index_int_int_l1] at H
  refine c_seq ?_
  refine reg_list ?_
  refine ls hF hW rfl ((y_lss hF rfl rfl).q) (fun a w hF hW => ?_)
  refine ls_nil ?_
  refine c_then ?_
  refine c_seq ?_
  refine c_cond hF rfl (fun hb => ?_) (fun hb => ?_)
  ·
   have H := iteT (of_decide_eq_true hb) H
   rw [hb] at hF
   clear hb
   refine wp_skip ?_
   refine c_then ?_
   refine c_seq ?_
   refine wp_block ?_
   refine c_seq ?_
   refine reg_list ?_
   refine ls hF hW rfl ((y_move hF rfl).q) (fun a w hF hW => ?_)
   refine ls hF hW rfl ((y_assign hF rfl).q) (fun a w hF hW => ?_)
   refine ls_nil ?_
   refine c_then ?_
   refine c_seq ?_
   refine reg_list ?_
   refine ls hF hW rfl ((y_move hF rfl).q) (fun a w hF hW => ?_)
   refine ls hF hW rfl ((y_move hF rfl).q) (fun a w hF hW => ?_)
   refine ls hF hW rfl ((y_move hF rfl).q) (fun a w hF hW => ?_)
   obtain ⟨x2, h1, H⟩ := bindE H
   refine ls hF hW rfl ((y_index (r := (Rp.int .i64)) L39 hF rfl rfl (rdc_ro h_v1) h1).q) (fun a w hF hW => ?_)
   refine ls hF hW rfl ((y_load_el (y := Value.int .i64 x2) (j := 0) (i := x1) hF rfl rfl (rdc_ro h_v1) h1 Fl.int.to T3 rfl).q) (fun a w hF hW => ?_)
   refine ls hF hW rfl ((y_eql hF rfl rfl).q) (fun a w hF hW => ?_)
   refine ls_nil ?_
   refine c_then ?_
   refine c_cond hF rfl (fun hb => ?_) (fun hb => ?_)
   ·
    have H := iteT (of_decide_eq_true hb) H
    rw [hb] at hF
    clear hb
    refine c_seq ?_
    refine reg_list ?_
    refine ls hF hW rfl ((y_move hF rfl).q) (fun a w hF hW => ?_)
    refine ls hF hW rfl ((y_assign hF rfl).q) (fun a w hF hW => ?_)
    refine ls_nil ?_
    refine c_then ?_
    refine wp_ret ?_
    refine r_block ?_
    refine r_then ?_
    refine r_then ?_
    refine r_block ?_
    refine r_then ?_
    have H := L2 _ H
    have H := L1 _ H
    have H := Option.some.inj H
    subst H
    refine post1 (.inl rfl) hF hW rfl (rv_tmp hF rfl) ?_
    exact ⟨rfl, hW.done⟩
   ·
    have H := iteF (of_decide_eq_false hb) H
    rw [hb] at hF
    clear hb
    refine wp_skip ?_
    refine b_normal ?_
    refine c_then ?_
    refine reg_list ?_
    refine ls hF hW rfl ((y_add hF rfl rfl rfl).q) (fun a w hF hW => ?_)
    refine ls hF hW rfl ((y_move hF rfl).q) (fun a w hF hW => ?_)
    refine ls_nil ?_
    refine c_then ?_
    exact ⟨_, H, hF.re ⟨rfl, rfl, rfl, rfl, rfl, trivial⟩, hW⟩
  ·
   have H := iteF (of_decide_eq_false hb) H
   rw [hb] at hF
   clear hb
   refine wp_exit ?_
   refine e_then ?_
   refine e_then ?_
   refine e_block ?_
   refine c_then ?_
   have H := L2 _ H
   exact ⟨H, hF.re ⟨rfl, trivial⟩, hW⟩
 rintro a w ⟨hj, hF, hW⟩
 have H := K1 _ hj
 clear hj G1 K1 L1
 refine c_seq ?_
 refine reg_list ?_
 refine ls hF hW rfl ((y_assign hF rfl).q) (fun a w hF hW => ?_)
 refine ls_nil ?_
 refine c_then ?_
 refine wp_ret ?_
 have H := Option.some.inj H
 subst H
 refine post1 (.inl rfl) hF hW rfl (rv_tmp hF rfl) ?_
 exact ⟨rfl, hW.done⟩

theorem H37 : Has Try.prog 37 := ⟨fun args w => run_callFunc_body Try.func37 rfl (by decide) args w⟩
noncomputable def slices_Contains_int_int (p0 : List Int) (p1 : Int) : Option Bool := (slices_Index_int_int p0 p1).bind fun x1 => some (decide (0 ≤ x1))
theorem slices_Contains_int_int_c (Y : Nat → Prop) (w0 : World) (v1 : Value) (p0 : List Int) (p1 : Int) (r : Bool) (H : slices_Contains_int_int p0 p1 = some r) (h_v1 : Sl w0 (NX []) (Rp.int .i64) v1 p0) :
    Calls Try.prog 31 #[v1, .int .i64 p1] w0 fun e w' => e = .returned (.bool r) ∧ Below w0.heap.size w0 w' := by
 refine enter Try.func31 rfl Try.ntmps31 rfl (fun a hF => ?_)
 have hW := Stw.start Y w0
 unfold slices_Contains_int_int at H
 refine c_seq ?_
 refine reg_list ?_
 refine ls hF hW rfl ((y_assign hF rfl).q) (fun a w hF hW => ?_)
 refine ls_nil ?_
 refine c_then ?_
 refine c_seq ?_
 refine reg_list ?_
 refine ls hF hW rfl ((y_move hF rfl).q) (fun a w hF hW => ?_)
 refine ls hF hW rfl ((y_move hF rfl).q) (fun a w hF hW => ?_)
 obtain ⟨x1, h1, H⟩ := bindE H
 refine ls hF hW rfl (y_call (v := Value.int .i64 x1) hF H37 rfl (fun w hW => slices_Index_int_int_c any w (v1) p0 p1 _ h1 (((rdc_ro h_v1) : Rdc _ _ _ _ _ _) w hW).nx)) (fun a w hF hW => ?_)
 refine ls hF hW rfl ((y_geq hF rfl rfl).q) (fun a w hF hW => ?_)
 refine ls hF hW rfl ((y_assign hF rfl).q) (fun a w hF hW => ?_)
 refine ls_nil ?_
 refine c_then ?_
 refine wp_ret ?_
 have H := Option.some.inj H
 subst H
 refine post1 (.inl rfl) hF hW rfl (rv_tmp hF rfl) ?_
 exact ⟨rfl, hW.done⟩

theorem H31 : Has Try.prog 31 := ⟨fun args w => run_callFunc_body Try.func31 rfl (by decide) args w⟩
noncomputable def topo_Whole (p0 : Int × (List (Int × Int × Int × Int × Int × Int)) × (List (Int × Int))) : Option Bool := (topo_Hops p0 0).bind fun x1 => (if 0 < (x1.length : Int) then (slices_Contains_int_int x1 (-1)).bind fun x3 => some (!x3) else some false).bind fun x2 => some x2
theorem topo_Whole_c (Y : Nat → Prop) (w0 : World) (v1 : Value) (v2 : Value) (p0 : Int × (List (Int × Int × Int × Int × Int × Int)) × (List (Int × Int))) (r : Bool) (H : topo_Whole p0 = some r) (h_v1 : Sl w0 (NX []) R44 v1 p0.2.1) (h_v2 : Sl w0 (NX []) R47 v2 p0.2.2) :
    Calls Try.prog 21 #[.agg #[.int .i64 p0.1, v1, v2]] w0 fun e w' => e = .returned (.bool r) ∧ Below w0.heap.size w0 w' := by
 refine enter Try.func21 rfl Try.ntmps21 rfl (fun a hF => ?_)
 have hW := Stw.start Y w0
 unfold topo_Whole at H
 refine c_seq ?_
 refine reg_list ?_
 refine l_box (cs := [.int .i64 p0.1, v1, v2]) hF hW rfl rfl rfl (fun b1 a w hF hW => ?_)
 refine ls hF hW rfl ((y_assign hF rfl).q) (fun a w hF hW => ?_)
 refine ls_nil ?_
 refine c_then ?_
 refine c_seq ?_
 refine reg_list ?_
 refine ls hF hW rfl ((y_load (v := Value.agg #[.int .i64 p0.1, v1, v2]) 0 hF rfl rfl T25 rfl).q) (fun a w hF hW => ?_)
 obtain ⟨x1, h1, H⟩ := bindE H
 refine l_callG (Ml := []) (Zl := []) (M := [(b1, [.int .i64 p0.1, v1, v2])]) (Z := []) (β := Value) (rv := fun x => x) (MM := fun x => []) (ZZ := fun x => [row x 3 (Rp.int .i64) x1]) hF hW H20 rfl rfl (fun hL => topo_Hops_c _ w (v1) (v2) p0 0 _ h1 ((rdc_ro h_v1) w hW).nx ((rdc_ro h_v2) w hW).nx) (fun x a w hF hW => ?_)
 obtain ⟨v3, rfl⟩ : ∃ y, y = x := ⟨x, rfl⟩
 have hW : Stw ⟨Y, [], w0⟩ [(b1, [.int .i64 p0.1, v1, v2])] [row v3 3 (Rp.int .i64) x1] w := hW
 refine ls hF hW rfl ((y_assign hF rfl).q) (fun a w hF hW => ?_)
 refine ls_nil ?_
 refine c_then ?_
 obtain ⟨o1, G1, K1⟩ := bindE H
 refine c_seqJ (fun a w => ∃ x2 : Bool, some (x2) = some o1 ∧ Fr 14 [] [(2, .bool x2)] a ∧ Stw ⟨Y, [], w0⟩ [(b1, [.int .i64 p0.1, v1, v2])] [] w) ?_ ?_
 ·
  have H := G1
  clear G1 K1
  refine reg_list ?_
  refine ls hF hW rfl ((y_move hF rfl).q) (fun a w hF hW => ?_)
  refine ls hF hW rfl ((y_len (r := (Rp.int .i64)) (l := x1) u39_ rfl hF rfl (rdc_row 0 rfl)).q) (fun a w hF hW => ?_)
  refine ls hF hW rfl ((y_gtr hF rfl rfl).q) (fun a w hF hW => ?_)
  refine ls hF hW rfl ((y_move hF rfl).q) (fun a w hF hW => ?_)
  rcases Bool.eq_false_or_eq_true (decide (0 < (x1.length : Int))) with hb | hb
  ·
   have H := iteT (of_decide_eq_true hb) H
   rw [hb] at hF
   clear hb
   refine ls_w hF hW (wanted_y hF rfl rfl rfl rfl) rfl (Nat.le_of_ble_eq_true rfl) ((y_move hF rfl).q) (fun a w hF hW => ?_)
   refine ls_g (wanted_y hF rfl rfl rfl rfl) ?_
   obtain ⟨x3, h2, H⟩ := bindE H
   refine ls hF hW rfl (y_call (v := Value.bool x3) hF H31 rfl (fun w hW => slices_Contains_int_int_c any w (v3) x1 (-1) _ h2 (((rdc_row 0 rfl) : Rdc _ _ _ _ _ _) w hW).nx)) (fun a w hF hW => ?_)
   refine ls_w hF hW (wanted_y hF rfl rfl rfl rfl) rfl (Nat.le_of_ble_eq_true rfl) ((y_not hF rfl).q) (fun a w hF hW => ?_)
   refine ls hF hW rfl ((y_pick_t hF rfl rfl rfl).q) (fun a w hF hW => ?_)
   refine ls hF hW rfl ((y_assign hF rfl).q) (fun a w hF hW => ?_)
   refine ls_nil ?_
   refine c_then ?_
   have hW := hW.sub (M' := [(b1, [.int .i64 p0.1, v1, v2])]) (Z' := []) (List.Sublist.refl _) (List.nil_sublist _)
   exact ⟨_, H, hF.re ⟨rfl, trivial⟩, hW⟩
  ·
   have H := iteF (of_decide_eq_false hb) H
   rw [hb] at hF
   clear hb
   refine lsn hF rfl rfl rfl rfl rfl rfl rfl (fun a hF => ?_)
   refine lsn hF rfl rfl rfl rfl rfl rfl rfl (fun a hF => ?_)
   refine lsn hF rfl rfl rfl rfl rfl rfl rfl (fun a hF => ?_)
   refine ls hF hW rfl ((y_pick_f hF rfl rfl rfl).q) (fun a w hF hW => ?_)
   refine ls hF hW rfl ((y_assign hF rfl).q) (fun a w hF hW => ?_)
   refine ls_nil ?_
   refine c_then ?_
   have hW := hW.sub (M' := [(b1, [.int .i64 p0.1, v1, v2])]) (Z' := []) (List.Sublist.refl _) (List.nil_sublist _)
   exact ⟨_, H, hF.re ⟨rfl, trivial⟩, hW⟩
 rintro a w ⟨x2, hj, hF, hW⟩
 have hj := Option.some.inj hj
 subst hj
 have H := K1
 clear G1 K1
 refine wp_ret ?_
 have H := Option.some.inj H
 subst H
 refine post1 (.inl rfl) hF hW rfl (rv_tmp hF rfl) ?_
 exact ⟨rfl, hW.done⟩

theorem H21 : Has Try.prog 21 := ⟨fun args w => run_callFunc_body Try.func21 rfl (by decide) args w⟩
noncomputable def L17_awake  : Option Bool := (topo_Peer (2, ([(0, 0, 1, 1, 1, 4)] : List (Int × Int × Int × Int × Int × Int)), ([(0, 2)] : List (Int × Int))) 0 0).bind fun x1 => ((topo_Right (2, ([(0, 0, 1, 1, 1, 4)] : List (Int × Int × Int × Int × Int × Int)), ([(0, 2)] : List (Int × Int)))).bind fun x3 => (if x3 = true then (if x1.1 = 1 then (if x1.2.1 = 1 then (if x1.2.2.1 = 0 then (if x1.2.2.2 = true then (topo_HostAt (2, ([(0, 0, 1, 1, 1, 4)] : List (Int × Int × Int × Int × Int × Int)), ([(0, 2)] : List (Int × Int))) 0 2).bind fun x4 => (if x4 = 0 then (topo_HostAt (2, ([(0, 0, 1, 1, 1, 4)] : List (Int × Int × Int × Int × Int × Int)), ([(0, 2)] : List (Int × Int))) 1 1).bind fun x5 => (if x5 = (-1) then (topo_Whole (2, ([(0, 0, 1, 1, 1, 4)] : List (Int × Int × Int × Int × Int × Int)), ([(0, 2)] : List (Int × Int)))).bind fun x6 => some x6 else some false) else some false) else some false) else some false) else some false) else some false) else some false)).bind fun x2 => some x2
theorem L17_awake_c (Y : Nat → Prop) (w0 : World)   (r : Bool) (H : L17_awake  = some r)  :
    Calls Try.prog 7 #[] w0 fun e w' => e = .returned (.bool r) ∧ Below w0.heap.size w0 w' := by
 refine enter Try.func7 rfl Try.ntmps7 rfl (fun a hF => ?_)
 have hW := Stw.start Y w0
 unfold L17_awake at H
 refine c_seq ?_
 refine reg_list ?_
 refine ls hF hW rfl ((y_assign hF rfl).q) (fun a w hF hW => ?_)
 refine ls_nil ?_
 refine c_then ?_
 refine c_seq ?_
 refine reg_list ?_
 refine ls hF hW rfl ((y_build (v := Value.agg #[.int .i64 0, .int .i64 0, .int .i64 1, .int .i64 1, .int .i64 1, .int .i64 4]) B44 hF rfl rfl rfl).q) (fun a w hF hW => ?_)
 refine l_lit (z := Value.agg #[.int .i64 0, .int .i64 0, .int .i64 0, .int .i64 0, .int .i64 0, .int .i64 0]) (cs := [.int .i64 0, .int .i64 0, .int .i64 1, .int .i64 1, .int .i64 1, .int .i64 4]) R44 ([(0, 0, 1, 1, 1, 4)] : List (Int × Int × Int × Int × Int × Int)) hF hW rfl L22 Z44 rfl rfl rfl rfl rfl rfl (F44.repL _ _ ([(0, 0, 1, 1, 1, 4)] : List (Int × Int × Int × Int × Int × Int))) (fun v1 a w hF hW => ?_)
 refine ls hF hW rfl ((y_build (v := Value.agg #[.int .i64 0, .int .i64 2]) B47 hF rfl rfl rfl).q) (fun a w hF hW => ?_)
 refine l_lit (z := Value.agg #[.int .i64 0, .int .i64 0]) (cs := [.int .i64 0, .int .i64 2]) R47 ([(0, 2)] : List (Int × Int)) hF hW rfl L23 Z47 rfl rfl rfl rfl rfl rfl (F47.repL _ _ ([(0, 2)] : List (Int × Int))) (fun v2 a w hF hW => ?_)
 refine ls hF hW rfl ((y_build (v := Value.agg #[.int .i64 2, v1, v2]) B25 hF rfl (fill_cons rfl rfl rfl (fill_cons rfl (cells_one (hW.one (k := 1) rfl)) rfl (fill_cons rfl (cells_one (hW.one (k := 0) rfl)) rfl fill_nil))) rfl).q) (fun a w hF hW => ?_)
 refine l_alloc (cs := [.int .i64 0, .slice none 0 0, .slice none 0 0]) hF hW rfl Z25 rfl (fun b1 a w hF hW => ?_)
 refine l_store (vs := [.int .i64 2, v1, v2]) (M' := [(b1, [.int .i64 2, v1, v2])]) 0 hF hW rfl rfl rfl T25 rfl rfl rfl (one_cons rfl (one_cons (hW.one (k := 1) rfl) (one_cons (hW.one (k := 0) rfl) one_nil))) rfl (fun w hW => ?_)
 refine ls_nil ?_
 refine c_then ?_
 refine c_seq ?_
 refine reg_list ?_
 refine ls hF hW rfl ((y_load (v := Value.agg #[.int .i64 2, v1, v2]) 0 hF rfl rfl T25 rfl).q) (fun a w hF hW => ?_)
 obtain ⟨x1, h1, H⟩ := bindE H
 refine ls hF hW rfl (y_call (v := Value.tuple #[.int .i64 x1.1, .int .i64 x1.2.1, .int .i64 x1.2.2.1, .bool x1.2.2.2]) hF H10 rfl (fun w hW => topo_Peer_c any w (v1) (v2) (2, ([(0, 0, 1, 1, 1, 4)] : List (Int × Int × Int × Int × Int × Int)), ([(0, 2)] : List (Int × Int))) 0 0 _ h1 (((rdc_row 1 rfl) : Rdc _ _ _ _ _ _) w hW).nx (((rdc_row 0 rfl) : Rdc _ _ _ _ _ _) w hW).nx)) (fun a w hF hW => ?_)
 refine ls hF hW rfl ((y_move hF rfl).q) (fun a w hF hW => ?_)
 refine ls hF hW rfl ((y_extract (v := Value.int .i64 x1.1) hF rfl rfl).q) (fun a w hF hW => ?_)
 refine ls hF hW rfl ((y_extract (v := Value.int .i64 x1.2.1) hF rfl rfl).q) (fun a w hF hW => ?_)
 refine ls hF hW rfl ((y_extract (v := Value.int .i64 x1.2.2.1) hF rfl rfl).q) (fun a w hF hW => ?_)
 refine ls hF hW rfl ((y_extract (v := Value.bool x1.2.2.2) hF rfl rfl).q) (fun a w hF hW => ?_)
 refine ls hF hW rfl ((y_assign hF rfl).q) (fun a w hF hW => ?_)
 refine ls hF hW rfl ((y_assign hF rfl).q) (fun a w hF hW => ?_)
 refine ls hF hW rfl ((y_assign hF rfl).q) (fun a w hF hW => ?_)
 refine ls hF hW rfl ((y_assign hF rfl).q) (fun a w hF hW => ?_)
 refine ls_nil ?_
 refine c_then ?_
 obtain ⟨o1, G1, K1⟩ := bindE H
 refine c_seqJ (fun a w => ∃ x2 : Bool, some (x2) = some o1 ∧ Fr 49 [] [(0, .bool x2)] a ∧ Stw ⟨Y, [], w0⟩ [(b1, [.int .i64 2, v1, v2])] [row v1 44 R44 ([(0, 0, 1, 1, 1, 4)] : List (Int × Int × Int × Int × Int × Int)), row v2 47 R47 ([(0, 2)] : List (Int × Int))] w) ?_ ?_
 ·
  have H := G1
  clear G1 K1
  refine reg_list ?_
  refine ls hF hW rfl ((y_load (v := Value.agg #[.int .i64 2, v1, v2]) 0 hF rfl rfl T25 rfl).q) (fun a w hF hW => ?_)
  obtain ⟨x3, h2, H⟩ := bindE H
  refine ls hF hW rfl (y_call (v := Value.bool x3) hF H9 rfl (fun w hW => topo_Right_c any w (v1) (v2) (2, ([(0, 0, 1, 1, 1, 4)] : List (Int × Int × Int × Int × Int × Int)), ([(0, 2)] : List (Int × Int))) _ h2 (((rdc_row 1 rfl) : Rdc _ _ _ _ _ _) w hW).nx (((rdc_row 0 rfl) : Rdc _ _ _ _ _ _) w hW).nx)) (fun a w hF hW => ?_)
  refine ls hF hW rfl ((y_move hF rfl).q) (fun a w hF hW => ?_)
  rcases Bool.eq_false_or_eq_true x3 with hb | hb
  ·
   have H := iteT hb H
   rw [hb] at hF
   clear hb
   refine ls_w hF hW (wanted_y hF rfl rfl rfl rfl) rfl (Nat.le_of_ble_eq_true rfl) ((y_move hF rfl).q) (fun a w hF hW => ?_)
   refine ls_w hF hW (wanted_y hF rfl rfl rfl rfl) rfl (Nat.le_of_ble_eq_true rfl) ((y_eql hF rfl rfl).q) (fun a w hF hW => ?_)
   refine ls hF hW rfl ((y_pick_t hF rfl rfl rfl).q) (fun a w hF hW => ?_)
   refine ls hF hW rfl ((y_move hF rfl).q) (fun a w hF hW => ?_)
   rcases Bool.eq_false_or_eq_true (decide (x1.1 = 1)) with hb | hb
   ·
    have H := iteT (of_decide_eq_true hb) H
    rw [hb] at hF
    clear hb
    refine ls_w hF hW (wanted_y hF rfl rfl rfl rfl) rfl (Nat.le_of_ble_eq_true rfl) ((y_move hF rfl).q) (fun a w hF hW => ?_)
    refine ls_w hF hW (wanted_y hF rfl rfl rfl rfl) rfl (Nat.le_of_ble_eq_true rfl) ((y_eql hF rfl rfl).q) (fun a w hF hW => ?_)
    refine ls hF hW rfl ((y_pick_t hF rfl rfl rfl).q) (fun a w hF hW => ?_)
    refine ls hF hW rfl ((y_move hF rfl).q) (fun a w hF hW => ?_)
    rcases Bool.eq_false_or_eq_true (decide (x1.2.1 = 1)) with hb | hb
    ·
     have H := iteT (of_decide_eq_true hb) H
     rw [hb] at hF
     clear hb
     refine ls_w hF hW (wanted_y hF rfl rfl rfl rfl) rfl (Nat.le_of_ble_eq_true rfl) ((y_move hF rfl).q) (fun a w hF hW => ?_)
     refine ls_w hF hW (wanted_y hF rfl rfl rfl rfl) rfl (Nat.le_of_ble_eq_true rfl) ((y_eql hF rfl rfl).q) (fun a w hF hW => ?_)
     refine ls hF hW rfl ((y_pick_t hF rfl rfl rfl).q) (fun a w hF hW => ?_)
     refine ls hF hW rfl ((y_move hF rfl).q) (fun a w hF hW => ?_)
     rcases Bool.eq_false_or_eq_true (decide (x1.2.2.1 = 0)) with hb | hb
     ·
      have H := iteT (of_decide_eq_true hb) H
      rw [hb] at hF
      clear hb
      refine ls_w hF hW (wanted_y hF rfl rfl rfl rfl) rfl (Nat.le_of_ble_eq_true rfl) ((y_move hF rfl).q) (fun a w hF hW => ?_)
      refine ls hF hW rfl ((y_pick_t hF rfl rfl rfl).q) (fun a w hF hW => ?_)
      refine ls hF hW rfl ((y_move hF rfl).q) (fun a w hF hW => ?_)
      rcases Bool.eq_false_or_eq_true x1.2.2.2 with hb | hb
      ·
       have H := iteT hb H
       rw [hb] at hF
       clear hb
       refine ls_w hF hW (wanted_y hF rfl rfl rfl rfl) rfl (Nat.le_of_ble_eq_true rfl) ((y_load (v := Value.agg #[.int .i64 2, v1, v2]) 0 hF rfl rfl T25 rfl).q) (fun a w hF hW => ?_)
       refine ls_g (wanted_y hF rfl rfl rfl rfl) ?_
       obtain ⟨x4, h3, H⟩ := bindE H
       refine ls hF hW rfl (y_call (v := Value.int .i64 x4) hF H12 rfl (fun w hW => topo_HostAt_c any w (v1) (v2) (2, ([(0, 0, 1, 1, 1, 4)] : List (Int × Int × Int × Int × Int × Int)), ([(0, 2)] : List (Int × Int))) 0 2 _ h3 (((rdc_row 1 rfl) : Rdc _ _ _ _ _ _) w hW).nx (((rdc_row 0 rfl) : Rdc _ _ _ _ _ _) w hW).nx)) (fun a w hF hW => ?_)
       refine ls_w hF hW (wanted_y hF rfl rfl rfl rfl) rfl (Nat.le_of_ble_eq_true rfl) ((y_eql hF rfl rfl).q) (fun a w hF hW => ?_)
       refine ls hF hW rfl ((y_pick_t hF rfl rfl rfl).q) (fun a w hF hW => ?_)
       refine ls hF hW rfl ((y_move hF rfl).q) (fun a w hF hW => ?_)
       rcases Bool.eq_false_or_eq_true (decide (x4 = 0)) with hb | hb
       ·
        have H := iteT (of_decide_eq_true hb) H
        rw [hb] at hF
        clear hb
        refine ls_w hF hW (wanted_y hF rfl rfl rfl rfl) rfl (Nat.le_of_ble_eq_true rfl) ((y_load (v := Value.agg #[.int .i64 2, v1, v2]) 0 hF rfl rfl T25 rfl).q) (fun a w hF hW => ?_)
        refine ls_g (wanted_y hF rfl rfl rfl rfl) ?_
        obtain ⟨x5, h4, H⟩ := bindE H
        refine ls hF hW rfl (y_call (v := Value.int .i64 x5) hF H12 rfl (fun w hW => topo_HostAt_c any w (v1) (v2) (2, ([(0, 0, 1, 1, 1, 4)] : List (Int × Int × Int × Int × Int × Int)), ([(0, 2)] : List (Int × Int))) 1 1 _ h4 (((rdc_row 1 rfl) : Rdc _ _ _ _ _ _) w hW).nx (((rdc_row 0 rfl) : Rdc _ _ _ _ _ _) w hW).nx)) (fun a w hF hW => ?_)
        refine ls_w hF hW (wanted_y hF rfl rfl rfl rfl) rfl (Nat.le_of_ble_eq_true rfl) ((y_eql hF rfl rfl).q) (fun a w hF hW => ?_)
        refine ls hF hW rfl ((y_pick_t hF rfl rfl rfl).q) (fun a w hF hW => ?_)
        refine ls hF hW rfl ((y_move hF rfl).q) (fun a w hF hW => ?_)
        rcases Bool.eq_false_or_eq_true (decide (x5 = (-1))) with hb | hb
        ·
         have H := iteT (of_decide_eq_true hb) H
         rw [hb] at hF
         clear hb
         refine ls_w hF hW (wanted_y hF rfl rfl rfl rfl) rfl (Nat.le_of_ble_eq_true rfl) ((y_load (v := Value.agg #[.int .i64 2, v1, v2]) 0 hF rfl rfl T25 rfl).q) (fun a w hF hW => ?_)
         refine ls_g (wanted_y hF rfl rfl rfl rfl) ?_
         obtain ⟨x6, h5, H⟩ := bindE H
         refine ls hF hW rfl (y_call (v := Value.bool x6) hF H21 rfl (fun w hW => topo_Whole_c any w (v1) (v2) (2, ([(0, 0, 1, 1, 1, 4)] : List (Int × Int × Int × Int × Int × Int)), ([(0, 2)] : List (Int × Int))) _ h5 (((rdc_row 1 rfl) : Rdc _ _ _ _ _ _) w hW).nx (((rdc_row 0 rfl) : Rdc _ _ _ _ _ _) w hW).nx)) (fun a w hF hW => ?_)
         refine ls hF hW rfl ((y_pick_t hF rfl rfl rfl).q) (fun a w hF hW => ?_)
         refine ls hF hW rfl ((y_assign hF rfl).q) (fun a w hF hW => ?_)
         refine ls_nil ?_
         refine c_then ?_
         have hW := hW.frontZ (i := 1) rfl rfl
         exact ⟨_, H, hF.re ⟨rfl, trivial⟩, hW⟩
        ·
         have H := iteF (of_decide_eq_false hb) H
         rw [hb] at hF
         clear hb
         refine lsn hF rfl rfl rfl rfl rfl rfl rfl (fun a hF => ?_)
         refine lsn hF rfl rfl rfl rfl rfl rfl rfl (fun a hF => ?_)
         refine ls hF hW rfl ((y_pick_f hF rfl rfl rfl).q) (fun a w hF hW => ?_)
         refine ls hF hW rfl ((y_assign hF rfl).q) (fun a w hF hW => ?_)
         refine ls_nil ?_
         refine c_then ?_
         have hW := hW.frontZ (i := 1) rfl rfl
         exact ⟨_, H, hF.re ⟨rfl, trivial⟩, hW⟩
       ·
        have H := iteF (of_decide_eq_false hb) H
        rw [hb] at hF
        clear hb
        refine lsn hF rfl rfl rfl rfl rfl rfl rfl (fun a hF => ?_)
        refine lsn hF rfl rfl rfl rfl rfl rfl rfl (fun a hF => ?_)
        refine lsn hF rfl rfl rfl rfl rfl rfl rfl (fun a hF => ?_)
        refine ls hF hW rfl ((y_pick_f hF rfl rfl rfl).q) (fun a w hF hW => ?_)
        refine ls hF hW rfl ((y_move hF rfl).q) (fun a w hF hW => ?_)
        refine lsn hF rfl rfl rfl rfl rfl rfl rfl (fun a hF => ?_)
        refine lsn hF rfl rfl rfl rfl rfl rfl rfl (fun a hF => ?_)
        refine ls hF hW rfl ((y_pick_f hF rfl rfl rfl).q) (fun a w hF hW => ?_)
        refine ls hF hW rfl ((y_assign hF rfl).q) (fun a w hF hW => ?_)
        refine ls_nil ?_
        refine c_then ?_
        have hW := hW.frontZ (i := 1) rfl rfl
        exact ⟨_, H, hF.re ⟨rfl, trivial⟩, hW⟩
      ·
       have H := iteF (by rw [hb]; decide) H
       rw [hb] at hF
       clear hb
       refine lsn hF rfl rfl rfl rfl rfl rfl rfl (fun a hF => ?_)
       refine lsn hF rfl rfl rfl rfl rfl rfl rfl (fun a hF => ?_)
       refine lsn hF rfl rfl rfl rfl rfl rfl rfl (fun a hF => ?_)
       refine ls hF hW rfl ((y_pick_f hF rfl rfl rfl).q) (fun a w hF hW => ?_)
       refine ls hF hW rfl ((y_move hF rfl).q) (fun a w hF hW => ?_)
       refine lsn hF rfl rfl rfl rfl rfl rfl rfl (fun a hF => ?_)
       refine lsn hF rfl rfl rfl rfl rfl rfl rfl (fun a hF => ?_)
       refine lsn hF rfl rfl rfl rfl rfl rfl rfl (fun a hF => ?_)
       refine ls hF hW rfl ((y_pick_f hF rfl rfl rfl).q) (fun a w hF hW => ?_)
       refine ls hF hW rfl ((y_move hF rfl).q) (fun a w hF hW => ?_)
       refine lsn hF rfl rfl rfl rfl rfl rfl rfl (fun a hF => ?_)
       refine lsn hF rfl rfl rfl rfl rfl rfl rfl (fun a hF => ?_)
       refine ls hF hW rfl ((y_pick_f hF rfl rfl rfl).q) (fun a w hF hW => ?_)
       refine ls hF hW rfl ((y_assign hF rfl).q) (fun a w hF hW => ?_)
       refine ls_nil ?_
       refine c_then ?_
       have hW := hW.frontZ (i := 1) rfl rfl
       exact ⟨_, H, hF.re ⟨rfl, trivial⟩, hW⟩
     ·
      have H := iteF (of_decide_eq_false hb) H
      rw [hb] at hF
      clear hb
      refine lsn hF rfl rfl rfl rfl rfl rfl rfl (fun a hF => ?_)
      refine ls hF hW rfl ((y_pick_f hF rfl rfl rfl).q) (fun a w hF hW => ?_)
      refine ls hF hW rfl ((y_move hF rfl).q) (fun a w hF hW => ?_)
      refine lsn hF rfl rfl rfl rfl rfl rfl rfl (fun a hF => ?_)
      refine lsn hF rfl rfl rfl rfl rfl rfl rfl (fun a hF => ?_)
      refine lsn hF rfl rfl rfl rfl rfl rfl rfl (fun a hF => ?_)
      refine ls hF hW rfl ((y_pick_f hF rfl rfl rfl).q) (fun a w hF hW => ?_)
      refine ls hF hW rfl ((y_move hF rfl).q) (fun a w hF hW => ?_)
      refine lsn hF rfl rfl rfl rfl rfl rfl rfl (fun a hF => ?_)
      refine lsn hF rfl rfl rfl rfl rfl rfl rfl (fun a hF => ?_)
      refine lsn hF rfl rfl rfl rfl rfl rfl rfl (fun a hF => ?_)
      refine ls hF hW rfl ((y_pick_f hF rfl rfl rfl).q) (fun a w hF hW => ?_)
      refine ls hF hW rfl ((y_move hF rfl).q) (fun a w hF hW => ?_)
      refine lsn hF rfl rfl rfl rfl rfl rfl rfl (fun a hF => ?_)
      refine lsn hF rfl rfl rfl rfl rfl rfl rfl (fun a hF => ?_)
      refine ls hF hW rfl ((y_pick_f hF rfl rfl rfl).q) (fun a w hF hW => ?_)
      refine ls hF hW rfl ((y_assign hF rfl).q) (fun a w hF hW => ?_)
      refine ls_nil ?_
      refine c_then ?_
      have hW := hW.frontZ (i := 1) rfl rfl
      exact ⟨_, H, hF.re ⟨rfl, trivial⟩, hW⟩
    ·
     have H := iteF (of_decide_eq_false hb) H
     rw [hb] at hF
     clear hb
     refine lsn hF rfl rfl rfl rfl rfl rfl rfl (fun a hF => ?_)
     refine lsn hF rfl rfl rfl rfl rfl rfl rfl (fun a hF => ?_)
     refine ls hF hW rfl ((y_pick_f hF rfl rfl rfl).q) (fun a w hF hW => ?_)
     refine ls hF hW rfl ((y_move hF rfl).q) (fun a w hF hW => ?_)
     refine lsn hF rfl rfl rfl rfl rfl rfl rfl (fun a hF => ?_)
     refine ls hF hW rfl ((y_pick_f hF rfl rfl rfl).q) (fun a w hF hW => ?_)
     refine ls hF hW rfl ((y_move hF rfl).q) (fun a w hF hW => ?_)
     refine lsn hF rfl rfl rfl rfl rfl rfl rfl (fun a hF => ?_)
     refine lsn hF rfl rfl rfl rfl rfl rfl rfl (fun a hF => ?_)
     refine lsn hF rfl rfl rfl rfl rfl rfl rfl (fun a hF => ?_)
     refine ls hF hW rfl ((y_pick_f hF rfl rfl rfl).q) (fun a w hF hW => ?_)
     refine ls hF hW rfl ((y_move hF rfl).q) (fun a w hF hW => ?_)
     refine lsn hF rfl rfl rfl rfl rfl rfl rfl (fun a hF => ?_)
     refine lsn hF rfl rfl rfl rfl rfl rfl rfl (fun a hF => ?_)
     refine lsn hF rfl rfl rfl rfl rfl rfl rfl (fun a hF => ?_)
     refine ls hF hW rfl ((y_pick_f hF rfl rfl rfl).q) (fun a w hF hW => ?_)
     refine ls hF hW rfl ((y_move hF rfl).q) (fun a w hF hW => ?_)
     refine lsn hF rfl rfl rfl rfl rfl rfl rfl (fun a hF => ?_)
     refine lsn hF rfl rfl rfl rfl rfl rfl rfl (fun a hF => ?_)
     refine ls hF hW rfl ((y_pick_f hF rfl rfl rfl).q) (fun a w hF hW => ?_)
     refine ls hF hW rfl ((y_assign hF rfl).q) (fun a w hF hW => ?_)
     refine ls_nil ?_
     refine c_then ?_
     have hW := hW.frontZ (i := 1) rfl rfl
     exact ⟨_, H, hF.re ⟨rfl, trivial⟩, hW⟩
   ·
    have H := iteF (of_decide_eq_false hb) H
    rw [hb] at hF
    clear hb
    refine lsn hF rfl rfl rfl rfl rfl rfl rfl (fun a hF => ?_)
    refine lsn hF rfl rfl rfl rfl rfl rfl rfl (fun a hF => ?_)
    refine ls hF hW rfl ((y_pick_f hF rfl rfl rfl).q) (fun a w hF hW => ?_)
    refine ls hF hW rfl ((y_move hF rfl).q) (fun a w hF hW => ?_)
    refine lsn hF rfl rfl rfl rfl rfl rfl rfl (fun a hF => ?_)
    refine lsn hF rfl rfl rfl rfl rfl rfl rfl (fun a hF => ?_)
    refine ls hF hW rfl ((y_pick_f hF rfl rfl rfl).q) (fun a w hF hW => ?_)
    refine ls hF hW rfl ((y_move hF rfl).q) (fun a w hF hW => ?_)
    refine lsn hF rfl rfl rfl rfl rfl rfl rfl (fun a hF => ?_)
    refine ls hF hW rfl ((y_pick_f hF rfl rfl rfl).q) (fun a w hF hW => ?_)
    refine ls hF hW rfl ((y_move hF rfl).q) (fun a w hF hW => ?_)
    refine lsn hF rfl rfl rfl rfl rfl rfl rfl (fun a hF => ?_)
    refine lsn hF rfl rfl rfl rfl rfl rfl rfl (fun a hF => ?_)
    refine lsn hF rfl rfl rfl rfl rfl rfl rfl (fun a hF => ?_)
    refine ls hF hW rfl ((y_pick_f hF rfl rfl rfl).q) (fun a w hF hW => ?_)
    refine ls hF hW rfl ((y_move hF rfl).q) (fun a w hF hW => ?_)
    refine lsn hF rfl rfl rfl rfl rfl rfl rfl (fun a hF => ?_)
    refine lsn hF rfl rfl rfl rfl rfl rfl rfl (fun a hF => ?_)
    refine lsn hF rfl rfl rfl rfl rfl rfl rfl (fun a hF => ?_)
    refine ls hF hW rfl ((y_pick_f hF rfl rfl rfl).q) (fun a w hF hW => ?_)
    refine ls hF hW rfl ((y_move hF rfl).q) (fun a w hF hW => ?_)
    refine lsn hF rfl rfl rfl rfl rfl rfl rfl (fun a hF => ?_)
    refine lsn hF rfl rfl rfl rfl rfl rfl rfl (fun a hF => ?_)
    refine ls hF hW rfl ((y_pick_f hF rfl rfl rfl).q) (fun a w hF hW => ?_)
    refine ls hF hW rfl ((y_assign hF rfl).q) (fun a w hF hW => ?_)
    refine ls_nil ?_
    refine c_then ?_
    have hW := hW.frontZ (i := 1) rfl rfl
    exact ⟨_, H, hF.re ⟨rfl, trivial⟩, hW⟩
  ·
   have H := iteF (by rw [hb]; decide) H
   rw [hb] at hF
   clear hb
   refine lsn hF rfl rfl rfl rfl rfl rfl rfl (fun a hF => ?_)
   refine lsn hF rfl rfl rfl rfl rfl rfl rfl (fun a hF => ?_)
   refine ls hF hW rfl ((y_pick_f hF rfl rfl rfl).q) (fun a w hF hW => ?_)
   refine ls hF hW rfl ((y_move hF rfl).q) (fun a w hF hW => ?_)
   refine lsn hF rfl rfl rfl rfl rfl rfl rfl (fun a hF => ?_)
   refine lsn hF rfl rfl rfl rfl rfl rfl rfl (fun a hF => ?_)
   refine ls hF hW rfl ((y_pick_f hF rfl rfl rfl).q) (fun a w hF hW => ?_)
   refine ls hF hW rfl ((y_move hF rfl).q) (fun a w hF hW => ?_)
   refine lsn hF rfl rfl rfl rfl rfl rfl rfl (fun a hF => ?_)
   refine lsn hF rfl rfl rfl rfl rfl rfl rfl (fun a hF => ?_)
   refine ls hF hW rfl ((y_pick_f hF rfl rfl rfl).q) (fun a w hF hW => ?_)
   refine ls hF hW rfl ((y_move hF rfl).q) (fun a w hF hW => ?_)
   refine lsn hF rfl rfl rfl rfl rfl rfl rfl (fun a hF => ?_)
   refine ls hF hW rfl ((y_pick_f hF rfl rfl rfl).q) (fun a w hF hW => ?_)
   refine ls hF hW rfl ((y_move hF rfl).q) (fun a w hF hW => ?_)
   refine lsn hF rfl rfl rfl rfl rfl rfl rfl (fun a hF => ?_)
   refine lsn hF rfl rfl rfl rfl rfl rfl rfl (fun a hF => ?_)
   refine lsn hF rfl rfl rfl rfl rfl rfl rfl (fun a hF => ?_)
   refine ls hF hW rfl ((y_pick_f hF rfl rfl rfl).q) (fun a w hF hW => ?_)
   refine ls hF hW rfl ((y_move hF rfl).q) (fun a w hF hW => ?_)
   refine lsn hF rfl rfl rfl rfl rfl rfl rfl (fun a hF => ?_)
   refine lsn hF rfl rfl rfl rfl rfl rfl rfl (fun a hF => ?_)
   refine lsn hF rfl rfl rfl rfl rfl rfl rfl (fun a hF => ?_)
   refine ls hF hW rfl ((y_pick_f hF rfl rfl rfl).q) (fun a w hF hW => ?_)
   refine ls hF hW rfl ((y_move hF rfl).q) (fun a w hF hW => ?_)
   refine lsn hF rfl rfl rfl rfl rfl rfl rfl (fun a hF => ?_)
   refine lsn hF rfl rfl rfl rfl rfl rfl rfl (fun a hF => ?_)
   refine ls hF hW rfl ((y_pick_f hF rfl rfl rfl).q) (fun a w hF hW => ?_)
   refine ls hF hW rfl ((y_assign hF rfl).q) (fun a w hF hW => ?_)
   refine ls_nil ?_
   refine c_then ?_
   have hW := hW.frontZ (i := 1) rfl rfl
   exact ⟨_, H, hF.re ⟨rfl, trivial⟩, hW⟩
 rintro a w ⟨x2, hj, hF, hW⟩
 have hj := Option.some.inj hj
 subst hj
 have H := K1
 clear G1 K1
 refine wp_ret ?_
 have H := Option.some.inj H
 subst H
 refine post1 (.inl rfl) hF hW rfl (rv_tmp hF rfl) ?_
 exact ⟨rfl, hW.done⟩

theorem H7 : Has Try.prog 7 := ⟨fun args w => run_callFunc_body Try.func7 rfl (by decide) args w⟩
noncomputable def L17_TopoPeers (p0 : Int × (List (Int × Int × Int × Int × Int × Int)) × (List (Int × Int))) (p1 : Int) (p2 : Int) : Option Bool := (if (!(L17_small p0)) = true then some true else (r17_Right p0).bind fun x2 => some (!x2)).bind fun x1 => (if x1 = true then (L17_awake).bind fun x3 => some x3 else (topo_Peer p0 p1 p2).bind fun x4 => (if (!x4.2.2.2) = true then (if x4.1 = 0 then (if x4.2.1 = 0 then (if x4.2.2.1 = 0 then (L17_awake).bind fun x6 => some x6 else some false) else some false) else some false).bind fun x5 => some x5 else (topo_Peer p0 x4.1 x4.2.1).bind fun x7 => (if x7.2.2.2 = true then (if x7.1 = p1 then (if x7.2.1 = p2 then (if x7.2.2.1 = x4.2.2.1 then (if x4.1 ≠ p1 then (topo_HostAt p0 p1 p2).bind fun x9 => (if x9 = (-1) then (L17_awake).bind fun x10 => some x10 else some false) else some false) else some false) else some false) else some false) else some false).bind fun x8 => some x8))
theorem L17_TopoPeers_c (Y : Nat → Prop) (w0 : World) (v1 : Value) (v2 : Value) (p0 : Int × (List (Int × Int × Int × Int × Int × Int)) × (List (Int × Int))) (p1 : Int) (p2 : Int) (r : Bool) (H : L17_TopoPeers p0 p1 p2 = some r) (h_v1 : Sl w0 (NX []) R44 v1 p0.2.1) (h_v2 : Sl w0 (NX []) R47 v2 p0.2.2) :
    Calls Try.prog 4 #[.agg #[.int .i64 p0.1, v1, v2], .int .i64 p1, .int .i64 p2] w0 fun e w' => e = .returned (.bool r) ∧ Below w0.heap.size w0 w' := by
 refine enter Try.func4 rfl Try.ntmps4 rfl (fun a hF => ?_)
 have hW := Stw.start Y w0
 unfold L17_TopoPeers at H
 refine c_seq ?_
 refine reg_list ?_
 refine l_box (cs := [.int .i64 p0.1, v1, v2]) hF hW rfl rfl rfl (fun b1 a w hF hW => ?_)
 refine ls hF hW rfl ((y_assign hF rfl).q) (fun a w hF hW => ?_)
 refine ls_nil ?_
 refine c_then ?_
 refine c_seq ?_
 obtain ⟨o1, G1, K1⟩ := bindE H
 refine c_seqJ (fun a w => ∃ x1 : Bool, some (x1) = some o1 ∧ Fr 88 [] [(1, .int .i64 p1), (2, .int .i64 p2), (3, .pointer (some ⟨b1, 0, none⟩)), (6, .bool false), (22, .bool x1)] a ∧ Stw ⟨Y, [], w0⟩ [(b1, [.int .i64 p0.1, v1, v2])] [] w) ?_ ?_
 ·
  have H := G1
  clear G1 K1
  refine reg_list ?_
  refine ls hF hW rfl ((y_load (v := Value.agg #[.int .i64 p0.1, v1, v2]) 0 hF rfl rfl T25 rfl).q) (fun a w hF hW => ?_)
  refine ls hF hW rfl (y_call (v := Value.bool (L17_small p0)) hF H6 rfl (fun w hW => L17_small_c any w (v1) (v2) p0 _ rfl (((rdc_ro h_v1) : Rdc _ _ _ _ _ _) w hW).nx (((rdc_ro h_v2) : Rdc _ _ _ _ _ _) w hW).nx)) (fun a w hF hW => ?_)
  refine ls hF hW rfl ((y_not hF rfl).q) (fun a w hF hW => ?_)
  refine ls hF hW rfl ((y_move hF rfl).q) (fun a w hF hW => ?_)
  rcases Bool.eq_false_or_eq_true (!(L17_small p0)) with hb | hb
  ·
   have H := iteT hb H
   rw [hb] at hF
   clear hb
   refine lsn hF rfl rfl rfl rfl rfl rfl rfl (fun a hF => ?_)
   refine lsn hF rfl rfl rfl rfl rfl rfl rfl (fun a hF => ?_)
   refine lsn hF rfl rfl rfl rfl rfl rfl rfl (fun a hF => ?_)
   refine ls hF hW rfl ((y_pick_t hF rfl rfl rfl).q) (fun a w hF hW => ?_)
   refine ls_nil ?_
   refine c_then ?_
   exact ⟨_, H, hF.re ⟨rfl, rfl, rfl, rfl, rfl, trivial⟩, hW⟩
  ·
   have H := iteF (by rw [hb]; decide) H
   rw [hb] at hF
   clear hb
   refine ls_w hF hW (wanted_y hF rfl rfl rfl rfl) rfl (Nat.le_of_ble_eq_true rfl) ((y_load (v := Value.agg #[.int .i64 p0.1, v1, v2]) 0 hF rfl rfl T25 rfl).q) (fun a w hF hW => ?_)
   refine ls_g (wanted_y hF rfl rfl rfl rfl) ?_
   obtain ⟨x2, h1, H⟩ := bindE H
   refine ls hF hW rfl (y_call (v := Value.bool x2) hF H8 rfl (fun w hW => r17_Right_c any w (v1) (v2) p0 _ h1 (((rdc_ro h_v1) : Rdc _ _ _ _ _ _) w hW).nx (((rdc_ro h_v2) : Rdc _ _ _ _ _ _) w hW).nx)) (fun a w hF hW => ?_)
   refine ls_w hF hW (wanted_y hF rfl rfl rfl rfl) rfl (Nat.le_of_ble_eq_true rfl) ((y_not hF rfl).q) (fun a w hF hW => ?_)
   refine ls hF hW rfl ((y_pick_f hF rfl rfl rfl).q) (fun a w hF hW => ?_)
   refine ls_nil ?_
   refine c_then ?_
   exact ⟨_, H, hF.re ⟨rfl, rfl, rfl, rfl, rfl, trivial⟩, hW⟩
 rintro a w ⟨x1, hj, hF, hW⟩
 have hj := Option.some.inj hj
 subst hj
 have H := K1
 clear G1 K1
 refine c_cond hF rfl (fun hb => ?_) (fun hb => ?_)
 ·
  have H := iteT hb H
  rw [hb] at hF
  clear hb
  refine c_seq ?_
  refine reg_list ?_
  obtain ⟨x3, h2, H⟩ := bindE H
  refine ls hF hW rfl (y_call (v := Value.bool x3) hF H7 rfl (fun w hW => L17_awake_c any w _ h2)) (fun a w hF hW => ?_)
  refine ls hF hW rfl ((y_assign hF rfl).q) (fun a w hF hW => ?_)
  refine ls_nil ?_
  refine c_then ?_
  refine wp_ret ?_
  refine r_then ?_
  have H := Option.some.inj H
  subst H
  refine post1 (.inl rfl) hF hW rfl (rv_tmp hF rfl) ?_
  exact ⟨rfl, hW.done⟩
 ·
  have H := iteF (by rw [hb]; decide) H
  rw [hb] at hF
  clear hb
  refine wp_skip ?_
  refine c_then ?_
  refine c_seq ?_
  refine reg_list ?_
  refine ls hF hW rfl ((y_load (v := Value.agg #[.int .i64 p0.1, v1, v2]) 0 hF rfl rfl T25 rfl).q) (fun a w hF hW => ?_)
  refine ls hF hW rfl ((y_move hF rfl).q) (fun a w hF hW => ?_)
  refine ls hF hW rfl ((y_move hF rfl).q) (fun a w hF hW => ?_)
  obtain ⟨x4, h3, H⟩ := bindE H
  refine ls hF hW rfl (y_call (v := Value.tuple #[.int .i64 x4.1, .int .i64 x4.2.1, .int .i64 x4.2.2.1, .bool x4.2.2.2]) hF H10 rfl (fun w hW => topo_Peer_c any w (v1) (v2) p0 p1 p2 _ h3 (((rdc_ro h_v1) : Rdc _ _ _ _ _ _) w hW).nx (((rdc_ro h_v2) : Rdc _ _ _ _ _ _) w hW).nx)) (fun a w hF hW => ?_)
  refine ls hF hW rfl ((y_move hF rfl).q) (fun a w hF hW => ?_)
  refine ls hF hW rfl ((y_extract (v := Value.int .i64 x4.1) hF rfl rfl).q) (fun a w hF hW => ?_)
  refine ls hF hW rfl ((y_extract (v := Value.int .i64 x4.2.1) hF rfl rfl).q) (fun a w hF hW => ?_)
  refine ls hF hW rfl ((y_extract (v := Value.int .i64 x4.2.2.1) hF rfl rfl).q) (fun a w hF hW => ?_)
  refine ls hF hW rfl ((y_extract (v := Value.bool x4.2.2.2) hF rfl rfl).q) (fun a w hF hW => ?_)
  refine ls hF hW rfl ((y_assign hF rfl).q) (fun a w hF hW => ?_)
  refine ls hF hW rfl ((y_assign hF rfl).q) (fun a w hF hW => ?_)
  refine ls hF hW rfl ((y_assign hF rfl).q) (fun a w hF hW => ?_)
  refine ls hF hW rfl ((y_assign hF rfl).q) (fun a w hF hW => ?_)
  refine ls_nil ?_
  refine c_then ?_
  refine c_seq ?_
  refine c_seq ?_
  refine reg_list ?_
  refine ls hF hW rfl ((y_move hF rfl).q) (fun a w hF hW => ?_)
  refine ls hF hW rfl ((y_not hF rfl).q) (fun a w hF hW => ?_)
  refine ls_nil ?_
  refine c_then ?_
  refine c_cond hF rfl (fun hb => ?_) (fun hb => ?_)
  ·
   have H := iteT hb H
   rw [hb] at hF
   clear hb
   obtain ⟨o2, G2, K2⟩ := bindE H
   refine c_seqJ (fun a w => ∃ x5 : Bool, some (x5) = some o2 ∧ Fr 88 [] [(1, .int .i64 p1), (2, .int .i64 p2), (3, .pointer (some ⟨b1, 0, none⟩)), (6, .bool x5), (7, .int .i64 x4.1), (8, .int .i64 x4.2.1), (9, .int .i64 x4.2.2.1)] a ∧ Stw ⟨Y, [], w0⟩ [(b1, [.int .i64 p0.1, v1, v2])] [] w) ?_ ?_
   ·
    have H := G2
    clear G2 K2
    refine reg_list ?_
    refine ls hF hW rfl ((y_move hF rfl).q) (fun a w hF hW => ?_)
    refine ls hF hW rfl ((y_eql hF rfl rfl).q) (fun a w hF hW => ?_)
    refine ls hF hW rfl ((y_move hF rfl).q) (fun a w hF hW => ?_)
    rcases Bool.eq_false_or_eq_true (decide (x4.1 = 0)) with hb | hb
    ·
     have H := iteT (of_decide_eq_true hb) H
     rw [hb] at hF
     clear hb
     refine ls_w hF hW (wanted_y hF rfl rfl rfl rfl) rfl (Nat.le_of_ble_eq_true rfl) ((y_move hF rfl).q) (fun a w hF hW => ?_)
     refine ls_w hF hW (wanted_y hF rfl rfl rfl rfl) rfl (Nat.le_of_ble_eq_true rfl) ((y_eql hF rfl rfl).q) (fun a w hF hW => ?_)
     refine ls hF hW rfl ((y_pick_t hF rfl rfl rfl).q) (fun a w hF hW => ?_)
     refine ls hF hW rfl ((y_move hF rfl).q) (fun a w hF hW => ?_)
     rcases Bool.eq_false_or_eq_true (decide (x4.2.1 = 0)) with hb | hb
     ·
      have H := iteT (of_decide_eq_true hb) H
      rw [hb] at hF
      clear hb
      refine ls_w hF hW (wanted_y hF rfl rfl rfl rfl) rfl (Nat.le_of_ble_eq_true rfl) ((y_move hF rfl).q) (fun a w hF hW => ?_)
      refine ls_w hF hW (wanted_y hF rfl rfl rfl rfl) rfl (Nat.le_of_ble_eq_true rfl) ((y_eql hF rfl rfl).q) (fun a w hF hW => ?_)
      refine ls hF hW rfl ((y_pick_t hF rfl rfl rfl).q) (fun a w hF hW => ?_)
      refine ls hF hW rfl ((y_move hF rfl).q) (fun a w hF hW => ?_)
      rcases Bool.eq_false_or_eq_true (decide (x4.2.2.1 = 0)) with hb | hb
      ·
       have H := iteT (of_decide_eq_true hb) H
       rw [hb] at hF
       clear hb
       refine ls_g (wanted_y hF rfl rfl rfl rfl) ?_
       obtain ⟨x6, h4, H⟩ := bindE H
       refine ls hF hW rfl (y_call (v := Value.bool x6) hF H7 rfl (fun w hW => L17_awake_c any w _ h4)) (fun a w hF hW => ?_)
       refine ls hF hW rfl ((y_pick_t hF rfl rfl rfl).q) (fun a w hF hW => ?_)
       refine ls hF hW rfl ((y_assign hF rfl).q) (fun a w hF hW => ?_)
       refine ls_nil ?_
       refine c_then ?_
       exact ⟨_, H, hF.re ⟨rfl, rfl, rfl, rfl, rfl, rfl, rfl, trivial⟩, hW⟩
      ·
       have H := iteF (of_decide_eq_false hb) H
       rw [hb] at hF
       clear hb
       refine lsn hF rfl rfl rfl rfl rfl rfl rfl (fun a hF => ?_)
       refine ls hF hW rfl ((y_pick_f hF rfl rfl rfl).q) (fun a w hF hW => ?_)
       refine ls hF hW rfl ((y_assign hF rfl).q) (fun a w hF hW => ?_)
       refine ls_nil ?_
       refine c_then ?_
       exact ⟨_, H, hF.re ⟨rfl, rfl, rfl, rfl, rfl, rfl, rfl, trivial⟩, hW⟩
     ·
      have H := iteF (of_decide_eq_false hb) H
      rw [hb] at hF
      clear hb
      refine lsn hF rfl rfl rfl rfl rfl rfl rfl (fun a hF => ?_)
      refine lsn hF rfl rfl rfl rfl rfl rfl rfl (fun a hF => ?_)
      refine ls hF hW rfl ((y_pick_f hF rfl rfl rfl).q) (fun a w hF hW => ?_)
      refine ls hF hW rfl ((y_move hF rfl).q) (fun a w hF hW => ?_)
      refine lsn hF rfl rfl rfl rfl rfl rfl rfl (fun a hF => ?_)
      refine ls hF hW rfl ((y_pick_f hF rfl rfl rfl).q) (fun a w hF hW => ?_)
      refine ls hF hW rfl ((y_assign hF rfl).q) (fun a w hF hW => ?_)
      refine ls_nil ?_
      refine c_then ?_
      exact ⟨_, H, hF.re ⟨rfl, rfl, rfl, rfl, rfl, rfl, rfl, trivial⟩, hW⟩
    ·
     have H := iteF (of_decide_eq_false hb) H
     rw [hb] at hF
     clear hb
     refine lsn hF rfl rfl rfl rfl rfl rfl rfl (fun a hF => ?_)
     refine lsn hF rfl rfl rfl rfl rfl rfl rfl (fun a hF => ?_)
     refine ls hF hW rfl ((y_pick_f hF rfl rfl rfl).q) (fun a w hF hW => ?_)
     refine ls hF hW rfl ((y_move hF rfl).q) (fun a w hF hW => ?_)
     refine lsn hF rfl rfl rfl rfl rfl rfl rfl (fun a hF => ?_)
     refine lsn hF rfl rfl rfl rfl rfl rfl rfl (fun a hF => ?_)
     refine ls hF hW rfl ((y_pick_f hF rfl rfl rfl).q) (fun a w hF hW => ?_)
     refine ls hF hW rfl ((y_move hF rfl).q) (fun a w hF hW => ?_)
     refine lsn hF rfl rfl rfl rfl rfl rfl rfl (fun a hF => ?_)
     refine ls hF hW rfl ((y_pick_f hF rfl rfl rfl).q) (fun a w hF hW => ?_)
     refine ls hF hW rfl ((y_assign hF rfl).q) (fun a w hF hW => ?_)
     refine ls_nil ?_
     refine c_then ?_
     exact ⟨_, H, hF.re ⟨rfl, rfl, rfl, rfl, rfl, rfl, rfl, trivial⟩, hW⟩
   rintro a w ⟨x5, hj, hF, hW⟩
   have hj := Option.some.inj hj
   subst hj
   have H := K2
   clear G2 K2
   refine wp_ret ?_
   refine r_then ?_
   have H := Option.some.inj H
   subst H
   refine post1 (.inl rfl) hF hW rfl (rv_tmp hF rfl) ?_
   exact ⟨rfl, hW.done⟩
  ·
   have H := iteF (by rw [hb]; decide) H
   rw [hb] at hF
   clear hb
   refine wp_skip ?_
   refine c_then ?_
   refine c_seq ?_
   refine reg_list ?_
   refine ls hF hW rfl ((y_load (v := Value.agg #[.int .i64 p0.1, v1, v2]) 0 hF rfl rfl T25 rfl).q) (fun a w hF hW => ?_)
   refine ls hF hW rfl ((y_move hF rfl).q) (fun a w hF hW => ?_)
   refine ls hF hW rfl ((y_move hF rfl).q) (fun a w hF hW => ?_)
   obtain ⟨x7, h5, H⟩ := bindE H
   refine ls hF hW rfl (y_call (v := Value.tuple #[.int .i64 x7.1, .int .i64 x7.2.1, .int .i64 x7.2.2.1, .bool x7.2.2.2]) hF H10 rfl (fun w hW => topo_Peer_c any w (v1) (v2) p0 x4.1 x4.2.1 _ h5 (((rdc_ro h_v1) : Rdc _ _ _ _ _ _) w hW).nx (((rdc_ro h_v2) : Rdc _ _ _ _ _ _) w hW).nx)) (fun a w hF hW => ?_)
   refine ls hF hW rfl ((y_move hF rfl).q) (fun a w hF hW => ?_)
   refine ls hF hW rfl ((y_extract (v := Value.int .i64 x7.1) hF rfl rfl).q) (fun a w hF hW => ?_)
   refine ls hF hW rfl ((y_extract (v := Value.int .i64 x7.2.1) hF rfl rfl).q) (fun a w hF hW => ?_)
   refine ls hF hW rfl ((y_extract (v := Value.int .i64 x7.2.2.1) hF rfl rfl).q) (fun a w hF hW => ?_)
   refine ls hF hW rfl ((y_extract (v := Value.bool x7.2.2.2) hF rfl rfl).q) (fun a w hF hW => ?_)
   refine ls hF hW rfl ((y_assign hF rfl).q) (fun a w hF hW => ?_)
   refine ls hF hW rfl ((y_assign hF rfl).q) (fun a w hF hW => ?_)
   refine ls hF hW rfl ((y_assign hF rfl).q) (fun a w hF hW => ?_)
   refine ls hF hW rfl ((y_assign hF rfl).q) (fun a w hF hW => ?_)
   refine ls_nil ?_
   refine c_then ?_
   obtain ⟨o3, G3, K3⟩ := bindE H
   refine c_seqJ (fun a w => ∃ x8 : Bool, some (x8) = some o3 ∧ Fr 88 [] [(6, .bool x8)] a ∧ Stw ⟨Y, [], w0⟩ [(b1, [.int .i64 p0.1, v1, v2])] [] w) ?_ ?_
   ·
    have H := G3
    clear G3 K3
    refine reg_list ?_
    refine ls hF hW rfl ((y_move hF rfl).q) (fun a w hF hW => ?_)
    refine ls hF hW rfl ((y_move hF rfl).q) (fun a w hF hW => ?_)
    rcases Bool.eq_false_or_eq_true x7.2.2.2 with hb | hb
    ·
     have H := iteT hb H
     rw [hb] at hF
     clear hb
     refine ls_w hF hW (wanted_y hF rfl rfl rfl rfl) rfl (Nat.le_of_ble_eq_true rfl) ((y_move hF rfl).q) (fun a w hF hW => ?_)
     refine ls_w hF hW (wanted_y hF rfl rfl rfl rfl) rfl (Nat.le_of_ble_eq_true rfl) ((y_move hF rfl).q) (fun a w hF hW => ?_)
     refine ls_w hF hW (wanted_y hF rfl rfl rfl rfl) rfl (Nat.le_of_ble_eq_true rfl) ((y_eql hF rfl rfl).q) (fun a w hF hW => ?_)
     refine ls hF hW rfl ((y_pick_t hF rfl rfl rfl).q) (fun a w hF hW => ?_)
     refine ls hF hW rfl ((y_move hF rfl).q) (fun a w hF hW => ?_)
     rcases Bool.eq_false_or_eq_true (decide (x7.1 = p1)) with hb | hb
     ·
      have H := iteT (of_decide_eq_true hb) H
      rw [hb] at hF
      clear hb
      refine ls_w hF hW (wanted_y hF rfl rfl rfl rfl) rfl (Nat.le_of_ble_eq_true rfl) ((y_move hF rfl).q) (fun a w hF hW => ?_)
      refine ls_w hF hW (wanted_y hF rfl rfl rfl rfl) rfl (Nat.le_of_ble_eq_true rfl) ((y_move hF rfl).q) (fun a w hF hW => ?_)
      refine ls_w hF hW (wanted_y hF rfl rfl rfl rfl) rfl (Nat.le_of_ble_eq_true rfl) ((y_eql hF rfl rfl).q) (fun a w hF hW => ?_)
      refine ls hF hW rfl ((y_pick_t hF rfl rfl rfl).q) (fun a w hF hW => ?_)
      refine ls hF hW rfl ((y_move hF rfl).q) (fun a w hF hW => ?_)
      rcases Bool.eq_false_or_eq_true (decide (x7.2.1 = p2)) with hb | hb
      ·
       have H := iteT (of_decide_eq_true hb) H
       rw [hb] at hF
       clear hb
       refine ls_w hF hW (wanted_y hF rfl rfl rfl rfl) rfl (Nat.le_of_ble_eq_true rfl) ((y_move hF rfl).q) (fun a w hF hW => ?_)
       refine ls_w hF hW (wanted_y hF rfl rfl rfl rfl) rfl (Nat.le_of_ble_eq_true rfl) ((y_move hF rfl).q) (fun a w hF hW => ?_)
       refine ls_w hF hW (wanted_y hF rfl rfl rfl rfl) rfl (Nat.le_of_ble_eq_true rfl) ((y_eql hF rfl rfl).q) (fun a w hF hW => ?_)
       refine ls hF hW rfl ((y_pick_t hF rfl rfl rfl).q) (fun a w hF hW => ?_)
       refine ls hF hW rfl ((y_move hF rfl).q) (fun a w hF hW => ?_)
       rcases Bool.eq_false_or_eq_true (decide (x7.2.2.1 = x4.2.2.1)) with hb | hb
       ·
        have H := iteT (of_decide_eq_true hb) H
        rw [hb] at hF
        clear hb
        refine ls_w hF hW (wanted_y hF rfl rfl rfl rfl) rfl (Nat.le_of_ble_eq_true rfl) ((y_move hF rfl).q) (fun a w hF hW => ?_)
        refine ls_w hF hW (wanted_y hF rfl rfl rfl rfl) rfl (Nat.le_of_ble_eq_true rfl) ((y_move hF rfl).q) (fun a w hF hW => ?_)
        refine ls_w hF hW (wanted_y hF rfl rfl rfl rfl) rfl (Nat.le_of_ble_eq_true rfl) ((y_neq hF rfl rfl).q) (fun a w hF hW => ?_)
        refine ls hF hW rfl ((y_pick_t hF rfl rfl rfl).q) (fun a w hF hW => ?_)
        refine ls hF hW rfl ((y_move hF rfl).q) (fun a w hF hW => ?_)
        rcases Bool.eq_false_or_eq_true (decide (x4.1 ≠ p1)) with hb | hb
        ·
         have H := iteT (of_decide_eq_true hb) H
         rw [hb] at hF
         clear hb
         refine ls_w hF hW (wanted_y hF rfl rfl rfl rfl) rfl (Nat.le_of_ble_eq_true rfl) ((y_load (v := Value.agg #[.int .i64 p0.1, v1, v2]) 0 hF rfl rfl T25 rfl).q) (fun a w hF hW => ?_)
         refine ls_w hF hW (wanted_y hF rfl rfl rfl rfl) rfl (Nat.le_of_ble_eq_true rfl) ((y_move hF rfl).q) (fun a w hF hW => ?_)
         refine ls_w hF hW (wanted_y hF rfl rfl rfl rfl) rfl (Nat.le_of_ble_eq_true rfl) ((y_move hF rfl).q) (fun a w hF hW => ?_)
         refine ls_g (wanted_y hF rfl rfl rfl rfl) ?_
         obtain ⟨x9, h6, H⟩ := bindE H
         refine ls hF hW rfl (y_call (v := Value.int .i64 x9) hF H12 rfl (fun w hW => topo_HostAt_c any w (v1) (v2) p0 p1 p2 _ h6 (((rdc_ro h_v1) : Rdc _ _ _ _ _ _) w hW).nx (((rdc_ro h_v2) : Rdc _ _ _ _ _ _) w hW).nx)) (fun a w hF hW => ?_)
         refine ls_w hF hW (wanted_y hF rfl rfl rfl rfl) rfl (Nat.le_of_ble_eq_true rfl) ((y_eql hF rfl rfl).q) (fun a w hF hW => ?_)
         refine ls hF hW rfl ((y_pick_t hF rfl rfl rfl).q) (fun a w hF hW => ?_)
         refine ls hF hW rfl ((y_move hF rfl).q) (fun a w hF hW => ?_)
         rcases Bool.eq_false_or_eq_true (decide (x9 = (-1))) with hb | hb
         ·
          have H := iteT (of_decide_eq_true hb) H
          rw [hb] at hF
          clear hb
          refine ls_g (wanted_y hF rfl rfl rfl rfl) ?_
          obtain ⟨x10, h7, H⟩ := bindE H
          refine ls hF hW rfl (y_call (v := Value.bool x10) hF H7 rfl (fun w hW => L17_awake_c any w _ h7)) (fun a w hF hW => ?_)
          refine ls hF hW rfl ((y_pick_t hF rfl rfl rfl).q) (fun a w hF hW => ?_)
          refine ls hF hW rfl ((y_assign hF rfl).q) (fun a w hF hW => ?_)
          refine ls_nil ?_
          refine c_then ?_
          exact ⟨_, H, hF.re ⟨rfl, trivial⟩, hW⟩
         ·
          have H := iteF (of_decide_eq_false hb) H
          rw [hb] at hF
          clear hb
          refine lsn hF rfl rfl rfl rfl rfl rfl rfl (fun a hF => ?_)
          refine ls hF hW rfl ((y_pick_f hF rfl rfl rfl).q) (fun a w hF hW => ?_)
          refine ls hF hW rfl ((y_assign hF rfl).q) (fun a w hF hW => ?_)
          refine ls_nil ?_
          refine c_then ?_
          exact ⟨_, H, hF.re ⟨rfl, trivial⟩, hW⟩
        ·
         have H := iteF (of_decide_eq_false hb) H
         rw [hb] at hF
         clear hb
         refine lsn hF rfl rfl rfl rfl rfl rfl rfl (fun a hF => ?_)
         refine lsn hF rfl rfl rfl rfl rfl rfl rfl (fun a hF => ?_)
         refine lsn hF rfl rfl rfl rfl rfl rfl rfl (fun a hF => ?_)
         refine lsn hF rfl rfl rfl rfl rfl rfl rfl (fun a hF => ?_)
         refine lsn hF rfl rfl rfl rfl rfl rfl rfl (fun a hF => ?_)
         refine ls hF hW rfl ((y_pick_f hF rfl rfl rfl).q) (fun a w hF hW => ?_)
         refine ls hF hW rfl ((y_move hF rfl).q) (fun a w hF hW => ?_)
         refine lsn hF rfl rfl rfl rfl rfl rfl rfl (fun a hF => ?_)
         refine ls hF hW rfl ((y_pick_f hF rfl rfl rfl).q) (fun a w hF hW => ?_)
         refine ls hF hW rfl ((y_assign hF rfl).q) (fun a w hF hW => ?_)
         refine ls_nil ?_
         refine c_then ?_
         exact ⟨_, H, hF.re ⟨rfl, trivial⟩, hW⟩
       ·
        have H := iteF (of_decide_eq_false hb) H
        rw [hb] at hF
        clear hb
        refine lsn hF rfl rfl rfl rfl rfl rfl rfl (fun a hF => ?_)
        refine lsn hF rfl rfl rfl rfl rfl rfl rfl (fun a hF => ?_)
        refine lsn hF rfl rfl rfl rfl rfl rfl rfl (fun a hF => ?_)
        refine ls hF hW rfl ((y_pick_f hF rfl rfl rfl).q) (fun a w hF hW => ?_)
        refine ls hF hW rfl ((y_move hF rfl).q) (fun a w hF hW => ?_)
        refine lsn hF rfl rfl rfl rfl rfl rfl rfl (fun a hF => ?_)
        refine lsn hF rfl rfl rfl rfl rfl rfl rfl (fun a hF => ?_)
        refine lsn hF rfl rfl rfl rfl rfl rfl rfl (fun a hF => ?_)
        refine lsn hF rfl rfl rfl rfl rfl rfl rfl (fun a hF => ?_)
        refine lsn hF rfl rfl rfl rfl rfl rfl rfl (fun a hF => ?_)
        refine ls hF hW rfl ((y_pick_f hF rfl rfl rfl).q) (fun a w hF hW => ?_)
        refine ls hF hW rfl ((y_move hF rfl).q) (fun a w hF hW => ?_)
        refine lsn hF rfl rfl rfl rfl rfl rfl rfl (fun a hF => ?_)
        refine ls hF hW rfl ((y_pick_f hF rfl rfl rfl).q) (fun a w hF hW => ?_)
        refine ls hF hW rfl ((y_assign hF rfl).q) (fun a w hF hW => ?_)
        refine ls_nil ?_
        refine c_then ?_
        exact ⟨_, H, hF.re ⟨rfl, trivial⟩, hW⟩
      ·
       have H := iteF (of_decide_eq_false hb) H
       rw [hb] at hF
       clear hb
       refine lsn hF rfl rfl rfl rfl rfl rfl rfl (fun a hF => ?_)
       refine lsn hF rfl rfl rfl rfl rfl rfl rfl (fun a hF => ?_)
       refine lsn hF rfl rfl rfl rfl rfl rfl rfl (fun a hF => ?_)
       refine ls hF hW rfl ((y_pick_f hF rfl rfl rfl).q) (fun a w hF hW => ?_)
       refine ls hF hW rfl ((y_move hF rfl).q) (fun a w hF hW => ?_)
       refine lsn hF rfl rfl rfl rfl rfl rfl rfl (fun a hF => ?_)
       refine lsn hF rfl rfl rfl rfl rfl rfl rfl (fun a hF => ?_)
       refine lsn hF rfl rfl rfl rfl rfl rfl rfl (fun a hF => ?_)
       refine ls hF hW rfl ((y_pick_f hF rfl rfl rfl).q) (fun a w hF hW => ?_)
       refine ls hF hW rfl ((y_move hF rfl).q) (fun a w hF hW => ?_)
       refine lsn hF rfl rfl rfl rfl rfl rfl rfl (fun a hF => ?_)
       refine lsn hF rfl rfl rfl rfl rfl rfl rfl (fun a hF => ?_)
       refine lsn hF rfl rfl rfl rfl rfl rfl rfl (fun a hF => ?_)
       refine lsn hF rfl rfl rfl rfl rfl rfl rfl (fun a hF => ?_)
       refine lsn hF rfl rfl rfl rfl rfl rfl rfl (fun a hF => ?_)
       refine ls hF hW rfl ((y_pick_f hF rfl rfl rfl).q) (fun a w hF hW => ?_)
       refine ls hF hW rfl ((y_move hF rfl).q) (fun a w hF hW => ?_)
       refine lsn hF rfl rfl rfl rfl rfl rfl rfl (fun a hF => ?_)
       refine ls hF hW rfl ((y_pick_f hF rfl rfl rfl).q) (fun a w hF hW => ?_)
       refine ls hF hW rfl ((y_assign hF rfl).q) (fun a w hF hW => ?_)
       refine ls_nil ?_
       refine c_then ?_
       exact ⟨_, H, hF.re ⟨rfl, trivial⟩, hW⟩
     ·
      have H := iteF (of_decide_eq_false hb) H
      rw [hb] at hF
      clear hb
      refine lsn hF rfl rfl rfl rfl rfl rfl rfl (fun a hF => ?_)
      refine lsn hF rfl rfl rfl rfl rfl rfl rfl (fun a hF => ?_)
      refine lsn hF rfl rfl rfl rfl rfl rfl rfl (fun a hF => ?_)
      refine ls hF hW rfl ((y_pick_f hF rfl rfl rfl).q) (fun a w hF hW => ?_)
      refine ls hF hW rfl ((y_move hF rfl).q) (fun a w hF hW => ?_)
      refine lsn hF rfl rfl rfl rfl rfl rfl rfl (fun a hF => ?_)
      refine lsn hF rfl rfl rfl rfl rfl rfl rfl (fun a hF => ?_)
      refine lsn hF rfl rfl rfl rfl rfl rfl rfl (fun a hF => ?_)
      refine ls hF hW rfl ((y_pick_f hF rfl rfl rfl).q) (fun a w hF hW => ?_)
      refine ls hF hW rfl ((y_move hF rfl).q) (fun a w hF hW => ?_)
      refine lsn hF rfl rfl rfl rfl rfl rfl rfl (fun a hF => ?_)
      refine lsn hF rfl rfl rfl rfl rfl rfl rfl (fun a hF => ?_)
      refine lsn hF rfl rfl rfl rfl rfl rfl rfl (fun a hF => ?_)
      refine ls hF hW rfl ((y_pick_f hF rfl rfl rfl).q) (fun a w hF hW => ?_)
      refine ls hF hW rfl ((y_move hF rfl).q) (fun a w hF hW => ?_)
      refine lsn hF rfl rfl rfl rfl rfl rfl rfl (fun a hF => ?_)
      refine lsn hF rfl rfl rfl rfl rfl rfl rfl (fun a hF => ?_)
      refine lsn hF rfl rfl rfl rfl rfl rfl rfl (fun a hF => ?_)
      refine lsn hF rfl rfl rfl rfl rfl rfl rfl (fun a hF => ?_)
      refine lsn hF rfl rfl rfl rfl rfl rfl rfl (fun a hF => ?_)
      refine ls hF hW rfl ((y_pick_f hF rfl rfl rfl).q) (fun a w hF hW => ?_)
      refine ls hF hW rfl ((y_move hF rfl).q) (fun a w hF hW => ?_)
      refine lsn hF rfl rfl rfl rfl rfl rfl rfl (fun a hF => ?_)
      refine ls hF hW rfl ((y_pick_f hF rfl rfl rfl).q) (fun a w hF hW => ?_)
      refine ls hF hW rfl ((y_assign hF rfl).q) (fun a w hF hW => ?_)
      refine ls_nil ?_
      refine c_then ?_
      exact ⟨_, H, hF.re ⟨rfl, trivial⟩, hW⟩
    ·
     have H := iteF (by rw [hb]; decide) H
     rw [hb] at hF
     clear hb
     refine lsn hF rfl rfl rfl rfl rfl rfl rfl (fun a hF => ?_)
     refine lsn hF rfl rfl rfl rfl rfl rfl rfl (fun a hF => ?_)
     refine lsn hF rfl rfl rfl rfl rfl rfl rfl (fun a hF => ?_)
     refine ls hF hW rfl ((y_pick_f hF rfl rfl rfl).q) (fun a w hF hW => ?_)
     refine ls hF hW rfl ((y_move hF rfl).q) (fun a w hF hW => ?_)
     refine lsn hF rfl rfl rfl rfl rfl rfl rfl (fun a hF => ?_)
     refine lsn hF rfl rfl rfl rfl rfl rfl rfl (fun a hF => ?_)
     refine lsn hF rfl rfl rfl rfl rfl rfl rfl (fun a hF => ?_)
     refine ls hF hW rfl ((y_pick_f hF rfl rfl rfl).q) (fun a w hF hW => ?_)
     refine ls hF hW rfl ((y_move hF rfl).q) (fun a w hF hW => ?_)
     refine lsn hF rfl rfl rfl rfl rfl rfl rfl (fun a hF => ?_)
     refine lsn hF rfl rfl rfl rfl rfl rfl rfl (fun a hF => ?_)
     refine lsn hF rfl rfl rfl rfl rfl rfl rfl (fun a hF => ?_)
     refine ls hF hW rfl ((y_pick_f hF rfl rfl rfl).q) (fun a w hF hW => ?_)
     refine ls hF hW rfl ((y_move hF rfl).q) (fun a w hF hW => ?_)
     refine lsn hF rfl rfl rfl rfl rfl rfl rfl (fun a hF => ?_)
     refine lsn hF rfl rfl rfl rfl rfl rfl rfl (fun a hF => ?_)
     refine lsn hF rfl rfl rfl rfl rfl rfl rfl (fun a hF => ?_)
     refine ls hF hW rfl ((y_pick_f hF rfl rfl rfl).q) (fun a w hF hW => ?_)
     refine ls hF hW rfl ((y_move hF rfl).q) (fun a w hF hW => ?_)
     refine lsn hF rfl rfl rfl rfl rfl rfl rfl (fun a hF => ?_)
     refine lsn hF rfl rfl rfl rfl rfl rfl rfl (fun a hF => ?_)
     refine lsn hF rfl rfl rfl rfl rfl rfl rfl (fun a hF => ?_)
     refine lsn hF rfl rfl rfl rfl rfl rfl rfl (fun a hF => ?_)
     refine lsn hF rfl rfl rfl rfl rfl rfl rfl (fun a hF => ?_)
     refine ls hF hW rfl ((y_pick_f hF rfl rfl rfl).q) (fun a w hF hW => ?_)
     refine ls hF hW rfl ((y_move hF rfl).q) (fun a w hF hW => ?_)
     refine lsn hF rfl rfl rfl rfl rfl rfl rfl (fun a hF => ?_)
     refine ls hF hW rfl ((y_pick_f hF rfl rfl rfl).q) (fun a w hF hW => ?_)
     refine ls hF hW rfl ((y_assign hF rfl).q) (fun a w hF hW => ?_)
     refine ls_nil ?_
     refine c_then ?_
     exact ⟨_, H, hF.re ⟨rfl, trivial⟩, hW⟩
   rintro a w ⟨x8, hj, hF, hW⟩
   have hj := Option.some.inj hj
   subst hj
   have H := K3
   clear G3 K3
   refine wp_ret ?_
   have H := Option.some.inj H
   subst H
   refine post1 (.inl rfl) hF hW rfl (rv_tmp hF rfl) ?_
   exact ⟨rfl, hW.done⟩

end Go.Proofs.Ytnkleniifdkpmaa
