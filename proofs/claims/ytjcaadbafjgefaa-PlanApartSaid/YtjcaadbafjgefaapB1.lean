/- The functions of layer 24, lifted. Conditions: none. -/
import Derived.Test.YtjcaadbafjgefaapB0
namespace Go.Proofs.Ytjcaadbafjgefaa
open Go Go.RowKit
set_option linter.unusedVariables false
set_option linter.unusedSimpArgs false
set_option maxRecDepth 20000
theorem H8 : Has Try.prog 8 := ⟨fun args w => run_callFunc_body Try.func8 rfl (by decide) args w⟩
noncomputable def L24_PlanApart_l1 (p4 : Int) (x5 : ((List (Int × Int × Int × Int)) × (List (Int × Int × List Int)) × Int × Int × Int × Int) × Int) : Int → Option (Int ⊕ (Unit ⊕ Bool))
  | x11 => (if x11 < (x5.1.2.1.length : Int) then (ix x5.1.2.1 x11).bind fun x12 => (if 0 < x11 then (ix x5.1.2.1 (w64 (x11 - 1))).bind fun x14 => (if (w64 (x12.2.1 - p4)) ≤ (w64 ((w64 (x14.2.1 + p4)) + x5.1.2.2.2.1)) then some true else (ix x5.1.2.1 (w64 (x11 - 1))).bind fun x15 => some (decide (x12.1 ≤ x15.1))) else some false).bind fun x13 => (if x13 = true then some (.inr (.inr false)) else (if (!(plan_Guarded x5.1 (w64 ((w64 (x12.2.1 - p4)) - x5.1.2.2.2.1))) || (!(plan_Guarded x5.1 (w64 (x12.2.1 + p4))) || decide ((x12.2.2.length : Int) = 0))) = true then some (.inr (.inr false)) else some (.inl (w64 (x11 + 1))))) else some (.inr (.inl ())))
noncomputable def L24_PlanApart (p0 : Int × (List (Int × Int × Int × Int × Int × Int)) × (List (Int × Int))) (p1 : List (List Int)) (p2 : List (List Int)) (p3 : Int) (p4 : Int) (p5 : Int) : Option Bool := ((L23_Small p0 p1).bind fun x2 => (if (!x2) = true then some true else (L23_Small p0 p2).bind fun x3 => some (!x3))).bind fun x1 => (if x1 = true then (L24_awake).bind fun x4 => some x4 else (plan_Make p0 p1 p2 p3 p4 p5).bind fun x5 => (if x5.2 ≠ 0 then (if (x5.1.2.1.length : Int) = 0 then (L24_awake).bind fun x7 => some x7 else some false).bind fun x6 => some x6 else (if (x5.1.2.1.length : Int) = 0 then some true else (plan_Life p0).bind fun x9 => (if x5.1.2.2.2.1 ≠ x9 then some true else (if x5.1.2.2.1 ≠ p4 then some true else (ix x5.1.2.1 0).bind fun x10 => some (decide ((w64 (x10.2.1 - p4)) ≤ (w64 ((w64 (p3 + p5)) + x5.1.2.2.2.1))))))).bind fun x8 => (if x8 = true then some false else orR (loopW (L24_PlanApart_l1 p4 x5) 0) fun _ => (if (!(plan_Guarded x5.1 (w64 (x5.1.2.2.2.2.1 - 1)))) = true then (if (!(plan_Guarded x5.1 (w64 (x5.1.2.2.2.2.2 + 1)))) = true then (if p3 < x5.1.2.2.2.2.1 then (L24_awake).bind fun x17 => some x17 else some false) else some false) else some false).bind fun x16 => some x16)))
theorem L24_PlanApart_c (Y : Nat → Prop) (w0 : World) (v1 : Value) (v2 : Value) (v3 : Value) (v4 : Value) (p0 : Int × (List (Int × Int × Int × Int × Int × Int)) × (List (Int × Int))) (p1 : List (List Int)) (p2 : List (List Int)) (p3 : Int) (p4 : Int) (p5 : Int) (r : Bool) (H : L24_PlanApart p0 p1 p2 p3 p4 p5 = some r) (h_v1 : Sl w0 (NX []) R62 v1 p0.2.1) (h_v2 : Sl w0 (NX []) R64 v2 p0.2.2) (h_v3 : Sl w0 (NX []) (Rp.slice (Rp.int .i64)) v3 p1) (h_v4 : Sl w0 (NX []) (Rp.slice (Rp.int .i64)) v4 p2) :
    Calls Try.prog 4 #[.agg #[.int .i64 p0.1, v1, v2], v3, v4, .int .i64 p3, .int .i64 p4, .int .i64 p5] w0 fun e w' => e = .returned (.bool r) ∧ Below w0.heap.size w0 w' := by
 refine enter Try.func4 rfl Try.ntmps4 rfl (fun a hF => ?_)
 have hW := Stw.start Y w0
 obtain ⟨v5, h1, h_v3⟩ := h_v3.ex EX46
 obtain ⟨v6, h2, h_v4⟩ := h_v4.ex EX46
 unfold L24_PlanApart at H
 refine c_seq (reg_list ?_)
 refine l_box (cs := [.int .i64 p0.1, v1, v2]) hF hW rfl rfl rfl (fun b1 a w hF hW => ?_)
 refine ls hF hW rfl ((y_assign hF rfl).q) (fun a w hF hW => ?_)
 refine ls_nil (c_then ?_)
 refine c_seq ?_
 obtain ⟨o1, G1, K1⟩ := bindE H
 refine c_seqJ (fun a w => ∃ x1 : Bool, some (x1) = some o1 ∧ Fr 173 [] [(1, v3), (2, v4), (3, .int .i64 p3), (4, .int .i64 p4), (5, .int .i64 p5), (6, .pointer (some ⟨b1, 0, none⟩)), (12, .bool false), (26, .bool x1)] a ∧ Stw ⟨Y, [], w0⟩ [(b1, [.int .i64 p0.1, v1, v2])] [] w) ?_ ?_
 ·
  have H := G1
  clear G1 K1
  refine reg_list ?_
  refine ls hF hW rfl ((y_load (v := Value.agg #[.int .i64 p0.1, v1, v2]) 0 hF rfl rfl T25 rfl).q) (fun a w hF hW => ?_)
  refine ls hF hW rfl ((y_move hF rfl).q) (fun a w hF hW => ?_)
  obtain ⟨x2, h3, H⟩ := bindE H
  refine ls hF hW rfl (y_call (v := Value.bool x2) hF H7 rfl (fun w hW => L23_Small_c any w (v1) (v2) (v3) p0 p1 _ h3 (((rdc_ro h_v1) : Rdc _ _ _ _ _ _) w hW).nx (((rdc_ro h_v2) : Rdc _ _ _ _ _ _) w hW).nx (((rdc_hide EX46 h1 (rdc_ro h_v3)) : Rdc _ _ _ _ _ _) w hW).nx)) (fun a w hF hW => ?_)
  refine ls hF hW rfl ((y_not hF rfl).q) (fun a w hF hW => ?_)
  refine ls hF hW rfl ((y_move hF rfl).q) (fun a w hF hW => ?_)
  rcases Bool.eq_false_or_eq_true (!x2) with hb | hb
  ·
   have H := iteT hb H
   rw [hb] at hF
   clear hb
   iterate 4 refine lsn hF rfl rfl rfl rfl rfl rfl rfl (fun a hF => ?_)
   refine ls hF hW rfl ((y_pick_t hF rfl rfl rfl).q) (fun a w hF hW => ?_)
   refine ls_nil (c_then ?_)
   exact ⟨_, H, hF.re ⟨rfl, rfl, rfl, rfl, rfl, rfl, rfl, rfl, trivial⟩, hW⟩
  ·
   have H := iteF (by rw [hb]; decide) H
   rw [hb] at hF
   clear hb
   refine ls_w hF hW (wanted_y hF rfl rfl rfl rfl) rfl (Nat.le_of_ble_eq_true rfl) ((y_load (v := Value.agg #[.int .i64 p0.1, v1, v2]) 0 hF rfl rfl T25 rfl).q) (fun a w hF hW => ?_)
   refine ls_w hF hW (wanted_y hF rfl rfl rfl rfl) rfl (Nat.le_of_ble_eq_true rfl) ((y_move hF rfl).q) (fun a w hF hW => ?_)
   refine ls_g (wanted_y hF rfl rfl rfl rfl) ?_
   obtain ⟨x3, h4, H⟩ := bindE H
   refine ls hF hW rfl (y_call (v := Value.bool x3) hF H7 rfl (fun w hW => L23_Small_c any w (v1) (v2) (v4) p0 p2 _ h4 (((rdc_ro h_v1) : Rdc _ _ _ _ _ _) w hW).nx (((rdc_ro h_v2) : Rdc _ _ _ _ _ _) w hW).nx (((rdc_hide EX46 h2 (rdc_ro h_v4)) : Rdc _ _ _ _ _ _) w hW).nx)) (fun a w hF hW => ?_)
   refine ls_w hF hW (wanted_y hF rfl rfl rfl rfl) rfl (Nat.le_of_ble_eq_true rfl) ((y_not hF rfl).q) (fun a w hF hW => ?_)
   refine ls hF hW rfl ((y_pick_f hF rfl rfl rfl).q) (fun a w hF hW => ?_)
   refine ls_nil (c_then ?_)
   exact ⟨_, H, hF.re ⟨rfl, rfl, rfl, rfl, rfl, rfl, rfl, rfl, trivial⟩, hW⟩
 rintro a w ⟨x1, hj, hF, hW⟩
 have hj := Option.some.inj hj
 subst hj
 have H := K1
 clear G1 K1
 refine c_cond hF rfl (fun hb => ?_) (fun hb => ?_)
 ·
  have H := iteT hb H
  rw [hb] at hF
  clear hb
  refine c_seq (reg_list ?_)
  obtain ⟨x4, h5, H⟩ := bindE H
  refine ls hF hW rfl (y_call (v := Value.bool x4) hF H8 rfl (fun w hW => L24_awake_c any w _ h5)) (fun a w hF hW => ?_)
  refine ls hF hW rfl ((y_assign hF rfl).q) (fun a w hF hW => ?_)
  refine ls_nil (c_then ?_)
  refine wp_ret ?_
  refine r_then ?_
  have H := Option.some.inj H
  subst H
  refine post1 (.inl rfl) hF hW rfl (rv_tmp hF rfl) ?_
  exact ⟨rfl, hW.done⟩
 ·
  have H := iteF (by rw [hb]; decide) H
  rw [hb] at hF
  clear hb
  refine wp_skip ?_
  refine c_then ?_
  refine c_seq (reg_list ?_)
  refine ls hF hW rfl ((y_load (v := Value.agg #[.int .i64 p0.1, v1, v2]) 0 hF rfl rfl T25 rfl).q) (fun a w hF hW => ?_)
  iterate 5 refine ls hF hW rfl ((y_move hF rfl).q) (fun a w hF hW => ?_)
  obtain ⟨x5, h6, H⟩ := bindE H
  refine l_callG (Ml := []) (Zl := []) (M := [(b1, [.int .i64 p0.1, v1, v2])]) (Z := []) (β := Value × Value) (rv := fun x => .tuple #[.agg #[x.1, x.2, .int .i64 x5.1.2.2.1, .int .i64 x5.1.2.2.2.1, .int .i64 x5.1.2.2.2.2.1, .int .i64 x5.1.2.2.2.2.2], .int .i64 x5.2]) (MM := fun x => []) (ZZ := fun x => [row x.1 85 R85 x5.1.1, row x.2 48 R48 x5.1.2.1]) hF hW H9 rfl rfl (fun hL => plan_Make_c _ w (v1) (v2) (v3) (v4) p0 p1 p2 p3 p4 p5 _ h6 ((rdc_ro h_v1) w hW).nx ((rdc_ro h_v2) w hW).nx ((rdc_hide EX46 h1 (rdc_ro h_v3)) w hW).nx ((rdc_hide EX46 h2 (rdc_ro h_v4)) w hW).nx) (fun x a w hF hW => ?_)
  obtain ⟨v7, v8⟩ := x
  have hW : Stw ⟨Y, [], w0⟩ [(b1, [.int .i64 p0.1, v1, v2])] [row v7 85 R85 x5.1.1, row v8 48 R48 x5.1.2.1] w := hW
  refine ls hF hW rfl ((y_move hF rfl).q) (fun a w hF hW => ?_)
  refine ls hF hW rfl ((y_extract (v := Value.agg #[v7, v8, .int .i64 x5.1.2.2.1, .int .i64 x5.1.2.2.2.1, .int .i64 x5.1.2.2.2.2.1, .int .i64 x5.1.2.2.2.2.2]) hF rfl rfl).q) (fun a w hF hW => ?_)
  refine ls hF hW rfl ((y_extract (v := Value.int .i64 x5.2) hF rfl rfl).q) (fun a w hF hW => ?_)
  refine l_alloc (cs := [.slice none 0 0, .slice none 0 0, .int .i64 0, .int .i64 0, .int .i64 0, .int .i64 0]) hF hW rfl Z33 rfl (fun b2 a w hF hW => ?_)
  refine l_store (vs := [v7, v8, .int .i64 x5.1.2.2.1, .int .i64 x5.1.2.2.2.1, .int .i64 x5.1.2.2.2.2.1, .int .i64 x5.1.2.2.2.2.2]) (M' := [(b2, [v7, v8, .int .i64 x5.1.2.2.1, .int .i64 x5.1.2.2.2.1, .int .i64 x5.1.2.2.2.2.1, .int .i64 x5.1.2.2.2.2.2]), (b1, [.int .i64 p0.1, v1, v2])]) 0 hF hW rfl rfl rfl T33 rfl rfl rfl (one_cons (hW.one (k := 0) rfl) (one_cons (hW.one (k := 1) rfl) (one_cons rfl (one_cons rfl (one_cons rfl (one_cons rfl one_nil)))))) rfl (fun w hW => ?_)
  refine ls hF hW rfl ((y_assign hF rfl).q) (fun a w hF hW => ?_)
  refine ls_nil (c_then ?_)
  refine c_seq ?_
  refine c_seq (reg_list ?_)
  refine ls hF hW rfl ((y_move hF rfl).q) (fun a w hF hW => ?_)
  refine ls hF hW rfl ((y_neq hF rfl rfl).q) (fun a w hF hW => ?_)
  refine ls_nil (c_then ?_)
  refine c_cond hF rfl (fun hb => ?_) (fun hb => ?_)
  ·
   have H := iteT (of_decide_eq_true hb) H
   rw [hb] at hF
   clear hb
   obtain ⟨o2, G2, K2⟩ := bindE H
   refine c_seqJ (fun a w => ∃ x6 : Bool, some (x6) = some o2 ∧ Fr 173 [] [(3, .int .i64 p3), (4, .int .i64 p4), (5, .int .i64 p5), (6, .pointer (some ⟨b1, 0, none⟩)), (12, .bool x6), (13, .pointer (some ⟨b2, 0, none⟩))] a ∧ Stw ⟨Y, [], w0⟩ [(b2, [v7, v8, .int .i64 x5.1.2.2.1, .int .i64 x5.1.2.2.2.1, .int .i64 x5.1.2.2.2.2.1, .int .i64 x5.1.2.2.2.2.2]), (b1, [.int .i64 p0.1, v1, v2])] [row v7 85 R85 x5.1.1, row v8 48 R48 x5.1.2.1] w) ?_ ?_
   ·
    have H := G2
    clear G2 K2
    refine reg_list ?_
    refine ls hF hW rfl ((y_fieldAddr u33_ rfl rfl rfl T31 hF rfl 1 rfl).q) (fun a w hF hW => ?_)
    refine ls hF hW rfl ((y_load (v := v8) 0 hF rfl rfl T31 rfl).q) (fun a w hF hW => ?_)
    refine ls hF hW rfl ((y_len (r := R48) (l := x5.1.2.1) u31_ rfl hF rfl (rdc_row 1 rfl)).q) (fun a w hF hW => ?_)
    refine ls hF hW rfl ((y_eql hF rfl rfl).q) (fun a w hF hW => ?_)
    refine ls hF hW rfl ((y_move hF rfl).q) (fun a w hF hW => ?_)
    rcases Bool.eq_false_or_eq_true (decide ((x5.1.2.1.length : Int) = 0)) with hb | hb
    ·
     have H := iteT (of_decide_eq_true hb) H
     rw [hb] at hF
     clear hb
     refine ls_g (wanted_y hF rfl rfl rfl rfl) ?_
     obtain ⟨x7, h7, H⟩ := bindE H
     refine ls hF hW rfl (y_call (v := Value.bool x7) hF H8 rfl (fun w hW => L24_awake_c any w _ h7)) (fun a w hF hW => ?_)
     refine ls hF hW rfl ((y_pick_t hF rfl rfl rfl).q) (fun a w hF hW => ?_)
     refine ls hF hW rfl ((y_assign hF rfl).q) (fun a w hF hW => ?_)
     refine ls_nil (c_then ?_)
     have hW := hW.frontZ (i := 1) rfl rfl
     have hW := hW.frontZ (i := 1) rfl rfl
     have hW := hW.frontM (i := 1) rfl rfl
     have hW := hW.frontM (i := 1) rfl rfl
     exact ⟨_, H, hF.re ⟨rfl, rfl, rfl, rfl, rfl, rfl, trivial⟩, hW⟩
    ·
     have H := iteF (of_decide_eq_false hb) H
     rw [hb] at hF
     clear hb
     refine lsn hF rfl rfl rfl rfl rfl rfl rfl (fun a hF => ?_)
     refine ls hF hW rfl ((y_pick_f hF rfl rfl rfl).q) (fun a w hF hW => ?_)
     refine ls hF hW rfl ((y_assign hF rfl).q) (fun a w hF hW => ?_)
     refine ls_nil (c_then ?_)
     have hW := hW.frontZ (i := 1) rfl rfl
     have hW := hW.frontZ (i := 1) rfl rfl
     have hW := hW.frontM (i := 1) rfl rfl
     have hW := hW.frontM (i := 1) rfl rfl
     exact ⟨_, H, hF.re ⟨rfl, rfl, rfl, rfl, rfl, rfl, trivial⟩, hW⟩
   rintro a w ⟨x6, hj, hF, hW⟩
   have hj := Option.some.inj hj
   subst hj
   have H := K2
   clear G2 K2
   refine wp_ret ?_
   refine r_then ?_
   have H := Option.some.inj H
   subst H
   refine post1 (.inl rfl) hF hW rfl (rv_tmp hF rfl) ?_
   exact ⟨rfl, hW.done⟩
  ·
   have H := iteF (of_decide_eq_false hb) H
   rw [hb] at hF
   clear hb
   refine wp_skip ?_
   refine c_then ?_
   refine c_seq ?_
   obtain ⟨o3, G3, K3⟩ := bindE H
   refine c_seqJ (fun a w => ∃ x8 : Bool, some (x8) = some o3 ∧ Fr 173 [] [(3, .int .i64 p3), (4, .int .i64 p4), (12, .bool false), (13, .pointer (some ⟨b2, 0, none⟩)), (79, .bool x8)] a ∧ Stw ⟨Y, [], w0⟩ [(b2, [v7, v8, .int .i64 x5.1.2.2.1, .int .i64 x5.1.2.2.2.1, .int .i64 x5.1.2.2.2.2.1, .int .i64 x5.1.2.2.2.2.2]), (b1, [.int .i64 p0.1, v1, v2])] [row v7 85 R85 x5.1.1, row v8 48 R48 x5.1.2.1] w) ?_ ?_
   ·
    have H := G3
    clear G3 K3
    have hW := hW.frontZ (i := 1) rfl rfl
    obtain ⟨v9, h8, hW⟩ := hW.exR EX48
    refine reg_quiet hW MO (by kernel_rfl) ?_
    refine qs hF rfl ((y_fieldAddr u33_ rfl rfl rfl T31 hF rfl 1 rfl).q) (fun a hF => ?_)
    refine qs hF rfl ((y_load (v := v8) 0 hF rfl rfl T31 rfl).q) (fun a hF => ?_)
    refine qs hF rfl ((y_len (r := R48) (l := x5.1.2.1) u31_ rfl hF rfl (rdc_hide EX48 h8 (rdc_row 0 rfl))).q) (fun a hF => ?_)
    refine qs hF rfl ((y_eql hF rfl rfl).q) (fun a hF => ?_)
    refine qs hF rfl ((y_move hF rfl).q) (fun a hF => ?_)
    rcases Bool.eq_false_or_eq_true (decide ((x5.1.2.1.length : Int) = 0)) with hb | hb
    ·
     have H := iteT (of_decide_eq_true hb) H
     rw [hb] at hF
     clear hb
     iterate 5 refine qs_skip hF (wanted_n hF rfl rfl rfl rfl rfl) rfl rfl (fun a hF => ?_)
     refine qs hF rfl ((y_pick_t hF rfl rfl rfl).q) (fun a hF => ?_)
     refine qs hF rfl ((y_move hF rfl).q) (fun a hF => ?_)
     iterate 4 refine qs_skip hF (wanted_n hF rfl rfl rfl rfl rfl) rfl rfl (fun a hF => ?_)
     refine qs hF rfl ((y_pick_t hF rfl rfl rfl).q) (fun a hF => ?_)
     refine qs hF rfl ((y_move hF rfl).q) (fun a hF => ?_)
     iterate 14 refine qs_skip hF (wanted_n hF rfl rfl rfl rfl rfl) rfl rfl (fun a hF => ?_)
     refine qs hF rfl ((y_pick_t hF rfl rfl rfl).q) (fun a hF => ?_)
     refine quiet_end (fun w hW => ?_)
     refine c_then ?_
     have hW := hW.hideR EX48 h8
     have hW := hW.frontZ (i := 1) rfl rfl
     have hW := hW.frontM (i := 1) rfl rfl
     have hW := hW.frontM (i := 1) rfl rfl
     exact ⟨_, H, hF.re ⟨rfl, rfl, rfl, rfl, rfl, trivial⟩, hW⟩
    ·
     have H := iteF (of_decide_eq_false hb) H
     rw [hb] at hF
     clear hb
     refine qs_w hF (wanted_y hF rfl rfl rfl rfl) rfl (Nat.le_of_ble_eq_true rfl) ((y_fieldAddr u33_ rfl rfl rfl T3 hF rfl 3 rfl).q) (fun a hF => ?_)
     refine qs_w hF (wanted_y hF rfl rfl rfl rfl) rfl (Nat.le_of_ble_eq_true rfl) ((y_load (v := Value.int .i64 x5.1.2.2.2.1) 0 hF rfl rfl T3 rfl).q) (fun a hF => ?_)
     refine qs_w hF (wanted_y hF rfl rfl rfl rfl) rfl (Nat.le_of_ble_eq_true rfl) ((y_load (v := Value.agg #[.int .i64 p0.1, v1, v2]) 1 hF rfl rfl T25 rfl).q) (fun a hF => ?_)
     obtain ⟨x9, h9, H⟩ := bindE H
     refine qs_w hF (wanted_y hF rfl rfl rfl rfl) rfl (Nat.le_of_ble_eq_true rfl) (y_call (v := Value.int .i64 x9) hF H12 rfl (fun w hW => plan_Life_c any w (v1) (v2) p0 _ h9 (((rdc_ro h_v1) : Rdc _ _ _ _ _ _) w hW).nx (((rdc_ro h_v2) : Rdc _ _ _ _ _ _) w hW).nx)) (fun a hF => ?_)
     refine qs_w hF (wanted_y hF rfl rfl rfl rfl) rfl (Nat.le_of_ble_eq_true rfl) ((y_neq hF rfl rfl).q) (fun a hF => ?_)
     refine qs hF rfl ((y_pick_f hF rfl rfl rfl).q) (fun a hF => ?_)
     refine qs hF rfl ((y_move hF rfl).q) (fun a hF => ?_)
     rcases Bool.eq_false_or_eq_true (decide (x5.1.2.2.2.1 ≠ x9)) with hb | hb
     ·
      have H := iteT (of_decide_eq_true hb) H
      rw [hb] at hF
      clear hb
      iterate 4 refine qs_skip hF (wanted_n hF rfl rfl rfl rfl rfl) rfl rfl (fun a hF => ?_)
      refine qs hF rfl ((y_pick_t hF rfl rfl rfl).q) (fun a hF => ?_)
      refine qs hF rfl ((y_move hF rfl).q) (fun a hF => ?_)
      iterate 14 refine qs_skip hF (wanted_n hF rfl rfl rfl rfl rfl) rfl rfl (fun a hF => ?_)
      refine qs hF rfl ((y_pick_t hF rfl rfl rfl).q) (fun a hF => ?_)
      refine quiet_end (fun w hW => ?_)
      refine c_then ?_
      have hW := hW.hideR EX48 h8
      have hW := hW.frontZ (i := 1) rfl rfl
      have hW := hW.frontM (i := 1) rfl rfl
      have hW := hW.frontM (i := 1) rfl rfl
      exact ⟨_, H, hF.re ⟨rfl, rfl, rfl, rfl, rfl, trivial⟩, hW⟩
     ·
      have H := iteF (of_decide_eq_false hb) H
      rw [hb] at hF
      clear hb
      refine qs_w hF (wanted_y hF rfl rfl rfl rfl) rfl (Nat.le_of_ble_eq_true rfl) ((y_fieldAddr u33_ rfl rfl rfl T3 hF rfl 2 rfl).q) (fun a hF => ?_)
      refine qs_w hF (wanted_y hF rfl rfl rfl rfl) rfl (Nat.le_of_ble_eq_true rfl) ((y_load (v := Value.int .i64 x5.1.2.2.1) 0 hF rfl rfl T3 rfl).q) (fun a hF => ?_)
      refine qs_w hF (wanted_y hF rfl rfl rfl rfl) rfl (Nat.le_of_ble_eq_true rfl) ((y_move hF rfl).q) (fun a hF => ?_)
      refine qs_w hF (wanted_y hF rfl rfl rfl rfl) rfl (Nat.le_of_ble_eq_true rfl) ((y_neq hF rfl rfl).q) (fun a hF => ?_)
      refine qs hF rfl ((y_pick_f hF rfl rfl rfl).q) (fun a hF => ?_)
      refine qs hF rfl ((y_move hF rfl).q) (fun a hF => ?_)
      rcases Bool.eq_false_or_eq_true (decide (x5.1.2.2.1 ≠ p4)) with hb | hb
      ·
       have H := iteT (of_decide_eq_true hb) H
       rw [hb] at hF
       clear hb
       iterate 14 refine qs_skip hF (wanted_n hF rfl rfl rfl rfl rfl) rfl rfl (fun a hF => ?_)
       refine qs hF rfl ((y_pick_t hF rfl rfl rfl).q) (fun a hF => ?_)
       refine quiet_end (fun w hW => ?_)
       refine c_then ?_
       have hW := hW.hideR EX48 h8
       have hW := hW.frontZ (i := 1) rfl rfl
       have hW := hW.frontM (i := 1) rfl rfl
       have hW := hW.frontM (i := 1) rfl rfl
       exact ⟨_, H, hF.re ⟨rfl, rfl, rfl, rfl, rfl, trivial⟩, hW⟩
      ·
       have H := iteF (of_decide_eq_false hb) H
       rw [hb] at hF
       clear hb
       refine qs_w hF (wanted_y hF rfl rfl rfl rfl) rfl (Nat.le_of_ble_eq_true rfl) ((y_fieldAddr u33_ rfl rfl rfl T31 hF rfl 1 rfl).q) (fun a hF => ?_)
       refine qs_w hF (wanted_y hF rfl rfl rfl rfl) rfl (Nat.le_of_ble_eq_true rfl) ((y_load (v := v8) 0 hF rfl rfl T31 rfl).q) (fun a hF => ?_)
       obtain ⟨x10, h10, H⟩ := bindE H
       obtain ⟨v10, h11, h12⟩ := ix_ex h8 h10
       have h13 : EE48 v10 = [.int .i64 x10.1, .int .i64 x10.2.1, (v10.2.2.1)] := congrArg (fun q : Int × Int × List Int => ([.int .i64 q.1, .int .i64 q.2.1, (v10.2.2.1)] : List Value)) h12
       refine qs_w hF (wanted_y hF rfl rfl rfl rfl) rfl (Nat.le_of_ble_eq_true rfl) ((y_index (r := RX48) L31 hF rfl rfl (rdc_row 0 rfl) h11).q) (fun a hF => ?_)
       refine qs_w hF (wanted_y hF rfl rfl rfl rfl) rfl (Nat.le_of_ble_eq_true rfl) ((y_fieldAddr u48_ rfl rfl rfl T3 hF rfl (voff v8 + (0 : Int).toNat * 3 + 1) rfl).q) (fun a hF => ?_)
       refine qs_w hF (wanted_y hF rfl rfl rfl rfl) rfl (Nat.le_of_ble_eq_true rfl) ((y_load_el (y := Value.int .i64 x10.2.1) (j := 1) (i := 0) (enc := EE48) hF rfl rfl (rdc_row 0 rfl) h11 FE48 T3 (by rw [h13]; rfl)).q) (fun a hF => ?_)
       refine qs_w hF (wanted_y hF rfl rfl rfl rfl) rfl (Nat.le_of_ble_eq_true rfl) ((y_move hF rfl).q) (fun a hF => ?_)
       refine qs_w hF (wanted_y hF rfl rfl rfl rfl) rfl (Nat.le_of_ble_eq_true rfl) ((y_sub hF rfl rfl rfl).q) (fun a hF => ?_)
       iterate 2 refine qs_w hF (wanted_y hF rfl rfl rfl rfl) rfl (Nat.le_of_ble_eq_true rfl) ((y_move hF rfl).q) (fun a hF => ?_)
       refine qs_w hF (wanted_y hF rfl rfl rfl rfl) rfl (Nat.le_of_ble_eq_true rfl) ((y_add hF rfl rfl rfl).q) (fun a hF => ?_)
       refine qs_w hF (wanted_y hF rfl rfl rfl rfl) rfl (Nat.le_of_ble_eq_true rfl) ((y_fieldAddr u33_ rfl rfl rfl T3 hF rfl 3 rfl).q) (fun a hF => ?_)
       refine qs_w hF (wanted_y hF rfl rfl rfl rfl) rfl (Nat.le_of_ble_eq_true rfl) ((y_load (v := Value.int .i64 x5.1.2.2.2.1) 0 hF rfl rfl T3 rfl).q) (fun a hF => ?_)
       refine qs_w hF (wanted_y hF rfl rfl rfl rfl) rfl (Nat.le_of_ble_eq_true rfl) ((y_add hF rfl rfl rfl).q) (fun a hF => ?_)
       refine qs_w hF (wanted_y hF rfl rfl rfl rfl) rfl (Nat.le_of_ble_eq_true rfl) ((y_leq hF rfl rfl).q) (fun a hF => ?_)
       refine qs hF rfl ((y_pick_f hF rfl rfl rfl).q) (fun a hF => ?_)
       refine quiet_end (fun w hW => ?_)
       have hW := hW.note (hW.rowAt (k := 0) rfl h11 (Path.snd (Path.snd Path.here)) (congrArg (fun q : Int × Int × List Int => q.2.2) h12))
       refine c_then ?_
       have hW := hW.frontZ (i := 1) rfl rfl
       have hW := hW.hideR EX48 h8
       have hW := hW.frontZ (i := 2) rfl rfl
       have hW := hW.frontM (i := 1) rfl rfl
       have hW := hW.frontM (i := 1) rfl rfl
       have hW := hW.sub (M' := [(b2, [v7, v8, .int .i64 x5.1.2.2.1, .int .i64 x5.1.2.2.2.1, .int .i64 x5.1.2.2.2.2.1, .int .i64 x5.1.2.2.2.2.2]), (b1, [.int .i64 p0.1, v1, v2])]) (Z' := [row v7 85 R85 x5.1.1, row v8 48 R48 x5.1.2.1]) (List.Sublist.refl _) (List.Sublist.cons_cons _ (List.Sublist.cons_cons _ (List.nil_sublist _)))
       exact ⟨_, H, hF.re ⟨rfl, rfl, rfl, rfl, rfl, trivial⟩, hW⟩
   rintro a w ⟨x8, hj, hF, hW⟩
   have hj := Option.some.inj hj
   subst hj
   have H := K3
   clear G3 K3
   refine c_cond hF rfl (fun hb => ?_) (fun hb => ?_)
   ·
    have H := iteT hb H
    rw [hb] at hF
    clear hb
    refine c_seq (reg_list ?_)
    refine ls hF hW rfl ((y_assign hF rfl).q) (fun a w hF hW => ?_)
    refine ls_nil (c_then ?_)
    refine wp_ret ?_
    refine r_then ?_
    have H := Option.some.inj H
    subst H
    refine post1 (.inl rfl) hF hW rfl (rv_tmp hF rfl) ?_
    exact ⟨rfl, hW.done⟩
   ·
    have H := iteF (by rw [hb]; decide) H
    rw [hb] at hF
    clear hb
    refine wp_skip ?_
    refine c_then ?_
    obtain ⟨o4, G4, K4, L4⟩ := orE H
    refine c_seqJ (fun a w => some (Sum.inl ()) = some o4 ∧ Fr 173 [] [(3, .int .i64 p3), (12, .bool false), (13, .pointer (some ⟨b2, 0, none⟩))] a ∧ Stw ⟨Y, [], w0⟩ [(b2, [v7, v8, .int .i64 x5.1.2.2.1, .int .i64 x5.1.2.2.2.1, .int .i64 x5.1.2.2.2.2.1, .int .i64 x5.1.2.2.2.2.2]), (b1, [.int .i64 p0.1, v1, v2])] [row v7 85 R85 x5.1.1, row v8 48 R48 x5.1.2.1] w) ?_ ?_
    ·
     have H := G4
     clear G4 K4
     refine c_seq (reg_list ?_)
     refine ls hF hW rfl ((y_assign hF rfl).q) (fun a w hF hW => ?_)
     refine ls_nil (c_then ?_)
     refine wp_block ?_
     have hW := hW.frontZ (i := 1) rfl rfl
     have hW := hW.frontZ (i := 1) rfl rfl
     have hW := hW.frontM (i := 1) rfl rfl
     have hW := hW.frontM (i := 1) rfl rfl
     refine c_loopW H (fun s a w => Fr 173 [] [(3, .int .i64 p3), (4, .int .i64 p4), (12, .bool false), (13, .pointer (some ⟨b2, 0, none⟩)), (15, .int .i64 s)] a ∧ Stw ⟨Y, [], w0⟩ [(b2, [v7, v8, .int .i64 x5.1.2.2.1, .int .i64 x5.1.2.2.2.1, .int .i64 x5.1.2.2.2.2.1, .int .i64 x5.1.2.2.2.2.2]), (b1, [.int .i64 p0.1, v1, v2])] [row v7 85 R85 x5.1.1, row v8 48 R48 x5.1.2.1] w) ⟨hF.re ⟨rfl, rfl, rfl, rfl, rfl, trivial⟩, hW⟩ (fun s o a w H L5 hR => ?_)
     obtain ⟨x11, rfl⟩ : ∃ x, x = s := ⟨s, rfl⟩
     obtain ⟨hF, hW⟩ := hR
     have hF : Fr 173 [] [(3, .int .i64 p3), (4, .int .i64 p4), (12, .bool false), (13, .pointer (some ⟨b2, 0, none⟩)), (15, .int .i64 x11)] a := hF
     have hW : Stw ⟨Y, [], w0⟩ [(b2, [v7, v8, .int .i64 x5.1.2.2.1, .int .i64 x5.1.2.2.2.1, .int .i64 x5.1.2.2.2.2.1, .int .i64 x5.1.2.2.2.2.2]), (b1, [.int .i64 p0.1, v1, v2])] [row v7 85 R85 x5.1.1, row v8 48 R48 x5.1.2.1] w := hW
     rw [L24_PlanApart_l1] at H
     refine c_seq ?_
     refine c_seq (reg_list ?_)
     refine ls hF hW rfl ((y_move hF rfl).q) (fun a w hF hW => ?_)
     refine ls hF hW rfl ((y_fieldAddr u33_ rfl rfl rfl T31 hF rfl 1 rfl).q) (fun a w hF hW => ?_)
     refine ls hF hW rfl ((y_load (v := v8) 0 hF rfl rfl T31 rfl).q) (fun a w hF hW => ?_)
     refine ls hF hW rfl ((y_len (r := R48) (l := x5.1.2.1) u31_ rfl hF rfl (rdc_row 1 rfl)).q) (fun a w hF hW => ?_)
     refine ls hF hW rfl ((y_lss hF rfl rfl).q) (fun a w hF hW => ?_)
     refine ls_nil (c_then ?_)
     refine c_cond hF rfl (fun hb => ?_) (fun hb => ?_)
     ·
      have H := iteT (of_decide_eq_true hb) H
      rw [hb] at hF
      clear hb
      refine wp_skip ?_
      refine c_then ?_
      refine c_seq ?_
      refine wp_block ?_
      refine c_seq ?_
      have hW := hW.frontZ (i := 1) rfl rfl
      obtain ⟨v11, h14, hW⟩ := hW.exR EX48
      refine reg_list ?_
      refine ls hF hW rfl ((y_fieldAddr u33_ rfl rfl rfl T31 hF rfl 1 rfl).q) (fun a w hF hW => ?_)
      refine ls hF hW rfl ((y_load (v := v8) 0 hF rfl rfl T31 rfl).q) (fun a w hF hW => ?_)
      refine ls hF hW rfl ((y_move hF rfl).q) (fun a w hF hW => ?_)
      obtain ⟨x12, h15, H⟩ := bindE H
      obtain ⟨v12, h16, h17⟩ := ix_ex h14 h15
      have h18 : EE48 v12 = [.int .i64 x12.1, .int .i64 x12.2.1, (v12.2.2.1)] := congrArg (fun q : Int × Int × List Int => ([.int .i64 q.1, .int .i64 q.2.1, (v12.2.2.1)] : List Value)) h17
      refine ls hF hW rfl ((y_index (r := RX48) L31 hF rfl rfl (rdc_row 0 rfl) h16).q) (fun a w hF hW => ?_)
      refine ls hF hW rfl ((y_load_el (y := Value.agg #[.int .i64 x12.1, .int .i64 x12.2.1, (v12.2.2.1)]) (j := 0) (i := x11) (enc := EE48) hF rfl rfl (rdc_row 0 rfl) h16 FE48 T48 (by rw [h18]; rfl)).q) (fun a w hF hW => ?_)
      have hW := hW.note (hW.rowAt (k := 0) rfl h16 (Path.snd (Path.snd Path.here)) (congrArg (fun q : Int × Int × List Int => q.2.2) h17))
      refine l_alloc (cs := [.int .i64 0, .int .i64 0, .slice none 0 0]) hF hW rfl Z48 rfl (fun b3 a w hF hW => ?_)
      refine l_store (vs := [.int .i64 x12.1, .int .i64 x12.2.1, (v12.2.2.1)]) (M' := [(b3, [.int .i64 x12.1, .int .i64 x12.2.1, (v12.2.2.1)]), (b2, [v7, v8, .int .i64 x5.1.2.2.1, .int .i64 x5.1.2.2.2.1, .int .i64 x5.1.2.2.2.2.1, .int .i64 x5.1.2.2.2.2.2]), (b1, [.int .i64 p0.1, v1, v2])]) 0 hF hW rfl rfl rfl T48 rfl rfl rfl (one_cons rfl (one_cons rfl (one_cons (hW.oneF (k := 0) rfl) one_nil))) rfl (fun w hW => ?_)
      refine ls_nil (c_then ?_)
      refine c_seq ?_
      obtain ⟨o6, G6, K6⟩ := bindE H
      refine c_seqJ (fun a w => ∃ x13 : Bool, some (x13) = some o6 ∧ Fr 173 [] [(3, .int .i64 p3), (4, .int .i64 p4), (12, .bool false), (13, .pointer (some ⟨b2, 0, none⟩)), (15, .int .i64 x11), (16, .pointer (some ⟨b3, 0, none⟩)), (124, .bool x13)] a ∧ Stw ⟨Y, [], w0⟩ [(b3, [.int .i64 x12.1, .int .i64 x12.2.1, (v12.2.2.1)]), (b2, [v7, v8, .int .i64 x5.1.2.2.1, .int .i64 x5.1.2.2.2.1, .int .i64 x5.1.2.2.2.2.1, .int .i64 x5.1.2.2.2.2.2]), (b1, [.int .i64 p0.1, v1, v2])] [frz (v12.2.2.1) (Rp.int .i64) x12.2.2, row v7 85 R85 x5.1.1, row v8 48 R48 x5.1.2.1] w) ?_ ?_
      ·
       have H := G6
       clear G6 K6
       refine reg_quiet hW MO (by kernel_rfl) ?_
       refine qs hF rfl ((y_move hF rfl).q) (fun a hF => ?_)
       refine qs hF rfl ((y_gtr hF rfl rfl).q) (fun a hF => ?_)
       refine qs hF rfl ((y_move hF rfl).q) (fun a hF => ?_)
       rcases Bool.eq_false_or_eq_true (decide (0 < x11)) with hb | hb
       ·
        have H := iteT (of_decide_eq_true hb) H
        rw [hb] at hF
        clear hb
        refine qs_w hF (wanted_y hF rfl rfl rfl rfl) rfl (Nat.le_of_ble_eq_true rfl) ((y_fieldAddr u48_ rfl rfl rfl T3 hF rfl 1 rfl).q) (fun a hF => ?_)
        refine qs_w hF (wanted_y hF rfl rfl rfl rfl) rfl (Nat.le_of_ble_eq_true rfl) ((y_load (v := Value.int .i64 x12.2.1) 0 hF rfl rfl T3 rfl).q) (fun a hF => ?_)
        refine qs_w hF (wanted_y hF rfl rfl rfl rfl) rfl (Nat.le_of_ble_eq_true rfl) ((y_move hF rfl).q) (fun a hF => ?_)
        refine qs_w hF (wanted_y hF rfl rfl rfl rfl) rfl (Nat.le_of_ble_eq_true rfl) ((y_sub hF rfl rfl rfl).q) (fun a hF => ?_)
        refine qs_w hF (wanted_y hF rfl rfl rfl rfl) rfl (Nat.le_of_ble_eq_true rfl) ((y_fieldAddr u33_ rfl rfl rfl T31 hF rfl 1 rfl).q) (fun a hF => ?_)
        refine qs_w hF (wanted_y hF rfl rfl rfl rfl) rfl (Nat.le_of_ble_eq_true rfl) ((y_load (v := v8) 1 hF rfl rfl T31 rfl).q) (fun a hF => ?_)
        refine qs_w hF (wanted_y hF rfl rfl rfl rfl) rfl (Nat.le_of_ble_eq_true rfl) ((y_move hF rfl).q) (fun a hF => ?_)
        refine qs_w hF (wanted_y hF rfl rfl rfl rfl) rfl (Nat.le_of_ble_eq_true rfl) ((y_sub hF rfl rfl rfl).q) (fun a hF => ?_)
        obtain ⟨x14, h19, H⟩ := bindE H
        obtain ⟨v13, h20, h21⟩ := ix_ex h14 h19
        have h22 : EE48 v13 = [.int .i64 x14.1, .int .i64 x14.2.1, (v13.2.2.1)] := congrArg (fun q : Int × Int × List Int => ([.int .i64 q.1, .int .i64 q.2.1, (v13.2.2.1)] : List Value)) h21
        refine qs_w hF (wanted_y hF rfl rfl rfl rfl) rfl (Nat.le_of_ble_eq_true rfl) ((y_index (r := RX48) L31 hF rfl rfl (rdc_row 1 rfl) h20).q) (fun a hF => ?_)
        refine qs_w hF (wanted_y hF rfl rfl rfl rfl) rfl (Nat.le_of_ble_eq_true rfl) ((y_fieldAddr u48_ rfl rfl rfl T3 hF rfl (voff v8 + (w64 (x11 - 1)).toNat * 3 + 1) rfl).q) (fun a hF => ?_)
        refine qs_w hF (wanted_y hF rfl rfl rfl rfl) rfl (Nat.le_of_ble_eq_true rfl) ((y_load_el (y := Value.int .i64 x14.2.1) (j := 1) (i := w64 (x11 - 1)) (enc := EE48) hF rfl rfl (rdc_row 1 rfl) h20 FE48 T3 (by rw [h22]; rfl)).q) (fun a hF => ?_)
        refine qs_w hF (wanted_y hF rfl rfl rfl rfl) rfl (Nat.le_of_ble_eq_true rfl) ((y_move hF rfl).q) (fun a hF => ?_)
        refine qs_w hF (wanted_y hF rfl rfl rfl rfl) rfl (Nat.le_of_ble_eq_true rfl) ((y_add hF rfl rfl rfl).q) (fun a hF => ?_)
        refine qs_w hF (wanted_y hF rfl rfl rfl rfl) rfl (Nat.le_of_ble_eq_true rfl) ((y_fieldAddr u33_ rfl rfl rfl T3 hF rfl 3 rfl).q) (fun a hF => ?_)
        refine qs_w hF (wanted_y hF rfl rfl rfl rfl) rfl (Nat.le_of_ble_eq_true rfl) ((y_load (v := Value.int .i64 x5.1.2.2.2.1) 1 hF rfl rfl T3 rfl).q) (fun a hF => ?_)
        refine qs_w hF (wanted_y hF rfl rfl rfl rfl) rfl (Nat.le_of_ble_eq_true rfl) ((y_add hF rfl rfl rfl).q) (fun a hF => ?_)
        refine qs_w hF (wanted_y hF rfl rfl rfl rfl) rfl (Nat.le_of_ble_eq_true rfl) ((y_leq hF rfl rfl).q) (fun a hF => ?_)
        refine qs_w hF (wanted_y hF rfl rfl rfl rfl) rfl (Nat.le_of_ble_eq_true rfl) ((y_move hF rfl).q) (fun a hF => ?_)
        rcases Bool.eq_false_or_eq_true (decide ((w64 (x12.2.1 - p4)) ≤ (w64 ((w64 (x14.2.1 + p4)) + x5.1.2.2.2.1)))) with hb | hb
        ·
         have H := iteT (of_decide_eq_true hb) H
         rw [hb] at hF
         clear hb
         iterate 10 refine qs_skip hF (wanted_n hF rfl rfl rfl rfl rfl) rfl rfl (fun a hF => ?_)
         refine qs_w hF (wanted_y hF rfl rfl rfl rfl) rfl (Nat.le_of_ble_eq_true rfl) ((y_pick_t hF rfl rfl rfl).q) (fun a hF => ?_)
         refine qs hF rfl ((y_pick_t hF rfl rfl rfl).q) (fun a hF => ?_)
         refine quiet_end (fun w hW => ?_)
         have hW := hW.note (hW.rowAt (k := 1) rfl h20 (Path.snd (Path.snd Path.here)) (congrArg (fun q : Int × Int × List Int => q.2.2) h21))
         refine c_then ?_
         have hW := hW.frontZ (i := 2) rfl rfl
         have hW := hW.hideR EX48 h14
         have hW := hW.frontZ (i := 3) rfl rfl
         have hW := hW.frontZ (i := 3) rfl rfl
         have hW := hW.frontM (i := 2) rfl rfl
         have hW := hW.frontM (i := 2) rfl rfl
         have hW := hW.frontM (i := 2) rfl rfl
         have hW := hW.sub (M' := [(b3, [.int .i64 x12.1, .int .i64 x12.2.1, (v12.2.2.1)]), (b2, [v7, v8, .int .i64 x5.1.2.2.1, .int .i64 x5.1.2.2.2.1, .int .i64 x5.1.2.2.2.2.1, .int .i64 x5.1.2.2.2.2.2]), (b1, [.int .i64 p0.1, v1, v2])]) (Z' := [frz (v12.2.2.1) (Rp.int .i64) x12.2.2, row v7 85 R85 x5.1.1, row v8 48 R48 x5.1.2.1]) (List.Sublist.refl _) (List.Sublist.cons_cons _ (List.Sublist.cons_cons _ (List.Sublist.cons_cons _ (List.nil_sublist _))))
         exact ⟨_, H, hF.re ⟨rfl, rfl, rfl, rfl, rfl, rfl, rfl, trivial⟩, hW⟩
        ·
         have H := iteF (of_decide_eq_false hb) H
         rw [hb] at hF
         clear hb
         refine qs_w hF (wanted_y hF rfl rfl rfl rfl) rfl (Nat.le_of_ble_eq_true rfl) ((y_fieldAddr u48_ rfl rfl rfl T3 hF rfl 0 rfl).q) (fun a hF => ?_)
         refine qs_w hF (wanted_y hF rfl rfl rfl rfl) rfl (Nat.le_of_ble_eq_true rfl) ((y_load (v := Value.int .i64 x12.1) 0 hF rfl rfl T3 rfl).q) (fun a hF => ?_)
         refine qs_w hF (wanted_y hF rfl rfl rfl rfl) rfl (Nat.le_of_ble_eq_true rfl) ((y_fieldAddr u33_ rfl rfl rfl T31 hF rfl 1 rfl).q) (fun a hF => ?_)
         refine qs_w hF (wanted_y hF rfl rfl rfl rfl) rfl (Nat.le_of_ble_eq_true rfl) ((y_load (v := v8) 1 hF rfl rfl T31 rfl).q) (fun a hF => ?_)
         refine qs_w hF (wanted_y hF rfl rfl rfl rfl) rfl (Nat.le_of_ble_eq_true rfl) ((y_move hF rfl).q) (fun a hF => ?_)
         refine qs_w hF (wanted_y hF rfl rfl rfl rfl) rfl (Nat.le_of_ble_eq_true rfl) ((y_sub hF rfl rfl rfl).q) (fun a hF => ?_)
         obtain ⟨x15, h23, H⟩ := bindE H
         obtain ⟨v14, h24, h25⟩ := ix_ex h14 h23
         have h26 : EE48 v14 = [.int .i64 x15.1, .int .i64 x15.2.1, (v14.2.2.1)] := congrArg (fun q : Int × Int × List Int => ([.int .i64 q.1, .int .i64 q.2.1, (v14.2.2.1)] : List Value)) h25
         refine qs_w hF (wanted_y hF rfl rfl rfl rfl) rfl (Nat.le_of_ble_eq_true rfl) ((y_index (r := RX48) L31 hF rfl rfl (rdc_row 1 rfl) h24).q) (fun a hF => ?_)
         refine qs_w hF (wanted_y hF rfl rfl rfl rfl) rfl (Nat.le_of_ble_eq_true rfl) ((y_fieldAddr u48_ rfl rfl rfl T3 hF rfl (voff v8 + (w64 (x11 - 1)).toNat * 3) rfl).q) (fun a hF => ?_)
         refine qs_w hF (wanted_y hF rfl rfl rfl rfl) rfl (Nat.le_of_ble_eq_true rfl) ((y_load_el (y := Value.int .i64 x15.1) (j := 0) (i := w64 (x11 - 1)) (enc := EE48) hF rfl rfl (rdc_row 1 rfl) h24 FE48 T3 (by rw [h26]; rfl)).q) (fun a hF => ?_)
         refine qs_w hF (wanted_y hF rfl rfl rfl rfl) rfl (Nat.le_of_ble_eq_true rfl) ((y_leq hF rfl rfl).q) (fun a hF => ?_)
         refine qs_w hF (wanted_y hF rfl rfl rfl rfl) rfl (Nat.le_of_ble_eq_true rfl) ((y_pick_f hF rfl rfl rfl).q) (fun a hF => ?_)
         refine qs hF rfl ((y_pick_t hF rfl rfl rfl).q) (fun a hF => ?_)
         refine quiet_end (fun w hW => ?_)
         have hW := hW.note (hW.rowAt (k := 1) rfl h20 (Path.snd (Path.snd Path.here)) (congrArg (fun q : Int × Int × List Int => q.2.2) h21))
         have hW := hW.note (hW.rowAt (k := 2) rfl h24 (Path.snd (Path.snd Path.here)) (congrArg (fun q : Int × Int × List Int => q.2.2) h25))
         refine c_then ?_
         have hW := hW.frontZ (i := 3) rfl rfl
         have hW := hW.hideR EX48 h14
         have hW := hW.frontZ (i := 4) rfl rfl
         have hW := hW.frontZ (i := 4) rfl rfl
         have hW := hW.frontM (i := 2) rfl rfl
         have hW := hW.frontM (i := 2) rfl rfl
         have hW := hW.frontM (i := 2) rfl rfl
         have hW := hW.sub (M' := [(b3, [.int .i64 x12.1, .int .i64 x12.2.1, (v12.2.2.1)]), (b2, [v7, v8, .int .i64 x5.1.2.2.1, .int .i64 x5.1.2.2.2.1, .int .i64 x5.1.2.2.2.2.1, .int .i64 x5.1.2.2.2.2.2]), (b1, [.int .i64 p0.1, v1, v2])]) (Z' := [frz (v12.2.2.1) (Rp.int .i64) x12.2.2, row v7 85 R85 x5.1.1, row v8 48 R48 x5.1.2.1]) (List.Sublist.refl _) (List.Sublist.cons_cons _ (List.Sublist.cons_cons _ (List.Sublist.cons_cons _ (List.nil_sublist _))))
         exact ⟨_, H, hF.re ⟨rfl, rfl, rfl, rfl, rfl, rfl, rfl, trivial⟩, hW⟩
       ·
        have H := iteF (of_decide_eq_false hb) H
        rw [hb] at hF
        clear hb
        iterate 18 refine qs_skip hF (wanted_n hF rfl rfl rfl rfl rfl) rfl rfl (fun a hF => ?_)
        iterate 10 refine qs_skip hF (wanted_undef hF rfl rfl rfl rfl) rfl rfl (fun a hF => ?_)
        refine qs_skip hF (wanted_n hF rfl rfl rfl rfl rfl) rfl rfl (fun a hF => ?_)
        refine qs hF rfl ((y_pick_f hF rfl rfl rfl).q) (fun a hF => ?_)
        refine quiet_end (fun w hW => ?_)
        refine c_then ?_
        have hW := hW.frontZ (i := 1) rfl rfl
        have hW := hW.hideR EX48 h14
        have hW := hW.frontZ (i := 2) rfl rfl
        have hW := hW.frontZ (i := 2) rfl rfl
        have hW := hW.frontM (i := 2) rfl rfl
        have hW := hW.frontM (i := 2) rfl rfl
        have hW := hW.frontM (i := 2) rfl rfl
        exact ⟨_, H, hF.re ⟨rfl, rfl, rfl, rfl, rfl, rfl, rfl, trivial⟩, hW⟩
      rintro a w ⟨x13, hj, hF, hW⟩
      have hj := Option.some.inj hj
      subst hj
      have H := K6
      clear G6 K6
      refine c_cond hF rfl (fun hb => ?_) (fun hb => ?_)
      ·
       have H := iteT hb H
       rw [hb] at hF
       clear hb
       refine c_seq (reg_list ?_)
       refine ls hF hW rfl ((y_assign hF rfl).q) (fun a w hF hW => ?_)
       refine ls_nil (c_then ?_)
       refine wp_ret ?_
       refine r_then ?_
       refine r_block ?_
       iterate 2 refine r_then ?_
       refine r_block ?_
       refine r_then ?_
       have H := L5 _ H
       have H := L4 _ H
       have H := Option.some.inj H
       subst H
       refine post1 (.inl rfl) hF hW rfl (rv_tmp hF rfl) ?_
       exact ⟨rfl, hW.done⟩
      ·
       have H := iteF (by rw [hb]; decide) H
       rw [hb] at hF
       clear hb
       refine wp_skip ?_
       refine c_then ?_
       refine c_seqJ (fun a w => Fr 173 [] [(3, .int .i64 p3), (4, .int .i64 p4), (12, .bool false), (13, .pointer (some ⟨b2, 0, none⟩)), (15, .int .i64 x11), (149, .bool (!(plan_Guarded x5.1 (w64 ((w64 (x12.2.1 - p4)) - x5.1.2.2.2.1))) || (!(plan_Guarded x5.1 (w64 (x12.2.1 + p4))) || decide ((x12.2.2.length : Int) = 0))))] a ∧ Stw ⟨Y, [], w0⟩ [(b3, [.int .i64 x12.1, .int .i64 x12.2.1, (v12.2.2.1)]), (b2, [v7, v8, .int .i64 x5.1.2.2.1, .int .i64 x5.1.2.2.2.1, .int .i64 x5.1.2.2.2.2.1, .int .i64 x5.1.2.2.2.2.2]), (b1, [.int .i64 p0.1, v1, v2])] [frz (v12.2.2.1) (Rp.int .i64) x12.2.2, row v7 85 R85 x5.1.1, row v8 48 R48 x5.1.2.1] w) ?_ ?_
       ·
        refine reg_list ?_
        refine ls hF hW rfl ((y_load (v := Value.agg #[v7, v8, .int .i64 x5.1.2.2.1, .int .i64 x5.1.2.2.2.1, .int .i64 x5.1.2.2.2.2.1, .int .i64 x5.1.2.2.2.2.2]) 1 hF rfl rfl T33 rfl).q) (fun a w hF hW => ?_)
        refine ls hF hW rfl ((y_fieldAddr u48_ rfl rfl rfl T3 hF rfl 1 rfl).q) (fun a w hF hW => ?_)
        refine ls hF hW rfl ((y_load (v := Value.int .i64 x12.2.1) 0 hF rfl rfl T3 rfl).q) (fun a w hF hW => ?_)
        refine ls hF hW rfl ((y_move hF rfl).q) (fun a w hF hW => ?_)
        refine ls hF hW rfl ((y_sub hF rfl rfl rfl).q) (fun a w hF hW => ?_)
        refine ls hF hW rfl ((y_fieldAddr u33_ rfl rfl rfl T3 hF rfl 3 rfl).q) (fun a w hF hW => ?_)
        refine ls hF hW rfl ((y_load (v := Value.int .i64 x5.1.2.2.2.1) 1 hF rfl rfl T3 rfl).q) (fun a w hF hW => ?_)
        refine ls hF hW rfl ((y_sub hF rfl rfl rfl).q) (fun a w hF hW => ?_)
        refine ls hF hW rfl (y_call (v := Value.bool (plan_Guarded x5.1 (w64 ((w64 (x12.2.1 - p4)) - x5.1.2.2.2.1)))) hF H13 rfl (fun w hW => plan_Guarded_c any w (v7) (v8) x5.1 (w64 ((w64 (x12.2.1 - p4)) - x5.1.2.2.2.1)) _ rfl (((rdc_row 1 rfl) : Rdc _ _ _ _ _ _) w hW).nx (((rdc_row 2 rfl) : Rdc _ _ _ _ _ _) w hW).nx)) (fun a w hF hW => ?_)
        refine ls hF hW rfl ((y_not hF rfl).q) (fun a w hF hW => ?_)
        refine ls hF hW rfl ((y_move hF rfl).q) (fun a w hF hW => ?_)
        rcases Bool.eq_false_or_eq_true (!(plan_Guarded x5.1 (w64 ((w64 (x12.2.1 - p4)) - x5.1.2.2.2.1)))) with hb0 | hb0
        ·
         rw [hb0] at hF
         iterate 7 refine lsn hF rfl rfl rfl rfl rfl rfl rfl (fun a hF => ?_)
         refine ls hF hW rfl ((y_pick_t hF rfl rfl rfl).q) (fun a w hF hW => ?_)
         refine ls hF hW rfl ((y_move hF rfl).q) (fun a w hF hW => ?_)
         iterate 4 refine lsn hF rfl rfl rfl rfl rfl rfl rfl (fun a hF => ?_)
         refine ls hF hW rfl ((y_pick_t hF rfl rfl rfl).q) (fun a w hF hW => ?_)
         refine ls_nil (c_then ?_)
         exact ⟨hF.re ⟨rfl, rfl, rfl, rfl, rfl, (by show some (Value.bool true) = some (Value.bool (!(plan_Guarded x5.1 (w64 ((w64 (x12.2.1 - p4)) - x5.1.2.2.2.1))) || (!(plan_Guarded x5.1 (w64 (x12.2.1 + p4))) || decide ((x12.2.2.length : Int) = 0)))); try rw [hb0]; all_goals simp only [Bool.not_true, Bool.not_false, Bool.true_and, Bool.false_and, Bool.true_or, Bool.false_or, Bool.and_true, Bool.or_false, cond_true, cond_false]), trivial⟩, hW⟩
        ·
         rw [hb0] at hF
         refine ls_w hF hW (wanted_y hF rfl rfl rfl rfl) rfl (Nat.le_of_ble_eq_true rfl) ((y_load (v := Value.agg #[v7, v8, .int .i64 x5.1.2.2.1, .int .i64 x5.1.2.2.2.1, .int .i64 x5.1.2.2.2.2.1, .int .i64 x5.1.2.2.2.2.2]) 1 hF rfl rfl T33 rfl).q) (fun a w hF hW => ?_)
         refine ls_w hF hW (wanted_y hF rfl rfl rfl rfl) rfl (Nat.le_of_ble_eq_true rfl) ((y_fieldAddr u48_ rfl rfl rfl T3 hF rfl 1 rfl).q) (fun a w hF hW => ?_)
         refine ls_w hF hW (wanted_y hF rfl rfl rfl rfl) rfl (Nat.le_of_ble_eq_true rfl) ((y_load (v := Value.int .i64 x12.2.1) 0 hF rfl rfl T3 rfl).q) (fun a w hF hW => ?_)
         refine ls_w hF hW (wanted_y hF rfl rfl rfl rfl) rfl (Nat.le_of_ble_eq_true rfl) ((y_move hF rfl).q) (fun a w hF hW => ?_)
         refine ls_w hF hW (wanted_y hF rfl rfl rfl rfl) rfl (Nat.le_of_ble_eq_true rfl) ((y_add hF rfl rfl rfl).q) (fun a w hF hW => ?_)
         refine ls_g (wanted_y hF rfl rfl rfl rfl) ?_
         refine ls hF hW rfl (y_call (v := Value.bool (plan_Guarded x5.1 (w64 (x12.2.1 + p4)))) hF H13 rfl (fun w hW => plan_Guarded_c any w (v7) (v8) x5.1 (w64 (x12.2.1 + p4)) _ rfl (((rdc_row 1 rfl) : Rdc _ _ _ _ _ _) w hW).nx (((rdc_row 2 rfl) : Rdc _ _ _ _ _ _) w hW).nx)) (fun a w hF hW => ?_)
         refine ls_w hF hW (wanted_y hF rfl rfl rfl rfl) rfl (Nat.le_of_ble_eq_true rfl) ((y_not hF rfl).q) (fun a w hF hW => ?_)
         refine ls hF hW rfl ((y_pick_f hF rfl rfl rfl).q) (fun a w hF hW => ?_)
         refine ls hF hW rfl ((y_move hF rfl).q) (fun a w hF hW => ?_)
         rcases Bool.eq_false_or_eq_true (!(plan_Guarded x5.1 (w64 (x12.2.1 + p4)))) with hb1 | hb1
         ·
          rw [hb1] at hF
          iterate 4 refine lsn hF rfl rfl rfl rfl rfl rfl rfl (fun a hF => ?_)
          refine ls hF hW rfl ((y_pick_t hF rfl rfl rfl).q) (fun a w hF hW => ?_)
          refine ls_nil (c_then ?_)
          exact ⟨hF.re ⟨rfl, rfl, rfl, rfl, rfl, (by show some (Value.bool true) = some (Value.bool (!(plan_Guarded x5.1 (w64 ((w64 (x12.2.1 - p4)) - x5.1.2.2.2.1))) || (!(plan_Guarded x5.1 (w64 (x12.2.1 + p4))) || decide ((x12.2.2.length : Int) = 0)))); try rw [hb0]; try rw [hb1]; all_goals simp only [Bool.not_true, Bool.not_false, Bool.true_and, Bool.false_and, Bool.true_or, Bool.false_or, Bool.and_true, Bool.or_false, cond_true, cond_false]), trivial⟩, hW⟩
         ·
          rw [hb1] at hF
          refine ls_w hF hW (wanted_y hF rfl rfl rfl rfl) rfl (Nat.le_of_ble_eq_true rfl) ((y_fieldAddr u48_ rfl rfl rfl T46 hF rfl 2 rfl).q) (fun a w hF hW => ?_)
          refine ls_w hF hW (wanted_y hF rfl rfl rfl rfl) rfl (Nat.le_of_ble_eq_true rfl) ((y_load (v := (v12.2.2.1)) 0 hF rfl rfl T46 rfl).q) (fun a w hF hW => ?_)
          refine ls_w hF hW (wanted_y hF rfl rfl rfl rfl) rfl (Nat.le_of_ble_eq_true rfl) ((y_len (r := (Rp.int .i64)) (l := x12.2.2) u46_ rfl hF rfl (rdc_frz 0 rfl)).q) (fun a w hF hW => ?_)
          refine ls_w hF hW (wanted_y hF rfl rfl rfl rfl) rfl (Nat.le_of_ble_eq_true rfl) ((y_eql hF rfl rfl).q) (fun a w hF hW => ?_)
          refine ls hF hW rfl ((y_pick_f hF rfl rfl rfl).q) (fun a w hF hW => ?_)
          refine ls_nil (c_then ?_)
          exact ⟨hF.re ⟨rfl, rfl, rfl, rfl, rfl, (by show some (Value.bool (decide ((x12.2.2.length : Int) = 0))) = some (Value.bool (!(plan_Guarded x5.1 (w64 ((w64 (x12.2.1 - p4)) - x5.1.2.2.2.1))) || (!(plan_Guarded x5.1 (w64 (x12.2.1 + p4))) || decide ((x12.2.2.length : Int) = 0)))); try rw [hb0]; try rw [hb1]; all_goals simp only [Bool.not_true, Bool.not_false, Bool.true_and, Bool.false_and, Bool.true_or, Bool.false_or, Bool.and_true, Bool.or_false, cond_true, cond_false]), trivial⟩, hW⟩
       rintro a w ⟨hF, hW⟩
       refine c_cond hF rfl (fun hb => ?_) (fun hb => ?_)
       ·
        have H := iteT hb H
        rw [hb] at hF
        clear hb
        refine c_seq (reg_list ?_)
        refine ls hF hW rfl ((y_assign hF rfl).q) (fun a w hF hW => ?_)
        refine ls_nil (c_then ?_)
        refine wp_ret ?_
        refine r_block ?_
        iterate 2 refine r_then ?_
        refine r_block ?_
        refine r_then ?_
        have H := L5 _ H
        have H := L4 _ H
        have H := Option.some.inj H
        subst H
        refine post1 (.inl rfl) hF hW rfl (rv_tmp hF rfl) ?_
        exact ⟨rfl, hW.done⟩
       ·
        have H := iteF (by rw [hb]; decide) H
        rw [hb] at hF
        clear hb
        refine wp_skip ?_
        refine b_normal ?_
        refine c_then ?_
        refine reg_list ?_
        refine ls hF hW rfl ((y_move hF rfl).q) (fun a w hF hW => ?_)
        refine ls hF hW rfl ((y_add hF rfl rfl rfl).q) (fun a w hF hW => ?_)
        refine ls hF hW rfl ((y_assign hF rfl).q) (fun a w hF hW => ?_)
        refine ls_nil (c_then ?_)
        have hW := hW.frontZ (i := 2) rfl rfl
        have hW := hW.frontZ (i := 2) rfl rfl
        have hW := hW.frontM (i := 2) rfl rfl
        have hW := hW.frontM (i := 2) rfl rfl
        have hW := hW.sub (M' := [(b2, [v7, v8, .int .i64 x5.1.2.2.1, .int .i64 x5.1.2.2.2.1, .int .i64 x5.1.2.2.2.2.1, .int .i64 x5.1.2.2.2.2.2]), (b1, [.int .i64 p0.1, v1, v2])]) (Z' := [row v7 85 R85 x5.1.1, row v8 48 R48 x5.1.2.1]) (List.Sublist.cons_cons _ (List.Sublist.cons_cons _ (List.nil_sublist _))) (List.Sublist.cons_cons _ (List.Sublist.cons_cons _ (List.nil_sublist _)))
        exact ⟨_, H, hF.re ⟨rfl, rfl, rfl, rfl, rfl, trivial⟩, hW⟩
     ·
      have H := iteF (of_decide_eq_false hb) H
      rw [hb] at hF
      clear hb
      refine wp_exit ?_
      iterate 2 refine e_then ?_
      refine e_block ?_
      refine c_then ?_
      have hW := hW.frontZ (i := 1) rfl rfl
      have hW := hW.frontZ (i := 1) rfl rfl
      have hW := hW.frontM (i := 1) rfl rfl
      have hW := hW.frontM (i := 1) rfl rfl
      have H := L5 _ H
      exact ⟨H, hF.re ⟨rfl, rfl, rfl, trivial⟩, hW⟩
    rintro a w ⟨hj, hF, hW⟩
    have H := K4 _ hj
    clear hj G4 K4 L4
    obtain ⟨o7, G7, K7⟩ := bindE H
    refine c_seqJ (fun a w => ∃ x16 : Bool, some (x16) = some o7 ∧ Fr 173 [] [(12, .bool x16)] a ∧ Stw ⟨Y, [], w0⟩ [(b2, [v7, v8, .int .i64 x5.1.2.2.1, .int .i64 x5.1.2.2.2.1, .int .i64 x5.1.2.2.2.2.1, .int .i64 x5.1.2.2.2.2.2]), (b1, [.int .i64 p0.1, v1, v2])] [row v7 85 R85 x5.1.1, row v8 48 R48 x5.1.2.1] w) ?_ ?_
    ·
     have H := G7
     clear G7 K7
     refine reg_list ?_
     refine ls hF hW rfl ((y_load (v := Value.agg #[v7, v8, .int .i64 x5.1.2.2.1, .int .i64 x5.1.2.2.2.1, .int .i64 x5.1.2.2.2.2.1, .int .i64 x5.1.2.2.2.2.2]) 0 hF rfl rfl T33 rfl).q) (fun a w hF hW => ?_)
     refine ls hF hW rfl ((y_fieldAddr u33_ rfl rfl rfl T3 hF rfl 4 rfl).q) (fun a w hF hW => ?_)
     refine ls hF hW rfl ((y_load (v := Value.int .i64 x5.1.2.2.2.2.1) 0 hF rfl rfl T3 rfl).q) (fun a w hF hW => ?_)
     refine ls hF hW rfl ((y_sub hF rfl rfl rfl).q) (fun a w hF hW => ?_)
     refine ls hF hW rfl (y_call (v := Value.bool (plan_Guarded x5.1 (w64 (x5.1.2.2.2.2.1 - 1)))) hF H13 rfl (fun w hW => plan_Guarded_c any w (v7) (v8) x5.1 (w64 (x5.1.2.2.2.2.1 - 1)) _ rfl (((rdc_row 0 rfl) : Rdc _ _ _ _ _ _) w hW).nx (((rdc_row 1 rfl) : Rdc _ _ _ _ _ _) w hW).nx)) (fun a w hF hW => ?_)
     refine ls hF hW rfl ((y_not hF rfl).q) (fun a w hF hW => ?_)
     refine ls hF hW rfl ((y_move hF rfl).q) (fun a w hF hW => ?_)
     rcases Bool.eq_false_or_eq_true (!(plan_Guarded x5.1 (w64 (x5.1.2.2.2.2.1 - 1)))) with hb | hb
     ·
      have H := iteT hb H
      rw [hb] at hF
      clear hb
      refine ls_w hF hW (wanted_y hF rfl rfl rfl rfl) rfl (Nat.le_of_ble_eq_true rfl) ((y_load (v := Value.agg #[v7, v8, .int .i64 x5.1.2.2.1, .int .i64 x5.1.2.2.2.1, .int .i64 x5.1.2.2.2.2.1, .int .i64 x5.1.2.2.2.2.2]) 0 hF rfl rfl T33 rfl).q) (fun a w hF hW => ?_)
      refine ls_w hF hW (wanted_y hF rfl rfl rfl rfl) rfl (Nat.le_of_ble_eq_true rfl) ((y_fieldAddr u33_ rfl rfl rfl T3 hF rfl 5 rfl).q) (fun a w hF hW => ?_)
      refine ls_w hF hW (wanted_y hF rfl rfl rfl rfl) rfl (Nat.le_of_ble_eq_true rfl) ((y_load (v := Value.int .i64 x5.1.2.2.2.2.2) 0 hF rfl rfl T3 rfl).q) (fun a w hF hW => ?_)
      refine ls_w hF hW (wanted_y hF rfl rfl rfl rfl) rfl (Nat.le_of_ble_eq_true rfl) ((y_add hF rfl rfl rfl).q) (fun a w hF hW => ?_)
      refine ls_g (wanted_y hF rfl rfl rfl rfl) ?_
      refine ls hF hW rfl (y_call (v := Value.bool (plan_Guarded x5.1 (w64 (x5.1.2.2.2.2.2 + 1)))) hF H13 rfl (fun w hW => plan_Guarded_c any w (v7) (v8) x5.1 (w64 (x5.1.2.2.2.2.2 + 1)) _ rfl (((rdc_row 0 rfl) : Rdc _ _ _ _ _ _) w hW).nx (((rdc_row 1 rfl) : Rdc _ _ _ _ _ _) w hW).nx)) (fun a w hF hW => ?_)
      refine ls_w hF hW (wanted_y hF rfl rfl rfl rfl) rfl (Nat.le_of_ble_eq_true rfl) ((y_not hF rfl).q) (fun a w hF hW => ?_)
      refine ls hF hW rfl ((y_pick_t hF rfl rfl rfl).q) (fun a w hF hW => ?_)
      refine ls hF hW rfl ((y_move hF rfl).q) (fun a w hF hW => ?_)
      rcases Bool.eq_false_or_eq_true (!(plan_Guarded x5.1 (w64 (x5.1.2.2.2.2.2 + 1)))) with hb | hb
      ·
       have H := iteT hb H
       rw [hb] at hF
       clear hb
       refine ls_w hF hW (wanted_y hF rfl rfl rfl rfl) rfl (Nat.le_of_ble_eq_true rfl) ((y_fieldAddr u33_ rfl rfl rfl T3 hF rfl 4 rfl).q) (fun a w hF hW => ?_)
       refine ls_w hF hW (wanted_y hF rfl rfl rfl rfl) rfl (Nat.le_of_ble_eq_true rfl) ((y_load (v := Value.int .i64 x5.1.2.2.2.2.1) 0 hF rfl rfl T3 rfl).q) (fun a w hF hW => ?_)
       refine ls_w hF hW (wanted_y hF rfl rfl rfl rfl) rfl (Nat.le_of_ble_eq_true rfl) ((y_move hF rfl).q) (fun a w hF hW => ?_)
       refine ls_w hF hW (wanted_y hF rfl rfl rfl rfl) rfl (Nat.le_of_ble_eq_true rfl) ((y_gtr hF rfl rfl).q) (fun a w hF hW => ?_)
       refine ls hF hW rfl ((y_pick_t hF rfl rfl rfl).q) (fun a w hF hW => ?_)
       refine ls hF hW rfl ((y_move hF rfl).q) (fun a w hF hW => ?_)
       rcases Bool.eq_false_or_eq_true (decide (p3 < x5.1.2.2.2.2.1)) with hb | hb
       ·
        have H := iteT (of_decide_eq_true hb) H
        rw [hb] at hF
        clear hb
        refine ls_g (wanted_y hF rfl rfl rfl rfl) ?_
        obtain ⟨x17, h27, H⟩ := bindE H
        refine ls hF hW rfl (y_call (v := Value.bool x17) hF H8 rfl (fun w hW => L24_awake_c any w _ h27)) (fun a w hF hW => ?_)
        refine ls hF hW rfl ((y_pick_t hF rfl rfl rfl).q) (fun a w hF hW => ?_)
        refine ls hF hW rfl ((y_assign hF rfl).q) (fun a w hF hW => ?_)
        refine ls_nil (c_then ?_)
        have hW := hW.frontZ (i := 1) rfl rfl
        have hW := hW.frontZ (i := 1) rfl rfl
        have hW := hW.frontM (i := 1) rfl rfl
        have hW := hW.frontM (i := 1) rfl rfl
        exact ⟨_, H, hF.re ⟨rfl, trivial⟩, hW⟩
       ·
        have H := iteF (of_decide_eq_false hb) H
        rw [hb] at hF
        clear hb
        refine lsn hF rfl rfl rfl rfl rfl rfl rfl (fun a hF => ?_)
        refine ls hF hW rfl ((y_pick_f hF rfl rfl rfl).q) (fun a w hF hW => ?_)
        refine ls hF hW rfl ((y_assign hF rfl).q) (fun a w hF hW => ?_)
        refine ls_nil (c_then ?_)
        have hW := hW.frontZ (i := 1) rfl rfl
        have hW := hW.frontZ (i := 1) rfl rfl
        have hW := hW.frontM (i := 1) rfl rfl
        have hW := hW.frontM (i := 1) rfl rfl
        exact ⟨_, H, hF.re ⟨rfl, trivial⟩, hW⟩
      ·
       have H := iteF (by rw [hb]; decide) H
       rw [hb] at hF
       clear hb
       iterate 4 refine lsn hF rfl rfl rfl rfl rfl rfl rfl (fun a hF => ?_)
       refine ls hF hW rfl ((y_pick_f hF rfl rfl rfl).q) (fun a w hF hW => ?_)
       refine ls hF hW rfl ((y_move hF rfl).q) (fun a w hF hW => ?_)
       refine lsn hF rfl rfl rfl rfl rfl rfl rfl (fun a hF => ?_)
       refine ls hF hW rfl ((y_pick_f hF rfl rfl rfl).q) (fun a w hF hW => ?_)
       refine ls hF hW rfl ((y_assign hF rfl).q) (fun a w hF hW => ?_)
       refine ls_nil (c_then ?_)
       have hW := hW.frontZ (i := 1) rfl rfl
       have hW := hW.frontZ (i := 1) rfl rfl
       have hW := hW.frontM (i := 1) rfl rfl
       have hW := hW.frontM (i := 1) rfl rfl
       exact ⟨_, H, hF.re ⟨rfl, trivial⟩, hW⟩
     ·
      have H := iteF (by rw [hb]; decide) H
      rw [hb] at hF
      clear hb
      iterate 6 refine lsn hF rfl rfl rfl rfl rfl rfl rfl (fun a hF => ?_)
      refine ls hF hW rfl ((y_pick_f hF rfl rfl rfl).q) (fun a w hF hW => ?_)
      refine ls hF hW rfl ((y_move hF rfl).q) (fun a w hF hW => ?_)
      iterate 4 refine lsn hF rfl rfl rfl rfl rfl rfl rfl (fun a hF => ?_)
      refine ls hF hW rfl ((y_pick_f hF rfl rfl rfl).q) (fun a w hF hW => ?_)
      refine ls hF hW rfl ((y_move hF rfl).q) (fun a w hF hW => ?_)
      refine lsn hF rfl rfl rfl rfl rfl rfl rfl (fun a hF => ?_)
      refine ls hF hW rfl ((y_pick_f hF rfl rfl rfl).q) (fun a w hF hW => ?_)
      refine ls hF hW rfl ((y_assign hF rfl).q) (fun a w hF hW => ?_)
      refine ls_nil (c_then ?_)
      have hW := hW.frontZ (i := 1) rfl rfl
      have hW := hW.frontZ (i := 1) rfl rfl
      have hW := hW.frontM (i := 1) rfl rfl
      have hW := hW.frontM (i := 1) rfl rfl
      exact ⟨_, H, hF.re ⟨rfl, trivial⟩, hW⟩
    rintro a w ⟨x16, hj, hF, hW⟩
    have hj := Option.some.inj hj
    subst hj
    have H := K7
    clear G7 K7
    refine wp_ret ?_
    have H := Option.some.inj H
    subst H
    refine post1 (.inl rfl) hF hW rfl (rv_tmp hF rfl) ?_
    exact ⟨rfl, hW.done⟩

end Go.Proofs.Ytjcaadbafjgefaa
