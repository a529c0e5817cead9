/- The functions that RouteTables reaches, lifted. Conditions: none. -/
import Derived.Test.YtleakbjojbiomaaT3
namespace Go.Proofs.Ytleakbjojbiomaa
open Go Go.RowKit
set_option linter.unusedVariables false
set_option linter.unusedSimpArgs false
set_option maxRecDepth 20000
theorem H19 : Has Try.prog 19 := ⟨fun args w => run_callFunc_body Try.func19 rfl (by decide) args w⟩
theorem T54 : Ty Try.prog 54 true 5 := ⟨by kernel_rfl, by kernel_rfl⟩
theorem QA46 (d : Nat) (x0 x1 x2 x3 y0 y1 y2 y3 : Int) (w : World) : (Op.equalIn (d + 2) 46 (.agg #[.int .i64 x0, .int .i64 x1, .int .i64 x2, .int .i64 x3]) (.agg #[.int .i64 y0, .int .i64 y1, .int .i64 y2, .int .i64 y3])).run Try.prog w = .ok (decide (x0 = y0 ∧ x1 = y1 ∧ x2 = y2 ∧ x3 = y3)) w :=
  (eq_arr (d := d) (k := .i64) Ar46 u3_ T3 [x0, x1, x2, x3] [y0, y1, y2, y3] rfl rfl w).trans (by congr 1; exact decide_eq_decide.2 (by simp))
theorem QD54 (dd : Nat) (x0 : Int) (x1 : Int) (x2 : Int) (x3 : Int) (x4 : Int) (y0 : Int) (y1 : Int) (y2 : Int) (y3 : Int) (y4 : Int) (w : World) : (Op.equalIn (dd + 3) 54 (.agg #[.int .i64 x0, .int .i64 x1, .int .i64 x2, .int .i64 x3, .int .i64 x4]) (.agg #[.int .i64 y0, .int .i64 y1, .int .i64 y2, .int .i64 y3, .int .i64 y4])).run Try.prog w = .ok (decide (x0 = y0 ∧ x1 = y1 ∧ x2 = y2 ∧ x3 = y3 ∧ x4 = y4)) w :=
  eq_struct (d := dd + 2) (rs := [decide (x0 = y0), decide (x1 = y1 ∧ x2 = y2 ∧ x3 = y3 ∧ x4 = y4)]) u54_ (by kernel_rfl) ⟨rfl, fld_int (d := dd + 1) rfl rfl u3_ T3 rfl rfl, rfl, fld_agg (d := dd + 2) (sz := 4) (xs' := [.int .i64 x1, .int .i64 x2, .int .i64 x3, .int .i64 x4]) (ys' := [.int .i64 y1, .int .i64 y2, .int .i64 y3, .int .i64 y4]) rfl rfl T46 rfl rfl (fun w => QA46 (dd + 0) x1 x2 x3 x4 y1 y2 y3 y4 w), trivial⟩ (by rw [Bool.eq_iff_iff]; simp [and_assoc]) w
theorem G54 : Try.prog.eqGuardType Try.prog.depth 54 = false := by kernel_rfl
theorem Q54 (x0 : Int) (x1 : Int) (x2 : Int) (x3 : Int) (x4 : Int) (y0 : Int) (y1 : Int) (y2 : Int) (y3 : Int) (y4 : Int) (w : World) : (Op.equalIn 10000 54 (.agg #[.int .i64 x0, .int .i64 x1, .int .i64 x2, .int .i64 x3, .int .i64 x4]) (.agg #[.int .i64 y0, .int .i64 y1, .int .i64 y2, .int .i64 y3, .int .i64 y4])).run Try.prog w = .ok (decide (x0 = y0 ∧ x1 = y1 ∧ x2 = y2 ∧ x3 = y3 ∧ x4 = y4)) w := QD54 9997 x0 x1 x2 x3 x4 y0 y1 y2 y3 y4 w
noncomputable def L21_RouteTables (p0 : Int × (List (Int × Int × Int × Int × Int × Int)) × (List (Int × Int))) (p1 : List (List Int)) (p2 : Int) (p3 : Int) (p4 : Int × Int × Int × Int) : Option Bool := ((L21_small p0 p1).bind fun x2 => (if (!x2) = true then some true else (r21_Right p0 p1).bind fun x3 => (if (!x3) = true then some true else (if p2 < 0 then some true else (if (p1.length : Int) ≤ p2 then some true else (r07_Right p4).bind fun x4 => some (!x4)))))).bind fun x1 => (if x1 = true then (L21_awake).bind fun x5 => some x5 else (route_Table p1 p2).bind fun x6 => (table_Run x6 p3 p4).bind fun x7 => (if (p0.2.2.length : Int) ≤ p4.2.1 then (if (x7.length : Int) = 0 then (L21_awake).bind fun x9 => some x9 else some false).bind fun x8 => some x8 else ((table_Right x6 8 8).bind fun x11 => (if x11 = true then (if (x7.length : Int) = 1 then (ix x7 0).bind fun x12 => (ix p1 p2).bind fun x13 => (ix x13 p4.2.1).bind fun x14 => (if x12.1 = x14 ∧ x12.2.1 = p4.1 ∧ x12.2.2.1 = p4.2.1 ∧ x12.2.2.2.1 = p4.2.2.1 ∧ x12.2.2.2.2 = p4.2.2.2 then (L21_awake).bind fun x15 => some x15 else some false) else some false) else some false)).bind fun x10 => some x10))
theorem L21_RouteTables_c (Y : Nat → Prop) (w0 : World) (v1 : Value) (v2 : Value) (v3 : Value) (p0 : Int × (List (Int × Int × Int × Int × Int × Int)) × (List (Int × Int))) (p1 : List (List Int)) (p2 : Int) (p3 : Int) (p4 : Int × Int × Int × Int) (r : Bool) (H : L21_RouteTables p0 p1 p2 p3 p4 = some r) (h_v1 : Sl w0 (NX []) R57 v1 p0.2.1) (h_v2 : Sl w0 (NX []) R36 v2 p0.2.2) (h_v3 : Sl w0 (NX []) (Rp.slice (Rp.int .i64)) v3 p1) :
    Calls Try.prog 5 #[.agg #[.int .i64 p0.1, v1, v2], v3, .int .i64 p2, .int .i64 p3, .agg #[.int .i64 p4.1, .int .i64 p4.2.1, .int .i64 p4.2.2.1, .int .i64 p4.2.2.2]] w0 fun e w' => e = .returned (.bool r) ∧ Below w0.heap.size w0 w' := by
 refine enter Try.func5 rfl Try.ntmps5 rfl (fun a hF => ?_)
 have hW := Stw.start Y w0
 obtain ⟨v4, h1, h_v3⟩ := h_v3.ex EX30
 unfold L21_RouteTables at H
 refine c_seq (reg_list ?_)
 refine l_box (cs := [.int .i64 p0.1, v1, v2]) hF hW rfl rfl rfl (fun b1 a w hF hW => ?_)
 refine l_box (cs := [.int .i64 p4.1, .int .i64 p4.2.1, .int .i64 p4.2.2.1, .int .i64 p4.2.2.2]) hF hW rfl rfl rfl (fun b2 a w hF hW => ?_)
 refine ls hF hW rfl ((y_assign hF rfl).q) (fun a w hF hW => ?_)
 refine ls_nil (c_then ?_)
 refine c_seq ?_
 obtain ⟨o1, G1, K1⟩ := bindE H
 refine c_seqJ (fun a w => ∃ x1 : Bool, some (x1) = some o1 ∧ Fr 84 [] [(1, v3), (2, .int .i64 p2), (3, .int .i64 p3), (5, .pointer (some ⟨b1, 0, none⟩)), (9, .pointer (some ⟨b2, 0, none⟩)), (10, .bool false), (37, .bool x1)] a ∧ Stw ⟨Y, [], w0⟩ [(b2, [.int .i64 p4.1, .int .i64 p4.2.1, .int .i64 p4.2.2.1, .int .i64 p4.2.2.2]), (b1, [.int .i64 p0.1, v1, v2])] [] w) ?_ ?_
 ·
  have H := G1
  clear G1 K1
  refine reg_list ?_
  refine ls hF hW rfl ((y_load (v := Value.agg #[.int .i64 p0.1, v1, v2]) 1 hF rfl rfl T25 rfl).q) (fun a w hF hW => ?_)
  refine ls hF hW rfl ((y_move hF rfl).q) (fun a w hF hW => ?_)
  obtain ⟨x2, h2, H⟩ := bindE H
  refine ls hF hW rfl (y_call (v := Value.bool x2) hF H6 rfl (fun w hW => L21_small_c any w (v1) (v2) (v3) p0 p1 _ h2 (((rdc_ro h_v1) : Rdc _ _ _ _ _ _) w hW).nx (((rdc_ro h_v2) : Rdc _ _ _ _ _ _) w hW).nx (((rdc_hide EX30 h1 (rdc_ro h_v3)) : Rdc _ _ _ _ _ _) w hW).nx)) (fun a w hF hW => ?_)
  refine ls hF hW rfl ((y_not hF rfl).q) (fun a w hF hW => ?_)
  refine ls hF hW rfl ((y_move hF rfl).q) (fun a w hF hW => ?_)
  rcases Bool.eq_false_or_eq_true (!x2) with hb | hb
  ·
   have H := iteT hb H
   rw [hb] at hF
   clear hb
   iterate 4 refine lsn hF rfl rfl rfl rfl rfl rfl rfl (fun a hF => ?_)
   refine ls hF hW rfl ((y_pick_t hF rfl rfl rfl).q) (fun a w hF hW => ?_)
   refine ls hF hW rfl ((y_move hF rfl).q) (fun a w hF hW => ?_)
   iterate 2 refine lsn hF rfl rfl rfl rfl rfl rfl rfl (fun a hF => ?_)
   refine ls hF hW rfl ((y_pick_t hF rfl rfl rfl).q) (fun a w hF hW => ?_)
   refine ls hF hW rfl ((y_move hF rfl).q) (fun a w hF hW => ?_)
   iterate 4 refine lsn hF rfl rfl rfl rfl rfl rfl rfl (fun a hF => ?_)
   refine ls hF hW rfl ((y_pick_t hF rfl rfl rfl).q) (fun a w hF hW => ?_)
   refine ls hF hW rfl ((y_move hF rfl).q) (fun a w hF hW => ?_)
   iterate 3 refine lsn hF rfl rfl rfl rfl rfl rfl rfl (fun a hF => ?_)
   refine ls hF hW rfl ((y_pick_t hF rfl rfl rfl).q) (fun a w hF hW => ?_)
   refine ls_nil (c_then ?_)
   have hW := hW.frontM (i := 1) rfl rfl
   have hW := hW.frontM (i := 1) rfl rfl
   exact ⟨_, H, hF.re ⟨rfl, rfl, rfl, rfl, rfl, rfl, rfl, trivial⟩, hW⟩
  ·
   have H := iteF (by rw [hb]; decide) H
   rw [hb] at hF
   clear hb
   refine ls_w hF hW (wanted_y hF rfl rfl rfl rfl) rfl (Nat.le_of_ble_eq_true rfl) ((y_load (v := Value.agg #[.int .i64 p0.1, v1, v2]) 1 hF rfl rfl T25 rfl).q) (fun a w hF hW => ?_)
   refine ls_w hF hW (wanted_y hF rfl rfl rfl rfl) rfl (Nat.le_of_ble_eq_true rfl) ((y_move hF rfl).q) (fun a w hF hW => ?_)
   refine ls_g (wanted_y hF rfl rfl rfl rfl) ?_
   obtain ⟨x3, h3, H⟩ := bindE H
   refine ls hF hW rfl (y_call (v := Value.bool x3) hF H15 rfl (fun w hW => r21_Right_c any w (v1) (v2) (v3) p0 p1 _ h3 (((rdc_ro h_v1) : Rdc _ _ _ _ _ _) w hW).nx (((rdc_ro h_v2) : Rdc _ _ _ _ _ _) w hW).nx (((rdc_hide EX30 h1 (rdc_ro h_v3)) : Rdc _ _ _ _ _ _) w hW).nx)) (fun a w hF hW => ?_)
   refine ls_w hF hW (wanted_y hF rfl rfl rfl rfl) rfl (Nat.le_of_ble_eq_true rfl) ((y_not hF rfl).q) (fun a w hF hW => ?_)
   refine ls hF hW rfl ((y_pick_f hF rfl rfl rfl).q) (fun a w hF hW => ?_)
   refine ls hF hW rfl ((y_move hF rfl).q) (fun a w hF hW => ?_)
   rcases Bool.eq_false_or_eq_true (!x3) with hb | hb
   ·
    have H := iteT hb H
    rw [hb] at hF
    clear hb
    iterate 2 refine lsn hF rfl rfl rfl rfl rfl rfl rfl (fun a hF => ?_)
    refine ls hF hW rfl ((y_pick_t hF rfl rfl rfl).q) (fun a w hF hW => ?_)
    refine ls hF hW rfl ((y_move hF rfl).q) (fun a w hF hW => ?_)
    iterate 4 refine lsn hF rfl rfl rfl rfl rfl rfl rfl (fun a hF => ?_)
    refine ls hF hW rfl ((y_pick_t hF rfl rfl rfl).q) (fun a w hF hW => ?_)
    refine ls hF hW rfl ((y_move hF rfl).q) (fun a w hF hW => ?_)
    iterate 3 refine lsn hF rfl rfl rfl rfl rfl rfl rfl (fun a hF => ?_)
    refine ls hF hW rfl ((y_pick_t hF rfl rfl rfl).q) (fun a w hF hW => ?_)
    refine ls_nil (c_then ?_)
    have hW := hW.frontM (i := 1) rfl rfl
    have hW := hW.frontM (i := 1) rfl rfl
    exact ⟨_, H, hF.re ⟨rfl, rfl, rfl, rfl, rfl, rfl, rfl, trivial⟩, hW⟩
   ·
    have H := iteF (by rw [hb]; decide) H
    rw [hb] at hF
    clear hb
    refine ls_w hF hW (wanted_y hF rfl rfl rfl rfl) rfl (Nat.le_of_ble_eq_true rfl) ((y_move hF rfl).q) (fun a w hF hW => ?_)
    refine ls_w hF hW (wanted_y hF rfl rfl rfl rfl) rfl (Nat.le_of_ble_eq_true rfl) ((y_lss hF rfl rfl).q) (fun a w hF hW => ?_)
    refine ls hF hW rfl ((y_pick_f hF rfl rfl rfl).q) (fun a w hF hW => ?_)
    refine ls hF hW rfl ((y_move hF rfl).q) (fun a w hF hW => ?_)
    rcases Bool.eq_false_or_eq_true (decide (p2 < 0)) with hb | hb
    ·
     have H := iteT (of_decide_eq_true hb) H
     rw [hb] at hF
     clear hb
     iterate 4 refine lsn hF rfl rfl rfl rfl rfl rfl rfl (fun a hF => ?_)
     refine ls hF hW rfl ((y_pick_t hF rfl rfl rfl).q) (fun a w hF hW => ?_)
     refine ls hF hW rfl ((y_move hF rfl).q) (fun a w hF hW => ?_)
     iterate 3 refine lsn hF rfl rfl rfl rfl rfl rfl rfl (fun a hF => ?_)
     refine ls hF hW rfl ((y_pick_t hF rfl rfl rfl).q) (fun a w hF hW => ?_)
     refine ls_nil (c_then ?_)
     have hW := hW.frontM (i := 1) rfl rfl
     have hW := hW.frontM (i := 1) rfl rfl
     exact ⟨_, H, hF.re ⟨rfl, rfl, rfl, rfl, rfl, rfl, rfl, trivial⟩, hW⟩
    ·
     have H := iteF (of_decide_eq_false hb) H
     rw [hb] at hF
     clear hb
     iterate 2 refine ls_w hF hW (wanted_y hF rfl rfl rfl rfl) rfl (Nat.le_of_ble_eq_true rfl) ((y_move hF rfl).q) (fun a w hF hW => ?_)
     refine ls_w hF hW (wanted_y hF rfl rfl rfl rfl) rfl (Nat.le_of_ble_eq_true rfl) ((y_len (r := (Rp.slice (Rp.int .i64))) (l := p1) u27_ rfl hF rfl (rdc_hide EX30 h1 (rdc_ro h_v3))).q) (fun a w hF hW => ?_)
     refine ls_w hF hW (wanted_y hF rfl rfl rfl rfl) rfl (Nat.le_of_ble_eq_true rfl) ((y_geq hF rfl rfl).q) (fun a w hF hW => ?_)
     refine ls hF hW rfl ((y_pick_f hF rfl rfl rfl).q) (fun a w hF hW => ?_)
     refine ls hF hW rfl ((y_move hF rfl).q) (fun a w hF hW => ?_)
     rcases Bool.eq_false_or_eq_true (decide ((p1.length : Int) ≤ p2)) with hb | hb
     ·
      have H := iteT (of_decide_eq_true hb) H
      rw [hb] at hF
      clear hb
      iterate 3 refine lsn hF rfl rfl rfl rfl rfl rfl rfl (fun a hF => ?_)
      refine ls hF hW rfl ((y_pick_t hF rfl rfl rfl).q) (fun a w hF hW => ?_)
      refine ls_nil (c_then ?_)
      have hW := hW.frontM (i := 1) rfl rfl
      have hW := hW.frontM (i := 1) rfl rfl
      exact ⟨_, H, hF.re ⟨rfl, rfl, rfl, rfl, rfl, rfl, rfl, trivial⟩, hW⟩
     ·
      have H := iteF (of_decide_eq_false hb) H
      rw [hb] at hF
      clear hb
      refine ls_w hF hW (wanted_y hF rfl rfl rfl rfl) rfl (Nat.le_of_ble_eq_true rfl) ((y_load (v := Value.agg #[.int .i64 p4.1, .int .i64 p4.2.1, .int .i64 p4.2.2.1, .int .i64 p4.2.2.2]) 0 hF rfl rfl T46 rfl).q) (fun a w hF hW => ?_)
      refine ls_g (wanted_y hF rfl rfl rfl rfl) ?_
      obtain ⟨x4, h4, H⟩ := bindE H
      refine ls hF hW rfl (y_call (v := Value.bool x4) hF H16 rfl (fun w hW => r07_Right_c any w p4 _ h4)) (fun a w hF hW => ?_)
      refine ls_w hF hW (wanted_y hF rfl rfl rfl rfl) rfl (Nat.le_of_ble_eq_true rfl) ((y_not hF rfl).q) (fun a w hF hW => ?_)
      refine ls hF hW rfl ((y_pick_f hF rfl rfl rfl).q) (fun a w hF hW => ?_)
      refine ls_nil (c_then ?_)
      have hW := hW.frontM (i := 1) rfl rfl
      have hW := hW.frontM (i := 1) rfl rfl
      exact ⟨_, H, hF.re ⟨rfl, rfl, rfl, rfl, rfl, rfl, rfl, trivial⟩, hW⟩
 rintro a w ⟨x1, hj, hF, hW⟩
 have hj := Option.some.inj hj
 subst hj
 have H := K1
 clear G1 K1
 refine c_cond hF rfl (fun hb => ?_) (fun hb => ?_)
 ·
  have H := iteT hb H
  rw [hb] at hF
  clear hb
  refine c_seq (reg_list ?_)
  obtain ⟨x5, h5, H⟩ := bindE H
  refine ls hF hW rfl (y_call (v := Value.bool x5) hF H7 rfl (fun w hW => L21_awake_c any w _ h5)) (fun a w hF hW => ?_)
  refine ls hF hW rfl ((y_assign hF rfl).q) (fun a w hF hW => ?_)
  refine ls_nil (c_then ?_)
  refine wp_ret ?_
  refine r_then ?_
  have H := Option.some.inj H
  subst H
  refine post1 (.inl rfl) hF hW rfl (rv_tmp hF rfl) ?_
  exact ⟨rfl, hW.done⟩
 ·
  have H := iteF (by rw [hb]; decide) H
  rw [hb] at hF
  clear hb
  refine wp_skip ?_
  refine c_then ?_
  refine c_seq (reg_list ?_)
  iterate 2 refine ls hF hW rfl ((y_move hF rfl).q) (fun a w hF hW => ?_)
  obtain ⟨x6, h6, H⟩ := bindE H
  refine l_callG (Ml := []) (Zl := []) (M := [(b2, [.int .i64 p4.1, .int .i64 p4.2.1, .int .i64 p4.2.2.1, .int .i64 p4.2.2.2]), (b1, [.int .i64 p0.1, v1, v2])]) (Z := []) (β := Value) (rv := fun x => x) (MM := fun x => []) (ZZ := fun x => [row x 70 R70 x6]) hF hW H17 rfl rfl (fun hL => route_Table_c _ w (v3) p1 p2 _ h6 ((rdc_hide EX30 h1 (rdc_ro h_v3)) w hW).nx) (fun x a w hF hW => ?_)
  obtain ⟨v5, rfl⟩ : ∃ y, y = x := ⟨x, rfl⟩
  have hW : Stw ⟨Y, [], w0⟩ [(b2, [.int .i64 p4.1, .int .i64 p4.2.1, .int .i64 p4.2.2.1, .int .i64 p4.2.2.2]), (b1, [.int .i64 p0.1, v1, v2])] [row v5 70 R70 x6] w := hW
  refine ls hF hW rfl ((y_assign hF rfl).q) (fun a w hF hW => ?_)
  refine ls_nil (c_then ?_)
  refine c_seq (reg_list ?_)
  iterate 2 refine ls hF hW rfl ((y_move hF rfl).q) (fun a w hF hW => ?_)
  refine ls hF hW rfl ((y_load (v := Value.agg #[.int .i64 p4.1, .int .i64 p4.2.1, .int .i64 p4.2.2.1, .int .i64 p4.2.2.2]) 0 hF rfl rfl T46 rfl).q) (fun a w hF hW => ?_)
  obtain ⟨x7, h7, H⟩ := bindE H
  refine l_callG (Ml := []) (Zl := []) (M := [(b2, [.int .i64 p4.1, .int .i64 p4.2.1, .int .i64 p4.2.2.1, .int .i64 p4.2.2.2]), (b1, [.int .i64 p0.1, v1, v2])]) (Z := [row v5 70 R70 x6]) (β := Value) (rv := fun x => x) (MM := fun x => []) (ZZ := fun x => [row x 54 R54 x7]) hF hW H18 rfl rfl (fun hL => table_Run_c _ w (v5) x6 p3 p4 _ h7 ((rdc_row 0 rfl) w hW).nx) (fun x a w hF hW => ?_)
  obtain ⟨v6, rfl⟩ : ∃ y, y = x := ⟨x, rfl⟩
  have hW : Stw ⟨Y, [], w0⟩ [(b2, [.int .i64 p4.1, .int .i64 p4.2.1, .int .i64 p4.2.2.1, .int .i64 p4.2.2.2]), (b1, [.int .i64 p0.1, v1, v2])] [row v6 54 R54 x7, row v5 70 R70 x6] w := hW
  refine ls hF hW rfl ((y_assign hF rfl).q) (fun a w hF hW => ?_)
  refine ls_nil (c_then ?_)
  refine c_seq ?_
  refine c_seq (reg_list ?_)
  refine ls hF hW rfl ((y_indexP (l := [(), (), (), ()]) (i := 1) 1 Ar46 hF rfl rfl rfl rfl rfl).q) (fun a w hF hW => ?_)
  refine ls hF hW rfl ((y_load (v := Value.int .i64 p4.2.1) 0 hF rfl rfl T3 rfl).q) (fun a w hF hW => ?_)
  refine ls hF hW rfl ((y_fieldAddr u25_ rfl rfl rfl T23 hF rfl 2 rfl).q) (fun a w hF hW => ?_)
  refine ls hF hW rfl ((y_load (v := v2) 1 hF rfl rfl T23 rfl).q) (fun a w hF hW => ?_)
  refine ls hF hW rfl ((y_len (r := R36) (l := p0.2.2) u23_ rfl hF rfl (rdc_ro h_v2)).q) (fun a w hF hW => ?_)
  refine ls hF hW rfl ((y_geq hF rfl rfl).q) (fun a w hF hW => ?_)
  refine ls_nil (c_then ?_)
  refine c_cond hF rfl (fun hb => ?_) (fun hb => ?_)
  ·
   have H := iteT (of_decide_eq_true hb) H
   rw [hb] at hF
   clear hb
   obtain ⟨o2, G2, K2⟩ := bindE H
   refine c_seqJ (fun a w => ∃ x8 : Bool, some (x8) = some o2 ∧ Fr 84 [] [(1, v3), (2, .int .i64 p2), (9, .pointer (some ⟨b2, 0, none⟩)), (10, .bool x8), (11, v5), (12, v6)] a ∧ Stw ⟨Y, [], w0⟩ [(b2, [.int .i64 p4.1, .int .i64 p4.2.1, .int .i64 p4.2.2.1, .int .i64 p4.2.2.2]), (b1, [.int .i64 p0.1, v1, v2])] [row v5 70 R70 x6, row v6 54 R54 x7] w) ?_ ?_
   ·
    have H := G2
    clear G2 K2
    refine reg_list ?_
    refine ls hF hW rfl ((y_move hF rfl).q) (fun a w hF hW => ?_)
    refine ls hF hW rfl ((y_len (r := R54) (l := x7) u50_ rfl hF rfl (rdc_row 0 rfl)).q) (fun a w hF hW => ?_)
    refine ls hF hW rfl ((y_eql hF rfl rfl).q) (fun a w hF hW => ?_)
    refine ls hF hW rfl ((y_move hF rfl).q) (fun a w hF hW => ?_)
    rcases Bool.eq_false_or_eq_true (decide ((x7.length : Int) = 0)) with hb | hb
    ·
     have H := iteT (of_decide_eq_true hb) H
     rw [hb] at hF
     clear hb
     refine ls_g (wanted_y hF rfl rfl rfl rfl) ?_
     obtain ⟨x9, h8, H⟩ := bindE H
     refine ls hF hW rfl (y_call (v := Value.bool x9) hF H7 rfl (fun w hW => L21_awake_c any w _ h8)) (fun a w hF hW => ?_)
     refine ls hF hW rfl ((y_pick_t hF rfl rfl rfl).q) (fun a w hF hW => ?_)
     refine ls hF hW rfl ((y_assign hF rfl).q) (fun a w hF hW => ?_)
     refine ls_nil (c_then ?_)
     have hW := hW.frontZ (i := 1) rfl rfl
     have hW := hW.frontM (i := 1) rfl rfl
     have hW := hW.frontM (i := 1) rfl rfl
     exact ⟨_, H, hF.re ⟨rfl, rfl, rfl, rfl, rfl, rfl, trivial⟩, hW⟩
    ·
     have H := iteF (of_decide_eq_false hb) H
     rw [hb] at hF
     clear hb
     refine lsn hF rfl rfl rfl rfl rfl rfl rfl (fun a hF => ?_)
     refine ls hF hW rfl ((y_pick_f hF rfl rfl rfl).q) (fun a w hF hW => ?_)
     refine ls hF hW rfl ((y_assign hF rfl).q) (fun a w hF hW => ?_)
     refine ls_nil (c_then ?_)
     have hW := hW.frontZ (i := 1) rfl rfl
     have hW := hW.frontM (i := 1) rfl rfl
     have hW := hW.frontM (i := 1) rfl rfl
     exact ⟨_, H, hF.re ⟨rfl, rfl, rfl, rfl, rfl, rfl, trivial⟩, hW⟩
   rintro a w ⟨x8, hj, hF, hW⟩
   have hj := Option.some.inj hj
   subst hj
   have H := K2
   clear G2 K2
   refine wp_ret ?_
   refine r_then ?_
   have H := Option.some.inj H
   subst H
   refine post1 (.inl rfl) hF hW rfl (rv_tmp hF rfl) ?_
   exact ⟨rfl, hW.done⟩
  ·
   have H := iteF (of_decide_eq_false hb) H
   rw [hb] at hF
   clear hb
   refine wp_skip ?_
   refine c_then ?_
   obtain ⟨o3, G3, K3⟩ := bindE H
   refine c_seqJ (fun a w => ∃ x10 : Bool, some (x10) = some o3 ∧ Fr 84 [] [(10, .bool x10)] a ∧ Stw ⟨Y, [], w0⟩ [(b2, [.int .i64 p4.1, .int .i64 p4.2.1, .int .i64 p4.2.2.1, .int .i64 p4.2.2.2]), (b1, [.int .i64 p0.1, v1, v2])] [] w) ?_ ?_
   ·
    have H := G3
    clear G3 K3
    have hW := hW.frontZ (i := 1) rfl rfl
    obtain ⟨v7, h9, hW⟩ := hW.exR EX70
    refine reg_quiet hW MO (by kernel_rfl) ?_
    refine qs hF rfl ((y_move hF rfl).q) (fun a hF => ?_)
    obtain ⟨x11, h10, H⟩ := bindE H
    refine qs hF rfl (y_call (v := Value.bool x11) hF H19 rfl (fun w hW => table_Right_c any w (v5) x6 8 8 _ h10 (((rdc_hide EX70 h9 (rdc_row 0 rfl)) : Rdc _ _ _ _ _ _) w hW).nx)) (fun a hF => ?_)
    refine qs hF rfl ((y_move hF rfl).q) (fun a hF => ?_)
    rcases Bool.eq_false_or_eq_true x11 with hb | hb
    ·
     have H := iteT hb H
     rw [hb] at hF
     clear hb
     refine qs_w hF (wanted_y hF rfl rfl rfl rfl) rfl (Nat.le_of_ble_eq_true rfl) ((y_move hF rfl).q) (fun a hF => ?_)
     refine qs_w hF (wanted_y hF rfl rfl rfl rfl) rfl (Nat.le_of_ble_eq_true rfl) ((y_len (r := R54) (l := x7) u50_ rfl hF rfl (rdc_row 1 rfl)).q) (fun a hF => ?_)
     refine qs_w hF (wanted_y hF rfl rfl rfl rfl) rfl (Nat.le_of_ble_eq_true rfl) ((y_eql hF rfl rfl).q) (fun a hF => ?_)
     refine qs hF rfl ((y_pick_t hF rfl rfl rfl).q) (fun a hF => ?_)
     refine qs hF rfl ((y_move hF rfl).q) (fun a hF => ?_)
     rcases Bool.eq_false_or_eq_true (decide ((x7.length : Int) = 1)) with hb | hb
     ·
      have H := iteT (of_decide_eq_true hb) H
      rw [hb] at hF
      clear hb
      refine qs_w hF (wanted_y hF rfl rfl rfl rfl) rfl (Nat.le_of_ble_eq_true rfl) ((y_move hF rfl).q) (fun a hF => ?_)
      obtain ⟨x12, h11, H⟩ := bindE H
      refine qs_w hF (wanted_y hF rfl rfl rfl rfl) rfl (Nat.le_of_ble_eq_true rfl) ((y_index (r := R54) L50 hF rfl rfl (rdc_row 1 rfl) h11).q) (fun a hF => ?_)
      refine qs_w hF (wanted_y hF rfl rfl rfl rfl) rfl (Nat.le_of_ble_eq_true rfl) ((y_load_el (y := Value.agg #[.int .i64 x12.1, .int .i64 x12.2.1, .int .i64 x12.2.2.1, .int .i64 x12.2.2.2.1, .int .i64 x12.2.2.2.2]) (j := 0) (i := 0) hF rfl rfl (rdc_row 1 rfl) h11 F54.to T54 rfl).q) (fun a hF => ?_)
      iterate 2 refine qs_w hF (wanted_y hF rfl rfl rfl rfl) rfl (Nat.le_of_ble_eq_true rfl) ((y_move hF rfl).q) (fun a hF => ?_)
      obtain ⟨x13, h12, H⟩ := bindE H
      obtain ⟨v8, h13, h14⟩ := ix_ex h1 h12
      have h15 : EE30 v8 = [(v8.1)] := congrArg (fun q : List Int => ([(v8.1)] : List Value)) h14
      refine qs_w hF (wanted_y hF rfl rfl rfl rfl) rfl (Nat.le_of_ble_eq_true rfl) ((y_index (r := (Rp.vsl (Rp.int .i64))) L27 hF rfl rfl (rdc_ro h_v3) h13).q) (fun a hF => ?_)
      refine qs_w hF (wanted_y hF rfl rfl rfl rfl) rfl (Nat.le_of_ble_eq_true rfl) ((y_load_el (y := (v8.1)) (j := 0) (i := p2) (enc := EE30) hF rfl rfl (rdc_ro h_v3) h13 FE30 T30 (by rw [h15]; rfl)).q) (fun a hF => ?_)
      refine qs_w hF (wanted_y hF rfl rfl rfl rfl) rfl (Nat.le_of_ble_eq_true rfl) ((y_indexP (l := [(), (), (), ()]) (i := 1) 1 Ar46 hF rfl rfl rfl rfl rfl).q) (fun a hF => ?_)
      refine qs_w hF (wanted_y hF rfl rfl rfl rfl) rfl (Nat.le_of_ble_eq_true rfl) ((y_load (v := Value.int .i64 p4.2.1) 0 hF rfl rfl T3 rfl).q) (fun a hF => ?_)
      obtain ⟨x14, h16, H⟩ := bindE H
      refine qs_w hF (wanted_y hF rfl rfl rfl rfl) rfl (Nat.le_of_ble_eq_true rfl) ((y_index (r := (Rp.int .i64)) L30 hF rfl rfl (rdc_at (rdc_ro h_v3) h13 Path.here (congrArg (fun q : List Int => q) h14)) h16).q) (fun a hF => ?_)
      refine qs_w hF (wanted_y hF rfl rfl rfl rfl) rfl (Nat.le_of_ble_eq_true rfl) ((y_load_el (y := Value.int .i64 x14) (j := 0) (i := p4.2.1) hF rfl rfl (rdc_at (rdc_ro h_v3) h13 Path.here (congrArg (fun q : List Int => q) h14)) h16 Fl.int.to T3 rfl).q) (fun a hF => ?_)
      refine qs_w hF (wanted_y hF rfl rfl rfl rfl) rfl (Nat.le_of_ble_eq_true rfl) ((y_load (v := Value.agg #[.int .i64 p4.1, .int .i64 p4.2.1, .int .i64 p4.2.2.1, .int .i64 p4.2.2.2]) 0 hF rfl rfl T46 rfl).q) (fun a hF => ?_)
      refine qs_w hF (wanted_y hF rfl rfl rfl rfl) rfl (Nat.le_of_ble_eq_true rfl) ((y_build (v := Value.agg #[.int .i64 x14, .int .i64 p4.1, .int .i64 p4.2.1, .int .i64 p4.2.2.1, .int .i64 p4.2.2.2]) B54 hF rfl rfl rfl).q) (fun a hF => ?_)
      refine qs_w hF (wanted_y hF rfl rfl rfl rfl) rfl (Nat.le_of_ble_eq_true rfl) ((y_eqa (t := decide (x12.1 = x14 ∧ x12.2.1 = p4.1 ∧ x12.2.2.1 = p4.2.1 ∧ x12.2.2.2.1 = p4.2.2.1 ∧ x12.2.2.2.2 = p4.2.2.2)) G54 (Q54 _ _ _ _ _ _ _ _ _ _) hF rfl rfl).q) (fun a hF => ?_)
      refine qs hF rfl ((y_pick_t hF rfl rfl rfl).q) (fun a hF => ?_)
      refine qs hF rfl ((y_move hF rfl).q) (fun a hF => ?_)
      rcases Bool.eq_false_or_eq_true (decide (x12.1 = x14 ∧ x12.2.1 = p4.1 ∧ x12.2.2.1 = p4.2.1 ∧ x12.2.2.2.1 = p4.2.2.1 ∧ x12.2.2.2.2 = p4.2.2.2)) with hb | hb
      ·
       have H := iteT (of_decide_eq_true hb) H
       rw [hb] at hF
       clear hb
       obtain ⟨x15, h17, H⟩ := bindE H
       refine qs_w hF (wanted_y hF rfl rfl rfl rfl) rfl (Nat.le_of_ble_eq_true rfl) (y_call (v := Value.bool x15) hF H7 rfl (fun w hW => L21_awake_c any w _ h17)) (fun a hF => ?_)
       refine qs hF rfl ((y_pick_t hF rfl rfl rfl).q) (fun a hF => ?_)
       refine qs hF rfl ((y_assign hF rfl).q) (fun a hF => ?_)
       refine quiet_end (fun w hW => ?_)
       refine c_then ?_
       have hW := hW.frontM (i := 1) rfl rfl
       have hW := hW.frontM (i := 1) rfl rfl
       have hW := hW.sub (M' := [(b2, [.int .i64 p4.1, .int .i64 p4.2.1, .int .i64 p4.2.2.1, .int .i64 p4.2.2.2]), (b1, [.int .i64 p0.1, v1, v2])]) (Z' := []) (List.Sublist.refl _) (List.nil_sublist _)
       exact ⟨_, H, hF.re ⟨rfl, trivial⟩, hW⟩
      ·
       have H := iteF (of_decide_eq_false hb) H
       rw [hb] at hF
       clear hb
       refine qs_skip hF (wanted_n hF rfl rfl rfl rfl rfl) rfl rfl (fun a hF => ?_)
       refine qs hF rfl ((y_pick_f hF rfl rfl rfl).q) (fun a hF => ?_)
       refine qs hF rfl ((y_assign hF rfl).q) (fun a hF => ?_)
       refine quiet_end (fun w hW => ?_)
       refine c_then ?_
       have hW := hW.frontM (i := 1) rfl rfl
       have hW := hW.frontM (i := 1) rfl rfl
       have hW := hW.sub (M' := [(b2, [.int .i64 p4.1, .int .i64 p4.2.1, .int .i64 p4.2.2.1, .int .i64 p4.2.2.2]), (b1, [.int .i64 p0.1, v1, v2])]) (Z' := []) (List.Sublist.refl _) (List.nil_sublist _)
       exact ⟨_, H, hF.re ⟨rfl, trivial⟩, hW⟩
     ·
      have H := iteF (of_decide_eq_false hb) H
      rw [hb] at hF
      clear hb
      iterate 14 refine qs_skip hF (wanted_n hF rfl rfl rfl rfl rfl) rfl rfl (fun a hF => ?_)
      refine qs hF rfl ((y_pick_f hF rfl rfl rfl).q) (fun a hF => ?_)
      refine qs hF rfl ((y_move hF rfl).q) (fun a hF => ?_)
      refine qs_skip hF (wanted_n hF rfl rfl rfl rfl rfl) rfl rfl (fun a hF => ?_)
      refine qs hF rfl ((y_pick_f hF rfl rfl rfl).q) (fun a hF => ?_)
      refine qs hF rfl ((y_assign hF rfl).q) (fun a hF => ?_)
      refine quiet_end (fun w hW => ?_)
      refine c_then ?_
      have hW := hW.frontM (i := 1) rfl rfl
      have hW := hW.frontM (i := 1) rfl rfl
      have hW := hW.sub (M' := [(b2, [.int .i64 p4.1, .int .i64 p4.2.1, .int .i64 p4.2.2.1, .int .i64 p4.2.2.2]), (b1, [.int .i64 p0.1, v1, v2])]) (Z' := []) (List.Sublist.refl _) (List.nil_sublist _)
      exact ⟨_, H, hF.re ⟨rfl, trivial⟩, hW⟩
    ·
     have H := iteF (by rw [hb]; decide) H
     rw [hb] at hF
     clear hb
     iterate 3 refine qs_skip hF (wanted_n hF rfl rfl rfl rfl rfl) rfl rfl (fun a hF => ?_)
     refine qs hF rfl ((y_pick_f hF rfl rfl rfl).q) (fun a hF => ?_)
     refine qs hF rfl ((y_move hF rfl).q) (fun a hF => ?_)
     iterate 14 refine qs_skip hF (wanted_n hF rfl rfl rfl rfl rfl) rfl rfl (fun a hF => ?_)
     refine qs hF rfl ((y_pick_f hF rfl rfl rfl).q) (fun a hF => ?_)
     refine qs hF rfl ((y_move hF rfl).q) (fun a hF => ?_)
     refine qs_skip hF (wanted_n hF rfl rfl rfl rfl rfl) rfl rfl (fun a hF => ?_)
     refine qs hF rfl ((y_pick_f hF rfl rfl rfl).q) (fun a hF => ?_)
     refine qs hF rfl ((y_assign hF rfl).q) (fun a hF => ?_)
     refine quiet_end (fun w hW => ?_)
     refine c_then ?_
     have hW := hW.frontM (i := 1) rfl rfl
     have hW := hW.frontM (i := 1) rfl rfl
     have hW := hW.sub (M' := [(b2, [.int .i64 p4.1, .int .i64 p4.2.1, .int .i64 p4.2.2.1, .int .i64 p4.2.2.2]), (b1, [.int .i64 p0.1, v1, v2])]) (Z' := []) (List.Sublist.refl _) (List.nil_sublist _)
     exact ⟨_, H, hF.re ⟨rfl, trivial⟩, hW⟩
   rintro a w ⟨x10, hj, hF, hW⟩
   have hj := Option.some.inj hj
   subst hj
   have H := K3
   clear G3 K3
   refine wp_ret ?_
   have H := Option.some.inj H
   subst H
   refine post1 (.inl rfl) hF hW rfl (rv_tmp hF rfl) ?_
   exact ⟨rfl, hW.done⟩

end Go.Proofs.Ytleakbjojbiomaa
