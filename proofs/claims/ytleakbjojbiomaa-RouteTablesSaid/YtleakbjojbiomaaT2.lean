/- The functions that RouteTables reaches, lifted. Conditions: none. -/
import Derived.Test.YtleakbjojbiomaaT1
namespace Go.Proofs.Ytleakbjojbiomaa
open Go Go.RowKit
set_option linter.unusedVariables false
set_option linter.unusedSimpArgs false
set_option maxRecDepth 20000
theorem H8 : Has Try.prog 8 := ⟨fun args w => run_callFunc_body Try.func8 rfl (by decide) args w⟩
noncomputable def r13_Same_l1 (p0 : List Int) (p1 : List Int) : Int → Option (Int ⊕ (Unit ⊕ Bool))
  | x1 => (if x1 < (p0.length : Int) then (ix p0 x1).bind fun x2 => (ix p1 x1).bind fun x3 => (if x2 ≠ x3 then some (.inr (.inr false)) else some (.inl (w64 (x1 + 1)))) else some (.inr (.inl ())))
noncomputable def r13_Same (p0 : List Int) (p1 : List Int) : Option Bool := (if (p0.length : Int) ≠ (p1.length : Int) then some false else orR (loopW (r13_Same_l1 p0 p1) 0) fun _ => some true)
theorem r13_Same_c (Y : Nat → Prop) (w0 : World) (v1 : Value) (v2 : Value) (p0 : List Int) (p1 : List Int) (r : Bool) (H : r13_Same p0 p1 = some r) (h_v1 : Sl w0 (NX []) (Rp.int .i64) v1 p0) (h_v2 : Sl w0 (NX []) (Rp.int .i64) v2 p1) :
    Calls Try.prog 10 #[v1, v2] w0 fun e w' => e = .returned (.bool r) ∧ Below w0.heap.size w0 w' := by
 refine enter Try.func10 rfl Try.ntmps10 rfl (fun a hF => ?_)
 have hW := Stw.start Y w0
 unfold r13_Same at H
 refine c_seq (reg_list ?_)
 refine ls hF hW rfl ((y_assign hF rfl).q) (fun a w hF hW => ?_)
 refine ls_nil (c_then ?_)
 refine c_seq ?_
 refine c_seq (reg_list ?_)
 refine ls hF hW rfl ((y_move hF rfl).q) (fun a w hF hW => ?_)
 refine ls hF hW rfl ((y_len (r := (Rp.int .i64)) (l := p0) u30_ rfl hF rfl (rdc_ro h_v1)).q) (fun a w hF hW => ?_)
 refine ls hF hW rfl ((y_move hF rfl).q) (fun a w hF hW => ?_)
 refine ls hF hW rfl ((y_len (r := (Rp.int .i64)) (l := p1) u30_ rfl hF rfl (rdc_ro h_v2)).q) (fun a w hF hW => ?_)
 refine ls hF hW rfl ((y_neq hF rfl rfl).q) (fun a w hF hW => ?_)
 refine ls_nil (c_then ?_)
 refine c_cond hF rfl (fun hb => ?_) (fun hb => ?_)
 ·
  have H := iteT (of_decide_eq_true hb) H
  rw [hb] at hF
  clear hb
  refine c_seq (reg_list ?_)
  refine ls hF hW rfl ((y_assign hF rfl).q) (fun a w hF hW => ?_)
  refine ls_nil (c_then ?_)
  refine wp_ret ?_
  refine r_then ?_
  have H := Option.some.inj H
  subst H
  refine post1 (.inl rfl) hF hW rfl (rv_tmp hF rfl) ?_
  exact ⟨rfl, hW.done⟩
 ·
  have H := iteF (of_decide_eq_false hb) H
  rw [hb] at hF
  clear hb
  refine wp_skip ?_
  refine c_then ?_
  obtain ⟨o1, G1, K1, L1⟩ := orE H
  refine c_seqJ (fun a w => some (Sum.inl ()) = some o1 ∧ Fr 26 [] [(4, .bool false)] a ∧ Stw ⟨Y, [], w0⟩ [] [] w) ?_ ?_
  ·
   have H := G1
   clear G1 K1
   refine c_seq (reg_list ?_)
   refine ls hF hW rfl ((y_assign hF rfl).q) (fun a w hF hW => ?_)
   refine ls_nil (c_then ?_)
   refine wp_block ?_
   refine c_loopW H (fun s a w => Fr 26 [] [(0, v1), (1, v2), (4, .bool false), (5, .int .i64 s)] a ∧ Stw ⟨Y, [], w0⟩ [] [] w) ⟨hF.re ⟨rfl, rfl, rfl, rfl, trivial⟩, hW⟩ (fun s o a w H L2 hR => ?_)
   obtain ⟨x1, rfl⟩ : ∃ x, x = s := ⟨s, rfl⟩
   obtain ⟨hF, hW⟩ := hR
   have hF : Fr 26 [] [(0, v1), (1, v2), (4, .bool false), (5, .int .i64 x1)] a := hF
   have hW : Stw ⟨Y, [], w0⟩ [] [] w := hW
   rw [r13_Same_l1] at H
   refine c_seq ?_
   refine c_seq (reg_list ?_)
   iterate 2 refine ls hF hW rfl ((y_move hF rfl).q) (fun a w hF hW => ?_)
   refine ls hF hW rfl ((y_len (r := (Rp.int .i64)) (l := p0) u30_ rfl hF rfl (rdc_ro h_v1)).q) (fun a w hF hW => ?_)
   refine ls hF hW rfl ((y_lss hF rfl rfl).q) (fun a w hF hW => ?_)
   refine ls_nil (c_then ?_)
   refine c_cond hF rfl (fun hb => ?_) (fun hb => ?_)
   ·
    have H := iteT (of_decide_eq_true hb) H
    rw [hb] at hF
    clear hb
    refine wp_skip ?_
    refine c_then ?_
    refine c_seq ?_
    refine wp_block ?_
    refine c_seq ?_
    refine reg_quiet hW MO (by kernel_rfl) ?_
    iterate 2 refine qs hF rfl ((y_move hF rfl).q) (fun a hF => ?_)
    obtain ⟨x2, h1, H⟩ := bindE H
    refine qs hF rfl ((y_index (r := (Rp.int .i64)) L30 hF rfl rfl (rdc_ro h_v1) h1).q) (fun a hF => ?_)
    refine qs hF rfl ((y_load_el (y := Value.int .i64 x2) (j := 0) (i := x1) hF rfl rfl (rdc_ro h_v1) h1 Fl.int.to T3 rfl).q) (fun a hF => ?_)
    iterate 2 refine qs hF rfl ((y_move hF rfl).q) (fun a hF => ?_)
    obtain ⟨x3, h2, H⟩ := bindE H
    refine qs hF rfl ((y_index (r := (Rp.int .i64)) L30 hF rfl rfl (rdc_ro h_v2) h2).q) (fun a hF => ?_)
    refine qs hF rfl ((y_load_el (y := Value.int .i64 x3) (j := 0) (i := x1) hF rfl rfl (rdc_ro h_v2) h2 Fl.int.to T3 rfl).q) (fun a hF => ?_)
    refine qs hF rfl ((y_neq hF rfl rfl).q) (fun a hF => ?_)
    refine quiet_end (fun w hW => ?_)
    refine c_then ?_
    refine c_cond hF rfl (fun hb => ?_) (fun hb => ?_)
    ·
     have H := iteT (of_decide_eq_true hb) H
     rw [hb] at hF
     clear hb
     refine c_seq (reg_list ?_)
     refine ls hF hW rfl ((y_assign hF rfl).q) (fun a w hF hW => ?_)
     refine ls_nil (c_then ?_)
     refine wp_ret ?_
     refine r_block ?_
     iterate 2 refine r_then ?_
     refine r_block ?_
     refine r_then ?_
     have H := L2 _ H
     have H := L1 _ H
     have H := Option.some.inj H
     subst H
     refine post1 (.inl rfl) hF hW rfl (rv_tmp hF rfl) ?_
     exact ⟨rfl, hW.done⟩
    ·
     have H := iteF (of_decide_eq_false hb) H
     rw [hb] at hF
     clear hb
     refine wp_skip ?_
     refine b_normal ?_
     refine c_then ?_
     refine reg_list ?_
     refine ls hF hW rfl ((y_move hF rfl).q) (fun a w hF hW => ?_)
     refine ls hF hW rfl ((y_add hF rfl rfl rfl).q) (fun a w hF hW => ?_)
     refine ls hF hW rfl ((y_assign hF rfl).q) (fun a w hF hW => ?_)
     refine ls_nil (c_then ?_)
     exact ⟨_, H, hF.re ⟨rfl, rfl, rfl, rfl, trivial⟩, hW⟩
   ·
    have H := iteF (of_decide_eq_false hb) H
    rw [hb] at hF
    clear hb
    refine wp_exit ?_
    iterate 2 refine e_then ?_
    refine e_block ?_
    refine c_then ?_
    have H := L2 _ H
    exact ⟨H, hF.re ⟨rfl, trivial⟩, hW⟩
  rintro a w ⟨hj, hF, hW⟩
  have H := K1 _ hj
  clear hj G1 K1 L1
  refine c_seq (reg_list ?_)
  refine ls hF hW rfl ((y_assign hF rfl).q) (fun a w hF hW => ?_)
  refine ls_nil (c_then ?_)
  refine wp_ret ?_
  have H := Option.some.inj H
  subst H
  refine post1 (.inl rfl) hF hW rfl (rv_tmp hF rfl) ?_
  exact ⟨rfl, hW.done⟩

theorem H10 : Has Try.prog 10 := ⟨fun args w => run_callFunc_body Try.func10 rfl (by decide) args w⟩
noncomputable def route_Good_l2 (p0 : Int × (List (Int × Int × Int × Int × Int × Int)) × (List (Int × Int))) (p1 : List (List Int)) (x2 : Int) (x3 : List Int) : Int → Option (Int ⊕ (Unit ⊕ (Int ⊕ (Unit ⊕ Bool))))
  | x4 => (if x4 < (x3.length : Int) then (route_walk p0 p1 x2 x4).bind fun x5 => (if x5.2 ≠ 0 then some (.inr (.inr (.inr (.inr false)))) else some (.inl (w64 (x4 + 1)))) else some (.inr (.inl ())))
noncomputable def route_Good_l1 (p0 : Int × (List (Int × Int × Int × Int × Int × Int)) × (List (Int × Int))) (p1 : List (List Int)) : Int → Option (Int ⊕ (Unit ⊕ Bool))
  | x2 => (if x2 < (p1.length : Int) then orR ((ix p1 x2).bind fun x3 => loopW (route_Good_l2 p0 p1 x2 x3) 0) fun _ => some (.inl (w64 (x2 + 1))) else some (.inr (.inl ())))
noncomputable def route_Good (p0 : Int × (List (Int × Int × Int × Int × Int × Int)) × (List (Int × Int))) (p1 : List (List Int)) : Option Bool := (route_Right p0 p1).bind fun x1 => (if (!x1) = true then some false else orR (loopW (route_Good_l1 p0 p1) 0) fun _ => some true)
theorem route_Good_c (Y : Nat → Prop) (w0 : World) (v1 : Value) (v2 : Value) (v3 : Value) (p0 : Int × (List (Int × Int × Int × Int × Int × Int)) × (List (Int × Int))) (p1 : List (List Int)) (r : Bool) (H : route_Good p0 p1 = some r) (h_v1 : Sl w0 (NX []) R57 v1 p0.2.1) (h_v2 : Sl w0 (NX []) R36 v2 p0.2.2) (h_v3 : Sl w0 (NX []) (Rp.slice (Rp.int .i64)) v3 p1) :
    Calls Try.prog 14 #[.agg #[.int .i64 p0.1, v1, v2], v3] w0 fun e w' => e = .returned (.bool r) ∧ Below w0.heap.size w0 w' := by
 refine enter Try.func14 rfl Try.ntmps14 rfl (fun a hF => ?_)
 have hW := Stw.start Y w0
 obtain ⟨v4, h1, h_v3⟩ := h_v3.ex EX30
 unfold route_Good at H
 refine c_seq (reg_list ?_)
 refine l_box (cs := [.int .i64 p0.1, v1, v2]) hF hW rfl rfl rfl (fun b1 a w hF hW => ?_)
 refine ls hF hW rfl ((y_assign hF rfl).q) (fun a w hF hW => ?_)
 refine ls_nil (c_then ?_)
 refine c_seq ?_
 refine c_seq (reg_list ?_)
 refine ls hF hW rfl ((y_load (v := Value.agg #[.int .i64 p0.1, v1, v2]) 0 hF rfl rfl T25 rfl).q) (fun a w hF hW => ?_)
 refine ls hF hW rfl ((y_move hF rfl).q) (fun a w hF hW => ?_)
 obtain ⟨x1, h2, H⟩ := bindE H
 refine ls hF hW rfl (y_call (v := Value.bool x1) hF H20 rfl (fun w hW => route_Right_c any w (v1) (v2) (v3) p0 p1 _ h2 (((rdc_ro h_v1) : Rdc _ _ _ _ _ _) w hW).nx (((rdc_ro h_v2) : Rdc _ _ _ _ _ _) w hW).nx (((rdc_hide EX30 h1 (rdc_ro h_v3)) : Rdc _ _ _ _ _ _) w hW).nx)) (fun a w hF hW => ?_)
 refine ls hF hW rfl ((y_not hF rfl).q) (fun a w hF hW => ?_)
 refine ls_nil (c_then ?_)
 refine c_cond hF rfl (fun hb => ?_) (fun hb => ?_)
 ·
  have H := iteT hb H
  rw [hb] at hF
  clear hb
  refine c_seq (reg_list ?_)
  refine ls hF hW rfl ((y_assign hF rfl).q) (fun a w hF hW => ?_)
  refine ls_nil (c_then ?_)
  refine wp_ret ?_
  refine r_then ?_
  have H := Option.some.inj H
  subst H
  refine post1 (.inl rfl) hF hW rfl (rv_tmp hF rfl) ?_
  exact ⟨rfl, hW.done⟩
 ·
  have H := iteF (by rw [hb]; decide) H
  rw [hb] at hF
  clear hb
  refine wp_skip ?_
  refine c_then ?_
  obtain ⟨o1, G1, K1, L1⟩ := orE H
  refine c_seqJ (fun a w => some (Sum.inl ()) = some o1 ∧ Fr 38 [] [(4, .bool false)] a ∧ Stw ⟨Y, [], w0⟩ [(b1, [.int .i64 p0.1, v1, v2])] [] w) ?_ ?_
  ·
   have H := G1
   clear G1 K1
   refine c_seq (reg_list ?_)
   refine ls hF hW rfl ((y_move hF rfl).q) (fun a w hF hW => ?_)
   refine ls hF hW rfl ((y_len (r := (Rp.slice (Rp.int .i64))) (l := p1) u27_ rfl hF rfl (rdc_hide EX30 h1 (rdc_ro h_v3))).q) (fun a w hF hW => ?_)
   refine ls hF hW rfl ((y_move hF rfl).q) (fun a w hF hW => ?_)
   refine ls_nil (c_then ?_)
   refine wp_block ?_
   refine c_loopW H (fun s a w => Fr 38 [] [(1, v3), (2, .pointer (some ⟨b1, 0, none⟩)), (4, .bool false), (14, v3), (15, .int .i64 (p1.length : Int)), (16, .int .i64 s)] a ∧ Stw ⟨Y, [], w0⟩ [(b1, [.int .i64 p0.1, v1, v2])] [] w) ⟨hF.re ⟨rfl, rfl, rfl, rfl, rfl, rfl, trivial⟩, hW⟩ (fun s o a w H L2 hR => ?_)
   obtain ⟨x2, rfl⟩ : ∃ x, x = s := ⟨s, rfl⟩
   obtain ⟨hF, hW⟩ := hR
   have hF : Fr 38 [] [(1, v3), (2, .pointer (some ⟨b1, 0, none⟩)), (4, .bool false), (14, v3), (15, .int .i64 (p1.length : Int)), (16, .int .i64 x2)] a := hF
   have hW : Stw ⟨Y, [], w0⟩ [(b1, [.int .i64 p0.1, v1, v2])] [] w := hW
   rw [route_Good_l1] at H
   refine c_seq (reg_list ?_)
   refine ls hF hW rfl ((y_lss hF rfl rfl).q) (fun a w hF hW => ?_)
   refine ls_nil (c_then ?_)
   refine c_seq ?_
   refine c_cond hF rfl (fun hb => ?_) (fun hb => ?_)
   ·
    have H := iteT (of_decide_eq_true hb) H
    rw [hb] at hF
    clear hb
    refine wp_skip ?_
    refine c_then ?_
    obtain ⟨o3, G3, K3, L3⟩ := orE H
    refine c_seqJ (fun a w => some (Sum.inl ()) = some o3 ∧ Fr 38 [] [(1, v3), (2, .pointer (some ⟨b1, 0, none⟩)), (4, .bool false), (14, v3), (15, .int .i64 (p1.length : Int)), (16, .int .i64 x2)] a ∧ Stw ⟨Y, [], w0⟩ [(b1, [.int .i64 p0.1, v1, v2])] [] w) ?_ ?_
    ·
     have H := G3
     clear G3 K3
     refine wp_block ?_
     refine c_seq (reg_list ?_)
     refine ls hF hW rfl ((y_move hF rfl).q) (fun a w hF hW => ?_)
     obtain ⟨x3, h3, H⟩ := bindE H
     obtain ⟨v5, h4, h5⟩ := ix_ex h1 h3
     have h6 : EE30 v5 = [(v5.1)] := congrArg (fun q : List Int => ([(v5.1)] : List Value)) h5
     refine ls hF hW rfl ((y_index (r := (Rp.vsl (Rp.int .i64))) L27 hF rfl rfl (rdc_ro h_v3) h4).q) (fun a w hF hW => ?_)
     refine ls hF hW rfl ((y_load_el (y := (v5.1)) (j := 0) (i := x2) (enc := EE30) hF rfl rfl (rdc_ro h_v3) h4 FE30 T30 (by rw [h6]; rfl)).q) (fun a w hF hW => ?_)
     iterate 2 refine ls hF hW rfl ((y_assign hF rfl).q) (fun a w hF hW => ?_)
     refine ls_nil (c_then ?_)
     refine c_seq (reg_list ?_)
     refine ls hF hW rfl ((y_move hF rfl).q) (fun a w hF hW => ?_)
     refine ls hF hW rfl ((y_len (r := (Rp.int .i64)) (l := x3) u30_ rfl hF rfl (rdc_at (rdc_ro h_v3) h4 Path.here (congrArg (fun q : List Int => q) h5))).q) (fun a w hF hW => ?_)
     refine ls hF hW rfl ((y_move hF rfl).q) (fun a w hF hW => ?_)
     refine ls_nil (c_then ?_)
     refine wp_block ?_
     refine c_loopW H (fun s a w => Fr 38 [] [(1, v3), (2, .pointer (some ⟨b1, 0, none⟩)), (4, .bool false), (5, .int .i64 x2), (14, v3), (15, .int .i64 (p1.length : Int)), (16, .int .i64 x2), (22, .int .i64 (x3.length : Int)), (23, .int .i64 s)] a ∧ Stw ⟨Y, [], w0⟩ [(b1, [.int .i64 p0.1, v1, v2])] [] w) ⟨hF.re ⟨rfl, rfl, rfl, rfl, rfl, rfl, rfl, rfl, rfl, trivial⟩, hW⟩ (fun s o a w H L4 hR => ?_)
     obtain ⟨x4, rfl⟩ : ∃ x, x = s := ⟨s, rfl⟩
     obtain ⟨hF, hW⟩ := hR
     have hF : Fr 38 [] [(1, v3), (2, .pointer (some ⟨b1, 0, none⟩)), (4, .bool false), (5, .int .i64 x2), (14, v3), (15, .int .i64 (p1.length : Int)), (16, .int .i64 x2), (22, .int .i64 (x3.length : Int)), (23, .int .i64 x4)] a := hF
     have hW : Stw ⟨Y, [], w0⟩ [(b1, [.int .i64 p0.1, v1, v2])] [] w := hW
     rw [route_Good_l2] at H
     refine c_seq (reg_list ?_)
     refine ls hF hW rfl ((y_lss hF rfl rfl).q) (fun a w hF hW => ?_)
     refine ls_nil (c_then ?_)
     refine c_seq ?_
     refine c_cond hF rfl (fun hb => ?_) (fun hb => ?_)
     ·
      have H := iteT (of_decide_eq_true hb) H
      rw [hb] at hF
      clear hb
      refine wp_skip ?_
      refine c_then ?_
      refine c_seq ?_
      refine wp_block ?_
      refine c_seq (reg_list ?_)
      refine ls hF hW rfl ((y_move hF rfl).q) (fun a w hF hW => ?_)
      refine ls hF hW rfl ((y_assign hF rfl).q) (fun a w hF hW => ?_)
      refine ls_nil (c_then ?_)
      refine c_seq (reg_list ?_)
      refine ls hF hW rfl ((y_load (v := Value.agg #[.int .i64 p0.1, v1, v2]) 0 hF rfl rfl T25 rfl).q) (fun a w hF hW => ?_)
      iterate 3 refine ls hF hW rfl ((y_move hF rfl).q) (fun a w hF hW => ?_)
      obtain ⟨x5, h7, H⟩ := bindE H
      refine l_callG (Ml := []) (Zl := []) (M := [(b1, [.int .i64 p0.1, v1, v2])]) (Z := []) (β := Value) (rv := fun x => .tuple #[x, .int .i64 x5.2]) (MM := fun x => []) (ZZ := fun x => [row x 3 (Rp.int .i64) x5.1]) hF hW H21 rfl rfl (fun hL => route_walk_c _ w (v1) (v2) (v3) p0 p1 x2 x4 _ h7 ((rdc_ro h_v1) w hW).nx ((rdc_ro h_v2) w hW).nx ((rdc_hide EX30 h1 (rdc_ro h_v3)) w hW).nx) (fun x a w hF hW => ?_)
      obtain ⟨v6, rfl⟩ : ∃ y, y = x := ⟨x, rfl⟩
      have hW : Stw ⟨Y, [], w0⟩ [(b1, [.int .i64 p0.1, v1, v2])] [row v6 3 (Rp.int .i64) x5.1] w := hW
      refine ls hF hW rfl ((y_move hF rfl).q) (fun a w hF hW => ?_)
      refine ls hF hW rfl ((y_extract (v := v6) hF rfl rfl).q) (fun a w hF hW => ?_)
      refine ls hF hW rfl ((y_extract (v := Value.int .i64 x5.2) hF rfl rfl).q) (fun a w hF hW => ?_)
      iterate 2 refine ls hF hW rfl ((y_assign hF rfl).q) (fun a w hF hW => ?_)
      refine ls_nil (c_then ?_)
      refine c_seq (reg_list ?_)
      refine ls hF hW rfl ((y_move hF rfl).q) (fun a w hF hW => ?_)
      refine ls hF hW rfl ((y_neq hF rfl rfl).q) (fun a w hF hW => ?_)
      refine ls_nil (c_then ?_)
      refine c_cond hF rfl (fun hb => ?_) (fun hb => ?_)
      ·
       have H := iteT (of_decide_eq_true hb) H
       rw [hb] at hF
       clear hb
       refine c_seq (reg_list ?_)
       refine ls hF hW rfl ((y_assign hF rfl).q) (fun a w hF hW => ?_)
       refine ls_nil (c_then ?_)
       refine wp_ret ?_
       refine r_block ?_
       iterate 2 refine r_then ?_
       iterate 2 refine r_block ?_
       iterate 2 refine r_then ?_
       refine r_block ?_
       refine r_then ?_
       have H := L4 _ H
       have H := L3 _ H
       have H := L2 _ H
       have H := L1 _ H
       have H := Option.some.inj H
       subst H
       refine post1 (.inl rfl) hF hW rfl (rv_tmp hF rfl) ?_
       exact ⟨rfl, hW.done⟩
      ·
       have H := iteF (of_decide_eq_false hb) H
       rw [hb] at hF
       clear hb
       refine wp_skip ?_
       refine b_normal ?_
       refine c_then ?_
       refine reg_list ?_
       refine ls hF hW rfl ((y_add hF rfl rfl rfl).q) (fun a w hF hW => ?_)
       refine ls hF hW rfl ((y_move hF rfl).q) (fun a w hF hW => ?_)
       refine ls_nil (c_then ?_)
       have hW := hW.sub (M' := [(b1, [.int .i64 p0.1, v1, v2])]) (Z' := []) (List.Sublist.refl _) (List.nil_sublist _)
       exact ⟨_, H, hF.re ⟨rfl, rfl, rfl, rfl, rfl, rfl, rfl, rfl, rfl, trivial⟩, hW⟩
     ·
      have H := iteF (of_decide_eq_false hb) H
      rw [hb] at hF
      clear hb
      refine wp_exit ?_
      iterate 2 refine e_then ?_
      refine e_block ?_
      refine b_normal ?_
      refine c_then ?_
      have H := L4 _ H
      exact ⟨H, hF.re ⟨rfl, rfl, rfl, rfl, rfl, rfl, trivial⟩, hW⟩
    rintro a w ⟨hj, hF, hW⟩
    have H := K3 _ hj
    clear hj G3 K3 L3
    refine reg_list ?_
    refine ls hF hW rfl ((y_add hF rfl rfl rfl).q) (fun a w hF hW => ?_)
    refine ls hF hW rfl ((y_move hF rfl).q) (fun a w hF hW => ?_)
    refine ls_nil (c_then ?_)
    exact ⟨_, H, hF.re ⟨rfl, rfl, rfl, rfl, rfl, rfl, trivial⟩, hW⟩
   ·
    have H := iteF (of_decide_eq_false hb) H
    rw [hb] at hF
    clear hb
    refine wp_exit ?_
    iterate 2 refine e_then ?_
    refine e_block ?_
    refine c_then ?_
    have H := L2 _ H
    exact ⟨H, hF.re ⟨rfl, trivial⟩, hW⟩
  rintro a w ⟨hj, hF, hW⟩
  have H := K1 _ hj
  clear hj G1 K1 L1
  refine c_seq (reg_list ?_)
  refine ls hF hW rfl ((y_assign hF rfl).q) (fun a w hF hW => ?_)
  refine ls_nil (c_then ?_)
  refine wp_ret ?_
  have H := Option.some.inj H
  subst H
  refine post1 (.inl rfl) hF hW rfl (rv_tmp hF rfl) ?_
  exact ⟨rfl, hW.done⟩

theorem H14 : Has Try.prog 14 := ⟨fun args w => run_callFunc_body Try.func14 rfl (by decide) args w⟩
noncomputable def L21_awake  : Option Bool := (route_Walk (2, ([(0, 0, 1, 0, 1, 1)] : List (Int × Int × Int × Int × Int × Int)), ([(1, 5)] : List (Int × Int))) ([([0] : List Int), ([5] : List Int)] : List (List Int)) 0 0).bind fun x1 => (route_Walk (2, ([(0, 0, 1, 0, 1, 1)] : List (Int × Int × Int × Int × Int × Int)), ([(1, 5)] : List (Int × Int))) ([([0] : List Int), ([0] : List Int)] : List (List Int)) 0 0).bind fun x2 => (if x1.2 = 0 then (r13_Same x1.1 ([0, 1] : List Int)).bind fun x4 => (if x4 = true then (if x2.2 = 12 then (route_Good (2, ([(0, 0, 1, 0, 1, 1)] : List (Int × Int × Int × Int × Int × Int)), ([(1, 5)] : List (Int × Int))) ([([0] : List Int), ([5] : List Int)] : List (List Int))).bind fun x5 => (if x5 = true then (route_Good (2, ([(0, 0, 1, 0, 1, 1)] : List (Int × Int × Int × Int × Int × Int)), ([(1, 5)] : List (Int × Int))) ([([5] : List Int), ([5] : List Int)] : List (List Int))).bind fun x6 => some (!x6) else some false) else some false) else some false) else some false).bind fun x3 => some x3
theorem L21_awake_c (Y : Nat → Prop) (w0 : World)   (r : Bool) (H : L21_awake  = some r)  :
    Calls Try.prog 7 #[] w0 fun e w' => e = .returned (.bool r) ∧ Below w0.heap.size w0 w' := by
 refine enter Try.func7 rfl Try.ntmps7 rfl (fun a hF => ?_)
 have hW := Stw.start Y w0
 unfold L21_awake at H
 refine c_seq (reg_list ?_)
 refine ls hF hW rfl ((y_assign hF rfl).q) (fun a w hF hW => ?_)
 refine ls_nil (c_then ?_)
 refine c_seq (reg_list ?_)
 refine ls hF hW rfl ((y_build (v := Value.agg #[.int .i64 0, .int .i64 0, .int .i64 1, .int .i64 0, .int .i64 1, .int .i64 1]) B57 hF rfl rfl rfl).q) (fun a w hF hW => ?_)
 refine l_lit (z := Value.agg #[.int .i64 0, .int .i64 0, .int .i64 0, .int .i64 0, .int .i64 0, .int .i64 0]) (cs := [.int .i64 0, .int .i64 0, .int .i64 1, .int .i64 0, .int .i64 1, .int .i64 1]) R57 ([(0, 0, 1, 0, 1, 1)] : List (Int × Int × Int × Int × Int × Int)) hF hW rfl L22 Z57 rfl rfl rfl rfl rfl rfl (F57.repL _ _ ([(0, 0, 1, 0, 1, 1)] : List (Int × Int × Int × Int × Int × Int))) (fun v1 a w hF hW => ?_)
 refine ls hF hW rfl ((y_build (v := Value.agg #[.int .i64 1, .int .i64 5]) B36 hF rfl rfl rfl).q) (fun a w hF hW => ?_)
 refine l_lit (z := Value.agg #[.int .i64 0, .int .i64 0]) (cs := [.int .i64 1, .int .i64 5]) R36 ([(1, 5)] : List (Int × Int)) hF hW rfl L23 Z36 rfl rfl rfl rfl rfl rfl (F36.repL _ _ ([(1, 5)] : List (Int × Int))) (fun v2 a w hF hW => ?_)
 refine ls hF hW rfl ((y_build (v := Value.agg #[.int .i64 2, v1, v2]) B25 hF rfl (fill_cons rfl rfl rfl (fill_cons rfl (cells_one (hW.one (k := 1) rfl)) rfl (fill_cons rfl (cells_one (hW.one (k := 0) rfl)) rfl fill_nil))) rfl).q) (fun a w hF hW => ?_)
 refine l_alloc (cs := [.int .i64 0, .slice none 0 0, .slice none 0 0]) hF hW rfl Z25 rfl (fun b1 a w hF hW => ?_)
 refine l_store (vs := [.int .i64 2, v1, v2]) (M' := [(b1, [.int .i64 2, v1, v2])]) 0 hF hW rfl rfl rfl T25 rfl rfl rfl (one_cons rfl (one_cons (hW.one (k := 1) rfl) (one_cons (hW.one (k := 0) rfl) one_nil))) rfl (fun w hW => ?_)
 refine ls_nil (c_then ?_)
 refine c_seq (reg_list ?_)
 refine ls hF hW rfl ((y_load (v := Value.agg #[.int .i64 2, v1, v2]) 0 hF rfl rfl T25 rfl).q) (fun a w hF hW => ?_)
 refine l_lit (z := Value.int .i64 0) (cs := [.int .i64 0]) (Rp.int .i64) ([0] : List Int) hF hW rfl L30 Z3 rfl rfl rfl rfl rfl rfl (Fl.int.repL _ _ ([0] : List Int)) (fun v3 a w hF hW => ?_)
 refine l_lit (z := Value.int .i64 0) (cs := [.int .i64 5]) (Rp.int .i64) ([5] : List Int) hF hW rfl L30 Z3 rfl rfl rfl rfl rfl rfl (Fl.int.repL _ _ ([5] : List Int)) (fun v4 a w hF hW => ?_)
 have hW := hW.frontZ (i := 1) rfl rfl
 have hW := hW.freeze
 have hW := hW.frontZ (i := 1) rfl rfl
 have hW := hW.freeze
 refine l_lit (z := Value.slice none 0 0) (cs := [v3, v4]) (Rp.slice (Rp.int .i64)) ([([0] : List Int), ([5] : List Int)] : List (List Int)) hF hW rfl L27 Z30 rfl rfl rfl (fill_cons rfl (cells_one (hW.oneF (k := 1) rfl)) rfl (fill_cons rfl (cells_one (hW.oneF (k := 0) rfl)) rfl fill_nil)) rfl rfl ⟨[v3], _, rfl, ⟨_, rfl, (hW.item (i := 1) rfl)⟩, ⟨[v4], _, rfl, ⟨_, rfl, (hW.item (i := 0) rfl)⟩, rfl⟩⟩ (fun v5 a w hF hW => ?_)
 obtain ⟨x1, h1, H⟩ := bindE H
 refine l_callG (Ml := []) (Zl := []) (M := [(b1, [.int .i64 2, v1, v2])]) (Z := [row v5 30 (Rp.slice (Rp.int .i64)) ([([0] : List Int), ([5] : List Int)] : List (List Int)), frz v4 (Rp.int .i64) ([5] : List Int), frz v3 (Rp.int .i64) ([0] : List Int), row v2 36 R36 ([(1, 5)] : List (Int × Int)), row v1 57 R57 ([(0, 0, 1, 0, 1, 1)] : List (Int × Int × Int × Int × Int × Int))]) (β := Value) (rv := fun x => .tuple #[x, .int .i64 x1.2]) (MM := fun x => []) (ZZ := fun x => [row x 3 (Rp.int .i64) x1.1]) hF hW H8 rfl rfl (fun hL => route_Walk_c _ w (v1) (v2) (v5) (2, ([(0, 0, 1, 0, 1, 1)] : List (Int × Int × Int × Int × Int × Int)), ([(1, 5)] : List (Int × Int))) ([([0] : List Int), ([5] : List Int)] : List (List Int)) 0 0 _ h1 ((rdc_row 4 rfl) w hW).nx ((rdc_row 3 rfl) w hW).nx ((rdc_row 0 rfl) w hW).nx) (fun x a w hF hW => ?_)
 obtain ⟨v6, rfl⟩ : ∃ y, y = x := ⟨x, rfl⟩
 have hW : Stw ⟨Y, [], w0⟩ [(b1, [.int .i64 2, v1, v2])] [row v6 3 (Rp.int .i64) x1.1, row v5 30 (Rp.slice (Rp.int .i64)) ([([0] : List Int), ([5] : List Int)] : List (List Int)), frz v4 (Rp.int .i64) ([5] : List Int), frz v3 (Rp.int .i64) ([0] : List Int), row v2 36 R36 ([(1, 5)] : List (Int × Int)), row v1 57 R57 ([(0, 0, 1, 0, 1, 1)] : List (Int × Int × Int × Int × Int × Int))] w := hW
 refine ls hF hW rfl ((y_move hF rfl).q) (fun a w hF hW => ?_)
 refine ls hF hW rfl ((y_extract (v := v6) hF rfl rfl).q) (fun a w hF hW => ?_)
 refine ls hF hW rfl ((y_extract (v := Value.int .i64 x1.2) hF rfl rfl).q) (fun a w hF hW => ?_)
 iterate 2 refine ls hF hW rfl ((y_assign hF rfl).q) (fun a w hF hW => ?_)
 refine ls_nil (c_then ?_)
 refine c_seq (reg_list ?_)
 refine ls hF hW rfl ((y_load (v := Value.agg #[.int .i64 2, v1, v2]) 0 hF rfl rfl T25 rfl).q) (fun a w hF hW => ?_)
 refine l_lit (z := Value.int .i64 0) (cs := [.int .i64 0]) (Rp.int .i64) ([0] : List Int) hF hW rfl L30 Z3 rfl rfl rfl rfl rfl rfl (Fl.int.repL _ _ ([0] : List Int)) (fun v7 a w hF hW => ?_)
 refine l_lit (z := Value.int .i64 0) (cs := [.int .i64 0]) (Rp.int .i64) ([0] : List Int) hF hW rfl L30 Z3 rfl rfl rfl rfl rfl rfl (Fl.int.repL _ _ ([0] : List Int)) (fun v8 a w hF hW => ?_)
 have hW := hW.frontZ (i := 1) rfl rfl
 have hW := hW.freeze
 have hW := hW.frontZ (i := 1) rfl rfl
 have hW := hW.freeze
 refine l_lit (z := Value.slice none 0 0) (cs := [v7, v8]) (Rp.slice (Rp.int .i64)) ([([0] : List Int), ([0] : List Int)] : List (List Int)) hF hW rfl L27 Z30 rfl rfl rfl (fill_cons rfl (cells_one (hW.oneF (k := 1) rfl)) rfl (fill_cons rfl (cells_one (hW.oneF (k := 0) rfl)) rfl fill_nil)) rfl rfl ⟨[v7], _, rfl, ⟨_, rfl, (hW.item (i := 1) rfl)⟩, ⟨[v8], _, rfl, ⟨_, rfl, (hW.item (i := 0) rfl)⟩, rfl⟩⟩ (fun v9 a w hF hW => ?_)
 obtain ⟨x2, h2, H⟩ := bindE H
 refine l_callG (Ml := []) (Zl := []) (M := [(b1, [.int .i64 2, v1, v2])]) (Z := [row v9 30 (Rp.slice (Rp.int .i64)) ([([0] : List Int), ([0] : List Int)] : List (List Int)), frz v8 (Rp.int .i64) ([0] : List Int), frz v7 (Rp.int .i64) ([0] : List Int), row v6 3 (Rp.int .i64) x1.1, row v5 30 (Rp.slice (Rp.int .i64)) ([([0] : List Int), ([5] : List Int)] : List (List Int)), frz v4 (Rp.int .i64) ([5] : List Int), frz v3 (Rp.int .i64) ([0] : List Int), row v2 36 R36 ([(1, 5)] : List (Int × Int)), row v1 57 R57 ([(0, 0, 1, 0, 1, 1)] : List (Int × Int × Int × Int × Int × Int))]) (β := Value) (rv := fun x => .tuple #[x, .int .i64 x2.2]) (MM := fun x => []) (ZZ := fun x => [row x 3 (Rp.int .i64) x2.1]) hF hW H8 rfl rfl (fun hL => route_Walk_c _ w (v1) (v2) (v9) (2, ([(0, 0, 1, 0, 1, 1)] : List (Int × Int × Int × Int × Int × Int)), ([(1, 5)] : List (Int × Int))) ([([0] : List Int), ([0] : List Int)] : List (List Int)) 0 0 _ h2 ((rdc_row 8 rfl) w hW).nx ((rdc_row 7 rfl) w hW).nx ((rdc_row 0 rfl) w hW).nx) (fun x a w hF hW => ?_)
 obtain ⟨v10, rfl⟩ : ∃ y, y = x := ⟨x, rfl⟩
 have hW : Stw ⟨Y, [], w0⟩ [(b1, [.int .i64 2, v1, v2])] [row v10 3 (Rp.int .i64) x2.1, row v9 30 (Rp.slice (Rp.int .i64)) ([([0] : List Int), ([0] : List Int)] : List (List Int)), frz v8 (Rp.int .i64) ([0] : List Int), frz v7 (Rp.int .i64) ([0] : List Int), row v6 3 (Rp.int .i64) x1.1, row v5 30 (Rp.slice (Rp.int .i64)) ([([0] : List Int), ([5] : List Int)] : List (List Int)), frz v4 (Rp.int .i64) ([5] : List Int), frz v3 (Rp.int .i64) ([0] : List Int), row v2 36 R36 ([(1, 5)] : List (Int × Int)), row v1 57 R57 ([(0, 0, 1, 0, 1, 1)] : List (Int × Int × Int × Int × Int × Int))] w := hW
 refine ls hF hW rfl ((y_move hF rfl).q) (fun a w hF hW => ?_)
 refine ls hF hW rfl ((y_extract (v := v10) hF rfl rfl).q) (fun a w hF hW => ?_)
 refine ls hF hW rfl ((y_extract (v := Value.int .i64 x2.2) hF rfl rfl).q) (fun a w hF hW => ?_)
 iterate 2 refine ls hF hW rfl ((y_assign hF rfl).q) (fun a w hF hW => ?_)
 refine ls_nil (c_then ?_)
 obtain ⟨o1, G1, K1⟩ := bindE H
 refine c_seqJ (fun a w => ∃ x3 : Bool, some (x3) = some o1 ∧ Fr 53 [] [(0, .bool x3)] a ∧ Stw ⟨Y, [], w0⟩ [(b1, [.int .i64 2, v1, v2])] [row v1 57 R57 ([(0, 0, 1, 0, 1, 1)] : List (Int × Int × Int × Int × Int × Int)), row v2 36 R36 ([(1, 5)] : List (Int × Int))] w) ?_ ?_
 ·
  have H := G1
  clear G1 K1
  refine reg_list ?_
  refine ls hF hW rfl ((y_move hF rfl).q) (fun a w hF hW => ?_)
  refine ls hF hW rfl ((y_eql hF rfl rfl).q) (fun a w hF hW => ?_)
  refine ls hF hW rfl ((y_move hF rfl).q) (fun a w hF hW => ?_)
  rcases Bool.eq_false_or_eq_true (decide (x1.2 = 0)) with hb | hb
  ·
   have H := iteT (of_decide_eq_true hb) H
   rw [hb] at hF
   clear hb
   refine ls_w hF hW (wanted_y hF rfl rfl rfl rfl) rfl (Nat.le_of_ble_eq_true rfl) ((y_move hF rfl).q) (fun a w hF hW => ?_)
   refine ls_g (wanted_y hF rfl rfl rfl rfl) ?_
   refine l_lit (z := Value.int .i64 0) (cs := [.int .i64 0, .int .i64 1]) (Rp.int .i64) ([0, 1] : List Int) hF hW rfl L30 Z3 rfl rfl rfl rfl rfl rfl (Fl.int.repL _ _ ([0, 1] : List Int)) (fun v11 a w hF hW => ?_)
   refine ls_g (wanted_y hF rfl rfl rfl rfl) ?_
   obtain ⟨x4, h3, H⟩ := bindE H
   refine ls hF hW rfl (y_call (v := Value.bool x4) hF H10 rfl (fun w hW => r13_Same_c any w (v6) (v11) x1.1 ([0, 1] : List Int) _ h3 (((rdc_row 5 rfl) : Rdc _ _ _ _ _ _) w hW).nx (((rdc_row 0 rfl) : Rdc _ _ _ _ _ _) w hW).nx)) (fun a w hF hW => ?_)
   refine ls hF hW rfl ((y_pick_t hF rfl rfl rfl).q) (fun a w hF hW => ?_)
   refine ls hF hW rfl ((y_move hF rfl).q) (fun a w hF hW => ?_)
   rcases Bool.eq_false_or_eq_true x4 with hb | hb
   ·
    have H := iteT hb H
    rw [hb] at hF
    clear hb
    refine ls_w hF hW (wanted_y hF rfl rfl rfl rfl) rfl (Nat.le_of_ble_eq_true rfl) ((y_move hF rfl).q) (fun a w hF hW => ?_)
    refine ls_w hF hW (wanted_y hF rfl rfl rfl rfl) rfl (Nat.le_of_ble_eq_true rfl) ((y_eql hF rfl rfl).q) (fun a w hF hW => ?_)
    refine ls hF hW rfl ((y_pick_t hF rfl rfl rfl).q) (fun a w hF hW => ?_)
    refine ls hF hW rfl ((y_move hF rfl).q) (fun a w hF hW => ?_)
    rcases Bool.eq_false_or_eq_true (decide (x2.2 = 12)) with hb | hb
    ·
     have H := iteT (of_decide_eq_true hb) H
     rw [hb] at hF
     clear hb
     refine ls_w hF hW (wanted_y hF rfl rfl rfl rfl) rfl (Nat.le_of_ble_eq_true rfl) ((y_load (v := Value.agg #[.int .i64 2, v1, v2]) 0 hF rfl rfl T25 rfl).q) (fun a w hF hW => ?_)
     refine ls_g (wanted_y hF rfl rfl rfl rfl) ?_
     refine l_lit (z := Value.int .i64 0) (cs := [.int .i64 0]) (Rp.int .i64) ([0] : List Int) hF hW rfl L30 Z3 rfl rfl rfl rfl rfl rfl (Fl.int.repL _ _ ([0] : List Int)) (fun v12 a w hF hW => ?_)
     refine ls_g (wanted_y hF rfl rfl rfl rfl) ?_
     refine l_lit (z := Value.int .i64 0) (cs := [.int .i64 5]) (Rp.int .i64) ([5] : List Int) hF hW rfl L30 Z3 rfl rfl rfl rfl rfl rfl (Fl.int.repL _ _ ([5] : List Int)) (fun v13 a w hF hW => ?_)
     refine ls_g (wanted_y hF rfl rfl rfl rfl) ?_
     have hW := hW.frontZ (i := 1) rfl rfl
     have hW := hW.freeze
     have hW := hW.frontZ (i := 1) rfl rfl
     have hW := hW.freeze
     refine l_lit (z := Value.slice none 0 0) (cs := [v12, v13]) (Rp.slice (Rp.int .i64)) ([([0] : List Int), ([5] : List Int)] : List (List Int)) hF hW rfl L27 Z30 rfl rfl rfl (fill_cons rfl (cells_one (hW.oneF (k := 1) rfl)) rfl (fill_cons rfl (cells_one (hW.oneF (k := 0) rfl)) rfl fill_nil)) rfl rfl ⟨[v12], _, rfl, ⟨_, rfl, (hW.item (i := 1) rfl)⟩, ⟨[v13], _, rfl, ⟨_, rfl, (hW.item (i := 0) rfl)⟩, rfl⟩⟩ (fun v14 a w hF hW => ?_)
     refine ls_g (wanted_y hF rfl rfl rfl rfl) ?_
     obtain ⟨x5, h4, H⟩ := bindE H
     refine ls hF hW rfl (y_call (v := Value.bool x5) hF H14 rfl (fun w hW => route_Good_c any w (v1) (v2) (v14) (2, ([(0, 0, 1, 0, 1, 1)] : List (Int × Int × Int × Int × Int × Int)), ([(1, 5)] : List (Int × Int))) ([([0] : List Int), ([5] : List Int)] : List (List Int)) _ h4 (((rdc_row 13 rfl) : Rdc _ _ _ _ _ _) w hW).nx (((rdc_row 12 rfl) : Rdc _ _ _ _ _ _) w hW).nx (((rdc_row 0 rfl) : Rdc _ _ _ _ _ _) w hW).nx)) (fun a w hF hW => ?_)
     refine ls hF hW rfl ((y_pick_t hF rfl rfl rfl).q) (fun a w hF hW => ?_)
     refine ls hF hW rfl ((y_move hF rfl).q) (fun a w hF hW => ?_)
     rcases Bool.eq_false_or_eq_true x5 with hb | hb
     ·
      have H := iteT hb H
      rw [hb] at hF
      clear hb
      refine ls_w hF hW (wanted_y hF rfl rfl rfl rfl) rfl (Nat.le_of_ble_eq_true rfl) ((y_load (v := Value.agg #[.int .i64 2, v1, v2]) 0 hF rfl rfl T25 rfl).q) (fun a w hF hW => ?_)
      refine ls_g (wanted_y hF rfl rfl rfl rfl) ?_
      refine l_lit (z := Value.int .i64 0) (cs := [.int .i64 5]) (Rp.int .i64) ([5] : List Int) hF hW rfl L30 Z3 rfl rfl rfl rfl rfl rfl (Fl.int.repL _ _ ([5] : List Int)) (fun v15 a w hF hW => ?_)
      refine ls_g (wanted_y hF rfl rfl rfl rfl) ?_
      refine l_lit (z := Value.int .i64 0) (cs := [.int .i64 5]) (Rp.int .i64) ([5] : List Int) hF hW rfl L30 Z3 rfl rfl rfl rfl rfl rfl (Fl.int.repL _ _ ([5] : List Int)) (fun v16 a w hF hW => ?_)
      refine ls_g (wanted_y hF rfl rfl rfl rfl) ?_
      have hW := hW.frontZ (i := 1) rfl rfl
      have hW := hW.freeze
      have hW := hW.frontZ (i := 1) rfl rfl
      have hW := hW.freeze
      refine l_lit (z := Value.slice none 0 0) (cs := [v15, v16]) (Rp.slice (Rp.int .i64)) ([([5] : List Int), ([5] : List Int)] : List (List Int)) hF hW rfl L27 Z30 rfl rfl rfl (fill_cons rfl (cells_one (hW.oneF (k := 1) rfl)) rfl (fill_cons rfl (cells_one (hW.oneF (k := 0) rfl)) rfl fill_nil)) rfl rfl ⟨[v15], _, rfl, ⟨_, rfl, (hW.item (i := 1) rfl)⟩, ⟨[v16], _, rfl, ⟨_, rfl, (hW.item (i := 0) rfl)⟩, rfl⟩⟩ (fun v17 a w hF hW => ?_)
      refine ls_g (wanted_y hF rfl rfl rfl rfl) ?_
      obtain ⟨x6, h5, H⟩ := bindE H
      refine ls hF hW rfl (y_call (v := Value.bool x6) hF H14 rfl (fun w hW => route_Good_c any w (v1) (v2) (v17) (2, ([(0, 0, 1, 0, 1, 1)] : List (Int × Int × Int × Int × Int × Int)), ([(1, 5)] : List (Int × Int))) ([([5] : List Int), ([5] : List Int)] : List (List Int)) _ h5 (((rdc_row 16 rfl) : Rdc _ _ _ _ _ _) w hW).nx (((rdc_row 15 rfl) : Rdc _ _ _ _ _ _) w hW).nx (((rdc_row 0 rfl) : Rdc _ _ _ _ _ _) w hW).nx)) (fun a w hF hW => ?_)
      refine ls_w hF hW (wanted_y hF rfl rfl rfl rfl) rfl (Nat.le_of_ble_eq_true rfl) ((y_not hF rfl).q) (fun a w hF hW => ?_)
      refine ls hF hW rfl ((y_pick_t hF rfl rfl rfl).q) (fun a w hF hW => ?_)
      refine ls hF hW rfl ((y_assign hF rfl).q) (fun a w hF hW => ?_)
      refine ls_nil (c_then ?_)
      have hW := hW.frontZ (i := 15) rfl rfl
      have hW := hW.frontZ (i := 16) rfl rfl
      have hW := hW.sub (M' := [(b1, [.int .i64 2, v1, v2])]) (Z' := [row v1 57 R57 ([(0, 0, 1, 0, 1, 1)] : List (Int × Int × Int × Int × Int × Int)), row v2 36 R36 ([(1, 5)] : List (Int × Int))]) (List.Sublist.refl _) (List.Sublist.cons_cons _ (List.Sublist.cons_cons _ (List.nil_sublist _)))
      exact ⟨_, H, hF.re ⟨rfl, trivial⟩, hW⟩
     ·
      have H := iteF (by rw [hb]; decide) H
      rw [hb] at hF
      clear hb
      iterate 6 refine lsn hF rfl rfl rfl rfl rfl rfl rfl (fun a hF => ?_)
      refine ls hF hW rfl ((y_pick_f hF rfl rfl rfl).q) (fun a w hF hW => ?_)
      refine ls hF hW rfl ((y_assign hF rfl).q) (fun a w hF hW => ?_)
      refine ls_nil (c_then ?_)
      have hW := hW.frontZ (i := 12) rfl rfl
      have hW := hW.frontZ (i := 13) rfl rfl
      have hW := hW.sub (M' := [(b1, [.int .i64 2, v1, v2])]) (Z' := [row v1 57 R57 ([(0, 0, 1, 0, 1, 1)] : List (Int × Int × Int × Int × Int × Int)), row v2 36 R36 ([(1, 5)] : List (Int × Int))]) (List.Sublist.refl _) (List.Sublist.cons_cons _ (List.Sublist.cons_cons _ (List.nil_sublist _)))
      exact ⟨_, H, hF.re ⟨rfl, trivial⟩, hW⟩
    ·
     have H := iteF (of_decide_eq_false hb) H
     rw [hb] at hF
     clear hb
     iterate 5 refine lsn hF rfl rfl rfl rfl rfl rfl rfl (fun a hF => ?_)
     refine ls hF hW rfl ((y_pick_f hF rfl rfl rfl).q) (fun a w hF hW => ?_)
     refine ls hF hW rfl ((y_move hF rfl).q) (fun a w hF hW => ?_)
     iterate 6 refine lsn hF rfl rfl rfl rfl rfl rfl rfl (fun a hF => ?_)
     refine ls hF hW rfl ((y_pick_f hF rfl rfl rfl).q) (fun a w hF hW => ?_)
     refine ls hF hW rfl ((y_assign hF rfl).q) (fun a w hF hW => ?_)
     refine ls_nil (c_then ?_)
     have hW := hW.frontZ (i := 9) rfl rfl
     have hW := hW.frontZ (i := 10) rfl rfl
     have hW := hW.sub (M' := [(b1, [.int .i64 2, v1, v2])]) (Z' := [row v1 57 R57 ([(0, 0, 1, 0, 1, 1)] : List (Int × Int × Int × Int × Int × Int)), row v2 36 R36 ([(1, 5)] : List (Int × Int))]) (List.Sublist.refl _) (List.Sublist.cons_cons _ (List.Sublist.cons_cons _ (List.nil_sublist _)))
     exact ⟨_, H, hF.re ⟨rfl, trivial⟩, hW⟩
   ·
    have H := iteF (by rw [hb]; decide) H
    rw [hb] at hF
    clear hb
    iterate 2 refine lsn hF rfl rfl rfl rfl rfl rfl rfl (fun a hF => ?_)
    refine ls hF hW rfl ((y_pick_f hF rfl rfl rfl).q) (fun a w hF hW => ?_)
    refine ls hF hW rfl ((y_move hF rfl).q) (fun a w hF hW => ?_)
    iterate 5 refine lsn hF rfl rfl rfl rfl rfl rfl rfl (fun a hF => ?_)
    refine ls hF hW rfl ((y_pick_f hF rfl rfl rfl).q) (fun a w hF hW => ?_)
    refine ls hF hW rfl ((y_move hF rfl).q) (fun a w hF hW => ?_)
    iterate 6 refine lsn hF rfl rfl rfl rfl rfl rfl rfl (fun a hF => ?_)
    refine ls hF hW rfl ((y_pick_f hF rfl rfl rfl).q) (fun a w hF hW => ?_)
    refine ls hF hW rfl ((y_assign hF rfl).q) (fun a w hF hW => ?_)
    refine ls_nil (c_then ?_)
    have hW := hW.frontZ (i := 9) rfl rfl
    have hW := hW.frontZ (i := 10) rfl rfl
    have hW := hW.sub (M' := [(b1, [.int .i64 2, v1, v2])]) (Z' := [row v1 57 R57 ([(0, 0, 1, 0, 1, 1)] : List (Int × Int × Int × Int × Int × Int)), row v2 36 R36 ([(1, 5)] : List (Int × Int))]) (List.Sublist.refl _) (List.Sublist.cons_cons _ (List.Sublist.cons_cons _ (List.nil_sublist _)))
    exact ⟨_, H, hF.re ⟨rfl, trivial⟩, hW⟩
  ·
   have H := iteF (of_decide_eq_false hb) H
   rw [hb] at hF
   clear hb
   iterate 3 refine lsn hF rfl rfl rfl rfl rfl rfl rfl (fun a hF => ?_)
   refine ls hF hW rfl ((y_pick_f hF rfl rfl rfl).q) (fun a w hF hW => ?_)
   refine ls hF hW rfl ((y_move hF rfl).q) (fun a w hF hW => ?_)
   iterate 2 refine lsn hF rfl rfl rfl rfl rfl rfl rfl (fun a hF => ?_)
   refine ls hF hW rfl ((y_pick_f hF rfl rfl rfl).q) (fun a w hF hW => ?_)
   refine ls hF hW rfl ((y_move hF rfl).q) (fun a w hF hW => ?_)
   iterate 5 refine lsn hF rfl rfl rfl rfl rfl rfl rfl (fun a hF => ?_)
   refine ls hF hW rfl ((y_pick_f hF rfl rfl rfl).q) (fun a w hF hW => ?_)
   refine ls hF hW rfl ((y_move hF rfl).q) (fun a w hF hW => ?_)
   iterate 6 refine lsn hF rfl rfl rfl rfl rfl rfl rfl (fun a hF => ?_)
   refine ls hF hW rfl ((y_pick_f hF rfl rfl rfl).q) (fun a w hF hW => ?_)
   refine ls hF hW rfl ((y_assign hF rfl).q) (fun a w hF hW => ?_)
   refine ls_nil (c_then ?_)
   have hW := hW.frontZ (i := 8) rfl rfl
   have hW := hW.frontZ (i := 9) rfl rfl
   have hW := hW.sub (M' := [(b1, [.int .i64 2, v1, v2])]) (Z' := [row v1 57 R57 ([(0, 0, 1, 0, 1, 1)] : List (Int × Int × Int × Int × Int × Int)), row v2 36 R36 ([(1, 5)] : List (Int × Int))]) (List.Sublist.refl _) (List.Sublist.cons_cons _ (List.Sublist.cons_cons _ (List.nil_sublist _)))
   exact ⟨_, H, hF.re ⟨rfl, trivial⟩, hW⟩
 rintro a w ⟨x3, hj, hF, hW⟩
 have hj := Option.some.inj hj
 subst hj
 have H := K1
 clear G1 K1
 refine wp_ret ?_
 have H := Option.some.inj H
 subst H
 refine post1 (.inl rfl) hF hW rfl (rv_tmp hF rfl) ?_
 exact ⟨rfl, hW.done⟩

theorem u67_ : type_of% Try.underlying67 := Try.underlying67
theorem H7 : Has Try.prog 7 := ⟨fun args w => run_callFunc_body Try.func7 rfl (by decide) args w⟩
theorem Z70 : (Try.prog.info? 70).bind (·.zero) = some (.agg #[.int .i64 0, .int .i64 0, .int .i64 0, .int .i64 0, .int .i64 0, .int .i64 0, .int .i64 0, .int .i64 0, .int .i64 0, .int .i64 0, .slice none 0 0]) := by kernel_rfl
theorem Z67 : (Try.prog.info? 67).bind (·.zero) = some (.agg #[.int .i64 0, .int .i64 0, .int .i64 0, .int .i64 0, .int .i64 0, .int .i64 0, .int .i64 0, .int .i64 0, .int .i64 0]) := by kernel_rfl
theorem B67 : Bt Try.prog 67 [.int .i64 0, .int .i64 0, .int .i64 0, .int .i64 0, .int .i64 0, .int .i64 0, .int .i64 0, .int .i64 0, .int .i64 0] [(0, 1), (1, 4), (5, 4)] := ⟨⟨.agg #[.int .i64 0, .int .i64 0, .int .i64 0, .int .i64 0, .int .i64 0, .int .i64 0, .int .i64 0, .int .i64 0, .int .i64 0], by kernel_rfl, rfl⟩, ⟨_, u67_, fun w => by kernel_rfl⟩⟩
theorem T67 : Ty Try.prog 67 true 9 := ⟨by kernel_rfl, by kernel_rfl⟩
def match_Any  : (Int × (Int × Int × Int × Int) × (Int × Int × Int × Int)) := ((-1), (0, 0, 0, 0), (0, 0, 0, 0))
theorem match_Any_c (Y : Nat → Prop) (w0 : World)   (r : (Int × (Int × Int × Int × Int) × (Int × Int × Int × Int))) (H : match_Any  = r)  :
    Calls Try.prog 74 #[] w0 fun e w' => e = .returned (.agg #[.int .i64 r.1, .int .i64 r.2.1.1, .int .i64 r.2.1.2.1, .int .i64 r.2.1.2.2.1, .int .i64 r.2.1.2.2.2, .int .i64 r.2.2.1, .int .i64 r.2.2.2.1, .int .i64 r.2.2.2.2.1, .int .i64 r.2.2.2.2.2]) ∧ Below w0.heap.size w0 w' := by
 refine enter Try.func74 rfl Try.ntmps74 rfl (fun a hF => ?_)
 have hW := Stw.start Y w0
 unfold match_Any at H
 refine c_seq (reg_list ?_)
 refine l_alloc (cs := [.int .i64 0, .int .i64 0, .int .i64 0, .int .i64 0, .int .i64 0, .int .i64 0, .int .i64 0, .int .i64 0, .int .i64 0]) hF hW rfl Z67 rfl (fun b1 a w hF hW => ?_)
 refine ls_nil (c_then ?_)
 refine c_seq (reg_list ?_)
 refine ls hF hW rfl ((y_build (v := Value.agg #[.int .i64 (-1), .int .i64 0, .int .i64 0, .int .i64 0, .int .i64 0, .int .i64 0, .int .i64 0, .int .i64 0, .int .i64 0]) B67 hF rfl rfl rfl).q) (fun a w hF hW => ?_)
 refine l_store (vs := [.int .i64 (-1), .int .i64 0, .int .i64 0, .int .i64 0, .int .i64 0, .int .i64 0, .int .i64 0, .int .i64 0, .int .i64 0]) (M' := [(b1, [.int .i64 (-1), .int .i64 0, .int .i64 0, .int .i64 0, .int .i64 0, .int .i64 0, .int .i64 0, .int .i64 0, .int .i64 0])]) 0 hF hW rfl rfl rfl T67 rfl rfl rfl rfl rfl (fun w hW => ?_)
 refine ls_nil (c_then ?_)
 refine wp_ret ?_
 subst H
 refine post1 (.inl rfl) hF hW rfl (rv_cell 0 hF rfl rfl T67 rfl) ?_
 exact ⟨rfl, hW.done⟩

theorem H74 : Has Try.prog 74 := ⟨fun args w => run_callFunc_body Try.func74 rfl (by decide) args w⟩
noncomputable def packet_Bits (p0 : Int) : Option Int := (if p0 = 0 then some true else (if p0 = 1 then some true else some (decide (p0 = 3)))).bind fun x1 => (if x1 = true then some 8 else (if p0 = 2 then some 4 else some 0))
theorem packet_Bits_c (Y : Nat → Prop) (w0 : World)  (p0 : Int) (r : Int) (H : packet_Bits p0 = some r)  :
    Calls Try.prog 87 #[.int .i64 p0] w0 fun e w' => e = .returned (.int .i64 r) ∧ Below w0.heap.size w0 w' := by
 refine enter Try.func87 rfl Try.ntmps87 rfl (fun a hF => ?_)
 have hW := Stw.start Y w0
 unfold packet_Bits at H
 refine c_seq (reg_list ?_)
 refine ls hF hW rfl ((y_assign hF rfl).q) (fun a w hF hW => ?_)
 refine ls_nil (c_then ?_)
 refine c_seq ?_
 refine c_seq (reg_list ?_)
 refine ls hF hW rfl ((y_move hF rfl).q) (fun a w hF hW => ?_)
 refine ls_nil (c_then ?_)
 refine wp_block ?_
 obtain ⟨o1, G1, K1⟩ := bindE H
 refine c_seqJ (fun a w => ∃ x1 : Bool, some (x1) = some o1 ∧ Fr 10 [] [(2, .int .i64 0), (3, .int .i64 p0), (4, .bool x1)] a ∧ Stw ⟨Y, [], w0⟩ [] [] w) ?_ ?_
 ·
  have H := G1
  clear G1 K1
  refine c_seq (reg_list ?_)
  refine ls hF hW rfl ((y_eql hF rfl rfl).q) (fun a w hF hW => ?_)
  refine ls hF hW rfl ((y_assign hF rfl).q) (fun a w hF hW => ?_)
  refine ls_nil (c_then ?_)
  refine c_cond hF rfl (fun hb => ?_) (fun hb => ?_)
  ·
   have H := iteT (of_decide_eq_true hb) H
   rw [hb] at hF
   clear hb
   refine wp_skip ?_
   refine c_then ?_
   exact ⟨_, H, hF.re ⟨rfl, rfl, rfl, trivial⟩, hW⟩
  ·
   have H := iteF (of_decide_eq_false hb) H
   rw [hb] at hF
   clear hb
   refine c_seq (reg_list ?_)
   refine ls hF hW rfl ((y_eql hF rfl rfl).q) (fun a w hF hW => ?_)
   refine ls hF hW rfl ((y_assign hF rfl).q) (fun a w hF hW => ?_)
   refine ls_nil (c_then ?_)
   refine c_cond hF rfl (fun hb => ?_) (fun hb => ?_)
   ·
    have H := iteT (of_decide_eq_true hb) H
    rw [hb] at hF
    clear hb
    refine wp_skip ?_
    refine c_then ?_
    exact ⟨_, H, hF.re ⟨rfl, rfl, rfl, trivial⟩, hW⟩
   ·
    have H := iteF (of_decide_eq_false hb) H
    rw [hb] at hF
    clear hb
    refine reg_list ?_
    refine ls hF hW rfl ((y_eql hF rfl rfl).q) (fun a w hF hW => ?_)
    refine ls hF hW rfl ((y_assign hF rfl).q) (fun a w hF hW => ?_)
    refine ls_nil (c_then ?_)
    exact ⟨_, H, hF.re ⟨rfl, rfl, rfl, trivial⟩, hW⟩
 rintro a w ⟨x1, hj, hF, hW⟩
 have hj := Option.some.inj hj
 subst hj
 have H := K1
 clear G1 K1
 refine c_cond hF rfl (fun hb => ?_) (fun hb => ?_)
 ·
  have H := iteT hb H
  rw [hb] at hF
  clear hb
  refine c_seq (reg_list ?_)
  refine ls hF hW rfl ((y_assign hF rfl).q) (fun a w hF hW => ?_)
  refine ls_nil (c_then ?_)
  refine wp_ret ?_
  refine r_block ?_
  refine r_then ?_
  have H := Option.some.inj H
  subst H
  refine post1 (.inl rfl) hF hW rfl (rv_tmp hF rfl) ?_
  exact ⟨rfl, hW.done⟩
 ·
  have H := iteF (by rw [hb]; decide) H
  rw [hb] at hF
  clear hb
  refine c_seq (reg_list ?_)
  refine ls hF hW rfl ((y_eql hF rfl rfl).q) (fun a w hF hW => ?_)
  refine ls hF hW rfl ((y_assign hF rfl).q) (fun a w hF hW => ?_)
  refine ls_nil (c_then ?_)
  refine c_cond hF rfl (fun hb => ?_) (fun hb => ?_)
  ·
   have H := iteT (of_decide_eq_true hb) H
   rw [hb] at hF
   clear hb
   refine c_seq (reg_list ?_)
   refine ls hF hW rfl ((y_assign hF rfl).q) (fun a w hF hW => ?_)
   refine ls_nil (c_then ?_)
   refine wp_ret ?_
   refine r_block ?_
   refine r_then ?_
   have H := Option.some.inj H
   subst H
   refine post1 (.inl rfl) hF hW rfl (rv_tmp hF rfl) ?_
   exact ⟨rfl, hW.done⟩
  ·
   have H := iteF (of_decide_eq_false hb) H
   rw [hb] at hF
   clear hb
   refine wp_skip ?_
   refine b_normal ?_
   refine c_then ?_
   refine c_seq (reg_list ?_)
   refine ls hF hW rfl ((y_assign hF rfl).q) (fun a w hF hW => ?_)
   refine ls_nil (c_then ?_)
   refine wp_ret ?_
   have H := Option.some.inj H
   subst H
   refine post1 (.inl rfl) hF hW rfl (rv_tmp hF rfl) ?_
   exact ⟨rfl, hW.done⟩

theorem H87 : Has Try.prog 87 := ⟨fun args w => run_callFunc_body Try.func87 rfl (by decide) args w⟩
noncomputable def packet_Top (p0 : Int) : Option Int := (packet_Bits p0).bind fun x1 => (shN (shlI .i64 1 x1) x1).bind fun x2 => some (w64 (x2 - 1))
theorem packet_Top_c (Y : Nat → Prop) (w0 : World)  (p0 : Int) (r : Int) (H : packet_Top p0 = some r)  :
    Calls Try.prog 75 #[.int .i64 p0] w0 fun e w' => e = .returned (.int .i64 r) ∧ Below w0.heap.size w0 w' := by
 refine enter Try.func75 rfl Try.ntmps75 rfl (fun a hF => ?_)
 have hW := Stw.start Y w0
 unfold packet_Top at H
 refine c_seq (reg_list ?_)
 refine ls hF hW rfl ((y_assign hF rfl).q) (fun a w hF hW => ?_)
 refine ls_nil (c_then ?_)
 refine c_seq (reg_list ?_)
 refine ls hF hW rfl ((y_move hF rfl).q) (fun a w hF hW => ?_)
 obtain ⟨x1, h1, H⟩ := bindE H
 refine ls hF hW rfl (y_call (v := Value.int .i64 x1) hF H87 rfl (fun w hW => packet_Bits_c any w p0 _ h1)) (fun a w hF hW => ?_)
 obtain ⟨x2, h2, H⟩ := bindE H
 refine ls hF hW rfl ((y_shc (shN_some h2).2 (y_shl hF rfl rfl (shN_some h2).1)).q) (fun a w hF hW => ?_)
 refine ls hF hW rfl ((y_sub hF rfl rfl rfl).q) (fun a w hF hW => ?_)
 refine ls hF hW rfl ((y_assign hF rfl).q) (fun a w hF hW => ?_)
 refine ls_nil (c_then ?_)
 refine wp_ret ?_
 have H := Option.some.inj H
 subst H
 refine post1 (.inl rfl) hF hW rfl (rv_tmp hF rfl) ?_
 exact ⟨rfl, hW.done⟩

theorem u45_ : type_of% Try.underlying45 := Try.underlying45
theorem H75 : Has Try.prog 75 := ⟨fun args w => run_callFunc_body Try.func75 rfl (by decide) args w⟩
theorem T45 : Ty Try.prog 45 true 4 := ⟨by kernel_rfl, by kernel_rfl⟩
theorem Ar45 : Ar Try.prog 45 4 3 1 := ⟨u45_, by kernel_rfl⟩
noncomputable def match_Of (p0 : Int) (p1 : Int) : Option (Int × (Int × Int × Int × Int) × (Int × Int × Int × Int)) := (if p0 < 0 then some true else (if 4 ≤ p0 then some true else (if p1 < 0 then some true else (packet_Top p0).bind fun x2 => some (decide (x2 < p1))))).bind fun x1 => (if x1 = true then some match_Any else (ix ([match_Any.2.1.1, match_Any.2.1.2.1, match_Any.2.1.2.2.1, match_Any.2.1.2.2.2] : List Int) p0).bind fun x3 => (packet_Top p0).bind fun x4 => (ix ([match_Any.2.2.1, match_Any.2.2.2.1, match_Any.2.2.2.2.1, match_Any.2.2.2.2.2] : List Int) p0).bind fun x5 => some (match_Any.1, ((if p0 = 0 then p1 else match_Any.2.1.1), (if p0 = 1 then p1 else match_Any.2.1.2.1), (if p0 = 2 then p1 else match_Any.2.1.2.2.1), (if p0 = 3 then p1 else match_Any.2.1.2.2.2)), ((if p0 = 0 then x4 else match_Any.2.2.1), (if p0 = 1 then x4 else match_Any.2.2.2.1), (if p0 = 2 then x4 else match_Any.2.2.2.2.1), (if p0 = 3 then x4 else match_Any.2.2.2.2.2))))
theorem match_Of_c (Y : Nat → Prop) (w0 : World)  (p0 : Int) (p1 : Int) (r : (Int × (Int × Int × Int × Int) × (Int × Int × Int × Int))) (H : match_Of p0 p1 = some r)  :
    Calls Try.prog 48 #[.int .i64 p0, .int .i64 p1] w0 fun e w' => e = .returned (.agg #[.int .i64 r.1, .int .i64 r.2.1.1, .int .i64 r.2.1.2.1, .int .i64 r.2.1.2.2.1, .int .i64 r.2.1.2.2.2, .int .i64 r.2.2.1, .int .i64 r.2.2.2.1, .int .i64 r.2.2.2.2.1, .int .i64 r.2.2.2.2.2]) ∧ Below w0.heap.size w0 w' := by
 refine enter Try.func48 rfl Try.ntmps48 rfl (fun a hF => ?_)
 have hW := Stw.start Y w0
 unfold match_Of at H
 refine c_seq (reg_list ?_)
 refine l_alloc (cs := [.int .i64 0, .int .i64 0, .int .i64 0, .int .i64 0, .int .i64 0, .int .i64 0, .int .i64 0, .int .i64 0, .int .i64 0]) hF hW rfl Z67 rfl (fun b1 a w hF hW => ?_)
 refine ls_nil (c_then ?_)
 refine c_seq (reg_list ?_)
 refine ls hF hW rfl (y_call (v := Value.agg #[.int .i64 match_Any.1, .int .i64 match_Any.2.1.1, .int .i64 match_Any.2.1.2.1, .int .i64 match_Any.2.1.2.2.1, .int .i64 match_Any.2.1.2.2.2, .int .i64 match_Any.2.2.1, .int .i64 match_Any.2.2.2.1, .int .i64 match_Any.2.2.2.2.1, .int .i64 match_Any.2.2.2.2.2]) hF H74 rfl (fun w hW => match_Any_c any w _ rfl)) (fun a w hF hW => ?_)
 refine l_alloc (cs := [.int .i64 0, .int .i64 0, .int .i64 0, .int .i64 0, .int .i64 0, .int .i64 0, .int .i64 0, .int .i64 0, .int .i64 0]) hF hW rfl Z67 rfl (fun b2 a w hF hW => ?_)
 refine l_store (vs := [.int .i64 match_Any.1, .int .i64 match_Any.2.1.1, .int .i64 match_Any.2.1.2.1, .int .i64 match_Any.2.1.2.2.1, .int .i64 match_Any.2.1.2.2.2, .int .i64 match_Any.2.2.1, .int .i64 match_Any.2.2.2.1, .int .i64 match_Any.2.2.2.2.1, .int .i64 match_Any.2.2.2.2.2]) (M' := [(b2, [.int .i64 match_Any.1, .int .i64 match_Any.2.1.1, .int .i64 match_Any.2.1.2.1, .int .i64 match_Any.2.1.2.2.1, .int .i64 match_Any.2.1.2.2.2, .int .i64 match_Any.2.2.1, .int .i64 match_Any.2.2.2.1, .int .i64 match_Any.2.2.2.2.1, .int .i64 match_Any.2.2.2.2.2]), (b1, [.int .i64 0, .int .i64 0, .int .i64 0, .int .i64 0, .int .i64 0, .int .i64 0, .int .i64 0, .int .i64 0, .int .i64 0])]) 0 hF hW rfl rfl rfl T67 rfl rfl rfl rfl rfl (fun w hW => ?_)
 refine ls_nil (c_then ?_)
 refine c_seq ?_
 obtain ⟨o1, G1, K1⟩ := bindE H
 refine c_seqJ (fun a w => ∃ x1 : Bool, some (x1) = some o1 ∧ Fr 34 [] [(0, .int .i64 p0), (1, .int .i64 p1), (4, .pointer (some ⟨b1, 0, none⟩)), (5, .pointer (some ⟨b2, 0, none⟩)), (22, .bool x1)] a ∧ Stw ⟨Y, [], w0⟩ [(b2, [.int .i64 match_Any.1, .int .i64 match_Any.2.1.1, .int .i64 match_Any.2.1.2.1, .int .i64 match_Any.2.1.2.2.1, .int .i64 match_Any.2.1.2.2.2, .int .i64 match_Any.2.2.1, .int .i64 match_Any.2.2.2.1, .int .i64 match_Any.2.2.2.2.1, .int .i64 match_Any.2.2.2.2.2]), (b1, [.int .i64 0, .int .i64 0, .int .i64 0, .int .i64 0, .int .i64 0, .int .i64 0, .int .i64 0, .int .i64 0, .int .i64 0])] [] w) ?_ ?_
 ·
  have H := G1
  clear G1 K1
  refine reg_list ?_
  refine ls hF hW rfl ((y_move hF rfl).q) (fun a w hF hW => ?_)
  refine ls hF hW rfl ((y_lss hF rfl rfl).q) (fun a w hF hW => ?_)
  refine ls hF hW rfl ((y_move hF rfl).q) (fun a w hF hW => ?_)
  rcases Bool.eq_false_or_eq_true (decide (p0 < 0)) with hb | hb
  ·
   have H := iteT (of_decide_eq_true hb) H
   rw [hb] at hF
   clear hb
   iterate 2 refine lsn hF rfl rfl rfl rfl rfl rfl rfl (fun a hF => ?_)
   refine ls hF hW rfl ((y_pick_t hF rfl rfl rfl).q) (fun a w hF hW => ?_)
   refine ls hF hW rfl ((y_move hF rfl).q) (fun a w hF hW => ?_)
   iterate 2 refine lsn hF rfl rfl rfl rfl rfl rfl rfl (fun a hF => ?_)
   refine ls hF hW rfl ((y_pick_t hF rfl rfl rfl).q) (fun a w hF hW => ?_)
   refine ls hF hW rfl ((y_move hF rfl).q) (fun a w hF hW => ?_)
   iterate 4 refine lsn hF rfl rfl rfl rfl rfl rfl rfl (fun a hF => ?_)
   refine ls hF hW rfl ((y_pick_t hF rfl rfl rfl).q) (fun a w hF hW => ?_)
   refine ls_nil (c_then ?_)
   have hW := hW.frontM (i := 1) rfl rfl
   have hW := hW.frontM (i := 1) rfl rfl
   exact ⟨_, H, hF.re ⟨rfl, rfl, rfl, rfl, rfl, trivial⟩, hW⟩
  ·
   have H := iteF (of_decide_eq_false hb) H
   rw [hb] at hF
   clear hb
   refine ls_w hF hW (wanted_y hF rfl rfl rfl rfl) rfl (Nat.le_of_ble_eq_true rfl) ((y_move hF rfl).q) (fun a w hF hW => ?_)
   refine ls_w hF hW (wanted_y hF rfl rfl rfl rfl) rfl (Nat.le_of_ble_eq_true rfl) ((y_geq hF rfl rfl).q) (fun a w hF hW => ?_)
   refine ls hF hW rfl ((y_pick_f hF rfl rfl rfl).q) (fun a w hF hW => ?_)
   refine ls hF hW rfl ((y_move hF rfl).q) (fun a w hF hW => ?_)
   rcases Bool.eq_false_or_eq_true (decide (4 ≤ p0)) with hb | hb
   ·
    have H := iteT (of_decide_eq_true hb) H
    rw [hb] at hF
    clear hb
    iterate 2 refine lsn hF rfl rfl rfl rfl rfl rfl rfl (fun a hF => ?_)
    refine ls hF hW rfl ((y_pick_t hF rfl rfl rfl).q) (fun a w hF hW => ?_)
    refine ls hF hW rfl ((y_move hF rfl).q) (fun a w hF hW => ?_)
    iterate 4 refine lsn hF rfl rfl rfl rfl rfl rfl rfl (fun a hF => ?_)
    refine ls hF hW rfl ((y_pick_t hF rfl rfl rfl).q) (fun a w hF hW => ?_)
    refine ls_nil (c_then ?_)
    have hW := hW.frontM (i := 1) rfl rfl
    have hW := hW.frontM (i := 1) rfl rfl
    exact ⟨_, H, hF.re ⟨rfl, rfl, rfl, rfl, rfl, trivial⟩, hW⟩
   ·
    have H := iteF (of_decide_eq_false hb) H
    rw [hb] at hF
    clear hb
    refine ls_w hF hW (wanted_y hF rfl rfl rfl rfl) rfl (Nat.le_of_ble_eq_true rfl) ((y_move hF rfl).q) (fun a w hF hW => ?_)
    refine ls_w hF hW (wanted_y hF rfl rfl rfl rfl) rfl (Nat.le_of_ble_eq_true rfl) ((y_lss hF rfl rfl).q) (fun a w hF hW => ?_)
    refine ls hF hW rfl ((y_pick_f hF rfl rfl rfl).q) (fun a w hF hW => ?_)
    refine ls hF hW rfl ((y_move hF rfl).q) (fun a w hF hW => ?_)
    rcases Bool.eq_false_or_eq_true (decide (p1 < 0)) with hb | hb
    ·
     have H := iteT (of_decide_eq_true hb) H
     rw [hb] at hF
     clear hb
     iterate 4 refine lsn hF rfl rfl rfl rfl rfl rfl rfl (fun a hF => ?_)
     refine ls hF hW rfl ((y_pick_t hF rfl rfl rfl).q) (fun a w hF hW => ?_)
     refine ls_nil (c_then ?_)
     have hW := hW.frontM (i := 1) rfl rfl
     have hW := hW.frontM (i := 1) rfl rfl
     exact ⟨_, H, hF.re ⟨rfl, rfl, rfl, rfl, rfl, trivial⟩, hW⟩
    ·
     have H := iteF (of_decide_eq_false hb) H
     rw [hb] at hF
     clear hb
     iterate 2 refine ls_w hF hW (wanted_y hF rfl rfl rfl rfl) rfl (Nat.le_of_ble_eq_true rfl) ((y_move hF rfl).q) (fun a w hF hW => ?_)
     refine ls_g (wanted_y hF rfl rfl rfl rfl) ?_
     obtain ⟨x2, h1, H⟩ := bindE H
     refine ls hF hW rfl (y_call (v := Value.int .i64 x2) hF H75 rfl (fun w hW => packet_Top_c any w p0 _ h1)) (fun a w hF hW => ?_)
     refine ls_w hF hW (wanted_y hF rfl rfl rfl rfl) rfl (Nat.le_of_ble_eq_true rfl) ((y_gtr hF rfl rfl).q) (fun a w hF hW => ?_)
     refine ls hF hW rfl ((y_pick_f hF rfl rfl rfl).q) (fun a w hF hW => ?_)
     refine ls_nil (c_then ?_)
     have hW := hW.frontM (i := 1) rfl rfl
     have hW := hW.frontM (i := 1) rfl rfl
     exact ⟨_, H, hF.re ⟨rfl, rfl, rfl, rfl, rfl, trivial⟩, hW⟩
 rintro a w ⟨x1, hj, hF, hW⟩
 have hj := Option.some.inj hj
 subst hj
 have H := K1
 clear G1 K1
 refine c_cond hF rfl (fun hb => ?_) (fun hb => ?_)
 ·
  have H := iteT hb H
  rw [hb] at hF
  clear hb
  refine c_seq (reg_list ?_)
  refine ls hF hW rfl ((y_load (v := Value.agg #[.int .i64 match_Any.1, .int .i64 match_Any.2.1.1, .int .i64 match_Any.2.1.2.1, .int .i64 match_Any.2.1.2.2.1, .int .i64 match_Any.2.1.2.2.2, .int .i64 match_Any.2.2.1, .int .i64 match_Any.2.2.2.1, .int .i64 match_Any.2.2.2.2.1, .int .i64 match_Any.2.2.2.2.2]) 0 hF rfl rfl T67 rfl).q) (fun a w hF hW => ?_)
  refine l_store (vs := [.int .i64 match_Any.1, .int .i64 match_Any.2.1.1, .int .i64 match_Any.2.1.2.1, .int .i64 match_Any.2.1.2.2.1, .int .i64 match_Any.2.1.2.2.2, .int .i64 match_Any.2.2.1, .int .i64 match_Any.2.2.2.1, .int .i64 match_Any.2.2.2.2.1, .int .i64 match_Any.2.2.2.2.2]) (M' := [(b2, [.int .i64 match_Any.1, .int .i64 match_Any.2.1.1, .int .i64 match_Any.2.1.2.1, .int .i64 match_Any.2.1.2.2.1, .int .i64 match_Any.2.1.2.2.2, .int .i64 match_Any.2.2.1, .int .i64 match_Any.2.2.2.1, .int .i64 match_Any.2.2.2.2.1, .int .i64 match_Any.2.2.2.2.2]), (b1, [.int .i64 match_Any.1, .int .i64 match_Any.2.1.1, .int .i64 match_Any.2.1.2.1, .int .i64 match_Any.2.1.2.2.1, .int .i64 match_Any.2.1.2.2.2, .int .i64 match_Any.2.2.1, .int .i64 match_Any.2.2.2.1, .int .i64 match_Any.2.2.2.2.1, .int .i64 match_Any.2.2.2.2.2])]) 1 hF hW rfl rfl rfl T67 rfl rfl rfl rfl rfl (fun w hW => ?_)
  refine ls_nil (c_then ?_)
  refine wp_ret ?_
  refine r_then ?_
  have H := Option.some.inj H
  subst H
  refine post1 (.inl rfl) hF hW rfl (rv_cell 1 hF rfl rfl T67 rfl) ?_
  exact ⟨rfl, hW.done⟩
 ·
  have H := iteF (by rw [hb]; decide) H
  rw [hb] at hF
  clear hb
  refine wp_skip ?_
  refine c_then ?_
  refine c_seq ?_
  refine reg_plan [(true, 0), (true, 1), (true, 2), (true, 3), (true, 5), (true, 6), (true, 8), (false, 4), (false, 7), (true, 9), (false, 10)] (CN ⟨Y, [], w0⟩ [] []) (fun ch a d v w h => by cases d <;> exact h) MO (by kernel_rfl) hW (fun w hW => ⟨_, _, hW, all_nil, all_nil⟩) (fun w hW => ?_)
  iterate 4 refine pl_t (R := []) hF rfl rfl (yC fun M Z hN hZ => y_move hF rfl) rfl rfl (fun a hF => ?_)
  refine pl_t (R := []) hF rfl rfl (yC fun M Z hN hZ => y_fieldAddr u67_ rfl rfl rfl T45 hF rfl 1 rfl) rfl rfl (fun a hF => ?_)
  obtain ⟨x3, h2, H⟩ := bindE H
  refine pl_t (R := []) hF rfl rfl (yC fun M Z hN hZ => y_indexP (1 + (p0).toNat * 1) Ar45 hF rfl rfl rfl h2 rfl) rfl rfl (fun a hF => ?_)
  refine pl_t (R := []) hF rfl rfl (yC fun M Z hN hZ => y_fieldAddr u67_ rfl rfl rfl T45 hF rfl 5 rfl) rfl rfl (fun a hF => ?_)
  refine pl_f rfl ?_
  obtain ⟨x4, h3, H⟩ := bindE H
  refine ls hF hW rfl (y_call (v := Value.int .i64 x4) hF H75 rfl (fun w hW => packet_Top_c any w p0 _ h3)) (fun a w hF hW => ?_)
  refine pl_next (N2 := []) (NZ2 := []) (N3 := []) (NZ3 := []) hW rfl rfl all_nil all_nil ?_
  refine pl_f rfl ?_
  refine l_store_dyn (o := 1) (m := 4) (i := p0) (l := ([match_Any.2.1.1, match_Any.2.1.2.1, match_Any.2.1.2.2.1, match_Any.2.1.2.2.2] : List Int)) (x := x3) (cs := [.int .i64 match_Any.1, .int .i64 match_Any.2.1.1, .int .i64 match_Any.2.1.2.1, .int .i64 match_Any.2.1.2.2.1, .int .i64 match_Any.2.1.2.2.2, .int .i64 match_Any.2.2.1, .int .i64 match_Any.2.2.2.1, .int .i64 match_Any.2.2.2.2.1, .int .i64 match_Any.2.2.2.2.2]) (cs' := [.int .i64 match_Any.1, .int .i64 (if p0 = 0 then p1 else match_Any.2.1.1), .int .i64 (if p0 = 1 then p1 else match_Any.2.1.2.1), .int .i64 (if p0 = 2 then p1 else match_Any.2.1.2.2.1), .int .i64 (if p0 = 3 then p1 else match_Any.2.1.2.2.2), .int .i64 match_Any.2.2.1, .int .i64 match_Any.2.2.2.1, .int .i64 match_Any.2.2.2.2.1, .int .i64 match_Any.2.2.2.2.2]) 0 hF hW rfl rfl rfl T3 rfl rfl rfl rfl h2 (by intro k hk hn; rw [hk]; match k, hn with | 0, _ => rfl | 1, _ => rfl | 2, _ => rfl | 3, _ => rfl | (z + 4), h => exact absurd h (by omega)) (fun w hW => ?_)
  have hW : Stw ⟨Y, [], w0⟩ [(b2, [.int .i64 match_Any.1, .int .i64 (if p0 = 0 then p1 else match_Any.2.1.1), .int .i64 (if p0 = 1 then p1 else match_Any.2.1.2.1), .int .i64 (if p0 = 2 then p1 else match_Any.2.1.2.2.1), .int .i64 (if p0 = 3 then p1 else match_Any.2.1.2.2.2), .int .i64 match_Any.2.2.1, .int .i64 match_Any.2.2.2.1, .int .i64 match_Any.2.2.2.2.1, .int .i64 match_Any.2.2.2.2.2]), (b1, [.int .i64 0, .int .i64 0, .int .i64 0, .int .i64 0, .int .i64 0, .int .i64 0, .int .i64 0, .int .i64 0, .int .i64 0])] [] w := hW
  refine pl_next (N2 := []) (NZ2 := []) (N3 := []) (NZ3 := []) hW rfl rfl all_nil all_nil ?_
  obtain ⟨x5, h4, H⟩ := bindE H
  refine pl_t (R := []) hF rfl rfl (yC fun M Z hN hZ => y_indexP (5 + (p0).toNat * 1) Ar45 hF rfl rfl rfl h4 rfl) rfl rfl (fun a hF => ?_)
  refine pl_f rfl ?_
  refine l_store_dyn (o := 5) (m := 4) (i := p0) (l := ([match_Any.2.2.1, match_Any.2.2.2.1, match_Any.2.2.2.2.1, match_Any.2.2.2.2.2] : List Int)) (x := x5) (cs := [.int .i64 match_Any.1, .int .i64 (if p0 = 0 then p1 else match_Any.2.1.1), .int .i64 (if p0 = 1 then p1 else match_Any.2.1.2.1), .int .i64 (if p0 = 2 then p1 else match_Any.2.1.2.2.1), .int .i64 (if p0 = 3 then p1 else match_Any.2.1.2.2.2), .int .i64 match_Any.2.2.1, .int .i64 match_Any.2.2.2.1, .int .i64 match_Any.2.2.2.2.1, .int .i64 match_Any.2.2.2.2.2]) (cs' := [.int .i64 match_Any.1, .int .i64 (if p0 = 0 then p1 else match_Any.2.1.1), .int .i64 (if p0 = 1 then p1 else match_Any.2.1.2.1), .int .i64 (if p0 = 2 then p1 else match_Any.2.1.2.2.1), .int .i64 (if p0 = 3 then p1 else match_Any.2.1.2.2.2), .int .i64 (if p0 = 0 then x4 else match_Any.2.2.1), .int .i64 (if p0 = 1 then x4 else match_Any.2.2.2.1), .int .i64 (if p0 = 2 then x4 else match_Any.2.2.2.2.1), .int .i64 (if p0 = 3 then x4 else match_Any.2.2.2.2.2)]) 0 hF hW rfl rfl rfl T3 rfl rfl rfl rfl h4 (by intro k hk hn; rw [hk]; match k, hn with | 0, _ => rfl | 1, _ => rfl | 2, _ => rfl | 3, _ => rfl | (z + 4), h => exact absurd h (by omega)) (fun w hW => ?_)
  have hW : Stw ⟨Y, [], w0⟩ [(b2, [.int .i64 match_Any.1, .int .i64 (if p0 = 0 then p1 else match_Any.2.1.1), .int .i64 (if p0 = 1 then p1 else match_Any.2.1.2.1), .int .i64 (if p0 = 2 then p1 else match_Any.2.1.2.2.1), .int .i64 (if p0 = 3 then p1 else match_Any.2.1.2.2.2), .int .i64 (if p0 = 0 then x4 else match_Any.2.2.1), .int .i64 (if p0 = 1 then x4 else match_Any.2.2.2.1), .int .i64 (if p0 = 2 then x4 else match_Any.2.2.2.2.1), .int .i64 (if p0 = 3 then x4 else match_Any.2.2.2.2.2)]), (b1, [.int .i64 0, .int .i64 0, .int .i64 0, .int .i64 0, .int .i64 0, .int .i64 0, .int .i64 0, .int .i64 0, .int .i64 0])] [] w := hW
  refine pl_next (N2 := []) (NZ2 := []) (N3 := []) (NZ3 := []) hW rfl rfl all_nil all_nil ?_
  refine pl_end ?_
  refine c_then ?_
  refine c_seq (reg_list ?_)
  refine ls hF hW rfl ((y_load (v := Value.agg #[.int .i64 match_Any.1, .int .i64 (if p0 = 0 then p1 else match_Any.2.1.1), .int .i64 (if p0 = 1 then p1 else match_Any.2.1.2.1), .int .i64 (if p0 = 2 then p1 else match_Any.2.1.2.2.1), .int .i64 (if p0 = 3 then p1 else match_Any.2.1.2.2.2), .int .i64 (if p0 = 0 then x4 else match_Any.2.2.1), .int .i64 (if p0 = 1 then x4 else match_Any.2.2.2.1), .int .i64 (if p0 = 2 then x4 else match_Any.2.2.2.2.1), .int .i64 (if p0 = 3 then x4 else match_Any.2.2.2.2.2)]) 0 hF rfl rfl T67 rfl).q) (fun a w hF hW => ?_)
  refine l_store (vs := [.int .i64 match_Any.1, .int .i64 (if p0 = 0 then p1 else match_Any.2.1.1), .int .i64 (if p0 = 1 then p1 else match_Any.2.1.2.1), .int .i64 (if p0 = 2 then p1 else match_Any.2.1.2.2.1), .int .i64 (if p0 = 3 then p1 else match_Any.2.1.2.2.2), .int .i64 (if p0 = 0 then x4 else match_Any.2.2.1), .int .i64 (if p0 = 1 then x4 else match_Any.2.2.2.1), .int .i64 (if p0 = 2 then x4 else match_Any.2.2.2.2.1), .int .i64 (if p0 = 3 then x4 else match_Any.2.2.2.2.2)]) (M' := [(b2, [.int .i64 match_Any.1, .int .i64 (if p0 = 0 then p1 else match_Any.2.1.1), .int .i64 (if p0 = 1 then p1 else match_Any.2.1.2.1), .int .i64 (if p0 = 2 then p1 else match_Any.2.1.2.2.1), .int .i64 (if p0 = 3 then p1 else match_Any.2.1.2.2.2), .int .i64 (if p0 = 0 then x4 else match_Any.2.2.1), .int .i64 (if p0 = 1 then x4 else match_Any.2.2.2.1), .int .i64 (if p0 = 2 then x4 else match_Any.2.2.2.2.1), .int .i64 (if p0 = 3 then x4 else match_Any.2.2.2.2.2)]), (b1, [.int .i64 match_Any.1, .int .i64 (if p0 = 0 then p1 else match_Any.2.1.1), .int .i64 (if p0 = 1 then p1 else match_Any.2.1.2.1), .int .i64 (if p0 = 2 then p1 else match_Any.2.1.2.2.1), .int .i64 (if p0 = 3 then p1 else match_Any.2.1.2.2.2), .int .i64 (if p0 = 0 then x4 else match_Any.2.2.1), .int .i64 (if p0 = 1 then x4 else match_Any.2.2.2.1), .int .i64 (if p0 = 2 then x4 else match_Any.2.2.2.2.1), .int .i64 (if p0 = 3 then x4 else match_Any.2.2.2.2.2)])]) 1 hF hW rfl rfl rfl T67 rfl rfl rfl rfl rfl (fun w hW => ?_)
  refine ls_nil (c_then ?_)
  refine wp_ret ?_
  have H := Option.some.inj H
  subst H
  refine post1 (.inl rfl) hF hW rfl (rv_cell 1 hF rfl rfl T67 rfl) ?_
  exact ⟨rfl, hW.done⟩

theorem u68_ : type_of% Try.underlying68 := Try.underlying68
theorem u70_ : type_of% Try.underlying70 := Try.underlying70
theorem u99_ : type_of% Try.underlying99 := Try.underlying99
theorem H48 : Has Try.prog 48 := ⟨fun args w => run_callFunc_body Try.func48 rfl (by decide) args w⟩
theorem B99 : Bt Try.prog 99 [.int .i64 0, .int .i64 0, .int .i64 0] [(0, 1), (1, 1), (2, 1)] := ⟨⟨.agg #[.int .i64 0, .int .i64 0, .int .i64 0], by kernel_rfl, rfl⟩, ⟨_, u99_, fun w => by kernel_rfl⟩⟩
theorem Z99 : (Try.prog.info? 99).bind (·.zero) = some (.agg #[.int .i64 0, .int .i64 0, .int .i64 0]) := by kernel_rfl
abbrev R99 : Rp (Int × Int × Int) := (Rp.pair (Rp.int .i64) (Rp.pair (Rp.int .i64) (Rp.int .i64)))
def E99 (a : Int × Int × Int) : List Value := [.int .i64 a.1, .int .i64 a.2.1, .int .i64 a.2.2]
theorem F99 : Fl R99 E99 := (Fl.pair Fl.int (Fl.pair Fl.int Fl.int))
theorem L68 : Et Try.prog 68 99 3 24 := Et.of u68_ (by kernel_rfl) (by kernel_rfl) (by kernel_rfl) (by decide)
theorem B70 : Bt Try.prog 70 [.int .i64 0, .int .i64 0, .int .i64 0, .int .i64 0, .int .i64 0, .int .i64 0, .int .i64 0, .int .i64 0, .int .i64 0, .int .i64 0, .slice none 0 0] [(0, 1), (1, 9), (10, 1)] := ⟨⟨.agg #[.int .i64 0, .int .i64 0, .int .i64 0, .int .i64 0, .int .i64 0, .int .i64 0, .int .i64 0, .int .i64 0, .int .i64 0, .int .i64 0, .slice none 0 0], by kernel_rfl, rfl⟩, ⟨_, u70_, fun w => by kernel_rfl⟩⟩
theorem T70 : Ty Try.prog 70 true 11 := ⟨by kernel_rfl, by kernel_rfl⟩
noncomputable def rule_Plain (p0 : Int) (p1 : Int) (p2 : Int) (p3 : Int) : Option (Int × (Int × (Int × Int × Int × Int) × (Int × Int × Int × Int)) × (List (Int × Int × Int))) := (match_Of p0 p1).bind fun x1 => some (p2, x1, ([(2, 0, p3)] : List (Int × Int × Int)))
theorem rule_Plain_c (Y : Nat → Prop) (w0 : World)  (p0 : Int) (p1 : Int) (p2 : Int) (p3 : Int) (r : (Int × (Int × (Int × Int × Int × Int) × (Int × Int × Int × Int)) × (List (Int × Int × Int)))) (H : rule_Plain p0 p1 p2 p3 = some r)  :
    Calls Try.prog 28 #[.int .i64 p0, .int .i64 p1, .int .i64 p2, .int .i64 p3] w0 fun e w' => ∃ x : Value, e = .returned (.agg #[.int .i64 r.1, .int .i64 r.2.1.1, .int .i64 r.2.1.2.1.1, .int .i64 r.2.1.2.1.2.1, .int .i64 r.2.1.2.1.2.2.1, .int .i64 r.2.1.2.1.2.2.2, .int .i64 r.2.1.2.2.1, .int .i64 r.2.1.2.2.2.1, .int .i64 r.2.1.2.2.2.2.1, .int .i64 r.2.1.2.2.2.2.2, x]) ∧ Stw ⟨Y, [], w0⟩ [] [row (x) 99 R99 r.2.2] w' := by
 refine enter Try.func28 rfl Try.ntmps28 rfl (fun a hF => ?_)
 have hW := Stw.start Y w0
 unfold rule_Plain at H
 refine c_seq (reg_list ?_)
 refine l_alloc (cs := [.int .i64 0, .int .i64 0, .int .i64 0, .int .i64 0, .int .i64 0, .int .i64 0, .int .i64 0, .int .i64 0, .int .i64 0, .int .i64 0, .slice none 0 0]) hF hW rfl Z70 rfl (fun b1 a w hF hW => ?_)
 refine ls_nil (c_then ?_)
 refine c_seq (reg_list ?_)
 iterate 3 refine ls hF hW rfl ((y_move hF rfl).q) (fun a w hF hW => ?_)
 obtain ⟨x1, h1, H⟩ := bindE H
 refine ls hF hW rfl (y_call (v := Value.agg #[.int .i64 x1.1, .int .i64 x1.2.1.1, .int .i64 x1.2.1.2.1, .int .i64 x1.2.1.2.2.1, .int .i64 x1.2.1.2.2.2, .int .i64 x1.2.2.1, .int .i64 x1.2.2.2.1, .int .i64 x1.2.2.2.2.1, .int .i64 x1.2.2.2.2.2]) hF H48 rfl (fun w hW => match_Of_c any w p0 p1 _ h1)) (fun a w hF hW => ?_)
 refine ls hF hW rfl ((y_move hF rfl).q) (fun a w hF hW => ?_)
 refine ls hF hW rfl ((y_build (v := Value.agg #[.int .i64 2, .int .i64 0, .int .i64 p3]) B99 hF rfl rfl rfl).q) (fun a w hF hW => ?_)
 refine l_lit (z := Value.agg #[.int .i64 0, .int .i64 0, .int .i64 0]) (cs := [.int .i64 2, .int .i64 0, .int .i64 p3]) R99 ([(2, 0, p3)] : List (Int × Int × Int)) hF hW rfl L68 Z99 rfl rfl rfl rfl rfl rfl (F99.repL _ _ ([(2, 0, p3)] : List (Int × Int × Int))) (fun v1 a w hF hW => ?_)
 refine ls hF hW rfl ((y_build (v := Value.agg #[.int .i64 p2, .int .i64 x1.1, .int .i64 x1.2.1.1, .int .i64 x1.2.1.2.1, .int .i64 x1.2.1.2.2.1, .int .i64 x1.2.1.2.2.2, .int .i64 x1.2.2.1, .int .i64 x1.2.2.2.1, .int .i64 x1.2.2.2.2.1, .int .i64 x1.2.2.2.2.2, v1]) B70 hF rfl (fill_cons rfl rfl rfl (fill_cons rfl rfl rfl (fill_cons rfl (cells_one (hW.one (k := 0) rfl)) rfl fill_nil))) rfl).q) (fun a w hF hW => ?_)
 refine l_store (vs := [.int .i64 p2, .int .i64 x1.1, .int .i64 x1.2.1.1, .int .i64 x1.2.1.2.1, .int .i64 x1.2.1.2.2.1, .int .i64 x1.2.1.2.2.2, .int .i64 x1.2.2.1, .int .i64 x1.2.2.2.1, .int .i64 x1.2.2.2.2.1, .int .i64 x1.2.2.2.2.2, v1]) (M' := [(b1, [.int .i64 p2, .int .i64 x1.1, .int .i64 x1.2.1.1, .int .i64 x1.2.1.2.1, .int .i64 x1.2.1.2.2.1, .int .i64 x1.2.1.2.2.2, .int .i64 x1.2.2.1, .int .i64 x1.2.2.2.1, .int .i64 x1.2.2.2.2.1, .int .i64 x1.2.2.2.2.2, v1])]) 0 hF hW rfl rfl rfl T70 rfl rfl rfl (one_cons rfl (one_cons rfl (one_cons rfl (one_cons rfl (one_cons rfl (one_cons rfl (one_cons rfl (one_cons rfl (one_cons rfl (one_cons rfl (one_cons (hW.one (k := 0) rfl) one_nil))))))))))) rfl (fun w hW => ?_)
 refine ls_nil (c_then ?_)
 refine wp_ret ?_
 have H := Option.some.inj H
 subst H
 refine post1 (.inl rfl) hF hW rfl (rv_cell 0 hF rfl rfl T70 rfl) ?_
 have hW := hW.sub (M' := []) (Z' := [row v1 99 R99 ([(2, 0, p3)] : List (Int × Int × Int))]) (List.nil_sublist _) (List.Sublist.refl _)
 exact ⟨(v1), rfl, hW⟩

theorem u48_ : type_of% Try.underlying48 := Try.underlying48
theorem H28 : Has Try.prog 28 := ⟨fun args w => run_callFunc_body Try.func28 rfl (by decide) args w⟩
abbrev R45 : Rp (Int × Int × Int × Int) := (Rp.pair (Rp.int .i64) (Rp.pair (Rp.int .i64) (Rp.pair (Rp.int .i64) (Rp.int .i64))))
abbrev R67 : Rp (Int × (Int × Int × Int × Int) × (Int × Int × Int × Int)) := (Rp.pair (Rp.int .i64) (Rp.pair R45 R45))
abbrev R70 : Rp (Int × (Int × (Int × Int × Int × Int) × (Int × Int × Int × Int)) × (List (Int × Int × Int))) := (Rp.pair (Rp.int .i64) (Rp.pair R67 (Rp.slice R99)))
theorem L48 : Et Try.prog 48 70 11 104 := Et.of u48_ (by kernel_rfl) (by kernel_rfl) (by kernel_rfl) (by decide)
noncomputable def route_Table_l1 (x2 : List Int) : ((List (Int × (Int × (Int × Int × Int × Int) × (Int × Int × Int × Int)) × (List (Int × Int × Int)))) × Int) → Option (((List (Int × (Int × (Int × Int × Int × Int) × (Int × Int × Int × Int)) × (List (Int × Int × Int)))) × Int) ⊕ (List (Int × (Int × (Int × Int × Int × Int) × (Int × Int × Int × Int)) × (List (Int × Int × Int)))))
  | (x3, x4) => (if x4 < (x2.length : Int) then (ix x2 x4).bind fun x5 => (rule_Plain 1 x4 10 x5).bind fun x6 => (app x3 ([x6] : List (Int × (Int × (Int × Int × Int × Int) × (Int × Int × Int × Int)) × (List (Int × Int × Int))))).bind fun x7 => some (.inl (x7, w64 (x4 + 1))) else some (.inr x3))
noncomputable def route_Table (p0 : List (List Int)) (p1 : Int) : Option (List (Int × (Int × (Int × Int × Int × Int) × (Int × Int × Int × Int)) × (List (Int × Int × Int)))) := (if (decide (p1 < 0) || decide ((p0.length : Int) ≤ p1)) = true then some ([] : List (Int × (Int × (Int × Int × Int × Int) × (Int × Int × Int × Int)) × (List (Int × Int × Int)))) else ((ix p0 p1).bind fun x2 => loopW (route_Table_l1 x2) ([], 0)).bind fun x1 => some x1)
theorem route_Table_c (Y : Nat → Prop) (w0 : World) (v1 : Value) (p0 : List (List Int)) (p1 : Int) (r : (List (Int × (Int × (Int × Int × Int × Int) × (Int × Int × Int × Int)) × (List (Int × Int × Int))))) (H : route_Table p0 p1 = some r) (h_v1 : Sl w0 (NX []) (Rp.slice (Rp.int .i64)) v1 p0) :
    Calls Try.prog 17 #[v1, .int .i64 p1] w0 fun e w' => ∃ x : Value, e = .returned (x) ∧ Stw ⟨Y, [], w0⟩ [] [row (x) 70 R70 r] w' := by
 refine enter Try.func17 rfl Try.ntmps17 rfl (fun a hF => ?_)
 have hW := Stw.start Y w0
 obtain ⟨v2, h1, h_v1⟩ := h_v1.ex EX30
 unfold route_Table at H
 refine c_seq (reg_list ?_)
 refine ls hF hW rfl ((y_assign hF rfl).q) (fun a w hF hW => ?_)
 refine ls_nil (c_then ?_)
 refine c_seq ?_
 refine c_seqJ (fun a w => Fr 34 [] [(0, v1), (1, .int .i64 p1), (4, .slice none 0 0), (15, .bool (decide (p1 < 0) || decide ((p0.length : Int) ≤ p1)))] a ∧ Stw ⟨Y, [], w0⟩ [] [] w) ?_ ?_
 ·
  refine reg_list ?_
  refine ls hF hW rfl ((y_move hF rfl).q) (fun a w hF hW => ?_)
  refine ls hF hW rfl ((y_lss hF rfl rfl).q) (fun a w hF hW => ?_)
  refine ls hF hW rfl ((y_move hF rfl).q) (fun a w hF hW => ?_)
  rcases Bool.eq_false_or_eq_true (decide (p1 < 0)) with hb0 | hb0
  ·
   rw [hb0] at hF
   iterate 4 refine lsn hF rfl rfl rfl rfl rfl rfl rfl (fun a hF => ?_)
   refine ls hF hW rfl ((y_pick_t hF rfl rfl rfl).q) (fun a w hF hW => ?_)
   refine ls_nil (c_then ?_)
   exact ⟨hF.re ⟨rfl, rfl, rfl, (by show some (Value.bool true) = some (Value.bool (decide (p1 < 0) || decide ((p0.length : Int) ≤ p1))); try rw [hb0]; all_goals simp only [Bool.not_true, Bool.not_false, Bool.true_and, Bool.false_and, Bool.true_or, Bool.false_or, Bool.and_true, Bool.or_false, cond_true, cond_false]), trivial⟩, hW⟩
  ·
   rw [hb0] at hF
   iterate 2 refine ls_w hF hW (wanted_y hF rfl rfl rfl rfl) rfl (Nat.le_of_ble_eq_true rfl) ((y_move hF rfl).q) (fun a w hF hW => ?_)
   refine ls_w hF hW (wanted_y hF rfl rfl rfl rfl) rfl (Nat.le_of_ble_eq_true rfl) ((y_len (r := (Rp.slice (Rp.int .i64))) (l := p0) u27_ rfl hF rfl (rdc_hide EX30 h1 (rdc_ro h_v1))).q) (fun a w hF hW => ?_)
   refine ls_w hF hW (wanted_y hF rfl rfl rfl rfl) rfl (Nat.le_of_ble_eq_true rfl) ((y_geq hF rfl rfl).q) (fun a w hF hW => ?_)
   refine ls hF hW rfl ((y_pick_f hF rfl rfl rfl).q) (fun a w hF hW => ?_)
   refine ls_nil (c_then ?_)
   exact ⟨hF.re ⟨rfl, rfl, rfl, (by show some (Value.bool (decide ((p0.length : Int) ≤ p1))) = some (Value.bool (decide (p1 < 0) || decide ((p0.length : Int) ≤ p1))); try rw [hb0]; all_goals simp only [Bool.not_true, Bool.not_false, Bool.true_and, Bool.false_and, Bool.true_or, Bool.false_or, Bool.and_true, Bool.or_false, cond_true, cond_false]), trivial⟩, hW⟩
 rintro a w ⟨hF, hW⟩
 refine c_cond hF rfl (fun hb => ?_) (fun hb => ?_)
 ·
  have H := iteT hb H
  rw [hb] at hF
  clear hb
  refine c_seq (reg_list ?_)
  refine ls hF hW rfl ((y_assign hF rfl).q) (fun a w hF hW => ?_)
  refine ls_nil (c_then ?_)
  refine wp_ret ?_
  refine r_then ?_
  have H := Option.some.inj H
  subst H
  refine post1 (.inl rfl) hF hW rfl (rv_tmp hF rfl) ?_
  have hW := hW.nilRow 70 R70
  exact ⟨(Value.slice none 0 0), rfl, hW⟩
 ·
  have H := iteF (by rw [hb]; decide) H
  rw [hb] at hF
  clear hb
  refine wp_skip ?_
  refine c_then ?_
  refine c_seq (reg_list ?_)
  refine ls hF hW rfl ((y_assign hF rfl).q) (fun a w hF hW => ?_)
  refine ls_nil (c_then ?_)
  obtain ⟨o1, G1, K1⟩ := bindE H
  refine c_seqJ (fun a w => ∃ x1 : List (Int × (Int × (Int × Int × Int × Int) × (Int × Int × Int × Int)) × (List (Int × Int × Int))), ∃ v3 : Value, some (x1) = some o1 ∧ Fr 34 [] [(4, .slice none 0 0), (5, v3)] a ∧ Stw ⟨Y, [], w0⟩ [] [row v3 70 R70 x1] w) ?_ ?_
  ·
   have H := G1
   clear G1 K1
   refine c_seq (reg_list ?_)
   iterate 2 refine ls hF hW rfl ((y_move hF rfl).q) (fun a w hF hW => ?_)
   obtain ⟨x2, h2, H⟩ := bindE H
   obtain ⟨v4, h3, h4⟩ := ix_ex h1 h2
   have h5 : EE30 v4 = [(v4.1)] := congrArg (fun q : List Int => ([(v4.1)] : List Value)) h4
   refine ls hF hW rfl ((y_index (r := (Rp.vsl (Rp.int .i64))) L27 hF rfl rfl (rdc_ro h_v1) h3).q) (fun a w hF hW => ?_)
   refine ls hF hW rfl ((y_load_el (y := (v4.1)) (j := 0) (i := p1) (enc := EE30) hF rfl rfl (rdc_ro h_v1) h3 FE30 T30 (by rw [h5]; rfl)).q) (fun a w hF hW => ?_)
   refine ls hF hW rfl ((y_len (r := (Rp.int .i64)) (l := x2) u30_ rfl hF rfl (rdc_at (rdc_ro h_v1) h3 Path.here (congrArg (fun q : List Int => q) h4))).q) (fun a w hF hW => ?_)
   refine ls hF hW rfl ((y_move hF rfl).q) (fun a w hF hW => ?_)
   refine ls_nil (c_then ?_)
   refine wp_block ?_
   have hW := hW.nilRow 70 R70
   refine c_loopW H (fun s a w => ∃ v5 : Value, Fr 34 [] [(4, .slice none 0 0), (5, v5), (19, (v4.1)), (20, .int .i64 (x2.length : Int)), (21, .int .i64 s.2)] a ∧ Stw ⟨Y, [], w0⟩ [] [row v5 70 R70 s.1] w) ⟨(Value.slice none 0 0), hF.re ⟨rfl, rfl, rfl, rfl, rfl, trivial⟩, hW⟩ (fun s o a w H L2 hR => ?_)
   obtain ⟨x3, x4⟩ := s
   obtain ⟨v5, hF, hW⟩ := hR
   have hF : Fr 34 [] [(4, .slice none 0 0), (5, v5), (19, (v4.1)), (20, .int .i64 (x2.length : Int)), (21, .int .i64 x4)] a := hF
   have hW : Stw ⟨Y, [], w0⟩ [] [row v5 70 R70 x3] w := hW
   rw [route_Table_l1] at H
   refine c_seq (reg_list ?_)
   refine ls hF hW rfl ((y_lss hF rfl rfl).q) (fun a w hF hW => ?_)
   refine ls_nil (c_then ?_)
   refine c_seq ?_
   refine c_cond hF rfl (fun hb => ?_) (fun hb => ?_)
   ·
    have H := iteT (of_decide_eq_true hb) H
    rw [hb] at hF
    clear hb
    refine wp_skip ?_
    refine c_then ?_
    refine c_seq ?_
    refine wp_block ?_
    refine c_seq (reg_list ?_)
    refine ls hF hW rfl ((y_move hF rfl).q) (fun a w hF hW => ?_)
    obtain ⟨x5, h6, H⟩ := bindE H
    refine ls hF hW rfl ((y_index (r := (Rp.int .i64)) L30 hF rfl rfl (rdc_at (rdc_ro h_v1) h3 Path.here (congrArg (fun q : List Int => q) h4)) h6).q) (fun a w hF hW => ?_)
    refine ls hF hW rfl ((y_load_el (y := Value.int .i64 x5) (j := 0) (i := x4) hF rfl rfl (rdc_at (rdc_ro h_v1) h3 Path.here (congrArg (fun q : List Int => q) h4)) h6 Fl.int.to T3 rfl).q) (fun a w hF hW => ?_)
    iterate 2 refine ls hF hW rfl ((y_assign hF rfl).q) (fun a w hF hW => ?_)
    refine ls_nil (c_then ?_)
    refine reg_list ?_
    iterate 3 refine ls hF hW rfl ((y_move hF rfl).q) (fun a w hF hW => ?_)
    obtain ⟨x6, h7, H⟩ := bindE H
    refine l_callG (Ml := []) (Zl := []) (M := []) (Z := [row v5 70 R70 x3]) (β := Value) (rv := fun x => .agg #[.int .i64 x6.1, .int .i64 x6.2.1.1, .int .i64 x6.2.1.2.1.1, .int .i64 x6.2.1.2.1.2.1, .int .i64 x6.2.1.2.1.2.2.1, .int .i64 x6.2.1.2.1.2.2.2, .int .i64 x6.2.1.2.2.1, .int .i64 x6.2.1.2.2.2.1, .int .i64 x6.2.1.2.2.2.2.1, .int .i64 x6.2.1.2.2.2.2.2, x]) (MM := fun x => []) (ZZ := fun x => [row x 99 R99 x6.2.2]) hF hW H28 rfl rfl (fun hL => rule_Plain_c _ w 1 x4 10 x5 _ h7) (fun x a w hF hW => ?_)
    obtain ⟨v6, rfl⟩ : ∃ y, y = x := ⟨x, rfl⟩
    have hW : Stw ⟨Y, [], w0⟩ [] [row v6 99 R99 x6.2.2, row v5 70 R70 x3] w := hW
    have hW := hW.freeze
    refine l_lit (z := Value.agg #[.int .i64 0, .int .i64 0, .int .i64 0, .int .i64 0, .int .i64 0, .int .i64 0, .int .i64 0, .int .i64 0, .int .i64 0, .int .i64 0, .slice none 0 0]) (cs := [.int .i64 x6.1, .int .i64 x6.2.1.1, .int .i64 x6.2.1.2.1.1, .int .i64 x6.2.1.2.1.2.1, .int .i64 x6.2.1.2.1.2.2.1, .int .i64 x6.2.1.2.1.2.2.2, .int .i64 x6.2.1.2.2.1, .int .i64 x6.2.1.2.2.2.1, .int .i64 x6.2.1.2.2.2.2.1, .int .i64 x6.2.1.2.2.2.2.2, v6]) R70 ([x6] : List (Int × (Int × (Int × Int × Int × Int) × (Int × Int × Int × Int)) × (List (Int × Int × Int)))) hF hW rfl L48 Z70 rfl rfl rfl (fill_cons rfl rfl rfl fill_nil) rfl rfl ⟨[Value.int .i64 x6.1, Value.int .i64 x6.2.1.1, Value.int .i64 x6.2.1.2.1.1, Value.int .i64 x6.2.1.2.1.2.1, Value.int .i64 x6.2.1.2.1.2.2.1, Value.int .i64 x6.2.1.2.1.2.2.2, Value.int .i64 x6.2.1.2.2.1, Value.int .i64 x6.2.1.2.2.2.1, Value.int .i64 x6.2.1.2.2.2.2.1, Value.int .i64 x6.2.1.2.2.2.2.2, v6], _, rfl, ⟨[Value.int .i64 x6.1], [Value.int .i64 x6.2.1.1, Value.int .i64 x6.2.1.2.1.1, Value.int .i64 x6.2.1.2.1.2.1, Value.int .i64 x6.2.1.2.1.2.2.1, Value.int .i64 x6.2.1.2.1.2.2.2, Value.int .i64 x6.2.1.2.2.1, Value.int .i64 x6.2.1.2.2.2.1, Value.int .i64 x6.2.1.2.2.2.2.1, Value.int .i64 x6.2.1.2.2.2.2.2, v6], rfl, rfl, ⟨[Value.int .i64 x6.2.1.1, Value.int .i64 x6.2.1.2.1.1, Value.int .i64 x6.2.1.2.1.2.1, Value.int .i64 x6.2.1.2.1.2.2.1, Value.int .i64 x6.2.1.2.1.2.2.2, Value.int .i64 x6.2.1.2.2.1, Value.int .i64 x6.2.1.2.2.2.1, Value.int .i64 x6.2.1.2.2.2.2.1, Value.int .i64 x6.2.1.2.2.2.2.2], [v6], rfl, ⟨[Value.int .i64 x6.2.1.1], [Value.int .i64 x6.2.1.2.1.1, Value.int .i64 x6.2.1.2.1.2.1, Value.int .i64 x6.2.1.2.1.2.2.1, Value.int .i64 x6.2.1.2.1.2.2.2, Value.int .i64 x6.2.1.2.2.1, Value.int .i64 x6.2.1.2.2.2.1, Value.int .i64 x6.2.1.2.2.2.2.1, Value.int .i64 x6.2.1.2.2.2.2.2], rfl, rfl, ⟨[Value.int .i64 x6.2.1.2.1.1, Value.int .i64 x6.2.1.2.1.2.1, Value.int .i64 x6.2.1.2.1.2.2.1, Value.int .i64 x6.2.1.2.1.2.2.2], [Value.int .i64 x6.2.1.2.2.1, Value.int .i64 x6.2.1.2.2.2.1, Value.int .i64 x6.2.1.2.2.2.2.1, Value.int .i64 x6.2.1.2.2.2.2.2], rfl, ⟨[Value.int .i64 x6.2.1.2.1.1], [Value.int .i64 x6.2.1.2.1.2.1, Value.int .i64 x6.2.1.2.1.2.2.1, Value.int .i64 x6.2.1.2.1.2.2.2], rfl, rfl, ⟨[Value.int .i64 x6.2.1.2.1.2.1], [Value.int .i64 x6.2.1.2.1.2.2.1, Value.int .i64 x6.2.1.2.1.2.2.2], rfl, rfl, ⟨[Value.int .i64 x6.2.1.2.1.2.2.1], [Value.int .i64 x6.2.1.2.1.2.2.2], rfl, rfl, rfl⟩⟩⟩, ⟨[Value.int .i64 x6.2.1.2.2.1], [Value.int .i64 x6.2.1.2.2.2.1, Value.int .i64 x6.2.1.2.2.2.2.1, Value.int .i64 x6.2.1.2.2.2.2.2], rfl, rfl, ⟨[Value.int .i64 x6.2.1.2.2.2.1], [Value.int .i64 x6.2.1.2.2.2.2.1, Value.int .i64 x6.2.1.2.2.2.2.2], rfl, rfl, ⟨[Value.int .i64 x6.2.1.2.2.2.2.1], [Value.int .i64 x6.2.1.2.2.2.2.2], rfl, rfl, rfl⟩⟩⟩⟩⟩, ⟨_, rfl, (hW.item (i := 0) rfl)⟩⟩⟩, rfl⟩ (fun v7 a w hF hW => ?_)
    obtain ⟨x7, h8, H⟩ := bindE H
    refine l_append (r := R70) (i := 2) hF hW rfl L48 rfl rfl rfl rfl (src_row hW 0 rfl) h8 rfl (fun v8 a w hF hW => ?_)
    have hW : Stw ⟨Y, [], w0⟩ [] [row v8 70 R70 x7, row v7 70 R70 ([x6] : List (Int × (Int × (Int × Int × Int × Int) × (Int × Int × Int × Int)) × (List (Int × Int × Int)))), frz v6 R99 x6.2.2] w := hW
    refine ls hF hW rfl ((y_assign hF rfl).q) (fun a w hF hW => ?_)
    refine ls_nil ?_
    refine b_normal ?_
    refine c_then ?_
    refine reg_list ?_
    refine ls hF hW rfl ((y_add hF rfl rfl rfl).q) (fun a w hF hW => ?_)
    refine ls hF hW rfl ((y_move hF rfl).q) (fun a w hF hW => ?_)
    refine ls_nil (c_then ?_)
    have hW := hW.sub (M' := []) (Z' := [row v8 70 R70 x7]) (List.Sublist.refl _) (List.Sublist.cons_cons _ (List.nil_sublist _))
    exact ⟨_, H, (v8), hF.re ⟨rfl, rfl, rfl, rfl, rfl, trivial⟩, hW⟩
   ·
    have H := iteF (of_decide_eq_false hb) H
    rw [hb] at hF
    clear hb
    refine wp_exit ?_
    iterate 2 refine e_then ?_
    refine e_block ?_
    refine c_then ?_
    have H := L2 _ H
    exact ⟨_, (v5), H, hF.re ⟨rfl, rfl, trivial⟩, hW⟩
  rintro a w ⟨x1, v3, hj, hF, hW⟩
  have hj := Option.some.inj hj
  subst hj
  have H := K1
  clear G1 K1
  refine c_seq (reg_list ?_)
  refine ls hF hW rfl ((y_move hF rfl).q) (fun a w hF hW => ?_)
  refine ls hF hW rfl ((y_assign hF rfl).q) (fun a w hF hW => ?_)
  refine ls_nil (c_then ?_)
  refine wp_ret ?_
  have H := Option.some.inj H
  subst H
  refine post1 (.inl rfl) hF hW rfl (rv_tmp hF rfl) ?_
  exact ⟨(v3), rfl, hW⟩

theorem H17 : Has Try.prog 17 := ⟨fun args w => run_callFunc_body Try.func17 rfl (by decide) args w⟩
abbrev RX70 : Rp (Int × (Int × (Int × Int × Int × Int) × (Int × Int × Int × Int)) × (Value × List (Int × Int × Int))) := (Rp.pair (Rp.int .i64) (Rp.pair R67 (Rp.vsl R99)))
abbrev ER70 (p : Int × (Int × (Int × Int × Int × Int) × (Int × Int × Int × Int)) × (Value × List (Int × Int × Int))) : Int × (Int × (Int × Int × Int × Int) × (Int × Int × Int × Int)) × (List (Int × Int × Int)) := (p.1, p.2.1, p.2.2.2)
theorem EX70 : Ex R70 RX70 ER70 := (Ex.pair Ex.rfl' (Ex.pair Ex.rfl' Ex.sliceF))
def E45 (a : Int × Int × Int × Int) : List Value := [.int .i64 a.1, .int .i64 a.2.1, .int .i64 a.2.2.1, .int .i64 a.2.2.2]
theorem F45 : Fl R45 E45 := (Fl.pair Fl.int (Fl.pair Fl.int (Fl.pair Fl.int Fl.int)))
def E67 (a : Int × (Int × Int × Int × Int) × (Int × Int × Int × Int)) : List Value := [.int .i64 a.1, .int .i64 a.2.1.1, .int .i64 a.2.1.2.1, .int .i64 a.2.1.2.2.1, .int .i64 a.2.1.2.2.2, .int .i64 a.2.2.1, .int .i64 a.2.2.2.1, .int .i64 a.2.2.2.2.1, .int .i64 a.2.2.2.2.2]
theorem F67 : Fl R67 E67 := (Fl.pair Fl.int (Fl.pair F45 F45))
abbrev EE70 (a : Int × (Int × (Int × Int × Int × Int) × (Int × Int × Int × Int)) × (Value × List (Int × Int × Int))) : List Value := [.int .i64 a.1, .int .i64 a.2.1.1, .int .i64 a.2.1.2.1.1, .int .i64 a.2.1.2.1.2.1, .int .i64 a.2.1.2.1.2.2.1, .int .i64 a.2.1.2.1.2.2.2, .int .i64 a.2.1.2.2.1, .int .i64 a.2.1.2.2.2.1, .int .i64 a.2.1.2.2.2.2.1, .int .i64 a.2.1.2.2.2.2.2, a.2.2.1]
theorem FE70 : Flat RX70 EE70 := (Flat.pair Fl.int.to (Flat.pair F67.to Flat.vsl))
noncomputable def match_Hits_l1 (p0 : Int × (Int × Int × Int × Int) × (Int × Int × Int × Int)) (p2 : Int × Int × Int × Int) : Int → Option (Int ⊕ (Unit ⊕ Bool))
  | x1 => (if x1 < 4 then (ix ([p0.2.2.1, p0.2.2.2.1, p0.2.2.2.2.1, p0.2.2.2.2.2] : List Int) x1).bind fun x2 => (ix ([p2.1, p2.2.1, p2.2.2.1, p2.2.2.2] : List Int) x1).bind fun x3 => (ix ([p0.2.1.1, p0.2.1.2.1, p0.2.1.2.2.1, p0.2.1.2.2.2] : List Int) x1).bind fun x4 => (if (andI .i64 (xorI .i64 x3 x4) x2) ≠ 0 then some (.inr (.inr false)) else some (.inl (w64 (x1 + 1)))) else some (.inr (.inl ())))
noncomputable def match_Hits (p0 : Int × (Int × Int × Int × Int) × (Int × Int × Int × Int)) (p1 : Int) (p2 : Int × Int × Int × Int) : Option Bool := (if (decide (p0.1 ≠ (-1)) && decide (p0.1 ≠ p1)) = true then some false else orR (loopW (match_Hits_l1 p0 p2) 0) fun _ => some true)
theorem match_Hits_c (Y : Nat → Prop) (w0 : World)  (p0 : Int × (Int × Int × Int × Int) × (Int × Int × Int × Int)) (p1 : Int) (p2 : Int × Int × Int × Int) (r : Bool) (H : match_Hits p0 p1 p2 = some r)  :
    Calls Try.prog 51 #[.agg #[.int .i64 p0.1, .int .i64 p0.2.1.1, .int .i64 p0.2.1.2.1, .int .i64 p0.2.1.2.2.1, .int .i64 p0.2.1.2.2.2, .int .i64 p0.2.2.1, .int .i64 p0.2.2.2.1, .int .i64 p0.2.2.2.2.1, .int .i64 p0.2.2.2.2.2], .int .i64 p1, .agg #[.int .i64 p2.1, .int .i64 p2.2.1, .int .i64 p2.2.2.1, .int .i64 p2.2.2.2]] w0 fun e w' => e = .returned (.bool r) ∧ Below w0.heap.size w0 w' := by
 refine enter Try.func51 rfl Try.ntmps51 rfl (fun a hF => ?_)
 have hW := Stw.start Y w0
 unfold match_Hits at H
 refine c_seq (reg_list ?_)
 refine l_box (cs := [.int .i64 p0.1, .int .i64 p0.2.1.1, .int .i64 p0.2.1.2.1, .int .i64 p0.2.1.2.2.1, .int .i64 p0.2.1.2.2.2, .int .i64 p0.2.2.1, .int .i64 p0.2.2.2.1, .int .i64 p0.2.2.2.2.1, .int .i64 p0.2.2.2.2.2]) hF hW rfl rfl rfl (fun b1 a w hF hW => ?_)
 refine l_box (cs := [.int .i64 p2.1, .int .i64 p2.2.1, .int .i64 p2.2.2.1, .int .i64 p2.2.2.2]) hF hW rfl rfl rfl (fun b2 a w hF hW => ?_)
 refine ls hF hW rfl ((y_assign hF rfl).q) (fun a w hF hW => ?_)
 refine ls_nil (c_then ?_)
 refine c_seq ?_
 refine c_seqJ (fun a w => Fr 36 [] [(3, .pointer (some ⟨b1, 0, none⟩)), (5, .pointer (some ⟨b2, 0, none⟩)), (6, .bool false), (17, .bool (decide (p0.1 ≠ (-1)) && decide (p0.1 ≠ p1)))] a ∧ Stw ⟨Y, [], w0⟩ [(b2, [.int .i64 p2.1, .int .i64 p2.2.1, .int .i64 p2.2.2.1, .int .i64 p2.2.2.2]), (b1, [.int .i64 p0.1, .int .i64 p0.2.1.1, .int .i64 p0.2.1.2.1, .int .i64 p0.2.1.2.2.1, .int .i64 p0.2.1.2.2.2, .int .i64 p0.2.2.1, .int .i64 p0.2.2.2.1, .int .i64 p0.2.2.2.2.1, .int .i64 p0.2.2.2.2.2])] [] w) ?_ ?_
 ·
  refine reg_list ?_
  refine ls hF hW rfl ((y_fieldAddr u67_ rfl rfl rfl T3 hF rfl 0 rfl).q) (fun a w hF hW => ?_)
  refine ls hF hW rfl ((y_load (v := Value.int .i64 p0.1) 1 hF rfl rfl T3 rfl).q) (fun a w hF hW => ?_)
  refine ls hF hW rfl ((y_neq hF rfl rfl).q) (fun a w hF hW => ?_)
  refine ls hF hW rfl ((y_move hF rfl).q) (fun a w hF hW => ?_)
  rcases Bool.eq_false_or_eq_true (decide (p0.1 ≠ (-1))) with hb0 | hb0
  ·
   rw [hb0] at hF
   refine ls_w hF hW (wanted_y hF rfl rfl rfl rfl) rfl (Nat.le_of_ble_eq_true rfl) ((y_fieldAddr u67_ rfl rfl rfl T3 hF rfl 0 rfl).q) (fun a w hF hW => ?_)
   refine ls_w hF hW (wanted_y hF rfl rfl rfl rfl) rfl (Nat.le_of_ble_eq_true rfl) ((y_load (v := Value.int .i64 p0.1) 1 hF rfl rfl T3 rfl).q) (fun a w hF hW => ?_)
   refine ls_w hF hW (wanted_y hF rfl rfl rfl rfl) rfl (Nat.le_of_ble_eq_true rfl) ((y_move hF rfl).q) (fun a w hF hW => ?_)
   refine ls_w hF hW (wanted_y hF rfl rfl rfl rfl) rfl (Nat.le_of_ble_eq_true rfl) ((y_neq hF rfl rfl).q) (fun a w hF hW => ?_)
   refine ls hF hW rfl ((y_pick_t hF rfl rfl rfl).q) (fun a w hF hW => ?_)
   refine ls_nil (c_then ?_)
   exact ⟨hF.re ⟨rfl, rfl, rfl, (by show some (Value.bool (decide (p0.1 ≠ p1))) = some (Value.bool (decide (p0.1 ≠ (-1)) && decide (p0.1 ≠ p1))); try rw [hb0]; all_goals simp only [Bool.not_true, Bool.not_false, Bool.true_and, Bool.false_and, Bool.true_or, Bool.false_or, Bool.and_true, Bool.or_false, cond_true, cond_false]), trivial⟩, hW⟩
  ·
   rw [hb0] at hF
   iterate 4 refine lsn hF rfl rfl rfl rfl rfl rfl rfl (fun a hF => ?_)
   refine ls hF hW rfl ((y_pick_f hF rfl rfl rfl).q) (fun a w hF hW => ?_)
   refine ls_nil (c_then ?_)
   exact ⟨hF.re ⟨rfl, rfl, rfl, (by show some (Value.bool false) = some (Value.bool (decide (p0.1 ≠ (-1)) && decide (p0.1 ≠ p1))); try rw [hb0]; all_goals simp only [Bool.not_true, Bool.not_false, Bool.true_and, Bool.false_and, Bool.true_or, Bool.false_or, Bool.and_true, Bool.or_false, cond_true, cond_false]), trivial⟩, hW⟩
 rintro a w ⟨hF, hW⟩
 refine c_cond hF rfl (fun hb => ?_) (fun hb => ?_)
 ·
  have H := iteT hb H
  rw [hb] at hF
  clear hb
  refine c_seq (reg_list ?_)
  refine ls hF hW rfl ((y_assign hF rfl).q) (fun a w hF hW => ?_)
  refine ls_nil (c_then ?_)
  refine wp_ret ?_
  refine r_then ?_
  have H := Option.some.inj H
  subst H
  refine post1 (.inl rfl) hF hW rfl (rv_tmp hF rfl) ?_
  exact ⟨rfl, hW.done⟩
 ·
  have H := iteF (by rw [hb]; decide) H
  rw [hb] at hF
  clear hb
  refine wp_skip ?_
  refine c_then ?_
  obtain ⟨o1, G1, K1, L1⟩ := orE H
  refine c_seqJ (fun a w => some (Sum.inl ()) = some o1 ∧ Fr 36 [] [(6, .bool false)] a ∧ Stw ⟨Y, [], w0⟩ [(b2, [.int .i64 p2.1, .int .i64 p2.2.1, .int .i64 p2.2.2.1, .int .i64 p2.2.2.2]), (b1, [.int .i64 p0.1, .int .i64 p0.2.1.1, .int .i64 p0.2.1.2.1, .int .i64 p0.2.1.2.2.1, .int .i64 p0.2.1.2.2.2, .int .i64 p0.2.2.1, .int .i64 p0.2.2.2.1, .int .i64 p0.2.2.2.2.1, .int .i64 p0.2.2.2.2.2])] [] w) ?_ ?_
  ·
   have H := G1
   clear G1 K1
   refine c_seq (reg_list ?_)
   refine ls hF hW rfl ((y_fieldAddr u67_ rfl rfl rfl T45 hF rfl 5 rfl).q) (fun a w hF hW => ?_)
   refine ls hF hW rfl ((y_load (v := Value.agg #[.int .i64 p0.2.2.1, .int .i64 p0.2.2.2.1, .int .i64 p0.2.2.2.2.1, .int .i64 p0.2.2.2.2.2]) 1 hF rfl rfl T45 rfl).q) (fun a w hF hW => ?_)
   refine ls hF hW rfl ((y_move hF rfl).q) (fun a w hF hW => ?_)
   refine ls_nil (c_then ?_)
   refine wp_block ?_
   have hW := hW.frontM (i := 1) rfl rfl
   have hW := hW.frontM (i := 1) rfl rfl
   refine c_loopW H (fun s a w => Fr 36 [] [(3, .pointer (some ⟨b1, 0, none⟩)), (5, .pointer (some ⟨b2, 0, none⟩)), (6, .bool false), (19, .agg #[.int .i64 p0.2.2.1, .int .i64 p0.2.2.2.1, .int .i64 p0.2.2.2.2.1, .int .i64 p0.2.2.2.2.2]), (20, .int .i64 s)] a ∧ Stw ⟨Y, [], w0⟩ [(b2, [.int .i64 p2.1, .int .i64 p2.2.1, .int .i64 p2.2.2.1, .int .i64 p2.2.2.2]), (b1, [.int .i64 p0.1, .int .i64 p0.2.1.1, .int .i64 p0.2.1.2.1, .int .i64 p0.2.1.2.2.1, .int .i64 p0.2.1.2.2.2, .int .i64 p0.2.2.1, .int .i64 p0.2.2.2.1, .int .i64 p0.2.2.2.2.1, .int .i64 p0.2.2.2.2.2])] [] w) ⟨hF.re ⟨rfl, rfl, rfl, rfl, rfl, trivial⟩, hW⟩ (fun s o a w H L2 hR => ?_)
   obtain ⟨x1, rfl⟩ : ∃ x, x = s := ⟨s, rfl⟩
   obtain ⟨hF, hW⟩ := hR
   have hF : Fr 36 [] [(3, .pointer (some ⟨b1, 0, none⟩)), (5, .pointer (some ⟨b2, 0, none⟩)), (6, .bool false), (19, .agg #[.int .i64 p0.2.2.1, .int .i64 p0.2.2.2.1, .int .i64 p0.2.2.2.2.1, .int .i64 p0.2.2.2.2.2]), (20, .int .i64 x1)] a := hF
   have hW : Stw ⟨Y, [], w0⟩ [(b2, [.int .i64 p2.1, .int .i64 p2.2.1, .int .i64 p2.2.2.1, .int .i64 p2.2.2.2]), (b1, [.int .i64 p0.1, .int .i64 p0.2.1.1, .int .i64 p0.2.1.2.1, .int .i64 p0.2.1.2.2.1, .int .i64 p0.2.1.2.2.2, .int .i64 p0.2.2.1, .int .i64 p0.2.2.2.1, .int .i64 p0.2.2.2.2.1, .int .i64 p0.2.2.2.2.2])] [] w := hW
   rw [match_Hits_l1] at H
   refine c_seq (reg_list ?_)
   refine ls hF hW rfl ((y_lss hF rfl rfl).q) (fun a w hF hW => ?_)
   refine ls_nil (c_then ?_)
   refine c_seq ?_
   refine c_cond hF rfl (fun hb => ?_) (fun hb => ?_)
   ·
    have H := iteT (of_decide_eq_true hb) H
    rw [hb] at hF
    clear hb
    refine wp_skip ?_
    refine c_then ?_
    refine c_seq ?_
    refine wp_block ?_
    refine c_seq (reg_list ?_)
    refine ls hF hW rfl ((y_move hF rfl).q) (fun a w hF hW => ?_)
    obtain ⟨x2, h1, H⟩ := bindE H
    refine ls hF hW rfl ((y_indexA (enc := Value.int .i64) (cs := [.int .i64 p0.2.2.1, .int .i64 p0.2.2.2.1, .int .i64 p0.2.2.2.2.1, .int .i64 p0.2.2.2.2.2]) Ar45 T3 hF rfl rfl rfl rfl h1).q) (fun a w hF hW => ?_)
    iterate 2 refine ls hF hW rfl ((y_assign hF rfl).q) (fun a w hF hW => ?_)
    refine ls_nil (c_then ?_)
    refine c_seq ?_
    refine reg_quiet hW MO (by kernel_rfl) ?_
    refine qs hF rfl ((y_move hF rfl).q) (fun a hF => ?_)
    obtain ⟨x3, h2, H⟩ := bindE H
    refine qs hF rfl ((y_indexP (0 + (x1).toNat * 1) Ar46 hF rfl rfl rfl h2 rfl).q) (fun a hF => ?_)
    refine qs hF rfl ((y_load (v := Value.int .i64 x3) 0 hF rfl rfl T3 (rdv_dyn (base := 0) (m := 4) (l := [p2.1, p2.2.1, p2.2.2.1, p2.2.2.2]) (enc := Value.int .i64) rfl h2)).q) (fun a hF => ?_)
    refine qs hF rfl ((y_move hF rfl).q) (fun a hF => ?_)
    refine qs hF rfl ((y_fieldAddr u67_ rfl rfl rfl T45 hF rfl 1 rfl).q) (fun a hF => ?_)
    obtain ⟨x4, h3, H⟩ := bindE H
    refine qs hF rfl ((y_indexP (1 + (x1).toNat * 1) Ar45 hF rfl rfl rfl h3 rfl).q) (fun a hF => ?_)
    refine qs hF rfl ((y_load (v := Value.int .i64 x4) 1 hF rfl rfl T3 (rdv_dyn (base := 1) (m := 4) (l := [p0.2.1.1, p0.2.1.2.1, p0.2.1.2.2.1, p0.2.1.2.2.2]) (enc := Value.int .i64) rfl h3)).q) (fun a hF => ?_)
    refine qs hF rfl ((y_xor hF rfl rfl).q) (fun a hF => ?_)
    refine qs hF rfl ((y_move hF rfl).q) (fun a hF => ?_)
    refine qs hF rfl ((y_and hF rfl rfl).q) (fun a hF => ?_)
    refine qs hF rfl ((y_neq hF rfl rfl).q) (fun a hF => ?_)
    refine quiet_end (fun w hW => ?_)
    refine c_then ?_
    refine c_cond hF rfl (fun hb => ?_) (fun hb => ?_)
    ·
     have H := iteT (of_decide_eq_true hb) H
     rw [hb] at hF
     clear hb
     refine c_seq (reg_list ?_)
     refine ls hF hW rfl ((y_assign hF rfl).q) (fun a w hF hW => ?_)
     refine ls_nil (c_then ?_)
     refine wp_ret ?_
     refine r_block ?_
     iterate 2 refine r_then ?_
     refine r_block ?_
     refine r_then ?_
     have H := L2 _ H
     have H := L1 _ H
     have H := Option.some.inj H
     subst H
     refine post1 (.inl rfl) hF hW rfl (rv_tmp hF rfl) ?_
     exact ⟨rfl, hW.done⟩
    ·
     have H := iteF (of_decide_eq_false hb) H
     rw [hb] at hF
     clear hb
     refine wp_skip ?_
     refine b_normal ?_
     refine c_then ?_
     refine reg_list ?_
     refine ls hF hW rfl ((y_add hF rfl rfl rfl).q) (fun a w hF hW => ?_)
     refine ls hF hW rfl ((y_move hF rfl).q) (fun a w hF hW => ?_)
     refine ls_nil (c_then ?_)
     have hW := hW.frontM (i := 1) rfl rfl
     have hW := hW.frontM (i := 1) rfl rfl
     exact ⟨_, H, hF.re ⟨rfl, rfl, rfl, rfl, rfl, trivial⟩, hW⟩
   ·
    have H := iteF (of_decide_eq_false hb) H
    rw [hb] at hF
    clear hb
    refine wp_exit ?_
    iterate 2 refine e_then ?_
    refine e_block ?_
    refine c_then ?_
    have hW := hW.frontM (i := 1) rfl rfl
    have hW := hW.frontM (i := 1) rfl rfl
    have H := L2 _ H
    exact ⟨H, hF.re ⟨rfl, trivial⟩, hW⟩
  rintro a w ⟨hj, hF, hW⟩
  have H := K1 _ hj
  clear hj G1 K1 L1
  refine c_seq (reg_list ?_)
  refine ls hF hW rfl ((y_assign hF rfl).q) (fun a w hF hW => ?_)
  refine ls_nil (c_then ?_)
  refine wp_ret ?_
  have H := Option.some.inj H
  subst H
  refine post1 (.inl rfl) hF hW rfl (rv_tmp hF rfl) ?_
  exact ⟨rfl, hW.done⟩

theorem H51 : Has Try.prog 51 := ⟨fun args w => run_callFunc_body Try.func51 rfl (by decide) args w⟩
noncomputable def table_Find_1 (p0 : Int × (Int × (Int × Int × Int × Int) × (Int × Int × Int × Int)) × (List (Int × Int × Int))) (p1 : Int) (p2 : Int × Int × Int × Int) : Option Bool := (match_Hits p0.2.1 p1 p2).bind fun x1 => some x1
theorem table_Find_1_c (Y : Nat → Prop) (w0 : World) (v1 : Value) (q_p1 : Nat) (q_p2 : Nat) (p0 : Int × (Int × (Int × Int × Int × Int) × (Int × Int × Int × Int)) × (List (Int × Int × Int))) (p1 : Int) (p2 : Int × Int × Int × Int) (r : Bool) (H : table_Find_1 p0 p1 p2 = some r) (h_v1 : Sl w0 (NX []) R99 v1 p0.2.2) (a_q_p1 : At ⟨Y, [], w0⟩ q_p1 0 [.int .i64 p1]) (a_q_p2 : At ⟨Y, [], w0⟩ q_p2 0 [.int .i64 p2.1, .int .i64 p2.2.1, .int .i64 p2.2.2.1, .int .i64 p2.2.2.2]) :
    Calls Try.prog 50 #[.agg #[.int .i64 p0.1, .int .i64 p0.2.1.1, .int .i64 p0.2.1.2.1.1, .int .i64 p0.2.1.2.1.2.1, .int .i64 p0.2.1.2.1.2.2.1, .int .i64 p0.2.1.2.1.2.2.2, .int .i64 p0.2.1.2.2.1, .int .i64 p0.2.1.2.2.2.1, .int .i64 p0.2.1.2.2.2.2.1, .int .i64 p0.2.1.2.2.2.2.2, v1], .pointer (some ⟨q_p1, 0, none⟩), .pointer (some ⟨q_p2, 0, none⟩)] w0 fun e w' => e = .returned (.bool r) ∧ Below w0.heap.size w0 w' := by
 refine enter Try.func50 rfl Try.ntmps50 rfl (fun a hF => ?_)
 have hW := Stw.start Y w0
 unfold table_Find_1 at H
 refine c_seq (reg_list ?_)
 refine l_box (cs := [.int .i64 p0.1, .int .i64 p0.2.1.1, .int .i64 p0.2.1.2.1.1, .int .i64 p0.2.1.2.1.2.1, .int .i64 p0.2.1.2.1.2.2.1, .int .i64 p0.2.1.2.1.2.2.2, .int .i64 p0.2.1.2.2.1, .int .i64 p0.2.1.2.2.2.1, .int .i64 p0.2.1.2.2.2.2.1, .int .i64 p0.2.1.2.2.2.2.2, v1]) hF hW rfl rfl rfl (fun b1 a w hF hW => ?_)
 refine ls hF hW rfl ((y_assign hF rfl).q) (fun a w hF hW => ?_)
 refine ls_nil (c_then ?_)
 refine c_seq (reg_list ?_)
 refine ls hF hW rfl ((y_fieldAddr u70_ rfl rfl rfl T67 hF rfl 1 rfl).q) (fun a w hF hW => ?_)
 refine ls hF hW rfl ((y_load (v := Value.agg #[.int .i64 p0.2.1.1, .int .i64 p0.2.1.2.1.1, .int .i64 p0.2.1.2.1.2.1, .int .i64 p0.2.1.2.1.2.2.1, .int .i64 p0.2.1.2.1.2.2.2, .int .i64 p0.2.1.2.2.1, .int .i64 p0.2.1.2.2.2.1, .int .i64 p0.2.1.2.2.2.2.1, .int .i64 p0.2.1.2.2.2.2.2]) 0 hF rfl rfl T67 rfl).q) (fun a w hF hW => ?_)
 refine ls hF hW rfl ((y_load_at (y := Value.int .i64 p1) (j := 0) hF rfl (Nat.zero_add _).symm a_q_p1 T3 rfl).q) (fun a w hF hW => ?_)
 refine ls hF hW rfl ((y_load_at (y := Value.agg #[.int .i64 p2.1, .int .i64 p2.2.1, .int .i64 p2.2.2.1, .int .i64 p2.2.2.2]) (j := 0) hF rfl (Nat.zero_add _).symm a_q_p2 T46 rfl).q) (fun a w hF hW => ?_)
 obtain ⟨x1, h1, H⟩ := bindE H
 refine ls hF hW rfl (y_call (v := Value.bool x1) hF H51 rfl (fun w hW => match_Hits_c any w p0.2.1 p1 p2 _ h1)) (fun a w hF hW => ?_)
 refine ls hF hW rfl ((y_assign hF rfl).q) (fun a w hF hW => ?_)
 refine ls_nil (c_then ?_)
 refine wp_ret ?_
 have H := Option.some.inj H
 subst H
 refine post1 (.inl rfl) hF hW rfl (rv_tmp hF rfl) ?_
 exact ⟨rfl, hW.done⟩

theorem H50 : Has Try.prog 50 := ⟨fun args w => run_callFunc_body Try.func50 rfl (by decide) args w⟩
noncomputable def slices_IndexFunc_api_Rule_api_Rule_l1 (p0 : List (Int × (Int × (Int × Int × Int × Int) × (Int × Int × Int × Int)) × (List (Int × Int × Int)))) (p1c0 : Int) (p1c1 : Int × Int × Int × Int) : Int → Option (Int ⊕ (Unit ⊕ Int))
  | x1 => (if x1 < (p0.length : Int) then (ix p0 x1).bind fun x2 => (table_Find_1 x2 p1c0 p1c1).bind fun x3 => (if x3 = true then some (.inr (.inr x1)) else some (.inl (w64 (x1 + 1)))) else some (.inr (.inl ())))
noncomputable def slices_IndexFunc_api_Rule_api_Rule (p0 : List (Int × (Int × (Int × Int × Int × Int) × (Int × Int × Int × Int)) × (List (Int × Int × Int)))) (p1c0 : Int) (p1c1 : Int × Int × Int × Int) : Option Int := orR (loopW (slices_IndexFunc_api_Rule_api_Rule_l1 p0 p1c0 p1c1) 0) fun _ => some (-1)
theorem slices_IndexFunc_api_Rule_api_Rule_c (Y : Nat → Prop) (w0 : World) (v1 : Value) (q_p1c0 : Nat) (q_p1c1 : Nat) (p0 : List (Int × (Int × (Int × Int × Int × Int) × (Int × Int × Int × Int)) × (List (Int × Int × Int)))) (p1c0 : Int) (p1c1 : Int × Int × Int × Int) (r : Int) (H : slices_IndexFunc_api_Rule_api_Rule p0 p1c0 p1c1 = some r) (h_v1 : Sl w0 (NX []) R70 v1 p0) (a_q_p1c0 : At ⟨Y, [], w0⟩ q_p1c0 0 [.int .i64 p1c0]) (a_q_p1c1 : At ⟨Y, [], w0⟩ q_p1c1 0 [.int .i64 p1c1.1, .int .i64 p1c1.2.1, .int .i64 p1c1.2.2.1, .int .i64 p1c1.2.2.2]) :
    Calls Try.prog 49 #[v1, .func (.func 50) #[] #[.pointer (some ⟨q_p1c0, 0, none⟩), .pointer (some ⟨q_p1c1, 0, none⟩)]] w0 fun e w' => e = .returned (.int .i64 r) ∧ Below w0.heap.size w0 w' := by
 refine enter Try.func49 rfl Try.ntmps49 rfl (fun a hF => ?_)
 have hW := Stw.start Y w0
 obtain ⟨v2, h1, h_v1⟩ := h_v1.ex EX70
 unfold slices_IndexFunc_api_Rule_api_Rule at H
 refine c_seq (reg_list ?_)
 refine ls hF hW rfl ((y_assign hF rfl).q) (fun a w hF hW => ?_)
 refine ls_nil (c_then ?_)
 obtain ⟨o1, G1, K1, L1⟩ := orE H
 refine c_seqJ (fun a w => some (Sum.inl ()) = some o1 ∧ Fr 19 [] [(4, .int .i64 0)] a ∧ Stw ⟨Y, [], w0⟩ [] [] w) ?_ ?_
 ·
  have H := G1
  clear G1 K1
  refine c_seq (reg_list ?_)
  refine ls hF hW rfl ((y_move hF rfl).q) (fun a w hF hW => ?_)
  refine ls hF hW rfl ((y_len (r := R70) (l := p0) u48_ rfl hF rfl (rdc_hide EX70 h1 (rdc_ro h_v1))).q) (fun a w hF hW => ?_)
  refine ls hF hW rfl ((y_move hF rfl).q) (fun a w hF hW => ?_)
  refine ls_nil (c_then ?_)
  refine wp_block ?_
  refine c_loopW H (fun s a w => Fr 19 [] [(0, v1), (1, .func (.func 50) #[] #[.pointer (some ⟨q_p1c0, 0, none⟩), .pointer (some ⟨q_p1c1, 0, none⟩)]), (4, .int .i64 0), (7, .int .i64 (p0.length : Int)), (8, .int .i64 s)] a ∧ Stw ⟨Y, [], w0⟩ [] [] w) ⟨hF.re ⟨rfl, rfl, rfl, rfl, rfl, trivial⟩, hW⟩ (fun s o a w H L2 hR => ?_)
  obtain ⟨x1, rfl⟩ : ∃ x, x = s := ⟨s, rfl⟩
  obtain ⟨hF, hW⟩ := hR
  have hF : Fr 19 [] [(0, v1), (1, .func (.func 50) #[] #[.pointer (some ⟨q_p1c0, 0, none⟩), .pointer (some ⟨q_p1c1, 0, none⟩)]), (4, .int .i64 0), (7, .int .i64 (p0.length : Int)), (8, .int .i64 x1)] a := hF
  have hW : Stw ⟨Y, [], w0⟩ [] [] w := hW
  rw [slices_IndexFunc_api_Rule_api_Rule_l1] at H
  refine c_seq (reg_list ?_)
  refine ls hF hW rfl ((y_lss hF rfl rfl).q) (fun a w hF hW => ?_)
  refine ls_nil (c_then ?_)
  refine c_seq ?_
  refine c_cond hF rfl (fun hb => ?_) (fun hb => ?_)
  ·
   have H := iteT (of_decide_eq_true hb) H
   rw [hb] at hF
   clear hb
   refine wp_skip ?_
   refine c_then ?_
   refine c_seq ?_
   refine wp_block ?_
   refine c_seq (reg_list ?_)
   refine ls hF hW rfl ((y_move hF rfl).q) (fun a w hF hW => ?_)
   refine ls hF hW rfl ((y_assign hF rfl).q) (fun a w hF hW => ?_)
   refine ls_nil (c_then ?_)
   refine c_seq (reg_list ?_)
   iterate 3 refine ls hF hW rfl ((y_move hF rfl).q) (fun a w hF hW => ?_)
   obtain ⟨x2, h2, H⟩ := bindE H
   obtain ⟨v3, h3, h4⟩ := ix_ex h1 h2
   have h5 : EE70 v3 = [.int .i64 x2.1, .int .i64 x2.2.1.1, .int .i64 x2.2.1.2.1.1, .int .i64 x2.2.1.2.1.2.1, .int .i64 x2.2.1.2.1.2.2.1, .int .i64 x2.2.1.2.1.2.2.2, .int .i64 x2.2.1.2.2.1, .int .i64 x2.2.1.2.2.2.1, .int .i64 x2.2.1.2.2.2.2.1, .int .i64 x2.2.1.2.2.2.2.2, (v3.2.2.1)] := congrArg (fun q : Int × (Int × (Int × Int × Int × Int) × (Int × Int × Int × Int)) × (List (Int × Int × Int)) => ([.int .i64 q.1, .int .i64 q.2.1.1, .int .i64 q.2.1.2.1.1, .int .i64 q.2.1.2.1.2.1, .int .i64 q.2.1.2.1.2.2.1, .int .i64 q.2.1.2.1.2.2.2, .int .i64 q.2.1.2.2.1, .int .i64 q.2.1.2.2.2.1, .int .i64 q.2.1.2.2.2.2.1, .int .i64 q.2.1.2.2.2.2.2, (v3.2.2.1)] : List Value)) h4
   refine ls hF hW rfl ((y_index (r := RX70) L48 hF rfl rfl (rdc_ro h_v1) h3).q) (fun a w hF hW => ?_)
   refine ls hF hW rfl ((y_load_el (y := Value.agg #[.int .i64 x2.1, .int .i64 x2.2.1.1, .int .i64 x2.2.1.2.1.1, .int .i64 x2.2.1.2.1.2.1, .int .i64 x2.2.1.2.1.2.2.1, .int .i64 x2.2.1.2.1.2.2.2, .int .i64 x2.2.1.2.2.1, .int .i64 x2.2.1.2.2.2.1, .int .i64 x2.2.1.2.2.2.2.1, .int .i64 x2.2.1.2.2.2.2.2, (v3.2.2.1)]) (j := 0) (i := x1) (enc := EE70) hF rfl rfl (rdc_ro h_v1) h3 FE70 T70 (by rw [h5]; rfl)).q) (fun a w hF hW => ?_)
   obtain ⟨x3, h6, H⟩ := bindE H
   refine ls hF hW rfl (y_callV (ws := [.agg #[.int .i64 x2.1, .int .i64 x2.2.1.1, .int .i64 x2.2.1.2.1.1, .int .i64 x2.2.1.2.1.2.1, .int .i64 x2.2.1.2.1.2.2.1, .int .i64 x2.2.1.2.1.2.2.2, .int .i64 x2.2.1.2.2.1, .int .i64 x2.2.1.2.2.2.1, .int .i64 x2.2.1.2.2.2.2.1, .int .i64 x2.2.1.2.2.2.2.2, (v3.2.2.1)], .pointer (some ⟨q_p1c0, 0, none⟩), .pointer (some ⟨q_p1c1, 0, none⟩)]) (v := Value.bool x3) hF H50 rfl (fun w hW => table_Find_1_c any w ((v3.2.2.1)) q_p1c0 q_p1c1 x2 p1c0 p1c1 _ h6 (((rdc_at (rdc_ro h_v1) h3 (Path.snd (Path.snd Path.here)) (congrArg (fun q : Int × (Int × (Int × Int × Int × Int) × (Int × Int × Int × Int)) × (List (Int × Int × Int)) => q.2.2) h4)) : Rdc _ _ _ _ _ _) w hW).nx (At.re a_q_p1c0 hW) (At.re a_q_p1c1 hW))) (fun a w hF hW => ?_)
   refine ls_nil (c_then ?_)
   refine c_cond hF rfl (fun hb => ?_) (fun hb => ?_)
   ·
    have H := iteT hb H
    rw [hb] at hF
    clear hb
    refine c_seq (reg_list ?_)
    refine ls hF hW rfl ((y_move hF rfl).q) (fun a w hF hW => ?_)
    refine ls hF hW rfl ((y_assign hF rfl).q) (fun a w hF hW => ?_)
    refine ls_nil (c_then ?_)
    refine wp_ret ?_
    refine r_block ?_
    iterate 2 refine r_then ?_
    refine r_block ?_
    refine r_then ?_
    have H := L2 _ H
    have H := L1 _ H
    have H := Option.some.inj H
    subst H
    refine post1 (.inl rfl) hF hW rfl (rv_tmp hF rfl) ?_
    exact ⟨rfl, hW.done⟩
   ·
    have H := iteF (by rw [hb]; decide) H
    rw [hb] at hF
    clear hb
    refine wp_skip ?_
    refine b_normal ?_
    refine c_then ?_
    refine reg_list ?_
    refine ls hF hW rfl ((y_add hF rfl rfl rfl).q) (fun a w hF hW => ?_)
    refine ls hF hW rfl ((y_move hF rfl).q) (fun a w hF hW => ?_)
    refine ls_nil (c_then ?_)
    exact ⟨_, H, hF.re ⟨rfl, rfl, rfl, rfl, rfl, trivial⟩, hW⟩
  ·
   have H := iteF (of_decide_eq_false hb) H
   rw [hb] at hF
   clear hb
   refine wp_exit ?_
   iterate 2 refine e_then ?_
   refine e_block ?_
   refine c_then ?_
   have H := L2 _ H
   exact ⟨H, hF.re ⟨rfl, trivial⟩, hW⟩
 rintro a w ⟨hj, hF, hW⟩
 have H := K1 _ hj
 clear hj G1 K1 L1
 refine c_seq (reg_list ?_)
 refine ls hF hW rfl ((y_assign hF rfl).q) (fun a w hF hW => ?_)
 refine ls_nil (c_then ?_)
 refine wp_ret ?_
 have H := Option.some.inj H
 subst H
 refine post1 (.inl rfl) hF hW rfl (rv_tmp hF rfl) ?_
 exact ⟨rfl, hW.done⟩

theorem H49 : Has Try.prog 49 := ⟨fun args w => run_callFunc_body Try.func49 rfl (by decide) args w⟩
noncomputable def table_Find (p0 : List (Int × (Int × (Int × Int × Int × Int) × (Int × Int × Int × Int)) × (List (Int × Int × Int)))) (p1 : Int) (p2 : Int × Int × Int × Int) : Option Int := (slices_IndexFunc_api_Rule_api_Rule p0 p1 p2).bind fun x1 => some x1
theorem table_Find_c (Y : Nat → Prop) (w0 : World) (v1 : Value) (p0 : List (Int × (Int × (Int × Int × Int × Int) × (Int × Int × Int × Int)) × (List (Int × Int × Int)))) (p1 : Int) (p2 : Int × Int × Int × Int) (r : Int) (H : table_Find p0 p1 p2 = some r) (h_v1 : Sl w0 (NX []) R70 v1 p0) :
    Calls Try.prog 29 #[v1, .int .i64 p1, .agg #[.int .i64 p2.1, .int .i64 p2.2.1, .int .i64 p2.2.2.1, .int .i64 p2.2.2.2]] w0 fun e w' => e = .returned (.int .i64 r) ∧ Below w0.heap.size w0 w' := by
 refine enter Try.func29 rfl Try.ntmps29 rfl (fun a hF => ?_)
 have hW := Stw.start Y w0
 obtain ⟨v2, h1, h_v1⟩ := h_v1.ex EX70
 unfold table_Find at H
 refine c_seq (reg_list ?_)
 refine l_box (cs := [.int .i64 p1]) hF hW rfl rfl rfl (fun b1 a w hF hW => ?_)
 refine l_box (cs := [.int .i64 p2.1, .int .i64 p2.2.1, .int .i64 p2.2.2.1, .int .i64 p2.2.2.2]) hF hW rfl rfl rfl (fun b2 a w hF hW => ?_)
 refine ls hF hW rfl ((y_assign hF rfl).q) (fun a w hF hW => ?_)
 refine ls_nil (c_then ?_)
 refine c_seq (reg_list ?_)
 refine ls hF hW rfl ((y_move hF rfl).q) (fun a w hF hW => ?_)
 refine ls hF hW rfl ((y_makeFunc (us := []) (vs := [.pointer (some ⟨b1, 0, none⟩), .pointer (some ⟨b2, 0, none⟩)]) hF rfl rfl).q) (fun a w hF hW => ?_)
 obtain ⟨x1, h2, H⟩ := bindE H
 refine ls hF hW rfl (y_call (v := Value.int .i64 x1) hF H49 rfl (fun w hW => slices_IndexFunc_api_Rule_api_Rule_c any w (v1) b1 b2 p0 p1 p2 _ h2 (((rdc_hide EX70 h1 (rdc_ro h_v1)) : Rdc _ _ _ _ _ _) w hW).nx (at_M hW 1 rfl) (at_M hW 0 rfl))) (fun a w hF hW => ?_)
 refine ls hF hW rfl ((y_assign hF rfl).q) (fun a w hF hW => ?_)
 refine ls_nil (c_then ?_)
 refine wp_ret ?_
 have H := Option.some.inj H
 subst H
 refine post1 (.inl rfl) hF hW rfl (rv_tmp hF rfl) ?_
 exact ⟨rfl, hW.done⟩

theorem H29 : Has Try.prog 29 := ⟨fun args w => run_callFunc_body Try.func29 rfl (by decide) args w⟩
theorem T68 : Ty Try.prog 68 false 1 := ⟨by kernel_rfl, by kernel_rfl⟩
theorem Z46 : (Try.prog.info? 46).bind (·.zero) = some (.agg #[.int .i64 0, .int .i64 0, .int .i64 0, .int .i64 0]) := by kernel_rfl
theorem T99 : Ty Try.prog 99 true 3 := ⟨by kernel_rfl, by kernel_rfl⟩
def packet_known (p0 : Int) : Bool := (decide (0 ≤ p0) && decide (p0 < 4))
theorem packet_known_c (Y : Nat → Prop) (w0 : World)  (p0 : Int) (r : Bool) (H : packet_known p0 = r)  :
    Calls Try.prog 76 #[.int .i64 p0] w0 fun e w' => e = .returned (.bool r) ∧ Below w0.heap.size w0 w' := by
 refine enter Try.func76 rfl Try.ntmps76 rfl (fun a hF => ?_)
 have hW := Stw.start Y w0
 unfold packet_known at H
 refine c_seq (reg_list ?_)
 refine ls hF hW rfl ((y_assign hF rfl).q) (fun a w hF hW => ?_)
 refine ls_nil (c_then ?_)
 refine c_seqJ (fun a w => Fr 9 [] [(2, .bool (decide (0 ≤ p0) && decide (p0 < 4)))] a ∧ Stw ⟨Y, [], w0⟩ [] [] w) ?_ ?_
 ·
  refine reg_list ?_
  refine ls hF hW rfl ((y_move hF rfl).q) (fun a w hF hW => ?_)
  refine ls hF hW rfl ((y_geq hF rfl rfl).q) (fun a w hF hW => ?_)
  refine ls hF hW rfl ((y_move hF rfl).q) (fun a w hF hW => ?_)
  rcases Bool.eq_false_or_eq_true (decide (0 ≤ p0)) with hb0 | hb0
  ·
   rw [hb0] at hF
   refine ls_w hF hW (wanted_y hF rfl rfl rfl rfl) rfl (Nat.le_of_ble_eq_true rfl) ((y_move hF rfl).q) (fun a w hF hW => ?_)
   refine ls_w hF hW (wanted_y hF rfl rfl rfl rfl) rfl (Nat.le_of_ble_eq_true rfl) ((y_lss hF rfl rfl).q) (fun a w hF hW => ?_)
   refine ls hF hW rfl ((y_pick_t hF rfl rfl rfl).q) (fun a w hF hW => ?_)
   refine ls hF hW rfl ((y_assign hF rfl).q) (fun a w hF hW => ?_)
   refine ls_nil (c_then ?_)
   exact ⟨hF.re ⟨(by show some (Value.bool (decide (p0 < 4))) = some (Value.bool (decide (0 ≤ p0) && decide (p0 < 4))); try rw [hb0]; all_goals simp only [Bool.not_true, Bool.not_false, Bool.true_and, Bool.false_and, Bool.true_or, Bool.false_or, Bool.and_true, Bool.or_false, cond_true, cond_false]), trivial⟩, hW⟩
  ·
   rw [hb0] at hF
   iterate 2 refine lsn hF rfl rfl rfl rfl rfl rfl rfl (fun a hF => ?_)
   refine ls hF hW rfl ((y_pick_f hF rfl rfl rfl).q) (fun a w hF hW => ?_)
   refine ls hF hW rfl ((y_assign hF rfl).q) (fun a w hF hW => ?_)
   refine ls_nil (c_then ?_)
   exact ⟨hF.re ⟨(by show some (Value.bool false) = some (Value.bool (decide (0 ≤ p0) && decide (p0 < 4))); try rw [hb0]; all_goals simp only [Bool.not_true, Bool.not_false, Bool.true_and, Bool.false_and, Bool.true_or, Bool.false_or, Bool.and_true, Bool.or_false, cond_true, cond_false]), trivial⟩, hW⟩
 rintro a w ⟨hF, hW⟩
 refine wp_ret ?_
 subst H
 refine post1 (.inl rfl) hF hW rfl (rv_tmp hF rfl) ?_
 exact ⟨rfl, hW.done⟩

theorem H76 : Has Try.prog 76 := ⟨fun args w => run_callFunc_body Try.func76 rfl (by decide) args w⟩
noncomputable def packet_fits (p0 : Int) (p1 : Int) : Option Bool := (if 0 ≤ p1 then (packet_Top p0).bind fun x2 => some (decide (p1 ≤ x2)) else some false).bind fun x1 => some x1
theorem packet_fits_c (Y : Nat → Prop) (w0 : World)  (p0 : Int) (p1 : Int) (r : Bool) (H : packet_fits p0 p1 = some r)  :
    Calls Try.prog 77 #[.int .i64 p0, .int .i64 p1] w0 fun e w' => e = .returned (.bool r) ∧ Below w0.heap.size w0 w' := by
 refine enter Try.func77 rfl Try.ntmps77 rfl (fun a hF => ?_)
 have hW := Stw.start Y w0
 unfold packet_fits at H
 refine c_seq (reg_list ?_)
 refine ls hF hW rfl ((y_assign hF rfl).q) (fun a w hF hW => ?_)
 refine ls_nil (c_then ?_)
 obtain ⟨o1, G1, K1⟩ := bindE H
 refine c_seqJ (fun a w => ∃ x1 : Bool, some (x1) = some o1 ∧ Fr 13 [] [(4, .bool x1)] a ∧ Stw ⟨Y, [], w0⟩ [] [] w) ?_ ?_
 ·
  have H := G1
  clear G1 K1
  refine reg_list ?_
  refine ls hF hW rfl ((y_move hF rfl).q) (fun a w hF hW => ?_)
  refine ls hF hW rfl ((y_geq hF rfl rfl).q) (fun a w hF hW => ?_)
  refine ls hF hW rfl ((y_move hF rfl).q) (fun a w hF hW => ?_)
  rcases Bool.eq_false_or_eq_true (decide (0 ≤ p1)) with hb | hb
  ·
   have H := iteT (of_decide_eq_true hb) H
   rw [hb] at hF
   clear hb
   iterate 2 refine ls_w hF hW (wanted_y hF rfl rfl rfl rfl) rfl (Nat.le_of_ble_eq_true rfl) ((y_move hF rfl).q) (fun a w hF hW => ?_)
   refine ls_g (wanted_y hF rfl rfl rfl rfl) ?_
   obtain ⟨x2, h1, H⟩ := bindE H
   refine ls hF hW rfl (y_call (v := Value.int .i64 x2) hF H75 rfl (fun w hW => packet_Top_c any w p0 _ h1)) (fun a w hF hW => ?_)
   refine ls_w hF hW (wanted_y hF rfl rfl rfl rfl) rfl (Nat.le_of_ble_eq_true rfl) ((y_leq hF rfl rfl).q) (fun a w hF hW => ?_)
   refine ls hF hW rfl ((y_pick_t hF rfl rfl rfl).q) (fun a w hF hW => ?_)
   refine ls hF hW rfl ((y_assign hF rfl).q) (fun a w hF hW => ?_)
   refine ls_nil (c_then ?_)
   exact ⟨_, H, hF.re ⟨rfl, trivial⟩, hW⟩
  ·
   have H := iteF (of_decide_eq_false hb) H
   rw [hb] at hF
   clear hb
   iterate 4 refine lsn hF rfl rfl rfl rfl rfl rfl rfl (fun a hF => ?_)
   refine ls hF hW rfl ((y_pick_f hF rfl rfl rfl).q) (fun a w hF hW => ?_)
   refine ls hF hW rfl ((y_assign hF rfl).q) (fun a w hF hW => ?_)
   refine ls_nil (c_then ?_)
   exact ⟨_, H, hF.re ⟨rfl, trivial⟩, hW⟩
 rintro a w ⟨x1, hj, hF, hW⟩
 have hj := Option.some.inj hj
 subst hj
 have H := K1
 clear G1 K1
 refine wp_ret ?_
 have H := Option.some.inj H
 subst H
 refine post1 (.inl rfl) hF hW rfl (rv_tmp hF rfl) ?_
 exact ⟨rfl, hW.done⟩

end Go.Proofs.Ytleakbjojbiomaa
