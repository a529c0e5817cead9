/- The functions of layer 43, lifted. Conditions: none. -/
import Derived.Test.YtdogfpoekndknaaA0
namespace Go.Proofs.Ytdogfpoekndknaa
open Go Go.RowKit
set_option linter.unusedVariables false
set_option linter.unusedSimpArgs false
set_option maxRecDepth 20000
theorem H59 : Has Try.prog 59 := ⟨fun args w => run_callFunc_body Try.func59 rfl (by decide) args w⟩
theorem Z3 : (Try.prog.info? 3).bind (·.zero) = some (.int .i64 0) := by kernel_rfl
noncomputable def slices_order2CmpFunc_float64 (p0 : List Nat) (p1 : Int) (p2 : Int) (p3 : Int) : Option (Int × Int × Int) := (ix p0 p2).bind fun x1 => (ix p0 p1).bind fun x2 => (float_Compare x1 x2).bind fun x3 => (if x3 < 0 then some (p2, p1, w64 (p3 + 1)) else some (p1, p2, p3))
theorem slices_order2CmpFunc_float64_c (Y : Nat → Prop) (X : List Nat) (w0 : World) (v1 : Value) (q_p3 : Nat) (p0 : List Nat) (p1 : Int) (p2 : Int) (p3 : Int) (r : Int × Int × Int) (H : slices_order2CmpFunc_float64 p0 p1 p2 p3 = some r) (h_v1 : Sl w0 (NX X) (Rp.flt .f64) v1 p0) (hL : Stw ⟨Y, X, w0⟩ [(q_p3, [.int .i64 p3])] [] w0) :
    Calls Try.prog 73 #[v1, .int .i64 p1, .int .i64 p2, .pointer (some ⟨q_p3, 0, none⟩), .func (.func 24) #[] #[]] w0 fun e w' => ∃ x : Unit, e = .returned (.tuple #[.int .i64 r.1, .int .i64 r.2.1]) ∧ Stw ⟨Y, X, w0⟩ [(q_p3, [.int .i64 r.2.2])] [] w' := by
 refine enter Try.func73 rfl Try.ntmps73 rfl (fun a hF => ?_)
 have hW := hL
 unfold slices_order2CmpFunc_float64 at H
 refine c_seq (reg_list ?_)
 iterate 2 refine ls hF hW rfl ((y_assign hF rfl).q) (fun a w hF hW => ?_)
 refine ls_nil (c_then ?_)
 iterate 2 refine c_seq ?_
 refine reg_quiet hW MO (by kernel_rfl) ?_
 iterate 3 refine qs hF rfl ((y_move hF rfl).q) (fun a hF => ?_)
 obtain ⟨x1, h1, H⟩ := bindE H
 refine qs hF rfl ((y_index (r := (Rp.flt .f64)) L34 hF rfl rfl (rdc_ro h_v1) h1).q) (fun a hF => ?_)
 refine qs hF rfl ((y_load_el (y := Value.float .f64 x1) (j := 0) (i := p2) hF rfl rfl (rdc_ro h_v1) h1 Fl.flt.to T25 rfl).q) (fun a hF => ?_)
 iterate 2 refine qs hF rfl ((y_move hF rfl).q) (fun a hF => ?_)
 obtain ⟨x2, h2, H⟩ := bindE H
 refine qs hF rfl ((y_index (r := (Rp.flt .f64)) L34 hF rfl rfl (rdc_ro h_v1) h2).q) (fun a hF => ?_)
 refine qs hF rfl ((y_load_el (y := Value.float .f64 x2) (j := 0) (i := p1) hF rfl rfl (rdc_ro h_v1) h2 Fl.flt.to T25 rfl).q) (fun a hF => ?_)
 obtain ⟨x3, h3, H⟩ := bindE H
 refine qs hF rfl (y_callV (ws := [.float .f64 x1, .float .f64 x2]) (v := Value.int .i64 x3) hF H24 rfl (fun w hW => float_Compare_c any w x1 x2 _ h3)) (fun a hF => ?_)
 refine qs hF rfl ((y_lss hF rfl rfl).q) (fun a hF => ?_)
 refine quiet_end (fun w hW => ?_)
 refine c_then ?_
 refine c_cond hF rfl (fun hb => ?_) (fun hb => ?_)
 ·
  have H := iteT (of_decide_eq_true hb) H
  rw [hb] at hF
  clear hb
  refine c_seq (reg_list ?_)
  refine ls hF hW rfl ((y_move hF rfl).q) (fun a w hF hW => ?_)
  refine ls hF hW rfl ((y_nilCheck hF rfl).q) (fun a w hF hW => ?_)
  refine ls hF hW rfl ((y_load (v := Value.int .i64 p3) 0 hF rfl rfl T3 rfl).q) (fun a w hF hW => ?_)
  refine ls hF hW rfl ((y_add hF rfl rfl rfl).q) (fun a w hF hW => ?_)
  refine ls hF hW rfl ((y_nilCheck hF rfl).q) (fun a w hF hW => ?_)
  refine l_store (vs := [.int .i64 (w64 (p3 + 1))]) (M' := [(q_p3, [.int .i64 (w64 (p3 + 1))])]) 0 hF hW rfl rfl rfl T3 rfl rfl rfl rfl rfl (fun w hW => ?_)
  refine ls_nil (c_then ?_)
  refine c_seq (reg_list ?_)
  iterate 2 refine ls hF hW rfl ((y_move hF rfl).q) (fun a w hF hW => ?_)
  iterate 2 refine ls hF hW rfl ((y_assign hF rfl).q) (fun a w hF hW => ?_)
  refine ls_nil (c_then ?_)
  refine wp_ret ?_
  refine r_then ?_
  have H := Option.some.inj H
  subst H
  refine post2 (.inl rfl) hF hW rfl (rv_tmp hF rfl) (rv_tmp hF rfl) ?_
  exact ⟨(), rfl, hW⟩
 ·
  have H := iteF (of_decide_eq_false hb) H
  rw [hb] at hF
  clear hb
  refine wp_skip ?_
  refine c_then ?_
  refine c_seq (reg_list ?_)
  iterate 2 refine ls hF hW rfl ((y_move hF rfl).q) (fun a w hF hW => ?_)
  iterate 2 refine ls hF hW rfl ((y_assign hF rfl).q) (fun a w hF hW => ?_)
  refine ls_nil (c_then ?_)
  refine wp_ret ?_
  have H := Option.some.inj H
  subst H
  refine post2 (.inl rfl) hF hW rfl (rv_tmp hF rfl) (rv_tmp hF rfl) ?_
  exact ⟨(), rfl, hW⟩

theorem H73 : Has Try.prog 73 := ⟨fun args w => run_callFunc_body Try.func73 rfl (by decide) args w⟩
noncomputable def slices_medianCmpFunc_float64 (p0 : List Nat) (p1 : Int) (p2 : Int) (p3 : Int) (p4 : Int) : Option (Int × Int) := (slices_order2CmpFunc_float64 p0 p1 p2 p4).bind fun x1 => (slices_order2CmpFunc_float64 p0 x1.2.1 p3 x1.2.2).bind fun x2 => (slices_order2CmpFunc_float64 p0 x1.1 x2.1 x2.2.2).bind fun x3 => some (x3.2.1, x3.2.2)
theorem slices_medianCmpFunc_float64_c (Y : Nat → Prop) (X : List Nat) (w0 : World) (v1 : Value) (q_p4 : Nat) (p0 : List Nat) (p1 : Int) (p2 : Int) (p3 : Int) (p4 : Int) (r : Int × Int) (H : slices_medianCmpFunc_float64 p0 p1 p2 p3 p4 = some r) (h_v1 : Sl w0 (NX X) (Rp.flt .f64) v1 p0) (hL : Stw ⟨Y, X, w0⟩ [(q_p4, [.int .i64 p4])] [] w0) :
    Calls Try.prog 72 #[v1, .int .i64 p1, .int .i64 p2, .int .i64 p3, .pointer (some ⟨q_p4, 0, none⟩), .func (.func 24) #[] #[]] w0 fun e w' => ∃ x : Unit, e = .returned (.int .i64 r.1) ∧ Stw ⟨Y, X, w0⟩ [(q_p4, [.int .i64 r.2])] [] w' := by
 refine enter Try.func72 rfl Try.ntmps72 rfl (fun a hF => ?_)
 have hW := hL
 unfold slices_medianCmpFunc_float64 at H
 refine c_seq (reg_list ?_)
 refine ls hF hW rfl ((y_assign hF rfl).q) (fun a w hF hW => ?_)
 refine ls_nil (c_then ?_)
 refine c_seq (reg_list ?_)
 iterate 5 refine ls hF hW rfl ((y_move hF rfl).q) (fun a w hF hW => ?_)
 obtain ⟨x1, h1, H⟩ := bindE H
 refine l_callG (Ml := [(q_p4, [.int .i64 p4])]) (Zl := []) (M := []) (Z := []) (β := Unit) (rv := fun x => .tuple #[.int .i64 x1.1, .int .i64 x1.2.1]) (MM := fun x => [(q_p4, [.int .i64 x1.2.2])]) (ZZ := fun x => []) hF hW H73 rfl rfl (fun hL => slices_order2CmpFunc_float64_c _ _ w (v1) q_p4 p0 p1 p2 p4 _ h1 (hW.roX h_v1 (fun g hg => lent_in hg)) hL) (fun x a w hF hW => ?_)
 have hW : Stw ⟨Y, X, w0⟩ [(q_p4, [.int .i64 x1.2.2])] [] w := hW
 refine ls hF hW rfl ((y_move hF rfl).q) (fun a w hF hW => ?_)
 refine ls hF hW rfl ((y_extract (v := Value.int .i64 x1.1) hF rfl rfl).q) (fun a w hF hW => ?_)
 refine ls hF hW rfl ((y_extract (v := Value.int .i64 x1.2.1) hF rfl rfl).q) (fun a w hF hW => ?_)
 iterate 2 refine ls hF hW rfl ((y_assign hF rfl).q) (fun a w hF hW => ?_)
 refine ls_nil (c_then ?_)
 refine c_seq (reg_list ?_)
 iterate 5 refine ls hF hW rfl ((y_move hF rfl).q) (fun a w hF hW => ?_)
 obtain ⟨x2, h2, H⟩ := bindE H
 refine l_callG (Ml := [(q_p4, [.int .i64 x1.2.2])]) (Zl := []) (M := []) (Z := []) (β := Unit) (rv := fun x => .tuple #[.int .i64 x2.1, .int .i64 x2.2.1]) (MM := fun x => [(q_p4, [.int .i64 x2.2.2])]) (ZZ := fun x => []) hF hW H73 rfl rfl (fun hL => slices_order2CmpFunc_float64_c _ _ w (v1) q_p4 p0 x1.2.1 p3 x1.2.2 _ h2 (hW.roX h_v1 (fun g hg => lent_in hg)) hL) (fun x a w hF hW => ?_)
 have hW : Stw ⟨Y, X, w0⟩ [(q_p4, [.int .i64 x2.2.2])] [] w := hW
 refine ls hF hW rfl ((y_move hF rfl).q) (fun a w hF hW => ?_)
 refine ls hF hW rfl ((y_extract (v := Value.int .i64 x2.1) hF rfl rfl).q) (fun a w hF hW => ?_)
 refine ls hF hW rfl ((y_extract (v := Value.int .i64 x2.2.1) hF rfl rfl).q) (fun a w hF hW => ?_)
 iterate 2 refine ls hF hW rfl ((y_assign hF rfl).q) (fun a w hF hW => ?_)
 refine ls_nil (c_then ?_)
 refine c_seq (reg_list ?_)
 iterate 5 refine ls hF hW rfl ((y_move hF rfl).q) (fun a w hF hW => ?_)
 obtain ⟨x3, h3, H⟩ := bindE H
 refine l_callG (Ml := [(q_p4, [.int .i64 x2.2.2])]) (Zl := []) (M := []) (Z := []) (β := Unit) (rv := fun x => .tuple #[.int .i64 x3.1, .int .i64 x3.2.1]) (MM := fun x => [(q_p4, [.int .i64 x3.2.2])]) (ZZ := fun x => []) hF hW H73 rfl rfl (fun hL => slices_order2CmpFunc_float64_c _ _ w (v1) q_p4 p0 x1.1 x2.1 x2.2.2 _ h3 (hW.roX h_v1 (fun g hg => lent_in hg)) hL) (fun x a w hF hW => ?_)
 have hW : Stw ⟨Y, X, w0⟩ [(q_p4, [.int .i64 x3.2.2])] [] w := hW
 refine ls hF hW rfl ((y_move hF rfl).q) (fun a w hF hW => ?_)
 refine ls hF hW rfl ((y_extract (v := Value.int .i64 x3.1) hF rfl rfl).q) (fun a w hF hW => ?_)
 refine ls hF hW rfl ((y_extract (v := Value.int .i64 x3.2.1) hF rfl rfl).q) (fun a w hF hW => ?_)
 iterate 2 refine ls hF hW rfl ((y_assign hF rfl).q) (fun a w hF hW => ?_)
 refine ls_nil (c_then ?_)
 refine c_seq (reg_list ?_)
 refine ls hF hW rfl ((y_move hF rfl).q) (fun a w hF hW => ?_)
 refine ls hF hW rfl ((y_assign hF rfl).q) (fun a w hF hW => ?_)
 refine ls_nil (c_then ?_)
 refine wp_ret ?_
 have H := Option.some.inj H
 subst H
 refine post1 (.inl rfl) hF hW rfl (rv_tmp hF rfl) ?_
 exact ⟨(), rfl, hW⟩

theorem H72 : Has Try.prog 72 := ⟨fun args w => run_callFunc_body Try.func72 rfl (by decide) args w⟩
noncomputable def slices_medianAdjacentCmpFunc_float64 (p0 : List Nat) (p1 : Int) (p2 : Int) : Option (Int × Int) := (slices_medianCmpFunc_float64 p0 (w64 (p1 - 1)) p1 (w64 (p1 + 1)) p2).bind fun x1 => some (x1.1, x1.2)
theorem slices_medianAdjacentCmpFunc_float64_c (Y : Nat → Prop) (X : List Nat) (w0 : World) (v1 : Value) (q_p2 : Nat) (p0 : List Nat) (p1 : Int) (p2 : Int) (r : Int × Int) (H : slices_medianAdjacentCmpFunc_float64 p0 p1 p2 = some r) (h_v1 : Sl w0 (NX X) (Rp.flt .f64) v1 p0) (hL : Stw ⟨Y, X, w0⟩ [(q_p2, [.int .i64 p2])] [] w0) :
    Calls Try.prog 71 #[v1, .int .i64 p1, .pointer (some ⟨q_p2, 0, none⟩), .func (.func 24) #[] #[]] w0 fun e w' => ∃ x : Unit, e = .returned (.int .i64 r.1) ∧ Stw ⟨Y, X, w0⟩ [(q_p2, [.int .i64 r.2])] [] w' := by
 refine enter Try.func71 rfl Try.ntmps71 rfl (fun a hF => ?_)
 have hW := hL
 unfold slices_medianAdjacentCmpFunc_float64 at H
 refine c_seq (reg_list ?_)
 refine ls hF hW rfl ((y_assign hF rfl).q) (fun a w hF hW => ?_)
 refine ls_nil (c_then ?_)
 refine c_seq (reg_list ?_)
 iterate 2 refine ls hF hW rfl ((y_move hF rfl).q) (fun a w hF hW => ?_)
 refine ls hF hW rfl ((y_sub hF rfl rfl rfl).q) (fun a w hF hW => ?_)
 iterate 2 refine ls hF hW rfl ((y_move hF rfl).q) (fun a w hF hW => ?_)
 refine ls hF hW rfl ((y_add hF rfl rfl rfl).q) (fun a w hF hW => ?_)
 iterate 2 refine ls hF hW rfl ((y_move hF rfl).q) (fun a w hF hW => ?_)
 obtain ⟨x1, h1, H⟩ := bindE H
 refine l_callG (Ml := [(q_p2, [.int .i64 p2])]) (Zl := []) (M := []) (Z := []) (β := Unit) (rv := fun x => .int .i64 x1.1) (MM := fun x => [(q_p2, [.int .i64 x1.2])]) (ZZ := fun x => []) hF hW H72 rfl rfl (fun hL => slices_medianCmpFunc_float64_c _ _ w (v1) q_p2 p0 (w64 (p1 - 1)) p1 (w64 (p1 + 1)) p2 _ h1 (hW.roX h_v1 (fun g hg => lent_in hg)) hL) (fun x a w hF hW => ?_)
 have hW : Stw ⟨Y, X, w0⟩ [(q_p2, [.int .i64 x1.2])] [] w := hW
 refine ls hF hW rfl ((y_assign hF rfl).q) (fun a w hF hW => ?_)
 refine ls_nil (c_then ?_)
 refine wp_ret ?_
 have H := Option.some.inj H
 subst H
 refine post1 (.inl rfl) hF hW rfl (rv_tmp hF rfl) ?_
 exact ⟨(), rfl, hW⟩

theorem H71 : Has Try.prog 71 := ⟨fun args w => run_callFunc_body Try.func71 rfl (by decide) args w⟩
noncomputable def slices_choosePivotCmpFunc_float64 (p0 : List Nat) (p1 : Int) (p2 : Int) : Option (Int × Int) := (if 8 ≤ (w64 (p2 - p1)) then (if 50 ≤ (w64 (p2 - p1)) then (slices_medianAdjacentCmpFunc_float64 p0 (w64 (p1 + (w64 ((w64 (Int.tdiv (w64 (p2 - p1)) 4)) * 1)))) 0).bind fun x7 => (slices_medianAdjacentCmpFunc_float64 p0 (w64 (p1 + (w64 ((w64 (Int.tdiv (w64 (p2 - p1)) 4)) * 2)))) x7.2).bind fun x8 => (slices_medianAdjacentCmpFunc_float64 p0 (w64 (p1 + (w64 ((w64 (Int.tdiv (w64 (p2 - p1)) 4)) * 3)))) x8.2).bind fun x9 => some (x7.1, x8.1, x9.1, x9.2) else some (w64 (p1 + (w64 ((w64 (Int.tdiv (w64 (p2 - p1)) 4)) * 1))), w64 (p1 + (w64 ((w64 (Int.tdiv (w64 (p2 - p1)) 4)) * 2))), w64 (p1 + (w64 ((w64 (Int.tdiv (w64 (p2 - p1)) 4)) * 3))), 0)).bind fun (x3, x4, x5, x6) => (slices_medianCmpFunc_float64 p0 x3 x4 x5 x6).bind fun x10 => some (x10.1, x10.2) else some (w64 (p1 + (w64 ((w64 (Int.tdiv (w64 (p2 - p1)) 4)) * 2))), 0)).bind fun (x1, x2) => (if x2 = 0 then some (x1, 1) else (if x2 = 12 then some (x1, 2) else some (x1, 0)))
theorem slices_choosePivotCmpFunc_float64_c (Y : Nat → Prop) (w0 : World) (v1 : Value) (p0 : List Nat) (p1 : Int) (p2 : Int) (r : Int × Int) (H : slices_choosePivotCmpFunc_float64 p0 p1 p2 = some r) (h_v1 : Sl w0 (NX []) (Rp.flt .f64) v1 p0) :
    Calls Try.prog 61 #[v1, .int .i64 p1, .int .i64 p2, .func (.func 24) #[] #[]] w0 fun e w' => e = .returned (.tuple #[.int .i64 r.1, .int .i64 r.2]) ∧ Below w0.heap.size w0 w' := by
 refine enter Try.func61 rfl Try.ntmps61 rfl (fun a hF => ?_)
 have hW := Stw.start Y w0
 unfold slices_choosePivotCmpFunc_float64 at H
 refine c_seq (reg_list ?_)
 iterate 2 refine ls hF hW rfl ((y_assign hF rfl).q) (fun a w hF hW => ?_)
 refine ls_nil (c_then ?_)
 refine c_seq (reg_list ?_)
 iterate 2 refine ls hF hW rfl ((y_move hF rfl).q) (fun a w hF hW => ?_)
 refine ls hF hW rfl ((y_sub hF rfl rfl rfl).q) (fun a w hF hW => ?_)
 refine ls hF hW rfl ((y_assign hF rfl).q) (fun a w hF hW => ?_)
 refine ls_nil (c_then ?_)
 refine c_seq (reg_list ?_)
 refine l_alloc (cs := [.int .i64 0]) hF hW rfl Z3 rfl (fun b1 a w hF hW => ?_)
 refine ls_nil (c_then ?_)
 refine c_seq (reg_list ?_)
 iterate 2 refine ls hF hW rfl ((y_move hF rfl).q) (fun a w hF hW => ?_)
 refine ls hF hW rfl ((y_quo hF rfl rfl (by decide) rfl).q) (fun a w hF hW => ?_)
 refine ls hF hW rfl ((y_mul hF rfl rfl rfl).q) (fun a w hF hW => ?_)
 refine ls hF hW rfl ((y_add hF rfl rfl rfl).q) (fun a w hF hW => ?_)
 refine ls hF hW rfl ((y_assign hF rfl).q) (fun a w hF hW => ?_)
 refine ls_nil (c_then ?_)
 refine c_seq (reg_list ?_)
 iterate 2 refine ls hF hW rfl ((y_move hF rfl).q) (fun a w hF hW => ?_)
 refine ls hF hW rfl ((y_quo hF rfl rfl (by decide) rfl).q) (fun a w hF hW => ?_)
 refine ls hF hW rfl ((y_mul hF rfl rfl rfl).q) (fun a w hF hW => ?_)
 refine ls hF hW rfl ((y_add hF rfl rfl rfl).q) (fun a w hF hW => ?_)
 refine ls hF hW rfl ((y_assign hF rfl).q) (fun a w hF hW => ?_)
 refine ls_nil (c_then ?_)
 refine c_seq (reg_list ?_)
 iterate 2 refine ls hF hW rfl ((y_move hF rfl).q) (fun a w hF hW => ?_)
 refine ls hF hW rfl ((y_quo hF rfl rfl (by decide) rfl).q) (fun a w hF hW => ?_)
 refine ls hF hW rfl ((y_mul hF rfl rfl rfl).q) (fun a w hF hW => ?_)
 refine ls hF hW rfl ((y_add hF rfl rfl rfl).q) (fun a w hF hW => ?_)
 refine ls hF hW rfl ((y_assign hF rfl).q) (fun a w hF hW => ?_)
 refine ls_nil (c_then ?_)
 obtain ⟨o1, G1, K1⟩ := bindE H
 refine c_seqJ (fun a w => ∃ x1 : Int, ∃ x2 : Int, some ((x1, x2)) = some o1 ∧ Fr 63 [] [(8, .int .i64 0), (9, .int .i64 0), (11, .pointer (some ⟨b1, 0, none⟩)), (13, .int .i64 x1)] a ∧ Stw ⟨Y, [], w0⟩ [(b1, [.int .i64 x2])] [] w) ?_ ?_
 ·
  have H := G1
  clear G1 K1
  refine c_seq (reg_list ?_)
  refine ls hF hW rfl ((y_move hF rfl).q) (fun a w hF hW => ?_)
  refine ls hF hW rfl ((y_geq hF rfl rfl).q) (fun a w hF hW => ?_)
  refine ls_nil (c_then ?_)
  refine c_cond hF rfl (fun hb => ?_) (fun hb => ?_)
  ·
   have H := iteT (of_decide_eq_true hb) H
   rw [hb] at hF
   clear hb
   obtain ⟨o2, G2, K2⟩ := bindE H
   refine c_seqJ (fun a w => ∃ x3 : Int, ∃ x4 : Int, ∃ x5 : Int, ∃ x6 : Int, some ((x3, x4, x5, x6)) = some o2 ∧ Fr 63 [] [(0, v1), (3, .func (.func 24) #[] #[]), (8, .int .i64 0), (9, .int .i64 0), (11, .pointer (some ⟨b1, 0, none⟩)), (12, .int .i64 x3), (13, .int .i64 x4), (14, .int .i64 x5)] a ∧ Stw ⟨Y, [], w0⟩ [(b1, [.int .i64 x6])] [] w) ?_ ?_
   ·
    have H := G2
    clear G2 K2
    refine c_seq (reg_list ?_)
    refine ls hF hW rfl ((y_move hF rfl).q) (fun a w hF hW => ?_)
    refine ls hF hW rfl ((y_geq hF rfl rfl).q) (fun a w hF hW => ?_)
    refine ls_nil (c_then ?_)
    refine c_cond hF rfl (fun hb => ?_) (fun hb => ?_)
    ·
     have H := iteT (of_decide_eq_true hb) H
     rw [hb] at hF
     clear hb
     refine c_seq (reg_list ?_)
     iterate 3 refine ls hF hW rfl ((y_move hF rfl).q) (fun a w hF hW => ?_)
     obtain ⟨x7, h1, H⟩ := bindE H
     refine l_callG (Ml := [(b1, [.int .i64 0])]) (Zl := []) (M := []) (Z := []) (β := Unit) (rv := fun x => .int .i64 x7.1) (MM := fun x => [(b1, [.int .i64 x7.2])]) (ZZ := fun x => []) hF hW H71 rfl rfl (fun hL => slices_medianAdjacentCmpFunc_float64_c _ _ w (v1) b1 p0 (w64 (p1 + (w64 ((w64 (Int.tdiv (w64 (p2 - p1)) 4)) * 1)))) 0 _ h1 (hW.roX h_v1 (fun g hg => lent_in hg)) hL) (fun x a w hF hW => ?_)
     have hW : Stw ⟨Y, [], w0⟩ [(b1, [.int .i64 x7.2])] [] w := hW
     refine ls hF hW rfl ((y_assign hF rfl).q) (fun a w hF hW => ?_)
     refine ls_nil (c_then ?_)
     refine c_seq (reg_list ?_)
     iterate 3 refine ls hF hW rfl ((y_move hF rfl).q) (fun a w hF hW => ?_)
     obtain ⟨x8, h2, H⟩ := bindE H
     refine l_callG (Ml := [(b1, [.int .i64 x7.2])]) (Zl := []) (M := []) (Z := []) (β := Unit) (rv := fun x => .int .i64 x8.1) (MM := fun x => [(b1, [.int .i64 x8.2])]) (ZZ := fun x => []) hF hW H71 rfl rfl (fun hL => slices_medianAdjacentCmpFunc_float64_c _ _ w (v1) b1 p0 (w64 (p1 + (w64 ((w64 (Int.tdiv (w64 (p2 - p1)) 4)) * 2)))) x7.2 _ h2 (hW.roX h_v1 (fun g hg => lent_in hg)) hL) (fun x a w hF hW => ?_)
     have hW : Stw ⟨Y, [], w0⟩ [(b1, [.int .i64 x8.2])] [] w := hW
     refine ls hF hW rfl ((y_assign hF rfl).q) (fun a w hF hW => ?_)
     refine ls_nil (c_then ?_)
     refine reg_list ?_
     iterate 3 refine ls hF hW rfl ((y_move hF rfl).q) (fun a w hF hW => ?_)
     obtain ⟨x9, h3, H⟩ := bindE H
     refine l_callG (Ml := [(b1, [.int .i64 x8.2])]) (Zl := []) (M := []) (Z := []) (β := Unit) (rv := fun x => .int .i64 x9.1) (MM := fun x => [(b1, [.int .i64 x9.2])]) (ZZ := fun x => []) hF hW H71 rfl rfl (fun hL => slices_medianAdjacentCmpFunc_float64_c _ _ w (v1) b1 p0 (w64 (p1 + (w64 ((w64 (Int.tdiv (w64 (p2 - p1)) 4)) * 3)))) x8.2 _ h3 (hW.roX h_v1 (fun g hg => lent_in hg)) hL) (fun x a w hF hW => ?_)
     have hW : Stw ⟨Y, [], w0⟩ [(b1, [.int .i64 x9.2])] [] w := hW
     refine ls hF hW rfl ((y_assign hF rfl).q) (fun a w hF hW => ?_)
     refine ls_nil (c_then ?_)
     exact ⟨_, _, _, _, H, hF.re ⟨rfl, rfl, rfl, rfl, rfl, rfl, rfl, rfl, trivial⟩, hW⟩
    ·
     have H := iteF (of_decide_eq_false hb) H
     rw [hb] at hF
     clear hb
     refine wp_skip ?_
     refine c_then ?_
     exact ⟨_, _, _, _, H, hF.re ⟨rfl, rfl, rfl, rfl, rfl, rfl, rfl, rfl, trivial⟩, hW⟩
   rintro a w ⟨x3, x4, x5, x6, hj, hF, hW⟩
   have hj := Option.some.inj hj
   subst hj
   have H := K2
   clear G2 K2
   refine reg_list ?_
   iterate 5 refine ls hF hW rfl ((y_move hF rfl).q) (fun a w hF hW => ?_)
   obtain ⟨x10, h4, H⟩ := bindE H
   refine l_callG (Ml := [(b1, [.int .i64 x6])]) (Zl := []) (M := []) (Z := []) (β := Unit) (rv := fun x => .int .i64 x10.1) (MM := fun x => [(b1, [.int .i64 x10.2])]) (ZZ := fun x => []) hF hW H72 rfl rfl (fun hL => slices_medianCmpFunc_float64_c _ _ w (v1) b1 p0 x3 x4 x5 x6 _ h4 (hW.roX h_v1 (fun g hg => lent_in hg)) hL) (fun x a w hF hW => ?_)
   have hW : Stw ⟨Y, [], w0⟩ [(b1, [.int .i64 x10.2])] [] w := hW
   refine ls hF hW rfl ((y_assign hF rfl).q) (fun a w hF hW => ?_)
   refine ls_nil (c_then ?_)
   exact ⟨_, _, H, hF.re ⟨rfl, rfl, rfl, rfl, trivial⟩, hW⟩
  ·
   have H := iteF (of_decide_eq_false hb) H
   rw [hb] at hF
   clear hb
   refine wp_skip ?_
   refine c_then ?_
   exact ⟨_, _, H, hF.re ⟨rfl, rfl, rfl, rfl, trivial⟩, hW⟩
 rintro a w ⟨x1, x2, hj, hF, hW⟩
 have hj := Option.some.inj hj
 subst hj
 have H := K1
 clear G1 K1
 refine c_seq (reg_list ?_)
 refine ls hF hW rfl ((y_load (v := Value.int .i64 x2) 0 hF rfl rfl T3 rfl).q) (fun a w hF hW => ?_)
 refine ls_nil (c_then ?_)
 refine wp_block ?_
 refine c_seq (reg_list ?_)
 refine ls hF hW rfl ((y_eql hF rfl rfl).q) (fun a w hF hW => ?_)
 refine ls hF hW rfl ((y_assign hF rfl).q) (fun a w hF hW => ?_)
 refine ls_nil (c_then ?_)
 refine c_cond hF rfl (fun hb => ?_) (fun hb => ?_)
 ·
  have H := iteT (of_decide_eq_true hb) H
  rw [hb] at hF
  clear hb
  refine c_seq (reg_list ?_)
  refine ls hF hW rfl ((y_move hF rfl).q) (fun a w hF hW => ?_)
  iterate 2 refine ls hF hW rfl ((y_assign hF rfl).q) (fun a w hF hW => ?_)
  refine ls_nil (c_then ?_)
  refine wp_ret ?_
  refine r_block ?_
  have H := Option.some.inj H
  subst H
  refine post2 (.inl rfl) hF hW rfl (rv_tmp hF rfl) (rv_tmp hF rfl) ?_
  exact ⟨rfl, hW.done⟩
 ·
  have H := iteF (of_decide_eq_false hb) H
  rw [hb] at hF
  clear hb
  refine c_seq (reg_list ?_)
  refine ls hF hW rfl ((y_eql hF rfl rfl).q) (fun a w hF hW => ?_)
  refine ls hF hW rfl ((y_assign hF rfl).q) (fun a w hF hW => ?_)
  refine ls_nil (c_then ?_)
  refine c_cond hF rfl (fun hb => ?_) (fun hb => ?_)
  ·
   have H := iteT (of_decide_eq_true hb) H
   rw [hb] at hF
   clear hb
   refine c_seq (reg_list ?_)
   refine ls hF hW rfl ((y_move hF rfl).q) (fun a w hF hW => ?_)
   iterate 2 refine ls hF hW rfl ((y_assign hF rfl).q) (fun a w hF hW => ?_)
   refine ls_nil (c_then ?_)
   refine wp_ret ?_
   refine r_block ?_
   have H := Option.some.inj H
   subst H
   refine post2 (.inl rfl) hF hW rfl (rv_tmp hF rfl) (rv_tmp hF rfl) ?_
   exact ⟨rfl, hW.done⟩
  ·
   have H := iteF (of_decide_eq_false hb) H
   rw [hb] at hF
   clear hb
   refine c_seq (reg_list ?_)
   refine ls hF hW rfl ((y_move hF rfl).q) (fun a w hF hW => ?_)
   iterate 2 refine ls hF hW rfl ((y_assign hF rfl).q) (fun a w hF hW => ?_)
   refine ls_nil (c_then ?_)
   refine wp_ret ?_
   refine r_block ?_
   have H := Option.some.inj H
   subst H
   refine post2 (.inl rfl) hF hW rfl (rv_tmp hF rfl) (rv_tmp hF rfl) ?_
   exact ⟨rfl, hW.done⟩

theorem H61 : Has Try.prog 61 := ⟨fun args w => run_callFunc_body Try.func61 rfl (by decide) args w⟩
noncomputable def slices_reverseRangeCmpFunc_float64_l1  : (List Nat × Int × Int) → Option ((List Nat × Int × Int) ⊕ (List Nat))
  | (x1, x2, x3) => (if x2 < x3 then (ix x1 x3).bind fun x4 => (ix x1 x2).bind fun x5 => (ix x1 x2).bind fun x6 => (ix (setAt x1 x2 x4) x3).bind fun x7 => some (.inl ((setAt (setAt x1 x2 x4) x3 x5), w64 (x2 + 1), w64 (x3 - 1))) else some (.inr x1))
noncomputable def slices_reverseRangeCmpFunc_float64 (p0 : List Nat) (p1 : Int) (p2 : Int) : Option (List Nat) := loopW (slices_reverseRangeCmpFunc_float64_l1) (p0, p1, w64 (p2 - 1))
theorem slices_reverseRangeCmpFunc_float64_c (Y : Nat → Prop) (X : List Nat) (w0 : World) (v1 : Value) (p0 : List Nat) (p1 : Int) (p2 : Int) (r : List Nat) (H : slices_reverseRangeCmpFunc_float64 p0 p1 p2 = some r) (hL : Stw ⟨Y, X, w0⟩ [] [row v1 25 (Rp.flt .f64) p0] w0) :
    Calls Try.prog 62 #[v1, .int .i64 p1, .int .i64 p2, .func (.func 24) #[] #[]] w0 fun e w' => ∃ x : Unit, e = .returned (.tuple #[]) ∧ Stw ⟨Y, X, w0⟩ [] [row v1 25 (Rp.flt .f64) r] w' := by
 refine enter Try.func62 rfl Try.ntmps62 rfl (fun a hF => ?_)
 have hW := hL
 unfold slices_reverseRangeCmpFunc_float64 at H
 refine c_seq (reg_list ?_)
 refine ls hF hW rfl ((y_move hF rfl).q) (fun a w hF hW => ?_)
 refine ls hF hW rfl ((y_assign hF rfl).q) (fun a w hF hW => ?_)
 refine ls_nil (c_then ?_)
 refine c_seq (reg_list ?_)
 refine ls hF hW rfl ((y_move hF rfl).q) (fun a w hF hW => ?_)
 refine ls hF hW rfl ((y_sub hF rfl rfl rfl).q) (fun a w hF hW => ?_)
 refine ls hF hW rfl ((y_assign hF rfl).q) (fun a w hF hW => ?_)
 refine ls_nil (c_then ?_)
 refine wp_block ?_
 refine c_loopW H (fun s a w => Fr 34 [] [(0, v1), (8, .int .i64 s.2.1), (9, .int .i64 s.2.2)] a ∧ Stw ⟨Y, X, w0⟩ [] [row v1 25 (Rp.flt .f64) s.1] w) ⟨hF.re ⟨rfl, rfl, rfl, trivial⟩, hW⟩ (fun s o a w H L1 hR => ?_)
 obtain ⟨x1, x2, x3⟩ := s
 obtain ⟨hF, hW⟩ := hR
 have hF : Fr 34 [] [(0, v1), (8, .int .i64 x2), (9, .int .i64 x3)] a := hF
 have hW : Stw ⟨Y, X, w0⟩ [] [row v1 25 (Rp.flt .f64) x1] w := hW
 rw [slices_reverseRangeCmpFunc_float64_l1] at H
 refine c_seq ?_
 refine c_seq (reg_list ?_)
 iterate 2 refine ls hF hW rfl ((y_move hF rfl).q) (fun a w hF hW => ?_)
 refine ls hF hW rfl ((y_lss hF rfl rfl).q) (fun a w hF hW => ?_)
 refine ls_nil (c_then ?_)
 refine c_cond hF rfl (fun hb => ?_) (fun hb => ?_)
 ·
  have H := iteT (of_decide_eq_true hb) H
  rw [hb] at hF
  clear hb
  refine wp_skip ?_
  refine c_then ?_
  refine wp_block ?_
  refine c_seq ?_
  refine reg_ord 13 [2, 3] [0, 1, 4, 5, 6, 7, 8, 9, 10, 11, 12] (fun ch a d v w h => by cases d <;> exact h) hW MO (by kernel_rfl) ?_
  iterate 2 refine hm hF rfl rfl rfl (fun a hF => ?_)
  refine hm_end ?_
  iterate 4 refine hs hF rfl rfl rfl ((y_move hF rfl).q) (fun a hF => ?_)
  obtain ⟨x4, h1, H⟩ := bindE H
  refine hs hF rfl rfl rfl ((y_index (r := (Rp.flt .f64)) L34 hF rfl rfl (rdc_row 0 rfl) h1).q) (fun a hF => ?_)
  refine hs hF rfl rfl rfl ((y_load_el (y := Value.float .f64 x4) (j := 0) (i := x3) hF rfl rfl (rdc_row 0 rfl) h1 Fl.flt.to T25 rfl).q) (fun a hF => ?_)
  iterate 2 refine hs hF rfl rfl rfl ((y_move hF rfl).q) (fun a hF => ?_)
  obtain ⟨x5, h2, H⟩ := bindE H
  refine hs hF rfl rfl rfl ((y_index (r := (Rp.flt .f64)) L34 hF rfl rfl (rdc_row 0 rfl) h2).q) (fun a hF => ?_)
  refine hs hF rfl rfl rfl ((y_load_el (y := Value.float .f64 x5) (j := 0) (i := x2) hF rfl rfl (rdc_row 0 rfl) h2 Fl.flt.to T25 rfl).q) (fun a hF => ?_)
  obtain ⟨x6, h3, H⟩ := bindE H
  refine hs hF rfl rfl rfl ((y_index (r := (Rp.flt .f64)) L34 hF rfl rfl (rdc_row 0 rfl) h3).q) (fun a hF => ?_)
  refine h_end (fun w hW => ?_)
  have hW : Stw ⟨Y, X, w0⟩ [] [row v1 25 (Rp.flt .f64) x1] w := hW
  refine l_store_el (i := x2) (j := 0) (vs := [.float .f64 x4]) (x' := x4) hF hW rfl rfl rfl (k := 0) rfl rfl h3 T25 rfl rfl rfl rfl (fun A cs _ => Fl.flt.sto (by rfl) _ _ _) (fun w hW => ?_)
  obtain ⟨x7, h4, H⟩ := bindE H
  refine ls hF hW rfl ((y_index (r := (Rp.flt .f64)) L34 hF rfl rfl (rdc_row 0 rfl) h4).q) (fun a w hF hW => ?_)
  refine l_store_el (i := x3) (j := 0) (vs := [.float .f64 x5]) (x' := x5) hF hW rfl rfl rfl (k := 0) rfl rfl h4 T25 rfl rfl rfl rfl (fun A cs _ => Fl.flt.sto (by rfl) _ _ _) (fun w hW => ?_)
  refine ls_nil (c_then ?_)
  refine c_seq (reg_list ?_)
  refine ls hF hW rfl ((y_move hF rfl).q) (fun a w hF hW => ?_)
  refine ls hF hW rfl ((y_add hF rfl rfl rfl).q) (fun a w hF hW => ?_)
  refine ls hF hW rfl ((y_assign hF rfl).q) (fun a w hF hW => ?_)
  refine ls_nil (c_then ?_)
  refine reg_list ?_
  refine ls hF hW rfl ((y_move hF rfl).q) (fun a w hF hW => ?_)
  refine ls hF hW rfl ((y_sub hF rfl rfl rfl).q) (fun a w hF hW => ?_)
  refine ls hF hW rfl ((y_assign hF rfl).q) (fun a w hF hW => ?_)
  refine ls_nil ?_
  refine b_normal ?_
  refine c_then ?_
  exact ⟨_, H, hF.re ⟨rfl, rfl, rfl, trivial⟩, hW⟩
 ·
  have H := iteF (of_decide_eq_false hb) H
  rw [hb] at hF
  clear hb
  refine wp_exit ?_
  iterate 2 refine e_then ?_
  refine e_block ?_
  have H := L1 _ H
  have H := Option.some.inj H
  subst H
  refine post0 (.inr rfl) hF rfl ?_
  exact ⟨(), rfl, hW⟩

theorem H62 : Has Try.prog 62 := ⟨fun args w => run_callFunc_body Try.func62 rfl (by decide) args w⟩
noncomputable def slices_partialInsertionSortCmpFunc_float64_l2 (p2 : Int) (x2 : List Nat) : Int → Option (Int ⊕ Int)
  | x8 => (if x8 < p2 then (ix x2 x8).bind fun x10 => (ix x2 (w64 (x8 - 1))).bind fun x11 => (float_Compare x10 x11).bind fun x12 => some (!(decide (x12 < 0))) else some false).bind fun x9 => (if x9 = true then some (.inl (w64 (x8 + 1))) else some (.inr x8))
noncomputable def slices_partialInsertionSortCmpFunc_float64_l3  : (List Nat × Int) → Option ((List Nat × Int) ⊕ (List Nat))
  | (x18, x19) => (if 1 ≤ x19 then (ix x18 x19).bind fun x20 => (ix x18 (w64 (x19 - 1))).bind fun x21 => (float_Compare x20 x21).bind fun x22 => (if (!(decide (x22 < 0))) = true then some (.inr x18) else (ix x18 (w64 (x19 - 1))).bind fun x23 => (ix x18 x19).bind fun x24 => (ix x18 x19).bind fun x25 => (ix (setAt x18 x19 x23) (w64 (x19 - 1))).bind fun x26 => some (.inl ((setAt (setAt x18 x19 x23) (w64 (x19 - 1)) x24), w64 (x19 - 1)))) else some (.inr x18))
noncomputable def slices_partialInsertionSortCmpFunc_float64_l4 (p2 : Int) (x7 : Int) : (List Nat × Int) → Option ((List Nat × Int) ⊕ ((List Nat × Int) ⊕ ((List Nat × Int × Int) ⊕ ((List Nat) ⊕ (Bool × List Nat)))))
  | (x27, x28) => (if x28 < p2 then (ix x27 x28).bind fun x29 => (ix x27 (w64 (x28 - 1))).bind fun x30 => (float_Compare x29 x30).bind fun x31 => (if (!(decide (x31 < 0))) = true then some (.inr (.inl (x27, x7))) else (ix x27 (w64 (x28 - 1))).bind fun x32 => (ix x27 x28).bind fun x33 => (ix x27 x28).bind fun x34 => (ix (setAt x27 x28 x32) (w64 (x28 - 1))).bind fun x35 => some (.inl ((setAt (setAt x27 x28 x32) (w64 (x28 - 1)) x33), w64 (x28 + 1)))) else some (.inr (.inl (x27, x7))))
noncomputable def slices_partialInsertionSortCmpFunc_float64_l1 (p1 : Int) (p2 : Int) : (List Nat × Int × Int) → Option ((List Nat × Int × Int) ⊕ ((List Nat) ⊕ (Bool × List Nat)))
  | (x2, x3, x4) => (if x4 < 5 then orR ((loopW (slices_partialInsertionSortCmpFunc_float64_l2 p2 x2) x3).bind fun x7 => (if x7 = p2 then some (.inr (.inr (.inr (true, x2)))) else (if (w64 (p2 - p1)) < 50 then some (.inr (.inr (.inr (false, x2)))) else (ix x2 (w64 (x7 - 1))).bind fun x13 => (ix x2 x7).bind fun x14 => (ix x2 x7).bind fun x15 => (ix (setAt x2 x7 x13) (w64 (x7 - 1))).bind fun x16 => (if 2 ≤ (w64 (x7 - p1)) then loopW (slices_partialInsertionSortCmpFunc_float64_l3) ((setAt (setAt x2 x7 x13) (w64 (x7 - 1)) x14), w64 (x7 - 1)) else some (setAt (setAt x2 x7 x13) (w64 (x7 - 1)) x14)).bind fun x17 => (if 2 ≤ (w64 (p2 - x7)) then loopW (slices_partialInsertionSortCmpFunc_float64_l4 p2 x7) (x17, w64 (x7 + 1)) else some (.inl (x17, x7)))))) fun (x5, x6) => some (.inl (x5, x6, w64 (x4 + 1))) else some (.inr (.inl x2)))
noncomputable def slices_partialInsertionSortCmpFunc_float64 (p0 : List Nat) (p1 : Int) (p2 : Int) : Option (Bool × List Nat) := orR (loopW (slices_partialInsertionSortCmpFunc_float64_l1 p1 p2) (p0, w64 (p1 + 1), 0)) fun x1 => some (false, x1)
theorem slices_partialInsertionSortCmpFunc_float64_c (Y : Nat → Prop) (X : List Nat) (w0 : World) (v1 : Value) (p0 : List Nat) (p1 : Int) (p2 : Int) (r : Bool × List Nat) (H : slices_partialInsertionSortCmpFunc_float64 p0 p1 p2 = some r) (hL : Stw ⟨Y, X, w0⟩ [] [row v1 25 (Rp.flt .f64) p0] w0) :
    Calls Try.prog 63 #[v1, .int .i64 p1, .int .i64 p2, .func (.func 24) #[] #[]] w0 fun e w' => ∃ x : Unit, e = .returned (.bool r.1) ∧ Stw ⟨Y, X, w0⟩ [] [row v1 25 (Rp.flt .f64) r.2] w' := by
 refine enter Try.func63 rfl Try.ntmps63 rfl (fun a hF => ?_)
 have hW := hL
 unfold slices_partialInsertionSortCmpFunc_float64 at H
 refine c_seq (reg_list ?_)
 refine ls hF hW rfl ((y_assign hF rfl).q) (fun a w hF hW => ?_)
 refine ls_nil (c_then ?_)
 refine c_seq (reg_list ?_)
 refine ls hF hW rfl ((y_move hF rfl).q) (fun a w hF hW => ?_)
 refine ls hF hW rfl ((y_add hF rfl rfl rfl).q) (fun a w hF hW => ?_)
 refine ls hF hW rfl ((y_assign hF rfl).q) (fun a w hF hW => ?_)
 refine ls_nil (c_then ?_)
 obtain ⟨o1, G1, K1, L1⟩ := orE H
 refine c_seqJ (fun a w => ∃ x1 : List Nat, some (Sum.inl x1) = some o1 ∧ Fr 141 [] [(8, .bool false)] a ∧ Stw ⟨Y, X, w0⟩ [] [row v1 25 (Rp.flt .f64) x1] w) ?_ ?_
 ·
  have H := G1
  clear G1 K1
  refine c_seq (reg_list ?_)
  refine ls hF hW rfl ((y_assign hF rfl).q) (fun a w hF hW => ?_)
  refine ls_nil (c_then ?_)
  refine wp_block ?_
  refine c_loopW H (fun s a w => Fr 141 [] [(0, v1), (1, .int .i64 p1), (2, .int .i64 p2), (3, .func (.func 24) #[] #[]), (8, .bool false), (9, .int .i64 s.2.1), (10, .int .i64 s.2.2)] a ∧ Stw ⟨Y, X, w0⟩ [] [row v1 25 (Rp.flt .f64) s.1] w) ⟨hF.re ⟨rfl, rfl, rfl, rfl, rfl, rfl, rfl, trivial⟩, hW⟩ (fun s o a w H L2 hR => ?_)
  obtain ⟨x2, x3, x4⟩ := s
  obtain ⟨hF, hW⟩ := hR
  have hF : Fr 141 [] [(0, v1), (1, .int .i64 p1), (2, .int .i64 p2), (3, .func (.func 24) #[] #[]), (8, .bool false), (9, .int .i64 x3), (10, .int .i64 x4)] a := hF
  have hW : Stw ⟨Y, X, w0⟩ [] [row v1 25 (Rp.flt .f64) x2] w := hW
  rw [slices_partialInsertionSortCmpFunc_float64_l1] at H
  refine c_seq ?_
  refine c_seq (reg_list ?_)
  refine ls hF hW rfl ((y_move hF rfl).q) (fun a w hF hW => ?_)
  refine ls hF hW rfl ((y_lss hF rfl rfl).q) (fun a w hF hW => ?_)
  refine ls_nil (c_then ?_)
  refine c_cond hF rfl (fun hb => ?_) (fun hb => ?_)
  ·
   have H := iteT (of_decide_eq_true hb) H
   rw [hb] at hF
   clear hb
   refine wp_skip ?_
   refine c_then ?_
   obtain ⟨o3, G3, K3, L3⟩ := orE H
   refine c_seqJ (fun a w => ∃ x5 : List Nat, ∃ x6 : Int, some (Sum.inl (x5, x6)) = some o3 ∧ Fr 141 [] [(0, v1), (1, .int .i64 p1), (2, .int .i64 p2), (3, .func (.func 24) #[] #[]), (8, .bool false), (9, .int .i64 x6), (10, .int .i64 x4)] a ∧ Stw ⟨Y, X, w0⟩ [] [row v1 25 (Rp.flt .f64) x5] w) ?_ ?_
   ·
    have H := G3
    clear G3 K3
    refine wp_block ?_
    obtain ⟨o4, G4, K4⟩ := bindE H
    refine c_seqJ (fun a w => ∃ x7 : Int, some (x7) = some o4 ∧ Fr 141 [] [(0, v1), (1, .int .i64 p1), (2, .int .i64 p2), (3, .func (.func 24) #[] #[]), (8, .bool false), (9, .int .i64 x7), (10, .int .i64 x4)] a ∧ Stw ⟨Y, X, w0⟩ [] [row v1 25 (Rp.flt .f64) x2] w) ?_ ?_
    ·
     have H := G4
     clear G4 K4
     refine wp_block ?_
     refine c_loopW H (fun s a w => Fr 141 [] [(0, v1), (1, .int .i64 p1), (2, .int .i64 p2), (3, .func (.func 24) #[] #[]), (8, .bool false), (9, .int .i64 s), (10, .int .i64 x4)] a ∧ Stw ⟨Y, X, w0⟩ [] [row v1 25 (Rp.flt .f64) x2] w) ⟨hF.re ⟨rfl, rfl, rfl, rfl, rfl, rfl, rfl, trivial⟩, hW⟩ (fun s o a w H L5 hR => ?_)
     obtain ⟨x8, rfl⟩ : ∃ x, x = s := ⟨s, rfl⟩
     obtain ⟨hF, hW⟩ := hR
     have hF : Fr 141 [] [(0, v1), (1, .int .i64 p1), (2, .int .i64 p2), (3, .func (.func 24) #[] #[]), (8, .bool false), (9, .int .i64 x8), (10, .int .i64 x4)] a := hF
     have hW : Stw ⟨Y, X, w0⟩ [] [row v1 25 (Rp.flt .f64) x2] w := hW
     rw [slices_partialInsertionSortCmpFunc_float64_l2] at H
     refine c_seq ?_
     obtain ⟨o6, G6, K6⟩ := bindE H
     refine c_seqJ (fun a w => ∃ x9 : Bool, some (x9) = some o6 ∧ Fr 141 [] [(0, v1), (1, .int .i64 p1), (2, .int .i64 p2), (3, .func (.func 24) #[] #[]), (8, .bool false), (9, .int .i64 x8), (10, .int .i64 x4), (36, .bool x9)] a ∧ Stw ⟨Y, X, w0⟩ [] [row v1 25 (Rp.flt .f64) x2] w) ?_ ?_
     ·
      have H := G6
      clear G6 K6
      refine reg_quiet hW MO (by kernel_rfl) ?_
      iterate 2 refine qs hF rfl ((y_move hF rfl).q) (fun a hF => ?_)
      refine qs hF rfl ((y_lss hF rfl rfl).q) (fun a hF => ?_)
      refine qs hF rfl ((y_move hF rfl).q) (fun a hF => ?_)
      rcases Bool.eq_false_or_eq_true (decide (x8 < p2)) with hb | hb
      ·
       have H := iteT (of_decide_eq_true hb) H
       rw [hb] at hF
       clear hb
       iterate 3 refine qs_w hF (wanted_y hF rfl rfl rfl rfl) rfl (Nat.le_of_ble_eq_true rfl) ((y_move hF rfl).q) (fun a hF => ?_)
       obtain ⟨x10, h1, H⟩ := bindE H
       refine qs_w hF (wanted_y hF rfl rfl rfl rfl) rfl (Nat.le_of_ble_eq_true rfl) ((y_index (r := (Rp.flt .f64)) L34 hF rfl rfl (rdc_row 0 rfl) h1).q) (fun a hF => ?_)
       refine qs_w hF (wanted_y hF rfl rfl rfl rfl) rfl (Nat.le_of_ble_eq_true rfl) ((y_load_el (y := Value.float .f64 x10) (j := 0) (i := x8) hF rfl rfl (rdc_row 0 rfl) h1 Fl.flt.to T25 rfl).q) (fun a hF => ?_)
       iterate 2 refine qs_w hF (wanted_y hF rfl rfl rfl rfl) rfl (Nat.le_of_ble_eq_true rfl) ((y_move hF rfl).q) (fun a hF => ?_)
       refine qs_w hF (wanted_y hF rfl rfl rfl rfl) rfl (Nat.le_of_ble_eq_true rfl) ((y_sub hF rfl rfl rfl).q) (fun a hF => ?_)
       obtain ⟨x11, h2, H⟩ := bindE H
       refine qs_w hF (wanted_y hF rfl rfl rfl rfl) rfl (Nat.le_of_ble_eq_true rfl) ((y_index (r := (Rp.flt .f64)) L34 hF rfl rfl (rdc_row 0 rfl) h2).q) (fun a hF => ?_)
       refine qs_w hF (wanted_y hF rfl rfl rfl rfl) rfl (Nat.le_of_ble_eq_true rfl) ((y_load_el (y := Value.float .f64 x11) (j := 0) (i := w64 (x8 - 1)) hF rfl rfl (rdc_row 0 rfl) h2 Fl.flt.to T25 rfl).q) (fun a hF => ?_)
       obtain ⟨x12, h3, H⟩ := bindE H
       refine qs_w hF (wanted_y hF rfl rfl rfl rfl) rfl (Nat.le_of_ble_eq_true rfl) (y_callV (ws := [.float .f64 x10, .float .f64 x11]) (v := Value.int .i64 x12) hF H24 rfl (fun w hW => float_Compare_c any w x10 x11 _ h3)) (fun a hF => ?_)
       refine qs_w hF (wanted_y hF rfl rfl rfl rfl) rfl (Nat.le_of_ble_eq_true rfl) ((y_lss hF rfl rfl).q) (fun a hF => ?_)
       refine qs_w hF (wanted_y hF rfl rfl rfl rfl) rfl (Nat.le_of_ble_eq_true rfl) ((y_not hF rfl).q) (fun a hF => ?_)
       refine qs hF rfl ((y_pick_t hF rfl rfl rfl).q) (fun a hF => ?_)
       refine quiet_end (fun w hW => ?_)
       refine c_then ?_
       exact ⟨_, H, hF.re ⟨rfl, rfl, rfl, rfl, rfl, rfl, rfl, rfl, trivial⟩, hW⟩
      ·
       have H := iteF (of_decide_eq_false hb) H
       rw [hb] at hF
       clear hb
       iterate 13 refine qs_skip hF (wanted_n hF rfl rfl rfl rfl rfl) rfl rfl (fun a hF => ?_)
       refine qs hF rfl ((y_pick_f hF rfl rfl rfl).q) (fun a hF => ?_)
       refine quiet_end (fun w hW => ?_)
       refine c_then ?_
       exact ⟨_, H, hF.re ⟨rfl, rfl, rfl, rfl, rfl, rfl, rfl, rfl, trivial⟩, hW⟩
     rintro a w ⟨x9, hj, hF, hW⟩
     have hj := Option.some.inj hj
     subst hj
     have H := K6
     clear G6 K6
     refine c_cond hF rfl (fun hb => ?_) (fun hb => ?_)
     ·
      have H := iteT hb H
      rw [hb] at hF
      clear hb
      refine wp_skip ?_
      refine c_then ?_
      refine wp_block ?_
      refine reg_list ?_
      refine ls hF hW rfl ((y_move hF rfl).q) (fun a w hF hW => ?_)
      refine ls hF hW rfl ((y_add hF rfl rfl rfl).q) (fun a w hF hW => ?_)
      refine ls hF hW rfl ((y_assign hF rfl).q) (fun a w hF hW => ?_)
      refine ls_nil ?_
      refine b_normal ?_
      refine c_then ?_
      exact ⟨_, H, hF.re ⟨rfl, rfl, rfl, rfl, rfl, rfl, rfl, trivial⟩, hW⟩
     ·
      have H := iteF (by rw [hb]; decide) H
      rw [hb] at hF
      clear hb
      refine wp_exit ?_
      iterate 2 refine e_then ?_
      refine e_block ?_
      refine c_then ?_
      have H := L5 _ H
      exact ⟨_, H, hF.re ⟨rfl, rfl, rfl, rfl, rfl, rfl, rfl, trivial⟩, hW⟩
    rintro a w ⟨x7, hj, hF, hW⟩
    have hj := Option.some.inj hj
    subst hj
    have H := K4
    clear G4 K4
    refine c_seq ?_
    refine c_seq (reg_list ?_)
    iterate 2 refine ls hF hW rfl ((y_move hF rfl).q) (fun a w hF hW => ?_)
    refine ls hF hW rfl ((y_eql hF rfl rfl).q) (fun a w hF hW => ?_)
    refine ls_nil (c_then ?_)
    refine c_cond hF rfl (fun hb => ?_) (fun hb => ?_)
    ·
     have H := iteT (of_decide_eq_true hb) H
     rw [hb] at hF
     clear hb
     refine c_seq (reg_list ?_)
     refine ls hF hW rfl ((y_assign hF rfl).q) (fun a w hF hW => ?_)
     refine ls_nil (c_then ?_)
     refine wp_ret ?_
     refine r_then ?_
     refine r_block ?_
     iterate 2 refine r_then ?_
     refine r_block ?_
     refine r_then ?_
     have H := L3 _ H
     have H := L2 _ H
     have H := L1 _ H
     have H := Option.some.inj H
     subst H
     refine post1 (.inl rfl) hF hW rfl (rv_tmp hF rfl) ?_
     exact ⟨(), rfl, hW⟩
    ·
     have H := iteF (of_decide_eq_false hb) H
     rw [hb] at hF
     clear hb
     refine wp_skip ?_
     refine c_then ?_
     refine c_seq ?_
     refine c_seq (reg_list ?_)
     iterate 2 refine ls hF hW rfl ((y_move hF rfl).q) (fun a w hF hW => ?_)
     refine ls hF hW rfl ((y_sub hF rfl rfl rfl).q) (fun a w hF hW => ?_)
     refine ls hF hW rfl ((y_lss hF rfl rfl).q) (fun a w hF hW => ?_)
     refine ls_nil (c_then ?_)
     refine c_cond hF rfl (fun hb => ?_) (fun hb => ?_)
     ·
      have H := iteT (of_decide_eq_true hb) H
      rw [hb] at hF
      clear hb
      refine c_seq (reg_list ?_)
      refine ls hF hW rfl ((y_assign hF rfl).q) (fun a w hF hW => ?_)
      refine ls_nil (c_then ?_)
      refine wp_ret ?_
      refine r_then ?_
      refine r_block ?_
      iterate 2 refine r_then ?_
      refine r_block ?_
      refine r_then ?_
      have H := L3 _ H
      have H := L2 _ H
      have H := L1 _ H
      have H := Option.some.inj H
      subst H
      refine post1 (.inl rfl) hF hW rfl (rv_tmp hF rfl) ?_
      exact ⟨(), rfl, hW⟩
     ·
      have H := iteF (of_decide_eq_false hb) H
      rw [hb] at hF
      clear hb
      refine wp_skip ?_
      refine c_then ?_
      refine c_seq ?_
      refine reg_plan [(true, 0), (true, 1), (true, 2), (true, 3), (true, 4), (true, 5), (true, 6), (true, 7), (true, 8), (true, 9), (true, 10), (true, 11), (true, 12), (true, 13), (true, 14), (false, 15), (true, 16), (false, 17)] (CN ⟨Y, X, w0⟩ [] [(some 15, row v1 25 (Rp.flt .f64) x2)]) (fun ch a d v w h => by cases d <;> exact h) MO (by kernel_rfl) hW (fun w hW => ⟨_, _, hW, all_nil, (all_cons (fun _ => (.head _)) all_nil)⟩) (fun w hW => ?_)
      iterate 4 refine pl_t (R := []) hF rfl rfl (yC fun M Z hN hZ => y_move hF rfl) rfl rfl (fun a hF => ?_)
      refine pl_t (R := []) hF rfl rfl (yC fun M Z hN hZ => y_sub hF rfl rfl rfl) rfl rfl (fun a hF => ?_)
      iterate 2 refine pl_t (R := []) hF rfl rfl (yC fun M Z hN hZ => y_move hF rfl) rfl rfl (fun a hF => ?_)
      refine pl_t (R := []) hF rfl rfl (yC fun M Z hN hZ => y_sub hF rfl rfl rfl) rfl rfl (fun a hF => ?_)
      obtain ⟨x13, h4, H⟩ := bindE H
      refine pl_t (R := []) hF rfl rfl (yC fun M Z hN hZ => y_indexV (r := (Rp.flt .f64)) L34 hF rfl rfl (vs_of hW (rdc_row 0 rfl)) h4) rfl rfl (fun a hF => ?_)
      refine pl_t (R := [15]) hF rfl rfl (yC fun M Z hN hZ => y_load_el (y := Value.float .f64 x13) (j := 0) (i := w64 (x7 - 1)) hF rfl rfl (rdc_mrow (hZ ((some 15), row v1 25 (Rp.flt .f64) x2) (.head _) rfl)) h4 Fl.flt.to T25 rfl) (by kernel_rfl) rfl (fun a hF => ?_)
      iterate 2 refine pl_t (R := []) hF rfl rfl (yC fun M Z hN hZ => y_move hF rfl) rfl rfl (fun a hF => ?_)
      obtain ⟨x14, h5, H⟩ := bindE H
      refine pl_t (R := []) hF rfl rfl (yC fun M Z hN hZ => y_indexV (r := (Rp.flt .f64)) L34 hF rfl rfl (vs_of hW (rdc_row 0 rfl)) h5) rfl rfl (fun a hF => ?_)
      refine pl_t (R := [15]) hF rfl rfl (yC fun M Z hN hZ => y_load_el (y := Value.float .f64 x14) (j := 0) (i := x7) hF rfl rfl (rdc_mrow (hZ ((some 15), row v1 25 (Rp.flt .f64) x2) (.head _) rfl)) h5 Fl.flt.to T25 rfl) (by kernel_rfl) rfl (fun a hF => ?_)
      obtain ⟨x15, h6, H⟩ := bindE H
      refine pl_t (R := []) hF rfl rfl (yC fun M Z hN hZ => y_indexV (r := (Rp.flt .f64)) L34 hF rfl rfl (vs_of hW (rdc_row 0 rfl)) h6) rfl rfl (fun a hF => ?_)
      refine pl_f rfl ?_
      refine l_store_el (i := x7) (j := 0) (vs := [.float .f64 x13]) (x' := x13) hF hW rfl rfl rfl (k := 0) rfl rfl h6 T25 rfl rfl rfl rfl (fun A cs _ => Fl.flt.sto (by rfl) _ _ _) (fun w hW => ?_)
      refine pl_next (N2 := []) (NZ2 := []) (N3 := []) (NZ3 := [(some 15, row v1 25 (Rp.flt .f64) x2)]) hW rfl rfl all_nil (all_cons (fun h => rel_dead (by kernel_rfl) h) all_nil) ?_
      obtain ⟨x16, h7, H⟩ := bindE H
      refine pl_t (R := []) hF rfl rfl (yC fun M Z hN hZ => y_indexV (r := (Rp.flt .f64)) L34 hF rfl rfl (vs_of hW (rdc_row 0 rfl)) h7) rfl rfl (fun a hF => ?_)
      refine pl_f rfl ?_
      refine l_store_el (i := w64 (x7 - 1)) (j := 0) (vs := [.float .f64 x14]) (x' := x14) hF hW rfl rfl rfl (k := 0) rfl rfl h7 T25 rfl rfl rfl rfl (fun A cs _ => Fl.flt.sto (by rfl) _ _ _) (fun w hW => ?_)
      refine pl_next (N2 := []) (NZ2 := []) (N3 := []) (NZ3 := [(some 15, row v1 25 (Rp.flt .f64) x2)]) hW rfl rfl all_nil (all_cons (fun h => rel_dead (by kernel_rfl) h) all_nil) ?_
      refine pl_end ?_
      refine c_then ?_
      obtain ⟨o7, G7, K7⟩ := bindE H
      refine c_seqJ (fun a w => ∃ x17 : List Nat, some (x17) = some o7 ∧ Fr 141 [] [(0, v1), (1, .int .i64 p1), (2, .int .i64 p2), (3, .func (.func 24) #[] #[]), (8, .bool false), (9, .int .i64 x7), (10, .int .i64 x4)] a ∧ Stw ⟨Y, X, w0⟩ [] [row v1 25 (Rp.flt .f64) x17] w) ?_ ?_
      ·
       have H := G7
       clear G7 K7
       refine c_seq (reg_list ?_)
       iterate 2 refine ls hF hW rfl ((y_move hF rfl).q) (fun a w hF hW => ?_)
       refine ls hF hW rfl ((y_sub hF rfl rfl rfl).q) (fun a w hF hW => ?_)
       refine ls hF hW rfl ((y_geq hF rfl rfl).q) (fun a w hF hW => ?_)
       refine ls_nil (c_then ?_)
       refine c_cond hF rfl (fun hb => ?_) (fun hb => ?_)
       ·
        have H := iteT (of_decide_eq_true hb) H
        rw [hb] at hF
        clear hb
        refine c_seq (reg_list ?_)
        refine ls hF hW rfl ((y_move hF rfl).q) (fun a w hF hW => ?_)
        refine ls hF hW rfl ((y_sub hF rfl rfl rfl).q) (fun a w hF hW => ?_)
        refine ls hF hW rfl ((y_assign hF rfl).q) (fun a w hF hW => ?_)
        refine ls_nil (c_then ?_)
        refine wp_block ?_
        refine c_loopW H (fun s a w => Fr 141 [] [(0, v1), (1, .int .i64 p1), (2, .int .i64 p2), (3, .func (.func 24) #[] #[]), (8, .bool false), (9, .int .i64 x7), (10, .int .i64 x4), (11, .int .i64 s.2)] a ∧ Stw ⟨Y, X, w0⟩ [] [row v1 25 (Rp.flt .f64) s.1] w) ⟨hF.re ⟨rfl, rfl, rfl, rfl, rfl, rfl, rfl, rfl, trivial⟩, hW⟩ (fun s o a w H L8 hR => ?_)
        obtain ⟨x18, x19⟩ := s
        obtain ⟨hF, hW⟩ := hR
        have hF : Fr 141 [] [(0, v1), (1, .int .i64 p1), (2, .int .i64 p2), (3, .func (.func 24) #[] #[]), (8, .bool false), (9, .int .i64 x7), (10, .int .i64 x4), (11, .int .i64 x19)] a := hF
        have hW : Stw ⟨Y, X, w0⟩ [] [row v1 25 (Rp.flt .f64) x18] w := hW
        rw [slices_partialInsertionSortCmpFunc_float64_l3] at H
        refine c_seq ?_
        refine c_seq (reg_list ?_)
        refine ls hF hW rfl ((y_move hF rfl).q) (fun a w hF hW => ?_)
        refine ls hF hW rfl ((y_geq hF rfl rfl).q) (fun a w hF hW => ?_)
        refine ls_nil (c_then ?_)
        refine c_cond hF rfl (fun hb => ?_) (fun hb => ?_)
        ·
         have H := iteT (of_decide_eq_true hb) H
         rw [hb] at hF
         clear hb
         refine wp_skip ?_
         refine c_then ?_
         refine c_seq ?_
         refine wp_block ?_
         iterate 2 refine c_seq ?_
         refine reg_quiet hW MO (by kernel_rfl) ?_
         iterate 3 refine qs hF rfl ((y_move hF rfl).q) (fun a hF => ?_)
         obtain ⟨x20, h8, H⟩ := bindE H
         refine qs hF rfl ((y_index (r := (Rp.flt .f64)) L34 hF rfl rfl (rdc_row 0 rfl) h8).q) (fun a hF => ?_)
         refine qs hF rfl ((y_load_el (y := Value.float .f64 x20) (j := 0) (i := x19) hF rfl rfl (rdc_row 0 rfl) h8 Fl.flt.to T25 rfl).q) (fun a hF => ?_)
         iterate 2 refine qs hF rfl ((y_move hF rfl).q) (fun a hF => ?_)
         refine qs hF rfl ((y_sub hF rfl rfl rfl).q) (fun a hF => ?_)
         obtain ⟨x21, h9, H⟩ := bindE H
         refine qs hF rfl ((y_index (r := (Rp.flt .f64)) L34 hF rfl rfl (rdc_row 0 rfl) h9).q) (fun a hF => ?_)
         refine qs hF rfl ((y_load_el (y := Value.float .f64 x21) (j := 0) (i := w64 (x19 - 1)) hF rfl rfl (rdc_row 0 rfl) h9 Fl.flt.to T25 rfl).q) (fun a hF => ?_)
         obtain ⟨x22, h10, H⟩ := bindE H
         refine qs hF rfl (y_callV (ws := [.float .f64 x20, .float .f64 x21]) (v := Value.int .i64 x22) hF H24 rfl (fun w hW => float_Compare_c any w x20 x21 _ h10)) (fun a hF => ?_)
         refine qs hF rfl ((y_lss hF rfl rfl).q) (fun a hF => ?_)
         refine qs hF rfl ((y_not hF rfl).q) (fun a hF => ?_)
         refine quiet_end (fun w hW => ?_)
         refine c_then ?_
         refine c_cond hF rfl (fun hb => ?_) (fun hb => ?_)
         ·
          have H := iteT hb H
          rw [hb] at hF
          clear hb
          refine wp_exit ?_
          refine e_then ?_
          refine e_pass rfl ?_
          iterate 2 refine e_then ?_
          refine e_block ?_
          refine c_then ?_
          have H := L8 _ H
          exact ⟨_, H, hF.re ⟨rfl, rfl, rfl, rfl, rfl, rfl, rfl, trivial⟩, hW⟩
         ·
          have H := iteF (by rw [hb]; decide) H
          rw [hb] at hF
          clear hb
          refine wp_skip ?_
          refine c_then ?_
          refine reg_plan [(true, 0), (true, 1), (true, 2), (true, 3), (true, 4), (true, 5), (true, 6), (true, 7), (true, 8), (true, 9), (true, 10), (true, 11), (true, 12), (true, 13), (true, 14), (false, 15), (true, 16), (false, 17)] (CN ⟨Y, X, w0⟩ [] [(some 15, row v1 25 (Rp.flt .f64) x18)]) (fun ch a d v w h => by cases d <;> exact h) MO (by kernel_rfl) hW (fun w hW => ⟨_, _, hW, all_nil, (all_cons (fun _ => (.head _)) all_nil)⟩) (fun w hW => ?_)
          iterate 4 refine pl_t (R := []) hF rfl rfl (yC fun M Z hN hZ => y_move hF rfl) rfl rfl (fun a hF => ?_)
          refine pl_t (R := []) hF rfl rfl (yC fun M Z hN hZ => y_sub hF rfl rfl rfl) rfl rfl (fun a hF => ?_)
          iterate 2 refine pl_t (R := []) hF rfl rfl (yC fun M Z hN hZ => y_move hF rfl) rfl rfl (fun a hF => ?_)
          refine pl_t (R := []) hF rfl rfl (yC fun M Z hN hZ => y_sub hF rfl rfl rfl) rfl rfl (fun a hF => ?_)
          obtain ⟨x23, h11, H⟩ := bindE H
          refine pl_t (R := []) hF rfl rfl (yC fun M Z hN hZ => y_indexV (r := (Rp.flt .f64)) L34 hF rfl rfl (vs_of hW (rdc_row 0 rfl)) h11) rfl rfl (fun a hF => ?_)
          refine pl_t (R := [15]) hF rfl rfl (yC fun M Z hN hZ => y_load_el (y := Value.float .f64 x23) (j := 0) (i := w64 (x19 - 1)) hF rfl rfl (rdc_mrow (hZ ((some 15), row v1 25 (Rp.flt .f64) x18) (.head _) rfl)) h11 Fl.flt.to T25 rfl) (by kernel_rfl) rfl (fun a hF => ?_)
          iterate 2 refine pl_t (R := []) hF rfl rfl (yC fun M Z hN hZ => y_move hF rfl) rfl rfl (fun a hF => ?_)
          obtain ⟨x24, h12, H⟩ := bindE H
          refine pl_t (R := []) hF rfl rfl (yC fun M Z hN hZ => y_indexV (r := (Rp.flt .f64)) L34 hF rfl rfl (vs_of hW (rdc_row 0 rfl)) h12) rfl rfl (fun a hF => ?_)
          refine pl_t (R := [15]) hF rfl rfl (yC fun M Z hN hZ => y_load_el (y := Value.float .f64 x24) (j := 0) (i := x19) hF rfl rfl (rdc_mrow (hZ ((some 15), row v1 25 (Rp.flt .f64) x18) (.head _) rfl)) h12 Fl.flt.to T25 rfl) (by kernel_rfl) rfl (fun a hF => ?_)
          obtain ⟨x25, h13, H⟩ := bindE H
          refine pl_t (R := []) hF rfl rfl (yC fun M Z hN hZ => y_indexV (r := (Rp.flt .f64)) L34 hF rfl rfl (vs_of hW (rdc_row 0 rfl)) h13) rfl rfl (fun a hF => ?_)
          refine pl_f rfl ?_
          refine l_store_el (i := x19) (j := 0) (vs := [.float .f64 x23]) (x' := x23) hF hW rfl rfl rfl (k := 0) rfl rfl h13 T25 rfl rfl rfl rfl (fun A cs _ => Fl.flt.sto (by rfl) _ _ _) (fun w hW => ?_)
          refine pl_next (N2 := []) (NZ2 := []) (N3 := []) (NZ3 := [(some 15, row v1 25 (Rp.flt .f64) x18)]) hW rfl rfl all_nil (all_cons (fun h => rel_dead (by kernel_rfl) h) all_nil) ?_
          obtain ⟨x26, h14, H⟩ := bindE H
          refine pl_t (R := []) hF rfl rfl (yC fun M Z hN hZ => y_indexV (r := (Rp.flt .f64)) L34 hF rfl rfl (vs_of hW (rdc_row 0 rfl)) h14) rfl rfl (fun a hF => ?_)
          refine pl_f rfl ?_
          refine l_store_el (i := w64 (x19 - 1)) (j := 0) (vs := [.float .f64 x24]) (x' := x24) hF hW rfl rfl rfl (k := 0) rfl rfl h14 T25 rfl rfl rfl rfl (fun A cs _ => Fl.flt.sto (by rfl) _ _ _) (fun w hW => ?_)
          refine pl_next (N2 := []) (NZ2 := []) (N3 := []) (NZ3 := [(some 15, row v1 25 (Rp.flt .f64) x18)]) hW rfl rfl all_nil (all_cons (fun h => rel_dead (by kernel_rfl) h) all_nil) ?_
          refine pl_end ?_
          refine b_normal ?_
          refine c_then ?_
          refine reg_list ?_
          refine ls hF hW rfl ((y_move hF rfl).q) (fun a w hF hW => ?_)
          refine ls hF hW rfl ((y_sub hF rfl rfl rfl).q) (fun a w hF hW => ?_)
          refine ls hF hW rfl ((y_assign hF rfl).q) (fun a w hF hW => ?_)
          refine ls_nil (c_then ?_)
          exact ⟨_, H, hF.re ⟨rfl, rfl, rfl, rfl, rfl, rfl, rfl, rfl, trivial⟩, hW⟩
        ·
         have H := iteF (of_decide_eq_false hb) H
         rw [hb] at hF
         clear hb
         refine wp_exit ?_
         iterate 2 refine e_then ?_
         refine e_block ?_
         refine c_then ?_
         have H := L8 _ H
         exact ⟨_, H, hF.re ⟨rfl, rfl, rfl, rfl, rfl, rfl, rfl, trivial⟩, hW⟩
       ·
        have H := iteF (of_decide_eq_false hb) H
        rw [hb] at hF
        clear hb
        refine wp_skip ?_
        refine c_then ?_
        exact ⟨_, H, hF.re ⟨rfl, rfl, rfl, rfl, rfl, rfl, rfl, trivial⟩, hW⟩
      rintro a w ⟨x17, hj, hF, hW⟩
      have hj := Option.some.inj hj
      subst hj
      have H := K7
      clear G7 K7
      refine c_seq (reg_list ?_)
      iterate 2 refine ls hF hW rfl ((y_move hF rfl).q) (fun a w hF hW => ?_)
      refine ls hF hW rfl ((y_sub hF rfl rfl rfl).q) (fun a w hF hW => ?_)
      refine ls hF hW rfl ((y_geq hF rfl rfl).q) (fun a w hF hW => ?_)
      refine ls_nil (c_then ?_)
      refine c_cond hF rfl (fun hb => ?_) (fun hb => ?_)
      ·
       have H := iteT (of_decide_eq_true hb) H
       rw [hb] at hF
       clear hb
       refine c_seq (reg_list ?_)
       refine ls hF hW rfl ((y_move hF rfl).q) (fun a w hF hW => ?_)
       refine ls hF hW rfl ((y_add hF rfl rfl rfl).q) (fun a w hF hW => ?_)
       refine ls hF hW rfl ((y_assign hF rfl).q) (fun a w hF hW => ?_)
       refine ls_nil (c_then ?_)
       refine wp_block ?_
       refine c_loopW H (fun s a w => Fr 141 [] [(0, v1), (1, .int .i64 p1), (2, .int .i64 p2), (3, .func (.func 24) #[] #[]), (8, .bool false), (9, .int .i64 x7), (10, .int .i64 x4), (12, .int .i64 s.2)] a ∧ Stw ⟨Y, X, w0⟩ [] [row v1 25 (Rp.flt .f64) s.1] w) ⟨hF.re ⟨rfl, rfl, rfl, rfl, rfl, rfl, rfl, rfl, trivial⟩, hW⟩ (fun s o a w H L9 hR => ?_)
       obtain ⟨x27, x28⟩ := s
       obtain ⟨hF, hW⟩ := hR
       have hF : Fr 141 [] [(0, v1), (1, .int .i64 p1), (2, .int .i64 p2), (3, .func (.func 24) #[] #[]), (8, .bool false), (9, .int .i64 x7), (10, .int .i64 x4), (12, .int .i64 x28)] a := hF
       have hW : Stw ⟨Y, X, w0⟩ [] [row v1 25 (Rp.flt .f64) x27] w := hW
       rw [slices_partialInsertionSortCmpFunc_float64_l4] at H
       refine c_seq ?_
       refine c_seq (reg_list ?_)
       iterate 2 refine ls hF hW rfl ((y_move hF rfl).q) (fun a w hF hW => ?_)
       refine ls hF hW rfl ((y_lss hF rfl rfl).q) (fun a w hF hW => ?_)
       refine ls_nil (c_then ?_)
       refine c_cond hF rfl (fun hb => ?_) (fun hb => ?_)
       ·
        have H := iteT (of_decide_eq_true hb) H
        rw [hb] at hF
        clear hb
        refine wp_skip ?_
        refine c_then ?_
        refine c_seq ?_
        refine wp_block ?_
        iterate 2 refine c_seq ?_
        refine reg_quiet hW MO (by kernel_rfl) ?_
        iterate 3 refine qs hF rfl ((y_move hF rfl).q) (fun a hF => ?_)
        obtain ⟨x29, h15, H⟩ := bindE H
        refine qs hF rfl ((y_index (r := (Rp.flt .f64)) L34 hF rfl rfl (rdc_row 0 rfl) h15).q) (fun a hF => ?_)
        refine qs hF rfl ((y_load_el (y := Value.float .f64 x29) (j := 0) (i := x28) hF rfl rfl (rdc_row 0 rfl) h15 Fl.flt.to T25 rfl).q) (fun a hF => ?_)
        iterate 2 refine qs hF rfl ((y_move hF rfl).q) (fun a hF => ?_)
        refine qs hF rfl ((y_sub hF rfl rfl rfl).q) (fun a hF => ?_)
        obtain ⟨x30, h16, H⟩ := bindE H
        refine qs hF rfl ((y_index (r := (Rp.flt .f64)) L34 hF rfl rfl (rdc_row 0 rfl) h16).q) (fun a hF => ?_)
        refine qs hF rfl ((y_load_el (y := Value.float .f64 x30) (j := 0) (i := w64 (x28 - 1)) hF rfl rfl (rdc_row 0 rfl) h16 Fl.flt.to T25 rfl).q) (fun a hF => ?_)
        obtain ⟨x31, h17, H⟩ := bindE H
        refine qs hF rfl (y_callV (ws := [.float .f64 x29, .float .f64 x30]) (v := Value.int .i64 x31) hF H24 rfl (fun w hW => float_Compare_c any w x29 x30 _ h17)) (fun a hF => ?_)
        refine qs hF rfl ((y_lss hF rfl rfl).q) (fun a hF => ?_)
        refine qs hF rfl ((y_not hF rfl).q) (fun a hF => ?_)
        refine quiet_end (fun w hW => ?_)
        refine c_then ?_
        refine c_cond hF rfl (fun hb => ?_) (fun hb => ?_)
        ·
         have H := iteT hb H
         rw [hb] at hF
         clear hb
         refine wp_exit ?_
         refine e_then ?_
         refine e_pass rfl ?_
         iterate 2 refine e_then ?_
         refine e_block ?_
         refine b_normal ?_
         refine c_then ?_
         have H := L9 _ H
         exact ⟨_, _, H, hF.re ⟨rfl, rfl, rfl, rfl, rfl, rfl, rfl, trivial⟩, hW⟩
        ·
         have H := iteF (by rw [hb]; decide) H
         rw [hb] at hF
         clear hb
         refine wp_skip ?_
         refine c_then ?_
         refine reg_plan [(true, 0), (true, 1), (true, 2), (true, 3), (true, 4), (true, 5), (true, 6), (true, 7), (true, 8), (true, 9), (true, 10), (true, 11), (true, 12), (true, 13), (true, 14), (false, 15), (true, 16), (false, 17)] (CN ⟨Y, X, w0⟩ [] [(some 15, row v1 25 (Rp.flt .f64) x27)]) (fun ch a d v w h => by cases d <;> exact h) MO (by kernel_rfl) hW (fun w hW => ⟨_, _, hW, all_nil, (all_cons (fun _ => (.head _)) all_nil)⟩) (fun w hW => ?_)
         iterate 4 refine pl_t (R := []) hF rfl rfl (yC fun M Z hN hZ => y_move hF rfl) rfl rfl (fun a hF => ?_)
         refine pl_t (R := []) hF rfl rfl (yC fun M Z hN hZ => y_sub hF rfl rfl rfl) rfl rfl (fun a hF => ?_)
         iterate 2 refine pl_t (R := []) hF rfl rfl (yC fun M Z hN hZ => y_move hF rfl) rfl rfl (fun a hF => ?_)
         refine pl_t (R := []) hF rfl rfl (yC fun M Z hN hZ => y_sub hF rfl rfl rfl) rfl rfl (fun a hF => ?_)
         obtain ⟨x32, h18, H⟩ := bindE H
         refine pl_t (R := []) hF rfl rfl (yC fun M Z hN hZ => y_indexV (r := (Rp.flt .f64)) L34 hF rfl rfl (vs_of hW (rdc_row 0 rfl)) h18) rfl rfl (fun a hF => ?_)
         refine pl_t (R := [15]) hF rfl rfl (yC fun M Z hN hZ => y_load_el (y := Value.float .f64 x32) (j := 0) (i := w64 (x28 - 1)) hF rfl rfl (rdc_mrow (hZ ((some 15), row v1 25 (Rp.flt .f64) x27) (.head _) rfl)) h18 Fl.flt.to T25 rfl) (by kernel_rfl) rfl (fun a hF => ?_)
         iterate 2 refine pl_t (R := []) hF rfl rfl (yC fun M Z hN hZ => y_move hF rfl) rfl rfl (fun a hF => ?_)
         obtain ⟨x33, h19, H⟩ := bindE H
         refine pl_t (R := []) hF rfl rfl (yC fun M Z hN hZ => y_indexV (r := (Rp.flt .f64)) L34 hF rfl rfl (vs_of hW (rdc_row 0 rfl)) h19) rfl rfl (fun a hF => ?_)
         refine pl_t (R := [15]) hF rfl rfl (yC fun M Z hN hZ => y_load_el (y := Value.float .f64 x33) (j := 0) (i := x28) hF rfl rfl (rdc_mrow (hZ ((some 15), row v1 25 (Rp.flt .f64) x27) (.head _) rfl)) h19 Fl.flt.to T25 rfl) (by kernel_rfl) rfl (fun a hF => ?_)
         obtain ⟨x34, h20, H⟩ := bindE H
         refine pl_t (R := []) hF rfl rfl (yC fun M Z hN hZ => y_indexV (r := (Rp.flt .f64)) L34 hF rfl rfl (vs_of hW (rdc_row 0 rfl)) h20) rfl rfl (fun a hF => ?_)
         refine pl_f rfl ?_
         refine l_store_el (i := x28) (j := 0) (vs := [.float .f64 x32]) (x' := x32) hF hW rfl rfl rfl (k := 0) rfl rfl h20 T25 rfl rfl rfl rfl (fun A cs _ => Fl.flt.sto (by rfl) _ _ _) (fun w hW => ?_)
         refine pl_next (N2 := []) (NZ2 := []) (N3 := []) (NZ3 := [(some 15, row v1 25 (Rp.flt .f64) x27)]) hW rfl rfl all_nil (all_cons (fun h => rel_dead (by kernel_rfl) h) all_nil) ?_
         obtain ⟨x35, h21, H⟩ := bindE H
         refine pl_t (R := []) hF rfl rfl (yC fun M Z hN hZ => y_indexV (r := (Rp.flt .f64)) L34 hF rfl rfl (vs_of hW (rdc_row 0 rfl)) h21) rfl rfl (fun a hF => ?_)
         refine pl_f rfl ?_
         refine l_store_el (i := w64 (x28 - 1)) (j := 0) (vs := [.float .f64 x33]) (x' := x33) hF hW rfl rfl rfl (k := 0) rfl rfl h21 T25 rfl rfl rfl rfl (fun A cs _ => Fl.flt.sto (by rfl) _ _ _) (fun w hW => ?_)
         refine pl_next (N2 := []) (NZ2 := []) (N3 := []) (NZ3 := [(some 15, row v1 25 (Rp.flt .f64) x27)]) hW rfl rfl all_nil (all_cons (fun h => rel_dead (by kernel_rfl) h) all_nil) ?_
         refine pl_end ?_
         refine b_normal ?_
         refine c_then ?_
         refine reg_list ?_
         refine ls hF hW rfl ((y_move hF rfl).q) (fun a w hF hW => ?_)
         refine ls hF hW rfl ((y_add hF rfl rfl rfl).q) (fun a w hF hW => ?_)
         refine ls hF hW rfl ((y_assign hF rfl).q) (fun a w hF hW => ?_)
         refine ls_nil (c_then ?_)
         exact ⟨_, H, hF.re ⟨rfl, rfl, rfl, rfl, rfl, rfl, rfl, rfl, trivial⟩, hW⟩
       ·
        have H := iteF (of_decide_eq_false hb) H
        rw [hb] at hF
        clear hb
        refine wp_exit ?_
        iterate 2 refine e_then ?_
        refine e_block ?_
        refine b_normal ?_
        refine c_then ?_
        have H := L9 _ H
        exact ⟨_, _, H, hF.re ⟨rfl, rfl, rfl, rfl, rfl, rfl, rfl, trivial⟩, hW⟩
      ·
       have H := iteF (of_decide_eq_false hb) H
       rw [hb] at hF
       clear hb
       refine wp_skip ?_
       refine b_normal ?_
       refine c_then ?_
       exact ⟨_, _, H, hF.re ⟨rfl, rfl, rfl, rfl, rfl, rfl, rfl, trivial⟩, hW⟩
   rintro a w ⟨x5, x6, hj, hF, hW⟩
   have H := K3 _ hj
   clear hj G3 K3 L3
   refine reg_list ?_
   refine ls hF hW rfl ((y_move hF rfl).q) (fun a w hF hW => ?_)
   refine ls hF hW rfl ((y_add hF rfl rfl rfl).q) (fun a w hF hW => ?_)
   refine ls hF hW rfl ((y_assign hF rfl).q) (fun a w hF hW => ?_)
   refine ls_nil (c_then ?_)
   exact ⟨_, H, hF.re ⟨rfl, rfl, rfl, rfl, rfl, rfl, rfl, trivial⟩, hW⟩
  ·
   have H := iteF (of_decide_eq_false hb) H
   rw [hb] at hF
   clear hb
   refine wp_exit ?_
   iterate 2 refine e_then ?_
   refine e_block ?_
   refine c_then ?_
   have H := L2 _ H
   exact ⟨_, H, hF.re ⟨rfl, trivial⟩, hW⟩
 rintro a w ⟨x1, hj, hF, hW⟩
 have H := K1 _ hj
 clear hj G1 K1 L1
 refine c_seq (reg_list ?_)
 refine ls hF hW rfl ((y_assign hF rfl).q) (fun a w hF hW => ?_)
 refine ls_nil (c_then ?_)
 refine wp_ret ?_
 have H := Option.some.inj H
 subst H
 refine post1 (.inl rfl) hF hW rfl (rv_tmp hF rfl) ?_
 exact ⟨(), rfl, hW⟩

theorem H63 : Has Try.prog 63 := ⟨fun args w => run_callFunc_body Try.func63 rfl (by decide) args w⟩
noncomputable def slices_partitionEqualCmpFunc_float64_l2 (p1 : Int) (x7 : List Nat) (x9 : Int) : Int → Option (Int ⊕ Int)
  | x11 => (if x11 ≤ x9 then (ix x7 p1).bind fun x13 => (ix x7 x11).bind fun x14 => (float_Compare x13 x14).bind fun x15 => some (!(decide (x15 < 0))) else some false).bind fun x12 => (if x12 = true then some (.inl (w64 (x11 + 1))) else some (.inr x11))
noncomputable def slices_partitionEqualCmpFunc_float64_l3 (p1 : Int) (x7 : List Nat) (x10 : Int) : Int → Option (Int ⊕ Int)
  | x17 => (if x10 ≤ x17 then (ix x7 p1).bind fun x19 => (ix x7 x17).bind fun x20 => (float_Compare x19 x20).bind fun x21 => some (decide (x21 < 0)) else some false).bind fun x18 => (if x18 = true then some (.inl (w64 (x17 - 1))) else some (.inr x17))
noncomputable def slices_partitionEqualCmpFunc_float64_l1 (p1 : Int) : (List Nat × Int × Int) → Option ((List Nat × Int × Int) ⊕ (Int × List Nat))
  | (x7, x8, x9) => (loopW (slices_partitionEqualCmpFunc_float64_l2 p1 x7 x9) x8).bind fun x10 => (loopW (slices_partitionEqualCmpFunc_float64_l3 p1 x7 x10) x9).bind fun x16 => (if x16 < x10 then some (.inr (x10, x7)) else (ix x7 x16).bind fun x22 => (ix x7 x10).bind fun x23 => (ix x7 x10).bind fun x24 => (ix (setAt x7 x10 x22) x16).bind fun x25 => some (.inl ((setAt (setAt x7 x10 x22) x16 x23), w64 (x10 + 1), w64 (x16 - 1))))
noncomputable def slices_partitionEqualCmpFunc_float64 (p0 : List Nat) (p1 : Int) (p2 : Int) (p3 : Int) : Option (Int × List Nat) := (ix p0 p3).bind fun x1 => (ix p0 p1).bind fun x2 => (ix p0 p1).bind fun x3 => (ix (setAt p0 p1 x1) p3).bind fun x4 => (loopW (slices_partitionEqualCmpFunc_float64_l1 p1) ((setAt (setAt p0 p1 x1) p3 x2), w64 (p1 + 1), w64 (p2 - 1))).bind fun (x5, x6) => some (x5, x6)
theorem slices_partitionEqualCmpFunc_float64_c (Y : Nat → Prop) (X : List Nat) (w0 : World) (v1 : Value) (p0 : List Nat) (p1 : Int) (p2 : Int) (p3 : Int) (r : Int × List Nat) (H : slices_partitionEqualCmpFunc_float64 p0 p1 p2 p3 = some r) (hL : Stw ⟨Y, X, w0⟩ [] [row v1 25 (Rp.flt .f64) p0] w0) :
    Calls Try.prog 64 #[v1, .int .i64 p1, .int .i64 p2, .int .i64 p3, .func (.func 24) #[] #[]] w0 fun e w' => ∃ x : Unit, e = .returned (.int .i64 r.1) ∧ Stw ⟨Y, X, w0⟩ [] [row v1 25 (Rp.flt .f64) r.2] w' := by
 refine enter Try.func64 rfl Try.ntmps64 rfl (fun a hF => ?_)
 have hW := hL
 unfold slices_partitionEqualCmpFunc_float64 at H
 refine c_seq (reg_list ?_)
 refine ls hF hW rfl ((y_assign hF rfl).q) (fun a w hF hW => ?_)
 refine ls_nil (c_then ?_)
 refine c_seq ?_
 refine reg_ord 13 [2, 3] [0, 1, 4, 5, 6, 7, 8, 9, 10, 11, 12] (fun ch a d v w h => by cases d <;> exact h) hW MO (by kernel_rfl) ?_
 iterate 2 refine hm hF rfl rfl rfl (fun a hF => ?_)
 refine hm_end ?_
 iterate 4 refine hs hF rfl rfl rfl ((y_move hF rfl).q) (fun a hF => ?_)
 obtain ⟨x1, h1, H⟩ := bindE H
 refine hs hF rfl rfl rfl ((y_index (r := (Rp.flt .f64)) L34 hF rfl rfl (rdc_row 0 rfl) h1).q) (fun a hF => ?_)
 refine hs hF rfl rfl rfl ((y_load_el (y := Value.float .f64 x1) (j := 0) (i := p3) hF rfl rfl (rdc_row 0 rfl) h1 Fl.flt.to T25 rfl).q) (fun a hF => ?_)
 iterate 2 refine hs hF rfl rfl rfl ((y_move hF rfl).q) (fun a hF => ?_)
 obtain ⟨x2, h2, H⟩ := bindE H
 refine hs hF rfl rfl rfl ((y_index (r := (Rp.flt .f64)) L34 hF rfl rfl (rdc_row 0 rfl) h2).q) (fun a hF => ?_)
 refine hs hF rfl rfl rfl ((y_load_el (y := Value.float .f64 x2) (j := 0) (i := p1) hF rfl rfl (rdc_row 0 rfl) h2 Fl.flt.to T25 rfl).q) (fun a hF => ?_)
 obtain ⟨x3, h3, H⟩ := bindE H
 refine hs hF rfl rfl rfl ((y_index (r := (Rp.flt .f64)) L34 hF rfl rfl (rdc_row 0 rfl) h3).q) (fun a hF => ?_)
 refine h_end (fun w hW => ?_)
 have hW : Stw ⟨Y, X, w0⟩ [] [row v1 25 (Rp.flt .f64) p0] w := hW
 refine l_store_el (i := p1) (j := 0) (vs := [.float .f64 x1]) (x' := x1) hF hW rfl rfl rfl (k := 0) rfl rfl h3 T25 rfl rfl rfl rfl (fun A cs _ => Fl.flt.sto (by rfl) _ _ _) (fun w hW => ?_)
 obtain ⟨x4, h4, H⟩ := bindE H
 refine ls hF hW rfl ((y_index (r := (Rp.flt .f64)) L34 hF rfl rfl (rdc_row 0 rfl) h4).q) (fun a w hF hW => ?_)
 refine l_store_el (i := p3) (j := 0) (vs := [.float .f64 x2]) (x' := x2) hF hW rfl rfl rfl (k := 0) rfl rfl h4 T25 rfl rfl rfl rfl (fun A cs _ => Fl.flt.sto (by rfl) _ _ _) (fun w hW => ?_)
 refine ls_nil (c_then ?_)
 refine c_seq (reg_list ?_)
 refine ls hF hW rfl ((y_move hF rfl).q) (fun a w hF hW => ?_)
 refine ls hF hW rfl ((y_add hF rfl rfl rfl).q) (fun a w hF hW => ?_)
 refine ls hF hW rfl ((y_move hF rfl).q) (fun a w hF hW => ?_)
 refine ls hF hW rfl ((y_sub hF rfl rfl rfl).q) (fun a w hF hW => ?_)
 iterate 2 refine ls hF hW rfl ((y_assign hF rfl).q) (fun a w hF hW => ?_)
 refine ls_nil (c_then ?_)
 obtain ⟨o1, G1, K1⟩ := bindE H
 refine c_seqJ (fun a w => ∃ x5 : Int, ∃ x6 : List Nat, some ((x5, x6)) = some o1 ∧ Fr 90 [] [(10, .int .i64 0), (11, .int .i64 x5)] a ∧ Stw ⟨Y, X, w0⟩ [] [row v1 25 (Rp.flt .f64) x6] w) ?_ ?_
 ·
  have H := G1
  clear G1 K1
  refine wp_block ?_
  refine c_loopW H (fun s a w => Fr 90 [] [(0, v1), (1, .int .i64 p1), (4, .func (.func 24) #[] #[]), (10, .int .i64 0), (11, .int .i64 s.2.1), (12, .int .i64 s.2.2)] a ∧ Stw ⟨Y, X, w0⟩ [] [row v1 25 (Rp.flt .f64) s.1] w) ⟨hF.re ⟨rfl, rfl, rfl, rfl, rfl, rfl, trivial⟩, hW⟩ (fun s o a w H L2 hR => ?_)
  obtain ⟨x7, x8, x9⟩ := s
  obtain ⟨hF, hW⟩ := hR
  have hF : Fr 90 [] [(0, v1), (1, .int .i64 p1), (4, .func (.func 24) #[] #[]), (10, .int .i64 0), (11, .int .i64 x8), (12, .int .i64 x9)] a := hF
  have hW : Stw ⟨Y, X, w0⟩ [] [row v1 25 (Rp.flt .f64) x7] w := hW
  rw [slices_partitionEqualCmpFunc_float64_l1] at H
  refine wp_block ?_
  obtain ⟨o3, G3, K3⟩ := bindE H
  refine c_seqJ (fun a w => ∃ x10 : Int, some (x10) = some o3 ∧ Fr 90 [] [(0, v1), (1, .int .i64 p1), (4, .func (.func 24) #[] #[]), (10, .int .i64 0), (11, .int .i64 x10), (12, .int .i64 x9)] a ∧ Stw ⟨Y, X, w0⟩ [] [row v1 25 (Rp.flt .f64) x7] w) ?_ ?_
  ·
   have H := G3
   clear G3 K3
   refine wp_block ?_
   refine c_loopW H (fun s a w => Fr 90 [] [(0, v1), (1, .int .i64 p1), (4, .func (.func 24) #[] #[]), (10, .int .i64 0), (11, .int .i64 s), (12, .int .i64 x9)] a ∧ Stw ⟨Y, X, w0⟩ [] [row v1 25 (Rp.flt .f64) x7] w) ⟨hF.re ⟨rfl, rfl, rfl, rfl, rfl, rfl, trivial⟩, hW⟩ (fun s o a w H L4 hR => ?_)
   obtain ⟨x11, rfl⟩ : ∃ x, x = s := ⟨s, rfl⟩
   obtain ⟨hF, hW⟩ := hR
   have hF : Fr 90 [] [(0, v1), (1, .int .i64 p1), (4, .func (.func 24) #[] #[]), (10, .int .i64 0), (11, .int .i64 x11), (12, .int .i64 x9)] a := hF
   have hW : Stw ⟨Y, X, w0⟩ [] [row v1 25 (Rp.flt .f64) x7] w := hW
   rw [slices_partitionEqualCmpFunc_float64_l2] at H
   refine c_seq ?_
   obtain ⟨o5, G5, K5⟩ := bindE H
   refine c_seqJ (fun a w => ∃ x12 : Bool, some (x12) = some o5 ∧ Fr 90 [] [(0, v1), (1, .int .i64 p1), (4, .func (.func 24) #[] #[]), (10, .int .i64 0), (11, .int .i64 x11), (12, .int .i64 x9), (47, .bool x12)] a ∧ Stw ⟨Y, X, w0⟩ [] [row v1 25 (Rp.flt .f64) x7] w) ?_ ?_
   ·
    have H := G5
    clear G5 K5
    refine reg_quiet hW MO (by kernel_rfl) ?_
    iterate 2 refine qs hF rfl ((y_move hF rfl).q) (fun a hF => ?_)
    refine qs hF rfl ((y_leq hF rfl rfl).q) (fun a hF => ?_)
    refine qs hF rfl ((y_move hF rfl).q) (fun a hF => ?_)
    rcases Bool.eq_false_or_eq_true (decide (x11 ≤ x9)) with hb | hb
    ·
     have H := iteT (of_decide_eq_true hb) H
     rw [hb] at hF
     clear hb
     iterate 3 refine qs_w hF (wanted_y hF rfl rfl rfl rfl) rfl (Nat.le_of_ble_eq_true rfl) ((y_move hF rfl).q) (fun a hF => ?_)
     obtain ⟨x13, h5, H⟩ := bindE H
     refine qs_w hF (wanted_y hF rfl rfl rfl rfl) rfl (Nat.le_of_ble_eq_true rfl) ((y_index (r := (Rp.flt .f64)) L34 hF rfl rfl (rdc_row 0 rfl) h5).q) (fun a hF => ?_)
     refine qs_w hF (wanted_y hF rfl rfl rfl rfl) rfl (Nat.le_of_ble_eq_true rfl) ((y_load_el (y := Value.float .f64 x13) (j := 0) (i := p1) hF rfl rfl (rdc_row 0 rfl) h5 Fl.flt.to T25 rfl).q) (fun a hF => ?_)
     iterate 2 refine qs_w hF (wanted_y hF rfl rfl rfl rfl) rfl (Nat.le_of_ble_eq_true rfl) ((y_move hF rfl).q) (fun a hF => ?_)
     obtain ⟨x14, h6, H⟩ := bindE H
     refine qs_w hF (wanted_y hF rfl rfl rfl rfl) rfl (Nat.le_of_ble_eq_true rfl) ((y_index (r := (Rp.flt .f64)) L34 hF rfl rfl (rdc_row 0 rfl) h6).q) (fun a hF => ?_)
     refine qs_w hF (wanted_y hF rfl rfl rfl rfl) rfl (Nat.le_of_ble_eq_true rfl) ((y_load_el (y := Value.float .f64 x14) (j := 0) (i := x11) hF rfl rfl (rdc_row 0 rfl) h6 Fl.flt.to T25 rfl).q) (fun a hF => ?_)
     obtain ⟨x15, h7, H⟩ := bindE H
     refine qs_w hF (wanted_y hF rfl rfl rfl rfl) rfl (Nat.le_of_ble_eq_true rfl) (y_callV (ws := [.float .f64 x13, .float .f64 x14]) (v := Value.int .i64 x15) hF H24 rfl (fun w hW => float_Compare_c any w x13 x14 _ h7)) (fun a hF => ?_)
     refine qs_w hF (wanted_y hF rfl rfl rfl rfl) rfl (Nat.le_of_ble_eq_true rfl) ((y_lss hF rfl rfl).q) (fun a hF => ?_)
     refine qs_w hF (wanted_y hF rfl rfl rfl rfl) rfl (Nat.le_of_ble_eq_true rfl) ((y_not hF rfl).q) (fun a hF => ?_)
     refine qs hF rfl ((y_pick_t hF rfl rfl rfl).q) (fun a hF => ?_)
     refine quiet_end (fun w hW => ?_)
     refine c_then ?_
     exact ⟨_, H, hF.re ⟨rfl, rfl, rfl, rfl, rfl, rfl, rfl, trivial⟩, hW⟩
    ·
     have H := iteF (of_decide_eq_false hb) H
     rw [hb] at hF
     clear hb
     iterate 12 refine qs_skip hF (wanted_n hF rfl rfl rfl rfl rfl) rfl rfl (fun a hF => ?_)
     refine qs hF rfl ((y_pick_f hF rfl rfl rfl).q) (fun a hF => ?_)
     refine quiet_end (fun w hW => ?_)
     refine c_then ?_
     exact ⟨_, H, hF.re ⟨rfl, rfl, rfl, rfl, rfl, rfl, rfl, trivial⟩, hW⟩
   rintro a w ⟨x12, hj, hF, hW⟩
   have hj := Option.some.inj hj
   subst hj
   have H := K5
   clear G5 K5
   refine c_cond hF rfl (fun hb => ?_) (fun hb => ?_)
   ·
    have H := iteT hb H
    rw [hb] at hF
    clear hb
    refine wp_skip ?_
    refine c_then ?_
    refine wp_block ?_
    refine reg_list ?_
    refine ls hF hW rfl ((y_move hF rfl).q) (fun a w hF hW => ?_)
    refine ls hF hW rfl ((y_add hF rfl rfl rfl).q) (fun a w hF hW => ?_)
    refine ls hF hW rfl ((y_assign hF rfl).q) (fun a w hF hW => ?_)
    refine ls_nil ?_
    refine b_normal ?_
    refine c_then ?_
    exact ⟨_, H, hF.re ⟨rfl, rfl, rfl, rfl, rfl, rfl, trivial⟩, hW⟩
   ·
    have H := iteF (by rw [hb]; decide) H
    rw [hb] at hF
    clear hb
    refine wp_exit ?_
    iterate 2 refine e_then ?_
    refine e_block ?_
    refine c_then ?_
    have H := L4 _ H
    exact ⟨_, H, hF.re ⟨rfl, rfl, rfl, rfl, rfl, rfl, trivial⟩, hW⟩
  rintro a w ⟨x10, hj, hF, hW⟩
  have hj := Option.some.inj hj
  subst hj
  have H := K3
  clear G3 K3
  obtain ⟨o6, G6, K6⟩ := bindE H
  refine c_seqJ (fun a w => ∃ x16 : Int, some (x16) = some o6 ∧ Fr 90 [] [(0, v1), (1, .int .i64 p1), (4, .func (.func 24) #[] #[]), (10, .int .i64 0), (11, .int .i64 x10), (12, .int .i64 x16)] a ∧ Stw ⟨Y, X, w0⟩ [] [row v1 25 (Rp.flt .f64) x7] w) ?_ ?_
  ·
   have H := G6
   clear G6 K6
   refine wp_block ?_
   refine c_loopW H (fun s a w => Fr 90 [] [(0, v1), (1, .int .i64 p1), (4, .func (.func 24) #[] #[]), (10, .int .i64 0), (11, .int .i64 x10), (12, .int .i64 s)] a ∧ Stw ⟨Y, X, w0⟩ [] [row v1 25 (Rp.flt .f64) x7] w) ⟨hF.re ⟨rfl, rfl, rfl, rfl, rfl, rfl, trivial⟩, hW⟩ (fun s o a w H L7 hR => ?_)
   obtain ⟨x17, rfl⟩ : ∃ x, x = s := ⟨s, rfl⟩
   obtain ⟨hF, hW⟩ := hR
   have hF : Fr 90 [] [(0, v1), (1, .int .i64 p1), (4, .func (.func 24) #[] #[]), (10, .int .i64 0), (11, .int .i64 x10), (12, .int .i64 x17)] a := hF
   have hW : Stw ⟨Y, X, w0⟩ [] [row v1 25 (Rp.flt .f64) x7] w := hW
   rw [slices_partitionEqualCmpFunc_float64_l3] at H
   refine c_seq ?_
   obtain ⟨o8, G8, K8⟩ := bindE H
   refine c_seqJ (fun a w => ∃ x18 : Bool, some (x18) = some o8 ∧ Fr 90 [] [(0, v1), (1, .int .i64 p1), (4, .func (.func 24) #[] #[]), (10, .int .i64 0), (11, .int .i64 x10), (12, .int .i64 x17), (65, .bool x18)] a ∧ Stw ⟨Y, X, w0⟩ [] [row v1 25 (Rp.flt .f64) x7] w) ?_ ?_
   ·
    have H := G8
    clear G8 K8
    refine reg_quiet hW MO (by kernel_rfl) ?_
    iterate 2 refine qs hF rfl ((y_move hF rfl).q) (fun a hF => ?_)
    refine qs hF rfl ((y_leq hF rfl rfl).q) (fun a hF => ?_)
    refine qs hF rfl ((y_move hF rfl).q) (fun a hF => ?_)
    rcases Bool.eq_false_or_eq_true (decide (x10 ≤ x17)) with hb | hb
    ·
     have H := iteT (of_decide_eq_true hb) H
     rw [hb] at hF
     clear hb
     iterate 3 refine qs_w hF (wanted_y hF rfl rfl rfl rfl) rfl (Nat.le_of_ble_eq_true rfl) ((y_move hF rfl).q) (fun a hF => ?_)
     obtain ⟨x19, h8, H⟩ := bindE H
     refine qs_w hF (wanted_y hF rfl rfl rfl rfl) rfl (Nat.le_of_ble_eq_true rfl) ((y_index (r := (Rp.flt .f64)) L34 hF rfl rfl (rdc_row 0 rfl) h8).q) (fun a hF => ?_)
     refine qs_w hF (wanted_y hF rfl rfl rfl rfl) rfl (Nat.le_of_ble_eq_true rfl) ((y_load_el (y := Value.float .f64 x19) (j := 0) (i := p1) hF rfl rfl (rdc_row 0 rfl) h8 Fl.flt.to T25 rfl).q) (fun a hF => ?_)
     iterate 2 refine qs_w hF (wanted_y hF rfl rfl rfl rfl) rfl (Nat.le_of_ble_eq_true rfl) ((y_move hF rfl).q) (fun a hF => ?_)
     obtain ⟨x20, h9, H⟩ := bindE H
     refine qs_w hF (wanted_y hF rfl rfl rfl rfl) rfl (Nat.le_of_ble_eq_true rfl) ((y_index (r := (Rp.flt .f64)) L34 hF rfl rfl (rdc_row 0 rfl) h9).q) (fun a hF => ?_)
     refine qs_w hF (wanted_y hF rfl rfl rfl rfl) rfl (Nat.le_of_ble_eq_true rfl) ((y_load_el (y := Value.float .f64 x20) (j := 0) (i := x17) hF rfl rfl (rdc_row 0 rfl) h9 Fl.flt.to T25 rfl).q) (fun a hF => ?_)
     obtain ⟨x21, h10, H⟩ := bindE H
     refine qs_w hF (wanted_y hF rfl rfl rfl rfl) rfl (Nat.le_of_ble_eq_true rfl) (y_callV (ws := [.float .f64 x19, .float .f64 x20]) (v := Value.int .i64 x21) hF H24 rfl (fun w hW => float_Compare_c any w x19 x20 _ h10)) (fun a hF => ?_)
     refine qs_w hF (wanted_y hF rfl rfl rfl rfl) rfl (Nat.le_of_ble_eq_true rfl) ((y_lss hF rfl rfl).q) (fun a hF => ?_)
     refine qs hF rfl ((y_pick_t hF rfl rfl rfl).q) (fun a hF => ?_)
     refine quiet_end (fun w hW => ?_)
     refine c_then ?_
     exact ⟨_, H, hF.re ⟨rfl, rfl, rfl, rfl, rfl, rfl, rfl, trivial⟩, hW⟩
    ·
     have H := iteF (of_decide_eq_false hb) H
     rw [hb] at hF
     clear hb
     iterate 11 refine qs_skip hF (wanted_n hF rfl rfl rfl rfl rfl) rfl rfl (fun a hF => ?_)
     refine qs hF rfl ((y_pick_f hF rfl rfl rfl).q) (fun a hF => ?_)
     refine quiet_end (fun w hW => ?_)
     refine c_then ?_
     exact ⟨_, H, hF.re ⟨rfl, rfl, rfl, rfl, rfl, rfl, rfl, trivial⟩, hW⟩
   rintro a w ⟨x18, hj, hF, hW⟩
   have hj := Option.some.inj hj
   subst hj
   have H := K8
   clear G8 K8
   refine c_cond hF rfl (fun hb => ?_) (fun hb => ?_)
   ·
    have H := iteT hb H
    rw [hb] at hF
    clear hb
    refine wp_skip ?_
    refine c_then ?_
    refine wp_block ?_
    refine reg_list ?_
    refine ls hF hW rfl ((y_move hF rfl).q) (fun a w hF hW => ?_)
    refine ls hF hW rfl ((y_sub hF rfl rfl rfl).q) (fun a w hF hW => ?_)
    refine ls hF hW rfl ((y_assign hF rfl).q) (fun a w hF hW => ?_)
    refine ls_nil ?_
    refine b_normal ?_
    refine c_then ?_
    exact ⟨_, H, hF.re ⟨rfl, rfl, rfl, rfl, rfl, rfl, trivial⟩, hW⟩
   ·
    have H := iteF (by rw [hb]; decide) H
    rw [hb] at hF
    clear hb
    refine wp_exit ?_
    iterate 2 refine e_then ?_
    refine e_block ?_
    refine c_then ?_
    have H := L7 _ H
    exact ⟨_, H, hF.re ⟨rfl, rfl, rfl, rfl, rfl, rfl, trivial⟩, hW⟩
  rintro a w ⟨x16, hj, hF, hW⟩
  have hj := Option.some.inj hj
  subst hj
  have H := K6
  clear G6 K6
  refine c_seq ?_
  refine c_seq (reg_list ?_)
  iterate 2 refine ls hF hW rfl ((y_move hF rfl).q) (fun a w hF hW => ?_)
  refine ls hF hW rfl ((y_gtr hF rfl rfl).q) (fun a w hF hW => ?_)
  refine ls_nil (c_then ?_)
  refine c_cond hF rfl (fun hb => ?_) (fun hb => ?_)
  ·
   have H := iteT (of_decide_eq_true hb) H
   rw [hb] at hF
   clear hb
   refine wp_exit ?_
   refine e_then ?_
   refine e_pass rfl ?_
   refine e_then ?_
   refine e_block ?_
   refine c_then ?_
   have H := L2 _ H
   exact ⟨_, _, H, hF.re ⟨rfl, rfl, trivial⟩, hW⟩
  ·
   have H := iteF (of_decide_eq_false hb) H
   rw [hb] at hF
   clear hb
   refine wp_skip ?_
   refine c_then ?_
   refine c_seq ?_
   refine reg_ord 13 [2, 3] [0, 1, 4, 5, 6, 7, 8, 9, 10, 11, 12] (fun ch a d v w h => by cases d <;> exact h) hW MO (by kernel_rfl) ?_
   iterate 2 refine hm hF rfl rfl rfl (fun a hF => ?_)
   refine hm_end ?_
   iterate 4 refine hs hF rfl rfl rfl ((y_move hF rfl).q) (fun a hF => ?_)
   obtain ⟨x22, h11, H⟩ := bindE H
   refine hs hF rfl rfl rfl ((y_index (r := (Rp.flt .f64)) L34 hF rfl rfl (rdc_row 0 rfl) h11).q) (fun a hF => ?_)
   refine hs hF rfl rfl rfl ((y_load_el (y := Value.float .f64 x22) (j := 0) (i := x16) hF rfl rfl (rdc_row 0 rfl) h11 Fl.flt.to T25 rfl).q) (fun a hF => ?_)
   iterate 2 refine hs hF rfl rfl rfl ((y_move hF rfl).q) (fun a hF => ?_)
   obtain ⟨x23, h12, H⟩ := bindE H
   refine hs hF rfl rfl rfl ((y_index (r := (Rp.flt .f64)) L34 hF rfl rfl (rdc_row 0 rfl) h12).q) (fun a hF => ?_)
   refine hs hF rfl rfl rfl ((y_load_el (y := Value.float .f64 x23) (j := 0) (i := x10) hF rfl rfl (rdc_row 0 rfl) h12 Fl.flt.to T25 rfl).q) (fun a hF => ?_)
   obtain ⟨x24, h13, H⟩ := bindE H
   refine hs hF rfl rfl rfl ((y_index (r := (Rp.flt .f64)) L34 hF rfl rfl (rdc_row 0 rfl) h13).q) (fun a hF => ?_)
   refine h_end (fun w hW => ?_)
   have hW : Stw ⟨Y, X, w0⟩ [] [row v1 25 (Rp.flt .f64) x7] w := hW
   refine l_store_el (i := x10) (j := 0) (vs := [.float .f64 x22]) (x' := x22) hF hW rfl rfl rfl (k := 0) rfl rfl h13 T25 rfl rfl rfl rfl (fun A cs _ => Fl.flt.sto (by rfl) _ _ _) (fun w hW => ?_)
   obtain ⟨x25, h14, H⟩ := bindE H
   refine ls hF hW rfl ((y_index (r := (Rp.flt .f64)) L34 hF rfl rfl (rdc_row 0 rfl) h14).q) (fun a w hF hW => ?_)
   refine l_store_el (i := x16) (j := 0) (vs := [.float .f64 x23]) (x' := x23) hF hW rfl rfl rfl (k := 0) rfl rfl h14 T25 rfl rfl rfl rfl (fun A cs _ => Fl.flt.sto (by rfl) _ _ _) (fun w hW => ?_)
   refine ls_nil (c_then ?_)
   refine c_seq (reg_list ?_)
   refine ls hF hW rfl ((y_move hF rfl).q) (fun a w hF hW => ?_)
   refine ls hF hW rfl ((y_add hF rfl rfl rfl).q) (fun a w hF hW => ?_)
   refine ls hF hW rfl ((y_assign hF rfl).q) (fun a w hF hW => ?_)
   refine ls_nil (c_then ?_)
   refine reg_list ?_
   refine ls hF hW rfl ((y_move hF rfl).q) (fun a w hF hW => ?_)
   refine ls hF hW rfl ((y_sub hF rfl rfl rfl).q) (fun a w hF hW => ?_)
   refine ls hF hW rfl ((y_assign hF rfl).q) (fun a w hF hW => ?_)
   refine ls_nil ?_
   refine b_normal ?_
   refine c_then ?_
   exact ⟨_, H, hF.re ⟨rfl, rfl, rfl, rfl, rfl, rfl, trivial⟩, hW⟩
 rintro a w ⟨x5, x6, hj, hF, hW⟩
 have hj := Option.some.inj hj
 subst hj
 have H := K1
 clear G1 K1
 refine c_seq (reg_list ?_)
 refine ls hF hW rfl ((y_move hF rfl).q) (fun a w hF hW => ?_)
 refine ls hF hW rfl ((y_assign hF rfl).q) (fun a w hF hW => ?_)
 refine ls_nil (c_then ?_)
 refine wp_ret ?_
 have H := Option.some.inj H
 subst H
 refine post1 (.inl rfl) hF hW rfl (rv_tmp hF rfl) ?_
 exact ⟨(), rfl, hW⟩

theorem H64 : Has Try.prog 64 := ⟨fun args w => run_callFunc_body Try.func64 rfl (by decide) args w⟩
noncomputable def slices_partitionCmpFunc_float64_l1 (p0 : List Nat) (p1 : Int) (p2 : Int) (p3 : Int) (x1 : Nat) (x2 : Nat) : Int → Option (Int ⊕ Int)
  | x6 => (if x6 ≤ (w64 (p2 - 1)) then (ix (setAt (setAt p0 p1 x1) p3 x2) x6).bind fun x8 => (ix (setAt (setAt p0 p1 x1) p3 x2) p1).bind fun x9 => (float_Compare x8 x9).bind fun x10 => some (decide (x10 < 0)) else some false).bind fun x7 => (if x7 = true then some (.inl (w64 (x6 + 1))) else some (.inr x6))
noncomputable def slices_partitionCmpFunc_float64_l2 (p0 : List Nat) (p1 : Int) (p3 : Int) (x1 : Nat) (x2 : Nat) (x5 : Int) : Int → Option (Int ⊕ Int)
  | x12 => (if x5 ≤ x12 then (ix (setAt (setAt p0 p1 x1) p3 x2) x12).bind fun x14 => (ix (setAt (setAt p0 p1 x1) p3 x2) p1).bind fun x15 => (float_Compare x14 x15).bind fun x16 => some (!(decide (x16 < 0))) else some false).bind fun x13 => (if x13 = true then some (.inl (w64 (x12 - 1))) else some (.inr x12))
noncomputable def slices_partitionCmpFunc_float64_l4 (p1 : Int) (x27 : List Nat) (x29 : Int) : Int → Option (Int ⊕ Int)
  | x31 => (if x31 ≤ x29 then (ix x27 x31).bind fun x33 => (ix x27 p1).bind fun x34 => (float_Compare x33 x34).bind fun x35 => some (decide (x35 < 0)) else some false).bind fun x32 => (if x32 = true then some (.inl (w64 (x31 + 1))) else some (.inr x31))
noncomputable def slices_partitionCmpFunc_float64_l5 (p1 : Int) (x27 : List Nat) (x30 : Int) : Int → Option (Int ⊕ Int)
  | x37 => (if x30 ≤ x37 then (ix x27 x37).bind fun x39 => (ix x27 p1).bind fun x40 => (float_Compare x39 x40).bind fun x41 => some (!(decide (x41 < 0))) else some false).bind fun x38 => (if x38 = true then some (.inl (w64 (x37 - 1))) else some (.inr x37))
noncomputable def slices_partitionCmpFunc_float64_l3 (p1 : Int) : (List Nat × Int × Int) → Option ((List Nat × Int × Int) ⊕ (List Nat × Int))
  | (x27, x28, x29) => (loopW (slices_partitionCmpFunc_float64_l4 p1 x27 x29) x28).bind fun x30 => (loopW (slices_partitionCmpFunc_float64_l5 p1 x27 x30) x29).bind fun x36 => (if x36 < x30 then some (.inr (x27, x36)) else (ix x27 x36).bind fun x42 => (ix x27 x30).bind fun x43 => (ix x27 x30).bind fun x44 => (ix (setAt x27 x30 x42) x36).bind fun x45 => some (.inl ((setAt (setAt x27 x30 x42) x36 x43), w64 (x30 + 1), w64 (x36 - 1))))
noncomputable def slices_partitionCmpFunc_float64 (p0 : List Nat) (p1 : Int) (p2 : Int) (p3 : Int) : Option (Int × Bool × List Nat) := (ix p0 p3).bind fun x1 => (ix p0 p1).bind fun x2 => (ix p0 p1).bind fun x3 => (ix (setAt p0 p1 x1) p3).bind fun x4 => (loopW (slices_partitionCmpFunc_float64_l1 p0 p1 p2 p3 x1 x2) (w64 (p1 + 1))).bind fun x5 => (loopW (slices_partitionCmpFunc_float64_l2 p0 p1 p3 x1 x2 x5) (w64 (p2 - 1))).bind fun x11 => (if x11 < x5 then (ix (setAt (setAt p0 p1 x1) p3 x2) p1).bind fun x17 => (ix (setAt (setAt p0 p1 x1) p3 x2) x11).bind fun x18 => (ix (setAt (setAt p0 p1 x1) p3 x2) x11).bind fun x19 => (ix (setAt (setAt (setAt p0 p1 x1) p3 x2) x11 x17) p1).bind fun x20 => some (x11, true, (setAt (setAt (setAt (setAt p0 p1 x1) p3 x2) x11 x17) p1 x18)) else (ix (setAt (setAt p0 p1 x1) p3 x2) x11).bind fun x21 => (ix (setAt (setAt p0 p1 x1) p3 x2) x5).bind fun x22 => (ix (setAt (setAt p0 p1 x1) p3 x2) x5).bind fun x23 => (ix (setAt (setAt (setAt p0 p1 x1) p3 x2) x5 x21) x11).bind fun x24 => (loopW (slices_partitionCmpFunc_float64_l3 p1) ((setAt (setAt (setAt (setAt p0 p1 x1) p3 x2) x5 x21) x11 x22), w64 (x5 + 1), w64 (x11 - 1))).bind fun (x25, x26) => (ix x25 p1).bind fun x46 => (ix x25 x26).bind fun x47 => (ix x25 x26).bind fun x48 => (ix (setAt x25 x26 x46) p1).bind fun x49 => some (x26, false, (setAt (setAt x25 x26 x46) p1 x47)))
theorem slices_partitionCmpFunc_float64_c (Y : Nat → Prop) (X : List Nat) (w0 : World) (v1 : Value) (p0 : List Nat) (p1 : Int) (p2 : Int) (p3 : Int) (r : Int × Bool × List Nat) (H : slices_partitionCmpFunc_float64 p0 p1 p2 p3 = some r) (hL : Stw ⟨Y, X, w0⟩ [] [row v1 25 (Rp.flt .f64) p0] w0) :
    Calls Try.prog 65 #[v1, .int .i64 p1, .int .i64 p2, .int .i64 p3, .func (.func 24) #[] #[]] w0 fun e w' => ∃ x : Unit, e = .returned (.tuple #[.int .i64 r.1, .bool r.2.1]) ∧ Stw ⟨Y, X, w0⟩ [] [row v1 25 (Rp.flt .f64) r.2.2] w' := by
 refine enter Try.func65 rfl Try.ntmps65 rfl (fun a hF => ?_)
 have hW := hL
 unfold slices_partitionCmpFunc_float64 at H
 refine c_seq (reg_list ?_)
 iterate 2 refine ls hF hW rfl ((y_assign hF rfl).q) (fun a w hF hW => ?_)
 refine ls_nil (c_then ?_)
 refine c_seq ?_
 refine reg_ord 13 [2, 3] [0, 1, 4, 5, 6, 7, 8, 9, 10, 11, 12] (fun ch a d v w h => by cases d <;> exact h) hW MO (by kernel_rfl) ?_
 iterate 2 refine hm hF rfl rfl rfl (fun a hF => ?_)
 refine hm_end ?_
 iterate 4 refine hs hF rfl rfl rfl ((y_move hF rfl).q) (fun a hF => ?_)
 obtain ⟨x1, h1, H⟩ := bindE H
 refine hs hF rfl rfl rfl ((y_index (r := (Rp.flt .f64)) L34 hF rfl rfl (rdc_row 0 rfl) h1).q) (fun a hF => ?_)
 refine hs hF rfl rfl rfl ((y_load_el (y := Value.float .f64 x1) (j := 0) (i := p3) hF rfl rfl (rdc_row 0 rfl) h1 Fl.flt.to T25 rfl).q) (fun a hF => ?_)
 iterate 2 refine hs hF rfl rfl rfl ((y_move hF rfl).q) (fun a hF => ?_)
 obtain ⟨x2, h2, H⟩ := bindE H
 refine hs hF rfl rfl rfl ((y_index (r := (Rp.flt .f64)) L34 hF rfl rfl (rdc_row 0 rfl) h2).q) (fun a hF => ?_)
 refine hs hF rfl rfl rfl ((y_load_el (y := Value.float .f64 x2) (j := 0) (i := p1) hF rfl rfl (rdc_row 0 rfl) h2 Fl.flt.to T25 rfl).q) (fun a hF => ?_)
 obtain ⟨x3, h3, H⟩ := bindE H
 refine hs hF rfl rfl rfl ((y_index (r := (Rp.flt .f64)) L34 hF rfl rfl (rdc_row 0 rfl) h3).q) (fun a hF => ?_)
 refine h_end (fun w hW => ?_)
 have hW : Stw ⟨Y, X, w0⟩ [] [row v1 25 (Rp.flt .f64) p0] w := hW
 refine l_store_el (i := p1) (j := 0) (vs := [.float .f64 x1]) (x' := x1) hF hW rfl rfl rfl (k := 0) rfl rfl h3 T25 rfl rfl rfl rfl (fun A cs _ => Fl.flt.sto (by rfl) _ _ _) (fun w hW => ?_)
 obtain ⟨x4, h4, H⟩ := bindE H
 refine ls hF hW rfl ((y_index (r := (Rp.flt .f64)) L34 hF rfl rfl (rdc_row 0 rfl) h4).q) (fun a w hF hW => ?_)
 refine l_store_el (i := p3) (j := 0) (vs := [.float .f64 x2]) (x' := x2) hF hW rfl rfl rfl (k := 0) rfl rfl h4 T25 rfl rfl rfl rfl (fun A cs _ => Fl.flt.sto (by rfl) _ _ _) (fun w hW => ?_)
 refine ls_nil (c_then ?_)
 refine c_seq (reg_list ?_)
 refine ls hF hW rfl ((y_move hF rfl).q) (fun a w hF hW => ?_)
 refine ls hF hW rfl ((y_add hF rfl rfl rfl).q) (fun a w hF hW => ?_)
 refine ls hF hW rfl ((y_move hF rfl).q) (fun a w hF hW => ?_)
 refine ls hF hW rfl ((y_sub hF rfl rfl rfl).q) (fun a w hF hW => ?_)
 iterate 2 refine ls hF hW rfl ((y_assign hF rfl).q) (fun a w hF hW => ?_)
 refine ls_nil (c_then ?_)
 obtain ⟨o1, G1, K1⟩ := bindE H
 refine c_seqJ (fun a w => ∃ x5 : Int, some (x5) = some o1 ∧ Fr 178 [] [(0, v1), (1, .int .i64 p1), (4, .func (.func 24) #[] #[]), (10, .int .i64 0), (11, .bool false), (12, .int .i64 x5), (13, .int .i64 (w64 (p2 - 1)))] a ∧ Stw ⟨Y, X, w0⟩ [] [row v1 25 (Rp.flt .f64) (setAt (setAt p0 p1 x1) p3 x2)] w) ?_ ?_
 ·
  have H := G1
  clear G1 K1
  refine wp_block ?_
  refine c_loopW H (fun s a w => Fr 178 [] [(0, v1), (1, .int .i64 p1), (4, .func (.func 24) #[] #[]), (10, .int .i64 0), (11, .bool false), (12, .int .i64 s), (13, .int .i64 (w64 (p2 - 1)))] a ∧ Stw ⟨Y, X, w0⟩ [] [row v1 25 (Rp.flt .f64) (setAt (setAt p0 p1 x1) p3 x2)] w) ⟨hF.re ⟨rfl, rfl, rfl, rfl, rfl, rfl, rfl, trivial⟩, hW⟩ (fun s o a w H L2 hR => ?_)
  obtain ⟨x6, rfl⟩ : ∃ x, x = s := ⟨s, rfl⟩
  obtain ⟨hF, hW⟩ := hR
  have hF : Fr 178 [] [(0, v1), (1, .int .i64 p1), (4, .func (.func 24) #[] #[]), (10, .int .i64 0), (11, .bool false), (12, .int .i64 x6), (13, .int .i64 (w64 (p2 - 1)))] a := hF
  have hW : Stw ⟨Y, X, w0⟩ [] [row v1 25 (Rp.flt .f64) (setAt (setAt p0 p1 x1) p3 x2)] w := hW
  rw [slices_partitionCmpFunc_float64_l1] at H
  refine c_seq ?_
  obtain ⟨o3, G3, K3⟩ := bindE H
  refine c_seqJ (fun a w => ∃ x7 : Bool, some (x7) = some o3 ∧ Fr 178 [] [(0, v1), (1, .int .i64 p1), (4, .func (.func 24) #[] #[]), (10, .int .i64 0), (11, .bool false), (12, .int .i64 x6), (13, .int .i64 (w64 (p2 - 1))), (47, .bool x7)] a ∧ Stw ⟨Y, X, w0⟩ [] [row v1 25 (Rp.flt .f64) (setAt (setAt p0 p1 x1) p3 x2)] w) ?_ ?_
  ·
   have H := G3
   clear G3 K3
   refine reg_quiet hW MO (by kernel_rfl) ?_
   iterate 2 refine qs hF rfl ((y_move hF rfl).q) (fun a hF => ?_)
   refine qs hF rfl ((y_leq hF rfl rfl).q) (fun a hF => ?_)
   refine qs hF rfl ((y_move hF rfl).q) (fun a hF => ?_)
   rcases Bool.eq_false_or_eq_true (decide (x6 ≤ (w64 (p2 - 1)))) with hb | hb
   ·
    have H := iteT (of_decide_eq_true hb) H
    rw [hb] at hF
    clear hb
    iterate 3 refine qs_w hF (wanted_y hF rfl rfl rfl rfl) rfl (Nat.le_of_ble_eq_true rfl) ((y_move hF rfl).q) (fun a hF => ?_)
    obtain ⟨x8, h5, H⟩ := bindE H
    refine qs_w hF (wanted_y hF rfl rfl rfl rfl) rfl (Nat.le_of_ble_eq_true rfl) ((y_index (r := (Rp.flt .f64)) L34 hF rfl rfl (rdc_row 0 rfl) h5).q) (fun a hF => ?_)
    refine qs_w hF (wanted_y hF rfl rfl rfl rfl) rfl (Nat.le_of_ble_eq_true rfl) ((y_load_el (y := Value.float .f64 x8) (j := 0) (i := x6) hF rfl rfl (rdc_row 0 rfl) h5 Fl.flt.to T25 rfl).q) (fun a hF => ?_)
    iterate 2 refine qs_w hF (wanted_y hF rfl rfl rfl rfl) rfl (Nat.le_of_ble_eq_true rfl) ((y_move hF rfl).q) (fun a hF => ?_)
    obtain ⟨x9, h6, H⟩ := bindE H
    refine qs_w hF (wanted_y hF rfl rfl rfl rfl) rfl (Nat.le_of_ble_eq_true rfl) ((y_index (r := (Rp.flt .f64)) L34 hF rfl rfl (rdc_row 0 rfl) h6).q) (fun a hF => ?_)
    refine qs_w hF (wanted_y hF rfl rfl rfl rfl) rfl (Nat.le_of_ble_eq_true rfl) ((y_load_el (y := Value.float .f64 x9) (j := 0) (i := p1) hF rfl rfl (rdc_row 0 rfl) h6 Fl.flt.to T25 rfl).q) (fun a hF => ?_)
    obtain ⟨x10, h7, H⟩ := bindE H
    refine qs_w hF (wanted_y hF rfl rfl rfl rfl) rfl (Nat.le_of_ble_eq_true rfl) (y_callV (ws := [.float .f64 x8, .float .f64 x9]) (v := Value.int .i64 x10) hF H24 rfl (fun w hW => float_Compare_c any w x8 x9 _ h7)) (fun a hF => ?_)
    refine qs_w hF (wanted_y hF rfl rfl rfl rfl) rfl (Nat.le_of_ble_eq_true rfl) ((y_lss hF rfl rfl).q) (fun a hF => ?_)
    refine qs hF rfl ((y_pick_t hF rfl rfl rfl).q) (fun a hF => ?_)
    refine quiet_end (fun w hW => ?_)
    refine c_then ?_
    exact ⟨_, H, hF.re ⟨rfl, rfl, rfl, rfl, rfl, rfl, rfl, rfl, trivial⟩, hW⟩
   ·
    have H := iteF (of_decide_eq_false hb) H
    rw [hb] at hF
    clear hb
    iterate 11 refine qs_skip hF (wanted_n hF rfl rfl rfl rfl rfl) rfl rfl (fun a hF => ?_)
    refine qs hF rfl ((y_pick_f hF rfl rfl rfl).q) (fun a hF => ?_)
    refine quiet_end (fun w hW => ?_)
    refine c_then ?_
    exact ⟨_, H, hF.re ⟨rfl, rfl, rfl, rfl, rfl, rfl, rfl, rfl, trivial⟩, hW⟩
  rintro a w ⟨x7, hj, hF, hW⟩
  have hj := Option.some.inj hj
  subst hj
  have H := K3
  clear G3 K3
  refine c_cond hF rfl (fun hb => ?_) (fun hb => ?_)
  ·
   have H := iteT hb H
   rw [hb] at hF
   clear hb
   refine wp_skip ?_
   refine c_then ?_
   refine wp_block ?_
   refine reg_list ?_
   refine ls hF hW rfl ((y_move hF rfl).q) (fun a w hF hW => ?_)
   refine ls hF hW rfl ((y_add hF rfl rfl rfl).q) (fun a w hF hW => ?_)
   refine ls hF hW rfl ((y_assign hF rfl).q) (fun a w hF hW => ?_)
   refine ls_nil ?_
   refine b_normal ?_
   refine c_then ?_
   exact ⟨_, H, hF.re ⟨rfl, rfl, rfl, rfl, rfl, rfl, rfl, trivial⟩, hW⟩
  ·
   have H := iteF (by rw [hb]; decide) H
   rw [hb] at hF
   clear hb
   refine wp_exit ?_
   iterate 2 refine e_then ?_
   refine e_block ?_
   refine c_then ?_
   have H := L2 _ H
   exact ⟨_, H, hF.re ⟨rfl, rfl, rfl, rfl, rfl, rfl, rfl, trivial⟩, hW⟩
 rintro a w ⟨x5, hj, hF, hW⟩
 have hj := Option.some.inj hj
 subst hj
 have H := K1
 clear G1 K1
 obtain ⟨o4, G4, K4⟩ := bindE H
 refine c_seqJ (fun a w => ∃ x11 : Int, some (x11) = some o4 ∧ Fr 178 [] [(0, v1), (1, .int .i64 p1), (4, .func (.func 24) #[] #[]), (10, .int .i64 0), (11, .bool false), (12, .int .i64 x5), (13, .int .i64 x11)] a ∧ Stw ⟨Y, X, w0⟩ [] [row v1 25 (Rp.flt .f64) (setAt (setAt p0 p1 x1) p3 x2)] w) ?_ ?_
 ·
  have H := G4
  clear G4 K4
  refine wp_block ?_
  refine c_loopW H (fun s a w => Fr 178 [] [(0, v1), (1, .int .i64 p1), (4, .func (.func 24) #[] #[]), (10, .int .i64 0), (11, .bool false), (12, .int .i64 x5), (13, .int .i64 s)] a ∧ Stw ⟨Y, X, w0⟩ [] [row v1 25 (Rp.flt .f64) (setAt (setAt p0 p1 x1) p3 x2)] w) ⟨hF.re ⟨rfl, rfl, rfl, rfl, rfl, rfl, rfl, trivial⟩, hW⟩ (fun s o a w H L5 hR => ?_)
  obtain ⟨x12, rfl⟩ : ∃ x, x = s := ⟨s, rfl⟩
  obtain ⟨hF, hW⟩ := hR
  have hF : Fr 178 [] [(0, v1), (1, .int .i64 p1), (4, .func (.func 24) #[] #[]), (10, .int .i64 0), (11, .bool false), (12, .int .i64 x5), (13, .int .i64 x12)] a := hF
  have hW : Stw ⟨Y, X, w0⟩ [] [row v1 25 (Rp.flt .f64) (setAt (setAt p0 p1 x1) p3 x2)] w := hW
  rw [slices_partitionCmpFunc_float64_l2] at H
  refine c_seq ?_
  obtain ⟨o6, G6, K6⟩ := bindE H
  refine c_seqJ (fun a w => ∃ x13 : Bool, some (x13) = some o6 ∧ Fr 178 [] [(0, v1), (1, .int .i64 p1), (4, .func (.func 24) #[] #[]), (10, .int .i64 0), (11, .bool false), (12, .int .i64 x5), (13, .int .i64 x12), (66, .bool x13)] a ∧ Stw ⟨Y, X, w0⟩ [] [row v1 25 (Rp.flt .f64) (setAt (setAt p0 p1 x1) p3 x2)] w) ?_ ?_
  ·
   have H := G6
   clear G6 K6
   refine reg_quiet hW MO (by kernel_rfl) ?_
   iterate 2 refine qs hF rfl ((y_move hF rfl).q) (fun a hF => ?_)
   refine qs hF rfl ((y_leq hF rfl rfl).q) (fun a hF => ?_)
   refine qs hF rfl ((y_move hF rfl).q) (fun a hF => ?_)
   rcases Bool.eq_false_or_eq_true (decide (x5 ≤ x12)) with hb | hb
   ·
    have H := iteT (of_decide_eq_true hb) H
    rw [hb] at hF
    clear hb
    iterate 3 refine qs_w hF (wanted_y hF rfl rfl rfl rfl) rfl (Nat.le_of_ble_eq_true rfl) ((y_move hF rfl).q) (fun a hF => ?_)
    obtain ⟨x14, h8, H⟩ := bindE H
    refine qs_w hF (wanted_y hF rfl rfl rfl rfl) rfl (Nat.le_of_ble_eq_true rfl) ((y_index (r := (Rp.flt .f64)) L34 hF rfl rfl (rdc_row 0 rfl) h8).q) (fun a hF => ?_)
    refine qs_w hF (wanted_y hF rfl rfl rfl rfl) rfl (Nat.le_of_ble_eq_true rfl) ((y_load_el (y := Value.float .f64 x14) (j := 0) (i := x12) hF rfl rfl (rdc_row 0 rfl) h8 Fl.flt.to T25 rfl).q) (fun a hF => ?_)
    iterate 2 refine qs_w hF (wanted_y hF rfl rfl rfl rfl) rfl (Nat.le_of_ble_eq_true rfl) ((y_move hF rfl).q) (fun a hF => ?_)
    obtain ⟨x15, h9, H⟩ := bindE H
    refine qs_w hF (wanted_y hF rfl rfl rfl rfl) rfl (Nat.le_of_ble_eq_true rfl) ((y_index (r := (Rp.flt .f64)) L34 hF rfl rfl (rdc_row 0 rfl) h9).q) (fun a hF => ?_)
    refine qs_w hF (wanted_y hF rfl rfl rfl rfl) rfl (Nat.le_of_ble_eq_true rfl) ((y_load_el (y := Value.float .f64 x15) (j := 0) (i := p1) hF rfl rfl (rdc_row 0 rfl) h9 Fl.flt.to T25 rfl).q) (fun a hF => ?_)
    obtain ⟨x16, h10, H⟩ := bindE H
    refine qs_w hF (wanted_y hF rfl rfl rfl rfl) rfl (Nat.le_of_ble_eq_true rfl) (y_callV (ws := [.float .f64 x14, .float .f64 x15]) (v := Value.int .i64 x16) hF H24 rfl (fun w hW => float_Compare_c any w x14 x15 _ h10)) (fun a hF => ?_)
    refine qs_w hF (wanted_y hF rfl rfl rfl rfl) rfl (Nat.le_of_ble_eq_true rfl) ((y_lss hF rfl rfl).q) (fun a hF => ?_)
    refine qs_w hF (wanted_y hF rfl rfl rfl rfl) rfl (Nat.le_of_ble_eq_true rfl) ((y_not hF rfl).q) (fun a hF => ?_)
    refine qs hF rfl ((y_pick_t hF rfl rfl rfl).q) (fun a hF => ?_)
    refine quiet_end (fun w hW => ?_)
    refine c_then ?_
    exact ⟨_, H, hF.re ⟨rfl, rfl, rfl, rfl, rfl, rfl, rfl, rfl, trivial⟩, hW⟩
   ·
    have H := iteF (of_decide_eq_false hb) H
    rw [hb] at hF
    clear hb
    iterate 12 refine qs_skip hF (wanted_n hF rfl rfl rfl rfl rfl) rfl rfl (fun a hF => ?_)
    refine qs hF rfl ((y_pick_f hF rfl rfl rfl).q) (fun a hF => ?_)
    refine quiet_end (fun w hW => ?_)
    refine c_then ?_
    exact ⟨_, H, hF.re ⟨rfl, rfl, rfl, rfl, rfl, rfl, rfl, rfl, trivial⟩, hW⟩
  rintro a w ⟨x13, hj, hF, hW⟩
  have hj := Option.some.inj hj
  subst hj
  have H := K6
  clear G6 K6
  refine c_cond hF rfl (fun hb => ?_) (fun hb => ?_)
  ·
   have H := iteT hb H
   rw [hb] at hF
   clear hb
   refine wp_skip ?_
   refine c_then ?_
   refine wp_block ?_
   refine reg_list ?_
   refine ls hF hW rfl ((y_move hF rfl).q) (fun a w hF hW => ?_)
   refine ls hF hW rfl ((y_sub hF rfl rfl rfl).q) (fun a w hF hW => ?_)
   refine ls hF hW rfl ((y_assign hF rfl).q) (fun a w hF hW => ?_)
   refine ls_nil ?_
   refine b_normal ?_
   refine c_then ?_
   exact ⟨_, H, hF.re ⟨rfl, rfl, rfl, rfl, rfl, rfl, rfl, trivial⟩, hW⟩
  ·
   have H := iteF (by rw [hb]; decide) H
   rw [hb] at hF
   clear hb
   refine wp_exit ?_
   iterate 2 refine e_then ?_
   refine e_block ?_
   refine c_then ?_
   have H := L5 _ H
   exact ⟨_, H, hF.re ⟨rfl, rfl, rfl, rfl, rfl, rfl, rfl, trivial⟩, hW⟩
 rintro a w ⟨x11, hj, hF, hW⟩
 have hj := Option.some.inj hj
 subst hj
 have H := K4
 clear G4 K4
 refine c_seq ?_
 refine c_seq (reg_list ?_)
 iterate 2 refine ls hF hW rfl ((y_move hF rfl).q) (fun a w hF hW => ?_)
 refine ls hF hW rfl ((y_gtr hF rfl rfl).q) (fun a w hF hW => ?_)
 refine ls_nil (c_then ?_)
 refine c_cond hF rfl (fun hb => ?_) (fun hb => ?_)
 ·
  have H := iteT (of_decide_eq_true hb) H
  rw [hb] at hF
  clear hb
  refine c_seq ?_
  refine reg_ord 13 [2, 3] [0, 1, 4, 5, 6, 7, 8, 9, 10, 11, 12] (fun ch a d v w h => by cases d <;> exact h) hW MO (by kernel_rfl) ?_
  iterate 2 refine hm hF rfl rfl rfl (fun a hF => ?_)
  refine hm_end ?_
  iterate 4 refine hs hF rfl rfl rfl ((y_move hF rfl).q) (fun a hF => ?_)
  obtain ⟨x17, h11, H⟩ := bindE H
  refine hs hF rfl rfl rfl ((y_index (r := (Rp.flt .f64)) L34 hF rfl rfl (rdc_row 0 rfl) h11).q) (fun a hF => ?_)
  refine hs hF rfl rfl rfl ((y_load_el (y := Value.float .f64 x17) (j := 0) (i := p1) hF rfl rfl (rdc_row 0 rfl) h11 Fl.flt.to T25 rfl).q) (fun a hF => ?_)
  iterate 2 refine hs hF rfl rfl rfl ((y_move hF rfl).q) (fun a hF => ?_)
  obtain ⟨x18, h12, H⟩ := bindE H
  refine hs hF rfl rfl rfl ((y_index (r := (Rp.flt .f64)) L34 hF rfl rfl (rdc_row 0 rfl) h12).q) (fun a hF => ?_)
  refine hs hF rfl rfl rfl ((y_load_el (y := Value.float .f64 x18) (j := 0) (i := x11) hF rfl rfl (rdc_row 0 rfl) h12 Fl.flt.to T25 rfl).q) (fun a hF => ?_)
  obtain ⟨x19, h13, H⟩ := bindE H
  refine hs hF rfl rfl rfl ((y_index (r := (Rp.flt .f64)) L34 hF rfl rfl (rdc_row 0 rfl) h13).q) (fun a hF => ?_)
  refine h_end (fun w hW => ?_)
  have hW : Stw ⟨Y, X, w0⟩ [] [row v1 25 (Rp.flt .f64) (setAt (setAt p0 p1 x1) p3 x2)] w := hW
  refine l_store_el (i := x11) (j := 0) (vs := [.float .f64 x17]) (x' := x17) hF hW rfl rfl rfl (k := 0) rfl rfl h13 T25 rfl rfl rfl rfl (fun A cs _ => Fl.flt.sto (by rfl) _ _ _) (fun w hW => ?_)
  obtain ⟨x20, h14, H⟩ := bindE H
  refine ls hF hW rfl ((y_index (r := (Rp.flt .f64)) L34 hF rfl rfl (rdc_row 0 rfl) h14).q) (fun a w hF hW => ?_)
  refine l_store_el (i := p1) (j := 0) (vs := [.float .f64 x18]) (x' := x18) hF hW rfl rfl rfl (k := 0) rfl rfl h14 T25 rfl rfl rfl rfl (fun A cs _ => Fl.flt.sto (by rfl) _ _ _) (fun w hW => ?_)
  refine ls_nil (c_then ?_)
  refine c_seq (reg_list ?_)
  refine ls hF hW rfl ((y_move hF rfl).q) (fun a w hF hW => ?_)
  iterate 2 refine ls hF hW rfl ((y_assign hF rfl).q) (fun a w hF hW => ?_)
  refine ls_nil (c_then ?_)
  refine wp_ret ?_
  refine r_then ?_
  have H := Option.some.inj H
  subst H
  refine post2 (.inl rfl) hF hW rfl (rv_tmp hF rfl) (rv_tmp hF rfl) ?_
  exact ⟨(), rfl, hW⟩
 ·
  have H := iteF (of_decide_eq_false hb) H
  rw [hb] at hF
  clear hb
  refine wp_skip ?_
  refine c_then ?_
  refine c_seq ?_
  refine reg_ord 13 [2, 3] [0, 1, 4, 5, 6, 7, 8, 9, 10, 11, 12] (fun ch a d v w h => by cases d <;> exact h) hW MO (by kernel_rfl) ?_
  iterate 2 refine hm hF rfl rfl rfl (fun a hF => ?_)
  refine hm_end ?_
  iterate 4 refine hs hF rfl rfl rfl ((y_move hF rfl).q) (fun a hF => ?_)
  obtain ⟨x21, h15, H⟩ := bindE H
  refine hs hF rfl rfl rfl ((y_index (r := (Rp.flt .f64)) L34 hF rfl rfl (rdc_row 0 rfl) h15).q) (fun a hF => ?_)
  refine hs hF rfl rfl rfl ((y_load_el (y := Value.float .f64 x21) (j := 0) (i := x11) hF rfl rfl (rdc_row 0 rfl) h15 Fl.flt.to T25 rfl).q) (fun a hF => ?_)
  iterate 2 refine hs hF rfl rfl rfl ((y_move hF rfl).q) (fun a hF => ?_)
  obtain ⟨x22, h16, H⟩ := bindE H
  refine hs hF rfl rfl rfl ((y_index (r := (Rp.flt .f64)) L34 hF rfl rfl (rdc_row 0 rfl) h16).q) (fun a hF => ?_)
  refine hs hF rfl rfl rfl ((y_load_el (y := Value.float .f64 x22) (j := 0) (i := x5) hF rfl rfl (rdc_row 0 rfl) h16 Fl.flt.to T25 rfl).q) (fun a hF => ?_)
  obtain ⟨x23, h17, H⟩ := bindE H
  refine hs hF rfl rfl rfl ((y_index (r := (Rp.flt .f64)) L34 hF rfl rfl (rdc_row 0 rfl) h17).q) (fun a hF => ?_)
  refine h_end (fun w hW => ?_)
  have hW : Stw ⟨Y, X, w0⟩ [] [row v1 25 (Rp.flt .f64) (setAt (setAt p0 p1 x1) p3 x2)] w := hW
  refine l_store_el (i := x5) (j := 0) (vs := [.float .f64 x21]) (x' := x21) hF hW rfl rfl rfl (k := 0) rfl rfl h17 T25 rfl rfl rfl rfl (fun A cs _ => Fl.flt.sto (by rfl) _ _ _) (fun w hW => ?_)
  obtain ⟨x24, h18, H⟩ := bindE H
  refine ls hF hW rfl ((y_index (r := (Rp.flt .f64)) L34 hF rfl rfl (rdc_row 0 rfl) h18).q) (fun a w hF hW => ?_)
  refine l_store_el (i := x11) (j := 0) (vs := [.float .f64 x22]) (x' := x22) hF hW rfl rfl rfl (k := 0) rfl rfl h18 T25 rfl rfl rfl rfl (fun A cs _ => Fl.flt.sto (by rfl) _ _ _) (fun w hW => ?_)
  refine ls_nil (c_then ?_)
  refine c_seq (reg_list ?_)
  refine ls hF hW rfl ((y_move hF rfl).q) (fun a w hF hW => ?_)
  refine ls hF hW rfl ((y_add hF rfl rfl rfl).q) (fun a w hF hW => ?_)
  refine ls hF hW rfl ((y_assign hF rfl).q) (fun a w hF hW => ?_)
  refine ls_nil (c_then ?_)
  refine c_seq (reg_list ?_)
  refine ls hF hW rfl ((y_move hF rfl).q) (fun a w hF hW => ?_)
  refine ls hF hW rfl ((y_sub hF rfl rfl rfl).q) (fun a w hF hW => ?_)
  refine ls hF hW rfl ((y_assign hF rfl).q) (fun a w hF hW => ?_)
  refine ls_nil (c_then ?_)
  obtain ⟨o7, G7, K7⟩ := bindE H
  refine c_seqJ (fun a w => ∃ x25 : List Nat, ∃ x26 : Int, some ((x25, x26)) = some o7 ∧ Fr 178 [] [(0, v1), (1, .int .i64 p1), (10, .int .i64 0), (11, .bool false), (13, .int .i64 x26)] a ∧ Stw ⟨Y, X, w0⟩ [] [row v1 25 (Rp.flt .f64) x25] w) ?_ ?_
  ·
   have H := G7
   clear G7 K7
   refine wp_block ?_
   refine c_loopW H (fun s a w => Fr 178 [] [(0, v1), (1, .int .i64 p1), (4, .func (.func 24) #[] #[]), (10, .int .i64 0), (11, .bool false), (12, .int .i64 s.2.1), (13, .int .i64 s.2.2)] a ∧ Stw ⟨Y, X, w0⟩ [] [row v1 25 (Rp.flt .f64) s.1] w) ⟨hF.re ⟨rfl, rfl, rfl, rfl, rfl, rfl, rfl, trivial⟩, hW⟩ (fun s o a w H L8 hR => ?_)
   obtain ⟨x27, x28, x29⟩ := s
   obtain ⟨hF, hW⟩ := hR
   have hF : Fr 178 [] [(0, v1), (1, .int .i64 p1), (4, .func (.func 24) #[] #[]), (10, .int .i64 0), (11, .bool false), (12, .int .i64 x28), (13, .int .i64 x29)] a := hF
   have hW : Stw ⟨Y, X, w0⟩ [] [row v1 25 (Rp.flt .f64) x27] w := hW
   rw [slices_partitionCmpFunc_float64_l3] at H
   refine wp_block ?_
   obtain ⟨o9, G9, K9⟩ := bindE H
   refine c_seqJ (fun a w => ∃ x30 : Int, some (x30) = some o9 ∧ Fr 178 [] [(0, v1), (1, .int .i64 p1), (4, .func (.func 24) #[] #[]), (10, .int .i64 0), (11, .bool false), (12, .int .i64 x30), (13, .int .i64 x29)] a ∧ Stw ⟨Y, X, w0⟩ [] [row v1 25 (Rp.flt .f64) x27] w) ?_ ?_
   ·
    have H := G9
    clear G9 K9
    refine wp_block ?_
    refine c_loopW H (fun s a w => Fr 178 [] [(0, v1), (1, .int .i64 p1), (4, .func (.func 24) #[] #[]), (10, .int .i64 0), (11, .bool false), (12, .int .i64 s), (13, .int .i64 x29)] a ∧ Stw ⟨Y, X, w0⟩ [] [row v1 25 (Rp.flt .f64) x27] w) ⟨hF.re ⟨rfl, rfl, rfl, rfl, rfl, rfl, rfl, trivial⟩, hW⟩ (fun s o a w H L10 hR => ?_)
    obtain ⟨x31, rfl⟩ : ∃ x, x = s := ⟨s, rfl⟩
    obtain ⟨hF, hW⟩ := hR
    have hF : Fr 178 [] [(0, v1), (1, .int .i64 p1), (4, .func (.func 24) #[] #[]), (10, .int .i64 0), (11, .bool false), (12, .int .i64 x31), (13, .int .i64 x29)] a := hF
    have hW : Stw ⟨Y, X, w0⟩ [] [row v1 25 (Rp.flt .f64) x27] w := hW
    rw [slices_partitionCmpFunc_float64_l4] at H
    refine c_seq ?_
    obtain ⟨o11, G11, K11⟩ := bindE H
    refine c_seqJ (fun a w => ∃ x32 : Bool, some (x32) = some o11 ∧ Fr 178 [] [(0, v1), (1, .int .i64 p1), (4, .func (.func 24) #[] #[]), (10, .int .i64 0), (11, .bool false), (12, .int .i64 x31), (13, .int .i64 x29), (120, .bool x32)] a ∧ Stw ⟨Y, X, w0⟩ [] [row v1 25 (Rp.flt .f64) x27] w) ?_ ?_
    ·
     have H := G11
     clear G11 K11
     refine reg_quiet hW MO (by kernel_rfl) ?_
     iterate 2 refine qs hF rfl ((y_move hF rfl).q) (fun a hF => ?_)
     refine qs hF rfl ((y_leq hF rfl rfl).q) (fun a hF => ?_)
     refine qs hF rfl ((y_move hF rfl).q) (fun a hF => ?_)
     rcases Bool.eq_false_or_eq_true (decide (x31 ≤ x29)) with hb | hb
     ·
      have H := iteT (of_decide_eq_true hb) H
      rw [hb] at hF
      clear hb
      iterate 3 refine qs_w hF (wanted_y hF rfl rfl rfl rfl) rfl (Nat.le_of_ble_eq_true rfl) ((y_move hF rfl).q) (fun a hF => ?_)
      obtain ⟨x33, h19, H⟩ := bindE H
      refine qs_w hF (wanted_y hF rfl rfl rfl rfl) rfl (Nat.le_of_ble_eq_true rfl) ((y_index (r := (Rp.flt .f64)) L34 hF rfl rfl (rdc_row 0 rfl) h19).q) (fun a hF => ?_)
      refine qs_w hF (wanted_y hF rfl rfl rfl rfl) rfl (Nat.le_of_ble_eq_true rfl) ((y_load_el (y := Value.float .f64 x33) (j := 0) (i := x31) hF rfl rfl (rdc_row 0 rfl) h19 Fl.flt.to T25 rfl).q) (fun a hF => ?_)
      iterate 2 refine qs_w hF (wanted_y hF rfl rfl rfl rfl) rfl (Nat.le_of_ble_eq_true rfl) ((y_move hF rfl).q) (fun a hF => ?_)
      obtain ⟨x34, h20, H⟩ := bindE H
      refine qs_w hF (wanted_y hF rfl rfl rfl rfl) rfl (Nat.le_of_ble_eq_true rfl) ((y_index (r := (Rp.flt .f64)) L34 hF rfl rfl (rdc_row 0 rfl) h20).q) (fun a hF => ?_)
      refine qs_w hF (wanted_y hF rfl rfl rfl rfl) rfl (Nat.le_of_ble_eq_true rfl) ((y_load_el (y := Value.float .f64 x34) (j := 0) (i := p1) hF rfl rfl (rdc_row 0 rfl) h20 Fl.flt.to T25 rfl).q) (fun a hF => ?_)
      obtain ⟨x35, h21, H⟩ := bindE H
      refine qs_w hF (wanted_y hF rfl rfl rfl rfl) rfl (Nat.le_of_ble_eq_true rfl) (y_callV (ws := [.float .f64 x33, .float .f64 x34]) (v := Value.int .i64 x35) hF H24 rfl (fun w hW => float_Compare_c any w x33 x34 _ h21)) (fun a hF => ?_)
      refine qs_w hF (wanted_y hF rfl rfl rfl rfl) rfl (Nat.le_of_ble_eq_true rfl) ((y_lss hF rfl rfl).q) (fun a hF => ?_)
      refine qs hF rfl ((y_pick_t hF rfl rfl rfl).q) (fun a hF => ?_)
      refine quiet_end (fun w hW => ?_)
      refine c_then ?_
      exact ⟨_, H, hF.re ⟨rfl, rfl, rfl, rfl, rfl, rfl, rfl, rfl, trivial⟩, hW⟩
     ·
      have H := iteF (of_decide_eq_false hb) H
      rw [hb] at hF
      clear hb
      iterate 11 refine qs_skip hF (wanted_n hF rfl rfl rfl rfl rfl) rfl rfl (fun a hF => ?_)
      refine qs hF rfl ((y_pick_f hF rfl rfl rfl).q) (fun a hF => ?_)
      refine quiet_end (fun w hW => ?_)
      refine c_then ?_
      exact ⟨_, H, hF.re ⟨rfl, rfl, rfl, rfl, rfl, rfl, rfl, rfl, trivial⟩, hW⟩
    rintro a w ⟨x32, hj, hF, hW⟩
    have hj := Option.some.inj hj
    subst hj
    have H := K11
    clear G11 K11
    refine c_cond hF rfl (fun hb => ?_) (fun hb => ?_)
    ·
     have H := iteT hb H
     rw [hb] at hF
     clear hb
     refine wp_skip ?_
     refine c_then ?_
     refine wp_block ?_
     refine reg_list ?_
     refine ls hF hW rfl ((y_move hF rfl).q) (fun a w hF hW => ?_)
     refine ls hF hW rfl ((y_add hF rfl rfl rfl).q) (fun a w hF hW => ?_)
     refine ls hF hW rfl ((y_assign hF rfl).q) (fun a w hF hW => ?_)
     refine ls_nil ?_
     refine b_normal ?_
     refine c_then ?_
     exact ⟨_, H, hF.re ⟨rfl, rfl, rfl, rfl, rfl, rfl, rfl, trivial⟩, hW⟩
    ·
     have H := iteF (by rw [hb]; decide) H
     rw [hb] at hF
     clear hb
     refine wp_exit ?_
     iterate 2 refine e_then ?_
     refine e_block ?_
     refine c_then ?_
     have H := L10 _ H
     exact ⟨_, H, hF.re ⟨rfl, rfl, rfl, rfl, rfl, rfl, rfl, trivial⟩, hW⟩
   rintro a w ⟨x30, hj, hF, hW⟩
   have hj := Option.some.inj hj
   subst hj
   have H := K9
   clear G9 K9
   obtain ⟨o12, G12, K12⟩ := bindE H
   refine c_seqJ (fun a w => ∃ x36 : Int, some (x36) = some o12 ∧ Fr 178 [] [(0, v1), (1, .int .i64 p1), (4, .func (.func 24) #[] #[]), (10, .int .i64 0), (11, .bool false), (12, .int .i64 x30), (13, .int .i64 x36)] a ∧ Stw ⟨Y, X, w0⟩ [] [row v1 25 (Rp.flt .f64) x27] w) ?_ ?_
   ·
    have H := G12
    clear G12 K12
    refine wp_block ?_
    refine c_loopW H (fun s a w => Fr 178 [] [(0, v1), (1, .int .i64 p1), (4, .func (.func 24) #[] #[]), (10, .int .i64 0), (11, .bool false), (12, .int .i64 x30), (13, .int .i64 s)] a ∧ Stw ⟨Y, X, w0⟩ [] [row v1 25 (Rp.flt .f64) x27] w) ⟨hF.re ⟨rfl, rfl, rfl, rfl, rfl, rfl, rfl, trivial⟩, hW⟩ (fun s o a w H L13 hR => ?_)
    obtain ⟨x37, rfl⟩ : ∃ x, x = s := ⟨s, rfl⟩
    obtain ⟨hF, hW⟩ := hR
    have hF : Fr 178 [] [(0, v1), (1, .int .i64 p1), (4, .func (.func 24) #[] #[]), (10, .int .i64 0), (11, .bool false), (12, .int .i64 x30), (13, .int .i64 x37)] a := hF
    have hW : Stw ⟨Y, X, w0⟩ [] [row v1 25 (Rp.flt .f64) x27] w := hW
    rw [slices_partitionCmpFunc_float64_l5] at H
    refine c_seq ?_
    obtain ⟨o14, G14, K14⟩ := bindE H
    refine c_seqJ (fun a w => ∃ x38 : Bool, some (x38) = some o14 ∧ Fr 178 [] [(0, v1), (1, .int .i64 p1), (4, .func (.func 24) #[] #[]), (10, .int .i64 0), (11, .bool false), (12, .int .i64 x30), (13, .int .i64 x37), (139, .bool x38)] a ∧ Stw ⟨Y, X, w0⟩ [] [row v1 25 (Rp.flt .f64) x27] w) ?_ ?_
    ·
     have H := G14
     clear G14 K14
     refine reg_quiet hW MO (by kernel_rfl) ?_
     iterate 2 refine qs hF rfl ((y_move hF rfl).q) (fun a hF => ?_)
     refine qs hF rfl ((y_leq hF rfl rfl).q) (fun a hF => ?_)
     refine qs hF rfl ((y_move hF rfl).q) (fun a hF => ?_)
     rcases Bool.eq_false_or_eq_true (decide (x30 ≤ x37)) with hb | hb
     ·
      have H := iteT (of_decide_eq_true hb) H
      rw [hb] at hF
      clear hb
      iterate 3 refine qs_w hF (wanted_y hF rfl rfl rfl rfl) rfl (Nat.le_of_ble_eq_true rfl) ((y_move hF rfl).q) (fun a hF => ?_)
      obtain ⟨x39, h22, H⟩ := bindE H
      refine qs_w hF (wanted_y hF rfl rfl rfl rfl) rfl (Nat.le_of_ble_eq_true rfl) ((y_index (r := (Rp.flt .f64)) L34 hF rfl rfl (rdc_row 0 rfl) h22).q) (fun a hF => ?_)
      refine qs_w hF (wanted_y hF rfl rfl rfl rfl) rfl (Nat.le_of_ble_eq_true rfl) ((y_load_el (y := Value.float .f64 x39) (j := 0) (i := x37) hF rfl rfl (rdc_row 0 rfl) h22 Fl.flt.to T25 rfl).q) (fun a hF => ?_)
      iterate 2 refine qs_w hF (wanted_y hF rfl rfl rfl rfl) rfl (Nat.le_of_ble_eq_true rfl) ((y_move hF rfl).q) (fun a hF => ?_)
      obtain ⟨x40, h23, H⟩ := bindE H
      refine qs_w hF (wanted_y hF rfl rfl rfl rfl) rfl (Nat.le_of_ble_eq_true rfl) ((y_index (r := (Rp.flt .f64)) L34 hF rfl rfl (rdc_row 0 rfl) h23).q) (fun a hF => ?_)
      refine qs_w hF (wanted_y hF rfl rfl rfl rfl) rfl (Nat.le_of_ble_eq_true rfl) ((y_load_el (y := Value.float .f64 x40) (j := 0) (i := p1) hF rfl rfl (rdc_row 0 rfl) h23 Fl.flt.to T25 rfl).q) (fun a hF => ?_)
      obtain ⟨x41, h24, H⟩ := bindE H
      refine qs_w hF (wanted_y hF rfl rfl rfl rfl) rfl (Nat.le_of_ble_eq_true rfl) (y_callV (ws := [.float .f64 x39, .float .f64 x40]) (v := Value.int .i64 x41) hF H24 rfl (fun w hW => float_Compare_c any w x39 x40 _ h24)) (fun a hF => ?_)
      refine qs_w hF (wanted_y hF rfl rfl rfl rfl) rfl (Nat.le_of_ble_eq_true rfl) ((y_lss hF rfl rfl).q) (fun a hF => ?_)
      refine qs_w hF (wanted_y hF rfl rfl rfl rfl) rfl (Nat.le_of_ble_eq_true rfl) ((y_not hF rfl).q) (fun a hF => ?_)
      refine qs hF rfl ((y_pick_t hF rfl rfl rfl).q) (fun a hF => ?_)
      refine quiet_end (fun w hW => ?_)
      refine c_then ?_
      exact ⟨_, H, hF.re ⟨rfl, rfl, rfl, rfl, rfl, rfl, rfl, rfl, trivial⟩, hW⟩
     ·
      have H := iteF (of_decide_eq_false hb) H
      rw [hb] at hF
      clear hb
      iterate 12 refine qs_skip hF (wanted_n hF rfl rfl rfl rfl rfl) rfl rfl (fun a hF => ?_)
      refine qs hF rfl ((y_pick_f hF rfl rfl rfl).q) (fun a hF => ?_)
      refine quiet_end (fun w hW => ?_)
      refine c_then ?_
      exact ⟨_, H, hF.re ⟨rfl, rfl, rfl, rfl, rfl, rfl, rfl, rfl, trivial⟩, hW⟩
    rintro a w ⟨x38, hj, hF, hW⟩
    have hj := Option.some.inj hj
    subst hj
    have H := K14
    clear G14 K14
    refine c_cond hF rfl (fun hb => ?_) (fun hb => ?_)
    ·
     have H := iteT hb H
     rw [hb] at hF
     clear hb
     refine wp_skip ?_
     refine c_then ?_
     refine wp_block ?_
     refine reg_list ?_
     refine ls hF hW rfl ((y_move hF rfl).q) (fun a w hF hW => ?_)
     refine ls hF hW rfl ((y_sub hF rfl rfl rfl).q) (fun a w hF hW => ?_)
     refine ls hF hW rfl ((y_assign hF rfl).q) (fun a w hF hW => ?_)
     refine ls_nil ?_
     refine b_normal ?_
     refine c_then ?_
     exact ⟨_, H, hF.re ⟨rfl, rfl, rfl, rfl, rfl, rfl, rfl, trivial⟩, hW⟩
    ·
     have H := iteF (by rw [hb]; decide) H
     rw [hb] at hF
     clear hb
     refine wp_exit ?_
     iterate 2 refine e_then ?_
     refine e_block ?_
     refine c_then ?_
     have H := L13 _ H
     exact ⟨_, H, hF.re ⟨rfl, rfl, rfl, rfl, rfl, rfl, rfl, trivial⟩, hW⟩
   rintro a w ⟨x36, hj, hF, hW⟩
   have hj := Option.some.inj hj
   subst hj
   have H := K12
   clear G12 K12
   refine c_seq ?_
   refine c_seq (reg_list ?_)
   iterate 2 refine ls hF hW rfl ((y_move hF rfl).q) (fun a w hF hW => ?_)
   refine ls hF hW rfl ((y_gtr hF rfl rfl).q) (fun a w hF hW => ?_)
   refine ls_nil (c_then ?_)
   refine c_cond hF rfl (fun hb => ?_) (fun hb => ?_)
   ·
    have H := iteT (of_decide_eq_true hb) H
    rw [hb] at hF
    clear hb
    refine wp_exit ?_
    refine e_then ?_
    refine e_pass rfl ?_
    refine e_then ?_
    refine e_block ?_
    refine c_then ?_
    have H := L8 _ H
    exact ⟨_, _, H, hF.re ⟨rfl, rfl, rfl, rfl, rfl, trivial⟩, hW⟩
   ·
    have H := iteF (of_decide_eq_false hb) H
    rw [hb] at hF
    clear hb
    refine wp_skip ?_
    refine c_then ?_
    refine c_seq ?_
    refine reg_ord 13 [2, 3] [0, 1, 4, 5, 6, 7, 8, 9, 10, 11, 12] (fun ch a d v w h => by cases d <;> exact h) hW MO (by kernel_rfl) ?_
    iterate 2 refine hm hF rfl rfl rfl (fun a hF => ?_)
    refine hm_end ?_
    iterate 4 refine hs hF rfl rfl rfl ((y_move hF rfl).q) (fun a hF => ?_)
    obtain ⟨x42, h25, H⟩ := bindE H
    refine hs hF rfl rfl rfl ((y_index (r := (Rp.flt .f64)) L34 hF rfl rfl (rdc_row 0 rfl) h25).q) (fun a hF => ?_)
    refine hs hF rfl rfl rfl ((y_load_el (y := Value.float .f64 x42) (j := 0) (i := x36) hF rfl rfl (rdc_row 0 rfl) h25 Fl.flt.to T25 rfl).q) (fun a hF => ?_)
    iterate 2 refine hs hF rfl rfl rfl ((y_move hF rfl).q) (fun a hF => ?_)
    obtain ⟨x43, h26, H⟩ := bindE H
    refine hs hF rfl rfl rfl ((y_index (r := (Rp.flt .f64)) L34 hF rfl rfl (rdc_row 0 rfl) h26).q) (fun a hF => ?_)
    refine hs hF rfl rfl rfl ((y_load_el (y := Value.float .f64 x43) (j := 0) (i := x30) hF rfl rfl (rdc_row 0 rfl) h26 Fl.flt.to T25 rfl).q) (fun a hF => ?_)
    obtain ⟨x44, h27, H⟩ := bindE H
    refine hs hF rfl rfl rfl ((y_index (r := (Rp.flt .f64)) L34 hF rfl rfl (rdc_row 0 rfl) h27).q) (fun a hF => ?_)
    refine h_end (fun w hW => ?_)
    have hW : Stw ⟨Y, X, w0⟩ [] [row v1 25 (Rp.flt .f64) x27] w := hW
    refine l_store_el (i := x30) (j := 0) (vs := [.float .f64 x42]) (x' := x42) hF hW rfl rfl rfl (k := 0) rfl rfl h27 T25 rfl rfl rfl rfl (fun A cs _ => Fl.flt.sto (by rfl) _ _ _) (fun w hW => ?_)
    obtain ⟨x45, h28, H⟩ := bindE H
    refine ls hF hW rfl ((y_index (r := (Rp.flt .f64)) L34 hF rfl rfl (rdc_row 0 rfl) h28).q) (fun a w hF hW => ?_)
    refine l_store_el (i := x36) (j := 0) (vs := [.float .f64 x43]) (x' := x43) hF hW rfl rfl rfl (k := 0) rfl rfl h28 T25 rfl rfl rfl rfl (fun A cs _ => Fl.flt.sto (by rfl) _ _ _) (fun w hW => ?_)
    refine ls_nil (c_then ?_)
    refine c_seq (reg_list ?_)
    refine ls hF hW rfl ((y_move hF rfl).q) (fun a w hF hW => ?_)
    refine ls hF hW rfl ((y_add hF rfl rfl rfl).q) (fun a w hF hW => ?_)
    refine ls hF hW rfl ((y_assign hF rfl).q) (fun a w hF hW => ?_)
    refine ls_nil (c_then ?_)
    refine reg_list ?_
    refine ls hF hW rfl ((y_move hF rfl).q) (fun a w hF hW => ?_)
    refine ls hF hW rfl ((y_sub hF rfl rfl rfl).q) (fun a w hF hW => ?_)
    refine ls hF hW rfl ((y_assign hF rfl).q) (fun a w hF hW => ?_)
    refine ls_nil ?_
    refine b_normal ?_
    refine c_then ?_
    exact ⟨_, H, hF.re ⟨rfl, rfl, rfl, rfl, rfl, rfl, rfl, trivial⟩, hW⟩
  rintro a w ⟨x25, x26, hj, hF, hW⟩
  have hj := Option.some.inj hj
  subst hj
  have H := K7
  clear G7 K7
  refine c_seq ?_
  refine reg_ord 13 [2, 3] [0, 1, 4, 5, 6, 7, 8, 9, 10, 11, 12] (fun ch a d v w h => by cases d <;> exact h) hW MO (by kernel_rfl) ?_
  iterate 2 refine hm hF rfl rfl rfl (fun a hF => ?_)
  refine hm_end ?_
  iterate 4 refine hs hF rfl rfl rfl ((y_move hF rfl).q) (fun a hF => ?_)
  obtain ⟨x46, h29, H⟩ := bindE H
  refine hs hF rfl rfl rfl ((y_index (r := (Rp.flt .f64)) L34 hF rfl rfl (rdc_row 0 rfl) h29).q) (fun a hF => ?_)
  refine hs hF rfl rfl rfl ((y_load_el (y := Value.float .f64 x46) (j := 0) (i := p1) hF rfl rfl (rdc_row 0 rfl) h29 Fl.flt.to T25 rfl).q) (fun a hF => ?_)
  iterate 2 refine hs hF rfl rfl rfl ((y_move hF rfl).q) (fun a hF => ?_)
  obtain ⟨x47, h30, H⟩ := bindE H
  refine hs hF rfl rfl rfl ((y_index (r := (Rp.flt .f64)) L34 hF rfl rfl (rdc_row 0 rfl) h30).q) (fun a hF => ?_)
  refine hs hF rfl rfl rfl ((y_load_el (y := Value.float .f64 x47) (j := 0) (i := x26) hF rfl rfl (rdc_row 0 rfl) h30 Fl.flt.to T25 rfl).q) (fun a hF => ?_)
  obtain ⟨x48, h31, H⟩ := bindE H
  refine hs hF rfl rfl rfl ((y_index (r := (Rp.flt .f64)) L34 hF rfl rfl (rdc_row 0 rfl) h31).q) (fun a hF => ?_)
  refine h_end (fun w hW => ?_)
  have hW : Stw ⟨Y, X, w0⟩ [] [row v1 25 (Rp.flt .f64) x25] w := hW
  refine l_store_el (i := x26) (j := 0) (vs := [.float .f64 x46]) (x' := x46) hF hW rfl rfl rfl (k := 0) rfl rfl h31 T25 rfl rfl rfl rfl (fun A cs _ => Fl.flt.sto (by rfl) _ _ _) (fun w hW => ?_)
  obtain ⟨x49, h32, H⟩ := bindE H
  refine ls hF hW rfl ((y_index (r := (Rp.flt .f64)) L34 hF rfl rfl (rdc_row 0 rfl) h32).q) (fun a w hF hW => ?_)
  refine l_store_el (i := p1) (j := 0) (vs := [.float .f64 x47]) (x' := x47) hF hW rfl rfl rfl (k := 0) rfl rfl h32 T25 rfl rfl rfl rfl (fun A cs _ => Fl.flt.sto (by rfl) _ _ _) (fun w hW => ?_)
  refine ls_nil (c_then ?_)
  refine c_seq (reg_list ?_)
  refine ls hF hW rfl ((y_move hF rfl).q) (fun a w hF hW => ?_)
  iterate 2 refine ls hF hW rfl ((y_assign hF rfl).q) (fun a w hF hW => ?_)
  refine ls_nil (c_then ?_)
  refine wp_ret ?_
  have H := Option.some.inj H
  subst H
  refine post2 (.inl rfl) hF hW rfl (rv_tmp hF rfl) (rv_tmp hF rfl) ?_
  exact ⟨(), rfl, hW⟩

end Go.Proofs.Ytdogfpoekndknaa
