/- The functions of layer 36, lifted. Conditions: none. -/
import Derived.Test.YtdllfdmdfdfilaaDoorA1
namespace Go.Proofs.YtdllfdmdfdfilaaDoor
open Go Go.RowKit
set_option linter.unusedVariables false
set_option linter.unusedSimpArgs false
set_option maxRecDepth 20000
theorem H23 : Has Tryd.prog 23 := ⟨fun args w => run_callFunc_body Tryd.func23 rfl (by decide) args w⟩
noncomputable def r36_Next (p0 : Int × Int × Bool × Int × Int × Int × Bool × Bool × Int) (p1 : Int × Int × Int × Int) : Option ((Int × Int × Bool × Int × Int × Int × Bool × Bool × Int) × Int) := (r36_may p0 p1).bind fun x1 => (if (!x1) = true then some (p0, 5) else orR (if p1.1 = 1 then some (.inr ((p1.2.1, p0.2.1, true, p1.2.2.1, p1.2.2.2, 0, false, false, 0), 0)) else (if p1.1 = 2 then some (.inl (w64 (p0.2.2.2.2.2.1 + 1), p0.2.2.2.2.2.2.1, p0.2.2.2.2.2.2.2.1, p0.2.2.2.2.2.2.2.2)) else (if p1.1 = 3 then some (.inl (p0.2.2.2.2.2.1, true, p0.2.2.2.2.2.2.2.1, p0.2.2.2.2.2.2.2.2)) else (if p1.1 = 4 then some (.inl (p0.2.2.2.2.2.1, p0.2.2.2.2.2.2.1, true, p0.2.2.2.2.2.2.2.2)) else (if p1.1 = 5 then some (.inr ((p0.1, p0.2.2.2.1, false, 0, 0, 0, false, false, p0.2.2.2.2.2.2.2.2), 0)) else (if p1.1 = 6 then some (.inr ((p0.1, p0.2.1, false, 0, 0, 0, false, false, p1.2.2.1), 0)) else (if p1.1 = 7 then (r36_power p1.2.2.1).bind fun x6 => some (.inl (p0.2.2.2.2.2.1, p0.2.2.2.2.2.2.1, p0.2.2.2.2.2.2.2.1, w64 (p0.2.2.2.2.2.2.2.2 - x6))) else some (.inl (p0.2.2.2.2.2.1, p0.2.2.2.2.2.2.1, p0.2.2.2.2.2.2.2.1, p0.2.2.2.2.2.2.2.2))))))))) fun (x2, x3, x4, x5) => some ((p0.1, p0.2.1, p0.2.2.1, p0.2.2.2.1, p0.2.2.2.2.1, x2, x3, x4, x5), 0))
theorem r36_Next_c (Y : Nat → Prop) (w0 : World)  (p0 : Int × Int × Bool × Int × Int × Int × Bool × Bool × Int) (p1 : Int × Int × Int × Int) (r : (Int × Int × Bool × Int × Int × Int × Bool × Bool × Int) × Int) (H : r36_Next p0 p1 = some r)  :
    Calls Tryd.prog 10 #[.agg #[.int .i64 p0.1, .int .i64 p0.2.1, .bool p0.2.2.1, .int .i64 p0.2.2.2.1, .int .i64 p0.2.2.2.2.1, .int .i64 p0.2.2.2.2.2.1, .bool p0.2.2.2.2.2.2.1, .bool p0.2.2.2.2.2.2.2.1, .int .i64 p0.2.2.2.2.2.2.2.2], .agg #[.int .i64 p1.1, .int .i64 p1.2.1, .int .i64 p1.2.2.1, .int .i64 p1.2.2.2]] w0 fun e w' => e = .returned (.tuple #[.agg #[.int .i64 r.1.1, .int .i64 r.1.2.1, .bool r.1.2.2.1, .int .i64 r.1.2.2.2.1, .int .i64 r.1.2.2.2.2.1, .int .i64 r.1.2.2.2.2.2.1, .bool r.1.2.2.2.2.2.2.1, .bool r.1.2.2.2.2.2.2.2.1, .int .i64 r.1.2.2.2.2.2.2.2.2], .int .i64 r.2]) ∧ Below w0.heap.size w0 w' := by
 refine enter Tryd.func10 rfl Tryd.ntmps10 rfl (fun a hF => ?_)
 have hW := Stw.start Y w0
 unfold r36_Next at H
 refine c_seq (reg_list ?_)
 refine l_box (cs := [.int .i64 p0.1, .int .i64 p0.2.1, .bool p0.2.2.1, .int .i64 p0.2.2.2.1, .int .i64 p0.2.2.2.2.1, .int .i64 p0.2.2.2.2.2.1, .bool p0.2.2.2.2.2.2.1, .bool p0.2.2.2.2.2.2.2.1, .int .i64 p0.2.2.2.2.2.2.2.2]) hF hW rfl rfl rfl (fun b1 a w hF hW => ?_)
 refine l_box (cs := [.int .i64 p1.1, .int .i64 p1.2.1, .int .i64 p1.2.2.1, .int .i64 p1.2.2.2]) hF hW rfl rfl rfl (fun b2 a w hF hW => ?_)
 refine l_alloc (cs := [.int .i64 0, .int .i64 0, .bool false, .int .i64 0, .int .i64 0, .int .i64 0, .bool false, .bool false, .int .i64 0]) hF hW rfl Z27 rfl (fun b3 a w hF hW => ?_)
 refine ls hF hW rfl ((y_assign hF rfl).q) (fun a w hF hW => ?_)
 refine ls_nil (c_then ?_)
 refine c_seq ?_
 refine c_seq (reg_list ?_)
 refine ls hF hW rfl ((y_load (v := Value.agg #[.int .i64 p0.1, .int .i64 p0.2.1, .bool p0.2.2.1, .int .i64 p0.2.2.2.1, .int .i64 p0.2.2.2.2.1, .int .i64 p0.2.2.2.2.2.1, .bool p0.2.2.2.2.2.2.1, .bool p0.2.2.2.2.2.2.2.1, .int .i64 p0.2.2.2.2.2.2.2.2]) 2 hF rfl rfl T27 rfl).q) (fun a w hF hW => ?_)
 refine ls hF hW rfl ((y_load (v := Value.agg #[.int .i64 p1.1, .int .i64 p1.2.1, .int .i64 p1.2.2.1, .int .i64 p1.2.2.2]) 1 hF rfl rfl T37 rfl).q) (fun a w hF hW => ?_)
 obtain ⟨x1, h1, H⟩ := bindE H
 refine ls hF hW rfl (y_call (v := Value.bool x1) hF H22 rfl (fun w hW => r36_may_c any w p0 p1 _ h1)) (fun a w hF hW => ?_)
 refine ls hF hW rfl ((y_not hF rfl).q) (fun a w hF hW => ?_)
 refine ls_nil (c_then ?_)
 refine c_cond hF rfl (fun hb => ?_) (fun hb => ?_)
 ·
  have H := iteT hb H
  rw [hb] at hF
  clear hb
  refine c_seq (reg_list ?_)
  refine ls hF hW rfl ((y_load (v := Value.agg #[.int .i64 p0.1, .int .i64 p0.2.1, .bool p0.2.2.1, .int .i64 p0.2.2.2.1, .int .i64 p0.2.2.2.2.1, .int .i64 p0.2.2.2.2.2.1, .bool p0.2.2.2.2.2.2.1, .bool p0.2.2.2.2.2.2.2.1, .int .i64 p0.2.2.2.2.2.2.2.2]) 2 hF rfl rfl T27 rfl).q) (fun a w hF hW => ?_)
  refine l_store (vs := [.int .i64 p0.1, .int .i64 p0.2.1, .bool p0.2.2.1, .int .i64 p0.2.2.2.1, .int .i64 p0.2.2.2.2.1, .int .i64 p0.2.2.2.2.2.1, .bool p0.2.2.2.2.2.2.1, .bool p0.2.2.2.2.2.2.2.1, .int .i64 p0.2.2.2.2.2.2.2.2]) (M' := [(b3, [.int .i64 p0.1, .int .i64 p0.2.1, .bool p0.2.2.1, .int .i64 p0.2.2.2.1, .int .i64 p0.2.2.2.2.1, .int .i64 p0.2.2.2.2.2.1, .bool p0.2.2.2.2.2.2.1, .bool p0.2.2.2.2.2.2.2.1, .int .i64 p0.2.2.2.2.2.2.2.2]), (b2, [.int .i64 p1.1, .int .i64 p1.2.1, .int .i64 p1.2.2.1, .int .i64 p1.2.2.2]), (b1, [.int .i64 p0.1, .int .i64 p0.2.1, .bool p0.2.2.1, .int .i64 p0.2.2.2.1, .int .i64 p0.2.2.2.2.1, .int .i64 p0.2.2.2.2.2.1, .bool p0.2.2.2.2.2.2.1, .bool p0.2.2.2.2.2.2.2.1, .int .i64 p0.2.2.2.2.2.2.2.2])]) 0 hF hW rfl rfl rfl T27 rfl rfl rfl rfl rfl (fun w hW => ?_)
  refine ls hF hW rfl ((y_assign hF rfl).q) (fun a w hF hW => ?_)
  refine ls_nil (c_then ?_)
  refine wr_ret ?_
  refine r_then ?_
  have H := Option.some.inj H
  subst H
  refine post2 (.inl rfl) hF hW rfl (rv_cell 0 hF rfl rfl T27 rfl) (rv_tmp hF rfl) ?_
  exact ⟨rfl, hW.done⟩
 ·
  have H := iteF (by rw [hb]; decide) H
  rw [hb] at hF
  clear hb
  refine wr_skip ?_
  refine c_then ?_
  obtain ⟨o1, G1, K1, L1⟩ := orE H
  refine c_seqJ (fun a w => ∃ x2 : Int, ∃ x3 : Bool, ∃ x4 : Bool, ∃ x5 : Int, some (Sum.inl (x2, x3, x4, x5)) = some o1 ∧ Fr 64 [] [(2, .pointer (some ⟨b1, 0, none⟩)), (4, .pointer (some ⟨b3, 0, none⟩)), (5, .int .i64 0)] a ∧ Stw ⟨Y, [], w0⟩ [(b3, [.int .i64 0, .int .i64 0, .bool false, .int .i64 0, .int .i64 0, .int .i64 0, .bool false, .bool false, .int .i64 0]), (b2, [.int .i64 p1.1, .int .i64 p1.2.1, .int .i64 p1.2.2.1, .int .i64 p1.2.2.2]), (b1, [.int .i64 p0.1, .int .i64 p0.2.1, .bool p0.2.2.1, .int .i64 p0.2.2.2.1, .int .i64 p0.2.2.2.2.1, .int .i64 x2, .bool x3, .bool x4, .int .i64 x5])] [] w) ?_ ?_
  ·
   have H := G1
   clear G1 K1
   refine c_seq (reg_list ?_)
   refine ls hF hW rfl ((y_fieldAddr u37_ rfl rfl rfl T3 hF rfl 0 rfl).q) (fun a w hF hW => ?_)
   refine ls hF hW rfl ((y_load (v := Value.int .i64 p1.1) 1 hF rfl rfl T3 rfl).q) (fun a w hF hW => ?_)
   refine ls_nil (c_then ?_)
   refine wr_block ?_
   refine c_seq (reg_list ?_)
   refine ls hF hW rfl ((y_eql hF rfl rfl).q) (fun a w hF hW => ?_)
   refine ls hF hW rfl ((y_assign hF rfl).q) (fun a w hF hW => ?_)
   refine ls_nil (c_then ?_)
   refine c_cond hF rfl (fun hb => ?_) (fun hb => ?_)
   ·
    have H := iteT (of_decide_eq_true hb) H
    rw [hb] at hF
    clear hb
    refine c_seq (reg_list ?_)
    refine ls hF hW rfl ((y_fieldAddr u37_ rfl rfl rfl T3 hF rfl 1 rfl).q) (fun a w hF hW => ?_)
    refine ls hF hW rfl ((y_load (v := Value.int .i64 p1.2.1) 1 hF rfl rfl T3 rfl).q) (fun a w hF hW => ?_)
    refine ls hF hW rfl ((y_fieldAddr u27_ rfl rfl rfl T3 hF rfl 1 rfl).q) (fun a w hF hW => ?_)
    refine ls hF hW rfl ((y_load (v := Value.int .i64 p0.2.1) 2 hF rfl rfl T3 rfl).q) (fun a w hF hW => ?_)
    refine ls hF hW rfl ((y_fieldAddr u37_ rfl rfl rfl T3 hF rfl 2 rfl).q) (fun a w hF hW => ?_)
    refine ls hF hW rfl ((y_load (v := Value.int .i64 p1.2.2.1) 1 hF rfl rfl T3 rfl).q) (fun a w hF hW => ?_)
    refine ls hF hW rfl ((y_fieldAddr u37_ rfl rfl rfl T3 hF rfl 3 rfl).q) (fun a w hF hW => ?_)
    refine ls hF hW rfl ((y_load (v := Value.int .i64 p1.2.2.2) 1 hF rfl rfl T3 rfl).q) (fun a w hF hW => ?_)
    refine ls hF hW rfl ((y_build (v := Value.agg #[.int .i64 p1.2.1, .int .i64 p0.2.1, .bool true, .int .i64 p1.2.2.1, .int .i64 p1.2.2.2, .int .i64 0, .bool false, .bool false, .int .i64 0]) B27 hF rfl rfl rfl).q) (fun a w hF hW => ?_)
    refine l_store (vs := [.int .i64 p1.2.1, .int .i64 p0.2.1, .bool true, .int .i64 p1.2.2.1, .int .i64 p1.2.2.2, .int .i64 0, .bool false, .bool false, .int .i64 0]) (M' := [(b3, [.int .i64 p1.2.1, .int .i64 p0.2.1, .bool true, .int .i64 p1.2.2.1, .int .i64 p1.2.2.2, .int .i64 0, .bool false, .bool false, .int .i64 0]), (b2, [.int .i64 p1.1, .int .i64 p1.2.1, .int .i64 p1.2.2.1, .int .i64 p1.2.2.2]), (b1, [.int .i64 p0.1, .int .i64 p0.2.1, .bool p0.2.2.1, .int .i64 p0.2.2.2.1, .int .i64 p0.2.2.2.2.1, .int .i64 p0.2.2.2.2.2.1, .bool p0.2.2.2.2.2.2.1, .bool p0.2.2.2.2.2.2.2.1, .int .i64 p0.2.2.2.2.2.2.2.2])]) 0 hF hW rfl rfl rfl T27 rfl rfl rfl rfl rfl (fun w hW => ?_)
    refine ls hF hW rfl ((y_assign hF rfl).q) (fun a w hF hW => ?_)
    refine ls_nil (c_then ?_)
    refine wr_ret ?_
    refine r_block ?_
    refine r_then ?_
    have H := L1 _ H
    have H := Option.some.inj H
    subst H
    refine post2 (.inl rfl) hF hW rfl (rv_cell 0 hF rfl rfl T27 rfl) (rv_tmp hF rfl) ?_
    exact ⟨rfl, hW.done⟩
   ·
    have H := iteF (of_decide_eq_false hb) H
    rw [hb] at hF
    clear hb
    refine c_seq (reg_list ?_)
    refine ls hF hW rfl ((y_eql hF rfl rfl).q) (fun a w hF hW => ?_)
    refine ls hF hW rfl ((y_assign hF rfl).q) (fun a w hF hW => ?_)
    refine ls_nil (c_then ?_)
    refine c_cond hF rfl (fun hb => ?_) (fun hb => ?_)
    ·
     have H := iteT (of_decide_eq_true hb) H
     rw [hb] at hF
     clear hb
     refine reg_list ?_
     refine ls hF hW rfl ((y_fieldAddr u27_ rfl rfl rfl T3 hF rfl 5 rfl).q) (fun a w hF hW => ?_)
     refine ls hF hW rfl ((y_load (v := Value.int .i64 p0.2.2.2.2.2.1) 2 hF rfl rfl T3 rfl).q) (fun a w hF hW => ?_)
     refine ls hF hW rfl ((y_add hF rfl rfl rfl).q) (fun a w hF hW => ?_)
     refine ls hF hW rfl ((y_fieldAddr u27_ rfl rfl rfl T3 hF rfl 5 rfl).q) (fun a w hF hW => ?_)
     refine l_store (vs := [.int .i64 (w64 (p0.2.2.2.2.2.1 + 1))]) (M' := [(b3, [.int .i64 0, .int .i64 0, .bool false, .int .i64 0, .int .i64 0, .int .i64 0, .bool false, .bool false, .int .i64 0]), (b2, [.int .i64 p1.1, .int .i64 p1.2.1, .int .i64 p1.2.2.1, .int .i64 p1.2.2.2]), (b1, [.int .i64 p0.1, .int .i64 p0.2.1, .bool p0.2.2.1, .int .i64 p0.2.2.2.1, .int .i64 p0.2.2.2.2.1, .int .i64 (w64 (p0.2.2.2.2.2.1 + 1)), .bool p0.2.2.2.2.2.2.1, .bool p0.2.2.2.2.2.2.2.1, .int .i64 p0.2.2.2.2.2.2.2.2])]) 2 hF hW rfl rfl rfl T3 rfl rfl rfl rfl rfl (fun w hW => ?_)
     refine ls_nil ?_
     refine b_normal ?_
     refine c_then ?_
     have hW := hW.frontM (i := 2) rfl rfl
     have hW := hW.frontM (i := 2) rfl rfl
     have hW := hW.frontM (i := 2) rfl rfl
     exact ⟨_, _, _, _, H, hF.re ⟨rfl, rfl, rfl, trivial⟩, hW⟩
    ·
     have H := iteF (of_decide_eq_false hb) H
     rw [hb] at hF
     clear hb
     refine c_seq (reg_list ?_)
     refine ls hF hW rfl ((y_eql hF rfl rfl).q) (fun a w hF hW => ?_)
     refine ls hF hW rfl ((y_assign hF rfl).q) (fun a w hF hW => ?_)
     refine ls_nil (c_then ?_)
     refine c_cond hF rfl (fun hb => ?_) (fun hb => ?_)
     ·
      have H := iteT (of_decide_eq_true hb) H
      rw [hb] at hF
      clear hb
      refine reg_list ?_
      refine ls hF hW rfl ((y_fieldAddr u27_ rfl rfl rfl T4 hF rfl 6 rfl).q) (fun a w hF hW => ?_)
      refine l_store (vs := [.bool true]) (M' := [(b3, [.int .i64 0, .int .i64 0, .bool false, .int .i64 0, .int .i64 0, .int .i64 0, .bool false, .bool false, .int .i64 0]), (b2, [.int .i64 p1.1, .int .i64 p1.2.1, .int .i64 p1.2.2.1, .int .i64 p1.2.2.2]), (b1, [.int .i64 p0.1, .int .i64 p0.2.1, .bool p0.2.2.1, .int .i64 p0.2.2.2.1, .int .i64 p0.2.2.2.2.1, .int .i64 p0.2.2.2.2.2.1, .bool true, .bool p0.2.2.2.2.2.2.2.1, .int .i64 p0.2.2.2.2.2.2.2.2])]) 2 hF hW rfl rfl rfl T4 rfl rfl rfl rfl rfl (fun w hW => ?_)
      refine ls_nil ?_
      refine b_normal ?_
      refine c_then ?_
      have hW := hW.frontM (i := 2) rfl rfl
      have hW := hW.frontM (i := 2) rfl rfl
      have hW := hW.frontM (i := 2) rfl rfl
      exact ⟨_, _, _, _, H, hF.re ⟨rfl, rfl, rfl, trivial⟩, hW⟩
     ·
      have H := iteF (of_decide_eq_false hb) H
      rw [hb] at hF
      clear hb
      refine c_seq (reg_list ?_)
      refine ls hF hW rfl ((y_eql hF rfl rfl).q) (fun a w hF hW => ?_)
      refine ls hF hW rfl ((y_assign hF rfl).q) (fun a w hF hW => ?_)
      refine ls_nil (c_then ?_)
      refine c_cond hF rfl (fun hb => ?_) (fun hb => ?_)
      ·
       have H := iteT (of_decide_eq_true hb) H
       rw [hb] at hF
       clear hb
       refine reg_list ?_
       refine ls hF hW rfl ((y_fieldAddr u27_ rfl rfl rfl T4 hF rfl 7 rfl).q) (fun a w hF hW => ?_)
       refine l_store (vs := [.bool true]) (M' := [(b3, [.int .i64 0, .int .i64 0, .bool false, .int .i64 0, .int .i64 0, .int .i64 0, .bool false, .bool false, .int .i64 0]), (b2, [.int .i64 p1.1, .int .i64 p1.2.1, .int .i64 p1.2.2.1, .int .i64 p1.2.2.2]), (b1, [.int .i64 p0.1, .int .i64 p0.2.1, .bool p0.2.2.1, .int .i64 p0.2.2.2.1, .int .i64 p0.2.2.2.2.1, .int .i64 p0.2.2.2.2.2.1, .bool p0.2.2.2.2.2.2.1, .bool true, .int .i64 p0.2.2.2.2.2.2.2.2])]) 2 hF hW rfl rfl rfl T4 rfl rfl rfl rfl rfl (fun w hW => ?_)
       refine ls_nil ?_
       refine b_normal ?_
       refine c_then ?_
       have hW := hW.frontM (i := 2) rfl rfl
       have hW := hW.frontM (i := 2) rfl rfl
       have hW := hW.frontM (i := 2) rfl rfl
       exact ⟨_, _, _, _, H, hF.re ⟨rfl, rfl, rfl, trivial⟩, hW⟩
      ·
       have H := iteF (of_decide_eq_false hb) H
       rw [hb] at hF
       clear hb
       refine c_seq (reg_list ?_)
       refine ls hF hW rfl ((y_eql hF rfl rfl).q) (fun a w hF hW => ?_)
       refine ls hF hW rfl ((y_assign hF rfl).q) (fun a w hF hW => ?_)
       refine ls_nil (c_then ?_)
       refine c_cond hF rfl (fun hb => ?_) (fun hb => ?_)
       ·
        have H := iteT (of_decide_eq_true hb) H
        rw [hb] at hF
        clear hb
        refine c_seq (reg_list ?_)
        refine ls hF hW rfl ((y_fieldAddr u27_ rfl rfl rfl T3 hF rfl 0 rfl).q) (fun a w hF hW => ?_)
        refine ls hF hW rfl ((y_load (v := Value.int .i64 p0.1) 2 hF rfl rfl T3 rfl).q) (fun a w hF hW => ?_)
        refine ls hF hW rfl ((y_fieldAddr u27_ rfl rfl rfl T3 hF rfl 3 rfl).q) (fun a w hF hW => ?_)
        refine ls hF hW rfl ((y_load (v := Value.int .i64 p0.2.2.2.1) 2 hF rfl rfl T3 rfl).q) (fun a w hF hW => ?_)
        refine ls hF hW rfl ((y_fieldAddr u27_ rfl rfl rfl T3 hF rfl 8 rfl).q) (fun a w hF hW => ?_)
        refine ls hF hW rfl ((y_load (v := Value.int .i64 p0.2.2.2.2.2.2.2.2) 2 hF rfl rfl T3 rfl).q) (fun a w hF hW => ?_)
        refine ls hF hW rfl ((y_build (v := Value.agg #[.int .i64 p0.1, .int .i64 p0.2.2.2.1, .bool false, .int .i64 0, .int .i64 0, .int .i64 0, .bool false, .bool false, .int .i64 p0.2.2.2.2.2.2.2.2]) B27 hF rfl rfl rfl).q) (fun a w hF hW => ?_)
        refine l_store (vs := [.int .i64 p0.1, .int .i64 p0.2.2.2.1, .bool false, .int .i64 0, .int .i64 0, .int .i64 0, .bool false, .bool false, .int .i64 p0.2.2.2.2.2.2.2.2]) (M' := [(b3, [.int .i64 p0.1, .int .i64 p0.2.2.2.1, .bool false, .int .i64 0, .int .i64 0, .int .i64 0, .bool false, .bool false, .int .i64 p0.2.2.2.2.2.2.2.2]), (b2, [.int .i64 p1.1, .int .i64 p1.2.1, .int .i64 p1.2.2.1, .int .i64 p1.2.2.2]), (b1, [.int .i64 p0.1, .int .i64 p0.2.1, .bool p0.2.2.1, .int .i64 p0.2.2.2.1, .int .i64 p0.2.2.2.2.1, .int .i64 p0.2.2.2.2.2.1, .bool p0.2.2.2.2.2.2.1, .bool p0.2.2.2.2.2.2.2.1, .int .i64 p0.2.2.2.2.2.2.2.2])]) 0 hF hW rfl rfl rfl T27 rfl rfl rfl rfl rfl (fun w hW => ?_)
        refine ls hF hW rfl ((y_assign hF rfl).q) (fun a w hF hW => ?_)
        refine ls_nil (c_then ?_)
        refine wr_ret ?_
        refine r_block ?_
        refine r_then ?_
        have H := L1 _ H
        have H := Option.some.inj H
        subst H
        refine post2 (.inl rfl) hF hW rfl (rv_cell 0 hF rfl rfl T27 rfl) (rv_tmp hF rfl) ?_
        exact ⟨rfl, hW.done⟩
       ·
        have H := iteF (of_decide_eq_false hb) H
        rw [hb] at hF
        clear hb
        refine c_seq (reg_list ?_)
        refine ls hF hW rfl ((y_eql hF rfl rfl).q) (fun a w hF hW => ?_)
        refine ls hF hW rfl ((y_assign hF rfl).q) (fun a w hF hW => ?_)
        refine ls_nil (c_then ?_)
        refine c_cond hF rfl (fun hb => ?_) (fun hb => ?_)
        ·
         have H := iteT (of_decide_eq_true hb) H
         rw [hb] at hF
         clear hb
         refine c_seq (reg_list ?_)
         refine ls hF hW rfl ((y_fieldAddr u27_ rfl rfl rfl T3 hF rfl 0 rfl).q) (fun a w hF hW => ?_)
         refine ls hF hW rfl ((y_load (v := Value.int .i64 p0.1) 2 hF rfl rfl T3 rfl).q) (fun a w hF hW => ?_)
         refine ls hF hW rfl ((y_fieldAddr u27_ rfl rfl rfl T3 hF rfl 1 rfl).q) (fun a w hF hW => ?_)
         refine ls hF hW rfl ((y_load (v := Value.int .i64 p0.2.1) 2 hF rfl rfl T3 rfl).q) (fun a w hF hW => ?_)
         refine ls hF hW rfl ((y_fieldAddr u37_ rfl rfl rfl T3 hF rfl 2 rfl).q) (fun a w hF hW => ?_)
         refine ls hF hW rfl ((y_load (v := Value.int .i64 p1.2.2.1) 1 hF rfl rfl T3 rfl).q) (fun a w hF hW => ?_)
         refine ls hF hW rfl ((y_build (v := Value.agg #[.int .i64 p0.1, .int .i64 p0.2.1, .bool false, .int .i64 0, .int .i64 0, .int .i64 0, .bool false, .bool false, .int .i64 p1.2.2.1]) B27 hF rfl rfl rfl).q) (fun a w hF hW => ?_)
         refine l_store (vs := [.int .i64 p0.1, .int .i64 p0.2.1, .bool false, .int .i64 0, .int .i64 0, .int .i64 0, .bool false, .bool false, .int .i64 p1.2.2.1]) (M' := [(b3, [.int .i64 p0.1, .int .i64 p0.2.1, .bool false, .int .i64 0, .int .i64 0, .int .i64 0, .bool false, .bool false, .int .i64 p1.2.2.1]), (b2, [.int .i64 p1.1, .int .i64 p1.2.1, .int .i64 p1.2.2.1, .int .i64 p1.2.2.2]), (b1, [.int .i64 p0.1, .int .i64 p0.2.1, .bool p0.2.2.1, .int .i64 p0.2.2.2.1, .int .i64 p0.2.2.2.2.1, .int .i64 p0.2.2.2.2.2.1, .bool p0.2.2.2.2.2.2.1, .bool p0.2.2.2.2.2.2.2.1, .int .i64 p0.2.2.2.2.2.2.2.2])]) 0 hF hW rfl rfl rfl T27 rfl rfl rfl rfl rfl (fun w hW => ?_)
         refine ls hF hW rfl ((y_assign hF rfl).q) (fun a w hF hW => ?_)
         refine ls_nil (c_then ?_)
         refine wr_ret ?_
         refine r_block ?_
         refine r_then ?_
         have H := L1 _ H
         have H := Option.some.inj H
         subst H
         refine post2 (.inl rfl) hF hW rfl (rv_cell 0 hF rfl rfl T27 rfl) (rv_tmp hF rfl) ?_
         exact ⟨rfl, hW.done⟩
        ·
         have H := iteF (of_decide_eq_false hb) H
         rw [hb] at hF
         clear hb
         refine c_seq (reg_list ?_)
         refine ls hF hW rfl ((y_eql hF rfl rfl).q) (fun a w hF hW => ?_)
         refine ls hF hW rfl ((y_assign hF rfl).q) (fun a w hF hW => ?_)
         refine ls_nil (c_then ?_)
         refine c_cond hF rfl (fun hb => ?_) (fun hb => ?_)
         ·
          have H := iteT (of_decide_eq_true hb) H
          rw [hb] at hF
          clear hb
          refine reg_tail 7 hW MO (by kernel_rfl) ?_
          refine qs hF rfl ((y_fieldAddr u27_ rfl rfl rfl T3 hF rfl 8 rfl).q) (fun a hF => ?_)
          refine qs hF rfl ((y_load (v := Value.int .i64 p0.2.2.2.2.2.2.2.2) 2 hF rfl rfl T3 rfl).q) (fun a hF => ?_)
          refine qs hF rfl ((y_fieldAddr u37_ rfl rfl rfl T3 hF rfl 2 rfl).q) (fun a hF => ?_)
          refine qs hF rfl ((y_load (v := Value.int .i64 p1.2.2.1) 1 hF rfl rfl T3 rfl).q) (fun a hF => ?_)
          obtain ⟨x6, h2, H⟩ := bindE H
          refine qs hF rfl (y_call (v := Value.int .i64 x6) hF H23 rfl (fun w hW => r36_power_c any w p1.2.2.1 _ h2)) (fun a hF => ?_)
          refine qs hF rfl ((y_sub hF rfl rfl rfl).q) (fun a hF => ?_)
          refine qs hF rfl ((y_fieldAddr u27_ rfl rfl rfl T3 hF rfl 8 rfl).q) (fun a hF => ?_)
          refine quiet_end (fun w hW => ?_)
          refine l_store (vs := [.int .i64 (w64 (p0.2.2.2.2.2.2.2.2 - x6))]) (M' := [(b3, [.int .i64 0, .int .i64 0, .bool false, .int .i64 0, .int .i64 0, .int .i64 0, .bool false, .bool false, .int .i64 0]), (b2, [.int .i64 p1.1, .int .i64 p1.2.1, .int .i64 p1.2.2.1, .int .i64 p1.2.2.2]), (b1, [.int .i64 p0.1, .int .i64 p0.2.1, .bool p0.2.2.1, .int .i64 p0.2.2.2.1, .int .i64 p0.2.2.2.2.1, .int .i64 p0.2.2.2.2.2.1, .bool p0.2.2.2.2.2.2.1, .bool p0.2.2.2.2.2.2.2.1, .int .i64 (w64 (p0.2.2.2.2.2.2.2.2 - x6))])]) 2 hF hW rfl rfl rfl T3 rfl rfl rfl rfl rfl (fun w hW => ?_)
          refine ls_nil ?_
          refine b_normal ?_
          refine c_then ?_
          have hW := hW.frontM (i := 2) rfl rfl
          have hW := hW.frontM (i := 2) rfl rfl
          have hW := hW.frontM (i := 2) rfl rfl
          exact ⟨_, _, _, _, H, hF.re ⟨rfl, rfl, rfl, trivial⟩, hW⟩
         ·
          have H := iteF (of_decide_eq_false hb) H
          rw [hb] at hF
          clear hb
          refine wr_skip ?_
          refine b_normal ?_
          refine c_then ?_
          have hW := hW.frontM (i := 2) rfl rfl
          have hW := hW.frontM (i := 2) rfl rfl
          have hW := hW.frontM (i := 2) rfl rfl
          exact ⟨_, _, _, _, H, hF.re ⟨rfl, rfl, rfl, trivial⟩, hW⟩
  rintro a w ⟨x2, x3, x4, x5, hj, hF, hW⟩
  have H := K1 _ hj
  clear hj G1 K1 L1
  refine c_seq (reg_list ?_)
  refine ls hF hW rfl ((y_load (v := Value.agg #[.int .i64 p0.1, .int .i64 p0.2.1, .bool p0.2.2.1, .int .i64 p0.2.2.2.1, .int .i64 p0.2.2.2.2.1, .int .i64 x2, .bool x3, .bool x4, .int .i64 x5]) 2 hF rfl rfl T27 rfl).q) (fun a w hF hW => ?_)
  refine l_store (vs := [.int .i64 p0.1, .int .i64 p0.2.1, .bool p0.2.2.1, .int .i64 p0.2.2.2.1, .int .i64 p0.2.2.2.2.1, .int .i64 x2, .bool x3, .bool x4, .int .i64 x5]) (M' := [(b3, [.int .i64 p0.1, .int .i64 p0.2.1, .bool p0.2.2.1, .int .i64 p0.2.2.2.1, .int .i64 p0.2.2.2.2.1, .int .i64 x2, .bool x3, .bool x4, .int .i64 x5]), (b2, [.int .i64 p1.1, .int .i64 p1.2.1, .int .i64 p1.2.2.1, .int .i64 p1.2.2.2]), (b1, [.int .i64 p0.1, .int .i64 p0.2.1, .bool p0.2.2.1, .int .i64 p0.2.2.2.1, .int .i64 p0.2.2.2.2.1, .int .i64 x2, .bool x3, .bool x4, .int .i64 x5])]) 0 hF hW rfl rfl rfl T27 rfl rfl rfl rfl rfl (fun w hW => ?_)
  refine ls hF hW rfl ((y_assign hF rfl).q) (fun a w hF hW => ?_)
  refine ls_nil (c_then ?_)
  refine wr_ret ?_
  have H := Option.some.inj H
  subst H
  refine post2 (.inl rfl) hF hW rfl (rv_cell 0 hF rfl rfl T27 rfl) (rv_tmp hF rfl) ?_
  exact ⟨rfl, hW.done⟩

theorem H10 : Has Tryd.prog 10 := ⟨fun args w => run_callFunc_body Tryd.func10 rfl (by decide) args w⟩
noncomputable def r36_Replay_l1 (p0 : List (Int × Int × Int × Int)) : (Int × Int × Int × Bool × Int × Int × Int × Bool × Bool × Int) → Option ((Int × Int × Int × Bool × Int × Int × Int × Bool × Bool × Int) ⊕ ((Int × Int × Bool × Int × Int × Int × Bool × Bool × Int) ⊕ ((Int × Int × Bool × Int × Int × Int × Bool × Bool × Int) × Int × Int)))
  | (x10, x11, x12, x13, x14, x15, x16, x17, x18, x19) => (if x10 < (p0.length : Int) then (ix p0 x10).bind fun x20 => (r36_Next (x11, x12, x13, x14, x15, x16, x17, x18, x19) x20).bind fun x21 => (if x21.2 ≠ 0 then some (.inr (.inr ((x11, x12, x13, x14, x15, x16, x17, x18, x19), x10, x21.2))) else some (.inl (w64 (x10 + 1), x21.1.1, x21.1.2.1, x21.1.2.2.1, x21.1.2.2.2.1, x21.1.2.2.2.2.1, x21.1.2.2.2.2.2.1, x21.1.2.2.2.2.2.2.1, x21.1.2.2.2.2.2.2.2.1, x21.1.2.2.2.2.2.2.2.2))) else some (.inr (.inl (x11, x12, x13, x14, x15, x16, x17, x18, x19))))
noncomputable def r36_Replay (p0 : List (Int × Int × Int × Int)) : Option ((Int × Int × Bool × Int × Int × Int × Bool × Bool × Int) × Int × Int) := orR (loopW (r36_Replay_l1 p0) (0, 0, 0, false, 0, 0, 0, false, false, 0)) fun (x1, x2, x3, x4, x5, x6, x7, x8, x9) => some ((x1, x2, x3, x4, x5, x6, x7, x8, x9), (p0.length : Int), 0)
theorem r36_Replay_c (Y : Nat → Prop) (w0 : World) (v1 : Value) (p0 : List (Int × Int × Int × Int)) (r : (Int × Int × Bool × Int × Int × Int × Bool × Bool × Int) × Int × Int) (H : r36_Replay p0 = some r) (h_v1 : Sl w0 (NX []) R37 v1 p0) :
    Calls Tryd.prog 12 #[v1] w0 fun e w' => e = .returned (.tuple #[.agg #[.int .i64 r.1.1, .int .i64 r.1.2.1, .bool r.1.2.2.1, .int .i64 r.1.2.2.2.1, .int .i64 r.1.2.2.2.2.1, .int .i64 r.1.2.2.2.2.2.1, .bool r.1.2.2.2.2.2.2.1, .bool r.1.2.2.2.2.2.2.2.1, .int .i64 r.1.2.2.2.2.2.2.2.2], .int .i64 r.2.1, .int .i64 r.2.2]) ∧ Below w0.heap.size w0 w' := by
 refine enter Tryd.func12 rfl Tryd.ntmps12 rfl (fun a hF => ?_)
 have hW := Stw.start Y w0
 unfold r36_Replay at H
 refine c_seq (reg_list ?_)
 refine l_alloc (cs := [.int .i64 0, .int .i64 0, .bool false, .int .i64 0, .int .i64 0, .int .i64 0, .bool false, .bool false, .int .i64 0]) hF hW rfl Z27 rfl (fun b1 a w hF hW => ?_)
 iterate 2 refine ls hF hW rfl ((y_assign hF rfl).q) (fun a w hF hW => ?_)
 refine ls_nil (c_then ?_)
 refine c_seq (reg_list ?_)
 refine ls hF hW rfl ((y_build (v := Value.agg #[.int .i64 0, .int .i64 0, .bool false, .int .i64 0, .int .i64 0, .int .i64 0, .bool false, .bool false, .int .i64 0]) B27 hF rfl rfl rfl).q) (fun a w hF hW => ?_)
 refine l_alloc (cs := [.int .i64 0, .int .i64 0, .bool false, .int .i64 0, .int .i64 0, .int .i64 0, .bool false, .bool false, .int .i64 0]) hF hW rfl Z27 rfl (fun b2 a w hF hW => ?_)
 refine l_store (vs := [.int .i64 0, .int .i64 0, .bool false, .int .i64 0, .int .i64 0, .int .i64 0, .bool false, .bool false, .int .i64 0]) (M' := [(b2, [.int .i64 0, .int .i64 0, .bool false, .int .i64 0, .int .i64 0, .int .i64 0, .bool false, .bool false, .int .i64 0]), (b1, [.int .i64 0, .int .i64 0, .bool false, .int .i64 0, .int .i64 0, .int .i64 0, .bool false, .bool false, .int .i64 0])]) 0 hF hW rfl rfl rfl T27 rfl rfl rfl rfl rfl (fun w hW => ?_)
 refine ls_nil (c_then ?_)
 obtain ⟨o1, G1, K1, L1⟩ := orE H
 refine c_seqJ (fun a w => ∃ x1 : Int, ∃ x2 : Int, ∃ x3 : Bool, ∃ x4 : Int, ∃ x5 : Int, ∃ x6 : Int, ∃ x7 : Bool, ∃ x8 : Bool, ∃ x9 : Int, some (Sum.inl (x1, x2, x3, x4, x5, x6, x7, x8, x9)) = some o1 ∧ Fr 34 [] [(0, v1), (2, .pointer (some ⟨b1, 0, none⟩)), (3, .int .i64 0), (4, .int .i64 0), (5, .pointer (some ⟨b2, 0, none⟩))] a ∧ Stw ⟨Y, [], w0⟩ [(b2, [.int .i64 x1, .int .i64 x2, .bool x3, .int .i64 x4, .int .i64 x5, .int .i64 x6, .bool x7, .bool x8, .int .i64 x9]), (b1, [.int .i64 0, .int .i64 0, .bool false, .int .i64 0, .int .i64 0, .int .i64 0, .bool false, .bool false, .int .i64 0])] [] w) ?_ ?_
 ·
  have H := G1
  clear G1 K1
  refine c_seq (reg_list ?_)
  refine ls hF hW rfl ((y_assign hF rfl).q) (fun a w hF hW => ?_)
  refine ls_nil (c_then ?_)
  refine wr_block ?_
  have hW := hW.frontM (i := 1) rfl rfl
  have hW := hW.frontM (i := 1) rfl rfl
  refine c_loopW H (fun s a w => Fr 34 [] [(0, v1), (2, .pointer (some ⟨b1, 0, none⟩)), (3, .int .i64 0), (4, .int .i64 0), (5, .pointer (some ⟨b2, 0, none⟩)), (6, .int .i64 s.1)] a ∧ Stw ⟨Y, [], w0⟩ [(b2, [.int .i64 s.2.1, .int .i64 s.2.2.1, .bool s.2.2.2.1, .int .i64 s.2.2.2.2.1, .int .i64 s.2.2.2.2.2.1, .int .i64 s.2.2.2.2.2.2.1, .bool s.2.2.2.2.2.2.2.1, .bool s.2.2.2.2.2.2.2.2.1, .int .i64 s.2.2.2.2.2.2.2.2.2]), (b1, [.int .i64 0, .int .i64 0, .bool false, .int .i64 0, .int .i64 0, .int .i64 0, .bool false, .bool false, .int .i64 0])] [] w) ⟨hF.re ⟨rfl, rfl, rfl, rfl, rfl, rfl, trivial⟩, hW⟩ (fun s o a w H L2 hR => ?_)
  obtain ⟨x10, x11, x12, x13, x14, x15, x16, x17, x18, x19⟩ := s
  obtain ⟨hF, hW⟩ := hR
  have hF : Fr 34 [] [(0, v1), (2, .pointer (some ⟨b1, 0, none⟩)), (3, .int .i64 0), (4, .int .i64 0), (5, .pointer (some ⟨b2, 0, none⟩)), (6, .int .i64 x10)] a := hF
  have hW : Stw ⟨Y, [], w0⟩ [(b2, [.int .i64 x11, .int .i64 x12, .bool x13, .int .i64 x14, .int .i64 x15, .int .i64 x16, .bool x17, .bool x18, .int .i64 x19]), (b1, [.int .i64 0, .int .i64 0, .bool false, .int .i64 0, .int .i64 0, .int .i64 0, .bool false, .bool false, .int .i64 0])] [] w := hW
  rw [r36_Replay_l1] at H
  refine c_seq ?_
  refine c_seq (reg_list ?_)
  iterate 2 refine ls hF hW rfl ((y_move hF rfl).q) (fun a w hF hW => ?_)
  refine ls hF hW rfl ((y_len (r := R37) (l := p0) u22_ rfl hF rfl (rdc_ro h_v1)).q) (fun a w hF hW => ?_)
  refine ls hF hW rfl ((y_lss hF rfl rfl).q) (fun a w hF hW => ?_)
  refine ls_nil (c_then ?_)
  refine c_cond hF rfl (fun hb => ?_) (fun hb => ?_)
  ·
   have H := iteT (of_decide_eq_true hb) H
   rw [hb] at hF
   clear hb
   refine wr_skip ?_
   refine c_then ?_
   refine c_seq ?_
   refine wr_block ?_
   refine c_seq ?_
   obtain ⟨x20, h1, H⟩ := bindE H
   obtain ⟨x21, h2, H⟩ := bindE H
   refine wp_oneQ (fun a w => ∃ b3 : Nat, Fr 34 [] [(0, v1), (2, .pointer (some ⟨b1, 0, none⟩)), (3, .int .i64 0), (4, .int .i64 0), (5, .pointer (some ⟨b2, 0, none⟩)), (6, .int .i64 x10), (7, .pointer (some ⟨b3, 0, none⟩)), (8, .int .i64 x21.2), (10, .int .i64 x10), (11, v1), (12, .int .i64 (p0.length : Int)), (13, .bool true), (16, .tuple #[.agg #[.int .i64 x21.1.1, .int .i64 x21.1.2.1, .bool x21.1.2.2.1, .int .i64 x21.1.2.2.2.1, .int .i64 x21.1.2.2.2.2.1, .int .i64 x21.1.2.2.2.2.2.1, .bool x21.1.2.2.2.2.2.2.1, .bool x21.1.2.2.2.2.2.2.2.1, .int .i64 x21.1.2.2.2.2.2.2.2.2], .int .i64 x21.2]), (17, .agg #[.int .i64 x11, .int .i64 x12, .bool x13, .int .i64 x14, .int .i64 x15, .int .i64 x16, .bool x17, .bool x18, .int .i64 x19]), (18, v1), (19, .int .i64 x10), (20, .pointer (some ⟨vblk v1, voff v1 + (x10).toNat * 4, none⟩)), (21, .agg #[.int .i64 x20.1, .int .i64 x20.2.1, .int .i64 x20.2.2.1, .int .i64 x20.2.2.2]), (22, .tuple #[.agg #[.int .i64 x21.1.1, .int .i64 x21.1.2.1, .bool x21.1.2.2.1, .int .i64 x21.1.2.2.2.1, .int .i64 x21.1.2.2.2.2.1, .int .i64 x21.1.2.2.2.2.2.1, .bool x21.1.2.2.2.2.2.2.1, .bool x21.1.2.2.2.2.2.2.2.1, .int .i64 x21.1.2.2.2.2.2.2.2.2], .int .i64 x21.2]), (23, .agg #[.int .i64 x21.1.1, .int .i64 x21.1.2.1, .bool x21.1.2.2.1, .int .i64 x21.1.2.2.2.1, .int .i64 x21.1.2.2.2.2.1, .int .i64 x21.1.2.2.2.2.2.1, .bool x21.1.2.2.2.2.2.2.1, .bool x21.1.2.2.2.2.2.2.2.1, .int .i64 x21.1.2.2.2.2.2.2.2.2]), (24, .int .i64 x21.2)] a ∧ Stw ⟨Y, [], w0⟩ [(b3, [.int .i64 x21.1.1, .int .i64 x21.1.2.1, .bool x21.1.2.2.1, .int .i64 x21.1.2.2.2.1, .int .i64 x21.1.2.2.2.2.1, .int .i64 x21.1.2.2.2.2.2.1, .bool x21.1.2.2.2.2.2.2.1, .bool x21.1.2.2.2.2.2.2.2.1, .int .i64 x21.1.2.2.2.2.2.2.2.2]), (b2, [.int .i64 x11, .int .i64 x12, .bool x13, .int .i64 x14, .int .i64 x15, .int .i64 x16, .bool x17, .bool x18, .int .i64 x19]), (b1, [.int .i64 0, .int .i64 0, .bool false, .int .i64 0, .int .i64 0, .int .i64 0, .bool false, .bool false, .int .i64 0])] [] w) ?_ ?_
   ·
    refine reg_tree (PT.st 0 (PT.st 1 (PT.st 2 (PT.st 3 (PT.st 4 (PT.alt 5 (PT.st 6 (PT.st 7 (PT.st 8 (PT.alt 9 (PT.alt 10 (PT.alt 11 PT.done PT.stop) PT.stop) PT.stop)))) (PT.alt 9 (PT.alt 5 (PT.st 6 (PT.st 7 (PT.st 8 (PT.alt 10 (PT.alt 11 PT.done PT.stop) PT.stop)))) PT.stop) PT.stop))))))) (CN ⟨Y, [], w0⟩ [(some 5, b2, [.int .i64 x11, .int .i64 x12, .bool x13, .int .i64 x14, .int .i64 x15, .int .i64 x16, .bool x17, .bool x18, .int .i64 x19])] []) (fun ch a d v w h => by cases d <;> exact h) MO (by kernel_rfl) hW (fun w hW => ⟨_, _, hW, (all_cons (fun _ => (.head _)) all_nil), all_nil⟩) (fun w hW => ?_)
    refine pt_t (R := [5]) hF rfl rfl (yC fun M Z hN hZ => y_load_m (cs := [.int .i64 x11, .int .i64 x12, .bool x13, .int .i64 x14, .int .i64 x15, .int .i64 x16, .bool x17, .bool x18, .int .i64 x19]) (v := Value.agg #[.int .i64 x11, .int .i64 x12, .bool x13, .int .i64 x14, .int .i64 x15, .int .i64 x16, .bool x17, .bool x18, .int .i64 x19]) hF rfl (hN ((some 5), b2, [.int .i64 x11, .int .i64 x12, .bool x13, .int .i64 x14, .int .i64 x15, .int .i64 x16, .bool x17, .bool x18, .int .i64 x19]) (.head _) rfl) T27 rfl) (by kernel_rfl) rfl (fun a hF => ?_)
    iterate 2 refine pt_t (R := []) hF rfl rfl (yC fun M Z hN hZ => y_move hF rfl) rfl rfl (fun a hF => ?_)
    refine pt_t (R := []) hF rfl rfl (yC fun M Z hN hZ => y_index (r := R37) L22 hF rfl rfl (rdc_ro h_v1) h1) rfl rfl (fun a hF => ?_)
    refine pt_t (R := []) hF rfl rfl (yC fun M Z hN hZ => y_load_el (y := Value.agg #[.int .i64 x20.1, .int .i64 x20.2.1, .int .i64 x20.2.2.1, .int .i64 x20.2.2.2]) (j := 0) (i := x10) hF rfl rfl (rdc_ro h_v1) h1 F37.to T37 rfl) rfl rfl (fun a hF => ?_)
    refine pt_f rfl ?_ ?_
    ·
     refine ls hF hW rfl (y_call (v := Value.tuple #[.agg #[.int .i64 x21.1.1, .int .i64 x21.1.2.1, .bool x21.1.2.2.1, .int .i64 x21.1.2.2.2.1, .int .i64 x21.1.2.2.2.2.1, .int .i64 x21.1.2.2.2.2.2.1, .bool x21.1.2.2.2.2.2.2.1, .bool x21.1.2.2.2.2.2.2.2.1, .int .i64 x21.1.2.2.2.2.2.2.2.2], .int .i64 x21.2]) hF H10 rfl (fun w hW => r36_Next_c any w (x11, x12, x13, x14, x15, x16, x17, x18, x19) x20 _ h2)) (fun a w hF hW => ?_)
     refine pt_next (N2 := []) (NZ2 := []) (N3 := [(some 5, b2, [.int .i64 x11, .int .i64 x12, .bool x13, .int .i64 x14, .int .i64 x15, .int .i64 x16, .bool x17, .bool x18, .int .i64 x19])]) (NZ3 := []) hW rfl rfl (all_cons (fun h => rel_dead (by kernel_rfl) h) all_nil) all_nil ?_
     refine pt_t (R := []) hF rfl rfl (yC fun M Z hN hZ => y_move hF rfl) rfl rfl (fun a hF => ?_)
     refine pt_t (R := []) hF rfl rfl (yC fun M Z hN hZ => y_extract (v := Value.agg #[.int .i64 x21.1.1, .int .i64 x21.1.2.1, .bool x21.1.2.2.1, .int .i64 x21.1.2.2.2.1, .int .i64 x21.1.2.2.2.2.1, .int .i64 x21.1.2.2.2.2.2.1, .bool x21.1.2.2.2.2.2.2.1, .bool x21.1.2.2.2.2.2.2.2.1, .int .i64 x21.1.2.2.2.2.2.2.2.2]) hF rfl rfl) rfl rfl (fun a hF => ?_)
     refine pt_t (R := []) hF rfl rfl (yC fun M Z hN hZ => y_extract (v := Value.int .i64 x21.2) hF rfl rfl) rfl rfl (fun a hF => ?_)
     refine pt_f1 rfl ?_
     refine l_alloc (cs := [.int .i64 0, .int .i64 0, .bool false, .int .i64 0, .int .i64 0, .int .i64 0, .bool false, .bool false, .int .i64 0]) hF hW rfl Z27 rfl (fun b3 a w hF hW => ?_)
     refine pt_next (N2 := []) (NZ2 := []) (N3 := [(some 5, b2, [.int .i64 x11, .int .i64 x12, .bool x13, .int .i64 x14, .int .i64 x15, .int .i64 x16, .bool x17, .bool x18, .int .i64 x19])]) (NZ3 := []) hW rfl rfl (all_cons (fun h => rel_dead (by kernel_rfl) h) all_nil) all_nil ?_
     refine pt_f1 rfl ?_
     refine l_store (vs := [.int .i64 x21.1.1, .int .i64 x21.1.2.1, .bool x21.1.2.2.1, .int .i64 x21.1.2.2.2.1, .int .i64 x21.1.2.2.2.2.1, .int .i64 x21.1.2.2.2.2.2.1, .bool x21.1.2.2.2.2.2.2.1, .bool x21.1.2.2.2.2.2.2.2.1, .int .i64 x21.1.2.2.2.2.2.2.2.2]) (M' := [(b3, [.int .i64 x21.1.1, .int .i64 x21.1.2.1, .bool x21.1.2.2.1, .int .i64 x21.1.2.2.2.1, .int .i64 x21.1.2.2.2.2.1, .int .i64 x21.1.2.2.2.2.2.1, .bool x21.1.2.2.2.2.2.2.1, .bool x21.1.2.2.2.2.2.2.2.1, .int .i64 x21.1.2.2.2.2.2.2.2.2]), (b2, [.int .i64 x11, .int .i64 x12, .bool x13, .int .i64 x14, .int .i64 x15, .int .i64 x16, .bool x17, .bool x18, .int .i64 x19]), (b1, [.int .i64 0, .int .i64 0, .bool false, .int .i64 0, .int .i64 0, .int .i64 0, .bool false, .bool false, .int .i64 0])]) 0 hF hW rfl rfl rfl T27 rfl rfl rfl rfl rfl (fun w hW => ?_)
     refine pt_next (N2 := []) (NZ2 := []) (N3 := [(some 5, b2, [.int .i64 x11, .int .i64 x12, .bool x13, .int .i64 x14, .int .i64 x15, .int .i64 x16, .bool x17, .bool x18, .int .i64 x19])]) (NZ3 := []) hW rfl rfl (all_cons (fun h => rel_dead (by kernel_rfl) h) all_nil) all_nil ?_
     refine pt_f1 rfl ?_
     refine ls hF hW rfl ((y_assign hF rfl).q) (fun a w hF hW => ?_)
     refine pt_next (N2 := []) (NZ2 := []) (N3 := [(some 5, b2, [.int .i64 x11, .int .i64 x12, .bool x13, .int .i64 x14, .int .i64 x15, .int .i64 x16, .bool x17, .bool x18, .int .i64 x19])]) (NZ3 := []) hW rfl rfl (all_cons (fun h => rel_dead (by kernel_rfl) h) all_nil) all_nil ?_
     have hW := hW.frontM (i := 2) rfl rfl
     have hW := hW.frontM (i := 2) rfl rfl
     have hW := hW.frontM (i := 2) rfl rfl
     refine pt_end ?_
     exact ⟨b3, hF.re ⟨rfl, rfl, rfl, rfl, rfl, rfl, rfl, rfl, rfl, rfl, rfl, rfl, rfl, rfl, rfl, rfl, rfl, rfl, rfl, rfl, rfl, trivial⟩, hW⟩
    refine pt_f rfl ?_ ?_
    ·
     refine l_alloc (cs := [.int .i64 0, .int .i64 0, .bool false, .int .i64 0, .int .i64 0, .int .i64 0, .bool false, .bool false, .int .i64 0]) hF hW rfl Z27 rfl (fun b3 a w hF hW => ?_)
     refine pt_next (N2 := []) (NZ2 := []) (N3 := [(some 5, b2, [.int .i64 x11, .int .i64 x12, .bool x13, .int .i64 x14, .int .i64 x15, .int .i64 x16, .bool x17, .bool x18, .int .i64 x19])]) (NZ3 := []) hW rfl rfl (all_cons (fun _ => (.tail _ (.head _))) all_nil) all_nil ?_
     refine pt_f1 rfl ?_
     refine ls hF hW rfl (y_call (v := Value.tuple #[.agg #[.int .i64 x21.1.1, .int .i64 x21.1.2.1, .bool x21.1.2.2.1, .int .i64 x21.1.2.2.2.1, .int .i64 x21.1.2.2.2.2.1, .int .i64 x21.1.2.2.2.2.2.1, .bool x21.1.2.2.2.2.2.2.1, .bool x21.1.2.2.2.2.2.2.2.1, .int .i64 x21.1.2.2.2.2.2.2.2.2], .int .i64 x21.2]) hF H10 rfl (fun w hW => r36_Next_c any w (x11, x12, x13, x14, x15, x16, x17, x18, x19) x20 _ h2)) (fun a w hF hW => ?_)
     refine pt_next (N2 := []) (NZ2 := []) (N3 := [(some 5, b2, [.int .i64 x11, .int .i64 x12, .bool x13, .int .i64 x14, .int .i64 x15, .int .i64 x16, .bool x17, .bool x18, .int .i64 x19])]) (NZ3 := []) hW rfl rfl (all_cons (fun h => rel_dead (by kernel_rfl) h) all_nil) all_nil ?_
     refine pt_t (R := []) hF rfl rfl (yC fun M Z hN hZ => y_move hF rfl) rfl rfl (fun a hF => ?_)
     refine pt_t (R := []) hF rfl rfl (yC fun M Z hN hZ => y_extract (v := Value.agg #[.int .i64 x21.1.1, .int .i64 x21.1.2.1, .bool x21.1.2.2.1, .int .i64 x21.1.2.2.2.1, .int .i64 x21.1.2.2.2.2.1, .int .i64 x21.1.2.2.2.2.2.1, .bool x21.1.2.2.2.2.2.2.1, .bool x21.1.2.2.2.2.2.2.2.1, .int .i64 x21.1.2.2.2.2.2.2.2.2]) hF rfl rfl) rfl rfl (fun a hF => ?_)
     refine pt_t (R := []) hF rfl rfl (yC fun M Z hN hZ => y_extract (v := Value.int .i64 x21.2) hF rfl rfl) rfl rfl (fun a hF => ?_)
     refine pt_f1 rfl ?_
     refine l_store (vs := [.int .i64 x21.1.1, .int .i64 x21.1.2.1, .bool x21.1.2.2.1, .int .i64 x21.1.2.2.2.1, .int .i64 x21.1.2.2.2.2.1, .int .i64 x21.1.2.2.2.2.2.1, .bool x21.1.2.2.2.2.2.2.1, .bool x21.1.2.2.2.2.2.2.2.1, .int .i64 x21.1.2.2.2.2.2.2.2.2]) (M' := [(b3, [.int .i64 x21.1.1, .int .i64 x21.1.2.1, .bool x21.1.2.2.1, .int .i64 x21.1.2.2.2.1, .int .i64 x21.1.2.2.2.2.1, .int .i64 x21.1.2.2.2.2.2.1, .bool x21.1.2.2.2.2.2.2.1, .bool x21.1.2.2.2.2.2.2.2.1, .int .i64 x21.1.2.2.2.2.2.2.2.2]), (b2, [.int .i64 x11, .int .i64 x12, .bool x13, .int .i64 x14, .int .i64 x15, .int .i64 x16, .bool x17, .bool x18, .int .i64 x19]), (b1, [.int .i64 0, .int .i64 0, .bool false, .int .i64 0, .int .i64 0, .int .i64 0, .bool false, .bool false, .int .i64 0])]) 0 hF hW rfl rfl rfl T27 rfl rfl rfl rfl rfl (fun w hW => ?_)
     refine pt_next (N2 := []) (NZ2 := []) (N3 := [(some 5, b2, [.int .i64 x11, .int .i64 x12, .bool x13, .int .i64 x14, .int .i64 x15, .int .i64 x16, .bool x17, .bool x18, .int .i64 x19])]) (NZ3 := []) hW rfl rfl (all_cons (fun h => rel_dead (by kernel_rfl) h) all_nil) all_nil ?_
     refine pt_f1 rfl ?_
     refine ls hF hW rfl ((y_assign hF rfl).q) (fun a w hF hW => ?_)
     refine pt_next (N2 := []) (NZ2 := []) (N3 := [(some 5, b2, [.int .i64 x11, .int .i64 x12, .bool x13, .int .i64 x14, .int .i64 x15, .int .i64 x16, .bool x17, .bool x18, .int .i64 x19])]) (NZ3 := []) hW rfl rfl (all_cons (fun h => rel_dead (by kernel_rfl) h) all_nil) all_nil ?_
     have hW := hW.frontM (i := 2) rfl rfl
     have hW := hW.frontM (i := 2) rfl rfl
     have hW := hW.frontM (i := 2) rfl rfl
     refine pt_end ?_
     exact ⟨b3, hF.re ⟨rfl, rfl, rfl, rfl, rfl, rfl, rfl, rfl, rfl, rfl, rfl, rfl, rfl, rfl, rfl, rfl, rfl, rfl, rfl, rfl, rfl, trivial⟩, hW⟩
    exact trivial
   rintro a w ⟨b3, hF, hW⟩
   refine c_then ?_
   refine c_seq ?_
   refine c_seq (reg_list ?_)
   refine ls hF hW rfl ((y_move hF rfl).q) (fun a w hF hW => ?_)
   refine ls hF hW rfl ((y_neq hF rfl rfl).q) (fun a w hF hW => ?_)
   refine ls_nil (c_then ?_)
   refine c_cond hF rfl (fun hb => ?_) (fun hb => ?_)
   ·
    have H := iteT (of_decide_eq_true hb) H
    rw [hb] at hF
    clear hb
    refine c_seq (reg_list ?_)
    refine ls hF hW rfl ((y_load (v := Value.agg #[.int .i64 x11, .int .i64 x12, .bool x13, .int .i64 x14, .int .i64 x15, .int .i64 x16, .bool x17, .bool x18, .int .i64 x19]) 1 hF rfl rfl T27 rfl).q) (fun a w hF hW => ?_)
    iterate 2 refine ls hF hW rfl ((y_move hF rfl).q) (fun a w hF hW => ?_)
    refine l_store (vs := [.int .i64 x11, .int .i64 x12, .bool x13, .int .i64 x14, .int .i64 x15, .int .i64 x16, .bool x17, .bool x18, .int .i64 x19]) (M' := [(b3, [.int .i64 x21.1.1, .int .i64 x21.1.2.1, .bool x21.1.2.2.1, .int .i64 x21.1.2.2.2.1, .int .i64 x21.1.2.2.2.2.1, .int .i64 x21.1.2.2.2.2.2.1, .bool x21.1.2.2.2.2.2.2.1, .bool x21.1.2.2.2.2.2.2.2.1, .int .i64 x21.1.2.2.2.2.2.2.2.2]), (b2, [.int .i64 x11, .int .i64 x12, .bool x13, .int .i64 x14, .int .i64 x15, .int .i64 x16, .bool x17, .bool x18, .int .i64 x19]), (b1, [.int .i64 x11, .int .i64 x12, .bool x13, .int .i64 x14, .int .i64 x15, .int .i64 x16, .bool x17, .bool x18, .int .i64 x19])]) 2 hF hW rfl rfl rfl T27 rfl rfl rfl rfl rfl (fun w hW => ?_)
    iterate 2 refine ls hF hW rfl ((y_assign hF rfl).q) (fun a w hF hW => ?_)
    refine ls_nil (c_then ?_)
    refine wr_ret ?_
    refine r_then ?_
    refine r_block ?_
    iterate 2 refine r_then ?_
    refine r_block ?_
    refine r_then ?_
    have H := L2 _ H
    have H := L1 _ H
    have H := Option.some.inj H
    subst H
    refine post3 (.inl rfl) hF hW rfl (rv_cell 2 hF rfl rfl T27 rfl) (rv_tmp hF rfl) (rv_tmp hF rfl) ?_
    exact ⟨rfl, hW.done⟩
   ·
    have H := iteF (of_decide_eq_false hb) H
    rw [hb] at hF
    clear hb
    refine wr_skip ?_
    refine c_then ?_
    refine reg_list ?_
    refine ls hF hW rfl ((y_load (v := Value.agg #[.int .i64 x21.1.1, .int .i64 x21.1.2.1, .bool x21.1.2.2.1, .int .i64 x21.1.2.2.2.1, .int .i64 x21.1.2.2.2.2.1, .int .i64 x21.1.2.2.2.2.2.1, .bool x21.1.2.2.2.2.2.2.1, .bool x21.1.2.2.2.2.2.2.2.1, .int .i64 x21.1.2.2.2.2.2.2.2.2]) 0 hF rfl rfl T27 rfl).q) (fun a w hF hW => ?_)
    refine l_store (vs := [.int .i64 x21.1.1, .int .i64 x21.1.2.1, .bool x21.1.2.2.1, .int .i64 x21.1.2.2.2.1, .int .i64 x21.1.2.2.2.2.1, .int .i64 x21.1.2.2.2.2.2.1, .bool x21.1.2.2.2.2.2.2.1, .bool x21.1.2.2.2.2.2.2.2.1, .int .i64 x21.1.2.2.2.2.2.2.2.2]) (M' := [(b3, [.int .i64 x21.1.1, .int .i64 x21.1.2.1, .bool x21.1.2.2.1, .int .i64 x21.1.2.2.2.1, .int .i64 x21.1.2.2.2.2.1, .int .i64 x21.1.2.2.2.2.2.1, .bool x21.1.2.2.2.2.2.2.1, .bool x21.1.2.2.2.2.2.2.2.1, .int .i64 x21.1.2.2.2.2.2.2.2.2]), (b2, [.int .i64 x21.1.1, .int .i64 x21.1.2.1, .bool x21.1.2.2.1, .int .i64 x21.1.2.2.2.1, .int .i64 x21.1.2.2.2.2.1, .int .i64 x21.1.2.2.2.2.2.1, .bool x21.1.2.2.2.2.2.2.1, .bool x21.1.2.2.2.2.2.2.2.1, .int .i64 x21.1.2.2.2.2.2.2.2.2]), (b1, [.int .i64 0, .int .i64 0, .bool false, .int .i64 0, .int .i64 0, .int .i64 0, .bool false, .bool false, .int .i64 0])]) 1 hF hW rfl rfl rfl T27 rfl rfl rfl rfl rfl (fun w hW => ?_)
    refine ls_nil ?_
    refine b_normal ?_
    refine c_then ?_
    refine reg_list ?_
    refine ls hF hW rfl ((y_move hF rfl).q) (fun a w hF hW => ?_)
    refine ls hF hW rfl ((y_add hF rfl rfl rfl).q) (fun a w hF hW => ?_)
    refine ls hF hW rfl ((y_assign hF rfl).q) (fun a w hF hW => ?_)
    refine ls_nil (c_then ?_)
    have hW := hW.frontM (i := 2) rfl rfl
    have hW := hW.frontM (i := 2) rfl rfl
    have hW := hW.sub (M' := [(b2, [.int .i64 x21.1.1, .int .i64 x21.1.2.1, .bool x21.1.2.2.1, .int .i64 x21.1.2.2.2.1, .int .i64 x21.1.2.2.2.2.1, .int .i64 x21.1.2.2.2.2.2.1, .bool x21.1.2.2.2.2.2.2.1, .bool x21.1.2.2.2.2.2.2.2.1, .int .i64 x21.1.2.2.2.2.2.2.2.2]), (b1, [.int .i64 0, .int .i64 0, .bool false, .int .i64 0, .int .i64 0, .int .i64 0, .bool false, .bool false, .int .i64 0])]) (Z' := []) (List.Sublist.cons_cons _ (List.Sublist.cons_cons _ (List.nil_sublist _))) (List.Sublist.refl _)
    exact ⟨_, H, hF.re ⟨rfl, rfl, rfl, rfl, rfl, rfl, trivial⟩, hW⟩
  ·
   have H := iteF (of_decide_eq_false hb) H
   rw [hb] at hF
   clear hb
   refine wr_exit ?_
   iterate 2 refine e_then ?_
   refine e_block ?_
   refine c_then ?_
   have hW := hW.frontM (i := 1) rfl rfl
   have hW := hW.frontM (i := 1) rfl rfl
   have H := L2 _ H
   exact ⟨_, _, _, _, _, _, _, _, _, H, hF.re ⟨rfl, rfl, rfl, rfl, rfl, trivial⟩, hW⟩
 rintro a w ⟨x1, x2, x3, x4, x5, x6, x7, x8, x9, hj, hF, hW⟩
 have H := K1 _ hj
 clear hj G1 K1 L1
 refine c_seq (reg_list ?_)
 refine ls hF hW rfl ((y_load (v := Value.agg #[.int .i64 x1, .int .i64 x2, .bool x3, .int .i64 x4, .int .i64 x5, .int .i64 x6, .bool x7, .bool x8, .int .i64 x9]) 0 hF rfl rfl T27 rfl).q) (fun a w hF hW => ?_)
 refine ls hF hW rfl ((y_move hF rfl).q) (fun a w hF hW => ?_)
 refine ls hF hW rfl ((y_len (r := R37) (l := p0) u22_ rfl hF rfl (rdc_ro h_v1)).q) (fun a w hF hW => ?_)
 refine l_store (vs := [.int .i64 x1, .int .i64 x2, .bool x3, .int .i64 x4, .int .i64 x5, .int .i64 x6, .bool x7, .bool x8, .int .i64 x9]) (M' := [(b2, [.int .i64 x1, .int .i64 x2, .bool x3, .int .i64 x4, .int .i64 x5, .int .i64 x6, .bool x7, .bool x8, .int .i64 x9]), (b1, [.int .i64 x1, .int .i64 x2, .bool x3, .int .i64 x4, .int .i64 x5, .int .i64 x6, .bool x7, .bool x8, .int .i64 x9])]) 1 hF hW rfl rfl rfl T27 rfl rfl rfl rfl rfl (fun w hW => ?_)
 iterate 2 refine ls hF hW rfl ((y_assign hF rfl).q) (fun a w hF hW => ?_)
 refine ls_nil (c_then ?_)
 refine wr_ret ?_
 have H := Option.some.inj H
 subst H
 refine post3 (.inl rfl) hF hW rfl (rv_cell 1 hF rfl rfl T27 rfl) (rv_tmp hF rfl) (rv_tmp hF rfl) ?_
 exact ⟨rfl, hW.done⟩

theorem H12 : Has Tryd.prog 12 := ⟨fun args w => run_callFunc_body Tryd.func12 rfl (by decide) args w⟩
noncomputable def r36_Count_l1 (p0 : List (Int × Int × Int × Int)) (p1 : Int) (p2 : Int) : (Int × Int) → Option ((Int × Int) ⊕ Int)
  | (x2, x3) => (if x3 < (p0.length : Int) then (((ix p0 x3).bind fun x6 => (if x6.2.1 = p1 then (ix p0 x3).bind fun x7 => some (decide (x7.1 = p2)) else some false)).bind fun x5 => (if x5 = true then some (w64 (x2 + 1)) else some x2)).bind fun x4 => some (.inl (x4, w64 (x3 + 1))) else some (.inr x2))
noncomputable def r36_Count (p0 : List (Int × Int × Int × Int)) (p1 : Int) (p2 : Int) : Option Int := (loopW (r36_Count_l1 p0 p1 p2) (0, 0)).bind fun x1 => some x1
theorem r36_Count_c (Y : Nat → Prop) (w0 : World) (v1 : Value) (p0 : List (Int × Int × Int × Int)) (p1 : Int) (p2 : Int) (r : Int) (H : r36_Count p0 p1 p2 = some r) (h_v1 : Sl w0 (NX []) R37 v1 p0) :
    Calls Tryd.prog 15 #[v1, .int .i64 p1, .int .i64 p2] w0 fun e w' => e = .returned (.int .i64 r) ∧ Below w0.heap.size w0 w' := by
 refine enter Tryd.func15 rfl Tryd.ntmps15 rfl (fun a hF => ?_)
 have hW := Stw.start Y w0
 unfold r36_Count at H
 refine c_seq (reg_list ?_)
 refine ls hF hW rfl ((y_assign hF rfl).q) (fun a w hF hW => ?_)
 refine ls_nil (c_then ?_)
 refine c_seq (reg_list ?_)
 refine ls hF hW rfl ((y_assign hF rfl).q) (fun a w hF hW => ?_)
 refine ls_nil (c_then ?_)
 obtain ⟨o1, G1, K1⟩ := bindE H
 refine c_seqJ (fun a w => ∃ x1 : Int, some (x1) = some o1 ∧ Fr 34 [] [(6, .int .i64 0), (7, .int .i64 x1)] a ∧ Stw ⟨Y, [], w0⟩ [] [] w) ?_ ?_
 ·
  have H := G1
  clear G1 K1
  refine c_seq (reg_list ?_)
  refine ls hF hW rfl ((y_assign hF rfl).q) (fun a w hF hW => ?_)
  refine ls_nil (c_then ?_)
  refine wr_block ?_
  refine c_loopW H (fun s a w => Fr 34 [] [(0, v1), (1, .int .i64 p1), (2, .int .i64 p2), (6, .int .i64 0), (7, .int .i64 s.1), (8, .int .i64 s.2)] a ∧ Stw ⟨Y, [], w0⟩ [] [] w) ⟨hF.re ⟨rfl, rfl, rfl, rfl, rfl, rfl, trivial⟩, hW⟩ (fun s o a w H L2 hR => ?_)
  obtain ⟨x2, x3⟩ := s
  obtain ⟨hF, hW⟩ := hR
  have hF : Fr 34 [] [(0, v1), (1, .int .i64 p1), (2, .int .i64 p2), (6, .int .i64 0), (7, .int .i64 x2), (8, .int .i64 x3)] a := hF
  have hW : Stw ⟨Y, [], w0⟩ [] [] w := hW
  rw [r36_Count_l1] at H
  refine c_seq ?_
  refine c_seq (reg_list ?_)
  iterate 2 refine ls hF hW rfl ((y_move hF rfl).q) (fun a w hF hW => ?_)
  refine ls hF hW rfl ((y_len (r := R37) (l := p0) u22_ rfl hF rfl (rdc_ro h_v1)).q) (fun a w hF hW => ?_)
  refine ls hF hW rfl ((y_lss hF rfl rfl).q) (fun a w hF hW => ?_)
  refine ls_nil (c_then ?_)
  refine c_cond hF rfl (fun hb => ?_) (fun hb => ?_)
  ·
   have H := iteT (of_decide_eq_true hb) H
   rw [hb] at hF
   clear hb
   refine wr_skip ?_
   refine c_then ?_
   obtain ⟨o3, G3, K3⟩ := bindE H
   refine c_seqJ (fun a w => ∃ x4 : Int, some (x4) = some o3 ∧ Fr 34 [] [(0, v1), (1, .int .i64 p1), (2, .int .i64 p2), (6, .int .i64 0), (7, .int .i64 x4), (8, .int .i64 x3)] a ∧ Stw ⟨Y, [], w0⟩ [] [] w) ?_ ?_
   ·
    have H := G3
    clear G3 K3
    refine wr_block ?_
    obtain ⟨o4, G4, K4⟩ := bindE H
    refine c_seqJ (fun a w => ∃ x5 : Bool, some (x5) = some o4 ∧ Fr 34 [] [(0, v1), (1, .int .i64 p1), (2, .int .i64 p2), (6, .int .i64 0), (7, .int .i64 x2), (8, .int .i64 x3), (30, .bool x5)] a ∧ Stw ⟨Y, [], w0⟩ [] [] w) ?_ ?_
    ·
     have H := G4
     clear G4 K4
     refine reg_list ?_
     iterate 2 refine ls hF hW rfl ((y_move hF rfl).q) (fun a w hF hW => ?_)
     obtain ⟨x6, h1, H⟩ := bindE H
     refine ls hF hW rfl ((y_index (r := R37) L22 hF rfl rfl (rdc_ro h_v1) h1).q) (fun a w hF hW => ?_)
     refine ls hF hW rfl ((y_fieldAddr u37_ rfl rfl rfl T3 hF rfl (voff v1 + (x3).toNat * 4 + 1) rfl).q) (fun a w hF hW => ?_)
     refine ls hF hW rfl ((y_load_el (y := Value.int .i64 x6.2.1) (j := 1) (i := x3) hF rfl rfl (rdc_ro h_v1) h1 F37.to T3 rfl).q) (fun a w hF hW => ?_)
     refine ls hF hW rfl ((y_move hF rfl).q) (fun a w hF hW => ?_)
     refine ls hF hW rfl ((y_eql hF rfl rfl).q) (fun a w hF hW => ?_)
     refine ls hF hW rfl ((y_move hF rfl).q) (fun a w hF hW => ?_)
     rcases Bool.eq_false_or_eq_true (decide (x6.2.1 = p1)) with hb | hb
     ·
      have H := iteT (of_decide_eq_true hb) H
      rw [hb] at hF
      clear hb
      iterate 2 refine ls_w hF hW (wanted_y hF rfl rfl rfl rfl) rfl (Nat.le_of_ble_eq_true rfl) ((y_move hF rfl).q) (fun a w hF hW => ?_)
      obtain ⟨x7, h2, H⟩ := bindE H
      refine ls_w hF hW (wanted_y hF rfl rfl rfl rfl) rfl (Nat.le_of_ble_eq_true rfl) ((y_index (r := R37) L22 hF rfl rfl (rdc_ro h_v1) h2).q) (fun a w hF hW => ?_)
      refine ls_w hF hW (wanted_y hF rfl rfl rfl rfl) rfl (Nat.le_of_ble_eq_true rfl) ((y_fieldAddr u37_ rfl rfl rfl T3 hF rfl (voff v1 + (x3).toNat * 4) rfl).q) (fun a w hF hW => ?_)
      refine ls_w hF hW (wanted_y hF rfl rfl rfl rfl) rfl (Nat.le_of_ble_eq_true rfl) ((y_load_el (y := Value.int .i64 x7.1) (j := 0) (i := x3) hF rfl rfl (rdc_ro h_v1) h2 F37.to T3 rfl).q) (fun a w hF hW => ?_)
      refine ls_w hF hW (wanted_y hF rfl rfl rfl rfl) rfl (Nat.le_of_ble_eq_true rfl) ((y_move hF rfl).q) (fun a w hF hW => ?_)
      refine ls_w hF hW (wanted_y hF rfl rfl rfl rfl) rfl (Nat.le_of_ble_eq_true rfl) ((y_eql hF rfl rfl).q) (fun a w hF hW => ?_)
      refine ls hF hW rfl ((y_pick_t hF rfl rfl rfl).q) (fun a w hF hW => ?_)
      refine ls_nil (c_then ?_)
      exact ⟨_, H, hF.re ⟨rfl, rfl, rfl, rfl, rfl, rfl, rfl, trivial⟩, hW⟩
     ·
      have H := iteF (of_decide_eq_false hb) H
      rw [hb] at hF
      clear hb
      iterate 7 refine lsn hF rfl rfl rfl rfl rfl rfl rfl (fun a hF => ?_)
      refine ls hF hW rfl ((y_pick_f hF rfl rfl rfl).q) (fun a w hF hW => ?_)
      refine ls_nil (c_then ?_)
      exact ⟨_, H, hF.re ⟨rfl, rfl, rfl, rfl, rfl, rfl, rfl, trivial⟩, hW⟩
    rintro a w ⟨x5, hj, hF, hW⟩
    have hj := Option.some.inj hj
    subst hj
    have H := K4
    clear G4 K4
    refine c_cond hF rfl (fun hb => ?_) (fun hb => ?_)
    ·
     have H := iteT hb H
     rw [hb] at hF
     clear hb
     refine reg_list ?_
     refine ls hF hW rfl ((y_move hF rfl).q) (fun a w hF hW => ?_)
     refine ls hF hW rfl ((y_add hF rfl rfl rfl).q) (fun a w hF hW => ?_)
     refine ls hF hW rfl ((y_assign hF rfl).q) (fun a w hF hW => ?_)
     refine ls_nil ?_
     refine b_normal ?_
     refine c_then ?_
     exact ⟨_, H, hF.re ⟨rfl, rfl, rfl, rfl, rfl, rfl, trivial⟩, hW⟩
    ·
     have H := iteF (by rw [hb]; decide) H
     rw [hb] at hF
     clear hb
     refine wr_skip ?_
     refine b_normal ?_
     refine c_then ?_
     exact ⟨_, H, hF.re ⟨rfl, rfl, rfl, rfl, rfl, rfl, trivial⟩, hW⟩
   rintro a w ⟨x4, hj, hF, hW⟩
   have hj := Option.some.inj hj
   subst hj
   have H := K3
   clear G3 K3
   refine reg_list ?_
   refine ls hF hW rfl ((y_move hF rfl).q) (fun a w hF hW => ?_)
   refine ls hF hW rfl ((y_add hF rfl rfl rfl).q) (fun a w hF hW => ?_)
   refine ls hF hW rfl ((y_assign hF rfl).q) (fun a w hF hW => ?_)
   refine ls_nil (c_then ?_)
   exact ⟨_, H, hF.re ⟨rfl, rfl, rfl, rfl, rfl, rfl, trivial⟩, hW⟩
  ·
   have H := iteF (of_decide_eq_false hb) H
   rw [hb] at hF
   clear hb
   refine wr_exit ?_
   iterate 2 refine e_then ?_
   refine e_block ?_
   refine c_then ?_
   have H := L2 _ H
   exact ⟨_, H, hF.re ⟨rfl, rfl, trivial⟩, hW⟩
 rintro a w ⟨x1, hj, hF, hW⟩
 have hj := Option.some.inj hj
 subst hj
 have H := K1
 clear G1 K1
 refine c_seq (reg_list ?_)
 refine ls hF hW rfl ((y_move hF rfl).q) (fun a w hF hW => ?_)
 refine ls hF hW rfl ((y_assign hF rfl).q) (fun a w hF hW => ?_)
 refine ls_nil (c_then ?_)
 refine wr_ret ?_
 have H := Option.some.inj H
 subst H
 refine post1 (.inl rfl) hF hW rfl (rv_tmp hF rfl) ?_
 exact ⟨rfl, hW.done⟩

theorem H15 : Has Tryd.prog 15 := ⟨fun args w => run_callFunc_body Tryd.func15 rfl (by decide) args w⟩
noncomputable def r36_Fate (p0 : List (Int × Int × Int × Int)) (p1 : Int) : Option Int := (r36_Count p0 p1 1).bind fun x1 => (if x1 = 0 then some 0 else (r36_Count p0 p1 5).bind fun x2 => (if 0 < x2 then some 2 else (r36_Count p0 p1 6).bind fun x3 => (if 0 < x3 then some 3 else some 1)))
theorem r36_Fate_c (Y : Nat → Prop) (w0 : World) (v1 : Value) (p0 : List (Int × Int × Int × Int)) (p1 : Int) (r : Int) (H : r36_Fate p0 p1 = some r) (h_v1 : Sl w0 (NX []) R37 v1 p0) :
    Calls Tryd.prog 14 #[v1, .int .i64 p1] w0 fun e w' => e = .returned (.int .i64 r) ∧ Below w0.heap.size w0 w' := by
 refine enter Tryd.func14 rfl Tryd.ntmps14 rfl (fun a hF => ?_)
 have hW := Stw.start Y w0
 unfold r36_Fate at H
 refine c_seq (reg_list ?_)
 refine ls hF hW rfl ((y_assign hF rfl).q) (fun a w hF hW => ?_)
 refine ls_nil (c_then ?_)
 refine c_seq ?_
 refine c_seq (reg_list ?_)
 iterate 2 refine ls hF hW rfl ((y_move hF rfl).q) (fun a w hF hW => ?_)
 obtain ⟨x1, h1, H⟩ := bindE H
 refine ls hF hW rfl (y_call (v := Value.int .i64 x1) hF H15 rfl (fun w hW => r36_Count_c any w (v1) p0 p1 1 _ h1 (((rdc_ro h_v1) : Rdc _ _ _ _ _ _) w hW).nx)) (fun a w hF hW => ?_)
 refine ls hF hW rfl ((y_eql hF rfl rfl).q) (fun a w hF hW => ?_)
 refine ls_nil (c_then ?_)
 refine c_cond hF rfl (fun hb => ?_) (fun hb => ?_)
 ·
  have H := iteT (of_decide_eq_true hb) H
  rw [hb] at hF
  clear hb
  refine c_seq (reg_list ?_)
  refine ls hF hW rfl ((y_assign hF rfl).q) (fun a w hF hW => ?_)
  refine ls_nil (c_then ?_)
  refine wr_ret ?_
  refine r_then ?_
  have H := Option.some.inj H
  subst H
  refine post1 (.inl rfl) hF hW rfl (rv_tmp hF rfl) ?_
  exact ⟨rfl, hW.done⟩
 ·
  have H := iteF (of_decide_eq_false hb) H
  rw [hb] at hF
  clear hb
  refine wr_skip ?_
  refine c_then ?_
  refine c_seq ?_
  refine c_seq (reg_list ?_)
  iterate 2 refine ls hF hW rfl ((y_move hF rfl).q) (fun a w hF hW => ?_)
  obtain ⟨x2, h2, H⟩ := bindE H
  refine ls hF hW rfl (y_call (v := Value.int .i64 x2) hF H15 rfl (fun w hW => r36_Count_c any w (v1) p0 p1 5 _ h2 (((rdc_ro h_v1) : Rdc _ _ _ _ _ _) w hW).nx)) (fun a w hF hW => ?_)
  refine ls hF hW rfl ((y_gtr hF rfl rfl).q) (fun a w hF hW => ?_)
  refine ls_nil (c_then ?_)
  refine c_cond hF rfl (fun hb => ?_) (fun hb => ?_)
  ·
   have H := iteT (of_decide_eq_true hb) H
   rw [hb] at hF
   clear hb
   refine c_seq (reg_list ?_)
   refine ls hF hW rfl ((y_assign hF rfl).q) (fun a w hF hW => ?_)
   refine ls_nil (c_then ?_)
   refine wr_ret ?_
   refine r_then ?_
   have H := Option.some.inj H
   subst H
   refine post1 (.inl rfl) hF hW rfl (rv_tmp hF rfl) ?_
   exact ⟨rfl, hW.done⟩
  ·
   have H := iteF (of_decide_eq_false hb) H
   rw [hb] at hF
   clear hb
   refine wr_skip ?_
   refine c_then ?_
   refine c_seq ?_
   refine c_seq (reg_list ?_)
   iterate 2 refine ls hF hW rfl ((y_move hF rfl).q) (fun a w hF hW => ?_)
   obtain ⟨x3, h3, H⟩ := bindE H
   refine ls hF hW rfl (y_call (v := Value.int .i64 x3) hF H15 rfl (fun w hW => r36_Count_c any w (v1) p0 p1 6 _ h3 (((rdc_ro h_v1) : Rdc _ _ _ _ _ _) w hW).nx)) (fun a w hF hW => ?_)
   refine ls hF hW rfl ((y_gtr hF rfl rfl).q) (fun a w hF hW => ?_)
   refine ls_nil (c_then ?_)
   refine c_cond hF rfl (fun hb => ?_) (fun hb => ?_)
   ·
    have H := iteT (of_decide_eq_true hb) H
    rw [hb] at hF
    clear hb
    refine c_seq (reg_list ?_)
    refine ls hF hW rfl ((y_assign hF rfl).q) (fun a w hF hW => ?_)
    refine ls_nil (c_then ?_)
    refine wr_ret ?_
    refine r_then ?_
    have H := Option.some.inj H
    subst H
    refine post1 (.inl rfl) hF hW rfl (rv_tmp hF rfl) ?_
    exact ⟨rfl, hW.done⟩
   ·
    have H := iteF (of_decide_eq_false hb) H
    rw [hb] at hF
    clear hb
    refine wr_skip ?_
    refine c_then ?_
    refine c_seq (reg_list ?_)
    refine ls hF hW rfl ((y_assign hF rfl).q) (fun a w hF hW => ?_)
    refine ls_nil (c_then ?_)
    refine wr_ret ?_
    have H := Option.some.inj H
    subst H
    refine post1 (.inl rfl) hF hW rfl (rv_tmp hF rfl) ?_
    exact ⟨rfl, hW.done⟩

end Go.Proofs.YtdllfdmdfdfilaaDoor
