/- The functions of layer 16, lifted. Conditions: none. -/
import Derived.Test.YtnlllglfmipllaaRows
import Derived.Test.YtnlllglfmipllaaA7
import Derived.Test.YtnlllglfmipllaaOC
namespace Go.Proofs.Ytnlllglfmipllaa
open Go Go.RowKit
set_option linter.unusedVariables false
set_option linter.unusedSimpArgs false
set_option maxRecDepth 20000
theorem H8 : Has Try.prog 8 := ⟨fun args w => run_callFunc_body Try.func8 rfl (by decide) args w⟩
theorem H6 : Has Try.prog 6 := ⟨fun args w => run_callFunc_body Try.func6 rfl (by decide) args w⟩
noncomputable def L16_ProtoBack (p0 : Int × Int × Int × Int × Int × Int × Int × Int × Int × (List (Int × (Int × (Int × (Int × Int × Int × Int) × (Int × Int × Int × Int)) × (List (Int × Int × Int))) × Bool))) (p1 : Int) : Option Bool := (r16_Right p0).bind fun x1 => (if (!x1) = true then (L16_awake).bind fun x2 => some x2 else (proto_Code p0).bind fun x3 => (if (x3.length : Int) = 0 then some false else (proto_Parse x3).bind fun x4 => (app x3 (strOf ([p1] : List Int))).bind fun x5 => (proto_Parse x5).bind fun x6 => (subl x3 0 (w64 ((x3.length : Int) - 1))).bind fun x7 => (proto_Parse x7).bind fun x8 => ((r16_Same x4.1 p0).bind fun x10 => (if x10 = true then (if x4.2 = 0 then (if x6.2 ≠ 0 then (if x8.2 ≠ 0 then (L16_awake).bind fun x11 => some x11 else some false) else some false) else some false) else some false)).bind fun x9 => some x9))
theorem L16_ProtoBack_c (Y : Nat → Prop) (w0 : World) (v1 : Value) (p0 : Int × Int × Int × Int × Int × Int × Int × Int × Int × (List (Int × (Int × (Int × (Int × Int × Int × Int) × (Int × Int × Int × Int)) × (List (Int × Int × Int))) × Bool))) (p1 : Int) (r : Bool) (H : L16_ProtoBack p0 p1 = some r) (h_v1 : Sl w0 (NX []) R42 v1 p0.2.2.2.2.2.2.2.2.2) :
    Calls Try.prog 4 #[.agg #[.int .i64 p0.1, .int .i64 p0.2.1, .int .i64 p0.2.2.1, .int .i64 p0.2.2.2.1, .int .i64 p0.2.2.2.2.1, .int .i64 p0.2.2.2.2.2.1, .int .i64 p0.2.2.2.2.2.2.1, .int .i64 p0.2.2.2.2.2.2.2.1, .int .i64 p0.2.2.2.2.2.2.2.2.1, v1], .int .u8 p1] w0 fun e w' => e = .returned (.bool r) ∧ Below w0.heap.size w0 w' := by
 refine enter Try.func4 rfl Try.ntmps4 rfl (fun a hF => ?_)
 have hW := Stw.start Y w0
 obtain ⟨v2, h1, h_v1⟩ := h_v1.ex EX42
 unfold L16_ProtoBack at H
 refine c_seq ?_
 refine reg_list ?_
 refine l_box (cs := [.int .i64 p0.1, .int .i64 p0.2.1, .int .i64 p0.2.2.1, .int .i64 p0.2.2.2.1, .int .i64 p0.2.2.2.2.1, .int .i64 p0.2.2.2.2.2.1, .int .i64 p0.2.2.2.2.2.2.1, .int .i64 p0.2.2.2.2.2.2.2.1, .int .i64 p0.2.2.2.2.2.2.2.2.1, v1]) hF hW rfl rfl rfl (fun b1 a w hF hW => ?_)
 refine ls hF hW rfl ((y_assign hF rfl).q) (fun a w hF hW => ?_)
 refine ls_nil ?_
 refine c_then ?_
 refine c_seq ?_
 refine c_seq ?_
 refine reg_list ?_
 refine ls hF hW rfl ((y_load (v := Value.agg #[.int .i64 p0.1, .int .i64 p0.2.1, .int .i64 p0.2.2.1, .int .i64 p0.2.2.2.1, .int .i64 p0.2.2.2.2.1, .int .i64 p0.2.2.2.2.2.1, .int .i64 p0.2.2.2.2.2.2.1, .int .i64 p0.2.2.2.2.2.2.2.1, .int .i64 p0.2.2.2.2.2.2.2.2.1, v1]) 0 hF rfl rfl T24 rfl).q) (fun a w hF hW => ?_)
 obtain ⟨x1, h2, H⟩ := bindE H
 refine ls hF hW rfl (y_call (v := Value.bool x1) hF H8 rfl (fun w hW => r16_Right_c any w (v1) p0 _ h2 ((rdc_hide EX42 h1 (rdc_ro h_v1)) w hW))) (fun a w hF hW => ?_)
 refine ls hF hW rfl ((y_not hF rfl).q) (fun a w hF hW => ?_)
 refine ls_nil ?_
 refine c_then ?_
 refine c_cond hF rfl (fun hb => ?_) (fun hb => ?_)
 ·
  have H := iteT hb H
  rw [hb] at hF
  clear hb
  refine c_seq ?_
  refine reg_list ?_
  obtain ⟨x2, h3, H⟩ := bindE H
  refine ls hF hW rfl (y_call (v := Value.bool x2) hF H6 rfl (fun w hW => L16_awake_c any w _ h3)) (fun a w hF hW => ?_)
  refine ls hF hW rfl ((y_assign hF rfl).q) (fun a w hF hW => ?_)
  refine ls_nil ?_
  refine c_then ?_
  refine wp_ret ?_
  refine r_then ?_
  have H := Option.some.inj H
  subst H
  refine post1 (.inl rfl) hF hW rfl (rv_tmp hF rfl) ?_
  exact ⟨rfl, hW.done⟩
 ·
  have H := iteF (by rw [hb]; decide) H
  rw [hb] at hF
  clear hb
  refine wp_skip ?_
  refine c_then ?_
  refine c_seq ?_
  refine reg_list ?_
  refine ls hF hW rfl ((y_load (v := Value.agg #[.int .i64 p0.1, .int .i64 p0.2.1, .int .i64 p0.2.2.1, .int .i64 p0.2.2.2.1, .int .i64 p0.2.2.2.2.1, .int .i64 p0.2.2.2.2.2.1, .int .i64 p0.2.2.2.2.2.2.1, .int .i64 p0.2.2.2.2.2.2.2.1, .int .i64 p0.2.2.2.2.2.2.2.2.1, v1]) 0 hF rfl rfl T24 rfl).q) (fun a w hF hW => ?_)
  obtain ⟨x3, h4, H⟩ := bindE H
  refine ls hF hW rfl (y_call (v := Value.string (bs x3)) hF H13 rfl (fun w hW => proto_Code_c any w (v1) p0 _ h4 (((rdc_hide EX42 h1 (rdc_ro h_v1)) : Rdc _ _ _ _ _ _) w hW).nx)) (fun a w hF hW => ?_)
  refine ls hF hW rfl ((y_assign hF rfl).q) (fun a w hF hW => ?_)
  refine ls_nil ?_
  refine c_then ?_
  refine c_seq ?_
  refine c_seq ?_
  refine reg_list ?_
  refine ls hF hW rfl ((y_move hF rfl).q) (fun a w hF hW => ?_)
  refine ls hF hW rfl ((y_slen (l := x3) u9_ rfl hF rfl).q) (fun a w hF hW => ?_)
  refine ls hF hW rfl ((y_eql hF rfl rfl).q) (fun a w hF hW => ?_)
  refine ls_nil ?_
  refine c_then ?_
  refine c_cond hF rfl (fun hb => ?_) (fun hb => ?_)
  ·
   have H := iteT (of_decide_eq_true hb) H
   rw [hb] at hF
   clear hb
   refine c_seq ?_
   refine reg_list ?_
   refine ls hF hW rfl ((y_assign hF rfl).q) (fun a w hF hW => ?_)
   refine ls_nil ?_
   refine c_then ?_
   refine wp_ret ?_
   refine r_then ?_
   have H := Option.some.inj H
   subst H
   refine post1 (.inl rfl) hF hW rfl (rv_tmp hF rfl) ?_
   exact ⟨rfl, hW.done⟩
  ·
   have H := iteF (of_decide_eq_false hb) H
   rw [hb] at hF
   clear hb
   refine wp_skip ?_
   refine c_then ?_
   refine c_seq ?_
   refine reg_list ?_
   refine ls hF hW rfl ((y_move hF rfl).q) (fun a w hF hW => ?_)
   obtain ⟨x4, h5, H⟩ := bindE H
   refine l_callG (Ml := []) (Zl := []) (M := [(b1, [.int .i64 p0.1, .int .i64 p0.2.1, .int .i64 p0.2.2.1, .int .i64 p0.2.2.2.1, .int .i64 p0.2.2.2.2.1, .int .i64 p0.2.2.2.2.2.1, .int .i64 p0.2.2.2.2.2.2.1, .int .i64 p0.2.2.2.2.2.2.2.1, .int .i64 p0.2.2.2.2.2.2.2.2.1, v1])]) (Z := []) (β := Value) (rv := fun x => .tuple #[.agg #[.int .i64 x4.1.1, .int .i64 x4.1.2.1, .int .i64 x4.1.2.2.1, .int .i64 x4.1.2.2.2.1, .int .i64 x4.1.2.2.2.2.1, .int .i64 x4.1.2.2.2.2.2.1, .int .i64 x4.1.2.2.2.2.2.2.1, .int .i64 x4.1.2.2.2.2.2.2.2.1, .int .i64 x4.1.2.2.2.2.2.2.2.2.1, x], .int .i64 x4.2]) (MM := fun x => []) (ZZ := fun x => [row x 42 R42 x4.1.2.2.2.2.2.2.2.2.2]) hF hW H15 rfl rfl (fun hL => proto_Parse_c _ w x3 _ h5) (fun x a w hF hW => ?_)
   obtain ⟨v3, rfl⟩ : ∃ y, y = x := ⟨x, rfl⟩
   have hW : Stw ⟨Y, [], w0⟩ [(b1, [.int .i64 p0.1, .int .i64 p0.2.1, .int .i64 p0.2.2.1, .int .i64 p0.2.2.2.1, .int .i64 p0.2.2.2.2.1, .int .i64 p0.2.2.2.2.2.1, .int .i64 p0.2.2.2.2.2.2.1, .int .i64 p0.2.2.2.2.2.2.2.1, .int .i64 p0.2.2.2.2.2.2.2.2.1, v1])] [row v3 42 R42 x4.1.2.2.2.2.2.2.2.2.2] w := hW
   refine ls hF hW rfl ((y_move hF rfl).q) (fun a w hF hW => ?_)
   refine ls hF hW rfl ((y_extract (v := Value.agg #[.int .i64 x4.1.1, .int .i64 x4.1.2.1, .int .i64 x4.1.2.2.1, .int .i64 x4.1.2.2.2.1, .int .i64 x4.1.2.2.2.2.1, .int .i64 x4.1.2.2.2.2.2.1, .int .i64 x4.1.2.2.2.2.2.2.1, .int .i64 x4.1.2.2.2.2.2.2.2.1, .int .i64 x4.1.2.2.2.2.2.2.2.2.1, v3]) hF rfl rfl).q) (fun a w hF hW => ?_)
   refine ls hF hW rfl ((y_extract (v := Value.int .i64 x4.2) hF rfl rfl).q) (fun a w hF hW => ?_)
   refine l_alloc (cs := [.int .i64 0, .int .i64 0, .int .i64 0, .int .i64 0, .int .i64 0, .int .i64 0, .int .i64 0, .int .i64 0, .int .i64 0, .slice none 0 0]) hF hW rfl Z24 rfl (fun b2 a w hF hW => ?_)
   refine l_store (vs := [.int .i64 x4.1.1, .int .i64 x4.1.2.1, .int .i64 x4.1.2.2.1, .int .i64 x4.1.2.2.2.1, .int .i64 x4.1.2.2.2.2.1, .int .i64 x4.1.2.2.2.2.2.1, .int .i64 x4.1.2.2.2.2.2.2.1, .int .i64 x4.1.2.2.2.2.2.2.2.1, .int .i64 x4.1.2.2.2.2.2.2.2.2.1, v3]) (M' := [(b2, [.int .i64 x4.1.1, .int .i64 x4.1.2.1, .int .i64 x4.1.2.2.1, .int .i64 x4.1.2.2.2.1, .int .i64 x4.1.2.2.2.2.1, .int .i64 x4.1.2.2.2.2.2.1, .int .i64 x4.1.2.2.2.2.2.2.1, .int .i64 x4.1.2.2.2.2.2.2.2.1, .int .i64 x4.1.2.2.2.2.2.2.2.2.1, v3]), (b1, [.int .i64 p0.1, .int .i64 p0.2.1, .int .i64 p0.2.2.1, .int .i64 p0.2.2.2.1, .int .i64 p0.2.2.2.2.1, .int .i64 p0.2.2.2.2.2.1, .int .i64 p0.2.2.2.2.2.2.1, .int .i64 p0.2.2.2.2.2.2.2.1, .int .i64 p0.2.2.2.2.2.2.2.2.1, v1])]) 0 hF hW rfl rfl rfl T24 rfl rfl rfl (one_cons rfl (one_cons rfl (one_cons rfl (one_cons rfl (one_cons rfl (one_cons rfl (one_cons rfl (one_cons rfl (one_cons rfl (one_cons (hW.one (k := 0) rfl) one_nil)))))))))) rfl (fun w hW => ?_)
   refine ls hF hW rfl ((y_assign hF rfl).q) (fun a w hF hW => ?_)
   refine ls_nil ?_
   refine c_then ?_
   refine c_seq ?_
   refine reg_list ?_
   refine ls hF hW rfl ((y_move hF rfl).q) (fun a w hF hW => ?_)
   refine ls hF hW rfl ((y_move hF rfl).q) (fun a w hF hW => ?_)
   refine l_lit (z := Value.int .u8 0) (cs := [.int .u8 p1]) (Rp.int .u8) ([p1] : List Int) hF hW rfl L33 Z5 rfl rfl rfl rfl rfl rfl (Fl.int.repL _ _ ([p1] : List Int)) (fun v4 a w hF hW => ?_)
   refine ls hF hW rfl ((y_convB (ns := ([p1] : List Int)) u33_ u5_ u9_ hF rfl (rdc_row 0 rfl)).q) (fun a w hF hW => ?_)
   obtain ⟨x5, h6, H⟩ := bindE H
   refine ls hF hW rfl ((y_sadd (l := x3) (m := strOf ([p1] : List Int)) hF rfl rfl h6).q) (fun a w hF hW => ?_)
   obtain ⟨x6, h7, H⟩ := bindE H
   refine l_callG (Ml := []) (Zl := []) (M := [(b2, [.int .i64 x4.1.1, .int .i64 x4.1.2.1, .int .i64 x4.1.2.2.1, .int .i64 x4.1.2.2.2.1, .int .i64 x4.1.2.2.2.2.1, .int .i64 x4.1.2.2.2.2.2.1, .int .i64 x4.1.2.2.2.2.2.2.1, .int .i64 x4.1.2.2.2.2.2.2.2.1, .int .i64 x4.1.2.2.2.2.2.2.2.2.1, v3]), (b1, [.int .i64 p0.1, .int .i64 p0.2.1, .int .i64 p0.2.2.1, .int .i64 p0.2.2.2.1, .int .i64 p0.2.2.2.2.1, .int .i64 p0.2.2.2.2.2.1, .int .i64 p0.2.2.2.2.2.2.1, .int .i64 p0.2.2.2.2.2.2.2.1, .int .i64 p0.2.2.2.2.2.2.2.2.1, v1])]) (Z := [row v4 5 (Rp.int .u8) ([p1] : List Int), row v3 42 R42 x4.1.2.2.2.2.2.2.2.2.2]) (β := Value) (rv := fun x => .tuple #[.agg #[.int .i64 x6.1.1, .int .i64 x6.1.2.1, .int .i64 x6.1.2.2.1, .int .i64 x6.1.2.2.2.1, .int .i64 x6.1.2.2.2.2.1, .int .i64 x6.1.2.2.2.2.2.1, .int .i64 x6.1.2.2.2.2.2.2.1, .int .i64 x6.1.2.2.2.2.2.2.2.1, .int .i64 x6.1.2.2.2.2.2.2.2.2.1, x], .int .i64 x6.2]) (MM := fun x => []) (ZZ := fun x => [row x 42 R42 x6.1.2.2.2.2.2.2.2.2.2]) hF hW H15 rfl rfl (fun hL => proto_Parse_c _ w x5 _ h7) (fun x a w hF hW => ?_)
   obtain ⟨v5, rfl⟩ : ∃ y, y = x := ⟨x, rfl⟩
   have hW : Stw ⟨Y, [], w0⟩ [(b2, [.int .i64 x4.1.1, .int .i64 x4.1.2.1, .int .i64 x4.1.2.2.1, .int .i64 x4.1.2.2.2.1, .int .i64 x4.1.2.2.2.2.1, .int .i64 x4.1.2.2.2.2.2.1, .int .i64 x4.1.2.2.2.2.2.2.1, .int .i64 x4.1.2.2.2.2.2.2.2.1, .int .i64 x4.1.2.2.2.2.2.2.2.2.1, v3]), (b1, [.int .i64 p0.1, .int .i64 p0.2.1, .int .i64 p0.2.2.1, .int .i64 p0.2.2.2.1, .int .i64 p0.2.2.2.2.1, .int .i64 p0.2.2.2.2.2.1, .int .i64 p0.2.2.2.2.2.2.1, .int .i64 p0.2.2.2.2.2.2.2.1, .int .i64 p0.2.2.2.2.2.2.2.2.1, v1])] [row v5 42 R42 x6.1.2.2.2.2.2.2.2.2.2, row v4 5 (Rp.int .u8) ([p1] : List Int), row v3 42 R42 x4.1.2.2.2.2.2.2.2.2.2] w := hW
   refine ls hF hW rfl ((y_move hF rfl).q) (fun a w hF hW => ?_)
   refine ls hF hW rfl ((y_extract (v := Value.agg #[.int .i64 x6.1.1, .int .i64 x6.1.2.1, .int .i64 x6.1.2.2.1, .int .i64 x6.1.2.2.2.1, .int .i64 x6.1.2.2.2.2.1, .int .i64 x6.1.2.2.2.2.2.1, .int .i64 x6.1.2.2.2.2.2.2.1, .int .i64 x6.1.2.2.2.2.2.2.2.1, .int .i64 x6.1.2.2.2.2.2.2.2.2.1, v5]) hF rfl rfl).q) (fun a w hF hW => ?_)
   refine ls hF hW rfl ((y_extract (v := Value.int .i64 x6.2) hF rfl rfl).q) (fun a w hF hW => ?_)
   refine l_alloc (cs := [.int .i64 0, .int .i64 0, .int .i64 0, .int .i64 0, .int .i64 0, .int .i64 0, .int .i64 0, .int .i64 0, .int .i64 0, .slice none 0 0]) hF hW rfl Z24 rfl (fun b3 a w hF hW => ?_)
   refine l_store (vs := [.int .i64 x6.1.1, .int .i64 x6.1.2.1, .int .i64 x6.1.2.2.1, .int .i64 x6.1.2.2.2.1, .int .i64 x6.1.2.2.2.2.1, .int .i64 x6.1.2.2.2.2.2.1, .int .i64 x6.1.2.2.2.2.2.2.1, .int .i64 x6.1.2.2.2.2.2.2.2.1, .int .i64 x6.1.2.2.2.2.2.2.2.2.1, v5]) (M' := [(b3, [.int .i64 x6.1.1, .int .i64 x6.1.2.1, .int .i64 x6.1.2.2.1, .int .i64 x6.1.2.2.2.1, .int .i64 x6.1.2.2.2.2.1, .int .i64 x6.1.2.2.2.2.2.1, .int .i64 x6.1.2.2.2.2.2.2.1, .int .i64 x6.1.2.2.2.2.2.2.2.1, .int .i64 x6.1.2.2.2.2.2.2.2.2.1, v5]), (b2, [.int .i64 x4.1.1, .int .i64 x4.1.2.1, .int .i64 x4.1.2.2.1, .int .i64 x4.1.2.2.2.1, .int .i64 x4.1.2.2.2.2.1, .int .i64 x4.1.2.2.2.2.2.1, .int .i64 x4.1.2.2.2.2.2.2.1, .int .i64 x4.1.2.2.2.2.2.2.2.1, .int .i64 x4.1.2.2.2.2.2.2.2.2.1, v3]), (b1, [.int .i64 p0.1, .int .i64 p0.2.1, .int .i64 p0.2.2.1, .int .i64 p0.2.2.2.1, .int .i64 p0.2.2.2.2.1, .int .i64 p0.2.2.2.2.2.1, .int .i64 p0.2.2.2.2.2.2.1, .int .i64 p0.2.2.2.2.2.2.2.1, .int .i64 p0.2.2.2.2.2.2.2.2.1, v1])]) 0 hF hW rfl rfl rfl T24 rfl rfl rfl (one_cons rfl (one_cons rfl (one_cons rfl (one_cons rfl (one_cons rfl (one_cons rfl (one_cons rfl (one_cons rfl (one_cons rfl (one_cons (hW.one (k := 0) rfl) one_nil)))))))))) rfl (fun w hW => ?_)
   refine ls hF hW rfl ((y_assign hF rfl).q) (fun a w hF hW => ?_)
   refine ls_nil ?_
   refine c_then ?_
   refine c_seq ?_
   refine reg_list ?_
   refine ls hF hW rfl ((y_move hF rfl).q) (fun a w hF hW => ?_)
   refine ls hF hW rfl ((y_move hF rfl).q) (fun a w hF hW => ?_)
   refine ls hF hW rfl ((y_slen (l := x3) u9_ rfl hF rfl).q) (fun a w hF hW => ?_)
   refine ls hF hW rfl ((y_sub hF rfl rfl rfl).q) (fun a w hF hW => ?_)
   obtain ⟨x7, h8, H⟩ := bindE H
   refine ls hF hW rfl ((y_sslice (l := x3) u9_ hF rfl rfl rfl h8).q) (fun a w hF hW => ?_)
   obtain ⟨x8, h9, H⟩ := bindE H
   refine l_callG (Ml := []) (Zl := []) (M := [(b3, [.int .i64 x6.1.1, .int .i64 x6.1.2.1, .int .i64 x6.1.2.2.1, .int .i64 x6.1.2.2.2.1, .int .i64 x6.1.2.2.2.2.1, .int .i64 x6.1.2.2.2.2.2.1, .int .i64 x6.1.2.2.2.2.2.2.1, .int .i64 x6.1.2.2.2.2.2.2.2.1, .int .i64 x6.1.2.2.2.2.2.2.2.2.1, v5]), (b2, [.int .i64 x4.1.1, .int .i64 x4.1.2.1, .int .i64 x4.1.2.2.1, .int .i64 x4.1.2.2.2.1, .int .i64 x4.1.2.2.2.2.1, .int .i64 x4.1.2.2.2.2.2.1, .int .i64 x4.1.2.2.2.2.2.2.1, .int .i64 x4.1.2.2.2.2.2.2.2.1, .int .i64 x4.1.2.2.2.2.2.2.2.2.1, v3]), (b1, [.int .i64 p0.1, .int .i64 p0.2.1, .int .i64 p0.2.2.1, .int .i64 p0.2.2.2.1, .int .i64 p0.2.2.2.2.1, .int .i64 p0.2.2.2.2.2.1, .int .i64 p0.2.2.2.2.2.2.1, .int .i64 p0.2.2.2.2.2.2.2.1, .int .i64 p0.2.2.2.2.2.2.2.2.1, v1])]) (Z := [row v5 42 R42 x6.1.2.2.2.2.2.2.2.2.2, row v4 5 (Rp.int .u8) ([p1] : List Int), row v3 42 R42 x4.1.2.2.2.2.2.2.2.2.2]) (β := Value) (rv := fun x => .tuple #[.agg #[.int .i64 x8.1.1, .int .i64 x8.1.2.1, .int .i64 x8.1.2.2.1, .int .i64 x8.1.2.2.2.1, .int .i64 x8.1.2.2.2.2.1, .int .i64 x8.1.2.2.2.2.2.1, .int .i64 x8.1.2.2.2.2.2.2.1, .int .i64 x8.1.2.2.2.2.2.2.2.1, .int .i64 x8.1.2.2.2.2.2.2.2.2.1, x], .int .i64 x8.2]) (MM := fun x => []) (ZZ := fun x => [row x 42 R42 x8.1.2.2.2.2.2.2.2.2.2]) hF hW H15 rfl rfl (fun hL => proto_Parse_c _ w x7 _ h9) (fun x a w hF hW => ?_)
   obtain ⟨v6, rfl⟩ : ∃ y, y = x := ⟨x, rfl⟩
   have hW : Stw ⟨Y, [], w0⟩ [(b3, [.int .i64 x6.1.1, .int .i64 x6.1.2.1, .int .i64 x6.1.2.2.1, .int .i64 x6.1.2.2.2.1, .int .i64 x6.1.2.2.2.2.1, .int .i64 x6.1.2.2.2.2.2.1, .int .i64 x6.1.2.2.2.2.2.2.1, .int .i64 x6.1.2.2.2.2.2.2.2.1, .int .i64 x6.1.2.2.2.2.2.2.2.2.1, v5]), (b2, [.int .i64 x4.1.1, .int .i64 x4.1.2.1, .int .i64 x4.1.2.2.1, .int .i64 x4.1.2.2.2.1, .int .i64 x4.1.2.2.2.2.1, .int .i64 x4.1.2.2.2.2.2.1, .int .i64 x4.1.2.2.2.2.2.2.1, .int .i64 x4.1.2.2.2.2.2.2.2.1, .int .i64 x4.1.2.2.2.2.2.2.2.2.1, v3]), (b1, [.int .i64 p0.1, .int .i64 p0.2.1, .int .i64 p0.2.2.1, .int .i64 p0.2.2.2.1, .int .i64 p0.2.2.2.2.1, .int .i64 p0.2.2.2.2.2.1, .int .i64 p0.2.2.2.2.2.2.1, .int .i64 p0.2.2.2.2.2.2.2.1, .int .i64 p0.2.2.2.2.2.2.2.2.1, v1])] [row v6 42 R42 x8.1.2.2.2.2.2.2.2.2.2, row v5 42 R42 x6.1.2.2.2.2.2.2.2.2.2, row v4 5 (Rp.int .u8) ([p1] : List Int), row v3 42 R42 x4.1.2.2.2.2.2.2.2.2.2] w := hW
   refine ls hF hW rfl ((y_move hF rfl).q) (fun a w hF hW => ?_)
   refine ls hF hW rfl ((y_extract (v := Value.agg #[.int .i64 x8.1.1, .int .i64 x8.1.2.1, .int .i64 x8.1.2.2.1, .int .i64 x8.1.2.2.2.1, .int .i64 x8.1.2.2.2.2.1, .int .i64 x8.1.2.2.2.2.2.1, .int .i64 x8.1.2.2.2.2.2.2.1, .int .i64 x8.1.2.2.2.2.2.2.2.1, .int .i64 x8.1.2.2.2.2.2.2.2.2.1, v6]) hF rfl rfl).q) (fun a w hF hW => ?_)
   refine ls hF hW rfl ((y_extract (v := Value.int .i64 x8.2) hF rfl rfl).q) (fun a w hF hW => ?_)
   refine l_alloc (cs := [.int .i64 0, .int .i64 0, .int .i64 0, .int .i64 0, .int .i64 0, .int .i64 0, .int .i64 0, .int .i64 0, .int .i64 0, .slice none 0 0]) hF hW rfl Z24 rfl (fun b4 a w hF hW => ?_)
   refine l_store (vs := [.int .i64 x8.1.1, .int .i64 x8.1.2.1, .int .i64 x8.1.2.2.1, .int .i64 x8.1.2.2.2.1, .int .i64 x8.1.2.2.2.2.1, .int .i64 x8.1.2.2.2.2.2.1, .int .i64 x8.1.2.2.2.2.2.2.1, .int .i64 x8.1.2.2.2.2.2.2.2.1, .int .i64 x8.1.2.2.2.2.2.2.2.2.1, v6]) (M' := [(b4, [.int .i64 x8.1.1, .int .i64 x8.1.2.1, .int .i64 x8.1.2.2.1, .int .i64 x8.1.2.2.2.1, .int .i64 x8.1.2.2.2.2.1, .int .i64 x8.1.2.2.2.2.2.1, .int .i64 x8.1.2.2.2.2.2.2.1, .int .i64 x8.1.2.2.2.2.2.2.2.1, .int .i64 x8.1.2.2.2.2.2.2.2.2.1, v6]), (b3, [.int .i64 x6.1.1, .int .i64 x6.1.2.1, .int .i64 x6.1.2.2.1, .int .i64 x6.1.2.2.2.1, .int .i64 x6.1.2.2.2.2.1, .int .i64 x6.1.2.2.2.2.2.1, .int .i64 x6.1.2.2.2.2.2.2.1, .int .i64 x6.1.2.2.2.2.2.2.2.1, .int .i64 x6.1.2.2.2.2.2.2.2.2.1, v5]), (b2, [.int .i64 x4.1.1, .int .i64 x4.1.2.1, .int .i64 x4.1.2.2.1, .int .i64 x4.1.2.2.2.1, .int .i64 x4.1.2.2.2.2.1, .int .i64 x4.1.2.2.2.2.2.1, .int .i64 x4.1.2.2.2.2.2.2.1, .int .i64 x4.1.2.2.2.2.2.2.2.1, .int .i64 x4.1.2.2.2.2.2.2.2.2.1, v3]), (b1, [.int .i64 p0.1, .int .i64 p0.2.1, .int .i64 p0.2.2.1, .int .i64 p0.2.2.2.1, .int .i64 p0.2.2.2.2.1, .int .i64 p0.2.2.2.2.2.1, .int .i64 p0.2.2.2.2.2.2.1, .int .i64 p0.2.2.2.2.2.2.2.1, .int .i64 p0.2.2.2.2.2.2.2.2.1, v1])]) 0 hF hW rfl rfl rfl T24 rfl rfl rfl (one_cons rfl (one_cons rfl (one_cons rfl (one_cons rfl (one_cons rfl (one_cons rfl (one_cons rfl (one_cons rfl (one_cons rfl (one_cons (hW.one (k := 0) rfl) one_nil)))))))))) rfl (fun w hW => ?_)
   refine ls hF hW rfl ((y_assign hF rfl).q) (fun a w hF hW => ?_)
   refine ls_nil ?_
   refine c_then ?_
   obtain ⟨o1, G1, K1⟩ := bindE H
   refine c_seqJ (fun a w => ∃ x9 : Bool, some (x9) = some o1 ∧ Fr 62 [] [(4, .bool x9)] a ∧ Stw ⟨Y, [], w0⟩ [(b4, [.int .i64 x8.1.1, .int .i64 x8.1.2.1, .int .i64 x8.1.2.2.1, .int .i64 x8.1.2.2.2.1, .int .i64 x8.1.2.2.2.2.1, .int .i64 x8.1.2.2.2.2.2.1, .int .i64 x8.1.2.2.2.2.2.2.1, .int .i64 x8.1.2.2.2.2.2.2.2.1, .int .i64 x8.1.2.2.2.2.2.2.2.2.1, v6]), (b3, [.int .i64 x6.1.1, .int .i64 x6.1.2.1, .int .i64 x6.1.2.2.1, .int .i64 x6.1.2.2.2.1, .int .i64 x6.1.2.2.2.2.1, .int .i64 x6.1.2.2.2.2.2.1, .int .i64 x6.1.2.2.2.2.2.2.1, .int .i64 x6.1.2.2.2.2.2.2.2.1, .int .i64 x6.1.2.2.2.2.2.2.2.2.1, v5]), (b2, [.int .i64 x4.1.1, .int .i64 x4.1.2.1, .int .i64 x4.1.2.2.1, .int .i64 x4.1.2.2.2.1, .int .i64 x4.1.2.2.2.2.1, .int .i64 x4.1.2.2.2.2.2.1, .int .i64 x4.1.2.2.2.2.2.2.1, .int .i64 x4.1.2.2.2.2.2.2.2.1, .int .i64 x4.1.2.2.2.2.2.2.2.2.1, v3]), (b1, [.int .i64 p0.1, .int .i64 p0.2.1, .int .i64 p0.2.2.1, .int .i64 p0.2.2.2.1, .int .i64 p0.2.2.2.2.1, .int .i64 p0.2.2.2.2.2.1, .int .i64 p0.2.2.2.2.2.2.1, .int .i64 p0.2.2.2.2.2.2.2.1, .int .i64 p0.2.2.2.2.2.2.2.2.1, v1])] [row v6 42 R42 x8.1.2.2.2.2.2.2.2.2.2, row v5 42 R42 x6.1.2.2.2.2.2.2.2.2.2, row v3 42 R42 x4.1.2.2.2.2.2.2.2.2.2] w) ?_ ?_
   ·
    have H := G1
    clear G1 K1
    refine reg_list ?_
    refine ls hF hW rfl ((y_load (v := Value.agg #[.int .i64 x4.1.1, .int .i64 x4.1.2.1, .int .i64 x4.1.2.2.1, .int .i64 x4.1.2.2.2.1, .int .i64 x4.1.2.2.2.2.1, .int .i64 x4.1.2.2.2.2.2.1, .int .i64 x4.1.2.2.2.2.2.2.1, .int .i64 x4.1.2.2.2.2.2.2.2.1, .int .i64 x4.1.2.2.2.2.2.2.2.2.1, v3]) 2 hF rfl rfl T24 rfl).q) (fun a w hF hW => ?_)
    refine ls hF hW rfl ((y_load (v := Value.agg #[.int .i64 p0.1, .int .i64 p0.2.1, .int .i64 p0.2.2.1, .int .i64 p0.2.2.2.1, .int .i64 p0.2.2.2.2.1, .int .i64 p0.2.2.2.2.2.1, .int .i64 p0.2.2.2.2.2.2.1, .int .i64 p0.2.2.2.2.2.2.2.1, .int .i64 p0.2.2.2.2.2.2.2.2.1, v1]) 3 hF rfl rfl T24 rfl).q) (fun a w hF hW => ?_)
    obtain ⟨x10, h10, H⟩ := bindE H
    refine ls hF hW rfl (y_call (v := Value.bool x10) hF H9 rfl (fun w hW => r16_Same_c any w (v3) (v1) x4.1 p0 _ h10 (((rdc_row 3 rfl) : Rdc _ _ _ _ _ _) w hW).nx (((rdc_hide EX42 h1 (rdc_ro h_v1)) : Rdc _ _ _ _ _ _) w hW).nx)) (fun a w hF hW => ?_)
    refine ls hF hW rfl ((y_move hF rfl).q) (fun a w hF hW => ?_)
    rcases Bool.eq_false_or_eq_true x10 with hb | hb
    ·
     have H := iteT hb H
     rw [hb] at hF
     clear hb
     refine ls_w hF hW (wanted_y hF rfl rfl rfl rfl) rfl (Nat.le_of_ble_eq_true rfl) ((y_move hF rfl).q) (fun a w hF hW => ?_)
     refine ls_w hF hW (wanted_y hF rfl rfl rfl rfl) rfl (Nat.le_of_ble_eq_true rfl) ((y_eql hF rfl rfl).q) (fun a w hF hW => ?_)
     refine ls hF hW rfl ((y_pick_t hF rfl rfl rfl).q) (fun a w hF hW => ?_)
     refine ls hF hW rfl ((y_move hF rfl).q) (fun a w hF hW => ?_)
     rcases Bool.eq_false_or_eq_true (decide (x4.2 = 0)) with hb | hb
     ·
      have H := iteT (of_decide_eq_true hb) H
      rw [hb] at hF
      clear hb
      refine ls_w hF hW (wanted_y hF rfl rfl rfl rfl) rfl (Nat.le_of_ble_eq_true rfl) ((y_move hF rfl).q) (fun a w hF hW => ?_)
      refine ls_w hF hW (wanted_y hF rfl rfl rfl rfl) rfl (Nat.le_of_ble_eq_true rfl) ((y_neq hF rfl rfl).q) (fun a w hF hW => ?_)
      refine ls hF hW rfl ((y_pick_t hF rfl rfl rfl).q) (fun a w hF hW => ?_)
      refine ls hF hW rfl ((y_move hF rfl).q) (fun a w hF hW => ?_)
      rcases Bool.eq_false_or_eq_true (decide (x6.2 ≠ 0)) with hb | hb
      ·
       have H := iteT (of_decide_eq_true hb) H
       rw [hb] at hF
       clear hb
       refine ls_w hF hW (wanted_y hF rfl rfl rfl rfl) rfl (Nat.le_of_ble_eq_true rfl) ((y_move hF rfl).q) (fun a w hF hW => ?_)
       refine ls_w hF hW (wanted_y hF rfl rfl rfl rfl) rfl (Nat.le_of_ble_eq_true rfl) ((y_neq hF rfl rfl).q) (fun a w hF hW => ?_)
       refine ls hF hW rfl ((y_pick_t hF rfl rfl rfl).q) (fun a w hF hW => ?_)
       refine ls hF hW rfl ((y_move hF rfl).q) (fun a w hF hW => ?_)
       rcases Bool.eq_false_or_eq_true (decide (x8.2 ≠ 0)) with hb | hb
       ·
        have H := iteT (of_decide_eq_true hb) H
        rw [hb] at hF
        clear hb
        refine ls_g (wanted_y hF rfl rfl rfl rfl) ?_
        obtain ⟨x11, h11, H⟩ := bindE H
        refine ls hF hW rfl (y_call (v := Value.bool x11) hF H6 rfl (fun w hW => L16_awake_c any w _ h11)) (fun a w hF hW => ?_)
        refine ls hF hW rfl ((y_pick_t hF rfl rfl rfl).q) (fun a w hF hW => ?_)
        refine ls hF hW rfl ((y_assign hF rfl).q) (fun a w hF hW => ?_)
        refine ls_nil ?_
        refine c_then ?_
        have hW := hW.frontZ (i := 3) rfl rfl
        have hW := hW.frontZ (i := 2) rfl rfl
        have hW := hW.frontZ (i := 2) rfl rfl
        have hW := hW.frontM (i := 3) rfl rfl
        have hW := hW.frontM (i := 3) rfl rfl
        have hW := hW.frontM (i := 3) rfl rfl
        have hW := hW.frontM (i := 3) rfl rfl
        have hW := hW.sub (M' := [(b4, [.int .i64 x8.1.1, .int .i64 x8.1.2.1, .int .i64 x8.1.2.2.1, .int .i64 x8.1.2.2.2.1, .int .i64 x8.1.2.2.2.2.1, .int .i64 x8.1.2.2.2.2.2.1, .int .i64 x8.1.2.2.2.2.2.2.1, .int .i64 x8.1.2.2.2.2.2.2.2.1, .int .i64 x8.1.2.2.2.2.2.2.2.2.1, v6]), (b3, [.int .i64 x6.1.1, .int .i64 x6.1.2.1, .int .i64 x6.1.2.2.1, .int .i64 x6.1.2.2.2.1, .int .i64 x6.1.2.2.2.2.1, .int .i64 x6.1.2.2.2.2.2.1, .int .i64 x6.1.2.2.2.2.2.2.1, .int .i64 x6.1.2.2.2.2.2.2.2.1, .int .i64 x6.1.2.2.2.2.2.2.2.2.1, v5]), (b2, [.int .i64 x4.1.1, .int .i64 x4.1.2.1, .int .i64 x4.1.2.2.1, .int .i64 x4.1.2.2.2.1, .int .i64 x4.1.2.2.2.2.1, .int .i64 x4.1.2.2.2.2.2.1, .int .i64 x4.1.2.2.2.2.2.2.1, .int .i64 x4.1.2.2.2.2.2.2.2.1, .int .i64 x4.1.2.2.2.2.2.2.2.2.1, v3]), (b1, [.int .i64 p0.1, .int .i64 p0.2.1, .int .i64 p0.2.2.1, .int .i64 p0.2.2.2.1, .int .i64 p0.2.2.2.2.1, .int .i64 p0.2.2.2.2.2.1, .int .i64 p0.2.2.2.2.2.2.1, .int .i64 p0.2.2.2.2.2.2.2.1, .int .i64 p0.2.2.2.2.2.2.2.2.1, v1])]) (Z' := [row v6 42 R42 x8.1.2.2.2.2.2.2.2.2.2, row v5 42 R42 x6.1.2.2.2.2.2.2.2.2.2, row v3 42 R42 x4.1.2.2.2.2.2.2.2.2.2]) (List.Sublist.refl _) (List.Sublist.cons_cons _ (List.Sublist.cons_cons _ (List.Sublist.cons_cons _ (List.nil_sublist _))))
        exact ⟨_, H, hF.re ⟨rfl, trivial⟩, hW⟩
       ·
        have H := iteF (of_decide_eq_false hb) H
        rw [hb] at hF
        clear hb
        refine lsn hF rfl rfl rfl rfl rfl rfl rfl (fun a hF => ?_)
        refine ls hF hW rfl ((y_pick_f hF rfl rfl rfl).q) (fun a w hF hW => ?_)
        refine ls hF hW rfl ((y_assign hF rfl).q) (fun a w hF hW => ?_)
        refine ls_nil ?_
        refine c_then ?_
        have hW := hW.frontZ (i := 3) rfl rfl
        have hW := hW.frontZ (i := 2) rfl rfl
        have hW := hW.frontZ (i := 2) rfl rfl
        have hW := hW.frontM (i := 3) rfl rfl
        have hW := hW.frontM (i := 3) rfl rfl
        have hW := hW.frontM (i := 3) rfl rfl
        have hW := hW.frontM (i := 3) rfl rfl
        have hW := hW.sub (M' := [(b4, [.int .i64 x8.1.1, .int .i64 x8.1.2.1, .int .i64 x8.1.2.2.1, .int .i64 x8.1.2.2.2.1, .int .i64 x8.1.2.2.2.2.1, .int .i64 x8.1.2.2.2.2.2.1, .int .i64 x8.1.2.2.2.2.2.2.1, .int .i64 x8.1.2.2.2.2.2.2.2.1, .int .i64 x8.1.2.2.2.2.2.2.2.2.1, v6]), (b3, [.int .i64 x6.1.1, .int .i64 x6.1.2.1, .int .i64 x6.1.2.2.1, .int .i64 x6.1.2.2.2.1, .int .i64 x6.1.2.2.2.2.1, .int .i64 x6.1.2.2.2.2.2.1, .int .i64 x6.1.2.2.2.2.2.2.1, .int .i64 x6.1.2.2.2.2.2.2.2.1, .int .i64 x6.1.2.2.2.2.2.2.2.2.1, v5]), (b2, [.int .i64 x4.1.1, .int .i64 x4.1.2.1, .int .i64 x4.1.2.2.1, .int .i64 x4.1.2.2.2.1, .int .i64 x4.1.2.2.2.2.1, .int .i64 x4.1.2.2.2.2.2.1, .int .i64 x4.1.2.2.2.2.2.2.1, .int .i64 x4.1.2.2.2.2.2.2.2.1, .int .i64 x4.1.2.2.2.2.2.2.2.2.1, v3]), (b1, [.int .i64 p0.1, .int .i64 p0.2.1, .int .i64 p0.2.2.1, .int .i64 p0.2.2.2.1, .int .i64 p0.2.2.2.2.1, .int .i64 p0.2.2.2.2.2.1, .int .i64 p0.2.2.2.2.2.2.1, .int .i64 p0.2.2.2.2.2.2.2.1, .int .i64 p0.2.2.2.2.2.2.2.2.1, v1])]) (Z' := [row v6 42 R42 x8.1.2.2.2.2.2.2.2.2.2, row v5 42 R42 x6.1.2.2.2.2.2.2.2.2.2, row v3 42 R42 x4.1.2.2.2.2.2.2.2.2.2]) (List.Sublist.refl _) (List.Sublist.cons_cons _ (List.Sublist.cons_cons _ (List.Sublist.cons_cons _ (List.nil_sublist _))))
        exact ⟨_, H, hF.re ⟨rfl, trivial⟩, hW⟩
      ·
       have H := iteF (of_decide_eq_false hb) H
       rw [hb] at hF
       clear hb
       refine lsn hF rfl rfl rfl rfl rfl rfl rfl (fun a hF => ?_)
       refine lsn hF rfl rfl rfl rfl rfl rfl rfl (fun a hF => ?_)
       refine ls hF hW rfl ((y_pick_f hF rfl rfl rfl).q) (fun a w hF hW => ?_)
       refine ls hF hW rfl ((y_move hF rfl).q) (fun a w hF hW => ?_)
       refine lsn hF rfl rfl rfl rfl rfl rfl rfl (fun a hF => ?_)
       refine ls hF hW rfl ((y_pick_f hF rfl rfl rfl).q) (fun a w hF hW => ?_)
       refine ls hF hW rfl ((y_assign hF rfl).q) (fun a w hF hW => ?_)
       refine ls_nil ?_
       refine c_then ?_
       have hW := hW.frontZ (i := 3) rfl rfl
       have hW := hW.frontZ (i := 2) rfl rfl
       have hW := hW.frontZ (i := 2) rfl rfl
       have hW := hW.frontM (i := 3) rfl rfl
       have hW := hW.frontM (i := 3) rfl rfl
       have hW := hW.frontM (i := 3) rfl rfl
       have hW := hW.frontM (i := 3) rfl rfl
       have hW := hW.sub (M' := [(b4, [.int .i64 x8.1.1, .int .i64 x8.1.2.1, .int .i64 x8.1.2.2.1, .int .i64 x8.1.2.2.2.1, .int .i64 x8.1.2.2.2.2.1, .int .i64 x8.1.2.2.2.2.2.1, .int .i64 x8.1.2.2.2.2.2.2.1, .int .i64 x8.1.2.2.2.2.2.2.2.1, .int .i64 x8.1.2.2.2.2.2.2.2.2.1, v6]), (b3, [.int .i64 x6.1.1, .int .i64 x6.1.2.1, .int .i64 x6.1.2.2.1, .int .i64 x6.1.2.2.2.1, .int .i64 x6.1.2.2.2.2.1, .int .i64 x6.1.2.2.2.2.2.1, .int .i64 x6.1.2.2.2.2.2.2.1, .int .i64 x6.1.2.2.2.2.2.2.2.1, .int .i64 x6.1.2.2.2.2.2.2.2.2.1, v5]), (b2, [.int .i64 x4.1.1, .int .i64 x4.1.2.1, .int .i64 x4.1.2.2.1, .int .i64 x4.1.2.2.2.1, .int .i64 x4.1.2.2.2.2.1, .int .i64 x4.1.2.2.2.2.2.1, .int .i64 x4.1.2.2.2.2.2.2.1, .int .i64 x4.1.2.2.2.2.2.2.2.1, .int .i64 x4.1.2.2.2.2.2.2.2.2.1, v3]), (b1, [.int .i64 p0.1, .int .i64 p0.2.1, .int .i64 p0.2.2.1, .int .i64 p0.2.2.2.1, .int .i64 p0.2.2.2.2.1, .int .i64 p0.2.2.2.2.2.1, .int .i64 p0.2.2.2.2.2.2.1, .int .i64 p0.2.2.2.2.2.2.2.1, .int .i64 p0.2.2.2.2.2.2.2.2.1, v1])]) (Z' := [row v6 42 R42 x8.1.2.2.2.2.2.2.2.2.2, row v5 42 R42 x6.1.2.2.2.2.2.2.2.2.2, row v3 42 R42 x4.1.2.2.2.2.2.2.2.2.2]) (List.Sublist.refl _) (List.Sublist.cons_cons _ (List.Sublist.cons_cons _ (List.Sublist.cons_cons _ (List.nil_sublist _))))
       exact ⟨_, H, hF.re ⟨rfl, trivial⟩, hW⟩
     ·
      have H := iteF (of_decide_eq_false hb) H
      rw [hb] at hF
      clear hb
      refine lsn hF rfl rfl rfl rfl rfl rfl rfl (fun a hF => ?_)
      refine lsn hF rfl rfl rfl rfl rfl rfl rfl (fun a hF => ?_)
      refine ls hF hW rfl ((y_pick_f hF rfl rfl rfl).q) (fun a w hF hW => ?_)
      refine ls hF hW rfl ((y_move hF rfl).q) (fun a w hF hW => ?_)
      refine lsn hF rfl rfl rfl rfl rfl rfl rfl (fun a hF => ?_)
      refine lsn hF rfl rfl rfl rfl rfl rfl rfl (fun a hF => ?_)
      refine ls hF hW rfl ((y_pick_f hF rfl rfl rfl).q) (fun a w hF hW => ?_)
      refine ls hF hW rfl ((y_move hF rfl).q) (fun a w hF hW => ?_)
      refine lsn hF rfl rfl rfl rfl rfl rfl rfl (fun a hF => ?_)
      refine ls hF hW rfl ((y_pick_f hF rfl rfl rfl).q) (fun a w hF hW => ?_)
      refine ls hF hW rfl ((y_assign hF rfl).q) (fun a w hF hW => ?_)
      refine ls_nil ?_
      refine c_then ?_
      have hW := hW.frontZ (i := 3) rfl rfl
      have hW := hW.frontZ (i := 2) rfl rfl
      have hW := hW.frontZ (i := 2) rfl rfl
      have hW := hW.frontM (i := 3) rfl rfl
      have hW := hW.frontM (i := 3) rfl rfl
      have hW := hW.frontM (i := 3) rfl rfl
      have hW := hW.frontM (i := 3) rfl rfl
      have hW := hW.sub (M' := [(b4, [.int .i64 x8.1.1, .int .i64 x8.1.2.1, .int .i64 x8.1.2.2.1, .int .i64 x8.1.2.2.2.1, .int .i64 x8.1.2.2.2.2.1, .int .i64 x8.1.2.2.2.2.2.1, .int .i64 x8.1.2.2.2.2.2.2.1, .int .i64 x8.1.2.2.2.2.2.2.2.1, .int .i64 x8.1.2.2.2.2.2.2.2.2.1, v6]), (b3, [.int .i64 x6.1.1, .int .i64 x6.1.2.1, .int .i64 x6.1.2.2.1, .int .i64 x6.1.2.2.2.1, .int .i64 x6.1.2.2.2.2.1, .int .i64 x6.1.2.2.2.2.2.1, .int .i64 x6.1.2.2.2.2.2.2.1, .int .i64 x6.1.2.2.2.2.2.2.2.1, .int .i64 x6.1.2.2.2.2.2.2.2.2.1, v5]), (b2, [.int .i64 x4.1.1, .int .i64 x4.1.2.1, .int .i64 x4.1.2.2.1, .int .i64 x4.1.2.2.2.1, .int .i64 x4.1.2.2.2.2.1, .int .i64 x4.1.2.2.2.2.2.1, .int .i64 x4.1.2.2.2.2.2.2.1, .int .i64 x4.1.2.2.2.2.2.2.2.1, .int .i64 x4.1.2.2.2.2.2.2.2.2.1, v3]), (b1, [.int .i64 p0.1, .int .i64 p0.2.1, .int .i64 p0.2.2.1, .int .i64 p0.2.2.2.1, .int .i64 p0.2.2.2.2.1, .int .i64 p0.2.2.2.2.2.1, .int .i64 p0.2.2.2.2.2.2.1, .int .i64 p0.2.2.2.2.2.2.2.1, .int .i64 p0.2.2.2.2.2.2.2.2.1, v1])]) (Z' := [row v6 42 R42 x8.1.2.2.2.2.2.2.2.2.2, row v5 42 R42 x6.1.2.2.2.2.2.2.2.2.2, row v3 42 R42 x4.1.2.2.2.2.2.2.2.2.2]) (List.Sublist.refl _) (List.Sublist.cons_cons _ (List.Sublist.cons_cons _ (List.Sublist.cons_cons _ (List.nil_sublist _))))
      exact ⟨_, H, hF.re ⟨rfl, trivial⟩, hW⟩
    ·
     have H := iteF (by rw [hb]; decide) H
     rw [hb] at hF
     clear hb
     refine lsn hF rfl rfl rfl rfl rfl rfl rfl (fun a hF => ?_)
     refine lsn hF rfl rfl rfl rfl rfl rfl rfl (fun a hF => ?_)
     refine ls hF hW rfl ((y_pick_f hF rfl rfl rfl).q) (fun a w hF hW => ?_)
     refine ls hF hW rfl ((y_move hF rfl).q) (fun a w hF hW => ?_)
     refine lsn hF rfl rfl rfl rfl rfl rfl rfl (fun a hF => ?_)
     refine lsn hF rfl rfl rfl rfl rfl rfl rfl (fun a hF => ?_)
     refine ls hF hW rfl ((y_pick_f hF rfl rfl rfl).q) (fun a w hF hW => ?_)
     refine ls hF hW rfl ((y_move hF rfl).q) (fun a w hF hW => ?_)
     refine lsn hF rfl rfl rfl rfl rfl rfl rfl (fun a hF => ?_)
     refine lsn hF rfl rfl rfl rfl rfl rfl rfl (fun a hF => ?_)
     refine ls hF hW rfl ((y_pick_f hF rfl rfl rfl).q) (fun a w hF hW => ?_)
     refine ls hF hW rfl ((y_move hF rfl).q) (fun a w hF hW => ?_)
     refine lsn hF rfl rfl rfl rfl rfl rfl rfl (fun a hF => ?_)
     refine ls hF hW rfl ((y_pick_f hF rfl rfl rfl).q) (fun a w hF hW => ?_)
     refine ls hF hW rfl ((y_assign hF rfl).q) (fun a w hF hW => ?_)
     refine ls_nil ?_
     refine c_then ?_
     have hW := hW.frontZ (i := 3) rfl rfl
     have hW := hW.frontZ (i := 2) rfl rfl
     have hW := hW.frontZ (i := 2) rfl rfl
     have hW := hW.frontM (i := 3) rfl rfl
     have hW := hW.frontM (i := 3) rfl rfl
     have hW := hW.frontM (i := 3) rfl rfl
     have hW := hW.frontM (i := 3) rfl rfl
     have hW := hW.sub (M' := [(b4, [.int .i64 x8.1.1, .int .i64 x8.1.2.1, .int .i64 x8.1.2.2.1, .int .i64 x8.1.2.2.2.1, .int .i64 x8.1.2.2.2.2.1, .int .i64 x8.1.2.2.2.2.2.1, .int .i64 x8.1.2.2.2.2.2.2.1, .int .i64 x8.1.2.2.2.2.2.2.2.1, .int .i64 x8.1.2.2.2.2.2.2.2.2.1, v6]), (b3, [.int .i64 x6.1.1, .int .i64 x6.1.2.1, .int .i64 x6.1.2.2.1, .int .i64 x6.1.2.2.2.1, .int .i64 x6.1.2.2.2.2.1, .int .i64 x6.1.2.2.2.2.2.1, .int .i64 x6.1.2.2.2.2.2.2.1, .int .i64 x6.1.2.2.2.2.2.2.2.1, .int .i64 x6.1.2.2.2.2.2.2.2.2.1, v5]), (b2, [.int .i64 x4.1.1, .int .i64 x4.1.2.1, .int .i64 x4.1.2.2.1, .int .i64 x4.1.2.2.2.1, .int .i64 x4.1.2.2.2.2.1, .int .i64 x4.1.2.2.2.2.2.1, .int .i64 x4.1.2.2.2.2.2.2.1, .int .i64 x4.1.2.2.2.2.2.2.2.1, .int .i64 x4.1.2.2.2.2.2.2.2.2.1, v3]), (b1, [.int .i64 p0.1, .int .i64 p0.2.1, .int .i64 p0.2.2.1, .int .i64 p0.2.2.2.1, .int .i64 p0.2.2.2.2.1, .int .i64 p0.2.2.2.2.2.1, .int .i64 p0.2.2.2.2.2.2.1, .int .i64 p0.2.2.2.2.2.2.2.1, .int .i64 p0.2.2.2.2.2.2.2.2.1, v1])]) (Z' := [row v6 42 R42 x8.1.2.2.2.2.2.2.2.2.2, row v5 42 R42 x6.1.2.2.2.2.2.2.2.2.2, row v3 42 R42 x4.1.2.2.2.2.2.2.2.2.2]) (List.Sublist.refl _) (List.Sublist.cons_cons _ (List.Sublist.cons_cons _ (List.Sublist.cons_cons _ (List.nil_sublist _))))
     exact ⟨_, H, hF.re ⟨rfl, trivial⟩, hW⟩
   rintro a w ⟨x9, hj, hF, hW⟩
   have hj := Option.some.inj hj
   subst hj
   have H := K1
   clear G1 K1
   refine wp_ret ?_
   have H := Option.some.inj H
   subst H
   refine post1 (.inl rfl) hF hW rfl (rv_tmp hF rfl) ?_
   exact ⟨rfl, hW.done⟩

end Go.Proofs.Ytnlllglfmipllaa
