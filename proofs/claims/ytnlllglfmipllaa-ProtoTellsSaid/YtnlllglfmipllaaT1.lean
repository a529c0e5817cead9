/- The functions of layer 16, lifted. Conditions: none. -/
import Derived.Test.YtnlllglfmipllaaT0
namespace Go.Proofs.Ytnlllglfmipllaa
open Go Go.RowKit
set_option linter.unusedVariables false
set_option linter.unusedSimpArgs false
set_option maxRecDepth 20000
theorem H14 : Has Try.prog 14 := ⟨fun args w => run_callFunc_body Try.func14 rfl (by decide) args w⟩
noncomputable def L16_ProtoTells (p0 : Int × Int × Int × Int × Int × Int × Int × Int × Int × (List (Int × (Int × (Int × (Int × Int × Int × Int) × (Int × Int × Int × Int)) × (List (Int × Int × Int))) × Bool))) (p1 : Int × Int × Int × Int × Int × Int × Int × Int × Int × (List (Int × (Int × (Int × (Int × Int × Int × Int) × (Int × Int × Int × Int)) × (List (Int × Int × Int))) × Bool))) : Option Bool := ((L16_short p0).bind fun x2 => (if (!x2) = true then some true else (L16_short p1).bind fun x3 => some (!x3))).bind fun x1 => (if x1 = true then (L16_awake).bind fun x4 => some x4 else ((proto_Right p0).bind fun x6 => (r16_Right p0).bind fun x7 => (if x6 ≠ x7 then some true else (proto_Clean p0).bind fun x8 => (r16_Clean p0).bind fun x9 => (r16_Same x8 x9).bind fun x10 => (if (!x10) = true then some true else (proto_Same p0 p1).bind fun x11 => (r16_Same p0 p1).bind fun x12 => some (decide (x11 ≠ x12))))).bind fun x5 => (if x5 = true then some false else ((r16_Right p0).bind fun x14 => (if (!x14) = true then (L16_awake).bind fun x15 => some x15 else (proto_Code p0).bind fun x16 => (r16_Code p0).bind fun x17 => (if x16 = x17 then (L16_awake).bind fun x18 => some x18 else some false))).bind fun x13 => some x13))
theorem L16_ProtoTells_c (Y : Nat → Prop) (w0 : World) (v1 : Value) (v2 : Value) (p0 : Int × Int × Int × Int × Int × Int × Int × Int × Int × (List (Int × (Int × (Int × (Int × Int × Int × Int) × (Int × Int × Int × Int)) × (List (Int × Int × Int))) × Bool))) (p1 : Int × Int × Int × Int × Int × Int × Int × Int × Int × (List (Int × (Int × (Int × (Int × Int × Int × Int) × (Int × Int × Int × Int)) × (List (Int × Int × Int))) × Bool))) (r : Bool) (H : L16_ProtoTells p0 p1 = some r) (s_v1 : Sl w0 Y R42 v1 p0.2.2.2.2.2.2.2.2.2) (h_v2 : Sl w0 (NX []) R42 v2 p1.2.2.2.2.2.2.2.2.2) :
    Calls Try.prog 3 #[.agg #[.int .i64 p0.1, .int .i64 p0.2.1, .int .i64 p0.2.2.1, .int .i64 p0.2.2.2.1, .int .i64 p0.2.2.2.2.1, .int .i64 p0.2.2.2.2.2.1, .int .i64 p0.2.2.2.2.2.2.1, .int .i64 p0.2.2.2.2.2.2.2.1, .int .i64 p0.2.2.2.2.2.2.2.2.1, v1], .agg #[.int .i64 p1.1, .int .i64 p1.2.1, .int .i64 p1.2.2.1, .int .i64 p1.2.2.2.1, .int .i64 p1.2.2.2.2.1, .int .i64 p1.2.2.2.2.2.1, .int .i64 p1.2.2.2.2.2.2.1, .int .i64 p1.2.2.2.2.2.2.2.1, .int .i64 p1.2.2.2.2.2.2.2.2.1, v2]] w0 fun e w' => e = .returned (.bool r) ∧ Below w0.heap.size w0 w' := by
 refine enter Try.func3 rfl Try.ntmps3 rfl (fun a hF => ?_)
 have hW := Stw.start Y w0
 obtain ⟨v3, h1, s_v1⟩ := s_v1.ex EX42
 obtain ⟨v4, h2, h_v2⟩ := h_v2.ex EX42
 have h_v1 := hW.nx s_v1
 unfold L16_ProtoTells at H
 refine c_seq ?_
 refine reg_list ?_
 refine l_box (cs := [.int .i64 p0.1, .int .i64 p0.2.1, .int .i64 p0.2.2.1, .int .i64 p0.2.2.2.1, .int .i64 p0.2.2.2.2.1, .int .i64 p0.2.2.2.2.2.1, .int .i64 p0.2.2.2.2.2.2.1, .int .i64 p0.2.2.2.2.2.2.2.1, .int .i64 p0.2.2.2.2.2.2.2.2.1, v1]) hF hW rfl rfl rfl (fun b1 a w hF hW => ?_)
 refine l_box (cs := [.int .i64 p1.1, .int .i64 p1.2.1, .int .i64 p1.2.2.1, .int .i64 p1.2.2.2.1, .int .i64 p1.2.2.2.2.1, .int .i64 p1.2.2.2.2.2.1, .int .i64 p1.2.2.2.2.2.2.1, .int .i64 p1.2.2.2.2.2.2.2.1, .int .i64 p1.2.2.2.2.2.2.2.2.1, v2]) hF hW rfl rfl rfl (fun b2 a w hF hW => ?_)
 refine ls hF hW rfl ((y_assign hF rfl).q) (fun a w hF hW => ?_)
 refine ls_nil ?_
 refine c_then ?_
 refine c_seq ?_
 obtain ⟨o1, G1, K1⟩ := bindE H
 refine c_seqJ (fun a w => ∃ x1 : Bool, some (x1) = some o1 ∧ Fr 49 [] [(2, .pointer (some ⟨b1, 0, none⟩)), (3, .pointer (some ⟨b2, 0, none⟩)), (4, .bool false), (12, .bool x1)] a ∧ Stw ⟨Y, [], w0⟩ [(b2, [.int .i64 p1.1, .int .i64 p1.2.1, .int .i64 p1.2.2.1, .int .i64 p1.2.2.2.1, .int .i64 p1.2.2.2.2.1, .int .i64 p1.2.2.2.2.2.1, .int .i64 p1.2.2.2.2.2.2.1, .int .i64 p1.2.2.2.2.2.2.2.1, .int .i64 p1.2.2.2.2.2.2.2.2.1, v2]), (b1, [.int .i64 p0.1, .int .i64 p0.2.1, .int .i64 p0.2.2.1, .int .i64 p0.2.2.2.1, .int .i64 p0.2.2.2.2.1, .int .i64 p0.2.2.2.2.2.1, .int .i64 p0.2.2.2.2.2.2.1, .int .i64 p0.2.2.2.2.2.2.2.1, .int .i64 p0.2.2.2.2.2.2.2.2.1, v1])] [] w) ?_ ?_
 ·
  have H := G1
  clear G1 K1
  refine reg_list ?_
  refine ls hF hW rfl ((y_load (v := Value.agg #[.int .i64 p0.1, .int .i64 p0.2.1, .int .i64 p0.2.2.1, .int .i64 p0.2.2.2.1, .int .i64 p0.2.2.2.2.1, .int .i64 p0.2.2.2.2.2.1, .int .i64 p0.2.2.2.2.2.2.1, .int .i64 p0.2.2.2.2.2.2.2.1, .int .i64 p0.2.2.2.2.2.2.2.2.1, v1]) 1 hF rfl rfl T24 rfl).q) (fun a w hF hW => ?_)
  obtain ⟨x2, h3, H⟩ := bindE H
  refine ls hF hW rfl (y_call (v := Value.bool x2) hF H5 rfl (fun w hW => L16_short_c any w (v1) p0 _ h3 (((rdc_hide EX42 h1 (rdc_ro h_v1)) : Rdc _ _ _ _ _ _) w hW).nx)) (fun a w hF hW => ?_)
  refine ls hF hW rfl ((y_not hF rfl).q) (fun a w hF hW => ?_)
  refine ls hF hW rfl ((y_move hF rfl).q) (fun a w hF hW => ?_)
  rcases Bool.eq_false_or_eq_true (!x2) with hb | hb
  ·
   have H := iteT hb H
   rw [hb] at hF
   clear hb
   refine lsn hF rfl rfl rfl rfl rfl rfl rfl (fun a hF => ?_)
   refine lsn hF rfl rfl rfl rfl rfl rfl rfl (fun a hF => ?_)
   refine lsn hF rfl rfl rfl rfl rfl rfl rfl (fun a hF => ?_)
   refine ls hF hW rfl ((y_pick_t hF rfl rfl rfl).q) (fun a w hF hW => ?_)
   refine ls_nil ?_
   refine c_then ?_
   have hW := hW.frontM (i := 1) rfl rfl
   have hW := hW.frontM (i := 1) rfl rfl
   exact ⟨_, H, hF.re ⟨rfl, rfl, rfl, rfl, trivial⟩, hW⟩
  ·
   have H := iteF (by rw [hb]; decide) H
   rw [hb] at hF
   clear hb
   refine ls_w hF hW (wanted_y hF rfl rfl rfl rfl) rfl (Nat.le_of_ble_eq_true rfl) ((y_load (v := Value.agg #[.int .i64 p1.1, .int .i64 p1.2.1, .int .i64 p1.2.2.1, .int .i64 p1.2.2.2.1, .int .i64 p1.2.2.2.2.1, .int .i64 p1.2.2.2.2.2.1, .int .i64 p1.2.2.2.2.2.2.1, .int .i64 p1.2.2.2.2.2.2.2.1, .int .i64 p1.2.2.2.2.2.2.2.2.1, v2]) 0 hF rfl rfl T24 rfl).q) (fun a w hF hW => ?_)
   refine ls_g (wanted_y hF rfl rfl rfl rfl) ?_
   obtain ⟨x3, h4, H⟩ := bindE H
   refine ls hF hW rfl (y_call (v := Value.bool x3) hF H5 rfl (fun w hW => L16_short_c any w (v2) p1 _ h4 (((rdc_hide EX42 h2 (rdc_ro h_v2)) : Rdc _ _ _ _ _ _) w hW).nx)) (fun a w hF hW => ?_)
   refine ls_w hF hW (wanted_y hF rfl rfl rfl rfl) rfl (Nat.le_of_ble_eq_true rfl) ((y_not hF rfl).q) (fun a w hF hW => ?_)
   refine ls hF hW rfl ((y_pick_f hF rfl rfl rfl).q) (fun a w hF hW => ?_)
   refine ls_nil ?_
   refine c_then ?_
   have hW := hW.frontM (i := 1) rfl rfl
   have hW := hW.frontM (i := 1) rfl rfl
   exact ⟨_, H, hF.re ⟨rfl, rfl, rfl, rfl, trivial⟩, hW⟩
 rintro a w ⟨x1, hj, hF, hW⟩
 have hj := Option.some.inj hj
 subst hj
 have H := K1
 clear G1 K1
 refine c_cond hF rfl (fun hb => ?_) (fun hb => ?_)
 ·
  have H := iteT hb H
  rw [hb] at hF
  clear hb
  refine c_seq ?_
  refine reg_list ?_
  obtain ⟨x4, h5, H⟩ := bindE H
  refine ls hF hW rfl (y_call (v := Value.bool x4) hF H6 rfl (fun w hW => L16_awake_c any w _ h5)) (fun a w hF hW => ?_)
  refine ls hF hW rfl ((y_assign hF rfl).q) (fun a w hF hW => ?_)
  refine ls_nil ?_
  refine c_then ?_
  refine wp_ret ?_
  refine r_then ?_
  have H := Option.some.inj H
  subst H
  refine post1 (.inl rfl) hF hW rfl (rv_tmp hF rfl) ?_
  exact ⟨rfl, hW.done⟩
 ·
  have H := iteF (by rw [hb]; decide) H
  rw [hb] at hF
  clear hb
  refine wp_skip ?_
  refine c_then ?_
  refine c_seq ?_
  obtain ⟨o2, G2, K2⟩ := bindE H
  refine c_seqJ (fun a w => ∃ x5 : Bool, some (x5) = some o2 ∧ Fr 49 [] [(2, .pointer (some ⟨b1, 0, none⟩)), (4, .bool false), (35, .bool x5)] a ∧ Stw ⟨Y, [], w0⟩ [(b2, [.int .i64 p1.1, .int .i64 p1.2.1, .int .i64 p1.2.2.1, .int .i64 p1.2.2.2.1, .int .i64 p1.2.2.2.2.1, .int .i64 p1.2.2.2.2.2.1, .int .i64 p1.2.2.2.2.2.2.1, .int .i64 p1.2.2.2.2.2.2.2.1, .int .i64 p1.2.2.2.2.2.2.2.2.1, v2]), (b1, [.int .i64 p0.1, .int .i64 p0.2.1, .int .i64 p0.2.2.1, .int .i64 p0.2.2.2.1, .int .i64 p0.2.2.2.2.1, .int .i64 p0.2.2.2.2.2.1, .int .i64 p0.2.2.2.2.2.2.1, .int .i64 p0.2.2.2.2.2.2.2.1, .int .i64 p0.2.2.2.2.2.2.2.2.1, v1])] [] w) ?_ ?_
  ·
   have H := G2
   clear G2 K2
   refine reg_plan [(true, 0), (true, 2), (false, 1), (false, 3), (true, 4), (true, 5), (true, 6), (true, 8), (false, 7), (false, 9), (false, 10), (true, 11), (true, 12), (true, 13), (true, 14), (true, 15), (true, 17), (true, 18), (false, 16), (false, 19), (true, 20), (true, 21)] (CN ⟨Y, [], w0⟩ [(some 1, b1, [.int .i64 p0.1, .int .i64 p0.2.1, .int .i64 p0.2.2.1, .int .i64 p0.2.2.2.1, .int .i64 p0.2.2.2.2.1, .int .i64 p0.2.2.2.2.2.1, .int .i64 p0.2.2.2.2.2.2.1, .int .i64 p0.2.2.2.2.2.2.2.1, .int .i64 p0.2.2.2.2.2.2.2.2.1, v1]), (some 3, b1, [.int .i64 p0.1, .int .i64 p0.2.1, .int .i64 p0.2.2.1, .int .i64 p0.2.2.2.1, .int .i64 p0.2.2.2.2.1, .int .i64 p0.2.2.2.2.2.1, .int .i64 p0.2.2.2.2.2.2.1, .int .i64 p0.2.2.2.2.2.2.2.1, .int .i64 p0.2.2.2.2.2.2.2.2.1, v1])] []) (fun ch a d v w h => by cases d <;> exact h) MO (by kernel_rfl) hW (fun w hW => ⟨_, _, hW, (all_cons (fun _ => (.tail _ (.head _))) (all_cons (fun _ => (.tail _ (.head _))) all_nil)), all_nil⟩) (fun w hW => ?_)
   refine pl_t (R := [1]) hF rfl rfl (yC fun M Z hN hZ => y_load_m (cs := [.int .i64 p0.1, .int .i64 p0.2.1, .int .i64 p0.2.2.1, .int .i64 p0.2.2.2.1, .int .i64 p0.2.2.2.2.1, .int .i64 p0.2.2.2.2.2.1, .int .i64 p0.2.2.2.2.2.2.1, .int .i64 p0.2.2.2.2.2.2.2.1, .int .i64 p0.2.2.2.2.2.2.2.2.1, v1]) (v := Value.agg #[.int .i64 p0.1, .int .i64 p0.2.1, .int .i64 p0.2.2.1, .int .i64 p0.2.2.2.1, .int .i64 p0.2.2.2.2.1, .int .i64 p0.2.2.2.2.2.1, .int .i64 p0.2.2.2.2.2.2.1, .int .i64 p0.2.2.2.2.2.2.2.1, .int .i64 p0.2.2.2.2.2.2.2.2.1, v1]) hF rfl (hN ((some 1), b1, [.int .i64 p0.1, .int .i64 p0.2.1, .int .i64 p0.2.2.1, .int .i64 p0.2.2.2.1, .int .i64 p0.2.2.2.2.1, .int .i64 p0.2.2.2.2.2.1, .int .i64 p0.2.2.2.2.2.2.1, .int .i64 p0.2.2.2.2.2.2.2.1, .int .i64 p0.2.2.2.2.2.2.2.2.1, v1]) (.head _) rfl) T24 rfl) (by kernel_rfl) rfl (fun a hF => ?_)
   refine pl_t (R := [3]) hF rfl rfl (yC fun M Z hN hZ => y_load_m (cs := [.int .i64 p0.1, .int .i64 p0.2.1, .int .i64 p0.2.2.1, .int .i64 p0.2.2.2.1, .int .i64 p0.2.2.2.2.1, .int .i64 p0.2.2.2.2.2.1, .int .i64 p0.2.2.2.2.2.2.1, .int .i64 p0.2.2.2.2.2.2.2.1, .int .i64 p0.2.2.2.2.2.2.2.2.1, v1]) (v := Value.agg #[.int .i64 p0.1, .int .i64 p0.2.1, .int .i64 p0.2.2.1, .int .i64 p0.2.2.2.1, .int .i64 p0.2.2.2.2.1, .int .i64 p0.2.2.2.2.2.1, .int .i64 p0.2.2.2.2.2.2.1, .int .i64 p0.2.2.2.2.2.2.2.1, .int .i64 p0.2.2.2.2.2.2.2.2.1, v1]) hF rfl (hN ((some 3), b1, [.int .i64 p0.1, .int .i64 p0.2.1, .int .i64 p0.2.2.1, .int .i64 p0.2.2.2.1, .int .i64 p0.2.2.2.2.1, .int .i64 p0.2.2.2.2.2.1, .int .i64 p0.2.2.2.2.2.2.1, .int .i64 p0.2.2.2.2.2.2.2.1, .int .i64 p0.2.2.2.2.2.2.2.2.1, v1]) (.tail _ (.head _)) rfl) T24 rfl) (by kernel_rfl) rfl (fun a hF => ?_)
   refine pl_f rfl ?_
   obtain ⟨x6, h6, H⟩ := bindE H
   refine ls hF hW rfl (y_call (v := Value.bool x6) hF H7 rfl (fun w hW => proto_Right_c any w (v1) p0 _ h6 ((rdc_hide EX42 h1 (rdc_ro h_v1)) w hW))) (fun a w hF hW => ?_)
   refine pl_next (N2 := []) (NZ2 := []) (N3 := [(some 1, b1, [.int .i64 p0.1, .int .i64 p0.2.1, .int .i64 p0.2.2.1, .int .i64 p0.2.2.2.1, .int .i64 p0.2.2.2.2.1, .int .i64 p0.2.2.2.2.2.1, .int .i64 p0.2.2.2.2.2.2.1, .int .i64 p0.2.2.2.2.2.2.2.1, .int .i64 p0.2.2.2.2.2.2.2.2.1, v1]), (some 3, b1, [.int .i64 p0.1, .int .i64 p0.2.1, .int .i64 p0.2.2.1, .int .i64 p0.2.2.2.1, .int .i64 p0.2.2.2.2.1, .int .i64 p0.2.2.2.2.2.1, .int .i64 p0.2.2.2.2.2.2.1, .int .i64 p0.2.2.2.2.2.2.2.1, .int .i64 p0.2.2.2.2.2.2.2.2.1, v1])]) (NZ3 := []) hW rfl rfl (all_cons (fun h => rel_dead (by kernel_rfl) h) (all_cons (fun _ => (.tail _ (.head _))) all_nil)) all_nil ?_
   refine pl_f rfl ?_
   obtain ⟨x7, h7, H⟩ := bindE H
   refine ls hF hW rfl (y_call (v := Value.bool x7) hF H8 rfl (fun w hW => r16_Right_c any w (v1) p0 _ h7 ((rdc_hide EX42 h1 (rdc_ro h_v1)) w hW))) (fun a w hF hW => ?_)
   refine pl_next (N2 := [(some 7, b1, [.int .i64 p0.1, .int .i64 p0.2.1, .int .i64 p0.2.2.1, .int .i64 p0.2.2.2.1, .int .i64 p0.2.2.2.2.1, .int .i64 p0.2.2.2.2.2.1, .int .i64 p0.2.2.2.2.2.2.1, .int .i64 p0.2.2.2.2.2.2.2.1, .int .i64 p0.2.2.2.2.2.2.2.2.1, v1]), (some 9, b1, [.int .i64 p0.1, .int .i64 p0.2.1, .int .i64 p0.2.2.1, .int .i64 p0.2.2.2.1, .int .i64 p0.2.2.2.2.1, .int .i64 p0.2.2.2.2.2.1, .int .i64 p0.2.2.2.2.2.2.1, .int .i64 p0.2.2.2.2.2.2.2.1, .int .i64 p0.2.2.2.2.2.2.2.2.1, v1])]) (NZ2 := []) (N3 := [(some 1, b1, [.int .i64 p0.1, .int .i64 p0.2.1, .int .i64 p0.2.2.1, .int .i64 p0.2.2.2.1, .int .i64 p0.2.2.2.2.1, .int .i64 p0.2.2.2.2.2.1, .int .i64 p0.2.2.2.2.2.2.1, .int .i64 p0.2.2.2.2.2.2.2.1, .int .i64 p0.2.2.2.2.2.2.2.2.1, v1]), (some 3, b1, [.int .i64 p0.1, .int .i64 p0.2.1, .int .i64 p0.2.2.1, .int .i64 p0.2.2.2.1, .int .i64 p0.2.2.2.2.1, .int .i64 p0.2.2.2.2.2.1, .int .i64 p0.2.2.2.2.2.2.1, .int .i64 p0.2.2.2.2.2.2.2.1, .int .i64 p0.2.2.2.2.2.2.2.2.1, v1]), (some 7, b1, [.int .i64 p0.1, .int .i64 p0.2.1, .int .i64 p0.2.2.1, .int .i64 p0.2.2.2.1, .int .i64 p0.2.2.2.2.1, .int .i64 p0.2.2.2.2.2.1, .int .i64 p0.2.2.2.2.2.2.1, .int .i64 p0.2.2.2.2.2.2.2.1, .int .i64 p0.2.2.2.2.2.2.2.2.1, v1]), (some 9, b1, [.int .i64 p0.1, .int .i64 p0.2.1, .int .i64 p0.2.2.1, .int .i64 p0.2.2.2.1, .int .i64 p0.2.2.2.2.1, .int .i64 p0.2.2.2.2.2.1, .int .i64 p0.2.2.2.2.2.2.1, .int .i64 p0.2.2.2.2.2.2.2.1, .int .i64 p0.2.2.2.2.2.2.2.2.1, v1])]) (NZ3 := []) hW rfl rfl (all_cons (fun h => rel_dead (by kernel_rfl) h) (all_cons (fun h => rel_dead (by kernel_rfl) h) (all_cons (fun _ => (.tail _ (.head _))) (all_cons (fun _ => (.tail _ (.head _))) all_nil)))) all_nil ?_
   refine pl_t (R := []) hF rfl rfl (yC fun M Z hN hZ => y_neb u4_ hF rfl rfl) rfl rfl (fun a hF => ?_)
   refine pl_t (R := []) hF rfl rfl (yC fun M Z hN hZ => y_move hF rfl) rfl rfl (fun a hF => ?_)
   rcases Bool.eq_false_or_eq_true (decide (x6 ≠ x7)) with hb | hb
   ·
    have H := iteT (of_decide_eq_true hb) H
    rw [hb] at hF
    clear hb
    refine pl_skip hF rfl (wanted_n hF rfl rfl rfl rfl rfl) rfl rfl rfl (fun a hF => ?_)
    refine pl_skip hF rfl (wanted_n hF rfl rfl rfl rfl rfl) rfl rfl rfl (fun a hF => ?_)
    refine pl_f rfl ?_
    refine lsn hF rfl rfl rfl rfl rfl rfl rfl (fun a hF => ?_)
    refine pl_next (N2 := []) (NZ2 := []) (N3 := [(some 1, b1, [.int .i64 p0.1, .int .i64 p0.2.1, .int .i64 p0.2.2.1, .int .i64 p0.2.2.2.1, .int .i64 p0.2.2.2.2.1, .int .i64 p0.2.2.2.2.2.1, .int .i64 p0.2.2.2.2.2.2.1, .int .i64 p0.2.2.2.2.2.2.2.1, .int .i64 p0.2.2.2.2.2.2.2.2.1, v1]), (some 3, b1, [.int .i64 p0.1, .int .i64 p0.2.1, .int .i64 p0.2.2.1, .int .i64 p0.2.2.2.1, .int .i64 p0.2.2.2.2.1, .int .i64 p0.2.2.2.2.2.1, .int .i64 p0.2.2.2.2.2.2.1, .int .i64 p0.2.2.2.2.2.2.2.1, .int .i64 p0.2.2.2.2.2.2.2.2.1, v1]), (some 7, b1, [.int .i64 p0.1, .int .i64 p0.2.1, .int .i64 p0.2.2.1, .int .i64 p0.2.2.2.1, .int .i64 p0.2.2.2.2.1, .int .i64 p0.2.2.2.2.2.1, .int .i64 p0.2.2.2.2.2.2.1, .int .i64 p0.2.2.2.2.2.2.2.1, .int .i64 p0.2.2.2.2.2.2.2.2.1, v1]), (some 9, b1, [.int .i64 p0.1, .int .i64 p0.2.1, .int .i64 p0.2.2.1, .int .i64 p0.2.2.2.1, .int .i64 p0.2.2.2.2.1, .int .i64 p0.2.2.2.2.2.1, .int .i64 p0.2.2.2.2.2.2.1, .int .i64 p0.2.2.2.2.2.2.2.1, .int .i64 p0.2.2.2.2.2.2.2.2.1, v1])]) (NZ3 := []) hW rfl rfl (all_cons (fun h => rel_dead (by kernel_rfl) h) (all_cons (fun h => rel_dead (by kernel_rfl) h) (all_cons (fun h => rel_dead (by kernel_rfl) h) (all_cons (fun _ => (.tail _ (.head _))) all_nil)))) all_nil ?_
    refine pl_f rfl ?_
    refine lsn hF rfl rfl rfl rfl rfl rfl rfl (fun a hF => ?_)
    refine pl_next (N2 := []) (NZ2 := []) (N3 := [(some 1, b1, [.int .i64 p0.1, .int .i64 p0.2.1, .int .i64 p0.2.2.1, .int .i64 p0.2.2.2.1, .int .i64 p0.2.2.2.2.1, .int .i64 p0.2.2.2.2.2.1, .int .i64 p0.2.2.2.2.2.2.1, .int .i64 p0.2.2.2.2.2.2.2.1, .int .i64 p0.2.2.2.2.2.2.2.2.1, v1]), (some 3, b1, [.int .i64 p0.1, .int .i64 p0.2.1, .int .i64 p0.2.2.1, .int .i64 p0.2.2.2.1, .int .i64 p0.2.2.2.2.1, .int .i64 p0.2.2.2.2.2.1, .int .i64 p0.2.2.2.2.2.2.1, .int .i64 p0.2.2.2.2.2.2.2.1, .int .i64 p0.2.2.2.2.2.2.2.2.1, v1]), (some 7, b1, [.int .i64 p0.1, .int .i64 p0.2.1, .int .i64 p0.2.2.1, .int .i64 p0.2.2.2.1, .int .i64 p0.2.2.2.2.1, .int .i64 p0.2.2.2.2.2.1, .int .i64 p0.2.2.2.2.2.2.1, .int .i64 p0.2.2.2.2.2.2.2.1, .int .i64 p0.2.2.2.2.2.2.2.2.1, v1]), (some 9, b1, [.int .i64 p0.1, .int .i64 p0.2.1, .int .i64 p0.2.2.1, .int .i64 p0.2.2.2.1, .int .i64 p0.2.2.2.2.1, .int .i64 p0.2.2.2.2.2.1, .int .i64 p0.2.2.2.2.2.2.1, .int .i64 p0.2.2.2.2.2.2.2.1, .int .i64 p0.2.2.2.2.2.2.2.2.1, v1])]) (NZ3 := []) hW rfl rfl (all_cons (fun h => rel_dead (by kernel_rfl) h) (all_cons (fun h => rel_dead (by kernel_rfl) h) (all_cons (fun h => rel_dead (by kernel_rfl) h) (all_cons (fun h => rel_dead (by kernel_rfl) h) all_nil)))) all_nil ?_
    refine pl_f rfl ?_
    refine lsn hF rfl rfl rfl rfl rfl rfl rfl (fun a hF => ?_)
    refine pl_next (N2 := []) (NZ2 := []) (N3 := [(some 1, b1, [.int .i64 p0.1, .int .i64 p0.2.1, .int .i64 p0.2.2.1, .int .i64 p0.2.2.2.1, .int .i64 p0.2.2.2.2.1, .int .i64 p0.2.2.2.2.2.1, .int .i64 p0.2.2.2.2.2.2.1, .int .i64 p0.2.2.2.2.2.2.2.1, .int .i64 p0.2.2.2.2.2.2.2.2.1, v1]), (some 3, b1, [.int .i64 p0.1, .int .i64 p0.2.1, .int .i64 p0.2.2.1, .int .i64 p0.2.2.2.1, .int .i64 p0.2.2.2.2.1, .int .i64 p0.2.2.2.2.2.1, .int .i64 p0.2.2.2.2.2.2.1, .int .i64 p0.2.2.2.2.2.2.2.1, .int .i64 p0.2.2.2.2.2.2.2.2.1, v1]), (some 7, b1, [.int .i64 p0.1, .int .i64 p0.2.1, .int .i64 p0.2.2.1, .int .i64 p0.2.2.2.1, .int .i64 p0.2.2.2.2.1, .int .i64 p0.2.2.2.2.2.1, .int .i64 p0.2.2.2.2.2.2.1, .int .i64 p0.2.2.2.2.2.2.2.1, .int .i64 p0.2.2.2.2.2.2.2.2.1, v1]), (some 9, b1, [.int .i64 p0.1, .int .i64 p0.2.1, .int .i64 p0.2.2.1, .int .i64 p0.2.2.2.1, .int .i64 p0.2.2.2.2.1, .int .i64 p0.2.2.2.2.2.1, .int .i64 p0.2.2.2.2.2.2.1, .int .i64 p0.2.2.2.2.2.2.2.1, .int .i64 p0.2.2.2.2.2.2.2.2.1, v1])]) (NZ3 := []) hW rfl rfl (all_cons (fun h => rel_dead (by kernel_rfl) h) (all_cons (fun h => rel_dead (by kernel_rfl) h) (all_cons (fun h => rel_dead (by kernel_rfl) h) (all_cons (fun h => rel_dead (by kernel_rfl) h) all_nil)))) all_nil ?_
    refine pl_skip hF rfl (wanted_n hF rfl rfl rfl rfl rfl) rfl rfl rfl (fun a hF => ?_)
    refine pl_t (R := []) hF rfl rfl (yC fun M Z hN hZ => y_pick_t hF rfl rfl rfl) rfl rfl (fun a hF => ?_)
    refine pl_t (R := []) hF rfl rfl (yC fun M Z hN hZ => y_move hF rfl) rfl rfl (fun a hF => ?_)
    refine pl_skip hF rfl (wanted_n hF rfl rfl rfl rfl rfl) rfl rfl rfl (fun a hF => ?_)
    refine pl_skip hF rfl (wanted_n hF rfl rfl rfl rfl rfl) rfl rfl rfl (fun a hF => ?_)
    refine pl_skip hF rfl (wanted_n hF rfl rfl rfl rfl rfl) rfl rfl rfl (fun a hF => ?_)
    refine pl_skip hF rfl (wanted_n hF rfl rfl rfl rfl rfl) rfl rfl rfl (fun a hF => ?_)
    refine pl_f rfl ?_
    refine lsn hF rfl rfl rfl rfl rfl rfl rfl (fun a hF => ?_)
    refine pl_next (N2 := []) (NZ2 := []) (N3 := [(some 1, b1, [.int .i64 p0.1, .int .i64 p0.2.1, .int .i64 p0.2.2.1, .int .i64 p0.2.2.2.1, .int .i64 p0.2.2.2.2.1, .int .i64 p0.2.2.2.2.2.1, .int .i64 p0.2.2.2.2.2.2.1, .int .i64 p0.2.2.2.2.2.2.2.1, .int .i64 p0.2.2.2.2.2.2.2.2.1, v1]), (some 3, b1, [.int .i64 p0.1, .int .i64 p0.2.1, .int .i64 p0.2.2.1, .int .i64 p0.2.2.2.1, .int .i64 p0.2.2.2.2.1, .int .i64 p0.2.2.2.2.2.1, .int .i64 p0.2.2.2.2.2.2.1, .int .i64 p0.2.2.2.2.2.2.2.1, .int .i64 p0.2.2.2.2.2.2.2.2.1, v1]), (some 7, b1, [.int .i64 p0.1, .int .i64 p0.2.1, .int .i64 p0.2.2.1, .int .i64 p0.2.2.2.1, .int .i64 p0.2.2.2.2.1, .int .i64 p0.2.2.2.2.2.1, .int .i64 p0.2.2.2.2.2.2.1, .int .i64 p0.2.2.2.2.2.2.2.1, .int .i64 p0.2.2.2.2.2.2.2.2.1, v1]), (some 9, b1, [.int .i64 p0.1, .int .i64 p0.2.1, .int .i64 p0.2.2.1, .int .i64 p0.2.2.2.1, .int .i64 p0.2.2.2.2.1, .int .i64 p0.2.2.2.2.2.1, .int .i64 p0.2.2.2.2.2.2.1, .int .i64 p0.2.2.2.2.2.2.2.1, .int .i64 p0.2.2.2.2.2.2.2.2.1, v1])]) (NZ3 := []) hW rfl rfl (all_cons (fun h => rel_dead (by kernel_rfl) h) (all_cons (fun h => rel_dead (by kernel_rfl) h) (all_cons (fun h => rel_dead (by kernel_rfl) h) (all_cons (fun h => rel_dead (by kernel_rfl) h) all_nil)))) all_nil ?_
    refine pl_f rfl ?_
    refine lsn hF rfl rfl rfl rfl rfl rfl rfl (fun a hF => ?_)
    refine pl_next (N2 := []) (NZ2 := []) (N3 := [(some 1, b1, [.int .i64 p0.1, .int .i64 p0.2.1, .int .i64 p0.2.2.1, .int .i64 p0.2.2.2.1, .int .i64 p0.2.2.2.2.1, .int .i64 p0.2.2.2.2.2.1, .int .i64 p0.2.2.2.2.2.2.1, .int .i64 p0.2.2.2.2.2.2.2.1, .int .i64 p0.2.2.2.2.2.2.2.2.1, v1]), (some 3, b1, [.int .i64 p0.1, .int .i64 p0.2.1, .int .i64 p0.2.2.1, .int .i64 p0.2.2.2.1, .int .i64 p0.2.2.2.2.1, .int .i64 p0.2.2.2.2.2.1, .int .i64 p0.2.2.2.2.2.2.1, .int .i64 p0.2.2.2.2.2.2.2.1, .int .i64 p0.2.2.2.2.2.2.2.2.1, v1]), (some 7, b1, [.int .i64 p0.1, .int .i64 p0.2.1, .int .i64 p0.2.2.1, .int .i64 p0.2.2.2.1, .int .i64 p0.2.2.2.2.1, .int .i64 p0.2.2.2.2.2.1, .int .i64 p0.2.2.2.2.2.2.1, .int .i64 p0.2.2.2.2.2.2.2.1, .int .i64 p0.2.2.2.2.2.2.2.2.1, v1]), (some 9, b1, [.int .i64 p0.1, .int .i64 p0.2.1, .int .i64 p0.2.2.1, .int .i64 p0.2.2.2.1, .int .i64 p0.2.2.2.2.1, .int .i64 p0.2.2.2.2.2.1, .int .i64 p0.2.2.2.2.2.2.1, .int .i64 p0.2.2.2.2.2.2.2.1, .int .i64 p0.2.2.2.2.2.2.2.2.1, v1])]) (NZ3 := []) hW rfl rfl (all_cons (fun h => rel_dead (by kernel_rfl) h) (all_cons (fun h => rel_dead (by kernel_rfl) h) (all_cons (fun h => rel_dead (by kernel_rfl) h) (all_cons (fun h => rel_dead (by kernel_rfl) h) all_nil)))) all_nil ?_
    refine pl_skip hF rfl (wanted_n hF rfl rfl rfl rfl rfl) rfl rfl rfl (fun a hF => ?_)
    refine pl_t (R := []) hF rfl rfl (yC fun M Z hN hZ => y_pick_t hF rfl rfl rfl) rfl rfl (fun a hF => ?_)
    refine pl_end ?_
    refine c_then ?_
    have hW := hW.frontM (i := 1) rfl rfl
    have hW := hW.frontM (i := 1) rfl rfl
    exact ⟨_, H, hF.re ⟨rfl, rfl, rfl, trivial⟩, hW⟩
   ·
    have H := iteF (of_decide_eq_false hb) H
    rw [hb] at hF
    clear hb
    refine pl_w (R := [7]) hF rfl (wanted_y hF rfl rfl rfl rfl) rfl rfl (yC fun M Z hN hZ => y_load_m (cs := [.int .i64 p0.1, .int .i64 p0.2.1, .int .i64 p0.2.2.1, .int .i64 p0.2.2.2.1, .int .i64 p0.2.2.2.2.1, .int .i64 p0.2.2.2.2.2.1, .int .i64 p0.2.2.2.2.2.2.1, .int .i64 p0.2.2.2.2.2.2.2.1, .int .i64 p0.2.2.2.2.2.2.2.2.1, v1]) (v := Value.agg #[.int .i64 p0.1, .int .i64 p0.2.1, .int .i64 p0.2.2.1, .int .i64 p0.2.2.2.1, .int .i64 p0.2.2.2.2.1, .int .i64 p0.2.2.2.2.2.1, .int .i64 p0.2.2.2.2.2.2.1, .int .i64 p0.2.2.2.2.2.2.2.1, .int .i64 p0.2.2.2.2.2.2.2.2.1, v1]) hF rfl (hN ((some 7), b1, [.int .i64 p0.1, .int .i64 p0.2.1, .int .i64 p0.2.2.1, .int .i64 p0.2.2.2.1, .int .i64 p0.2.2.2.2.1, .int .i64 p0.2.2.2.2.2.1, .int .i64 p0.2.2.2.2.2.2.1, .int .i64 p0.2.2.2.2.2.2.2.1, .int .i64 p0.2.2.2.2.2.2.2.2.1, v1]) (.tail _ (.tail _ (.head _))) rfl) T24 rfl) (by kernel_rfl) rfl (fun a hF => ?_)
    refine pl_w (R := [9]) hF rfl (wanted_y hF rfl rfl rfl rfl) rfl rfl (yC fun M Z hN hZ => y_load_m (cs := [.int .i64 p0.1, .int .i64 p0.2.1, .int .i64 p0.2.2.1, .int .i64 p0.2.2.2.1, .int .i64 p0.2.2.2.2.1, .int .i64 p0.2.2.2.2.2.1, .int .i64 p0.2.2.2.2.2.2.1, .int .i64 p0.2.2.2.2.2.2.2.1, .int .i64 p0.2.2.2.2.2.2.2.2.1, v1]) (v := Value.agg #[.int .i64 p0.1, .int .i64 p0.2.1, .int .i64 p0.2.2.1, .int .i64 p0.2.2.2.1, .int .i64 p0.2.2.2.2.1, .int .i64 p0.2.2.2.2.2.1, .int .i64 p0.2.2.2.2.2.2.1, .int .i64 p0.2.2.2.2.2.2.2.1, .int .i64 p0.2.2.2.2.2.2.2.2.1, v1]) hF rfl (hN ((some 9), b1, [.int .i64 p0.1, .int .i64 p0.2.1, .int .i64 p0.2.2.1, .int .i64 p0.2.2.2.1, .int .i64 p0.2.2.2.2.1, .int .i64 p0.2.2.2.2.2.1, .int .i64 p0.2.2.2.2.2.2.1, .int .i64 p0.2.2.2.2.2.2.2.1, .int .i64 p0.2.2.2.2.2.2.2.2.1, v1]) (.tail _ (.tail _ (.tail _ (.head _)))) rfl) T24 rfl) (by kernel_rfl) rfl (fun a hF => ?_)
    refine pl_f rfl ?_
    refine ls_g (wanted_y hF rfl rfl rfl rfl) ?_
    obtain ⟨x8, h8, H⟩ := bindE H
    refine l_callG (Ml := []) (Zl := []) (M := [(b2, [.int .i64 p1.1, .int .i64 p1.2.1, .int .i64 p1.2.2.1, .int .i64 p1.2.2.2.1, .int .i64 p1.2.2.2.2.1, .int .i64 p1.2.2.2.2.2.1, .int .i64 p1.2.2.2.2.2.2.1, .int .i64 p1.2.2.2.2.2.2.2.1, .int .i64 p1.2.2.2.2.2.2.2.2.1, v2]), (b1, [.int .i64 p0.1, .int .i64 p0.2.1, .int .i64 p0.2.2.1, .int .i64 p0.2.2.2.1, .int .i64 p0.2.2.2.2.1, .int .i64 p0.2.2.2.2.2.1, .int .i64 p0.2.2.2.2.2.2.1, .int .i64 p0.2.2.2.2.2.2.2.1, .int .i64 p0.2.2.2.2.2.2.2.2.1, v1])]) (Z := []) (β := Value) (rv := fun x => .agg #[.int .i64 x8.1, .int .i64 x8.2.1, .int .i64 x8.2.2.1, .int .i64 x8.2.2.2.1, .int .i64 x8.2.2.2.2.1, .int .i64 x8.2.2.2.2.2.1, .int .i64 x8.2.2.2.2.2.2.1, .int .i64 x8.2.2.2.2.2.2.2.1, .int .i64 x8.2.2.2.2.2.2.2.2.1, x]) (MM := fun x => []) (ZZ := fun x => [row x 42 R42 x8.2.2.2.2.2.2.2.2.2]) hF hW H10 rfl rfl (fun hL => proto_Clean_c _ w (v1) p0 _ h8 (Sl.hide EX42 h1 (hW.old s_v1))) (fun x a w hF hW => ?_)
    obtain ⟨v5, rfl⟩ : ∃ y, y = x := ⟨x, rfl⟩
    have hW : Stw ⟨Y, [], w0⟩ [(b2, [.int .i64 p1.1, .int .i64 p1.2.1, .int .i64 p1.2.2.1, .int .i64 p1.2.2.2.1, .int .i64 p1.2.2.2.2.1, .int .i64 p1.2.2.2.2.2.1, .int .i64 p1.2.2.2.2.2.2.1, .int .i64 p1.2.2.2.2.2.2.2.1, .int .i64 p1.2.2.2.2.2.2.2.2.1, v2]), (b1, [.int .i64 p0.1, .int .i64 p0.2.1, .int .i64 p0.2.2.1, .int .i64 p0.2.2.2.1, .int .i64 p0.2.2.2.2.1, .int .i64 p0.2.2.2.2.2.1, .int .i64 p0.2.2.2.2.2.2.1, .int .i64 p0.2.2.2.2.2.2.2.1, .int .i64 p0.2.2.2.2.2.2.2.2.1, v1])] [row v5 42 R42 x8.2.2.2.2.2.2.2.2.2] w := hW
    refine pl_next (N2 := []) (NZ2 := []) (N3 := [(some 1, b1, [.int .i64 p0.1, .int .i64 p0.2.1, .int .i64 p0.2.2.1, .int .i64 p0.2.2.2.1, .int .i64 p0.2.2.2.2.1, .int .i64 p0.2.2.2.2.2.1, .int .i64 p0.2.2.2.2.2.2.1, .int .i64 p0.2.2.2.2.2.2.2.1, .int .i64 p0.2.2.2.2.2.2.2.2.1, v1]), (some 3, b1, [.int .i64 p0.1, .int .i64 p0.2.1, .int .i64 p0.2.2.1, .int .i64 p0.2.2.2.1, .int .i64 p0.2.2.2.2.1, .int .i64 p0.2.2.2.2.2.1, .int .i64 p0.2.2.2.2.2.2.1, .int .i64 p0.2.2.2.2.2.2.2.1, .int .i64 p0.2.2.2.2.2.2.2.2.1, v1]), (some 7, b1, [.int .i64 p0.1, .int .i64 p0.2.1, .int .i64 p0.2.2.1, .int .i64 p0.2.2.2.1, .int .i64 p0.2.2.2.2.1, .int .i64 p0.2.2.2.2.2.1, .int .i64 p0.2.2.2.2.2.2.1, .int .i64 p0.2.2.2.2.2.2.2.1, .int .i64 p0.2.2.2.2.2.2.2.2.1, v1]), (some 9, b1, [.int .i64 p0.1, .int .i64 p0.2.1, .int .i64 p0.2.2.1, .int .i64 p0.2.2.2.1, .int .i64 p0.2.2.2.2.1, .int .i64 p0.2.2.2.2.2.1, .int .i64 p0.2.2.2.2.2.2.1, .int .i64 p0.2.2.2.2.2.2.2.1, .int .i64 p0.2.2.2.2.2.2.2.2.1, v1])]) (NZ3 := []) hW rfl rfl (all_cons (fun h => rel_dead (by kernel_rfl) h) (all_cons (fun h => rel_dead (by kernel_rfl) h) (all_cons (fun h => rel_dead (by kernel_rfl) h) (all_cons (fun _ => (.tail _ (.head _))) all_nil)))) all_nil ?_
    refine pl_f rfl ?_
    refine ls_g (wanted_y hF rfl rfl rfl rfl) ?_
    obtain ⟨x9, h9, H⟩ := bindE H
    refine l_callG (Ml := []) (Zl := []) (M := [(b2, [.int .i64 p1.1, .int .i64 p1.2.1, .int .i64 p1.2.2.1, .int .i64 p1.2.2.2.1, .int .i64 p1.2.2.2.2.1, .int .i64 p1.2.2.2.2.2.1, .int .i64 p1.2.2.2.2.2.2.1, .int .i64 p1.2.2.2.2.2.2.2.1, .int .i64 p1.2.2.2.2.2.2.2.2.1, v2]), (b1, [.int .i64 p0.1, .int .i64 p0.2.1, .int .i64 p0.2.2.1, .int .i64 p0.2.2.2.1, .int .i64 p0.2.2.2.2.1, .int .i64 p0.2.2.2.2.2.1, .int .i64 p0.2.2.2.2.2.2.1, .int .i64 p0.2.2.2.2.2.2.2.1, .int .i64 p0.2.2.2.2.2.2.2.2.1, v1])]) (Z := [row v5 42 R42 x8.2.2.2.2.2.2.2.2.2]) (β := Value) (rv := fun x => .agg #[.int .i64 x9.1, .int .i64 x9.2.1, .int .i64 x9.2.2.1, .int .i64 x9.2.2.2.1, .int .i64 x9.2.2.2.2.1, .int .i64 x9.2.2.2.2.2.1, .int .i64 x9.2.2.2.2.2.2.1, .int .i64 x9.2.2.2.2.2.2.2.1, .int .i64 x9.2.2.2.2.2.2.2.2.1, x]) (MM := fun x => []) (ZZ := fun x => [frz x R42 x9.2.2.2.2.2.2.2.2.2]) hF hW H11 rfl rfl (fun hL => r16_Clean_c _ w (v1) p0 _ h9 (Sl.hide EX42 h1 (hW.old s_v1))) (fun x a w hF hW => ?_)
    obtain ⟨v6, rfl⟩ : ∃ y, y = x := ⟨x, rfl⟩
    have hW : Stw ⟨Y, [], w0⟩ [(b2, [.int .i64 p1.1, .int .i64 p1.2.1, .int .i64 p1.2.2.1, .int .i64 p1.2.2.2.1, .int .i64 p1.2.2.2.2.1, .int .i64 p1.2.2.2.2.2.1, .int .i64 p1.2.2.2.2.2.2.1, .int .i64 p1.2.2.2.2.2.2.2.1, .int .i64 p1.2.2.2.2.2.2.2.2.1, v2]), (b1, [.int .i64 p0.1, .int .i64 p0.2.1, .int .i64 p0.2.2.1, .int .i64 p0.2.2.2.1, .int .i64 p0.2.2.2.2.1, .int .i64 p0.2.2.2.2.2.1, .int .i64 p0.2.2.2.2.2.2.1, .int .i64 p0.2.2.2.2.2.2.2.1, .int .i64 p0.2.2.2.2.2.2.2.2.1, v1])] [frz v6 R42 x9.2.2.2.2.2.2.2.2.2, row v5 42 R42 x8.2.2.2.2.2.2.2.2.2] w := hW
    refine pl_next (N2 := []) (NZ2 := []) (N3 := [(some 1, b1, [.int .i64 p0.1, .int .i64 p0.2.1, .int .i64 p0.2.2.1, .int .i64 p0.2.2.2.1, .int .i64 p0.2.2.2.2.1, .int .i64 p0.2.2.2.2.2.1, .int .i64 p0.2.2.2.2.2.2.1, .int .i64 p0.2.2.2.2.2.2.2.1, .int .i64 p0.2.2.2.2.2.2.2.2.1, v1]), (some 3, b1, [.int .i64 p0.1, .int .i64 p0.2.1, .int .i64 p0.2.2.1, .int .i64 p0.2.2.2.1, .int .i64 p0.2.2.2.2.1, .int .i64 p0.2.2.2.2.2.1, .int .i64 p0.2.2.2.2.2.2.1, .int .i64 p0.2.2.2.2.2.2.2.1, .int .i64 p0.2.2.2.2.2.2.2.2.1, v1]), (some 7, b1, [.int .i64 p0.1, .int .i64 p0.2.1, .int .i64 p0.2.2.1, .int .i64 p0.2.2.2.1, .int .i64 p0.2.2.2.2.1, .int .i64 p0.2.2.2.2.2.1, .int .i64 p0.2.2.2.2.2.2.1, .int .i64 p0.2.2.2.2.2.2.2.1, .int .i64 p0.2.2.2.2.2.2.2.2.1, v1]), (some 9, b1, [.int .i64 p0.1, .int .i64 p0.2.1, .int .i64 p0.2.2.1, .int .i64 p0.2.2.2.1, .int .i64 p0.2.2.2.2.1, .int .i64 p0.2.2.2.2.2.1, .int .i64 p0.2.2.2.2.2.2.1, .int .i64 p0.2.2.2.2.2.2.2.1, .int .i64 p0.2.2.2.2.2.2.2.2.1, v1])]) (NZ3 := []) hW rfl rfl (all_cons (fun h => rel_dead (by kernel_rfl) h) (all_cons (fun h => rel_dead (by kernel_rfl) h) (all_cons (fun h => rel_dead (by kernel_rfl) h) (all_cons (fun h => rel_dead (by kernel_rfl) h) all_nil)))) all_nil ?_
    refine pl_f rfl ?_
    refine ls_g (wanted_y hF rfl rfl rfl rfl) ?_
    obtain ⟨x10, h10, H⟩ := bindE H
    refine ls hF hW rfl (y_call (v := Value.bool x10) hF H9 rfl (fun w hW => r16_Same_c any w (v5) (v6) x8 x9 _ h10 (((rdc_row 1 rfl) : Rdc _ _ _ _ _ _) w hW).nx (((rdc_frz 0 rfl) : Rdc _ _ _ _ _ _) w hW).nx)) (fun a w hF hW => ?_)
    refine pl_next (N2 := [(some 16, b1, [.int .i64 p0.1, .int .i64 p0.2.1, .int .i64 p0.2.2.1, .int .i64 p0.2.2.2.1, .int .i64 p0.2.2.2.2.1, .int .i64 p0.2.2.2.2.2.1, .int .i64 p0.2.2.2.2.2.2.1, .int .i64 p0.2.2.2.2.2.2.2.1, .int .i64 p0.2.2.2.2.2.2.2.2.1, v1]), (some 16, b2, [.int .i64 p1.1, .int .i64 p1.2.1, .int .i64 p1.2.2.1, .int .i64 p1.2.2.2.1, .int .i64 p1.2.2.2.2.1, .int .i64 p1.2.2.2.2.2.1, .int .i64 p1.2.2.2.2.2.2.1, .int .i64 p1.2.2.2.2.2.2.2.1, .int .i64 p1.2.2.2.2.2.2.2.2.1, v2]), (some 19, b1, [.int .i64 p0.1, .int .i64 p0.2.1, .int .i64 p0.2.2.1, .int .i64 p0.2.2.2.1, .int .i64 p0.2.2.2.2.1, .int .i64 p0.2.2.2.2.2.1, .int .i64 p0.2.2.2.2.2.2.1, .int .i64 p0.2.2.2.2.2.2.2.1, .int .i64 p0.2.2.2.2.2.2.2.2.1, v1]), (some 19, b2, [.int .i64 p1.1, .int .i64 p1.2.1, .int .i64 p1.2.2.1, .int .i64 p1.2.2.2.1, .int .i64 p1.2.2.2.2.1, .int .i64 p1.2.2.2.2.2.1, .int .i64 p1.2.2.2.2.2.2.1, .int .i64 p1.2.2.2.2.2.2.2.1, .int .i64 p1.2.2.2.2.2.2.2.2.1, v2])]) (NZ2 := []) (N3 := [(some 1, b1, [.int .i64 p0.1, .int .i64 p0.2.1, .int .i64 p0.2.2.1, .int .i64 p0.2.2.2.1, .int .i64 p0.2.2.2.2.1, .int .i64 p0.2.2.2.2.2.1, .int .i64 p0.2.2.2.2.2.2.1, .int .i64 p0.2.2.2.2.2.2.2.1, .int .i64 p0.2.2.2.2.2.2.2.2.1, v1]), (some 3, b1, [.int .i64 p0.1, .int .i64 p0.2.1, .int .i64 p0.2.2.1, .int .i64 p0.2.2.2.1, .int .i64 p0.2.2.2.2.1, .int .i64 p0.2.2.2.2.2.1, .int .i64 p0.2.2.2.2.2.2.1, .int .i64 p0.2.2.2.2.2.2.2.1, .int .i64 p0.2.2.2.2.2.2.2.2.1, v1]), (some 7, b1, [.int .i64 p0.1, .int .i64 p0.2.1, .int .i64 p0.2.2.1, .int .i64 p0.2.2.2.1, .int .i64 p0.2.2.2.2.1, .int .i64 p0.2.2.2.2.2.1, .int .i64 p0.2.2.2.2.2.2.1, .int .i64 p0.2.2.2.2.2.2.2.1, .int .i64 p0.2.2.2.2.2.2.2.2.1, v1]), (some 9, b1, [.int .i64 p0.1, .int .i64 p0.2.1, .int .i64 p0.2.2.1, .int .i64 p0.2.2.2.1, .int .i64 p0.2.2.2.2.1, .int .i64 p0.2.2.2.2.2.1, .int .i64 p0.2.2.2.2.2.2.1, .int .i64 p0.2.2.2.2.2.2.2.1, .int .i64 p0.2.2.2.2.2.2.2.2.1, v1]), (some 16, b1, [.int .i64 p0.1, .int .i64 p0.2.1, .int .i64 p0.2.2.1, .int .i64 p0.2.2.2.1, .int .i64 p0.2.2.2.2.1, .int .i64 p0.2.2.2.2.2.1, .int .i64 p0.2.2.2.2.2.2.1, .int .i64 p0.2.2.2.2.2.2.2.1, .int .i64 p0.2.2.2.2.2.2.2.2.1, v1]), (some 16, b2, [.int .i64 p1.1, .int .i64 p1.2.1, .int .i64 p1.2.2.1, .int .i64 p1.2.2.2.1, .int .i64 p1.2.2.2.2.1, .int .i64 p1.2.2.2.2.2.1, .int .i64 p1.2.2.2.2.2.2.1, .int .i64 p1.2.2.2.2.2.2.2.1, .int .i64 p1.2.2.2.2.2.2.2.2.1, v2]), (some 19, b1, [.int .i64 p0.1, .int .i64 p0.2.1, .int .i64 p0.2.2.1, .int .i64 p0.2.2.2.1, .int .i64 p0.2.2.2.2.1, .int .i64 p0.2.2.2.2.2.1, .int .i64 p0.2.2.2.2.2.2.1, .int .i64 p0.2.2.2.2.2.2.2.1, .int .i64 p0.2.2.2.2.2.2.2.2.1, v1]), (some 19, b2, [.int .i64 p1.1, .int .i64 p1.2.1, .int .i64 p1.2.2.1, .int .i64 p1.2.2.2.1, .int .i64 p1.2.2.2.2.1, .int .i64 p1.2.2.2.2.2.1, .int .i64 p1.2.2.2.2.2.2.1, .int .i64 p1.2.2.2.2.2.2.2.1, .int .i64 p1.2.2.2.2.2.2.2.2.1, v2])]) (NZ3 := []) hW rfl rfl (all_cons (fun h => rel_dead (by kernel_rfl) h) (all_cons (fun h => rel_dead (by kernel_rfl) h) (all_cons (fun h => rel_dead (by kernel_rfl) h) (all_cons (fun h => rel_dead (by kernel_rfl) h) (all_cons (fun _ => (.tail _ (.head _))) (all_cons (fun _ => (.head _)) (all_cons (fun _ => (.tail _ (.head _))) (all_cons (fun _ => (.head _)) all_nil)))))))) all_nil ?_
    refine pl_w (R := []) hF rfl (wanted_y hF rfl rfl rfl rfl) rfl rfl (yC fun M Z hN hZ => y_not hF rfl) rfl rfl (fun a hF => ?_)
    refine pl_t (R := []) hF rfl rfl (yC fun M Z hN hZ => y_pick_f hF rfl rfl rfl) rfl rfl (fun a hF => ?_)
    refine pl_t (R := []) hF rfl rfl (yC fun M Z hN hZ => y_move hF rfl) rfl rfl (fun a hF => ?_)
    rcases Bool.eq_false_or_eq_true (!x10) with hb | hb
    ·
     have H := iteT hb H
     rw [hb] at hF
     clear hb
     refine pl_skip hF rfl (wanted_n hF rfl rfl rfl rfl rfl) rfl rfl rfl (fun a hF => ?_)
     refine pl_skip hF rfl (wanted_n hF rfl rfl rfl rfl rfl) rfl rfl rfl (fun a hF => ?_)
     refine pl_skip hF rfl (wanted_n hF rfl rfl rfl rfl rfl) rfl rfl rfl (fun a hF => ?_)
     refine pl_skip hF rfl (wanted_n hF rfl rfl rfl rfl rfl) rfl rfl rfl (fun a hF => ?_)
     refine pl_f rfl ?_
     refine lsn hF rfl rfl rfl rfl rfl rfl rfl (fun a hF => ?_)
     refine pl_next (N2 := []) (NZ2 := []) (N3 := [(some 1, b1, [.int .i64 p0.1, .int .i64 p0.2.1, .int .i64 p0.2.2.1, .int .i64 p0.2.2.2.1, .int .i64 p0.2.2.2.2.1, .int .i64 p0.2.2.2.2.2.1, .int .i64 p0.2.2.2.2.2.2.1, .int .i64 p0.2.2.2.2.2.2.2.1, .int .i64 p0.2.2.2.2.2.2.2.2.1, v1]), (some 3, b1, [.int .i64 p0.1, .int .i64 p0.2.1, .int .i64 p0.2.2.1, .int .i64 p0.2.2.2.1, .int .i64 p0.2.2.2.2.1, .int .i64 p0.2.2.2.2.2.1, .int .i64 p0.2.2.2.2.2.2.1, .int .i64 p0.2.2.2.2.2.2.2.1, .int .i64 p0.2.2.2.2.2.2.2.2.1, v1]), (some 7, b1, [.int .i64 p0.1, .int .i64 p0.2.1, .int .i64 p0.2.2.1, .int .i64 p0.2.2.2.1, .int .i64 p0.2.2.2.2.1, .int .i64 p0.2.2.2.2.2.1, .int .i64 p0.2.2.2.2.2.2.1, .int .i64 p0.2.2.2.2.2.2.2.1, .int .i64 p0.2.2.2.2.2.2.2.2.1, v1]), (some 9, b1, [.int .i64 p0.1, .int .i64 p0.2.1, .int .i64 p0.2.2.1, .int .i64 p0.2.2.2.1, .int .i64 p0.2.2.2.2.1, .int .i64 p0.2.2.2.2.2.1, .int .i64 p0.2.2.2.2.2.2.1, .int .i64 p0.2.2.2.2.2.2.2.1, .int .i64 p0.2.2.2.2.2.2.2.2.1, v1]), (some 16, b1, [.int .i64 p0.1, .int .i64 p0.2.1, .int .i64 p0.2.2.1, .int .i64 p0.2.2.2.1, .int .i64 p0.2.2.2.2.1, .int .i64 p0.2.2.2.2.2.1, .int .i64 p0.2.2.2.2.2.2.1, .int .i64 p0.2.2.2.2.2.2.2.1, .int .i64 p0.2.2.2.2.2.2.2.2.1, v1]), (some 16, b2, [.int .i64 p1.1, .int .i64 p1.2.1, .int .i64 p1.2.2.1, .int .i64 p1.2.2.2.1, .int .i64 p1.2.2.2.2.1, .int .i64 p1.2.2.2.2.2.1, .int .i64 p1.2.2.2.2.2.2.1, .int .i64 p1.2.2.2.2.2.2.2.1, .int .i64 p1.2.2.2.2.2.2.2.2.1, v2]), (some 19, b1, [.int .i64 p0.1, .int .i64 p0.2.1, .int .i64 p0.2.2.1, .int .i64 p0.2.2.2.1, .int .i64 p0.2.2.2.2.1, .int .i64 p0.2.2.2.2.2.1, .int .i64 p0.2.2.2.2.2.2.1, .int .i64 p0.2.2.2.2.2.2.2.1, .int .i64 p0.2.2.2.2.2.2.2.2.1, v1]), (some 19, b2, [.int .i64 p1.1, .int .i64 p1.2.1, .int .i64 p1.2.2.1, .int .i64 p1.2.2.2.1, .int .i64 p1.2.2.2.2.1, .int .i64 p1.2.2.2.2.2.1, .int .i64 p1.2.2.2.2.2.2.1, .int .i64 p1.2.2.2.2.2.2.2.1, .int .i64 p1.2.2.2.2.2.2.2.2.1, v2])]) (NZ3 := []) hW rfl rfl (all_cons (fun h => rel_dead (by kernel_rfl) h) (all_cons (fun h => rel_dead (by kernel_rfl) h) (all_cons (fun h => rel_dead (by kernel_rfl) h) (all_cons (fun h => rel_dead (by kernel_rfl) h) (all_cons (fun h => rel_dead (by kernel_rfl) h) (all_cons (fun h => rel_dead (by kernel_rfl) h) (all_cons (fun _ => (.tail _ (.head _))) (all_cons (fun _ => (.head _)) all_nil)))))))) all_nil ?_
     refine pl_f rfl ?_
     refine lsn hF rfl rfl rfl rfl rfl rfl rfl (fun a hF => ?_)
     refine pl_next (N2 := []) (NZ2 := []) (N3 := [(some 1, b1, [.int .i64 p0.1, .int .i64 p0.2.1, .int .i64 p0.2.2.1, .int .i64 p0.2.2.2.1, .int .i64 p0.2.2.2.2.1, .int .i64 p0.2.2.2.2.2.1, .int .i64 p0.2.2.2.2.2.2.1, .int .i64 p0.2.2.2.2.2.2.2.1, .int .i64 p0.2.2.2.2.2.2.2.2.1, v1]), (some 3, b1, [.int .i64 p0.1, .int .i64 p0.2.1, .int .i64 p0.2.2.1, .int .i64 p0.2.2.2.1, .int .i64 p0.2.2.2.2.1, .int .i64 p0.2.2.2.2.2.1, .int .i64 p0.2.2.2.2.2.2.1, .int .i64 p0.2.2.2.2.2.2.2.1, .int .i64 p0.2.2.2.2.2.2.2.2.1, v1]), (some 7, b1, [.int .i64 p0.1, .int .i64 p0.2.1, .int .i64 p0.2.2.1, .int .i64 p0.2.2.2.1, .int .i64 p0.2.2.2.2.1, .int .i64 p0.2.2.2.2.2.1, .int .i64 p0.2.2.2.2.2.2.1, .int .i64 p0.2.2.2.2.2.2.2.1, .int .i64 p0.2.2.2.2.2.2.2.2.1, v1]), (some 9, b1, [.int .i64 p0.1, .int .i64 p0.2.1, .int .i64 p0.2.2.1, .int .i64 p0.2.2.2.1, .int .i64 p0.2.2.2.2.1, .int .i64 p0.2.2.2.2.2.1, .int .i64 p0.2.2.2.2.2.2.1, .int .i64 p0.2.2.2.2.2.2.2.1, .int .i64 p0.2.2.2.2.2.2.2.2.1, v1]), (some 16, b1, [.int .i64 p0.1, .int .i64 p0.2.1, .int .i64 p0.2.2.1, .int .i64 p0.2.2.2.1, .int .i64 p0.2.2.2.2.1, .int .i64 p0.2.2.2.2.2.1, .int .i64 p0.2.2.2.2.2.2.1, .int .i64 p0.2.2.2.2.2.2.2.1, .int .i64 p0.2.2.2.2.2.2.2.2.1, v1]), (some 16, b2, [.int .i64 p1.1, .int .i64 p1.2.1, .int .i64 p1.2.2.1, .int .i64 p1.2.2.2.1, .int .i64 p1.2.2.2.2.1, .int .i64 p1.2.2.2.2.2.1, .int .i64 p1.2.2.2.2.2.2.1, .int .i64 p1.2.2.2.2.2.2.2.1, .int .i64 p1.2.2.2.2.2.2.2.2.1, v2]), (some 19, b1, [.int .i64 p0.1, .int .i64 p0.2.1, .int .i64 p0.2.2.1, .int .i64 p0.2.2.2.1, .int .i64 p0.2.2.2.2.1, .int .i64 p0.2.2.2.2.2.1, .int .i64 p0.2.2.2.2.2.2.1, .int .i64 p0.2.2.2.2.2.2.2.1, .int .i64 p0.2.2.2.2.2.2.2.2.1, v1]), (some 19, b2, [.int .i64 p1.1, .int .i64 p1.2.1, .int .i64 p1.2.2.1, .int .i64 p1.2.2.2.1, .int .i64 p1.2.2.2.2.1, .int .i64 p1.2.2.2.2.2.1, .int .i64 p1.2.2.2.2.2.2.1, .int .i64 p1.2.2.2.2.2.2.2.1, .int .i64 p1.2.2.2.2.2.2.2.2.1, v2])]) (NZ3 := []) hW rfl rfl (all_cons (fun h => rel_dead (by kernel_rfl) h) (all_cons (fun h => rel_dead (by kernel_rfl) h) (all_cons (fun h => rel_dead (by kernel_rfl) h) (all_cons (fun h => rel_dead (by kernel_rfl) h) (all_cons (fun h => rel_dead (by kernel_rfl) h) (all_cons (fun h => rel_dead (by kernel_rfl) h) (all_cons (fun h => rel_dead (by kernel_rfl) h) (all_cons (fun h => rel_dead (by kernel_rfl) h) all_nil)))))))) all_nil ?_
     refine pl_skip hF rfl (wanted_n hF rfl rfl rfl rfl rfl) rfl rfl rfl (fun a hF => ?_)
     refine pl_t (R := []) hF rfl rfl (yC fun M Z hN hZ => y_pick_t hF rfl rfl rfl) rfl rfl (fun a hF => ?_)
     refine pl_end ?_
     refine c_then ?_
     have hW := hW.frontM (i := 1) rfl rfl
     have hW := hW.frontM (i := 1) rfl rfl
     have hW := hW.sub (M' := [(b2, [.int .i64 p1.1, .int .i64 p1.2.1, .int .i64 p1.2.2.1, .int .i64 p1.2.2.2.1, .int .i64 p1.2.2.2.2.1, .int .i64 p1.2.2.2.2.2.1, .int .i64 p1.2.2.2.2.2.2.1, .int .i64 p1.2.2.2.2.2.2.2.1, .int .i64 p1.2.2.2.2.2.2.2.2.1, v2]), (b1, [.int .i64 p0.1, .int .i64 p0.2.1, .int .i64 p0.2.2.1, .int .i64 p0.2.2.2.1, .int .i64 p0.2.2.2.2.1, .int .i64 p0.2.2.2.2.2.1, .int .i64 p0.2.2.2.2.2.2.1, .int .i64 p0.2.2.2.2.2.2.2.1, .int .i64 p0.2.2.2.2.2.2.2.2.1, v1])]) (Z' := []) (List.Sublist.refl _) (List.nil_sublist _)
     exact ⟨_, H, hF.re ⟨rfl, rfl, rfl, trivial⟩, hW⟩
    ·
     have H := iteF (by rw [hb]; decide) H
     rw [hb] at hF
     clear hb
     refine pl_w (R := [16]) hF rfl (wanted_y hF rfl rfl rfl rfl) rfl rfl (yC fun M Z hN hZ => y_load_m (cs := [.int .i64 p0.1, .int .i64 p0.2.1, .int .i64 p0.2.2.1, .int .i64 p0.2.2.2.1, .int .i64 p0.2.2.2.2.1, .int .i64 p0.2.2.2.2.2.1, .int .i64 p0.2.2.2.2.2.2.1, .int .i64 p0.2.2.2.2.2.2.2.1, .int .i64 p0.2.2.2.2.2.2.2.2.1, v1]) (v := Value.agg #[.int .i64 p0.1, .int .i64 p0.2.1, .int .i64 p0.2.2.1, .int .i64 p0.2.2.2.1, .int .i64 p0.2.2.2.2.1, .int .i64 p0.2.2.2.2.2.1, .int .i64 p0.2.2.2.2.2.2.1, .int .i64 p0.2.2.2.2.2.2.2.1, .int .i64 p0.2.2.2.2.2.2.2.2.1, v1]) hF rfl (hN ((some 16), b1, [.int .i64 p0.1, .int .i64 p0.2.1, .int .i64 p0.2.2.1, .int .i64 p0.2.2.2.1, .int .i64 p0.2.2.2.2.1, .int .i64 p0.2.2.2.2.2.1, .int .i64 p0.2.2.2.2.2.2.1, .int .i64 p0.2.2.2.2.2.2.2.1, .int .i64 p0.2.2.2.2.2.2.2.2.1, v1]) (.tail _ (.tail _ (.tail _ (.tail _ (.head _))))) rfl) T24 rfl) (by kernel_rfl) rfl (fun a hF => ?_)
     refine pl_w (R := [16]) hF rfl (wanted_y hF rfl rfl rfl rfl) rfl rfl (yC fun M Z hN hZ => y_load_m (cs := [.int .i64 p1.1, .int .i64 p1.2.1, .int .i64 p1.2.2.1, .int .i64 p1.2.2.2.1, .int .i64 p1.2.2.2.2.1, .int .i64 p1.2.2.2.2.2.1, .int .i64 p1.2.2.2.2.2.2.1, .int .i64 p1.2.2.2.2.2.2.2.1, .int .i64 p1.2.2.2.2.2.2.2.2.1, v2]) (v := Value.agg #[.int .i64 p1.1, .int .i64 p1.2.1, .int .i64 p1.2.2.1, .int .i64 p1.2.2.2.1, .int .i64 p1.2.2.2.2.1, .int .i64 p1.2.2.2.2.2.1, .int .i64 p1.2.2.2.2.2.2.1, .int .i64 p1.2.2.2.2.2.2.2.1, .int .i64 p1.2.2.2.2.2.2.2.2.1, v2]) hF rfl (hN ((some 16), b2, [.int .i64 p1.1, .int .i64 p1.2.1, .int .i64 p1.2.2.1, .int .i64 p1.2.2.2.1, .int .i64 p1.2.2.2.2.1, .int .i64 p1.2.2.2.2.2.1, .int .i64 p1.2.2.2.2.2.2.1, .int .i64 p1.2.2.2.2.2.2.2.1, .int .i64 p1.2.2.2.2.2.2.2.2.1, v2]) (.tail _ (.tail _ (.tail _ (.tail _ (.tail _ (.head _)))))) rfl) T24 rfl) (by kernel_rfl) rfl (fun a hF => ?_)
     refine pl_w (R := [19]) hF rfl (wanted_y hF rfl rfl rfl rfl) rfl rfl (yC fun M Z hN hZ => y_load_m (cs := [.int .i64 p0.1, .int .i64 p0.2.1, .int .i64 p0.2.2.1, .int .i64 p0.2.2.2.1, .int .i64 p0.2.2.2.2.1, .int .i64 p0.2.2.2.2.2.1, .int .i64 p0.2.2.2.2.2.2.1, .int .i64 p0.2.2.2.2.2.2.2.1, .int .i64 p0.2.2.2.2.2.2.2.2.1, v1]) (v := Value.agg #[.int .i64 p0.1, .int .i64 p0.2.1, .int .i64 p0.2.2.1, .int .i64 p0.2.2.2.1, .int .i64 p0.2.2.2.2.1, .int .i64 p0.2.2.2.2.2.1, .int .i64 p0.2.2.2.2.2.2.1, .int .i64 p0.2.2.2.2.2.2.2.1, .int .i64 p0.2.2.2.2.2.2.2.2.1, v1]) hF rfl (hN ((some 19), b1, [.int .i64 p0.1, .int .i64 p0.2.1, .int .i64 p0.2.2.1, .int .i64 p0.2.2.2.1, .int .i64 p0.2.2.2.2.1, .int .i64 p0.2.2.2.2.2.1, .int .i64 p0.2.2.2.2.2.2.1, .int .i64 p0.2.2.2.2.2.2.2.1, .int .i64 p0.2.2.2.2.2.2.2.2.1, v1]) (.tail _ (.tail _ (.tail _ (.tail _ (.tail _ (.tail _ (.head _))))))) rfl) T24 rfl) (by kernel_rfl) rfl (fun a hF => ?_)
     refine pl_w (R := [19]) hF rfl (wanted_y hF rfl rfl rfl rfl) rfl rfl (yC fun M Z hN hZ => y_load_m (cs := [.int .i64 p1.1, .int .i64 p1.2.1, .int .i64 p1.2.2.1, .int .i64 p1.2.2.2.1, .int .i64 p1.2.2.2.2.1, .int .i64 p1.2.2.2.2.2.1, .int .i64 p1.2.2.2.2.2.2.1, .int .i64 p1.2.2.2.2.2.2.2.1, .int .i64 p1.2.2.2.2.2.2.2.2.1, v2]) (v := Value.agg #[.int .i64 p1.1, .int .i64 p1.2.1, .int .i64 p1.2.2.1, .int .i64 p1.2.2.2.1, .int .i64 p1.2.2.2.2.1, .int .i64 p1.2.2.2.2.2.1, .int .i64 p1.2.2.2.2.2.2.1, .int .i64 p1.2.2.2.2.2.2.2.1, .int .i64 p1.2.2.2.2.2.2.2.2.1, v2]) hF rfl (hN ((some 19), b2, [.int .i64 p1.1, .int .i64 p1.2.1, .int .i64 p1.2.2.1, .int .i64 p1.2.2.2.1, .int .i64 p1.2.2.2.2.1, .int .i64 p1.2.2.2.2.2.1, .int .i64 p1.2.2.2.2.2.2.1, .int .i64 p1.2.2.2.2.2.2.2.1, .int .i64 p1.2.2.2.2.2.2.2.2.1, v2]) (.tail _ (.tail _ (.tail _ (.tail _ (.tail _ (.tail _ (.tail _ (.head _)))))))) rfl) T24 rfl) (by kernel_rfl) rfl (fun a hF => ?_)
     refine pl_f rfl ?_
     refine ls_g (wanted_y hF rfl rfl rfl rfl) ?_
     obtain ⟨x11, h11, H⟩ := bindE H
     refine ls hF hW rfl (y_call (v := Value.bool x11) hF H12 rfl (fun w hW => proto_Same_c any w (v1) (v2) p0 p1 _ h11 (((rdc_hide EX42 h1 (rdc_ro h_v1)) : Rdc _ _ _ _ _ _) w hW).nx (((rdc_hide EX42 h2 (rdc_ro h_v2)) : Rdc _ _ _ _ _ _) w hW).nx)) (fun a w hF hW => ?_)
     refine pl_next (N2 := []) (NZ2 := []) (N3 := [(some 1, b1, [.int .i64 p0.1, .int .i64 p0.2.1, .int .i64 p0.2.2.1, .int .i64 p0.2.2.2.1, .int .i64 p0.2.2.2.2.1, .int .i64 p0.2.2.2.2.2.1, .int .i64 p0.2.2.2.2.2.2.1, .int .i64 p0.2.2.2.2.2.2.2.1, .int .i64 p0.2.2.2.2.2.2.2.2.1, v1]), (some 3, b1, [.int .i64 p0.1, .int .i64 p0.2.1, .int .i64 p0.2.2.1, .int .i64 p0.2.2.2.1, .int .i64 p0.2.2.2.2.1, .int .i64 p0.2.2.2.2.2.1, .int .i64 p0.2.2.2.2.2.2.1, .int .i64 p0.2.2.2.2.2.2.2.1, .int .i64 p0.2.2.2.2.2.2.2.2.1, v1]), (some 7, b1, [.int .i64 p0.1, .int .i64 p0.2.1, .int .i64 p0.2.2.1, .int .i64 p0.2.2.2.1, .int .i64 p0.2.2.2.2.1, .int .i64 p0.2.2.2.2.2.1, .int .i64 p0.2.2.2.2.2.2.1, .int .i64 p0.2.2.2.2.2.2.2.1, .int .i64 p0.2.2.2.2.2.2.2.2.1, v1]), (some 9, b1, [.int .i64 p0.1, .int .i64 p0.2.1, .int .i64 p0.2.2.1, .int .i64 p0.2.2.2.1, .int .i64 p0.2.2.2.2.1, .int .i64 p0.2.2.2.2.2.1, .int .i64 p0.2.2.2.2.2.2.1, .int .i64 p0.2.2.2.2.2.2.2.1, .int .i64 p0.2.2.2.2.2.2.2.2.1, v1]), (some 16, b1, [.int .i64 p0.1, .int .i64 p0.2.1, .int .i64 p0.2.2.1, .int .i64 p0.2.2.2.1, .int .i64 p0.2.2.2.2.1, .int .i64 p0.2.2.2.2.2.1, .int .i64 p0.2.2.2.2.2.2.1, .int .i64 p0.2.2.2.2.2.2.2.1, .int .i64 p0.2.2.2.2.2.2.2.2.1, v1]), (some 16, b2, [.int .i64 p1.1, .int .i64 p1.2.1, .int .i64 p1.2.2.1, .int .i64 p1.2.2.2.1, .int .i64 p1.2.2.2.2.1, .int .i64 p1.2.2.2.2.2.1, .int .i64 p1.2.2.2.2.2.2.1, .int .i64 p1.2.2.2.2.2.2.2.1, .int .i64 p1.2.2.2.2.2.2.2.2.1, v2]), (some 19, b1, [.int .i64 p0.1, .int .i64 p0.2.1, .int .i64 p0.2.2.1, .int .i64 p0.2.2.2.1, .int .i64 p0.2.2.2.2.1, .int .i64 p0.2.2.2.2.2.1, .int .i64 p0.2.2.2.2.2.2.1, .int .i64 p0.2.2.2.2.2.2.2.1, .int .i64 p0.2.2.2.2.2.2.2.2.1, v1]), (some 19, b2, [.int .i64 p1.1, .int .i64 p1.2.1, .int .i64 p1.2.2.1, .int .i64 p1.2.2.2.1, .int .i64 p1.2.2.2.2.1, .int .i64 p1.2.2.2.2.2.1, .int .i64 p1.2.2.2.2.2.2.1, .int .i64 p1.2.2.2.2.2.2.2.1, .int .i64 p1.2.2.2.2.2.2.2.2.1, v2])]) (NZ3 := []) hW rfl rfl (all_cons (fun h => rel_dead (by kernel_rfl) h) (all_cons (fun h => rel_dead (by kernel_rfl) h) (all_cons (fun h => rel_dead (by kernel_rfl) h) (all_cons (fun h => rel_dead (by kernel_rfl) h) (all_cons (fun h => rel_dead (by kernel_rfl) h) (all_cons (fun h => rel_dead (by kernel_rfl) h) (all_cons (fun _ => (.tail _ (.head _))) (all_cons (fun _ => (.head _)) all_nil)))))))) all_nil ?_
     refine pl_f rfl ?_
     refine ls_g (wanted_y hF rfl rfl rfl rfl) ?_
     obtain ⟨x12, h12, H⟩ := bindE H
     refine ls hF hW rfl (y_call (v := Value.bool x12) hF H9 rfl (fun w hW => r16_Same_c any w (v1) (v2) p0 p1 _ h12 (((rdc_hide EX42 h1 (rdc_ro h_v1)) : Rdc _ _ _ _ _ _) w hW).nx (((rdc_hide EX42 h2 (rdc_ro h_v2)) : Rdc _ _ _ _ _ _) w hW).nx)) (fun a w hF hW => ?_)
     refine pl_next (N2 := []) (NZ2 := []) (N3 := [(some 1, b1, [.int .i64 p0.1, .int .i64 p0.2.1, .int .i64 p0.2.2.1, .int .i64 p0.2.2.2.1, .int .i64 p0.2.2.2.2.1, .int .i64 p0.2.2.2.2.2.1, .int .i64 p0.2.2.2.2.2.2.1, .int .i64 p0.2.2.2.2.2.2.2.1, .int .i64 p0.2.2.2.2.2.2.2.2.1, v1]), (some 3, b1, [.int .i64 p0.1, .int .i64 p0.2.1, .int .i64 p0.2.2.1, .int .i64 p0.2.2.2.1, .int .i64 p0.2.2.2.2.1, .int .i64 p0.2.2.2.2.2.1, .int .i64 p0.2.2.2.2.2.2.1, .int .i64 p0.2.2.2.2.2.2.2.1, .int .i64 p0.2.2.2.2.2.2.2.2.1, v1]), (some 7, b1, [.int .i64 p0.1, .int .i64 p0.2.1, .int .i64 p0.2.2.1, .int .i64 p0.2.2.2.1, .int .i64 p0.2.2.2.2.1, .int .i64 p0.2.2.2.2.2.1, .int .i64 p0.2.2.2.2.2.2.1, .int .i64 p0.2.2.2.2.2.2.2.1, .int .i64 p0.2.2.2.2.2.2.2.2.1, v1]), (some 9, b1, [.int .i64 p0.1, .int .i64 p0.2.1, .int .i64 p0.2.2.1, .int .i64 p0.2.2.2.1, .int .i64 p0.2.2.2.2.1, .int .i64 p0.2.2.2.2.2.1, .int .i64 p0.2.2.2.2.2.2.1, .int .i64 p0.2.2.2.2.2.2.2.1, .int .i64 p0.2.2.2.2.2.2.2.2.1, v1]), (some 16, b1, [.int .i64 p0.1, .int .i64 p0.2.1, .int .i64 p0.2.2.1, .int .i64 p0.2.2.2.1, .int .i64 p0.2.2.2.2.1, .int .i64 p0.2.2.2.2.2.1, .int .i64 p0.2.2.2.2.2.2.1, .int .i64 p0.2.2.2.2.2.2.2.1, .int .i64 p0.2.2.2.2.2.2.2.2.1, v1]), (some 16, b2, [.int .i64 p1.1, .int .i64 p1.2.1, .int .i64 p1.2.2.1, .int .i64 p1.2.2.2.1, .int .i64 p1.2.2.2.2.1, .int .i64 p1.2.2.2.2.2.1, .int .i64 p1.2.2.2.2.2.2.1, .int .i64 p1.2.2.2.2.2.2.2.1, .int .i64 p1.2.2.2.2.2.2.2.2.1, v2]), (some 19, b1, [.int .i64 p0.1, .int .i64 p0.2.1, .int .i64 p0.2.2.1, .int .i64 p0.2.2.2.1, .int .i64 p0.2.2.2.2.1, .int .i64 p0.2.2.2.2.2.1, .int .i64 p0.2.2.2.2.2.2.1, .int .i64 p0.2.2.2.2.2.2.2.1, .int .i64 p0.2.2.2.2.2.2.2.2.1, v1]), (some 19, b2, [.int .i64 p1.1, .int .i64 p1.2.1, .int .i64 p1.2.2.1, .int .i64 p1.2.2.2.1, .int .i64 p1.2.2.2.2.1, .int .i64 p1.2.2.2.2.2.1, .int .i64 p1.2.2.2.2.2.2.1, .int .i64 p1.2.2.2.2.2.2.2.1, .int .i64 p1.2.2.2.2.2.2.2.2.1, v2])]) (NZ3 := []) hW rfl rfl (all_cons (fun h => rel_dead (by kernel_rfl) h) (all_cons (fun h => rel_dead (by kernel_rfl) h) (all_cons (fun h => rel_dead (by kernel_rfl) h) (all_cons (fun h => rel_dead (by kernel_rfl) h) (all_cons (fun h => rel_dead (by kernel_rfl) h) (all_cons (fun h => rel_dead (by kernel_rfl) h) (all_cons (fun h => rel_dead (by kernel_rfl) h) (all_cons (fun h => rel_dead (by kernel_rfl) h) all_nil)))))))) all_nil ?_
     refine pl_w (R := []) hF rfl (wanted_y hF rfl rfl rfl rfl) rfl rfl (yC fun M Z hN hZ => y_neb u4_ hF rfl rfl) rfl rfl (fun a hF => ?_)
     refine pl_t (R := []) hF rfl rfl (yC fun M Z hN hZ => y_pick_f hF rfl rfl rfl) rfl rfl (fun a hF => ?_)
     refine pl_end ?_
     refine c_then ?_
     have hW := hW.frontM (i := 1) rfl rfl
     have hW := hW.frontM (i := 1) rfl rfl
     have hW := hW.sub (M' := [(b2, [.int .i64 p1.1, .int .i64 p1.2.1, .int .i64 p1.2.2.1, .int .i64 p1.2.2.2.1, .int .i64 p1.2.2.2.2.1, .int .i64 p1.2.2.2.2.2.1, .int .i64 p1.2.2.2.2.2.2.1, .int .i64 p1.2.2.2.2.2.2.2.1, .int .i64 p1.2.2.2.2.2.2.2.2.1, v2]), (b1, [.int .i64 p0.1, .int .i64 p0.2.1, .int .i64 p0.2.2.1, .int .i64 p0.2.2.2.1, .int .i64 p0.2.2.2.2.1, .int .i64 p0.2.2.2.2.2.1, .int .i64 p0.2.2.2.2.2.2.1, .int .i64 p0.2.2.2.2.2.2.2.1, .int .i64 p0.2.2.2.2.2.2.2.2.1, v1])]) (Z' := []) (List.Sublist.refl _) (List.nil_sublist _)
     exact ⟨_, H, hF.re ⟨rfl, rfl, rfl, trivial⟩, hW⟩
  rintro a w ⟨x5, hj, hF, hW⟩
  have hj := Option.some.inj hj
  subst hj
  have H := K2
  clear G2 K2
  refine c_cond hF rfl (fun hb => ?_) (fun hb => ?_)
  ·
   have H := iteT hb H
   rw [hb] at hF
   clear hb
   refine c_seq ?_
   refine reg_list ?_
   refine ls hF hW rfl ((y_assign hF rfl).q) (fun a w hF hW => ?_)
   refine ls_nil ?_
   refine c_then ?_
   refine wp_ret ?_
   refine r_then ?_
   have H := Option.some.inj H
   subst H
   refine post1 (.inl rfl) hF hW rfl (rv_tmp hF rfl) ?_
   exact ⟨rfl, hW.done⟩
  ·
   have H := iteF (by rw [hb]; decide) H
   rw [hb] at hF
   clear hb
   refine wp_skip ?_
   refine c_then ?_
   obtain ⟨o3, G3, K3⟩ := bindE H
   refine c_seqJ (fun a w => ∃ x13 : Bool, some (x13) = some o3 ∧ Fr 49 [] [(4, .bool x13)] a ∧ Stw ⟨Y, [], w0⟩ [(b2, [.int .i64 p1.1, .int .i64 p1.2.1, .int .i64 p1.2.2.1, .int .i64 p1.2.2.2.1, .int .i64 p1.2.2.2.2.1, .int .i64 p1.2.2.2.2.2.1, .int .i64 p1.2.2.2.2.2.2.1, .int .i64 p1.2.2.2.2.2.2.2.1, .int .i64 p1.2.2.2.2.2.2.2.2.1, v2]), (b1, [.int .i64 p0.1, .int .i64 p0.2.1, .int .i64 p0.2.2.1, .int .i64 p0.2.2.2.1, .int .i64 p0.2.2.2.2.1, .int .i64 p0.2.2.2.2.2.1, .int .i64 p0.2.2.2.2.2.2.1, .int .i64 p0.2.2.2.2.2.2.2.1, .int .i64 p0.2.2.2.2.2.2.2.2.1, v1])] [] w) ?_ ?_
   ·
    have H := G3
    clear G3 K3
    refine reg_quiet hW MO (by kernel_rfl) ?_
    refine qs hF rfl ((y_load (v := Value.agg #[.int .i64 p0.1, .int .i64 p0.2.1, .int .i64 p0.2.2.1, .int .i64 p0.2.2.2.1, .int .i64 p0.2.2.2.2.1, .int .i64 p0.2.2.2.2.2.1, .int .i64 p0.2.2.2.2.2.2.1, .int .i64 p0.2.2.2.2.2.2.2.1, .int .i64 p0.2.2.2.2.2.2.2.2.1, v1]) 1 hF rfl rfl T24 rfl).q) (fun a hF => ?_)
    obtain ⟨x14, h13, H⟩ := bindE H
    refine qs hF rfl (y_call (v := Value.bool x14) hF H8 rfl (fun w hW => r16_Right_c any w (v1) p0 _ h13 ((rdc_hide EX42 h1 (rdc_ro h_v1)) w hW))) (fun a hF => ?_)
    refine qs hF rfl ((y_not hF rfl).q) (fun a hF => ?_)
    refine qs hF rfl ((y_move hF rfl).q) (fun a hF => ?_)
    rcases Bool.eq_false_or_eq_true (!x14) with hb | hb
    ·
     have H := iteT hb H
     rw [hb] at hF
     clear hb
     refine qs_skip hF (wanted_n hF rfl rfl rfl rfl rfl) rfl rfl (fun a hF => ?_)
     refine qs_skip hF (wanted_n hF rfl rfl rfl rfl rfl) rfl rfl (fun a hF => ?_)
     refine qs_skip hF (wanted_n hF rfl rfl rfl rfl rfl) rfl rfl (fun a hF => ?_)
     refine qs_skip hF (wanted_n hF rfl rfl rfl rfl rfl) rfl rfl (fun a hF => ?_)
     refine qs_skip hF (wanted_n hF rfl rfl rfl rfl rfl) rfl rfl (fun a hF => ?_)
     refine qs hF rfl ((y_pick_t hF rfl rfl rfl).q) (fun a hF => ?_)
     refine qs hF rfl ((y_move hF rfl).q) (fun a hF => ?_)
     obtain ⟨x15, h14, H⟩ := bindE H
     refine qs_w hF (wanted_y hF rfl rfl rfl rfl) rfl (Nat.le_of_ble_eq_true rfl) (y_call (v := Value.bool x15) hF H6 rfl (fun w hW => L16_awake_c any w _ h14)) (fun a hF => ?_)
     refine qs hF rfl ((y_pick_t hF rfl rfl rfl).q) (fun a hF => ?_)
     refine qs hF rfl ((y_assign hF rfl).q) (fun a hF => ?_)
     refine quiet_end (fun w hW => ?_)
     refine c_then ?_
     have hW := hW.frontM (i := 1) rfl rfl
     have hW := hW.frontM (i := 1) rfl rfl
     exact ⟨_, H, hF.re ⟨rfl, trivial⟩, hW⟩
    ·
     have H := iteF (by rw [hb]; decide) H
     rw [hb] at hF
     clear hb
     refine qs_w hF (wanted_y hF rfl rfl rfl rfl) rfl (Nat.le_of_ble_eq_true rfl) ((y_load (v := Value.agg #[.int .i64 p0.1, .int .i64 p0.2.1, .int .i64 p0.2.2.1, .int .i64 p0.2.2.2.1, .int .i64 p0.2.2.2.2.1, .int .i64 p0.2.2.2.2.2.1, .int .i64 p0.2.2.2.2.2.2.1, .int .i64 p0.2.2.2.2.2.2.2.1, .int .i64 p0.2.2.2.2.2.2.2.2.1, v1]) 1 hF rfl rfl T24 rfl).q) (fun a hF => ?_)
     obtain ⟨x16, h15, H⟩ := bindE H
     refine qs_w hF (wanted_y hF rfl rfl rfl rfl) rfl (Nat.le_of_ble_eq_true rfl) (y_call (v := Value.string (bs x16)) hF H13 rfl (fun w hW => proto_Code_c any w (v1) p0 _ h15 (((rdc_hide EX42 h1 (rdc_ro h_v1)) : Rdc _ _ _ _ _ _) w hW).nx)) (fun a hF => ?_)
     refine qs_w hF (wanted_y hF rfl rfl rfl rfl) rfl (Nat.le_of_ble_eq_true rfl) ((y_load (v := Value.agg #[.int .i64 p0.1, .int .i64 p0.2.1, .int .i64 p0.2.2.1, .int .i64 p0.2.2.2.1, .int .i64 p0.2.2.2.2.1, .int .i64 p0.2.2.2.2.2.1, .int .i64 p0.2.2.2.2.2.2.1, .int .i64 p0.2.2.2.2.2.2.2.1, .int .i64 p0.2.2.2.2.2.2.2.2.1, v1]) 1 hF rfl rfl T24 rfl).q) (fun a hF => ?_)
     obtain ⟨x17, h16, H⟩ := bindE H
     refine qs_w hF (wanted_y hF rfl rfl rfl rfl) rfl (Nat.le_of_ble_eq_true rfl) (y_call (v := Value.string (bs x17)) hF H14 rfl (fun w hW => r16_Code_c any w (v1) p0 _ h16 (((rdc_hide EX42 h1 (rdc_ro h_v1)) : Rdc _ _ _ _ _ _) w hW).nx)) (fun a hF => ?_)
     refine qs_w hF (wanted_y hF rfl rfl rfl rfl) rfl (Nat.le_of_ble_eq_true rfl) ((y_seq (l := x16) (m := x17) hF rfl rfl).q) (fun a hF => ?_)
     refine qs hF rfl ((y_pick_f hF rfl rfl rfl).q) (fun a hF => ?_)
     refine qs hF rfl ((y_move hF rfl).q) (fun a hF => ?_)
     rcases Bool.eq_false_or_eq_true (decide (x16 = x17)) with hb | hb
     ·
      have H := iteT (of_decide_eq_true hb) H
      rw [hb] at hF
      clear hb
      obtain ⟨x18, h17, H⟩ := bindE H
      refine qs_w hF (wanted_y hF rfl rfl rfl rfl) rfl (Nat.le_of_ble_eq_true rfl) (y_call (v := Value.bool x18) hF H6 rfl (fun w hW => L16_awake_c any w _ h17)) (fun a hF => ?_)
      refine qs hF rfl ((y_pick_t hF rfl rfl rfl).q) (fun a hF => ?_)
      refine qs hF rfl ((y_assign hF rfl).q) (fun a hF => ?_)
      refine quiet_end (fun w hW => ?_)
      refine c_then ?_
      have hW := hW.frontM (i := 1) rfl rfl
      have hW := hW.frontM (i := 1) rfl rfl
      exact ⟨_, H, hF.re ⟨rfl, trivial⟩, hW⟩
     ·
      have H := iteF (of_decide_eq_false hb) H
      rw [hb] at hF
      clear hb
      refine qs_skip hF (wanted_n hF rfl rfl rfl rfl rfl) rfl rfl (fun a hF => ?_)
      refine qs hF rfl ((y_pick_f hF rfl rfl rfl).q) (fun a hF => ?_)
      refine qs hF rfl ((y_assign hF rfl).q) (fun a hF => ?_)
      refine quiet_end (fun w hW => ?_)
      refine c_then ?_
      have hW := hW.frontM (i := 1) rfl rfl
      have hW := hW.frontM (i := 1) rfl rfl
      exact ⟨_, H, hF.re ⟨rfl, trivial⟩, hW⟩
   rintro a w ⟨x13, hj, hF, hW⟩
   have hj := Option.some.inj hj
   subst hj
   have H := K3
   clear G3 K3
   refine wp_ret ?_
   have H := Option.some.inj H
   subst H
   refine post1 (.inl rfl) hF hW rfl (rv_tmp hF rfl) ?_
   exact ⟨rfl, hW.done⟩

end Go.Proofs.Ytnlllglfmipllaa
