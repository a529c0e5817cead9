/- The functions of layer 16, lifted. Conditions: none. -/
import Derived.Test.YtnlllglfmipllaaA1
namespace Go.Proofs.Ytnlllglfmipllaa
open Go Go.RowKit
set_option linter.unusedVariables false
set_option linter.unusedSimpArgs false
set_option maxRecDepth 20000
theorem H20 : Has Try.prog 20 := ⟨fun args w => run_callFunc_body Try.func20 rfl (by decide) args w⟩
noncomputable def slices_IndexFunc_api_Mod_api_Mod_l1 (p0 : List (Int × (Int × (Int × (Int × Int × Int × Int) × (Int × Int × Int × Int)) × (List (Int × Int × Int))) × Bool)) : Int → Option (Int ⊕ (Unit ⊕ Int))
  | x1 => (if x1 < (p0.length : Int) then (ix p0 x1).bind fun x2 => (proto_wrongMod x2).bind fun x3 => (if x3 = true then some (.inr (.inr x1)) else some (.inl (w64 (x1 + 1)))) else some (.inr (.inl ())))
noncomputable def slices_IndexFunc_api_Mod_api_Mod (p0 : List (Int × (Int × (Int × (Int × Int × Int × Int) × (Int × Int × Int × Int)) × (List (Int × Int × Int))) × Bool)) : Option Int := orR (loopW (slices_IndexFunc_api_Mod_api_Mod_l1 p0) 0) fun _ => some (-1)
theorem slices_IndexFunc_api_Mod_api_Mod_c (Y : Nat → Prop) (w0 : World) (v1 : Value) (p0 : List (Int × (Int × (Int × (Int × Int × Int × Int) × (Int × Int × Int × Int)) × (List (Int × Int × Int))) × Bool)) (r : Int) (H : slices_IndexFunc_api_Mod_api_Mod p0 = some r) (h_v1 : Sl w0 (NX []) R42 v1 p0) :
    Calls Try.prog 40 #[v1, .func (.func 20) #[] #[]] w0 fun e w' => e = .returned (.int .i64 r) ∧ Below w0.heap.size w0 w' := by
 refine enter Try.func40 rfl Try.ntmps40 rfl (fun a hF => ?_)
 have hW := Stw.start Y w0
 obtain ⟨v2, h1, h_v1⟩ := h_v1.ex EX42
 unfold slices_IndexFunc_api_Mod_api_Mod at H
 refine c_seq ?_
 refine reg_list ?_
 refine ls hF hW rfl ((y_assign hF rfl).q) (fun a w hF hW => ?_)
 refine ls_nil ?_
 refine c_then ?_
 obtain ⟨o1, G1, K1, L1⟩ := orE H
 refine c_seqJ (fun a w => some (Sum.inl ()) = some o1 ∧ Fr 19 [] [(4, .int .i64 0)] a ∧ Stw ⟨Y, [], w0⟩ [] [] w) ?_ ?_
 ·
  have H := G1
  clear G1 K1
  refine c_seq ?_
  refine reg_list ?_
  refine ls hF hW rfl ((y_move hF rfl).q) (fun a w hF hW => ?_)
  refine ls hF hW rfl ((y_len (r := R42) (l := p0) u22_ rfl hF rfl (rdc_hide EX42 h1 (rdc_ro h_v1))).q) (fun a w hF hW => ?_)
  refine ls hF hW rfl ((y_move hF rfl).q) (fun a w hF hW => ?_)
  refine ls_nil ?_
  refine c_then ?_
  refine wp_block ?_
  refine c_loopW H (fun s a w => Fr 19 [] [(0, v1), (1, .func (.func 20) #[] #[]), (4, .int .i64 0), (7, .int .i64 (p0.length : Int)), (8, .int .i64 s)] a ∧ Stw ⟨Y, [], w0⟩ [] [] w) ⟨hF.re ⟨rfl, rfl, rfl, rfl, rfl, trivial⟩, hW⟩ (fun s o a w H L2 hR => ?_)
  obtain ⟨x1, rfl⟩ : ∃ x, x = s := ⟨s, rfl⟩
  obtain ⟨hF, hW⟩ := hR
  have hF : Fr 19 [] [(0, v1), (1, .func (.func 20) #[] #[]), (4, .int .i64 0), (7, .int .i64 (p0.length : Int)), (8, .int .i64 x1)] a := hF
  have hW : Stw ⟨Y, [], w0⟩ [] [] w := hW
  rw [slices_IndexFunc_api_Mod_api_Mod_l1] at H
  refine c_seq ?_
  refine reg_list ?_
  refine ls hF hW rfl ((y_lss hF rfl rfl).q) (fun a w hF hW => ?_)
  refine ls_nil ?_
  refine c_then ?_
  refine c_seq ?_
  refine c_cond hF rfl (fun hb => ?_) (fun hb => ?_)
  ·
   have H := iteT (of_decide_eq_true hb) H
   rw [hb] at hF
   clear hb
   refine wp_skip ?_
   refine c_then ?_
   refine c_seq ?_
   refine wp_block ?_
   refine c_seq ?_
   refine reg_list ?_
   refine ls hF hW rfl ((y_move hF rfl).q) (fun a w hF hW => ?_)
   refine ls hF hW rfl ((y_assign hF rfl).q) (fun a w hF hW => ?_)
   refine ls_nil ?_
   refine c_then ?_
   refine c_seq ?_
   refine reg_list ?_
   refine ls hF hW rfl ((y_move hF rfl).q) (fun a w hF hW => ?_)
   refine ls hF hW rfl ((y_move hF rfl).q) (fun a w hF hW => ?_)
   refine ls hF hW rfl ((y_move hF rfl).q) (fun a w hF hW => ?_)
   obtain ⟨x2, h2, H⟩ := bindE H
   obtain ⟨v3, h3, h4⟩ := ix_ex h1 h2
   have h5 : EE42 v3 = [.int .i64 x2.1, .int .i64 x2.2.1.1, .int .i64 x2.2.1.2.1.1, .int .i64 x2.2.1.2.1.2.1.1, .int .i64 x2.2.1.2.1.2.1.2.1, .int .i64 x2.2.1.2.1.2.1.2.2.1, .int .i64 x2.2.1.2.1.2.1.2.2.2, .int .i64 x2.2.1.2.1.2.2.1, .int .i64 x2.2.1.2.1.2.2.2.1, .int .i64 x2.2.1.2.1.2.2.2.2.1, .int .i64 x2.2.1.2.1.2.2.2.2.2, (v3.2.1.2.2.1), .bool x2.2.2] := congrArg (fun q : Int × (Int × (Int × (Int × Int × Int × Int) × (Int × Int × Int × Int)) × (List (Int × Int × Int))) × Bool => ([.int .i64 q.1, .int .i64 q.2.1.1, .int .i64 q.2.1.2.1.1, .int .i64 q.2.1.2.1.2.1.1, .int .i64 q.2.1.2.1.2.1.2.1, .int .i64 q.2.1.2.1.2.1.2.2.1, .int .i64 q.2.1.2.1.2.1.2.2.2, .int .i64 q.2.1.2.1.2.2.1, .int .i64 q.2.1.2.1.2.2.2.1, .int .i64 q.2.1.2.1.2.2.2.2.1, .int .i64 q.2.1.2.1.2.2.2.2.2, (v3.2.1.2.2.1), .bool q.2.2] : List Value)) h4
   refine ls hF hW rfl ((y_index (r := RX42) L22 hF rfl rfl (rdc_ro h_v1) h3).q) (fun a w hF hW => ?_)
   refine ls hF hW rfl ((y_load_el (y := Value.agg #[.int .i64 x2.1, .int .i64 x2.2.1.1, .int .i64 x2.2.1.2.1.1, .int .i64 x2.2.1.2.1.2.1.1, .int .i64 x2.2.1.2.1.2.1.2.1, .int .i64 x2.2.1.2.1.2.1.2.2.1, .int .i64 x2.2.1.2.1.2.1.2.2.2, .int .i64 x2.2.1.2.1.2.2.1, .int .i64 x2.2.1.2.1.2.2.2.1, .int .i64 x2.2.1.2.1.2.2.2.2.1, .int .i64 x2.2.1.2.1.2.2.2.2.2, (v3.2.1.2.2.1), .bool x2.2.2]) (j := 0) (i := x1) (enc := EE42) hF rfl rfl (rdc_ro h_v1) h3 FE42 T42 (by rw [h5]; rfl)).q) (fun a w hF hW => ?_)
   obtain ⟨x3, h6, H⟩ := bindE H
   refine ls hF hW rfl (y_callV (ws := [.agg #[.int .i64 x2.1, .int .i64 x2.2.1.1, .int .i64 x2.2.1.2.1.1, .int .i64 x2.2.1.2.1.2.1.1, .int .i64 x2.2.1.2.1.2.1.2.1, .int .i64 x2.2.1.2.1.2.1.2.2.1, .int .i64 x2.2.1.2.1.2.1.2.2.2, .int .i64 x2.2.1.2.1.2.2.1, .int .i64 x2.2.1.2.1.2.2.2.1, .int .i64 x2.2.1.2.1.2.2.2.2.1, .int .i64 x2.2.1.2.1.2.2.2.2.2, (v3.2.1.2.2.1), .bool x2.2.2]]) (v := Value.bool x3) hF H20 rfl (fun w hW => proto_wrongMod_c any w ((v3.2.1.2.2.1)) x2 _ h6 (((rdc_at (rdc_ro h_v1) h3 (Path.snd (Path.fst (Path.snd (Path.snd Path.here)))) (congrArg (fun q : Int × (Int × (Int × (Int × Int × Int × Int) × (Int × Int × Int × Int)) × (List (Int × Int × Int))) × Bool => q.2.1.2.2) h4)) : Rdc _ _ _ _ _ _) w hW).nx)) (fun a w hF hW => ?_)
   refine ls_nil ?_
   refine c_then ?_
   refine c_cond hF rfl (fun hb => ?_) (fun hb => ?_)
   ·
    have H := iteT hb H
    rw [hb] at hF
    clear hb
    refine c_seq ?_
    refine reg_list ?_
    refine ls hF hW rfl ((y_move hF rfl).q) (fun a w hF hW => ?_)
    refine ls hF hW rfl ((y_assign hF rfl).q) (fun a w hF hW => ?_)
    refine ls_nil ?_
    refine c_then ?_
    refine wp_ret ?_
    refine r_block ?_
    refine r_then ?_
    refine r_then ?_
    refine r_block ?_
    refine r_then ?_
    have H := L2 _ H
    have H := L1 _ H
    have H := Option.some.inj H
    subst H
    refine post1 (.inl rfl) hF hW rfl (rv_tmp hF rfl) ?_
    exact ⟨rfl, hW.done⟩
   ·
    have H := iteF (by rw [hb]; decide) H
    rw [hb] at hF
    clear hb
    refine wp_skip ?_
    refine b_normal ?_
    refine c_then ?_
    refine reg_list ?_
    refine ls hF hW rfl ((y_add hF rfl rfl rfl).q) (fun a w hF hW => ?_)
    refine ls hF hW rfl ((y_move hF rfl).q) (fun a w hF hW => ?_)
    refine ls_nil ?_
    refine c_then ?_
    exact ⟨_, H, hF.re ⟨rfl, rfl, rfl, rfl, rfl, trivial⟩, hW⟩
  ·
   have H := iteF (of_decide_eq_false hb) H
   rw [hb] at hF
   clear hb
   refine wp_exit ?_
   refine e_then ?_
   refine e_then ?_
   refine e_block ?_
   refine c_then ?_
   have H := L2 _ H
   exact ⟨H, hF.re ⟨rfl, trivial⟩, hW⟩
 rintro a w ⟨hj, hF, hW⟩
 have H := K1 _ hj
 clear hj G1 K1 L1
 refine c_seq ?_
 refine reg_list ?_
 refine ls hF hW rfl ((y_assign hF rfl).q) (fun a w hF hW => ?_)
 refine ls_nil ?_
 refine c_then ?_
 refine wp_ret ?_
 have H := Option.some.inj H
 subst H
 refine post1 (.inl rfl) hF hW rfl (rv_tmp hF rfl) ?_
 exact ⟨rfl, hW.done⟩

theorem H40 : Has Try.prog 40 := ⟨fun args w => run_callFunc_body Try.func40 rfl (by decide) args w⟩
noncomputable def slices_ContainsFunc_api_Mod_api_Mod (p0 : List (Int × (Int × (Int × (Int × Int × Int × Int) × (Int × Int × Int × Int)) × (List (Int × Int × Int))) × Bool)) : Option Bool := (slices_IndexFunc_api_Mod_api_Mod p0).bind fun x1 => some (decide (0 ≤ x1))
theorem slices_ContainsFunc_api_Mod_api_Mod_c (Y : Nat → Prop) (w0 : World) (v1 : Value) (p0 : List (Int × (Int × (Int × (Int × Int × Int × Int) × (Int × Int × Int × Int)) × (List (Int × Int × Int))) × Bool)) (r : Bool) (H : slices_ContainsFunc_api_Mod_api_Mod p0 = some r) (h_v1 : Sl w0 (NX []) R42 v1 p0) :
    Calls Try.prog 19 #[v1, .func (.func 20) #[] #[]] w0 fun e w' => e = .returned (.bool r) ∧ Below w0.heap.size w0 w' := by
 refine enter Try.func19 rfl Try.ntmps19 rfl (fun a hF => ?_)
 have hW := Stw.start Y w0
 obtain ⟨v2, h1, h_v1⟩ := h_v1.ex EX42
 unfold slices_ContainsFunc_api_Mod_api_Mod at H
 refine c_seq ?_
 refine reg_list ?_
 refine ls hF hW rfl ((y_assign hF rfl).q) (fun a w hF hW => ?_)
 refine ls_nil ?_
 refine c_then ?_
 refine c_seq ?_
 refine reg_list ?_
 refine ls hF hW rfl ((y_move hF rfl).q) (fun a w hF hW => ?_)
 refine ls hF hW rfl ((y_move hF rfl).q) (fun a w hF hW => ?_)
 obtain ⟨x1, h2, H⟩ := bindE H
 refine ls hF hW rfl (y_call (v := Value.int .i64 x1) hF H40 rfl (fun w hW => slices_IndexFunc_api_Mod_api_Mod_c any w (v1) p0 _ h2 (((rdc_hide EX42 h1 (rdc_ro h_v1)) : Rdc _ _ _ _ _ _) w hW).nx)) (fun a w hF hW => ?_)
 refine ls hF hW rfl ((y_geq hF rfl rfl).q) (fun a w hF hW => ?_)
 refine ls hF hW rfl ((y_assign hF rfl).q) (fun a w hF hW => ?_)
 refine ls_nil ?_
 refine c_then ?_
 refine wp_ret ?_
 have H := Option.some.inj H
 subst H
 refine post1 (.inl rfl) hF hW rfl (rv_tmp hF rfl) ?_
 exact ⟨rfl, hW.done⟩

theorem H19 : Has Try.prog 19 := ⟨fun args w => run_callFunc_body Try.func19 rfl (by decide) args w⟩
noncomputable def proto_Right (p0 : Int × Int × Int × Int × Int × Int × Int × Int × Int × (List (Int × (Int × (Int × (Int × Int × Int × Int) × (Int × Int × Int × Int)) × (List (Int × Int × Int))) × Bool))) : Option Bool := (if (!((proto_fields p0.1).2)) = true then some true else (if p0.2.1 < 0 then some true else (if 8 ≤ p0.2.1 then some true else (proto_Clean p0).bind fun x2 => (proto_Same x2 p0).bind fun x3 => some (!x3)))).bind fun x1 => (if x1 = true then some false else (if (proto_Right_1 1 p0.2.2.2.2.1 0 1125899906842624 ((proto_fields p0.1).1)) = true then (if (proto_Right_1 2 p0.2.2.2.2.2.1 (-1125899906842624) 1125899906842624 ((proto_fields p0.1).1)) = true then (if (proto_Right_1 4 p0.2.2.2.2.2.2.1 0 65535 ((proto_fields p0.1).1)) = true then (if (proto_Right_1 8 p0.2.2.1 1 65535 ((proto_fields p0.1).1)) = true then (proto_leastRound p0.1).bind fun x5 => (if (proto_Right_1 16 p0.2.2.2.1 x5 7 ((proto_fields p0.1).1)) = true then (if (proto_Right_1 32 p0.2.2.2.2.2.2.2.1 3 6 ((proto_fields p0.1).1)) = true then (if (proto_Right_1 64 p0.2.2.2.2.2.2.2.2.1 0 255 ((proto_fields p0.1).1)) = true then (if (p0.2.2.2.2.2.2.2.2.2.length : Int) ≤ 16 then (slices_ContainsFunc_api_Mod_api_Mod p0.2.2.2.2.2.2.2.2.2).bind fun x6 => some (!x6) else some false) else some false) else some false) else some false) else some false) else some false) else some false) else some false).bind fun x4 => some x4)
theorem proto_Right_c (Y : Nat → Prop) (w0 : World) (v1 : Value) (p0 : Int × Int × Int × Int × Int × Int × Int × Int × Int × (List (Int × (Int × (Int × (Int × Int × Int × Int) × (Int × Int × Int × Int)) × (List (Int × Int × Int))) × Bool))) (r : Bool) (H : proto_Right p0 = some r) (s_v1 : Sl w0 Y R42 v1 p0.2.2.2.2.2.2.2.2.2) :
    Calls Try.prog 7 #[.agg #[.int .i64 p0.1, .int .i64 p0.2.1, .int .i64 p0.2.2.1, .int .i64 p0.2.2.2.1, .int .i64 p0.2.2.2.2.1, .int .i64 p0.2.2.2.2.2.1, .int .i64 p0.2.2.2.2.2.2.1, .int .i64 p0.2.2.2.2.2.2.2.1, .int .i64 p0.2.2.2.2.2.2.2.2.1, v1]] w0 fun e w' => e = .returned (.bool r) ∧ Below w0.heap.size w0 w' := by
 refine enter Try.func7 rfl Try.ntmps7 rfl (fun a hF => ?_)
 have hW := Stw.start Y w0
 obtain ⟨v2, h1, s_v1⟩ := s_v1.ex EX42
 have h_v1 := hW.nx s_v1
 unfold proto_Right at H
 refine c_seq ?_
 refine reg_list ?_
 refine l_box (cs := [.int .i64 p0.1, .int .i64 p0.2.1, .int .i64 p0.2.2.1, .int .i64 p0.2.2.2.1, .int .i64 p0.2.2.2.2.1, .int .i64 p0.2.2.2.2.2.1, .int .i64 p0.2.2.2.2.2.2.1, .int .i64 p0.2.2.2.2.2.2.2.1, .int .i64 p0.2.2.2.2.2.2.2.2.1, v1]) hF hW rfl rfl rfl (fun b1 a w hF hW => ?_)
 refine ls hF hW rfl ((y_assign hF rfl).q) (fun a w hF hW => ?_)
 refine ls_nil ?_
 refine c_then ?_
 refine c_seq ?_
 refine reg_list ?_
 refine ls hF hW rfl ((y_fieldAddr u24_ rfl rfl rfl T3 hF rfl 0 rfl).q) (fun a w hF hW => ?_)
 refine ls hF hW rfl ((y_load (v := Value.int .i64 p0.1) 0 hF rfl rfl T3 rfl).q) (fun a w hF hW => ?_)
 refine ls hF hW rfl (y_call (v := Value.tuple #[.int .i64 ((proto_fields p0.1).1), .bool ((proto_fields p0.1).2)]) hF H16 rfl (fun w hW => proto_fields_c any w p0.1 _ rfl)) (fun a w hF hW => ?_)
 refine ls hF hW rfl ((y_move hF rfl).q) (fun a w hF hW => ?_)
 refine ls hF hW rfl ((y_extract (v := Value.int .i64 ((proto_fields p0.1).1)) hF rfl rfl).q) (fun a w hF hW => ?_)
 refine ls hF hW rfl ((y_extract (v := Value.bool ((proto_fields p0.1).2)) hF rfl rfl).q) (fun a w hF hW => ?_)
 refine l_alloc (cs := [.int .i64 0]) hF hW rfl Z3 rfl (fun b2 a w hF hW => ?_)
 refine l_store (vs := [.int .i64 ((proto_fields p0.1).1)]) (M' := [(b2, [.int .i64 ((proto_fields p0.1).1)]), (b1, [.int .i64 p0.1, .int .i64 p0.2.1, .int .i64 p0.2.2.1, .int .i64 p0.2.2.2.1, .int .i64 p0.2.2.2.2.1, .int .i64 p0.2.2.2.2.2.1, .int .i64 p0.2.2.2.2.2.2.1, .int .i64 p0.2.2.2.2.2.2.2.1, .int .i64 p0.2.2.2.2.2.2.2.2.1, v1])]) 0 hF hW rfl rfl rfl T3 rfl rfl rfl rfl rfl (fun w hW => ?_)
 refine ls hF hW rfl ((y_assign hF rfl).q) (fun a w hF hW => ?_)
 refine ls_nil ?_
 refine c_then ?_
 refine c_seq ?_
 obtain ⟨o1, G1, K1⟩ := bindE H
 refine c_seqJ (fun a w => ∃ x1 : Bool, some (x1) = some o1 ∧ Fr 87 [] [(1, .pointer (some ⟨b1, 0, none⟩)), (2, .bool false), (3, .pointer (some ⟨b2, 0, none⟩)), (30, .bool x1)] a ∧ Stw ⟨Y, [], w0⟩ [(b2, [.int .i64 ((proto_fields p0.1).1)]), (b1, [.int .i64 p0.1, .int .i64 p0.2.1, .int .i64 p0.2.2.1, .int .i64 p0.2.2.2.1, .int .i64 p0.2.2.2.2.1, .int .i64 p0.2.2.2.2.2.1, .int .i64 p0.2.2.2.2.2.2.1, .int .i64 p0.2.2.2.2.2.2.2.1, .int .i64 p0.2.2.2.2.2.2.2.2.1, v1])] [] w) ?_ ?_
 ·
  have H := G1
  clear G1 K1
  refine reg_plan [(true, 0), (true, 1), (true, 2), (true, 3), (true, 4), (true, 5), (true, 6), (true, 7), (true, 8), (true, 9), (true, 10), (true, 11), (true, 12), (true, 13), (true, 15), (false, 14), (false, 16), (true, 17), (true, 18)] (CN ⟨Y, [], w0⟩ [(none, b1, [.int .i64 p0.1, .int .i64 p0.2.1, .int .i64 p0.2.2.1, .int .i64 p0.2.2.2.1, .int .i64 p0.2.2.2.2.1, .int .i64 p0.2.2.2.2.2.1, .int .i64 p0.2.2.2.2.2.2.1, .int .i64 p0.2.2.2.2.2.2.2.1, .int .i64 p0.2.2.2.2.2.2.2.2.1, v1]), (some 14, b1, [.int .i64 p0.1, .int .i64 p0.2.1, .int .i64 p0.2.2.1, .int .i64 p0.2.2.2.1, .int .i64 p0.2.2.2.2.1, .int .i64 p0.2.2.2.2.2.1, .int .i64 p0.2.2.2.2.2.2.1, .int .i64 p0.2.2.2.2.2.2.2.1, .int .i64 p0.2.2.2.2.2.2.2.2.1, v1]), (some 16, b1, [.int .i64 p0.1, .int .i64 p0.2.1, .int .i64 p0.2.2.1, .int .i64 p0.2.2.2.1, .int .i64 p0.2.2.2.2.1, .int .i64 p0.2.2.2.2.2.1, .int .i64 p0.2.2.2.2.2.2.1, .int .i64 p0.2.2.2.2.2.2.2.1, .int .i64 p0.2.2.2.2.2.2.2.2.1, v1])] []) (fun ch a d v w h => by cases d <;> exact h) MO (by kernel_rfl) hW (fun w hW => ⟨_, _, hW, (all_cons (fun _ => (.tail _ (.head _))) (all_cons (fun _ => (.tail _ (.head _))) (all_cons (fun _ => (.tail _ (.head _))) all_nil))), all_nil⟩) (fun w hW => ?_)
  refine pl_t (R := []) hF rfl rfl (yC fun M Z hN hZ => y_move hF rfl) rfl rfl (fun a hF => ?_)
  refine pl_t (R := []) hF rfl rfl (yC fun M Z hN hZ => y_not hF rfl) rfl rfl (fun a hF => ?_)
  refine pl_t (R := []) hF rfl rfl (yC fun M Z hN hZ => y_move hF rfl) rfl rfl (fun a hF => ?_)
  rcases Bool.eq_false_or_eq_true (!((proto_fields p0.1).2)) with hb | hb
  ·
   have H := iteT hb H
   rw [hb] at hF
   clear hb
   refine pl_skip hF rfl (wanted_n hF rfl rfl rfl rfl rfl) rfl rfl rfl (fun a hF => ?_)
   refine pl_skip hF rfl (wanted_n hF rfl rfl rfl rfl rfl) rfl rfl rfl (fun a hF => ?_)
   refine pl_skip hF rfl (wanted_n hF rfl rfl rfl rfl rfl) rfl rfl rfl (fun a hF => ?_)
   refine pl_t (R := []) hF rfl rfl (yC fun M Z hN hZ => y_pick_t hF rfl rfl rfl) rfl rfl (fun a hF => ?_)
   refine pl_t (R := []) hF rfl rfl (yC fun M Z hN hZ => y_move hF rfl) rfl rfl (fun a hF => ?_)
   refine pl_skip hF rfl (wanted_n hF rfl rfl rfl rfl rfl) rfl rfl rfl (fun a hF => ?_)
   refine pl_skip hF rfl (wanted_n hF rfl rfl rfl rfl rfl) rfl rfl rfl (fun a hF => ?_)
   refine pl_skip hF rfl (wanted_n hF rfl rfl rfl rfl rfl) rfl rfl rfl (fun a hF => ?_)
   refine pl_t (R := []) hF rfl rfl (yC fun M Z hN hZ => y_pick_t hF rfl rfl rfl) rfl rfl (fun a hF => ?_)
   refine pl_t (R := []) hF rfl rfl (yC fun M Z hN hZ => y_move hF rfl) rfl rfl (fun a hF => ?_)
   refine pl_skip hF rfl (wanted_n hF rfl rfl rfl rfl rfl) rfl rfl rfl (fun a hF => ?_)
   refine pl_skip hF rfl (wanted_n hF rfl rfl rfl rfl rfl) rfl rfl rfl (fun a hF => ?_)
   refine pl_f rfl ?_
   refine lsn hF rfl rfl rfl rfl rfl rfl rfl (fun a hF => ?_)
   refine pl_next (N2 := []) (NZ2 := []) (N3 := [(none, b1, [.int .i64 p0.1, .int .i64 p0.2.1, .int .i64 p0.2.2.1, .int .i64 p0.2.2.2.1, .int .i64 p0.2.2.2.2.1, .int .i64 p0.2.2.2.2.2.1, .int .i64 p0.2.2.2.2.2.2.1, .int .i64 p0.2.2.2.2.2.2.2.1, .int .i64 p0.2.2.2.2.2.2.2.2.1, v1]), (some 14, b1, [.int .i64 p0.1, .int .i64 p0.2.1, .int .i64 p0.2.2.1, .int .i64 p0.2.2.2.1, .int .i64 p0.2.2.2.2.1, .int .i64 p0.2.2.2.2.2.1, .int .i64 p0.2.2.2.2.2.2.1, .int .i64 p0.2.2.2.2.2.2.2.1, .int .i64 p0.2.2.2.2.2.2.2.2.1, v1]), (some 16, b1, [.int .i64 p0.1, .int .i64 p0.2.1, .int .i64 p0.2.2.1, .int .i64 p0.2.2.2.1, .int .i64 p0.2.2.2.2.1, .int .i64 p0.2.2.2.2.2.1, .int .i64 p0.2.2.2.2.2.2.1, .int .i64 p0.2.2.2.2.2.2.2.1, .int .i64 p0.2.2.2.2.2.2.2.2.1, v1])]) (NZ3 := []) hW rfl rfl (all_cons (fun _ => (.tail _ (.head _))) (all_cons (fun h => rel_dead (by kernel_rfl) h) (all_cons (fun _ => (.tail _ (.head _))) all_nil))) all_nil ?_
   refine pl_f rfl ?_
   refine lsn hF rfl rfl rfl rfl rfl rfl rfl (fun a hF => ?_)
   refine pl_next (N2 := []) (NZ2 := []) (N3 := [(none, b1, [.int .i64 p0.1, .int .i64 p0.2.1, .int .i64 p0.2.2.1, .int .i64 p0.2.2.2.1, .int .i64 p0.2.2.2.2.1, .int .i64 p0.2.2.2.2.2.1, .int .i64 p0.2.2.2.2.2.2.1, .int .i64 p0.2.2.2.2.2.2.2.1, .int .i64 p0.2.2.2.2.2.2.2.2.1, v1]), (some 14, b1, [.int .i64 p0.1, .int .i64 p0.2.1, .int .i64 p0.2.2.1, .int .i64 p0.2.2.2.1, .int .i64 p0.2.2.2.2.1, .int .i64 p0.2.2.2.2.2.1, .int .i64 p0.2.2.2.2.2.2.1, .int .i64 p0.2.2.2.2.2.2.2.1, .int .i64 p0.2.2.2.2.2.2.2.2.1, v1]), (some 16, b1, [.int .i64 p0.1, .int .i64 p0.2.1, .int .i64 p0.2.2.1, .int .i64 p0.2.2.2.1, .int .i64 p0.2.2.2.2.1, .int .i64 p0.2.2.2.2.2.1, .int .i64 p0.2.2.2.2.2.2.1, .int .i64 p0.2.2.2.2.2.2.2.1, .int .i64 p0.2.2.2.2.2.2.2.2.1, v1])]) (NZ3 := []) hW rfl rfl (all_cons (fun _ => (.tail _ (.head _))) (all_cons (fun h => rel_dead (by kernel_rfl) h) (all_cons (fun h => rel_dead (by kernel_rfl) h) all_nil))) all_nil ?_
   refine pl_skip hF rfl (wanted_n hF rfl rfl rfl rfl rfl) rfl rfl rfl (fun a hF => ?_)
   refine pl_t (R := []) hF rfl rfl (yC fun M Z hN hZ => y_pick_t hF rfl rfl rfl) rfl rfl (fun a hF => ?_)
   refine pl_end ?_
   refine c_then ?_
   have hW := hW.frontM (i := 1) rfl rfl
   have hW := hW.frontM (i := 1) rfl rfl
   exact ⟨_, H, hF.re ⟨rfl, rfl, rfl, rfl, trivial⟩, hW⟩
  ·
   have H := iteF (by rw [hb]; decide) H
   rw [hb] at hF
   clear hb
   refine pl_w (R := []) hF rfl (wanted_y hF rfl rfl rfl rfl) rfl rfl (yC fun M Z hN hZ => y_fieldAddr u24_ rfl rfl rfl T3 hF rfl 1 rfl) rfl rfl (fun a hF => ?_)
   refine pl_w (R := []) hF rfl (wanted_y hF rfl rfl rfl rfl) rfl rfl (yC fun M Z hN hZ => y_load_m (cs := [.int .i64 p0.1, .int .i64 p0.2.1, .int .i64 p0.2.2.1, .int .i64 p0.2.2.2.1, .int .i64 p0.2.2.2.2.1, .int .i64 p0.2.2.2.2.2.1, .int .i64 p0.2.2.2.2.2.2.1, .int .i64 p0.2.2.2.2.2.2.2.1, .int .i64 p0.2.2.2.2.2.2.2.2.1, v1]) (v := Value.int .i64 p0.2.1) hF rfl (hN (none, b1, [.int .i64 p0.1, .int .i64 p0.2.1, .int .i64 p0.2.2.1, .int .i64 p0.2.2.2.1, .int .i64 p0.2.2.2.2.1, .int .i64 p0.2.2.2.2.2.1, .int .i64 p0.2.2.2.2.2.2.1, .int .i64 p0.2.2.2.2.2.2.2.1, .int .i64 p0.2.2.2.2.2.2.2.2.1, v1]) (.head _) rfl) T3 rfl) rfl rfl (fun a hF => ?_)
   refine pl_w (R := []) hF rfl (wanted_y hF rfl rfl rfl rfl) rfl rfl (yC fun M Z hN hZ => y_lss hF rfl rfl) rfl rfl (fun a hF => ?_)
   refine pl_t (R := []) hF rfl rfl (yC fun M Z hN hZ => y_pick_f hF rfl rfl rfl) rfl rfl (fun a hF => ?_)
   refine pl_t (R := []) hF rfl rfl (yC fun M Z hN hZ => y_move hF rfl) rfl rfl (fun a hF => ?_)
   rcases Bool.eq_false_or_eq_true (decide (p0.2.1 < 0)) with hb | hb
   ·
    have H := iteT (of_decide_eq_true hb) H
    rw [hb] at hF
    clear hb
    refine pl_skip hF rfl (wanted_n hF rfl rfl rfl rfl rfl) rfl rfl rfl (fun a hF => ?_)
    refine pl_skip hF rfl (wanted_n hF rfl rfl rfl rfl rfl) rfl rfl rfl (fun a hF => ?_)
    refine pl_skip hF rfl (wanted_n hF rfl rfl rfl rfl rfl) rfl rfl rfl (fun a hF => ?_)
    refine pl_t (R := []) hF rfl rfl (yC fun M Z hN hZ => y_pick_t hF rfl rfl rfl) rfl rfl (fun a hF => ?_)
    refine pl_t (R := []) hF rfl rfl (yC fun M Z hN hZ => y_move hF rfl) rfl rfl (fun a hF => ?_)
    refine pl_skip hF rfl (wanted_n hF rfl rfl rfl rfl rfl) rfl rfl rfl (fun a hF => ?_)
    refine pl_skip hF rfl (wanted_n hF rfl rfl rfl rfl rfl) rfl rfl rfl (fun a hF => ?_)
    refine pl_f rfl ?_
    refine lsn hF rfl rfl rfl rfl rfl rfl rfl (fun a hF => ?_)
    refine pl_next (N2 := []) (NZ2 := []) (N3 := [(none, b1, [.int .i64 p0.1, .int .i64 p0.2.1, .int .i64 p0.2.2.1, .int .i64 p0.2.2.2.1, .int .i64 p0.2.2.2.2.1, .int .i64 p0.2.2.2.2.2.1, .int .i64 p0.2.2.2.2.2.2.1, .int .i64 p0.2.2.2.2.2.2.2.1, .int .i64 p0.2.2.2.2.2.2.2.2.1, v1]), (some 14, b1, [.int .i64 p0.1, .int .i64 p0.2.1, .int .i64 p0.2.2.1, .int .i64 p0.2.2.2.1, .int .i64 p0.2.2.2.2.1, .int .i64 p0.2.2.2.2.2.1, .int .i64 p0.2.2.2.2.2.2.1, .int .i64 p0.2.2.2.2.2.2.2.1, .int .i64 p0.2.2.2.2.2.2.2.2.1, v1]), (some 16, b1, [.int .i64 p0.1, .int .i64 p0.2.1, .int .i64 p0.2.2.1, .int .i64 p0.2.2.2.1, .int .i64 p0.2.2.2.2.1, .int .i64 p0.2.2.2.2.2.1, .int .i64 p0.2.2.2.2.2.2.1, .int .i64 p0.2.2.2.2.2.2.2.1, .int .i64 p0.2.2.2.2.2.2.2.2.1, v1])]) (NZ3 := []) hW rfl rfl (all_cons (fun _ => (.tail _ (.head _))) (all_cons (fun h => rel_dead (by kernel_rfl) h) (all_cons (fun _ => (.tail _ (.head _))) all_nil))) all_nil ?_
    refine pl_f rfl ?_
    refine lsn hF rfl rfl rfl rfl rfl rfl rfl (fun a hF => ?_)
    refine pl_next (N2 := []) (NZ2 := []) (N3 := [(none, b1, [.int .i64 p0.1, .int .i64 p0.2.1, .int .i64 p0.2.2.1, .int .i64 p0.2.2.2.1, .int .i64 p0.2.2.2.2.1, .int .i64 p0.2.2.2.2.2.1, .int .i64 p0.2.2.2.2.2.2.1, .int .i64 p0.2.2.2.2.2.2.2.1, .int .i64 p0.2.2.2.2.2.2.2.2.1, v1]), (some 14, b1, [.int .i64 p0.1, .int .i64 p0.2.1, .int .i64 p0.2.2.1, .int .i64 p0.2.2.2.1, .int .i64 p0.2.2.2.2.1, .int .i64 p0.2.2.2.2.2.1, .int .i64 p0.2.2.2.2.2.2.1, .int .i64 p0.2.2.2.2.2.2.2.1, .int .i64 p0.2.2.2.2.2.2.2.2.1, v1]), (some 16, b1, [.int .i64 p0.1, .int .i64 p0.2.1, .int .i64 p0.2.2.1, .int .i64 p0.2.2.2.1, .int .i64 p0.2.2.2.2.1, .int .i64 p0.2.2.2.2.2.1, .int .i64 p0.2.2.2.2.2.2.1, .int .i64 p0.2.2.2.2.2.2.2.1, .int .i64 p0.2.2.2.2.2.2.2.2.1, v1])]) (NZ3 := []) hW rfl rfl (all_cons (fun _ => (.tail _ (.head _))) (all_cons (fun h => rel_dead (by kernel_rfl) h) (all_cons (fun h => rel_dead (by kernel_rfl) h) all_nil))) all_nil ?_
    refine pl_skip hF rfl (wanted_n hF rfl rfl rfl rfl rfl) rfl rfl rfl (fun a hF => ?_)
    refine pl_t (R := []) hF rfl rfl (yC fun M Z hN hZ => y_pick_t hF rfl rfl rfl) rfl rfl (fun a hF => ?_)
    refine pl_end ?_
    refine c_then ?_
    have hW := hW.frontM (i := 1) rfl rfl
    have hW := hW.frontM (i := 1) rfl rfl
    exact ⟨_, H, hF.re ⟨rfl, rfl, rfl, rfl, trivial⟩, hW⟩
   ·
    have H := iteF (of_decide_eq_false hb) H
    rw [hb] at hF
    clear hb
    refine pl_w (R := []) hF rfl (wanted_y hF rfl rfl rfl rfl) rfl rfl (yC fun M Z hN hZ => y_fieldAddr u24_ rfl rfl rfl T3 hF rfl 1 rfl) rfl rfl (fun a hF => ?_)
    refine pl_w (R := []) hF rfl (wanted_y hF rfl rfl rfl rfl) rfl rfl (yC fun M Z hN hZ => y_load_m (cs := [.int .i64 p0.1, .int .i64 p0.2.1, .int .i64 p0.2.2.1, .int .i64 p0.2.2.2.1, .int .i64 p0.2.2.2.2.1, .int .i64 p0.2.2.2.2.2.1, .int .i64 p0.2.2.2.2.2.2.1, .int .i64 p0.2.2.2.2.2.2.2.1, .int .i64 p0.2.2.2.2.2.2.2.2.1, v1]) (v := Value.int .i64 p0.2.1) hF rfl (hN (none, b1, [.int .i64 p0.1, .int .i64 p0.2.1, .int .i64 p0.2.2.1, .int .i64 p0.2.2.2.1, .int .i64 p0.2.2.2.2.1, .int .i64 p0.2.2.2.2.2.1, .int .i64 p0.2.2.2.2.2.2.1, .int .i64 p0.2.2.2.2.2.2.2.1, .int .i64 p0.2.2.2.2.2.2.2.2.1, v1]) (.head _) rfl) T3 rfl) rfl rfl (fun a hF => ?_)
    refine pl_w (R := []) hF rfl (wanted_y hF rfl rfl rfl rfl) rfl rfl (yC fun M Z hN hZ => y_geq hF rfl rfl) rfl rfl (fun a hF => ?_)
    refine pl_t (R := []) hF rfl rfl (yC fun M Z hN hZ => y_pick_f hF rfl rfl rfl) rfl rfl (fun a hF => ?_)
    refine pl_t (R := []) hF rfl rfl (yC fun M Z hN hZ => y_move hF rfl) rfl rfl (fun a hF => ?_)
    rcases Bool.eq_false_or_eq_true (decide (8 ≤ p0.2.1)) with hb | hb
    ·
     have H := iteT (of_decide_eq_true hb) H
     rw [hb] at hF
     clear hb
     refine pl_skip hF rfl (wanted_n hF rfl rfl rfl rfl rfl) rfl rfl rfl (fun a hF => ?_)
     refine pl_skip hF rfl (wanted_n hF rfl rfl rfl rfl rfl) rfl rfl rfl (fun a hF => ?_)
     refine pl_f rfl ?_
     refine lsn hF rfl rfl rfl rfl rfl rfl rfl (fun a hF => ?_)
     refine pl_next (N2 := []) (NZ2 := []) (N3 := [(none, b1, [.int .i64 p0.1, .int .i64 p0.2.1, .int .i64 p0.2.2.1, .int .i64 p0.2.2.2.1, .int .i64 p0.2.2.2.2.1, .int .i64 p0.2.2.2.2.2.1, .int .i64 p0.2.2.2.2.2.2.1, .int .i64 p0.2.2.2.2.2.2.2.1, .int .i64 p0.2.2.2.2.2.2.2.2.1, v1]), (some 14, b1, [.int .i64 p0.1, .int .i64 p0.2.1, .int .i64 p0.2.2.1, .int .i64 p0.2.2.2.1, .int .i64 p0.2.2.2.2.1, .int .i64 p0.2.2.2.2.2.1, .int .i64 p0.2.2.2.2.2.2.1, .int .i64 p0.2.2.2.2.2.2.2.1, .int .i64 p0.2.2.2.2.2.2.2.2.1, v1]), (some 16, b1, [.int .i64 p0.1, .int .i64 p0.2.1, .int .i64 p0.2.2.1, .int .i64 p0.2.2.2.1, .int .i64 p0.2.2.2.2.1, .int .i64 p0.2.2.2.2.2.1, .int .i64 p0.2.2.2.2.2.2.1, .int .i64 p0.2.2.2.2.2.2.2.1, .int .i64 p0.2.2.2.2.2.2.2.2.1, v1])]) (NZ3 := []) hW rfl rfl (all_cons (fun _ => (.tail _ (.head _))) (all_cons (fun h => rel_dead (by kernel_rfl) h) (all_cons (fun _ => (.tail _ (.head _))) all_nil))) all_nil ?_
     refine pl_f rfl ?_
     refine lsn hF rfl rfl rfl rfl rfl rfl rfl (fun a hF => ?_)
     refine pl_next (N2 := []) (NZ2 := []) (N3 := [(none, b1, [.int .i64 p0.1, .int .i64 p0.2.1, .int .i64 p0.2.2.1, .int .i64 p0.2.2.2.1, .int .i64 p0.2.2.2.2.1, .int .i64 p0.2.2.2.2.2.1, .int .i64 p0.2.2.2.2.2.2.1, .int .i64 p0.2.2.2.2.2.2.2.1, .int .i64 p0.2.2.2.2.2.2.2.2.1, v1]), (some 14, b1, [.int .i64 p0.1, .int .i64 p0.2.1, .int .i64 p0.2.2.1, .int .i64 p0.2.2.2.1, .int .i64 p0.2.2.2.2.1, .int .i64 p0.2.2.2.2.2.1, .int .i64 p0.2.2.2.2.2.2.1, .int .i64 p0.2.2.2.2.2.2.2.1, .int .i64 p0.2.2.2.2.2.2.2.2.1, v1]), (some 16, b1, [.int .i64 p0.1, .int .i64 p0.2.1, .int .i64 p0.2.2.1, .int .i64 p0.2.2.2.1, .int .i64 p0.2.2.2.2.1, .int .i64 p0.2.2.2.2.2.1, .int .i64 p0.2.2.2.2.2.2.1, .int .i64 p0.2.2.2.2.2.2.2.1, .int .i64 p0.2.2.2.2.2.2.2.2.1, v1])]) (NZ3 := []) hW rfl rfl (all_cons (fun _ => (.tail _ (.head _))) (all_cons (fun h => rel_dead (by kernel_rfl) h) (all_cons (fun h => rel_dead (by kernel_rfl) h) all_nil))) all_nil ?_
     refine pl_skip hF rfl (wanted_n hF rfl rfl rfl rfl rfl) rfl rfl rfl (fun a hF => ?_)
     refine pl_t (R := []) hF rfl rfl (yC fun M Z hN hZ => y_pick_t hF rfl rfl rfl) rfl rfl (fun a hF => ?_)
     refine pl_end ?_
     refine c_then ?_
     have hW := hW.frontM (i := 1) rfl rfl
     have hW := hW.frontM (i := 1) rfl rfl
     exact ⟨_, H, hF.re ⟨rfl, rfl, rfl, rfl, trivial⟩, hW⟩
    ·
     have H := iteF (of_decide_eq_false hb) H
     rw [hb] at hF
     clear hb
     refine pl_w (R := [14]) hF rfl (wanted_y hF rfl rfl rfl rfl) rfl rfl (yC fun M Z hN hZ => y_load_m (cs := [.int .i64 p0.1, .int .i64 p0.2.1, .int .i64 p0.2.2.1, .int .i64 p0.2.2.2.1, .int .i64 p0.2.2.2.2.1, .int .i64 p0.2.2.2.2.2.1, .int .i64 p0.2.2.2.2.2.2.1, .int .i64 p0.2.2.2.2.2.2.2.1, .int .i64 p0.2.2.2.2.2.2.2.2.1, v1]) (v := Value.agg #[.int .i64 p0.1, .int .i64 p0.2.1, .int .i64 p0.2.2.1, .int .i64 p0.2.2.2.1, .int .i64 p0.2.2.2.2.1, .int .i64 p0.2.2.2.2.2.1, .int .i64 p0.2.2.2.2.2.2.1, .int .i64 p0.2.2.2.2.2.2.2.1, .int .i64 p0.2.2.2.2.2.2.2.2.1, v1]) hF rfl (hN ((some 14), b1, [.int .i64 p0.1, .int .i64 p0.2.1, .int .i64 p0.2.2.1, .int .i64 p0.2.2.2.1, .int .i64 p0.2.2.2.2.1, .int .i64 p0.2.2.2.2.2.1, .int .i64 p0.2.2.2.2.2.2.1, .int .i64 p0.2.2.2.2.2.2.2.1, .int .i64 p0.2.2.2.2.2.2.2.2.1, v1]) (.tail _ (.head _)) rfl) T24 rfl) (by kernel_rfl) rfl (fun a hF => ?_)
     refine pl_w (R := [16]) hF rfl (wanted_y hF rfl rfl rfl rfl) rfl rfl (yC fun M Z hN hZ => y_load_m (cs := [.int .i64 p0.1, .int .i64 p0.2.1, .int .i64 p0.2.2.1, .int .i64 p0.2.2.2.1, .int .i64 p0.2.2.2.2.1, .int .i64 p0.2.2.2.2.2.1, .int .i64 p0.2.2.2.2.2.2.1, .int .i64 p0.2.2.2.2.2.2.2.1, .int .i64 p0.2.2.2.2.2.2.2.2.1, v1]) (v := Value.agg #[.int .i64 p0.1, .int .i64 p0.2.1, .int .i64 p0.2.2.1, .int .i64 p0.2.2.2.1, .int .i64 p0.2.2.2.2.1, .int .i64 p0.2.2.2.2.2.1, .int .i64 p0.2.2.2.2.2.2.1, .int .i64 p0.2.2.2.2.2.2.2.1, .int .i64 p0.2.2.2.2.2.2.2.2.1, v1]) hF rfl (hN ((some 16), b1, [.int .i64 p0.1, .int .i64 p0.2.1, .int .i64 p0.2.2.1, .int .i64 p0.2.2.2.1, .int .i64 p0.2.2.2.2.1, .int .i64 p0.2.2.2.2.2.1, .int .i64 p0.2.2.2.2.2.2.1, .int .i64 p0.2.2.2.2.2.2.2.1, .int .i64 p0.2.2.2.2.2.2.2.2.1, v1]) (.tail _ (.tail _ (.head _))) rfl) T24 rfl) (by kernel_rfl) rfl (fun a hF => ?_)
     refine pl_f rfl ?_
     refine ls_g (wanted_y hF rfl rfl rfl rfl) ?_
     obtain ⟨x2, h2, H⟩ := bindE H
     refine l_callG (Ml := []) (Zl := []) (M := [(b2, [.int .i64 ((proto_fields p0.1).1)]), (b1, [.int .i64 p0.1, .int .i64 p0.2.1, .int .i64 p0.2.2.1, .int .i64 p0.2.2.2.1, .int .i64 p0.2.2.2.2.1, .int .i64 p0.2.2.2.2.2.1, .int .i64 p0.2.2.2.2.2.2.1, .int .i64 p0.2.2.2.2.2.2.2.1, .int .i64 p0.2.2.2.2.2.2.2.2.1, v1])]) (Z := []) (β := Value) (rv := fun x => .agg #[.int .i64 x2.1, .int .i64 x2.2.1, .int .i64 x2.2.2.1, .int .i64 x2.2.2.2.1, .int .i64 x2.2.2.2.2.1, .int .i64 x2.2.2.2.2.2.1, .int .i64 x2.2.2.2.2.2.2.1, .int .i64 x2.2.2.2.2.2.2.2.1, .int .i64 x2.2.2.2.2.2.2.2.2.1, x]) (MM := fun x => []) (ZZ := fun x => [row x 42 R42 x2.2.2.2.2.2.2.2.2.2]) hF hW H10 rfl rfl (fun hL => proto_Clean_c _ w (v1) p0 _ h2 (Sl.hide EX42 h1 (hW.old s_v1))) (fun x a w hF hW => ?_)
     obtain ⟨v3, rfl⟩ : ∃ y, y = x := ⟨x, rfl⟩
     have hW : Stw ⟨Y, [], w0⟩ [(b2, [.int .i64 ((proto_fields p0.1).1)]), (b1, [.int .i64 p0.1, .int .i64 p0.2.1, .int .i64 p0.2.2.1, .int .i64 p0.2.2.2.1, .int .i64 p0.2.2.2.2.1, .int .i64 p0.2.2.2.2.2.1, .int .i64 p0.2.2.2.2.2.2.1, .int .i64 p0.2.2.2.2.2.2.2.1, .int .i64 p0.2.2.2.2.2.2.2.2.1, v1])] [row v3 42 R42 x2.2.2.2.2.2.2.2.2.2] w := hW
     refine pl_next (N2 := []) (NZ2 := []) (N3 := [(none, b1, [.int .i64 p0.1, .int .i64 p0.2.1, .int .i64 p0.2.2.1, .int .i64 p0.2.2.2.1, .int .i64 p0.2.2.2.2.1, .int .i64 p0.2.2.2.2.2.1, .int .i64 p0.2.2.2.2.2.2.1, .int .i64 p0.2.2.2.2.2.2.2.1, .int .i64 p0.2.2.2.2.2.2.2.2.1, v1]), (some 14, b1, [.int .i64 p0.1, .int .i64 p0.2.1, .int .i64 p0.2.2.1, .int .i64 p0.2.2.2.1, .int .i64 p0.2.2.2.2.1, .int .i64 p0.2.2.2.2.2.1, .int .i64 p0.2.2.2.2.2.2.1, .int .i64 p0.2.2.2.2.2.2.2.1, .int .i64 p0.2.2.2.2.2.2.2.2.1, v1]), (some 16, b1, [.int .i64 p0.1, .int .i64 p0.2.1, .int .i64 p0.2.2.1, .int .i64 p0.2.2.2.1, .int .i64 p0.2.2.2.2.1, .int .i64 p0.2.2.2.2.2.1, .int .i64 p0.2.2.2.2.2.2.1, .int .i64 p0.2.2.2.2.2.2.2.1, .int .i64 p0.2.2.2.2.2.2.2.2.1, v1])]) (NZ3 := []) hW rfl rfl (all_cons (fun _ => (.tail _ (.head _))) (all_cons (fun h => rel_dead (by kernel_rfl) h) (all_cons (fun _ => (.tail _ (.head _))) all_nil))) all_nil ?_
     refine pl_f rfl ?_
     refine ls_g (wanted_y hF rfl rfl rfl rfl) ?_
     obtain ⟨x3, h3, H⟩ := bindE H
     refine ls hF hW rfl (y_call (v := Value.bool x3) hF H12 rfl (fun w hW => proto_Same_c any w (v3) (v1) x2 p0 _ h3 (((rdc_row 0 rfl) : Rdc _ _ _ _ _ _) w hW).nx (((rdc_hide EX42 h1 (rdc_ro h_v1)) : Rdc _ _ _ _ _ _) w hW).nx)) (fun a w hF hW => ?_)
     refine pl_next (N2 := []) (NZ2 := []) (N3 := [(none, b1, [.int .i64 p0.1, .int .i64 p0.2.1, .int .i64 p0.2.2.1, .int .i64 p0.2.2.2.1, .int .i64 p0.2.2.2.2.1, .int .i64 p0.2.2.2.2.2.1, .int .i64 p0.2.2.2.2.2.2.1, .int .i64 p0.2.2.2.2.2.2.2.1, .int .i64 p0.2.2.2.2.2.2.2.2.1, v1]), (some 14, b1, [.int .i64 p0.1, .int .i64 p0.2.1, .int .i64 p0.2.2.1, .int .i64 p0.2.2.2.1, .int .i64 p0.2.2.2.2.1, .int .i64 p0.2.2.2.2.2.1, .int .i64 p0.2.2.2.2.2.2.1, .int .i64 p0.2.2.2.2.2.2.2.1, .int .i64 p0.2.2.2.2.2.2.2.2.1, v1]), (some 16, b1, [.int .i64 p0.1, .int .i64 p0.2.1, .int .i64 p0.2.2.1, .int .i64 p0.2.2.2.1, .int .i64 p0.2.2.2.2.1, .int .i64 p0.2.2.2.2.2.1, .int .i64 p0.2.2.2.2.2.2.1, .int .i64 p0.2.2.2.2.2.2.2.1, .int .i64 p0.2.2.2.2.2.2.2.2.1, v1])]) (NZ3 := []) hW rfl rfl (all_cons (fun _ => (.tail _ (.head _))) (all_cons (fun h => rel_dead (by kernel_rfl) h) (all_cons (fun h => rel_dead (by kernel_rfl) h) all_nil))) all_nil ?_
     refine pl_w (R := []) hF rfl (wanted_y hF rfl rfl rfl rfl) rfl rfl (yC fun M Z hN hZ => y_not hF rfl) rfl rfl (fun a hF => ?_)
     refine pl_t (R := []) hF rfl rfl (yC fun M Z hN hZ => y_pick_f hF rfl rfl rfl) rfl rfl (fun a hF => ?_)
     refine pl_end ?_
     refine c_then ?_
     have hW := hW.frontM (i := 1) rfl rfl
     have hW := hW.frontM (i := 1) rfl rfl
     have hW := hW.sub (M' := [(b2, [.int .i64 ((proto_fields p0.1).1)]), (b1, [.int .i64 p0.1, .int .i64 p0.2.1, .int .i64 p0.2.2.1, .int .i64 p0.2.2.2.1, .int .i64 p0.2.2.2.2.1, .int .i64 p0.2.2.2.2.2.1, .int .i64 p0.2.2.2.2.2.2.1, .int .i64 p0.2.2.2.2.2.2.2.1, .int .i64 p0.2.2.2.2.2.2.2.2.1, v1])]) (Z' := []) (List.Sublist.refl _) (List.nil_sublist _)
     exact ⟨_, H, hF.re ⟨rfl, rfl, rfl, rfl, trivial⟩, hW⟩
 rintro a w ⟨x1, hj, hF, hW⟩
 have hj := Option.some.inj hj
 subst hj
 have H := K1
 clear G1 K1
 refine c_cond hF rfl (fun hb => ?_) (fun hb => ?_)
 ·
  have H := iteT hb H
  rw [hb] at hF
  clear hb
  refine c_seq ?_
  refine reg_list ?_
  refine ls hF hW rfl ((y_assign hF rfl).q) (fun a w hF hW => ?_)
  refine ls_nil ?_
  refine c_then ?_
  refine wp_ret ?_
  refine r_then ?_
  have H := Option.some.inj H
  subst H
  refine post1 (.inl rfl) hF hW rfl (rv_tmp hF rfl) ?_
  exact ⟨rfl, hW.done⟩
 ·
  have H := iteF (by rw [hb]; decide) H
  rw [hb] at hF
  clear hb
  refine wp_skip ?_
  refine c_then ?_
  refine c_seq ?_
  refine reg_list ?_
  refine ls hF hW rfl ((y_makeFunc (us := []) (vs := [.pointer (some ⟨b2, 0, none⟩)]) hF rfl rfl).q) (fun a w hF hW => ?_)
  refine ls hF hW rfl ((y_assign hF rfl).q) (fun a w hF hW => ?_)
  refine ls_nil ?_
  refine c_then ?_
  obtain ⟨o2, G2, K2⟩ := bindE H
  refine c_seqJ (fun a w => ∃ x4 : Bool, some (x4) = some o2 ∧ Fr 87 [] [(2, .bool x4)] a ∧ Stw ⟨Y, [], w0⟩ [(b2, [.int .i64 ((proto_fields p0.1).1)]), (b1, [.int .i64 p0.1, .int .i64 p0.2.1, .int .i64 p0.2.2.1, .int .i64 p0.2.2.2.1, .int .i64 p0.2.2.2.2.1, .int .i64 p0.2.2.2.2.2.1, .int .i64 p0.2.2.2.2.2.2.1, .int .i64 p0.2.2.2.2.2.2.2.1, .int .i64 p0.2.2.2.2.2.2.2.2.1, v1])] [] w) ?_ ?_
  ·
   have H := G2
   clear G2 K2
   refine reg_quiet hW MO (by kernel_rfl) ?_
   refine qs hF rfl ((y_move hF rfl).q) (fun a hF => ?_)
   refine qs hF rfl ((y_fieldAddr u24_ rfl rfl rfl T3 hF rfl 4 rfl).q) (fun a hF => ?_)
   refine qs hF rfl ((y_load (v := Value.int .i64 p0.2.2.2.2.1) 1 hF rfl rfl T3 rfl).q) (fun a hF => ?_)
   refine qs hF rfl (y_callV (ws := [.int .i64 1, .int .i64 p0.2.2.2.2.1, .int .i64 0, .int .i64 1125899906842624, .pointer (some ⟨b2, 0, none⟩)]) (v := Value.bool (proto_Right_1 1 p0.2.2.2.2.1 0 1125899906842624 ((proto_fields p0.1).1))) hF H17 rfl (fun w hW => proto_Right_1_c any w b2 1 p0.2.2.2.2.1 0 1125899906842624 ((proto_fields p0.1).1) _ rfl (at_M hW 0 rfl))) (fun a hF => ?_)
   refine qs hF rfl ((y_move hF rfl).q) (fun a hF => ?_)
   rcases Bool.eq_false_or_eq_true (proto_Right_1 1 p0.2.2.2.2.1 0 1125899906842624 ((proto_fields p0.1).1)) with hb | hb
   ·
    have H := iteT hb H
    rw [hb] at hF
    clear hb
    refine qs_w hF (wanted_y hF rfl rfl rfl rfl) rfl (Nat.le_of_ble_eq_true rfl) ((y_move hF rfl).q) (fun a hF => ?_)
    refine qs_w hF (wanted_y hF rfl rfl rfl rfl) rfl (Nat.le_of_ble_eq_true rfl) ((y_fieldAddr u24_ rfl rfl rfl T3 hF rfl 5 rfl).q) (fun a hF => ?_)
    refine qs_w hF (wanted_y hF rfl rfl rfl rfl) rfl (Nat.le_of_ble_eq_true rfl) ((y_load (v := Value.int .i64 p0.2.2.2.2.2.1) 1 hF rfl rfl T3 rfl).q) (fun a hF => ?_)
    refine qs_w hF (wanted_y hF rfl rfl rfl rfl) rfl (Nat.le_of_ble_eq_true rfl) (y_callV (ws := [.int .i64 2, .int .i64 p0.2.2.2.2.2.1, .int .i64 (-1125899906842624), .int .i64 1125899906842624, .pointer (some ⟨b2, 0, none⟩)]) (v := Value.bool (proto_Right_1 2 p0.2.2.2.2.2.1 (-1125899906842624) 1125899906842624 ((proto_fields p0.1).1))) hF H17 rfl (fun w hW => proto_Right_1_c any w b2 2 p0.2.2.2.2.2.1 (-1125899906842624) 1125899906842624 ((proto_fields p0.1).1) _ rfl (at_M hW 0 rfl))) (fun a hF => ?_)
    refine qs hF rfl ((y_pick_t hF rfl rfl rfl).q) (fun a hF => ?_)
    refine qs hF rfl ((y_move hF rfl).q) (fun a hF => ?_)
    rcases Bool.eq_false_or_eq_true (proto_Right_1 2 p0.2.2.2.2.2.1 (-1125899906842624) 1125899906842624 ((proto_fields p0.1).1)) with hb | hb
    ·
     have H := iteT hb H
     rw [hb] at hF
     clear hb
     refine qs_w hF (wanted_y hF rfl rfl rfl rfl) rfl (Nat.le_of_ble_eq_true rfl) ((y_move hF rfl).q) (fun a hF => ?_)
     refine qs_w hF (wanted_y hF rfl rfl rfl rfl) rfl (Nat.le_of_ble_eq_true rfl) ((y_fieldAddr u24_ rfl rfl rfl T3 hF rfl 6 rfl).q) (fun a hF => ?_)
     refine qs_w hF (wanted_y hF rfl rfl rfl rfl) rfl (Nat.le_of_ble_eq_true rfl) ((y_load (v := Value.int .i64 p0.2.2.2.2.2.2.1) 1 hF rfl rfl T3 rfl).q) (fun a hF => ?_)
     refine qs_w hF (wanted_y hF rfl rfl rfl rfl) rfl (Nat.le_of_ble_eq_true rfl) (y_callV (ws := [.int .i64 4, .int .i64 p0.2.2.2.2.2.2.1, .int .i64 0, .int .i64 65535, .pointer (some ⟨b2, 0, none⟩)]) (v := Value.bool (proto_Right_1 4 p0.2.2.2.2.2.2.1 0 65535 ((proto_fields p0.1).1))) hF H17 rfl (fun w hW => proto_Right_1_c any w b2 4 p0.2.2.2.2.2.2.1 0 65535 ((proto_fields p0.1).1) _ rfl (at_M hW 0 rfl))) (fun a hF => ?_)
     refine qs hF rfl ((y_pick_t hF rfl rfl rfl).q) (fun a hF => ?_)
     refine qs hF rfl ((y_move hF rfl).q) (fun a hF => ?_)
     rcases Bool.eq_false_or_eq_true (proto_Right_1 4 p0.2.2.2.2.2.2.1 0 65535 ((proto_fields p0.1).1)) with hb | hb
     ·
      have H := iteT hb H
      rw [hb] at hF
      clear hb
      refine qs_w hF (wanted_y hF rfl rfl rfl rfl) rfl (Nat.le_of_ble_eq_true rfl) ((y_move hF rfl).q) (fun a hF => ?_)
      refine qs_w hF (wanted_y hF rfl rfl rfl rfl) rfl (Nat.le_of_ble_eq_true rfl) ((y_fieldAddr u24_ rfl rfl rfl T3 hF rfl 2 rfl).q) (fun a hF => ?_)
      refine qs_w hF (wanted_y hF rfl rfl rfl rfl) rfl (Nat.le_of_ble_eq_true rfl) ((y_load (v := Value.int .i64 p0.2.2.1) 1 hF rfl rfl T3 rfl).q) (fun a hF => ?_)
      refine qs_w hF (wanted_y hF rfl rfl rfl rfl) rfl (Nat.le_of_ble_eq_true rfl) (y_callV (ws := [.int .i64 8, .int .i64 p0.2.2.1, .int .i64 1, .int .i64 65535, .pointer (some ⟨b2, 0, none⟩)]) (v := Value.bool (proto_Right_1 8 p0.2.2.1 1 65535 ((proto_fields p0.1).1))) hF H17 rfl (fun w hW => proto_Right_1_c any w b2 8 p0.2.2.1 1 65535 ((proto_fields p0.1).1) _ rfl (at_M hW 0 rfl))) (fun a hF => ?_)
      refine qs hF rfl ((y_pick_t hF rfl rfl rfl).q) (fun a hF => ?_)
      refine qs hF rfl ((y_move hF rfl).q) (fun a hF => ?_)
      rcases Bool.eq_false_or_eq_true (proto_Right_1 8 p0.2.2.1 1 65535 ((proto_fields p0.1).1)) with hb | hb
      ·
       have H := iteT hb H
       rw [hb] at hF
       clear hb
       refine qs_w hF (wanted_y hF rfl rfl rfl rfl) rfl (Nat.le_of_ble_eq_true rfl) ((y_move hF rfl).q) (fun a hF => ?_)
       refine qs_w hF (wanted_y hF rfl rfl rfl rfl) rfl (Nat.le_of_ble_eq_true rfl) ((y_fieldAddr u24_ rfl rfl rfl T3 hF rfl 3 rfl).q) (fun a hF => ?_)
       refine qs_w hF (wanted_y hF rfl rfl rfl rfl) rfl (Nat.le_of_ble_eq_true rfl) ((y_load (v := Value.int .i64 p0.2.2.2.1) 1 hF rfl rfl T3 rfl).q) (fun a hF => ?_)
       refine qs_w hF (wanted_y hF rfl rfl rfl rfl) rfl (Nat.le_of_ble_eq_true rfl) ((y_fieldAddr u24_ rfl rfl rfl T3 hF rfl 0 rfl).q) (fun a hF => ?_)
       refine qs_w hF (wanted_y hF rfl rfl rfl rfl) rfl (Nat.le_of_ble_eq_true rfl) ((y_load (v := Value.int .i64 p0.1) 1 hF rfl rfl T3 rfl).q) (fun a hF => ?_)
       obtain ⟨x5, h4, H⟩ := bindE H
       refine qs_w hF (wanted_y hF rfl rfl rfl rfl) rfl (Nat.le_of_ble_eq_true rfl) (y_call (v := Value.int .i64 x5) hF H18 rfl (fun w hW => proto_leastRound_c any w p0.1 _ h4)) (fun a hF => ?_)
       refine qs_w hF (wanted_y hF rfl rfl rfl rfl) rfl (Nat.le_of_ble_eq_true rfl) (y_callV (ws := [.int .i64 16, .int .i64 p0.2.2.2.1, .int .i64 x5, .int .i64 7, .pointer (some ⟨b2, 0, none⟩)]) (v := Value.bool (proto_Right_1 16 p0.2.2.2.1 x5 7 ((proto_fields p0.1).1))) hF H17 rfl (fun w hW => proto_Right_1_c any w b2 16 p0.2.2.2.1 x5 7 ((proto_fields p0.1).1) _ rfl (at_M hW 0 rfl))) (fun a hF => ?_)
       refine qs hF rfl ((y_pick_t hF rfl rfl rfl).q) (fun a hF => ?_)
       refine qs hF rfl ((y_move hF rfl).q) (fun a hF => ?_)
       rcases Bool.eq_false_or_eq_true (proto_Right_1 16 p0.2.2.2.1 x5 7 ((proto_fields p0.1).1)) with hb | hb
       ·
        have H := iteT hb H
        rw [hb] at hF
        clear hb
        refine qs_w hF (wanted_y hF rfl rfl rfl rfl) rfl (Nat.le_of_ble_eq_true rfl) ((y_move hF rfl).q) (fun a hF => ?_)
        refine qs_w hF (wanted_y hF rfl rfl rfl rfl) rfl (Nat.le_of_ble_eq_true rfl) ((y_fieldAddr u24_ rfl rfl rfl T3 hF rfl 7 rfl).q) (fun a hF => ?_)
        refine qs_w hF (wanted_y hF rfl rfl rfl rfl) rfl (Nat.le_of_ble_eq_true rfl) ((y_load (v := Value.int .i64 p0.2.2.2.2.2.2.2.1) 1 hF rfl rfl T3 rfl).q) (fun a hF => ?_)
        refine qs_w hF (wanted_y hF rfl rfl rfl rfl) rfl (Nat.le_of_ble_eq_true rfl) (y_callV (ws := [.int .i64 32, .int .i64 p0.2.2.2.2.2.2.2.1, .int .i64 3, .int .i64 6, .pointer (some ⟨b2, 0, none⟩)]) (v := Value.bool (proto_Right_1 32 p0.2.2.2.2.2.2.2.1 3 6 ((proto_fields p0.1).1))) hF H17 rfl (fun w hW => proto_Right_1_c any w b2 32 p0.2.2.2.2.2.2.2.1 3 6 ((proto_fields p0.1).1) _ rfl (at_M hW 0 rfl))) (fun a hF => ?_)
        refine qs hF rfl ((y_pick_t hF rfl rfl rfl).q) (fun a hF => ?_)
        refine qs hF rfl ((y_move hF rfl).q) (fun a hF => ?_)
        rcases Bool.eq_false_or_eq_true (proto_Right_1 32 p0.2.2.2.2.2.2.2.1 3 6 ((proto_fields p0.1).1)) with hb | hb
        ·
         have H := iteT hb H
         rw [hb] at hF
         clear hb
         refine qs_w hF (wanted_y hF rfl rfl rfl rfl) rfl (Nat.le_of_ble_eq_true rfl) ((y_move hF rfl).q) (fun a hF => ?_)
         refine qs_w hF (wanted_y hF rfl rfl rfl rfl) rfl (Nat.le_of_ble_eq_true rfl) ((y_fieldAddr u24_ rfl rfl rfl T3 hF rfl 8 rfl).q) (fun a hF => ?_)
         refine qs_w hF (wanted_y hF rfl rfl rfl rfl) rfl (Nat.le_of_ble_eq_true rfl) ((y_load (v := Value.int .i64 p0.2.2.2.2.2.2.2.2.1) 1 hF rfl rfl T3 rfl).q) (fun a hF => ?_)
         refine qs_w hF (wanted_y hF rfl rfl rfl rfl) rfl (Nat.le_of_ble_eq_true rfl) (y_callV (ws := [.int .i64 64, .int .i64 p0.2.2.2.2.2.2.2.2.1, .int .i64 0, .int .i64 255, .pointer (some ⟨b2, 0, none⟩)]) (v := Value.bool (proto_Right_1 64 p0.2.2.2.2.2.2.2.2.1 0 255 ((proto_fields p0.1).1))) hF H17 rfl (fun w hW => proto_Right_1_c any w b2 64 p0.2.2.2.2.2.2.2.2.1 0 255 ((proto_fields p0.1).1) _ rfl (at_M hW 0 rfl))) (fun a hF => ?_)
         refine qs hF rfl ((y_pick_t hF rfl rfl rfl).q) (fun a hF => ?_)
         refine qs hF rfl ((y_move hF rfl).q) (fun a hF => ?_)
         rcases Bool.eq_false_or_eq_true (proto_Right_1 64 p0.2.2.2.2.2.2.2.2.1 0 255 ((proto_fields p0.1).1)) with hb | hb
         ·
          have H := iteT hb H
          rw [hb] at hF
          clear hb
          refine qs_w hF (wanted_y hF rfl rfl rfl rfl) rfl (Nat.le_of_ble_eq_true rfl) ((y_fieldAddr u24_ rfl rfl rfl T22 hF rfl 9 rfl).q) (fun a hF => ?_)
          refine qs_w hF (wanted_y hF rfl rfl rfl rfl) rfl (Nat.le_of_ble_eq_true rfl) ((y_load (v := v1) 1 hF rfl rfl T22 rfl).q) (fun a hF => ?_)
          refine qs_w hF (wanted_y hF rfl rfl rfl rfl) rfl (Nat.le_of_ble_eq_true rfl) ((y_len (r := R42) (l := p0.2.2.2.2.2.2.2.2.2) u22_ rfl hF rfl (rdc_hide EX42 h1 (rdc_ro h_v1))).q) (fun a hF => ?_)
          refine qs_w hF (wanted_y hF rfl rfl rfl rfl) rfl (Nat.le_of_ble_eq_true rfl) ((y_leq hF rfl rfl).q) (fun a hF => ?_)
          refine qs hF rfl ((y_pick_t hF rfl rfl rfl).q) (fun a hF => ?_)
          refine qs hF rfl ((y_move hF rfl).q) (fun a hF => ?_)
          rcases Bool.eq_false_or_eq_true (decide ((p0.2.2.2.2.2.2.2.2.2.length : Int) ≤ 16)) with hb | hb
          ·
           have H := iteT (of_decide_eq_true hb) H
           rw [hb] at hF
           clear hb
           refine qs_w hF (wanted_y hF rfl rfl rfl rfl) rfl (Nat.le_of_ble_eq_true rfl) ((y_fieldAddr u24_ rfl rfl rfl T22 hF rfl 9 rfl).q) (fun a hF => ?_)
           refine qs_w hF (wanted_y hF rfl rfl rfl rfl) rfl (Nat.le_of_ble_eq_true rfl) ((y_load (v := v1) 1 hF rfl rfl T22 rfl).q) (fun a hF => ?_)
           obtain ⟨x6, h5, H⟩ := bindE H
           refine qs_w hF (wanted_y hF rfl rfl rfl rfl) rfl (Nat.le_of_ble_eq_true rfl) (y_call (v := Value.bool x6) hF H19 rfl (fun w hW => slices_ContainsFunc_api_Mod_api_Mod_c any w (v1) p0.2.2.2.2.2.2.2.2.2 _ h5 (((rdc_hide EX42 h1 (rdc_ro h_v1)) : Rdc _ _ _ _ _ _) w hW).nx)) (fun a hF => ?_)
           refine qs_w hF (wanted_y hF rfl rfl rfl rfl) rfl (Nat.le_of_ble_eq_true rfl) ((y_not hF rfl).q) (fun a hF => ?_)
           refine qs hF rfl ((y_pick_t hF rfl rfl rfl).q) (fun a hF => ?_)
           refine qs hF rfl ((y_assign hF rfl).q) (fun a hF => ?_)
           refine quiet_end (fun w hW => ?_)
           refine c_then ?_
           have hW := hW.frontM (i := 1) rfl rfl
           have hW := hW.frontM (i := 1) rfl rfl
           exact ⟨_, H, hF.re ⟨rfl, trivial⟩, hW⟩
          ·
           have H := iteF (of_decide_eq_false hb) H
           rw [hb] at hF
           clear hb
           refine qs_skip hF (wanted_n hF rfl rfl rfl rfl rfl) rfl rfl (fun a hF => ?_)
           refine qs_skip hF (wanted_n hF rfl rfl rfl rfl rfl) rfl rfl (fun a hF => ?_)
           refine qs_skip hF (wanted_n hF rfl rfl rfl rfl rfl) rfl rfl (fun a hF => ?_)
           refine qs_skip hF (wanted_n hF rfl rfl rfl rfl rfl) rfl rfl (fun a hF => ?_)
           refine qs hF rfl ((y_pick_f hF rfl rfl rfl).q) (fun a hF => ?_)
           refine qs hF rfl ((y_assign hF rfl).q) (fun a hF => ?_)
           refine quiet_end (fun w hW => ?_)
           refine c_then ?_
           have hW := hW.frontM (i := 1) rfl rfl
           have hW := hW.frontM (i := 1) rfl rfl
           exact ⟨_, H, hF.re ⟨rfl, trivial⟩, hW⟩
         ·
          have H := iteF (by rw [hb]; decide) H
          rw [hb] at hF
          clear hb
          refine qs_skip hF (wanted_n hF rfl rfl rfl rfl rfl) rfl rfl (fun a hF => ?_)
          refine qs_skip hF (wanted_n hF rfl rfl rfl rfl rfl) rfl rfl (fun a hF => ?_)
          refine qs_skip hF (wanted_n hF rfl rfl rfl rfl rfl) rfl rfl (fun a hF => ?_)
          refine qs_skip hF (wanted_n hF rfl rfl rfl rfl rfl) rfl rfl (fun a hF => ?_)
          refine qs hF rfl ((y_pick_f hF rfl rfl rfl).q) (fun a hF => ?_)
          refine qs hF rfl ((y_move hF rfl).q) (fun a hF => ?_)
          refine qs_skip hF (wanted_n hF rfl rfl rfl rfl rfl) rfl rfl (fun a hF => ?_)
          refine qs_skip hF (wanted_n hF rfl rfl rfl rfl rfl) rfl rfl (fun a hF => ?_)
          refine qs_skip hF (wanted_n hF rfl rfl rfl rfl rfl) rfl rfl (fun a hF => ?_)
          refine qs_skip hF (wanted_n hF rfl rfl rfl rfl rfl) rfl rfl (fun a hF => ?_)
          refine qs hF rfl ((y_pick_f hF rfl rfl rfl).q) (fun a hF => ?_)
          refine qs hF rfl ((y_assign hF rfl).q) (fun a hF => ?_)
          refine quiet_end (fun w hW => ?_)
          refine c_then ?_
          have hW := hW.frontM (i := 1) rfl rfl
          have hW := hW.frontM (i := 1) rfl rfl
          exact ⟨_, H, hF.re ⟨rfl, trivial⟩, hW⟩
        ·
         have H := iteF (by rw [hb]; decide) H
         rw [hb] at hF
         clear hb
         refine qs_skip hF (wanted_n hF rfl rfl rfl rfl rfl) rfl rfl (fun a hF => ?_)
         refine qs_skip hF (wanted_n hF rfl rfl rfl rfl rfl) rfl rfl (fun a hF => ?_)
         refine qs_skip hF (wanted_n hF rfl rfl rfl rfl rfl) rfl rfl (fun a hF => ?_)
         refine qs_skip hF (wanted_n hF rfl rfl rfl rfl rfl) rfl rfl (fun a hF => ?_)
         refine qs hF rfl ((y_pick_f hF rfl rfl rfl).q) (fun a hF => ?_)
         refine qs hF rfl ((y_move hF rfl).q) (fun a hF => ?_)
         refine qs_skip hF (wanted_n hF rfl rfl rfl rfl rfl) rfl rfl (fun a hF => ?_)
         refine qs_skip hF (wanted_n hF rfl rfl rfl rfl rfl) rfl rfl (fun a hF => ?_)
         refine qs_skip hF (wanted_n hF rfl rfl rfl rfl rfl) rfl rfl (fun a hF => ?_)
         refine qs_skip hF (wanted_n hF rfl rfl rfl rfl rfl) rfl rfl (fun a hF => ?_)
         refine qs hF rfl ((y_pick_f hF rfl rfl rfl).q) (fun a hF => ?_)
         refine qs hF rfl ((y_move hF rfl).q) (fun a hF => ?_)
         refine qs_skip hF (wanted_n hF rfl rfl rfl rfl rfl) rfl rfl (fun a hF => ?_)
         refine qs_skip hF (wanted_n hF rfl rfl rfl rfl rfl) rfl rfl (fun a hF => ?_)
         refine qs_skip hF (wanted_n hF rfl rfl rfl rfl rfl) rfl rfl (fun a hF => ?_)
         refine qs_skip hF (wanted_n hF rfl rfl rfl rfl rfl) rfl rfl (fun a hF => ?_)
         refine qs hF rfl ((y_pick_f hF rfl rfl rfl).q) (fun a hF => ?_)
         refine qs hF rfl ((y_assign hF rfl).q) (fun a hF => ?_)
         refine quiet_end (fun w hW => ?_)
         refine c_then ?_
         have hW := hW.frontM (i := 1) rfl rfl
         have hW := hW.frontM (i := 1) rfl rfl
         exact ⟨_, H, hF.re ⟨rfl, trivial⟩, hW⟩
       ·
        have H := iteF (by rw [hb]; decide) H
        rw [hb] at hF
        clear hb
        refine qs_skip hF (wanted_n hF rfl rfl rfl rfl rfl) rfl rfl (fun a hF => ?_)
        refine qs_skip hF (wanted_n hF rfl rfl rfl rfl rfl) rfl rfl (fun a hF => ?_)
        refine qs_skip hF (wanted_n hF rfl rfl rfl rfl rfl) rfl rfl (fun a hF => ?_)
        refine qs_skip hF (wanted_n hF rfl rfl rfl rfl rfl) rfl rfl (fun a hF => ?_)
        refine qs hF rfl ((y_pick_f hF rfl rfl rfl).q) (fun a hF => ?_)
        refine qs hF rfl ((y_move hF rfl).q) (fun a hF => ?_)
        refine qs_skip hF (wanted_n hF rfl rfl rfl rfl rfl) rfl rfl (fun a hF => ?_)
        refine qs_skip hF (wanted_n hF rfl rfl rfl rfl rfl) rfl rfl (fun a hF => ?_)
        refine qs_skip hF (wanted_n hF rfl rfl rfl rfl rfl) rfl rfl (fun a hF => ?_)
        refine qs_skip hF (wanted_n hF rfl rfl rfl rfl rfl) rfl rfl (fun a hF => ?_)
        refine qs hF rfl ((y_pick_f hF rfl rfl rfl).q) (fun a hF => ?_)
        refine qs hF rfl ((y_move hF rfl).q) (fun a hF => ?_)
        refine qs_skip hF (wanted_n hF rfl rfl rfl rfl rfl) rfl rfl (fun a hF => ?_)
        refine qs_skip hF (wanted_n hF rfl rfl rfl rfl rfl) rfl rfl (fun a hF => ?_)
        refine qs_skip hF (wanted_n hF rfl rfl rfl rfl rfl) rfl rfl (fun a hF => ?_)
        refine qs_skip hF (wanted_n hF rfl rfl rfl rfl rfl) rfl rfl (fun a hF => ?_)
        refine qs hF rfl ((y_pick_f hF rfl rfl rfl).q) (fun a hF => ?_)
        refine qs hF rfl ((y_move hF rfl).q) (fun a hF => ?_)
        refine qs_skip hF (wanted_n hF rfl rfl rfl rfl rfl) rfl rfl (fun a hF => ?_)
        refine qs_skip hF (wanted_n hF rfl rfl rfl rfl rfl) rfl rfl (fun a hF => ?_)
        refine qs_skip hF (wanted_n hF rfl rfl rfl rfl rfl) rfl rfl (fun a hF => ?_)
        refine qs_skip hF (wanted_n hF rfl rfl rfl rfl rfl) rfl rfl (fun a hF => ?_)
        refine qs hF rfl ((y_pick_f hF rfl rfl rfl).q) (fun a hF => ?_)
        refine qs hF rfl ((y_assign hF rfl).q) (fun a hF => ?_)
        refine quiet_end (fun w hW => ?_)
        refine c_then ?_
        have hW := hW.frontM (i := 1) rfl rfl
        have hW := hW.frontM (i := 1) rfl rfl
        exact ⟨_, H, hF.re ⟨rfl, trivial⟩, hW⟩
      ·
       have H := iteF (by rw [hb]; decide) H
       rw [hb] at hF
       clear hb
       refine qs_skip hF (wanted_n hF rfl rfl rfl rfl rfl) rfl rfl (fun a hF => ?_)
       refine qs_skip hF (wanted_n hF rfl rfl rfl rfl rfl) rfl rfl (fun a hF => ?_)
       refine qs_skip hF (wanted_n hF rfl rfl rfl rfl rfl) rfl rfl (fun a hF => ?_)
       refine qs_skip hF (wanted_n hF rfl rfl rfl rfl rfl) rfl rfl (fun a hF => ?_)
       refine qs_skip hF (wanted_n hF rfl rfl rfl rfl rfl) rfl rfl (fun a hF => ?_)
       refine qs_skip hF (wanted_n hF rfl rfl rfl rfl rfl) rfl rfl (fun a hF => ?_)
       refine qs_skip hF (wanted_n hF rfl rfl rfl rfl rfl) rfl rfl (fun a hF => ?_)
       refine qs hF rfl ((y_pick_f hF rfl rfl rfl).q) (fun a hF => ?_)
       refine qs hF rfl ((y_move hF rfl).q) (fun a hF => ?_)
       refine qs_skip hF (wanted_n hF rfl rfl rfl rfl rfl) rfl rfl (fun a hF => ?_)
       refine qs_skip hF (wanted_n hF rfl rfl rfl rfl rfl) rfl rfl (fun a hF => ?_)
       refine qs_skip hF (wanted_n hF rfl rfl rfl rfl rfl) rfl rfl (fun a hF => ?_)
       refine qs_skip hF (wanted_n hF rfl rfl rfl rfl rfl) rfl rfl (fun a hF => ?_)
       refine qs hF rfl ((y_pick_f hF rfl rfl rfl).q) (fun a hF => ?_)
       refine qs hF rfl ((y_move hF rfl).q) (fun a hF => ?_)
       refine qs_skip hF (wanted_n hF rfl rfl rfl rfl rfl) rfl rfl (fun a hF => ?_)
       refine qs_skip hF (wanted_n hF rfl rfl rfl rfl rfl) rfl rfl (fun a hF => ?_)
       refine qs_skip hF (wanted_n hF rfl rfl rfl rfl rfl) rfl rfl (fun a hF => ?_)
       refine qs_skip hF (wanted_n hF rfl rfl rfl rfl rfl) rfl rfl (fun a hF => ?_)
       refine qs hF rfl ((y_pick_f hF rfl rfl rfl).q) (fun a hF => ?_)
       refine qs hF rfl ((y_move hF rfl).q) (fun a hF => ?_)
       refine qs_skip hF (wanted_n hF rfl rfl rfl rfl rfl) rfl rfl (fun a hF => ?_)
       refine qs_skip hF (wanted_n hF rfl rfl rfl rfl rfl) rfl rfl (fun a hF => ?_)
       refine qs_skip hF (wanted_n hF rfl rfl rfl rfl rfl) rfl rfl (fun a hF => ?_)
       refine qs_skip hF (wanted_n hF rfl rfl rfl rfl rfl) rfl rfl (fun a hF => ?_)
       refine qs hF rfl ((y_pick_f hF rfl rfl rfl).q) (fun a hF => ?_)
       refine qs hF rfl ((y_move hF rfl).q) (fun a hF => ?_)
       refine qs_skip hF (wanted_n hF rfl rfl rfl rfl rfl) rfl rfl (fun a hF => ?_)
       refine qs_skip hF (wanted_n hF rfl rfl rfl rfl rfl) rfl rfl (fun a hF => ?_)
       refine qs_skip hF (wanted_n hF rfl rfl rfl rfl rfl) rfl rfl (fun a hF => ?_)
       refine qs_skip hF (wanted_n hF rfl rfl rfl rfl rfl) rfl rfl (fun a hF => ?_)
       refine qs hF rfl ((y_pick_f hF rfl rfl rfl).q) (fun a hF => ?_)
       refine qs hF rfl ((y_assign hF rfl).q) (fun a hF => ?_)
       refine quiet_end (fun w hW => ?_)
       refine c_then ?_
       have hW := hW.frontM (i := 1) rfl rfl
       have hW := hW.frontM (i := 1) rfl rfl
       exact ⟨_, H, hF.re ⟨rfl, trivial⟩, hW⟩
     ·
      have H := iteF (by rw [hb]; decide) H
      rw [hb] at hF
      clear hb
      refine qs_skip hF (wanted_n hF rfl rfl rfl rfl rfl) rfl rfl (fun a hF => ?_)
      refine qs_skip hF (wanted_n hF rfl rfl rfl rfl rfl) rfl rfl (fun a hF => ?_)
      refine qs_skip hF (wanted_n hF rfl rfl rfl rfl rfl) rfl rfl (fun a hF => ?_)
      refine qs_skip hF (wanted_n hF rfl rfl rfl rfl rfl) rfl rfl (fun a hF => ?_)
      refine qs hF rfl ((y_pick_f hF rfl rfl rfl).q) (fun a hF => ?_)
      refine qs hF rfl ((y_move hF rfl).q) (fun a hF => ?_)
      refine qs_skip hF (wanted_n hF rfl rfl rfl rfl rfl) rfl rfl (fun a hF => ?_)
      refine qs_skip hF (wanted_n hF rfl rfl rfl rfl rfl) rfl rfl (fun a hF => ?_)
      refine qs_skip hF (wanted_n hF rfl rfl rfl rfl rfl) rfl rfl (fun a hF => ?_)
      refine qs_skip hF (wanted_n hF rfl rfl rfl rfl rfl) rfl rfl (fun a hF => ?_)
      refine qs_skip hF (wanted_n hF rfl rfl rfl rfl rfl) rfl rfl (fun a hF => ?_)
      refine qs_skip hF (wanted_n hF rfl rfl rfl rfl rfl) rfl rfl (fun a hF => ?_)
      refine qs_skip hF (wanted_n hF rfl rfl rfl rfl rfl) rfl rfl (fun a hF => ?_)
      refine qs hF rfl ((y_pick_f hF rfl rfl rfl).q) (fun a hF => ?_)
      refine qs hF rfl ((y_move hF rfl).q) (fun a hF => ?_)
      refine qs_skip hF (wanted_n hF rfl rfl rfl rfl rfl) rfl rfl (fun a hF => ?_)
      refine qs_skip hF (wanted_n hF rfl rfl rfl rfl rfl) rfl rfl (fun a hF => ?_)
      refine qs_skip hF (wanted_n hF rfl rfl rfl rfl rfl) rfl rfl (fun a hF => ?_)
      refine qs_skip hF (wanted_n hF rfl rfl rfl rfl rfl) rfl rfl (fun a hF => ?_)
      refine qs hF rfl ((y_pick_f hF rfl rfl rfl).q) (fun a hF => ?_)
      refine qs hF rfl ((y_move hF rfl).q) (fun a hF => ?_)
      refine qs_skip hF (wanted_n hF rfl rfl rfl rfl rfl) rfl rfl (fun a hF => ?_)
      refine qs_skip hF (wanted_n hF rfl rfl rfl rfl rfl) rfl rfl (fun a hF => ?_)
      refine qs_skip hF (wanted_n hF rfl rfl rfl rfl rfl) rfl rfl (fun a hF => ?_)
      refine qs_skip hF (wanted_n hF rfl rfl rfl rfl rfl) rfl rfl (fun a hF => ?_)
      refine qs hF rfl ((y_pick_f hF rfl rfl rfl).q) (fun a hF => ?_)
      refine qs hF rfl ((y_move hF rfl).q) (fun a hF => ?_)
      refine qs_skip hF (wanted_n hF rfl rfl rfl rfl rfl) rfl rfl (fun a hF => ?_)
      refine qs_skip hF (wanted_n hF rfl rfl rfl rfl rfl) rfl rfl (fun a hF => ?_)
      refine qs_skip hF (wanted_n hF rfl rfl rfl rfl rfl) rfl rfl (fun a hF => ?_)
      refine qs_skip hF (wanted_n hF rfl rfl rfl rfl rfl) rfl rfl (fun a hF => ?_)
      refine qs hF rfl ((y_pick_f hF rfl rfl rfl).q) (fun a hF => ?_)
      refine qs hF rfl ((y_move hF rfl).q) (fun a hF => ?_)
      refine qs_skip hF (wanted_n hF rfl rfl rfl rfl rfl) rfl rfl (fun a hF => ?_)
      refine qs_skip hF (wanted_n hF rfl rfl rfl rfl rfl) rfl rfl (fun a hF => ?_)
      refine qs_skip hF (wanted_n hF rfl rfl rfl rfl rfl) rfl rfl (fun a hF => ?_)
      refine qs_skip hF (wanted_n hF rfl rfl rfl rfl rfl) rfl rfl (fun a hF => ?_)
      refine qs hF rfl ((y_pick_f hF rfl rfl rfl).q) (fun a hF => ?_)
      refine qs hF rfl ((y_assign hF rfl).q) (fun a hF => ?_)
      refine quiet_end (fun w hW => ?_)
      refine c_then ?_
      have hW := hW.frontM (i := 1) rfl rfl
      have hW := hW.frontM (i := 1) rfl rfl
      exact ⟨_, H, hF.re ⟨rfl, trivial⟩, hW⟩
    ·
     have H := iteF (by rw [hb]; decide) H
     rw [hb] at hF
     clear hb
     refine qs_skip hF (wanted_n hF rfl rfl rfl rfl rfl) rfl rfl (fun a hF => ?_)
     refine qs_skip hF (wanted_n hF rfl rfl rfl rfl rfl) rfl rfl (fun a hF => ?_)
     refine qs_skip hF (wanted_n hF rfl rfl rfl rfl rfl) rfl rfl (fun a hF => ?_)
     refine qs_skip hF (wanted_n hF rfl rfl rfl rfl rfl) rfl rfl (fun a hF => ?_)
     refine qs hF rfl ((y_pick_f hF rfl rfl rfl).q) (fun a hF => ?_)
     refine qs hF rfl ((y_move hF rfl).q) (fun a hF => ?_)
     refine qs_skip hF (wanted_n hF rfl rfl rfl rfl rfl) rfl rfl (fun a hF => ?_)
     refine qs_skip hF (wanted_n hF rfl rfl rfl rfl rfl) rfl rfl (fun a hF => ?_)
     refine qs_skip hF (wanted_n hF rfl rfl rfl rfl rfl) rfl rfl (fun a hF => ?_)
     refine qs_skip hF (wanted_n hF rfl rfl rfl rfl rfl) rfl rfl (fun a hF => ?_)
     refine qs hF rfl ((y_pick_f hF rfl rfl rfl).q) (fun a hF => ?_)
     refine qs hF rfl ((y_move hF rfl).q) (fun a hF => ?_)
     refine qs_skip hF (wanted_n hF rfl rfl rfl rfl rfl) rfl rfl (fun a hF => ?_)
     refine qs_skip hF (wanted_n hF rfl rfl rfl rfl rfl) rfl rfl (fun a hF => ?_)
     refine qs_skip hF (wanted_n hF rfl rfl rfl rfl rfl) rfl rfl (fun a hF => ?_)
     refine qs_skip hF (wanted_n hF rfl rfl rfl rfl rfl) rfl rfl (fun a hF => ?_)
     refine qs_skip hF (wanted_n hF rfl rfl rfl rfl rfl) rfl rfl (fun a hF => ?_)
     refine qs_skip hF (wanted_n hF rfl rfl rfl rfl rfl) rfl rfl (fun a hF => ?_)
     refine qs_skip hF (wanted_n hF rfl rfl rfl rfl rfl) rfl rfl (fun a hF => ?_)
     refine qs hF rfl ((y_pick_f hF rfl rfl rfl).q) (fun a hF => ?_)
     refine qs hF rfl ((y_move hF rfl).q) (fun a hF => ?_)
     refine qs_skip hF (wanted_n hF rfl rfl rfl rfl rfl) rfl rfl (fun a hF => ?_)
     refine qs_skip hF (wanted_n hF rfl rfl rfl rfl rfl) rfl rfl (fun a hF => ?_)
     refine qs_skip hF (wanted_n hF rfl rfl rfl rfl rfl) rfl rfl (fun a hF => ?_)
     refine qs_skip hF (wanted_n hF rfl rfl rfl rfl rfl) rfl rfl (fun a hF => ?_)
     refine qs hF rfl ((y_pick_f hF rfl rfl rfl).q) (fun a hF => ?_)
     refine qs hF rfl ((y_move hF rfl).q) (fun a hF => ?_)
     refine qs_skip hF (wanted_n hF rfl rfl rfl rfl rfl) rfl rfl (fun a hF => ?_)
     refine qs_skip hF (wanted_n hF rfl rfl rfl rfl rfl) rfl rfl (fun a hF => ?_)
     refine qs_skip hF (wanted_n hF rfl rfl rfl rfl rfl) rfl rfl (fun a hF => ?_)
     refine qs_skip hF (wanted_n hF rfl rfl rfl rfl rfl) rfl rfl (fun a hF => ?_)
     refine qs hF rfl ((y_pick_f hF rfl rfl rfl).q) (fun a hF => ?_)
     refine qs hF rfl ((y_move hF rfl).q) (fun a hF => ?_)
     refine qs_skip hF (wanted_n hF rfl rfl rfl rfl rfl) rfl rfl (fun a hF => ?_)
     refine qs_skip hF (wanted_n hF rfl rfl rfl rfl rfl) rfl rfl (fun a hF => ?_)
     refine qs_skip hF (wanted_n hF rfl rfl rfl rfl rfl) rfl rfl (fun a hF => ?_)
     refine qs_skip hF (wanted_n hF rfl rfl rfl rfl rfl) rfl rfl (fun a hF => ?_)
     refine qs hF rfl ((y_pick_f hF rfl rfl rfl).q) (fun a hF => ?_)
     refine qs hF rfl ((y_move hF rfl).q) (fun a hF => ?_)
     refine qs_skip hF (wanted_n hF rfl rfl rfl rfl rfl) rfl rfl (fun a hF => ?_)
     refine qs_skip hF (wanted_n hF rfl rfl rfl rfl rfl) rfl rfl (fun a hF => ?_)
     refine qs_skip hF (wanted_n hF rfl rfl rfl rfl rfl) rfl rfl (fun a hF => ?_)
     refine qs_skip hF (wanted_n hF rfl rfl rfl rfl rfl) rfl rfl (fun a hF => ?_)
     refine qs hF rfl ((y_pick_f hF rfl rfl rfl).q) (fun a hF => ?_)
     refine qs hF rfl ((y_assign hF rfl).q) (fun a hF => ?_)
     refine quiet_end (fun w hW => ?_)
     refine c_then ?_
     have hW := hW.frontM (i := 1) rfl rfl
     have hW := hW.frontM (i := 1) rfl rfl
     exact ⟨_, H, hF.re ⟨rfl, trivial⟩, hW⟩
   ·
    have H := iteF (by rw [hb]; decide) H
    rw [hb] at hF
    clear hb
    refine qs_skip hF (wanted_n hF rfl rfl rfl rfl rfl) rfl rfl (fun a hF => ?_)
    refine qs_skip hF (wanted_n hF rfl rfl rfl rfl rfl) rfl rfl (fun a hF => ?_)
    refine qs_skip hF (wanted_n hF rfl rfl rfl rfl rfl) rfl rfl (fun a hF => ?_)
    refine qs_skip hF (wanted_n hF rfl rfl rfl rfl rfl) rfl rfl (fun a hF => ?_)
    refine qs hF rfl ((y_pick_f hF rfl rfl rfl).q) (fun a hF => ?_)
    refine qs hF rfl ((y_move hF rfl).q) (fun a hF => ?_)
    refine qs_skip hF (wanted_n hF rfl rfl rfl rfl rfl) rfl rfl (fun a hF => ?_)
    refine qs_skip hF (wanted_n hF rfl rfl rfl rfl rfl) rfl rfl (fun a hF => ?_)
    refine qs_skip hF (wanted_n hF rfl rfl rfl rfl rfl) rfl rfl (fun a hF => ?_)
    refine qs_skip hF (wanted_n hF rfl rfl rfl rfl rfl) rfl rfl (fun a hF => ?_)
    refine qs hF rfl ((y_pick_f hF rfl rfl rfl).q) (fun a hF => ?_)
    refine qs hF rfl ((y_move hF rfl).q) (fun a hF => ?_)
    refine qs_skip hF (wanted_n hF rfl rfl rfl rfl rfl) rfl rfl (fun a hF => ?_)
    refine qs_skip hF (wanted_n hF rfl rfl rfl rfl rfl) rfl rfl (fun a hF => ?_)
    refine qs_skip hF (wanted_n hF rfl rfl rfl rfl rfl) rfl rfl (fun a hF => ?_)
    refine qs_skip hF (wanted_n hF rfl rfl rfl rfl rfl) rfl rfl (fun a hF => ?_)
    refine qs hF rfl ((y_pick_f hF rfl rfl rfl).q) (fun a hF => ?_)
    refine qs hF rfl ((y_move hF rfl).q) (fun a hF => ?_)
    refine qs_skip hF (wanted_n hF rfl rfl rfl rfl rfl) rfl rfl (fun a hF => ?_)
    refine qs_skip hF (wanted_n hF rfl rfl rfl rfl rfl) rfl rfl (fun a hF => ?_)
    refine qs_skip hF (wanted_n hF rfl rfl rfl rfl rfl) rfl rfl (fun a hF => ?_)
    refine qs_skip hF (wanted_n hF rfl rfl rfl rfl rfl) rfl rfl (fun a hF => ?_)
    refine qs_skip hF (wanted_n hF rfl rfl rfl rfl rfl) rfl rfl (fun a hF => ?_)
    refine qs_skip hF (wanted_n hF rfl rfl rfl rfl rfl) rfl rfl (fun a hF => ?_)
    refine qs_skip hF (wanted_n hF rfl rfl rfl rfl rfl) rfl rfl (fun a hF => ?_)
    refine qs hF rfl ((y_pick_f hF rfl rfl rfl).q) (fun a hF => ?_)
    refine qs hF rfl ((y_move hF rfl).q) (fun a hF => ?_)
    refine qs_skip hF (wanted_n hF rfl rfl rfl rfl rfl) rfl rfl (fun a hF => ?_)
    refine qs_skip hF (wanted_n hF rfl rfl rfl rfl rfl) rfl rfl (fun a hF => ?_)
    refine qs_skip hF (wanted_n hF rfl rfl rfl rfl rfl) rfl rfl (fun a hF => ?_)
    refine qs_skip hF (wanted_n hF rfl rfl rfl rfl rfl) rfl rfl (fun a hF => ?_)
    refine qs hF rfl ((y_pick_f hF rfl rfl rfl).q) (fun a hF => ?_)
    refine qs hF rfl ((y_move hF rfl).q) (fun a hF => ?_)
    refine qs_skip hF (wanted_n hF rfl rfl rfl rfl rfl) rfl rfl (fun a hF => ?_)
    refine qs_skip hF (wanted_n hF rfl rfl rfl rfl rfl) rfl rfl (fun a hF => ?_)
    refine qs_skip hF (wanted_n hF rfl rfl rfl rfl rfl) rfl rfl (fun a hF => ?_)
    refine qs_skip hF (wanted_n hF rfl rfl rfl rfl rfl) rfl rfl (fun a hF => ?_)
    refine qs hF rfl ((y_pick_f hF rfl rfl rfl).q) (fun a hF => ?_)
    refine qs hF rfl ((y_move hF rfl).q) (fun a hF => ?_)
    refine qs_skip hF (wanted_n hF rfl rfl rfl rfl rfl) rfl rfl (fun a hF => ?_)
    refine qs_skip hF (wanted_n hF rfl rfl rfl rfl rfl) rfl rfl (fun a hF => ?_)
    refine qs_skip hF (wanted_n hF rfl rfl rfl rfl rfl) rfl rfl (fun a hF => ?_)
    refine qs_skip hF (wanted_n hF rfl rfl rfl rfl rfl) rfl rfl (fun a hF => ?_)
    refine qs hF rfl ((y_pick_f hF rfl rfl rfl).q) (fun a hF => ?_)
    refine qs hF rfl ((y_move hF rfl).q) (fun a hF => ?_)
    refine qs_skip hF (wanted_n hF rfl rfl rfl rfl rfl) rfl rfl (fun a hF => ?_)
    refine qs_skip hF (wanted_n hF rfl rfl rfl rfl rfl) rfl rfl (fun a hF => ?_)
    refine qs_skip hF (wanted_n hF rfl rfl rfl rfl rfl) rfl rfl (fun a hF => ?_)
    refine qs_skip hF (wanted_n hF rfl rfl rfl rfl rfl) rfl rfl (fun a hF => ?_)
    refine qs hF rfl ((y_pick_f hF rfl rfl rfl).q) (fun a hF => ?_)
    refine qs hF rfl ((y_assign hF rfl).q) (fun a hF => ?_)
    refine quiet_end (fun w hW => ?_)
    refine c_then ?_
    have hW := hW.frontM (i := 1) rfl rfl
    have hW := hW.frontM (i := 1) rfl rfl
    exact ⟨_, H, hF.re ⟨rfl, trivial⟩, hW⟩
  rintro a w ⟨x4, hj, hF, hW⟩
  have hj := Option.some.inj hj
  subst hj
  have H := K2
  clear G2 K2
  refine wp_ret ?_
  have H := Option.some.inj H
  subst H
  refine post1 (.inl rfl) hF hW rfl (rv_tmp hF rfl) ?_
  exact ⟨rfl, hW.done⟩

theorem u5_ : type_of% Try.underlying5 := Try.underlying5
theorem u9_ : type_of% Try.underlying9 := Try.underlying9
theorem u33_ : type_of% Try.underlying33 := Try.underlying33
theorem H7 : Has Try.prog 7 := ⟨fun args w => run_callFunc_body Try.func7 rfl (by decide) args w⟩
theorem L33 : Et Try.prog 33 5 1 1 := Et.of u33_ (by kernel_rfl) (by kernel_rfl) (by kernel_rfl) (by decide)
theorem Z5 : (Try.prog.info? 5).bind (·.zero) = some (.int .u8 0) := by kernel_rfl
theorem T5 : Ty Try.prog 5 false 1 := ⟨by kernel_rfl, by kernel_rfl⟩
noncomputable def octet_bigEndian_l1 (p0 : Int) (p1 : Int) : (List Int × Int) → Option ((List Int × Int) ⊕ (List Int))
  | (x3, x4) => (if x4 < p1 then (shN (shrI .i64 p0 (w64 (8 * (w64 ((w64 (p1 - 1)) - x4))))) (w64 (8 * (w64 ((w64 (p1 - 1)) - x4))))).bind fun x5 => (ix x3 x4).bind fun x6 => some (.inl ((setAt x3 x4 (IntKind.u8.wrap x5)), w64 (x4 + 1))) else some (.inr x3))
noncomputable def octet_bigEndian (p0 : Int) (p1 : Int) : Option (List UInt8) := (mk p1 (0 : Int)).bind fun x1 => (loopW (octet_bigEndian_l1 p0 p1) (x1, 0)).bind fun x2 => some (strOf x2)
theorem octet_bigEndian_c (Y : Nat → Prop) (w0 : World)  (p0 : Int) (p1 : Int) (r : List UInt8) (H : octet_bigEndian p0 p1 = some r)  :
    Calls Try.prog 49 #[.int .i64 p0, .int .i64 p1] w0 fun e w' => e = .returned (.string (bs r)) ∧ Below w0.heap.size w0 w' := by
 refine enter Try.func49 rfl Try.ntmps49 rfl (fun a hF => ?_)
 have hW := Stw.start Y w0
 unfold octet_bigEndian at H
 refine c_seq ?_
 refine reg_list ?_
 refine ls hF hW rfl ((y_assign (v := Value.string (bs ([] : List UInt8))) hF rfl).q) (fun a w hF hW => ?_)
 refine ls_nil ?_
 refine c_then ?_
 refine c_seq ?_
 refine reg_list ?_
 refine ls hF hW rfl ((y_move hF rfl).q) (fun a w hF hW => ?_)
 obtain ⟨x1, h1, H⟩ := bindE H
 refine l_make (r := (Rp.int .u8)) (0 : Int) hF hW rfl L33 Z5 rfl rfl (fun w A => Fl.int.mk' w A _) h1 rfl (fun v1 a w hF hW => ?_)
 refine ls hF hW rfl ((y_assign hF rfl).q) (fun a w hF hW => ?_)
 refine ls_nil ?_
 refine c_then ?_
 obtain ⟨o1, G1, K1⟩ := bindE H
 refine c_seqJ (fun a w => ∃ x2 : List Int, some (x2) = some o1 ∧ Fr 27 [] [(4, .string (bs ([] : List UInt8))), (5, v1)] a ∧ Stw ⟨Y, [], w0⟩ [] [row v1 5 (Rp.int .u8) x2] w) ?_ ?_
 ·
  have H := G1
  clear G1 K1
  refine c_seq ?_
  refine reg_list ?_
  refine ls hF hW rfl ((y_move hF rfl).q) (fun a w hF hW => ?_)
  refine ls hF hW rfl ((y_move hF rfl).q) (fun a w hF hW => ?_)
  refine ls_nil ?_
  refine c_then ?_
  refine wp_block ?_
  refine c_loopW H (fun s a w => Fr 27 [] [(0, .int .i64 p0), (1, .int .i64 p1), (4, .string (bs ([] : List UInt8))), (5, v1), (9, .int .i64 p1), (10, .int .i64 s.2)] a ∧ Stw ⟨Y, [], w0⟩ [] [row v1 5 (Rp.int .u8) s.1] w) ⟨hF.re ⟨rfl, rfl, rfl, rfl, rfl, rfl, trivial⟩, hW⟩ (fun s o a w H L2 hR => ?_)
  obtain ⟨x3, x4⟩ := s
  obtain ⟨hF, hW⟩ := hR
  have hF : Fr 27 [] [(0, .int .i64 p0), (1, .int .i64 p1), (4, .string (bs ([] : List UInt8))), (5, v1), (9, .int .i64 p1), (10, .int .i64 x4)] a := hF
  have hW : Stw ⟨Y, [], w0⟩ [] [row v1 5 (Rp.int .u8) x3] w := hW
  rw [octet_bigEndian_l1] at H
  refine c_seq ?_
  refine reg_list ?_
  refine ls hF hW rfl ((y_lss hF rfl rfl).q) (fun a w hF hW => ?_)
  refine ls_nil ?_
  refine c_then ?_
  refine c_seq ?_
  refine c_cond hF rfl (fun hb => ?_) (fun hb => ?_)
  ·
   have H := iteT (of_decide_eq_true hb) H
   rw [hb] at hF
   clear hb
   refine wp_skip ?_
   refine c_then ?_
   refine c_seq ?_
   refine wp_block ?_
   refine c_seq ?_
   refine reg_list ?_
   refine ls hF hW rfl ((y_move hF rfl).q) (fun a w hF hW => ?_)
   refine ls hF hW rfl ((y_assign hF rfl).q) (fun a w hF hW => ?_)
   refine ls_nil ?_
   refine c_then ?_
   refine reg_list ?_
   refine ls hF hW rfl ((y_move hF rfl).q) (fun a w hF hW => ?_)
   refine ls hF hW rfl ((y_move hF rfl).q) (fun a w hF hW => ?_)
   refine ls hF hW rfl ((y_move hF rfl).q) (fun a w hF hW => ?_)
   refine ls hF hW rfl ((y_move hF rfl).q) (fun a w hF hW => ?_)
   refine ls hF hW rfl ((y_sub hF rfl rfl rfl).q) (fun a w hF hW => ?_)
   refine ls hF hW rfl ((y_move hF rfl).q) (fun a w hF hW => ?_)
   refine ls hF hW rfl ((y_sub hF rfl rfl rfl).q) (fun a w hF hW => ?_)
   refine ls hF hW rfl ((y_mul hF rfl rfl rfl).q) (fun a w hF hW => ?_)
   obtain ⟨x5, h2, H⟩ := bindE H
   refine ls hF hW rfl ((y_shc (shN_some h2).2 (y_shr hF rfl rfl (shN_some h2).1)).q) (fun a w hF hW => ?_)
   refine ls hF hW rfl ((y_convI u3_ u5_ hF rfl).q) (fun a w hF hW => ?_)
   obtain ⟨x6, h3, H⟩ := bindE H
   refine ls hF hW rfl ((y_index (r := (Rp.int .u8)) L33 hF rfl rfl (rdc_row 0 rfl) h3).q) (fun a w hF hW => ?_)
   refine l_store_el (i := x4) (j := 0) (vs := [.int .u8 (IntKind.u8.wrap x5)]) (x' := IntKind.u8.wrap x5) hF hW rfl rfl rfl (k := 0) rfl rfl h3 T5 rfl rfl rfl rfl (fun A cs _ => Fl.int.sto (by rfl) _ _ _) (fun w hW => ?_)
   refine ls_nil ?_
   refine b_normal ?_
   refine c_then ?_
   refine reg_list ?_
   refine ls hF hW rfl ((y_add hF rfl rfl rfl).q) (fun a w hF hW => ?_)
   refine ls hF hW rfl ((y_move hF rfl).q) (fun a w hF hW => ?_)
   refine ls_nil ?_
   refine c_then ?_
   exact ⟨_, H, hF.re ⟨rfl, rfl, rfl, rfl, rfl, rfl, trivial⟩, hW⟩
  ·
   have H := iteF (of_decide_eq_false hb) H
   rw [hb] at hF
   clear hb
   refine wp_exit ?_
   refine e_then ?_
   refine e_then ?_
   refine e_block ?_
   refine c_then ?_
   have H := L2 _ H
   exact ⟨_, H, hF.re ⟨rfl, rfl, trivial⟩, hW⟩
 rintro a w ⟨x2, hj, hF, hW⟩
 have hj := Option.some.inj hj
 subst hj
 have H := K1
 clear G1 K1
 refine c_seq ?_
 refine reg_list ?_
 refine ls hF hW rfl ((y_move hF rfl).q) (fun a w hF hW => ?_)
 refine ls hF hW rfl ((y_convB (ns := x2) u33_ u5_ u9_ hF rfl (rdc_row 0 rfl)).q) (fun a w hF hW => ?_)
 refine ls hF hW rfl ((y_assign hF rfl).q) (fun a w hF hW => ?_)
 refine ls_nil ?_
 refine c_then ?_
 refine wp_ret ?_
 have H := Option.some.inj H
 subst H
 refine post1 (.inl rfl) hF hW rfl (rv_tmp hF rfl) ?_
 exact ⟨rfl, hW.done⟩

theorem H49 : Has Try.prog 49 := ⟨fun args w => run_callFunc_body Try.func49 rfl (by decide) args w⟩
noncomputable def octet_Num (p0 : Int) (p1 : Int) : Option (List UInt8) := (if p1 < 1 then some true else (if 7 < p1 then some true else (if p0 < 0 then some true else (shN (shrI .i64 p0 (w64 (8 * p1))) (w64 (8 * p1))).bind fun x2 => some (decide (x2 ≠ 0))))).bind fun x1 => (if x1 = true then some ([] : List UInt8) else (octet_bigEndian p0 p1).bind fun x3 => some x3)
theorem octet_Num_c (Y : Nat → Prop) (w0 : World)  (p0 : Int) (p1 : Int) (r : List UInt8) (H : octet_Num p0 p1 = some r)  :
    Calls Try.prog 29 #[.int .i64 p0, .int .i64 p1] w0 fun e w' => e = .returned (.string (bs r)) ∧ Below w0.heap.size w0 w' := by
 refine enter Try.func29 rfl Try.ntmps29 rfl (fun a hF => ?_)
 have hW := Stw.start Y w0
 unfold octet_Num at H
 refine c_seq ?_
 refine reg_list ?_
 refine ls hF hW rfl ((y_assign (v := Value.string (bs ([] : List UInt8))) hF rfl).q) (fun a w hF hW => ?_)
 refine ls_nil ?_
 refine c_then ?_
 refine c_seq ?_
 obtain ⟨o1, G1, K1⟩ := bindE H
 refine c_seqJ (fun a w => ∃ x1 : Bool, some (x1) = some o1 ∧ Fr 25 [] [(0, .int .i64 p0), (1, .int .i64 p1), (4, .string (bs ([] : List UInt8))), (21, .bool x1)] a ∧ Stw ⟨Y, [], w0⟩ [] [] w) ?_ ?_
 ·
  have H := G1
  clear G1 K1
  refine reg_list ?_
  refine ls hF hW rfl ((y_move hF rfl).q) (fun a w hF hW => ?_)
  refine ls hF hW rfl ((y_lss hF rfl rfl).q) (fun a w hF hW => ?_)
  refine ls hF hW rfl ((y_move hF rfl).q) (fun a w hF hW => ?_)
  rcases Bool.eq_false_or_eq_true (decide (p1 < 1)) with hb | hb
  ·
   have H := iteT (of_decide_eq_true hb) H
   rw [hb] at hF
   clear hb
   refine lsn hF rfl rfl rfl rfl rfl rfl rfl (fun a hF => ?_)
   refine lsn hF rfl rfl rfl rfl rfl rfl rfl (fun a hF => ?_)
   refine ls hF hW rfl ((y_pick_t hF rfl rfl rfl).q) (fun a w hF hW => ?_)
   refine ls hF hW rfl ((y_move hF rfl).q) (fun a w hF hW => ?_)
   refine lsn hF rfl rfl rfl rfl rfl rfl rfl (fun a hF => ?_)
   refine lsn hF rfl rfl rfl rfl rfl rfl rfl (fun a hF => ?_)
   refine ls hF hW rfl ((y_pick_t hF rfl rfl rfl).q) (fun a w hF hW => ?_)
   refine ls hF hW rfl ((y_move hF rfl).q) (fun a w hF hW => ?_)
   refine lsn hF rfl rfl rfl rfl rfl rfl rfl (fun a hF => ?_)
   refine lsn hF rfl rfl rfl rfl rfl rfl rfl (fun a hF => ?_)
   refine lsn hF rfl rfl rfl rfl rfl rfl rfl (fun a hF => ?_)
   refine lsn hF rfl rfl rfl rfl rfl rfl rfl (fun a hF => ?_)
   refine lsn hF rfl rfl rfl rfl rfl rfl rfl (fun a hF => ?_)
   refine ls hF hW rfl ((y_pick_t hF rfl rfl rfl).q) (fun a w hF hW => ?_)
   refine ls_nil ?_
   refine c_then ?_
   exact ⟨_, H, hF.re ⟨rfl, rfl, rfl, rfl, trivial⟩, hW⟩
  ·
   have H := iteF (of_decide_eq_false hb) H
   rw [hb] at hF
   clear hb
   refine ls_w hF hW (wanted_y hF rfl rfl rfl rfl) rfl (Nat.le_of_ble_eq_true rfl) ((y_move hF rfl).q) (fun a w hF hW => ?_)
   refine ls_w hF hW (wanted_y hF rfl rfl rfl rfl) rfl (Nat.le_of_ble_eq_true rfl) ((y_gtr hF rfl rfl).q) (fun a w hF hW => ?_)
   refine ls hF hW rfl ((y_pick_f hF rfl rfl rfl).q) (fun a w hF hW => ?_)
   refine ls hF hW rfl ((y_move hF rfl).q) (fun a w hF hW => ?_)
   rcases Bool.eq_false_or_eq_true (decide (7 < p1)) with hb | hb
   ·
    have H := iteT (of_decide_eq_true hb) H
    rw [hb] at hF
    clear hb
    refine lsn hF rfl rfl rfl rfl rfl rfl rfl (fun a hF => ?_)
    refine lsn hF rfl rfl rfl rfl rfl rfl rfl (fun a hF => ?_)
    refine ls hF hW rfl ((y_pick_t hF rfl rfl rfl).q) (fun a w hF hW => ?_)
    refine ls hF hW rfl ((y_move hF rfl).q) (fun a w hF hW => ?_)
    refine lsn hF rfl rfl rfl rfl rfl rfl rfl (fun a hF => ?_)
    refine lsn hF rfl rfl rfl rfl rfl rfl rfl (fun a hF => ?_)
    refine lsn hF rfl rfl rfl rfl rfl rfl rfl (fun a hF => ?_)
    refine lsn hF rfl rfl rfl rfl rfl rfl rfl (fun a hF => ?_)
    refine lsn hF rfl rfl rfl rfl rfl rfl rfl (fun a hF => ?_)
    refine ls hF hW rfl ((y_pick_t hF rfl rfl rfl).q) (fun a w hF hW => ?_)
    refine ls_nil ?_
    refine c_then ?_
    exact ⟨_, H, hF.re ⟨rfl, rfl, rfl, rfl, trivial⟩, hW⟩
   ·
    have H := iteF (of_decide_eq_false hb) H
    rw [hb] at hF
    clear hb
    refine ls_w hF hW (wanted_y hF rfl rfl rfl rfl) rfl (Nat.le_of_ble_eq_true rfl) ((y_move hF rfl).q) (fun a w hF hW => ?_)
    refine ls_w hF hW (wanted_y hF rfl rfl rfl rfl) rfl (Nat.le_of_ble_eq_true rfl) ((y_lss hF rfl rfl).q) (fun a w hF hW => ?_)
    refine ls hF hW rfl ((y_pick_f hF rfl rfl rfl).q) (fun a w hF hW => ?_)
    refine ls hF hW rfl ((y_move hF rfl).q) (fun a w hF hW => ?_)
    rcases Bool.eq_false_or_eq_true (decide (p0 < 0)) with hb | hb
    ·
     have H := iteT (of_decide_eq_true hb) H
     rw [hb] at hF
     clear hb
     refine lsn hF rfl rfl rfl rfl rfl rfl rfl (fun a hF => ?_)
     refine lsn hF rfl rfl rfl rfl rfl rfl rfl (fun a hF => ?_)
     refine lsn hF rfl rfl rfl rfl rfl rfl rfl (fun a hF => ?_)
     refine lsn hF rfl rfl rfl rfl rfl rfl rfl (fun a hF => ?_)
     refine lsn hF rfl rfl rfl rfl rfl rfl rfl (fun a hF => ?_)
     refine ls hF hW rfl ((y_pick_t hF rfl rfl rfl).q) (fun a w hF hW => ?_)
     refine ls_nil ?_
     refine c_then ?_
     exact ⟨_, H, hF.re ⟨rfl, rfl, rfl, rfl, trivial⟩, hW⟩
    ·
     have H := iteF (of_decide_eq_false hb) H
     rw [hb] at hF
     clear hb
     refine ls_w hF hW (wanted_y hF rfl rfl rfl rfl) rfl (Nat.le_of_ble_eq_true rfl) ((y_move hF rfl).q) (fun a w hF hW => ?_)
     refine ls_w hF hW (wanted_y hF rfl rfl rfl rfl) rfl (Nat.le_of_ble_eq_true rfl) ((y_move hF rfl).q) (fun a w hF hW => ?_)
     refine ls_w hF hW (wanted_y hF rfl rfl rfl rfl) rfl (Nat.le_of_ble_eq_true rfl) ((y_mul hF rfl rfl rfl).q) (fun a w hF hW => ?_)
     obtain ⟨x2, h1, H⟩ := bindE H
     refine ls_w hF hW (wanted_y hF rfl rfl rfl rfl) rfl (Nat.le_of_ble_eq_true rfl) ((y_shc (shN_some h1).2 (y_shr hF rfl rfl (shN_some h1).1)).q) (fun a w hF hW => ?_)
     refine ls_w hF hW (wanted_y hF rfl rfl rfl rfl) rfl (Nat.le_of_ble_eq_true rfl) ((y_neq hF rfl rfl).q) (fun a w hF hW => ?_)
     refine ls hF hW rfl ((y_pick_f hF rfl rfl rfl).q) (fun a w hF hW => ?_)
     refine ls_nil ?_
     refine c_then ?_
     exact ⟨_, H, hF.re ⟨rfl, rfl, rfl, rfl, trivial⟩, hW⟩
 rintro a w ⟨x1, hj, hF, hW⟩
 have hj := Option.some.inj hj
 subst hj
 have H := K1
 clear G1 K1
 refine c_cond hF rfl (fun hb => ?_) (fun hb => ?_)
 ·
  have H := iteT hb H
  rw [hb] at hF
  clear hb
  refine c_seq ?_
  refine reg_list ?_
  refine ls hF hW rfl ((y_assign (v := Value.string (bs ([] : List UInt8))) hF rfl).q) (fun a w hF hW => ?_)
  refine ls_nil ?_
  refine c_then ?_
  refine wp_ret ?_
  refine r_then ?_
  have H := Option.some.inj H
  subst H
  refine post1 (.inl rfl) hF hW rfl (rv_tmp hF rfl) ?_
  exact ⟨rfl, hW.done⟩
 ·
  have H := iteF (by rw [hb]; decide) H
  rw [hb] at hF
  clear hb
  refine wp_skip ?_
  refine c_then ?_
  refine c_seq ?_
  refine reg_list ?_
  refine ls hF hW rfl ((y_move hF rfl).q) (fun a w hF hW => ?_)
  refine ls hF hW rfl ((y_move hF rfl).q) (fun a w hF hW => ?_)
  obtain ⟨x3, h2, H⟩ := bindE H
  refine ls hF hW rfl (y_call (v := Value.string (bs x3)) hF H49 rfl (fun w hW => octet_bigEndian_c any w p0 p1 _ h2)) (fun a w hF hW => ?_)
  refine ls hF hW rfl ((y_assign hF rfl).q) (fun a w hF hW => ?_)
  refine ls_nil ?_
  refine c_then ?_
  refine wp_ret ?_
  have H := Option.some.inj H
  subst H
  refine post1 (.inl rfl) hF hW rfl (rv_tmp hF rfl) ?_
  exact ⟨rfl, hW.done⟩

theorem H29 : Has Try.prog 29 := ⟨fun args w => run_callFunc_body Try.func29 rfl (by decide) args w⟩
theorem H28 : Has Try.prog 28 := ⟨fun args w => run_callFunc_body Try.func28 rfl (by decide) args w⟩
noncomputable def octet_Int (p0 : Int) : Option (List UInt8) := (octet_bigEndian p0 8).bind fun x1 => some x1
theorem octet_Int_c (Y : Nat → Prop) (w0 : World)  (p0 : Int) (r : List UInt8) (H : octet_Int p0 = some r)  :
    Calls Try.prog 31 #[.int .i64 p0] w0 fun e w' => e = .returned (.string (bs r)) ∧ Below w0.heap.size w0 w' := by
 refine enter Try.func31 rfl Try.ntmps31 rfl (fun a hF => ?_)
 have hW := Stw.start Y w0
 unfold octet_Int at H
 refine c_seq ?_
 refine reg_list ?_
 refine ls hF hW rfl ((y_assign (v := Value.string (bs ([] : List UInt8))) hF rfl).q) (fun a w hF hW => ?_)
 refine ls_nil ?_
 refine c_then ?_
 refine c_seq ?_
 refine reg_list ?_
 refine ls hF hW rfl ((y_move hF rfl).q) (fun a w hF hW => ?_)
 obtain ⟨x1, h1, H⟩ := bindE H
 refine ls hF hW rfl (y_call (v := Value.string (bs x1)) hF H49 rfl (fun w hW => octet_bigEndian_c any w p0 8 _ h1)) (fun a w hF hW => ?_)
 refine ls hF hW rfl ((y_assign hF rfl).q) (fun a w hF hW => ?_)
 refine ls_nil ?_
 refine c_then ?_
 refine wp_ret ?_
 have H := Option.some.inj H
 subst H
 refine post1 (.inl rfl) hF hW rfl (rv_tmp hF rfl) ?_
 exact ⟨rfl, hW.done⟩

theorem H31 : Has Try.prog 31 := ⟨fun args w => run_callFunc_body Try.func31 rfl (by decide) args w⟩
noncomputable def proto_Code_1 (p0 : Int) (p1 : List UInt8) (p2 : Int) (p3 : List UInt8) : Option (List UInt8) := (if (andI .i64 p2 p0) ≠ 0 then (app p3 p1).bind fun x1 => some x1 else some p3)
theorem proto_Code_1_c (Y : Nat → Prop) (X : List Nat) (w0 : World) (q_p2 : Nat) (q_p3 : Nat) (v_p3 : Value) (p0 : Int) (p1 : List UInt8) (p2 : Int) (p3 : List UInt8) (r : List UInt8) (H : proto_Code_1 p0 p1 p2 p3 = some r) (a_q_p2 : At ⟨Y, X, w0⟩ q_p2 0 [.int .i64 p2]) (hL : Stw ⟨Y, X, w0⟩ [] [bldr 57 5 q_p3 v_p3 p3] w0) :
    Calls Try.prog 30 #[.int .i64 p0, .string (bs p1), .pointer (some ⟨q_p2, 0, none⟩), .pointer (some ⟨q_p3, 0, none⟩)] w0 fun e w' => ∃ x : Value, e = .returned (.tuple #[]) ∧ Stw ⟨Y, X, w0⟩ [] [bldr 57 5 q_p3 (x) r] w' := by
 refine enter Try.func30 rfl Try.ntmps30 rfl (fun a hF => ?_)
 have hW := hL
 unfold proto_Code_1 at H
 refine c_seq ?_
 refine reg_list ?_
 refine ls hF hW rfl ((y_load_at (y := Value.int .i64 p2) (j := 0) hF rfl (Nat.zero_add _).symm a_q_p2 T3 rfl).q) (fun a w hF hW => ?_)
 refine ls hF hW rfl ((y_move hF rfl).q) (fun a w hF hW => ?_)
 refine ls hF hW rfl ((y_and hF rfl rfl).q) (fun a w hF hW => ?_)
 refine ls hF hW rfl ((y_neq hF rfl rfl).q) (fun a w hF hW => ?_)
 refine ls_nil ?_
 refine c_then ?_
 refine c_cond hF rfl (fun hb => ?_) (fun hb => ?_)
 ·
  have H := iteT (of_decide_eq_true hb) H
  rw [hb] at hF
  clear hb
  refine reg_list ?_
  refine ls hF hW rfl ((y_move hF rfl).q) (fun a w hF hW => ?_)
  obtain ⟨x1, h1, H⟩ := bindE H
  refine l_callG (Ml := []) (Zl := [bldr 57 5 q_p3 v_p3 p3]) (M := []) (Z := []) (β := Value) (rv := fun x => .tuple #[.int .i64 (p1.length : Int), .nilIface]) (MM := fun x => []) (ZZ := fun x => [bldr 57 5 q_p3 x x1]) hF hW H28 rfl rfl (fun hL => ws_c _ _ w q_p3 v_p3 p3 p1 _ h1 hL) (fun v1 a w hF hW => ?_)
  have hW : Stw ⟨Y, X, w0⟩ [] [bldr 57 5 q_p3 v1 x1] w := hW
  refine ls_nil ?_
  have H := Option.some.inj H
  subst H
  refine post0 (.inr rfl) hF rfl ?_
  exact ⟨v1, rfl, hW⟩
 ·
  have H := iteF (of_decide_eq_false hb) H
  rw [hb] at hF
  clear hb
  refine wp_skip ?_
  have H := Option.some.inj H
  subst H
  refine post0 (.inr rfl) hF rfl ?_
  exact ⟨v_p3, rfl, hW⟩

theorem H30 : Has Try.prog 30 := ⟨fun args w => run_callFunc_body Try.func30 rfl (by decide) args w⟩
def octet_Flag (p0 : Bool) : List UInt8 := (if p0 = true then ([1] : List UInt8) else ([0] : List UInt8))
theorem octet_Flag_c (Y : Nat → Prop) (w0 : World)  (p0 : Bool) (r : List UInt8) (H : octet_Flag p0 = r)  :
    Calls Try.prog 50 #[.bool p0] w0 fun e w' => e = .returned (.string (bs r)) ∧ Below w0.heap.size w0 w' := by
 refine enter Try.func50 rfl Try.ntmps50 rfl (fun a hF => ?_)
 have hW := Stw.start Y w0
 unfold octet_Flag at H
 refine c_seq ?_
 refine reg_list ?_
 refine ls hF hW rfl ((y_assign (v := Value.string (bs ([] : List UInt8))) hF rfl).q) (fun a w hF hW => ?_)
 refine ls_nil ?_
 refine c_then ?_
 refine c_seq ?_
 refine c_seq ?_
 refine reg_list ?_
 refine ls hF hW rfl ((y_move hF rfl).q) (fun a w hF hW => ?_)
 refine ls_nil ?_
 refine c_then ?_
 refine c_cond hF rfl (fun hb => ?_) (fun hb => ?_)
 ·
  have H := iteT hb H
  rw [hb] at hF
  clear hb
  refine c_seq ?_
  refine reg_list ?_
  refine ls hF hW rfl ((y_assign (v := Value.string (bs ([1] : List UInt8))) hF rfl).q) (fun a w hF hW => ?_)
  refine ls_nil ?_
  refine c_then ?_
  refine wp_ret ?_
  refine r_then ?_
  subst H
  refine post1 (.inl rfl) hF hW rfl (rv_tmp hF rfl) ?_
  exact ⟨rfl, hW.done⟩
 ·
  have H := iteF (by rw [hb]; decide) H
  rw [hb] at hF
  clear hb
  refine wp_skip ?_
  refine c_then ?_
  refine c_seq ?_
  refine reg_list ?_
  refine ls hF hW rfl ((y_assign (v := Value.string (bs ([0] : List UInt8))) hF rfl).q) (fun a w hF hW => ?_)
  refine ls_nil ?_
  refine c_then ?_
  refine wp_ret ?_
  subst H
  refine post1 (.inl rfl) hF hW rfl (rv_tmp hF rfl) ?_
  exact ⟨rfl, hW.done⟩

theorem H50 : Has Try.prog 50 := ⟨fun args w => run_callFunc_body Try.func50 rfl (by decide) args w⟩
theorem H33 : Has Try.prog 33 := ⟨fun args w => run_callFunc_body Try.func33 rfl (by decide) args w⟩
noncomputable def match_Code_l1 (p0 : Int × (Int × Int × Int × Int) × (Int × Int × Int × Int)) : (Int × List UInt8) → Option ((Int × List UInt8) ⊕ (List UInt8))
  | (x4, x5) => (if x4 < 4 then (ix ([p0.2.2.1, p0.2.2.2.1, p0.2.2.2.2.1, p0.2.2.2.2.2] : List Int) x4).bind fun x6 => (ix ([p0.2.1.1, p0.2.1.2.1, p0.2.1.2.2.1, p0.2.1.2.2.2] : List Int) x4).bind fun x7 => (octet_Num x7 1).bind fun x8 => (app x5 x8).bind fun x9 => (octet_Num x6 1).bind fun x10 => (app x9 x10).bind fun x11 => some (.inl (w64 (x4 + 1), x11)) else some (.inr x5))
noncomputable def match_Code (p0 : Int × (Int × Int × Int × Int) × (Int × Int × Int × Int)) : Option (List UInt8) := (octet_Num (w64 (p0.1 + 1)) 1).bind fun x1 => (app ([] : List UInt8) x1).bind fun x2 => (loopW (match_Code_l1 p0) (0, x2)).bind fun x3 => (lenB x3).bind fun x12 => some x12
theorem match_Code_c (Y : Nat → Prop) (w0 : World)  (p0 : Int × (Int × Int × Int × Int) × (Int × Int × Int × Int)) (r : List UInt8) (H : match_Code p0 = some r)  :
    Calls Try.prog 67 #[.agg #[.int .i64 p0.1, .int .i64 p0.2.1.1, .int .i64 p0.2.1.2.1, .int .i64 p0.2.1.2.2.1, .int .i64 p0.2.1.2.2.2, .int .i64 p0.2.2.1, .int .i64 p0.2.2.2.1, .int .i64 p0.2.2.2.2.1, .int .i64 p0.2.2.2.2.2]] w0 fun e w' => e = .returned (.string (bs r)) ∧ Below w0.heap.size w0 w' := by
 refine enter Try.func67 rfl Try.ntmps67 rfl (fun a hF => ?_)
 have hW := Stw.start Y w0
 unfold match_Code at H
 refine c_seq ?_
 refine reg_list ?_
 refine l_box (cs := [.int .i64 p0.1, .int .i64 p0.2.1.1, .int .i64 p0.2.1.2.1, .int .i64 p0.2.1.2.2.1, .int .i64 p0.2.1.2.2.2, .int .i64 p0.2.2.1, .int .i64 p0.2.2.2.1, .int .i64 p0.2.2.2.2.1, .int .i64 p0.2.2.2.2.2]) hF hW rfl rfl rfl (fun b1 a w hF hW => ?_)
 refine ls hF hW rfl ((y_assign (v := Value.string (bs ([] : List UInt8))) hF rfl).q) (fun a w hF hW => ?_)
 refine ls_nil ?_
 refine c_then ?_
 refine c_seq ?_
 refine reg_list ?_
 refine l_allocB hF hW rfl (fun b2 a w hF hW => ?_)
 have hW : Stw ⟨Y, [], w0⟩ [(b1, [.int .i64 p0.1, .int .i64 p0.2.1.1, .int .i64 p0.2.1.2.1, .int .i64 p0.2.1.2.2.1, .int .i64 p0.2.1.2.2.2, .int .i64 p0.2.2.1, .int .i64 p0.2.2.2.1, .int .i64 p0.2.2.2.2.1, .int .i64 p0.2.2.2.2.2])] [bldr 57 5 b2 (Value.slice none 0 0) ([] : List UInt8)] w := hW
 refine ls_nil ?_
 refine c_then ?_
 refine c_seq ?_
 refine reg_list ?_
 refine ls hF hW rfl ((y_fieldAddr u37_ rfl rfl rfl T3 hF rfl 0 rfl).q) (fun a w hF hW => ?_)
 refine ls hF hW rfl ((y_load (v := Value.int .i64 p0.1) 0 hF rfl rfl T3 rfl).q) (fun a w hF hW => ?_)
 refine ls hF hW rfl ((y_add hF rfl rfl rfl).q) (fun a w hF hW => ?_)
 obtain ⟨x1, h1, H⟩ := bindE H
 refine ls hF hW rfl (y_call (v := Value.string (bs x1)) hF H29 rfl (fun w hW => octet_Num_c any w (w64 (p0.1 + 1)) 1 _ h1)) (fun a w hF hW => ?_)
 obtain ⟨x2, h2, H⟩ := bindE H
 refine l_callG (Ml := []) (Zl := [bldr 57 5 b2 (Value.slice none 0 0) ([] : List UInt8)]) (M := [(b1, [.int .i64 p0.1, .int .i64 p0.2.1.1, .int .i64 p0.2.1.2.1, .int .i64 p0.2.1.2.2.1, .int .i64 p0.2.1.2.2.2, .int .i64 p0.2.2.1, .int .i64 p0.2.2.2.1, .int .i64 p0.2.2.2.2.1, .int .i64 p0.2.2.2.2.2])]) (Z := []) (β := Value) (rv := fun x => .tuple #[.int .i64 (x1.length : Int), .nilIface]) (MM := fun x => []) (ZZ := fun x => [bldr 57 5 b2 x x2]) hF hW H28 rfl rfl (fun hL => ws_c _ _ w b2 (Value.slice none 0 0) ([] : List UInt8) x1 _ h2 hL) (fun v1 a w hF hW => ?_)
 have hW : Stw ⟨Y, [], w0⟩ [(b1, [.int .i64 p0.1, .int .i64 p0.2.1.1, .int .i64 p0.2.1.2.1, .int .i64 p0.2.1.2.2.1, .int .i64 p0.2.1.2.2.2, .int .i64 p0.2.2.1, .int .i64 p0.2.2.2.1, .int .i64 p0.2.2.2.2.1, .int .i64 p0.2.2.2.2.2])] [bldr 57 5 b2 v1 x2] w := hW
 refine ls_nil ?_
 refine c_then ?_
 obtain ⟨o1, G1, K1⟩ := bindE H
 refine c_seqJ (fun a w => ∃ x3 : List UInt8, ∃ v2 : Value, some (x3) = some o1 ∧ Fr 28 [] [(2, .string (bs ([] : List UInt8))), (3, .pointer (some ⟨b2, 0, none⟩))] a ∧ Stw ⟨Y, [], w0⟩ [(b1, [.int .i64 p0.1, .int .i64 p0.2.1.1, .int .i64 p0.2.1.2.1, .int .i64 p0.2.1.2.2.1, .int .i64 p0.2.1.2.2.2, .int .i64 p0.2.2.1, .int .i64 p0.2.2.2.1, .int .i64 p0.2.2.2.2.1, .int .i64 p0.2.2.2.2.2])] [bldr 57 5 b2 v2 x3] w) ?_ ?_
 ·
  have H := G1
  clear G1 K1
  refine c_seq ?_
  refine reg_list ?_
  refine ls hF hW rfl ((y_fieldAddr u37_ rfl rfl rfl T35 hF rfl 5 rfl).q) (fun a w hF hW => ?_)
  refine ls hF hW rfl ((y_load (v := Value.agg #[.int .i64 p0.2.2.1, .int .i64 p0.2.2.2.1, .int .i64 p0.2.2.2.2.1, .int .i64 p0.2.2.2.2.2]) 0 hF rfl rfl T35 rfl).q) (fun a w hF hW => ?_)
  refine ls hF hW rfl ((y_move hF rfl).q) (fun a w hF hW => ?_)
  refine ls_nil ?_
  refine c_then ?_
  refine wp_block ?_
  refine c_loopW H (fun s a w => ∃ v3 : Value, Fr 28 [] [(1, .pointer (some ⟨b1, 0, none⟩)), (2, .string (bs ([] : List UInt8))), (3, .pointer (some ⟨b2, 0, none⟩)), (12, .agg #[.int .i64 p0.2.2.1, .int .i64 p0.2.2.2.1, .int .i64 p0.2.2.2.2.1, .int .i64 p0.2.2.2.2.2]), (13, .int .i64 s.1)] a ∧ Stw ⟨Y, [], w0⟩ [(b1, [.int .i64 p0.1, .int .i64 p0.2.1.1, .int .i64 p0.2.1.2.1, .int .i64 p0.2.1.2.2.1, .int .i64 p0.2.1.2.2.2, .int .i64 p0.2.2.1, .int .i64 p0.2.2.2.1, .int .i64 p0.2.2.2.2.1, .int .i64 p0.2.2.2.2.2])] [bldr 57 5 b2 v3 s.2] w) ⟨v1, hF.re ⟨rfl, rfl, rfl, rfl, rfl, trivial⟩, hW⟩ (fun s o a w H L2 hR => ?_)
  obtain ⟨x4, x5⟩ := s
  obtain ⟨v3, hF, hW⟩ := hR
  have hF : Fr 28 [] [(1, .pointer (some ⟨b1, 0, none⟩)), (2, .string (bs ([] : List UInt8))), (3, .pointer (some ⟨b2, 0, none⟩)), (12, .agg #[.int .i64 p0.2.2.1, .int .i64 p0.2.2.2.1, .int .i64 p0.2.2.2.2.1, .int .i64 p0.2.2.2.2.2]), (13, .int .i64 x4)] a := hF
  have hW : Stw ⟨Y, [], w0⟩ [(b1, [.int .i64 p0.1, .int .i64 p0.2.1.1, .int .i64 p0.2.1.2.1, .int .i64 p0.2.1.2.2.1, .int .i64 p0.2.1.2.2.2, .int .i64 p0.2.2.1, .int .i64 p0.2.2.2.1, .int .i64 p0.2.2.2.2.1, .int .i64 p0.2.2.2.2.2])] [bldr 57 5 b2 v3 x5] w := hW
  rw [match_Code_l1] at H
  refine c_seq ?_
  refine reg_list ?_
  refine ls hF hW rfl ((y_lss hF rfl rfl).q) (fun a w hF hW => ?_)
  refine ls_nil ?_
  refine c_then ?_
  refine c_seq ?_
  refine c_cond hF rfl (fun hb => ?_) (fun hb => ?_)
  ·
   have H := iteT (of_decide_eq_true hb) H
   rw [hb] at hF
   clear hb
   refine wp_skip ?_
   refine c_then ?_
   refine c_seq ?_
   refine wp_block ?_
   refine c_seq ?_
   refine reg_list ?_
   refine ls hF hW rfl ((y_move hF rfl).q) (fun a w hF hW => ?_)
   obtain ⟨x6, h3, H⟩ := bindE H
   refine ls hF hW rfl ((y_indexA (enc := Value.int .i64) (cs := [.int .i64 p0.2.2.1, .int .i64 p0.2.2.2.1, .int .i64 p0.2.2.2.2.1, .int .i64 p0.2.2.2.2.2]) Ar35 T3 hF rfl rfl rfl rfl h3).q) (fun a w hF hW => ?_)
   refine ls hF hW rfl ((y_assign hF rfl).q) (fun a w hF hW => ?_)
   refine ls hF hW rfl ((y_assign hF rfl).q) (fun a w hF hW => ?_)
   refine ls_nil ?_
   refine c_then ?_
   refine c_seq ?_
   refine reg_list ?_
   refine ls hF hW rfl ((y_move hF rfl).q) (fun a w hF hW => ?_)
   refine ls hF hW rfl ((y_fieldAddr u37_ rfl rfl rfl T35 hF rfl 1 rfl).q) (fun a w hF hW => ?_)
   obtain ⟨x7, h4, H⟩ := bindE H
   refine ls hF hW rfl ((y_indexP (1 + (x4).toNat * 1) Ar35 hF rfl rfl rfl h4 rfl).q) (fun a w hF hW => ?_)
   refine ls hF hW rfl ((y_load (v := Value.int .i64 x7) 0 hF rfl rfl T3 (rdv_dyn (base := 1) (m := 4) (l := [p0.2.1.1, p0.2.1.2.1, p0.2.1.2.2.1, p0.2.1.2.2.2]) (enc := Value.int .i64) rfl h4)).q) (fun a w hF hW => ?_)
   obtain ⟨x8, h5, H⟩ := bindE H
   refine ls hF hW rfl (y_call (v := Value.string (bs x8)) hF H29 rfl (fun w hW => octet_Num_c any w x7 1 _ h5)) (fun a w hF hW => ?_)
   obtain ⟨x9, h6, H⟩ := bindE H
   refine l_callG (Ml := []) (Zl := [bldr 57 5 b2 v3 x5]) (M := [(b1, [.int .i64 p0.1, .int .i64 p0.2.1.1, .int .i64 p0.2.1.2.1, .int .i64 p0.2.1.2.2.1, .int .i64 p0.2.1.2.2.2, .int .i64 p0.2.2.1, .int .i64 p0.2.2.2.1, .int .i64 p0.2.2.2.2.1, .int .i64 p0.2.2.2.2.2])]) (Z := []) (β := Value) (rv := fun x => .tuple #[.int .i64 (x8.length : Int), .nilIface]) (MM := fun x => []) (ZZ := fun x => [bldr 57 5 b2 x x9]) hF hW H28 rfl rfl (fun hL => ws_c _ _ w b2 v3 x5 x8 _ h6 hL) (fun v4 a w hF hW => ?_)
   have hW : Stw ⟨Y, [], w0⟩ [(b1, [.int .i64 p0.1, .int .i64 p0.2.1.1, .int .i64 p0.2.1.2.1, .int .i64 p0.2.1.2.2.1, .int .i64 p0.2.1.2.2.2, .int .i64 p0.2.2.1, .int .i64 p0.2.2.2.1, .int .i64 p0.2.2.2.2.1, .int .i64 p0.2.2.2.2.2])] [bldr 57 5 b2 v4 x9] w := hW
   refine ls_nil ?_
   refine c_then ?_
   refine reg_list ?_
   refine ls hF hW rfl ((y_move hF rfl).q) (fun a w hF hW => ?_)
   obtain ⟨x10, h7, H⟩ := bindE H
   refine ls hF hW rfl (y_call (v := Value.string (bs x10)) hF H29 rfl (fun w hW => octet_Num_c any w x6 1 _ h7)) (fun a w hF hW => ?_)
   obtain ⟨x11, h8, H⟩ := bindE H
   refine l_callG (Ml := []) (Zl := [bldr 57 5 b2 v4 x9]) (M := [(b1, [.int .i64 p0.1, .int .i64 p0.2.1.1, .int .i64 p0.2.1.2.1, .int .i64 p0.2.1.2.2.1, .int .i64 p0.2.1.2.2.2, .int .i64 p0.2.2.1, .int .i64 p0.2.2.2.1, .int .i64 p0.2.2.2.2.1, .int .i64 p0.2.2.2.2.2])]) (Z := []) (β := Value) (rv := fun x => .tuple #[.int .i64 (x10.length : Int), .nilIface]) (MM := fun x => []) (ZZ := fun x => [bldr 57 5 b2 x x11]) hF hW H28 rfl rfl (fun hL => ws_c _ _ w b2 v4 x9 x10 _ h8 hL) (fun v5 a w hF hW => ?_)
   have hW : Stw ⟨Y, [], w0⟩ [(b1, [.int .i64 p0.1, .int .i64 p0.2.1.1, .int .i64 p0.2.1.2.1, .int .i64 p0.2.1.2.2.1, .int .i64 p0.2.1.2.2.2, .int .i64 p0.2.2.1, .int .i64 p0.2.2.2.1, .int .i64 p0.2.2.2.2.1, .int .i64 p0.2.2.2.2.2])] [bldr 57 5 b2 v5 x11] w := hW
   refine ls_nil ?_
   refine b_normal ?_
   refine c_then ?_
   refine reg_list ?_
   refine ls hF hW rfl ((y_add hF rfl rfl rfl).q) (fun a w hF hW => ?_)
   refine ls hF hW rfl ((y_move hF rfl).q) (fun a w hF hW => ?_)
   refine ls_nil ?_
   refine c_then ?_
   exact ⟨_, H, v5, hF.re ⟨rfl, rfl, rfl, rfl, rfl, trivial⟩, hW⟩
  ·
   have H := iteF (of_decide_eq_false hb) H
   rw [hb] at hF
   clear hb
   refine wp_exit ?_
   refine e_then ?_
   refine e_then ?_
   refine e_block ?_
   refine c_then ?_
   have H := L2 _ H
   exact ⟨_, v3, H, hF.re ⟨rfl, rfl, trivial⟩, hW⟩
 rintro a w ⟨x3, v2, hj, hF, hW⟩
 have hj := Option.some.inj hj
 subst hj
 have H := K1
 clear G1 K1
 refine c_seq ?_
 refine reg_list ?_
 obtain ⟨x12, h9, H⟩ := bindE H
 refine l_callG (Ml := []) (Zl := [bldr 57 5 b2 v2 x3]) (M := [(b1, [.int .i64 p0.1, .int .i64 p0.2.1.1, .int .i64 p0.2.1.2.1, .int .i64 p0.2.1.2.2.1, .int .i64 p0.2.1.2.2.2, .int .i64 p0.2.2.1, .int .i64 p0.2.2.2.1, .int .i64 p0.2.2.2.2.1, .int .i64 p0.2.2.2.2.2])]) (Z := []) (β := Unit) (rv := fun x => .string (bs x12)) (MM := fun x => []) (ZZ := fun x => [bldr 57 5 b2 v2 x3]) hF hW H33 rfl rfl (fun hL => st_c _ _ w b2 v2 x3 _ h9 hL) (fun _ a w hF hW => ?_)
 have hW : Stw ⟨Y, [], w0⟩ [(b1, [.int .i64 p0.1, .int .i64 p0.2.1.1, .int .i64 p0.2.1.2.1, .int .i64 p0.2.1.2.2.1, .int .i64 p0.2.1.2.2.2, .int .i64 p0.2.2.1, .int .i64 p0.2.2.2.1, .int .i64 p0.2.2.2.2.1, .int .i64 p0.2.2.2.2.2])] [bldr 57 5 b2 v2 x3] w := hW
 refine ls hF hW rfl ((y_assign hF rfl).q) (fun a w hF hW => ?_)
 refine ls_nil ?_
 refine c_then ?_
 refine wp_ret ?_
 have H := Option.some.inj H
 subst H
 refine post1 (.inl rfl) hF hW rfl (rv_tmp hF rfl) ?_
 exact ⟨rfl, hW.done⟩

theorem H67 : Has Try.prog 67 := ⟨fun args w => run_callFunc_body Try.func67 rfl (by decide) args w⟩
noncomputable def act_Code_l1 (p0 : List (Int × Int × Int)) : (Int × List UInt8) → Option ((Int × List UInt8) ⊕ (List UInt8))
  | (x4, x5) => (if x4 < (p0.length : Int) then (ix p0 x4).bind fun x6 => (octet_Num x6.1 1).bind fun x7 => (octet_Num x6.2.1 1).bind fun x8 => (app x7 x8).bind fun x9 => (octet_Num x6.2.2 1).bind fun x10 => (app x9 x10).bind fun x11 => (app x5 x11).bind fun x12 => some (.inl (w64 (x4 + 1), x12)) else some (.inr x5))
noncomputable def act_Code (p0 : List (Int × Int × Int)) : Option (List UInt8) := (octet_Num (p0.length : Int) 1).bind fun x1 => (app ([] : List UInt8) x1).bind fun x2 => (loopW (act_Code_l1 p0) (0, x2)).bind fun x3 => (lenB x3).bind fun x13 => some x13
theorem act_Code_c (Y : Nat → Prop) (w0 : World) (v1 : Value) (p0 : List (Int × Int × Int)) (r : List UInt8) (H : act_Code p0 = some r) (h_v1 : Sl w0 (NX []) R77 v1 p0) :
    Calls Try.prog 68 #[v1] w0 fun e w' => e = .returned (.string (bs r)) ∧ Below w0.heap.size w0 w' := by
 refine enter Try.func68 rfl Try.ntmps68 rfl (fun a hF => ?_)
 have hW := Stw.start Y w0
 unfold act_Code at H
 refine c_seq ?_
 refine reg_list ?_
 refine ls hF hW rfl ((y_assign (v := Value.string (bs ([] : List UInt8))) hF rfl).q) (fun a w hF hW => ?_)
 refine ls_nil ?_
 refine c_then ?_
 refine c_seq ?_
 refine reg_list ?_
 refine l_allocB hF hW rfl (fun b1 a w hF hW => ?_)
 have hW : Stw ⟨Y, [], w0⟩ [] [bldr 57 5 b1 (Value.slice none 0 0) ([] : List UInt8)] w := hW
 refine ls_nil ?_
 refine c_then ?_
 refine c_seq ?_
 refine reg_list ?_
 refine ls hF hW rfl ((y_move hF rfl).q) (fun a w hF hW => ?_)
 refine ls hF hW rfl ((y_len (r := R77) (l := p0) u38_ rfl hF rfl (rdc_ro h_v1)).q) (fun a w hF hW => ?_)
 obtain ⟨x1, h1, H⟩ := bindE H
 refine ls hF hW rfl (y_call (v := Value.string (bs x1)) hF H29 rfl (fun w hW => octet_Num_c any w (p0.length : Int) 1 _ h1)) (fun a w hF hW => ?_)
 obtain ⟨x2, h2, H⟩ := bindE H
 refine l_callG (Ml := []) (Zl := [bldr 57 5 b1 (Value.slice none 0 0) ([] : List UInt8)]) (M := []) (Z := []) (β := Value) (rv := fun x => .tuple #[.int .i64 (x1.length : Int), .nilIface]) (MM := fun x => []) (ZZ := fun x => [bldr 57 5 b1 x x2]) hF hW H28 rfl rfl (fun hL => ws_c _ _ w b1 (Value.slice none 0 0) ([] : List UInt8) x1 _ h2 hL) (fun v2 a w hF hW => ?_)
 have hW : Stw ⟨Y, [], w0⟩ [] [bldr 57 5 b1 v2 x2] w := hW
 refine ls_nil ?_
 refine c_then ?_
 obtain ⟨o1, G1, K1⟩ := bindE H
 refine c_seqJ (fun a w => ∃ x3 : List UInt8, ∃ v3 : Value, some (x3) = some o1 ∧ Fr 30 [] [(2, .string (bs ([] : List UInt8))), (3, .pointer (some ⟨b1, 0, none⟩))] a ∧ Stw ⟨Y, [], w0⟩ [] [bldr 57 5 b1 v3 x3] w) ?_ ?_
 ·
  have H := G1
  clear G1 K1
  refine c_seq ?_
  refine reg_list ?_
  refine ls hF hW rfl ((y_move hF rfl).q) (fun a w hF hW => ?_)
  refine ls hF hW rfl ((y_len (r := R77) (l := p0) u38_ rfl hF rfl (rdc_ro h_v1)).q) (fun a w hF hW => ?_)
  refine ls hF hW rfl ((y_move hF rfl).q) (fun a w hF hW => ?_)
  refine ls_nil ?_
  refine c_then ?_
  refine wp_block ?_
  refine c_loopW H (fun s a w => ∃ v4 : Value, Fr 30 [] [(2, .string (bs ([] : List UInt8))), (3, .pointer (some ⟨b1, 0, none⟩)), (10, v1), (11, .int .i64 (p0.length : Int)), (12, .int .i64 s.1)] a ∧ Stw ⟨Y, [], w0⟩ [] [bldr 57 5 b1 v4 s.2] w) ⟨v2, hF.re ⟨rfl, rfl, rfl, rfl, rfl, trivial⟩, hW⟩ (fun s o a w H L2 hR => ?_)
  obtain ⟨x4, x5⟩ := s
  obtain ⟨v4, hF, hW⟩ := hR
  have hF : Fr 30 [] [(2, .string (bs ([] : List UInt8))), (3, .pointer (some ⟨b1, 0, none⟩)), (10, v1), (11, .int .i64 (p0.length : Int)), (12, .int .i64 x4)] a := hF
  have hW : Stw ⟨Y, [], w0⟩ [] [bldr 57 5 b1 v4 x5] w := hW
  rw [act_Code_l1] at H
  refine c_seq ?_
  refine reg_list ?_
  refine ls hF hW rfl ((y_lss hF rfl rfl).q) (fun a w hF hW => ?_)
  refine ls_nil ?_
  refine c_then ?_
  refine c_seq ?_
  refine c_cond hF rfl (fun hb => ?_) (fun hb => ?_)
  ·
   have H := iteT (of_decide_eq_true hb) H
   rw [hb] at hF
   clear hb
   refine wp_skip ?_
   refine c_then ?_
   refine c_seq ?_
   refine wp_block ?_
   refine c_seq ?_
   refine reg_list ?_
   obtain ⟨x6, h3, H⟩ := bindE H
   refine ls hF hW rfl ((y_index (r := R77) L38 hF rfl rfl (rdc_ro h_v1) h3).q) (fun a w hF hW => ?_)
   refine ls hF hW rfl ((y_load_el (y := Value.agg #[.int .i64 x6.1, .int .i64 x6.2.1, .int .i64 x6.2.2]) (j := 0) (i := x4) hF rfl rfl (rdc_ro h_v1) h3 F77.to T77 rfl).q) (fun a w hF hW => ?_)
   refine l_alloc (cs := [.int .i64 0, .int .i64 0, .int .i64 0]) hF hW rfl Z77 rfl (fun b2 a w hF hW => ?_)
   refine l_store (vs := [.int .i64 x6.1, .int .i64 x6.2.1, .int .i64 x6.2.2]) (M' := [(b2, [.int .i64 x6.1, .int .i64 x6.2.1, .int .i64 x6.2.2])]) 0 hF hW rfl rfl rfl T77 rfl rfl rfl rfl rfl (fun w hW => ?_)
   refine ls_nil ?_
   refine c_then ?_
   refine reg_tail 11 hW MO (by kernel_rfl) ?_
   refine qs hF rfl ((y_fieldAddr u77_ rfl rfl rfl T3 hF rfl 0 rfl).q) (fun a hF => ?_)
   refine qs hF rfl ((y_load (v := Value.int .i64 x6.1) 0 hF rfl rfl T3 rfl).q) (fun a hF => ?_)
   obtain ⟨x7, h4, H⟩ := bindE H
   refine qs hF rfl (y_call (v := Value.string (bs x7)) hF H29 rfl (fun w hW => octet_Num_c any w x6.1 1 _ h4)) (fun a hF => ?_)
   refine qs hF rfl ((y_fieldAddr u77_ rfl rfl rfl T3 hF rfl 1 rfl).q) (fun a hF => ?_)
   refine qs hF rfl ((y_load (v := Value.int .i64 x6.2.1) 0 hF rfl rfl T3 rfl).q) (fun a hF => ?_)
   obtain ⟨x8, h5, H⟩ := bindE H
   refine qs hF rfl (y_call (v := Value.string (bs x8)) hF H29 rfl (fun w hW => octet_Num_c any w x6.2.1 1 _ h5)) (fun a hF => ?_)
   obtain ⟨x9, h6, H⟩ := bindE H
   refine qs hF rfl ((y_sadd (l := x7) (m := x8) hF rfl rfl h6).q) (fun a hF => ?_)
   refine qs hF rfl ((y_fieldAddr u77_ rfl rfl rfl T3 hF rfl 2 rfl).q) (fun a hF => ?_)
   refine qs hF rfl ((y_load (v := Value.int .i64 x6.2.2) 0 hF rfl rfl T3 rfl).q) (fun a hF => ?_)
   obtain ⟨x10, h7, H⟩ := bindE H
   refine qs hF rfl (y_call (v := Value.string (bs x10)) hF H29 rfl (fun w hW => octet_Num_c any w x6.2.2 1 _ h7)) (fun a hF => ?_)
   obtain ⟨x11, h8, H⟩ := bindE H
   refine qs hF rfl ((y_sadd (l := x9) (m := x10) hF rfl rfl h8).q) (fun a hF => ?_)
   refine quiet_end (fun w hW => ?_)
   obtain ⟨x12, h9, H⟩ := bindE H
   refine l_callG (Ml := []) (Zl := [bldr 57 5 b1 v4 x5]) (M := [(b2, [.int .i64 x6.1, .int .i64 x6.2.1, .int .i64 x6.2.2])]) (Z := []) (β := Value) (rv := fun x => .tuple #[.int .i64 (x11.length : Int), .nilIface]) (MM := fun x => []) (ZZ := fun x => [bldr 57 5 b1 x x12]) hF hW H28 rfl rfl (fun hL => ws_c _ _ w b1 v4 x5 x11 _ h9 hL) (fun v5 a w hF hW => ?_)
   have hW : Stw ⟨Y, [], w0⟩ [(b2, [.int .i64 x6.1, .int .i64 x6.2.1, .int .i64 x6.2.2])] [bldr 57 5 b1 v5 x12] w := hW
   refine ls_nil ?_
   refine b_normal ?_
   refine c_then ?_
   refine reg_list ?_
   refine ls hF hW rfl ((y_add hF rfl rfl rfl).q) (fun a w hF hW => ?_)
   refine ls hF hW rfl ((y_move hF rfl).q) (fun a w hF hW => ?_)
   refine ls_nil ?_
   refine c_then ?_
   have hW := hW.sub (M' := []) (Z' := [bldr 57 5 b1 v5 x12]) (List.nil_sublist _) (List.Sublist.refl _)
   exact ⟨_, H, v5, hF.re ⟨rfl, rfl, rfl, rfl, rfl, trivial⟩, hW⟩
  ·
   have H := iteF (of_decide_eq_false hb) H
   rw [hb] at hF
   clear hb
   refine wp_exit ?_
   refine e_then ?_
   refine e_then ?_
   refine e_block ?_
   refine c_then ?_
   have H := L2 _ H
   exact ⟨_, v4, H, hF.re ⟨rfl, rfl, trivial⟩, hW⟩
 rintro a w ⟨x3, v3, hj, hF, hW⟩
 have hj := Option.some.inj hj
 subst hj
 have H := K1
 clear G1 K1
 refine c_seq ?_
 refine reg_list ?_
 obtain ⟨x13, h10, H⟩ := bindE H
 refine l_callG (Ml := []) (Zl := [bldr 57 5 b1 v3 x3]) (M := []) (Z := []) (β := Unit) (rv := fun x => .string (bs x13)) (MM := fun x => []) (ZZ := fun x => [bldr 57 5 b1 v3 x3]) hF hW H33 rfl rfl (fun hL => st_c _ _ w b1 v3 x3 _ h10 hL) (fun _ a w hF hW => ?_)
 have hW : Stw ⟨Y, [], w0⟩ [] [bldr 57 5 b1 v3 x3] w := hW
 refine ls hF hW rfl ((y_assign hF rfl).q) (fun a w hF hW => ?_)
 refine ls_nil ?_
 refine c_then ?_
 refine wp_ret ?_
 have H := Option.some.inj H
 subst H
 refine post1 (.inl rfl) hF hW rfl (rv_tmp hF rfl) ?_
 exact ⟨rfl, hW.done⟩

theorem H68 : Has Try.prog 68 := ⟨fun args w => run_callFunc_body Try.func68 rfl (by decide) args w⟩
noncomputable def rule_Code (p0 : Int × (Int × (Int × Int × Int × Int) × (Int × Int × Int × Int)) × (List (Int × Int × Int))) : Option (List UInt8) := (octet_Num p0.1 2).bind fun x1 => (match_Code p0.2.1).bind fun x2 => (app x1 x2).bind fun x3 => (act_Code p0.2.2).bind fun x4 => (app x3 x4).bind fun x5 => some x5
theorem rule_Code_c (Y : Nat → Prop) (w0 : World) (v1 : Value) (p0 : Int × (Int × (Int × Int × Int × Int) × (Int × Int × Int × Int)) × (List (Int × Int × Int))) (r : List UInt8) (H : rule_Code p0 = some r) (h_v1 : Sl w0 (NX []) R77 v1 p0.2.2) :
    Calls Try.prog 51 #[.agg #[.int .i64 p0.1, .int .i64 p0.2.1.1, .int .i64 p0.2.1.2.1.1, .int .i64 p0.2.1.2.1.2.1, .int .i64 p0.2.1.2.1.2.2.1, .int .i64 p0.2.1.2.1.2.2.2, .int .i64 p0.2.1.2.2.1, .int .i64 p0.2.1.2.2.2.1, .int .i64 p0.2.1.2.2.2.2.1, .int .i64 p0.2.1.2.2.2.2.2, v1]] w0 fun e w' => e = .returned (.string (bs r)) ∧ Below w0.heap.size w0 w' := by
 refine enter Try.func51 rfl Try.ntmps51 rfl (fun a hF => ?_)
 have hW := Stw.start Y w0
 unfold rule_Code at H
 refine c_seq ?_
 refine reg_list ?_
 refine l_box (cs := [.int .i64 p0.1, .int .i64 p0.2.1.1, .int .i64 p0.2.1.2.1.1, .int .i64 p0.2.1.2.1.2.1, .int .i64 p0.2.1.2.1.2.2.1, .int .i64 p0.2.1.2.1.2.2.2, .int .i64 p0.2.1.2.2.1, .int .i64 p0.2.1.2.2.2.1, .int .i64 p0.2.1.2.2.2.2.1, .int .i64 p0.2.1.2.2.2.2.2, v1]) hF hW rfl rfl rfl (fun b1 a w hF hW => ?_)
 refine ls hF hW rfl ((y_assign (v := Value.string (bs ([] : List UInt8))) hF rfl).q) (fun a w hF hW => ?_)
 refine ls_nil ?_
 refine c_then ?_
 refine c_seq ?_
 refine reg_quiet hW MO (by kernel_rfl) ?_
 refine qs hF rfl ((y_fieldAddr u40_ rfl rfl rfl T3 hF rfl 0 rfl).q) (fun a hF => ?_)
 refine qs hF rfl ((y_load (v := Value.int .i64 p0.1) 0 hF rfl rfl T3 rfl).q) (fun a hF => ?_)
 obtain ⟨x1, h1, H⟩ := bindE H
 refine qs hF rfl (y_call (v := Value.string (bs x1)) hF H29 rfl (fun w hW => octet_Num_c any w p0.1 2 _ h1)) (fun a hF => ?_)
 refine qs hF rfl ((y_fieldAddr u40_ rfl rfl rfl T37 hF rfl 1 rfl).q) (fun a hF => ?_)
 refine qs hF rfl ((y_load (v := Value.agg #[.int .i64 p0.2.1.1, .int .i64 p0.2.1.2.1.1, .int .i64 p0.2.1.2.1.2.1, .int .i64 p0.2.1.2.1.2.2.1, .int .i64 p0.2.1.2.1.2.2.2, .int .i64 p0.2.1.2.2.1, .int .i64 p0.2.1.2.2.2.1, .int .i64 p0.2.1.2.2.2.2.1, .int .i64 p0.2.1.2.2.2.2.2]) 0 hF rfl rfl T37 rfl).q) (fun a hF => ?_)
 obtain ⟨x2, h2, H⟩ := bindE H
 refine qs hF rfl (y_call (v := Value.string (bs x2)) hF H67 rfl (fun w hW => match_Code_c any w p0.2.1 _ h2)) (fun a hF => ?_)
 obtain ⟨x3, h3, H⟩ := bindE H
 refine qs hF rfl ((y_sadd (l := x1) (m := x2) hF rfl rfl h3).q) (fun a hF => ?_)
 refine qs hF rfl ((y_fieldAddr u40_ rfl rfl rfl T38 hF rfl 10 rfl).q) (fun a hF => ?_)
 refine qs hF rfl ((y_load (v := v1) 0 hF rfl rfl T38 rfl).q) (fun a hF => ?_)
 obtain ⟨x4, h4, H⟩ := bindE H
 refine qs hF rfl (y_call (v := Value.string (bs x4)) hF H68 rfl (fun w hW => act_Code_c any w (v1) p0.2.2 _ h4 (((rdc_ro h_v1) : Rdc _ _ _ _ _ _) w hW).nx)) (fun a hF => ?_)
 obtain ⟨x5, h5, H⟩ := bindE H
 refine qs hF rfl ((y_sadd (l := x3) (m := x4) hF rfl rfl h5).q) (fun a hF => ?_)
 refine qs hF rfl ((y_assign hF rfl).q) (fun a hF => ?_)
 refine quiet_end (fun w hW => ?_)
 refine c_then ?_
 refine wp_ret ?_
 have H := Option.some.inj H
 subst H
 refine post1 (.inl rfl) hF hW rfl (rv_tmp hF rfl) ?_
 exact ⟨rfl, hW.done⟩

end Go.Proofs.Ytnlllglfmipllaa
