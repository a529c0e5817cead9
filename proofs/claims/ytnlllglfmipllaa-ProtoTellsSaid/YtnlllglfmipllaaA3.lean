/- The functions of layer 16, lifted. Conditions: none. -/
import Derived.Test.YtnlllglfmipllaaA2
namespace Go.Proofs.Ytnlllglfmipllaa
open Go Go.RowKit
set_option linter.unusedVariables false
set_option linter.unusedSimpArgs false
set_option maxRecDepth 20000
theorem H51 : Has Try.prog 51 := ⟨fun args w => run_callFunc_body Try.func51 rfl (by decide) args w⟩
noncomputable def proto_codeMods_l1 (p0 : List (Int × (Int × (Int × (Int × Int × Int × Int) × (Int × Int × Int × Int)) × (List (Int × Int × Int))) × Bool)) : (Int × List UInt8) → Option ((Int × List UInt8) ⊕ (List UInt8))
  | (x4, x5) => (if x4 < (p0.length : Int) then (ix p0 x4).bind fun x6 => (octet_Num x6.1 1).bind fun x7 => (app x7 (octet_Flag x6.2.2)).bind fun x8 => (rule_Code x6.2.1).bind fun x9 => (app x8 x9).bind fun x10 => (app x5 x10).bind fun x11 => some (.inl (w64 (x4 + 1), x11)) else some (.inr x5))
noncomputable def proto_codeMods (p0 : List (Int × (Int × (Int × (Int × Int × Int × Int) × (Int × Int × Int × Int)) × (List (Int × Int × Int))) × Bool)) : Option (List UInt8) := (octet_Num (p0.length : Int) 1).bind fun x1 => (app ([] : List UInt8) x1).bind fun x2 => (loopW (proto_codeMods_l1 p0) (0, x2)).bind fun x3 => (lenB x3).bind fun x12 => some x12
theorem proto_codeMods_c (Y : Nat → Prop) (w0 : World) (v1 : Value) (p0 : List (Int × (Int × (Int × (Int × Int × Int × Int) × (Int × Int × Int × Int)) × (List (Int × Int × Int))) × Bool)) (r : List UInt8) (H : proto_codeMods p0 = some r) (h_v1 : Sl w0 (NX []) R42 v1 p0) :
    Calls Try.prog 32 #[v1] w0 fun e w' => e = .returned (.string (bs r)) ∧ Below w0.heap.size w0 w' := by
 refine enter Try.func32 rfl Try.ntmps32 rfl (fun a hF => ?_)
 have hW := Stw.start Y w0
 obtain ⟨v2, h1, h_v1⟩ := h_v1.ex EX42
 unfold proto_codeMods at H
 refine c_seq ?_
 refine reg_list ?_
 refine ls hF hW rfl ((y_assign (v := Value.string (bs ([] : List UInt8))) hF rfl).q) (fun a w hF hW => ?_)
 refine ls_nil ?_
 refine c_then ?_
 refine c_seq ?_
 refine reg_list ?_
 refine l_allocB hF hW rfl (fun b1 a w hF hW => ?_)
 have hW : Stw ⟨Y, [], w0⟩ [] [bldr 57 5 b1 (Value.slice none 0 0) ([] : List UInt8)] w := hW
 refine ls_nil ?_
 refine c_then ?_
 refine c_seq ?_
 refine reg_list ?_
 refine ls hF hW rfl ((y_move hF rfl).q) (fun a w hF hW => ?_)
 refine ls hF hW rfl ((y_len (r := R42) (l := p0) u22_ rfl hF rfl (rdc_hide EX42 h1 (rdc_ro h_v1))).q) (fun a w hF hW => ?_)
 obtain ⟨x1, h2, H⟩ := bindE H
 refine ls hF hW rfl (y_call (v := Value.string (bs x1)) hF H29 rfl (fun w hW => octet_Num_c any w (p0.length : Int) 1 _ h2)) (fun a w hF hW => ?_)
 obtain ⟨x2, h3, H⟩ := bindE H
 refine l_callG (Ml := []) (Zl := [bldr 57 5 b1 (Value.slice none 0 0) ([] : List UInt8)]) (M := []) (Z := []) (β := Value) (rv := fun x => .tuple #[.int .i64 (x1.length : Int), .nilIface]) (MM := fun x => []) (ZZ := fun x => [bldr 57 5 b1 x x2]) hF hW H28 rfl rfl (fun hL => ws_c _ _ w b1 (Value.slice none 0 0) ([] : List UInt8) x1 _ h3 hL) (fun v3 a w hF hW => ?_)
 have hW : Stw ⟨Y, [], w0⟩ [] [bldr 57 5 b1 v3 x2] w := hW
 refine ls_nil ?_
 refine c_then ?_
 obtain ⟨o1, G1, K1⟩ := bindE H
 refine c_seqJ (fun a w => ∃ x3 : List UInt8, ∃ v4 : Value, some (x3) = some o1 ∧ Fr 30 [] [(2, .string (bs ([] : List UInt8))), (3, .pointer (some ⟨b1, 0, none⟩))] a ∧ Stw ⟨Y, [], w0⟩ [] [bldr 57 5 b1 v4 x3] w) ?_ ?_
 ·
  have H := G1
  clear G1 K1
  refine c_seq ?_
  refine reg_list ?_
  refine ls hF hW rfl ((y_move hF rfl).q) (fun a w hF hW => ?_)
  refine ls hF hW rfl ((y_len (r := R42) (l := p0) u22_ rfl hF rfl (rdc_hide EX42 h1 (rdc_ro h_v1))).q) (fun a w hF hW => ?_)
  refine ls hF hW rfl ((y_move hF rfl).q) (fun a w hF hW => ?_)
  refine ls_nil ?_
  refine c_then ?_
  refine wp_block ?_
  refine c_loopW H (fun s a w => ∃ v5 : Value, Fr 30 [] [(2, .string (bs ([] : List UInt8))), (3, .pointer (some ⟨b1, 0, none⟩)), (10, v1), (11, .int .i64 (p0.length : Int)), (12, .int .i64 s.1)] a ∧ Stw ⟨Y, [], w0⟩ [] [bldr 57 5 b1 v5 s.2] w) ⟨v3, hF.re ⟨rfl, rfl, rfl, rfl, rfl, trivial⟩, hW⟩ (fun s o a w H L2 hR => ?_)
  obtain ⟨x4, x5⟩ := s
  obtain ⟨v5, hF, hW⟩ := hR
  have hF : Fr 30 [] [(2, .string (bs ([] : List UInt8))), (3, .pointer (some ⟨b1, 0, none⟩)), (10, v1), (11, .int .i64 (p0.length : Int)), (12, .int .i64 x4)] a := hF
  have hW : Stw ⟨Y, [], w0⟩ [] [bldr 57 5 b1 v5 x5] w := hW
  rw [proto_codeMods_l1] at H
  refine c_seq ?_
  refine reg_list ?_
  refine ls hF hW rfl ((y_lss hF rfl rfl).q) (fun a w hF hW => ?_)
  refine ls_nil ?_
  refine c_then ?_
  refine c_seq ?_
  refine c_cond hF rfl (fun hb => ?_) (fun hb => ?_)
  ·
   have H := iteT (of_decide_eq_true hb) H
   rw [hb] at hF
   clear hb
   refine wp_skip ?_
   refine c_then ?_
   refine c_seq ?_
   refine wp_block ?_
   refine c_seq ?_
   refine reg_list ?_
   obtain ⟨x6, h4, H⟩ := bindE H
   obtain ⟨v6, h5, h6⟩ := ix_ex h1 h4
   have h7 : EE42 v6 = [.int .i64 x6.1, .int .i64 x6.2.1.1, .int .i64 x6.2.1.2.1.1, .int .i64 x6.2.1.2.1.2.1.1, .int .i64 x6.2.1.2.1.2.1.2.1, .int .i64 x6.2.1.2.1.2.1.2.2.1, .int .i64 x6.2.1.2.1.2.1.2.2.2, .int .i64 x6.2.1.2.1.2.2.1, .int .i64 x6.2.1.2.1.2.2.2.1, .int .i64 x6.2.1.2.1.2.2.2.2.1, .int .i64 x6.2.1.2.1.2.2.2.2.2, (v6.2.1.2.2.1), .bool x6.2.2] := congrArg (fun q : Int × (Int × (Int × (Int × Int × Int × Int) × (Int × Int × Int × Int)) × (List (Int × Int × Int))) × Bool => ([.int .i64 q.1, .int .i64 q.2.1.1, .int .i64 q.2.1.2.1.1, .int .i64 q.2.1.2.1.2.1.1, .int .i64 q.2.1.2.1.2.1.2.1, .int .i64 q.2.1.2.1.2.1.2.2.1, .int .i64 q.2.1.2.1.2.1.2.2.2, .int .i64 q.2.1.2.1.2.2.1, .int .i64 q.2.1.2.1.2.2.2.1, .int .i64 q.2.1.2.1.2.2.2.2.1, .int .i64 q.2.1.2.1.2.2.2.2.2, (v6.2.1.2.2.1), .bool q.2.2] : List Value)) h6
   refine ls hF hW rfl ((y_index (r := RX42) L22 hF rfl rfl (rdc_ro h_v1) h5).q) (fun a w hF hW => ?_)
   refine ls hF hW rfl ((y_load_el (y := Value.agg #[.int .i64 x6.1, .int .i64 x6.2.1.1, .int .i64 x6.2.1.2.1.1, .int .i64 x6.2.1.2.1.2.1.1, .int .i64 x6.2.1.2.1.2.1.2.1, .int .i64 x6.2.1.2.1.2.1.2.2.1, .int .i64 x6.2.1.2.1.2.1.2.2.2, .int .i64 x6.2.1.2.1.2.2.1, .int .i64 x6.2.1.2.1.2.2.2.1, .int .i64 x6.2.1.2.1.2.2.2.2.1, .int .i64 x6.2.1.2.1.2.2.2.2.2, (v6.2.1.2.2.1), .bool x6.2.2]) (j := 0) (i := x4) (enc := EE42) hF rfl rfl (rdc_ro h_v1) h5 FE42 T42 (by rw [h7]; rfl)).q) (fun a w hF hW => ?_)
   refine l_alloc (cs := [.int .i64 0, .int .i64 0, .int .i64 0, .int .i64 0, .int .i64 0, .int .i64 0, .int .i64 0, .int .i64 0, .int .i64 0, .int .i64 0, .int .i64 0, .slice none 0 0, .bool false]) hF hW rfl Z42 rfl (fun b2 a w hF hW => ?_)
   refine l_store (vs := [.int .i64 x6.1, .int .i64 x6.2.1.1, .int .i64 x6.2.1.2.1.1, .int .i64 x6.2.1.2.1.2.1.1, .int .i64 x6.2.1.2.1.2.1.2.1, .int .i64 x6.2.1.2.1.2.1.2.2.1, .int .i64 x6.2.1.2.1.2.1.2.2.2, .int .i64 x6.2.1.2.1.2.2.1, .int .i64 x6.2.1.2.1.2.2.2.1, .int .i64 x6.2.1.2.1.2.2.2.2.1, .int .i64 x6.2.1.2.1.2.2.2.2.2, (v6.2.1.2.2.1), .bool x6.2.2]) (M' := [(b2, [.int .i64 x6.1, .int .i64 x6.2.1.1, .int .i64 x6.2.1.2.1.1, .int .i64 x6.2.1.2.1.2.1.1, .int .i64 x6.2.1.2.1.2.1.2.1, .int .i64 x6.2.1.2.1.2.1.2.2.1, .int .i64 x6.2.1.2.1.2.1.2.2.2, .int .i64 x6.2.1.2.1.2.2.1, .int .i64 x6.2.1.2.1.2.2.2.1, .int .i64 x6.2.1.2.1.2.2.2.2.1, .int .i64 x6.2.1.2.1.2.2.2.2.2, (v6.2.1.2.2.1), .bool x6.2.2])]) 0 hF hW rfl rfl rfl T42 rfl rfl rfl (one_cons rfl (one_cons rfl (one_cons rfl (one_cons rfl (one_cons rfl (one_cons rfl (one_cons rfl (one_cons rfl (one_cons rfl (one_cons rfl (one_cons rfl (one_cons ((rdc_at (rdc_ro h_v1) h5 (Path.snd (Path.fst (Path.snd (Path.snd Path.here)))) (congrArg (fun q : Int × (Int × (Int × (Int × Int × Int × Int) × (Int × Int × Int × Int)) × (List (Int × Int × Int))) × Bool => q.2.1.2.2) h6)) _ hW).one (one_cons rfl one_nil))))))))))))) rfl (fun w hW => ?_)
   refine ls_nil ?_
   refine c_then ?_
   refine reg_tail 11 hW MO (by kernel_rfl) ?_
   refine qs hF rfl ((y_fieldAddr u42_ rfl rfl rfl T3 hF rfl 0 rfl).q) (fun a hF => ?_)
   refine qs hF rfl ((y_load (v := Value.int .i64 x6.1) 0 hF rfl rfl T3 rfl).q) (fun a hF => ?_)
   obtain ⟨x7, h8, H⟩ := bindE H
   refine qs hF rfl (y_call (v := Value.string (bs x7)) hF H29 rfl (fun w hW => octet_Num_c any w x6.1 1 _ h8)) (fun a hF => ?_)
   refine qs hF rfl ((y_fieldAddr u42_ rfl rfl rfl T4 hF rfl 12 rfl).q) (fun a hF => ?_)
   refine qs hF rfl ((y_load (v := Value.bool x6.2.2) 0 hF rfl rfl T4 rfl).q) (fun a hF => ?_)
   refine qs hF rfl (y_call (v := Value.string (bs (octet_Flag x6.2.2))) hF H50 rfl (fun w hW => octet_Flag_c any w x6.2.2 _ rfl)) (fun a hF => ?_)
   obtain ⟨x8, h9, H⟩ := bindE H
   refine qs hF rfl ((y_sadd (l := x7) (m := (octet_Flag x6.2.2)) hF rfl rfl h9).q) (fun a hF => ?_)
   refine qs hF rfl ((y_fieldAddr u42_ rfl rfl rfl T40 hF rfl 1 rfl).q) (fun a hF => ?_)
   refine qs hF rfl ((y_load (v := Value.agg #[.int .i64 x6.2.1.1, .int .i64 x6.2.1.2.1.1, .int .i64 x6.2.1.2.1.2.1.1, .int .i64 x6.2.1.2.1.2.1.2.1, .int .i64 x6.2.1.2.1.2.1.2.2.1, .int .i64 x6.2.1.2.1.2.1.2.2.2, .int .i64 x6.2.1.2.1.2.2.1, .int .i64 x6.2.1.2.1.2.2.2.1, .int .i64 x6.2.1.2.1.2.2.2.2.1, .int .i64 x6.2.1.2.1.2.2.2.2.2, (v6.2.1.2.2.1)]) 0 hF rfl rfl T40 rfl).q) (fun a hF => ?_)
   obtain ⟨x9, h10, H⟩ := bindE H
   refine qs hF rfl (y_call (v := Value.string (bs x9)) hF H51 rfl (fun w hW => rule_Code_c any w ((v6.2.1.2.2.1)) x6.2.1 _ h10 (((rdc_at (rdc_ro h_v1) h5 (Path.snd (Path.fst (Path.snd (Path.snd Path.here)))) (congrArg (fun q : Int × (Int × (Int × (Int × Int × Int × Int) × (Int × Int × Int × Int)) × (List (Int × Int × Int))) × Bool => q.2.1.2.2) h6)) : Rdc _ _ _ _ _ _) w hW).nx)) (fun a hF => ?_)
   obtain ⟨x10, h11, H⟩ := bindE H
   refine qs hF rfl ((y_sadd (l := x8) (m := x9) hF rfl rfl h11).q) (fun a hF => ?_)
   refine quiet_end (fun w hW => ?_)
   obtain ⟨x11, h12, H⟩ := bindE H
   refine l_callG (Ml := []) (Zl := [bldr 57 5 b1 v5 x5]) (M := [(b2, [.int .i64 x6.1, .int .i64 x6.2.1.1, .int .i64 x6.2.1.2.1.1, .int .i64 x6.2.1.2.1.2.1.1, .int .i64 x6.2.1.2.1.2.1.2.1, .int .i64 x6.2.1.2.1.2.1.2.2.1, .int .i64 x6.2.1.2.1.2.1.2.2.2, .int .i64 x6.2.1.2.1.2.2.1, .int .i64 x6.2.1.2.1.2.2.2.1, .int .i64 x6.2.1.2.1.2.2.2.2.1, .int .i64 x6.2.1.2.1.2.2.2.2.2, (v6.2.1.2.2.1), .bool x6.2.2])]) (Z := []) (β := Value) (rv := fun x => .tuple #[.int .i64 (x10.length : Int), .nilIface]) (MM := fun x => []) (ZZ := fun x => [bldr 57 5 b1 x x11]) hF hW H28 rfl rfl (fun hL => ws_c _ _ w b1 v5 x5 x10 _ h12 hL) (fun v7 a w hF hW => ?_)
   have hW : Stw ⟨Y, [], w0⟩ [(b2, [.int .i64 x6.1, .int .i64 x6.2.1.1, .int .i64 x6.2.1.2.1.1, .int .i64 x6.2.1.2.1.2.1.1, .int .i64 x6.2.1.2.1.2.1.2.1, .int .i64 x6.2.1.2.1.2.1.2.2.1, .int .i64 x6.2.1.2.1.2.1.2.2.2, .int .i64 x6.2.1.2.1.2.2.1, .int .i64 x6.2.1.2.1.2.2.2.1, .int .i64 x6.2.1.2.1.2.2.2.2.1, .int .i64 x6.2.1.2.1.2.2.2.2.2, (v6.2.1.2.2.1), .bool x6.2.2])] [bldr 57 5 b1 v7 x11] w := hW
   refine ls_nil ?_
   refine b_normal ?_
   refine c_then ?_
   refine reg_list ?_
   refine ls hF hW rfl ((y_add hF rfl rfl rfl).q) (fun a w hF hW => ?_)
   refine ls hF hW rfl ((y_move hF rfl).q) (fun a w hF hW => ?_)
   refine ls_nil ?_
   refine c_then ?_
   have hW := hW.sub (M' := []) (Z' := [bldr 57 5 b1 v7 x11]) (List.nil_sublist _) (List.Sublist.refl _)
   exact ⟨_, H, v7, hF.re ⟨rfl, rfl, rfl, rfl, rfl, trivial⟩, hW⟩
  ·
   have H := iteF (of_decide_eq_false hb) H
   rw [hb] at hF
   clear hb
   refine wp_exit ?_
   refine e_then ?_
   refine e_then ?_
   refine e_block ?_
   refine c_then ?_
   have H := L2 _ H
   exact ⟨_, v5, H, hF.re ⟨rfl, rfl, trivial⟩, hW⟩
 rintro a w ⟨x3, v4, hj, hF, hW⟩
 have hj := Option.some.inj hj
 subst hj
 have H := K1
 clear G1 K1
 refine c_seq ?_
 refine reg_list ?_
 obtain ⟨x12, h13, H⟩ := bindE H
 refine l_callG (Ml := []) (Zl := [bldr 57 5 b1 v4 x3]) (M := []) (Z := []) (β := Unit) (rv := fun x => .string (bs x12)) (MM := fun x => []) (ZZ := fun x => [bldr 57 5 b1 v4 x3]) hF hW H33 rfl rfl (fun hL => st_c _ _ w b1 v4 x3 _ h13 hL) (fun _ a w hF hW => ?_)
 have hW : Stw ⟨Y, [], w0⟩ [] [bldr 57 5 b1 v4 x3] w := hW
 refine ls hF hW rfl ((y_assign hF rfl).q) (fun a w hF hW => ?_)
 refine ls_nil ?_
 refine c_then ?_
 refine wp_ret ?_
 have H := Option.some.inj H
 subst H
 refine post1 (.inl rfl) hF hW rfl (rv_tmp hF rfl) ?_
 exact ⟨rfl, hW.done⟩

theorem H32 : Has Try.prog 32 := ⟨fun args w => run_callFunc_body Try.func32 rfl (by decide) args w⟩
noncomputable def proto_Code (p0 : Int × Int × Int × Int × Int × Int × Int × Int × Int × (List (Int × (Int × (Int × (Int × Int × Int × Int) × (Int × Int × Int × Int)) × (List (Int × Int × Int))) × Bool))) : Option (List UInt8) := (proto_Right p0).bind fun x1 => (if (!x1) = true then some ([] : List UInt8) else (octet_Num p0.1 1).bind fun x2 => (octet_Num p0.2.1 1).bind fun x3 => (app x2 x3).bind fun x4 => (app ([] : List UInt8) x4).bind fun x5 => (octet_Int p0.2.2.2.2.1).bind fun x6 => (proto_Code_1 1 x6 ((proto_fields p0.1).1) x5).bind fun x7 => (octet_Int p0.2.2.2.2.2.1).bind fun x8 => (proto_Code_1 2 x8 ((proto_fields p0.1).1) x7).bind fun x9 => (octet_Num p0.2.2.2.2.2.2.1 2).bind fun x10 => (proto_Code_1 4 x10 ((proto_fields p0.1).1) x9).bind fun x11 => (octet_Num p0.2.2.1 2).bind fun x12 => (proto_Code_1 8 x12 ((proto_fields p0.1).1) x11).bind fun x13 => (octet_Num (w64 (p0.2.2.2.1 + 1)) 1).bind fun x14 => (proto_Code_1 16 x14 ((proto_fields p0.1).1) x13).bind fun x15 => (octet_Num p0.2.2.2.2.2.2.2.1 1).bind fun x16 => (proto_Code_1 32 x16 ((proto_fields p0.1).1) x15).bind fun x17 => (octet_Num p0.2.2.2.2.2.2.2.2.1 1).bind fun x18 => (proto_Code_1 64 x18 ((proto_fields p0.1).1) x17).bind fun x19 => (proto_codeMods p0.2.2.2.2.2.2.2.2.2).bind fun x20 => (proto_Code_1 128 x20 ((proto_fields p0.1).1) x19).bind fun x21 => (lenB x21).bind fun x22 => some x22)
theorem proto_Code_c (Y : Nat → Prop) (w0 : World) (v1 : Value) (p0 : Int × Int × Int × Int × Int × Int × Int × Int × Int × (List (Int × (Int × (Int × (Int × Int × Int × Int) × (Int × Int × Int × Int)) × (List (Int × Int × Int))) × Bool))) (r : List UInt8) (H : proto_Code p0 = some r) (h_v1 : Sl w0 (NX []) R42 v1 p0.2.2.2.2.2.2.2.2.2) :
    Calls Try.prog 13 #[.agg #[.int .i64 p0.1, .int .i64 p0.2.1, .int .i64 p0.2.2.1, .int .i64 p0.2.2.2.1, .int .i64 p0.2.2.2.2.1, .int .i64 p0.2.2.2.2.2.1, .int .i64 p0.2.2.2.2.2.2.1, .int .i64 p0.2.2.2.2.2.2.2.1, .int .i64 p0.2.2.2.2.2.2.2.2.1, v1]] w0 fun e w' => e = .returned (.string (bs r)) ∧ Below w0.heap.size w0 w' := by
 refine enter Try.func13 rfl Try.ntmps13 rfl (fun a hF => ?_)
 have hW := Stw.start Y w0
 obtain ⟨v2, h1, h_v1⟩ := h_v1.ex EX42
 unfold proto_Code at H
 refine c_seq ?_
 refine reg_list ?_
 refine l_box (cs := [.int .i64 p0.1, .int .i64 p0.2.1, .int .i64 p0.2.2.1, .int .i64 p0.2.2.2.1, .int .i64 p0.2.2.2.2.1, .int .i64 p0.2.2.2.2.2.1, .int .i64 p0.2.2.2.2.2.2.1, .int .i64 p0.2.2.2.2.2.2.2.1, .int .i64 p0.2.2.2.2.2.2.2.2.1, v1]) hF hW rfl rfl rfl (fun b1 a w hF hW => ?_)
 refine ls hF hW rfl ((y_assign (v := Value.string (bs ([] : List UInt8))) hF rfl).q) (fun a w hF hW => ?_)
 refine ls_nil ?_
 refine c_then ?_
 refine c_seq ?_
 refine c_seq ?_
 refine reg_list ?_
 refine ls hF hW rfl ((y_load (v := Value.agg #[.int .i64 p0.1, .int .i64 p0.2.1, .int .i64 p0.2.2.1, .int .i64 p0.2.2.2.1, .int .i64 p0.2.2.2.2.1, .int .i64 p0.2.2.2.2.2.1, .int .i64 p0.2.2.2.2.2.2.1, .int .i64 p0.2.2.2.2.2.2.2.1, .int .i64 p0.2.2.2.2.2.2.2.2.1, v1]) 0 hF rfl rfl T24 rfl).q) (fun a w hF hW => ?_)
 obtain ⟨x1, h2, H⟩ := bindE H
 refine ls hF hW rfl (y_call (v := Value.bool x1) hF H7 rfl (fun w hW => proto_Right_c any w (v1) p0 _ h2 ((rdc_hide EX42 h1 (rdc_ro h_v1)) w hW))) (fun a w hF hW => ?_)
 refine ls hF hW rfl ((y_not hF rfl).q) (fun a w hF hW => ?_)
 refine ls_nil ?_
 refine c_then ?_
 refine c_cond hF rfl (fun hb => ?_) (fun hb => ?_)
 ·
  have H := iteT hb H
  rw [hb] at hF
  clear hb
  refine c_seq ?_
  refine reg_list ?_
  refine ls hF hW rfl ((y_assign (v := Value.string (bs ([] : List UInt8))) hF rfl).q) (fun a w hF hW => ?_)
  refine ls_nil ?_
  refine c_then ?_
  refine wp_ret ?_
  refine r_then ?_
  have H := Option.some.inj H
  subst H
  refine post1 (.inl rfl) hF hW rfl (rv_tmp hF rfl) ?_
  exact ⟨rfl, hW.done⟩
 ·
  have H := iteF (by rw [hb]; decide) H
  rw [hb] at hF
  clear hb
  refine wp_skip ?_
  refine c_then ?_
  refine c_seq ?_
  refine reg_list ?_
  refine ls hF hW rfl ((y_fieldAddr u24_ rfl rfl rfl T3 hF rfl 0 rfl).q) (fun a w hF hW => ?_)
  refine ls hF hW rfl ((y_load (v := Value.int .i64 p0.1) 0 hF rfl rfl T3 rfl).q) (fun a w hF hW => ?_)
  refine ls hF hW rfl (y_call (v := Value.tuple #[.int .i64 ((proto_fields p0.1).1), .bool ((proto_fields p0.1).2)]) hF H16 rfl (fun w hW => proto_fields_c any w p0.1 _ rfl)) (fun a w hF hW => ?_)
  refine ls hF hW rfl ((y_move hF rfl).q) (fun a w hF hW => ?_)
  refine ls hF hW rfl ((y_extract (v := Value.int .i64 ((proto_fields p0.1).1)) hF rfl rfl).q) (fun a w hF hW => ?_)
  refine ls hF hW rfl ((y_extract (v := Value.bool ((proto_fields p0.1).2)) hF rfl rfl).q) (fun a w hF hW => ?_)
  refine l_alloc (cs := [.int .i64 0]) hF hW rfl Z3 rfl (fun b2 a w hF hW => ?_)
  refine l_store (vs := [.int .i64 ((proto_fields p0.1).1)]) (M' := [(b2, [.int .i64 ((proto_fields p0.1).1)]), (b1, [.int .i64 p0.1, .int .i64 p0.2.1, .int .i64 p0.2.2.1, .int .i64 p0.2.2.2.1, .int .i64 p0.2.2.2.2.1, .int .i64 p0.2.2.2.2.2.1, .int .i64 p0.2.2.2.2.2.2.1, .int .i64 p0.2.2.2.2.2.2.2.1, .int .i64 p0.2.2.2.2.2.2.2.2.1, v1])]) 0 hF hW rfl rfl rfl T3 rfl rfl rfl rfl rfl (fun w hW => ?_)
  refine ls hF hW rfl ((y_assign hF rfl).q) (fun a w hF hW => ?_)
  refine ls_nil ?_
  refine c_then ?_
  refine c_seq ?_
  refine reg_list ?_
  refine l_allocB hF hW rfl (fun b3 a w hF hW => ?_)
  have hW : Stw ⟨Y, [], w0⟩ [(b2, [.int .i64 ((proto_fields p0.1).1)]), (b1, [.int .i64 p0.1, .int .i64 p0.2.1, .int .i64 p0.2.2.1, .int .i64 p0.2.2.2.1, .int .i64 p0.2.2.2.2.1, .int .i64 p0.2.2.2.2.2.1, .int .i64 p0.2.2.2.2.2.2.1, .int .i64 p0.2.2.2.2.2.2.2.1, .int .i64 p0.2.2.2.2.2.2.2.2.1, v1])] [bldr 57 5 b3 (Value.slice none 0 0) ([] : List UInt8)] w := hW
  refine ls_nil ?_
  refine c_then ?_
  refine c_seq ?_
  refine reg_tail 7 hW MO (by kernel_rfl) ?_
  refine qs hF rfl ((y_fieldAddr u24_ rfl rfl rfl T3 hF rfl 0 rfl).q) (fun a hF => ?_)
  refine qs hF rfl ((y_load (v := Value.int .i64 p0.1) 1 hF rfl rfl T3 rfl).q) (fun a hF => ?_)
  obtain ⟨x2, h3, H⟩ := bindE H
  refine qs hF rfl (y_call (v := Value.string (bs x2)) hF H29 rfl (fun w hW => octet_Num_c any w p0.1 1 _ h3)) (fun a hF => ?_)
  refine qs hF rfl ((y_fieldAddr u24_ rfl rfl rfl T3 hF rfl 1 rfl).q) (fun a hF => ?_)
  refine qs hF rfl ((y_load (v := Value.int .i64 p0.2.1) 1 hF rfl rfl T3 rfl).q) (fun a hF => ?_)
  obtain ⟨x3, h4, H⟩ := bindE H
  refine qs hF rfl (y_call (v := Value.string (bs x3)) hF H29 rfl (fun w hW => octet_Num_c any w p0.2.1 1 _ h4)) (fun a hF => ?_)
  obtain ⟨x4, h5, H⟩ := bindE H
  refine qs hF rfl ((y_sadd (l := x2) (m := x3) hF rfl rfl h5).q) (fun a hF => ?_)
  refine quiet_end (fun w hW => ?_)
  obtain ⟨x5, h6, H⟩ := bindE H
  refine l_callG (Ml := []) (Zl := [bldr 57 5 b3 (Value.slice none 0 0) ([] : List UInt8)]) (M := [(b2, [.int .i64 ((proto_fields p0.1).1)]), (b1, [.int .i64 p0.1, .int .i64 p0.2.1, .int .i64 p0.2.2.1, .int .i64 p0.2.2.2.1, .int .i64 p0.2.2.2.2.1, .int .i64 p0.2.2.2.2.2.1, .int .i64 p0.2.2.2.2.2.2.1, .int .i64 p0.2.2.2.2.2.2.2.1, .int .i64 p0.2.2.2.2.2.2.2.2.1, v1])]) (Z := []) (β := Value) (rv := fun x => .tuple #[.int .i64 (x4.length : Int), .nilIface]) (MM := fun x => []) (ZZ := fun x => [bldr 57 5 b3 x x5]) hF hW H28 rfl rfl (fun hL => ws_c _ _ w b3 (Value.slice none 0 0) ([] : List UInt8) x4 _ h6 hL) (fun v3 a w hF hW => ?_)
  have hW : Stw ⟨Y, [], w0⟩ [(b2, [.int .i64 ((proto_fields p0.1).1)]), (b1, [.int .i64 p0.1, .int .i64 p0.2.1, .int .i64 p0.2.2.1, .int .i64 p0.2.2.2.1, .int .i64 p0.2.2.2.2.1, .int .i64 p0.2.2.2.2.2.1, .int .i64 p0.2.2.2.2.2.2.1, .int .i64 p0.2.2.2.2.2.2.2.1, .int .i64 p0.2.2.2.2.2.2.2.2.1, v1])] [bldr 57 5 b3 v3 x5] w := hW
  refine ls_nil ?_
  refine c_then ?_
  refine c_seq ?_
  refine reg_list ?_
  refine ls hF hW rfl ((y_makeFunc (us := []) (vs := [.pointer (some ⟨b2, 0, none⟩), .pointer (some ⟨b3, 0, none⟩)]) hF rfl rfl).q) (fun a w hF hW => ?_)
  refine ls hF hW rfl ((y_assign hF rfl).q) (fun a w hF hW => ?_)
  refine ls_nil ?_
  refine c_then ?_
  refine c_seq ?_
  refine reg_list ?_
  refine ls hF hW rfl ((y_move hF rfl).q) (fun a w hF hW => ?_)
  refine ls hF hW rfl ((y_fieldAddr u24_ rfl rfl rfl T3 hF rfl 4 rfl).q) (fun a w hF hW => ?_)
  refine ls hF hW rfl ((y_load (v := Value.int .i64 p0.2.2.2.2.1) 1 hF rfl rfl T3 rfl).q) (fun a w hF hW => ?_)
  obtain ⟨x6, h7, H⟩ := bindE H
  refine ls hF hW rfl (y_call (v := Value.string (bs x6)) hF H31 rfl (fun w hW => octet_Int_c any w p0.2.2.2.2.1 _ h7)) (fun a w hF hW => ?_)
  obtain ⟨x7, h8, H⟩ := bindE H
  refine l_callGV (ws := [.int .i64 1, .string (bs x6), .pointer (some ⟨b2, 0, none⟩), .pointer (some ⟨b3, 0, none⟩)]) (Ml := []) (Zl := [bldr 57 5 b3 v3 x5]) (M := [(b2, [.int .i64 ((proto_fields p0.1).1)]), (b1, [.int .i64 p0.1, .int .i64 p0.2.1, .int .i64 p0.2.2.1, .int .i64 p0.2.2.2.1, .int .i64 p0.2.2.2.2.1, .int .i64 p0.2.2.2.2.2.1, .int .i64 p0.2.2.2.2.2.2.1, .int .i64 p0.2.2.2.2.2.2.2.1, .int .i64 p0.2.2.2.2.2.2.2.2.1, v1])]) (Z := []) (β := Value) (rv := fun x => .tuple #[]) (MM := fun x => []) (ZZ := fun x => [bldr 57 5 b3 x x7]) hF hW H30 rfl rfl (fun hL => proto_Code_1_c _ _ w b2 b3 (v3) 1 x6 ((proto_fields p0.1).1) x5 _ h8 (at_MX (Ml := []) (Zl := [bldr 57 5 b3 v3 x5]) hW 0 rfl) hL) (fun x a w hF hW => ?_)
  obtain ⟨v4, rfl⟩ : ∃ y, y = x := ⟨x, rfl⟩
  have hW : Stw ⟨Y, [], w0⟩ [(b2, [.int .i64 ((proto_fields p0.1).1)]), (b1, [.int .i64 p0.1, .int .i64 p0.2.1, .int .i64 p0.2.2.1, .int .i64 p0.2.2.2.1, .int .i64 p0.2.2.2.2.1, .int .i64 p0.2.2.2.2.2.1, .int .i64 p0.2.2.2.2.2.2.1, .int .i64 p0.2.2.2.2.2.2.2.1, .int .i64 p0.2.2.2.2.2.2.2.2.1, v1])] [bldr 57 5 b3 v4 x7] w := hW
  refine ls_nil ?_
  refine c_then ?_
  refine c_seq ?_
  refine reg_list ?_
  refine ls hF hW rfl ((y_move hF rfl).q) (fun a w hF hW => ?_)
  refine ls hF hW rfl ((y_fieldAddr u24_ rfl rfl rfl T3 hF rfl 5 rfl).q) (fun a w hF hW => ?_)
  refine ls hF hW rfl ((y_load (v := Value.int .i64 p0.2.2.2.2.2.1) 1 hF rfl rfl T3 rfl).q) (fun a w hF hW => ?_)
  obtain ⟨x8, h9, H⟩ := bindE H
  refine ls hF hW rfl (y_call (v := Value.string (bs x8)) hF H31 rfl (fun w hW => octet_Int_c any w p0.2.2.2.2.2.1 _ h9)) (fun a w hF hW => ?_)
  obtain ⟨x9, h10, H⟩ := bindE H
  refine l_callGV (ws := [.int .i64 2, .string (bs x8), .pointer (some ⟨b2, 0, none⟩), .pointer (some ⟨b3, 0, none⟩)]) (Ml := []) (Zl := [bldr 57 5 b3 v4 x7]) (M := [(b2, [.int .i64 ((proto_fields p0.1).1)]), (b1, [.int .i64 p0.1, .int .i64 p0.2.1, .int .i64 p0.2.2.1, .int .i64 p0.2.2.2.1, .int .i64 p0.2.2.2.2.1, .int .i64 p0.2.2.2.2.2.1, .int .i64 p0.2.2.2.2.2.2.1, .int .i64 p0.2.2.2.2.2.2.2.1, .int .i64 p0.2.2.2.2.2.2.2.2.1, v1])]) (Z := []) (β := Value) (rv := fun x => .tuple #[]) (MM := fun x => []) (ZZ := fun x => [bldr 57 5 b3 x x9]) hF hW H30 rfl rfl (fun hL => proto_Code_1_c _ _ w b2 b3 (v4) 2 x8 ((proto_fields p0.1).1) x7 _ h10 (at_MX (Ml := []) (Zl := [bldr 57 5 b3 v4 x7]) hW 0 rfl) hL) (fun x a w hF hW => ?_)
  obtain ⟨v5, rfl⟩ : ∃ y, y = x := ⟨x, rfl⟩
  have hW : Stw ⟨Y, [], w0⟩ [(b2, [.int .i64 ((proto_fields p0.1).1)]), (b1, [.int .i64 p0.1, .int .i64 p0.2.1, .int .i64 p0.2.2.1, .int .i64 p0.2.2.2.1, .int .i64 p0.2.2.2.2.1, .int .i64 p0.2.2.2.2.2.1, .int .i64 p0.2.2.2.2.2.2.1, .int .i64 p0.2.2.2.2.2.2.2.1, .int .i64 p0.2.2.2.2.2.2.2.2.1, v1])] [bldr 57 5 b3 v5 x9] w := hW
  refine ls_nil ?_
  refine c_then ?_
  refine c_seq ?_
  refine reg_list ?_
  refine ls hF hW rfl ((y_move hF rfl).q) (fun a w hF hW => ?_)
  refine ls hF hW rfl ((y_fieldAddr u24_ rfl rfl rfl T3 hF rfl 6 rfl).q) (fun a w hF hW => ?_)
  refine ls hF hW rfl ((y_load (v := Value.int .i64 p0.2.2.2.2.2.2.1) 1 hF rfl rfl T3 rfl).q) (fun a w hF hW => ?_)
  obtain ⟨x10, h11, H⟩ := bindE H
  refine ls hF hW rfl (y_call (v := Value.string (bs x10)) hF H29 rfl (fun w hW => octet_Num_c any w p0.2.2.2.2.2.2.1 2 _ h11)) (fun a w hF hW => ?_)
  obtain ⟨x11, h12, H⟩ := bindE H
  refine l_callGV (ws := [.int .i64 4, .string (bs x10), .pointer (some ⟨b2, 0, none⟩), .pointer (some ⟨b3, 0, none⟩)]) (Ml := []) (Zl := [bldr 57 5 b3 v5 x9]) (M := [(b2, [.int .i64 ((proto_fields p0.1).1)]), (b1, [.int .i64 p0.1, .int .i64 p0.2.1, .int .i64 p0.2.2.1, .int .i64 p0.2.2.2.1, .int .i64 p0.2.2.2.2.1, .int .i64 p0.2.2.2.2.2.1, .int .i64 p0.2.2.2.2.2.2.1, .int .i64 p0.2.2.2.2.2.2.2.1, .int .i64 p0.2.2.2.2.2.2.2.2.1, v1])]) (Z := []) (β := Value) (rv := fun x => .tuple #[]) (MM := fun x => []) (ZZ := fun x => [bldr 57 5 b3 x x11]) hF hW H30 rfl rfl (fun hL => proto_Code_1_c _ _ w b2 b3 (v5) 4 x10 ((proto_fields p0.1).1) x9 _ h12 (at_MX (Ml := []) (Zl := [bldr 57 5 b3 v5 x9]) hW 0 rfl) hL) (fun x a w hF hW => ?_)
  obtain ⟨v6, rfl⟩ : ∃ y, y = x := ⟨x, rfl⟩
  have hW : Stw ⟨Y, [], w0⟩ [(b2, [.int .i64 ((proto_fields p0.1).1)]), (b1, [.int .i64 p0.1, .int .i64 p0.2.1, .int .i64 p0.2.2.1, .int .i64 p0.2.2.2.1, .int .i64 p0.2.2.2.2.1, .int .i64 p0.2.2.2.2.2.1, .int .i64 p0.2.2.2.2.2.2.1, .int .i64 p0.2.2.2.2.2.2.2.1, .int .i64 p0.2.2.2.2.2.2.2.2.1, v1])] [bldr 57 5 b3 v6 x11] w := hW
  refine ls_nil ?_
  refine c_then ?_
  refine c_seq ?_
  refine reg_list ?_
  refine ls hF hW rfl ((y_move hF rfl).q) (fun a w hF hW => ?_)
  refine ls hF hW rfl ((y_fieldAddr u24_ rfl rfl rfl T3 hF rfl 2 rfl).q) (fun a w hF hW => ?_)
  refine ls hF hW rfl ((y_load (v := Value.int .i64 p0.2.2.1) 1 hF rfl rfl T3 rfl).q) (fun a w hF hW => ?_)
  obtain ⟨x12, h13, H⟩ := bindE H
  refine ls hF hW rfl (y_call (v := Value.string (bs x12)) hF H29 rfl (fun w hW => octet_Num_c any w p0.2.2.1 2 _ h13)) (fun a w hF hW => ?_)
  obtain ⟨x13, h14, H⟩ := bindE H
  refine l_callGV (ws := [.int .i64 8, .string (bs x12), .pointer (some ⟨b2, 0, none⟩), .pointer (some ⟨b3, 0, none⟩)]) (Ml := []) (Zl := [bldr 57 5 b3 v6 x11]) (M := [(b2, [.int .i64 ((proto_fields p0.1).1)]), (b1, [.int .i64 p0.1, .int .i64 p0.2.1, .int .i64 p0.2.2.1, .int .i64 p0.2.2.2.1, .int .i64 p0.2.2.2.2.1, .int .i64 p0.2.2.2.2.2.1, .int .i64 p0.2.2.2.2.2.2.1, .int .i64 p0.2.2.2.2.2.2.2.1, .int .i64 p0.2.2.2.2.2.2.2.2.1, v1])]) (Z := []) (β := Value) (rv := fun x => .tuple #[]) (MM := fun x => []) (ZZ := fun x => [bldr 57 5 b3 x x13]) hF hW H30 rfl rfl (fun hL => proto_Code_1_c _ _ w b2 b3 (v6) 8 x12 ((proto_fields p0.1).1) x11 _ h14 (at_MX (Ml := []) (Zl := [bldr 57 5 b3 v6 x11]) hW 0 rfl) hL) (fun x a w hF hW => ?_)
  obtain ⟨v7, rfl⟩ : ∃ y, y = x := ⟨x, rfl⟩
  have hW : Stw ⟨Y, [], w0⟩ [(b2, [.int .i64 ((proto_fields p0.1).1)]), (b1, [.int .i64 p0.1, .int .i64 p0.2.1, .int .i64 p0.2.2.1, .int .i64 p0.2.2.2.1, .int .i64 p0.2.2.2.2.1, .int .i64 p0.2.2.2.2.2.1, .int .i64 p0.2.2.2.2.2.2.1, .int .i64 p0.2.2.2.2.2.2.2.1, .int .i64 p0.2.2.2.2.2.2.2.2.1, v1])] [bldr 57 5 b3 v7 x13] w := hW
  refine ls_nil ?_
  refine c_then ?_
  refine c_seq ?_
  refine reg_list ?_
  refine ls hF hW rfl ((y_move hF rfl).q) (fun a w hF hW => ?_)
  refine ls hF hW rfl ((y_fieldAddr u24_ rfl rfl rfl T3 hF rfl 3 rfl).q) (fun a w hF hW => ?_)
  refine ls hF hW rfl ((y_load (v := Value.int .i64 p0.2.2.2.1) 1 hF rfl rfl T3 rfl).q) (fun a w hF hW => ?_)
  refine ls hF hW rfl ((y_add hF rfl rfl rfl).q) (fun a w hF hW => ?_)
  obtain ⟨x14, h15, H⟩ := bindE H
  refine ls hF hW rfl (y_call (v := Value.string (bs x14)) hF H29 rfl (fun w hW => octet_Num_c any w (w64 (p0.2.2.2.1 + 1)) 1 _ h15)) (fun a w hF hW => ?_)
  obtain ⟨x15, h16, H⟩ := bindE H
  refine l_callGV (ws := [.int .i64 16, .string (bs x14), .pointer (some ⟨b2, 0, none⟩), .pointer (some ⟨b3, 0, none⟩)]) (Ml := []) (Zl := [bldr 57 5 b3 v7 x13]) (M := [(b2, [.int .i64 ((proto_fields p0.1).1)]), (b1, [.int .i64 p0.1, .int .i64 p0.2.1, .int .i64 p0.2.2.1, .int .i64 p0.2.2.2.1, .int .i64 p0.2.2.2.2.1, .int .i64 p0.2.2.2.2.2.1, .int .i64 p0.2.2.2.2.2.2.1, .int .i64 p0.2.2.2.2.2.2.2.1, .int .i64 p0.2.2.2.2.2.2.2.2.1, v1])]) (Z := []) (β := Value) (rv := fun x => .tuple #[]) (MM := fun x => []) (ZZ := fun x => [bldr 57 5 b3 x x15]) hF hW H30 rfl rfl (fun hL => proto_Code_1_c _ _ w b2 b3 (v7) 16 x14 ((proto_fields p0.1).1) x13 _ h16 (at_MX (Ml := []) (Zl := [bldr 57 5 b3 v7 x13]) hW 0 rfl) hL) (fun x a w hF hW => ?_)
  obtain ⟨v8, rfl⟩ : ∃ y, y = x := ⟨x, rfl⟩
  have hW : Stw ⟨Y, [], w0⟩ [(b2, [.int .i64 ((proto_fields p0.1).1)]), (b1, [.int .i64 p0.1, .int .i64 p0.2.1, .int .i64 p0.2.2.1, .int .i64 p0.2.2.2.1, .int .i64 p0.2.2.2.2.1, .int .i64 p0.2.2.2.2.2.1, .int .i64 p0.2.2.2.2.2.2.1, .int .i64 p0.2.2.2.2.2.2.2.1, .int .i64 p0.2.2.2.2.2.2.2.2.1, v1])] [bldr 57 5 b3 v8 x15] w := hW
  refine ls_nil ?_
  refine c_then ?_
  refine c_seq ?_
  refine reg_list ?_
  refine ls hF hW rfl ((y_move hF rfl).q) (fun a w hF hW => ?_)
  refine ls hF hW rfl ((y_fieldAddr u24_ rfl rfl rfl T3 hF rfl 7 rfl).q) (fun a w hF hW => ?_)
  refine ls hF hW rfl ((y_load (v := Value.int .i64 p0.2.2.2.2.2.2.2.1) 1 hF rfl rfl T3 rfl).q) (fun a w hF hW => ?_)
  obtain ⟨x16, h17, H⟩ := bindE H
  refine ls hF hW rfl (y_call (v := Value.string (bs x16)) hF H29 rfl (fun w hW => octet_Num_c any w p0.2.2.2.2.2.2.2.1 1 _ h17)) (fun a w hF hW => ?_)
  obtain ⟨x17, h18, H⟩ := bindE H
  refine l_callGV (ws := [.int .i64 32, .string (bs x16), .pointer (some ⟨b2, 0, none⟩), .pointer (some ⟨b3, 0, none⟩)]) (Ml := []) (Zl := [bldr 57 5 b3 v8 x15]) (M := [(b2, [.int .i64 ((proto_fields p0.1).1)]), (b1, [.int .i64 p0.1, .int .i64 p0.2.1, .int .i64 p0.2.2.1, .int .i64 p0.2.2.2.1, .int .i64 p0.2.2.2.2.1, .int .i64 p0.2.2.2.2.2.1, .int .i64 p0.2.2.2.2.2.2.1, .int .i64 p0.2.2.2.2.2.2.2.1, .int .i64 p0.2.2.2.2.2.2.2.2.1, v1])]) (Z := []) (β := Value) (rv := fun x => .tuple #[]) (MM := fun x => []) (ZZ := fun x => [bldr 57 5 b3 x x17]) hF hW H30 rfl rfl (fun hL => proto_Code_1_c _ _ w b2 b3 (v8) 32 x16 ((proto_fields p0.1).1) x15 _ h18 (at_MX (Ml := []) (Zl := [bldr 57 5 b3 v8 x15]) hW 0 rfl) hL) (fun x a w hF hW => ?_)
  obtain ⟨v9, rfl⟩ : ∃ y, y = x := ⟨x, rfl⟩
  have hW : Stw ⟨Y, [], w0⟩ [(b2, [.int .i64 ((proto_fields p0.1).1)]), (b1, [.int .i64 p0.1, .int .i64 p0.2.1, .int .i64 p0.2.2.1, .int .i64 p0.2.2.2.1, .int .i64 p0.2.2.2.2.1, .int .i64 p0.2.2.2.2.2.1, .int .i64 p0.2.2.2.2.2.2.1, .int .i64 p0.2.2.2.2.2.2.2.1, .int .i64 p0.2.2.2.2.2.2.2.2.1, v1])] [bldr 57 5 b3 v9 x17] w := hW
  refine ls_nil ?_
  refine c_then ?_
  refine c_seq ?_
  refine reg_list ?_
  refine ls hF hW rfl ((y_move hF rfl).q) (fun a w hF hW => ?_)
  refine ls hF hW rfl ((y_fieldAddr u24_ rfl rfl rfl T3 hF rfl 8 rfl).q) (fun a w hF hW => ?_)
  refine ls hF hW rfl ((y_load (v := Value.int .i64 p0.2.2.2.2.2.2.2.2.1) 1 hF rfl rfl T3 rfl).q) (fun a w hF hW => ?_)
  obtain ⟨x18, h19, H⟩ := bindE H
  refine ls hF hW rfl (y_call (v := Value.string (bs x18)) hF H29 rfl (fun w hW => octet_Num_c any w p0.2.2.2.2.2.2.2.2.1 1 _ h19)) (fun a w hF hW => ?_)
  obtain ⟨x19, h20, H⟩ := bindE H
  refine l_callGV (ws := [.int .i64 64, .string (bs x18), .pointer (some ⟨b2, 0, none⟩), .pointer (some ⟨b3, 0, none⟩)]) (Ml := []) (Zl := [bldr 57 5 b3 v9 x17]) (M := [(b2, [.int .i64 ((proto_fields p0.1).1)]), (b1, [.int .i64 p0.1, .int .i64 p0.2.1, .int .i64 p0.2.2.1, .int .i64 p0.2.2.2.1, .int .i64 p0.2.2.2.2.1, .int .i64 p0.2.2.2.2.2.1, .int .i64 p0.2.2.2.2.2.2.1, .int .i64 p0.2.2.2.2.2.2.2.1, .int .i64 p0.2.2.2.2.2.2.2.2.1, v1])]) (Z := []) (β := Value) (rv := fun x => .tuple #[]) (MM := fun x => []) (ZZ := fun x => [bldr 57 5 b3 x x19]) hF hW H30 rfl rfl (fun hL => proto_Code_1_c _ _ w b2 b3 (v9) 64 x18 ((proto_fields p0.1).1) x17 _ h20 (at_MX (Ml := []) (Zl := [bldr 57 5 b3 v9 x17]) hW 0 rfl) hL) (fun x a w hF hW => ?_)
  obtain ⟨v10, rfl⟩ : ∃ y, y = x := ⟨x, rfl⟩
  have hW : Stw ⟨Y, [], w0⟩ [(b2, [.int .i64 ((proto_fields p0.1).1)]), (b1, [.int .i64 p0.1, .int .i64 p0.2.1, .int .i64 p0.2.2.1, .int .i64 p0.2.2.2.1, .int .i64 p0.2.2.2.2.1, .int .i64 p0.2.2.2.2.2.1, .int .i64 p0.2.2.2.2.2.2.1, .int .i64 p0.2.2.2.2.2.2.2.1, .int .i64 p0.2.2.2.2.2.2.2.2.1, v1])] [bldr 57 5 b3 v10 x19] w := hW
  refine ls_nil ?_
  refine c_then ?_
  refine c_seq ?_
  refine reg_list ?_
  refine ls hF hW rfl ((y_move hF rfl).q) (fun a w hF hW => ?_)
  refine ls hF hW rfl ((y_fieldAddr u24_ rfl rfl rfl T22 hF rfl 9 rfl).q) (fun a w hF hW => ?_)
  refine ls hF hW rfl ((y_load (v := v1) 1 hF rfl rfl T22 rfl).q) (fun a w hF hW => ?_)
  obtain ⟨x20, h21, H⟩ := bindE H
  refine ls hF hW rfl (y_call (v := Value.string (bs x20)) hF H32 rfl (fun w hW => proto_codeMods_c any w (v1) p0.2.2.2.2.2.2.2.2.2 _ h21 (((rdc_hide EX42 h1 (rdc_ro h_v1)) : Rdc _ _ _ _ _ _) w hW).nx)) (fun a w hF hW => ?_)
  obtain ⟨x21, h22, H⟩ := bindE H
  refine l_callGV (ws := [.int .i64 128, .string (bs x20), .pointer (some ⟨b2, 0, none⟩), .pointer (some ⟨b3, 0, none⟩)]) (Ml := []) (Zl := [bldr 57 5 b3 v10 x19]) (M := [(b2, [.int .i64 ((proto_fields p0.1).1)]), (b1, [.int .i64 p0.1, .int .i64 p0.2.1, .int .i64 p0.2.2.1, .int .i64 p0.2.2.2.1, .int .i64 p0.2.2.2.2.1, .int .i64 p0.2.2.2.2.2.1, .int .i64 p0.2.2.2.2.2.2.1, .int .i64 p0.2.2.2.2.2.2.2.1, .int .i64 p0.2.2.2.2.2.2.2.2.1, v1])]) (Z := []) (β := Value) (rv := fun x => .tuple #[]) (MM := fun x => []) (ZZ := fun x => [bldr 57 5 b3 x x21]) hF hW H30 rfl rfl (fun hL => proto_Code_1_c _ _ w b2 b3 (v10) 128 x20 ((proto_fields p0.1).1) x19 _ h22 (at_MX (Ml := []) (Zl := [bldr 57 5 b3 v10 x19]) hW 0 rfl) hL) (fun x a w hF hW => ?_)
  obtain ⟨v11, rfl⟩ : ∃ y, y = x := ⟨x, rfl⟩
  have hW : Stw ⟨Y, [], w0⟩ [(b2, [.int .i64 ((proto_fields p0.1).1)]), (b1, [.int .i64 p0.1, .int .i64 p0.2.1, .int .i64 p0.2.2.1, .int .i64 p0.2.2.2.1, .int .i64 p0.2.2.2.2.1, .int .i64 p0.2.2.2.2.2.1, .int .i64 p0.2.2.2.2.2.2.1, .int .i64 p0.2.2.2.2.2.2.2.1, .int .i64 p0.2.2.2.2.2.2.2.2.1, v1])] [bldr 57 5 b3 v11 x21] w := hW
  refine ls_nil ?_
  refine c_then ?_
  refine c_seq ?_
  refine reg_list ?_
  obtain ⟨x22, h23, H⟩ := bindE H
  refine l_callG (Ml := []) (Zl := [bldr 57 5 b3 v11 x21]) (M := [(b2, [.int .i64 ((proto_fields p0.1).1)]), (b1, [.int .i64 p0.1, .int .i64 p0.2.1, .int .i64 p0.2.2.1, .int .i64 p0.2.2.2.1, .int .i64 p0.2.2.2.2.1, .int .i64 p0.2.2.2.2.2.1, .int .i64 p0.2.2.2.2.2.2.1, .int .i64 p0.2.2.2.2.2.2.2.1, .int .i64 p0.2.2.2.2.2.2.2.2.1, v1])]) (Z := []) (β := Unit) (rv := fun x => .string (bs x22)) (MM := fun x => []) (ZZ := fun x => [bldr 57 5 b3 v11 x21]) hF hW H33 rfl rfl (fun hL => st_c _ _ w b3 v11 x21 _ h23 hL) (fun _ a w hF hW => ?_)
  have hW : Stw ⟨Y, [], w0⟩ [(b2, [.int .i64 ((proto_fields p0.1).1)]), (b1, [.int .i64 p0.1, .int .i64 p0.2.1, .int .i64 p0.2.2.1, .int .i64 p0.2.2.2.1, .int .i64 p0.2.2.2.2.1, .int .i64 p0.2.2.2.2.2.1, .int .i64 p0.2.2.2.2.2.2.1, .int .i64 p0.2.2.2.2.2.2.2.1, .int .i64 p0.2.2.2.2.2.2.2.2.1, v1])] [bldr 57 5 b3 v11 x21] w := hW
  refine ls hF hW rfl ((y_assign hF rfl).q) (fun a w hF hW => ?_)
  refine ls_nil ?_
  refine c_then ?_
  refine wp_ret ?_
  have H := Option.some.inj H
  subst H
  refine post1 (.inl rfl) hF hW rfl (rv_tmp hF rfl) ?_
  exact ⟨rfl, hW.done⟩

theorem u83_ : type_of% Try.underlying83 := Try.underlying83
theorem H13 : Has Try.prog 13 := ⟨fun args w => run_callFunc_body Try.func13 rfl (by decide) args w⟩
theorem B83 : Bt Try.prog 83 [.string (bs ([] : List UInt8)), .int .i64 0] [(0, 1), (1, 1)] := ⟨⟨.agg #[.string (bs ([] : List UInt8)), .int .i64 0], by kernel_rfl, rfl⟩, ⟨_, u83_, fun w => by kernel_rfl⟩⟩
def octet_Open (p0 : List UInt8) : (List UInt8 × Int) := (p0, 0)
theorem octet_Open_c (Y : Nat → Prop) (w0 : World)  (p0 : List UInt8) (r : (List UInt8 × Int)) (H : octet_Open p0 = r)  :
    Calls Try.prog 37 #[.string (bs p0)] w0 fun e w' => ∃ x : Nat, e = .returned (.pointer (some ⟨x, 0, none⟩)) ∧ Stw ⟨Y, [], w0⟩ [(x, [.string (bs r.1), .int .i64 r.2])] [] w' := by
 refine enter Try.func37 rfl Try.ntmps37 rfl (fun a hF => ?_)
 have hW := Stw.start Y w0
 unfold octet_Open at H
 refine c_seq ?_
 refine reg_list ?_
 refine ls hF hW rfl ((y_assign hF rfl).q) (fun a w hF hW => ?_)
 refine ls_nil ?_
 refine c_then ?_
 refine c_seq ?_
 refine reg_list ?_
 refine ls hF hW rfl ((y_move hF rfl).q) (fun a w hF hW => ?_)
 refine ls hF hW rfl ((y_build (v := Value.agg #[.string (bs p0), .int .i64 0]) B83 hF rfl rfl rfl).q) (fun a w hF hW => ?_)
 refine l_box (cs := [.string (bs p0), .int .i64 0]) hF hW rfl rfl rfl (fun b1 a w hF hW => ?_)
 refine ls hF hW rfl ((y_assign hF rfl).q) (fun a w hF hW => ?_)
 refine ls_nil ?_
 refine c_then ?_
 refine wp_ret ?_
 subst H
 refine post1 (.inl rfl) hF hW rfl (rv_tmp hF rfl) ?_
 exact ⟨b1, rfl, hW⟩

theorem u68_ : type_of% Try.underlying68 := Try.underlying68
theorem H37 : Has Try.prog 37 := ⟨fun args w => run_callFunc_body Try.func37 rfl (by decide) args w⟩
theorem T30 : Ty Try.prog 30 false 1 := ⟨by kernel_rfl, by kernel_rfl⟩
def octet_Reader_Ok (p0 : List UInt8 × Int) : Bool := decide (p0.2 = 0)
theorem octet_Reader_Ok_c (Y : Nat → Prop) (w0 : World) (q_p0 : Nat) (p0 : List UInt8 × Int) (r : Bool) (H : octet_Reader_Ok p0 = r) (a_q_p0 : At ⟨Y, [], w0⟩ q_p0 0 [.string (bs p0.1), .int .i64 p0.2]) :
    Calls Try.prog 72 #[.pointer (some ⟨q_p0, 0, none⟩)] w0 fun e w' => e = .returned (.bool r) ∧ Below w0.heap.size w0 w' := by
 refine enter Try.func72 rfl Try.ntmps72 rfl (fun a hF => ?_)
 have hW := Stw.start Y w0
 unfold octet_Reader_Ok at H
 refine c_seq ?_
 refine reg_list ?_
 refine ls hF hW rfl ((y_assign hF rfl).q) (fun a w hF hW => ?_)
 refine ls_nil ?_
 refine c_then ?_
 refine c_seq ?_
 refine reg_list ?_
 refine ls hF hW rfl ((y_move hF rfl).q) (fun a w hF hW => ?_)
 refine ls hF hW rfl ((y_pne_some_nil u68_ hF rfl rfl).q) (fun a w hF hW => ?_)
 refine ls hF hW rfl ((y_move hF rfl).q) (fun a w hF hW => ?_)
 refine ls_w hF hW (wanted_y hF rfl rfl rfl rfl) rfl (Nat.le_of_ble_eq_true rfl) ((y_move hF rfl).q) (fun a w hF hW => ?_)
 refine ls_w hF hW (wanted_y hF rfl rfl rfl rfl) rfl (Nat.le_of_ble_eq_true rfl) ((y_nilCheck hF rfl).q) (fun a w hF hW => ?_)
 refine ls_w hF hW (wanted_y hF rfl rfl rfl rfl) rfl (Nat.le_of_ble_eq_true rfl) ((y_fieldAddr u83_ rfl rfl rfl T30 hF rfl 1 rfl).q) (fun a w hF hW => ?_)
 refine ls_w hF hW (wanted_y hF rfl rfl rfl rfl) rfl (Nat.le_of_ble_eq_true rfl) ((y_load_at (y := Value.int .i64 p0.2) (j := 1) hF rfl (Nat.zero_add _).symm a_q_p0 T30 rfl).q) (fun a w hF hW => ?_)
 refine ls_w hF hW (wanted_y hF rfl rfl rfl rfl) rfl (Nat.le_of_ble_eq_true rfl) ((y_eql hF rfl rfl).q) (fun a w hF hW => ?_)
 refine ls hF hW rfl ((y_pick_t hF rfl rfl rfl).q) (fun a w hF hW => ?_)
 refine ls hF hW rfl ((y_assign hF rfl).q) (fun a w hF hW => ?_)
 refine ls_nil ?_
 refine c_then ?_
 refine wp_ret ?_
 subst H
 refine post1 (.inl rfl) hF hW rfl (rv_tmp hF rfl) ?_
 exact ⟨rfl, hW.done⟩

theorem H72 : Has Try.prog 72 := ⟨fun args w => run_callFunc_body Try.func72 rfl (by decide) args w⟩
def octet_Reader_Wrong (p0 : List UInt8 × Int) (p1 : Int) : (List UInt8 × Int) := (if (octet_Reader_Ok p0) = true then (p0.1, p1) else p0)
theorem octet_Reader_Wrong_c (Y : Nat → Prop) (X : List Nat) (w0 : World) (q_p0 : Nat) (p0 : List UInt8 × Int) (p1 : Int) (r : (List UInt8 × Int)) (H : octet_Reader_Wrong p0 p1 = r) (hL : Stw ⟨Y, X, w0⟩ [(q_p0, [.string (bs p0.1), .int .i64 p0.2])] [] w0) :
    Calls Try.prog 54 #[.pointer (some ⟨q_p0, 0, none⟩), .int .i64 p1] w0 fun e w' => ∃ x : Unit, e = .returned (.tuple #[]) ∧ Stw ⟨Y, X, w0⟩ [(q_p0, [.string (bs r.1), .int .i64 r.2])] [] w' := by
 refine enter Try.func54 rfl Try.ntmps54 rfl (fun a hF => ?_)
 have hW := hL
 unfold octet_Reader_Wrong at H
 refine c_seq ?_
 refine reg_list ?_
 refine ls hF hW rfl ((y_move hF rfl).q) (fun a w hF hW => ?_)
 refine ls hF hW rfl (y_call (v := Value.bool (octet_Reader_Ok p0)) hF H72 rfl (fun w hW => octet_Reader_Ok_c any w q_p0 p0 _ rfl (at_M hW 0 rfl))) (fun a w hF hW => ?_)
 refine ls_nil ?_
 refine c_then ?_
 refine c_cond hF rfl (fun hb => ?_) (fun hb => ?_)
 ·
  have H := iteT hb H
  rw [hb] at hF
  clear hb
  refine reg_list ?_
  refine ls hF hW rfl ((y_move hF rfl).q) (fun a w hF hW => ?_)
  refine ls hF hW rfl ((y_move hF rfl).q) (fun a w hF hW => ?_)
  refine ls hF hW rfl ((y_nilCheck hF rfl).q) (fun a w hF hW => ?_)
  refine ls hF hW rfl ((y_fieldAddr u83_ rfl rfl rfl T30 hF rfl 1 rfl).q) (fun a w hF hW => ?_)
  refine l_store (vs := [.int .i64 p1]) (M' := [(q_p0, [.string (bs p0.1), .int .i64 p1])]) 0 hF hW rfl rfl rfl T30 rfl rfl rfl rfl rfl (fun w hW => ?_)
  refine ls_nil ?_
  subst H
  refine post0 (.inr rfl) hF rfl ?_
  exact ⟨(), rfl, hW⟩
 ·
  have H := iteF (by rw [hb]; decide) H
  rw [hb] at hF
  clear hb
  refine wp_skip ?_
  subst H
  refine post0 (.inr rfl) hF rfl ?_
  exact ⟨(), rfl, hW⟩

theorem H54 : Has Try.prog 54 := ⟨fun args w => run_callFunc_body Try.func54 rfl (by decide) args w⟩
theorem T9 : Ty Try.prog 9 false 1 := ⟨by kernel_rfl, by kernel_rfl⟩
def octet_Reader_Left (p0 : List UInt8 × Int) : Int := (if (!(octet_Reader_Ok p0)) = true then 0 else (p0.1.length : Int))
theorem octet_Reader_Left_c (Y : Nat → Prop) (w0 : World) (q_p0 : Nat) (p0 : List UInt8 × Int) (r : Int) (H : octet_Reader_Left p0 = r) (a_q_p0 : At ⟨Y, [], w0⟩ q_p0 0 [.string (bs p0.1), .int .i64 p0.2]) :
    Calls Try.prog 57 #[.pointer (some ⟨q_p0, 0, none⟩)] w0 fun e w' => e = .returned (.int .i64 r) ∧ Below w0.heap.size w0 w' := by
 refine enter Try.func57 rfl Try.ntmps57 rfl (fun a hF => ?_)
 have hW := Stw.start Y w0
 unfold octet_Reader_Left at H
 refine c_seq ?_
 refine reg_list ?_
 refine ls hF hW rfl ((y_assign hF rfl).q) (fun a w hF hW => ?_)
 refine ls_nil ?_
 refine c_then ?_
 refine c_seq ?_
 refine c_seq ?_
 refine reg_list ?_
 refine ls hF hW rfl ((y_move hF rfl).q) (fun a w hF hW => ?_)
 refine ls hF hW rfl (y_call (v := Value.bool (octet_Reader_Ok p0)) hF H72 rfl (fun w hW => octet_Reader_Ok_c any w q_p0 p0 _ rfl (At.re a_q_p0 hW))) (fun a w hF hW => ?_)
 refine ls hF hW rfl ((y_not hF rfl).q) (fun a w hF hW => ?_)
 refine ls_nil ?_
 refine c_then ?_
 refine c_cond hF rfl (fun hb => ?_) (fun hb => ?_)
 ·
  have H := iteT hb H
  rw [hb] at hF
  clear hb
  refine c_seq ?_
  refine reg_list ?_
  refine ls hF hW rfl ((y_assign hF rfl).q) (fun a w hF hW => ?_)
  refine ls_nil ?_
  refine c_then ?_
  refine wp_ret ?_
  refine r_then ?_
  subst H
  refine post1 (.inl rfl) hF hW rfl (rv_tmp hF rfl) ?_
  exact ⟨rfl, hW.done⟩
 ·
  have H := iteF (by rw [hb]; decide) H
  rw [hb] at hF
  clear hb
  refine wp_skip ?_
  refine c_then ?_
  refine c_seq ?_
  refine reg_list ?_
  refine ls hF hW rfl ((y_move hF rfl).q) (fun a w hF hW => ?_)
  refine ls hF hW rfl ((y_nilCheck hF rfl).q) (fun a w hF hW => ?_)
  refine ls hF hW rfl ((y_fieldAddr u83_ rfl rfl rfl T9 hF rfl 0 rfl).q) (fun a w hF hW => ?_)
  refine ls hF hW rfl ((y_load_at (y := Value.string (bs p0.1)) (j := 0) hF rfl (Nat.zero_add _).symm a_q_p0 T9 rfl).q) (fun a w hF hW => ?_)
  refine ls hF hW rfl ((y_slen (l := p0.1) u9_ rfl hF rfl).q) (fun a w hF hW => ?_)
  refine ls hF hW rfl ((y_assign hF rfl).q) (fun a w hF hW => ?_)
  refine ls_nil ?_
  refine c_then ?_
  refine wp_ret ?_
  subst H
  refine post1 (.inl rfl) hF hW rfl (rv_tmp hF rfl) ?_
  exact ⟨rfl, hW.done⟩

theorem H57 : Has Try.prog 57 := ⟨fun args w => run_callFunc_body Try.func57 rfl (by decide) args w⟩
noncomputable def octet_Reader_Take (p0 : List UInt8 × Int) (p1 : Int) : Option (List UInt8 × (List UInt8 × Int)) := (if p1 < 0 then some ((octet_Reader_Wrong p0 2).1, (octet_Reader_Wrong p0 2).2) else (if (octet_Reader_Left p0) < p1 then some ((octet_Reader_Wrong p0 3).1, (octet_Reader_Wrong p0 3).2) else some (p0.1, p0.2))).bind fun (x1, x2) => (if (!(octet_Reader_Ok (x1, x2))) = true then some (([] : List UInt8), (x1, x2)) else (subl x1 0 p1).bind fun x3 => (subl x1 p1 (x1.length : Int)).bind fun x4 => some (x3, (x4, x2)))
theorem octet_Reader_Take_c (Y : Nat → Prop) (X : List Nat) (w0 : World) (q_p0 : Nat) (p0 : List UInt8 × Int) (p1 : Int) (r : List UInt8 × (List UInt8 × Int)) (H : octet_Reader_Take p0 p1 = some r) (hL : Stw ⟨Y, X, w0⟩ [(q_p0, [.string (bs p0.1), .int .i64 p0.2])] [] w0) :
    Calls Try.prog 80 #[.pointer (some ⟨q_p0, 0, none⟩), .int .i64 p1] w0 fun e w' => ∃ x : Unit, e = .returned (.string (bs r.1)) ∧ Stw ⟨Y, X, w0⟩ [(q_p0, [.string (bs r.2.1), .int .i64 r.2.2])] [] w' := by
 refine enter Try.func80 rfl Try.ntmps80 rfl (fun a hF => ?_)
 have hW := hL
 unfold octet_Reader_Take at H
 refine c_seq ?_
 refine reg_list ?_
 refine ls hF hW rfl ((y_assign (v := Value.string (bs ([] : List UInt8))) hF rfl).q) (fun a w hF hW => ?_)
 refine ls_nil ?_
 refine c_then ?_
 obtain ⟨o1, G1, K1⟩ := bindE H
 refine c_seqJ (fun a w => ∃ x1 : List UInt8, ∃ x2 : Int, some ((x1, x2)) = some o1 ∧ Fr 37 [] [(0, .pointer (some ⟨q_p0, 0, none⟩)), (1, .int .i64 p1), (4, .string (bs ([] : List UInt8)))] a ∧ Stw ⟨Y, X, w0⟩ [(q_p0, [.string (bs x1), .int .i64 x2])] [] w) ?_ ?_
 ·
  have H := G1
  clear G1 K1
  refine wp_block ?_
  refine c_seq ?_
  refine reg_list ?_
  refine ls hF hW rfl ((y_move hF rfl).q) (fun a w hF hW => ?_)
  refine ls hF hW rfl ((y_lss hF rfl rfl).q) (fun a w hF hW => ?_)
  refine ls hF hW rfl ((y_assign hF rfl).q) (fun a w hF hW => ?_)
  refine ls_nil ?_
  refine c_then ?_
  refine c_cond hF rfl (fun hb => ?_) (fun hb => ?_)
  ·
   have H := iteT (of_decide_eq_true hb) H
   rw [hb] at hF
   clear hb
   refine reg_list ?_
   refine ls hF hW rfl ((y_move hF rfl).q) (fun a w hF hW => ?_)
   refine l_callG (Ml := [(q_p0, [.string (bs p0.1), .int .i64 p0.2])]) (Zl := []) (M := []) (Z := []) (β := Unit) (rv := fun x => .tuple #[]) (MM := fun x => [(q_p0, [.string (bs ((octet_Reader_Wrong p0 2).1)), .int .i64 ((octet_Reader_Wrong p0 2).2)])]) (ZZ := fun x => []) hF hW H54 rfl rfl (fun hL => octet_Reader_Wrong_c _ _ w q_p0 p0 2 _ rfl hL) (fun x a w hF hW => ?_)
   have hW : Stw ⟨Y, X, w0⟩ [(q_p0, [.string (bs ((octet_Reader_Wrong p0 2).1)), .int .i64 ((octet_Reader_Wrong p0 2).2)])] [] w := hW
   refine ls_nil ?_
   refine b_normal ?_
   refine c_then ?_
   exact ⟨_, _, H, hF.re ⟨rfl, rfl, rfl, trivial⟩, hW⟩
  ·
   have H := iteF (of_decide_eq_false hb) H
   rw [hb] at hF
   clear hb
   refine c_seq ?_
   refine reg_list ?_
   refine ls hF hW rfl ((y_move hF rfl).q) (fun a w hF hW => ?_)
   refine ls hF hW rfl ((y_move hF rfl).q) (fun a w hF hW => ?_)
   refine ls hF hW rfl (y_call (v := Value.int .i64 (octet_Reader_Left p0)) hF H57 rfl (fun w hW => octet_Reader_Left_c any w q_p0 p0 _ rfl (at_M hW 0 rfl))) (fun a w hF hW => ?_)
   refine ls hF hW rfl ((y_gtr hF rfl rfl).q) (fun a w hF hW => ?_)
   refine ls hF hW rfl ((y_assign hF rfl).q) (fun a w hF hW => ?_)
   refine ls_nil ?_
   refine c_then ?_
   refine c_cond hF rfl (fun hb => ?_) (fun hb => ?_)
   ·
    have H := iteT (of_decide_eq_true hb) H
    rw [hb] at hF
    clear hb
    refine reg_list ?_
    refine ls hF hW rfl ((y_move hF rfl).q) (fun a w hF hW => ?_)
    refine l_callG (Ml := [(q_p0, [.string (bs p0.1), .int .i64 p0.2])]) (Zl := []) (M := []) (Z := []) (β := Unit) (rv := fun x => .tuple #[]) (MM := fun x => [(q_p0, [.string (bs ((octet_Reader_Wrong p0 3).1)), .int .i64 ((octet_Reader_Wrong p0 3).2)])]) (ZZ := fun x => []) hF hW H54 rfl rfl (fun hL => octet_Reader_Wrong_c _ _ w q_p0 p0 3 _ rfl hL) (fun x a w hF hW => ?_)
    have hW : Stw ⟨Y, X, w0⟩ [(q_p0, [.string (bs ((octet_Reader_Wrong p0 3).1)), .int .i64 ((octet_Reader_Wrong p0 3).2)])] [] w := hW
    refine ls_nil ?_
    refine b_normal ?_
    refine c_then ?_
    exact ⟨_, _, H, hF.re ⟨rfl, rfl, rfl, trivial⟩, hW⟩
   ·
    have H := iteF (of_decide_eq_false hb) H
    rw [hb] at hF
    clear hb
    refine wp_skip ?_
    refine b_normal ?_
    refine c_then ?_
    exact ⟨_, _, H, hF.re ⟨rfl, rfl, rfl, trivial⟩, hW⟩
 rintro a w ⟨x1, x2, hj, hF, hW⟩
 have hj := Option.some.inj hj
 subst hj
 have H := K1
 clear G1 K1
 refine c_seq ?_
 refine c_seq ?_
 refine reg_list ?_
 refine ls hF hW rfl ((y_move hF rfl).q) (fun a w hF hW => ?_)
 refine ls hF hW rfl (y_call (v := Value.bool (octet_Reader_Ok (x1, x2))) hF H72 rfl (fun w hW => octet_Reader_Ok_c any w q_p0 (x1, x2) _ rfl (at_M hW 0 rfl))) (fun a w hF hW => ?_)
 refine ls hF hW rfl ((y_not hF rfl).q) (fun a w hF hW => ?_)
 refine ls_nil ?_
 refine c_then ?_
 refine c_cond hF rfl (fun hb => ?_) (fun hb => ?_)
 ·
  have H := iteT hb H
  rw [hb] at hF
  clear hb
  refine c_seq ?_
  refine reg_list ?_
  refine ls hF hW rfl ((y_assign (v := Value.string (bs ([] : List UInt8))) hF rfl).q) (fun a w hF hW => ?_)
  refine ls_nil ?_
  refine c_then ?_
  refine wp_ret ?_
  refine r_then ?_
  have H := Option.some.inj H
  subst H
  refine post1 (.inl rfl) hF hW rfl (rv_tmp hF rfl) ?_
  exact ⟨(), rfl, hW⟩
 ·
  have H := iteF (by rw [hb]; decide) H
  rw [hb] at hF
  clear hb
  refine wp_skip ?_
  refine c_then ?_
  refine c_seq ?_
  refine reg_list ?_
  refine ls hF hW rfl ((y_move hF rfl).q) (fun a w hF hW => ?_)
  refine ls hF hW rfl ((y_nilCheck hF rfl).q) (fun a w hF hW => ?_)
  refine ls hF hW rfl ((y_fieldAddr u83_ rfl rfl rfl T9 hF rfl 0 rfl).q) (fun a w hF hW => ?_)
  refine ls hF hW rfl ((y_load (v := Value.string (bs x1)) 0 hF rfl rfl T9 rfl).q) (fun a w hF hW => ?_)
  refine ls hF hW rfl ((y_move hF rfl).q) (fun a w hF hW => ?_)
  obtain ⟨x3, h1, H⟩ := bindE H
  refine ls hF hW rfl ((y_sslice (l := x1) u9_ hF rfl rfl rfl h1).q) (fun a w hF hW => ?_)
  refine ls hF hW rfl ((y_assign hF rfl).q) (fun a w hF hW => ?_)
  refine ls_nil ?_
  refine c_then ?_
  refine c_seq ?_
  refine reg_list ?_
  refine ls hF hW rfl ((y_move hF rfl).q) (fun a w hF hW => ?_)
  refine ls hF hW rfl ((y_move hF rfl).q) (fun a w hF hW => ?_)
  refine ls hF hW rfl ((y_nilCheck hF rfl).q) (fun a w hF hW => ?_)
  refine ls hF hW rfl ((y_fieldAddr u83_ rfl rfl rfl T9 hF rfl 0 rfl).q) (fun a w hF hW => ?_)
  refine ls hF hW rfl ((y_load (v := Value.string (bs x1)) 0 hF rfl rfl T9 rfl).q) (fun a w hF hW => ?_)
  refine ls hF hW rfl ((y_move hF rfl).q) (fun a w hF hW => ?_)
  obtain ⟨x4, h2, H⟩ := bindE H
  refine ls hF hW rfl ((y_sslice (l := x1) u9_ hF rfl rfl rfl h2).q) (fun a w hF hW => ?_)
  refine ls hF hW rfl ((y_nilCheck hF rfl).q) (fun a w hF hW => ?_)
  refine ls hF hW rfl ((y_fieldAddr u83_ rfl rfl rfl T9 hF rfl 0 rfl).q) (fun a w hF hW => ?_)
  refine l_store (vs := [.string (bs x4)]) (M' := [(q_p0, [.string (bs x4), .int .i64 x2])]) 0 hF hW rfl rfl rfl T9 rfl rfl rfl rfl rfl (fun w hW => ?_)
  refine ls_nil ?_
  refine c_then ?_
  refine c_seq ?_
  refine reg_list ?_
  refine ls hF hW rfl ((y_move hF rfl).q) (fun a w hF hW => ?_)
  refine ls hF hW rfl ((y_assign hF rfl).q) (fun a w hF hW => ?_)
  refine ls_nil ?_
  refine c_then ?_
  refine wp_ret ?_
  have H := Option.some.inj H
  subst H
  refine post1 (.inl rfl) hF hW rfl (rv_tmp hF rfl) ?_
  exact ⟨(), rfl, hW⟩

theorem H80 : Has Try.prog 80 := ⟨fun args w => run_callFunc_body Try.func80 rfl (by decide) args w⟩
noncomputable def octet_Reader_read_l1 (x1 : List UInt8 × (List UInt8 × Int)) : (Int × Int) → Option ((Int × Int) ⊕ Int)
  | (x3, x4) => (if x4 < (x1.1.length : Int) then (ix x1.1 x4).bind fun x5 => some (.inl (orI .i64 (shlI .i64 x3 8) (w64 (x5.toNat : Int)), w64 (x4 + 1))) else some (.inr x3))
noncomputable def octet_Reader_read (p0 : List UInt8 × Int) (p1 : Int) : Option (Int × (List UInt8 × Int)) := (octet_Reader_Take p0 p1).bind fun x1 => (loopW (octet_Reader_read_l1 x1) (0, 0)).bind fun x2 => some (x2, x1.2)
theorem octet_Reader_read_c (Y : Nat → Prop) (X : List Nat) (w0 : World) (q_p0 : Nat) (p0 : List UInt8 × Int) (p1 : Int) (r : Int × (List UInt8 × Int)) (H : octet_Reader_read p0 p1 = some r) (hL : Stw ⟨Y, X, w0⟩ [(q_p0, [.string (bs p0.1), .int .i64 p0.2])] [] w0) :
    Calls Try.prog 71 #[.pointer (some ⟨q_p0, 0, none⟩), .int .i64 p1] w0 fun e w' => ∃ x : Unit, e = .returned (.int .i64 r.1) ∧ Stw ⟨Y, X, w0⟩ [(q_p0, [.string (bs r.2.1), .int .i64 r.2.2])] [] w' := by
 refine enter Try.func71 rfl Try.ntmps71 rfl (fun a hF => ?_)
 have hW := hL
 unfold octet_Reader_read at H
 refine c_seq ?_
 refine reg_list ?_
 refine ls hF hW rfl ((y_assign hF rfl).q) (fun a w hF hW => ?_)
 refine ls_nil ?_
 refine c_then ?_
 refine c_seq ?_
 refine reg_list ?_
 refine ls hF hW rfl ((y_move hF rfl).q) (fun a w hF hW => ?_)
 refine ls hF hW rfl ((y_move hF rfl).q) (fun a w hF hW => ?_)
 obtain ⟨x1, h1, H⟩ := bindE H
 refine l_callG (Ml := [(q_p0, [.string (bs p0.1), .int .i64 p0.2])]) (Zl := []) (M := []) (Z := []) (β := Unit) (rv := fun x => .string (bs x1.1)) (MM := fun x => [(q_p0, [.string (bs x1.2.1), .int .i64 x1.2.2])]) (ZZ := fun x => []) hF hW H80 rfl rfl (fun hL => octet_Reader_Take_c _ _ w q_p0 p0 p1 _ h1 hL) (fun x a w hF hW => ?_)
 have hW : Stw ⟨Y, X, w0⟩ [(q_p0, [.string (bs x1.2.1), .int .i64 x1.2.2])] [] w := hW
 refine ls hF hW rfl ((y_assign hF rfl).q) (fun a w hF hW => ?_)
 refine ls_nil ?_
 refine c_then ?_
 refine c_seq ?_
 refine reg_list ?_
 refine ls hF hW rfl ((y_assign hF rfl).q) (fun a w hF hW => ?_)
 refine ls_nil ?_
 refine c_then ?_
 obtain ⟨o1, G1, K1⟩ := bindE H
 refine c_seqJ (fun a w => ∃ x2 : Int, some (x2) = some o1 ∧ Fr 25 [] [(4, .int .i64 0), (6, .int .i64 x2)] a ∧ Stw ⟨Y, X, w0⟩ [(q_p0, [.string (bs x1.2.1), .int .i64 x1.2.2])] [] w) ?_ ?_
 ·
  have H := G1
  clear G1 K1
  refine c_seq ?_
  refine reg_list ?_
  refine ls hF hW rfl ((y_move hF rfl).q) (fun a w hF hW => ?_)
  refine ls hF hW rfl ((y_slen (l := x1.1) u9_ rfl hF rfl).q) (fun a w hF hW => ?_)
  refine ls hF hW rfl ((y_move hF rfl).q) (fun a w hF hW => ?_)
  refine ls_nil ?_
  refine c_then ?_
  refine wp_block ?_
  refine c_loopW H (fun s a w => Fr 25 [] [(4, .int .i64 0), (5, .string (bs x1.1)), (6, .int .i64 s.1), (12, .int .i64 (x1.1.length : Int)), (13, .int .i64 s.2)] a ∧ Stw ⟨Y, X, w0⟩ [(q_p0, [.string (bs x1.2.1), .int .i64 x1.2.2])] [] w) ⟨hF.re ⟨rfl, rfl, rfl, rfl, rfl, trivial⟩, hW⟩ (fun s o a w H L2 hR => ?_)
  obtain ⟨x3, x4⟩ := s
  obtain ⟨hF, hW⟩ := hR
  have hF : Fr 25 [] [(4, .int .i64 0), (5, .string (bs x1.1)), (6, .int .i64 x3), (12, .int .i64 (x1.1.length : Int)), (13, .int .i64 x4)] a := hF
  have hW : Stw ⟨Y, X, w0⟩ [(q_p0, [.string (bs x1.2.1), .int .i64 x1.2.2])] [] w := hW
  rw [octet_Reader_read_l1] at H
  refine c_seq ?_
  refine reg_list ?_
  refine ls hF hW rfl ((y_lss hF rfl rfl).q) (fun a w hF hW => ?_)
  refine ls_nil ?_
  refine c_then ?_
  refine c_seq ?_
  refine c_cond hF rfl (fun hb => ?_) (fun hb => ?_)
  ·
   have H := iteT (of_decide_eq_true hb) H
   rw [hb] at hF
   clear hb
   refine wp_skip ?_
   refine c_then ?_
   refine c_seq ?_
   refine wp_block ?_
   refine c_seq ?_
   refine reg_list ?_
   refine ls hF hW rfl ((y_move hF rfl).q) (fun a w hF hW => ?_)
   refine ls hF hW rfl ((y_assign hF rfl).q) (fun a w hF hW => ?_)
   refine ls_nil ?_
   refine c_then ?_
   refine reg_list ?_
   refine ls hF hW rfl ((y_move hF rfl).q) (fun a w hF hW => ?_)
   refine ls hF hW rfl ((y_shl hF rfl rfl (by decide)).q) (fun a w hF hW => ?_)
   refine ls hF hW rfl ((y_move hF rfl).q) (fun a w hF hW => ?_)
   refine ls hF hW rfl ((y_move hF rfl).q) (fun a w hF hW => ?_)
   obtain ⟨x5, h2, H⟩ := bindE H
   refine ls hF hW rfl ((y_sindex (l := x1.1) u9_ hF rfl rfl h2).q) (fun a w hF hW => ?_)
   refine ls hF hW rfl ((y_convI u5_ u3_ hF rfl).q) (fun a w hF hW => ?_)
   refine ls hF hW rfl ((y_or hF rfl rfl).q) (fun a w hF hW => ?_)
   refine ls hF hW rfl ((y_assign hF rfl).q) (fun a w hF hW => ?_)
   refine ls_nil ?_
   refine b_normal ?_
   refine c_then ?_
   refine reg_list ?_
   refine ls hF hW rfl ((y_add hF rfl rfl rfl).q) (fun a w hF hW => ?_)
   refine ls hF hW rfl ((y_move hF rfl).q) (fun a w hF hW => ?_)
   refine ls_nil ?_
   refine c_then ?_
   exact ⟨_, H, hF.re ⟨rfl, rfl, rfl, rfl, rfl, trivial⟩, hW⟩
  ·
   have H := iteF (of_decide_eq_false hb) H
   rw [hb] at hF
   clear hb
   refine wp_exit ?_
   refine e_then ?_
   refine e_then ?_
   refine e_block ?_
   refine c_then ?_
   have H := L2 _ H
   exact ⟨_, H, hF.re ⟨rfl, rfl, trivial⟩, hW⟩
 rintro a w ⟨x2, hj, hF, hW⟩
 have hj := Option.some.inj hj
 subst hj
 have H := K1
 clear G1 K1
 refine c_seq ?_
 refine reg_list ?_
 refine ls hF hW rfl ((y_move hF rfl).q) (fun a w hF hW => ?_)
 refine ls hF hW rfl ((y_assign hF rfl).q) (fun a w hF hW => ?_)
 refine ls_nil ?_
 refine c_then ?_
 refine wp_ret ?_
 have H := Option.some.inj H
 subst H
 refine post1 (.inl rfl) hF hW rfl (rv_tmp hF rfl) ?_
 exact ⟨(), rfl, hW⟩

theorem H71 : Has Try.prog 71 := ⟨fun args w => run_callFunc_body Try.func71 rfl (by decide) args w⟩
noncomputable def octet_Reader_Num (p0 : List UInt8 × Int) (p1 : Int) : Option (Int × (List UInt8 × Int)) := (if (decide (p1 < 1) || decide (7 < p1)) = true then some ((octet_Reader_Wrong p0 2).1, (octet_Reader_Wrong p0 2).2) else some (p0.1, p0.2)).bind fun (x1, x2) => (octet_Reader_read (x1, x2) p1).bind fun x3 => some (x3.1, x3.2)
theorem octet_Reader_Num_c (Y : Nat → Prop) (X : List Nat) (w0 : World) (q_p0 : Nat) (p0 : List UInt8 × Int) (p1 : Int) (r : Int × (List UInt8 × Int)) (H : octet_Reader_Num p0 p1 = some r) (hL : Stw ⟨Y, X, w0⟩ [(q_p0, [.string (bs p0.1), .int .i64 p0.2])] [] w0) :
    Calls Try.prog 53 #[.pointer (some ⟨q_p0, 0, none⟩), .int .i64 p1] w0 fun e w' => ∃ x : Unit, e = .returned (.int .i64 r.1) ∧ Stw ⟨Y, X, w0⟩ [(q_p0, [.string (bs r.2.1), .int .i64 r.2.2])] [] w' := by
 refine enter Try.func53 rfl Try.ntmps53 rfl (fun a hF => ?_)
 have hW := hL
 unfold octet_Reader_Num at H
 refine c_seq ?_
 refine reg_list ?_
 refine ls hF hW rfl ((y_assign hF rfl).q) (fun a w hF hW => ?_)
 refine ls_nil ?_
 refine c_then ?_
 obtain ⟨o1, G1, K1⟩ := bindE H
 refine c_seqJ (fun a w => ∃ x1 : List UInt8, ∃ x2 : Int, some ((x1, x2)) = some o1 ∧ Fr 16 [] [(0, .pointer (some ⟨q_p0, 0, none⟩)), (1, .int .i64 p1), (4, .int .i64 0)] a ∧ Stw ⟨Y, X, w0⟩ [(q_p0, [.string (bs x1), .int .i64 x2])] [] w) ?_ ?_
 ·
  have H := G1
  clear G1 K1
  refine c_seqJ (fun a w => Fr 16 [] [(0, .pointer (some ⟨q_p0, 0, none⟩)), (1, .int .i64 p1), (4, .int .i64 0), (10, .bool (decide (p1 < 1) || decide (7 < p1)))] a ∧ Stw ⟨Y, X, w0⟩ [(q_p0, [.string (bs p0.1), .int .i64 p0.2])] [] w) ?_ ?_
  ·
   refine reg_list ?_
   refine ls hF hW rfl ((y_move hF rfl).q) (fun a w hF hW => ?_)
   refine ls hF hW rfl ((y_lss hF rfl rfl).q) (fun a w hF hW => ?_)
   refine ls hF hW rfl ((y_move hF rfl).q) (fun a w hF hW => ?_)
   rcases Bool.eq_false_or_eq_true (decide (p1 < 1)) with hb0 | hb0
   ·
    rw [hb0] at hF
    refine lsn hF rfl rfl rfl rfl rfl rfl rfl (fun a hF => ?_)
    refine lsn hF rfl rfl rfl rfl rfl rfl rfl (fun a hF => ?_)
    refine ls hF hW rfl ((y_pick_t hF rfl rfl rfl).q) (fun a w hF hW => ?_)
    refine ls_nil ?_
    refine c_then ?_
    exact ⟨hF.re ⟨rfl, rfl, rfl, (by show some (Value.bool true) = some (Value.bool (decide (p1 < 1) || decide (7 < p1))); try rw [hb0]; all_goals simp only [Bool.not_true, Bool.not_false, Bool.true_and, Bool.false_and, Bool.true_or, Bool.false_or, Bool.and_true, Bool.or_false, cond_true, cond_false]), trivial⟩, hW⟩
   ·
    rw [hb0] at hF
    refine ls_w hF hW (wanted_y hF rfl rfl rfl rfl) rfl (Nat.le_of_ble_eq_true rfl) ((y_move hF rfl).q) (fun a w hF hW => ?_)
    refine ls_w hF hW (wanted_y hF rfl rfl rfl rfl) rfl (Nat.le_of_ble_eq_true rfl) ((y_gtr hF rfl rfl).q) (fun a w hF hW => ?_)
    refine ls hF hW rfl ((y_pick_f hF rfl rfl rfl).q) (fun a w hF hW => ?_)
    refine ls_nil ?_
    refine c_then ?_
    exact ⟨hF.re ⟨rfl, rfl, rfl, (by show some (Value.bool (decide (7 < p1))) = some (Value.bool (decide (p1 < 1) || decide (7 < p1))); try rw [hb0]; all_goals simp only [Bool.not_true, Bool.not_false, Bool.true_and, Bool.false_and, Bool.true_or, Bool.false_or, Bool.and_true, Bool.or_false, cond_true, cond_false]), trivial⟩, hW⟩
  rintro a w ⟨hF, hW⟩
  refine c_cond hF rfl (fun hb => ?_) (fun hb => ?_)
  ·
   have H := iteT hb H
   rw [hb] at hF
   clear hb
   refine reg_list ?_
   refine ls hF hW rfl ((y_move hF rfl).q) (fun a w hF hW => ?_)
   refine l_callG (Ml := [(q_p0, [.string (bs p0.1), .int .i64 p0.2])]) (Zl := []) (M := []) (Z := []) (β := Unit) (rv := fun x => .tuple #[]) (MM := fun x => [(q_p0, [.string (bs ((octet_Reader_Wrong p0 2).1)), .int .i64 ((octet_Reader_Wrong p0 2).2)])]) (ZZ := fun x => []) hF hW H54 rfl rfl (fun hL => octet_Reader_Wrong_c _ _ w q_p0 p0 2 _ rfl hL) (fun x a w hF hW => ?_)
   have hW : Stw ⟨Y, X, w0⟩ [(q_p0, [.string (bs ((octet_Reader_Wrong p0 2).1)), .int .i64 ((octet_Reader_Wrong p0 2).2)])] [] w := hW
   refine ls_nil ?_
   refine c_then ?_
   exact ⟨_, _, H, hF.re ⟨rfl, rfl, rfl, trivial⟩, hW⟩
  ·
   have H := iteF (by rw [hb]; decide) H
   rw [hb] at hF
   clear hb
   refine wp_skip ?_
   refine c_then ?_
   exact ⟨_, _, H, hF.re ⟨rfl, rfl, rfl, trivial⟩, hW⟩
 rintro a w ⟨x1, x2, hj, hF, hW⟩
 have hj := Option.some.inj hj
 subst hj
 have H := K1
 clear G1 K1
 refine c_seq ?_
 refine reg_list ?_
 refine ls hF hW rfl ((y_move hF rfl).q) (fun a w hF hW => ?_)
 refine ls hF hW rfl ((y_move hF rfl).q) (fun a w hF hW => ?_)
 obtain ⟨x3, h1, H⟩ := bindE H
 refine l_callG (Ml := [(q_p0, [.string (bs x1), .int .i64 x2])]) (Zl := []) (M := []) (Z := []) (β := Unit) (rv := fun x => .int .i64 x3.1) (MM := fun x => [(q_p0, [.string (bs x3.2.1), .int .i64 x3.2.2])]) (ZZ := fun x => []) hF hW H71 rfl rfl (fun hL => octet_Reader_read_c _ _ w q_p0 (x1, x2) p1 _ h1 hL) (fun x a w hF hW => ?_)
 have hW : Stw ⟨Y, X, w0⟩ [(q_p0, [.string (bs x3.2.1), .int .i64 x3.2.2])] [] w := hW
 refine ls hF hW rfl ((y_assign hF rfl).q) (fun a w hF hW => ?_)
 refine ls_nil ?_
 refine c_then ?_
 refine wp_ret ?_
 have H := Option.some.inj H
 subst H
 refine post1 (.inl rfl) hF hW rfl (rv_tmp hF rfl) ?_
 exact ⟨(), rfl, hW⟩

theorem H53 : Has Try.prog 53 := ⟨fun args w => run_callFunc_body Try.func53 rfl (by decide) args w⟩
noncomputable def octet_Reader_Int (p0 : List UInt8 × Int) : Option (Int × (List UInt8 × Int)) := (octet_Reader_read p0 8).bind fun x1 => some (x1.1, x1.2)
theorem octet_Reader_Int_c (Y : Nat → Prop) (X : List Nat) (w0 : World) (q_p0 : Nat) (p0 : List UInt8 × Int) (r : Int × (List UInt8 × Int)) (H : octet_Reader_Int p0 = some r) (hL : Stw ⟨Y, X, w0⟩ [(q_p0, [.string (bs p0.1), .int .i64 p0.2])] [] w0) :
    Calls Try.prog 55 #[.pointer (some ⟨q_p0, 0, none⟩)] w0 fun e w' => ∃ x : Unit, e = .returned (.int .i64 r.1) ∧ Stw ⟨Y, X, w0⟩ [(q_p0, [.string (bs r.2.1), .int .i64 r.2.2])] [] w' := by
 refine enter Try.func55 rfl Try.ntmps55 rfl (fun a hF => ?_)
 have hW := hL
 unfold octet_Reader_Int at H
 refine c_seq ?_
 refine reg_list ?_
 refine ls hF hW rfl ((y_assign hF rfl).q) (fun a w hF hW => ?_)
 refine ls_nil ?_
 refine c_then ?_
 refine c_seq ?_
 refine reg_list ?_
 refine ls hF hW rfl ((y_move hF rfl).q) (fun a w hF hW => ?_)
 obtain ⟨x1, h1, H⟩ := bindE H
 refine l_callG (Ml := [(q_p0, [.string (bs p0.1), .int .i64 p0.2])]) (Zl := []) (M := []) (Z := []) (β := Unit) (rv := fun x => .int .i64 x1.1) (MM := fun x => [(q_p0, [.string (bs x1.2.1), .int .i64 x1.2.2])]) (ZZ := fun x => []) hF hW H71 rfl rfl (fun hL => octet_Reader_read_c _ _ w q_p0 p0 8 _ h1 hL) (fun x a w hF hW => ?_)
 have hW : Stw ⟨Y, X, w0⟩ [(q_p0, [.string (bs x1.2.1), .int .i64 x1.2.2])] [] w := hW
 refine ls hF hW rfl ((y_assign hF rfl).q) (fun a w hF hW => ?_)
 refine ls_nil ?_
 refine c_then ?_
 refine wp_ret ?_
 have H := Option.some.inj H
 subst H
 refine post1 (.inl rfl) hF hW rfl (rv_tmp hF rfl) ?_
 exact ⟨(), rfl, hW⟩

theorem H55 : Has Try.prog 55 := ⟨fun args w => run_callFunc_body Try.func55 rfl (by decide) args w⟩
noncomputable def octet_Reader_Count (p0 : List UInt8 × Int) (p1 : Int) : Option (Int × (List UInt8 × Int)) := (octet_Reader_Num p0 1).bind fun x1 => (if p1 < x1.1 then some ((octet_Reader_Wrong x1.2 6).1, (octet_Reader_Wrong x1.2 6).2) else some (x1.2.1, x1.2.2)).bind fun (x2, x3) => (if (!(octet_Reader_Ok (x2, x3))) = true then some (0, (x2, x3)) else some (x1.1, (x2, x3)))
theorem octet_Reader_Count_c (Y : Nat → Prop) (X : List Nat) (w0 : World) (q_p0 : Nat) (p0 : List UInt8 × Int) (p1 : Int) (r : Int × (List UInt8 × Int)) (H : octet_Reader_Count p0 p1 = some r) (hL : Stw ⟨Y, X, w0⟩ [(q_p0, [.string (bs p0.1), .int .i64 p0.2])] [] w0) :
    Calls Try.prog 73 #[.pointer (some ⟨q_p0, 0, none⟩), .int .i64 p1] w0 fun e w' => ∃ x : Unit, e = .returned (.int .i64 r.1) ∧ Stw ⟨Y, X, w0⟩ [(q_p0, [.string (bs r.2.1), .int .i64 r.2.2])] [] w' := by
 refine enter Try.func73 rfl Try.ntmps73 rfl (fun a hF => ?_)
 have hW := hL
 unfold octet_Reader_Count at H
 refine c_seq ?_
 refine reg_list ?_
 refine ls hF hW rfl ((y_assign hF rfl).q) (fun a w hF hW => ?_)
 refine ls_nil ?_
 refine c_then ?_
 refine c_seq ?_
 refine reg_list ?_
 refine ls hF hW rfl ((y_move hF rfl).q) (fun a w hF hW => ?_)
 obtain ⟨x1, h1, H⟩ := bindE H
 refine l_callG (Ml := [(q_p0, [.string (bs p0.1), .int .i64 p0.2])]) (Zl := []) (M := []) (Z := []) (β := Unit) (rv := fun x => .int .i64 x1.1) (MM := fun x => [(q_p0, [.string (bs x1.2.1), .int .i64 x1.2.2])]) (ZZ := fun x => []) hF hW H53 rfl rfl (fun hL => octet_Reader_Num_c _ _ w q_p0 p0 1 _ h1 hL) (fun x a w hF hW => ?_)
 have hW : Stw ⟨Y, X, w0⟩ [(q_p0, [.string (bs x1.2.1), .int .i64 x1.2.2])] [] w := hW
 refine ls hF hW rfl ((y_assign hF rfl).q) (fun a w hF hW => ?_)
 refine ls_nil ?_
 refine c_then ?_
 obtain ⟨o1, G1, K1⟩ := bindE H
 refine c_seqJ (fun a w => ∃ x2 : List UInt8, ∃ x3 : Int, some ((x2, x3)) = some o1 ∧ Fr 17 [] [(0, .pointer (some ⟨q_p0, 0, none⟩)), (4, .int .i64 0), (5, .int .i64 x1.1)] a ∧ Stw ⟨Y, X, w0⟩ [(q_p0, [.string (bs x2), .int .i64 x3])] [] w) ?_ ?_
 ·
  have H := G1
  clear G1 K1
  refine c_seq ?_
  refine reg_list ?_
  refine ls hF hW rfl ((y_move hF rfl).q) (fun a w hF hW => ?_)
  refine ls hF hW rfl ((y_move hF rfl).q) (fun a w hF hW => ?_)
  refine ls hF hW rfl ((y_gtr hF rfl rfl).q) (fun a w hF hW => ?_)
  refine ls_nil ?_
  refine c_then ?_
  refine c_cond hF rfl (fun hb => ?_) (fun hb => ?_)
  ·
   have H := iteT (of_decide_eq_true hb) H
   rw [hb] at hF
   clear hb
   refine reg_list ?_
   refine ls hF hW rfl ((y_move hF rfl).q) (fun a w hF hW => ?_)
   refine l_callG (Ml := [(q_p0, [.string (bs x1.2.1), .int .i64 x1.2.2])]) (Zl := []) (M := []) (Z := []) (β := Unit) (rv := fun x => .tuple #[]) (MM := fun x => [(q_p0, [.string (bs ((octet_Reader_Wrong x1.2 6).1)), .int .i64 ((octet_Reader_Wrong x1.2 6).2)])]) (ZZ := fun x => []) hF hW H54 rfl rfl (fun hL => octet_Reader_Wrong_c _ _ w q_p0 x1.2 6 _ rfl hL) (fun x a w hF hW => ?_)
   have hW : Stw ⟨Y, X, w0⟩ [(q_p0, [.string (bs ((octet_Reader_Wrong x1.2 6).1)), .int .i64 ((octet_Reader_Wrong x1.2 6).2)])] [] w := hW
   refine ls_nil ?_
   refine c_then ?_
   exact ⟨_, _, H, hF.re ⟨rfl, rfl, rfl, trivial⟩, hW⟩
  ·
   have H := iteF (of_decide_eq_false hb) H
   rw [hb] at hF
   clear hb
   refine wp_skip ?_
   refine c_then ?_
   exact ⟨_, _, H, hF.re ⟨rfl, rfl, rfl, trivial⟩, hW⟩
 rintro a w ⟨x2, x3, hj, hF, hW⟩
 have hj := Option.some.inj hj
 subst hj
 have H := K1
 clear G1 K1
 refine c_seq ?_
 refine c_seq ?_
 refine reg_list ?_
 refine ls hF hW rfl ((y_move hF rfl).q) (fun a w hF hW => ?_)
 refine ls hF hW rfl (y_call (v := Value.bool (octet_Reader_Ok (x2, x3))) hF H72 rfl (fun w hW => octet_Reader_Ok_c any w q_p0 (x2, x3) _ rfl (at_M hW 0 rfl))) (fun a w hF hW => ?_)
 refine ls hF hW rfl ((y_not hF rfl).q) (fun a w hF hW => ?_)
 refine ls_nil ?_
 refine c_then ?_
 refine c_cond hF rfl (fun hb => ?_) (fun hb => ?_)
 ·
  have H := iteT hb H
  rw [hb] at hF
  clear hb
  refine c_seq ?_
  refine reg_list ?_
  refine ls hF hW rfl ((y_assign hF rfl).q) (fun a w hF hW => ?_)
  refine ls_nil ?_
  refine c_then ?_
  refine wp_ret ?_
  refine r_then ?_
  have H := Option.some.inj H
  subst H
  refine post1 (.inl rfl) hF hW rfl (rv_tmp hF rfl) ?_
  exact ⟨(), rfl, hW⟩
 ·
  have H := iteF (by rw [hb]; decide) H
  rw [hb] at hF
  clear hb
  refine wp_skip ?_
  refine c_then ?_
  refine c_seq ?_
  refine reg_list ?_
  refine ls hF hW rfl ((y_move hF rfl).q) (fun a w hF hW => ?_)
  refine ls hF hW rfl ((y_assign hF rfl).q) (fun a w hF hW => ?_)
  refine ls_nil ?_
  refine c_then ?_
  refine wp_ret ?_
  have H := Option.some.inj H
  subst H
  refine post1 (.inl rfl) hF hW rfl (rv_tmp hF rfl) ?_
  exact ⟨(), rfl, hW⟩

theorem H73 : Has Try.prog 73 := ⟨fun args w => run_callFunc_body Try.func73 rfl (by decide) args w⟩
theorem B42 : Bt Try.prog 42 [.int .i64 0, .int .i64 0, .int .i64 0, .int .i64 0, .int .i64 0, .int .i64 0, .int .i64 0, .int .i64 0, .int .i64 0, .int .i64 0, .int .i64 0, .slice none 0 0, .bool false] [(0, 1), (1, 11), (12, 1)] := ⟨⟨.agg #[.int .i64 0, .int .i64 0, .int .i64 0, .int .i64 0, .int .i64 0, .int .i64 0, .int .i64 0, .int .i64 0, .int .i64 0, .int .i64 0, .int .i64 0, .slice none 0 0, .bool false], by kernel_rfl, rfl⟩, ⟨_, u42_, fun w => by kernel_rfl⟩⟩
noncomputable def octet_Reader_Flag (p0 : List UInt8 × Int) : Option (Bool × (List UInt8 × Int)) := (octet_Reader_Num p0 1).bind fun x1 => (if 1 < x1.1 then some ((octet_Reader_Wrong x1.2 5).1, (octet_Reader_Wrong x1.2 5).2) else some (x1.2.1, x1.2.2)).bind fun (x2, x3) => some (((octet_Reader_Ok (x2, x3)) && decide (x1.1 = 1)), (x2, x3))
theorem octet_Reader_Flag_c (Y : Nat → Prop) (X : List Nat) (w0 : World) (q_p0 : Nat) (p0 : List UInt8 × Int) (r : Bool × (List UInt8 × Int)) (H : octet_Reader_Flag p0 = some r) (hL : Stw ⟨Y, X, w0⟩ [(q_p0, [.string (bs p0.1), .int .i64 p0.2])] [] w0) :
    Calls Try.prog 74 #[.pointer (some ⟨q_p0, 0, none⟩)] w0 fun e w' => ∃ x : Unit, e = .returned (.bool r.1) ∧ Stw ⟨Y, X, w0⟩ [(q_p0, [.string (bs r.2.1), .int .i64 r.2.2])] [] w' := by
 refine enter Try.func74 rfl Try.ntmps74 rfl (fun a hF => ?_)
 have hW := hL
 unfold octet_Reader_Flag at H
 refine c_seq ?_
 refine reg_list ?_
 refine ls hF hW rfl ((y_assign hF rfl).q) (fun a w hF hW => ?_)
 refine ls_nil ?_
 refine c_then ?_
 refine c_seq ?_
 refine reg_list ?_
 refine ls hF hW rfl ((y_move hF rfl).q) (fun a w hF hW => ?_)
 obtain ⟨x1, h1, H⟩ := bindE H
 refine l_callG (Ml := [(q_p0, [.string (bs p0.1), .int .i64 p0.2])]) (Zl := []) (M := []) (Z := []) (β := Unit) (rv := fun x => .int .i64 x1.1) (MM := fun x => [(q_p0, [.string (bs x1.2.1), .int .i64 x1.2.2])]) (ZZ := fun x => []) hF hW H53 rfl rfl (fun hL => octet_Reader_Num_c _ _ w q_p0 p0 1 _ h1 hL) (fun x a w hF hW => ?_)
 have hW : Stw ⟨Y, X, w0⟩ [(q_p0, [.string (bs x1.2.1), .int .i64 x1.2.2])] [] w := hW
 refine ls hF hW rfl ((y_assign hF rfl).q) (fun a w hF hW => ?_)
 refine ls_nil ?_
 refine c_then ?_
 obtain ⟨o1, G1, K1⟩ := bindE H
 refine c_seqJ (fun a w => ∃ x2 : List UInt8, ∃ x3 : Int, some ((x2, x3)) = some o1 ∧ Fr 16 [] [(0, .pointer (some ⟨q_p0, 0, none⟩)), (2, .bool false), (3, .int .i64 x1.1)] a ∧ Stw ⟨Y, X, w0⟩ [(q_p0, [.string (bs x2), .int .i64 x3])] [] w) ?_ ?_
 ·
  have H := G1
  clear G1 K1
  refine c_seq ?_
  refine reg_list ?_
  refine ls hF hW rfl ((y_move hF rfl).q) (fun a w hF hW => ?_)
  refine ls hF hW rfl ((y_gtr hF rfl rfl).q) (fun a w hF hW => ?_)
  refine ls_nil ?_
  refine c_then ?_
  refine c_cond hF rfl (fun hb => ?_) (fun hb => ?_)
  ·
   have H := iteT (of_decide_eq_true hb) H
   rw [hb] at hF
   clear hb
   refine reg_list ?_
   refine ls hF hW rfl ((y_move hF rfl).q) (fun a w hF hW => ?_)
   refine l_callG (Ml := [(q_p0, [.string (bs x1.2.1), .int .i64 x1.2.2])]) (Zl := []) (M := []) (Z := []) (β := Unit) (rv := fun x => .tuple #[]) (MM := fun x => [(q_p0, [.string (bs ((octet_Reader_Wrong x1.2 5).1)), .int .i64 ((octet_Reader_Wrong x1.2 5).2)])]) (ZZ := fun x => []) hF hW H54 rfl rfl (fun hL => octet_Reader_Wrong_c _ _ w q_p0 x1.2 5 _ rfl hL) (fun x a w hF hW => ?_)
   have hW : Stw ⟨Y, X, w0⟩ [(q_p0, [.string (bs ((octet_Reader_Wrong x1.2 5).1)), .int .i64 ((octet_Reader_Wrong x1.2 5).2)])] [] w := hW
   refine ls_nil ?_
   refine c_then ?_
   exact ⟨_, _, H, hF.re ⟨rfl, rfl, rfl, trivial⟩, hW⟩
  ·
   have H := iteF (of_decide_eq_false hb) H
   rw [hb] at hF
   clear hb
   refine wp_skip ?_
   refine c_then ?_
   exact ⟨_, _, H, hF.re ⟨rfl, rfl, rfl, trivial⟩, hW⟩
 rintro a w ⟨x2, x3, hj, hF, hW⟩
 have hj := Option.some.inj hj
 subst hj
 have H := K1
 clear G1 K1
 refine c_seqJ (fun a w => Fr 16 [] [(2, .bool ((octet_Reader_Ok (x2, x3)) && decide (x1.1 = 1)))] a ∧ Stw ⟨Y, X, w0⟩ [(q_p0, [.string (bs x2), .int .i64 x3])] [] w) ?_ ?_
 ·
  refine reg_list ?_
  refine ls hF hW rfl ((y_move hF rfl).q) (fun a w hF hW => ?_)
  refine ls hF hW rfl (y_call (v := Value.bool (octet_Reader_Ok (x2, x3))) hF H72 rfl (fun w hW => octet_Reader_Ok_c any w q_p0 (x2, x3) _ rfl (at_M hW 0 rfl))) (fun a w hF hW => ?_)
  refine ls hF hW rfl ((y_move hF rfl).q) (fun a w hF hW => ?_)
  rcases Bool.eq_false_or_eq_true (octet_Reader_Ok (x2, x3)) with hb0 | hb0
  ·
   rw [hb0] at hF
   refine ls_w hF hW (wanted_y hF rfl rfl rfl rfl) rfl (Nat.le_of_ble_eq_true rfl) ((y_move hF rfl).q) (fun a w hF hW => ?_)
   refine ls_w hF hW (wanted_y hF rfl rfl rfl rfl) rfl (Nat.le_of_ble_eq_true rfl) ((y_eql hF rfl rfl).q) (fun a w hF hW => ?_)
   refine ls hF hW rfl ((y_pick_t hF rfl rfl rfl).q) (fun a w hF hW => ?_)
   refine ls hF hW rfl ((y_assign hF rfl).q) (fun a w hF hW => ?_)
   refine ls_nil ?_
   refine c_then ?_
   exact ⟨hF.re ⟨(by show some (Value.bool (decide (x1.1 = 1))) = some (Value.bool ((octet_Reader_Ok (x2, x3)) && decide (x1.1 = 1))); try rw [hb0]; all_goals simp only [Bool.not_true, Bool.not_false, Bool.true_and, Bool.false_and, Bool.true_or, Bool.false_or, Bool.and_true, Bool.or_false, cond_true, cond_false]), trivial⟩, hW⟩
  ·
   rw [hb0] at hF
   refine lsn hF rfl rfl rfl rfl rfl rfl rfl (fun a hF => ?_)
   refine lsn hF rfl rfl rfl rfl rfl rfl rfl (fun a hF => ?_)
   refine ls hF hW rfl ((y_pick_f hF rfl rfl rfl).q) (fun a w hF hW => ?_)
   refine ls hF hW rfl ((y_assign hF rfl).q) (fun a w hF hW => ?_)
   refine ls_nil ?_
   refine c_then ?_
   exact ⟨hF.re ⟨(by show some (Value.bool false) = some (Value.bool ((octet_Reader_Ok (x2, x3)) && decide (x1.1 = 1))); try rw [hb0]; all_goals simp only [Bool.not_true, Bool.not_false, Bool.true_and, Bool.false_and, Bool.true_or, Bool.false_or, Bool.and_true, Bool.or_false, cond_true, cond_false]), trivial⟩, hW⟩
 rintro a w ⟨hF, hW⟩
 refine wp_ret ?_
 have H := Option.some.inj H
 subst H
 refine post1 (.inl rfl) hF hW rfl (rv_tmp hF rfl) ?_
 exact ⟨(), rfl, hW⟩

theorem H74 : Has Try.prog 74 := ⟨fun args w => run_callFunc_body Try.func74 rfl (by decide) args w⟩
theorem Z40 : (Try.prog.info? 40).bind (·.zero) = some (.agg #[.int .i64 0, .int .i64 0, .int .i64 0, .int .i64 0, .int .i64 0, .int .i64 0, .int .i64 0, .int .i64 0, .int .i64 0, .int .i64 0, .slice none 0 0]) := by kernel_rfl
theorem Z37 : (Try.prog.info? 37).bind (·.zero) = some (.agg #[.int .i64 0, .int .i64 0, .int .i64 0, .int .i64 0, .int .i64 0, .int .i64 0, .int .i64 0, .int .i64 0, .int .i64 0]) := by kernel_rfl
theorem B37 : Bt Try.prog 37 [.int .i64 0, .int .i64 0, .int .i64 0, .int .i64 0, .int .i64 0, .int .i64 0, .int .i64 0, .int .i64 0, .int .i64 0] [(0, 1), (1, 4), (5, 4)] := ⟨⟨.agg #[.int .i64 0, .int .i64 0, .int .i64 0, .int .i64 0, .int .i64 0, .int .i64 0, .int .i64 0, .int .i64 0, .int .i64 0], by kernel_rfl, rfl⟩, ⟨_, u37_, fun w => by kernel_rfl⟩⟩
noncomputable def match_Read_l1  : (Int × Int × Int × Int × Int × Int × Int × Int × Int × List UInt8 × Int) → Option ((Int × Int × Int × Int × Int × Int × Int × Int × Int × List UInt8 × Int) ⊕ (Int × Int × Int × Int × Int × Int × Int × Int × List UInt8 × Int))
  | (x12, x13, x14, x15, x16, x17, x18, x19, x20, x21, x22) => (if x12 < 4 then (octet_Reader_Num (x21, x22) 1).bind fun x23 => (ix ([x13, x14, x15, x16] : List Int) x12).bind fun x24 => (octet_Reader_Num x23.2 1).bind fun x25 => (ix ([x17, x18, x19, x20] : List Int) x12).bind fun x26 => some (.inl (w64 (x12 + 1), (if x12 = 0 then x23.1 else x13), (if x12 = 1 then x23.1 else x14), (if x12 = 2 then x23.1 else x15), (if x12 = 3 then x23.1 else x16), (if x12 = 0 then x25.1 else x17), (if x12 = 1 then x25.1 else x18), (if x12 = 2 then x25.1 else x19), (if x12 = 3 then x25.1 else x20), x25.2.1, x25.2.2)) else some (.inr (x13, x14, x15, x16, x17, x18, x19, x20, x21, x22)))
noncomputable def match_Read (p0 : List UInt8 × Int) : Option ((Int × (Int × Int × Int × Int) × (Int × Int × Int × Int)) × (List UInt8 × Int)) := (octet_Reader_Num p0 1).bind fun x1 => (loopW (match_Read_l1) (0, 0, 0, 0, 0, 0, 0, 0, 0, x1.2.1, x1.2.2)).bind fun (x2, x3, x4, x5, x6, x7, x8, x9, x10, x11) => ((match_Right (w64 (x1.1 - 1), (x2, x3, x4, x5), (x6, x7, x8, x9))).bind fun x29 => (if (!x29) = true then some ((octet_Reader_Wrong (x10, x11) 2).1, (octet_Reader_Wrong (x10, x11) 2).2) else some (x10, x11))).bind fun (x27, x28) => (if (!(octet_Reader_Ok (x27, x28))) = true then some ((0, (0, 0, 0, 0), (0, 0, 0, 0)), (x27, x28)) else some ((w64 (x1.1 - 1), (x2, x3, x4, x5), (x6, x7, x8, x9)), (x27, x28)))
theorem match_Read_c (Y : Nat → Prop) (X : List Nat) (w0 : World) (q_p0 : Nat) (p0 : List UInt8 × Int) (r : (Int × (Int × Int × Int × Int) × (Int × Int × Int × Int)) × (List UInt8 × Int)) (H : match_Read p0 = some r) (hL : Stw ⟨Y, X, w0⟩ [(q_p0, [.string (bs p0.1), .int .i64 p0.2])] [] w0) :
    Calls Try.prog 81 #[.pointer (some ⟨q_p0, 0, none⟩)] w0 fun e w' => ∃ x : Unit, e = .returned (.agg #[.int .i64 r.1.1, .int .i64 r.1.2.1.1, .int .i64 r.1.2.1.2.1, .int .i64 r.1.2.1.2.2.1, .int .i64 r.1.2.1.2.2.2, .int .i64 r.1.2.2.1, .int .i64 r.1.2.2.2.1, .int .i64 r.1.2.2.2.2.1, .int .i64 r.1.2.2.2.2.2]) ∧ Stw ⟨Y, X, w0⟩ [(q_p0, [.string (bs r.2.1), .int .i64 r.2.2])] [] w' := by
 refine enter Try.func81 rfl Try.ntmps81 rfl (fun a hF => ?_)
 have hW := hL
 unfold match_Read at H
 refine c_seq ?_
 refine reg_list ?_
 refine l_alloc (cs := [.int .i64 0, .int .i64 0, .int .i64 0, .int .i64 0, .int .i64 0, .int .i64 0, .int .i64 0, .int .i64 0, .int .i64 0]) hF hW rfl Z37 rfl (fun b1 a w hF hW => ?_)
 refine ls_nil ?_
 refine c_then ?_
 refine c_seq ?_
 refine reg_list ?_
 refine ls hF hW rfl ((y_move hF rfl).q) (fun a w hF hW => ?_)
 obtain ⟨x1, h1, H⟩ := bindE H
 have hW := hW.frontM (i := 1) rfl rfl
 refine l_callG (Ml := [(q_p0, [.string (bs p0.1), .int .i64 p0.2])]) (Zl := []) (M := [(b1, [.int .i64 0, .int .i64 0, .int .i64 0, .int .i64 0, .int .i64 0, .int .i64 0, .int .i64 0, .int .i64 0, .int .i64 0])]) (Z := []) (β := Unit) (rv := fun x => .int .i64 x1.1) (MM := fun x => [(q_p0, [.string (bs x1.2.1), .int .i64 x1.2.2])]) (ZZ := fun x => []) hF hW H53 rfl rfl (fun hL => octet_Reader_Num_c _ _ w q_p0 p0 1 _ h1 hL) (fun x a w hF hW => ?_)
 have hW : Stw ⟨Y, X, w0⟩ [(q_p0, [.string (bs x1.2.1), .int .i64 x1.2.2]), (b1, [.int .i64 0, .int .i64 0, .int .i64 0, .int .i64 0, .int .i64 0, .int .i64 0, .int .i64 0, .int .i64 0, .int .i64 0])] [] w := hW
 refine ls hF hW rfl ((y_sub hF rfl rfl rfl).q) (fun a w hF hW => ?_)
 refine ls hF hW rfl ((y_build (v := Value.agg #[.int .i64 (w64 (x1.1 - 1)), .int .i64 0, .int .i64 0, .int .i64 0, .int .i64 0, .int .i64 0, .int .i64 0, .int .i64 0, .int .i64 0]) B37 hF rfl rfl rfl).q) (fun a w hF hW => ?_)
 refine l_alloc (cs := [.int .i64 0, .int .i64 0, .int .i64 0, .int .i64 0, .int .i64 0, .int .i64 0, .int .i64 0, .int .i64 0, .int .i64 0]) hF hW rfl Z37 rfl (fun b2 a w hF hW => ?_)
 refine l_store (vs := [.int .i64 (w64 (x1.1 - 1)), .int .i64 0, .int .i64 0, .int .i64 0, .int .i64 0, .int .i64 0, .int .i64 0, .int .i64 0, .int .i64 0]) (M' := [(b2, [.int .i64 (w64 (x1.1 - 1)), .int .i64 0, .int .i64 0, .int .i64 0, .int .i64 0, .int .i64 0, .int .i64 0, .int .i64 0, .int .i64 0]), (q_p0, [.string (bs x1.2.1), .int .i64 x1.2.2]), (b1, [.int .i64 0, .int .i64 0, .int .i64 0, .int .i64 0, .int .i64 0, .int .i64 0, .int .i64 0, .int .i64 0, .int .i64 0])]) 0 hF hW rfl rfl rfl T37 rfl rfl rfl rfl rfl (fun w hW => ?_)
 refine ls_nil ?_
 refine c_then ?_
 obtain ⟨o1, G1, K1⟩ := bindE H
 refine c_seqJ (fun a w => ∃ x2 : Int, ∃ x3 : Int, ∃ x4 : Int, ∃ x5 : Int, ∃ x6 : Int, ∃ x7 : Int, ∃ x8 : Int, ∃ x9 : Int, ∃ x10 : List UInt8, ∃ x11 : Int, some ((x2, x3, x4, x5, x6, x7, x8, x9, x10, x11)) = some o1 ∧ Fr 33 [] [(0, .pointer (some ⟨q_p0, 0, none⟩)), (2, .pointer (some ⟨b1, 0, none⟩)), (3, .pointer (some ⟨b2, 0, none⟩))] a ∧ Stw ⟨Y, X, w0⟩ [(b2, [.int .i64 (w64 (x1.1 - 1)), .int .i64 x2, .int .i64 x3, .int .i64 x4, .int .i64 x5, .int .i64 x6, .int .i64 x7, .int .i64 x8, .int .i64 x9]), (q_p0, [.string (bs x10), .int .i64 x11]), (b1, [.int .i64 0, .int .i64 0, .int .i64 0, .int .i64 0, .int .i64 0, .int .i64 0, .int .i64 0, .int .i64 0, .int .i64 0])] [] w) ?_ ?_
 ·
  have H := G1
  clear G1 K1
  refine c_seq ?_
  refine reg_list ?_
  refine ls hF hW rfl ((y_move hF rfl).q) (fun a w hF hW => ?_)
  refine ls_nil ?_
  refine c_then ?_
  refine wp_block ?_
  have hW := hW.frontM (i := 2) rfl rfl
  have hW := hW.frontM (i := 2) rfl rfl
  have hW := hW.frontM (i := 2) rfl rfl
  refine c_loopW H (fun s a w => Fr 33 [] [(0, .pointer (some ⟨q_p0, 0, none⟩)), (2, .pointer (some ⟨b1, 0, none⟩)), (3, .pointer (some ⟨b2, 0, none⟩)), (9, .int .i64 s.1)] a ∧ Stw ⟨Y, X, w0⟩ [(b2, [.int .i64 (w64 (x1.1 - 1)), .int .i64 s.2.1, .int .i64 s.2.2.1, .int .i64 s.2.2.2.1, .int .i64 s.2.2.2.2.1, .int .i64 s.2.2.2.2.2.1, .int .i64 s.2.2.2.2.2.2.1, .int .i64 s.2.2.2.2.2.2.2.1, .int .i64 s.2.2.2.2.2.2.2.2.1]), (q_p0, [.string (bs s.2.2.2.2.2.2.2.2.2.1), .int .i64 s.2.2.2.2.2.2.2.2.2.2]), (b1, [.int .i64 0, .int .i64 0, .int .i64 0, .int .i64 0, .int .i64 0, .int .i64 0, .int .i64 0, .int .i64 0, .int .i64 0])] [] w) ⟨hF.re ⟨rfl, rfl, rfl, rfl, trivial⟩, hW⟩ (fun s o a w H L2 hR => ?_)
  obtain ⟨x12, x13, x14, x15, x16, x17, x18, x19, x20, x21, x22⟩ := s
  obtain ⟨hF, hW⟩ := hR
  have hF : Fr 33 [] [(0, .pointer (some ⟨q_p0, 0, none⟩)), (2, .pointer (some ⟨b1, 0, none⟩)), (3, .pointer (some ⟨b2, 0, none⟩)), (9, .int .i64 x12)] a := hF
  have hW : Stw ⟨Y, X, w0⟩ [(b2, [.int .i64 (w64 (x1.1 - 1)), .int .i64 x13, .int .i64 x14, .int .i64 x15, .int .i64 x16, .int .i64 x17, .int .i64 x18, .int .i64 x19, .int .i64 x20]), (q_p0, [.string (bs x21), .int .i64 x22]), (b1, [.int .i64 0, .int .i64 0, .int .i64 0, .int .i64 0, .int .i64 0, .int .i64 0, .int .i64 0, .int .i64 0, .int .i64 0])] [] w := hW
  rw [match_Read_l1] at H
  refine c_seq ?_
  refine reg_list ?_
  refine ls hF hW rfl ((y_lss hF rfl rfl).q) (fun a w hF hW => ?_)
  refine ls_nil ?_
  refine c_then ?_
  refine c_seq ?_
  refine c_cond hF rfl (fun hb => ?_) (fun hb => ?_)
  ·
   have H := iteT (of_decide_eq_true hb) H
   rw [hb] at hF
   clear hb
   refine wp_skip ?_
   refine c_then ?_
   refine c_seq ?_
   refine wp_block ?_
   refine c_seq ?_
   refine reg_list ?_
   refine ls hF hW rfl ((y_move hF rfl).q) (fun a w hF hW => ?_)
   refine ls hF hW rfl ((y_assign hF rfl).q) (fun a w hF hW => ?_)
   refine ls_nil ?_
   refine c_then ?_
   refine c_seq ?_
   refine reg_list ?_
   refine ls hF hW rfl ((y_move hF rfl).q) (fun a w hF hW => ?_)
   refine ls hF hW rfl ((y_move hF rfl).q) (fun a w hF hW => ?_)
   obtain ⟨x23, h2, H⟩ := bindE H
   have hW := hW.frontM (i := 1) rfl rfl
   refine l_callG (Ml := [(q_p0, [.string (bs x21), .int .i64 x22])]) (Zl := []) (M := [(b2, [.int .i64 (w64 (x1.1 - 1)), .int .i64 x13, .int .i64 x14, .int .i64 x15, .int .i64 x16, .int .i64 x17, .int .i64 x18, .int .i64 x19, .int .i64 x20]), (b1, [.int .i64 0, .int .i64 0, .int .i64 0, .int .i64 0, .int .i64 0, .int .i64 0, .int .i64 0, .int .i64 0, .int .i64 0])]) (Z := []) (β := Unit) (rv := fun x => .int .i64 x23.1) (MM := fun x => [(q_p0, [.string (bs x23.2.1), .int .i64 x23.2.2])]) (ZZ := fun x => []) hF hW H53 rfl rfl (fun hL => octet_Reader_Num_c _ _ w q_p0 (x21, x22) 1 _ h2 hL) (fun x a w hF hW => ?_)
   have hW : Stw ⟨Y, X, w0⟩ [(q_p0, [.string (bs x23.2.1), .int .i64 x23.2.2]), (b2, [.int .i64 (w64 (x1.1 - 1)), .int .i64 x13, .int .i64 x14, .int .i64 x15, .int .i64 x16, .int .i64 x17, .int .i64 x18, .int .i64 x19, .int .i64 x20]), (b1, [.int .i64 0, .int .i64 0, .int .i64 0, .int .i64 0, .int .i64 0, .int .i64 0, .int .i64 0, .int .i64 0, .int .i64 0])] [] w := hW
   refine ls hF hW rfl ((y_fieldAddr u37_ rfl rfl rfl T35 hF rfl 1 rfl).q) (fun a w hF hW => ?_)
   obtain ⟨x24, h3, H⟩ := bindE H
   refine ls hF hW rfl ((y_indexP (1 + (x12).toNat * 1) Ar35 hF rfl rfl rfl h3 rfl).q) (fun a w hF hW => ?_)
   refine l_store_dyn (o := 1) (m := 4) (i := x12) (l := ([x13, x14, x15, x16] : List Int)) (x := x24) (cs := [.int .i64 (w64 (x1.1 - 1)), .int .i64 x13, .int .i64 x14, .int .i64 x15, .int .i64 x16, .int .i64 x17, .int .i64 x18, .int .i64 x19, .int .i64 x20]) (cs' := [.int .i64 (w64 (x1.1 - 1)), .int .i64 (if x12 = 0 then x23.1 else x13), .int .i64 (if x12 = 1 then x23.1 else x14), .int .i64 (if x12 = 2 then x23.1 else x15), .int .i64 (if x12 = 3 then x23.1 else x16), .int .i64 x17, .int .i64 x18, .int .i64 x19, .int .i64 x20]) 1 hF hW rfl rfl rfl T3 rfl rfl rfl rfl h3 (by intro k hk hn; rw [hk]; match k, hn with | 0, _ => rfl | 1, _ => rfl | 2, _ => rfl | 3, _ => rfl | (z + 4), h => exact absurd h (by omega)) (fun w hW => ?_)
   have hW : Stw ⟨Y, X, w0⟩ [(q_p0, [.string (bs x23.2.1), .int .i64 x23.2.2]), (b2, [.int .i64 (w64 (x1.1 - 1)), .int .i64 (if x12 = 0 then x23.1 else x13), .int .i64 (if x12 = 1 then x23.1 else x14), .int .i64 (if x12 = 2 then x23.1 else x15), .int .i64 (if x12 = 3 then x23.1 else x16), .int .i64 x17, .int .i64 x18, .int .i64 x19, .int .i64 x20]), (b1, [.int .i64 0, .int .i64 0, .int .i64 0, .int .i64 0, .int .i64 0, .int .i64 0, .int .i64 0, .int .i64 0, .int .i64 0])] [] w := hW
   refine ls_nil ?_
   refine c_then ?_
   refine reg_list ?_
   refine ls hF hW rfl ((y_move hF rfl).q) (fun a w hF hW => ?_)
   refine ls hF hW rfl ((y_move hF rfl).q) (fun a w hF hW => ?_)
   obtain ⟨x25, h4, H⟩ := bindE H
   refine l_callG (Ml := [(q_p0, [.string (bs x23.2.1), .int .i64 x23.2.2])]) (Zl := []) (M := [(b2, [.int .i64 (w64 (x1.1 - 1)), .int .i64 (if x12 = 0 then x23.1 else x13), .int .i64 (if x12 = 1 then x23.1 else x14), .int .i64 (if x12 = 2 then x23.1 else x15), .int .i64 (if x12 = 3 then x23.1 else x16), .int .i64 x17, .int .i64 x18, .int .i64 x19, .int .i64 x20]), (b1, [.int .i64 0, .int .i64 0, .int .i64 0, .int .i64 0, .int .i64 0, .int .i64 0, .int .i64 0, .int .i64 0, .int .i64 0])]) (Z := []) (β := Unit) (rv := fun x => .int .i64 x25.1) (MM := fun x => [(q_p0, [.string (bs x25.2.1), .int .i64 x25.2.2])]) (ZZ := fun x => []) hF hW H53 rfl rfl (fun hL => octet_Reader_Num_c _ _ w q_p0 x23.2 1 _ h4 hL) (fun x a w hF hW => ?_)
   have hW : Stw ⟨Y, X, w0⟩ [(q_p0, [.string (bs x25.2.1), .int .i64 x25.2.2]), (b2, [.int .i64 (w64 (x1.1 - 1)), .int .i64 (if x12 = 0 then x23.1 else x13), .int .i64 (if x12 = 1 then x23.1 else x14), .int .i64 (if x12 = 2 then x23.1 else x15), .int .i64 (if x12 = 3 then x23.1 else x16), .int .i64 x17, .int .i64 x18, .int .i64 x19, .int .i64 x20]), (b1, [.int .i64 0, .int .i64 0, .int .i64 0, .int .i64 0, .int .i64 0, .int .i64 0, .int .i64 0, .int .i64 0, .int .i64 0])] [] w := hW
   refine ls hF hW rfl ((y_fieldAddr u37_ rfl rfl rfl T35 hF rfl 5 rfl).q) (fun a w hF hW => ?_)
   obtain ⟨x26, h5, H⟩ := bindE H
   refine ls hF hW rfl ((y_indexP (5 + (x12).toNat * 1) Ar35 hF rfl rfl rfl h5 rfl).q) (fun a w hF hW => ?_)
   refine l_store_dyn (o := 5) (m := 4) (i := x12) (l := ([x17, x18, x19, x20] : List Int)) (x := x26) (cs := [.int .i64 (w64 (x1.1 - 1)), .int .i64 (if x12 = 0 then x23.1 else x13), .int .i64 (if x12 = 1 then x23.1 else x14), .int .i64 (if x12 = 2 then x23.1 else x15), .int .i64 (if x12 = 3 then x23.1 else x16), .int .i64 x17, .int .i64 x18, .int .i64 x19, .int .i64 x20]) (cs' := [.int .i64 (w64 (x1.1 - 1)), .int .i64 (if x12 = 0 then x23.1 else x13), .int .i64 (if x12 = 1 then x23.1 else x14), .int .i64 (if x12 = 2 then x23.1 else x15), .int .i64 (if x12 = 3 then x23.1 else x16), .int .i64 (if x12 = 0 then x25.1 else x17), .int .i64 (if x12 = 1 then x25.1 else x18), .int .i64 (if x12 = 2 then x25.1 else x19), .int .i64 (if x12 = 3 then x25.1 else x20)]) 1 hF hW rfl rfl rfl T3 rfl rfl rfl rfl h5 (by intro k hk hn; rw [hk]; match k, hn with | 0, _ => rfl | 1, _ => rfl | 2, _ => rfl | 3, _ => rfl | (z + 4), h => exact absurd h (by omega)) (fun w hW => ?_)
   have hW : Stw ⟨Y, X, w0⟩ [(q_p0, [.string (bs x25.2.1), .int .i64 x25.2.2]), (b2, [.int .i64 (w64 (x1.1 - 1)), .int .i64 (if x12 = 0 then x23.1 else x13), .int .i64 (if x12 = 1 then x23.1 else x14), .int .i64 (if x12 = 2 then x23.1 else x15), .int .i64 (if x12 = 3 then x23.1 else x16), .int .i64 (if x12 = 0 then x25.1 else x17), .int .i64 (if x12 = 1 then x25.1 else x18), .int .i64 (if x12 = 2 then x25.1 else x19), .int .i64 (if x12 = 3 then x25.1 else x20)]), (b1, [.int .i64 0, .int .i64 0, .int .i64 0, .int .i64 0, .int .i64 0, .int .i64 0, .int .i64 0, .int .i64 0, .int .i64 0])] [] w := hW
   refine ls_nil ?_
   refine b_normal ?_
   refine c_then ?_
   refine reg_list ?_
   refine ls hF hW rfl ((y_add hF rfl rfl rfl).q) (fun a w hF hW => ?_)
   refine ls hF hW rfl ((y_move hF rfl).q) (fun a w hF hW => ?_)
   refine ls_nil ?_
   refine c_then ?_
   have hW := hW.frontM (i := 2) rfl rfl
   have hW := hW.frontM (i := 1) rfl rfl
   have hW := hW.frontM (i := 2) rfl rfl
   exact ⟨_, H, hF.re ⟨rfl, rfl, rfl, rfl, trivial⟩, hW⟩
  ·
   have H := iteF (of_decide_eq_false hb) H
   rw [hb] at hF
   clear hb
   refine wp_exit ?_
   refine e_then ?_
   refine e_then ?_
   refine e_block ?_
   refine c_then ?_
   have hW := hW.frontM (i := 2) rfl rfl
   have hW := hW.frontM (i := 2) rfl rfl
   have hW := hW.frontM (i := 2) rfl rfl
   have H := L2 _ H
   exact ⟨_, _, _, _, _, _, _, _, _, _, H, hF.re ⟨rfl, rfl, rfl, trivial⟩, hW⟩
 rintro a w ⟨x2, x3, x4, x5, x6, x7, x8, x9, x10, x11, hj, hF, hW⟩
 have hj := Option.some.inj hj
 subst hj
 have H := K1
 clear G1 K1
 obtain ⟨o3, G3, K3⟩ := bindE H
 refine c_seqJ (fun a w => ∃ x27 : List UInt8, ∃ x28 : Int, some ((x27, x28)) = some o3 ∧ Fr 33 [] [(0, .pointer (some ⟨q_p0, 0, none⟩)), (2, .pointer (some ⟨b1, 0, none⟩)), (3, .pointer (some ⟨b2, 0, none⟩))] a ∧ Stw ⟨Y, X, w0⟩ [(b2, [.int .i64 (w64 (x1.1 - 1)), .int .i64 x2, .int .i64 x3, .int .i64 x4, .int .i64 x5, .int .i64 x6, .int .i64 x7, .int .i64 x8, .int .i64 x9]), (q_p0, [.string (bs x27), .int .i64 x28]), (b1, [.int .i64 0, .int .i64 0, .int .i64 0, .int .i64 0, .int .i64 0, .int .i64 0, .int .i64 0, .int .i64 0, .int .i64 0])] [] w) ?_ ?_
 ·
  have H := G3
  clear G3 K3
  refine c_seq ?_
  refine reg_list ?_
  refine ls hF hW rfl ((y_load (v := Value.agg #[.int .i64 (w64 (x1.1 - 1)), .int .i64 x2, .int .i64 x3, .int .i64 x4, .int .i64 x5, .int .i64 x6, .int .i64 x7, .int .i64 x8, .int .i64 x9]) 0 hF rfl rfl T37 rfl).q) (fun a w hF hW => ?_)
  obtain ⟨x29, h6, H⟩ := bindE H
  refine ls hF hW rfl (y_call (v := Value.bool x29) hF H58 rfl (fun w hW => match_Right_c any w (w64 (x1.1 - 1), (x2, x3, x4, x5), (x6, x7, x8, x9)) _ h6)) (fun a w hF hW => ?_)
  refine ls hF hW rfl ((y_not hF rfl).q) (fun a w hF hW => ?_)
  refine ls_nil ?_
  refine c_then ?_
  refine c_cond hF rfl (fun hb => ?_) (fun hb => ?_)
  ·
   have H := iteT hb H
   rw [hb] at hF
   clear hb
   refine reg_list ?_
   refine ls hF hW rfl ((y_move hF rfl).q) (fun a w hF hW => ?_)
   have hW := hW.frontM (i := 1) rfl rfl
   refine l_callG (Ml := [(q_p0, [.string (bs x10), .int .i64 x11])]) (Zl := []) (M := [(b2, [.int .i64 (w64 (x1.1 - 1)), .int .i64 x2, .int .i64 x3, .int .i64 x4, .int .i64 x5, .int .i64 x6, .int .i64 x7, .int .i64 x8, .int .i64 x9]), (b1, [.int .i64 0, .int .i64 0, .int .i64 0, .int .i64 0, .int .i64 0, .int .i64 0, .int .i64 0, .int .i64 0, .int .i64 0])]) (Z := []) (β := Unit) (rv := fun x => .tuple #[]) (MM := fun x => [(q_p0, [.string (bs ((octet_Reader_Wrong (x10, x11) 2).1)), .int .i64 ((octet_Reader_Wrong (x10, x11) 2).2)])]) (ZZ := fun x => []) hF hW H54 rfl rfl (fun hL => octet_Reader_Wrong_c _ _ w q_p0 (x10, x11) 2 _ rfl hL) (fun x a w hF hW => ?_)
   have hW : Stw ⟨Y, X, w0⟩ [(q_p0, [.string (bs ((octet_Reader_Wrong (x10, x11) 2).1)), .int .i64 ((octet_Reader_Wrong (x10, x11) 2).2)]), (b2, [.int .i64 (w64 (x1.1 - 1)), .int .i64 x2, .int .i64 x3, .int .i64 x4, .int .i64 x5, .int .i64 x6, .int .i64 x7, .int .i64 x8, .int .i64 x9]), (b1, [.int .i64 0, .int .i64 0, .int .i64 0, .int .i64 0, .int .i64 0, .int .i64 0, .int .i64 0, .int .i64 0, .int .i64 0])] [] w := hW
   refine ls_nil ?_
   refine c_then ?_
   have hW := hW.frontM (i := 2) rfl rfl
   have hW := hW.frontM (i := 1) rfl rfl
   have hW := hW.frontM (i := 2) rfl rfl
   exact ⟨_, _, H, hF.re ⟨rfl, rfl, rfl, trivial⟩, hW⟩
  ·
   have H := iteF (by rw [hb]; decide) H
   rw [hb] at hF
   clear hb
   refine wp_skip ?_
   refine c_then ?_
   have hW := hW.frontM (i := 2) rfl rfl
   have hW := hW.frontM (i := 2) rfl rfl
   have hW := hW.frontM (i := 2) rfl rfl
   exact ⟨_, _, H, hF.re ⟨rfl, rfl, rfl, trivial⟩, hW⟩
 rintro a w ⟨x27, x28, hj, hF, hW⟩
 have hj := Option.some.inj hj
 subst hj
 have H := K3
 clear G3 K3
 refine c_seq ?_
 refine c_seq ?_
 refine reg_list ?_
 refine ls hF hW rfl ((y_move hF rfl).q) (fun a w hF hW => ?_)
 refine ls hF hW rfl (y_call (v := Value.bool (octet_Reader_Ok (x27, x28))) hF H72 rfl (fun w hW => octet_Reader_Ok_c any w q_p0 (x27, x28) _ rfl (at_M hW 1 rfl))) (fun a w hF hW => ?_)
 refine ls hF hW rfl ((y_not hF rfl).q) (fun a w hF hW => ?_)
 refine ls_nil ?_
 refine c_then ?_
 refine c_cond hF rfl (fun hb => ?_) (fun hb => ?_)
 ·
  have H := iteT hb H
  rw [hb] at hF
  clear hb
  refine c_seq ?_
  refine reg_list ?_
  refine ls hF hW rfl ((y_build (v := Value.agg #[.int .i64 0, .int .i64 0, .int .i64 0, .int .i64 0, .int .i64 0, .int .i64 0, .int .i64 0, .int .i64 0, .int .i64 0]) B37 hF rfl rfl rfl).q) (fun a w hF hW => ?_)
  refine l_store (vs := [.int .i64 0, .int .i64 0, .int .i64 0, .int .i64 0, .int .i64 0, .int .i64 0, .int .i64 0, .int .i64 0, .int .i64 0]) (M' := [(b2, [.int .i64 (w64 (x1.1 - 1)), .int .i64 x2, .int .i64 x3, .int .i64 x4, .int .i64 x5, .int .i64 x6, .int .i64 x7, .int .i64 x8, .int .i64 x9]), (q_p0, [.string (bs x27), .int .i64 x28]), (b1, [.int .i64 0, .int .i64 0, .int .i64 0, .int .i64 0, .int .i64 0, .int .i64 0, .int .i64 0, .int .i64 0, .int .i64 0])]) 2 hF hW rfl rfl rfl T37 rfl rfl rfl rfl rfl (fun w hW => ?_)
  refine ls_nil ?_
  refine c_then ?_
  refine wp_ret ?_
  refine r_then ?_
  have H := Option.some.inj H
  subst H
  refine post1 (.inl rfl) hF hW rfl (rv_cell 2 hF rfl rfl T37 rfl) ?_
  have hW := hW.frontM (i := 1) rfl rfl
  have hW := hW.sub (M' := [(q_p0, [.string (bs x27), .int .i64 x28])]) (Z' := []) (List.Sublist.cons_cons _ (List.nil_sublist _)) (List.Sublist.refl _)
  exact ⟨(), rfl, hW⟩
 ·
  have H := iteF (by rw [hb]; decide) H
  rw [hb] at hF
  clear hb
  refine wp_skip ?_
  refine c_then ?_
  refine c_seq ?_
  refine reg_list ?_
  refine ls hF hW rfl ((y_load (v := Value.agg #[.int .i64 (w64 (x1.1 - 1)), .int .i64 x2, .int .i64 x3, .int .i64 x4, .int .i64 x5, .int .i64 x6, .int .i64 x7, .int .i64 x8, .int .i64 x9]) 0 hF rfl rfl T37 rfl).q) (fun a w hF hW => ?_)
  refine l_store (vs := [.int .i64 (w64 (x1.1 - 1)), .int .i64 x2, .int .i64 x3, .int .i64 x4, .int .i64 x5, .int .i64 x6, .int .i64 x7, .int .i64 x8, .int .i64 x9]) (M' := [(b2, [.int .i64 (w64 (x1.1 - 1)), .int .i64 x2, .int .i64 x3, .int .i64 x4, .int .i64 x5, .int .i64 x6, .int .i64 x7, .int .i64 x8, .int .i64 x9]), (q_p0, [.string (bs x27), .int .i64 x28]), (b1, [.int .i64 (w64 (x1.1 - 1)), .int .i64 x2, .int .i64 x3, .int .i64 x4, .int .i64 x5, .int .i64 x6, .int .i64 x7, .int .i64 x8, .int .i64 x9])]) 2 hF hW rfl rfl rfl T37 rfl rfl rfl rfl rfl (fun w hW => ?_)
  refine ls_nil ?_
  refine c_then ?_
  refine wp_ret ?_
  have H := Option.some.inj H
  subst H
  refine post1 (.inl rfl) hF hW rfl (rv_cell 2 hF rfl rfl T37 rfl) ?_
  have hW := hW.frontM (i := 1) rfl rfl
  have hW := hW.sub (M' := [(q_p0, [.string (bs x27), .int .i64 x28])]) (Z' := []) (List.Sublist.cons_cons _ (List.nil_sublist _)) (List.Sublist.refl _)
  exact ⟨(), rfl, hW⟩

theorem H81 : Has Try.prog 81 := ⟨fun args w => run_callFunc_body Try.func81 rfl (by decide) args w⟩
theorem B77 : Bt Try.prog 77 [.int .i64 0, .int .i64 0, .int .i64 0] [(0, 1), (1, 1), (2, 1)] := ⟨⟨.agg #[.int .i64 0, .int .i64 0, .int .i64 0], by kernel_rfl, rfl⟩, ⟨_, u77_, fun w => by kernel_rfl⟩⟩
noncomputable def act_Read_l1 (p1 : Int) (x4 : Int × (List UInt8 × Int)) : ((List (Int × Int × Int)) × Int × List UInt8 × Int) → Option (((List (Int × Int × Int)) × Int × List UInt8 × Int) ⊕ ((List (Int × Int × Int)) × List UInt8 × Int))
  | (x5, x6, x7, x8) => (if x6 < x4.1 then (octet_Reader_Num (x7, x8) 1).bind fun x9 => (octet_Reader_Num x9.2 1).bind fun x10 => (octet_Reader_Num x10.2 1).bind fun x11 => ((act_right (x9.1, x10.1, x11.1) p1).bind fun x14 => (if (!x14) = true then some ((octet_Reader_Wrong x11.2 2).1, (octet_Reader_Wrong x11.2 2).2) else some (x11.2.1, x11.2.2))).bind fun (x12, x13) => (app x5 ([(x9.1, x10.1, x11.1)] : List (Int × Int × Int))).bind fun x15 => some (.inl (x15, w64 (x6 + 1), x12, x13)) else some (.inr (x5, x7, x8)))
noncomputable def act_Read (p0 : List UInt8 × Int) (p1 : Int) : Option ((List (Int × Int × Int)) × (List UInt8 × Int)) := ((octet_Reader_Count p0 16).bind fun x4 => loopW (act_Read_l1 p1 x4) ([], 0, x4.2.1, x4.2.2)).bind fun (x1, x2, x3) => (if (!(octet_Reader_Ok (x2, x3))) = true then some (([] : List (Int × Int × Int)), (x2, x3)) else some (x1, (x2, x3)))
theorem act_Read_c (Y : Nat → Prop) (X : List Nat) (w0 : World) (q_p0 : Nat) (p0 : List UInt8 × Int) (p1 : Int) (r : (List (Int × Int × Int)) × (List UInt8 × Int)) (H : act_Read p0 p1 = some r) (hL : Stw ⟨Y, X, w0⟩ [(q_p0, [.string (bs p0.1), .int .i64 p0.2])] [] w0) :
    Calls Try.prog 82 #[.pointer (some ⟨q_p0, 0, none⟩), .int .i64 p1] w0 fun e w' => ∃ x : Value, e = .returned (x) ∧ Stw ⟨Y, X, w0⟩ [(q_p0, [.string (bs r.2.1), .int .i64 r.2.2])] [row (x) 77 R77 r.1] w' := by
 refine enter Try.func82 rfl Try.ntmps82 rfl (fun a hF => ?_)
 have hW := hL
 unfold act_Read at H
 refine c_seq ?_
 refine reg_list ?_
 refine ls hF hW rfl ((y_assign hF rfl).q) (fun a w hF hW => ?_)
 refine ls_nil ?_
 refine c_then ?_
 refine c_seq ?_
 refine reg_list ?_
 refine ls hF hW rfl ((y_assign hF rfl).q) (fun a w hF hW => ?_)
 refine ls_nil ?_
 refine c_then ?_
 obtain ⟨o1, G1, K1⟩ := bindE H
 refine c_seqJ (fun a w => ∃ x1 : List (Int × Int × Int), ∃ x2 : List UInt8, ∃ x3 : Int, ∃ v1 : Value, some ((x1, x2, x3)) = some o1 ∧ Fr 39 [] [(0, .pointer (some ⟨q_p0, 0, none⟩)), (4, .slice none 0 0), (5, v1)] a ∧ Stw ⟨Y, X, w0⟩ [(q_p0, [.string (bs x2), .int .i64 x3])] [row v1 77 R77 x1] w) ?_ ?_
 ·
  have H := G1
  clear G1 K1
  refine c_seq ?_
  refine reg_list ?_
  refine ls hF hW rfl ((y_move hF rfl).q) (fun a w hF hW => ?_)
  obtain ⟨x4, h1, H⟩ := bindE H
  refine l_callG (Ml := [(q_p0, [.string (bs p0.1), .int .i64 p0.2])]) (Zl := []) (M := []) (Z := []) (β := Unit) (rv := fun x => .int .i64 x4.1) (MM := fun x => [(q_p0, [.string (bs x4.2.1), .int .i64 x4.2.2])]) (ZZ := fun x => []) hF hW H73 rfl rfl (fun hL => octet_Reader_Count_c _ _ w q_p0 p0 16 _ h1 hL) (fun x a w hF hW => ?_)
  have hW : Stw ⟨Y, X, w0⟩ [(q_p0, [.string (bs x4.2.1), .int .i64 x4.2.2])] [] w := hW
  refine ls hF hW rfl ((y_move hF rfl).q) (fun a w hF hW => ?_)
  refine ls_nil ?_
  refine c_then ?_
  refine wp_block ?_
  have hW := hW.nilRow 77 R77
  refine c_loopW H (fun s a w => ∃ v2 : Value, Fr 39 [] [(0, .pointer (some ⟨q_p0, 0, none⟩)), (1, .int .i64 p1), (4, .slice none 0 0), (5, v2), (11, .int .i64 x4.1), (12, .int .i64 s.2.1)] a ∧ Stw ⟨Y, X, w0⟩ [(q_p0, [.string (bs s.2.2.1), .int .i64 s.2.2.2])] [row v2 77 R77 s.1] w) ⟨(Value.slice none 0 0), hF.re ⟨rfl, rfl, rfl, rfl, rfl, rfl, trivial⟩, hW⟩ (fun s o a w H L2 hR => ?_)
  obtain ⟨x5, x6, x7, x8⟩ := s
  obtain ⟨v2, hF, hW⟩ := hR
  have hF : Fr 39 [] [(0, .pointer (some ⟨q_p0, 0, none⟩)), (1, .int .i64 p1), (4, .slice none 0 0), (5, v2), (11, .int .i64 x4.1), (12, .int .i64 x6)] a := hF
  have hW : Stw ⟨Y, X, w0⟩ [(q_p0, [.string (bs x7), .int .i64 x8])] [row v2 77 R77 x5] w := hW
  rw [act_Read_l1] at H
  refine c_seq ?_
  refine reg_list ?_
  refine ls hF hW rfl ((y_lss hF rfl rfl).q) (fun a w hF hW => ?_)
  refine ls_nil ?_
  refine c_then ?_
  refine c_seq ?_
  refine c_cond hF rfl (fun hb => ?_) (fun hb => ?_)
  ·
   have H := iteT (of_decide_eq_true hb) H
   rw [hb] at hF
   clear hb
   refine wp_skip ?_
   refine c_then ?_
   refine c_seq ?_
   refine wp_block ?_
   refine c_seq ?_
   refine reg_list ?_
   refine ls hF hW rfl ((y_move hF rfl).q) (fun a w hF hW => ?_)
   obtain ⟨x9, h2, H⟩ := bindE H
   refine l_callG (Ml := [(q_p0, [.string (bs x7), .int .i64 x8])]) (Zl := []) (M := []) (Z := [row v2 77 R77 x5]) (β := Unit) (rv := fun x => .int .i64 x9.1) (MM := fun x => [(q_p0, [.string (bs x9.2.1), .int .i64 x9.2.2])]) (ZZ := fun x => []) hF hW H53 rfl rfl (fun hL => octet_Reader_Num_c _ _ w q_p0 (x7, x8) 1 _ h2 hL) (fun x a w hF hW => ?_)
   have hW : Stw ⟨Y, X, w0⟩ [(q_p0, [.string (bs x9.2.1), .int .i64 x9.2.2])] [row v2 77 R77 x5] w := hW
   refine ls hF hW rfl ((y_assign hF rfl).q) (fun a w hF hW => ?_)
   refine ls_nil ?_
   refine c_then ?_
   refine c_seq ?_
   refine reg_list ?_
   refine ls hF hW rfl ((y_move hF rfl).q) (fun a w hF hW => ?_)
   obtain ⟨x10, h3, H⟩ := bindE H
   refine l_callG (Ml := [(q_p0, [.string (bs x9.2.1), .int .i64 x9.2.2])]) (Zl := []) (M := []) (Z := [row v2 77 R77 x5]) (β := Unit) (rv := fun x => .int .i64 x10.1) (MM := fun x => [(q_p0, [.string (bs x10.2.1), .int .i64 x10.2.2])]) (ZZ := fun x => []) hF hW H53 rfl rfl (fun hL => octet_Reader_Num_c _ _ w q_p0 x9.2 1 _ h3 hL) (fun x a w hF hW => ?_)
   have hW : Stw ⟨Y, X, w0⟩ [(q_p0, [.string (bs x10.2.1), .int .i64 x10.2.2])] [row v2 77 R77 x5] w := hW
   refine ls hF hW rfl ((y_assign hF rfl).q) (fun a w hF hW => ?_)
   refine ls_nil ?_
   refine c_then ?_
   refine c_seq ?_
   refine reg_list ?_
   refine ls hF hW rfl ((y_move hF rfl).q) (fun a w hF hW => ?_)
   obtain ⟨x11, h4, H⟩ := bindE H
   refine l_callG (Ml := [(q_p0, [.string (bs x10.2.1), .int .i64 x10.2.2])]) (Zl := []) (M := []) (Z := [row v2 77 R77 x5]) (β := Unit) (rv := fun x => .int .i64 x11.1) (MM := fun x => [(q_p0, [.string (bs x11.2.1), .int .i64 x11.2.2])]) (ZZ := fun x => []) hF hW H53 rfl rfl (fun hL => octet_Reader_Num_c _ _ w q_p0 x10.2 1 _ h4 hL) (fun x a w hF hW => ?_)
   have hW : Stw ⟨Y, X, w0⟩ [(q_p0, [.string (bs x11.2.1), .int .i64 x11.2.2])] [row v2 77 R77 x5] w := hW
   refine ls hF hW rfl ((y_assign hF rfl).q) (fun a w hF hW => ?_)
   refine ls_nil ?_
   refine c_then ?_
   refine c_seq ?_
   refine reg_list ?_
   refine ls hF hW rfl ((y_move hF rfl).q) (fun a w hF hW => ?_)
   refine ls hF hW rfl ((y_move hF rfl).q) (fun a w hF hW => ?_)
   refine ls hF hW rfl ((y_move hF rfl).q) (fun a w hF hW => ?_)
   refine ls hF hW rfl ((y_build (v := Value.agg #[.int .i64 x9.1, .int .i64 x10.1, .int .i64 x11.1]) B77 hF rfl rfl rfl).q) (fun a w hF hW => ?_)
   refine l_alloc (cs := [.int .i64 0, .int .i64 0, .int .i64 0]) hF hW rfl Z77 rfl (fun b1 a w hF hW => ?_)
   refine l_store (vs := [.int .i64 x9.1, .int .i64 x10.1, .int .i64 x11.1]) (M' := [(b1, [.int .i64 x9.1, .int .i64 x10.1, .int .i64 x11.1]), (q_p0, [.string (bs x11.2.1), .int .i64 x11.2.2])]) 0 hF hW rfl rfl rfl T77 rfl rfl rfl rfl rfl (fun w hW => ?_)
   refine ls_nil ?_
   refine c_then ?_
   obtain ⟨o3, G3, K3⟩ := bindE H
   refine c_seqJ (fun a w => ∃ x12 : List UInt8, ∃ x13 : Int, some ((x12, x13)) = some o3 ∧ Fr 39 [] [(0, .pointer (some ⟨q_p0, 0, none⟩)), (1, .int .i64 p1), (4, .slice none 0 0), (5, v2), (9, .pointer (some ⟨b1, 0, none⟩)), (11, .int .i64 x4.1), (12, .int .i64 x6)] a ∧ Stw ⟨Y, X, w0⟩ [(b1, [.int .i64 x9.1, .int .i64 x10.1, .int .i64 x11.1]), (q_p0, [.string (bs x12), .int .i64 x13])] [row v2 77 R77 x5] w) ?_ ?_
   ·
    have H := G3
    clear G3 K3
    refine c_seq ?_
    refine reg_list ?_
    refine ls hF hW rfl ((y_load (v := Value.agg #[.int .i64 x9.1, .int .i64 x10.1, .int .i64 x11.1]) 0 hF rfl rfl T77 rfl).q) (fun a w hF hW => ?_)
    refine ls hF hW rfl ((y_move hF rfl).q) (fun a w hF hW => ?_)
    obtain ⟨x14, h5, H⟩ := bindE H
    refine ls hF hW rfl (y_call (v := Value.bool x14) hF H77 rfl (fun w hW => act_right_c any w (x9.1, x10.1, x11.1) p1 _ h5)) (fun a w hF hW => ?_)
    refine ls hF hW rfl ((y_not hF rfl).q) (fun a w hF hW => ?_)
    refine ls_nil ?_
    refine c_then ?_
    refine c_cond hF rfl (fun hb => ?_) (fun hb => ?_)
    ·
     have H := iteT hb H
     rw [hb] at hF
     clear hb
     refine reg_list ?_
     refine ls hF hW rfl ((y_move hF rfl).q) (fun a w hF hW => ?_)
     have hW := hW.frontM (i := 1) rfl rfl
     refine l_callG (Ml := [(q_p0, [.string (bs x11.2.1), .int .i64 x11.2.2])]) (Zl := []) (M := [(b1, [.int .i64 x9.1, .int .i64 x10.1, .int .i64 x11.1])]) (Z := [row v2 77 R77 x5]) (β := Unit) (rv := fun x => .tuple #[]) (MM := fun x => [(q_p0, [.string (bs ((octet_Reader_Wrong x11.2 2).1)), .int .i64 ((octet_Reader_Wrong x11.2 2).2)])]) (ZZ := fun x => []) hF hW H54 rfl rfl (fun hL => octet_Reader_Wrong_c _ _ w q_p0 x11.2 2 _ rfl hL) (fun x a w hF hW => ?_)
     have hW : Stw ⟨Y, X, w0⟩ [(q_p0, [.string (bs ((octet_Reader_Wrong x11.2 2).1)), .int .i64 ((octet_Reader_Wrong x11.2 2).2)]), (b1, [.int .i64 x9.1, .int .i64 x10.1, .int .i64 x11.1])] [row v2 77 R77 x5] w := hW
     refine ls_nil ?_
     refine c_then ?_
     have hW := hW.frontM (i := 1) rfl rfl
     exact ⟨_, _, H, hF.re ⟨rfl, rfl, rfl, rfl, rfl, rfl, rfl, trivial⟩, hW⟩
    ·
     have H := iteF (by rw [hb]; decide) H
     rw [hb] at hF
     clear hb
     refine wp_skip ?_
     refine c_then ?_
     have hW := hW.frontM (i := 1) rfl rfl
     have hW := hW.frontM (i := 1) rfl rfl
     exact ⟨_, _, H, hF.re ⟨rfl, rfl, rfl, rfl, rfl, rfl, rfl, trivial⟩, hW⟩
   rintro a w ⟨x12, x13, hj, hF, hW⟩
   have hj := Option.some.inj hj
   subst hj
   have H := K3
   clear G3 K3
   refine reg_list ?_
   refine ls hF hW rfl ((y_move hF rfl).q) (fun a w hF hW => ?_)
   refine ls hF hW rfl ((y_load (v := Value.agg #[.int .i64 x9.1, .int .i64 x10.1, .int .i64 x11.1]) 0 hF rfl rfl T77 rfl).q) (fun a w hF hW => ?_)
   refine l_lit (z := Value.agg #[.int .i64 0, .int .i64 0, .int .i64 0]) (cs := [.int .i64 x9.1, .int .i64 x10.1, .int .i64 x11.1]) R77 ([(x9.1, x10.1, x11.1)] : List (Int × Int × Int)) hF hW rfl L38 Z77 rfl rfl rfl rfl rfl rfl (F77.repL _ _ ([(x9.1, x10.1, x11.1)] : List (Int × Int × Int))) (fun v3 a w hF hW => ?_)
   obtain ⟨x15, h6, H⟩ := bindE H
   refine l_append (r := R77) (i := 1) hF hW rfl L38 rfl rfl rfl rfl (src_row hW 0 rfl) h6 rfl (fun v4 a w hF hW => ?_)
   have hW : Stw ⟨Y, X, w0⟩ [(b1, [.int .i64 x9.1, .int .i64 x10.1, .int .i64 x11.1]), (q_p0, [.string (bs x12), .int .i64 x13])] [row v4 77 R77 x15, row v3 77 R77 ([(x9.1, x10.1, x11.1)] : List (Int × Int × Int))] w := hW
   refine ls hF hW rfl ((y_assign hF rfl).q) (fun a w hF hW => ?_)
   refine ls_nil ?_
   refine b_normal ?_
   refine c_then ?_
   refine reg_list ?_
   refine ls hF hW rfl ((y_add hF rfl rfl rfl).q) (fun a w hF hW => ?_)
   refine ls hF hW rfl ((y_move hF rfl).q) (fun a w hF hW => ?_)
   refine ls_nil ?_
   refine c_then ?_
   have hW := hW.frontM (i := 1) rfl rfl
   have hW := hW.sub (M' := [(q_p0, [.string (bs x12), .int .i64 x13])]) (Z' := [row v4 77 R77 x15]) (List.Sublist.cons_cons _ (List.nil_sublist _)) (List.Sublist.cons_cons _ (List.nil_sublist _))
   exact ⟨_, H, (v4), hF.re ⟨rfl, rfl, rfl, rfl, rfl, rfl, trivial⟩, hW⟩
  ·
   have H := iteF (of_decide_eq_false hb) H
   rw [hb] at hF
   clear hb
   refine wp_exit ?_
   refine e_then ?_
   refine e_then ?_
   refine e_block ?_
   refine c_then ?_
   have H := L2 _ H
   exact ⟨_, _, _, (v2), H, hF.re ⟨rfl, rfl, rfl, trivial⟩, hW⟩
 rintro a w ⟨x1, x2, x3, v1, hj, hF, hW⟩
 have hj := Option.some.inj hj
 subst hj
 have H := K1
 clear G1 K1
 refine c_seq ?_
 refine c_seq ?_
 refine reg_list ?_
 refine ls hF hW rfl ((y_move hF rfl).q) (fun a w hF hW => ?_)
 refine ls hF hW rfl (y_call (v := Value.bool (octet_Reader_Ok (x2, x3))) hF H72 rfl (fun w hW => octet_Reader_Ok_c any w q_p0 (x2, x3) _ rfl (at_M hW 0 rfl))) (fun a w hF hW => ?_)
 refine ls hF hW rfl ((y_not hF rfl).q) (fun a w hF hW => ?_)
 refine ls_nil ?_
 refine c_then ?_
 refine c_cond hF rfl (fun hb => ?_) (fun hb => ?_)
 ·
  have H := iteT hb H
  rw [hb] at hF
  clear hb
  refine c_seq ?_
  refine reg_list ?_
  refine ls hF hW rfl ((y_assign hF rfl).q) (fun a w hF hW => ?_)
  refine ls_nil ?_
  refine c_then ?_
  refine wp_ret ?_
  refine r_then ?_
  have H := Option.some.inj H
  subst H
  refine post1 (.inl rfl) hF hW rfl (rv_tmp hF rfl) ?_
  have hW := hW.nilRow 77 R77
  have hW := hW.sub (M' := [(q_p0, [.string (bs x2), .int .i64 x3])]) (Z' := [row (Value.slice none 0 0) 77 R77 ([])]) (List.Sublist.refl _) (List.Sublist.cons_cons _ (List.nil_sublist _))
  exact ⟨(Value.slice none 0 0), rfl, hW⟩
 ·
  have H := iteF (by rw [hb]; decide) H
  rw [hb] at hF
  clear hb
  refine wp_skip ?_
  refine c_then ?_
  refine c_seq ?_
  refine reg_list ?_
  refine ls hF hW rfl ((y_move hF rfl).q) (fun a w hF hW => ?_)
  refine ls hF hW rfl ((y_assign hF rfl).q) (fun a w hF hW => ?_)
  refine ls_nil ?_
  refine c_then ?_
  refine wp_ret ?_
  have H := Option.some.inj H
  subst H
  refine post1 (.inl rfl) hF hW rfl (rv_tmp hF rfl) ?_
  exact ⟨(v1), rfl, hW⟩

end Go.Proofs.Ytnlllglfmipllaa
