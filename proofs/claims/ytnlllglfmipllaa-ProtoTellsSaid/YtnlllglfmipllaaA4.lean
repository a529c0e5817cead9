/- The functions of layer 16, lifted. Conditions: none. -/
import Derived.Test.YtnlllglfmipllaaA3
namespace Go.Proofs.Ytnlllglfmipllaa
open Go Go.RowKit
set_option linter.unusedVariables false
set_option linter.unusedSimpArgs false
set_option maxRecDepth 20000
theorem H82 : Has Try.prog 82 := ⟨fun args w => run_callFunc_body Try.func82 rfl (by decide) args w⟩
theorem B40 : Bt Try.prog 40 [.int .i64 0, .int .i64 0, .int .i64 0, .int .i64 0, .int .i64 0, .int .i64 0, .int .i64 0, .int .i64 0, .int .i64 0, .int .i64 0, .slice none 0 0] [(0, 1), (1, 9), (10, 1)] := ⟨⟨.agg #[.int .i64 0, .int .i64 0, .int .i64 0, .int .i64 0, .int .i64 0, .int .i64 0, .int .i64 0, .int .i64 0, .int .i64 0, .int .i64 0, .slice none 0 0], by kernel_rfl, rfl⟩, ⟨_, u40_, fun w => by kernel_rfl⟩⟩
noncomputable def rule_Read (p0 : List UInt8 × Int) (p1 : Int) : Option ((Int × (Int × (Int × Int × Int × Int) × (Int × Int × Int × Int)) × (List (Int × Int × Int))) × (List UInt8 × Int)) := (octet_Reader_Num p0 2).bind fun x1 => (match_Read x1.2).bind fun x2 => (act_Read x2.2 p1).bind fun x3 => (if (!(octet_Reader_Ok x3.2)) = true then some ((0, (0, (0, 0, 0, 0), (0, 0, 0, 0)), ([] : List (Int × Int × Int))), x3.2) else some ((x1.1, x2.1, x3.1), x3.2))
theorem rule_Read_c (Y : Nat → Prop) (X : List Nat) (w0 : World) (q_p0 : Nat) (p0 : List UInt8 × Int) (p1 : Int) (r : (Int × (Int × (Int × Int × Int × Int) × (Int × Int × Int × Int)) × (List (Int × Int × Int))) × (List UInt8 × Int)) (H : rule_Read p0 p1 = some r) (hL : Stw ⟨Y, X, w0⟩ [(q_p0, [.string (bs p0.1), .int .i64 p0.2])] [] w0) :
    Calls Try.prog 75 #[.pointer (some ⟨q_p0, 0, none⟩), .int .i64 p1] w0 fun e w' => ∃ x : Value, e = .returned (.agg #[.int .i64 r.1.1, .int .i64 r.1.2.1.1, .int .i64 r.1.2.1.2.1.1, .int .i64 r.1.2.1.2.1.2.1, .int .i64 r.1.2.1.2.1.2.2.1, .int .i64 r.1.2.1.2.1.2.2.2, .int .i64 r.1.2.1.2.2.1, .int .i64 r.1.2.1.2.2.2.1, .int .i64 r.1.2.1.2.2.2.2.1, .int .i64 r.1.2.1.2.2.2.2.2, x]) ∧ Stw ⟨Y, X, w0⟩ [(q_p0, [.string (bs r.2.1), .int .i64 r.2.2])] [row (x) 77 R77 r.1.2.2] w' := by
 refine enter Try.func75 rfl Try.ntmps75 rfl (fun a hF => ?_)
 have hW := hL
 unfold rule_Read at H
 refine c_seq ?_
 refine reg_list ?_
 refine l_alloc (cs := [.int .i64 0, .int .i64 0, .int .i64 0, .int .i64 0, .int .i64 0, .int .i64 0, .int .i64 0, .int .i64 0, .int .i64 0, .int .i64 0, .slice none 0 0]) hF hW rfl Z40 rfl (fun b1 a w hF hW => ?_)
 refine ls_nil ?_
 refine c_then ?_
 refine c_seq ?_
 refine reg_list ?_
 refine ls hF hW rfl ((y_move hF rfl).q) (fun a w hF hW => ?_)
 obtain ⟨x1, h1, H⟩ := bindE H
 have hW := hW.frontM (i := 1) rfl rfl
 refine l_callG (Ml := [(q_p0, [.string (bs p0.1), .int .i64 p0.2])]) (Zl := []) (M := [(b1, [.int .i64 0, .int .i64 0, .int .i64 0, .int .i64 0, .int .i64 0, .int .i64 0, .int .i64 0, .int .i64 0, .int .i64 0, .int .i64 0, .slice none 0 0])]) (Z := []) (β := Unit) (rv := fun x => .int .i64 x1.1) (MM := fun x => [(q_p0, [.string (bs x1.2.1), .int .i64 x1.2.2])]) (ZZ := fun x => []) hF hW H53 rfl rfl (fun hL => octet_Reader_Num_c _ _ w q_p0 p0 2 _ h1 hL) (fun x a w hF hW => ?_)
 have hW : Stw ⟨Y, X, w0⟩ [(q_p0, [.string (bs x1.2.1), .int .i64 x1.2.2]), (b1, [.int .i64 0, .int .i64 0, .int .i64 0, .int .i64 0, .int .i64 0, .int .i64 0, .int .i64 0, .int .i64 0, .int .i64 0, .int .i64 0, .slice none 0 0])] [] w := hW
 refine ls hF hW rfl ((y_assign hF rfl).q) (fun a w hF hW => ?_)
 refine ls_nil ?_
 refine c_then ?_
 refine c_seq ?_
 refine reg_list ?_
 refine ls hF hW rfl ((y_move hF rfl).q) (fun a w hF hW => ?_)
 obtain ⟨x2, h2, H⟩ := bindE H
 refine l_callG (Ml := [(q_p0, [.string (bs x1.2.1), .int .i64 x1.2.2])]) (Zl := []) (M := [(b1, [.int .i64 0, .int .i64 0, .int .i64 0, .int .i64 0, .int .i64 0, .int .i64 0, .int .i64 0, .int .i64 0, .int .i64 0, .int .i64 0, .slice none 0 0])]) (Z := []) (β := Unit) (rv := fun x => .agg #[.int .i64 x2.1.1, .int .i64 x2.1.2.1.1, .int .i64 x2.1.2.1.2.1, .int .i64 x2.1.2.1.2.2.1, .int .i64 x2.1.2.1.2.2.2, .int .i64 x2.1.2.2.1, .int .i64 x2.1.2.2.2.1, .int .i64 x2.1.2.2.2.2.1, .int .i64 x2.1.2.2.2.2.2]) (MM := fun x => [(q_p0, [.string (bs x2.2.1), .int .i64 x2.2.2])]) (ZZ := fun x => []) hF hW H81 rfl rfl (fun hL => match_Read_c _ _ w q_p0 x1.2 _ h2 hL) (fun x a w hF hW => ?_)
 have hW : Stw ⟨Y, X, w0⟩ [(q_p0, [.string (bs x2.2.1), .int .i64 x2.2.2]), (b1, [.int .i64 0, .int .i64 0, .int .i64 0, .int .i64 0, .int .i64 0, .int .i64 0, .int .i64 0, .int .i64 0, .int .i64 0, .int .i64 0, .slice none 0 0])] [] w := hW
 refine l_alloc (cs := [.int .i64 0, .int .i64 0, .int .i64 0, .int .i64 0, .int .i64 0, .int .i64 0, .int .i64 0, .int .i64 0, .int .i64 0]) hF hW rfl Z37 rfl (fun b2 a w hF hW => ?_)
 refine l_store (vs := [.int .i64 x2.1.1, .int .i64 x2.1.2.1.1, .int .i64 x2.1.2.1.2.1, .int .i64 x2.1.2.1.2.2.1, .int .i64 x2.1.2.1.2.2.2, .int .i64 x2.1.2.2.1, .int .i64 x2.1.2.2.2.1, .int .i64 x2.1.2.2.2.2.1, .int .i64 x2.1.2.2.2.2.2]) (M' := [(b2, [.int .i64 x2.1.1, .int .i64 x2.1.2.1.1, .int .i64 x2.1.2.1.2.1, .int .i64 x2.1.2.1.2.2.1, .int .i64 x2.1.2.1.2.2.2, .int .i64 x2.1.2.2.1, .int .i64 x2.1.2.2.2.1, .int .i64 x2.1.2.2.2.2.1, .int .i64 x2.1.2.2.2.2.2]), (q_p0, [.string (bs x2.2.1), .int .i64 x2.2.2]), (b1, [.int .i64 0, .int .i64 0, .int .i64 0, .int .i64 0, .int .i64 0, .int .i64 0, .int .i64 0, .int .i64 0, .int .i64 0, .int .i64 0, .slice none 0 0])]) 0 hF hW rfl rfl rfl T37 rfl rfl rfl rfl rfl (fun w hW => ?_)
 refine ls_nil ?_
 refine c_then ?_
 refine c_seq ?_
 refine reg_list ?_
 refine ls hF hW rfl ((y_move hF rfl).q) (fun a w hF hW => ?_)
 refine ls hF hW rfl ((y_move hF rfl).q) (fun a w hF hW => ?_)
 obtain ⟨x3, h3, H⟩ := bindE H
 have hW := hW.frontM (i := 1) rfl rfl
 refine l_callG (Ml := [(q_p0, [.string (bs x2.2.1), .int .i64 x2.2.2])]) (Zl := []) (M := [(b2, [.int .i64 x2.1.1, .int .i64 x2.1.2.1.1, .int .i64 x2.1.2.1.2.1, .int .i64 x2.1.2.1.2.2.1, .int .i64 x2.1.2.1.2.2.2, .int .i64 x2.1.2.2.1, .int .i64 x2.1.2.2.2.1, .int .i64 x2.1.2.2.2.2.1, .int .i64 x2.1.2.2.2.2.2]), (b1, [.int .i64 0, .int .i64 0, .int .i64 0, .int .i64 0, .int .i64 0, .int .i64 0, .int .i64 0, .int .i64 0, .int .i64 0, .int .i64 0, .slice none 0 0])]) (Z := []) (β := Value) (rv := fun x => x) (MM := fun x => [(q_p0, [.string (bs x3.2.1), .int .i64 x3.2.2])]) (ZZ := fun x => [row x 77 R77 x3.1]) hF hW H82 rfl rfl (fun hL => act_Read_c _ _ w q_p0 x2.2 p1 _ h3 hL) (fun x a w hF hW => ?_)
 obtain ⟨v1, rfl⟩ : ∃ y, y = x := ⟨x, rfl⟩
 have hW : Stw ⟨Y, X, w0⟩ [(q_p0, [.string (bs x3.2.1), .int .i64 x3.2.2]), (b2, [.int .i64 x2.1.1, .int .i64 x2.1.2.1.1, .int .i64 x2.1.2.1.2.1, .int .i64 x2.1.2.1.2.2.1, .int .i64 x2.1.2.1.2.2.2, .int .i64 x2.1.2.2.1, .int .i64 x2.1.2.2.2.1, .int .i64 x2.1.2.2.2.2.1, .int .i64 x2.1.2.2.2.2.2]), (b1, [.int .i64 0, .int .i64 0, .int .i64 0, .int .i64 0, .int .i64 0, .int .i64 0, .int .i64 0, .int .i64 0, .int .i64 0, .int .i64 0, .slice none 0 0])] [row v1 77 R77 x3.1] w := hW
 refine ls hF hW rfl ((y_assign hF rfl).q) (fun a w hF hW => ?_)
 refine ls_nil ?_
 refine c_then ?_
 refine c_seq ?_
 refine c_seq ?_
 refine reg_list ?_
 refine ls hF hW rfl ((y_move hF rfl).q) (fun a w hF hW => ?_)
 refine ls hF hW rfl (y_call (v := Value.bool (octet_Reader_Ok x3.2)) hF H72 rfl (fun w hW => octet_Reader_Ok_c any w q_p0 x3.2 _ rfl (at_M hW 0 rfl))) (fun a w hF hW => ?_)
 refine ls hF hW rfl ((y_not hF rfl).q) (fun a w hF hW => ?_)
 refine ls_nil ?_
 refine c_then ?_
 refine c_cond hF rfl (fun hb => ?_) (fun hb => ?_)
 ·
  have H := iteT hb H
  rw [hb] at hF
  clear hb
  refine c_seq ?_
  refine reg_list ?_
  refine ls hF hW rfl ((y_build (v := Value.agg #[.int .i64 0, .int .i64 0, .int .i64 0, .int .i64 0, .int .i64 0, .int .i64 0, .int .i64 0, .int .i64 0, .int .i64 0, .int .i64 0, .slice none 0 0]) B40 hF rfl rfl rfl).q) (fun a w hF hW => ?_)
  refine l_store (vs := [.int .i64 0, .int .i64 0, .int .i64 0, .int .i64 0, .int .i64 0, .int .i64 0, .int .i64 0, .int .i64 0, .int .i64 0, .int .i64 0, .slice none 0 0]) (M' := [(q_p0, [.string (bs x3.2.1), .int .i64 x3.2.2]), (b2, [.int .i64 x2.1.1, .int .i64 x2.1.2.1.1, .int .i64 x2.1.2.1.2.1, .int .i64 x2.1.2.1.2.2.1, .int .i64 x2.1.2.1.2.2.2, .int .i64 x2.1.2.2.1, .int .i64 x2.1.2.2.2.1, .int .i64 x2.1.2.2.2.2.1, .int .i64 x2.1.2.2.2.2.2]), (b1, [.int .i64 0, .int .i64 0, .int .i64 0, .int .i64 0, .int .i64 0, .int .i64 0, .int .i64 0, .int .i64 0, .int .i64 0, .int .i64 0, .slice none 0 0])]) 2 hF hW rfl rfl rfl T40 rfl rfl rfl rfl rfl (fun w hW => ?_)
  refine ls_nil ?_
  refine c_then ?_
  refine wp_ret ?_
  refine r_then ?_
  have H := Option.some.inj H
  subst H
  refine post1 (.inl rfl) hF hW rfl (rv_cell 2 hF rfl rfl T40 rfl) ?_
  have hW := hW.nilRow 77 R77
  have hW := hW.sub (M' := [(q_p0, [.string (bs x3.2.1), .int .i64 x3.2.2])]) (Z' := [row (Value.slice none 0 0) 77 R77 ([])]) (List.Sublist.cons_cons _ (List.nil_sublist _)) (List.Sublist.cons_cons _ (List.nil_sublist _))
  exact ⟨(Value.slice none 0 0), rfl, hW⟩
 ·
  have H := iteF (by rw [hb]; decide) H
  rw [hb] at hF
  clear hb
  refine wp_skip ?_
  refine c_then ?_
  refine c_seq ?_
  refine reg_list ?_
  refine ls hF hW rfl ((y_move hF rfl).q) (fun a w hF hW => ?_)
  refine ls hF hW rfl ((y_load (v := Value.agg #[.int .i64 x2.1.1, .int .i64 x2.1.2.1.1, .int .i64 x2.1.2.1.2.1, .int .i64 x2.1.2.1.2.2.1, .int .i64 x2.1.2.1.2.2.2, .int .i64 x2.1.2.2.1, .int .i64 x2.1.2.2.2.1, .int .i64 x2.1.2.2.2.2.1, .int .i64 x2.1.2.2.2.2.2]) 1 hF rfl rfl T37 rfl).q) (fun a w hF hW => ?_)
  refine ls hF hW rfl ((y_move hF rfl).q) (fun a w hF hW => ?_)
  refine ls hF hW rfl ((y_build (v := Value.agg #[.int .i64 x1.1, .int .i64 x2.1.1, .int .i64 x2.1.2.1.1, .int .i64 x2.1.2.1.2.1, .int .i64 x2.1.2.1.2.2.1, .int .i64 x2.1.2.1.2.2.2, .int .i64 x2.1.2.2.1, .int .i64 x2.1.2.2.2.1, .int .i64 x2.1.2.2.2.2.1, .int .i64 x2.1.2.2.2.2.2, v1]) B40 hF rfl (fill_cons rfl rfl rfl (fill_cons rfl rfl rfl (fill_cons rfl (cells_one (hW.one (k := 0) rfl)) rfl fill_nil))) rfl).q) (fun a w hF hW => ?_)
  refine l_store (vs := [.int .i64 x1.1, .int .i64 x2.1.1, .int .i64 x2.1.2.1.1, .int .i64 x2.1.2.1.2.1, .int .i64 x2.1.2.1.2.2.1, .int .i64 x2.1.2.1.2.2.2, .int .i64 x2.1.2.2.1, .int .i64 x2.1.2.2.2.1, .int .i64 x2.1.2.2.2.2.1, .int .i64 x2.1.2.2.2.2.2, v1]) (M' := [(q_p0, [.string (bs x3.2.1), .int .i64 x3.2.2]), (b2, [.int .i64 x2.1.1, .int .i64 x2.1.2.1.1, .int .i64 x2.1.2.1.2.1, .int .i64 x2.1.2.1.2.2.1, .int .i64 x2.1.2.1.2.2.2, .int .i64 x2.1.2.2.1, .int .i64 x2.1.2.2.2.1, .int .i64 x2.1.2.2.2.2.1, .int .i64 x2.1.2.2.2.2.2]), (b1, [.int .i64 x1.1, .int .i64 x2.1.1, .int .i64 x2.1.2.1.1, .int .i64 x2.1.2.1.2.1, .int .i64 x2.1.2.1.2.2.1, .int .i64 x2.1.2.1.2.2.2, .int .i64 x2.1.2.2.1, .int .i64 x2.1.2.2.2.1, .int .i64 x2.1.2.2.2.2.1, .int .i64 x2.1.2.2.2.2.2, v1])]) 2 hF hW rfl rfl rfl T40 rfl rfl rfl (one_cons rfl (one_cons rfl (one_cons rfl (one_cons rfl (one_cons rfl (one_cons rfl (one_cons rfl (one_cons rfl (one_cons rfl (one_cons rfl (one_cons (hW.one (k := 0) rfl) one_nil))))))))))) rfl (fun w hW => ?_)
  refine ls_nil ?_
  refine c_then ?_
  refine wp_ret ?_
  have H := Option.some.inj H
  subst H
  refine post1 (.inl rfl) hF hW rfl (rv_cell 2 hF rfl rfl T40 rfl) ?_
  have hW := hW.sub (M' := [(q_p0, [.string (bs x3.2.1), .int .i64 x3.2.2])]) (Z' := [row v1 77 R77 x3.1]) (List.Sublist.cons_cons _ (List.nil_sublist _)) (List.Sublist.refl _)
  exact ⟨(v1), rfl, hW⟩

theorem H75 : Has Try.prog 75 := ⟨fun args w => run_callFunc_body Try.func75 rfl (by decide) args w⟩
noncomputable def proto_readMods_l1 (x4 : Int × (List UInt8 × Int)) : ((List (Int × (Int × (Int × (Int × Int × Int × Int) × (Int × Int × Int × Int)) × (List (Int × Int × Int))) × Bool)) × Int × List UInt8 × Int) → Option (((List (Int × (Int × (Int × (Int × Int × Int × Int) × (Int × Int × Int × Int)) × (List (Int × Int × Int))) × Bool)) × Int × List UInt8 × Int) ⊕ ((List (Int × (Int × (Int × (Int × Int × Int × Int) × (Int × Int × Int × Int)) × (List (Int × Int × Int))) × Bool)) × List UInt8 × Int))
  | (x5, x6, x7, x8) => (if x6 < x4.1 then (octet_Reader_Num (x7, x8) 1).bind fun x9 => (octet_Reader_Flag x9.2).bind fun x10 => (rule_Read x10.2 8).bind fun x11 => (app x5 ([(x9.1, x11.1, x10.1)] : List (Int × (Int × (Int × (Int × Int × Int × Int) × (Int × Int × Int × Int)) × (List (Int × Int × Int))) × Bool))).bind fun x12 => some (.inl (x12, w64 (x6 + 1), x11.2.1, x11.2.2)) else some (.inr (x5, x7, x8)))
noncomputable def proto_readMods (p0 : List UInt8 × Int) : Option ((List (Int × (Int × (Int × (Int × Int × Int × Int) × (Int × Int × Int × Int)) × (List (Int × Int × Int))) × Bool)) × (List UInt8 × Int)) := ((octet_Reader_Count p0 16).bind fun x4 => loopW (proto_readMods_l1 x4) ([], 0, x4.2.1, x4.2.2)).bind fun (x1, x2, x3) => some (x1, (x2, x3))
theorem proto_readMods_c (Y : Nat → Prop) (X : List Nat) (w0 : World) (q_p0 : Nat) (p0 : List UInt8 × Int) (r : (List (Int × (Int × (Int × (Int × Int × Int × Int) × (Int × Int × Int × Int)) × (List (Int × Int × Int))) × Bool)) × (List UInt8 × Int)) (H : proto_readMods p0 = some r) (hL : Stw ⟨Y, X, w0⟩ [(q_p0, [.string (bs p0.1), .int .i64 p0.2])] [] w0) :
    Calls Try.prog 56 #[.pointer (some ⟨q_p0, 0, none⟩)] w0 fun e w' => ∃ x : Value, e = .returned (x) ∧ Stw ⟨Y, X, w0⟩ [(q_p0, [.string (bs r.2.1), .int .i64 r.2.2])] [row (x) 42 R42 r.1] w' := by
 refine enter Try.func56 rfl Try.ntmps56 rfl (fun a hF => ?_)
 have hW := hL
 unfold proto_readMods at H
 refine c_seq ?_
 refine reg_list ?_
 refine ls hF hW rfl ((y_assign hF rfl).q) (fun a w hF hW => ?_)
 refine ls_nil ?_
 refine c_then ?_
 refine c_seq ?_
 refine reg_list ?_
 refine ls hF hW rfl ((y_assign hF rfl).q) (fun a w hF hW => ?_)
 refine ls_nil ?_
 refine c_then ?_
 obtain ⟨o1, G1, K1⟩ := bindE H
 refine c_seqJ (fun a w => ∃ x1 : List (Int × (Int × (Int × (Int × Int × Int × Int) × (Int × Int × Int × Int)) × (List (Int × Int × Int))) × Bool), ∃ x2 : List UInt8, ∃ x3 : Int, ∃ v1 : Value, some ((x1, x2, x3)) = some o1 ∧ Fr 24 [] [(2, .slice none 0 0), (3, v1)] a ∧ Stw ⟨Y, X, w0⟩ [(q_p0, [.string (bs x2), .int .i64 x3])] [row v1 42 R42 x1] w) ?_ ?_
 ·
  have H := G1
  clear G1 K1
  refine c_seq ?_
  refine reg_list ?_
  refine ls hF hW rfl ((y_move hF rfl).q) (fun a w hF hW => ?_)
  obtain ⟨x4, h1, H⟩ := bindE H
  refine l_callG (Ml := [(q_p0, [.string (bs p0.1), .int .i64 p0.2])]) (Zl := []) (M := []) (Z := []) (β := Unit) (rv := fun x => .int .i64 x4.1) (MM := fun x => [(q_p0, [.string (bs x4.2.1), .int .i64 x4.2.2])]) (ZZ := fun x => []) hF hW H73 rfl rfl (fun hL => octet_Reader_Count_c _ _ w q_p0 p0 16 _ h1 hL) (fun x a w hF hW => ?_)
  have hW : Stw ⟨Y, X, w0⟩ [(q_p0, [.string (bs x4.2.1), .int .i64 x4.2.2])] [] w := hW
  refine ls hF hW rfl ((y_move hF rfl).q) (fun a w hF hW => ?_)
  refine ls_nil ?_
  refine c_then ?_
  refine wp_block ?_
  have hW := hW.nilRow 42 R42
  refine c_loopW H (fun s a w => ∃ v2 : Value, Fr 24 [] [(0, .pointer (some ⟨q_p0, 0, none⟩)), (2, .slice none 0 0), (3, v2), (6, .int .i64 x4.1), (7, .int .i64 s.2.1)] a ∧ Stw ⟨Y, X, w0⟩ [(q_p0, [.string (bs s.2.2.1), .int .i64 s.2.2.2])] [row v2 42 R42 s.1] w) ⟨(Value.slice none 0 0), hF.re ⟨rfl, rfl, rfl, rfl, rfl, trivial⟩, hW⟩ (fun s o a w H L2 hR => ?_)
  obtain ⟨x5, x6, x7, x8⟩ := s
  obtain ⟨v2, hF, hW⟩ := hR
  have hF : Fr 24 [] [(0, .pointer (some ⟨q_p0, 0, none⟩)), (2, .slice none 0 0), (3, v2), (6, .int .i64 x4.1), (7, .int .i64 x6)] a := hF
  have hW : Stw ⟨Y, X, w0⟩ [(q_p0, [.string (bs x7), .int .i64 x8])] [row v2 42 R42 x5] w := hW
  rw [proto_readMods_l1] at H
  refine c_seq ?_
  refine reg_list ?_
  refine ls hF hW rfl ((y_lss hF rfl rfl).q) (fun a w hF hW => ?_)
  refine ls_nil ?_
  refine c_then ?_
  refine c_seq ?_
  refine c_cond hF rfl (fun hb => ?_) (fun hb => ?_)
  ·
   have H := iteT (of_decide_eq_true hb) H
   rw [hb] at hF
   clear hb
   refine wp_skip ?_
   refine c_then ?_
   refine c_seq ?_
   refine wp_block ?_
   refine c_seq ?_
   refine reg_list ?_
   refine ls hF hW rfl ((y_move hF rfl).q) (fun a w hF hW => ?_)
   obtain ⟨x9, h2, H⟩ := bindE H
   refine l_callG (Ml := [(q_p0, [.string (bs x7), .int .i64 x8])]) (Zl := []) (M := []) (Z := [row v2 42 R42 x5]) (β := Unit) (rv := fun x => .int .i64 x9.1) (MM := fun x => [(q_p0, [.string (bs x9.2.1), .int .i64 x9.2.2])]) (ZZ := fun x => []) hF hW H53 rfl rfl (fun hL => octet_Reader_Num_c _ _ w q_p0 (x7, x8) 1 _ h2 hL) (fun x a w hF hW => ?_)
   have hW : Stw ⟨Y, X, w0⟩ [(q_p0, [.string (bs x9.2.1), .int .i64 x9.2.2])] [row v2 42 R42 x5] w := hW
   refine ls hF hW rfl ((y_build (v := Value.agg #[.int .i64 x9.1, .int .i64 0, .int .i64 0, .int .i64 0, .int .i64 0, .int .i64 0, .int .i64 0, .int .i64 0, .int .i64 0, .int .i64 0, .int .i64 0, .slice none 0 0, .bool false]) B42 hF rfl rfl rfl).q) (fun a w hF hW => ?_)
   refine l_alloc (cs := [.int .i64 0, .int .i64 0, .int .i64 0, .int .i64 0, .int .i64 0, .int .i64 0, .int .i64 0, .int .i64 0, .int .i64 0, .int .i64 0, .int .i64 0, .slice none 0 0, .bool false]) hF hW rfl Z42 rfl (fun b1 a w hF hW => ?_)
   refine l_store (vs := [.int .i64 x9.1, .int .i64 0, .int .i64 0, .int .i64 0, .int .i64 0, .int .i64 0, .int .i64 0, .int .i64 0, .int .i64 0, .int .i64 0, .int .i64 0, .slice none 0 0, .bool false]) (M' := [(b1, [.int .i64 x9.1, .int .i64 0, .int .i64 0, .int .i64 0, .int .i64 0, .int .i64 0, .int .i64 0, .int .i64 0, .int .i64 0, .int .i64 0, .int .i64 0, .slice none 0 0, .bool false]), (q_p0, [.string (bs x9.2.1), .int .i64 x9.2.2])]) 0 hF hW rfl rfl rfl T42 rfl rfl rfl rfl rfl (fun w hW => ?_)
   refine ls_nil ?_
   refine c_then ?_
   refine c_seq ?_
   refine reg_list ?_
   refine ls hF hW rfl ((y_move hF rfl).q) (fun a w hF hW => ?_)
   obtain ⟨x10, h3, H⟩ := bindE H
   have hW := hW.frontM (i := 1) rfl rfl
   refine l_callG (Ml := [(q_p0, [.string (bs x9.2.1), .int .i64 x9.2.2])]) (Zl := []) (M := [(b1, [.int .i64 x9.1, .int .i64 0, .int .i64 0, .int .i64 0, .int .i64 0, .int .i64 0, .int .i64 0, .int .i64 0, .int .i64 0, .int .i64 0, .int .i64 0, .slice none 0 0, .bool false])]) (Z := [row v2 42 R42 x5]) (β := Unit) (rv := fun x => .bool x10.1) (MM := fun x => [(q_p0, [.string (bs x10.2.1), .int .i64 x10.2.2])]) (ZZ := fun x => []) hF hW H74 rfl rfl (fun hL => octet_Reader_Flag_c _ _ w q_p0 x9.2 _ h3 hL) (fun x a w hF hW => ?_)
   have hW : Stw ⟨Y, X, w0⟩ [(q_p0, [.string (bs x10.2.1), .int .i64 x10.2.2]), (b1, [.int .i64 x9.1, .int .i64 0, .int .i64 0, .int .i64 0, .int .i64 0, .int .i64 0, .int .i64 0, .int .i64 0, .int .i64 0, .int .i64 0, .int .i64 0, .slice none 0 0, .bool false])] [row v2 42 R42 x5] w := hW
   refine ls hF hW rfl ((y_fieldAddr u42_ rfl rfl rfl T4 hF rfl 12 rfl).q) (fun a w hF hW => ?_)
   refine l_store (vs := [.bool x10.1]) (M' := [(q_p0, [.string (bs x10.2.1), .int .i64 x10.2.2]), (b1, [.int .i64 x9.1, .int .i64 0, .int .i64 0, .int .i64 0, .int .i64 0, .int .i64 0, .int .i64 0, .int .i64 0, .int .i64 0, .int .i64 0, .int .i64 0, .slice none 0 0, .bool x10.1])]) 1 hF hW rfl rfl rfl T4 rfl rfl rfl rfl rfl (fun w hW => ?_)
   refine ls_nil ?_
   refine c_then ?_
   refine c_seq ?_
   refine reg_list ?_
   refine ls hF hW rfl ((y_move hF rfl).q) (fun a w hF hW => ?_)
   obtain ⟨x11, h4, H⟩ := bindE H
   refine l_callG (Ml := [(q_p0, [.string (bs x10.2.1), .int .i64 x10.2.2])]) (Zl := []) (M := [(b1, [.int .i64 x9.1, .int .i64 0, .int .i64 0, .int .i64 0, .int .i64 0, .int .i64 0, .int .i64 0, .int .i64 0, .int .i64 0, .int .i64 0, .int .i64 0, .slice none 0 0, .bool x10.1])]) (Z := [row v2 42 R42 x5]) (β := Value) (rv := fun x => .agg #[.int .i64 x11.1.1, .int .i64 x11.1.2.1.1, .int .i64 x11.1.2.1.2.1.1, .int .i64 x11.1.2.1.2.1.2.1, .int .i64 x11.1.2.1.2.1.2.2.1, .int .i64 x11.1.2.1.2.1.2.2.2, .int .i64 x11.1.2.1.2.2.1, .int .i64 x11.1.2.1.2.2.2.1, .int .i64 x11.1.2.1.2.2.2.2.1, .int .i64 x11.1.2.1.2.2.2.2.2, x]) (MM := fun x => [(q_p0, [.string (bs x11.2.1), .int .i64 x11.2.2])]) (ZZ := fun x => [row x 77 R77 x11.1.2.2]) hF hW H75 rfl rfl (fun hL => rule_Read_c _ _ w q_p0 x10.2 8 _ h4 hL) (fun x a w hF hW => ?_)
   obtain ⟨v3, rfl⟩ : ∃ y, y = x := ⟨x, rfl⟩
   have hW : Stw ⟨Y, X, w0⟩ [(q_p0, [.string (bs x11.2.1), .int .i64 x11.2.2]), (b1, [.int .i64 x9.1, .int .i64 0, .int .i64 0, .int .i64 0, .int .i64 0, .int .i64 0, .int .i64 0, .int .i64 0, .int .i64 0, .int .i64 0, .int .i64 0, .slice none 0 0, .bool x10.1])] [row v3 77 R77 x11.1.2.2, row v2 42 R42 x5] w := hW
   refine ls hF hW rfl ((y_fieldAddr u42_ rfl rfl rfl T40 hF rfl 1 rfl).q) (fun a w hF hW => ?_)
   refine l_store (vs := [.int .i64 x11.1.1, .int .i64 x11.1.2.1.1, .int .i64 x11.1.2.1.2.1.1, .int .i64 x11.1.2.1.2.1.2.1, .int .i64 x11.1.2.1.2.1.2.2.1, .int .i64 x11.1.2.1.2.1.2.2.2, .int .i64 x11.1.2.1.2.2.1, .int .i64 x11.1.2.1.2.2.2.1, .int .i64 x11.1.2.1.2.2.2.2.1, .int .i64 x11.1.2.1.2.2.2.2.2, v3]) (M' := [(q_p0, [.string (bs x11.2.1), .int .i64 x11.2.2]), (b1, [.int .i64 x9.1, .int .i64 x11.1.1, .int .i64 x11.1.2.1.1, .int .i64 x11.1.2.1.2.1.1, .int .i64 x11.1.2.1.2.1.2.1, .int .i64 x11.1.2.1.2.1.2.2.1, .int .i64 x11.1.2.1.2.1.2.2.2, .int .i64 x11.1.2.1.2.2.1, .int .i64 x11.1.2.1.2.2.2.1, .int .i64 x11.1.2.1.2.2.2.2.1, .int .i64 x11.1.2.1.2.2.2.2.2, v3, .bool x10.1])]) 1 hF hW rfl rfl rfl T40 rfl rfl rfl (one_cons rfl (one_cons rfl (one_cons rfl (one_cons rfl (one_cons rfl (one_cons rfl (one_cons rfl (one_cons rfl (one_cons rfl (one_cons rfl (one_cons (hW.one (k := 0) rfl) one_nil))))))))))) rfl (fun w hW => ?_)
   refine ls_nil ?_
   refine c_then ?_
   refine reg_list ?_
   refine ls hF hW rfl ((y_move hF rfl).q) (fun a w hF hW => ?_)
   refine ls hF hW rfl ((y_load (v := Value.agg #[.int .i64 x9.1, .int .i64 x11.1.1, .int .i64 x11.1.2.1.1, .int .i64 x11.1.2.1.2.1.1, .int .i64 x11.1.2.1.2.1.2.1, .int .i64 x11.1.2.1.2.1.2.2.1, .int .i64 x11.1.2.1.2.1.2.2.2, .int .i64 x11.1.2.1.2.2.1, .int .i64 x11.1.2.1.2.2.2.1, .int .i64 x11.1.2.1.2.2.2.2.1, .int .i64 x11.1.2.1.2.2.2.2.2, v3, .bool x10.1]) 1 hF rfl rfl T42 rfl).q) (fun a w hF hW => ?_)
   have hW := hW.freeze
   refine l_lit (z := Value.agg #[.int .i64 0, .int .i64 0, .int .i64 0, .int .i64 0, .int .i64 0, .int .i64 0, .int .i64 0, .int .i64 0, .int .i64 0, .int .i64 0, .int .i64 0, .slice none 0 0, .bool false]) (cs := [.int .i64 x9.1, .int .i64 x11.1.1, .int .i64 x11.1.2.1.1, .int .i64 x11.1.2.1.2.1.1, .int .i64 x11.1.2.1.2.1.2.1, .int .i64 x11.1.2.1.2.1.2.2.1, .int .i64 x11.1.2.1.2.1.2.2.2, .int .i64 x11.1.2.1.2.2.1, .int .i64 x11.1.2.1.2.2.2.1, .int .i64 x11.1.2.1.2.2.2.2.1, .int .i64 x11.1.2.1.2.2.2.2.2, v3, .bool x10.1]) R42 ([(x9.1, x11.1, x10.1)] : List (Int × (Int × (Int × (Int × Int × Int × Int) × (Int × Int × Int × Int)) × (List (Int × Int × Int))) × Bool)) hF hW rfl L22 Z42 rfl rfl rfl (fill_cons rfl rfl rfl fill_nil) rfl rfl ⟨[Value.int .i64 x9.1, Value.int .i64 x11.1.1, Value.int .i64 x11.1.2.1.1, Value.int .i64 x11.1.2.1.2.1.1, Value.int .i64 x11.1.2.1.2.1.2.1, Value.int .i64 x11.1.2.1.2.1.2.2.1, Value.int .i64 x11.1.2.1.2.1.2.2.2, Value.int .i64 x11.1.2.1.2.2.1, Value.int .i64 x11.1.2.1.2.2.2.1, Value.int .i64 x11.1.2.1.2.2.2.2.1, Value.int .i64 x11.1.2.1.2.2.2.2.2, v3, Value.bool x10.1], _, rfl, ⟨[Value.int .i64 x9.1], [Value.int .i64 x11.1.1, Value.int .i64 x11.1.2.1.1, Value.int .i64 x11.1.2.1.2.1.1, Value.int .i64 x11.1.2.1.2.1.2.1, Value.int .i64 x11.1.2.1.2.1.2.2.1, Value.int .i64 x11.1.2.1.2.1.2.2.2, Value.int .i64 x11.1.2.1.2.2.1, Value.int .i64 x11.1.2.1.2.2.2.1, Value.int .i64 x11.1.2.1.2.2.2.2.1, Value.int .i64 x11.1.2.1.2.2.2.2.2, v3, Value.bool x10.1], rfl, rfl, ⟨[Value.int .i64 x11.1.1, Value.int .i64 x11.1.2.1.1, Value.int .i64 x11.1.2.1.2.1.1, Value.int .i64 x11.1.2.1.2.1.2.1, Value.int .i64 x11.1.2.1.2.1.2.2.1, Value.int .i64 x11.1.2.1.2.1.2.2.2, Value.int .i64 x11.1.2.1.2.2.1, Value.int .i64 x11.1.2.1.2.2.2.1, Value.int .i64 x11.1.2.1.2.2.2.2.1, Value.int .i64 x11.1.2.1.2.2.2.2.2, v3], [Value.bool x10.1], rfl, ⟨[Value.int .i64 x11.1.1], [Value.int .i64 x11.1.2.1.1, Value.int .i64 x11.1.2.1.2.1.1, Value.int .i64 x11.1.2.1.2.1.2.1, Value.int .i64 x11.1.2.1.2.1.2.2.1, Value.int .i64 x11.1.2.1.2.1.2.2.2, Value.int .i64 x11.1.2.1.2.2.1, Value.int .i64 x11.1.2.1.2.2.2.1, Value.int .i64 x11.1.2.1.2.2.2.2.1, Value.int .i64 x11.1.2.1.2.2.2.2.2, v3], rfl, rfl, ⟨[Value.int .i64 x11.1.2.1.1, Value.int .i64 x11.1.2.1.2.1.1, Value.int .i64 x11.1.2.1.2.1.2.1, Value.int .i64 x11.1.2.1.2.1.2.2.1, Value.int .i64 x11.1.2.1.2.1.2.2.2, Value.int .i64 x11.1.2.1.2.2.1, Value.int .i64 x11.1.2.1.2.2.2.1, Value.int .i64 x11.1.2.1.2.2.2.2.1, Value.int .i64 x11.1.2.1.2.2.2.2.2], [v3], rfl, ⟨[Value.int .i64 x11.1.2.1.1], [Value.int .i64 x11.1.2.1.2.1.1, Value.int .i64 x11.1.2.1.2.1.2.1, Value.int .i64 x11.1.2.1.2.1.2.2.1, Value.int .i64 x11.1.2.1.2.1.2.2.2, Value.int .i64 x11.1.2.1.2.2.1, Value.int .i64 x11.1.2.1.2.2.2.1, Value.int .i64 x11.1.2.1.2.2.2.2.1, Value.int .i64 x11.1.2.1.2.2.2.2.2], rfl, rfl, ⟨[Value.int .i64 x11.1.2.1.2.1.1, Value.int .i64 x11.1.2.1.2.1.2.1, Value.int .i64 x11.1.2.1.2.1.2.2.1, Value.int .i64 x11.1.2.1.2.1.2.2.2], [Value.int .i64 x11.1.2.1.2.2.1, Value.int .i64 x11.1.2.1.2.2.2.1, Value.int .i64 x11.1.2.1.2.2.2.2.1, Value.int .i64 x11.1.2.1.2.2.2.2.2], rfl, ⟨[Value.int .i64 x11.1.2.1.2.1.1], [Value.int .i64 x11.1.2.1.2.1.2.1, Value.int .i64 x11.1.2.1.2.1.2.2.1, Value.int .i64 x11.1.2.1.2.1.2.2.2], rfl, rfl, ⟨[Value.int .i64 x11.1.2.1.2.1.2.1], [Value.int .i64 x11.1.2.1.2.1.2.2.1, Value.int .i64 x11.1.2.1.2.1.2.2.2], rfl, rfl, ⟨[Value.int .i64 x11.1.2.1.2.1.2.2.1], [Value.int .i64 x11.1.2.1.2.1.2.2.2], rfl, rfl, rfl⟩⟩⟩, ⟨[Value.int .i64 x11.1.2.1.2.2.1], [Value.int .i64 x11.1.2.1.2.2.2.1, Value.int .i64 x11.1.2.1.2.2.2.2.1, Value.int .i64 x11.1.2.1.2.2.2.2.2], rfl, rfl, ⟨[Value.int .i64 x11.1.2.1.2.2.2.1], [Value.int .i64 x11.1.2.1.2.2.2.2.1, Value.int .i64 x11.1.2.1.2.2.2.2.2], rfl, rfl, ⟨[Value.int .i64 x11.1.2.1.2.2.2.2.1], [Value.int .i64 x11.1.2.1.2.2.2.2.2], rfl, rfl, rfl⟩⟩⟩⟩⟩, ⟨_, rfl, (hW.item (i := 0) rfl)⟩⟩⟩, rfl⟩⟩, rfl⟩ (fun v4 a w hF hW => ?_)
   obtain ⟨x12, h5, H⟩ := bindE H
   refine l_append (r := R42) (i := 2) hF hW rfl L22 rfl rfl rfl rfl (src_row hW 0 rfl) h5 rfl (fun v5 a w hF hW => ?_)
   have hW : Stw ⟨Y, X, w0⟩ [(q_p0, [.string (bs x11.2.1), .int .i64 x11.2.2]), (b1, [.int .i64 x9.1, .int .i64 x11.1.1, .int .i64 x11.1.2.1.1, .int .i64 x11.1.2.1.2.1.1, .int .i64 x11.1.2.1.2.1.2.1, .int .i64 x11.1.2.1.2.1.2.2.1, .int .i64 x11.1.2.1.2.1.2.2.2, .int .i64 x11.1.2.1.2.2.1, .int .i64 x11.1.2.1.2.2.2.1, .int .i64 x11.1.2.1.2.2.2.2.1, .int .i64 x11.1.2.1.2.2.2.2.2, v3, .bool x10.1])] [row v5 42 R42 x12, row v4 42 R42 ([(x9.1, x11.1, x10.1)] : List (Int × (Int × (Int × (Int × Int × Int × Int) × (Int × Int × Int × Int)) × (List (Int × Int × Int))) × Bool)), frz v3 R77 x11.1.2.2] w := hW
   refine ls hF hW rfl ((y_assign hF rfl).q) (fun a w hF hW => ?_)
   refine ls_nil ?_
   refine b_normal ?_
   refine c_then ?_
   refine reg_list ?_
   refine ls hF hW rfl ((y_add hF rfl rfl rfl).q) (fun a w hF hW => ?_)
   refine ls hF hW rfl ((y_move hF rfl).q) (fun a w hF hW => ?_)
   refine ls_nil ?_
   refine c_then ?_
   have hW := hW.sub (M' := [(q_p0, [.string (bs x11.2.1), .int .i64 x11.2.2])]) (Z' := [row v5 42 R42 x12]) (List.Sublist.cons_cons _ (List.nil_sublist _)) (List.Sublist.cons_cons _ (List.nil_sublist _))
   exact ⟨_, H, (v5), hF.re ⟨rfl, rfl, rfl, rfl, rfl, trivial⟩, hW⟩
  ·
   have H := iteF (of_decide_eq_false hb) H
   rw [hb] at hF
   clear hb
   refine wp_exit ?_
   refine e_then ?_
   refine e_then ?_
   refine e_block ?_
   refine c_then ?_
   have H := L2 _ H
   exact ⟨_, _, _, (v2), H, hF.re ⟨rfl, rfl, trivial⟩, hW⟩
 rintro a w ⟨x1, x2, x3, v1, hj, hF, hW⟩
 have hj := Option.some.inj hj
 subst hj
 have H := K1
 clear G1 K1
 refine c_seq ?_
 refine reg_list ?_
 refine ls hF hW rfl ((y_move hF rfl).q) (fun a w hF hW => ?_)
 refine ls hF hW rfl ((y_assign hF rfl).q) (fun a w hF hW => ?_)
 refine ls_nil ?_
 refine c_then ?_
 refine wp_ret ?_
 have H := Option.some.inj H
 subst H
 refine post1 (.inl rfl) hF hW rfl (rv_tmp hF rfl) ?_
 exact ⟨(v1), rfl, hW⟩

theorem H56 : Has Try.prog 56 := ⟨fun args w => run_callFunc_body Try.func56 rfl (by decide) args w⟩
noncomputable def proto_read (p0 : List UInt8 × Int) : Option ((Int × Int × Int × Int × Int × Int × Int × Int × Int × (List (Int × (Int × (Int × (Int × Int × Int × Int) × (Int × Int × Int × Int)) × (List (Int × Int × Int))) × Bool))) × (List UInt8 × Int)) := (octet_Reader_Num p0 1).bind fun x1 => (octet_Reader_Num x1.2 1).bind fun x2 => (if (!((proto_fields x1.1).2)) = true then some ((octet_Reader_Wrong x2.2 9).1, (octet_Reader_Wrong x2.2 9).2) else some (x2.2.1, x2.2.2)).bind fun (x3, x4) => (if (andI .i64 ((proto_fields x1.1).1) 1) ≠ 0 then (octet_Reader_Int (x3, x4)).bind fun x8 => some (x8.2.1, x8.2.2, x8.1) else some (x3, x4, 0)).bind fun (x5, x6, x7) => (if (andI .i64 ((proto_fields x1.1).1) 2) ≠ 0 then (octet_Reader_Int (x5, x6)).bind fun x12 => some (x12.2.1, x12.2.2, x12.1) else some (x5, x6, 0)).bind fun (x9, x10, x11) => (if (andI .i64 ((proto_fields x1.1).1) 4) ≠ 0 then (octet_Reader_Num (x9, x10) 2).bind fun x16 => some (x16.2.1, x16.2.2, x16.1) else some (x9, x10, 0)).bind fun (x13, x14, x15) => (if (andI .i64 ((proto_fields x1.1).1) 8) ≠ 0 then (octet_Reader_Num (x13, x14) 2).bind fun x20 => some (x20.2.1, x20.2.2, x20.1) else some (x13, x14, 0)).bind fun (x17, x18, x19) => (if (andI .i64 ((proto_fields x1.1).1) 16) ≠ 0 then (octet_Reader_Num (x17, x18) 1).bind fun x24 => some (x24.2.1, x24.2.2, w64 (x24.1 - 1)) else some (x17, x18, 0)).bind fun (x21, x22, x23) => (if (andI .i64 ((proto_fields x1.1).1) 32) ≠ 0 then (octet_Reader_Num (x21, x22) 1).bind fun x28 => some (x28.2.1, x28.2.2, x28.1) else some (x21, x22, 0)).bind fun (x25, x26, x27) => (if (andI .i64 ((proto_fields x1.1).1) 64) ≠ 0 then (octet_Reader_Num (x25, x26) 1).bind fun x32 => some (x32.2.1, x32.2.2, x32.1) else some (x25, x26, 0)).bind fun (x29, x30, x31) => (if (andI .i64 ((proto_fields x1.1).1) 128) ≠ 0 then (proto_readMods (x29, x30)).bind fun x36 => some (x36.2.1, x36.2.2, x36.1) else some (x29, x30, [])).bind fun (x33, x34, x35) => some ((x1.1, x2.1, x19, x23, x7, x11, x15, x27, x31, x35), (x33, x34))
theorem proto_read_c (Y : Nat → Prop) (X : List Nat) (w0 : World) (q_p0 : Nat) (p0 : List UInt8 × Int) (r : (Int × Int × Int × Int × Int × Int × Int × Int × Int × (List (Int × (Int × (Int × (Int × Int × Int × Int) × (Int × Int × Int × Int)) × (List (Int × Int × Int))) × Bool))) × (List UInt8 × Int)) (H : proto_read p0 = some r) (hL : Stw ⟨Y, X, w0⟩ [(q_p0, [.string (bs p0.1), .int .i64 p0.2])] [] w0) :
    Calls Try.prog 38 #[.pointer (some ⟨q_p0, 0, none⟩)] w0 fun e w' => ∃ x : Value, e = .returned (.agg #[.int .i64 r.1.1, .int .i64 r.1.2.1, .int .i64 r.1.2.2.1, .int .i64 r.1.2.2.2.1, .int .i64 r.1.2.2.2.2.1, .int .i64 r.1.2.2.2.2.2.1, .int .i64 r.1.2.2.2.2.2.2.1, .int .i64 r.1.2.2.2.2.2.2.2.1, .int .i64 r.1.2.2.2.2.2.2.2.2.1, x]) ∧ Stw ⟨Y, X, w0⟩ [(q_p0, [.string (bs r.2.1), .int .i64 r.2.2])] [row (x) 42 R42 r.1.2.2.2.2.2.2.2.2.2] w' := by
 refine enter Try.func38 rfl Try.ntmps38 rfl (fun a hF => ?_)
 have hW := hL
 unfold proto_read at H
 refine c_seq ?_
 refine reg_list ?_
 refine l_alloc (cs := [.int .i64 0, .int .i64 0, .int .i64 0, .int .i64 0, .int .i64 0, .int .i64 0, .int .i64 0, .int .i64 0, .int .i64 0, .slice none 0 0]) hF hW rfl Z24 rfl (fun b1 a w hF hW => ?_)
 refine ls_nil ?_
 refine c_then ?_
 refine c_seq ?_
 refine reg_list ?_
 refine ls hF hW rfl ((y_move hF rfl).q) (fun a w hF hW => ?_)
 obtain ⟨x1, h1, H⟩ := bindE H
 have hW := hW.frontM (i := 1) rfl rfl
 refine l_callG (Ml := [(q_p0, [.string (bs p0.1), .int .i64 p0.2])]) (Zl := []) (M := [(b1, [.int .i64 0, .int .i64 0, .int .i64 0, .int .i64 0, .int .i64 0, .int .i64 0, .int .i64 0, .int .i64 0, .int .i64 0, .slice none 0 0])]) (Z := []) (β := Unit) (rv := fun x => .int .i64 x1.1) (MM := fun x => [(q_p0, [.string (bs x1.2.1), .int .i64 x1.2.2])]) (ZZ := fun x => []) hF hW H53 rfl rfl (fun hL => octet_Reader_Num_c _ _ w q_p0 p0 1 _ h1 hL) (fun x a w hF hW => ?_)
 have hW : Stw ⟨Y, X, w0⟩ [(q_p0, [.string (bs x1.2.1), .int .i64 x1.2.2]), (b1, [.int .i64 0, .int .i64 0, .int .i64 0, .int .i64 0, .int .i64 0, .int .i64 0, .int .i64 0, .int .i64 0, .int .i64 0, .slice none 0 0])] [] w := hW
 refine ls hF hW rfl ((y_build (v := Value.agg #[.int .i64 x1.1, .int .i64 0, .int .i64 0, .int .i64 0, .int .i64 0, .int .i64 0, .int .i64 0, .int .i64 0, .int .i64 0, .slice none 0 0]) B24 hF rfl rfl rfl).q) (fun a w hF hW => ?_)
 refine l_alloc (cs := [.int .i64 0, .int .i64 0, .int .i64 0, .int .i64 0, .int .i64 0, .int .i64 0, .int .i64 0, .int .i64 0, .int .i64 0, .slice none 0 0]) hF hW rfl Z24 rfl (fun b2 a w hF hW => ?_)
 refine l_store (vs := [.int .i64 x1.1, .int .i64 0, .int .i64 0, .int .i64 0, .int .i64 0, .int .i64 0, .int .i64 0, .int .i64 0, .int .i64 0, .slice none 0 0]) (M' := [(b2, [.int .i64 x1.1, .int .i64 0, .int .i64 0, .int .i64 0, .int .i64 0, .int .i64 0, .int .i64 0, .int .i64 0, .int .i64 0, .slice none 0 0]), (q_p0, [.string (bs x1.2.1), .int .i64 x1.2.2]), (b1, [.int .i64 0, .int .i64 0, .int .i64 0, .int .i64 0, .int .i64 0, .int .i64 0, .int .i64 0, .int .i64 0, .int .i64 0, .slice none 0 0])]) 0 hF hW rfl rfl rfl T24 rfl rfl rfl rfl rfl (fun w hW => ?_)
 refine ls_nil ?_
 refine c_then ?_
 refine c_seq ?_
 refine reg_list ?_
 refine ls hF hW rfl ((y_move hF rfl).q) (fun a w hF hW => ?_)
 obtain ⟨x2, h2, H⟩ := bindE H
 have hW := hW.frontM (i := 1) rfl rfl
 refine l_callG (Ml := [(q_p0, [.string (bs x1.2.1), .int .i64 x1.2.2])]) (Zl := []) (M := [(b2, [.int .i64 x1.1, .int .i64 0, .int .i64 0, .int .i64 0, .int .i64 0, .int .i64 0, .int .i64 0, .int .i64 0, .int .i64 0, .slice none 0 0]), (b1, [.int .i64 0, .int .i64 0, .int .i64 0, .int .i64 0, .int .i64 0, .int .i64 0, .int .i64 0, .int .i64 0, .int .i64 0, .slice none 0 0])]) (Z := []) (β := Unit) (rv := fun x => .int .i64 x2.1) (MM := fun x => [(q_p0, [.string (bs x2.2.1), .int .i64 x2.2.2])]) (ZZ := fun x => []) hF hW H53 rfl rfl (fun hL => octet_Reader_Num_c _ _ w q_p0 x1.2 1 _ h2 hL) (fun x a w hF hW => ?_)
 have hW : Stw ⟨Y, X, w0⟩ [(q_p0, [.string (bs x2.2.1), .int .i64 x2.2.2]), (b2, [.int .i64 x1.1, .int .i64 0, .int .i64 0, .int .i64 0, .int .i64 0, .int .i64 0, .int .i64 0, .int .i64 0, .int .i64 0, .slice none 0 0]), (b1, [.int .i64 0, .int .i64 0, .int .i64 0, .int .i64 0, .int .i64 0, .int .i64 0, .int .i64 0, .int .i64 0, .int .i64 0, .slice none 0 0])] [] w := hW
 refine ls hF hW rfl ((y_fieldAddr u24_ rfl rfl rfl T3 hF rfl 1 rfl).q) (fun a w hF hW => ?_)
 refine l_store (vs := [.int .i64 x2.1]) (M' := [(q_p0, [.string (bs x2.2.1), .int .i64 x2.2.2]), (b2, [.int .i64 x1.1, .int .i64 x2.1, .int .i64 0, .int .i64 0, .int .i64 0, .int .i64 0, .int .i64 0, .int .i64 0, .int .i64 0, .slice none 0 0]), (b1, [.int .i64 0, .int .i64 0, .int .i64 0, .int .i64 0, .int .i64 0, .int .i64 0, .int .i64 0, .int .i64 0, .int .i64 0, .slice none 0 0])]) 1 hF hW rfl rfl rfl T3 rfl rfl rfl rfl rfl (fun w hW => ?_)
 refine ls_nil ?_
 refine c_then ?_
 refine c_seq ?_
 refine reg_list ?_
 refine ls hF hW rfl ((y_fieldAddr u24_ rfl rfl rfl T3 hF rfl 0 rfl).q) (fun a w hF hW => ?_)
 refine ls hF hW rfl ((y_load (v := Value.int .i64 x1.1) 1 hF rfl rfl T3 rfl).q) (fun a w hF hW => ?_)
 refine ls hF hW rfl (y_call (v := Value.tuple #[.int .i64 ((proto_fields x1.1).1), .bool ((proto_fields x1.1).2)]) hF H16 rfl (fun w hW => proto_fields_c any w x1.1 _ rfl)) (fun a w hF hW => ?_)
 refine ls hF hW rfl ((y_move hF rfl).q) (fun a w hF hW => ?_)
 refine ls hF hW rfl ((y_extract (v := Value.int .i64 ((proto_fields x1.1).1)) hF rfl rfl).q) (fun a w hF hW => ?_)
 refine ls hF hW rfl ((y_extract (v := Value.bool ((proto_fields x1.1).2)) hF rfl rfl).q) (fun a w hF hW => ?_)
 refine ls hF hW rfl ((y_assign hF rfl).q) (fun a w hF hW => ?_)
 refine ls hF hW rfl ((y_assign hF rfl).q) (fun a w hF hW => ?_)
 refine ls_nil ?_
 refine c_then ?_
 obtain ⟨o1, G1, K1⟩ := bindE H
 refine c_seqJ (fun a w => ∃ x3 : List UInt8, ∃ x4 : Int, some ((x3, x4)) = some o1 ∧ Fr 72 [] [(0, .pointer (some ⟨q_p0, 0, none⟩)), (2, .pointer (some ⟨b1, 0, none⟩)), (3, .pointer (some ⟨b2, 0, none⟩)), (4, .int .i64 ((proto_fields x1.1).1))] a ∧ Stw ⟨Y, X, w0⟩ [(q_p0, [.string (bs x3), .int .i64 x4]), (b2, [.int .i64 x1.1, .int .i64 x2.1, .int .i64 0, .int .i64 0, .int .i64 0, .int .i64 0, .int .i64 0, .int .i64 0, .int .i64 0, .slice none 0 0]), (b1, [.int .i64 0, .int .i64 0, .int .i64 0, .int .i64 0, .int .i64 0, .int .i64 0, .int .i64 0, .int .i64 0, .int .i64 0, .slice none 0 0])] [] w) ?_ ?_
 ·
  have H := G1
  clear G1 K1
  refine c_seq ?_
  refine reg_list ?_
  refine ls hF hW rfl ((y_move hF rfl).q) (fun a w hF hW => ?_)
  refine ls hF hW rfl ((y_not hF rfl).q) (fun a w hF hW => ?_)
  refine ls_nil ?_
  refine c_then ?_
  refine c_cond hF rfl (fun hb => ?_) (fun hb => ?_)
  ·
   have H := iteT hb H
   rw [hb] at hF
   clear hb
   refine reg_list ?_
   refine ls hF hW rfl ((y_move hF rfl).q) (fun a w hF hW => ?_)
   refine l_callG (Ml := [(q_p0, [.string (bs x2.2.1), .int .i64 x2.2.2])]) (Zl := []) (M := [(b2, [.int .i64 x1.1, .int .i64 x2.1, .int .i64 0, .int .i64 0, .int .i64 0, .int .i64 0, .int .i64 0, .int .i64 0, .int .i64 0, .slice none 0 0]), (b1, [.int .i64 0, .int .i64 0, .int .i64 0, .int .i64 0, .int .i64 0, .int .i64 0, .int .i64 0, .int .i64 0, .int .i64 0, .slice none 0 0])]) (Z := []) (β := Unit) (rv := fun x => .tuple #[]) (MM := fun x => [(q_p0, [.string (bs ((octet_Reader_Wrong x2.2 9).1)), .int .i64 ((octet_Reader_Wrong x2.2 9).2)])]) (ZZ := fun x => []) hF hW H54 rfl rfl (fun hL => octet_Reader_Wrong_c _ _ w q_p0 x2.2 9 _ rfl hL) (fun x a w hF hW => ?_)
   have hW : Stw ⟨Y, X, w0⟩ [(q_p0, [.string (bs ((octet_Reader_Wrong x2.2 9).1)), .int .i64 ((octet_Reader_Wrong x2.2 9).2)]), (b2, [.int .i64 x1.1, .int .i64 x2.1, .int .i64 0, .int .i64 0, .int .i64 0, .int .i64 0, .int .i64 0, .int .i64 0, .int .i64 0, .slice none 0 0]), (b1, [.int .i64 0, .int .i64 0, .int .i64 0, .int .i64 0, .int .i64 0, .int .i64 0, .int .i64 0, .int .i64 0, .int .i64 0, .slice none 0 0])] [] w := hW
   refine ls_nil ?_
   refine c_then ?_
   have hW := hW.frontM (i := 2) rfl rfl
   have hW := hW.frontM (i := 2) rfl rfl
   have hW := hW.frontM (i := 2) rfl rfl
   exact ⟨_, _, H, hF.re ⟨rfl, rfl, rfl, rfl, trivial⟩, hW⟩
  ·
   have H := iteF (by rw [hb]; decide) H
   rw [hb] at hF
   clear hb
   refine wp_skip ?_
   refine c_then ?_
   have hW := hW.frontM (i := 2) rfl rfl
   have hW := hW.frontM (i := 2) rfl rfl
   have hW := hW.frontM (i := 2) rfl rfl
   exact ⟨_, _, H, hF.re ⟨rfl, rfl, rfl, rfl, trivial⟩, hW⟩
 rintro a w ⟨x3, x4, hj, hF, hW⟩
 have hj := Option.some.inj hj
 subst hj
 have H := K1
 clear G1 K1
 obtain ⟨o2, G2, K2⟩ := bindE H
 refine c_seqJ (fun a w => ∃ x5 : List UInt8, ∃ x6 : Int, ∃ x7 : Int, some ((x5, x6, x7)) = some o2 ∧ Fr 72 [] [(0, .pointer (some ⟨q_p0, 0, none⟩)), (2, .pointer (some ⟨b1, 0, none⟩)), (3, .pointer (some ⟨b2, 0, none⟩)), (4, .int .i64 ((proto_fields x1.1).1))] a ∧ Stw ⟨Y, X, w0⟩ [(q_p0, [.string (bs x5), .int .i64 x6]), (b2, [.int .i64 x1.1, .int .i64 x2.1, .int .i64 0, .int .i64 0, .int .i64 x7, .int .i64 0, .int .i64 0, .int .i64 0, .int .i64 0, .slice none 0 0]), (b1, [.int .i64 0, .int .i64 0, .int .i64 0, .int .i64 0, .int .i64 0, .int .i64 0, .int .i64 0, .int .i64 0, .int .i64 0, .slice none 0 0])] [] w) ?_ ?_
 ·
  have H := G2
  clear G2 K2
  refine c_seq ?_
  refine reg_list ?_
  refine ls hF hW rfl ((y_move hF rfl).q) (fun a w hF hW => ?_)
  refine ls hF hW rfl ((y_and hF rfl rfl).q) (fun a w hF hW => ?_)
  refine ls hF hW rfl ((y_neq hF rfl rfl).q) (fun a w hF hW => ?_)
  refine ls_nil ?_
  refine c_then ?_
  refine c_cond hF rfl (fun hb => ?_) (fun hb => ?_)
  ·
   have H := iteT (of_decide_eq_true hb) H
   rw [hb] at hF
   clear hb
   refine reg_list ?_
   refine ls hF hW rfl ((y_move hF rfl).q) (fun a w hF hW => ?_)
   obtain ⟨x8, h3, H⟩ := bindE H
   refine l_callG (Ml := [(q_p0, [.string (bs x3), .int .i64 x4])]) (Zl := []) (M := [(b2, [.int .i64 x1.1, .int .i64 x2.1, .int .i64 0, .int .i64 0, .int .i64 0, .int .i64 0, .int .i64 0, .int .i64 0, .int .i64 0, .slice none 0 0]), (b1, [.int .i64 0, .int .i64 0, .int .i64 0, .int .i64 0, .int .i64 0, .int .i64 0, .int .i64 0, .int .i64 0, .int .i64 0, .slice none 0 0])]) (Z := []) (β := Unit) (rv := fun x => .int .i64 x8.1) (MM := fun x => [(q_p0, [.string (bs x8.2.1), .int .i64 x8.2.2])]) (ZZ := fun x => []) hF hW H55 rfl rfl (fun hL => octet_Reader_Int_c _ _ w q_p0 (x3, x4) _ h3 hL) (fun x a w hF hW => ?_)
   have hW : Stw ⟨Y, X, w0⟩ [(q_p0, [.string (bs x8.2.1), .int .i64 x8.2.2]), (b2, [.int .i64 x1.1, .int .i64 x2.1, .int .i64 0, .int .i64 0, .int .i64 0, .int .i64 0, .int .i64 0, .int .i64 0, .int .i64 0, .slice none 0 0]), (b1, [.int .i64 0, .int .i64 0, .int .i64 0, .int .i64 0, .int .i64 0, .int .i64 0, .int .i64 0, .int .i64 0, .int .i64 0, .slice none 0 0])] [] w := hW
   refine ls hF hW rfl ((y_fieldAddr u24_ rfl rfl rfl T3 hF rfl 4 rfl).q) (fun a w hF hW => ?_)
   refine l_store (vs := [.int .i64 x8.1]) (M' := [(q_p0, [.string (bs x8.2.1), .int .i64 x8.2.2]), (b2, [.int .i64 x1.1, .int .i64 x2.1, .int .i64 0, .int .i64 0, .int .i64 x8.1, .int .i64 0, .int .i64 0, .int .i64 0, .int .i64 0, .slice none 0 0]), (b1, [.int .i64 0, .int .i64 0, .int .i64 0, .int .i64 0, .int .i64 0, .int .i64 0, .int .i64 0, .int .i64 0, .int .i64 0, .slice none 0 0])]) 1 hF hW rfl rfl rfl T3 rfl rfl rfl rfl rfl (fun w hW => ?_)
   refine ls_nil ?_
   refine c_then ?_
   have hW := hW.frontM (i := 2) rfl rfl
   have hW := hW.frontM (i := 2) rfl rfl
   have hW := hW.frontM (i := 2) rfl rfl
   exact ⟨_, _, _, H, hF.re ⟨rfl, rfl, rfl, rfl, trivial⟩, hW⟩
  ·
   have H := iteF (of_decide_eq_false hb) H
   rw [hb] at hF
   clear hb
   refine wp_skip ?_
   refine c_then ?_
   have hW := hW.frontM (i := 2) rfl rfl
   have hW := hW.frontM (i := 2) rfl rfl
   have hW := hW.frontM (i := 2) rfl rfl
   exact ⟨_, _, _, H, hF.re ⟨rfl, rfl, rfl, rfl, trivial⟩, hW⟩
 rintro a w ⟨x5, x6, x7, hj, hF, hW⟩
 have hj := Option.some.inj hj
 subst hj
 have H := K2
 clear G2 K2
 obtain ⟨o3, G3, K3⟩ := bindE H
 refine c_seqJ (fun a w => ∃ x9 : List UInt8, ∃ x10 : Int, ∃ x11 : Int, some ((x9, x10, x11)) = some o3 ∧ Fr 72 [] [(0, .pointer (some ⟨q_p0, 0, none⟩)), (2, .pointer (some ⟨b1, 0, none⟩)), (3, .pointer (some ⟨b2, 0, none⟩)), (4, .int .i64 ((proto_fields x1.1).1))] a ∧ Stw ⟨Y, X, w0⟩ [(q_p0, [.string (bs x9), .int .i64 x10]), (b2, [.int .i64 x1.1, .int .i64 x2.1, .int .i64 0, .int .i64 0, .int .i64 x7, .int .i64 x11, .int .i64 0, .int .i64 0, .int .i64 0, .slice none 0 0]), (b1, [.int .i64 0, .int .i64 0, .int .i64 0, .int .i64 0, .int .i64 0, .int .i64 0, .int .i64 0, .int .i64 0, .int .i64 0, .slice none 0 0])] [] w) ?_ ?_
 ·
  have H := G3
  clear G3 K3
  refine c_seq ?_
  refine reg_list ?_
  refine ls hF hW rfl ((y_move hF rfl).q) (fun a w hF hW => ?_)
  refine ls hF hW rfl ((y_and hF rfl rfl).q) (fun a w hF hW => ?_)
  refine ls hF hW rfl ((y_neq hF rfl rfl).q) (fun a w hF hW => ?_)
  refine ls_nil ?_
  refine c_then ?_
  refine c_cond hF rfl (fun hb => ?_) (fun hb => ?_)
  ·
   have H := iteT (of_decide_eq_true hb) H
   rw [hb] at hF
   clear hb
   refine reg_list ?_
   refine ls hF hW rfl ((y_move hF rfl).q) (fun a w hF hW => ?_)
   obtain ⟨x12, h4, H⟩ := bindE H
   refine l_callG (Ml := [(q_p0, [.string (bs x5), .int .i64 x6])]) (Zl := []) (M := [(b2, [.int .i64 x1.1, .int .i64 x2.1, .int .i64 0, .int .i64 0, .int .i64 x7, .int .i64 0, .int .i64 0, .int .i64 0, .int .i64 0, .slice none 0 0]), (b1, [.int .i64 0, .int .i64 0, .int .i64 0, .int .i64 0, .int .i64 0, .int .i64 0, .int .i64 0, .int .i64 0, .int .i64 0, .slice none 0 0])]) (Z := []) (β := Unit) (rv := fun x => .int .i64 x12.1) (MM := fun x => [(q_p0, [.string (bs x12.2.1), .int .i64 x12.2.2])]) (ZZ := fun x => []) hF hW H55 rfl rfl (fun hL => octet_Reader_Int_c _ _ w q_p0 (x5, x6) _ h4 hL) (fun x a w hF hW => ?_)
   have hW : Stw ⟨Y, X, w0⟩ [(q_p0, [.string (bs x12.2.1), .int .i64 x12.2.2]), (b2, [.int .i64 x1.1, .int .i64 x2.1, .int .i64 0, .int .i64 0, .int .i64 x7, .int .i64 0, .int .i64 0, .int .i64 0, .int .i64 0, .slice none 0 0]), (b1, [.int .i64 0, .int .i64 0, .int .i64 0, .int .i64 0, .int .i64 0, .int .i64 0, .int .i64 0, .int .i64 0, .int .i64 0, .slice none 0 0])] [] w := hW
   refine ls hF hW rfl ((y_fieldAddr u24_ rfl rfl rfl T3 hF rfl 5 rfl).q) (fun a w hF hW => ?_)
   refine l_store (vs := [.int .i64 x12.1]) (M' := [(q_p0, [.string (bs x12.2.1), .int .i64 x12.2.2]), (b2, [.int .i64 x1.1, .int .i64 x2.1, .int .i64 0, .int .i64 0, .int .i64 x7, .int .i64 x12.1, .int .i64 0, .int .i64 0, .int .i64 0, .slice none 0 0]), (b1, [.int .i64 0, .int .i64 0, .int .i64 0, .int .i64 0, .int .i64 0, .int .i64 0, .int .i64 0, .int .i64 0, .int .i64 0, .slice none 0 0])]) 1 hF hW rfl rfl rfl T3 rfl rfl rfl rfl rfl (fun w hW => ?_)
   refine ls_nil ?_
   refine c_then ?_
   have hW := hW.frontM (i := 2) rfl rfl
   have hW := hW.frontM (i := 2) rfl rfl
   have hW := hW.frontM (i := 2) rfl rfl
   exact ⟨_, _, _, H, hF.re ⟨rfl, rfl, rfl, rfl, trivial⟩, hW⟩
  ·
   have H := iteF (of_decide_eq_false hb) H
   rw [hb] at hF
   clear hb
   refine wp_skip ?_
   refine c_then ?_
   have hW := hW.frontM (i := 2) rfl rfl
   have hW := hW.frontM (i := 2) rfl rfl
   have hW := hW.frontM (i := 2) rfl rfl
   exact ⟨_, _, _, H, hF.re ⟨rfl, rfl, rfl, rfl, trivial⟩, hW⟩
 rintro a w ⟨x9, x10, x11, hj, hF, hW⟩
 have hj := Option.some.inj hj
 subst hj
 have H := K3
 clear G3 K3
 obtain ⟨o4, G4, K4⟩ := bindE H
 refine c_seqJ (fun a w => ∃ x13 : List UInt8, ∃ x14 : Int, ∃ x15 : Int, some ((x13, x14, x15)) = some o4 ∧ Fr 72 [] [(0, .pointer (some ⟨q_p0, 0, none⟩)), (2, .pointer (some ⟨b1, 0, none⟩)), (3, .pointer (some ⟨b2, 0, none⟩)), (4, .int .i64 ((proto_fields x1.1).1))] a ∧ Stw ⟨Y, X, w0⟩ [(q_p0, [.string (bs x13), .int .i64 x14]), (b2, [.int .i64 x1.1, .int .i64 x2.1, .int .i64 0, .int .i64 0, .int .i64 x7, .int .i64 x11, .int .i64 x15, .int .i64 0, .int .i64 0, .slice none 0 0]), (b1, [.int .i64 0, .int .i64 0, .int .i64 0, .int .i64 0, .int .i64 0, .int .i64 0, .int .i64 0, .int .i64 0, .int .i64 0, .slice none 0 0])] [] w) ?_ ?_
 ·
  have H := G4
  clear G4 K4
  refine c_seq ?_
  refine reg_list ?_
  refine ls hF hW rfl ((y_move hF rfl).q) (fun a w hF hW => ?_)
  refine ls hF hW rfl ((y_and hF rfl rfl).q) (fun a w hF hW => ?_)
  refine ls hF hW rfl ((y_neq hF rfl rfl).q) (fun a w hF hW => ?_)
  refine ls_nil ?_
  refine c_then ?_
  refine c_cond hF rfl (fun hb => ?_) (fun hb => ?_)
  ·
   have H := iteT (of_decide_eq_true hb) H
   rw [hb] at hF
   clear hb
   refine reg_list ?_
   refine ls hF hW rfl ((y_move hF rfl).q) (fun a w hF hW => ?_)
   obtain ⟨x16, h5, H⟩ := bindE H
   refine l_callG (Ml := [(q_p0, [.string (bs x9), .int .i64 x10])]) (Zl := []) (M := [(b2, [.int .i64 x1.1, .int .i64 x2.1, .int .i64 0, .int .i64 0, .int .i64 x7, .int .i64 x11, .int .i64 0, .int .i64 0, .int .i64 0, .slice none 0 0]), (b1, [.int .i64 0, .int .i64 0, .int .i64 0, .int .i64 0, .int .i64 0, .int .i64 0, .int .i64 0, .int .i64 0, .int .i64 0, .slice none 0 0])]) (Z := []) (β := Unit) (rv := fun x => .int .i64 x16.1) (MM := fun x => [(q_p0, [.string (bs x16.2.1), .int .i64 x16.2.2])]) (ZZ := fun x => []) hF hW H53 rfl rfl (fun hL => octet_Reader_Num_c _ _ w q_p0 (x9, x10) 2 _ h5 hL) (fun x a w hF hW => ?_)
   have hW : Stw ⟨Y, X, w0⟩ [(q_p0, [.string (bs x16.2.1), .int .i64 x16.2.2]), (b2, [.int .i64 x1.1, .int .i64 x2.1, .int .i64 0, .int .i64 0, .int .i64 x7, .int .i64 x11, .int .i64 0, .int .i64 0, .int .i64 0, .slice none 0 0]), (b1, [.int .i64 0, .int .i64 0, .int .i64 0, .int .i64 0, .int .i64 0, .int .i64 0, .int .i64 0, .int .i64 0, .int .i64 0, .slice none 0 0])] [] w := hW
   refine ls hF hW rfl ((y_fieldAddr u24_ rfl rfl rfl T3 hF rfl 6 rfl).q) (fun a w hF hW => ?_)
   refine l_store (vs := [.int .i64 x16.1]) (M' := [(q_p0, [.string (bs x16.2.1), .int .i64 x16.2.2]), (b2, [.int .i64 x1.1, .int .i64 x2.1, .int .i64 0, .int .i64 0, .int .i64 x7, .int .i64 x11, .int .i64 x16.1, .int .i64 0, .int .i64 0, .slice none 0 0]), (b1, [.int .i64 0, .int .i64 0, .int .i64 0, .int .i64 0, .int .i64 0, .int .i64 0, .int .i64 0, .int .i64 0, .int .i64 0, .slice none 0 0])]) 1 hF hW rfl rfl rfl T3 rfl rfl rfl rfl rfl (fun w hW => ?_)
   refine ls_nil ?_
   refine c_then ?_
   have hW := hW.frontM (i := 2) rfl rfl
   have hW := hW.frontM (i := 2) rfl rfl
   have hW := hW.frontM (i := 2) rfl rfl
   exact ⟨_, _, _, H, hF.re ⟨rfl, rfl, rfl, rfl, trivial⟩, hW⟩
  ·
   have H := iteF (of_decide_eq_false hb) H
   rw [hb] at hF
   clear hb
   refine wp_skip ?_
   refine c_then ?_
   have hW := hW.frontM (i := 2) rfl rfl
   have hW := hW.frontM (i := 2) rfl rfl
   have hW := hW.frontM (i := 2) rfl rfl
   exact ⟨_, _, _, H, hF.re ⟨rfl, rfl, rfl, rfl, trivial⟩, hW⟩
 rintro a w ⟨x13, x14, x15, hj, hF, hW⟩
 have hj := Option.some.inj hj
 subst hj
 have H := K4
 clear G4 K4
 obtain ⟨o5, G5, K5⟩ := bindE H
 refine c_seqJ (fun a w => ∃ x17 : List UInt8, ∃ x18 : Int, ∃ x19 : Int, some ((x17, x18, x19)) = some o5 ∧ Fr 72 [] [(0, .pointer (some ⟨q_p0, 0, none⟩)), (2, .pointer (some ⟨b1, 0, none⟩)), (3, .pointer (some ⟨b2, 0, none⟩)), (4, .int .i64 ((proto_fields x1.1).1))] a ∧ Stw ⟨Y, X, w0⟩ [(q_p0, [.string (bs x17), .int .i64 x18]), (b2, [.int .i64 x1.1, .int .i64 x2.1, .int .i64 x19, .int .i64 0, .int .i64 x7, .int .i64 x11, .int .i64 x15, .int .i64 0, .int .i64 0, .slice none 0 0]), (b1, [.int .i64 0, .int .i64 0, .int .i64 0, .int .i64 0, .int .i64 0, .int .i64 0, .int .i64 0, .int .i64 0, .int .i64 0, .slice none 0 0])] [] w) ?_ ?_
 ·
  have H := G5
  clear G5 K5
  refine c_seq ?_
  refine reg_list ?_
  refine ls hF hW rfl ((y_move hF rfl).q) (fun a w hF hW => ?_)
  refine ls hF hW rfl ((y_and hF rfl rfl).q) (fun a w hF hW => ?_)
  refine ls hF hW rfl ((y_neq hF rfl rfl).q) (fun a w hF hW => ?_)
  refine ls_nil ?_
  refine c_then ?_
  refine c_cond hF rfl (fun hb => ?_) (fun hb => ?_)
  ·
   have H := iteT (of_decide_eq_true hb) H
   rw [hb] at hF
   clear hb
   refine reg_list ?_
   refine ls hF hW rfl ((y_move hF rfl).q) (fun a w hF hW => ?_)
   obtain ⟨x20, h6, H⟩ := bindE H
   refine l_callG (Ml := [(q_p0, [.string (bs x13), .int .i64 x14])]) (Zl := []) (M := [(b2, [.int .i64 x1.1, .int .i64 x2.1, .int .i64 0, .int .i64 0, .int .i64 x7, .int .i64 x11, .int .i64 x15, .int .i64 0, .int .i64 0, .slice none 0 0]), (b1, [.int .i64 0, .int .i64 0, .int .i64 0, .int .i64 0, .int .i64 0, .int .i64 0, .int .i64 0, .int .i64 0, .int .i64 0, .slice none 0 0])]) (Z := []) (β := Unit) (rv := fun x => .int .i64 x20.1) (MM := fun x => [(q_p0, [.string (bs x20.2.1), .int .i64 x20.2.2])]) (ZZ := fun x => []) hF hW H53 rfl rfl (fun hL => octet_Reader_Num_c _ _ w q_p0 (x13, x14) 2 _ h6 hL) (fun x a w hF hW => ?_)
   have hW : Stw ⟨Y, X, w0⟩ [(q_p0, [.string (bs x20.2.1), .int .i64 x20.2.2]), (b2, [.int .i64 x1.1, .int .i64 x2.1, .int .i64 0, .int .i64 0, .int .i64 x7, .int .i64 x11, .int .i64 x15, .int .i64 0, .int .i64 0, .slice none 0 0]), (b1, [.int .i64 0, .int .i64 0, .int .i64 0, .int .i64 0, .int .i64 0, .int .i64 0, .int .i64 0, .int .i64 0, .int .i64 0, .slice none 0 0])] [] w := hW
   refine ls hF hW rfl ((y_fieldAddr u24_ rfl rfl rfl T3 hF rfl 2 rfl).q) (fun a w hF hW => ?_)
   refine l_store (vs := [.int .i64 x20.1]) (M' := [(q_p0, [.string (bs x20.2.1), .int .i64 x20.2.2]), (b2, [.int .i64 x1.1, .int .i64 x2.1, .int .i64 x20.1, .int .i64 0, .int .i64 x7, .int .i64 x11, .int .i64 x15, .int .i64 0, .int .i64 0, .slice none 0 0]), (b1, [.int .i64 0, .int .i64 0, .int .i64 0, .int .i64 0, .int .i64 0, .int .i64 0, .int .i64 0, .int .i64 0, .int .i64 0, .slice none 0 0])]) 1 hF hW rfl rfl rfl T3 rfl rfl rfl rfl rfl (fun w hW => ?_)
   refine ls_nil ?_
   refine c_then ?_
   have hW := hW.frontM (i := 2) rfl rfl
   have hW := hW.frontM (i := 2) rfl rfl
   have hW := hW.frontM (i := 2) rfl rfl
   exact ⟨_, _, _, H, hF.re ⟨rfl, rfl, rfl, rfl, trivial⟩, hW⟩
  ·
   have H := iteF (of_decide_eq_false hb) H
   rw [hb] at hF
   clear hb
   refine wp_skip ?_
   refine c_then ?_
   have hW := hW.frontM (i := 2) rfl rfl
   have hW := hW.frontM (i := 2) rfl rfl
   have hW := hW.frontM (i := 2) rfl rfl
   exact ⟨_, _, _, H, hF.re ⟨rfl, rfl, rfl, rfl, trivial⟩, hW⟩
 rintro a w ⟨x17, x18, x19, hj, hF, hW⟩
 have hj := Option.some.inj hj
 subst hj
 have H := K5
 clear G5 K5
 obtain ⟨o6, G6, K6⟩ := bindE H
 refine c_seqJ (fun a w => ∃ x21 : List UInt8, ∃ x22 : Int, ∃ x23 : Int, some ((x21, x22, x23)) = some o6 ∧ Fr 72 [] [(0, .pointer (some ⟨q_p0, 0, none⟩)), (2, .pointer (some ⟨b1, 0, none⟩)), (3, .pointer (some ⟨b2, 0, none⟩)), (4, .int .i64 ((proto_fields x1.1).1))] a ∧ Stw ⟨Y, X, w0⟩ [(q_p0, [.string (bs x21), .int .i64 x22]), (b2, [.int .i64 x1.1, .int .i64 x2.1, .int .i64 x19, .int .i64 x23, .int .i64 x7, .int .i64 x11, .int .i64 x15, .int .i64 0, .int .i64 0, .slice none 0 0]), (b1, [.int .i64 0, .int .i64 0, .int .i64 0, .int .i64 0, .int .i64 0, .int .i64 0, .int .i64 0, .int .i64 0, .int .i64 0, .slice none 0 0])] [] w) ?_ ?_
 ·
  have H := G6
  clear G6 K6
  refine c_seq ?_
  refine reg_list ?_
  refine ls hF hW rfl ((y_move hF rfl).q) (fun a w hF hW => ?_)
  refine ls hF hW rfl ((y_and hF rfl rfl).q) (fun a w hF hW => ?_)
  refine ls hF hW rfl ((y_neq hF rfl rfl).q) (fun a w hF hW => ?_)
  refine ls_nil ?_
  refine c_then ?_
  refine c_cond hF rfl (fun hb => ?_) (fun hb => ?_)
  ·
   have H := iteT (of_decide_eq_true hb) H
   rw [hb] at hF
   clear hb
   refine reg_list ?_
   refine ls hF hW rfl ((y_move hF rfl).q) (fun a w hF hW => ?_)
   obtain ⟨x24, h7, H⟩ := bindE H
   refine l_callG (Ml := [(q_p0, [.string (bs x17), .int .i64 x18])]) (Zl := []) (M := [(b2, [.int .i64 x1.1, .int .i64 x2.1, .int .i64 x19, .int .i64 0, .int .i64 x7, .int .i64 x11, .int .i64 x15, .int .i64 0, .int .i64 0, .slice none 0 0]), (b1, [.int .i64 0, .int .i64 0, .int .i64 0, .int .i64 0, .int .i64 0, .int .i64 0, .int .i64 0, .int .i64 0, .int .i64 0, .slice none 0 0])]) (Z := []) (β := Unit) (rv := fun x => .int .i64 x24.1) (MM := fun x => [(q_p0, [.string (bs x24.2.1), .int .i64 x24.2.2])]) (ZZ := fun x => []) hF hW H53 rfl rfl (fun hL => octet_Reader_Num_c _ _ w q_p0 (x17, x18) 1 _ h7 hL) (fun x a w hF hW => ?_)
   have hW : Stw ⟨Y, X, w0⟩ [(q_p0, [.string (bs x24.2.1), .int .i64 x24.2.2]), (b2, [.int .i64 x1.1, .int .i64 x2.1, .int .i64 x19, .int .i64 0, .int .i64 x7, .int .i64 x11, .int .i64 x15, .int .i64 0, .int .i64 0, .slice none 0 0]), (b1, [.int .i64 0, .int .i64 0, .int .i64 0, .int .i64 0, .int .i64 0, .int .i64 0, .int .i64 0, .int .i64 0, .int .i64 0, .slice none 0 0])] [] w := hW
   refine ls hF hW rfl ((y_sub hF rfl rfl rfl).q) (fun a w hF hW => ?_)
   refine ls hF hW rfl ((y_fieldAddr u24_ rfl rfl rfl T3 hF rfl 3 rfl).q) (fun a w hF hW => ?_)
   refine l_store (vs := [.int .i64 (w64 (x24.1 - 1))]) (M' := [(q_p0, [.string (bs x24.2.1), .int .i64 x24.2.2]), (b2, [.int .i64 x1.1, .int .i64 x2.1, .int .i64 x19, .int .i64 (w64 (x24.1 - 1)), .int .i64 x7, .int .i64 x11, .int .i64 x15, .int .i64 0, .int .i64 0, .slice none 0 0]), (b1, [.int .i64 0, .int .i64 0, .int .i64 0, .int .i64 0, .int .i64 0, .int .i64 0, .int .i64 0, .int .i64 0, .int .i64 0, .slice none 0 0])]) 1 hF hW rfl rfl rfl T3 rfl rfl rfl rfl rfl (fun w hW => ?_)
   refine ls_nil ?_
   refine c_then ?_
   have hW := hW.frontM (i := 2) rfl rfl
   have hW := hW.frontM (i := 2) rfl rfl
   have hW := hW.frontM (i := 2) rfl rfl
   exact ⟨_, _, _, H, hF.re ⟨rfl, rfl, rfl, rfl, trivial⟩, hW⟩
  ·
   have H := iteF (of_decide_eq_false hb) H
   rw [hb] at hF
   clear hb
   refine wp_skip ?_
   refine c_then ?_
   have hW := hW.frontM (i := 2) rfl rfl
   have hW := hW.frontM (i := 2) rfl rfl
   have hW := hW.frontM (i := 2) rfl rfl
   exact ⟨_, _, _, H, hF.re ⟨rfl, rfl, rfl, rfl, trivial⟩, hW⟩
 rintro a w ⟨x21, x22, x23, hj, hF, hW⟩
 have hj := Option.some.inj hj
 subst hj
 have H := K6
 clear G6 K6
 obtain ⟨o7, G7, K7⟩ := bindE H
 refine c_seqJ (fun a w => ∃ x25 : List UInt8, ∃ x26 : Int, ∃ x27 : Int, some ((x25, x26, x27)) = some o7 ∧ Fr 72 [] [(0, .pointer (some ⟨q_p0, 0, none⟩)), (2, .pointer (some ⟨b1, 0, none⟩)), (3, .pointer (some ⟨b2, 0, none⟩)), (4, .int .i64 ((proto_fields x1.1).1))] a ∧ Stw ⟨Y, X, w0⟩ [(q_p0, [.string (bs x25), .int .i64 x26]), (b2, [.int .i64 x1.1, .int .i64 x2.1, .int .i64 x19, .int .i64 x23, .int .i64 x7, .int .i64 x11, .int .i64 x15, .int .i64 x27, .int .i64 0, .slice none 0 0]), (b1, [.int .i64 0, .int .i64 0, .int .i64 0, .int .i64 0, .int .i64 0, .int .i64 0, .int .i64 0, .int .i64 0, .int .i64 0, .slice none 0 0])] [] w) ?_ ?_
 ·
  have H := G7
  clear G7 K7
  refine c_seq ?_
  refine reg_list ?_
  refine ls hF hW rfl ((y_move hF rfl).q) (fun a w hF hW => ?_)
  refine ls hF hW rfl ((y_and hF rfl rfl).q) (fun a w hF hW => ?_)
  refine ls hF hW rfl ((y_neq hF rfl rfl).q) (fun a w hF hW => ?_)
  refine ls_nil ?_
  refine c_then ?_
  refine c_cond hF rfl (fun hb => ?_) (fun hb => ?_)
  ·
   have H := iteT (of_decide_eq_true hb) H
   rw [hb] at hF
   clear hb
   refine reg_list ?_
   refine ls hF hW rfl ((y_move hF rfl).q) (fun a w hF hW => ?_)
   obtain ⟨x28, h8, H⟩ := bindE H
   refine l_callG (Ml := [(q_p0, [.string (bs x21), .int .i64 x22])]) (Zl := []) (M := [(b2, [.int .i64 x1.1, .int .i64 x2.1, .int .i64 x19, .int .i64 x23, .int .i64 x7, .int .i64 x11, .int .i64 x15, .int .i64 0, .int .i64 0, .slice none 0 0]), (b1, [.int .i64 0, .int .i64 0, .int .i64 0, .int .i64 0, .int .i64 0, .int .i64 0, .int .i64 0, .int .i64 0, .int .i64 0, .slice none 0 0])]) (Z := []) (β := Unit) (rv := fun x => .int .i64 x28.1) (MM := fun x => [(q_p0, [.string (bs x28.2.1), .int .i64 x28.2.2])]) (ZZ := fun x => []) hF hW H53 rfl rfl (fun hL => octet_Reader_Num_c _ _ w q_p0 (x21, x22) 1 _ h8 hL) (fun x a w hF hW => ?_)
   have hW : Stw ⟨Y, X, w0⟩ [(q_p0, [.string (bs x28.2.1), .int .i64 x28.2.2]), (b2, [.int .i64 x1.1, .int .i64 x2.1, .int .i64 x19, .int .i64 x23, .int .i64 x7, .int .i64 x11, .int .i64 x15, .int .i64 0, .int .i64 0, .slice none 0 0]), (b1, [.int .i64 0, .int .i64 0, .int .i64 0, .int .i64 0, .int .i64 0, .int .i64 0, .int .i64 0, .int .i64 0, .int .i64 0, .slice none 0 0])] [] w := hW
   refine ls hF hW rfl ((y_fieldAddr u24_ rfl rfl rfl T3 hF rfl 7 rfl).q) (fun a w hF hW => ?_)
   refine l_store (vs := [.int .i64 x28.1]) (M' := [(q_p0, [.string (bs x28.2.1), .int .i64 x28.2.2]), (b2, [.int .i64 x1.1, .int .i64 x2.1, .int .i64 x19, .int .i64 x23, .int .i64 x7, .int .i64 x11, .int .i64 x15, .int .i64 x28.1, .int .i64 0, .slice none 0 0]), (b1, [.int .i64 0, .int .i64 0, .int .i64 0, .int .i64 0, .int .i64 0, .int .i64 0, .int .i64 0, .int .i64 0, .int .i64 0, .slice none 0 0])]) 1 hF hW rfl rfl rfl T3 rfl rfl rfl rfl rfl (fun w hW => ?_)
   refine ls_nil ?_
   refine c_then ?_
   have hW := hW.frontM (i := 2) rfl rfl
   have hW := hW.frontM (i := 2) rfl rfl
   have hW := hW.frontM (i := 2) rfl rfl
   exact ⟨_, _, _, H, hF.re ⟨rfl, rfl, rfl, rfl, trivial⟩, hW⟩
  ·
   have H := iteF (of_decide_eq_false hb) H
   rw [hb] at hF
   clear hb
   refine wp_skip ?_
   refine c_then ?_
   have hW := hW.frontM (i := 2) rfl rfl
   have hW := hW.frontM (i := 2) rfl rfl
   have hW := hW.frontM (i := 2) rfl rfl
   exact ⟨_, _, _, H, hF.re ⟨rfl, rfl, rfl, rfl, trivial⟩, hW⟩
 rintro a w ⟨x25, x26, x27, hj, hF, hW⟩
 have hj := Option.some.inj hj
 subst hj
 have H := K7
 clear G7 K7
 obtain ⟨o8, G8, K8⟩ := bindE H
 refine c_seqJ (fun a w => ∃ x29 : List UInt8, ∃ x30 : Int, ∃ x31 : Int, some ((x29, x30, x31)) = some o8 ∧ Fr 72 [] [(0, .pointer (some ⟨q_p0, 0, none⟩)), (2, .pointer (some ⟨b1, 0, none⟩)), (3, .pointer (some ⟨b2, 0, none⟩)), (4, .int .i64 ((proto_fields x1.1).1))] a ∧ Stw ⟨Y, X, w0⟩ [(q_p0, [.string (bs x29), .int .i64 x30]), (b2, [.int .i64 x1.1, .int .i64 x2.1, .int .i64 x19, .int .i64 x23, .int .i64 x7, .int .i64 x11, .int .i64 x15, .int .i64 x27, .int .i64 x31, .slice none 0 0]), (b1, [.int .i64 0, .int .i64 0, .int .i64 0, .int .i64 0, .int .i64 0, .int .i64 0, .int .i64 0, .int .i64 0, .int .i64 0, .slice none 0 0])] [] w) ?_ ?_
 ·
  have H := G8
  clear G8 K8
  refine c_seq ?_
  refine reg_list ?_
  refine ls hF hW rfl ((y_move hF rfl).q) (fun a w hF hW => ?_)
  refine ls hF hW rfl ((y_and hF rfl rfl).q) (fun a w hF hW => ?_)
  refine ls hF hW rfl ((y_neq hF rfl rfl).q) (fun a w hF hW => ?_)
  refine ls_nil ?_
  refine c_then ?_
  refine c_cond hF rfl (fun hb => ?_) (fun hb => ?_)
  ·
   have H := iteT (of_decide_eq_true hb) H
   rw [hb] at hF
   clear hb
   refine reg_list ?_
   refine ls hF hW rfl ((y_move hF rfl).q) (fun a w hF hW => ?_)
   obtain ⟨x32, h9, H⟩ := bindE H
   refine l_callG (Ml := [(q_p0, [.string (bs x25), .int .i64 x26])]) (Zl := []) (M := [(b2, [.int .i64 x1.1, .int .i64 x2.1, .int .i64 x19, .int .i64 x23, .int .i64 x7, .int .i64 x11, .int .i64 x15, .int .i64 x27, .int .i64 0, .slice none 0 0]), (b1, [.int .i64 0, .int .i64 0, .int .i64 0, .int .i64 0, .int .i64 0, .int .i64 0, .int .i64 0, .int .i64 0, .int .i64 0, .slice none 0 0])]) (Z := []) (β := Unit) (rv := fun x => .int .i64 x32.1) (MM := fun x => [(q_p0, [.string (bs x32.2.1), .int .i64 x32.2.2])]) (ZZ := fun x => []) hF hW H53 rfl rfl (fun hL => octet_Reader_Num_c _ _ w q_p0 (x25, x26) 1 _ h9 hL) (fun x a w hF hW => ?_)
   have hW : Stw ⟨Y, X, w0⟩ [(q_p0, [.string (bs x32.2.1), .int .i64 x32.2.2]), (b2, [.int .i64 x1.1, .int .i64 x2.1, .int .i64 x19, .int .i64 x23, .int .i64 x7, .int .i64 x11, .int .i64 x15, .int .i64 x27, .int .i64 0, .slice none 0 0]), (b1, [.int .i64 0, .int .i64 0, .int .i64 0, .int .i64 0, .int .i64 0, .int .i64 0, .int .i64 0, .int .i64 0, .int .i64 0, .slice none 0 0])] [] w := hW
   refine ls hF hW rfl ((y_fieldAddr u24_ rfl rfl rfl T3 hF rfl 8 rfl).q) (fun a w hF hW => ?_)
   refine l_store (vs := [.int .i64 x32.1]) (M' := [(q_p0, [.string (bs x32.2.1), .int .i64 x32.2.2]), (b2, [.int .i64 x1.1, .int .i64 x2.1, .int .i64 x19, .int .i64 x23, .int .i64 x7, .int .i64 x11, .int .i64 x15, .int .i64 x27, .int .i64 x32.1, .slice none 0 0]), (b1, [.int .i64 0, .int .i64 0, .int .i64 0, .int .i64 0, .int .i64 0, .int .i64 0, .int .i64 0, .int .i64 0, .int .i64 0, .slice none 0 0])]) 1 hF hW rfl rfl rfl T3 rfl rfl rfl rfl rfl (fun w hW => ?_)
   refine ls_nil ?_
   refine c_then ?_
   have hW := hW.frontM (i := 2) rfl rfl
   have hW := hW.frontM (i := 2) rfl rfl
   have hW := hW.frontM (i := 2) rfl rfl
   exact ⟨_, _, _, H, hF.re ⟨rfl, rfl, rfl, rfl, trivial⟩, hW⟩
  ·
   have H := iteF (of_decide_eq_false hb) H
   rw [hb] at hF
   clear hb
   refine wp_skip ?_
   refine c_then ?_
   have hW := hW.frontM (i := 2) rfl rfl
   have hW := hW.frontM (i := 2) rfl rfl
   have hW := hW.frontM (i := 2) rfl rfl
   exact ⟨_, _, _, H, hF.re ⟨rfl, rfl, rfl, rfl, trivial⟩, hW⟩
 rintro a w ⟨x29, x30, x31, hj, hF, hW⟩
 have hj := Option.some.inj hj
 subst hj
 have H := K8
 clear G8 K8
 obtain ⟨o9, G9, K9⟩ := bindE H
 refine c_seqJ (fun a w => ∃ x33 : List UInt8, ∃ x34 : Int, ∃ x35 : List (Int × (Int × (Int × (Int × Int × Int × Int) × (Int × Int × Int × Int)) × (List (Int × Int × Int))) × Bool), ∃ v1 : Value, some ((x33, x34, x35)) = some o9 ∧ Fr 72 [] [(2, .pointer (some ⟨b1, 0, none⟩)), (3, .pointer (some ⟨b2, 0, none⟩))] a ∧ Stw ⟨Y, X, w0⟩ [(q_p0, [.string (bs x33), .int .i64 x34]), (b2, [.int .i64 x1.1, .int .i64 x2.1, .int .i64 x19, .int .i64 x23, .int .i64 x7, .int .i64 x11, .int .i64 x15, .int .i64 x27, .int .i64 x31, v1]), (b1, [.int .i64 0, .int .i64 0, .int .i64 0, .int .i64 0, .int .i64 0, .int .i64 0, .int .i64 0, .int .i64 0, .int .i64 0, .slice none 0 0])] [row v1 42 R42 x35] w) ?_ ?_
 ·
  have H := G9
  clear G9 K9
  refine c_seq ?_
  refine reg_list ?_
  refine ls hF hW rfl ((y_move hF rfl).q) (fun a w hF hW => ?_)
  refine ls hF hW rfl ((y_and hF rfl rfl).q) (fun a w hF hW => ?_)
  refine ls hF hW rfl ((y_neq hF rfl rfl).q) (fun a w hF hW => ?_)
  refine ls_nil ?_
  refine c_then ?_
  refine c_cond hF rfl (fun hb => ?_) (fun hb => ?_)
  ·
   have H := iteT (of_decide_eq_true hb) H
   rw [hb] at hF
   clear hb
   refine reg_list ?_
   refine ls hF hW rfl ((y_move hF rfl).q) (fun a w hF hW => ?_)
   obtain ⟨x36, h10, H⟩ := bindE H
   refine l_callG (Ml := [(q_p0, [.string (bs x29), .int .i64 x30])]) (Zl := []) (M := [(b2, [.int .i64 x1.1, .int .i64 x2.1, .int .i64 x19, .int .i64 x23, .int .i64 x7, .int .i64 x11, .int .i64 x15, .int .i64 x27, .int .i64 x31, .slice none 0 0]), (b1, [.int .i64 0, .int .i64 0, .int .i64 0, .int .i64 0, .int .i64 0, .int .i64 0, .int .i64 0, .int .i64 0, .int .i64 0, .slice none 0 0])]) (Z := []) (β := Value) (rv := fun x => x) (MM := fun x => [(q_p0, [.string (bs x36.2.1), .int .i64 x36.2.2])]) (ZZ := fun x => [row x 42 R42 x36.1]) hF hW H56 rfl rfl (fun hL => proto_readMods_c _ _ w q_p0 (x29, x30) _ h10 hL) (fun x a w hF hW => ?_)
   obtain ⟨v2, rfl⟩ : ∃ y, y = x := ⟨x, rfl⟩
   have hW : Stw ⟨Y, X, w0⟩ [(q_p0, [.string (bs x36.2.1), .int .i64 x36.2.2]), (b2, [.int .i64 x1.1, .int .i64 x2.1, .int .i64 x19, .int .i64 x23, .int .i64 x7, .int .i64 x11, .int .i64 x15, .int .i64 x27, .int .i64 x31, .slice none 0 0]), (b1, [.int .i64 0, .int .i64 0, .int .i64 0, .int .i64 0, .int .i64 0, .int .i64 0, .int .i64 0, .int .i64 0, .int .i64 0, .slice none 0 0])] [row v2 42 R42 x36.1] w := hW
   refine ls hF hW rfl ((y_fieldAddr u24_ rfl rfl rfl T22 hF rfl 9 rfl).q) (fun a w hF hW => ?_)
   refine l_store1 (M' := [(q_p0, [.string (bs x36.2.1), .int .i64 x36.2.2]), (b2, [.int .i64 x1.1, .int .i64 x2.1, .int .i64 x19, .int .i64 x23, .int .i64 x7, .int .i64 x11, .int .i64 x15, .int .i64 x27, .int .i64 x31, v2]), (b1, [.int .i64 0, .int .i64 0, .int .i64 0, .int .i64 0, .int .i64 0, .int .i64 0, .int .i64 0, .int .i64 0, .int .i64 0, .slice none 0 0])]) 1 hF hW rfl rfl rfl T22 (hW.one (k := 0) rfl) rfl rfl (fun w hW => ?_)
   refine ls_nil ?_
   refine c_then ?_
   have hW := hW.frontM (i := 2) rfl rfl
   have hW := hW.frontM (i := 2) rfl rfl
   have hW := hW.frontM (i := 2) rfl rfl
   exact ⟨_, _, _, (v2), H, hF.re ⟨rfl, rfl, trivial⟩, hW⟩
  ·
   have H := iteF (of_decide_eq_false hb) H
   rw [hb] at hF
   clear hb
   refine wp_skip ?_
   refine c_then ?_
   have hW := hW.nilRow 42 R42
   have hW := hW.frontM (i := 2) rfl rfl
   have hW := hW.frontM (i := 2) rfl rfl
   have hW := hW.frontM (i := 2) rfl rfl
   exact ⟨_, _, _, (Value.slice none 0 0), H, hF.re ⟨rfl, rfl, trivial⟩, hW⟩
 rintro a w ⟨x33, x34, x35, v1, hj, hF, hW⟩
 have hj := Option.some.inj hj
 subst hj
 have H := K9
 clear G9 K9
 refine c_seq ?_
 refine reg_list ?_
 refine ls hF hW rfl ((y_load (v := Value.agg #[.int .i64 x1.1, .int .i64 x2.1, .int .i64 x19, .int .i64 x23, .int .i64 x7, .int .i64 x11, .int .i64 x15, .int .i64 x27, .int .i64 x31, v1]) 1 hF rfl rfl T24 rfl).q) (fun a w hF hW => ?_)
 refine l_store (vs := [.int .i64 x1.1, .int .i64 x2.1, .int .i64 x19, .int .i64 x23, .int .i64 x7, .int .i64 x11, .int .i64 x15, .int .i64 x27, .int .i64 x31, v1]) (M' := [(q_p0, [.string (bs x33), .int .i64 x34]), (b2, [.int .i64 x1.1, .int .i64 x2.1, .int .i64 x19, .int .i64 x23, .int .i64 x7, .int .i64 x11, .int .i64 x15, .int .i64 x27, .int .i64 x31, v1]), (b1, [.int .i64 x1.1, .int .i64 x2.1, .int .i64 x19, .int .i64 x23, .int .i64 x7, .int .i64 x11, .int .i64 x15, .int .i64 x27, .int .i64 x31, v1])]) 2 hF hW rfl rfl rfl T24 rfl rfl rfl (one_cons rfl (one_cons rfl (one_cons rfl (one_cons rfl (one_cons rfl (one_cons rfl (one_cons rfl (one_cons rfl (one_cons rfl (one_cons (hW.one (k := 0) rfl) one_nil)))))))))) rfl (fun w hW => ?_)
 refine ls_nil ?_
 refine c_then ?_
 refine wp_ret ?_
 have H := Option.some.inj H
 subst H
 refine post1 (.inl rfl) hF hW rfl (rv_cell 2 hF rfl rfl T24 rfl) ?_
 have hW := hW.sub (M' := [(q_p0, [.string (bs x33), .int .i64 x34])]) (Z' := [row v1 42 R42 x35]) (List.Sublist.cons_cons _ (List.nil_sublist _)) (List.Sublist.refl _)
 exact ⟨(v1), rfl, hW⟩

theorem H38 : Has Try.prog 38 := ⟨fun args w => run_callFunc_body Try.func38 rfl (by decide) args w⟩
noncomputable def octet_Reader_End (p0 : List UInt8 × Int) : Option (Int × (List UInt8 × Int)) := (if 0 < (octet_Reader_Left p0) then some ((octet_Reader_Wrong p0 5).1, (octet_Reader_Wrong p0 5).2) else some (p0.1, p0.2)).bind fun (x1, x2) => some (x2, (x1, x2))
theorem octet_Reader_End_c (Y : Nat → Prop) (X : List Nat) (w0 : World) (q_p0 : Nat) (p0 : List UInt8 × Int) (r : Int × (List UInt8 × Int)) (H : octet_Reader_End p0 = some r) (hL : Stw ⟨Y, X, w0⟩ [(q_p0, [.string (bs p0.1), .int .i64 p0.2])] [] w0) :
    Calls Try.prog 39 #[.pointer (some ⟨q_p0, 0, none⟩)] w0 fun e w' => ∃ x : Unit, e = .returned (.int .i64 r.1) ∧ Stw ⟨Y, X, w0⟩ [(q_p0, [.string (bs r.2.1), .int .i64 r.2.2])] [] w' := by
 refine enter Try.func39 rfl Try.ntmps39 rfl (fun a hF => ?_)
 have hW := hL
 unfold octet_Reader_End at H
 refine c_seq ?_
 refine reg_list ?_
 refine ls hF hW rfl ((y_assign hF rfl).q) (fun a w hF hW => ?_)
 refine ls_nil ?_
 refine c_then ?_
 refine c_seq ?_
 refine c_seq ?_
 refine reg_list ?_
 refine ls hF hW rfl ((y_move hF rfl).q) (fun a w hF hW => ?_)
 refine ls hF hW rfl ((y_peq_some_nil u68_ hF rfl rfl).q) (fun a w hF hW => ?_)
 refine ls_nil ?_
 refine c_then ?_
 refine c_cond_f hF rfl ?_
 refine wp_skip ?_
 refine c_then ?_
 obtain ⟨o1, G1, K1⟩ := bindE H
 refine c_seqJ (fun a w => ∃ x1 : List UInt8, ∃ x2 : Int, some ((x1, x2)) = some o1 ∧ Fr 14 [] [(0, .pointer (some ⟨q_p0, 0, none⟩)), (2, .int .i64 0)] a ∧ Stw ⟨Y, X, w0⟩ [(q_p0, [.string (bs x1), .int .i64 x2])] [] w) ?_ ?_
 ·
  have H := G1
  clear G1 K1
  refine c_seq ?_
  refine reg_list ?_
  refine ls hF hW rfl ((y_move hF rfl).q) (fun a w hF hW => ?_)
  refine ls hF hW rfl (y_call (v := Value.int .i64 (octet_Reader_Left p0)) hF H57 rfl (fun w hW => octet_Reader_Left_c any w q_p0 p0 _ rfl (at_M hW 0 rfl))) (fun a w hF hW => ?_)
  refine ls hF hW rfl ((y_gtr hF rfl rfl).q) (fun a w hF hW => ?_)
  refine ls_nil ?_
  refine c_then ?_
  refine c_cond hF rfl (fun hb => ?_) (fun hb => ?_)
  ·
   have H := iteT (of_decide_eq_true hb) H
   rw [hb] at hF
   clear hb
   refine reg_list ?_
   refine ls hF hW rfl ((y_move hF rfl).q) (fun a w hF hW => ?_)
   refine l_callG (Ml := [(q_p0, [.string (bs p0.1), .int .i64 p0.2])]) (Zl := []) (M := []) (Z := []) (β := Unit) (rv := fun x => .tuple #[]) (MM := fun x => [(q_p0, [.string (bs ((octet_Reader_Wrong p0 5).1)), .int .i64 ((octet_Reader_Wrong p0 5).2)])]) (ZZ := fun x => []) hF hW H54 rfl rfl (fun hL => octet_Reader_Wrong_c _ _ w q_p0 p0 5 _ rfl hL) (fun x a w hF hW => ?_)
   have hW : Stw ⟨Y, X, w0⟩ [(q_p0, [.string (bs ((octet_Reader_Wrong p0 5).1)), .int .i64 ((octet_Reader_Wrong p0 5).2)])] [] w := hW
   refine ls_nil ?_
   refine c_then ?_
   exact ⟨_, _, H, hF.re ⟨rfl, rfl, trivial⟩, hW⟩
  ·
   have H := iteF (of_decide_eq_false hb) H
   rw [hb] at hF
   clear hb
   refine wp_skip ?_
   refine c_then ?_
   exact ⟨_, _, H, hF.re ⟨rfl, rfl, trivial⟩, hW⟩
 rintro a w ⟨x1, x2, hj, hF, hW⟩
 have hj := Option.some.inj hj
 subst hj
 have H := K1
 clear G1 K1
 refine c_seq ?_
 refine reg_list ?_
 refine ls hF hW rfl ((y_move hF rfl).q) (fun a w hF hW => ?_)
 refine ls hF hW rfl ((y_nilCheck hF rfl).q) (fun a w hF hW => ?_)
 refine ls hF hW rfl ((y_fieldAddr u83_ rfl rfl rfl T30 hF rfl 1 rfl).q) (fun a w hF hW => ?_)
 refine ls hF hW rfl ((y_load (v := Value.int .i64 x2) 0 hF rfl rfl T30 rfl).q) (fun a w hF hW => ?_)
 refine ls hF hW rfl ((y_assign hF rfl).q) (fun a w hF hW => ?_)
 refine ls_nil ?_
 refine c_then ?_
 refine wp_ret ?_
 have H := Option.some.inj H
 subst H
 refine post1 (.inl rfl) hF hW rfl (rv_tmp hF rfl) ?_
 exact ⟨(), rfl, hW⟩

theorem H39 : Has Try.prog 39 := ⟨fun args w => run_callFunc_body Try.func39 rfl (by decide) args w⟩
noncomputable def proto_Parse (p0 : List UInt8) : Option ((Int × Int × Int × Int × Int × Int × Int × Int × Int × (List (Int × (Int × (Int × (Int × Int × Int × Int) × (Int × Int × Int × Int)) × (List (Int × Int × Int))) × Bool))) × Int) := (proto_read (octet_Open p0)).bind fun x1 => (octet_Reader_End x1.2).bind fun x2 => (if x2.1 ≠ 0 then some ((0, 0, 0, 0, 0, 0, 0, 0, 0, ([] : List (Int × (Int × (Int × (Int × Int × Int × Int) × (Int × Int × Int × Int)) × (List (Int × Int × Int))) × Bool))), x2.1) else (proto_Right x1.1).bind fun x3 => (if (!x3) = true then some ((0, 0, 0, 0, 0, 0, 0, 0, 0, ([] : List (Int × (Int × (Int × (Int × Int × Int × Int) × (Int × Int × Int × Int)) × (List (Int × Int × Int))) × Bool))), 2) else some (x1.1, 0)))
theorem proto_Parse_c (Y : Nat → Prop) (w0 : World)  (p0 : List UInt8) (r : (Int × Int × Int × Int × Int × Int × Int × Int × Int × (List (Int × (Int × (Int × (Int × Int × Int × Int) × (Int × Int × Int × Int)) × (List (Int × Int × Int))) × Bool))) × Int) (H : proto_Parse p0 = some r)  :
    Calls Try.prog 15 #[.string (bs p0)] w0 fun e w' => ∃ x : Value, e = .returned (.tuple #[.agg #[.int .i64 r.1.1, .int .i64 r.1.2.1, .int .i64 r.1.2.2.1, .int .i64 r.1.2.2.2.1, .int .i64 r.1.2.2.2.2.1, .int .i64 r.1.2.2.2.2.2.1, .int .i64 r.1.2.2.2.2.2.2.1, .int .i64 r.1.2.2.2.2.2.2.2.1, .int .i64 r.1.2.2.2.2.2.2.2.2.1, x], .int .i64 r.2]) ∧ Stw ⟨Y, [], w0⟩ [] [row (x) 42 R42 r.1.2.2.2.2.2.2.2.2.2] w' := by
 refine enter Try.func15 rfl Try.ntmps15 rfl (fun a hF => ?_)
 have hW := Stw.start Y w0
 unfold proto_Parse at H
 refine c_seq ?_
 refine reg_list ?_
 refine l_alloc (cs := [.int .i64 0, .int .i64 0, .int .i64 0, .int .i64 0, .int .i64 0, .int .i64 0, .int .i64 0, .int .i64 0, .int .i64 0, .slice none 0 0]) hF hW rfl Z24 rfl (fun b1 a w hF hW => ?_)
 refine ls hF hW rfl ((y_assign hF rfl).q) (fun a w hF hW => ?_)
 refine ls_nil ?_
 refine c_then ?_
 refine c_seq ?_
 refine reg_list ?_
 refine ls hF hW rfl ((y_move hF rfl).q) (fun a w hF hW => ?_)
 refine l_callG (Ml := []) (Zl := []) (M := [(b1, [.int .i64 0, .int .i64 0, .int .i64 0, .int .i64 0, .int .i64 0, .int .i64 0, .int .i64 0, .int .i64 0, .int .i64 0, .slice none 0 0])]) (Z := []) (β := Nat) (rv := fun x => .pointer (some ⟨x, 0, none⟩)) (MM := fun x => [(x, [.string (bs ((octet_Open p0).1)), .int .i64 ((octet_Open p0).2)])]) (ZZ := fun x => []) hF hW H37 rfl rfl (fun hL => octet_Open_c _ w p0 _ rfl) (fun x a w hF hW => ?_)
 obtain ⟨b2, rfl⟩ : ∃ y, y = x := ⟨x, rfl⟩
 have hW : Stw ⟨Y, [], w0⟩ [(b2, [.string (bs ((octet_Open p0).1)), .int .i64 ((octet_Open p0).2)]), (b1, [.int .i64 0, .int .i64 0, .int .i64 0, .int .i64 0, .int .i64 0, .int .i64 0, .int .i64 0, .int .i64 0, .int .i64 0, .slice none 0 0])] [] w := hW
 refine ls hF hW rfl ((y_assign hF rfl).q) (fun a w hF hW => ?_)
 refine ls_nil ?_
 refine c_then ?_
 refine c_seq ?_
 refine reg_list ?_
 refine ls hF hW rfl ((y_move hF rfl).q) (fun a w hF hW => ?_)
 obtain ⟨x1, h1, H⟩ := bindE H
 refine l_callG (Ml := [(b2, [.string (bs ((octet_Open p0).1)), .int .i64 ((octet_Open p0).2)])]) (Zl := []) (M := [(b1, [.int .i64 0, .int .i64 0, .int .i64 0, .int .i64 0, .int .i64 0, .int .i64 0, .int .i64 0, .int .i64 0, .int .i64 0, .slice none 0 0])]) (Z := []) (β := Value) (rv := fun x => .agg #[.int .i64 x1.1.1, .int .i64 x1.1.2.1, .int .i64 x1.1.2.2.1, .int .i64 x1.1.2.2.2.1, .int .i64 x1.1.2.2.2.2.1, .int .i64 x1.1.2.2.2.2.2.1, .int .i64 x1.1.2.2.2.2.2.2.1, .int .i64 x1.1.2.2.2.2.2.2.2.1, .int .i64 x1.1.2.2.2.2.2.2.2.2.1, x]) (MM := fun x => [(b2, [.string (bs x1.2.1), .int .i64 x1.2.2])]) (ZZ := fun x => [row x 42 R42 x1.1.2.2.2.2.2.2.2.2.2]) hF hW H38 rfl rfl (fun hL => proto_read_c _ _ w b2 (octet_Open p0) _ h1 hL) (fun x a w hF hW => ?_)
 obtain ⟨v1, rfl⟩ : ∃ y, y = x := ⟨x, rfl⟩
 have hW : Stw ⟨Y, [], w0⟩ [(b2, [.string (bs x1.2.1), .int .i64 x1.2.2]), (b1, [.int .i64 0, .int .i64 0, .int .i64 0, .int .i64 0, .int .i64 0, .int .i64 0, .int .i64 0, .int .i64 0, .int .i64 0, .slice none 0 0])] [row v1 42 R42 x1.1.2.2.2.2.2.2.2.2.2] w := hW
 refine l_alloc (cs := [.int .i64 0, .int .i64 0, .int .i64 0, .int .i64 0, .int .i64 0, .int .i64 0, .int .i64 0, .int .i64 0, .int .i64 0, .slice none 0 0]) hF hW rfl Z24 rfl (fun b3 a w hF hW => ?_)
 refine l_store (vs := [.int .i64 x1.1.1, .int .i64 x1.1.2.1, .int .i64 x1.1.2.2.1, .int .i64 x1.1.2.2.2.1, .int .i64 x1.1.2.2.2.2.1, .int .i64 x1.1.2.2.2.2.2.1, .int .i64 x1.1.2.2.2.2.2.2.1, .int .i64 x1.1.2.2.2.2.2.2.2.1, .int .i64 x1.1.2.2.2.2.2.2.2.2.1, v1]) (M' := [(b3, [.int .i64 x1.1.1, .int .i64 x1.1.2.1, .int .i64 x1.1.2.2.1, .int .i64 x1.1.2.2.2.1, .int .i64 x1.1.2.2.2.2.1, .int .i64 x1.1.2.2.2.2.2.1, .int .i64 x1.1.2.2.2.2.2.2.1, .int .i64 x1.1.2.2.2.2.2.2.2.1, .int .i64 x1.1.2.2.2.2.2.2.2.2.1, v1]), (b2, [.string (bs x1.2.1), .int .i64 x1.2.2]), (b1, [.int .i64 0, .int .i64 0, .int .i64 0, .int .i64 0, .int .i64 0, .int .i64 0, .int .i64 0, .int .i64 0, .int .i64 0, .slice none 0 0])]) 0 hF hW rfl rfl rfl T24 rfl rfl rfl (one_cons rfl (one_cons rfl (one_cons rfl (one_cons rfl (one_cons rfl (one_cons rfl (one_cons rfl (one_cons rfl (one_cons rfl (one_cons (hW.one (k := 0) rfl) one_nil)))))))))) rfl (fun w hW => ?_)
 refine ls_nil ?_
 refine c_then ?_
 refine c_seq ?_
 refine c_seq ?_
 refine reg_list ?_
 refine ls hF hW rfl ((y_move hF rfl).q) (fun a w hF hW => ?_)
 obtain ⟨x2, h2, H⟩ := bindE H
 have hW := hW.frontM (i := 1) rfl rfl
 refine l_callG (Ml := [(b2, [.string (bs x1.2.1), .int .i64 x1.2.2])]) (Zl := []) (M := [(b3, [.int .i64 x1.1.1, .int .i64 x1.1.2.1, .int .i64 x1.1.2.2.1, .int .i64 x1.1.2.2.2.1, .int .i64 x1.1.2.2.2.2.1, .int .i64 x1.1.2.2.2.2.2.1, .int .i64 x1.1.2.2.2.2.2.2.1, .int .i64 x1.1.2.2.2.2.2.2.2.1, .int .i64 x1.1.2.2.2.2.2.2.2.2.1, v1]), (b1, [.int .i64 0, .int .i64 0, .int .i64 0, .int .i64 0, .int .i64 0, .int .i64 0, .int .i64 0, .int .i64 0, .int .i64 0, .slice none 0 0])]) (Z := [row v1 42 R42 x1.1.2.2.2.2.2.2.2.2.2]) (β := Unit) (rv := fun x => .int .i64 x2.1) (MM := fun x => [(b2, [.string (bs x2.2.1), .int .i64 x2.2.2])]) (ZZ := fun x => []) hF hW H39 rfl rfl (fun hL => octet_Reader_End_c _ _ w b2 x1.2 _ h2 hL) (fun x a w hF hW => ?_)
 have hW : Stw ⟨Y, [], w0⟩ [(b2, [.string (bs x2.2.1), .int .i64 x2.2.2]), (b3, [.int .i64 x1.1.1, .int .i64 x1.1.2.1, .int .i64 x1.1.2.2.1, .int .i64 x1.1.2.2.2.1, .int .i64 x1.1.2.2.2.2.1, .int .i64 x1.1.2.2.2.2.2.1, .int .i64 x1.1.2.2.2.2.2.2.1, .int .i64 x1.1.2.2.2.2.2.2.2.1, .int .i64 x1.1.2.2.2.2.2.2.2.2.1, v1]), (b1, [.int .i64 0, .int .i64 0, .int .i64 0, .int .i64 0, .int .i64 0, .int .i64 0, .int .i64 0, .int .i64 0, .int .i64 0, .slice none 0 0])] [row v1 42 R42 x1.1.2.2.2.2.2.2.2.2.2] w := hW
 refine ls hF hW rfl ((y_assign hF rfl).q) (fun a w hF hW => ?_)
 refine ls_nil ?_
 refine c_then ?_
 refine c_seq ?_
 refine reg_list ?_
 refine ls hF hW rfl ((y_move hF rfl).q) (fun a w hF hW => ?_)
 refine ls hF hW rfl ((y_neq hF rfl rfl).q) (fun a w hF hW => ?_)
 refine ls_nil ?_
 refine c_then ?_
 refine c_cond hF rfl (fun hb => ?_) (fun hb => ?_)
 ·
  have H := iteT (of_decide_eq_true hb) H
  rw [hb] at hF
  clear hb
  refine c_seq ?_
  refine reg_list ?_
  refine ls hF hW rfl ((y_build (v := Value.agg #[.int .i64 0, .int .i64 0, .int .i64 0, .int .i64 0, .int .i64 0, .int .i64 0, .int .i64 0, .int .i64 0, .int .i64 0, .slice none 0 0]) B24 hF rfl rfl rfl).q) (fun a w hF hW => ?_)
  refine ls hF hW rfl ((y_move hF rfl).q) (fun a w hF hW => ?_)
  refine l_store (vs := [.int .i64 0, .int .i64 0, .int .i64 0, .int .i64 0, .int .i64 0, .int .i64 0, .int .i64 0, .int .i64 0, .int .i64 0, .slice none 0 0]) (M' := [(b2, [.string (bs x2.2.1), .int .i64 x2.2.2]), (b3, [.int .i64 x1.1.1, .int .i64 x1.1.2.1, .int .i64 x1.1.2.2.1, .int .i64 x1.1.2.2.2.1, .int .i64 x1.1.2.2.2.2.1, .int .i64 x1.1.2.2.2.2.2.1, .int .i64 x1.1.2.2.2.2.2.2.1, .int .i64 x1.1.2.2.2.2.2.2.2.1, .int .i64 x1.1.2.2.2.2.2.2.2.2.1, v1]), (b1, [.int .i64 0, .int .i64 0, .int .i64 0, .int .i64 0, .int .i64 0, .int .i64 0, .int .i64 0, .int .i64 0, .int .i64 0, .slice none 0 0])]) 2 hF hW rfl rfl rfl T24 rfl rfl rfl rfl rfl (fun w hW => ?_)
  refine ls hF hW rfl ((y_assign hF rfl).q) (fun a w hF hW => ?_)
  refine ls_nil ?_
  refine c_then ?_
  refine wp_ret ?_
  refine r_then ?_
  have H := Option.some.inj H
  subst H
  refine post2 (.inl rfl) hF hW rfl (rv_cell 2 hF rfl rfl T24 rfl) (rv_tmp hF rfl) ?_
  have hW := hW.nilRow 42 R42
  have hW := hW.sub (M' := []) (Z' := [row (Value.slice none 0 0) 42 R42 ([])]) (List.nil_sublist _) (List.Sublist.cons_cons _ (List.nil_sublist _))
  exact ⟨(Value.slice none 0 0), rfl, hW⟩
 ·
  have H := iteF (of_decide_eq_false hb) H
  rw [hb] at hF
  clear hb
  refine wp_skip ?_
  refine c_then ?_
  refine c_seq ?_
  refine c_seq ?_
  refine reg_list ?_
  refine ls hF hW rfl ((y_load (v := Value.agg #[.int .i64 x1.1.1, .int .i64 x1.1.2.1, .int .i64 x1.1.2.2.1, .int .i64 x1.1.2.2.2.1, .int .i64 x1.1.2.2.2.2.1, .int .i64 x1.1.2.2.2.2.2.1, .int .i64 x1.1.2.2.2.2.2.2.1, .int .i64 x1.1.2.2.2.2.2.2.2.1, .int .i64 x1.1.2.2.2.2.2.2.2.2.1, v1]) 1 hF rfl rfl T24 rfl).q) (fun a w hF hW => ?_)
  obtain ⟨x3, h3, H⟩ := bindE H
  refine ls hF hW rfl (y_call (v := Value.bool x3) hF H7 rfl (fun w hW => proto_Right_c any w (v1) x1.1 _ h3 ((rdc_row 0 rfl) w hW))) (fun a w hF hW => ?_)
  refine ls hF hW rfl ((y_not hF rfl).q) (fun a w hF hW => ?_)
  refine ls_nil ?_
  refine c_then ?_
  refine c_cond hF rfl (fun hb => ?_) (fun hb => ?_)
  ·
   have H := iteT hb H
   rw [hb] at hF
   clear hb
   refine c_seq ?_
   refine reg_list ?_
   refine ls hF hW rfl ((y_build (v := Value.agg #[.int .i64 0, .int .i64 0, .int .i64 0, .int .i64 0, .int .i64 0, .int .i64 0, .int .i64 0, .int .i64 0, .int .i64 0, .slice none 0 0]) B24 hF rfl rfl rfl).q) (fun a w hF hW => ?_)
   refine l_store (vs := [.int .i64 0, .int .i64 0, .int .i64 0, .int .i64 0, .int .i64 0, .int .i64 0, .int .i64 0, .int .i64 0, .int .i64 0, .slice none 0 0]) (M' := [(b2, [.string (bs x2.2.1), .int .i64 x2.2.2]), (b3, [.int .i64 x1.1.1, .int .i64 x1.1.2.1, .int .i64 x1.1.2.2.1, .int .i64 x1.1.2.2.2.1, .int .i64 x1.1.2.2.2.2.1, .int .i64 x1.1.2.2.2.2.2.1, .int .i64 x1.1.2.2.2.2.2.2.1, .int .i64 x1.1.2.2.2.2.2.2.2.1, .int .i64 x1.1.2.2.2.2.2.2.2.2.1, v1]), (b1, [.int .i64 0, .int .i64 0, .int .i64 0, .int .i64 0, .int .i64 0, .int .i64 0, .int .i64 0, .int .i64 0, .int .i64 0, .slice none 0 0])]) 2 hF hW rfl rfl rfl T24 rfl rfl rfl rfl rfl (fun w hW => ?_)
   refine ls hF hW rfl ((y_assign hF rfl).q) (fun a w hF hW => ?_)
   refine ls_nil ?_
   refine c_then ?_
   refine wp_ret ?_
   refine r_then ?_
   have H := Option.some.inj H
   subst H
   refine post2 (.inl rfl) hF hW rfl (rv_cell 2 hF rfl rfl T24 rfl) (rv_tmp hF rfl) ?_
   have hW := hW.nilRow 42 R42
   have hW := hW.sub (M' := []) (Z' := [row (Value.slice none 0 0) 42 R42 ([])]) (List.nil_sublist _) (List.Sublist.cons_cons _ (List.nil_sublist _))
   exact ⟨(Value.slice none 0 0), rfl, hW⟩
  ·
   have H := iteF (by rw [hb]; decide) H
   rw [hb] at hF
   clear hb
   refine wp_skip ?_
   refine c_then ?_
   refine c_seq ?_
   refine reg_list ?_
   refine ls hF hW rfl ((y_load (v := Value.agg #[.int .i64 x1.1.1, .int .i64 x1.1.2.1, .int .i64 x1.1.2.2.1, .int .i64 x1.1.2.2.2.1, .int .i64 x1.1.2.2.2.2.1, .int .i64 x1.1.2.2.2.2.2.1, .int .i64 x1.1.2.2.2.2.2.2.1, .int .i64 x1.1.2.2.2.2.2.2.2.1, .int .i64 x1.1.2.2.2.2.2.2.2.2.1, v1]) 1 hF rfl rfl T24 rfl).q) (fun a w hF hW => ?_)
   refine l_store (vs := [.int .i64 x1.1.1, .int .i64 x1.1.2.1, .int .i64 x1.1.2.2.1, .int .i64 x1.1.2.2.2.1, .int .i64 x1.1.2.2.2.2.1, .int .i64 x1.1.2.2.2.2.2.1, .int .i64 x1.1.2.2.2.2.2.2.1, .int .i64 x1.1.2.2.2.2.2.2.2.1, .int .i64 x1.1.2.2.2.2.2.2.2.2.1, v1]) (M' := [(b2, [.string (bs x2.2.1), .int .i64 x2.2.2]), (b3, [.int .i64 x1.1.1, .int .i64 x1.1.2.1, .int .i64 x1.1.2.2.1, .int .i64 x1.1.2.2.2.1, .int .i64 x1.1.2.2.2.2.1, .int .i64 x1.1.2.2.2.2.2.1, .int .i64 x1.1.2.2.2.2.2.2.1, .int .i64 x1.1.2.2.2.2.2.2.2.1, .int .i64 x1.1.2.2.2.2.2.2.2.2.1, v1]), (b1, [.int .i64 x1.1.1, .int .i64 x1.1.2.1, .int .i64 x1.1.2.2.1, .int .i64 x1.1.2.2.2.1, .int .i64 x1.1.2.2.2.2.1, .int .i64 x1.1.2.2.2.2.2.1, .int .i64 x1.1.2.2.2.2.2.2.1, .int .i64 x1.1.2.2.2.2.2.2.2.1, .int .i64 x1.1.2.2.2.2.2.2.2.2.1, v1])]) 2 hF hW rfl rfl rfl T24 rfl rfl rfl (one_cons rfl (one_cons rfl (one_cons rfl (one_cons rfl (one_cons rfl (one_cons rfl (one_cons rfl (one_cons rfl (one_cons rfl (one_cons (hW.one (k := 0) rfl) one_nil)))))))))) rfl (fun w hW => ?_)
   refine ls hF hW rfl ((y_assign hF rfl).q) (fun a w hF hW => ?_)
   refine ls_nil ?_
   refine c_then ?_
   refine wp_ret ?_
   have H := Option.some.inj H
   subst H
   refine post2 (.inl rfl) hF hW rfl (rv_cell 2 hF rfl rfl T24 rfl) (rv_tmp hF rfl) ?_
   have hW := hW.sub (M' := []) (Z' := [row v1 42 R42 x1.1.2.2.2.2.2.2.2.2.2]) (List.nil_sublist _) (List.Sublist.refl _)
   exact ⟨(v1), rfl, hW⟩

theorem H15 : Has Try.prog 15 := ⟨fun args w => run_callFunc_body Try.func15 rfl (by decide) args w⟩
noncomputable def L16_awake  : Option Bool := (proto_Code (1, 3, 0, 0, 9, 0, 0, 0, 0, ([] : List (Int × (Int × (Int × (Int × Int × Int × Int) × (Int × Int × Int × Int)) × (List (Int × Int × Int))) × Bool)))).bind fun x1 => (proto_Parse x1).bind fun x2 => ((proto_Code (1, 3, 0, 0, 9, 0, 0, 0, 0, ([] : List (Int × (Int × (Int × (Int × Int × Int × Int) × (Int × Int × Int × Int)) × (List (Int × Int × Int))) × Bool)))).bind fun x4 => (if (x4.length : Int) = 10 then (if x2.2 = 0 then (proto_Same x2.1 (1, 3, 0, 0, 9, 0, 0, 0, 0, ([] : List (Int × (Int × (Int × (Int × Int × Int × Int) × (Int × Int × Int × Int)) × (List (Int × Int × Int))) × Bool)))).bind fun x5 => (if x5 = true then (proto_Right (1, 3, 0, 0, 9, 0, 0, 0, 0, ([] : List (Int × (Int × (Int × (Int × Int × Int × Int) × (Int × Int × Int × Int)) × (List (Int × Int × Int))) × Bool)))).bind fun x6 => some x6 else some false) else some false) else some false)).bind fun x3 => some x3
theorem L16_awake_c (Y : Nat → Prop) (w0 : World)   (r : Bool) (H : L16_awake  = some r)  :
    Calls Try.prog 6 #[] w0 fun e w' => e = .returned (.bool r) ∧ Below w0.heap.size w0 w' := by
 refine enter Try.func6 rfl Try.ntmps6 rfl (fun a hF => ?_)
 have hW := Stw.start Y w0
 unfold L16_awake at H
 refine c_seq ?_
 refine reg_list ?_
 refine ls hF hW rfl ((y_assign hF rfl).q) (fun a w hF hW => ?_)
 refine ls_nil ?_
 refine c_then ?_
 refine c_seq ?_
 refine reg_list ?_
 refine ls hF hW rfl ((y_build (v := Value.agg #[.int .i64 1, .int .i64 3, .int .i64 0, .int .i64 0, .int .i64 9, .int .i64 0, .int .i64 0, .int .i64 0, .int .i64 0, .slice none 0 0]) B24 hF rfl rfl rfl).q) (fun a w hF hW => ?_)
 refine l_alloc (cs := [.int .i64 0, .int .i64 0, .int .i64 0, .int .i64 0, .int .i64 0, .int .i64 0, .int .i64 0, .int .i64 0, .int .i64 0, .slice none 0 0]) hF hW rfl Z24 rfl (fun b1 a w hF hW => ?_)
 refine l_store (vs := [.int .i64 1, .int .i64 3, .int .i64 0, .int .i64 0, .int .i64 9, .int .i64 0, .int .i64 0, .int .i64 0, .int .i64 0, .slice none 0 0]) (M' := [(b1, [.int .i64 1, .int .i64 3, .int .i64 0, .int .i64 0, .int .i64 9, .int .i64 0, .int .i64 0, .int .i64 0, .int .i64 0, .slice none 0 0])]) 0 hF hW rfl rfl rfl T24 rfl rfl rfl rfl rfl (fun w hW => ?_)
 refine ls_nil ?_
 refine c_then ?_
 refine c_seq ?_
 refine reg_list ?_
 refine ls hF hW rfl ((y_load (v := Value.agg #[.int .i64 1, .int .i64 3, .int .i64 0, .int .i64 0, .int .i64 9, .int .i64 0, .int .i64 0, .int .i64 0, .int .i64 0, .slice none 0 0]) 0 hF rfl rfl T24 rfl).q) (fun a w hF hW => ?_)
 obtain ⟨x1, h1, H⟩ := bindE H
 refine ls hF hW rfl (y_call (v := Value.string (bs x1)) hF H13 rfl (fun w hW => proto_Code_c any w (Value.slice none 0 0) (1, 3, 0, 0, 9, 0, 0, 0, 0, ([] : List (Int × (Int × (Int × (Int × Int × Int × Int) × (Int × Int × Int × Int)) × (List (Int × Int × Int))) × Bool))) _ h1 Sl.nil)) (fun a w hF hW => ?_)
 obtain ⟨x2, h2, H⟩ := bindE H
 refine l_callG (Ml := []) (Zl := []) (M := [(b1, [.int .i64 1, .int .i64 3, .int .i64 0, .int .i64 0, .int .i64 9, .int .i64 0, .int .i64 0, .int .i64 0, .int .i64 0, .slice none 0 0])]) (Z := []) (β := Value) (rv := fun x => .tuple #[.agg #[.int .i64 x2.1.1, .int .i64 x2.1.2.1, .int .i64 x2.1.2.2.1, .int .i64 x2.1.2.2.2.1, .int .i64 x2.1.2.2.2.2.1, .int .i64 x2.1.2.2.2.2.2.1, .int .i64 x2.1.2.2.2.2.2.2.1, .int .i64 x2.1.2.2.2.2.2.2.2.1, .int .i64 x2.1.2.2.2.2.2.2.2.2.1, x], .int .i64 x2.2]) (MM := fun x => []) (ZZ := fun x => [row x 42 R42 x2.1.2.2.2.2.2.2.2.2.2]) hF hW H15 rfl rfl (fun hL => proto_Parse_c _ w x1 _ h2) (fun x a w hF hW => ?_)
 obtain ⟨v1, rfl⟩ : ∃ y, y = x := ⟨x, rfl⟩
 have hW : Stw ⟨Y, [], w0⟩ [(b1, [.int .i64 1, .int .i64 3, .int .i64 0, .int .i64 0, .int .i64 9, .int .i64 0, .int .i64 0, .int .i64 0, .int .i64 0, .slice none 0 0])] [row v1 42 R42 x2.1.2.2.2.2.2.2.2.2.2] w := hW
 refine ls hF hW rfl ((y_move hF rfl).q) (fun a w hF hW => ?_)
 refine ls hF hW rfl ((y_extract (v := Value.agg #[.int .i64 x2.1.1, .int .i64 x2.1.2.1, .int .i64 x2.1.2.2.1, .int .i64 x2.1.2.2.2.1, .int .i64 x2.1.2.2.2.2.1, .int .i64 x2.1.2.2.2.2.2.1, .int .i64 x2.1.2.2.2.2.2.2.1, .int .i64 x2.1.2.2.2.2.2.2.2.1, .int .i64 x2.1.2.2.2.2.2.2.2.2.1, v1]) hF rfl rfl).q) (fun a w hF hW => ?_)
 refine ls hF hW rfl ((y_extract (v := Value.int .i64 x2.2) hF rfl rfl).q) (fun a w hF hW => ?_)
 refine l_alloc (cs := [.int .i64 0, .int .i64 0, .int .i64 0, .int .i64 0, .int .i64 0, .int .i64 0, .int .i64 0, .int .i64 0, .int .i64 0, .slice none 0 0]) hF hW rfl Z24 rfl (fun b2 a w hF hW => ?_)
 refine l_store (vs := [.int .i64 x2.1.1, .int .i64 x2.1.2.1, .int .i64 x2.1.2.2.1, .int .i64 x2.1.2.2.2.1, .int .i64 x2.1.2.2.2.2.1, .int .i64 x2.1.2.2.2.2.2.1, .int .i64 x2.1.2.2.2.2.2.2.1, .int .i64 x2.1.2.2.2.2.2.2.2.1, .int .i64 x2.1.2.2.2.2.2.2.2.2.1, v1]) (M' := [(b2, [.int .i64 x2.1.1, .int .i64 x2.1.2.1, .int .i64 x2.1.2.2.1, .int .i64 x2.1.2.2.2.1, .int .i64 x2.1.2.2.2.2.1, .int .i64 x2.1.2.2.2.2.2.1, .int .i64 x2.1.2.2.2.2.2.2.1, .int .i64 x2.1.2.2.2.2.2.2.2.1, .int .i64 x2.1.2.2.2.2.2.2.2.2.1, v1]), (b1, [.int .i64 1, .int .i64 3, .int .i64 0, .int .i64 0, .int .i64 9, .int .i64 0, .int .i64 0, .int .i64 0, .int .i64 0, .slice none 0 0])]) 0 hF hW rfl rfl rfl T24 rfl rfl rfl (one_cons rfl (one_cons rfl (one_cons rfl (one_cons rfl (one_cons rfl (one_cons rfl (one_cons rfl (one_cons rfl (one_cons rfl (one_cons (hW.one (k := 0) rfl) one_nil)))))))))) rfl (fun w hW => ?_)
 refine ls hF hW rfl ((y_assign hF rfl).q) (fun a w hF hW => ?_)
 refine ls_nil ?_
 refine c_then ?_
 obtain ⟨o1, G1, K1⟩ := bindE H
 refine c_seqJ (fun a w => ∃ x3 : Bool, some (x3) = some o1 ∧ Fr 28 [] [(0, .bool x3)] a ∧ Stw ⟨Y, [], w0⟩ [(b2, [.int .i64 x2.1.1, .int .i64 x2.1.2.1, .int .i64 x2.1.2.2.1, .int .i64 x2.1.2.2.2.1, .int .i64 x2.1.2.2.2.2.1, .int .i64 x2.1.2.2.2.2.2.1, .int .i64 x2.1.2.2.2.2.2.2.1, .int .i64 x2.1.2.2.2.2.2.2.2.1, .int .i64 x2.1.2.2.2.2.2.2.2.2.1, v1]), (b1, [.int .i64 1, .int .i64 3, .int .i64 0, .int .i64 0, .int .i64 9, .int .i64 0, .int .i64 0, .int .i64 0, .int .i64 0, .slice none 0 0])] [row v1 42 R42 x2.1.2.2.2.2.2.2.2.2.2] w) ?_ ?_
 ·
  have H := G1
  clear G1 K1
  refine reg_list ?_
  refine ls hF hW rfl ((y_load (v := Value.agg #[.int .i64 1, .int .i64 3, .int .i64 0, .int .i64 0, .int .i64 9, .int .i64 0, .int .i64 0, .int .i64 0, .int .i64 0, .slice none 0 0]) 1 hF rfl rfl T24 rfl).q) (fun a w hF hW => ?_)
  obtain ⟨x4, h3, H⟩ := bindE H
  refine ls hF hW rfl (y_call (v := Value.string (bs x4)) hF H13 rfl (fun w hW => proto_Code_c any w (Value.slice none 0 0) (1, 3, 0, 0, 9, 0, 0, 0, 0, ([] : List (Int × (Int × (Int × (Int × Int × Int × Int) × (Int × Int × Int × Int)) × (List (Int × Int × Int))) × Bool))) _ h3 Sl.nil)) (fun a w hF hW => ?_)
  refine ls hF hW rfl ((y_slen (l := x4) u9_ rfl hF rfl).q) (fun a w hF hW => ?_)
  refine ls hF hW rfl ((y_eql hF rfl rfl).q) (fun a w hF hW => ?_)
  refine ls hF hW rfl ((y_move hF rfl).q) (fun a w hF hW => ?_)
  rcases Bool.eq_false_or_eq_true (decide ((x4.length : Int) = 10)) with hb | hb
  ·
   have H := iteT (of_decide_eq_true hb) H
   rw [hb] at hF
   clear hb
   refine ls_w hF hW (wanted_y hF rfl rfl rfl rfl) rfl (Nat.le_of_ble_eq_true rfl) ((y_move hF rfl).q) (fun a w hF hW => ?_)
   refine ls_w hF hW (wanted_y hF rfl rfl rfl rfl) rfl (Nat.le_of_ble_eq_true rfl) ((y_eql hF rfl rfl).q) (fun a w hF hW => ?_)
   refine ls hF hW rfl ((y_pick_t hF rfl rfl rfl).q) (fun a w hF hW => ?_)
   refine ls hF hW rfl ((y_move hF rfl).q) (fun a w hF hW => ?_)
   rcases Bool.eq_false_or_eq_true (decide (x2.2 = 0)) with hb | hb
   ·
    have H := iteT (of_decide_eq_true hb) H
    rw [hb] at hF
    clear hb
    refine ls_w hF hW (wanted_y hF rfl rfl rfl rfl) rfl (Nat.le_of_ble_eq_true rfl) ((y_load (v := Value.agg #[.int .i64 x2.1.1, .int .i64 x2.1.2.1, .int .i64 x2.1.2.2.1, .int .i64 x2.1.2.2.2.1, .int .i64 x2.1.2.2.2.2.1, .int .i64 x2.1.2.2.2.2.2.1, .int .i64 x2.1.2.2.2.2.2.2.1, .int .i64 x2.1.2.2.2.2.2.2.2.1, .int .i64 x2.1.2.2.2.2.2.2.2.2.1, v1]) 0 hF rfl rfl T24 rfl).q) (fun a w hF hW => ?_)
    refine ls_w hF hW (wanted_y hF rfl rfl rfl rfl) rfl (Nat.le_of_ble_eq_true rfl) ((y_load (v := Value.agg #[.int .i64 1, .int .i64 3, .int .i64 0, .int .i64 0, .int .i64 9, .int .i64 0, .int .i64 0, .int .i64 0, .int .i64 0, .slice none 0 0]) 1 hF rfl rfl T24 rfl).q) (fun a w hF hW => ?_)
    refine ls_g (wanted_y hF rfl rfl rfl rfl) ?_
    obtain ⟨x5, h4, H⟩ := bindE H
    refine ls hF hW rfl (y_call (v := Value.bool x5) hF H12 rfl (fun w hW => proto_Same_c any w (v1) (Value.slice none 0 0) x2.1 (1, 3, 0, 0, 9, 0, 0, 0, 0, ([] : List (Int × (Int × (Int × (Int × Int × Int × Int) × (Int × Int × Int × Int)) × (List (Int × Int × Int))) × Bool))) _ h4 (((rdc_row 0 rfl) : Rdc _ _ _ _ _ _) w hW).nx Sl.nil)) (fun a w hF hW => ?_)
    refine ls hF hW rfl ((y_pick_t hF rfl rfl rfl).q) (fun a w hF hW => ?_)
    refine ls hF hW rfl ((y_move hF rfl).q) (fun a w hF hW => ?_)
    rcases Bool.eq_false_or_eq_true x5 with hb | hb
    ·
     have H := iteT hb H
     rw [hb] at hF
     clear hb
     refine ls_w hF hW (wanted_y hF rfl rfl rfl rfl) rfl (Nat.le_of_ble_eq_true rfl) ((y_load (v := Value.agg #[.int .i64 1, .int .i64 3, .int .i64 0, .int .i64 0, .int .i64 9, .int .i64 0, .int .i64 0, .int .i64 0, .int .i64 0, .slice none 0 0]) 1 hF rfl rfl T24 rfl).q) (fun a w hF hW => ?_)
     refine ls_g (wanted_y hF rfl rfl rfl rfl) ?_
     obtain ⟨x6, h5, H⟩ := bindE H
     refine ls hF hW rfl (y_call (v := Value.bool x6) hF H7 rfl (fun w hW => proto_Right_c any w (Value.slice none 0 0) (1, 3, 0, 0, 9, 0, 0, 0, 0, ([] : List (Int × (Int × (Int × (Int × Int × Int × Int) × (Int × Int × Int × Int)) × (List (Int × Int × Int))) × Bool))) _ h5 Sl.nil)) (fun a w hF hW => ?_)
     refine ls hF hW rfl ((y_pick_t hF rfl rfl rfl).q) (fun a w hF hW => ?_)
     refine ls hF hW rfl ((y_assign hF rfl).q) (fun a w hF hW => ?_)
     refine ls_nil ?_
     refine c_then ?_
     have hW := hW.frontM (i := 1) rfl rfl
     have hW := hW.frontM (i := 1) rfl rfl
     exact ⟨_, H, hF.re ⟨rfl, trivial⟩, hW⟩
    ·
     have H := iteF (by rw [hb]; decide) H
     rw [hb] at hF
     clear hb
     refine lsn hF rfl rfl rfl rfl rfl rfl rfl (fun a hF => ?_)
     refine lsn hF rfl rfl rfl rfl rfl rfl rfl (fun a hF => ?_)
     refine ls hF hW rfl ((y_pick_f hF rfl rfl rfl).q) (fun a w hF hW => ?_)
     refine ls hF hW rfl ((y_assign hF rfl).q) (fun a w hF hW => ?_)
     refine ls_nil ?_
     refine c_then ?_
     have hW := hW.frontM (i := 1) rfl rfl
     have hW := hW.frontM (i := 1) rfl rfl
     exact ⟨_, H, hF.re ⟨rfl, trivial⟩, hW⟩
   ·
    have H := iteF (of_decide_eq_false hb) H
    rw [hb] at hF
    clear hb
    refine lsn hF rfl rfl rfl rfl rfl rfl rfl (fun a hF => ?_)
    refine lsn hF rfl rfl rfl rfl rfl rfl rfl (fun a hF => ?_)
    refine lsn hF rfl rfl rfl rfl rfl rfl rfl (fun a hF => ?_)
    refine ls hF hW rfl ((y_pick_f hF rfl rfl rfl).q) (fun a w hF hW => ?_)
    refine ls hF hW rfl ((y_move hF rfl).q) (fun a w hF hW => ?_)
    refine lsn hF rfl rfl rfl rfl rfl rfl rfl (fun a hF => ?_)
    refine lsn hF rfl rfl rfl rfl rfl rfl rfl (fun a hF => ?_)
    refine ls hF hW rfl ((y_pick_f hF rfl rfl rfl).q) (fun a w hF hW => ?_)
    refine ls hF hW rfl ((y_assign hF rfl).q) (fun a w hF hW => ?_)
    refine ls_nil ?_
    refine c_then ?_
    have hW := hW.frontM (i := 1) rfl rfl
    have hW := hW.frontM (i := 1) rfl rfl
    exact ⟨_, H, hF.re ⟨rfl, trivial⟩, hW⟩
  ·
   have H := iteF (of_decide_eq_false hb) H
   rw [hb] at hF
   clear hb
   refine lsn hF rfl rfl rfl rfl rfl rfl rfl (fun a hF => ?_)
   refine lsn hF rfl rfl rfl rfl rfl rfl rfl (fun a hF => ?_)
   refine ls hF hW rfl ((y_pick_f hF rfl rfl rfl).q) (fun a w hF hW => ?_)
   refine ls hF hW rfl ((y_move hF rfl).q) (fun a w hF hW => ?_)
   refine lsn hF rfl rfl rfl rfl rfl rfl rfl (fun a hF => ?_)
   refine lsn hF rfl rfl rfl rfl rfl rfl rfl (fun a hF => ?_)
   refine lsn hF rfl rfl rfl rfl rfl rfl rfl (fun a hF => ?_)
   refine ls hF hW rfl ((y_pick_f hF rfl rfl rfl).q) (fun a w hF hW => ?_)
   refine ls hF hW rfl ((y_move hF rfl).q) (fun a w hF hW => ?_)
   refine lsn hF rfl rfl rfl rfl rfl rfl rfl (fun a hF => ?_)
   refine lsn hF rfl rfl rfl rfl rfl rfl rfl (fun a hF => ?_)
   refine ls hF hW rfl ((y_pick_f hF rfl rfl rfl).q) (fun a w hF hW => ?_)
   refine ls hF hW rfl ((y_assign hF rfl).q) (fun a w hF hW => ?_)
   refine ls_nil ?_
   refine c_then ?_
   have hW := hW.frontM (i := 1) rfl rfl
   have hW := hW.frontM (i := 1) rfl rfl
   exact ⟨_, H, hF.re ⟨rfl, trivial⟩, hW⟩
 rintro a w ⟨x3, hj, hF, hW⟩
 have hj := Option.some.inj hj
 subst hj
 have H := K1
 clear G1 K1
 refine wp_ret ?_
 have H := Option.some.inj H
 subst H
 refine post1 (.inl rfl) hF hW rfl (rv_tmp hF rfl) ?_
 exact ⟨rfl, hW.done⟩

end Go.Proofs.Ytnlllglfmipllaa
