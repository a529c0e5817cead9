/- The functions of layer 10, lifted. Conditions: none. -/
import Derived.Test.YteeioghoidjbpaaDoorA5
namespace Go.Proofs.YteeioghoidjbpaaDoor
open Go Go.RowKit
set_option linter.unusedVariables false
set_option linter.unusedSimpArgs false
set_option maxRecDepth 20000
theorem H54 : Has Tryd.prog 54 := ⟨fun args w => run_callFunc_body Tryd.func54 rfl (by decide) args w⟩
noncomputable def match_Read_l1  : (Int × Int × Int × Int × Int × Int × Int × Int × Int × List UInt8 × Int) → Option ((Int × Int × Int × Int × Int × Int × Int × Int × Int × List UInt8 × Int) ⊕ (Int × Int × Int × Int × Int × Int × Int × Int × List UInt8 × Int))
  | (x12, x13, x14, x15, x16, x17, x18, x19, x20, x21, x22) => (if x12 < 4 then (octet_Reader_Num (x21, x22) 1).bind fun x23 => (ix ([x13, x14, x15, x16] : List Int) x12).bind fun x24 => (octet_Reader_Num x23.2 1).bind fun x25 => (ix ([x17, x18, x19, x20] : List Int) x12).bind fun x26 => some (.inl (w64 (x12 + 1), (if x12 = 0 then x23.1 else x13), (if x12 = 1 then x23.1 else x14), (if x12 = 2 then x23.1 else x15), (if x12 = 3 then x23.1 else x16), (if x12 = 0 then x25.1 else x17), (if x12 = 1 then x25.1 else x18), (if x12 = 2 then x25.1 else x19), (if x12 = 3 then x25.1 else x20), x25.2.1, x25.2.2)) else some (.inr (x13, x14, x15, x16, x17, x18, x19, x20, x21, x22)))
noncomputable def match_Read (p0 : List UInt8 × Int) : Option ((Int × (Int × Int × Int × Int) × (Int × Int × Int × Int)) × (List UInt8 × Int)) := (octet_Reader_Num p0 1).bind fun x1 => (loopW (match_Read_l1) (0, 0, 0, 0, 0, 0, 0, 0, 0, x1.2.1, x1.2.2)).bind fun (x2, x3, x4, x5, x6, x7, x8, x9, x10, x11) => ((match_Right (w64 (x1.1 - 1), (x2, x3, x4, x5), (x6, x7, x8, x9))).bind fun x29 => (if (!x29) = true then some ((octet_Reader_Wrong (x10, x11) 2).1, (octet_Reader_Wrong (x10, x11) 2).2) else some (x10, x11))).bind fun (x27, x28) => (if (!(octet_Reader_Ok (x27, x28))) = true then some ((0, (0, 0, 0, 0), (0, 0, 0, 0)), (x27, x28)) else some ((w64 (x1.1 - 1), (x2, x3, x4, x5), (x6, x7, x8, x9)), (x27, x28)))
theorem match_Read_c (Y : Nat → Prop) (X : List Nat) (w0 : World) (q_p0 : Nat) (p0 : List UInt8 × Int) (r : (Int × (Int × Int × Int × Int) × (Int × Int × Int × Int)) × (List UInt8 × Int)) (H : match_Read p0 = some r) (hL : Stw ⟨Y, X, w0⟩ [(q_p0, [.string (bs p0.1), .int .i64 p0.2])] [] w0) :
    Calls Tryd.prog 55 #[.pointer (some ⟨q_p0, 0, none⟩)] w0 fun e w' => ∃ x : Unit, e = .returned (.agg #[.int .i64 r.1.1, .int .i64 r.1.2.1.1, .int .i64 r.1.2.1.2.1, .int .i64 r.1.2.1.2.2.1, .int .i64 r.1.2.1.2.2.2, .int .i64 r.1.2.2.1, .int .i64 r.1.2.2.2.1, .int .i64 r.1.2.2.2.2.1, .int .i64 r.1.2.2.2.2.2]) ∧ Stw ⟨Y, X, w0⟩ [(q_p0, [.string (bs r.2.1), .int .i64 r.2.2])] [] w' := by
  refine enter Tryd.func55 rfl Tryd.ntmps55 rfl (fun a hF => ?_)
  have hW := hL
  unfold match_Read at H
  refine c_seq ?_
  refine reg_list ?_
  refine l_alloc (cs := [.int .i64 0, .int .i64 0, .int .i64 0, .int .i64 0, .int .i64 0, .int .i64 0, .int .i64 0, .int .i64 0, .int .i64 0]) hF hW rfl Z24 rfl (fun b1 a w hF hW => ?_)
  refine ls_nil ?_
  refine c_then ?_
  refine c_seq ?_
  refine reg_list ?_
  refine ls hF hW rfl ((y_move hF rfl).q) (fun a w hF hW => ?_)
  obtain ⟨x1, h1, H⟩ := bindE H
  have hW := hW.frontM (i := 1) rfl rfl
  refine l_callG (Ml := [(q_p0, [.string (bs p0.1), .int .i64 p0.2])]) (Zl := []) (M := [(b1, [.int .i64 0, .int .i64 0, .int .i64 0, .int .i64 0, .int .i64 0, .int .i64 0, .int .i64 0, .int .i64 0, .int .i64 0])]) (Z := []) (β := Unit) (rv := fun x => .int .i64 x1.1) (MM := fun x => [(q_p0, [.string (bs x1.2.1), .int .i64 x1.2.2])]) (ZZ := fun x => []) hF hW H54 rfl rfl (fun hL => octet_Reader_Num_c _ _ w q_p0 p0 1 _ h1 hL) (fun x a w hF hW => ?_)
  have hW : Stw ⟨Y, X, w0⟩ [(q_p0, [.string (bs x1.2.1), .int .i64 x1.2.2]), (b1, [.int .i64 0, .int .i64 0, .int .i64 0, .int .i64 0, .int .i64 0, .int .i64 0, .int .i64 0, .int .i64 0, .int .i64 0])] [] w := hW
  refine ls hF hW rfl ((y_sub hF rfl rfl rfl).q) (fun a w hF hW => ?_)
  refine ls hF hW rfl ((y_build (v := Value.agg #[.int .i64 (w64 (x1.1 - 1)), .int .i64 0, .int .i64 0, .int .i64 0, .int .i64 0, .int .i64 0, .int .i64 0, .int .i64 0, .int .i64 0]) B24 hF rfl rfl rfl).q) (fun a w hF hW => ?_)
  refine l_alloc (cs := [.int .i64 0, .int .i64 0, .int .i64 0, .int .i64 0, .int .i64 0, .int .i64 0, .int .i64 0, .int .i64 0, .int .i64 0]) hF hW rfl Z24 rfl (fun b2 a w hF hW => ?_)
  refine l_store (vs := [.int .i64 (w64 (x1.1 - 1)), .int .i64 0, .int .i64 0, .int .i64 0, .int .i64 0, .int .i64 0, .int .i64 0, .int .i64 0, .int .i64 0]) (M' := [(b2, [.int .i64 (w64 (x1.1 - 1)), .int .i64 0, .int .i64 0, .int .i64 0, .int .i64 0, .int .i64 0, .int .i64 0, .int .i64 0, .int .i64 0]), (q_p0, [.string (bs x1.2.1), .int .i64 x1.2.2]), (b1, [.int .i64 0, .int .i64 0, .int .i64 0, .int .i64 0, .int .i64 0, .int .i64 0, .int .i64 0, .int .i64 0, .int .i64 0])]) 0 hF hW rfl rfl rfl T24 rfl rfl rfl rfl rfl (fun w hW => ?_)
  refine ls_nil ?_
  refine c_then ?_
  obtain ⟨o1, G1, K1⟩ := bindE H
  refine c_seqJ (fun a w => ∃ x2 : Int, ∃ x3 : Int, ∃ x4 : Int, ∃ x5 : Int, ∃ x6 : Int, ∃ x7 : Int, ∃ x8 : Int, ∃ x9 : Int, ∃ x10 : List UInt8, ∃ x11 : Int, some ((x2, x3, x4, x5, x6, x7, x8, x9, x10, x11)) = some o1 ∧ Fr 33 [] [(0, .pointer (some ⟨q_p0, 0, none⟩)), (2, .pointer (some ⟨b1, 0, none⟩)), (3, .pointer (some ⟨b2, 0, none⟩))] a ∧ Stw ⟨Y, X, w0⟩ [(b2, [.int .i64 (w64 (x1.1 - 1)), .int .i64 x2, .int .i64 x3, .int .i64 x4, .int .i64 x5, .int .i64 x6, .int .i64 x7, .int .i64 x8, .int .i64 x9]), (q_p0, [.string (bs x10), .int .i64 x11]), (b1, [.int .i64 0, .int .i64 0, .int .i64 0, .int .i64 0, .int .i64 0, .int .i64 0, .int .i64 0, .int .i64 0, .int .i64 0])] [] w) ?_ ?_
  ·
    have H := G1
    clear G1 K1
    refine c_seq ?_
    refine reg_list ?_
    refine ls hF hW rfl ((y_move hF rfl).q) (fun a w hF hW => ?_)
    refine ls_nil ?_
    refine c_then ?_
    refine wp_block ?_
    have hW := hW.frontM (i := 2) rfl rfl
    have hW := hW.frontM (i := 2) rfl rfl
    have hW := hW.frontM (i := 2) rfl rfl
    refine c_loopW H (fun s a w => Fr 33 [] [(0, .pointer (some ⟨q_p0, 0, none⟩)), (2, .pointer (some ⟨b1, 0, none⟩)), (3, .pointer (some ⟨b2, 0, none⟩)), (9, .int .i64 s.1)] a ∧ Stw ⟨Y, X, w0⟩ [(b2, [.int .i64 (w64 (x1.1 - 1)), .int .i64 s.2.1, .int .i64 s.2.2.1, .int .i64 s.2.2.2.1, .int .i64 s.2.2.2.2.1, .int .i64 s.2.2.2.2.2.1, .int .i64 s.2.2.2.2.2.2.1, .int .i64 s.2.2.2.2.2.2.2.1, .int .i64 s.2.2.2.2.2.2.2.2.1]), (q_p0, [.string (bs s.2.2.2.2.2.2.2.2.2.1), .int .i64 s.2.2.2.2.2.2.2.2.2.2]), (b1, [.int .i64 0, .int .i64 0, .int .i64 0, .int .i64 0, .int .i64 0, .int .i64 0, .int .i64 0, .int .i64 0, .int .i64 0])] [] w) ⟨hF.re ⟨rfl, rfl, rfl, rfl, trivial⟩, hW⟩ (fun s o a w H L2 hR => ?_)
    obtain ⟨x12, x13, x14, x15, x16, x17, x18, x19, x20, x21, x22⟩ := s
    obtain ⟨hF, hW⟩ := hR
    have hF : Fr 33 [] [(0, .pointer (some ⟨q_p0, 0, none⟩)), (2, .pointer (some ⟨b1, 0, none⟩)), (3, .pointer (some ⟨b2, 0, none⟩)), (9, .int .i64 x12)] a := hF
    have hW : Stw ⟨Y, X, w0⟩ [(b2, [.int .i64 (w64 (x1.1 - 1)), .int .i64 x13, .int .i64 x14, .int .i64 x15, .int .i64 x16, .int .i64 x17, .int .i64 x18, .int .i64 x19, .int .i64 x20]), (q_p0, [.string (bs x21), .int .i64 x22]), (b1, [.int .i64 0, .int .i64 0, .int .i64 0, .int .i64 0, .int .i64 0, .int .i64 0, .int .i64 0, .int .i64 0, .int .i64 0])] [] w := hW
    rw [match_Read_l1] at H
    refine c_seq ?_
    refine reg_list ?_
    refine ls hF hW rfl ((y_lss hF rfl rfl).q) (fun a w hF hW => ?_)
    refine ls_nil ?_
    refine c_then ?_
    refine c_seq ?_
    refine c_cond hF rfl (fun hb => ?_) (fun hb => ?_)
    ·
      have H := iteT (of_decide_eq_true hb) H
      rw [hb] at hF
      clear hb
      refine wp_skip ?_
      refine c_then ?_
      refine c_seq ?_
      refine wp_block ?_
      refine c_seq ?_
      refine reg_list ?_
      refine ls hF hW rfl ((y_move hF rfl).q) (fun a w hF hW => ?_)
      refine ls hF hW rfl ((y_assign hF rfl).q) (fun a w hF hW => ?_)
      refine ls_nil ?_
      refine c_then ?_
      refine c_seq ?_
      refine reg_list ?_
      refine ls hF hW rfl ((y_move hF rfl).q) (fun a w hF hW => ?_)
      refine ls hF hW rfl ((y_move hF rfl).q) (fun a w hF hW => ?_)
      obtain ⟨x23, h2, H⟩ := bindE H
      have hW := hW.frontM (i := 1) rfl rfl
      refine l_callG (Ml := [(q_p0, [.string (bs x21), .int .i64 x22])]) (Zl := []) (M := [(b2, [.int .i64 (w64 (x1.1 - 1)), .int .i64 x13, .int .i64 x14, .int .i64 x15, .int .i64 x16, .int .i64 x17, .int .i64 x18, .int .i64 x19, .int .i64 x20]), (b1, [.int .i64 0, .int .i64 0, .int .i64 0, .int .i64 0, .int .i64 0, .int .i64 0, .int .i64 0, .int .i64 0, .int .i64 0])]) (Z := []) (β := Unit) (rv := fun x => .int .i64 x23.1) (MM := fun x => [(q_p0, [.string (bs x23.2.1), .int .i64 x23.2.2])]) (ZZ := fun x => []) hF hW H54 rfl rfl (fun hL => octet_Reader_Num_c _ _ w q_p0 (x21, x22) 1 _ h2 hL) (fun x a w hF hW => ?_)
      have hW : Stw ⟨Y, X, w0⟩ [(q_p0, [.string (bs x23.2.1), .int .i64 x23.2.2]), (b2, [.int .i64 (w64 (x1.1 - 1)), .int .i64 x13, .int .i64 x14, .int .i64 x15, .int .i64 x16, .int .i64 x17, .int .i64 x18, .int .i64 x19, .int .i64 x20]), (b1, [.int .i64 0, .int .i64 0, .int .i64 0, .int .i64 0, .int .i64 0, .int .i64 0, .int .i64 0, .int .i64 0, .int .i64 0])] [] w := hW
      refine ls hF hW rfl ((y_fieldAddr Tryd.underlying24 rfl rfl rfl T22 hF rfl 1 rfl).q) (fun a w hF hW => ?_)
      obtain ⟨x24, h3, H⟩ := bindE H
      refine ls hF hW rfl ((y_indexP (1 + (x12).toNat * 1) Ar22 hF rfl rfl rfl h3 rfl).q) (fun a w hF hW => ?_)
      refine l_store_dyn (o := 1) (m := 4) (i := x12) (l := ([x13, x14, x15, x16] : List Int)) (x := x24) (cs := [.int .i64 (w64 (x1.1 - 1)), .int .i64 x13, .int .i64 x14, .int .i64 x15, .int .i64 x16, .int .i64 x17, .int .i64 x18, .int .i64 x19, .int .i64 x20]) (cs' := [.int .i64 (w64 (x1.1 - 1)), .int .i64 (if x12 = 0 then x23.1 else x13), .int .i64 (if x12 = 1 then x23.1 else x14), .int .i64 (if x12 = 2 then x23.1 else x15), .int .i64 (if x12 = 3 then x23.1 else x16), .int .i64 x17, .int .i64 x18, .int .i64 x19, .int .i64 x20]) 1 hF hW rfl rfl rfl T3 rfl rfl rfl rfl h3 (by intro k hk hn; rw [hk]; match k, hn with | 0, _ => rfl | 1, _ => rfl | 2, _ => rfl | 3, _ => rfl | (z + 4), h => exact absurd h (by omega)) (fun w hW => ?_)
      have hW : Stw ⟨Y, X, w0⟩ [(q_p0, [.string (bs x23.2.1), .int .i64 x23.2.2]), (b2, [.int .i64 (w64 (x1.1 - 1)), .int .i64 (if x12 = 0 then x23.1 else x13), .int .i64 (if x12 = 1 then x23.1 else x14), .int .i64 (if x12 = 2 then x23.1 else x15), .int .i64 (if x12 = 3 then x23.1 else x16), .int .i64 x17, .int .i64 x18, .int .i64 x19, .int .i64 x20]), (b1, [.int .i64 0, .int .i64 0, .int .i64 0, .int .i64 0, .int .i64 0, .int .i64 0, .int .i64 0, .int .i64 0, .int .i64 0])] [] w := hW
      refine ls_nil ?_
      refine c_then ?_
      refine reg_list ?_
      refine ls hF hW rfl ((y_move hF rfl).q) (fun a w hF hW => ?_)
      refine ls hF hW rfl ((y_move hF rfl).q) (fun a w hF hW => ?_)
      obtain ⟨x25, h4, H⟩ := bindE H
      refine l_callG (Ml := [(q_p0, [.string (bs x23.2.1), .int .i64 x23.2.2])]) (Zl := []) (M := [(b2, [.int .i64 (w64 (x1.1 - 1)), .int .i64 (if x12 = 0 then x23.1 else x13), .int .i64 (if x12 = 1 then x23.1 else x14), .int .i64 (if x12 = 2 then x23.1 else x15), .int .i64 (if x12 = 3 then x23.1 else x16), .int .i64 x17, .int .i64 x18, .int .i64 x19, .int .i64 x20]), (b1, [.int .i64 0, .int .i64 0, .int .i64 0, .int .i64 0, .int .i64 0, .int .i64 0, .int .i64 0, .int .i64 0, .int .i64 0])]) (Z := []) (β := Unit) (rv := fun x => .int .i64 x25.1) (MM := fun x => [(q_p0, [.string (bs x25.2.1), .int .i64 x25.2.2])]) (ZZ := fun x => []) hF hW H54 rfl rfl (fun hL => octet_Reader_Num_c _ _ w q_p0 x23.2 1 _ h4 hL) (fun x a w hF hW => ?_)
      have hW : Stw ⟨Y, X, w0⟩ [(q_p0, [.string (bs x25.2.1), .int .i64 x25.2.2]), (b2, [.int .i64 (w64 (x1.1 - 1)), .int .i64 (if x12 = 0 then x23.1 else x13), .int .i64 (if x12 = 1 then x23.1 else x14), .int .i64 (if x12 = 2 then x23.1 else x15), .int .i64 (if x12 = 3 then x23.1 else x16), .int .i64 x17, .int .i64 x18, .int .i64 x19, .int .i64 x20]), (b1, [.int .i64 0, .int .i64 0, .int .i64 0, .int .i64 0, .int .i64 0, .int .i64 0, .int .i64 0, .int .i64 0, .int .i64 0])] [] w := hW
      refine ls hF hW rfl ((y_fieldAddr Tryd.underlying24 rfl rfl rfl T22 hF rfl 5 rfl).q) (fun a w hF hW => ?_)
      obtain ⟨x26, h5, H⟩ := bindE H
      refine ls hF hW rfl ((y_indexP (5 + (x12).toNat * 1) Ar22 hF rfl rfl rfl h5 rfl).q) (fun a w hF hW => ?_)
      refine l_store_dyn (o := 5) (m := 4) (i := x12) (l := ([x17, x18, x19, x20] : List Int)) (x := x26) (cs := [.int .i64 (w64 (x1.1 - 1)), .int .i64 (if x12 = 0 then x23.1 else x13), .int .i64 (if x12 = 1 then x23.1 else x14), .int .i64 (if x12 = 2 then x23.1 else x15), .int .i64 (if x12 = 3 then x23.1 else x16), .int .i64 x17, .int .i64 x18, .int .i64 x19, .int .i64 x20]) (cs' := [.int .i64 (w64 (x1.1 - 1)), .int .i64 (if x12 = 0 then x23.1 else x13), .int .i64 (if x12 = 1 then x23.1 else x14), .int .i64 (if x12 = 2 then x23.1 else x15), .int .i64 (if x12 = 3 then x23.1 else x16), .int .i64 (if x12 = 0 then x25.1 else x17), .int .i64 (if x12 = 1 then x25.1 else x18), .int .i64 (if x12 = 2 then x25.1 else x19), .int .i64 (if x12 = 3 then x25.1 else x20)]) 1 hF hW rfl rfl rfl T3 rfl rfl rfl rfl h5 (by intro k hk hn; rw [hk]; match k, hn with | 0, _ => rfl | 1, _ => rfl | 2, _ => rfl | 3, _ => rfl | (z + 4), h => exact absurd h (by omega)) (fun w hW => ?_)
      have hW : Stw ⟨Y, X, w0⟩ [(q_p0, [.string (bs x25.2.1), .int .i64 x25.2.2]), (b2, [.int .i64 (w64 (x1.1 - 1)), .int .i64 (if x12 = 0 then x23.1 else x13), .int .i64 (if x12 = 1 then x23.1 else x14), .int .i64 (if x12 = 2 then x23.1 else x15), .int .i64 (if x12 = 3 then x23.1 else x16), .int .i64 (if x12 = 0 then x25.1 else x17), .int .i64 (if x12 = 1 then x25.1 else x18), .int .i64 (if x12 = 2 then x25.1 else x19), .int .i64 (if x12 = 3 then x25.1 else x20)]), (b1, [.int .i64 0, .int .i64 0, .int .i64 0, .int .i64 0, .int .i64 0, .int .i64 0, .int .i64 0, .int .i64 0, .int .i64 0])] [] w := hW
      refine ls_nil ?_
      refine b_normal ?_
      refine c_then ?_
      refine reg_list ?_
      refine ls hF hW rfl ((y_add hF rfl rfl rfl).q) (fun a w hF hW => ?_)
      refine ls hF hW rfl ((y_move hF rfl).q) (fun a w hF hW => ?_)
      refine ls_nil ?_
      refine c_then ?_
      have hW := hW.frontM (i := 2) rfl rfl
      have hW := hW.frontM (i := 1) rfl rfl
      have hW := hW.frontM (i := 2) rfl rfl
      exact ⟨_, H, hF.re ⟨rfl, rfl, rfl, rfl, trivial⟩, hW⟩
    ·
      have H := iteF (of_decide_eq_false hb) H
      rw [hb] at hF
      clear hb
      refine wp_exit ?_
      refine e_then ?_
      refine e_then ?_
      refine e_block ?_
      refine c_then ?_
      have hW := hW.frontM (i := 2) rfl rfl
      have hW := hW.frontM (i := 2) rfl rfl
      have hW := hW.frontM (i := 2) rfl rfl
      have H := L2 _ H
      exact ⟨_, _, _, _, _, _, _, _, _, _, H, hF.re ⟨rfl, rfl, rfl, trivial⟩, hW⟩
  rintro a w ⟨x2, x3, x4, x5, x6, x7, x8, x9, x10, x11, hj, hF, hW⟩
  have hj := Option.some.inj hj
  subst hj
  have H := K1
  clear G1 K1
  obtain ⟨o3, G3, K3⟩ := bindE H
  refine c_seqJ (fun a w => ∃ x27 : List UInt8, ∃ x28 : Int, some ((x27, x28)) = some o3 ∧ Fr 33 [] [(0, .pointer (some ⟨q_p0, 0, none⟩)), (2, .pointer (some ⟨b1, 0, none⟩)), (3, .pointer (some ⟨b2, 0, none⟩))] a ∧ Stw ⟨Y, X, w0⟩ [(b2, [.int .i64 (w64 (x1.1 - 1)), .int .i64 x2, .int .i64 x3, .int .i64 x4, .int .i64 x5, .int .i64 x6, .int .i64 x7, .int .i64 x8, .int .i64 x9]), (q_p0, [.string (bs x27), .int .i64 x28]), (b1, [.int .i64 0, .int .i64 0, .int .i64 0, .int .i64 0, .int .i64 0, .int .i64 0, .int .i64 0, .int .i64 0, .int .i64 0])] [] w) ?_ ?_
  ·
    have H := G3
    clear G3 K3
    refine c_seq ?_
    refine reg_list ?_
    refine ls hF hW rfl ((y_load (v := Value.agg #[.int .i64 (w64 (x1.1 - 1)), .int .i64 x2, .int .i64 x3, .int .i64 x4, .int .i64 x5, .int .i64 x6, .int .i64 x7, .int .i64 x8, .int .i64 x9]) 0 hF rfl rfl T24 rfl).q) (fun a w hF hW => ?_)
    obtain ⟨x29, h6, H⟩ := bindE H
    refine ls hF hW rfl (y_call (v := Value.bool x29) hF H33 rfl (fun w hW => match_Right_c any w (w64 (x1.1 - 1), (x2, x3, x4, x5), (x6, x7, x8, x9)) _ h6)) (fun a w hF hW => ?_)
    refine ls hF hW rfl ((y_not hF rfl).q) (fun a w hF hW => ?_)
    refine ls_nil ?_
    refine c_then ?_
    refine c_cond hF rfl (fun hb => ?_) (fun hb => ?_)
    ·
      have H := iteT hb H
      rw [hb] at hF
      clear hb
      refine reg_list ?_
      refine ls hF hW rfl ((y_move hF rfl).q) (fun a w hF hW => ?_)
      have hW := hW.frontM (i := 1) rfl rfl
      refine l_callG (Ml := [(q_p0, [.string (bs x10), .int .i64 x11])]) (Zl := []) (M := [(b2, [.int .i64 (w64 (x1.1 - 1)), .int .i64 x2, .int .i64 x3, .int .i64 x4, .int .i64 x5, .int .i64 x6, .int .i64 x7, .int .i64 x8, .int .i64 x9]), (b1, [.int .i64 0, .int .i64 0, .int .i64 0, .int .i64 0, .int .i64 0, .int .i64 0, .int .i64 0, .int .i64 0, .int .i64 0])]) (Z := []) (β := Unit) (rv := fun x => .tuple #[]) (MM := fun x => [(q_p0, [.string (bs ((octet_Reader_Wrong (x10, x11) 2).1)), .int .i64 ((octet_Reader_Wrong (x10, x11) 2).2)])]) (ZZ := fun x => []) hF hW H61 rfl rfl (fun hL => octet_Reader_Wrong_c _ _ w q_p0 (x10, x11) 2 _ rfl hL) (fun x a w hF hW => ?_)
      have hW : Stw ⟨Y, X, w0⟩ [(q_p0, [.string (bs ((octet_Reader_Wrong (x10, x11) 2).1)), .int .i64 ((octet_Reader_Wrong (x10, x11) 2).2)]), (b2, [.int .i64 (w64 (x1.1 - 1)), .int .i64 x2, .int .i64 x3, .int .i64 x4, .int .i64 x5, .int .i64 x6, .int .i64 x7, .int .i64 x8, .int .i64 x9]), (b1, [.int .i64 0, .int .i64 0, .int .i64 0, .int .i64 0, .int .i64 0, .int .i64 0, .int .i64 0, .int .i64 0, .int .i64 0])] [] w := hW
      refine ls_nil ?_
      refine c_then ?_
      have hW := hW.frontM (i := 2) rfl rfl
      have hW := hW.frontM (i := 1) rfl rfl
      have hW := hW.frontM (i := 2) rfl rfl
      exact ⟨_, _, H, hF.re ⟨rfl, rfl, rfl, trivial⟩, hW⟩
    ·
      have H := iteF (by rw [hb]; decide) H
      rw [hb] at hF
      clear hb
      refine wp_skip ?_
      refine c_then ?_
      have hW := hW.frontM (i := 2) rfl rfl
      have hW := hW.frontM (i := 2) rfl rfl
      have hW := hW.frontM (i := 2) rfl rfl
      exact ⟨_, _, H, hF.re ⟨rfl, rfl, rfl, trivial⟩, hW⟩
  rintro a w ⟨x27, x28, hj, hF, hW⟩
  have hj := Option.some.inj hj
  subst hj
  have H := K3
  clear G3 K3
  refine c_seq ?_
  refine c_seq ?_
  refine reg_list ?_
  refine ls hF hW rfl ((y_move hF rfl).q) (fun a w hF hW => ?_)
  refine ls hF hW rfl (y_call (v := Value.bool (octet_Reader_Ok (x27, x28))) hF H57 rfl (fun w hW => octet_Reader_Ok_c any w q_p0 (x27, x28) _ rfl (at_M hW 1 rfl))) (fun a w hF hW => ?_)
  refine ls hF hW rfl ((y_not hF rfl).q) (fun a w hF hW => ?_)
  refine ls_nil ?_
  refine c_then ?_
  refine c_cond hF rfl (fun hb => ?_) (fun hb => ?_)
  ·
    have H := iteT hb H
    rw [hb] at hF
    clear hb
    refine c_seq ?_
    refine reg_list ?_
    refine ls hF hW rfl ((y_build (v := Value.agg #[.int .i64 0, .int .i64 0, .int .i64 0, .int .i64 0, .int .i64 0, .int .i64 0, .int .i64 0, .int .i64 0, .int .i64 0]) B24 hF rfl rfl rfl).q) (fun a w hF hW => ?_)
    refine l_store (vs := [.int .i64 0, .int .i64 0, .int .i64 0, .int .i64 0, .int .i64 0, .int .i64 0, .int .i64 0, .int .i64 0, .int .i64 0]) (M' := [(b2, [.int .i64 (w64 (x1.1 - 1)), .int .i64 x2, .int .i64 x3, .int .i64 x4, .int .i64 x5, .int .i64 x6, .int .i64 x7, .int .i64 x8, .int .i64 x9]), (q_p0, [.string (bs x27), .int .i64 x28]), (b1, [.int .i64 0, .int .i64 0, .int .i64 0, .int .i64 0, .int .i64 0, .int .i64 0, .int .i64 0, .int .i64 0, .int .i64 0])]) 2 hF hW rfl rfl rfl T24 rfl rfl rfl rfl rfl (fun w hW => ?_)
    refine ls_nil ?_
    refine c_then ?_
    refine wp_ret ?_
    refine r_then ?_
    have H := Option.some.inj H
    subst H
    refine post1 (.inl rfl) hF hW rfl (rv_cell 2 hF rfl rfl T24 rfl) ?_
    have hW := hW.frontM (i := 1) rfl rfl
    have hW := hW.sub (M' := [(q_p0, [.string (bs x27), .int .i64 x28])]) (Z' := []) (List.Sublist.cons_cons _ (List.nil_sublist _)) (List.Sublist.refl _)
    exact ⟨(), rfl, hW⟩
  ·
    have H := iteF (by rw [hb]; decide) H
    rw [hb] at hF
    clear hb
    refine wp_skip ?_
    refine c_then ?_
    refine c_seq ?_
    refine reg_list ?_
    refine ls hF hW rfl ((y_load (v := Value.agg #[.int .i64 (w64 (x1.1 - 1)), .int .i64 x2, .int .i64 x3, .int .i64 x4, .int .i64 x5, .int .i64 x6, .int .i64 x7, .int .i64 x8, .int .i64 x9]) 0 hF rfl rfl T24 rfl).q) (fun a w hF hW => ?_)
    refine l_store (vs := [.int .i64 (w64 (x1.1 - 1)), .int .i64 x2, .int .i64 x3, .int .i64 x4, .int .i64 x5, .int .i64 x6, .int .i64 x7, .int .i64 x8, .int .i64 x9]) (M' := [(b2, [.int .i64 (w64 (x1.1 - 1)), .int .i64 x2, .int .i64 x3, .int .i64 x4, .int .i64 x5, .int .i64 x6, .int .i64 x7, .int .i64 x8, .int .i64 x9]), (q_p0, [.string (bs x27), .int .i64 x28]), (b1, [.int .i64 (w64 (x1.1 - 1)), .int .i64 x2, .int .i64 x3, .int .i64 x4, .int .i64 x5, .int .i64 x6, .int .i64 x7, .int .i64 x8, .int .i64 x9])]) 2 hF hW rfl rfl rfl T24 rfl rfl rfl rfl rfl (fun w hW => ?_)
    refine ls_nil ?_
    refine c_then ?_
    refine wp_ret ?_
    have H := Option.some.inj H
    subst H
    refine post1 (.inl rfl) hF hW rfl (rv_cell 2 hF rfl rfl T24 rfl) ?_
    have hW := hW.frontM (i := 1) rfl rfl
    have hW := hW.sub (M' := [(q_p0, [.string (bs x27), .int .i64 x28])]) (Z' := []) (List.Sublist.cons_cons _ (List.nil_sublist _)) (List.Sublist.refl _)
    exact ⟨(), rfl, hW⟩

theorem H55 : Has Tryd.prog 55 := ⟨fun args w => run_callFunc_body Tryd.func55 rfl (by decide) args w⟩
noncomputable def octet_Reader_Count (p0 : List UInt8 × Int) (p1 : Int) : Option (Int × (List UInt8 × Int)) := (octet_Reader_Num p0 1).bind fun x1 => (if p1 < x1.1 then some ((octet_Reader_Wrong x1.2 6).1, (octet_Reader_Wrong x1.2 6).2) else some (x1.2.1, x1.2.2)).bind fun (x2, x3) => (if (!(octet_Reader_Ok (x2, x3))) = true then some (0, (x2, x3)) else some (x1.1, (x2, x3)))
theorem octet_Reader_Count_c (Y : Nat → Prop) (X : List Nat) (w0 : World) (q_p0 : Nat) (p0 : List UInt8 × Int) (p1 : Int) (r : Int × (List UInt8 × Int)) (H : octet_Reader_Count p0 p1 = some r) (hL : Stw ⟨Y, X, w0⟩ [(q_p0, [.string (bs p0.1), .int .i64 p0.2])] [] w0) :
    Calls Tryd.prog 77 #[.pointer (some ⟨q_p0, 0, none⟩), .int .i64 p1] w0 fun e w' => ∃ x : Unit, e = .returned (.int .i64 r.1) ∧ Stw ⟨Y, X, w0⟩ [(q_p0, [.string (bs r.2.1), .int .i64 r.2.2])] [] w' := by
  refine enter Tryd.func77 rfl Tryd.ntmps77 rfl (fun a hF => ?_)
  have hW := hL
  unfold octet_Reader_Count at H
  refine c_seq ?_
  refine reg_list ?_
  refine ls hF hW rfl ((y_assign hF rfl).q) (fun a w hF hW => ?_)
  refine ls_nil ?_
  refine c_then ?_
  refine c_seq ?_
  refine reg_list ?_
  refine ls hF hW rfl ((y_move hF rfl).q) (fun a w hF hW => ?_)
  obtain ⟨x1, h1, H⟩ := bindE H
  refine l_callG (Ml := [(q_p0, [.string (bs p0.1), .int .i64 p0.2])]) (Zl := []) (M := []) (Z := []) (β := Unit) (rv := fun x => .int .i64 x1.1) (MM := fun x => [(q_p0, [.string (bs x1.2.1), .int .i64 x1.2.2])]) (ZZ := fun x => []) hF hW H54 rfl rfl (fun hL => octet_Reader_Num_c _ _ w q_p0 p0 1 _ h1 hL) (fun x a w hF hW => ?_)
  have hW : Stw ⟨Y, X, w0⟩ [(q_p0, [.string (bs x1.2.1), .int .i64 x1.2.2])] [] w := hW
  refine ls hF hW rfl ((y_assign hF rfl).q) (fun a w hF hW => ?_)
  refine ls_nil ?_
  refine c_then ?_
  obtain ⟨o1, G1, K1⟩ := bindE H
  refine c_seqJ (fun a w => ∃ x2 : List UInt8, ∃ x3 : Int, some ((x2, x3)) = some o1 ∧ Fr 17 [] [(0, .pointer (some ⟨q_p0, 0, none⟩)), (4, .int .i64 0), (5, .int .i64 x1.1)] a ∧ Stw ⟨Y, X, w0⟩ [(q_p0, [.string (bs x2), .int .i64 x3])] [] w) ?_ ?_
  ·
    have H := G1
    clear G1 K1
    refine c_seq ?_
    refine reg_list ?_
    refine ls hF hW rfl ((y_move hF rfl).q) (fun a w hF hW => ?_)
    refine ls hF hW rfl ((y_move hF rfl).q) (fun a w hF hW => ?_)
    refine ls hF hW rfl ((y_gtr hF rfl rfl).q) (fun a w hF hW => ?_)
    refine ls_nil ?_
    refine c_then ?_
    refine c_cond hF rfl (fun hb => ?_) (fun hb => ?_)
    ·
      have H := iteT (of_decide_eq_true hb) H
      rw [hb] at hF
      clear hb
      refine reg_list ?_
      refine ls hF hW rfl ((y_move hF rfl).q) (fun a w hF hW => ?_)
      refine l_callG (Ml := [(q_p0, [.string (bs x1.2.1), .int .i64 x1.2.2])]) (Zl := []) (M := []) (Z := []) (β := Unit) (rv := fun x => .tuple #[]) (MM := fun x => [(q_p0, [.string (bs ((octet_Reader_Wrong x1.2 6).1)), .int .i64 ((octet_Reader_Wrong x1.2 6).2)])]) (ZZ := fun x => []) hF hW H61 rfl rfl (fun hL => octet_Reader_Wrong_c _ _ w q_p0 x1.2 6 _ rfl hL) (fun x a w hF hW => ?_)
      have hW : Stw ⟨Y, X, w0⟩ [(q_p0, [.string (bs ((octet_Reader_Wrong x1.2 6).1)), .int .i64 ((octet_Reader_Wrong x1.2 6).2)])] [] w := hW
      refine ls_nil ?_
      refine c_then ?_
      exact ⟨_, _, H, hF.re ⟨rfl, rfl, rfl, trivial⟩, hW⟩
    ·
      have H := iteF (of_decide_eq_false hb) H
      rw [hb] at hF
      clear hb
      refine wp_skip ?_
      refine c_then ?_
      exact ⟨_, _, H, hF.re ⟨rfl, rfl, rfl, trivial⟩, hW⟩
  rintro a w ⟨x2, x3, hj, hF, hW⟩
  have hj := Option.some.inj hj
  subst hj
  have H := K1
  clear G1 K1
  refine c_seq ?_
  refine c_seq ?_
  refine reg_list ?_
  refine ls hF hW rfl ((y_move hF rfl).q) (fun a w hF hW => ?_)
  refine ls hF hW rfl (y_call (v := Value.bool (octet_Reader_Ok (x2, x3))) hF H57 rfl (fun w hW => octet_Reader_Ok_c any w q_p0 (x2, x3) _ rfl (at_M hW 0 rfl))) (fun a w hF hW => ?_)
  refine ls hF hW rfl ((y_not hF rfl).q) (fun a w hF hW => ?_)
  refine ls_nil ?_
  refine c_then ?_
  refine c_cond hF rfl (fun hb => ?_) (fun hb => ?_)
  ·
    have H := iteT hb H
    rw [hb] at hF
    clear hb
    refine c_seq ?_
    refine reg_list ?_
    refine ls hF hW rfl ((y_assign hF rfl).q) (fun a w hF hW => ?_)
    refine ls_nil ?_
    refine c_then ?_
    refine wp_ret ?_
    refine r_then ?_
    have H := Option.some.inj H
    subst H
    refine post1 (.inl rfl) hF hW rfl (rv_tmp hF rfl) ?_
    exact ⟨(), rfl, hW⟩
  ·
    have H := iteF (by rw [hb]; decide) H
    rw [hb] at hF
    clear hb
    refine wp_skip ?_
    refine c_then ?_
    refine c_seq ?_
    refine reg_list ?_
    refine ls hF hW rfl ((y_move hF rfl).q) (fun a w hF hW => ?_)
    refine ls hF hW rfl ((y_assign hF rfl).q) (fun a w hF hW => ?_)
    refine ls_nil ?_
    refine c_then ?_
    refine wp_ret ?_
    have H := Option.some.inj H
    subst H
    refine post1 (.inl rfl) hF hW rfl (rv_tmp hF rfl) ?_
    exact ⟨(), rfl, hW⟩

theorem H77 : Has Tryd.prog 77 := ⟨fun args w => run_callFunc_body Tryd.func77 rfl (by decide) args w⟩
noncomputable def act_Read_l1 (p1 : Int) (x4 : Int × (List UInt8 × Int)) : ((List (Int × Int × Int)) × Int × List UInt8 × Int) → Option (((List (Int × Int × Int)) × Int × List UInt8 × Int) ⊕ ((List (Int × Int × Int)) × List UInt8 × Int))
  | (x5, x6, x7, x8) => (if x6 < x4.1 then (octet_Reader_Num (x7, x8) 1).bind fun x9 => (octet_Reader_Num x9.2 1).bind fun x10 => (octet_Reader_Num x10.2 1).bind fun x11 => ((act_right (x9.1, x10.1, x11.1) p1).bind fun x14 => (if (!x14) = true then some ((octet_Reader_Wrong x11.2 2).1, (octet_Reader_Wrong x11.2 2).2) else some (x11.2.1, x11.2.2))).bind fun (x12, x13) => (app x5 ([(x9.1, x10.1, x11.1)] : List (Int × Int × Int))).bind fun x15 => some (.inl (x15, w64 (x6 + 1), x12, x13)) else some (.inr (x5, x7, x8)))
noncomputable def act_Read (p0 : List UInt8 × Int) (p1 : Int) : Option ((List (Int × Int × Int)) × (List UInt8 × Int)) := ((octet_Reader_Count p0 16).bind fun x4 => loopW (act_Read_l1 p1 x4) ([], 0, x4.2.1, x4.2.2)).bind fun (x1, x2, x3) => (if (!(octet_Reader_Ok (x2, x3))) = true then some (([] : List (Int × Int × Int)), (x2, x3)) else some (x1, (x2, x3)))
theorem act_Read_c (Y : Nat → Prop) (X : List Nat) (w0 : World) (q_p0 : Nat) (p0 : List UInt8 × Int) (p1 : Int) (r : (List (Int × Int × Int)) × (List UInt8 × Int)) (H : act_Read p0 p1 = some r) (hL : Stw ⟨Y, X, w0⟩ [(q_p0, [.string (bs p0.1), .int .i64 p0.2])] [] w0) :
    Calls Tryd.prog 56 #[.pointer (some ⟨q_p0, 0, none⟩), .int .i64 p1] w0 fun e w' => ∃ x : Value, e = .returned (x) ∧ Stw ⟨Y, X, w0⟩ [(q_p0, [.string (bs r.2.1), .int .i64 r.2.2])] [row (x) 60 R60 r.1] w' := by
  refine enter Tryd.func56 rfl Tryd.ntmps56 rfl (fun a hF => ?_)
  have hW := hL
  unfold act_Read at H
  refine c_seq ?_
  refine reg_list ?_
  refine ls hF hW rfl ((y_assign hF rfl).q) (fun a w hF hW => ?_)
  refine ls_nil ?_
  refine c_then ?_
  refine c_seq ?_
  refine reg_list ?_
  refine ls hF hW rfl ((y_assign hF rfl).q) (fun a w hF hW => ?_)
  refine ls_nil ?_
  refine c_then ?_
  obtain ⟨o1, G1, K1⟩ := bindE H
  refine c_seqJ (fun a w => ∃ x1 : List (Int × Int × Int), ∃ x2 : List UInt8, ∃ x3 : Int, ∃ v1 : Value, some ((x1, x2, x3)) = some o1 ∧ Fr 39 [] [(0, .pointer (some ⟨q_p0, 0, none⟩)), (4, .slice none 0 0), (5, v1)] a ∧ Stw ⟨Y, X, w0⟩ [(q_p0, [.string (bs x2), .int .i64 x3])] [row v1 60 R60 x1] w) ?_ ?_
  ·
    have H := G1
    clear G1 K1
    refine c_seq ?_
    refine reg_list ?_
    refine ls hF hW rfl ((y_move hF rfl).q) (fun a w hF hW => ?_)
    obtain ⟨x4, h1, H⟩ := bindE H
    refine l_callG (Ml := [(q_p0, [.string (bs p0.1), .int .i64 p0.2])]) (Zl := []) (M := []) (Z := []) (β := Unit) (rv := fun x => .int .i64 x4.1) (MM := fun x => [(q_p0, [.string (bs x4.2.1), .int .i64 x4.2.2])]) (ZZ := fun x => []) hF hW H77 rfl rfl (fun hL => octet_Reader_Count_c _ _ w q_p0 p0 16 _ h1 hL) (fun x a w hF hW => ?_)
    have hW : Stw ⟨Y, X, w0⟩ [(q_p0, [.string (bs x4.2.1), .int .i64 x4.2.2])] [] w := hW
    refine ls hF hW rfl ((y_move hF rfl).q) (fun a w hF hW => ?_)
    refine ls_nil ?_
    refine c_then ?_
    refine wp_block ?_
    have hW := hW.nilRow 60 R60
    refine c_loopW H (fun s a w => ∃ v2 : Value, Fr 39 [] [(0, .pointer (some ⟨q_p0, 0, none⟩)), (1, .int .i64 p1), (4, .slice none 0 0), (5, v2), (11, .int .i64 x4.1), (12, .int .i64 s.2.1)] a ∧ Stw ⟨Y, X, w0⟩ [(q_p0, [.string (bs s.2.2.1), .int .i64 s.2.2.2])] [row v2 60 R60 s.1] w) ⟨(Value.slice none 0 0), hF.re ⟨rfl, rfl, rfl, rfl, rfl, rfl, trivial⟩, hW⟩ (fun s o a w H L2 hR => ?_)
    obtain ⟨x5, x6, x7, x8⟩ := s
    obtain ⟨v2, hF, hW⟩ := hR
    have hF : Fr 39 [] [(0, .pointer (some ⟨q_p0, 0, none⟩)), (1, .int .i64 p1), (4, .slice none 0 0), (5, v2), (11, .int .i64 x4.1), (12, .int .i64 x6)] a := hF
    have hW : Stw ⟨Y, X, w0⟩ [(q_p0, [.string (bs x7), .int .i64 x8])] [row v2 60 R60 x5] w := hW
    rw [act_Read_l1] at H
    refine c_seq ?_
    refine reg_list ?_
    refine ls hF hW rfl ((y_lss hF rfl rfl).q) (fun a w hF hW => ?_)
    refine ls_nil ?_
    refine c_then ?_
    refine c_seq ?_
    refine c_cond hF rfl (fun hb => ?_) (fun hb => ?_)
    ·
      have H := iteT (of_decide_eq_true hb) H
      rw [hb] at hF
      clear hb
      refine wp_skip ?_
      refine c_then ?_
      refine c_seq ?_
      refine wp_block ?_
      refine c_seq ?_
      refine reg_list ?_
      refine ls hF hW rfl ((y_move hF rfl).q) (fun a w hF hW => ?_)
      obtain ⟨x9, h2, H⟩ := bindE H
      refine l_callG (Ml := [(q_p0, [.string (bs x7), .int .i64 x8])]) (Zl := []) (M := []) (Z := [row v2 60 R60 x5]) (β := Unit) (rv := fun x => .int .i64 x9.1) (MM := fun x => [(q_p0, [.string (bs x9.2.1), .int .i64 x9.2.2])]) (ZZ := fun x => []) hF hW H54 rfl rfl (fun hL => octet_Reader_Num_c _ _ w q_p0 (x7, x8) 1 _ h2 hL) (fun x a w hF hW => ?_)
      have hW : Stw ⟨Y, X, w0⟩ [(q_p0, [.string (bs x9.2.1), .int .i64 x9.2.2])] [row v2 60 R60 x5] w := hW
      refine ls hF hW rfl ((y_assign hF rfl).q) (fun a w hF hW => ?_)
      refine ls_nil ?_
      refine c_then ?_
      refine c_seq ?_
      refine reg_list ?_
      refine ls hF hW rfl ((y_move hF rfl).q) (fun a w hF hW => ?_)
      obtain ⟨x10, h3, H⟩ := bindE H
      refine l_callG (Ml := [(q_p0, [.string (bs x9.2.1), .int .i64 x9.2.2])]) (Zl := []) (M := []) (Z := [row v2 60 R60 x5]) (β := Unit) (rv := fun x => .int .i64 x10.1) (MM := fun x => [(q_p0, [.string (bs x10.2.1), .int .i64 x10.2.2])]) (ZZ := fun x => []) hF hW H54 rfl rfl (fun hL => octet_Reader_Num_c _ _ w q_p0 x9.2 1 _ h3 hL) (fun x a w hF hW => ?_)
      have hW : Stw ⟨Y, X, w0⟩ [(q_p0, [.string (bs x10.2.1), .int .i64 x10.2.2])] [row v2 60 R60 x5] w := hW
      refine ls hF hW rfl ((y_assign hF rfl).q) (fun a w hF hW => ?_)
      refine ls_nil ?_
      refine c_then ?_
      refine c_seq ?_
      refine reg_list ?_
      refine ls hF hW rfl ((y_move hF rfl).q) (fun a w hF hW => ?_)
      obtain ⟨x11, h4, H⟩ := bindE H
      refine l_callG (Ml := [(q_p0, [.string (bs x10.2.1), .int .i64 x10.2.2])]) (Zl := []) (M := []) (Z := [row v2 60 R60 x5]) (β := Unit) (rv := fun x => .int .i64 x11.1) (MM := fun x => [(q_p0, [.string (bs x11.2.1), .int .i64 x11.2.2])]) (ZZ := fun x => []) hF hW H54 rfl rfl (fun hL => octet_Reader_Num_c _ _ w q_p0 x10.2 1 _ h4 hL) (fun x a w hF hW => ?_)
      have hW : Stw ⟨Y, X, w0⟩ [(q_p0, [.string (bs x11.2.1), .int .i64 x11.2.2])] [row v2 60 R60 x5] w := hW
      refine ls hF hW rfl ((y_assign hF rfl).q) (fun a w hF hW => ?_)
      refine ls_nil ?_
      refine c_then ?_
      refine c_seq ?_
      refine reg_list ?_
      refine ls hF hW rfl ((y_move hF rfl).q) (fun a w hF hW => ?_)
      refine ls hF hW rfl ((y_move hF rfl).q) (fun a w hF hW => ?_)
      refine ls hF hW rfl ((y_move hF rfl).q) (fun a w hF hW => ?_)
      refine ls hF hW rfl ((y_build (v := Value.agg #[.int .i64 x9.1, .int .i64 x10.1, .int .i64 x11.1]) B60 hF rfl rfl rfl).q) (fun a w hF hW => ?_)
      refine l_alloc (cs := [.int .i64 0, .int .i64 0, .int .i64 0]) hF hW rfl Z60 rfl (fun b1 a w hF hW => ?_)
      refine l_store (vs := [.int .i64 x9.1, .int .i64 x10.1, .int .i64 x11.1]) (M' := [(b1, [.int .i64 x9.1, .int .i64 x10.1, .int .i64 x11.1]), (q_p0, [.string (bs x11.2.1), .int .i64 x11.2.2])]) 0 hF hW rfl rfl rfl T60 rfl rfl rfl rfl rfl (fun w hW => ?_)
      refine ls_nil ?_
      refine c_then ?_
      obtain ⟨o3, G3, K3⟩ := bindE H
      refine c_seqJ (fun a w => ∃ x12 : List UInt8, ∃ x13 : Int, some ((x12, x13)) = some o3 ∧ Fr 39 [] [(0, .pointer (some ⟨q_p0, 0, none⟩)), (1, .int .i64 p1), (4, .slice none 0 0), (5, v2), (9, .pointer (some ⟨b1, 0, none⟩)), (11, .int .i64 x4.1), (12, .int .i64 x6)] a ∧ Stw ⟨Y, X, w0⟩ [(b1, [.int .i64 x9.1, .int .i64 x10.1, .int .i64 x11.1]), (q_p0, [.string (bs x12), .int .i64 x13])] [row v2 60 R60 x5] w) ?_ ?_
      ·
        have H := G3
        clear G3 K3
        refine c_seq ?_
        refine reg_list ?_
        refine ls hF hW rfl ((y_load (v := Value.agg #[.int .i64 x9.1, .int .i64 x10.1, .int .i64 x11.1]) 0 hF rfl rfl T60 rfl).q) (fun a w hF hW => ?_)
        refine ls hF hW rfl ((y_move hF rfl).q) (fun a w hF hW => ?_)
        obtain ⟨x14, h5, H⟩ := bindE H
        refine ls hF hW rfl (y_call (v := Value.bool x14) hF H63 rfl (fun w hW => act_right_c any w (x9.1, x10.1, x11.1) p1 _ h5)) (fun a w hF hW => ?_)
        refine ls hF hW rfl ((y_not hF rfl).q) (fun a w hF hW => ?_)
        refine ls_nil ?_
        refine c_then ?_
        refine c_cond hF rfl (fun hb => ?_) (fun hb => ?_)
        ·
          have H := iteT hb H
          rw [hb] at hF
          clear hb
          refine reg_list ?_
          refine ls hF hW rfl ((y_move hF rfl).q) (fun a w hF hW => ?_)
          have hW := hW.frontM (i := 1) rfl rfl
          refine l_callG (Ml := [(q_p0, [.string (bs x11.2.1), .int .i64 x11.2.2])]) (Zl := []) (M := [(b1, [.int .i64 x9.1, .int .i64 x10.1, .int .i64 x11.1])]) (Z := [row v2 60 R60 x5]) (β := Unit) (rv := fun x => .tuple #[]) (MM := fun x => [(q_p0, [.string (bs ((octet_Reader_Wrong x11.2 2).1)), .int .i64 ((octet_Reader_Wrong x11.2 2).2)])]) (ZZ := fun x => []) hF hW H61 rfl rfl (fun hL => octet_Reader_Wrong_c _ _ w q_p0 x11.2 2 _ rfl hL) (fun x a w hF hW => ?_)
          have hW : Stw ⟨Y, X, w0⟩ [(q_p0, [.string (bs ((octet_Reader_Wrong x11.2 2).1)), .int .i64 ((octet_Reader_Wrong x11.2 2).2)]), (b1, [.int .i64 x9.1, .int .i64 x10.1, .int .i64 x11.1])] [row v2 60 R60 x5] w := hW
          refine ls_nil ?_
          refine c_then ?_
          have hW := hW.frontM (i := 1) rfl rfl
          exact ⟨_, _, H, hF.re ⟨rfl, rfl, rfl, rfl, rfl, rfl, rfl, trivial⟩, hW⟩
        ·
          have H := iteF (by rw [hb]; decide) H
          rw [hb] at hF
          clear hb
          refine wp_skip ?_
          refine c_then ?_
          have hW := hW.frontM (i := 1) rfl rfl
          have hW := hW.frontM (i := 1) rfl rfl
          exact ⟨_, _, H, hF.re ⟨rfl, rfl, rfl, rfl, rfl, rfl, rfl, trivial⟩, hW⟩
      rintro a w ⟨x12, x13, hj, hF, hW⟩
      have hj := Option.some.inj hj
      subst hj
      have H := K3
      clear G3 K3
      refine reg_list ?_
      refine ls hF hW rfl ((y_move hF rfl).q) (fun a w hF hW => ?_)
      refine ls hF hW rfl ((y_load (v := Value.agg #[.int .i64 x9.1, .int .i64 x10.1, .int .i64 x11.1]) 0 hF rfl rfl T60 rfl).q) (fun a w hF hW => ?_)
      refine l_lit (z := Value.agg #[.int .i64 0, .int .i64 0, .int .i64 0]) (cs := [.int .i64 x9.1, .int .i64 x10.1, .int .i64 x11.1]) R60 ([(x9.1, x10.1, x11.1)] : List (Int × Int × Int)) hF hW rfl L25 Z60 rfl rfl rfl rfl rfl rfl (F60.repL _ _ ([(x9.1, x10.1, x11.1)] : List (Int × Int × Int))) (fun v3 a w hF hW => ?_)
      obtain ⟨x15, h6, H⟩ := bindE H
      refine l_append (r := R60) (i := 1) hF hW rfl L25 rfl rfl rfl rfl (src_row hW 0 rfl) h6 rfl (fun v4 a w hF hW => ?_)
      have hW : Stw ⟨Y, X, w0⟩ [(b1, [.int .i64 x9.1, .int .i64 x10.1, .int .i64 x11.1]), (q_p0, [.string (bs x12), .int .i64 x13])] [row v4 60 R60 x15, row v3 60 R60 ([(x9.1, x10.1, x11.1)] : List (Int × Int × Int))] w := hW
      refine ls hF hW rfl ((y_assign hF rfl).q) (fun a w hF hW => ?_)
      refine ls_nil ?_
      refine b_normal ?_
      refine c_then ?_
      refine reg_list ?_
      refine ls hF hW rfl ((y_add hF rfl rfl rfl).q) (fun a w hF hW => ?_)
      refine ls hF hW rfl ((y_move hF rfl).q) (fun a w hF hW => ?_)
      refine ls_nil ?_
      refine c_then ?_
      have hW := hW.frontM (i := 1) rfl rfl
      have hW := hW.sub (M' := [(q_p0, [.string (bs x12), .int .i64 x13])]) (Z' := [row v4 60 R60 x15]) (List.Sublist.cons_cons _ (List.nil_sublist _)) (List.Sublist.cons_cons _ (List.nil_sublist _))
      exact ⟨_, H, (v4), hF.re ⟨rfl, rfl, rfl, rfl, rfl, rfl, trivial⟩, hW⟩
    ·
      have H := iteF (of_decide_eq_false hb) H
      rw [hb] at hF
      clear hb
      refine wp_exit ?_
      refine e_then ?_
      refine e_then ?_
      refine e_block ?_
      refine c_then ?_
      have H := L2 _ H
      exact ⟨_, _, _, (v2), H, hF.re ⟨rfl, rfl, rfl, trivial⟩, hW⟩
  rintro a w ⟨x1, x2, x3, v1, hj, hF, hW⟩
  have hj := Option.some.inj hj
  subst hj
  have H := K1
  clear G1 K1
  refine c_seq ?_
  refine c_seq ?_
  refine reg_list ?_
  refine ls hF hW rfl ((y_move hF rfl).q) (fun a w hF hW => ?_)
  refine ls hF hW rfl (y_call (v := Value.bool (octet_Reader_Ok (x2, x3))) hF H57 rfl (fun w hW => octet_Reader_Ok_c any w q_p0 (x2, x3) _ rfl (at_M hW 0 rfl))) (fun a w hF hW => ?_)
  refine ls hF hW rfl ((y_not hF rfl).q) (fun a w hF hW => ?_)
  refine ls_nil ?_
  refine c_then ?_
  refine c_cond hF rfl (fun hb => ?_) (fun hb => ?_)
  ·
    have H := iteT hb H
    rw [hb] at hF
    clear hb
    refine c_seq ?_
    refine reg_list ?_
    refine ls hF hW rfl ((y_assign hF rfl).q) (fun a w hF hW => ?_)
    refine ls_nil ?_
    refine c_then ?_
    refine wp_ret ?_
    refine r_then ?_
    have H := Option.some.inj H
    subst H
    refine post1 (.inl rfl) hF hW rfl (rv_tmp hF rfl) ?_
    have hW := hW.nilRow 60 R60
    have hW := hW.sub (M' := [(q_p0, [.string (bs x2), .int .i64 x3])]) (Z' := [row (Value.slice none 0 0) 60 R60 ([])]) (List.Sublist.refl _) (List.Sublist.cons_cons _ (List.nil_sublist _))
    exact ⟨(Value.slice none 0 0), rfl, hW⟩
  ·
    have H := iteF (by rw [hb]; decide) H
    rw [hb] at hF
    clear hb
    refine wp_skip ?_
    refine c_then ?_
    refine c_seq ?_
    refine reg_list ?_
    refine ls hF hW rfl ((y_move hF rfl).q) (fun a w hF hW => ?_)
    refine ls hF hW rfl ((y_assign hF rfl).q) (fun a w hF hW => ?_)
    refine ls_nil ?_
    refine c_then ?_
    refine wp_ret ?_
    have H := Option.some.inj H
    subst H
    refine post1 (.inl rfl) hF hW rfl (rv_tmp hF rfl) ?_
    exact ⟨(v1), rfl, hW⟩

theorem H56 : Has Tryd.prog 56 := ⟨fun args w => run_callFunc_body Tryd.func56 rfl (by decide) args w⟩
noncomputable def rule_Read (p0 : List UInt8 × Int) (p1 : Int) : Option ((Int × (Int × (Int × Int × Int × Int) × (Int × Int × Int × Int)) × (List (Int × Int × Int))) × (List UInt8 × Int)) := (octet_Reader_Num p0 2).bind fun x1 => (match_Read x1.2).bind fun x2 => (act_Read x2.2 p1).bind fun x3 => (if (!(octet_Reader_Ok x3.2)) = true then some ((0, (0, (0, 0, 0, 0), (0, 0, 0, 0)), ([] : List (Int × Int × Int))), x3.2) else some ((x1.1, x2.1, x3.1), x3.2))
theorem rule_Read_c (Y : Nat → Prop) (X : List Nat) (w0 : World) (q_p0 : Nat) (p0 : List UInt8 × Int) (p1 : Int) (r : (Int × (Int × (Int × Int × Int × Int) × (Int × Int × Int × Int)) × (List (Int × Int × Int))) × (List UInt8 × Int)) (H : rule_Read p0 p1 = some r) (hL : Stw ⟨Y, X, w0⟩ [(q_p0, [.string (bs p0.1), .int .i64 p0.2])] [] w0) :
    Calls Tryd.prog 25 #[.pointer (some ⟨q_p0, 0, none⟩), .int .i64 p1] w0 fun e w' => ∃ x : Value, e = .returned (.agg #[.int .i64 r.1.1, .int .i64 r.1.2.1.1, .int .i64 r.1.2.1.2.1.1, .int .i64 r.1.2.1.2.1.2.1, .int .i64 r.1.2.1.2.1.2.2.1, .int .i64 r.1.2.1.2.1.2.2.2, .int .i64 r.1.2.1.2.2.1, .int .i64 r.1.2.1.2.2.2.1, .int .i64 r.1.2.1.2.2.2.2.1, .int .i64 r.1.2.1.2.2.2.2.2, x]) ∧ Stw ⟨Y, X, w0⟩ [(q_p0, [.string (bs r.2.1), .int .i64 r.2.2])] [row (x) 60 R60 r.1.2.2] w' := by
  refine enter Tryd.func25 rfl Tryd.ntmps25 rfl (fun a hF => ?_)
  have hW := hL
  unfold rule_Read at H
  refine c_seq ?_
  refine reg_list ?_
  refine l_alloc (cs := [.int .i64 0, .int .i64 0, .int .i64 0, .int .i64 0, .int .i64 0, .int .i64 0, .int .i64 0, .int .i64 0, .int .i64 0, .int .i64 0, .slice none 0 0]) hF hW rfl Z27 rfl (fun b1 a w hF hW => ?_)
  refine ls_nil ?_
  refine c_then ?_
  refine c_seq ?_
  refine reg_list ?_
  refine ls hF hW rfl ((y_move hF rfl).q) (fun a w hF hW => ?_)
  obtain ⟨x1, h1, H⟩ := bindE H
  have hW := hW.frontM (i := 1) rfl rfl
  refine l_callG (Ml := [(q_p0, [.string (bs p0.1), .int .i64 p0.2])]) (Zl := []) (M := [(b1, [.int .i64 0, .int .i64 0, .int .i64 0, .int .i64 0, .int .i64 0, .int .i64 0, .int .i64 0, .int .i64 0, .int .i64 0, .int .i64 0, .slice none 0 0])]) (Z := []) (β := Unit) (rv := fun x => .int .i64 x1.1) (MM := fun x => [(q_p0, [.string (bs x1.2.1), .int .i64 x1.2.2])]) (ZZ := fun x => []) hF hW H54 rfl rfl (fun hL => octet_Reader_Num_c _ _ w q_p0 p0 2 _ h1 hL) (fun x a w hF hW => ?_)
  have hW : Stw ⟨Y, X, w0⟩ [(q_p0, [.string (bs x1.2.1), .int .i64 x1.2.2]), (b1, [.int .i64 0, .int .i64 0, .int .i64 0, .int .i64 0, .int .i64 0, .int .i64 0, .int .i64 0, .int .i64 0, .int .i64 0, .int .i64 0, .slice none 0 0])] [] w := hW
  refine ls hF hW rfl ((y_assign hF rfl).q) (fun a w hF hW => ?_)
  refine ls_nil ?_
  refine c_then ?_
  refine c_seq ?_
  refine reg_list ?_
  refine ls hF hW rfl ((y_move hF rfl).q) (fun a w hF hW => ?_)
  obtain ⟨x2, h2, H⟩ := bindE H
  refine l_callG (Ml := [(q_p0, [.string (bs x1.2.1), .int .i64 x1.2.2])]) (Zl := []) (M := [(b1, [.int .i64 0, .int .i64 0, .int .i64 0, .int .i64 0, .int .i64 0, .int .i64 0, .int .i64 0, .int .i64 0, .int .i64 0, .int .i64 0, .slice none 0 0])]) (Z := []) (β := Unit) (rv := fun x => .agg #[.int .i64 x2.1.1, .int .i64 x2.1.2.1.1, .int .i64 x2.1.2.1.2.1, .int .i64 x2.1.2.1.2.2.1, .int .i64 x2.1.2.1.2.2.2, .int .i64 x2.1.2.2.1, .int .i64 x2.1.2.2.2.1, .int .i64 x2.1.2.2.2.2.1, .int .i64 x2.1.2.2.2.2.2]) (MM := fun x => [(q_p0, [.string (bs x2.2.1), .int .i64 x2.2.2])]) (ZZ := fun x => []) hF hW H55 rfl rfl (fun hL => match_Read_c _ _ w q_p0 x1.2 _ h2 hL) (fun x a w hF hW => ?_)
  have hW : Stw ⟨Y, X, w0⟩ [(q_p0, [.string (bs x2.2.1), .int .i64 x2.2.2]), (b1, [.int .i64 0, .int .i64 0, .int .i64 0, .int .i64 0, .int .i64 0, .int .i64 0, .int .i64 0, .int .i64 0, .int .i64 0, .int .i64 0, .slice none 0 0])] [] w := hW
  refine l_alloc (cs := [.int .i64 0, .int .i64 0, .int .i64 0, .int .i64 0, .int .i64 0, .int .i64 0, .int .i64 0, .int .i64 0, .int .i64 0]) hF hW rfl Z24 rfl (fun b2 a w hF hW => ?_)
  refine l_store (vs := [.int .i64 x2.1.1, .int .i64 x2.1.2.1.1, .int .i64 x2.1.2.1.2.1, .int .i64 x2.1.2.1.2.2.1, .int .i64 x2.1.2.1.2.2.2, .int .i64 x2.1.2.2.1, .int .i64 x2.1.2.2.2.1, .int .i64 x2.1.2.2.2.2.1, .int .i64 x2.1.2.2.2.2.2]) (M' := [(b2, [.int .i64 x2.1.1, .int .i64 x2.1.2.1.1, .int .i64 x2.1.2.1.2.1, .int .i64 x2.1.2.1.2.2.1, .int .i64 x2.1.2.1.2.2.2, .int .i64 x2.1.2.2.1, .int .i64 x2.1.2.2.2.1, .int .i64 x2.1.2.2.2.2.1, .int .i64 x2.1.2.2.2.2.2]), (q_p0, [.string (bs x2.2.1), .int .i64 x2.2.2]), (b1, [.int .i64 0, .int .i64 0, .int .i64 0, .int .i64 0, .int .i64 0, .int .i64 0, .int .i64 0, .int .i64 0, .int .i64 0, .int .i64 0, .slice none 0 0])]) 0 hF hW rfl rfl rfl T24 rfl rfl rfl rfl rfl (fun w hW => ?_)
  refine ls_nil ?_
  refine c_then ?_
  refine c_seq ?_
  refine reg_list ?_
  refine ls hF hW rfl ((y_move hF rfl).q) (fun a w hF hW => ?_)
  refine ls hF hW rfl ((y_move hF rfl).q) (fun a w hF hW => ?_)
  obtain ⟨x3, h3, H⟩ := bindE H
  have hW := hW.frontM (i := 1) rfl rfl
  refine l_callG (Ml := [(q_p0, [.string (bs x2.2.1), .int .i64 x2.2.2])]) (Zl := []) (M := [(b2, [.int .i64 x2.1.1, .int .i64 x2.1.2.1.1, .int .i64 x2.1.2.1.2.1, .int .i64 x2.1.2.1.2.2.1, .int .i64 x2.1.2.1.2.2.2, .int .i64 x2.1.2.2.1, .int .i64 x2.1.2.2.2.1, .int .i64 x2.1.2.2.2.2.1, .int .i64 x2.1.2.2.2.2.2]), (b1, [.int .i64 0, .int .i64 0, .int .i64 0, .int .i64 0, .int .i64 0, .int .i64 0, .int .i64 0, .int .i64 0, .int .i64 0, .int .i64 0, .slice none 0 0])]) (Z := []) (β := Value) (rv := fun x => x) (MM := fun x => [(q_p0, [.string (bs x3.2.1), .int .i64 x3.2.2])]) (ZZ := fun x => [row x 60 R60 x3.1]) hF hW H56 rfl rfl (fun hL => act_Read_c _ _ w q_p0 x2.2 p1 _ h3 hL) (fun x a w hF hW => ?_)
  obtain ⟨v1, rfl⟩ : ∃ y, y = x := ⟨x, rfl⟩
  have hW : Stw ⟨Y, X, w0⟩ [(q_p0, [.string (bs x3.2.1), .int .i64 x3.2.2]), (b2, [.int .i64 x2.1.1, .int .i64 x2.1.2.1.1, .int .i64 x2.1.2.1.2.1, .int .i64 x2.1.2.1.2.2.1, .int .i64 x2.1.2.1.2.2.2, .int .i64 x2.1.2.2.1, .int .i64 x2.1.2.2.2.1, .int .i64 x2.1.2.2.2.2.1, .int .i64 x2.1.2.2.2.2.2]), (b1, [.int .i64 0, .int .i64 0, .int .i64 0, .int .i64 0, .int .i64 0, .int .i64 0, .int .i64 0, .int .i64 0, .int .i64 0, .int .i64 0, .slice none 0 0])] [row v1 60 R60 x3.1] w := hW
  refine ls hF hW rfl ((y_assign hF rfl).q) (fun a w hF hW => ?_)
  refine ls_nil ?_
  refine c_then ?_
  refine c_seq ?_
  refine c_seq ?_
  refine reg_list ?_
  refine ls hF hW rfl ((y_move hF rfl).q) (fun a w hF hW => ?_)
  refine ls hF hW rfl (y_call (v := Value.bool (octet_Reader_Ok x3.2)) hF H57 rfl (fun w hW => octet_Reader_Ok_c any w q_p0 x3.2 _ rfl (at_M hW 0 rfl))) (fun a w hF hW => ?_)
  refine ls hF hW rfl ((y_not hF rfl).q) (fun a w hF hW => ?_)
  refine ls_nil ?_
  refine c_then ?_
  refine c_cond hF rfl (fun hb => ?_) (fun hb => ?_)
  ·
    have H := iteT hb H
    rw [hb] at hF
    clear hb
    refine c_seq ?_
    refine reg_list ?_
    refine ls hF hW rfl ((y_build (v := Value.agg #[.int .i64 0, .int .i64 0, .int .i64 0, .int .i64 0, .int .i64 0, .int .i64 0, .int .i64 0, .int .i64 0, .int .i64 0, .int .i64 0, .slice none 0 0]) B27 hF rfl rfl rfl).q) (fun a w hF hW => ?_)
    refine l_store (vs := [.int .i64 0, .int .i64 0, .int .i64 0, .int .i64 0, .int .i64 0, .int .i64 0, .int .i64 0, .int .i64 0, .int .i64 0, .int .i64 0, .slice none 0 0]) (M' := [(q_p0, [.string (bs x3.2.1), .int .i64 x3.2.2]), (b2, [.int .i64 x2.1.1, .int .i64 x2.1.2.1.1, .int .i64 x2.1.2.1.2.1, .int .i64 x2.1.2.1.2.2.1, .int .i64 x2.1.2.1.2.2.2, .int .i64 x2.1.2.2.1, .int .i64 x2.1.2.2.2.1, .int .i64 x2.1.2.2.2.2.1, .int .i64 x2.1.2.2.2.2.2]), (b1, [.int .i64 0, .int .i64 0, .int .i64 0, .int .i64 0, .int .i64 0, .int .i64 0, .int .i64 0, .int .i64 0, .int .i64 0, .int .i64 0, .slice none 0 0])]) 2 hF hW rfl rfl rfl T27 rfl rfl rfl rfl rfl (fun w hW => ?_)
    refine ls_nil ?_
    refine c_then ?_
    refine wp_ret ?_
    refine r_then ?_
    have H := Option.some.inj H
    subst H
    refine post1 (.inl rfl) hF hW rfl (rv_cell 2 hF rfl rfl T27 rfl) ?_
    have hW := hW.nilRow 60 R60
    have hW := hW.sub (M' := [(q_p0, [.string (bs x3.2.1), .int .i64 x3.2.2])]) (Z' := [row (Value.slice none 0 0) 60 R60 ([])]) (List.Sublist.cons_cons _ (List.nil_sublist _)) (List.Sublist.cons_cons _ (List.nil_sublist _))
    exact ⟨(Value.slice none 0 0), rfl, hW⟩
  ·
    have H := iteF (by rw [hb]; decide) H
    rw [hb] at hF
    clear hb
    refine wp_skip ?_
    refine c_then ?_
    refine c_seq ?_
    refine reg_list ?_
    refine ls hF hW rfl ((y_move hF rfl).q) (fun a w hF hW => ?_)
    refine ls hF hW rfl ((y_load (v := Value.agg #[.int .i64 x2.1.1, .int .i64 x2.1.2.1.1, .int .i64 x2.1.2.1.2.1, .int .i64 x2.1.2.1.2.2.1, .int .i64 x2.1.2.1.2.2.2, .int .i64 x2.1.2.2.1, .int .i64 x2.1.2.2.2.1, .int .i64 x2.1.2.2.2.2.1, .int .i64 x2.1.2.2.2.2.2]) 1 hF rfl rfl T24 rfl).q) (fun a w hF hW => ?_)
    refine ls hF hW rfl ((y_move hF rfl).q) (fun a w hF hW => ?_)
    refine ls hF hW rfl ((y_build (v := Value.agg #[.int .i64 x1.1, .int .i64 x2.1.1, .int .i64 x2.1.2.1.1, .int .i64 x2.1.2.1.2.1, .int .i64 x2.1.2.1.2.2.1, .int .i64 x2.1.2.1.2.2.2, .int .i64 x2.1.2.2.1, .int .i64 x2.1.2.2.2.1, .int .i64 x2.1.2.2.2.2.1, .int .i64 x2.1.2.2.2.2.2, v1]) B27 hF rfl (fill_cons rfl rfl rfl (fill_cons rfl rfl rfl (fill_cons rfl (cells_one (hW.one (k := 0) rfl)) rfl fill_nil))) rfl).q) (fun a w hF hW => ?_)
    refine l_store (vs := [.int .i64 x1.1, .int .i64 x2.1.1, .int .i64 x2.1.2.1.1, .int .i64 x2.1.2.1.2.1, .int .i64 x2.1.2.1.2.2.1, .int .i64 x2.1.2.1.2.2.2, .int .i64 x2.1.2.2.1, .int .i64 x2.1.2.2.2.1, .int .i64 x2.1.2.2.2.2.1, .int .i64 x2.1.2.2.2.2.2, v1]) (M' := [(q_p0, [.string (bs x3.2.1), .int .i64 x3.2.2]), (b2, [.int .i64 x2.1.1, .int .i64 x2.1.2.1.1, .int .i64 x2.1.2.1.2.1, .int .i64 x2.1.2.1.2.2.1, .int .i64 x2.1.2.1.2.2.2, .int .i64 x2.1.2.2.1, .int .i64 x2.1.2.2.2.1, .int .i64 x2.1.2.2.2.2.1, .int .i64 x2.1.2.2.2.2.2]), (b1, [.int .i64 x1.1, .int .i64 x2.1.1, .int .i64 x2.1.2.1.1, .int .i64 x2.1.2.1.2.1, .int .i64 x2.1.2.1.2.2.1, .int .i64 x2.1.2.1.2.2.2, .int .i64 x2.1.2.2.1, .int .i64 x2.1.2.2.2.1, .int .i64 x2.1.2.2.2.2.1, .int .i64 x2.1.2.2.2.2.2, v1])]) 2 hF hW rfl rfl rfl T27 rfl rfl rfl (one_cons rfl (one_cons rfl (one_cons rfl (one_cons rfl (one_cons rfl (one_cons rfl (one_cons rfl (one_cons rfl (one_cons rfl (one_cons rfl (one_cons (hW.one (k := 0) rfl) one_nil))))))))))) rfl (fun w hW => ?_)
    refine ls_nil ?_
    refine c_then ?_
    refine wp_ret ?_
    have H := Option.some.inj H
    subst H
    refine post1 (.inl rfl) hF hW rfl (rv_cell 2 hF rfl rfl T27 rfl) ?_
    have hW := hW.sub (M' := [(q_p0, [.string (bs x3.2.1), .int .i64 x3.2.2])]) (Z' := [row v1 60 R60 x3.1]) (List.Sublist.cons_cons _ (List.nil_sublist _)) (List.Sublist.refl _)
    exact ⟨(v1), rfl, hW⟩

theorem H25 : Has Tryd.prog 25 := ⟨fun args w => run_callFunc_body Tryd.func25 rfl (by decide) args w⟩
def r04_Reader_Wrong (p0 : List UInt8 × Int × Int) (p1 : Int) : (List UInt8 × Int × Int) := (if p0.2.2 = 0 then (p0.1, p0.2.1, p1) else p0)
theorem r04_Reader_Wrong_c (Y : Nat → Prop) (X : List Nat) (w0 : World) (q_p0 : Nat) (p0 : List UInt8 × Int × Int) (p1 : Int) (r : (List UInt8 × Int × Int)) (H : r04_Reader_Wrong p0 p1 = r) (hL : Stw ⟨Y, X, w0⟩ [(q_p0, [.string (bs p0.1), .int .i64 p0.2.1, .int .i64 p0.2.2])] [] w0) :
    Calls Tryd.prog 78 #[.pointer (some ⟨q_p0, 0, none⟩), .int .i64 p1] w0 fun e w' => ∃ x : Unit, e = .returned (.tuple #[]) ∧ Stw ⟨Y, X, w0⟩ [(q_p0, [.string (bs r.1), .int .i64 r.2.1, .int .i64 r.2.2])] [] w' := by
  refine enter Tryd.func78 rfl Tryd.ntmps78 rfl (fun a hF => ?_)
  have hW := hL
  unfold r04_Reader_Wrong at H
  refine c_seq ?_
  refine reg_list ?_
  refine ls hF hW rfl ((y_move hF rfl).q) (fun a w hF hW => ?_)
  refine ls hF hW rfl ((y_nilCheck hF rfl).q) (fun a w hF hW => ?_)
  refine ls hF hW rfl ((y_fieldAddr Tryd.underlying41 rfl rfl rfl T3 hF rfl 2 rfl).q) (fun a w hF hW => ?_)
  refine ls hF hW rfl ((y_load (v := Value.int .i64 p0.2.2) 0 hF rfl rfl T3 rfl).q) (fun a w hF hW => ?_)
  refine ls hF hW rfl ((y_eql hF rfl rfl).q) (fun a w hF hW => ?_)
  refine ls_nil ?_
  refine c_then ?_
  refine c_cond hF rfl (fun hb => ?_) (fun hb => ?_)
  ·
    have H := iteT (of_decide_eq_true hb) H
    rw [hb] at hF
    clear hb
    refine reg_list ?_
    refine ls hF hW rfl ((y_move hF rfl).q) (fun a w hF hW => ?_)
    refine ls hF hW rfl ((y_move hF rfl).q) (fun a w hF hW => ?_)
    refine ls hF hW rfl ((y_nilCheck hF rfl).q) (fun a w hF hW => ?_)
    refine ls hF hW rfl ((y_fieldAddr Tryd.underlying41 rfl rfl rfl T3 hF rfl 2 rfl).q) (fun a w hF hW => ?_)
    refine l_store (vs := [.int .i64 p1]) (M' := [(q_p0, [.string (bs p0.1), .int .i64 p0.2.1, .int .i64 p1])]) 0 hF hW rfl rfl rfl T3 rfl rfl rfl rfl rfl (fun w hW => ?_)
    refine ls_nil ?_
    subst H
    refine post0 (.inr rfl) hF rfl ?_
    exact ⟨(), rfl, hW⟩
  ·
    have H := iteF (of_decide_eq_false hb) H
    rw [hb] at hF
    clear hb
    refine wp_skip ?_
    subst H
    refine post0 (.inr rfl) hF rfl ?_
    exact ⟨(), rfl, hW⟩

theorem H78 : Has Tryd.prog 78 := ⟨fun args w => run_callFunc_body Tryd.func78 rfl (by decide) args w⟩
def r04_Reader_Left (p0 : List UInt8 × Int × Int) : Int := (if p0.2.2 ≠ 0 then 0 else w64 ((p0.1.length : Int) - p0.2.1))
theorem r04_Reader_Left_c (Y : Nat → Prop) (w0 : World) (q_p0 : Nat) (p0 : List UInt8 × Int × Int) (r : Int) (H : r04_Reader_Left p0 = r) (a_q_p0 : At ⟨Y, [], w0⟩ q_p0 0 [.string (bs p0.1), .int .i64 p0.2.1, .int .i64 p0.2.2]) :
    Calls Tryd.prog 28 #[.pointer (some ⟨q_p0, 0, none⟩)] w0 fun e w' => e = .returned (.int .i64 r) ∧ Below w0.heap.size w0 w' := by
  refine enter Tryd.func28 rfl Tryd.ntmps28 rfl (fun a hF => ?_)
  have hW := Stw.start Y w0
  unfold r04_Reader_Left at H
  refine c_seq ?_
  refine reg_list ?_
  refine ls hF hW rfl ((y_assign hF rfl).q) (fun a w hF hW => ?_)
  refine ls_nil ?_
  refine c_then ?_
  refine c_seq ?_
  refine c_seq ?_
  refine reg_list ?_
  refine ls hF hW rfl ((y_move hF rfl).q) (fun a w hF hW => ?_)
  refine ls hF hW rfl ((y_nilCheck hF rfl).q) (fun a w hF hW => ?_)
  refine ls hF hW rfl ((y_fieldAddr Tryd.underlying41 rfl rfl rfl T3 hF rfl 2 rfl).q) (fun a w hF hW => ?_)
  refine ls hF hW rfl ((y_load_at (y := Value.int .i64 p0.2.2) (j := 2) hF rfl (Nat.zero_add _).symm a_q_p0 T3 rfl).q) (fun a w hF hW => ?_)
  refine ls hF hW rfl ((y_neq hF rfl rfl).q) (fun a w hF hW => ?_)
  refine ls_nil ?_
  refine c_then ?_
  refine c_cond hF rfl (fun hb => ?_) (fun hb => ?_)
  ·
    have H := iteT (of_decide_eq_true hb) H
    rw [hb] at hF
    clear hb
    refine c_seq ?_
    refine reg_list ?_
    refine ls hF hW rfl ((y_assign hF rfl).q) (fun a w hF hW => ?_)
    refine ls_nil ?_
    refine c_then ?_
    refine wp_ret ?_
    refine r_then ?_
    subst H
    refine post1 (.inl rfl) hF hW rfl (rv_tmp hF rfl) ?_
    exact ⟨rfl, hW.done⟩
  ·
    have H := iteF (of_decide_eq_false hb) H
    rw [hb] at hF
    clear hb
    refine wp_skip ?_
    refine c_then ?_
    refine c_seq ?_
    refine reg_quiet hW MO (by kernel_rfl) ?_
    refine qs hF rfl ((y_move hF rfl).q) (fun a hF => ?_)
    refine qs hF rfl ((y_nilCheck hF rfl).q) (fun a hF => ?_)
    refine qs hF rfl ((y_fieldAddr Tryd.underlying41 rfl rfl rfl T9 hF rfl 0 rfl).q) (fun a hF => ?_)
    refine qs hF rfl ((y_load_at (y := Value.string (bs p0.1)) (j := 0) hF rfl (Nat.zero_add _).symm a_q_p0 T9 rfl).q) (fun a hF => ?_)
    refine qs hF rfl ((y_slen (l := p0.1) Tryd.underlying9 rfl hF rfl).q) (fun a hF => ?_)
    refine qs hF rfl ((y_move hF rfl).q) (fun a hF => ?_)
    refine qs hF rfl ((y_nilCheck hF rfl).q) (fun a hF => ?_)
    refine qs hF rfl ((y_fieldAddr Tryd.underlying41 rfl rfl rfl T3 hF rfl 1 rfl).q) (fun a hF => ?_)
    refine qs hF rfl ((y_load_at (y := Value.int .i64 p0.2.1) (j := 1) hF rfl (Nat.zero_add _).symm a_q_p0 T3 rfl).q) (fun a hF => ?_)
    refine qs hF rfl ((y_sub hF rfl rfl rfl).q) (fun a hF => ?_)
    refine qs hF rfl ((y_assign hF rfl).q) (fun a hF => ?_)
    refine quiet_end (fun w hW => ?_)
    refine c_then ?_
    refine wp_ret ?_
    subst H
    refine post1 (.inl rfl) hF hW rfl (rv_tmp hF rfl) ?_
    exact ⟨rfl, hW.done⟩

theorem H28 : Has Tryd.prog 28 := ⟨fun args w => run_callFunc_body Tryd.func28 rfl (by decide) args w⟩
noncomputable def r04_Reader_Take (p0 : List UInt8 × Int × Int) (p1 : Int) : Option (List UInt8 × (List UInt8 × Int × Int)) := (if p1 < 0 then some ((r04_Reader_Wrong p0 2).1, (r04_Reader_Wrong p0 2).2.1, (r04_Reader_Wrong p0 2).2.2) else some (p0.1, p0.2.1, p0.2.2)).bind fun (x1, x2, x3) => (if (r04_Reader_Left (x1, x2, x3)) < p1 then some ((r04_Reader_Wrong (x1, x2, x3) 3).1, (r04_Reader_Wrong (x1, x2, x3) 3).2.1, (r04_Reader_Wrong (x1, x2, x3) 3).2.2) else some (x1, x2, x3)).bind fun (x4, x5, x6) => (if x6 ≠ 0 then some (([] : List UInt8), (x4, x5, x6)) else (subl x4 (w64 ((w64 (x5 + p1)) - p1)) (w64 (x5 + p1))).bind fun x7 => some (x7, (x4, w64 (x5 + p1), x6)))
theorem r04_Reader_Take_c (Y : Nat → Prop) (X : List Nat) (w0 : World) (q_p0 : Nat) (p0 : List UInt8 × Int × Int) (p1 : Int) (r : List UInt8 × (List UInt8 × Int × Int)) (H : r04_Reader_Take p0 p1 = some r) (hL : Stw ⟨Y, X, w0⟩ [(q_p0, [.string (bs p0.1), .int .i64 p0.2.1, .int .i64 p0.2.2])] [] w0) :
    Calls Tryd.prog 79 #[.pointer (some ⟨q_p0, 0, none⟩), .int .i64 p1] w0 fun e w' => ∃ x : Unit, e = .returned (.string (bs r.1)) ∧ Stw ⟨Y, X, w0⟩ [(q_p0, [.string (bs r.2.1), .int .i64 r.2.2.1, .int .i64 r.2.2.2])] [] w' := by
  refine enter Tryd.func79 rfl Tryd.ntmps79 rfl (fun a hF => ?_)
  have hW := hL
  unfold r04_Reader_Take at H
  refine c_seq ?_
  refine reg_list ?_
  refine ls hF hW rfl ((y_assign (v := Value.string (bs ([] : List UInt8))) hF rfl).q) (fun a w hF hW => ?_)
  refine ls_nil ?_
  refine c_then ?_
  obtain ⟨o1, G1, K1⟩ := bindE H
  refine c_seqJ (fun a w => ∃ x1 : List UInt8, ∃ x2 : Int, ∃ x3 : Int, some ((x1, x2, x3)) = some o1 ∧ Fr 44 [] [(0, .pointer (some ⟨q_p0, 0, none⟩)), (1, .int .i64 p1), (4, .string (bs ([] : List UInt8)))] a ∧ Stw ⟨Y, X, w0⟩ [(q_p0, [.string (bs x1), .int .i64 x2, .int .i64 x3])] [] w) ?_ ?_
  ·
    have H := G1
    clear G1 K1
    refine c_seq ?_
    refine reg_list ?_
    refine ls hF hW rfl ((y_move hF rfl).q) (fun a w hF hW => ?_)
    refine ls hF hW rfl ((y_lss hF rfl rfl).q) (fun a w hF hW => ?_)
    refine ls_nil ?_
    refine c_then ?_
    refine c_cond hF rfl (fun hb => ?_) (fun hb => ?_)
    ·
      have H := iteT (of_decide_eq_true hb) H
      rw [hb] at hF
      clear hb
      refine reg_list ?_
      refine ls hF hW rfl ((y_move hF rfl).q) (fun a w hF hW => ?_)
      refine l_callG (Ml := [(q_p0, [.string (bs p0.1), .int .i64 p0.2.1, .int .i64 p0.2.2])]) (Zl := []) (M := []) (Z := []) (β := Unit) (rv := fun x => .tuple #[]) (MM := fun x => [(q_p0, [.string (bs ((r04_Reader_Wrong p0 2).1)), .int .i64 ((r04_Reader_Wrong p0 2).2.1), .int .i64 ((r04_Reader_Wrong p0 2).2.2)])]) (ZZ := fun x => []) hF hW H78 rfl rfl (fun hL => r04_Reader_Wrong_c _ _ w q_p0 p0 2 _ rfl hL) (fun x a w hF hW => ?_)
      have hW : Stw ⟨Y, X, w0⟩ [(q_p0, [.string (bs ((r04_Reader_Wrong p0 2).1)), .int .i64 ((r04_Reader_Wrong p0 2).2.1), .int .i64 ((r04_Reader_Wrong p0 2).2.2)])] [] w := hW
      refine ls_nil ?_
      refine c_then ?_
      exact ⟨_, _, _, H, hF.re ⟨rfl, rfl, rfl, trivial⟩, hW⟩
    ·
      have H := iteF (of_decide_eq_false hb) H
      rw [hb] at hF
      clear hb
      refine wp_skip ?_
      refine c_then ?_
      exact ⟨_, _, _, H, hF.re ⟨rfl, rfl, rfl, trivial⟩, hW⟩
  rintro a w ⟨x1, x2, x3, hj, hF, hW⟩
  have hj := Option.some.inj hj
  subst hj
  have H := K1
  clear G1 K1
  obtain ⟨o2, G2, K2⟩ := bindE H
  refine c_seqJ (fun a w => ∃ x4 : List UInt8, ∃ x5 : Int, ∃ x6 : Int, some ((x4, x5, x6)) = some o2 ∧ Fr 44 [] [(0, .pointer (some ⟨q_p0, 0, none⟩)), (1, .int .i64 p1), (4, .string (bs ([] : List UInt8)))] a ∧ Stw ⟨Y, X, w0⟩ [(q_p0, [.string (bs x4), .int .i64 x5, .int .i64 x6])] [] w) ?_ ?_
  ·
    have H := G2
    clear G2 K2
    refine c_seq ?_
    refine reg_list ?_
    refine ls hF hW rfl ((y_move hF rfl).q) (fun a w hF hW => ?_)
    refine ls hF hW rfl ((y_move hF rfl).q) (fun a w hF hW => ?_)
    refine ls hF hW rfl (y_call (v := Value.int .i64 (r04_Reader_Left (x1, x2, x3))) hF H28 rfl (fun w hW => r04_Reader_Left_c any w q_p0 (x1, x2, x3) _ rfl (at_M hW 0 rfl))) (fun a w hF hW => ?_)
    refine ls hF hW rfl ((y_gtr hF rfl rfl).q) (fun a w hF hW => ?_)
    refine ls_nil ?_
    refine c_then ?_
    refine c_cond hF rfl (fun hb => ?_) (fun hb => ?_)
    ·
      have H := iteT (of_decide_eq_true hb) H
      rw [hb] at hF
      clear hb
      refine reg_list ?_
      refine ls hF hW rfl ((y_move hF rfl).q) (fun a w hF hW => ?_)
      refine l_callG (Ml := [(q_p0, [.string (bs x1), .int .i64 x2, .int .i64 x3])]) (Zl := []) (M := []) (Z := []) (β := Unit) (rv := fun x => .tuple #[]) (MM := fun x => [(q_p0, [.string (bs ((r04_Reader_Wrong (x1, x2, x3) 3).1)), .int .i64 ((r04_Reader_Wrong (x1, x2, x3) 3).2.1), .int .i64 ((r04_Reader_Wrong (x1, x2, x3) 3).2.2)])]) (ZZ := fun x => []) hF hW H78 rfl rfl (fun hL => r04_Reader_Wrong_c _ _ w q_p0 (x1, x2, x3) 3 _ rfl hL) (fun x a w hF hW => ?_)
      have hW : Stw ⟨Y, X, w0⟩ [(q_p0, [.string (bs ((r04_Reader_Wrong (x1, x2, x3) 3).1)), .int .i64 ((r04_Reader_Wrong (x1, x2, x3) 3).2.1), .int .i64 ((r04_Reader_Wrong (x1, x2, x3) 3).2.2)])] [] w := hW
      refine ls_nil ?_
      refine c_then ?_
      exact ⟨_, _, _, H, hF.re ⟨rfl, rfl, rfl, trivial⟩, hW⟩
    ·
      have H := iteF (of_decide_eq_false hb) H
      rw [hb] at hF
      clear hb
      refine wp_skip ?_
      refine c_then ?_
      exact ⟨_, _, _, H, hF.re ⟨rfl, rfl, rfl, trivial⟩, hW⟩
  rintro a w ⟨x4, x5, x6, hj, hF, hW⟩
  have hj := Option.some.inj hj
  subst hj
  have H := K2
  clear G2 K2
  refine c_seq ?_
  refine c_seq ?_
  refine reg_list ?_
  refine ls hF hW rfl ((y_move hF rfl).q) (fun a w hF hW => ?_)
  refine ls hF hW rfl ((y_nilCheck hF rfl).q) (fun a w hF hW => ?_)
  refine ls hF hW rfl ((y_fieldAddr Tryd.underlying41 rfl rfl rfl T3 hF rfl 2 rfl).q) (fun a w hF hW => ?_)
  refine ls hF hW rfl ((y_load (v := Value.int .i64 x6) 0 hF rfl rfl T3 rfl).q) (fun a w hF hW => ?_)
  refine ls hF hW rfl ((y_neq hF rfl rfl).q) (fun a w hF hW => ?_)
  refine ls_nil ?_
  refine c_then ?_
  refine c_cond hF rfl (fun hb => ?_) (fun hb => ?_)
  ·
    have H := iteT (of_decide_eq_true hb) H
    rw [hb] at hF
    clear hb
    refine c_seq ?_
    refine reg_list ?_
    refine ls hF hW rfl ((y_assign (v := Value.string (bs ([] : List UInt8))) hF rfl).q) (fun a w hF hW => ?_)
    refine ls_nil ?_
    refine c_then ?_
    refine wp_ret ?_
    refine r_then ?_
    have H := Option.some.inj H
    subst H
    refine post1 (.inl rfl) hF hW rfl (rv_tmp hF rfl) ?_
    exact ⟨(), rfl, hW⟩
  ·
    have H := iteF (of_decide_eq_false hb) H
    rw [hb] at hF
    clear hb
    refine wp_skip ?_
    refine c_then ?_
    refine c_seq ?_
    refine reg_list ?_
    refine ls hF hW rfl ((y_move hF rfl).q) (fun a w hF hW => ?_)
    refine ls hF hW rfl ((y_move hF rfl).q) (fun a w hF hW => ?_)
    refine ls hF hW rfl ((y_nilCheck hF rfl).q) (fun a w hF hW => ?_)
    refine ls hF hW rfl ((y_fieldAddr Tryd.underlying41 rfl rfl rfl T3 hF rfl 1 rfl).q) (fun a w hF hW => ?_)
    refine ls hF hW rfl ((y_load (v := Value.int .i64 x5) 0 hF rfl rfl T3 rfl).q) (fun a w hF hW => ?_)
    refine ls hF hW rfl ((y_move hF rfl).q) (fun a w hF hW => ?_)
    refine ls hF hW rfl ((y_add hF rfl rfl rfl).q) (fun a w hF hW => ?_)
    refine ls hF hW rfl ((y_nilCheck hF rfl).q) (fun a w hF hW => ?_)
    refine ls hF hW rfl ((y_fieldAddr Tryd.underlying41 rfl rfl rfl T3 hF rfl 1 rfl).q) (fun a w hF hW => ?_)
    refine l_store (vs := [.int .i64 (w64 (x5 + p1))]) (M' := [(q_p0, [.string (bs x4), .int .i64 (w64 (x5 + p1)), .int .i64 x6])]) 0 hF hW rfl rfl rfl T3 rfl rfl rfl rfl rfl (fun w hW => ?_)
    refine ls_nil ?_
    refine c_then ?_
    refine c_seq ?_
    refine reg_quiet hW MO (by kernel_rfl) ?_
    refine qs hF rfl ((y_move hF rfl).q) (fun a hF => ?_)
    refine qs hF rfl ((y_nilCheck hF rfl).q) (fun a hF => ?_)
    refine qs hF rfl ((y_fieldAddr Tryd.underlying41 rfl rfl rfl T9 hF rfl 0 rfl).q) (fun a hF => ?_)
    refine qs hF rfl ((y_load (v := Value.string (bs x4)) 0 hF rfl rfl T9 rfl).q) (fun a hF => ?_)
    refine qs hF rfl ((y_move hF rfl).q) (fun a hF => ?_)
    refine qs hF rfl ((y_nilCheck hF rfl).q) (fun a hF => ?_)
    refine qs hF rfl ((y_fieldAddr Tryd.underlying41 rfl rfl rfl T3 hF rfl 1 rfl).q) (fun a hF => ?_)
    refine qs hF rfl ((y_load (v := Value.int .i64 (w64 (x5 + p1))) 0 hF rfl rfl T3 rfl).q) (fun a hF => ?_)
    refine qs hF rfl ((y_move hF rfl).q) (fun a hF => ?_)
    refine qs hF rfl ((y_sub hF rfl rfl rfl).q) (fun a hF => ?_)
    refine qs hF rfl ((y_move hF rfl).q) (fun a hF => ?_)
    refine qs hF rfl ((y_nilCheck hF rfl).q) (fun a hF => ?_)
    refine qs hF rfl ((y_fieldAddr Tryd.underlying41 rfl rfl rfl T3 hF rfl 1 rfl).q) (fun a hF => ?_)
    refine qs hF rfl ((y_load (v := Value.int .i64 (w64 (x5 + p1))) 0 hF rfl rfl T3 rfl).q) (fun a hF => ?_)
    obtain ⟨x7, h1, H⟩ := bindE H
    refine qs hF rfl ((y_sslice (l := x4) Tryd.underlying9 hF rfl rfl rfl h1).q) (fun a hF => ?_)
    refine qs hF rfl ((y_assign hF rfl).q) (fun a hF => ?_)
    refine quiet_end (fun w hW => ?_)
    refine c_then ?_
    refine wp_ret ?_
    have H := Option.some.inj H
    subst H
    refine post1 (.inl rfl) hF hW rfl (rv_tmp hF rfl) ?_
    exact ⟨(), rfl, hW⟩

theorem H79 : Has Tryd.prog 79 := ⟨fun args w => run_callFunc_body Tryd.func79 rfl (by decide) args w⟩
noncomputable def r04_Reader_Num_l1 (x4 : List UInt8) : (Int × Int) → Option ((Int × Int) ⊕ Int)
  | (x10, x11) => (if x11 < (x4.length : Int) then (ix x4 x11).bind fun x12 => some (.inl (w64 ((w64 (x10 * 256)) + (w64 (x12.toNat : Int))), w64 (x11 + 1))) else some (.inr x10))
noncomputable def r04_Reader_Num (p0 : List UInt8 × Int × Int) (p1 : Int) : Option (Int × (List UInt8 × Int × Int)) := (if (decide (p1 < 1) || decide (7 < p1)) = true then some ((r04_Reader_Wrong p0 2).1, (r04_Reader_Wrong p0 2).2.1, (r04_Reader_Wrong p0 2).2.2) else some (p0.1, p0.2.1, p0.2.2)).bind fun (x1, x2, x3) => (if x3 = 0 then (r04_Reader_Take (x1, x2, x3) p1).bind fun x8 => some (x8.1, x8.2.1, x8.2.2.1, x8.2.2.2) else some (([] : List UInt8), x1, x2, x3)).bind fun (x4, x5, x6, x7) => (loopW (r04_Reader_Num_l1 x4) (0, 0)).bind fun x9 => some (x9, (x5, x6, x7))
theorem r04_Reader_Num_c (Y : Nat → Prop) (X : List Nat) (w0 : World) (q_p0 : Nat) (p0 : List UInt8 × Int × Int) (p1 : Int) (r : Int × (List UInt8 × Int × Int)) (H : r04_Reader_Num p0 p1 = some r) (hL : Stw ⟨Y, X, w0⟩ [(q_p0, [.string (bs p0.1), .int .i64 p0.2.1, .int .i64 p0.2.2])] [] w0) :
    Calls Tryd.prog 58 #[.pointer (some ⟨q_p0, 0, none⟩), .int .i64 p1] w0 fun e w' => ∃ x : Unit, e = .returned (.int .i64 r.1) ∧ Stw ⟨Y, X, w0⟩ [(q_p0, [.string (bs r.2.1), .int .i64 r.2.2.1, .int .i64 r.2.2.2])] [] w' := by
  refine enter Tryd.func58 rfl Tryd.ntmps58 rfl (fun a hF => ?_)
  have hW := hL
  unfold r04_Reader_Num at H
  refine c_seq ?_
  refine reg_list ?_
  refine ls hF hW rfl ((y_assign hF rfl).q) (fun a w hF hW => ?_)
  refine ls_nil ?_
  refine c_then ?_
  obtain ⟨o1, G1, K1⟩ := bindE H
  refine c_seqJ (fun a w => ∃ x1 : List UInt8, ∃ x2 : Int, ∃ x3 : Int, some ((x1, x2, x3)) = some o1 ∧ Fr 38 [] [(0, .pointer (some ⟨q_p0, 0, none⟩)), (1, .int .i64 p1), (4, .int .i64 0)] a ∧ Stw ⟨Y, X, w0⟩ [(q_p0, [.string (bs x1), .int .i64 x2, .int .i64 x3])] [] w) ?_ ?_
  ·
    have H := G1
    clear G1 K1
    refine c_seqJ (fun a w => Fr 38 [] [(0, .pointer (some ⟨q_p0, 0, none⟩)), (1, .int .i64 p1), (4, .int .i64 0), (13, .bool (decide (p1 < 1) || decide (7 < p1)))] a ∧ Stw ⟨Y, X, w0⟩ [(q_p0, [.string (bs p0.1), .int .i64 p0.2.1, .int .i64 p0.2.2])] [] w) ?_ ?_
    ·
      refine reg_list ?_
      refine ls hF hW rfl ((y_move hF rfl).q) (fun a w hF hW => ?_)
      refine ls hF hW rfl ((y_lss hF rfl rfl).q) (fun a w hF hW => ?_)
      refine ls hF hW rfl ((y_move hF rfl).q) (fun a w hF hW => ?_)
      rcases Bool.eq_false_or_eq_true (decide (p1 < 1)) with hb0 | hb0
      ·
        rw [hb0] at hF
        refine ls_skip hF (wanted_n hF rfl rfl rfl rfl rfl) rfl rfl (fun a hF => ?_)
        refine ls_skip hF (wanted_n hF rfl rfl rfl rfl rfl) rfl rfl (fun a hF => ?_)
        refine ls hF hW rfl ((y_pick_t hF rfl rfl rfl).q) (fun a w hF hW => ?_)
        refine ls_nil ?_
        refine c_then ?_
        exact ⟨hF.re ⟨rfl, rfl, rfl, (by show some (Value.bool true) = some (Value.bool (decide (p1 < 1) || decide (7 < p1))); try rw [hb0]; all_goals simp only [Bool.not_true, Bool.not_false, Bool.true_and, Bool.false_and, Bool.true_or, Bool.false_or, Bool.and_true, Bool.or_false, cond_true, cond_false]), trivial⟩, hW⟩
      ·
        rw [hb0] at hF
        refine ls_w hF hW (wanted_y hF rfl rfl rfl rfl) rfl (Nat.le_of_ble_eq_true rfl) ((y_move hF rfl).q) (fun a w hF hW => ?_)
        refine ls_w hF hW (wanted_y hF rfl rfl rfl rfl) rfl (Nat.le_of_ble_eq_true rfl) ((y_gtr hF rfl rfl).q) (fun a w hF hW => ?_)
        refine ls hF hW rfl ((y_pick_f hF rfl rfl rfl).q) (fun a w hF hW => ?_)
        refine ls_nil ?_
        refine c_then ?_
        exact ⟨hF.re ⟨rfl, rfl, rfl, (by show some (Value.bool (decide (7 < p1))) = some (Value.bool (decide (p1 < 1) || decide (7 < p1))); try rw [hb0]; all_goals simp only [Bool.not_true, Bool.not_false, Bool.true_and, Bool.false_and, Bool.true_or, Bool.false_or, Bool.and_true, Bool.or_false, cond_true, cond_false]), trivial⟩, hW⟩
    rintro a w ⟨hF, hW⟩
    refine c_cond hF rfl (fun hb => ?_) (fun hb => ?_)
    ·
      have H := iteT hb H
      rw [hb] at hF
      clear hb
      refine reg_list ?_
      refine ls hF hW rfl ((y_move hF rfl).q) (fun a w hF hW => ?_)
      refine l_callG (Ml := [(q_p0, [.string (bs p0.1), .int .i64 p0.2.1, .int .i64 p0.2.2])]) (Zl := []) (M := []) (Z := []) (β := Unit) (rv := fun x => .tuple #[]) (MM := fun x => [(q_p0, [.string (bs ((r04_Reader_Wrong p0 2).1)), .int .i64 ((r04_Reader_Wrong p0 2).2.1), .int .i64 ((r04_Reader_Wrong p0 2).2.2)])]) (ZZ := fun x => []) hF hW H78 rfl rfl (fun hL => r04_Reader_Wrong_c _ _ w q_p0 p0 2 _ rfl hL) (fun x a w hF hW => ?_)
      have hW : Stw ⟨Y, X, w0⟩ [(q_p0, [.string (bs ((r04_Reader_Wrong p0 2).1)), .int .i64 ((r04_Reader_Wrong p0 2).2.1), .int .i64 ((r04_Reader_Wrong p0 2).2.2)])] [] w := hW
      refine ls_nil ?_
      refine c_then ?_
      exact ⟨_, _, _, H, hF.re ⟨rfl, rfl, rfl, trivial⟩, hW⟩
    ·
      have H := iteF (by rw [hb]; decide) H
      rw [hb] at hF
      clear hb
      refine wp_skip ?_
      refine c_then ?_
      exact ⟨_, _, _, H, hF.re ⟨rfl, rfl, rfl, trivial⟩, hW⟩
  rintro a w ⟨x1, x2, x3, hj, hF, hW⟩
  have hj := Option.some.inj hj
  subst hj
  have H := K1
  clear G1 K1
  refine c_seq ?_
  refine reg_list ?_
  refine ls hF hW rfl ((y_assign (v := Value.string (bs ([] : List UInt8))) hF rfl).q) (fun a w hF hW => ?_)
  refine ls_nil ?_
  refine c_then ?_
  obtain ⟨o2, G2, K2⟩ := bindE H
  refine c_seqJ (fun a w => ∃ x4 : List UInt8, ∃ x5 : List UInt8, ∃ x6 : Int, ∃ x7 : Int, some ((x4, x5, x6, x7)) = some o2 ∧ Fr 38 [] [(4, .int .i64 0), (5, .string (bs x4))] a ∧ Stw ⟨Y, X, w0⟩ [(q_p0, [.string (bs x5), .int .i64 x6, .int .i64 x7])] [] w) ?_ ?_
  ·
    have H := G2
    clear G2 K2
    refine c_seq ?_
    refine reg_list ?_
    refine ls hF hW rfl ((y_move hF rfl).q) (fun a w hF hW => ?_)
    refine ls hF hW rfl ((y_nilCheck hF rfl).q) (fun a w hF hW => ?_)
    refine ls hF hW rfl ((y_fieldAddr Tryd.underlying41 rfl rfl rfl T3 hF rfl 2 rfl).q) (fun a w hF hW => ?_)
    refine ls hF hW rfl ((y_load (v := Value.int .i64 x3) 0 hF rfl rfl T3 rfl).q) (fun a w hF hW => ?_)
    refine ls hF hW rfl ((y_eql hF rfl rfl).q) (fun a w hF hW => ?_)
    refine ls_nil ?_
    refine c_then ?_
    refine c_cond hF rfl (fun hb => ?_) (fun hb => ?_)
    ·
      have H := iteT (of_decide_eq_true hb) H
      rw [hb] at hF
      clear hb
      refine reg_list ?_
      refine ls hF hW rfl ((y_move hF rfl).q) (fun a w hF hW => ?_)
      refine ls hF hW rfl ((y_move hF rfl).q) (fun a w hF hW => ?_)
      obtain ⟨x8, h1, H⟩ := bindE H
      refine l_callG (Ml := [(q_p0, [.string (bs x1), .int .i64 x2, .int .i64 x3])]) (Zl := []) (M := []) (Z := []) (β := Unit) (rv := fun x => .string (bs x8.1)) (MM := fun x => [(q_p0, [.string (bs x8.2.1), .int .i64 x8.2.2.1, .int .i64 x8.2.2.2])]) (ZZ := fun x => []) hF hW H79 rfl rfl (fun hL => r04_Reader_Take_c _ _ w q_p0 (x1, x2, x3) p1 _ h1 hL) (fun x a w hF hW => ?_)
      have hW : Stw ⟨Y, X, w0⟩ [(q_p0, [.string (bs x8.2.1), .int .i64 x8.2.2.1, .int .i64 x8.2.2.2])] [] w := hW
      refine ls hF hW rfl ((y_assign hF rfl).q) (fun a w hF hW => ?_)
      refine ls_nil ?_
      refine c_then ?_
      exact ⟨_, _, _, _, H, hF.re ⟨rfl, rfl, trivial⟩, hW⟩
    ·
      have H := iteF (of_decide_eq_false hb) H
      rw [hb] at hF
      clear hb
      refine wp_skip ?_
      refine c_then ?_
      exact ⟨_, _, _, _, H, hF.re ⟨rfl, rfl, trivial⟩, hW⟩
  rintro a w ⟨x4, x5, x6, x7, hj, hF, hW⟩
  have hj := Option.some.inj hj
  subst hj
  have H := K2
  clear G2 K2
  refine c_seq ?_
  refine reg_list ?_
  refine ls hF hW rfl ((y_assign hF rfl).q) (fun a w hF hW => ?_)
  refine ls_nil ?_
  refine c_then ?_
  obtain ⟨o3, G3, K3⟩ := bindE H
  refine c_seqJ (fun a w => ∃ x9 : Int, some (x9) = some o3 ∧ Fr 38 [] [(4, .int .i64 0), (6, .int .i64 x9)] a ∧ Stw ⟨Y, X, w0⟩ [(q_p0, [.string (bs x5), .int .i64 x6, .int .i64 x7])] [] w) ?_ ?_
  ·
    have H := G3
    clear G3 K3
    refine c_seq ?_
    refine reg_list ?_
    refine ls hF hW rfl ((y_assign hF rfl).q) (fun a w hF hW => ?_)
    refine ls_nil ?_
    refine c_then ?_
    refine wp_block ?_
    refine c_loopW H (fun s a w => Fr 38 [] [(4, .int .i64 0), (5, .string (bs x4)), (6, .int .i64 s.1), (7, .int .i64 s.2)] a ∧ Stw ⟨Y, X, w0⟩ [(q_p0, [.string (bs x5), .int .i64 x6, .int .i64 x7])] [] w) ⟨hF.re ⟨rfl, rfl, rfl, rfl, trivial⟩, hW⟩ (fun s o a w H L4 hR => ?_)
    obtain ⟨x10, x11⟩ := s
    obtain ⟨hF, hW⟩ := hR
    have hF : Fr 38 [] [(4, .int .i64 0), (5, .string (bs x4)), (6, .int .i64 x10), (7, .int .i64 x11)] a := hF
    have hW : Stw ⟨Y, X, w0⟩ [(q_p0, [.string (bs x5), .int .i64 x6, .int .i64 x7])] [] w := hW
    rw [r04_Reader_Num_l1] at H
    refine c_seq ?_
    refine c_seq ?_
    refine reg_list ?_
    refine ls hF hW rfl ((y_move hF rfl).q) (fun a w hF hW => ?_)
    refine ls hF hW rfl ((y_move hF rfl).q) (fun a w hF hW => ?_)
    refine ls hF hW rfl ((y_slen (l := x4) Tryd.underlying9 rfl hF rfl).q) (fun a w hF hW => ?_)
    refine ls hF hW rfl ((y_lss hF rfl rfl).q) (fun a w hF hW => ?_)
    refine ls_nil ?_
    refine c_then ?_
    refine c_cond hF rfl (fun hb => ?_) (fun hb => ?_)
    ·
      have H := iteT (of_decide_eq_true hb) H
      rw [hb] at hF
      clear hb
      refine wp_skip ?_
      refine c_then ?_
      refine c_seq ?_
      refine wp_block ?_
      refine reg_list ?_
      refine ls hF hW rfl ((y_move hF rfl).q) (fun a w hF hW => ?_)
      refine ls hF hW rfl ((y_mul hF rfl rfl rfl).q) (fun a w hF hW => ?_)
      refine ls hF hW rfl ((y_move hF rfl).q) (fun a w hF hW => ?_)
      refine ls hF hW rfl ((y_move hF rfl).q) (fun a w hF hW => ?_)
      obtain ⟨x12, h2, H⟩ := bindE H
      refine ls hF hW rfl ((y_sindex (l := x4) Tryd.underlying9 hF rfl rfl h2).q) (fun a w hF hW => ?_)
      refine ls hF hW rfl ((y_convI Tryd.underlying5 Tryd.underlying3 hF rfl).q) (fun a w hF hW => ?_)
      refine ls hF hW rfl ((y_add hF rfl rfl rfl).q) (fun a w hF hW => ?_)
      refine ls hF hW rfl ((y_assign hF rfl).q) (fun a w hF hW => ?_)
      refine ls_nil ?_
      refine b_normal ?_
      refine c_then ?_
      refine reg_list ?_
      refine ls hF hW rfl ((y_move hF rfl).q) (fun a w hF hW => ?_)
      refine ls hF hW rfl ((y_add hF rfl rfl rfl).q) (fun a w hF hW => ?_)
      refine ls hF hW rfl ((y_assign hF rfl).q) (fun a w hF hW => ?_)
      refine ls_nil ?_
      refine c_then ?_
      exact ⟨_, H, hF.re ⟨rfl, rfl, rfl, rfl, trivial⟩, hW⟩
    ·
      have H := iteF (of_decide_eq_false hb) H
      rw [hb] at hF
      clear hb
      refine wp_exit ?_
      refine e_then ?_
      refine e_then ?_
      refine e_block ?_
      refine c_then ?_
      have H := L4 _ H
      exact ⟨_, H, hF.re ⟨rfl, rfl, trivial⟩, hW⟩
  rintro a w ⟨x9, hj, hF, hW⟩
  have hj := Option.some.inj hj
  subst hj
  have H := K3
  clear G3 K3
  refine c_seq ?_
  refine reg_list ?_
  refine ls hF hW rfl ((y_move hF rfl).q) (fun a w hF hW => ?_)
  refine ls hF hW rfl ((y_assign hF rfl).q) (fun a w hF hW => ?_)
  refine ls_nil ?_
  refine c_then ?_
  refine wp_ret ?_
  have H := Option.some.inj H
  subst H
  refine post1 (.inl rfl) hF hW rfl (rv_tmp hF rfl) ?_
  exact ⟨(), rfl, hW⟩

theorem H58 : Has Tryd.prog 58 := ⟨fun args w => run_callFunc_body Tryd.func58 rfl (by decide) args w⟩
noncomputable def r08_Read_l1  : (Int × List UInt8 × Int × Int × Int × Int × Int × Int × Int × Int × Int × Int) → Option ((Int × List UInt8 × Int × Int × Int × Int × Int × Int × Int × Int × Int × Int) ⊕ (List UInt8 × Int × Int × Int × Int × Int × Int × Int × Int × Int × Int))
  | (x13, x14, x15, x16, x17, x18, x19, x20, x21, x22, x23, x24) => (if x13 < 4 then (r04_Reader_Num (x14, x15, x16) 1).bind fun x25 => (ix ([x17, x18, x19, x20] : List Int) x13).bind fun x26 => (r04_Reader_Num x25.2 1).bind fun x27 => (ix ([x21, x22, x23, x24] : List Int) x13).bind fun x28 => some (.inl (w64 (x13 + 1), x27.2.1, x27.2.2.1, x27.2.2.2, (if x13 = 0 then x25.1 else x17), (if x13 = 1 then x25.1 else x18), (if x13 = 2 then x25.1 else x19), (if x13 = 3 then x25.1 else x20), (if x13 = 0 then x27.1 else x21), (if x13 = 1 then x27.1 else x22), (if x13 = 2 then x27.1 else x23), (if x13 = 3 then x27.1 else x24))) else some (.inr (x14, x15, x16, x17, x18, x19, x20, x21, x22, x23, x24)))
noncomputable def r08_Read (p0 : List UInt8 × Int × Int) : Option ((Int × (Int × Int × Int × Int) × (Int × Int × Int × Int)) × (List UInt8 × Int × Int)) := (r04_Reader_Num p0 1).bind fun x1 => (loopW (r08_Read_l1) (0, x1.2.1, x1.2.2.1, x1.2.2.2, 0, 0, 0, 0, 0, 0, 0, 0)).bind fun (x2, x3, x4, x5, x6, x7, x8, x9, x10, x11, x12) => ((r08_Right (w64 (x1.1 - 1), (x5, x6, x7, x8), (x9, x10, x11, x12))).bind fun x32 => (if (!x32) = true then some ((r04_Reader_Wrong (x2, x3, x4) 2).1, (r04_Reader_Wrong (x2, x3, x4) 2).2.1, (r04_Reader_Wrong (x2, x3, x4) 2).2.2) else some (x2, x3, x4))).bind fun (x29, x30, x31) => (if x31 ≠ 0 then some ((0, (0, 0, 0, 0), (0, 0, 0, 0)), (x29, x30, x31)) else some ((w64 (x1.1 - 1), (x5, x6, x7, x8), (x9, x10, x11, x12)), (x29, x30, x31)))
theorem r08_Read_c (Y : Nat → Prop) (X : List Nat) (w0 : World) (q_p0 : Nat) (p0 : List UInt8 × Int × Int) (r : (Int × (Int × Int × Int × Int) × (Int × Int × Int × Int)) × (List UInt8 × Int × Int)) (H : r08_Read p0 = some r) (hL : Stw ⟨Y, X, w0⟩ [(q_p0, [.string (bs p0.1), .int .i64 p0.2.1, .int .i64 p0.2.2])] [] w0) :
    Calls Tryd.prog 59 #[.pointer (some ⟨q_p0, 0, none⟩)] w0 fun e w' => ∃ x : Unit, e = .returned (.agg #[.int .i64 r.1.1, .int .i64 r.1.2.1.1, .int .i64 r.1.2.1.2.1, .int .i64 r.1.2.1.2.2.1, .int .i64 r.1.2.1.2.2.2, .int .i64 r.1.2.2.1, .int .i64 r.1.2.2.2.1, .int .i64 r.1.2.2.2.2.1, .int .i64 r.1.2.2.2.2.2]) ∧ Stw ⟨Y, X, w0⟩ [(q_p0, [.string (bs r.2.1), .int .i64 r.2.2.1, .int .i64 r.2.2.2])] [] w' := by
  refine enter Tryd.func59 rfl Tryd.ntmps59 rfl (fun a hF => ?_)
  have hW := hL
  unfold r08_Read at H
  refine c_seq ?_
  refine reg_list ?_
  refine l_alloc (cs := [.int .i64 0, .int .i64 0, .int .i64 0, .int .i64 0, .int .i64 0, .int .i64 0, .int .i64 0, .int .i64 0, .int .i64 0]) hF hW rfl Z24 rfl (fun b1 a w hF hW => ?_)
  refine ls_nil ?_
  refine c_then ?_
  refine c_seq ?_
  refine reg_list ?_
  refine ls hF hW rfl ((y_build (v := Value.agg #[.int .i64 0, .int .i64 0, .int .i64 0, .int .i64 0, .int .i64 0, .int .i64 0, .int .i64 0, .int .i64 0, .int .i64 0]) B24 hF rfl rfl rfl).q) (fun a w hF hW => ?_)
  refine l_alloc (cs := [.int .i64 0, .int .i64 0, .int .i64 0, .int .i64 0, .int .i64 0, .int .i64 0, .int .i64 0, .int .i64 0, .int .i64 0]) hF hW rfl Z24 rfl (fun b2 a w hF hW => ?_)
  refine l_store (vs := [.int .i64 0, .int .i64 0, .int .i64 0, .int .i64 0, .int .i64 0, .int .i64 0, .int .i64 0, .int .i64 0, .int .i64 0]) (M' := [(b2, [.int .i64 0, .int .i64 0, .int .i64 0, .int .i64 0, .int .i64 0, .int .i64 0, .int .i64 0, .int .i64 0, .int .i64 0]), (b1, [.int .i64 0, .int .i64 0, .int .i64 0, .int .i64 0, .int .i64 0, .int .i64 0, .int .i64 0, .int .i64 0, .int .i64 0]), (q_p0, [.string (bs p0.1), .int .i64 p0.2.1, .int .i64 p0.2.2])]) 0 hF hW rfl rfl rfl T24 rfl rfl rfl rfl rfl (fun w hW => ?_)
  refine ls_nil ?_
  refine c_then ?_
  refine c_seq ?_
  refine reg_list ?_
  refine ls hF hW rfl ((y_move hF rfl).q) (fun a w hF hW => ?_)
  obtain ⟨x1, h1, H⟩ := bindE H
  have hW := hW.frontM (i := 2) rfl rfl
  refine l_callG (Ml := [(q_p0, [.string (bs p0.1), .int .i64 p0.2.1, .int .i64 p0.2.2])]) (Zl := []) (M := [(b2, [.int .i64 0, .int .i64 0, .int .i64 0, .int .i64 0, .int .i64 0, .int .i64 0, .int .i64 0, .int .i64 0, .int .i64 0]), (b1, [.int .i64 0, .int .i64 0, .int .i64 0, .int .i64 0, .int .i64 0, .int .i64 0, .int .i64 0, .int .i64 0, .int .i64 0])]) (Z := []) (β := Unit) (rv := fun x => .int .i64 x1.1) (MM := fun x => [(q_p0, [.string (bs x1.2.1), .int .i64 x1.2.2.1, .int .i64 x1.2.2.2])]) (ZZ := fun x => []) hF hW H58 rfl rfl (fun hL => r04_Reader_Num_c _ _ w q_p0 p0 1 _ h1 hL) (fun x a w hF hW => ?_)
  have hW : Stw ⟨Y, X, w0⟩ [(q_p0, [.string (bs x1.2.1), .int .i64 x1.2.2.1, .int .i64 x1.2.2.2]), (b2, [.int .i64 0, .int .i64 0, .int .i64 0, .int .i64 0, .int .i64 0, .int .i64 0, .int .i64 0, .int .i64 0, .int .i64 0]), (b1, [.int .i64 0, .int .i64 0, .int .i64 0, .int .i64 0, .int .i64 0, .int .i64 0, .int .i64 0, .int .i64 0, .int .i64 0])] [] w := hW
  refine ls hF hW rfl ((y_sub hF rfl rfl rfl).q) (fun a w hF hW => ?_)
  refine ls hF hW rfl ((y_fieldAddr Tryd.underlying24 rfl rfl rfl T3 hF rfl 0 rfl).q) (fun a w hF hW => ?_)
  refine l_store (vs := [.int .i64 (w64 (x1.1 - 1))]) (M' := [(q_p0, [.string (bs x1.2.1), .int .i64 x1.2.2.1, .int .i64 x1.2.2.2]), (b2, [.int .i64 (w64 (x1.1 - 1)), .int .i64 0, .int .i64 0, .int .i64 0, .int .i64 0, .int .i64 0, .int .i64 0, .int .i64 0, .int .i64 0]), (b1, [.int .i64 0, .int .i64 0, .int .i64 0, .int .i64 0, .int .i64 0, .int .i64 0, .int .i64 0, .int .i64 0, .int .i64 0])]) 1 hF hW rfl rfl rfl T3 rfl rfl rfl rfl rfl (fun w hW => ?_)
  refine ls_nil ?_
  refine c_then ?_
  obtain ⟨o1, G1, K1⟩ := bindE H
  refine c_seqJ (fun a w => ∃ x2 : List UInt8, ∃ x3 : Int, ∃ x4 : Int, ∃ x5 : Int, ∃ x6 : Int, ∃ x7 : Int, ∃ x8 : Int, ∃ x9 : Int, ∃ x10 : Int, ∃ x11 : Int, ∃ x12 : Int, some ((x2, x3, x4, x5, x6, x7, x8, x9, x10, x11, x12)) = some o1 ∧ Fr 36 [] [(0, .pointer (some ⟨q_p0, 0, none⟩)), (2, .pointer (some ⟨b1, 0, none⟩)), (3, .pointer (some ⟨b2, 0, none⟩))] a ∧ Stw ⟨Y, X, w0⟩ [(q_p0, [.string (bs x2), .int .i64 x3, .int .i64 x4]), (b2, [.int .i64 (w64 (x1.1 - 1)), .int .i64 x5, .int .i64 x6, .int .i64 x7, .int .i64 x8, .int .i64 x9, .int .i64 x10, .int .i64 x11, .int .i64 x12]), (b1, [.int .i64 0, .int .i64 0, .int .i64 0, .int .i64 0, .int .i64 0, .int .i64 0, .int .i64 0, .int .i64 0, .int .i64 0])] [] w) ?_ ?_
  ·
    have H := G1
    clear G1 K1
    refine c_seq ?_
    refine reg_list ?_
    refine ls hF hW rfl ((y_assign hF rfl).q) (fun a w hF hW => ?_)
    refine ls_nil ?_
    refine c_then ?_
    refine wp_block ?_
    have hW := hW.frontM (i := 2) rfl rfl
    have hW := hW.frontM (i := 2) rfl rfl
    have hW := hW.frontM (i := 2) rfl rfl
    refine c_loopW H (fun s a w => Fr 36 [] [(0, .pointer (some ⟨q_p0, 0, none⟩)), (2, .pointer (some ⟨b1, 0, none⟩)), (3, .pointer (some ⟨b2, 0, none⟩)), (4, .int .i64 s.1)] a ∧ Stw ⟨Y, X, w0⟩ [(q_p0, [.string (bs s.2.1), .int .i64 s.2.2.1, .int .i64 s.2.2.2.1]), (b2, [.int .i64 (w64 (x1.1 - 1)), .int .i64 s.2.2.2.2.1, .int .i64 s.2.2.2.2.2.1, .int .i64 s.2.2.2.2.2.2.1, .int .i64 s.2.2.2.2.2.2.2.1, .int .i64 s.2.2.2.2.2.2.2.2.1, .int .i64 s.2.2.2.2.2.2.2.2.2.1, .int .i64 s.2.2.2.2.2.2.2.2.2.2.1, .int .i64 s.2.2.2.2.2.2.2.2.2.2.2]), (b1, [.int .i64 0, .int .i64 0, .int .i64 0, .int .i64 0, .int .i64 0, .int .i64 0, .int .i64 0, .int .i64 0, .int .i64 0])] [] w) ⟨hF.re ⟨rfl, rfl, rfl, rfl, trivial⟩, hW⟩ (fun s o a w H L2 hR => ?_)
    obtain ⟨x13, x14, x15, x16, x17, x18, x19, x20, x21, x22, x23, x24⟩ := s
    obtain ⟨hF, hW⟩ := hR
    have hF : Fr 36 [] [(0, .pointer (some ⟨q_p0, 0, none⟩)), (2, .pointer (some ⟨b1, 0, none⟩)), (3, .pointer (some ⟨b2, 0, none⟩)), (4, .int .i64 x13)] a := hF
    have hW : Stw ⟨Y, X, w0⟩ [(q_p0, [.string (bs x14), .int .i64 x15, .int .i64 x16]), (b2, [.int .i64 (w64 (x1.1 - 1)), .int .i64 x17, .int .i64 x18, .int .i64 x19, .int .i64 x20, .int .i64 x21, .int .i64 x22, .int .i64 x23, .int .i64 x24]), (b1, [.int .i64 0, .int .i64 0, .int .i64 0, .int .i64 0, .int .i64 0, .int .i64 0, .int .i64 0, .int .i64 0, .int .i64 0])] [] w := hW
    rw [r08_Read_l1] at H
    refine c_seq ?_
    refine c_seq ?_
    refine reg_list ?_
    refine ls hF hW rfl ((y_move hF rfl).q) (fun a w hF hW => ?_)
    refine ls hF hW rfl ((y_lss hF rfl rfl).q) (fun a w hF hW => ?_)
    refine ls_nil ?_
    refine c_then ?_
    refine c_cond hF rfl (fun hb => ?_) (fun hb => ?_)
    ·
      have H := iteT (of_decide_eq_true hb) H
      rw [hb] at hF
      clear hb
      refine wp_skip ?_
      refine c_then ?_
      refine c_seq ?_
      refine wp_block ?_
      refine c_seq ?_
      refine reg_list ?_
      refine ls hF hW rfl ((y_move hF rfl).q) (fun a w hF hW => ?_)
      refine ls hF hW rfl ((y_move hF rfl).q) (fun a w hF hW => ?_)
      obtain ⟨x25, h2, H⟩ := bindE H
      refine l_callG (Ml := [(q_p0, [.string (bs x14), .int .i64 x15, .int .i64 x16])]) (Zl := []) (M := [(b2, [.int .i64 (w64 (x1.1 - 1)), .int .i64 x17, .int .i64 x18, .int .i64 x19, .int .i64 x20, .int .i64 x21, .int .i64 x22, .int .i64 x23, .int .i64 x24]), (b1, [.int .i64 0, .int .i64 0, .int .i64 0, .int .i64 0, .int .i64 0, .int .i64 0, .int .i64 0, .int .i64 0, .int .i64 0])]) (Z := []) (β := Unit) (rv := fun x => .int .i64 x25.1) (MM := fun x => [(q_p0, [.string (bs x25.2.1), .int .i64 x25.2.2.1, .int .i64 x25.2.2.2])]) (ZZ := fun x => []) hF hW H58 rfl rfl (fun hL => r04_Reader_Num_c _ _ w q_p0 (x14, x15, x16) 1 _ h2 hL) (fun x a w hF hW => ?_)
      have hW : Stw ⟨Y, X, w0⟩ [(q_p0, [.string (bs x25.2.1), .int .i64 x25.2.2.1, .int .i64 x25.2.2.2]), (b2, [.int .i64 (w64 (x1.1 - 1)), .int .i64 x17, .int .i64 x18, .int .i64 x19, .int .i64 x20, .int .i64 x21, .int .i64 x22, .int .i64 x23, .int .i64 x24]), (b1, [.int .i64 0, .int .i64 0, .int .i64 0, .int .i64 0, .int .i64 0, .int .i64 0, .int .i64 0, .int .i64 0, .int .i64 0])] [] w := hW
      refine ls hF hW rfl ((y_fieldAddr Tryd.underlying24 rfl rfl rfl T22 hF rfl 1 rfl).q) (fun a w hF hW => ?_)
      obtain ⟨x26, h3, H⟩ := bindE H
      refine ls hF hW rfl ((y_indexP (1 + (x13).toNat * 1) Ar22 hF rfl rfl rfl h3 rfl).q) (fun a w hF hW => ?_)
      refine l_store_dyn (o := 1) (m := 4) (i := x13) (l := ([x17, x18, x19, x20] : List Int)) (x := x26) (cs := [.int .i64 (w64 (x1.1 - 1)), .int .i64 x17, .int .i64 x18, .int .i64 x19, .int .i64 x20, .int .i64 x21, .int .i64 x22, .int .i64 x23, .int .i64 x24]) (cs' := [.int .i64 (w64 (x1.1 - 1)), .int .i64 (if x13 = 0 then x25.1 else x17), .int .i64 (if x13 = 1 then x25.1 else x18), .int .i64 (if x13 = 2 then x25.1 else x19), .int .i64 (if x13 = 3 then x25.1 else x20), .int .i64 x21, .int .i64 x22, .int .i64 x23, .int .i64 x24]) 1 hF hW rfl rfl rfl T3 rfl rfl rfl rfl h3 (by intro k hk hn; rw [hk]; match k, hn with | 0, _ => rfl | 1, _ => rfl | 2, _ => rfl | 3, _ => rfl | (z + 4), h => exact absurd h (by omega)) (fun w hW => ?_)
      have hW : Stw ⟨Y, X, w0⟩ [(q_p0, [.string (bs x25.2.1), .int .i64 x25.2.2.1, .int .i64 x25.2.2.2]), (b2, [.int .i64 (w64 (x1.1 - 1)), .int .i64 (if x13 = 0 then x25.1 else x17), .int .i64 (if x13 = 1 then x25.1 else x18), .int .i64 (if x13 = 2 then x25.1 else x19), .int .i64 (if x13 = 3 then x25.1 else x20), .int .i64 x21, .int .i64 x22, .int .i64 x23, .int .i64 x24]), (b1, [.int .i64 0, .int .i64 0, .int .i64 0, .int .i64 0, .int .i64 0, .int .i64 0, .int .i64 0, .int .i64 0, .int .i64 0])] [] w := hW
      refine ls_nil ?_
      refine c_then ?_
      refine reg_list ?_
      refine ls hF hW rfl ((y_move hF rfl).q) (fun a w hF hW => ?_)
      refine ls hF hW rfl ((y_move hF rfl).q) (fun a w hF hW => ?_)
      obtain ⟨x27, h4, H⟩ := bindE H
      refine l_callG (Ml := [(q_p0, [.string (bs x25.2.1), .int .i64 x25.2.2.1, .int .i64 x25.2.2.2])]) (Zl := []) (M := [(b2, [.int .i64 (w64 (x1.1 - 1)), .int .i64 (if x13 = 0 then x25.1 else x17), .int .i64 (if x13 = 1 then x25.1 else x18), .int .i64 (if x13 = 2 then x25.1 else x19), .int .i64 (if x13 = 3 then x25.1 else x20), .int .i64 x21, .int .i64 x22, .int .i64 x23, .int .i64 x24]), (b1, [.int .i64 0, .int .i64 0, .int .i64 0, .int .i64 0, .int .i64 0, .int .i64 0, .int .i64 0, .int .i64 0, .int .i64 0])]) (Z := []) (β := Unit) (rv := fun x => .int .i64 x27.1) (MM := fun x => [(q_p0, [.string (bs x27.2.1), .int .i64 x27.2.2.1, .int .i64 x27.2.2.2])]) (ZZ := fun x => []) hF hW H58 rfl rfl (fun hL => r04_Reader_Num_c _ _ w q_p0 x25.2 1 _ h4 hL) (fun x a w hF hW => ?_)
      have hW : Stw ⟨Y, X, w0⟩ [(q_p0, [.string (bs x27.2.1), .int .i64 x27.2.2.1, .int .i64 x27.2.2.2]), (b2, [.int .i64 (w64 (x1.1 - 1)), .int .i64 (if x13 = 0 then x25.1 else x17), .int .i64 (if x13 = 1 then x25.1 else x18), .int .i64 (if x13 = 2 then x25.1 else x19), .int .i64 (if x13 = 3 then x25.1 else x20), .int .i64 x21, .int .i64 x22, .int .i64 x23, .int .i64 x24]), (b1, [.int .i64 0, .int .i64 0, .int .i64 0, .int .i64 0, .int .i64 0, .int .i64 0, .int .i64 0, .int .i64 0, .int .i64 0])] [] w := hW
      refine ls hF hW rfl ((y_fieldAddr Tryd.underlying24 rfl rfl rfl T22 hF rfl 5 rfl).q) (fun a w hF hW => ?_)
      obtain ⟨x28, h5, H⟩ := bindE H
      refine ls hF hW rfl ((y_indexP (5 + (x13).toNat * 1) Ar22 hF rfl rfl rfl h5 rfl).q) (fun a w hF hW => ?_)
      refine l_store_dyn (o := 5) (m := 4) (i := x13) (l := ([x21, x22, x23, x24] : List Int)) (x := x28) (cs := [.int .i64 (w64 (x1.1 - 1)), .int .i64 (if x13 = 0 then x25.1 else x17), .int .i64 (if x13 = 1 then x25.1 else x18), .int .i64 (if x13 = 2 then x25.1 else x19), .int .i64 (if x13 = 3 then x25.1 else x20), .int .i64 x21, .int .i64 x22, .int .i64 x23, .int .i64 x24]) (cs' := [.int .i64 (w64 (x1.1 - 1)), .int .i64 (if x13 = 0 then x25.1 else x17), .int .i64 (if x13 = 1 then x25.1 else x18), .int .i64 (if x13 = 2 then x25.1 else x19), .int .i64 (if x13 = 3 then x25.1 else x20), .int .i64 (if x13 = 0 then x27.1 else x21), .int .i64 (if x13 = 1 then x27.1 else x22), .int .i64 (if x13 = 2 then x27.1 else x23), .int .i64 (if x13 = 3 then x27.1 else x24)]) 1 hF hW rfl rfl rfl T3 rfl rfl rfl rfl h5 (by intro k hk hn; rw [hk]; match k, hn with | 0, _ => rfl | 1, _ => rfl | 2, _ => rfl | 3, _ => rfl | (z + 4), h => exact absurd h (by omega)) (fun w hW => ?_)
      have hW : Stw ⟨Y, X, w0⟩ [(q_p0, [.string (bs x27.2.1), .int .i64 x27.2.2.1, .int .i64 x27.2.2.2]), (b2, [.int .i64 (w64 (x1.1 - 1)), .int .i64 (if x13 = 0 then x25.1 else x17), .int .i64 (if x13 = 1 then x25.1 else x18), .int .i64 (if x13 = 2 then x25.1 else x19), .int .i64 (if x13 = 3 then x25.1 else x20), .int .i64 (if x13 = 0 then x27.1 else x21), .int .i64 (if x13 = 1 then x27.1 else x22), .int .i64 (if x13 = 2 then x27.1 else x23), .int .i64 (if x13 = 3 then x27.1 else x24)]), (b1, [.int .i64 0, .int .i64 0, .int .i64 0, .int .i64 0, .int .i64 0, .int .i64 0, .int .i64 0, .int .i64 0, .int .i64 0])] [] w := hW
      refine ls_nil ?_
      refine b_normal ?_
      refine c_then ?_
      refine reg_list ?_
      refine ls hF hW rfl ((y_move hF rfl).q) (fun a w hF hW => ?_)
      refine ls hF hW rfl ((y_add hF rfl rfl rfl).q) (fun a w hF hW => ?_)
      refine ls hF hW rfl ((y_assign hF rfl).q) (fun a w hF hW => ?_)
      refine ls_nil ?_
      refine c_then ?_
      have hW := hW.frontM (i := 2) rfl rfl
      have hW := hW.frontM (i := 2) rfl rfl
      have hW := hW.frontM (i := 2) rfl rfl
      exact ⟨_, H, hF.re ⟨rfl, rfl, rfl, rfl, trivial⟩, hW⟩
    ·
      have H := iteF (of_decide_eq_false hb) H
      rw [hb] at hF
      clear hb
      refine wp_exit ?_
      refine e_then ?_
      refine e_then ?_
      refine e_block ?_
      refine c_then ?_
      have hW := hW.frontM (i := 2) rfl rfl
      have hW := hW.frontM (i := 2) rfl rfl
      have hW := hW.frontM (i := 2) rfl rfl
      have H := L2 _ H
      exact ⟨_, _, _, _, _, _, _, _, _, _, _, H, hF.re ⟨rfl, rfl, rfl, trivial⟩, hW⟩
  rintro a w ⟨x2, x3, x4, x5, x6, x7, x8, x9, x10, x11, x12, hj, hF, hW⟩
  have hj := Option.some.inj hj
  subst hj
  have H := K1
  clear G1 K1
  obtain ⟨o3, G3, K3⟩ := bindE H
  refine c_seqJ (fun a w => ∃ x29 : List UInt8, ∃ x30 : Int, ∃ x31 : Int, some ((x29, x30, x31)) = some o3 ∧ Fr 36 [] [(0, .pointer (some ⟨q_p0, 0, none⟩)), (2, .pointer (some ⟨b1, 0, none⟩)), (3, .pointer (some ⟨b2, 0, none⟩))] a ∧ Stw ⟨Y, X, w0⟩ [(q_p0, [.string (bs x29), .int .i64 x30, .int .i64 x31]), (b2, [.int .i64 (w64 (x1.1 - 1)), .int .i64 x5, .int .i64 x6, .int .i64 x7, .int .i64 x8, .int .i64 x9, .int .i64 x10, .int .i64 x11, .int .i64 x12]), (b1, [.int .i64 0, .int .i64 0, .int .i64 0, .int .i64 0, .int .i64 0, .int .i64 0, .int .i64 0, .int .i64 0, .int .i64 0])] [] w) ?_ ?_
  ·
    have H := G3
    clear G3 K3
    refine c_seq ?_
    refine reg_list ?_
    refine ls hF hW rfl ((y_load (v := Value.agg #[.int .i64 (w64 (x1.1 - 1)), .int .i64 x5, .int .i64 x6, .int .i64 x7, .int .i64 x8, .int .i64 x9, .int .i64 x10, .int .i64 x11, .int .i64 x12]) 1 hF rfl rfl T24 rfl).q) (fun a w hF hW => ?_)
    obtain ⟨x32, h6, H⟩ := bindE H
    refine ls hF hW rfl (y_call (v := Value.bool x32) hF H35 rfl (fun w hW => r08_Right_c any w (w64 (x1.1 - 1), (x5, x6, x7, x8), (x9, x10, x11, x12)) _ h6)) (fun a w hF hW => ?_)
    refine ls hF hW rfl ((y_not hF rfl).q) (fun a w hF hW => ?_)
    refine ls_nil ?_
    refine c_then ?_
    refine c_cond hF rfl (fun hb => ?_) (fun hb => ?_)
    ·
      have H := iteT hb H
      rw [hb] at hF
      clear hb
      refine reg_list ?_
      refine ls hF hW rfl ((y_move hF rfl).q) (fun a w hF hW => ?_)
      refine l_callG (Ml := [(q_p0, [.string (bs x2), .int .i64 x3, .int .i64 x4])]) (Zl := []) (M := [(b2, [.int .i64 (w64 (x1.1 - 1)), .int .i64 x5, .int .i64 x6, .int .i64 x7, .int .i64 x8, .int .i64 x9, .int .i64 x10, .int .i64 x11, .int .i64 x12]), (b1, [.int .i64 0, .int .i64 0, .int .i64 0, .int .i64 0, .int .i64 0, .int .i64 0, .int .i64 0, .int .i64 0, .int .i64 0])]) (Z := []) (β := Unit) (rv := fun x => .tuple #[]) (MM := fun x => [(q_p0, [.string (bs ((r04_Reader_Wrong (x2, x3, x4) 2).1)), .int .i64 ((r04_Reader_Wrong (x2, x3, x4) 2).2.1), .int .i64 ((r04_Reader_Wrong (x2, x3, x4) 2).2.2)])]) (ZZ := fun x => []) hF hW H78 rfl rfl (fun hL => r04_Reader_Wrong_c _ _ w q_p0 (x2, x3, x4) 2 _ rfl hL) (fun x a w hF hW => ?_)
      have hW : Stw ⟨Y, X, w0⟩ [(q_p0, [.string (bs ((r04_Reader_Wrong (x2, x3, x4) 2).1)), .int .i64 ((r04_Reader_Wrong (x2, x3, x4) 2).2.1), .int .i64 ((r04_Reader_Wrong (x2, x3, x4) 2).2.2)]), (b2, [.int .i64 (w64 (x1.1 - 1)), .int .i64 x5, .int .i64 x6, .int .i64 x7, .int .i64 x8, .int .i64 x9, .int .i64 x10, .int .i64 x11, .int .i64 x12]), (b1, [.int .i64 0, .int .i64 0, .int .i64 0, .int .i64 0, .int .i64 0, .int .i64 0, .int .i64 0, .int .i64 0, .int .i64 0])] [] w := hW
      refine ls_nil ?_
      refine c_then ?_
      have hW := hW.frontM (i := 2) rfl rfl
      have hW := hW.frontM (i := 2) rfl rfl
      have hW := hW.frontM (i := 2) rfl rfl
      exact ⟨_, _, _, H, hF.re ⟨rfl, rfl, rfl, trivial⟩, hW⟩
    ·
      have H := iteF (by rw [hb]; decide) H
      rw [hb] at hF
      clear hb
      refine wp_skip ?_
      refine c_then ?_
      have hW := hW.frontM (i := 2) rfl rfl
      have hW := hW.frontM (i := 2) rfl rfl
      have hW := hW.frontM (i := 2) rfl rfl
      exact ⟨_, _, _, H, hF.re ⟨rfl, rfl, rfl, trivial⟩, hW⟩
  rintro a w ⟨x29, x30, x31, hj, hF, hW⟩
  have hj := Option.some.inj hj
  subst hj
  have H := K3
  clear G3 K3
  refine c_seq ?_
  refine c_seq ?_
  refine reg_list ?_
  refine ls hF hW rfl ((y_move hF rfl).q) (fun a w hF hW => ?_)
  refine ls hF hW rfl ((y_nilCheck hF rfl).q) (fun a w hF hW => ?_)
  refine ls hF hW rfl ((y_fieldAddr Tryd.underlying41 rfl rfl rfl T3 hF rfl 2 rfl).q) (fun a w hF hW => ?_)
  refine ls hF hW rfl ((y_load (v := Value.int .i64 x31) 0 hF rfl rfl T3 rfl).q) (fun a w hF hW => ?_)
  refine ls hF hW rfl ((y_neq hF rfl rfl).q) (fun a w hF hW => ?_)
  refine ls_nil ?_
  refine c_then ?_
  refine c_cond hF rfl (fun hb => ?_) (fun hb => ?_)
  ·
    have H := iteT (of_decide_eq_true hb) H
    rw [hb] at hF
    clear hb
    refine c_seq ?_
    refine reg_list ?_
    refine ls hF hW rfl ((y_build (v := Value.agg #[.int .i64 0, .int .i64 0, .int .i64 0, .int .i64 0, .int .i64 0, .int .i64 0, .int .i64 0, .int .i64 0, .int .i64 0]) B24 hF rfl rfl rfl).q) (fun a w hF hW => ?_)
    refine l_store (vs := [.int .i64 0, .int .i64 0, .int .i64 0, .int .i64 0, .int .i64 0, .int .i64 0, .int .i64 0, .int .i64 0, .int .i64 0]) (M' := [(q_p0, [.string (bs x29), .int .i64 x30, .int .i64 x31]), (b2, [.int .i64 (w64 (x1.1 - 1)), .int .i64 x5, .int .i64 x6, .int .i64 x7, .int .i64 x8, .int .i64 x9, .int .i64 x10, .int .i64 x11, .int .i64 x12]), (b1, [.int .i64 0, .int .i64 0, .int .i64 0, .int .i64 0, .int .i64 0, .int .i64 0, .int .i64 0, .int .i64 0, .int .i64 0])]) 2 hF hW rfl rfl rfl T24 rfl rfl rfl rfl rfl (fun w hW => ?_)
    refine ls_nil ?_
    refine c_then ?_
    refine wp_ret ?_
    refine r_then ?_
    have H := Option.some.inj H
    subst H
    refine post1 (.inl rfl) hF hW rfl (rv_cell 2 hF rfl rfl T24 rfl) ?_
    have hW := hW.sub (M' := [(q_p0, [.string (bs x29), .int .i64 x30, .int .i64 x31])]) (Z' := []) (List.Sublist.cons_cons _ (List.nil_sublist _)) (List.Sublist.refl _)
    exact ⟨(), rfl, hW⟩
  ·
    have H := iteF (of_decide_eq_false hb) H
    rw [hb] at hF
    clear hb
    refine wp_skip ?_
    refine c_then ?_
    refine c_seq ?_
    refine reg_list ?_
    refine ls hF hW rfl ((y_load (v := Value.agg #[.int .i64 (w64 (x1.1 - 1)), .int .i64 x5, .int .i64 x6, .int .i64 x7, .int .i64 x8, .int .i64 x9, .int .i64 x10, .int .i64 x11, .int .i64 x12]) 1 hF rfl rfl T24 rfl).q) (fun a w hF hW => ?_)
    refine l_store (vs := [.int .i64 (w64 (x1.1 - 1)), .int .i64 x5, .int .i64 x6, .int .i64 x7, .int .i64 x8, .int .i64 x9, .int .i64 x10, .int .i64 x11, .int .i64 x12]) (M' := [(q_p0, [.string (bs x29), .int .i64 x30, .int .i64 x31]), (b2, [.int .i64 (w64 (x1.1 - 1)), .int .i64 x5, .int .i64 x6, .int .i64 x7, .int .i64 x8, .int .i64 x9, .int .i64 x10, .int .i64 x11, .int .i64 x12]), (b1, [.int .i64 (w64 (x1.1 - 1)), .int .i64 x5, .int .i64 x6, .int .i64 x7, .int .i64 x8, .int .i64 x9, .int .i64 x10, .int .i64 x11, .int .i64 x12])]) 2 hF hW rfl rfl rfl T24 rfl rfl rfl rfl rfl (fun w hW => ?_)
    refine ls_nil ?_
    refine c_then ?_
    refine wp_ret ?_
    have H := Option.some.inj H
    subst H
    refine post1 (.inl rfl) hF hW rfl (rv_cell 2 hF rfl rfl T24 rfl) ?_
    have hW := hW.sub (M' := [(q_p0, [.string (bs x29), .int .i64 x30, .int .i64 x31])]) (Z' := []) (List.Sublist.cons_cons _ (List.nil_sublist _)) (List.Sublist.refl _)
    exact ⟨(), rfl, hW⟩

theorem H59 : Has Tryd.prog 59 := ⟨fun args w => run_callFunc_body Tryd.func59 rfl (by decide) args w⟩
noncomputable def r04_Reader_Count (p0 : List UInt8 × Int × Int) (p1 : Int) : Option (Int × (List UInt8 × Int × Int)) := (r04_Reader_Num p0 1).bind fun x1 => (if p1 < x1.1 then some (0, (r04_Reader_Wrong x1.2 6)) else some (x1.1, x1.2))
theorem r04_Reader_Count_c (Y : Nat → Prop) (X : List Nat) (w0 : World) (q_p0 : Nat) (p0 : List UInt8 × Int × Int) (p1 : Int) (r : Int × (List UInt8 × Int × Int)) (H : r04_Reader_Count p0 p1 = some r) (hL : Stw ⟨Y, X, w0⟩ [(q_p0, [.string (bs p0.1), .int .i64 p0.2.1, .int .i64 p0.2.2])] [] w0) :
    Calls Tryd.prog 80 #[.pointer (some ⟨q_p0, 0, none⟩), .int .i64 p1] w0 fun e w' => ∃ x : Unit, e = .returned (.int .i64 r.1) ∧ Stw ⟨Y, X, w0⟩ [(q_p0, [.string (bs r.2.1), .int .i64 r.2.2.1, .int .i64 r.2.2.2])] [] w' := by
  refine enter Tryd.func80 rfl Tryd.ntmps80 rfl (fun a hF => ?_)
  have hW := hL
  unfold r04_Reader_Count at H
  refine c_seq ?_
  refine reg_list ?_
  refine ls hF hW rfl ((y_assign hF rfl).q) (fun a w hF hW => ?_)
  refine ls_nil ?_
  refine c_then ?_
  refine c_seq ?_
  refine reg_list ?_
  refine ls hF hW rfl ((y_move hF rfl).q) (fun a w hF hW => ?_)
  obtain ⟨x1, h1, H⟩ := bindE H
  refine l_callG (Ml := [(q_p0, [.string (bs p0.1), .int .i64 p0.2.1, .int .i64 p0.2.2])]) (Zl := []) (M := []) (Z := []) (β := Unit) (rv := fun x => .int .i64 x1.1) (MM := fun x => [(q_p0, [.string (bs x1.2.1), .int .i64 x1.2.2.1, .int .i64 x1.2.2.2])]) (ZZ := fun x => []) hF hW H58 rfl rfl (fun hL => r04_Reader_Num_c _ _ w q_p0 p0 1 _ h1 hL) (fun x a w hF hW => ?_)
  have hW : Stw ⟨Y, X, w0⟩ [(q_p0, [.string (bs x1.2.1), .int .i64 x1.2.2.1, .int .i64 x1.2.2.2])] [] w := hW
  refine ls hF hW rfl ((y_assign hF rfl).q) (fun a w hF hW => ?_)
  refine ls_nil ?_
  refine c_then ?_
  refine c_seq ?_
  refine c_seq ?_
  refine reg_list ?_
  refine ls hF hW rfl ((y_move hF rfl).q) (fun a w hF hW => ?_)
  refine ls hF hW rfl ((y_move hF rfl).q) (fun a w hF hW => ?_)
  refine ls hF hW rfl ((y_gtr hF rfl rfl).q) (fun a w hF hW => ?_)
  refine ls_nil ?_
  refine c_then ?_
  refine c_cond hF rfl (fun hb => ?_) (fun hb => ?_)
  ·
    have H := iteT (of_decide_eq_true hb) H
    rw [hb] at hF
    clear hb
    refine c_seq ?_
    refine reg_list ?_
    refine ls hF hW rfl ((y_move hF rfl).q) (fun a w hF hW => ?_)
    refine l_callG (Ml := [(q_p0, [.string (bs x1.2.1), .int .i64 x1.2.2.1, .int .i64 x1.2.2.2])]) (Zl := []) (M := []) (Z := []) (β := Unit) (rv := fun x => .tuple #[]) (MM := fun x => [(q_p0, [.string (bs ((r04_Reader_Wrong x1.2 6).1)), .int .i64 ((r04_Reader_Wrong x1.2 6).2.1), .int .i64 ((r04_Reader_Wrong x1.2 6).2.2)])]) (ZZ := fun x => []) hF hW H78 rfl rfl (fun hL => r04_Reader_Wrong_c _ _ w q_p0 x1.2 6 _ rfl hL) (fun x a w hF hW => ?_)
    have hW : Stw ⟨Y, X, w0⟩ [(q_p0, [.string (bs ((r04_Reader_Wrong x1.2 6).1)), .int .i64 ((r04_Reader_Wrong x1.2 6).2.1), .int .i64 ((r04_Reader_Wrong x1.2 6).2.2)])] [] w := hW
    refine ls_nil ?_
    refine c_then ?_
    refine c_seq ?_
    refine reg_list ?_
    refine ls hF hW rfl ((y_assign hF rfl).q) (fun a w hF hW => ?_)
    refine ls_nil ?_
    refine c_then ?_
    refine wp_ret ?_
    refine r_then ?_
    have H := Option.some.inj H
    subst H
    refine post1 (.inl rfl) hF hW rfl (rv_tmp hF rfl) ?_
    exact ⟨(), rfl, hW⟩
  ·
    have H := iteF (of_decide_eq_false hb) H
    rw [hb] at hF
    clear hb
    refine wp_skip ?_
    refine c_then ?_
    refine c_seq ?_
    refine reg_list ?_
    refine ls hF hW rfl ((y_move hF rfl).q) (fun a w hF hW => ?_)
    refine ls hF hW rfl ((y_assign hF rfl).q) (fun a w hF hW => ?_)
    refine ls_nil ?_
    refine c_then ?_
    refine wp_ret ?_
    have H := Option.some.inj H
    subst H
    refine post1 (.inl rfl) hF hW rfl (rv_tmp hF rfl) ?_
    exact ⟨(), rfl, hW⟩

end Go.Proofs.YteeioghoidjbpaaDoor
