/- The functions of layer 9, lifted. Conditions: none. -/
import Derived.Test.YtefiglmpdajonaaDoorA3
namespace Go.Proofs.YtefiglmpdajonaaDoor
open Go Go.RowKit
set_option linter.unusedVariables false
set_option linter.unusedSimpArgs false
set_option maxRecDepth 20000
theorem H52 : Has Tryd.prog 52 := ⟨fun args w => run_callFunc_body Tryd.func52 rfl (by decide) args w⟩
noncomputable def r04_Reader_Count (p0 : List UInt8 × Int × Int) (p1 : Int) : Option (Int × (List UInt8 × Int × Int)) := (r04_Reader_Num p0 1).bind fun x1 => (if p1 < x1.1 then some (0, (r04_Reader_Wrong x1.2 6)) else some (x1.1, x1.2))
theorem r04_Reader_Count_c (Y : Nat → Prop) (X : List Nat) (w0 : World) (q_p0 : Nat) (p0 : List UInt8 × Int × Int) (p1 : Int) (r : Int × (List UInt8 × Int × Int)) (H : r04_Reader_Count p0 p1 = some r) (hL : Stw ⟨Y, X, w0⟩ [(q_p0, [.string (bs p0.1), .int .i64 p0.2.1, .int .i64 p0.2.2])] [] w0) :
    Calls Tryd.prog 51 #[.pointer (some ⟨q_p0, 0, none⟩), .int .i64 p1] w0 fun e w' => ∃ x : Unit, e = .returned (.int .i64 r.1) ∧ Stw ⟨Y, X, w0⟩ [(q_p0, [.string (bs r.2.1), .int .i64 r.2.2.1, .int .i64 r.2.2.2])] [] w' := by
 refine enter Tryd.func51 rfl Tryd.ntmps51 rfl (fun a hF => ?_)
 have hW := hL
 unfold r04_Reader_Count at H
 refine c_seq (reg_list ?_)
 refine ls hF hW rfl ((y_assign hF rfl).q) (fun a w hF hW => ?_)
 refine ls_nil (c_then ?_)
 refine c_seq (reg_list ?_)
 refine ls hF hW rfl ((y_move hF rfl).q) (fun a w hF hW => ?_)
 obtain ⟨x1, h1, H⟩ := bindE H
 refine l_callG (Ml := [(q_p0, [.string (bs p0.1), .int .i64 p0.2.1, .int .i64 p0.2.2])]) (Zl := []) (M := []) (Z := []) (β := Unit) (rv := fun x => .int .i64 x1.1) (MM := fun x => [(q_p0, [.string (bs x1.2.1), .int .i64 x1.2.2.1, .int .i64 x1.2.2.2])]) (ZZ := fun x => []) hF hW H52 rfl rfl (fun hL => r04_Reader_Num_c _ _ w q_p0 p0 1 _ h1 hL) (fun x a w hF hW => ?_)
 have hW : Stw ⟨Y, X, w0⟩ [(q_p0, [.string (bs x1.2.1), .int .i64 x1.2.2.1, .int .i64 x1.2.2.2])] [] w := hW
 refine ls hF hW rfl ((y_assign hF rfl).q) (fun a w hF hW => ?_)
 refine ls_nil (c_then ?_)
 refine c_seq ?_
 refine c_seq (reg_list ?_)
 iterate 2 refine ls hF hW rfl ((y_move hF rfl).q) (fun a w hF hW => ?_)
 refine ls hF hW rfl ((y_gtr hF rfl rfl).q) (fun a w hF hW => ?_)
 refine ls_nil (c_then ?_)
 refine c_cond hF rfl (fun hb => ?_) (fun hb => ?_)
 ·
  have H := iteT (of_decide_eq_true hb) H
  rw [hb] at hF
  clear hb
  refine c_seq (reg_list ?_)
  refine ls hF hW rfl ((y_move hF rfl).q) (fun a w hF hW => ?_)
  refine l_callG (Ml := [(q_p0, [.string (bs x1.2.1), .int .i64 x1.2.2.1, .int .i64 x1.2.2.2])]) (Zl := []) (M := []) (Z := []) (β := Unit) (rv := fun x => .tuple #[]) (MM := fun x => [(q_p0, [.string (bs ((r04_Reader_Wrong x1.2 6).1)), .int .i64 ((r04_Reader_Wrong x1.2 6).2.1), .int .i64 ((r04_Reader_Wrong x1.2 6).2.2)])]) (ZZ := fun x => []) hF hW H53 rfl rfl (fun hL => r04_Reader_Wrong_c _ _ w q_p0 x1.2 6 _ rfl hL) (fun x a w hF hW => ?_)
  have hW : Stw ⟨Y, X, w0⟩ [(q_p0, [.string (bs ((r04_Reader_Wrong x1.2 6).1)), .int .i64 ((r04_Reader_Wrong x1.2 6).2.1), .int .i64 ((r04_Reader_Wrong x1.2 6).2.2)])] [] w := hW
  refine ls_nil (c_then ?_)
  refine c_seq (reg_list ?_)
  refine ls hF hW rfl ((y_assign hF rfl).q) (fun a w hF hW => ?_)
  refine ls_nil (c_then ?_)
  refine wr_ret ?_
  refine r_then ?_
  have H := Option.some.inj H
  subst H
  refine post1 (.inl rfl) hF hW rfl (rv_tmp hF rfl) ?_
  exact ⟨(), rfl, hW⟩
 ·
  have H := iteF (of_decide_eq_false hb) H
  rw [hb] at hF
  clear hb
  refine wr_skip ?_
  refine c_then ?_
  refine c_seq (reg_list ?_)
  refine ls hF hW rfl ((y_move hF rfl).q) (fun a w hF hW => ?_)
  refine ls hF hW rfl ((y_assign hF rfl).q) (fun a w hF hW => ?_)
  refine ls_nil (c_then ?_)
  refine wr_ret ?_
  have H := Option.some.inj H
  subst H
  refine post1 (.inl rfl) hF hW rfl (rv_tmp hF rfl) ?_
  exact ⟨(), rfl, hW⟩

theorem H51 : Has Tryd.prog 51 := ⟨fun args w => run_callFunc_body Tryd.func51 rfl (by decide) args w⟩
noncomputable def r09_Read_l1 (p1 : Int) (x1 : Int × (List UInt8 × Int × Int)) : ((List (Int × Int × Int)) × Int × List UInt8 × Int × Int) → Option (((List (Int × Int × Int)) × Int × List UInt8 × Int × Int) ⊕ ((List (Int × Int × Int)) × List UInt8 × Int × Int))
  | (x6, x7, x8, x9, x10) => (if x7 < x1.1 then (r04_Reader_Num (x8, x9, x10) 1).bind fun x11 => (r04_Reader_Num x11.2 1).bind fun x12 => (r04_Reader_Num x12.2 1).bind fun x13 => (if (!(r09_One (x11.1, x12.1, x13.1) p1)) = true then some ((r04_Reader_Wrong x13.2 2).1, (r04_Reader_Wrong x13.2 2).2.1, (r04_Reader_Wrong x13.2 2).2.2) else some (x13.2.1, x13.2.2.1, x13.2.2.2)).bind fun (x14, x15, x16) => (app x6 ([(x11.1, x12.1, x13.1)] : List (Int × Int × Int))).bind fun x17 => some (.inl (x17, w64 (x7 + 1), x14, x15, x16)) else some (.inr (x6, x8, x9, x10)))
noncomputable def r09_Read (p0 : List UInt8 × Int × Int) (p1 : Int) : Option ((List (Int × Int × Int)) × (List UInt8 × Int × Int)) := (r04_Reader_Count p0 16).bind fun x1 => (loopW (r09_Read_l1 p1 x1) ([], 0, x1.2.1, x1.2.2.1, x1.2.2.2)).bind fun (x2, x3, x4, x5) => (if x5 ≠ 0 then some (([] : List (Int × Int × Int)), (x3, x4, x5)) else some (x2, (x3, x4, x5)))
theorem r09_Read_c (Y : Nat → Prop) (X : List Nat) (w0 : World) (q_p0 : Nat) (p0 : List UInt8 × Int × Int) (p1 : Int) (r : (List (Int × Int × Int)) × (List UInt8 × Int × Int)) (H : r09_Read p0 p1 = some r) (hL : Stw ⟨Y, X, w0⟩ [(q_p0, [.string (bs p0.1), .int .i64 p0.2.1, .int .i64 p0.2.2])] [] w0) :
    Calls Tryd.prog 26 #[.pointer (some ⟨q_p0, 0, none⟩), .int .i64 p1] w0 fun e w' => ∃ x : Value, e = .returned (x) ∧ Stw ⟨Y, X, w0⟩ [(q_p0, [.string (bs r.2.1), .int .i64 r.2.2.1, .int .i64 r.2.2.2])] [row (x) 27 R27 r.1] w' := by
 refine enter Tryd.func26 rfl Tryd.ntmps26 rfl (fun a hF => ?_)
 have hW := hL
 unfold r09_Read at H
 refine c_seq (reg_list ?_)
 refine ls hF hW rfl ((y_assign hF rfl).q) (fun a w hF hW => ?_)
 refine ls_nil (c_then ?_)
 refine c_seq (reg_list ?_)
 refine ls hF hW rfl ((y_move hF rfl).q) (fun a w hF hW => ?_)
 obtain ⟨x1, h1, H⟩ := bindE H
 refine l_callG (Ml := [(q_p0, [.string (bs p0.1), .int .i64 p0.2.1, .int .i64 p0.2.2])]) (Zl := []) (M := []) (Z := []) (β := Unit) (rv := fun x => .int .i64 x1.1) (MM := fun x => [(q_p0, [.string (bs x1.2.1), .int .i64 x1.2.2.1, .int .i64 x1.2.2.2])]) (ZZ := fun x => []) hF hW H51 rfl rfl (fun hL => r04_Reader_Count_c _ _ w q_p0 p0 16 _ h1 hL) (fun x a w hF hW => ?_)
 have hW : Stw ⟨Y, X, w0⟩ [(q_p0, [.string (bs x1.2.1), .int .i64 x1.2.2.1, .int .i64 x1.2.2.2])] [] w := hW
 refine ls hF hW rfl ((y_assign hF rfl).q) (fun a w hF hW => ?_)
 refine ls_nil (c_then ?_)
 refine c_seq (reg_list ?_)
 refine ls hF hW rfl ((y_assign hF rfl).q) (fun a w hF hW => ?_)
 refine ls_nil (c_then ?_)
 obtain ⟨o1, G1, K1⟩ := bindE H
 refine c_seqJ (fun a w => ∃ x2 : List (Int × Int × Int), ∃ x3 : List UInt8, ∃ x4 : Int, ∃ x5 : Int, ∃ v1 : Value, some ((x2, x3, x4, x5)) = some o1 ∧ Fr 42 [] [(0, .pointer (some ⟨q_p0, 0, none⟩)), (4, .slice none 0 0), (6, v1)] a ∧ Stw ⟨Y, X, w0⟩ [(q_p0, [.string (bs x3), .int .i64 x4, .int .i64 x5])] [row v1 27 R27 x2] w) ?_ ?_
 ·
  have H := G1
  clear G1 K1
  refine c_seq (reg_list ?_)
  refine ls hF hW rfl ((y_assign hF rfl).q) (fun a w hF hW => ?_)
  refine ls_nil (c_then ?_)
  refine wr_block ?_
  have hW := hW.nilRow 27 R27
  refine c_loopW H (fun s a w => ∃ v2 : Value, Fr 42 [] [(0, .pointer (some ⟨q_p0, 0, none⟩)), (1, .int .i64 p1), (4, .slice none 0 0), (5, .int .i64 x1.1), (6, v2), (7, .int .i64 s.2.1)] a ∧ Stw ⟨Y, X, w0⟩ [(q_p0, [.string (bs s.2.2.1), .int .i64 s.2.2.2.1, .int .i64 s.2.2.2.2])] [row v2 27 R27 s.1] w) ⟨(Value.slice none 0 0), hF.re ⟨rfl, rfl, rfl, rfl, rfl, rfl, trivial⟩, hW⟩ (fun s o a w H L2 hR => ?_)
  obtain ⟨x6, x7, x8, x9, x10⟩ := s
  obtain ⟨v2, hF, hW⟩ := hR
  have hF : Fr 42 [] [(0, .pointer (some ⟨q_p0, 0, none⟩)), (1, .int .i64 p1), (4, .slice none 0 0), (5, .int .i64 x1.1), (6, v2), (7, .int .i64 x7)] a := hF
  have hW : Stw ⟨Y, X, w0⟩ [(q_p0, [.string (bs x8), .int .i64 x9, .int .i64 x10])] [row v2 27 R27 x6] w := hW
  rw [r09_Read_l1] at H
  refine c_seq ?_
  refine c_seq (reg_list ?_)
  iterate 2 refine ls hF hW rfl ((y_move hF rfl).q) (fun a w hF hW => ?_)
  refine ls hF hW rfl ((y_lss hF rfl rfl).q) (fun a w hF hW => ?_)
  refine ls_nil (c_then ?_)
  refine c_cond hF rfl (fun hb => ?_) (fun hb => ?_)
  ·
   have H := iteT (of_decide_eq_true hb) H
   rw [hb] at hF
   clear hb
   refine wr_skip ?_
   refine c_then ?_
   refine c_seq ?_
   refine wr_block ?_
   refine c_seq (reg_list ?_)
   refine ls hF hW rfl ((y_build (v := Value.agg #[.int .i64 0, .int .i64 0, .int .i64 0]) B27 hF rfl rfl rfl).q) (fun a w hF hW => ?_)
   refine l_alloc (cs := [.int .i64 0, .int .i64 0, .int .i64 0]) hF hW rfl Z27 rfl (fun b1 a w hF hW => ?_)
   refine l_store (vs := [.int .i64 0, .int .i64 0, .int .i64 0]) (M' := [(b1, [.int .i64 0, .int .i64 0, .int .i64 0]), (q_p0, [.string (bs x8), .int .i64 x9, .int .i64 x10])]) 0 hF hW rfl rfl rfl T27 rfl rfl rfl rfl rfl (fun w hW => ?_)
   refine ls_nil (c_then ?_)
   refine c_seq (reg_list ?_)
   refine ls hF hW rfl ((y_move hF rfl).q) (fun a w hF hW => ?_)
   obtain ⟨x11, h2, H⟩ := bindE H
   have hW := hW.frontM (i := 1) rfl rfl
   refine l_callG (Ml := [(q_p0, [.string (bs x8), .int .i64 x9, .int .i64 x10])]) (Zl := []) (M := [(b1, [.int .i64 0, .int .i64 0, .int .i64 0])]) (Z := [row v2 27 R27 x6]) (β := Unit) (rv := fun x => .int .i64 x11.1) (MM := fun x => [(q_p0, [.string (bs x11.2.1), .int .i64 x11.2.2.1, .int .i64 x11.2.2.2])]) (ZZ := fun x => []) hF hW H52 rfl rfl (fun hL => r04_Reader_Num_c _ _ w q_p0 (x8, x9, x10) 1 _ h2 hL) (fun x a w hF hW => ?_)
   have hW : Stw ⟨Y, X, w0⟩ [(q_p0, [.string (bs x11.2.1), .int .i64 x11.2.2.1, .int .i64 x11.2.2.2]), (b1, [.int .i64 0, .int .i64 0, .int .i64 0])] [row v2 27 R27 x6] w := hW
   refine ls hF hW rfl ((y_fieldAddr u27_ rfl rfl rfl T3 hF rfl 0 rfl).q) (fun a w hF hW => ?_)
   refine l_store (vs := [.int .i64 x11.1]) (M' := [(q_p0, [.string (bs x11.2.1), .int .i64 x11.2.2.1, .int .i64 x11.2.2.2]), (b1, [.int .i64 x11.1, .int .i64 0, .int .i64 0])]) 1 hF hW rfl rfl rfl T3 rfl rfl rfl rfl rfl (fun w hW => ?_)
   refine ls_nil (c_then ?_)
   refine c_seq (reg_list ?_)
   refine ls hF hW rfl ((y_move hF rfl).q) (fun a w hF hW => ?_)
   obtain ⟨x12, h3, H⟩ := bindE H
   refine l_callG (Ml := [(q_p0, [.string (bs x11.2.1), .int .i64 x11.2.2.1, .int .i64 x11.2.2.2])]) (Zl := []) (M := [(b1, [.int .i64 x11.1, .int .i64 0, .int .i64 0])]) (Z := [row v2 27 R27 x6]) (β := Unit) (rv := fun x => .int .i64 x12.1) (MM := fun x => [(q_p0, [.string (bs x12.2.1), .int .i64 x12.2.2.1, .int .i64 x12.2.2.2])]) (ZZ := fun x => []) hF hW H52 rfl rfl (fun hL => r04_Reader_Num_c _ _ w q_p0 x11.2 1 _ h3 hL) (fun x a w hF hW => ?_)
   have hW : Stw ⟨Y, X, w0⟩ [(q_p0, [.string (bs x12.2.1), .int .i64 x12.2.2.1, .int .i64 x12.2.2.2]), (b1, [.int .i64 x11.1, .int .i64 0, .int .i64 0])] [row v2 27 R27 x6] w := hW
   refine ls hF hW rfl ((y_fieldAddr u27_ rfl rfl rfl T3 hF rfl 1 rfl).q) (fun a w hF hW => ?_)
   refine l_store (vs := [.int .i64 x12.1]) (M' := [(q_p0, [.string (bs x12.2.1), .int .i64 x12.2.2.1, .int .i64 x12.2.2.2]), (b1, [.int .i64 x11.1, .int .i64 x12.1, .int .i64 0])]) 1 hF hW rfl rfl rfl T3 rfl rfl rfl rfl rfl (fun w hW => ?_)
   refine ls_nil (c_then ?_)
   refine c_seq (reg_list ?_)
   refine ls hF hW rfl ((y_move hF rfl).q) (fun a w hF hW => ?_)
   obtain ⟨x13, h4, H⟩ := bindE H
   refine l_callG (Ml := [(q_p0, [.string (bs x12.2.1), .int .i64 x12.2.2.1, .int .i64 x12.2.2.2])]) (Zl := []) (M := [(b1, [.int .i64 x11.1, .int .i64 x12.1, .int .i64 0])]) (Z := [row v2 27 R27 x6]) (β := Unit) (rv := fun x => .int .i64 x13.1) (MM := fun x => [(q_p0, [.string (bs x13.2.1), .int .i64 x13.2.2.1, .int .i64 x13.2.2.2])]) (ZZ := fun x => []) hF hW H52 rfl rfl (fun hL => r04_Reader_Num_c _ _ w q_p0 x12.2 1 _ h4 hL) (fun x a w hF hW => ?_)
   have hW : Stw ⟨Y, X, w0⟩ [(q_p0, [.string (bs x13.2.1), .int .i64 x13.2.2.1, .int .i64 x13.2.2.2]), (b1, [.int .i64 x11.1, .int .i64 x12.1, .int .i64 0])] [row v2 27 R27 x6] w := hW
   refine ls hF hW rfl ((y_fieldAddr u27_ rfl rfl rfl T3 hF rfl 2 rfl).q) (fun a w hF hW => ?_)
   refine l_store (vs := [.int .i64 x13.1]) (M' := [(q_p0, [.string (bs x13.2.1), .int .i64 x13.2.2.1, .int .i64 x13.2.2.2]), (b1, [.int .i64 x11.1, .int .i64 x12.1, .int .i64 x13.1])]) 1 hF hW rfl rfl rfl T3 rfl rfl rfl rfl rfl (fun w hW => ?_)
   refine ls_nil (c_then ?_)
   obtain ⟨o3, G3, K3⟩ := bindE H
   refine c_seqJ (fun a w => ∃ x14 : List UInt8, ∃ x15 : Int, ∃ x16 : Int, some ((x14, x15, x16)) = some o3 ∧ Fr 42 [] [(0, .pointer (some ⟨q_p0, 0, none⟩)), (1, .int .i64 p1), (4, .slice none 0 0), (5, .int .i64 x1.1), (6, v2), (7, .int .i64 x7), (8, .pointer (some ⟨b1, 0, none⟩))] a ∧ Stw ⟨Y, X, w0⟩ [(q_p0, [.string (bs x14), .int .i64 x15, .int .i64 x16]), (b1, [.int .i64 x11.1, .int .i64 x12.1, .int .i64 x13.1])] [row v2 27 R27 x6] w) ?_ ?_
   ·
    have H := G3
    clear G3 K3
    refine c_seq (reg_list ?_)
    refine ls hF hW rfl ((y_load (v := Value.agg #[.int .i64 x11.1, .int .i64 x12.1, .int .i64 x13.1]) 1 hF rfl rfl T27 rfl).q) (fun a w hF hW => ?_)
    refine ls hF hW rfl ((y_move hF rfl).q) (fun a w hF hW => ?_)
    refine ls hF hW rfl (y_call (v := Value.bool (r09_One (x11.1, x12.1, x13.1) p1)) hF H32 rfl (fun w hW => r09_One_c any w (x11.1, x12.1, x13.1) p1 _ rfl)) (fun a w hF hW => ?_)
    refine ls hF hW rfl ((y_not hF rfl).q) (fun a w hF hW => ?_)
    refine ls_nil (c_then ?_)
    refine c_cond hF rfl (fun hb => ?_) (fun hb => ?_)
    ·
     have H := iteT hb H
     rw [hb] at hF
     clear hb
     refine reg_list ?_
     refine ls hF hW rfl ((y_move hF rfl).q) (fun a w hF hW => ?_)
     refine l_callG (Ml := [(q_p0, [.string (bs x13.2.1), .int .i64 x13.2.2.1, .int .i64 x13.2.2.2])]) (Zl := []) (M := [(b1, [.int .i64 x11.1, .int .i64 x12.1, .int .i64 x13.1])]) (Z := [row v2 27 R27 x6]) (β := Unit) (rv := fun x => .tuple #[]) (MM := fun x => [(q_p0, [.string (bs ((r04_Reader_Wrong x13.2 2).1)), .int .i64 ((r04_Reader_Wrong x13.2 2).2.1), .int .i64 ((r04_Reader_Wrong x13.2 2).2.2)])]) (ZZ := fun x => []) hF hW H53 rfl rfl (fun hL => r04_Reader_Wrong_c _ _ w q_p0 x13.2 2 _ rfl hL) (fun x a w hF hW => ?_)
     have hW : Stw ⟨Y, X, w0⟩ [(q_p0, [.string (bs ((r04_Reader_Wrong x13.2 2).1)), .int .i64 ((r04_Reader_Wrong x13.2 2).2.1), .int .i64 ((r04_Reader_Wrong x13.2 2).2.2)]), (b1, [.int .i64 x11.1, .int .i64 x12.1, .int .i64 x13.1])] [row v2 27 R27 x6] w := hW
     refine ls_nil (c_then ?_)
     have hW := hW.frontM (i := 1) rfl rfl
     have hW := hW.frontM (i := 1) rfl rfl
     exact ⟨_, _, _, H, hF.re ⟨rfl, rfl, rfl, rfl, rfl, rfl, rfl, trivial⟩, hW⟩
    ·
     have H := iteF (by rw [hb]; decide) H
     rw [hb] at hF
     clear hb
     refine wr_skip ?_
     refine c_then ?_
     have hW := hW.frontM (i := 1) rfl rfl
     have hW := hW.frontM (i := 1) rfl rfl
     exact ⟨_, _, _, H, hF.re ⟨rfl, rfl, rfl, rfl, rfl, rfl, rfl, trivial⟩, hW⟩
   rintro a w ⟨x14, x15, x16, hj, hF, hW⟩
   have hj := Option.some.inj hj
   subst hj
   have H := K3
   clear G3 K3
   refine reg_list ?_
   refine ls hF hW rfl ((y_move hF rfl).q) (fun a w hF hW => ?_)
   refine ls hF hW rfl ((y_load (v := Value.agg #[.int .i64 x11.1, .int .i64 x12.1, .int .i64 x13.1]) 1 hF rfl rfl T27 rfl).q) (fun a w hF hW => ?_)
   refine l_lit (z := Value.agg #[.int .i64 0, .int .i64 0, .int .i64 0]) (cs := [.int .i64 x11.1, .int .i64 x12.1, .int .i64 x13.1]) R27 ([(x11.1, x12.1, x13.1)] : List (Int × Int × Int)) hF hW rfl L22 Z27 rfl rfl rfl rfl rfl rfl (F27.repL _ _ ([(x11.1, x12.1, x13.1)] : List (Int × Int × Int))) (fun v3 a w hF hW => ?_)
   obtain ⟨x17, h5, H⟩ := bindE H
   refine l_append (r := R27) (i := 1) hF hW rfl L22 rfl rfl rfl rfl (src_row hW 0 rfl) h5 rfl (fun v4 a w hF hW => ?_)
   have hW : Stw ⟨Y, X, w0⟩ [(q_p0, [.string (bs x14), .int .i64 x15, .int .i64 x16]), (b1, [.int .i64 x11.1, .int .i64 x12.1, .int .i64 x13.1])] [row v4 27 R27 x17, row v3 27 R27 ([(x11.1, x12.1, x13.1)] : List (Int × Int × Int))] w := hW
   refine ls hF hW rfl ((y_assign hF rfl).q) (fun a w hF hW => ?_)
   refine ls_nil ?_
   refine b_normal ?_
   refine c_then ?_
   refine reg_list ?_
   refine ls hF hW rfl ((y_move hF rfl).q) (fun a w hF hW => ?_)
   refine ls hF hW rfl ((y_add hF rfl rfl rfl).q) (fun a w hF hW => ?_)
   refine ls hF hW rfl ((y_assign hF rfl).q) (fun a w hF hW => ?_)
   refine ls_nil (c_then ?_)
   have hW := hW.sub (M' := [(q_p0, [.string (bs x14), .int .i64 x15, .int .i64 x16])]) (Z' := [row v4 27 R27 x17]) (List.Sublist.cons_cons _ (List.nil_sublist _)) (List.Sublist.cons_cons _ (List.nil_sublist _))
   exact ⟨_, H, (v4), hF.re ⟨rfl, rfl, rfl, rfl, rfl, rfl, trivial⟩, hW⟩
  ·
   have H := iteF (of_decide_eq_false hb) H
   rw [hb] at hF
   clear hb
   refine wr_exit ?_
   iterate 2 refine e_then ?_
   refine e_block ?_
   refine c_then ?_
   have H := L2 _ H
   exact ⟨_, _, _, _, (v2), H, hF.re ⟨rfl, rfl, rfl, trivial⟩, hW⟩
 rintro a w ⟨x2, x3, x4, x5, v1, hj, hF, hW⟩
 have hj := Option.some.inj hj
 subst hj
 have H := K1
 clear G1 K1
 refine c_seq ?_
 refine c_seq (reg_list ?_)
 refine ls hF hW rfl ((y_move hF rfl).q) (fun a w hF hW => ?_)
 refine ls hF hW rfl ((y_nilCheck hF rfl).q) (fun a w hF hW => ?_)
 refine ls hF hW rfl ((y_fieldAddr u47_ rfl rfl rfl T3 hF rfl 2 rfl).q) (fun a w hF hW => ?_)
 refine ls hF hW rfl ((y_load (v := Value.int .i64 x5) 0 hF rfl rfl T3 rfl).q) (fun a w hF hW => ?_)
 refine ls hF hW rfl ((y_neq hF rfl rfl).q) (fun a w hF hW => ?_)
 refine ls_nil (c_then ?_)
 refine c_cond hF rfl (fun hb => ?_) (fun hb => ?_)
 ·
  have H := iteT (of_decide_eq_true hb) H
  rw [hb] at hF
  clear hb
  refine c_seq (reg_list ?_)
  refine ls hF hW rfl ((y_assign hF rfl).q) (fun a w hF hW => ?_)
  refine ls_nil (c_then ?_)
  refine wr_ret ?_
  refine r_then ?_
  have H := Option.some.inj H
  subst H
  refine post1 (.inl rfl) hF hW rfl (rv_tmp hF rfl) ?_
  have hW := hW.nilRow 27 R27
  have hW := hW.sub (M' := [(q_p0, [.string (bs x3), .int .i64 x4, .int .i64 x5])]) (Z' := [row (Value.slice none 0 0) 27 R27 ([])]) (List.Sublist.refl _) (List.Sublist.cons_cons _ (List.nil_sublist _))
  exact ⟨(Value.slice none 0 0), rfl, hW⟩
 ·
  have H := iteF (of_decide_eq_false hb) H
  rw [hb] at hF
  clear hb
  refine wr_skip ?_
  refine c_then ?_
  refine c_seq (reg_list ?_)
  refine ls hF hW rfl ((y_move hF rfl).q) (fun a w hF hW => ?_)
  refine ls hF hW rfl ((y_assign hF rfl).q) (fun a w hF hW => ?_)
  refine ls_nil (c_then ?_)
  refine wr_ret ?_
  have H := Option.some.inj H
  subst H
  refine post1 (.inl rfl) hF hW rfl (rv_tmp hF rfl) ?_
  exact ⟨(v1), rfl, hW⟩

theorem H26 : Has Tryd.prog 26 := ⟨fun args w => run_callFunc_body Tryd.func26 rfl (by decide) args w⟩
noncomputable def octet_Reader_End (p0 : List UInt8 × Int) : Option (Int × (List UInt8 × Int)) := (if 0 < (octet_Reader_Left p0) then some ((octet_Reader_Wrong p0 5).1, (octet_Reader_Wrong p0 5).2) else some (p0.1, p0.2)).bind fun (x1, x2) => some (x2, (x1, x2))
theorem octet_Reader_End_c (Y : Nat → Prop) (X : List Nat) (w0 : World) (q_p0 : Nat) (p0 : List UInt8 × Int) (r : Int × (List UInt8 × Int)) (H : octet_Reader_End p0 = some r) (hL : Stw ⟨Y, X, w0⟩ [(q_p0, [.string (bs p0.1), .int .i64 p0.2])] [] w0) :
    Calls Tryd.prog 29 #[.pointer (some ⟨q_p0, 0, none⟩)] w0 fun e w' => ∃ x : Unit, e = .returned (.int .i64 r.1) ∧ Stw ⟨Y, X, w0⟩ [(q_p0, [.string (bs r.2.1), .int .i64 r.2.2])] [] w' := by
 refine enter Tryd.func29 rfl Tryd.ntmps29 rfl (fun a hF => ?_)
 have hW := hL
 unfold octet_Reader_End at H
 refine c_seq (reg_list ?_)
 refine ls hF hW rfl ((y_assign hF rfl).q) (fun a w hF hW => ?_)
 refine ls_nil (c_then ?_)
 refine c_seq ?_
 refine c_seq (reg_list ?_)
 refine ls hF hW rfl ((y_move hF rfl).q) (fun a w hF hW => ?_)
 refine ls hF hW rfl ((y_peq_some_nil u43_ hF rfl rfl).q) (fun a w hF hW => ?_)
 refine ls_nil (c_then ?_)
 refine c_cond_f hF rfl ?_
 refine wr_skip ?_
 refine c_then ?_
 obtain ⟨o1, G1, K1⟩ := bindE H
 refine c_seqJ (fun a w => ∃ x1 : List UInt8, ∃ x2 : Int, some ((x1, x2)) = some o1 ∧ Fr 14 [] [(0, .pointer (some ⟨q_p0, 0, none⟩)), (2, .int .i64 0)] a ∧ Stw ⟨Y, X, w0⟩ [(q_p0, [.string (bs x1), .int .i64 x2])] [] w) ?_ ?_
 ·
  have H := G1
  clear G1 K1
  refine c_seq (reg_list ?_)
  refine ls hF hW rfl ((y_move hF rfl).q) (fun a w hF hW => ?_)
  refine ls hF hW rfl (y_call (v := Value.int .i64 (octet_Reader_Left p0)) hF H27 rfl (fun w hW => octet_Reader_Left_c any w q_p0 p0 _ rfl (at_M hW 0 rfl))) (fun a w hF hW => ?_)
  refine ls hF hW rfl ((y_gtr hF rfl rfl).q) (fun a w hF hW => ?_)
  refine ls_nil (c_then ?_)
  refine c_cond hF rfl (fun hb => ?_) (fun hb => ?_)
  ·
   have H := iteT (of_decide_eq_true hb) H
   rw [hb] at hF
   clear hb
   refine reg_list ?_
   refine ls hF hW rfl ((y_move hF rfl).q) (fun a w hF hW => ?_)
   refine l_callG (Ml := [(q_p0, [.string (bs p0.1), .int .i64 p0.2])]) (Zl := []) (M := []) (Z := []) (β := Unit) (rv := fun x => .tuple #[]) (MM := fun x => [(q_p0, [.string (bs ((octet_Reader_Wrong p0 5).1)), .int .i64 ((octet_Reader_Wrong p0 5).2)])]) (ZZ := fun x => []) hF hW H49 rfl rfl (fun hL => octet_Reader_Wrong_c _ _ w q_p0 p0 5 _ rfl hL) (fun x a w hF hW => ?_)
   have hW : Stw ⟨Y, X, w0⟩ [(q_p0, [.string (bs ((octet_Reader_Wrong p0 5).1)), .int .i64 ((octet_Reader_Wrong p0 5).2)])] [] w := hW
   refine ls_nil (c_then ?_)
   exact ⟨_, _, H, hF.re ⟨rfl, rfl, trivial⟩, hW⟩
  ·
   have H := iteF (of_decide_eq_false hb) H
   rw [hb] at hF
   clear hb
   refine wr_skip ?_
   refine c_then ?_
   exact ⟨_, _, H, hF.re ⟨rfl, rfl, trivial⟩, hW⟩
 rintro a w ⟨x1, x2, hj, hF, hW⟩
 have hj := Option.some.inj hj
 subst hj
 have H := K1
 clear G1 K1
 refine c_seq (reg_list ?_)
 refine ls hF hW rfl ((y_move hF rfl).q) (fun a w hF hW => ?_)
 refine ls hF hW rfl ((y_nilCheck hF rfl).q) (fun a w hF hW => ?_)
 refine ls hF hW rfl ((y_fieldAddr u80_ rfl rfl rfl T51 hF rfl 1 rfl).q) (fun a w hF hW => ?_)
 refine ls hF hW rfl ((y_load (v := Value.int .i64 x2) 0 hF rfl rfl T51 rfl).q) (fun a w hF hW => ?_)
 refine ls hF hW rfl ((y_assign hF rfl).q) (fun a w hF hW => ?_)
 refine ls_nil (c_then ?_)
 refine wr_ret ?_
 have H := Option.some.inj H
 subst H
 refine post1 (.inl rfl) hF hW rfl (rv_tmp hF rfl) ?_
 exact ⟨(), rfl, hW⟩

theorem H29 : Has Tryd.prog 29 := ⟨fun args w => run_callFunc_body Tryd.func29 rfl (by decide) args w⟩
noncomputable def r04_Reader_End (p0 : List UInt8 × Int × Int) : Option (Int × (List UInt8 × Int × Int)) := (if 0 < (r04_Reader_Left p0) then some 5 else some p0.2.2).bind fun x1 => some (x1, (p0.1, p0.2.1, x1))
theorem r04_Reader_End_c (Y : Nat → Prop) (X : List Nat) (w0 : World) (q_p0 : Nat) (p0 : List UInt8 × Int × Int) (r : Int × (List UInt8 × Int × Int)) (H : r04_Reader_End p0 = some r) (hL : Stw ⟨Y, X, w0⟩ [(q_p0, [.string (bs p0.1), .int .i64 p0.2.1, .int .i64 p0.2.2])] [] w0) :
    Calls Tryd.prog 30 #[.pointer (some ⟨q_p0, 0, none⟩)] w0 fun e w' => ∃ x : Unit, e = .returned (.int .i64 r.1) ∧ Stw ⟨Y, X, w0⟩ [(q_p0, [.string (bs r.2.1), .int .i64 r.2.2.1, .int .i64 r.2.2.2])] [] w' := by
 refine enter Tryd.func30 rfl Tryd.ntmps30 rfl (fun a hF => ?_)
 have hW := hL
 unfold r04_Reader_End at H
 refine c_seq (reg_list ?_)
 refine ls hF hW rfl ((y_assign hF rfl).q) (fun a w hF hW => ?_)
 refine ls_nil (c_then ?_)
 obtain ⟨o1, G1, K1⟩ := bindE H
 refine c_seqJ (fun a w => ∃ x1 : Int, some (x1) = some o1 ∧ Fr 13 [] [(0, .pointer (some ⟨q_p0, 0, none⟩)), (2, .int .i64 0)] a ∧ Stw ⟨Y, X, w0⟩ [(q_p0, [.string (bs p0.1), .int .i64 p0.2.1, .int .i64 x1])] [] w) ?_ ?_
 ·
  have H := G1
  clear G1 K1
  refine c_seq (reg_list ?_)
  refine ls hF hW rfl ((y_move hF rfl).q) (fun a w hF hW => ?_)
  refine ls hF hW rfl (y_call (v := Value.int .i64 (r04_Reader_Left p0)) hF H28 rfl (fun w hW => r04_Reader_Left_c any w q_p0 p0 _ rfl (at_M hW 0 rfl))) (fun a w hF hW => ?_)
  refine ls hF hW rfl ((y_gtr hF rfl rfl).q) (fun a w hF hW => ?_)
  refine ls_nil (c_then ?_)
  refine c_cond hF rfl (fun hb => ?_) (fun hb => ?_)
  ·
   have H := iteT (of_decide_eq_true hb) H
   rw [hb] at hF
   clear hb
   refine reg_list ?_
   refine ls hF hW rfl ((y_move hF rfl).q) (fun a w hF hW => ?_)
   refine ls hF hW rfl ((y_nilCheck hF rfl).q) (fun a w hF hW => ?_)
   refine ls hF hW rfl ((y_fieldAddr u47_ rfl rfl rfl T3 hF rfl 2 rfl).q) (fun a w hF hW => ?_)
   refine l_store (vs := [.int .i64 5]) (M' := [(q_p0, [.string (bs p0.1), .int .i64 p0.2.1, .int .i64 5])]) 0 hF hW rfl rfl rfl T3 rfl rfl rfl rfl rfl (fun w hW => ?_)
   refine ls_nil (c_then ?_)
   exact ⟨_, H, hF.re ⟨rfl, rfl, trivial⟩, hW⟩
  ·
   have H := iteF (of_decide_eq_false hb) H
   rw [hb] at hF
   clear hb
   refine wr_skip ?_
   refine c_then ?_
   exact ⟨_, H, hF.re ⟨rfl, rfl, trivial⟩, hW⟩
 rintro a w ⟨x1, hj, hF, hW⟩
 have hj := Option.some.inj hj
 subst hj
 have H := K1
 clear G1 K1
 refine c_seq (reg_list ?_)
 refine ls hF hW rfl ((y_move hF rfl).q) (fun a w hF hW => ?_)
 refine ls hF hW rfl ((y_nilCheck hF rfl).q) (fun a w hF hW => ?_)
 refine ls hF hW rfl ((y_fieldAddr u47_ rfl rfl rfl T3 hF rfl 2 rfl).q) (fun a w hF hW => ?_)
 refine ls hF hW rfl ((y_load (v := Value.int .i64 x1) 0 hF rfl rfl T3 rfl).q) (fun a w hF hW => ?_)
 refine ls hF hW rfl ((y_assign hF rfl).q) (fun a w hF hW => ?_)
 refine ls_nil (c_then ?_)
 refine wr_ret ?_
 have H := Option.some.inj H
 subst H
 refine post1 (.inl rfl) hF hW rfl (rv_tmp hF rfl) ?_
 exact ⟨(), rfl, hW⟩

theorem H30 : Has Tryd.prog 30 := ⟨fun args w => run_callFunc_body Tryd.func30 rfl (by decide) args w⟩
noncomputable def L09_ActReads (p0 : List UInt8) (p1 : List (Int × Int × Int)) (p2 : Int) : Option Bool := (if 60 < (p0.length : Int) then (subl p0 0 60).bind fun x2 => some x2 else some p0).bind fun x1 => ((act_Read (octet_Open x1) p2).bind fun x9 => (r09_Read (x1, 0, 0) p2).bind fun x10 => (r09_Same x9.1 x10.1).bind fun x11 => (if (!x11) = true then some (true, x10.2.1, x10.2.2.1, x10.2.2.2, x9.2.1, x9.2.2) else (if (octet_Reader_Left x9.2) ≠ (r04_Reader_Left x10.2) then some (true, x10.2.1, x10.2.2.1, x10.2.2.2, x9.2.1, x9.2.2) else (octet_Reader_End x9.2).bind fun x12 => (r04_Reader_End x10.2).bind fun x13 => some (decide (x12.1 ≠ x13.1), x13.2.1, x13.2.2.1, x13.2.2.2, x12.2.1, x12.2.2)))).bind fun (x3, x4, x5, x6, x7, x8) => (if x3 = true then some false else ((r09_Right p1 p2).bind fun x15 => (if (!x15) = true then some true else some (decide (256 < p2)))).bind fun x14 => (if x14 = true then (L09_awake).bind fun x16 => some x16 else (act_Code p1).bind fun x17 => ((act_Read (octet_Open x17) p2).bind fun x21 => (act_Same x21.1 p1).bind fun x22 => (if x22 = true then (octet_Reader_End x21.2).bind fun x23 => (if x23.1 = 0 then (L09_awake).bind fun x24 => some (x24, x23.2.1, x23.2.2) else some (false, x23.2.1, x23.2.2)) else some (false, x21.2.1, x21.2.2))).bind fun (x18, x19, x20) => some x18))
theorem L09_ActReads_c (Y : Nat → Prop) (w0 : World) (v1 : Value) (p0 : List UInt8) (p1 : List (Int × Int × Int)) (p2 : Int) (r : Bool) (H : L09_ActReads p0 p1 p2 = some r) (h_v1 : Sl w0 (NX []) R27 v1 p1) (hG : Gk [] w0) :
    Calls Tryd.prog 6 #[.string (bs p0), v1, .int .i64 p2] w0 fun e w' => e = .returned (.bool r) ∧ Below w0.heap.size w0 w' := by
 refine enter Tryd.func6 rfl Tryd.ntmps6 rfl (fun a hF => ?_)
 have hW := Stw.start Y w0
 unfold L09_ActReads at H
 refine c_seq (reg_list ?_)
 refine ls hF hW rfl ((y_assign hF rfl).q) (fun a w hF hW => ?_)
 refine ls_nil (c_then ?_)
 obtain ⟨o1, G1, K1⟩ := bindE H
 refine c_seqJ (fun a w => ∃ x1 : List UInt8, some (x1) = some o1 ∧ Fr 67 [] [(0, .string (bs x1)), (1, v1), (2, .int .i64 p2), (6, .bool false)] a ∧ Stw ⟨Y, [], w0⟩ [] [] w) ?_ ?_
 ·
  have H := G1
  clear G1 K1
  refine c_seq (reg_list ?_)
  refine ls hF hW rfl ((y_move hF rfl).q) (fun a w hF hW => ?_)
  refine ls hF hW rfl ((y_slen (l := p0) u9_ rfl hF rfl).q) (fun a w hF hW => ?_)
  refine ls hF hW rfl ((y_gtr hF rfl rfl).q) (fun a w hF hW => ?_)
  refine ls_nil (c_then ?_)
  refine c_cond hF rfl (fun hb => ?_) (fun hb => ?_)
  ·
   have H := iteT (of_decide_eq_true hb) H
   rw [hb] at hF
   clear hb
   refine reg_list ?_
   refine ls hF hW rfl ((y_move hF rfl).q) (fun a w hF hW => ?_)
   obtain ⟨x2, h1, H⟩ := bindE H
   refine ls hF hW rfl ((y_sslice (l := p0) u9_ hF rfl rfl rfl h1).q) (fun a w hF hW => ?_)
   refine ls hF hW rfl ((y_assign hF rfl).q) (fun a w hF hW => ?_)
   refine ls_nil (c_then ?_)
   exact ⟨_, H, hF.re ⟨rfl, rfl, rfl, rfl, trivial⟩, hW⟩
  ·
   have H := iteF (of_decide_eq_false hb) H
   rw [hb] at hF
   clear hb
   refine wr_skip ?_
   refine c_then ?_
   exact ⟨_, H, hF.re ⟨rfl, rfl, rfl, rfl, trivial⟩, hW⟩
 rintro a w ⟨x1, hj, hF, hW⟩
 have hj := Option.some.inj hj
 subst hj
 have H := K1
 clear G1 K1
 refine c_seq (reg_list ?_)
 refine ls hF hW rfl ((y_move hF rfl).q) (fun a w hF hW => ?_)
 refine l_callG (Ml := []) (Zl := []) (M := []) (Z := []) (β := Nat) (rv := fun x => .pointer (some ⟨x, 0, none⟩)) (MM := fun x => [(x, [.string (bs ((octet_Open x1).1)), .int .i64 ((octet_Open x1).2)])]) (ZZ := fun x => []) hF hW H24 rfl rfl (fun hL => octet_Open_c _ w x1 _ rfl) (fun x a w hF hW => ?_)
 obtain ⟨b1, rfl⟩ : ∃ y, y = x := ⟨x, rfl⟩
 have hW : Stw ⟨Y, [], w0⟩ [(b1, [.string (bs ((octet_Open x1).1)), .int .i64 ((octet_Open x1).2)])] [] w := hW
 refine ls hF hW rfl ((y_move hF rfl).q) (fun a w hF hW => ?_)
 refine ls hF hW rfl ((y_build (v := Value.agg #[.string (bs x1), .int .i64 0, .int .i64 0]) B47 hF rfl rfl rfl).q) (fun a w hF hW => ?_)
 refine l_box (cs := [.string (bs x1), .int .i64 0, .int .i64 0]) hF hW rfl rfl rfl (fun b2 a w hF hW => ?_)
 iterate 2 refine ls hF hW rfl ((y_assign hF rfl).q) (fun a w hF hW => ?_)
 refine ls_nil (c_then ?_)
 refine c_seq ?_
 obtain ⟨o2, G2, K2⟩ := bindE H
 refine c_seqJ (fun a w => ∃ x3 : Bool, ∃ x4 : List UInt8, ∃ x5 : Int, ∃ x6 : Int, ∃ x7 : List UInt8, ∃ x8 : Int, some ((x3, x4, x5, x6, x7, x8)) = some o2 ∧ Fr 67 [] [(1, v1), (2, .int .i64 p2), (6, .bool false), (41, .bool x3)] a ∧ Stw ⟨Y, [], w0⟩ [(b2, [.string (bs x4), .int .i64 x5, .int .i64 x6]), (b1, [.string (bs x7), .int .i64 x8])] [] w) ?_ ?_
 ·
  have H := G2
  clear G2 K2
  refine reg_list ?_
  iterate 2 refine ls hF hW rfl ((y_move hF rfl).q) (fun a w hF hW => ?_)
  obtain ⟨x9, h2, H⟩ := bindE H
  have hW := hW.frontM (i := 1) rfl rfl
  refine l_callG (Ml := [(b1, [.string (bs ((octet_Open x1).1)), .int .i64 ((octet_Open x1).2)])]) (Zl := []) (M := [(b2, [.string (bs x1), .int .i64 0, .int .i64 0])]) (Z := []) (β := Value) (rv := fun x => x) (MM := fun x => [(b1, [.string (bs x9.2.1), .int .i64 x9.2.2])]) (ZZ := fun x => [row x 27 R27 x9.1]) hF hW H25 rfl rfl (fun hL => act_Read_c _ _ w b1 (octet_Open x1) p2 _ h2 hL) (fun x a w hF hW => ?_)
  obtain ⟨v2, rfl⟩ : ∃ y, y = x := ⟨x, rfl⟩
  have hW : Stw ⟨Y, [], w0⟩ [(b1, [.string (bs x9.2.1), .int .i64 x9.2.2]), (b2, [.string (bs x1), .int .i64 0, .int .i64 0])] [row v2 27 R27 x9.1] w := hW
  iterate 2 refine ls hF hW rfl ((y_move hF rfl).q) (fun a w hF hW => ?_)
  obtain ⟨x10, h3, H⟩ := bindE H
  have hW := hW.frontM (i := 1) rfl rfl
  refine l_callG (Ml := [(b2, [.string (bs x1), .int .i64 0, .int .i64 0])]) (Zl := []) (M := [(b1, [.string (bs x9.2.1), .int .i64 x9.2.2])]) (Z := [row v2 27 R27 x9.1]) (β := Value) (rv := fun x => x) (MM := fun x => [(b2, [.string (bs x10.2.1), .int .i64 x10.2.2.1, .int .i64 x10.2.2.2])]) (ZZ := fun x => [row x 27 R27 x10.1]) hF hW H26 rfl rfl (fun hL => r09_Read_c _ _ w b2 (x1, 0, 0) p2 _ h3 hL) (fun x a w hF hW => ?_)
  obtain ⟨v3, rfl⟩ : ∃ y, y = x := ⟨x, rfl⟩
  have hW : Stw ⟨Y, [], w0⟩ [(b2, [.string (bs x10.2.1), .int .i64 x10.2.2.1, .int .i64 x10.2.2.2]), (b1, [.string (bs x9.2.1), .int .i64 x9.2.2])] [row v3 27 R27 x10.1, row v2 27 R27 x9.1] w := hW
  obtain ⟨x11, h4, H⟩ := bindE H
  refine ls hF hW rfl (y_call (v := Value.bool x11) hF H16 rfl (fun w hW => r09_Same_c any w (v2) (v3) x9.1 x10.1 _ h4 (((rdc_row 1 rfl) : Rdc _ _ _ _ _ _) w hW).nx (((rdc_row 0 rfl) : Rdc _ _ _ _ _ _) w hW).nx)) (fun a w hF hW => ?_)
  refine ls hF hW rfl ((y_not hF rfl).q) (fun a w hF hW => ?_)
  refine ls hF hW rfl ((y_move hF rfl).q) (fun a w hF hW => ?_)
  rcases Bool.eq_false_or_eq_true (!x11) with hb | hb
  ·
   have H := iteT hb H
   rw [hb] at hF
   clear hb
   iterate 5 refine lsn hF rfl rfl rfl rfl rfl rfl rfl (fun a hF => ?_)
   refine ls hF hW rfl ((y_pick_t hF rfl rfl rfl).q) (fun a w hF hW => ?_)
   refine ls hF hW rfl ((y_move hF rfl).q) (fun a w hF hW => ?_)
   iterate 5 refine lsn hF rfl rfl rfl rfl rfl rfl rfl (fun a hF => ?_)
   refine ls hF hW rfl ((y_pick_t hF rfl rfl rfl).q) (fun a w hF hW => ?_)
   refine ls_nil (c_then ?_)
   have hW := hW.frontM (i := 1) rfl rfl
   have hW := hW.frontM (i := 1) rfl rfl
   have hW := hW.sub (M' := [(b2, [.string (bs x10.2.1), .int .i64 x10.2.2.1, .int .i64 x10.2.2.2]), (b1, [.string (bs x9.2.1), .int .i64 x9.2.2])]) (Z' := []) (List.Sublist.refl _) (List.nil_sublist _)
   exact ⟨_, _, _, _, _, _, H, hF.re ⟨rfl, rfl, rfl, rfl, trivial⟩, hW⟩
  ·
   have H := iteF (by rw [hb]; decide) H
   rw [hb] at hF
   clear hb
   refine ls_w hF hW (wanted_y hF rfl rfl rfl rfl) rfl (Nat.le_of_ble_eq_true rfl) ((y_move hF rfl).q) (fun a w hF hW => ?_)
   refine ls_g (wanted_y hF rfl rfl rfl rfl) ?_
   refine ls hF hW rfl (y_call (v := Value.int .i64 (octet_Reader_Left x9.2)) hF H27 rfl (fun w hW => octet_Reader_Left_c any w b1 x9.2 _ rfl (at_M hW 1 rfl))) (fun a w hF hW => ?_)
   refine ls_w hF hW (wanted_y hF rfl rfl rfl rfl) rfl (Nat.le_of_ble_eq_true rfl) ((y_move hF rfl).q) (fun a w hF hW => ?_)
   refine ls_g (wanted_y hF rfl rfl rfl rfl) ?_
   refine ls hF hW rfl (y_call (v := Value.int .i64 (r04_Reader_Left x10.2)) hF H28 rfl (fun w hW => r04_Reader_Left_c any w b2 x10.2 _ rfl (at_M hW 0 rfl))) (fun a w hF hW => ?_)
   refine ls_w hF hW (wanted_y hF rfl rfl rfl rfl) rfl (Nat.le_of_ble_eq_true rfl) ((y_neq hF rfl rfl).q) (fun a w hF hW => ?_)
   refine ls hF hW rfl ((y_pick_f hF rfl rfl rfl).q) (fun a w hF hW => ?_)
   refine ls hF hW rfl ((y_move hF rfl).q) (fun a w hF hW => ?_)
   rcases Bool.eq_false_or_eq_true (decide ((octet_Reader_Left x9.2) ≠ (r04_Reader_Left x10.2))) with hb | hb
   ·
    have H := iteT (of_decide_eq_true hb) H
    rw [hb] at hF
    clear hb
    iterate 5 refine lsn hF rfl rfl rfl rfl rfl rfl rfl (fun a hF => ?_)
    refine ls hF hW rfl ((y_pick_t hF rfl rfl rfl).q) (fun a w hF hW => ?_)
    refine ls_nil (c_then ?_)
    have hW := hW.frontM (i := 1) rfl rfl
    have hW := hW.frontM (i := 1) rfl rfl
    have hW := hW.sub (M' := [(b2, [.string (bs x10.2.1), .int .i64 x10.2.2.1, .int .i64 x10.2.2.2]), (b1, [.string (bs x9.2.1), .int .i64 x9.2.2])]) (Z' := []) (List.Sublist.refl _) (List.nil_sublist _)
    exact ⟨_, _, _, _, _, _, H, hF.re ⟨rfl, rfl, rfl, rfl, trivial⟩, hW⟩
   ·
    have H := iteF (of_decide_eq_false hb) H
    rw [hb] at hF
    clear hb
    refine ls_w hF hW (wanted_y hF rfl rfl rfl rfl) rfl (Nat.le_of_ble_eq_true rfl) ((y_move hF rfl).q) (fun a w hF hW => ?_)
    refine ls_g (wanted_y hF rfl rfl rfl rfl) ?_
    obtain ⟨x12, h5, H⟩ := bindE H
    have hW := hW.frontM (i := 1) rfl rfl
    refine l_callG (Ml := [(b1, [.string (bs x9.2.1), .int .i64 x9.2.2])]) (Zl := []) (M := [(b2, [.string (bs x10.2.1), .int .i64 x10.2.2.1, .int .i64 x10.2.2.2])]) (Z := [row v3 27 R27 x10.1, row v2 27 R27 x9.1]) (β := Unit) (rv := fun x => .int .i64 x12.1) (MM := fun x => [(b1, [.string (bs x12.2.1), .int .i64 x12.2.2])]) (ZZ := fun x => []) hF hW H29 rfl rfl (fun hL => octet_Reader_End_c _ _ w b1 x9.2 _ h5 hL) (fun x a w hF hW => ?_)
    have hW : Stw ⟨Y, [], w0⟩ [(b1, [.string (bs x12.2.1), .int .i64 x12.2.2]), (b2, [.string (bs x10.2.1), .int .i64 x10.2.2.1, .int .i64 x10.2.2.2])] [row v3 27 R27 x10.1, row v2 27 R27 x9.1] w := hW
    refine ls_w hF hW (wanted_y hF rfl rfl rfl rfl) rfl (Nat.le_of_ble_eq_true rfl) ((y_move hF rfl).q) (fun a w hF hW => ?_)
    refine ls_g (wanted_y hF rfl rfl rfl rfl) ?_
    obtain ⟨x13, h6, H⟩ := bindE H
    have hW := hW.frontM (i := 1) rfl rfl
    refine l_callG (Ml := [(b2, [.string (bs x10.2.1), .int .i64 x10.2.2.1, .int .i64 x10.2.2.2])]) (Zl := []) (M := [(b1, [.string (bs x12.2.1), .int .i64 x12.2.2])]) (Z := [row v3 27 R27 x10.1, row v2 27 R27 x9.1]) (β := Unit) (rv := fun x => .int .i64 x13.1) (MM := fun x => [(b2, [.string (bs x13.2.1), .int .i64 x13.2.2.1, .int .i64 x13.2.2.2])]) (ZZ := fun x => []) hF hW H30 rfl rfl (fun hL => r04_Reader_End_c _ _ w b2 x10.2 _ h6 hL) (fun x a w hF hW => ?_)
    have hW : Stw ⟨Y, [], w0⟩ [(b2, [.string (bs x13.2.1), .int .i64 x13.2.2.1, .int .i64 x13.2.2.2]), (b1, [.string (bs x12.2.1), .int .i64 x12.2.2])] [row v3 27 R27 x10.1, row v2 27 R27 x9.1] w := hW
    refine ls_w hF hW (wanted_y hF rfl rfl rfl rfl) rfl (Nat.le_of_ble_eq_true rfl) ((y_neq hF rfl rfl).q) (fun a w hF hW => ?_)
    refine ls hF hW rfl ((y_pick_f hF rfl rfl rfl).q) (fun a w hF hW => ?_)
    refine ls_nil (c_then ?_)
    have hW := hW.frontM (i := 1) rfl rfl
    have hW := hW.frontM (i := 1) rfl rfl
    have hW := hW.sub (M' := [(b2, [.string (bs x13.2.1), .int .i64 x13.2.2.1, .int .i64 x13.2.2.2]), (b1, [.string (bs x12.2.1), .int .i64 x12.2.2])]) (Z' := []) (List.Sublist.refl _) (List.nil_sublist _)
    exact ⟨_, _, _, _, _, _, H, hF.re ⟨rfl, rfl, rfl, rfl, trivial⟩, hW⟩
 rintro a w ⟨x3, x4, x5, x6, x7, x8, hj, hF, hW⟩
 have hj := Option.some.inj hj
 subst hj
 have H := K2
 clear G2 K2
 refine c_cond hF rfl (fun hb => ?_) (fun hb => ?_)
 ·
  have H := iteT hb H
  rw [hb] at hF
  clear hb
  refine c_seq (reg_list ?_)
  refine ls hF hW rfl ((y_assign hF rfl).q) (fun a w hF hW => ?_)
  refine ls_nil (c_then ?_)
  refine wr_ret ?_
  refine r_then ?_
  have H := Option.some.inj H
  subst H
  refine post1 (.inl rfl) hF hW rfl (rv_tmp hF rfl) ?_
  exact ⟨rfl, hW.done⟩
 ·
  have H := iteF (by rw [hb]; decide) H
  rw [hb] at hF
  clear hb
  refine wr_skip ?_
  refine c_then ?_
  refine c_seq ?_
  obtain ⟨o3, G3, K3⟩ := bindE H
  refine c_seqJ (fun a w => ∃ x14 : Bool, some (x14) = some o3 ∧ Fr 67 [] [(1, v1), (2, .int .i64 p2), (6, .bool false), (49, .bool x14)] a ∧ Stw ⟨Y, [], w0⟩ [(b2, [.string (bs x4), .int .i64 x5, .int .i64 x6]), (b1, [.string (bs x7), .int .i64 x8])] [] w) ?_ ?_
  ·
   have H := G3
   clear G3 K3
   refine reg_list ?_
   iterate 2 refine ls hF hW rfl ((y_move hF rfl).q) (fun a w hF hW => ?_)
   obtain ⟨x15, h7, H⟩ := bindE H
   refine ls hF hW rfl (y_call (v := Value.bool x15) hF H9 rfl (fun w hW => r09_Right_c any w (v1) p1 p2 _ h7 (((rdc_ro h_v1) : Rdc _ _ _ _ _ _) w hW).nx)) (fun a w hF hW => ?_)
   refine ls hF hW rfl ((y_not hF rfl).q) (fun a w hF hW => ?_)
   refine ls hF hW rfl ((y_move hF rfl).q) (fun a w hF hW => ?_)
   rcases Bool.eq_false_or_eq_true (!x15) with hb | hb
   ·
    have H := iteT hb H
    rw [hb] at hF
    clear hb
    iterate 2 refine lsn hF rfl rfl rfl rfl rfl rfl rfl (fun a hF => ?_)
    refine ls hF hW rfl ((y_pick_t hF rfl rfl rfl).q) (fun a w hF hW => ?_)
    refine ls_nil (c_then ?_)
    have hW := hW.frontM (i := 1) rfl rfl
    have hW := hW.frontM (i := 1) rfl rfl
    exact ⟨_, H, hF.re ⟨rfl, rfl, rfl, rfl, trivial⟩, hW⟩
   ·
    have H := iteF (by rw [hb]; decide) H
    rw [hb] at hF
    clear hb
    refine ls_w hF hW (wanted_y hF rfl rfl rfl rfl) rfl (Nat.le_of_ble_eq_true rfl) ((y_move hF rfl).q) (fun a w hF hW => ?_)
    refine ls_w hF hW (wanted_y hF rfl rfl rfl rfl) rfl (Nat.le_of_ble_eq_true rfl) ((y_gtr hF rfl rfl).q) (fun a w hF hW => ?_)
    refine ls hF hW rfl ((y_pick_f hF rfl rfl rfl).q) (fun a w hF hW => ?_)
    refine ls_nil (c_then ?_)
    have hW := hW.frontM (i := 1) rfl rfl
    have hW := hW.frontM (i := 1) rfl rfl
    exact ⟨_, H, hF.re ⟨rfl, rfl, rfl, rfl, trivial⟩, hW⟩
  rintro a w ⟨x14, hj, hF, hW⟩
  have hj := Option.some.inj hj
  subst hj
  have H := K3
  clear G3 K3
  refine c_cond hF rfl (fun hb => ?_) (fun hb => ?_)
  ·
   have H := iteT hb H
   rw [hb] at hF
   clear hb
   refine c_seq (reg_list ?_)
   obtain ⟨x16, h8, H⟩ := bindE H
   refine ls hF hW rfl (y_call (v := Value.bool x16) hF H7 rfl (fun w hW => L09_awake_c any w _ h8 (hG.go0 hW))) (fun a w hF hW => ?_)
   refine ls hF hW rfl ((y_assign hF rfl).q) (fun a w hF hW => ?_)
   refine ls_nil (c_then ?_)
   refine wr_ret ?_
   refine r_then ?_
   have H := Option.some.inj H
   subst H
   refine post1 (.inl rfl) hF hW rfl (rv_tmp hF rfl) ?_
   exact ⟨rfl, hW.done⟩
  ·
   have H := iteF (by rw [hb]; decide) H
   rw [hb] at hF
   clear hb
   refine wr_skip ?_
   refine c_then ?_
   refine c_seq (reg_list ?_)
   refine ls hF hW rfl ((y_move hF rfl).q) (fun a w hF hW => ?_)
   obtain ⟨x17, h9, H⟩ := bindE H
   refine ls hF hW rfl (y_call (v := Value.string (bs x17)) hF H19 rfl (fun w hW => act_Code_c any w (v1) p1 _ h9 (((rdc_ro h_v1) : Rdc _ _ _ _ _ _) w hW).nx)) (fun a w hF hW => ?_)
   refine l_callG (Ml := []) (Zl := []) (M := [(b2, [.string (bs x4), .int .i64 x5, .int .i64 x6]), (b1, [.string (bs x7), .int .i64 x8])]) (Z := []) (β := Nat) (rv := fun x => .pointer (some ⟨x, 0, none⟩)) (MM := fun x => [(x, [.string (bs ((octet_Open x17).1)), .int .i64 ((octet_Open x17).2)])]) (ZZ := fun x => []) hF hW H24 rfl rfl (fun hL => octet_Open_c _ w x17 _ rfl) (fun x a w hF hW => ?_)
   obtain ⟨b3, rfl⟩ : ∃ y, y = x := ⟨x, rfl⟩
   have hW : Stw ⟨Y, [], w0⟩ [(b3, [.string (bs ((octet_Open x17).1)), .int .i64 ((octet_Open x17).2)]), (b2, [.string (bs x4), .int .i64 x5, .int .i64 x6]), (b1, [.string (bs x7), .int .i64 x8])] [] w := hW
   refine ls hF hW rfl ((y_assign hF rfl).q) (fun a w hF hW => ?_)
   refine ls_nil (c_then ?_)
   obtain ⟨o4, G4, K4⟩ := bindE H
   refine c_seqJ (fun a w => ∃ x18 : Bool, ∃ x19 : List UInt8, ∃ x20 : Int, some ((x18, x19, x20)) = some o4 ∧ Fr 67 [] [(6, .bool x18)] a ∧ Stw ⟨Y, [], w0⟩ [(b3, [.string (bs x19), .int .i64 x20]), (b2, [.string (bs x4), .int .i64 x5, .int .i64 x6]), (b1, [.string (bs x7), .int .i64 x8])] [] w) ?_ ?_
   ·
    have H := G4
    clear G4 K4
    refine reg_list ?_
    iterate 2 refine ls hF hW rfl ((y_move hF rfl).q) (fun a w hF hW => ?_)
    obtain ⟨x21, h10, H⟩ := bindE H
    refine l_callG (Ml := [(b3, [.string (bs ((octet_Open x17).1)), .int .i64 ((octet_Open x17).2)])]) (Zl := []) (M := [(b2, [.string (bs x4), .int .i64 x5, .int .i64 x6]), (b1, [.string (bs x7), .int .i64 x8])]) (Z := []) (β := Value) (rv := fun x => x) (MM := fun x => [(b3, [.string (bs x21.2.1), .int .i64 x21.2.2])]) (ZZ := fun x => [row x 27 R27 x21.1]) hF hW H25 rfl rfl (fun hL => act_Read_c _ _ w b3 (octet_Open x17) p2 _ h10 hL) (fun x a w hF hW => ?_)
    obtain ⟨v4, rfl⟩ : ∃ y, y = x := ⟨x, rfl⟩
    have hW : Stw ⟨Y, [], w0⟩ [(b3, [.string (bs x21.2.1), .int .i64 x21.2.2]), (b2, [.string (bs x4), .int .i64 x5, .int .i64 x6]), (b1, [.string (bs x7), .int .i64 x8])] [row v4 27 R27 x21.1] w := hW
    refine ls hF hW rfl ((y_move hF rfl).q) (fun a w hF hW => ?_)
    obtain ⟨x22, h11, H⟩ := bindE H
    refine ls hF hW rfl (y_call (v := Value.bool x22) hF H23 rfl (fun w hW => act_Same_c any w (v4) (v1) x21.1 p1 _ h11 (((rdc_row 0 rfl) : Rdc _ _ _ _ _ _) w hW).nx (((rdc_ro h_v1) : Rdc _ _ _ _ _ _) w hW).nx)) (fun a w hF hW => ?_)
    refine ls hF hW rfl ((y_move hF rfl).q) (fun a w hF hW => ?_)
    rcases Bool.eq_false_or_eq_true x22 with hb | hb
    ·
     have H := iteT hb H
     rw [hb] at hF
     clear hb
     refine ls_w hF hW (wanted_y hF rfl rfl rfl rfl) rfl (Nat.le_of_ble_eq_true rfl) ((y_move hF rfl).q) (fun a w hF hW => ?_)
     refine ls_g (wanted_y hF rfl rfl rfl rfl) ?_
     obtain ⟨x23, h12, H⟩ := bindE H
     refine l_callG (Ml := [(b3, [.string (bs x21.2.1), .int .i64 x21.2.2])]) (Zl := []) (M := [(b2, [.string (bs x4), .int .i64 x5, .int .i64 x6]), (b1, [.string (bs x7), .int .i64 x8])]) (Z := [row v4 27 R27 x21.1]) (β := Unit) (rv := fun x => .int .i64 x23.1) (MM := fun x => [(b3, [.string (bs x23.2.1), .int .i64 x23.2.2])]) (ZZ := fun x => []) hF hW H29 rfl rfl (fun hL => octet_Reader_End_c _ _ w b3 x21.2 _ h12 hL) (fun x a w hF hW => ?_)
     have hW : Stw ⟨Y, [], w0⟩ [(b3, [.string (bs x23.2.1), .int .i64 x23.2.2]), (b2, [.string (bs x4), .int .i64 x5, .int .i64 x6]), (b1, [.string (bs x7), .int .i64 x8])] [row v4 27 R27 x21.1] w := hW
     refine ls_w hF hW (wanted_y hF rfl rfl rfl rfl) rfl (Nat.le_of_ble_eq_true rfl) ((y_eql hF rfl rfl).q) (fun a w hF hW => ?_)
     refine ls hF hW rfl ((y_pick_t hF rfl rfl rfl).q) (fun a w hF hW => ?_)
     refine ls hF hW rfl ((y_move hF rfl).q) (fun a w hF hW => ?_)
     rcases Bool.eq_false_or_eq_true (decide (x23.1 = 0)) with hb | hb
     ·
      have H := iteT (of_decide_eq_true hb) H
      rw [hb] at hF
      clear hb
      refine ls_g (wanted_y hF rfl rfl rfl rfl) ?_
      obtain ⟨x24, h13, H⟩ := bindE H
      refine ls hF hW rfl (y_call (v := Value.bool x24) hF H7 rfl (fun w hW => L09_awake_c any w _ h13 (hG.go0 hW))) (fun a w hF hW => ?_)
      refine ls hF hW rfl ((y_pick_t hF rfl rfl rfl).q) (fun a w hF hW => ?_)
      refine ls hF hW rfl ((y_assign hF rfl).q) (fun a w hF hW => ?_)
      refine ls_nil (c_then ?_)
      have hW := hW.frontM (i := 2) rfl rfl
      have hW := hW.frontM (i := 2) rfl rfl
      have hW := hW.frontM (i := 2) rfl rfl
      have hW := hW.sub (M' := [(b3, [.string (bs x23.2.1), .int .i64 x23.2.2]), (b2, [.string (bs x4), .int .i64 x5, .int .i64 x6]), (b1, [.string (bs x7), .int .i64 x8])]) (Z' := []) (List.Sublist.refl _) (List.nil_sublist _)
      exact ⟨_, _, _, H, hF.re ⟨rfl, trivial⟩, hW⟩
     ·
      have H := iteF (of_decide_eq_false hb) H
      rw [hb] at hF
      clear hb
      refine lsn hF rfl rfl rfl rfl rfl rfl rfl (fun a hF => ?_)
      refine ls hF hW rfl ((y_pick_f hF rfl rfl rfl).q) (fun a w hF hW => ?_)
      refine ls hF hW rfl ((y_assign hF rfl).q) (fun a w hF hW => ?_)
      refine ls_nil (c_then ?_)
      have hW := hW.frontM (i := 2) rfl rfl
      have hW := hW.frontM (i := 2) rfl rfl
      have hW := hW.frontM (i := 2) rfl rfl
      have hW := hW.sub (M' := [(b3, [.string (bs x23.2.1), .int .i64 x23.2.2]), (b2, [.string (bs x4), .int .i64 x5, .int .i64 x6]), (b1, [.string (bs x7), .int .i64 x8])]) (Z' := []) (List.Sublist.refl _) (List.nil_sublist _)
      exact ⟨_, _, _, H, hF.re ⟨rfl, trivial⟩, hW⟩
    ·
     have H := iteF (by rw [hb]; decide) H
     rw [hb] at hF
     clear hb
     iterate 3 refine lsn hF rfl rfl rfl rfl rfl rfl rfl (fun a hF => ?_)
     refine ls hF hW rfl ((y_pick_f hF rfl rfl rfl).q) (fun a w hF hW => ?_)
     refine ls hF hW rfl ((y_move hF rfl).q) (fun a w hF hW => ?_)
     refine lsn hF rfl rfl rfl rfl rfl rfl rfl (fun a hF => ?_)
     refine ls hF hW rfl ((y_pick_f hF rfl rfl rfl).q) (fun a w hF hW => ?_)
     refine ls hF hW rfl ((y_assign hF rfl).q) (fun a w hF hW => ?_)
     refine ls_nil (c_then ?_)
     have hW := hW.frontM (i := 2) rfl rfl
     have hW := hW.frontM (i := 2) rfl rfl
     have hW := hW.frontM (i := 2) rfl rfl
     have hW := hW.sub (M' := [(b3, [.string (bs x21.2.1), .int .i64 x21.2.2]), (b2, [.string (bs x4), .int .i64 x5, .int .i64 x6]), (b1, [.string (bs x7), .int .i64 x8])]) (Z' := []) (List.Sublist.refl _) (List.nil_sublist _)
     exact ⟨_, _, _, H, hF.re ⟨rfl, trivial⟩, hW⟩
   rintro a w ⟨x18, x19, x20, hj, hF, hW⟩
   have hj := Option.some.inj hj
   subst hj
   have H := K4
   clear G4 K4
   refine wr_ret ?_
   have H := Option.some.inj H
   subst H
   refine post1 (.inl rfl) hF hW rfl (rv_tmp hF rfl) ?_
   exact ⟨rfl, hW.done⟩

end Go.Proofs.YtefiglmpdajonaaDoor
