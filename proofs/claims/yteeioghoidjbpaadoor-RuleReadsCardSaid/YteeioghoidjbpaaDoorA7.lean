/- The functions of layer 10, lifted. Conditions: none. -/
import Derived.Test.YteeioghoidjbpaaDoorA6
namespace Go.Proofs.YteeioghoidjbpaaDoor
open Go Go.RowKit
set_option linter.unusedVariables false
set_option linter.unusedSimpArgs false
set_option maxRecDepth 20000
theorem H80 : Has Tryd.prog 80 := ⟨fun args w => run_callFunc_body Tryd.func80 rfl (by decide) args w⟩
noncomputable def r09_Read_l1 (p1 : Int) (x1 : Int × (List UInt8 × Int × Int)) : ((List (Int × Int × Int)) × Int × List UInt8 × Int × Int) → Option (((List (Int × Int × Int)) × Int × List UInt8 × Int × Int) ⊕ ((List (Int × Int × Int)) × List UInt8 × Int × Int))
  | (x6, x7, x8, x9, x10) => (if x7 < x1.1 then (r04_Reader_Num (x8, x9, x10) 1).bind fun x11 => (r04_Reader_Num x11.2 1).bind fun x12 => (r04_Reader_Num x12.2 1).bind fun x13 => (if (!(r09_One (x11.1, x12.1, x13.1) p1)) = true then some ((r04_Reader_Wrong x13.2 2).1, (r04_Reader_Wrong x13.2 2).2.1, (r04_Reader_Wrong x13.2 2).2.2) else some (x13.2.1, x13.2.2.1, x13.2.2.2)).bind fun (x14, x15, x16) => (app x6 ([(x11.1, x12.1, x13.1)] : List (Int × Int × Int))).bind fun x17 => some (.inl (x17, w64 (x7 + 1), x14, x15, x16)) else some (.inr (x6, x8, x9, x10)))
noncomputable def r09_Read (p0 : List UInt8 × Int × Int) (p1 : Int) : Option ((List (Int × Int × Int)) × (List UInt8 × Int × Int)) := (r04_Reader_Count p0 16).bind fun x1 => (loopW (r09_Read_l1 p1 x1) ([], 0, x1.2.1, x1.2.2.1, x1.2.2.2)).bind fun (x2, x3, x4, x5) => (if x5 ≠ 0 then some (([] : List (Int × Int × Int)), (x3, x4, x5)) else some (x2, (x3, x4, x5)))
theorem r09_Read_c (Y : Nat → Prop) (X : List Nat) (w0 : World) (q_p0 : Nat) (p0 : List UInt8 × Int × Int) (p1 : Int) (r : (List (Int × Int × Int)) × (List UInt8 × Int × Int)) (H : r09_Read p0 p1 = some r) (hL : Stw ⟨Y, X, w0⟩ [(q_p0, [.string (bs p0.1), .int .i64 p0.2.1, .int .i64 p0.2.2])] [] w0) :
    Calls Tryd.prog 60 #[.pointer (some ⟨q_p0, 0, none⟩), .int .i64 p1] w0 fun e w' => ∃ x : Value, e = .returned (x) ∧ Stw ⟨Y, X, w0⟩ [(q_p0, [.string (bs r.2.1), .int .i64 r.2.2.1, .int .i64 r.2.2.2])] [row (x) 60 R60 r.1] w' := by
  refine enter Tryd.func60 rfl Tryd.ntmps60 rfl (fun a hF => ?_)
  have hW := hL
  unfold r09_Read at H
  refine c_seq ?_
  refine reg_list ?_
  refine ls hF hW rfl ((y_assign hF rfl).q) (fun a w hF hW => ?_)
  refine ls_nil ?_
  refine c_then ?_
  refine c_seq ?_
  refine reg_list ?_
  refine ls hF hW rfl ((y_move hF rfl).q) (fun a w hF hW => ?_)
  obtain ⟨x1, h1, H⟩ := bindE H
  refine l_callG (Ml := [(q_p0, [.string (bs p0.1), .int .i64 p0.2.1, .int .i64 p0.2.2])]) (Zl := []) (M := []) (Z := []) (β := Unit) (rv := fun x => .int .i64 x1.1) (MM := fun x => [(q_p0, [.string (bs x1.2.1), .int .i64 x1.2.2.1, .int .i64 x1.2.2.2])]) (ZZ := fun x => []) hF hW H80 rfl rfl (fun hL => r04_Reader_Count_c _ _ w q_p0 p0 16 _ h1 hL) (fun x a w hF hW => ?_)
  have hW : Stw ⟨Y, X, w0⟩ [(q_p0, [.string (bs x1.2.1), .int .i64 x1.2.2.1, .int .i64 x1.2.2.2])] [] w := hW
  refine ls hF hW rfl ((y_assign hF rfl).q) (fun a w hF hW => ?_)
  refine ls_nil ?_
  refine c_then ?_
  refine c_seq ?_
  refine reg_list ?_
  refine ls hF hW rfl ((y_assign hF rfl).q) (fun a w hF hW => ?_)
  refine ls_nil ?_
  refine c_then ?_
  obtain ⟨o1, G1, K1⟩ := bindE H
  refine c_seqJ (fun a w => ∃ x2 : List (Int × Int × Int), ∃ x3 : List UInt8, ∃ x4 : Int, ∃ x5 : Int, ∃ v1 : Value, some ((x2, x3, x4, x5)) = some o1 ∧ Fr 42 [] [(0, .pointer (some ⟨q_p0, 0, none⟩)), (4, .slice none 0 0), (6, v1)] a ∧ Stw ⟨Y, X, w0⟩ [(q_p0, [.string (bs x3), .int .i64 x4, .int .i64 x5])] [row v1 60 R60 x2] w) ?_ ?_
  ·
    have H := G1
    clear G1 K1
    refine c_seq ?_
    refine reg_list ?_
    refine ls hF hW rfl ((y_assign hF rfl).q) (fun a w hF hW => ?_)
    refine ls_nil ?_
    refine c_then ?_
    refine wp_block ?_
    have hW := hW.nilRow 60 R60
    refine c_loopW H (fun s a w => ∃ v2 : Value, Fr 42 [] [(0, .pointer (some ⟨q_p0, 0, none⟩)), (1, .int .i64 p1), (4, .slice none 0 0), (5, .int .i64 x1.1), (6, v2), (7, .int .i64 s.2.1)] a ∧ Stw ⟨Y, X, w0⟩ [(q_p0, [.string (bs s.2.2.1), .int .i64 s.2.2.2.1, .int .i64 s.2.2.2.2])] [row v2 60 R60 s.1] w) ⟨(Value.slice none 0 0), hF.re ⟨rfl, rfl, rfl, rfl, rfl, rfl, trivial⟩, hW⟩ (fun s o a w H L2 hR => ?_)
    obtain ⟨x6, x7, x8, x9, x10⟩ := s
    obtain ⟨v2, hF, hW⟩ := hR
    have hF : Fr 42 [] [(0, .pointer (some ⟨q_p0, 0, none⟩)), (1, .int .i64 p1), (4, .slice none 0 0), (5, .int .i64 x1.1), (6, v2), (7, .int .i64 x7)] a := hF
    have hW : Stw ⟨Y, X, w0⟩ [(q_p0, [.string (bs x8), .int .i64 x9, .int .i64 x10])] [row v2 60 R60 x6] w := hW
    rw [r09_Read_l1] at H
    refine c_seq ?_
    refine c_seq ?_
    refine reg_list ?_
    refine ls hF hW rfl ((y_move hF rfl).q) (fun a w hF hW => ?_)
    refine ls hF hW rfl ((y_move hF rfl).q) (fun a w hF hW => ?_)
    refine ls hF hW rfl ((y_lss hF rfl rfl).q) (fun a w hF hW => ?_)
    refine ls_nil ?_
    refine c_then ?_
    refine c_cond hF rfl (fun hb => ?_) (fun hb => ?_)
    ·
      have H := iteT (of_decide_eq_true hb) H
      rw [hb] at hF
      clear hb
      refine wp_skip ?_
      refine c_then ?_
      refine c_seq ?_
      refine wp_block ?_
      refine c_seq ?_
      refine reg_list ?_
      refine ls hF hW rfl ((y_build (v := Value.agg #[.int .i64 0, .int .i64 0, .int .i64 0]) B60 hF rfl rfl rfl).q) (fun a w hF hW => ?_)
      refine l_alloc (cs := [.int .i64 0, .int .i64 0, .int .i64 0]) hF hW rfl Z60 rfl (fun b1 a w hF hW => ?_)
      refine l_store (vs := [.int .i64 0, .int .i64 0, .int .i64 0]) (M' := [(b1, [.int .i64 0, .int .i64 0, .int .i64 0]), (q_p0, [.string (bs x8), .int .i64 x9, .int .i64 x10])]) 0 hF hW rfl rfl rfl T60 rfl rfl rfl rfl rfl (fun w hW => ?_)
      refine ls_nil ?_
      refine c_then ?_
      refine c_seq ?_
      refine reg_list ?_
      refine ls hF hW rfl ((y_move hF rfl).q) (fun a w hF hW => ?_)
      obtain ⟨x11, h2, H⟩ := bindE H
      have hW := hW.frontM (i := 1) rfl rfl
      refine l_callG (Ml := [(q_p0, [.string (bs x8), .int .i64 x9, .int .i64 x10])]) (Zl := []) (M := [(b1, [.int .i64 0, .int .i64 0, .int .i64 0])]) (Z := [row v2 60 R60 x6]) (β := Unit) (rv := fun x => .int .i64 x11.1) (MM := fun x => [(q_p0, [.string (bs x11.2.1), .int .i64 x11.2.2.1, .int .i64 x11.2.2.2])]) (ZZ := fun x => []) hF hW H58 rfl rfl (fun hL => r04_Reader_Num_c _ _ w q_p0 (x8, x9, x10) 1 _ h2 hL) (fun x a w hF hW => ?_)
      have hW : Stw ⟨Y, X, w0⟩ [(q_p0, [.string (bs x11.2.1), .int .i64 x11.2.2.1, .int .i64 x11.2.2.2]), (b1, [.int .i64 0, .int .i64 0, .int .i64 0])] [row v2 60 R60 x6] w := hW
      refine ls hF hW rfl ((y_fieldAddr Tryd.underlying60 rfl rfl rfl T3 hF rfl 0 rfl).q) (fun a w hF hW => ?_)
      refine l_store (vs := [.int .i64 x11.1]) (M' := [(q_p0, [.string (bs x11.2.1), .int .i64 x11.2.2.1, .int .i64 x11.2.2.2]), (b1, [.int .i64 x11.1, .int .i64 0, .int .i64 0])]) 1 hF hW rfl rfl rfl T3 rfl rfl rfl rfl rfl (fun w hW => ?_)
      refine ls_nil ?_
      refine c_then ?_
      refine c_seq ?_
      refine reg_list ?_
      refine ls hF hW rfl ((y_move hF rfl).q) (fun a w hF hW => ?_)
      obtain ⟨x12, h3, H⟩ := bindE H
      refine l_callG (Ml := [(q_p0, [.string (bs x11.2.1), .int .i64 x11.2.2.1, .int .i64 x11.2.2.2])]) (Zl := []) (M := [(b1, [.int .i64 x11.1, .int .i64 0, .int .i64 0])]) (Z := [row v2 60 R60 x6]) (β := Unit) (rv := fun x => .int .i64 x12.1) (MM := fun x => [(q_p0, [.string (bs x12.2.1), .int .i64 x12.2.2.1, .int .i64 x12.2.2.2])]) (ZZ := fun x => []) hF hW H58 rfl rfl (fun hL => r04_Reader_Num_c _ _ w q_p0 x11.2 1 _ h3 hL) (fun x a w hF hW => ?_)
      have hW : Stw ⟨Y, X, w0⟩ [(q_p0, [.string (bs x12.2.1), .int .i64 x12.2.2.1, .int .i64 x12.2.2.2]), (b1, [.int .i64 x11.1, .int .i64 0, .int .i64 0])] [row v2 60 R60 x6] w := hW
      refine ls hF hW rfl ((y_fieldAddr Tryd.underlying60 rfl rfl rfl T3 hF rfl 1 rfl).q) (fun a w hF hW => ?_)
      refine l_store (vs := [.int .i64 x12.1]) (M' := [(q_p0, [.string (bs x12.2.1), .int .i64 x12.2.2.1, .int .i64 x12.2.2.2]), (b1, [.int .i64 x11.1, .int .i64 x12.1, .int .i64 0])]) 1 hF hW rfl rfl rfl T3 rfl rfl rfl rfl rfl (fun w hW => ?_)
      refine ls_nil ?_
      refine c_then ?_
      refine c_seq ?_
      refine reg_list ?_
      refine ls hF hW rfl ((y_move hF rfl).q) (fun a w hF hW => ?_)
      obtain ⟨x13, h4, H⟩ := bindE H
      refine l_callG (Ml := [(q_p0, [.string (bs x12.2.1), .int .i64 x12.2.2.1, .int .i64 x12.2.2.2])]) (Zl := []) (M := [(b1, [.int .i64 x11.1, .int .i64 x12.1, .int .i64 0])]) (Z := [row v2 60 R60 x6]) (β := Unit) (rv := fun x => .int .i64 x13.1) (MM := fun x => [(q_p0, [.string (bs x13.2.1), .int .i64 x13.2.2.1, .int .i64 x13.2.2.2])]) (ZZ := fun x => []) hF hW H58 rfl rfl (fun hL => r04_Reader_Num_c _ _ w q_p0 x12.2 1 _ h4 hL) (fun x a w hF hW => ?_)
      have hW : Stw ⟨Y, X, w0⟩ [(q_p0, [.string (bs x13.2.1), .int .i64 x13.2.2.1, .int .i64 x13.2.2.2]), (b1, [.int .i64 x11.1, .int .i64 x12.1, .int .i64 0])] [row v2 60 R60 x6] w := hW
      refine ls hF hW rfl ((y_fieldAddr Tryd.underlying60 rfl rfl rfl T3 hF rfl 2 rfl).q) (fun a w hF hW => ?_)
      refine l_store (vs := [.int .i64 x13.1]) (M' := [(q_p0, [.string (bs x13.2.1), .int .i64 x13.2.2.1, .int .i64 x13.2.2.2]), (b1, [.int .i64 x11.1, .int .i64 x12.1, .int .i64 x13.1])]) 1 hF hW rfl rfl rfl T3 rfl rfl rfl rfl rfl (fun w hW => ?_)
      refine ls_nil ?_
      refine c_then ?_
      obtain ⟨o3, G3, K3⟩ := bindE H
      refine c_seqJ (fun a w => ∃ x14 : List UInt8, ∃ x15 : Int, ∃ x16 : Int, some ((x14, x15, x16)) = some o3 ∧ Fr 42 [] [(0, .pointer (some ⟨q_p0, 0, none⟩)), (1, .int .i64 p1), (4, .slice none 0 0), (5, .int .i64 x1.1), (6, v2), (7, .int .i64 x7), (8, .pointer (some ⟨b1, 0, none⟩))] a ∧ Stw ⟨Y, X, w0⟩ [(q_p0, [.string (bs x14), .int .i64 x15, .int .i64 x16]), (b1, [.int .i64 x11.1, .int .i64 x12.1, .int .i64 x13.1])] [row v2 60 R60 x6] w) ?_ ?_
      ·
        have H := G3
        clear G3 K3
        refine c_seq ?_
        refine reg_list ?_
        refine ls hF hW rfl ((y_load (v := Value.agg #[.int .i64 x11.1, .int .i64 x12.1, .int .i64 x13.1]) 1 hF rfl rfl T60 rfl).q) (fun a w hF hW => ?_)
        refine ls hF hW rfl ((y_move hF rfl).q) (fun a w hF hW => ?_)
        refine ls hF hW rfl (y_call (v := Value.bool (r09_One (x11.1, x12.1, x13.1) p1)) hF H66 rfl (fun w hW => r09_One_c any w (x11.1, x12.1, x13.1) p1 _ rfl)) (fun a w hF hW => ?_)
        refine ls hF hW rfl ((y_not hF rfl).q) (fun a w hF hW => ?_)
        refine ls_nil ?_
        refine c_then ?_
        refine c_cond hF rfl (fun hb => ?_) (fun hb => ?_)
        ·
          have H := iteT hb H
          rw [hb] at hF
          clear hb
          refine reg_list ?_
          refine ls hF hW rfl ((y_move hF rfl).q) (fun a w hF hW => ?_)
          refine l_callG (Ml := [(q_p0, [.string (bs x13.2.1), .int .i64 x13.2.2.1, .int .i64 x13.2.2.2])]) (Zl := []) (M := [(b1, [.int .i64 x11.1, .int .i64 x12.1, .int .i64 x13.1])]) (Z := [row v2 60 R60 x6]) (β := Unit) (rv := fun x => .tuple #[]) (MM := fun x => [(q_p0, [.string (bs ((r04_Reader_Wrong x13.2 2).1)), .int .i64 ((r04_Reader_Wrong x13.2 2).2.1), .int .i64 ((r04_Reader_Wrong x13.2 2).2.2)])]) (ZZ := fun x => []) hF hW H78 rfl rfl (fun hL => r04_Reader_Wrong_c _ _ w q_p0 x13.2 2 _ rfl hL) (fun x a w hF hW => ?_)
          have hW : Stw ⟨Y, X, w0⟩ [(q_p0, [.string (bs ((r04_Reader_Wrong x13.2 2).1)), .int .i64 ((r04_Reader_Wrong x13.2 2).2.1), .int .i64 ((r04_Reader_Wrong x13.2 2).2.2)]), (b1, [.int .i64 x11.1, .int .i64 x12.1, .int .i64 x13.1])] [row v2 60 R60 x6] w := hW
          refine ls_nil ?_
          refine c_then ?_
          have hW := hW.frontM (i := 1) rfl rfl
          have hW := hW.frontM (i := 1) rfl rfl
          exact ⟨_, _, _, H, hF.re ⟨rfl, rfl, rfl, rfl, rfl, rfl, rfl, trivial⟩, hW⟩
        ·
          have H := iteF (by rw [hb]; decide) H
          rw [hb] at hF
          clear hb
          refine wp_skip ?_
          refine c_then ?_
          have hW := hW.frontM (i := 1) rfl rfl
          have hW := hW.frontM (i := 1) rfl rfl
          exact ⟨_, _, _, H, hF.re ⟨rfl, rfl, rfl, rfl, rfl, rfl, rfl, trivial⟩, hW⟩
      rintro a w ⟨x14, x15, x16, hj, hF, hW⟩
      have hj := Option.some.inj hj
      subst hj
      have H := K3
      clear G3 K3
      refine reg_list ?_
      refine ls hF hW rfl ((y_move hF rfl).q) (fun a w hF hW => ?_)
      refine ls hF hW rfl ((y_load (v := Value.agg #[.int .i64 x11.1, .int .i64 x12.1, .int .i64 x13.1]) 1 hF rfl rfl T60 rfl).q) (fun a w hF hW => ?_)
      refine l_lit (z := Value.agg #[.int .i64 0, .int .i64 0, .int .i64 0]) (cs := [.int .i64 x11.1, .int .i64 x12.1, .int .i64 x13.1]) R60 ([(x11.1, x12.1, x13.1)] : List (Int × Int × Int)) hF hW rfl L25 Z60 rfl rfl rfl rfl rfl rfl (F60.repL _ _ ([(x11.1, x12.1, x13.1)] : List (Int × Int × Int))) (fun v3 a w hF hW => ?_)
      obtain ⟨x17, h5, H⟩ := bindE H
      refine l_append (r := R60) (i := 1) hF hW rfl L25 rfl rfl rfl rfl (src_row hW 0 rfl) h5 rfl (fun v4 a w hF hW => ?_)
      have hW : Stw ⟨Y, X, w0⟩ [(q_p0, [.string (bs x14), .int .i64 x15, .int .i64 x16]), (b1, [.int .i64 x11.1, .int .i64 x12.1, .int .i64 x13.1])] [row v4 60 R60 x17, row v3 60 R60 ([(x11.1, x12.1, x13.1)] : List (Int × Int × Int))] w := hW
      refine ls hF hW rfl ((y_assign hF rfl).q) (fun a w hF hW => ?_)
      refine ls_nil ?_
      refine b_normal ?_
      refine c_then ?_
      refine reg_list ?_
      refine ls hF hW rfl ((y_move hF rfl).q) (fun a w hF hW => ?_)
      refine ls hF hW rfl ((y_add hF rfl rfl rfl).q) (fun a w hF hW => ?_)
      refine ls hF hW rfl ((y_assign hF rfl).q) (fun a w hF hW => ?_)
      refine ls_nil ?_
      refine c_then ?_
      have hW := hW.sub (M' := [(q_p0, [.string (bs x14), .int .i64 x15, .int .i64 x16])]) (Z' := [row v4 60 R60 x17]) (List.Sublist.cons_cons _ (List.nil_sublist _)) (List.Sublist.cons_cons _ (List.nil_sublist _))
      exact ⟨_, H, (v4), hF.re ⟨rfl, rfl, rfl, rfl, rfl, rfl, trivial⟩, hW⟩
    ·
      have H := iteF (of_decide_eq_false hb) H
      rw [hb] at hF
      clear hb
      refine wp_exit ?_
      refine e_then ?_
      refine e_then ?_
      refine e_block ?_
      refine c_then ?_
      have H := L2 _ H
      exact ⟨_, _, _, _, (v2), H, hF.re ⟨rfl, rfl, rfl, trivial⟩, hW⟩
  rintro a w ⟨x2, x3, x4, x5, v1, hj, hF, hW⟩
  have hj := Option.some.inj hj
  subst hj
  have H := K1
  clear G1 K1
  refine c_seq ?_
  refine c_seq ?_
  refine reg_list ?_
  refine ls hF hW rfl ((y_move hF rfl).q) (fun a w hF hW => ?_)
  refine ls hF hW rfl ((y_nilCheck hF rfl).q) (fun a w hF hW => ?_)
  refine ls hF hW rfl ((y_fieldAddr Tryd.underlying41 rfl rfl rfl T3 hF rfl 2 rfl).q) (fun a w hF hW => ?_)
  refine ls hF hW rfl ((y_load (v := Value.int .i64 x5) 0 hF rfl rfl T3 rfl).q) (fun a w hF hW => ?_)
  refine ls hF hW rfl ((y_neq hF rfl rfl).q) (fun a w hF hW => ?_)
  refine ls_nil ?_
  refine c_then ?_
  refine c_cond hF rfl (fun hb => ?_) (fun hb => ?_)
  ·
    have H := iteT (of_decide_eq_true hb) H
    rw [hb] at hF
    clear hb
    refine c_seq ?_
    refine reg_list ?_
    refine ls hF hW rfl ((y_assign hF rfl).q) (fun a w hF hW => ?_)
    refine ls_nil ?_
    refine c_then ?_
    refine wp_ret ?_
    refine r_then ?_
    have H := Option.some.inj H
    subst H
    refine post1 (.inl rfl) hF hW rfl (rv_tmp hF rfl) ?_
    have hW := hW.nilRow 60 R60
    have hW := hW.sub (M' := [(q_p0, [.string (bs x3), .int .i64 x4, .int .i64 x5])]) (Z' := [row (Value.slice none 0 0) 60 R60 ([])]) (List.Sublist.refl _) (List.Sublist.cons_cons _ (List.nil_sublist _))
    exact ⟨(Value.slice none 0 0), rfl, hW⟩
  ·
    have H := iteF (of_decide_eq_false hb) H
    rw [hb] at hF
    clear hb
    refine wp_skip ?_
    refine c_then ?_
    refine c_seq ?_
    refine reg_list ?_
    refine ls hF hW rfl ((y_move hF rfl).q) (fun a w hF hW => ?_)
    refine ls hF hW rfl ((y_assign hF rfl).q) (fun a w hF hW => ?_)
    refine ls_nil ?_
    refine c_then ?_
    refine wp_ret ?_
    have H := Option.some.inj H
    subst H
    refine post1 (.inl rfl) hF hW rfl (rv_tmp hF rfl) ?_
    exact ⟨(v1), rfl, hW⟩

theorem H60 : Has Tryd.prog 60 := ⟨fun args w => run_callFunc_body Tryd.func60 rfl (by decide) args w⟩
noncomputable def r10_Read (p0 : List UInt8 × Int × Int) (p1 : Int) : Option ((Int × (Int × (Int × Int × Int × Int) × (Int × Int × Int × Int)) × (List (Int × Int × Int))) × (List UInt8 × Int × Int)) := (r04_Reader_Num p0 2).bind fun x1 => (r08_Read x1.2).bind fun x2 => (r09_Read x2.2 p1).bind fun x3 => (if x3.2.2.2 ≠ 0 then some ((0, (0, (0, 0, 0, 0), (0, 0, 0, 0)), ([] : List (Int × Int × Int))), x3.2) else some ((x1.1, x2.1, x3.1), x3.2))
theorem r10_Read_c (Y : Nat → Prop) (X : List Nat) (w0 : World) (q_p0 : Nat) (p0 : List UInt8 × Int × Int) (p1 : Int) (r : (Int × (Int × (Int × Int × Int × Int) × (Int × Int × Int × Int)) × (List (Int × Int × Int))) × (List UInt8 × Int × Int)) (H : r10_Read p0 p1 = some r) (hL : Stw ⟨Y, X, w0⟩ [(q_p0, [.string (bs p0.1), .int .i64 p0.2.1, .int .i64 p0.2.2])] [] w0) :
    Calls Tryd.prog 26 #[.pointer (some ⟨q_p0, 0, none⟩), .int .i64 p1] w0 fun e w' => ∃ x : Value, e = .returned (.agg #[.int .i64 r.1.1, .int .i64 r.1.2.1.1, .int .i64 r.1.2.1.2.1.1, .int .i64 r.1.2.1.2.1.2.1, .int .i64 r.1.2.1.2.1.2.2.1, .int .i64 r.1.2.1.2.1.2.2.2, .int .i64 r.1.2.1.2.2.1, .int .i64 r.1.2.1.2.2.2.1, .int .i64 r.1.2.1.2.2.2.2.1, .int .i64 r.1.2.1.2.2.2.2.2, x]) ∧ Stw ⟨Y, X, w0⟩ [(q_p0, [.string (bs r.2.1), .int .i64 r.2.2.1, .int .i64 r.2.2.2])] [row (x) 60 R60 r.1.2.2] w' := by
  refine enter Tryd.func26 rfl Tryd.ntmps26 rfl (fun a hF => ?_)
  have hW := hL
  unfold r10_Read at H
  refine c_seq ?_
  refine reg_list ?_
  refine l_alloc (cs := [.int .i64 0, .int .i64 0, .int .i64 0, .int .i64 0, .int .i64 0, .int .i64 0, .int .i64 0, .int .i64 0, .int .i64 0, .int .i64 0, .slice none 0 0]) hF hW rfl Z27 rfl (fun b1 a w hF hW => ?_)
  refine ls_nil ?_
  refine c_then ?_
  refine c_seq ?_
  refine reg_list ?_
  refine ls hF hW rfl ((y_build (v := Value.agg #[.int .i64 0, .int .i64 0, .int .i64 0, .int .i64 0, .int .i64 0, .int .i64 0, .int .i64 0, .int .i64 0, .int .i64 0, .int .i64 0, .slice none 0 0]) B27 hF rfl rfl rfl).q) (fun a w hF hW => ?_)
  refine l_alloc (cs := [.int .i64 0, .int .i64 0, .int .i64 0, .int .i64 0, .int .i64 0, .int .i64 0, .int .i64 0, .int .i64 0, .int .i64 0, .int .i64 0, .slice none 0 0]) hF hW rfl Z27 rfl (fun b2 a w hF hW => ?_)
  refine l_store (vs := [.int .i64 0, .int .i64 0, .int .i64 0, .int .i64 0, .int .i64 0, .int .i64 0, .int .i64 0, .int .i64 0, .int .i64 0, .int .i64 0, .slice none 0 0]) (M' := [(b2, [.int .i64 0, .int .i64 0, .int .i64 0, .int .i64 0, .int .i64 0, .int .i64 0, .int .i64 0, .int .i64 0, .int .i64 0, .int .i64 0, .slice none 0 0]), (b1, [.int .i64 0, .int .i64 0, .int .i64 0, .int .i64 0, .int .i64 0, .int .i64 0, .int .i64 0, .int .i64 0, .int .i64 0, .int .i64 0, .slice none 0 0]), (q_p0, [.string (bs p0.1), .int .i64 p0.2.1, .int .i64 p0.2.2])]) 0 hF hW rfl rfl rfl T27 rfl rfl rfl rfl rfl (fun w hW => ?_)
  refine ls_nil ?_
  refine c_then ?_
  refine c_seq ?_
  refine reg_list ?_
  refine ls hF hW rfl ((y_move hF rfl).q) (fun a w hF hW => ?_)
  obtain ⟨x1, h1, H⟩ := bindE H
  have hW := hW.frontM (i := 2) rfl rfl
  refine l_callG (Ml := [(q_p0, [.string (bs p0.1), .int .i64 p0.2.1, .int .i64 p0.2.2])]) (Zl := []) (M := [(b2, [.int .i64 0, .int .i64 0, .int .i64 0, .int .i64 0, .int .i64 0, .int .i64 0, .int .i64 0, .int .i64 0, .int .i64 0, .int .i64 0, .slice none 0 0]), (b1, [.int .i64 0, .int .i64 0, .int .i64 0, .int .i64 0, .int .i64 0, .int .i64 0, .int .i64 0, .int .i64 0, .int .i64 0, .int .i64 0, .slice none 0 0])]) (Z := []) (β := Unit) (rv := fun x => .int .i64 x1.1) (MM := fun x => [(q_p0, [.string (bs x1.2.1), .int .i64 x1.2.2.1, .int .i64 x1.2.2.2])]) (ZZ := fun x => []) hF hW H58 rfl rfl (fun hL => r04_Reader_Num_c _ _ w q_p0 p0 2 _ h1 hL) (fun x a w hF hW => ?_)
  have hW : Stw ⟨Y, X, w0⟩ [(q_p0, [.string (bs x1.2.1), .int .i64 x1.2.2.1, .int .i64 x1.2.2.2]), (b2, [.int .i64 0, .int .i64 0, .int .i64 0, .int .i64 0, .int .i64 0, .int .i64 0, .int .i64 0, .int .i64 0, .int .i64 0, .int .i64 0, .slice none 0 0]), (b1, [.int .i64 0, .int .i64 0, .int .i64 0, .int .i64 0, .int .i64 0, .int .i64 0, .int .i64 0, .int .i64 0, .int .i64 0, .int .i64 0, .slice none 0 0])] [] w := hW
  refine ls hF hW rfl ((y_fieldAddr Tryd.underlying27 rfl rfl rfl T3 hF rfl 0 rfl).q) (fun a w hF hW => ?_)
  refine l_store (vs := [.int .i64 x1.1]) (M' := [(q_p0, [.string (bs x1.2.1), .int .i64 x1.2.2.1, .int .i64 x1.2.2.2]), (b2, [.int .i64 x1.1, .int .i64 0, .int .i64 0, .int .i64 0, .int .i64 0, .int .i64 0, .int .i64 0, .int .i64 0, .int .i64 0, .int .i64 0, .slice none 0 0]), (b1, [.int .i64 0, .int .i64 0, .int .i64 0, .int .i64 0, .int .i64 0, .int .i64 0, .int .i64 0, .int .i64 0, .int .i64 0, .int .i64 0, .slice none 0 0])]) 1 hF hW rfl rfl rfl T3 rfl rfl rfl rfl rfl (fun w hW => ?_)
  refine ls_nil ?_
  refine c_then ?_
  refine c_seq ?_
  refine reg_list ?_
  refine ls hF hW rfl ((y_move hF rfl).q) (fun a w hF hW => ?_)
  obtain ⟨x2, h2, H⟩ := bindE H
  refine l_callG (Ml := [(q_p0, [.string (bs x1.2.1), .int .i64 x1.2.2.1, .int .i64 x1.2.2.2])]) (Zl := []) (M := [(b2, [.int .i64 x1.1, .int .i64 0, .int .i64 0, .int .i64 0, .int .i64 0, .int .i64 0, .int .i64 0, .int .i64 0, .int .i64 0, .int .i64 0, .slice none 0 0]), (b1, [.int .i64 0, .int .i64 0, .int .i64 0, .int .i64 0, .int .i64 0, .int .i64 0, .int .i64 0, .int .i64 0, .int .i64 0, .int .i64 0, .slice none 0 0])]) (Z := []) (β := Unit) (rv := fun x => .agg #[.int .i64 x2.1.1, .int .i64 x2.1.2.1.1, .int .i64 x2.1.2.1.2.1, .int .i64 x2.1.2.1.2.2.1, .int .i64 x2.1.2.1.2.2.2, .int .i64 x2.1.2.2.1, .int .i64 x2.1.2.2.2.1, .int .i64 x2.1.2.2.2.2.1, .int .i64 x2.1.2.2.2.2.2]) (MM := fun x => [(q_p0, [.string (bs x2.2.1), .int .i64 x2.2.2.1, .int .i64 x2.2.2.2])]) (ZZ := fun x => []) hF hW H59 rfl rfl (fun hL => r08_Read_c _ _ w q_p0 x1.2 _ h2 hL) (fun x a w hF hW => ?_)
  have hW : Stw ⟨Y, X, w0⟩ [(q_p0, [.string (bs x2.2.1), .int .i64 x2.2.2.1, .int .i64 x2.2.2.2]), (b2, [.int .i64 x1.1, .int .i64 0, .int .i64 0, .int .i64 0, .int .i64 0, .int .i64 0, .int .i64 0, .int .i64 0, .int .i64 0, .int .i64 0, .slice none 0 0]), (b1, [.int .i64 0, .int .i64 0, .int .i64 0, .int .i64 0, .int .i64 0, .int .i64 0, .int .i64 0, .int .i64 0, .int .i64 0, .int .i64 0, .slice none 0 0])] [] w := hW
  refine ls hF hW rfl ((y_fieldAddr Tryd.underlying27 rfl rfl rfl T24 hF rfl 1 rfl).q) (fun a w hF hW => ?_)
  refine l_store (vs := [.int .i64 x2.1.1, .int .i64 x2.1.2.1.1, .int .i64 x2.1.2.1.2.1, .int .i64 x2.1.2.1.2.2.1, .int .i64 x2.1.2.1.2.2.2, .int .i64 x2.1.2.2.1, .int .i64 x2.1.2.2.2.1, .int .i64 x2.1.2.2.2.2.1, .int .i64 x2.1.2.2.2.2.2]) (M' := [(q_p0, [.string (bs x2.2.1), .int .i64 x2.2.2.1, .int .i64 x2.2.2.2]), (b2, [.int .i64 x1.1, .int .i64 x2.1.1, .int .i64 x2.1.2.1.1, .int .i64 x2.1.2.1.2.1, .int .i64 x2.1.2.1.2.2.1, .int .i64 x2.1.2.1.2.2.2, .int .i64 x2.1.2.2.1, .int .i64 x2.1.2.2.2.1, .int .i64 x2.1.2.2.2.2.1, .int .i64 x2.1.2.2.2.2.2, .slice none 0 0]), (b1, [.int .i64 0, .int .i64 0, .int .i64 0, .int .i64 0, .int .i64 0, .int .i64 0, .int .i64 0, .int .i64 0, .int .i64 0, .int .i64 0, .slice none 0 0])]) 1 hF hW rfl rfl rfl T24 rfl rfl rfl rfl rfl (fun w hW => ?_)
  refine ls_nil ?_
  refine c_then ?_
  refine c_seq ?_
  refine reg_list ?_
  refine ls hF hW rfl ((y_move hF rfl).q) (fun a w hF hW => ?_)
  refine ls hF hW rfl ((y_move hF rfl).q) (fun a w hF hW => ?_)
  obtain ⟨x3, h3, H⟩ := bindE H
  refine l_callG (Ml := [(q_p0, [.string (bs x2.2.1), .int .i64 x2.2.2.1, .int .i64 x2.2.2.2])]) (Zl := []) (M := [(b2, [.int .i64 x1.1, .int .i64 x2.1.1, .int .i64 x2.1.2.1.1, .int .i64 x2.1.2.1.2.1, .int .i64 x2.1.2.1.2.2.1, .int .i64 x2.1.2.1.2.2.2, .int .i64 x2.1.2.2.1, .int .i64 x2.1.2.2.2.1, .int .i64 x2.1.2.2.2.2.1, .int .i64 x2.1.2.2.2.2.2, .slice none 0 0]), (b1, [.int .i64 0, .int .i64 0, .int .i64 0, .int .i64 0, .int .i64 0, .int .i64 0, .int .i64 0, .int .i64 0, .int .i64 0, .int .i64 0, .slice none 0 0])]) (Z := []) (β := Value) (rv := fun x => x) (MM := fun x => [(q_p0, [.string (bs x3.2.1), .int .i64 x3.2.2.1, .int .i64 x3.2.2.2])]) (ZZ := fun x => [row x 60 R60 x3.1]) hF hW H60 rfl rfl (fun hL => r09_Read_c _ _ w q_p0 x2.2 p1 _ h3 hL) (fun x a w hF hW => ?_)
  obtain ⟨v1, rfl⟩ : ∃ y, y = x := ⟨x, rfl⟩
  have hW : Stw ⟨Y, X, w0⟩ [(q_p0, [.string (bs x3.2.1), .int .i64 x3.2.2.1, .int .i64 x3.2.2.2]), (b2, [.int .i64 x1.1, .int .i64 x2.1.1, .int .i64 x2.1.2.1.1, .int .i64 x2.1.2.1.2.1, .int .i64 x2.1.2.1.2.2.1, .int .i64 x2.1.2.1.2.2.2, .int .i64 x2.1.2.2.1, .int .i64 x2.1.2.2.2.1, .int .i64 x2.1.2.2.2.2.1, .int .i64 x2.1.2.2.2.2.2, .slice none 0 0]), (b1, [.int .i64 0, .int .i64 0, .int .i64 0, .int .i64 0, .int .i64 0, .int .i64 0, .int .i64 0, .int .i64 0, .int .i64 0, .int .i64 0, .slice none 0 0])] [row v1 60 R60 x3.1] w := hW
  refine ls hF hW rfl ((y_fieldAddr Tryd.underlying27 rfl rfl rfl T25 hF rfl 10 rfl).q) (fun a w hF hW => ?_)
  refine l_store1 (M' := [(q_p0, [.string (bs x3.2.1), .int .i64 x3.2.2.1, .int .i64 x3.2.2.2]), (b2, [.int .i64 x1.1, .int .i64 x2.1.1, .int .i64 x2.1.2.1.1, .int .i64 x2.1.2.1.2.1, .int .i64 x2.1.2.1.2.2.1, .int .i64 x2.1.2.1.2.2.2, .int .i64 x2.1.2.2.1, .int .i64 x2.1.2.2.2.1, .int .i64 x2.1.2.2.2.2.1, .int .i64 x2.1.2.2.2.2.2, v1]), (b1, [.int .i64 0, .int .i64 0, .int .i64 0, .int .i64 0, .int .i64 0, .int .i64 0, .int .i64 0, .int .i64 0, .int .i64 0, .int .i64 0, .slice none 0 0])]) 1 hF hW rfl rfl rfl T25 (hW.one (k := 0) rfl) rfl rfl (fun w hW => ?_)
  refine ls_nil ?_
  refine c_then ?_
  refine c_seq ?_
  refine c_seq ?_
  refine reg_list ?_
  refine ls hF hW rfl ((y_move hF rfl).q) (fun a w hF hW => ?_)
  refine ls hF hW rfl ((y_nilCheck hF rfl).q) (fun a w hF hW => ?_)
  refine ls hF hW rfl ((y_fieldAddr Tryd.underlying41 rfl rfl rfl T3 hF rfl 2 rfl).q) (fun a w hF hW => ?_)
  refine ls hF hW rfl ((y_load (v := Value.int .i64 x3.2.2.2) 0 hF rfl rfl T3 rfl).q) (fun a w hF hW => ?_)
  refine ls hF hW rfl ((y_neq hF rfl rfl).q) (fun a w hF hW => ?_)
  refine ls_nil ?_
  refine c_then ?_
  refine c_cond hF rfl (fun hb => ?_) (fun hb => ?_)
  ·
    have H := iteT (of_decide_eq_true hb) H
    rw [hb] at hF
    clear hb
    refine c_seq ?_
    refine reg_list ?_
    refine ls hF hW rfl ((y_build (v := Value.agg #[.int .i64 0, .int .i64 0, .int .i64 0, .int .i64 0, .int .i64 0, .int .i64 0, .int .i64 0, .int .i64 0, .int .i64 0, .int .i64 0, .slice none 0 0]) B27 hF rfl rfl rfl).q) (fun a w hF hW => ?_)
    refine l_store (vs := [.int .i64 0, .int .i64 0, .int .i64 0, .int .i64 0, .int .i64 0, .int .i64 0, .int .i64 0, .int .i64 0, .int .i64 0, .int .i64 0, .slice none 0 0]) (M' := [(q_p0, [.string (bs x3.2.1), .int .i64 x3.2.2.1, .int .i64 x3.2.2.2]), (b2, [.int .i64 x1.1, .int .i64 x2.1.1, .int .i64 x2.1.2.1.1, .int .i64 x2.1.2.1.2.1, .int .i64 x2.1.2.1.2.2.1, .int .i64 x2.1.2.1.2.2.2, .int .i64 x2.1.2.2.1, .int .i64 x2.1.2.2.2.1, .int .i64 x2.1.2.2.2.2.1, .int .i64 x2.1.2.2.2.2.2, v1]), (b1, [.int .i64 0, .int .i64 0, .int .i64 0, .int .i64 0, .int .i64 0, .int .i64 0, .int .i64 0, .int .i64 0, .int .i64 0, .int .i64 0, .slice none 0 0])]) 2 hF hW rfl rfl rfl T27 rfl rfl rfl rfl rfl (fun w hW => ?_)
    refine ls_nil ?_
    refine c_then ?_
    refine wp_ret ?_
    refine r_then ?_
    have H := Option.some.inj H
    subst H
    refine post1 (.inl rfl) hF hW rfl (rv_cell 2 hF rfl rfl T27 rfl) ?_
    have hW := hW.nilRow 60 R60
    have hW := hW.sub (M' := [(q_p0, [.string (bs x3.2.1), .int .i64 x3.2.2.1, .int .i64 x3.2.2.2])]) (Z' := [row (Value.slice none 0 0) 60 R60 ([])]) (List.Sublist.cons_cons _ (List.nil_sublist _)) (List.Sublist.cons_cons _ (List.nil_sublist _))
    exact ⟨(Value.slice none 0 0), rfl, hW⟩
  ·
    have H := iteF (of_decide_eq_false hb) H
    rw [hb] at hF
    clear hb
    refine wp_skip ?_
    refine c_then ?_
    refine c_seq ?_
    refine reg_list ?_
    refine ls hF hW rfl ((y_load (v := Value.agg #[.int .i64 x1.1, .int .i64 x2.1.1, .int .i64 x2.1.2.1.1, .int .i64 x2.1.2.1.2.1, .int .i64 x2.1.2.1.2.2.1, .int .i64 x2.1.2.1.2.2.2, .int .i64 x2.1.2.2.1, .int .i64 x2.1.2.2.2.1, .int .i64 x2.1.2.2.2.2.1, .int .i64 x2.1.2.2.2.2.2, v1]) 1 hF rfl rfl T27 rfl).q) (fun a w hF hW => ?_)
    refine l_store (vs := [.int .i64 x1.1, .int .i64 x2.1.1, .int .i64 x2.1.2.1.1, .int .i64 x2.1.2.1.2.1, .int .i64 x2.1.2.1.2.2.1, .int .i64 x2.1.2.1.2.2.2, .int .i64 x2.1.2.2.1, .int .i64 x2.1.2.2.2.1, .int .i64 x2.1.2.2.2.2.1, .int .i64 x2.1.2.2.2.2.2, v1]) (M' := [(q_p0, [.string (bs x3.2.1), .int .i64 x3.2.2.1, .int .i64 x3.2.2.2]), (b2, [.int .i64 x1.1, .int .i64 x2.1.1, .int .i64 x2.1.2.1.1, .int .i64 x2.1.2.1.2.1, .int .i64 x2.1.2.1.2.2.1, .int .i64 x2.1.2.1.2.2.2, .int .i64 x2.1.2.2.1, .int .i64 x2.1.2.2.2.1, .int .i64 x2.1.2.2.2.2.1, .int .i64 x2.1.2.2.2.2.2, v1]), (b1, [.int .i64 x1.1, .int .i64 x2.1.1, .int .i64 x2.1.2.1.1, .int .i64 x2.1.2.1.2.1, .int .i64 x2.1.2.1.2.2.1, .int .i64 x2.1.2.1.2.2.2, .int .i64 x2.1.2.2.1, .int .i64 x2.1.2.2.2.1, .int .i64 x2.1.2.2.2.2.1, .int .i64 x2.1.2.2.2.2.2, v1])]) 2 hF hW rfl rfl rfl T27 rfl rfl rfl (one_cons rfl (one_cons rfl (one_cons rfl (one_cons rfl (one_cons rfl (one_cons rfl (one_cons rfl (one_cons rfl (one_cons rfl (one_cons rfl (one_cons (hW.one (k := 0) rfl) one_nil))))))))))) rfl (fun w hW => ?_)
    refine ls_nil ?_
    refine c_then ?_
    refine wp_ret ?_
    have H := Option.some.inj H
    subst H
    refine post1 (.inl rfl) hF hW rfl (rv_cell 2 hF rfl rfl T27 rfl) ?_
    have hW := hW.sub (M' := [(q_p0, [.string (bs x3.2.1), .int .i64 x3.2.2.1, .int .i64 x3.2.2.2])]) (Z' := [row v1 60 R60 x3.1]) (List.Sublist.cons_cons _ (List.nil_sublist _)) (List.Sublist.refl _)
    exact ⟨(v1), rfl, hW⟩

theorem H26 : Has Tryd.prog 26 := ⟨fun args w => run_callFunc_body Tryd.func26 rfl (by decide) args w⟩
noncomputable def octet_Reader_End (p0 : List UInt8 × Int) : Option (Int × (List UInt8 × Int)) := (if 0 < (octet_Reader_Left p0) then some ((octet_Reader_Wrong p0 5).1, (octet_Reader_Wrong p0 5).2) else some (p0.1, p0.2)).bind fun (x1, x2) => some (x2, (x1, x2))
theorem octet_Reader_End_c (Y : Nat → Prop) (X : List Nat) (w0 : World) (q_p0 : Nat) (p0 : List UInt8 × Int) (r : Int × (List UInt8 × Int)) (H : octet_Reader_End p0 = some r) (hL : Stw ⟨Y, X, w0⟩ [(q_p0, [.string (bs p0.1), .int .i64 p0.2])] [] w0) :
    Calls Tryd.prog 29 #[.pointer (some ⟨q_p0, 0, none⟩)] w0 fun e w' => ∃ x : Unit, e = .returned (.int .i64 r.1) ∧ Stw ⟨Y, X, w0⟩ [(q_p0, [.string (bs r.2.1), .int .i64 r.2.2])] [] w' := by
  refine enter Tryd.func29 rfl Tryd.ntmps29 rfl (fun a hF => ?_)
  have hW := hL
  unfold octet_Reader_End at H
  refine c_seq ?_
  refine reg_list ?_
  refine ls hF hW rfl ((y_assign hF rfl).q) (fun a w hF hW => ?_)
  refine ls_nil ?_
  refine c_then ?_
  refine c_seq ?_
  refine c_seq ?_
  refine reg_list ?_
  refine ls hF hW rfl ((y_move hF rfl).q) (fun a w hF hW => ?_)
  refine ls hF hW rfl ((y_peq_some_nil Tryd.underlying37 hF rfl rfl).q) (fun a w hF hW => ?_)
  refine ls_nil ?_
  refine c_then ?_
  refine c_cond_f hF rfl ?_
  refine wp_skip ?_
  refine c_then ?_
  obtain ⟨o1, G1, K1⟩ := bindE H
  refine c_seqJ (fun a w => ∃ x1 : List UInt8, ∃ x2 : Int, some ((x1, x2)) = some o1 ∧ Fr 14 [] [(0, .pointer (some ⟨q_p0, 0, none⟩)), (2, .int .i64 0)] a ∧ Stw ⟨Y, X, w0⟩ [(q_p0, [.string (bs x1), .int .i64 x2])] [] w) ?_ ?_
  ·
    have H := G1
    clear G1 K1
    refine c_seq ?_
    refine reg_list ?_
    refine ls hF hW rfl ((y_move hF rfl).q) (fun a w hF hW => ?_)
    refine ls hF hW rfl (y_call (v := Value.int .i64 (octet_Reader_Left p0)) hF H27 rfl (fun w hW => octet_Reader_Left_c any w q_p0 p0 _ rfl (at_M hW 0 rfl))) (fun a w hF hW => ?_)
    refine ls hF hW rfl ((y_gtr hF rfl rfl).q) (fun a w hF hW => ?_)
    refine ls_nil ?_
    refine c_then ?_
    refine c_cond hF rfl (fun hb => ?_) (fun hb => ?_)
    ·
      have H := iteT (of_decide_eq_true hb) H
      rw [hb] at hF
      clear hb
      refine reg_list ?_
      refine ls hF hW rfl ((y_move hF rfl).q) (fun a w hF hW => ?_)
      refine l_callG (Ml := [(q_p0, [.string (bs p0.1), .int .i64 p0.2])]) (Zl := []) (M := []) (Z := []) (β := Unit) (rv := fun x => .tuple #[]) (MM := fun x => [(q_p0, [.string (bs ((octet_Reader_Wrong p0 5).1)), .int .i64 ((octet_Reader_Wrong p0 5).2)])]) (ZZ := fun x => []) hF hW H61 rfl rfl (fun hL => octet_Reader_Wrong_c _ _ w q_p0 p0 5 _ rfl hL) (fun x a w hF hW => ?_)
      have hW : Stw ⟨Y, X, w0⟩ [(q_p0, [.string (bs ((octet_Reader_Wrong p0 5).1)), .int .i64 ((octet_Reader_Wrong p0 5).2)])] [] w := hW
      refine ls_nil ?_
      refine c_then ?_
      exact ⟨_, _, H, hF.re ⟨rfl, rfl, trivial⟩, hW⟩
    ·
      have H := iteF (of_decide_eq_false hb) H
      rw [hb] at hF
      clear hb
      refine wp_skip ?_
      refine c_then ?_
      exact ⟨_, _, H, hF.re ⟨rfl, rfl, trivial⟩, hW⟩
  rintro a w ⟨x1, x2, hj, hF, hW⟩
  have hj := Option.some.inj hj
  subst hj
  have H := K1
  clear G1 K1
  refine c_seq ?_
  refine reg_list ?_
  refine ls hF hW rfl ((y_move hF rfl).q) (fun a w hF hW => ?_)
  refine ls hF hW rfl ((y_nilCheck hF rfl).q) (fun a w hF hW => ?_)
  refine ls hF hW rfl ((y_fieldAddr Tryd.underlying62 rfl rfl rfl T45 hF rfl 1 rfl).q) (fun a w hF hW => ?_)
  refine ls hF hW rfl ((y_load (v := Value.int .i64 x2) 0 hF rfl rfl T45 rfl).q) (fun a w hF hW => ?_)
  refine ls hF hW rfl ((y_assign hF rfl).q) (fun a w hF hW => ?_)
  refine ls_nil ?_
  refine c_then ?_
  refine wp_ret ?_
  have H := Option.some.inj H
  subst H
  refine post1 (.inl rfl) hF hW rfl (rv_tmp hF rfl) ?_
  exact ⟨(), rfl, hW⟩

theorem H29 : Has Tryd.prog 29 := ⟨fun args w => run_callFunc_body Tryd.func29 rfl (by decide) args w⟩
noncomputable def r04_Reader_End (p0 : List UInt8 × Int × Int) : Option (Int × (List UInt8 × Int × Int)) := (if 0 < (r04_Reader_Left p0) then some 5 else some p0.2.2).bind fun x1 => some (x1, (p0.1, p0.2.1, x1))
theorem r04_Reader_End_c (Y : Nat → Prop) (X : List Nat) (w0 : World) (q_p0 : Nat) (p0 : List UInt8 × Int × Int) (r : Int × (List UInt8 × Int × Int)) (H : r04_Reader_End p0 = some r) (hL : Stw ⟨Y, X, w0⟩ [(q_p0, [.string (bs p0.1), .int .i64 p0.2.1, .int .i64 p0.2.2])] [] w0) :
    Calls Tryd.prog 30 #[.pointer (some ⟨q_p0, 0, none⟩)] w0 fun e w' => ∃ x : Unit, e = .returned (.int .i64 r.1) ∧ Stw ⟨Y, X, w0⟩ [(q_p0, [.string (bs r.2.1), .int .i64 r.2.2.1, .int .i64 r.2.2.2])] [] w' := by
  refine enter Tryd.func30 rfl Tryd.ntmps30 rfl (fun a hF => ?_)
  have hW := hL
  unfold r04_Reader_End at H
  refine c_seq ?_
  refine reg_list ?_
  refine ls hF hW rfl ((y_assign hF rfl).q) (fun a w hF hW => ?_)
  refine ls_nil ?_
  refine c_then ?_
  obtain ⟨o1, G1, K1⟩ := bindE H
  refine c_seqJ (fun a w => ∃ x1 : Int, some (x1) = some o1 ∧ Fr 13 [] [(0, .pointer (some ⟨q_p0, 0, none⟩)), (2, .int .i64 0)] a ∧ Stw ⟨Y, X, w0⟩ [(q_p0, [.string (bs p0.1), .int .i64 p0.2.1, .int .i64 x1])] [] w) ?_ ?_
  ·
    have H := G1
    clear G1 K1
    refine c_seq ?_
    refine reg_list ?_
    refine ls hF hW rfl ((y_move hF rfl).q) (fun a w hF hW => ?_)
    refine ls hF hW rfl (y_call (v := Value.int .i64 (r04_Reader_Left p0)) hF H28 rfl (fun w hW => r04_Reader_Left_c any w q_p0 p0 _ rfl (at_M hW 0 rfl))) (fun a w hF hW => ?_)
    refine ls hF hW rfl ((y_gtr hF rfl rfl).q) (fun a w hF hW => ?_)
    refine ls_nil ?_
    refine c_then ?_
    refine c_cond hF rfl (fun hb => ?_) (fun hb => ?_)
    ·
      have H := iteT (of_decide_eq_true hb) H
      rw [hb] at hF
      clear hb
      refine reg_list ?_
      refine ls hF hW rfl ((y_move hF rfl).q) (fun a w hF hW => ?_)
      refine ls hF hW rfl ((y_nilCheck hF rfl).q) (fun a w hF hW => ?_)
      refine ls hF hW rfl ((y_fieldAddr Tryd.underlying41 rfl rfl rfl T3 hF rfl 2 rfl).q) (fun a w hF hW => ?_)
      refine l_store (vs := [.int .i64 5]) (M' := [(q_p0, [.string (bs p0.1), .int .i64 p0.2.1, .int .i64 5])]) 0 hF hW rfl rfl rfl T3 rfl rfl rfl rfl rfl (fun w hW => ?_)
      refine ls_nil ?_
      refine c_then ?_
      exact ⟨_, H, hF.re ⟨rfl, rfl, trivial⟩, hW⟩
    ·
      have H := iteF (of_decide_eq_false hb) H
      rw [hb] at hF
      clear hb
      refine wp_skip ?_
      refine c_then ?_
      exact ⟨_, H, hF.re ⟨rfl, rfl, trivial⟩, hW⟩
  rintro a w ⟨x1, hj, hF, hW⟩
  have hj := Option.some.inj hj
  subst hj
  have H := K1
  clear G1 K1
  refine c_seq ?_
  refine reg_list ?_
  refine ls hF hW rfl ((y_move hF rfl).q) (fun a w hF hW => ?_)
  refine ls hF hW rfl ((y_nilCheck hF rfl).q) (fun a w hF hW => ?_)
  refine ls hF hW rfl ((y_fieldAddr Tryd.underlying41 rfl rfl rfl T3 hF rfl 2 rfl).q) (fun a w hF hW => ?_)
  refine ls hF hW rfl ((y_load (v := Value.int .i64 x1) 0 hF rfl rfl T3 rfl).q) (fun a w hF hW => ?_)
  refine ls hF hW rfl ((y_assign hF rfl).q) (fun a w hF hW => ?_)
  refine ls_nil ?_
  refine c_then ?_
  refine wp_ret ?_
  have H := Option.some.inj H
  subst H
  refine post1 (.inl rfl) hF hW rfl (rv_tmp hF rfl) ?_
  exact ⟨(), rfl, hW⟩

theorem H30 : Has Tryd.prog 30 := ⟨fun args w => run_callFunc_body Tryd.func30 rfl (by decide) args w⟩
noncomputable def L10_RuleReads (p0 : List UInt8) (p1 : Int × (Int × (Int × Int × Int × Int) × (Int × Int × Int × Int)) × (List (Int × Int × Int))) (p2 : Int) : Option Bool := (if 100 < (p0.length : Int) then (subl p0 0 100).bind fun x2 => some x2 else some p0).bind fun x1 => ((rule_Read (octet_Open x1) p2).bind fun x9 => (r10_Read (x1, 0, 0) p2).bind fun x10 => (r10_Same x9.1 x10.1).bind fun x11 => (if (!x11) = true then some (true, x10.2.1, x10.2.2.1, x10.2.2.2, x9.2.1, x9.2.2) else (if (octet_Reader_Left x9.2) ≠ (r04_Reader_Left x10.2) then some (true, x10.2.1, x10.2.2.1, x10.2.2.2, x9.2.1, x9.2.2) else (octet_Reader_End x9.2).bind fun x12 => (r04_Reader_End x10.2).bind fun x13 => some (decide (x12.1 ≠ x13.1), x13.2.1, x13.2.2.1, x13.2.2.2, x12.2.1, x12.2.2)))).bind fun (x3, x4, x5, x6, x7, x8) => (if x3 = true then some false else ((r10_Right p1 p2).bind fun x15 => (if (!x15) = true then some true else some (decide (256 < p2)))).bind fun x14 => (if x14 = true then (L10_awake).bind fun x16 => some x16 else (rule_Code p1).bind fun x17 => ((rule_Read (octet_Open x17) p2).bind fun x21 => (rule_Same x21.1 p1).bind fun x22 => (if x22 = true then (octet_Reader_End x21.2).bind fun x23 => (if x23.1 = 0 then (L10_awake).bind fun x24 => some (x24, x23.2.1, x23.2.2) else some (false, x23.2.1, x23.2.2)) else some (false, x21.2.1, x21.2.2))).bind fun (x18, x19, x20) => some x18))
theorem L10_RuleReads_c (Y : Nat → Prop) (w0 : World) (v1 : Value) (p0 : List UInt8) (p1 : Int × (Int × (Int × Int × Int × Int) × (Int × Int × Int × Int)) × (List (Int × Int × Int))) (p2 : Int) (r : Bool) (H : L10_RuleReads p0 p1 p2 = some r) (h_v1 : Sl w0 (NX []) R60 v1 p1.2.2) (hG : Gk [] w0) :
    Calls Tryd.prog 5 #[.string (bs p0), .agg #[.int .i64 p1.1, .int .i64 p1.2.1.1, .int .i64 p1.2.1.2.1.1, .int .i64 p1.2.1.2.1.2.1, .int .i64 p1.2.1.2.1.2.2.1, .int .i64 p1.2.1.2.1.2.2.2, .int .i64 p1.2.1.2.2.1, .int .i64 p1.2.1.2.2.2.1, .int .i64 p1.2.1.2.2.2.2.1, .int .i64 p1.2.1.2.2.2.2.2, v1], .int .i64 p2] w0 fun e w' => e = .returned (.bool r) ∧ Below w0.heap.size w0 w' := by
  refine enter Tryd.func5 rfl Tryd.ntmps5 rfl (fun a hF => ?_)
  have hW := Stw.start Y w0
  unfold L10_RuleReads at H
  refine c_seq ?_
  refine reg_list ?_
  refine l_box (cs := [.int .i64 p1.1, .int .i64 p1.2.1.1, .int .i64 p1.2.1.2.1.1, .int .i64 p1.2.1.2.1.2.1, .int .i64 p1.2.1.2.1.2.2.1, .int .i64 p1.2.1.2.1.2.2.2, .int .i64 p1.2.1.2.2.1, .int .i64 p1.2.1.2.2.2.1, .int .i64 p1.2.1.2.2.2.2.1, .int .i64 p1.2.1.2.2.2.2.2, v1]) hF hW rfl rfl rfl (fun b1 a w hF hW => ?_)
  refine ls hF hW rfl ((y_assign hF rfl).q) (fun a w hF hW => ?_)
  refine ls_nil ?_
  refine c_then ?_
  obtain ⟨o1, G1, K1⟩ := bindE H
  refine c_seqJ (fun a w => ∃ x1 : List UInt8, some (x1) = some o1 ∧ Fr 67 [] [(0, .string (bs x1)), (2, .int .i64 p2), (4, .pointer (some ⟨b1, 0, none⟩)), (6, .bool false)] a ∧ Stw ⟨Y, [], w0⟩ [(b1, [.int .i64 p1.1, .int .i64 p1.2.1.1, .int .i64 p1.2.1.2.1.1, .int .i64 p1.2.1.2.1.2.1, .int .i64 p1.2.1.2.1.2.2.1, .int .i64 p1.2.1.2.1.2.2.2, .int .i64 p1.2.1.2.2.1, .int .i64 p1.2.1.2.2.2.1, .int .i64 p1.2.1.2.2.2.2.1, .int .i64 p1.2.1.2.2.2.2.2, v1])] [] w) ?_ ?_
  ·
    have H := G1
    clear G1 K1
    refine c_seq ?_
    refine reg_list ?_
    refine ls hF hW rfl ((y_move hF rfl).q) (fun a w hF hW => ?_)
    refine ls hF hW rfl ((y_slen (l := p0) Tryd.underlying9 rfl hF rfl).q) (fun a w hF hW => ?_)
    refine ls hF hW rfl ((y_gtr hF rfl rfl).q) (fun a w hF hW => ?_)
    refine ls_nil ?_
    refine c_then ?_
    refine c_cond hF rfl (fun hb => ?_) (fun hb => ?_)
    ·
      have H := iteT (of_decide_eq_true hb) H
      rw [hb] at hF
      clear hb
      refine reg_list ?_
      refine ls hF hW rfl ((y_move hF rfl).q) (fun a w hF hW => ?_)
      obtain ⟨x2, h1, H⟩ := bindE H
      refine ls hF hW rfl ((y_sslice (l := p0) Tryd.underlying9 hF rfl rfl rfl h1).q) (fun a w hF hW => ?_)
      refine ls hF hW rfl ((y_assign hF rfl).q) (fun a w hF hW => ?_)
      refine ls_nil ?_
      refine c_then ?_
      exact ⟨_, H, hF.re ⟨rfl, rfl, rfl, rfl, trivial⟩, hW⟩
    ·
      have H := iteF (of_decide_eq_false hb) H
      rw [hb] at hF
      clear hb
      refine wp_skip ?_
      refine c_then ?_
      exact ⟨_, H, hF.re ⟨rfl, rfl, rfl, rfl, trivial⟩, hW⟩
  rintro a w ⟨x1, hj, hF, hW⟩
  have hj := Option.some.inj hj
  subst hj
  have H := K1
  clear G1 K1
  refine c_seq ?_
  refine reg_list ?_
  refine ls hF hW rfl ((y_move hF rfl).q) (fun a w hF hW => ?_)
  refine l_callG (Ml := []) (Zl := []) (M := [(b1, [.int .i64 p1.1, .int .i64 p1.2.1.1, .int .i64 p1.2.1.2.1.1, .int .i64 p1.2.1.2.1.2.1, .int .i64 p1.2.1.2.1.2.2.1, .int .i64 p1.2.1.2.1.2.2.2, .int .i64 p1.2.1.2.2.1, .int .i64 p1.2.1.2.2.2.1, .int .i64 p1.2.1.2.2.2.2.1, .int .i64 p1.2.1.2.2.2.2.2, v1])]) (Z := []) (β := Nat) (rv := fun x => .pointer (some ⟨x, 0, none⟩)) (MM := fun x => [(x, [.string (bs ((octet_Open x1).1)), .int .i64 ((octet_Open x1).2)])]) (ZZ := fun x => []) hF hW H24 rfl rfl (fun hL => octet_Open_c _ w x1 _ rfl) (fun x a w hF hW => ?_)
  obtain ⟨b2, rfl⟩ : ∃ y, y = x := ⟨x, rfl⟩
  have hW : Stw ⟨Y, [], w0⟩ [(b2, [.string (bs ((octet_Open x1).1)), .int .i64 ((octet_Open x1).2)]), (b1, [.int .i64 p1.1, .int .i64 p1.2.1.1, .int .i64 p1.2.1.2.1.1, .int .i64 p1.2.1.2.1.2.1, .int .i64 p1.2.1.2.1.2.2.1, .int .i64 p1.2.1.2.1.2.2.2, .int .i64 p1.2.1.2.2.1, .int .i64 p1.2.1.2.2.2.1, .int .i64 p1.2.1.2.2.2.2.1, .int .i64 p1.2.1.2.2.2.2.2, v1])] [] w := hW
  refine ls hF hW rfl ((y_move hF rfl).q) (fun a w hF hW => ?_)
  refine ls hF hW rfl ((y_build (v := Value.agg #[.string (bs x1), .int .i64 0, .int .i64 0]) B41 hF rfl rfl rfl).q) (fun a w hF hW => ?_)
  refine l_box (cs := [.string (bs x1), .int .i64 0, .int .i64 0]) hF hW rfl rfl rfl (fun b3 a w hF hW => ?_)
  refine ls hF hW rfl ((y_assign hF rfl).q) (fun a w hF hW => ?_)
  refine ls hF hW rfl ((y_assign hF rfl).q) (fun a w hF hW => ?_)
  refine ls_nil ?_
  refine c_then ?_
  refine c_seq ?_
  obtain ⟨o2, G2, K2⟩ := bindE H
  refine c_seqJ (fun a w => ∃ x3 : Bool, ∃ x4 : List UInt8, ∃ x5 : Int, ∃ x6 : Int, ∃ x7 : List UInt8, ∃ x8 : Int, some ((x3, x4, x5, x6, x7, x8)) = some o2 ∧ Fr 67 [] [(2, .int .i64 p2), (4, .pointer (some ⟨b1, 0, none⟩)), (6, .bool false), (41, .bool x3)] a ∧ Stw ⟨Y, [], w0⟩ [(b3, [.string (bs x4), .int .i64 x5, .int .i64 x6]), (b2, [.string (bs x7), .int .i64 x8]), (b1, [.int .i64 p1.1, .int .i64 p1.2.1.1, .int .i64 p1.2.1.2.1.1, .int .i64 p1.2.1.2.1.2.1, .int .i64 p1.2.1.2.1.2.2.1, .int .i64 p1.2.1.2.1.2.2.2, .int .i64 p1.2.1.2.2.1, .int .i64 p1.2.1.2.2.2.1, .int .i64 p1.2.1.2.2.2.2.1, .int .i64 p1.2.1.2.2.2.2.2, v1])] [] w) ?_ ?_
  ·
    have H := G2
    clear G2 K2
    refine reg_list ?_
    refine ls hF hW rfl ((y_move hF rfl).q) (fun a w hF hW => ?_)
    refine ls hF hW rfl ((y_move hF rfl).q) (fun a w hF hW => ?_)
    obtain ⟨x9, h2, H⟩ := bindE H
    have hW := hW.frontM (i := 1) rfl rfl
    refine l_callG (Ml := [(b2, [.string (bs ((octet_Open x1).1)), .int .i64 ((octet_Open x1).2)])]) (Zl := []) (M := [(b3, [.string (bs x1), .int .i64 0, .int .i64 0]), (b1, [.int .i64 p1.1, .int .i64 p1.2.1.1, .int .i64 p1.2.1.2.1.1, .int .i64 p1.2.1.2.1.2.1, .int .i64 p1.2.1.2.1.2.2.1, .int .i64 p1.2.1.2.1.2.2.2, .int .i64 p1.2.1.2.2.1, .int .i64 p1.2.1.2.2.2.1, .int .i64 p1.2.1.2.2.2.2.1, .int .i64 p1.2.1.2.2.2.2.2, v1])]) (Z := []) (β := Value) (rv := fun x => .agg #[.int .i64 x9.1.1, .int .i64 x9.1.2.1.1, .int .i64 x9.1.2.1.2.1.1, .int .i64 x9.1.2.1.2.1.2.1, .int .i64 x9.1.2.1.2.1.2.2.1, .int .i64 x9.1.2.1.2.1.2.2.2, .int .i64 x9.1.2.1.2.2.1, .int .i64 x9.1.2.1.2.2.2.1, .int .i64 x9.1.2.1.2.2.2.2.1, .int .i64 x9.1.2.1.2.2.2.2.2, x]) (MM := fun x => [(b2, [.string (bs x9.2.1), .int .i64 x9.2.2])]) (ZZ := fun x => [row x 60 R60 x9.1.2.2]) hF hW H25 rfl rfl (fun hL => rule_Read_c _ _ w b2 (octet_Open x1) p2 _ h2 hL) (fun x a w hF hW => ?_)
    obtain ⟨v2, rfl⟩ : ∃ y, y = x := ⟨x, rfl⟩
    have hW : Stw ⟨Y, [], w0⟩ [(b2, [.string (bs x9.2.1), .int .i64 x9.2.2]), (b3, [.string (bs x1), .int .i64 0, .int .i64 0]), (b1, [.int .i64 p1.1, .int .i64 p1.2.1.1, .int .i64 p1.2.1.2.1.1, .int .i64 p1.2.1.2.1.2.1, .int .i64 p1.2.1.2.1.2.2.1, .int .i64 p1.2.1.2.1.2.2.2, .int .i64 p1.2.1.2.2.1, .int .i64 p1.2.1.2.2.2.1, .int .i64 p1.2.1.2.2.2.2.1, .int .i64 p1.2.1.2.2.2.2.2, v1])] [row v2 60 R60 x9.1.2.2] w := hW
    refine ls hF hW rfl ((y_move hF rfl).q) (fun a w hF hW => ?_)
    refine ls hF hW rfl ((y_move hF rfl).q) (fun a w hF hW => ?_)
    obtain ⟨x10, h3, H⟩ := bindE H
    have hW := hW.frontM (i := 1) rfl rfl
    refine l_callG (Ml := [(b3, [.string (bs x1), .int .i64 0, .int .i64 0])]) (Zl := []) (M := [(b2, [.string (bs x9.2.1), .int .i64 x9.2.2]), (b1, [.int .i64 p1.1, .int .i64 p1.2.1.1, .int .i64 p1.2.1.2.1.1, .int .i64 p1.2.1.2.1.2.1, .int .i64 p1.2.1.2.1.2.2.1, .int .i64 p1.2.1.2.1.2.2.2, .int .i64 p1.2.1.2.2.1, .int .i64 p1.2.1.2.2.2.1, .int .i64 p1.2.1.2.2.2.2.1, .int .i64 p1.2.1.2.2.2.2.2, v1])]) (Z := [row v2 60 R60 x9.1.2.2]) (β := Value) (rv := fun x => .agg #[.int .i64 x10.1.1, .int .i64 x10.1.2.1.1, .int .i64 x10.1.2.1.2.1.1, .int .i64 x10.1.2.1.2.1.2.1, .int .i64 x10.1.2.1.2.1.2.2.1, .int .i64 x10.1.2.1.2.1.2.2.2, .int .i64 x10.1.2.1.2.2.1, .int .i64 x10.1.2.1.2.2.2.1, .int .i64 x10.1.2.1.2.2.2.2.1, .int .i64 x10.1.2.1.2.2.2.2.2, x]) (MM := fun x => [(b3, [.string (bs x10.2.1), .int .i64 x10.2.2.1, .int .i64 x10.2.2.2])]) (ZZ := fun x => [row x 60 R60 x10.1.2.2]) hF hW H26 rfl rfl (fun hL => r10_Read_c _ _ w b3 (x1, 0, 0) p2 _ h3 hL) (fun x a w hF hW => ?_)
    obtain ⟨v3, rfl⟩ : ∃ y, y = x := ⟨x, rfl⟩
    have hW : Stw ⟨Y, [], w0⟩ [(b3, [.string (bs x10.2.1), .int .i64 x10.2.2.1, .int .i64 x10.2.2.2]), (b2, [.string (bs x9.2.1), .int .i64 x9.2.2]), (b1, [.int .i64 p1.1, .int .i64 p1.2.1.1, .int .i64 p1.2.1.2.1.1, .int .i64 p1.2.1.2.1.2.1, .int .i64 p1.2.1.2.1.2.2.1, .int .i64 p1.2.1.2.1.2.2.2, .int .i64 p1.2.1.2.2.1, .int .i64 p1.2.1.2.2.2.1, .int .i64 p1.2.1.2.2.2.2.1, .int .i64 p1.2.1.2.2.2.2.2, v1])] [row v3 60 R60 x10.1.2.2, row v2 60 R60 x9.1.2.2] w := hW
    obtain ⟨x11, h4, H⟩ := bindE H
    refine ls hF hW rfl (y_call (v := Value.bool x11) hF H12 rfl (fun w hW => r10_Same_c any w (v2) (v3) x9.1 x10.1 _ h4 (((rdc_row 1 rfl) : Rdc _ _ _ _ _ _) w hW).nx (((rdc_row 0 rfl) : Rdc _ _ _ _ _ _) w hW).nx)) (fun a w hF hW => ?_)
    refine ls hF hW rfl ((y_not hF rfl).q) (fun a w hF hW => ?_)
    refine ls hF hW rfl ((y_move hF rfl).q) (fun a w hF hW => ?_)
    rcases Bool.eq_false_or_eq_true (!x11) with hb | hb
    ·
      have H := iteT hb H
      rw [hb] at hF
      clear hb
      refine ls_skip hF (wanted_n hF rfl rfl rfl rfl rfl) rfl rfl (fun a hF => ?_)
      refine ls_skip hF (wanted_n hF rfl rfl rfl rfl rfl) rfl rfl (fun a hF => ?_)
      refine ls_skip hF (wanted_n hF rfl rfl rfl rfl rfl) rfl rfl (fun a hF => ?_)
      refine ls_skip hF (wanted_n hF rfl rfl rfl rfl rfl) rfl rfl (fun a hF => ?_)
      refine ls_skip hF (wanted_n hF rfl rfl rfl rfl rfl) rfl rfl (fun a hF => ?_)
      refine ls hF hW rfl ((y_pick_t hF rfl rfl rfl).q) (fun a w hF hW => ?_)
      refine ls hF hW rfl ((y_move hF rfl).q) (fun a w hF hW => ?_)
      refine ls_skip hF (wanted_n hF rfl rfl rfl rfl rfl) rfl rfl (fun a hF => ?_)
      refine ls_skip hF (wanted_n hF rfl rfl rfl rfl rfl) rfl rfl (fun a hF => ?_)
      refine ls_skip hF (wanted_n hF rfl rfl rfl rfl rfl) rfl rfl (fun a hF => ?_)
      refine ls_skip hF (wanted_n hF rfl rfl rfl rfl rfl) rfl rfl (fun a hF => ?_)
      refine ls_skip hF (wanted_n hF rfl rfl rfl rfl rfl) rfl rfl (fun a hF => ?_)
      refine ls hF hW rfl ((y_pick_t hF rfl rfl rfl).q) (fun a w hF hW => ?_)
      refine ls_nil ?_
      refine c_then ?_
      have hW := hW.frontM (i := 2) rfl rfl
      have hW := hW.frontM (i := 2) rfl rfl
      have hW := hW.frontM (i := 2) rfl rfl
      have hW := hW.sub (M' := [(b3, [.string (bs x10.2.1), .int .i64 x10.2.2.1, .int .i64 x10.2.2.2]), (b2, [.string (bs x9.2.1), .int .i64 x9.2.2]), (b1, [.int .i64 p1.1, .int .i64 p1.2.1.1, .int .i64 p1.2.1.2.1.1, .int .i64 p1.2.1.2.1.2.1, .int .i64 p1.2.1.2.1.2.2.1, .int .i64 p1.2.1.2.1.2.2.2, .int .i64 p1.2.1.2.2.1, .int .i64 p1.2.1.2.2.2.1, .int .i64 p1.2.1.2.2.2.2.1, .int .i64 p1.2.1.2.2.2.2.2, v1])]) (Z' := []) (List.Sublist.refl _) (List.nil_sublist _)
      exact ⟨_, _, _, _, _, _, H, hF.re ⟨rfl, rfl, rfl, rfl, trivial⟩, hW⟩
    ·
      have H := iteF (by rw [hb]; decide) H
      rw [hb] at hF
      clear hb
      refine ls_w hF hW (wanted_y hF rfl rfl rfl rfl) rfl (Nat.le_of_ble_eq_true rfl) ((y_move hF rfl).q) (fun a w hF hW => ?_)
      refine ls_g (wanted_y hF rfl rfl rfl rfl) ?_
      refine ls hF hW rfl (y_call (v := Value.int .i64 (octet_Reader_Left x9.2)) hF H27 rfl (fun w hW => octet_Reader_Left_c any w b2 x9.2 _ rfl (at_M hW 1 rfl))) (fun a w hF hW => ?_)
      refine ls_w hF hW (wanted_y hF rfl rfl rfl rfl) rfl (Nat.le_of_ble_eq_true rfl) ((y_move hF rfl).q) (fun a w hF hW => ?_)
      refine ls_g (wanted_y hF rfl rfl rfl rfl) ?_
      refine ls hF hW rfl (y_call (v := Value.int .i64 (r04_Reader_Left x10.2)) hF H28 rfl (fun w hW => r04_Reader_Left_c any w b3 x10.2 _ rfl (at_M hW 0 rfl))) (fun a w hF hW => ?_)
      refine ls_w hF hW (wanted_y hF rfl rfl rfl rfl) rfl (Nat.le_of_ble_eq_true rfl) ((y_neq hF rfl rfl).q) (fun a w hF hW => ?_)
      refine ls hF hW rfl ((y_pick_f hF rfl rfl rfl).q) (fun a w hF hW => ?_)
      refine ls hF hW rfl ((y_move hF rfl).q) (fun a w hF hW => ?_)
      rcases Bool.eq_false_or_eq_true (decide ((octet_Reader_Left x9.2) ≠ (r04_Reader_Left x10.2))) with hb | hb
      ·
        have H := iteT (of_decide_eq_true hb) H
        rw [hb] at hF
        clear hb
        refine ls_skip hF (wanted_n hF rfl rfl rfl rfl rfl) rfl rfl (fun a hF => ?_)
        refine ls_skip hF (wanted_n hF rfl rfl rfl rfl rfl) rfl rfl (fun a hF => ?_)
        refine ls_skip hF (wanted_n hF rfl rfl rfl rfl rfl) rfl rfl (fun a hF => ?_)
        refine ls_skip hF (wanted_n hF rfl rfl rfl rfl rfl) rfl rfl (fun a hF => ?_)
        refine ls_skip hF (wanted_n hF rfl rfl rfl rfl rfl) rfl rfl (fun a hF => ?_)
        refine ls hF hW rfl ((y_pick_t hF rfl rfl rfl).q) (fun a w hF hW => ?_)
        refine ls_nil ?_
        refine c_then ?_
        have hW := hW.frontM (i := 2) rfl rfl
        have hW := hW.frontM (i := 2) rfl rfl
        have hW := hW.frontM (i := 2) rfl rfl
        have hW := hW.sub (M' := [(b3, [.string (bs x10.2.1), .int .i64 x10.2.2.1, .int .i64 x10.2.2.2]), (b2, [.string (bs x9.2.1), .int .i64 x9.2.2]), (b1, [.int .i64 p1.1, .int .i64 p1.2.1.1, .int .i64 p1.2.1.2.1.1, .int .i64 p1.2.1.2.1.2.1, .int .i64 p1.2.1.2.1.2.2.1, .int .i64 p1.2.1.2.1.2.2.2, .int .i64 p1.2.1.2.2.1, .int .i64 p1.2.1.2.2.2.1, .int .i64 p1.2.1.2.2.2.2.1, .int .i64 p1.2.1.2.2.2.2.2, v1])]) (Z' := []) (List.Sublist.refl _) (List.nil_sublist _)
        exact ⟨_, _, _, _, _, _, H, hF.re ⟨rfl, rfl, rfl, rfl, trivial⟩, hW⟩
      ·
        have H := iteF (of_decide_eq_false hb) H
        rw [hb] at hF
        clear hb
        refine ls_w hF hW (wanted_y hF rfl rfl rfl rfl) rfl (Nat.le_of_ble_eq_true rfl) ((y_move hF rfl).q) (fun a w hF hW => ?_)
        refine ls_g (wanted_y hF rfl rfl rfl rfl) ?_
        obtain ⟨x12, h5, H⟩ := bindE H
        have hW := hW.frontM (i := 1) rfl rfl
        refine l_callG (Ml := [(b2, [.string (bs x9.2.1), .int .i64 x9.2.2])]) (Zl := []) (M := [(b3, [.string (bs x10.2.1), .int .i64 x10.2.2.1, .int .i64 x10.2.2.2]), (b1, [.int .i64 p1.1, .int .i64 p1.2.1.1, .int .i64 p1.2.1.2.1.1, .int .i64 p1.2.1.2.1.2.1, .int .i64 p1.2.1.2.1.2.2.1, .int .i64 p1.2.1.2.1.2.2.2, .int .i64 p1.2.1.2.2.1, .int .i64 p1.2.1.2.2.2.1, .int .i64 p1.2.1.2.2.2.2.1, .int .i64 p1.2.1.2.2.2.2.2, v1])]) (Z := [row v3 60 R60 x10.1.2.2, row v2 60 R60 x9.1.2.2]) (β := Unit) (rv := fun x => .int .i64 x12.1) (MM := fun x => [(b2, [.string (bs x12.2.1), .int .i64 x12.2.2])]) (ZZ := fun x => []) hF hW H29 rfl rfl (fun hL => octet_Reader_End_c _ _ w b2 x9.2 _ h5 hL) (fun x a w hF hW => ?_)
        have hW : Stw ⟨Y, [], w0⟩ [(b2, [.string (bs x12.2.1), .int .i64 x12.2.2]), (b3, [.string (bs x10.2.1), .int .i64 x10.2.2.1, .int .i64 x10.2.2.2]), (b1, [.int .i64 p1.1, .int .i64 p1.2.1.1, .int .i64 p1.2.1.2.1.1, .int .i64 p1.2.1.2.1.2.1, .int .i64 p1.2.1.2.1.2.2.1, .int .i64 p1.2.1.2.1.2.2.2, .int .i64 p1.2.1.2.2.1, .int .i64 p1.2.1.2.2.2.1, .int .i64 p1.2.1.2.2.2.2.1, .int .i64 p1.2.1.2.2.2.2.2, v1])] [row v3 60 R60 x10.1.2.2, row v2 60 R60 x9.1.2.2] w := hW
        refine ls_w hF hW (wanted_y hF rfl rfl rfl rfl) rfl (Nat.le_of_ble_eq_true rfl) ((y_move hF rfl).q) (fun a w hF hW => ?_)
        refine ls_g (wanted_y hF rfl rfl rfl rfl) ?_
        obtain ⟨x13, h6, H⟩ := bindE H
        have hW := hW.frontM (i := 1) rfl rfl
        refine l_callG (Ml := [(b3, [.string (bs x10.2.1), .int .i64 x10.2.2.1, .int .i64 x10.2.2.2])]) (Zl := []) (M := [(b2, [.string (bs x12.2.1), .int .i64 x12.2.2]), (b1, [.int .i64 p1.1, .int .i64 p1.2.1.1, .int .i64 p1.2.1.2.1.1, .int .i64 p1.2.1.2.1.2.1, .int .i64 p1.2.1.2.1.2.2.1, .int .i64 p1.2.1.2.1.2.2.2, .int .i64 p1.2.1.2.2.1, .int .i64 p1.2.1.2.2.2.1, .int .i64 p1.2.1.2.2.2.2.1, .int .i64 p1.2.1.2.2.2.2.2, v1])]) (Z := [row v3 60 R60 x10.1.2.2, row v2 60 R60 x9.1.2.2]) (β := Unit) (rv := fun x => .int .i64 x13.1) (MM := fun x => [(b3, [.string (bs x13.2.1), .int .i64 x13.2.2.1, .int .i64 x13.2.2.2])]) (ZZ := fun x => []) hF hW H30 rfl rfl (fun hL => r04_Reader_End_c _ _ w b3 x10.2 _ h6 hL) (fun x a w hF hW => ?_)
        have hW : Stw ⟨Y, [], w0⟩ [(b3, [.string (bs x13.2.1), .int .i64 x13.2.2.1, .int .i64 x13.2.2.2]), (b2, [.string (bs x12.2.1), .int .i64 x12.2.2]), (b1, [.int .i64 p1.1, .int .i64 p1.2.1.1, .int .i64 p1.2.1.2.1.1, .int .i64 p1.2.1.2.1.2.1, .int .i64 p1.2.1.2.1.2.2.1, .int .i64 p1.2.1.2.1.2.2.2, .int .i64 p1.2.1.2.2.1, .int .i64 p1.2.1.2.2.2.1, .int .i64 p1.2.1.2.2.2.2.1, .int .i64 p1.2.1.2.2.2.2.2, v1])] [row v3 60 R60 x10.1.2.2, row v2 60 R60 x9.1.2.2] w := hW
        refine ls_w hF hW (wanted_y hF rfl rfl rfl rfl) rfl (Nat.le_of_ble_eq_true rfl) ((y_neq hF rfl rfl).q) (fun a w hF hW => ?_)
        refine ls hF hW rfl ((y_pick_f hF rfl rfl rfl).q) (fun a w hF hW => ?_)
        refine ls_nil ?_
        refine c_then ?_
        have hW := hW.frontM (i := 2) rfl rfl
        have hW := hW.frontM (i := 2) rfl rfl
        have hW := hW.frontM (i := 2) rfl rfl
        have hW := hW.sub (M' := [(b3, [.string (bs x13.2.1), .int .i64 x13.2.2.1, .int .i64 x13.2.2.2]), (b2, [.string (bs x12.2.1), .int .i64 x12.2.2]), (b1, [.int .i64 p1.1, .int .i64 p1.2.1.1, .int .i64 p1.2.1.2.1.1, .int .i64 p1.2.1.2.1.2.1, .int .i64 p1.2.1.2.1.2.2.1, .int .i64 p1.2.1.2.1.2.2.2, .int .i64 p1.2.1.2.2.1, .int .i64 p1.2.1.2.2.2.1, .int .i64 p1.2.1.2.2.2.2.1, .int .i64 p1.2.1.2.2.2.2.2, v1])]) (Z' := []) (List.Sublist.refl _) (List.nil_sublist _)
        exact ⟨_, _, _, _, _, _, H, hF.re ⟨rfl, rfl, rfl, rfl, trivial⟩, hW⟩
  rintro a w ⟨x3, x4, x5, x6, x7, x8, hj, hF, hW⟩
  have hj := Option.some.inj hj
  subst hj
  have H := K2
  clear G2 K2
  refine c_cond hF rfl (fun hb => ?_) (fun hb => ?_)
  ·
    have H := iteT hb H
    rw [hb] at hF
    clear hb
    refine c_seq ?_
    refine reg_list ?_
    refine ls hF hW rfl ((y_assign hF rfl).q) (fun a w hF hW => ?_)
    refine ls_nil ?_
    refine c_then ?_
    refine wp_ret ?_
    refine r_then ?_
    have H := Option.some.inj H
    subst H
    refine post1 (.inl rfl) hF hW rfl (rv_tmp hF rfl) ?_
    exact ⟨rfl, hW.done⟩
  ·
    have H := iteF (by rw [hb]; decide) H
    rw [hb] at hF
    clear hb
    refine wp_skip ?_
    refine c_then ?_
    refine c_seq ?_
    obtain ⟨o3, G3, K3⟩ := bindE H
    refine c_seqJ (fun a w => ∃ x14 : Bool, some (x14) = some o3 ∧ Fr 67 [] [(2, .int .i64 p2), (4, .pointer (some ⟨b1, 0, none⟩)), (6, .bool false), (49, .bool x14)] a ∧ Stw ⟨Y, [], w0⟩ [(b3, [.string (bs x4), .int .i64 x5, .int .i64 x6]), (b2, [.string (bs x7), .int .i64 x8]), (b1, [.int .i64 p1.1, .int .i64 p1.2.1.1, .int .i64 p1.2.1.2.1.1, .int .i64 p1.2.1.2.1.2.1, .int .i64 p1.2.1.2.1.2.2.1, .int .i64 p1.2.1.2.1.2.2.2, .int .i64 p1.2.1.2.2.1, .int .i64 p1.2.1.2.2.2.1, .int .i64 p1.2.1.2.2.2.2.1, .int .i64 p1.2.1.2.2.2.2.2, v1])] [] w) ?_ ?_
    ·
      have H := G3
      clear G3 K3
      refine reg_list ?_
      refine ls hF hW rfl ((y_load (v := Value.agg #[.int .i64 p1.1, .int .i64 p1.2.1.1, .int .i64 p1.2.1.2.1.1, .int .i64 p1.2.1.2.1.2.1, .int .i64 p1.2.1.2.1.2.2.1, .int .i64 p1.2.1.2.1.2.2.2, .int .i64 p1.2.1.2.2.1, .int .i64 p1.2.1.2.2.2.1, .int .i64 p1.2.1.2.2.2.2.1, .int .i64 p1.2.1.2.2.2.2.2, v1]) 2 hF rfl rfl T27 rfl).q) (fun a w hF hW => ?_)
      refine ls hF hW rfl ((y_move hF rfl).q) (fun a w hF hW => ?_)
      obtain ⟨x15, h7, H⟩ := bindE H
      refine ls hF hW rfl (y_call (v := Value.bool x15) hF H10 rfl (fun w hW => r10_Right_c any w (v1) p1 p2 _ h7 (((rdc_ro h_v1) : Rdc _ _ _ _ _ _) w hW).nx)) (fun a w hF hW => ?_)
      refine ls hF hW rfl ((y_not hF rfl).q) (fun a w hF hW => ?_)
      refine ls hF hW rfl ((y_move hF rfl).q) (fun a w hF hW => ?_)
      rcases Bool.eq_false_or_eq_true (!x15) with hb | hb
      ·
        have H := iteT hb H
        rw [hb] at hF
        clear hb
        refine ls_skip hF (wanted_n hF rfl rfl rfl rfl rfl) rfl rfl (fun a hF => ?_)
        refine ls_skip hF (wanted_n hF rfl rfl rfl rfl rfl) rfl rfl (fun a hF => ?_)
        refine ls hF hW rfl ((y_pick_t hF rfl rfl rfl).q) (fun a w hF hW => ?_)
        refine ls_nil ?_
        refine c_then ?_
        have hW := hW.frontM (i := 2) rfl rfl
        have hW := hW.frontM (i := 2) rfl rfl
        have hW := hW.frontM (i := 2) rfl rfl
        exact ⟨_, H, hF.re ⟨rfl, rfl, rfl, rfl, trivial⟩, hW⟩
      ·
        have H := iteF (by rw [hb]; decide) H
        rw [hb] at hF
        clear hb
        refine ls_w hF hW (wanted_y hF rfl rfl rfl rfl) rfl (Nat.le_of_ble_eq_true rfl) ((y_move hF rfl).q) (fun a w hF hW => ?_)
        refine ls_w hF hW (wanted_y hF rfl rfl rfl rfl) rfl (Nat.le_of_ble_eq_true rfl) ((y_gtr hF rfl rfl).q) (fun a w hF hW => ?_)
        refine ls hF hW rfl ((y_pick_f hF rfl rfl rfl).q) (fun a w hF hW => ?_)
        refine ls_nil ?_
        refine c_then ?_
        have hW := hW.frontM (i := 2) rfl rfl
        have hW := hW.frontM (i := 2) rfl rfl
        have hW := hW.frontM (i := 2) rfl rfl
        exact ⟨_, H, hF.re ⟨rfl, rfl, rfl, rfl, trivial⟩, hW⟩
    rintro a w ⟨x14, hj, hF, hW⟩
    have hj := Option.some.inj hj
    subst hj
    have H := K3
    clear G3 K3
    refine c_cond hF rfl (fun hb => ?_) (fun hb => ?_)
    ·
      have H := iteT hb H
      rw [hb] at hF
      clear hb
      refine c_seq ?_
      refine reg_list ?_
      obtain ⟨x16, h8, H⟩ := bindE H
      refine ls hF hW rfl (y_call (v := Value.bool x16) hF H8 rfl (fun w hW => L10_awake_c any w _ h8 (hG.go0 hW))) (fun a w hF hW => ?_)
      refine ls hF hW rfl ((y_assign hF rfl).q) (fun a w hF hW => ?_)
      refine ls_nil ?_
      refine c_then ?_
      refine wp_ret ?_
      refine r_then ?_
      have H := Option.some.inj H
      subst H
      refine post1 (.inl rfl) hF hW rfl (rv_tmp hF rfl) ?_
      exact ⟨rfl, hW.done⟩
    ·
      have H := iteF (by rw [hb]; decide) H
      rw [hb] at hF
      clear hb
      refine wp_skip ?_
      refine c_then ?_
      refine c_seq ?_
      refine reg_list ?_
      refine ls hF hW rfl ((y_load (v := Value.agg #[.int .i64 p1.1, .int .i64 p1.2.1.1, .int .i64 p1.2.1.2.1.1, .int .i64 p1.2.1.2.1.2.1, .int .i64 p1.2.1.2.1.2.2.1, .int .i64 p1.2.1.2.1.2.2.2, .int .i64 p1.2.1.2.2.1, .int .i64 p1.2.1.2.2.2.1, .int .i64 p1.2.1.2.2.2.2.1, .int .i64 p1.2.1.2.2.2.2.2, v1]) 2 hF rfl rfl T27 rfl).q) (fun a w hF hW => ?_)
      obtain ⟨x17, h9, H⟩ := bindE H
      refine ls hF hW rfl (y_call (v := Value.string (bs x17)) hF H17 rfl (fun w hW => rule_Code_c any w (v1) p1 _ h9 (((rdc_ro h_v1) : Rdc _ _ _ _ _ _) w hW).nx)) (fun a w hF hW => ?_)
      refine l_callG (Ml := []) (Zl := []) (M := [(b3, [.string (bs x4), .int .i64 x5, .int .i64 x6]), (b2, [.string (bs x7), .int .i64 x8]), (b1, [.int .i64 p1.1, .int .i64 p1.2.1.1, .int .i64 p1.2.1.2.1.1, .int .i64 p1.2.1.2.1.2.1, .int .i64 p1.2.1.2.1.2.2.1, .int .i64 p1.2.1.2.1.2.2.2, .int .i64 p1.2.1.2.2.1, .int .i64 p1.2.1.2.2.2.1, .int .i64 p1.2.1.2.2.2.2.1, .int .i64 p1.2.1.2.2.2.2.2, v1])]) (Z := []) (β := Nat) (rv := fun x => .pointer (some ⟨x, 0, none⟩)) (MM := fun x => [(x, [.string (bs ((octet_Open x17).1)), .int .i64 ((octet_Open x17).2)])]) (ZZ := fun x => []) hF hW H24 rfl rfl (fun hL => octet_Open_c _ w x17 _ rfl) (fun x a w hF hW => ?_)
      obtain ⟨b4, rfl⟩ : ∃ y, y = x := ⟨x, rfl⟩
      have hW : Stw ⟨Y, [], w0⟩ [(b4, [.string (bs ((octet_Open x17).1)), .int .i64 ((octet_Open x17).2)]), (b3, [.string (bs x4), .int .i64 x5, .int .i64 x6]), (b2, [.string (bs x7), .int .i64 x8]), (b1, [.int .i64 p1.1, .int .i64 p1.2.1.1, .int .i64 p1.2.1.2.1.1, .int .i64 p1.2.1.2.1.2.1, .int .i64 p1.2.1.2.1.2.2.1, .int .i64 p1.2.1.2.1.2.2.2, .int .i64 p1.2.1.2.2.1, .int .i64 p1.2.1.2.2.2.1, .int .i64 p1.2.1.2.2.2.2.1, .int .i64 p1.2.1.2.2.2.2.2, v1])] [] w := hW
      refine ls hF hW rfl ((y_assign hF rfl).q) (fun a w hF hW => ?_)
      refine ls_nil ?_
      refine c_then ?_
      obtain ⟨o4, G4, K4⟩ := bindE H
      refine c_seqJ (fun a w => ∃ x18 : Bool, ∃ x19 : List UInt8, ∃ x20 : Int, some ((x18, x19, x20)) = some o4 ∧ Fr 67 [] [(6, .bool x18)] a ∧ Stw ⟨Y, [], w0⟩ [(b4, [.string (bs x19), .int .i64 x20]), (b3, [.string (bs x4), .int .i64 x5, .int .i64 x6]), (b2, [.string (bs x7), .int .i64 x8]), (b1, [.int .i64 p1.1, .int .i64 p1.2.1.1, .int .i64 p1.2.1.2.1.1, .int .i64 p1.2.1.2.1.2.1, .int .i64 p1.2.1.2.1.2.2.1, .int .i64 p1.2.1.2.1.2.2.2, .int .i64 p1.2.1.2.2.1, .int .i64 p1.2.1.2.2.2.1, .int .i64 p1.2.1.2.2.2.2.1, .int .i64 p1.2.1.2.2.2.2.2, v1])] [] w) ?_ ?_
      ·
        have H := G4
        clear G4 K4
        refine reg_plan [(true, 0), (true, 1), (true, 3), (false, 2), (false, 4), (true, 5), (true, 6), (false, 7), (true, 8), (true, 9), (true, 10), (false, 11), (true, 12), (false, 13)] (CN ⟨Y, [], w0⟩ [(some 4, b1, [.int .i64 p1.1, .int .i64 p1.2.1.1, .int .i64 p1.2.1.2.1.1, .int .i64 p1.2.1.2.1.2.1, .int .i64 p1.2.1.2.1.2.2.1, .int .i64 p1.2.1.2.1.2.2.2, .int .i64 p1.2.1.2.2.1, .int .i64 p1.2.1.2.2.2.1, .int .i64 p1.2.1.2.2.2.2.1, .int .i64 p1.2.1.2.2.2.2.2, v1])] []) (fun ch a d v w h => by cases d <;> exact h) MO (by kernel_rfl) hW (fun w hW => ⟨_, _, hW, (all_cons (fun _ => (.tail _ (.tail _ (.tail _ (.head _))))) all_nil), all_nil⟩) (fun w hW => ?_)
        refine pl_t (R := []) hF rfl rfl (yC fun M Z hN hZ => y_move hF rfl) rfl rfl (fun a hF => ?_)
        refine pl_t (R := []) hF rfl rfl (yC fun M Z hN hZ => y_move hF rfl) rfl rfl (fun a hF => ?_)
        refine pl_t (R := [4]) hF rfl rfl (yC fun M Z hN hZ => y_load_m (cs := [.int .i64 p1.1, .int .i64 p1.2.1.1, .int .i64 p1.2.1.2.1.1, .int .i64 p1.2.1.2.1.2.1, .int .i64 p1.2.1.2.1.2.2.1, .int .i64 p1.2.1.2.1.2.2.2, .int .i64 p1.2.1.2.2.1, .int .i64 p1.2.1.2.2.2.1, .int .i64 p1.2.1.2.2.2.2.1, .int .i64 p1.2.1.2.2.2.2.2, v1]) (v := Value.agg #[.int .i64 p1.1, .int .i64 p1.2.1.1, .int .i64 p1.2.1.2.1.1, .int .i64 p1.2.1.2.1.2.1, .int .i64 p1.2.1.2.1.2.2.1, .int .i64 p1.2.1.2.1.2.2.2, .int .i64 p1.2.1.2.2.1, .int .i64 p1.2.1.2.2.2.1, .int .i64 p1.2.1.2.2.2.2.1, .int .i64 p1.2.1.2.2.2.2.2, v1]) hF rfl (hN ((some 4), b1, [.int .i64 p1.1, .int .i64 p1.2.1.1, .int .i64 p1.2.1.2.1.1, .int .i64 p1.2.1.2.1.2.1, .int .i64 p1.2.1.2.1.2.2.1, .int .i64 p1.2.1.2.1.2.2.2, .int .i64 p1.2.1.2.2.1, .int .i64 p1.2.1.2.2.2.1, .int .i64 p1.2.1.2.2.2.2.1, .int .i64 p1.2.1.2.2.2.2.2, v1]) (.head _) rfl) T27 rfl) (by kernel_rfl) rfl (fun a hF => ?_)
        refine pl_f rfl ?_
        obtain ⟨x21, h10, H⟩ := bindE H
        refine l_callG (Ml := [(b4, [.string (bs ((octet_Open x17).1)), .int .i64 ((octet_Open x17).2)])]) (Zl := []) (M := [(b3, [.string (bs x4), .int .i64 x5, .int .i64 x6]), (b2, [.string (bs x7), .int .i64 x8]), (b1, [.int .i64 p1.1, .int .i64 p1.2.1.1, .int .i64 p1.2.1.2.1.1, .int .i64 p1.2.1.2.1.2.1, .int .i64 p1.2.1.2.1.2.2.1, .int .i64 p1.2.1.2.1.2.2.2, .int .i64 p1.2.1.2.2.1, .int .i64 p1.2.1.2.2.2.1, .int .i64 p1.2.1.2.2.2.2.1, .int .i64 p1.2.1.2.2.2.2.2, v1])]) (Z := []) (β := Value) (rv := fun x => .agg #[.int .i64 x21.1.1, .int .i64 x21.1.2.1.1, .int .i64 x21.1.2.1.2.1.1, .int .i64 x21.1.2.1.2.1.2.1, .int .i64 x21.1.2.1.2.1.2.2.1, .int .i64 x21.1.2.1.2.1.2.2.2, .int .i64 x21.1.2.1.2.2.1, .int .i64 x21.1.2.1.2.2.2.1, .int .i64 x21.1.2.1.2.2.2.2.1, .int .i64 x21.1.2.1.2.2.2.2.2, x]) (MM := fun x => [(b4, [.string (bs x21.2.1), .int .i64 x21.2.2])]) (ZZ := fun x => [row x 60 R60 x21.1.2.2]) hF hW H25 rfl rfl (fun hL => rule_Read_c _ _ w b4 (octet_Open x17) p2 _ h10 hL) (fun x a w hF hW => ?_)
        obtain ⟨v4, rfl⟩ : ∃ y, y = x := ⟨x, rfl⟩
        have hW : Stw ⟨Y, [], w0⟩ [(b4, [.string (bs x21.2.1), .int .i64 x21.2.2]), (b3, [.string (bs x4), .int .i64 x5, .int .i64 x6]), (b2, [.string (bs x7), .int .i64 x8]), (b1, [.int .i64 p1.1, .int .i64 p1.2.1.1, .int .i64 p1.2.1.2.1.1, .int .i64 p1.2.1.2.1.2.1, .int .i64 p1.2.1.2.1.2.2.1, .int .i64 p1.2.1.2.1.2.2.2, .int .i64 p1.2.1.2.2.1, .int .i64 p1.2.1.2.2.2.1, .int .i64 p1.2.1.2.2.2.2.1, .int .i64 p1.2.1.2.2.2.2.2, v1])] [row v4 60 R60 x21.1.2.2] w := hW
        refine pl_next (N2 := []) (NZ2 := []) (N3 := [(some 4, b1, [.int .i64 p1.1, .int .i64 p1.2.1.1, .int .i64 p1.2.1.2.1.1, .int .i64 p1.2.1.2.1.2.1, .int .i64 p1.2.1.2.1.2.2.1, .int .i64 p1.2.1.2.1.2.2.2, .int .i64 p1.2.1.2.2.1, .int .i64 p1.2.1.2.2.2.1, .int .i64 p1.2.1.2.2.2.2.1, .int .i64 p1.2.1.2.2.2.2.2, v1])]) (NZ3 := []) hW rfl rfl (all_cons (fun _ => (.tail _ (.tail _ (.tail _ (.head _))))) all_nil) all_nil ?_
        refine pl_f rfl ?_
        obtain ⟨x22, h11, H⟩ := bindE H
        refine ls hF hW rfl (y_call (v := Value.bool x22) hF H11 rfl (fun w hW => rule_Same_c any w (v4) (v1) x21.1 p1 _ h11 (((rdc_row 0 rfl) : Rdc _ _ _ _ _ _) w hW).nx (((rdc_ro h_v1) : Rdc _ _ _ _ _ _) w hW).nx)) (fun a w hF hW => ?_)
        refine pl_next (N2 := []) (NZ2 := []) (N3 := [(some 4, b1, [.int .i64 p1.1, .int .i64 p1.2.1.1, .int .i64 p1.2.1.2.1.1, .int .i64 p1.2.1.2.1.2.1, .int .i64 p1.2.1.2.1.2.2.1, .int .i64 p1.2.1.2.1.2.2.2, .int .i64 p1.2.1.2.2.1, .int .i64 p1.2.1.2.2.2.1, .int .i64 p1.2.1.2.2.2.2.1, .int .i64 p1.2.1.2.2.2.2.2, v1])]) (NZ3 := []) hW rfl rfl (all_cons (fun h => rel_dead (by kernel_rfl) h) all_nil) all_nil ?_
        refine pl_t (R := []) hF rfl rfl (yC fun M Z hN hZ => y_move hF rfl) rfl rfl (fun a hF => ?_)
        rcases Bool.eq_false_or_eq_true x22 with hb | hb
        ·
          have H := iteT hb H
          rw [hb] at hF
          clear hb
          refine pl_w (R := []) hF rfl (wanted_y hF rfl rfl rfl rfl) rfl rfl (yC fun M Z hN hZ => y_move hF rfl) rfl rfl (fun a hF => ?_)
          refine pl_f rfl ?_
          refine ls_g (wanted_y hF rfl rfl rfl rfl) ?_
          obtain ⟨x23, h12, H⟩ := bindE H
          refine l_callG (Ml := [(b4, [.string (bs x21.2.1), .int .i64 x21.2.2])]) (Zl := []) (M := [(b3, [.string (bs x4), .int .i64 x5, .int .i64 x6]), (b2, [.string (bs x7), .int .i64 x8]), (b1, [.int .i64 p1.1, .int .i64 p1.2.1.1, .int .i64 p1.2.1.2.1.1, .int .i64 p1.2.1.2.1.2.1, .int .i64 p1.2.1.2.1.2.2.1, .int .i64 p1.2.1.2.1.2.2.2, .int .i64 p1.2.1.2.2.1, .int .i64 p1.2.1.2.2.2.1, .int .i64 p1.2.1.2.2.2.2.1, .int .i64 p1.2.1.2.2.2.2.2, v1])]) (Z := [row v4 60 R60 x21.1.2.2]) (β := Unit) (rv := fun x => .int .i64 x23.1) (MM := fun x => [(b4, [.string (bs x23.2.1), .int .i64 x23.2.2])]) (ZZ := fun x => []) hF hW H29 rfl rfl (fun hL => octet_Reader_End_c _ _ w b4 x21.2 _ h12 hL) (fun x a w hF hW => ?_)
          have hW : Stw ⟨Y, [], w0⟩ [(b4, [.string (bs x23.2.1), .int .i64 x23.2.2]), (b3, [.string (bs x4), .int .i64 x5, .int .i64 x6]), (b2, [.string (bs x7), .int .i64 x8]), (b1, [.int .i64 p1.1, .int .i64 p1.2.1.1, .int .i64 p1.2.1.2.1.1, .int .i64 p1.2.1.2.1.2.1, .int .i64 p1.2.1.2.1.2.2.1, .int .i64 p1.2.1.2.1.2.2.2, .int .i64 p1.2.1.2.2.1, .int .i64 p1.2.1.2.2.2.1, .int .i64 p1.2.1.2.2.2.2.1, .int .i64 p1.2.1.2.2.2.2.2, v1])] [row v4 60 R60 x21.1.2.2] w := hW
          refine pl_next (N2 := []) (NZ2 := []) (N3 := [(some 4, b1, [.int .i64 p1.1, .int .i64 p1.2.1.1, .int .i64 p1.2.1.2.1.1, .int .i64 p1.2.1.2.1.2.1, .int .i64 p1.2.1.2.1.2.2.1, .int .i64 p1.2.1.2.1.2.2.2, .int .i64 p1.2.1.2.2.1, .int .i64 p1.2.1.2.2.2.1, .int .i64 p1.2.1.2.2.2.2.1, .int .i64 p1.2.1.2.2.2.2.2, v1])]) (NZ3 := []) hW rfl rfl (all_cons (fun h => rel_dead (by kernel_rfl) h) all_nil) all_nil ?_
          refine pl_w (R := []) hF rfl (wanted_y hF rfl rfl rfl rfl) rfl rfl (yC fun M Z hN hZ => y_eql hF rfl rfl) rfl rfl (fun a hF => ?_)
          refine pl_t (R := []) hF rfl rfl (yC fun M Z hN hZ => y_pick_t hF rfl rfl rfl) rfl rfl (fun a hF => ?_)
          refine pl_t (R := []) hF rfl rfl (yC fun M Z hN hZ => y_move hF rfl) rfl rfl (fun a hF => ?_)
          rcases Bool.eq_false_or_eq_true (decide (x23.1 = 0)) with hb | hb
          ·
            have H := iteT (of_decide_eq_true hb) H
            rw [hb] at hF
            clear hb
            refine pl_f rfl ?_
            refine ls_g (wanted_y hF rfl rfl rfl rfl) ?_
            obtain ⟨x24, h13, H⟩ := bindE H
            refine ls hF hW rfl (y_call (v := Value.bool x24) hF H8 rfl (fun w hW => L10_awake_c any w _ h13 (hG.go0 hW))) (fun a w hF hW => ?_)
            refine pl_next (N2 := []) (NZ2 := []) (N3 := [(some 4, b1, [.int .i64 p1.1, .int .i64 p1.2.1.1, .int .i64 p1.2.1.2.1.1, .int .i64 p1.2.1.2.1.2.1, .int .i64 p1.2.1.2.1.2.2.1, .int .i64 p1.2.1.2.1.2.2.2, .int .i64 p1.2.1.2.2.1, .int .i64 p1.2.1.2.2.2.1, .int .i64 p1.2.1.2.2.2.2.1, .int .i64 p1.2.1.2.2.2.2.2, v1])]) (NZ3 := []) hW rfl rfl (all_cons (fun h => rel_dead (by kernel_rfl) h) all_nil) all_nil ?_
            refine pl_t (R := []) hF rfl rfl (yC fun M Z hN hZ => y_pick_t hF rfl rfl rfl) rfl rfl (fun a hF => ?_)
            refine pl_f rfl ?_
            refine ls hF hW rfl ((y_assign hF rfl).q) (fun a w hF hW => ?_)
            refine pl_next (N2 := []) (NZ2 := []) (N3 := [(some 4, b1, [.int .i64 p1.1, .int .i64 p1.2.1.1, .int .i64 p1.2.1.2.1.1, .int .i64 p1.2.1.2.1.2.1, .int .i64 p1.2.1.2.1.2.2.1, .int .i64 p1.2.1.2.1.2.2.2, .int .i64 p1.2.1.2.2.1, .int .i64 p1.2.1.2.2.2.1, .int .i64 p1.2.1.2.2.2.2.1, .int .i64 p1.2.1.2.2.2.2.2, v1])]) (NZ3 := []) hW rfl rfl (all_cons (fun h => rel_dead (by kernel_rfl) h) all_nil) all_nil ?_
            refine pl_end ?_
            refine c_then ?_
            have hW := hW.frontM (i := 3) rfl rfl
            have hW := hW.frontM (i := 3) rfl rfl
            have hW := hW.frontM (i := 3) rfl rfl
            have hW := hW.frontM (i := 3) rfl rfl
            have hW := hW.sub (M' := [(b4, [.string (bs x23.2.1), .int .i64 x23.2.2]), (b3, [.string (bs x4), .int .i64 x5, .int .i64 x6]), (b2, [.string (bs x7), .int .i64 x8]), (b1, [.int .i64 p1.1, .int .i64 p1.2.1.1, .int .i64 p1.2.1.2.1.1, .int .i64 p1.2.1.2.1.2.1, .int .i64 p1.2.1.2.1.2.2.1, .int .i64 p1.2.1.2.1.2.2.2, .int .i64 p1.2.1.2.2.1, .int .i64 p1.2.1.2.2.2.1, .int .i64 p1.2.1.2.2.2.2.1, .int .i64 p1.2.1.2.2.2.2.2, v1])]) (Z' := []) (List.Sublist.refl _) (List.nil_sublist _)
            exact ⟨_, _, _, H, hF.re ⟨rfl, trivial⟩, hW⟩
          ·
            have H := iteF (of_decide_eq_false hb) H
            rw [hb] at hF
            clear hb
            refine pl_f rfl ?_
            refine ls_skip hF (wanted_n hF rfl rfl rfl rfl rfl) rfl rfl (fun a hF => ?_)
            refine pl_next (N2 := []) (NZ2 := []) (N3 := [(some 4, b1, [.int .i64 p1.1, .int .i64 p1.2.1.1, .int .i64 p1.2.1.2.1.1, .int .i64 p1.2.1.2.1.2.1, .int .i64 p1.2.1.2.1.2.2.1, .int .i64 p1.2.1.2.1.2.2.2, .int .i64 p1.2.1.2.2.1, .int .i64 p1.2.1.2.2.2.1, .int .i64 p1.2.1.2.2.2.2.1, .int .i64 p1.2.1.2.2.2.2.2, v1])]) (NZ3 := []) hW rfl rfl (all_cons (fun h => rel_dead (by kernel_rfl) h) all_nil) all_nil ?_
            refine pl_t (R := []) hF rfl rfl (yC fun M Z hN hZ => y_pick_f hF rfl rfl rfl) rfl rfl (fun a hF => ?_)
            refine pl_f rfl ?_
            refine ls hF hW rfl ((y_assign hF rfl).q) (fun a w hF hW => ?_)
            refine pl_next (N2 := []) (NZ2 := []) (N3 := [(some 4, b1, [.int .i64 p1.1, .int .i64 p1.2.1.1, .int .i64 p1.2.1.2.1.1, .int .i64 p1.2.1.2.1.2.1, .int .i64 p1.2.1.2.1.2.2.1, .int .i64 p1.2.1.2.1.2.2.2, .int .i64 p1.2.1.2.2.1, .int .i64 p1.2.1.2.2.2.1, .int .i64 p1.2.1.2.2.2.2.1, .int .i64 p1.2.1.2.2.2.2.2, v1])]) (NZ3 := []) hW rfl rfl (all_cons (fun h => rel_dead (by kernel_rfl) h) all_nil) all_nil ?_
            refine pl_end ?_
            refine c_then ?_
            have hW := hW.frontM (i := 3) rfl rfl
            have hW := hW.frontM (i := 3) rfl rfl
            have hW := hW.frontM (i := 3) rfl rfl
            have hW := hW.frontM (i := 3) rfl rfl
            have hW := hW.sub (M' := [(b4, [.string (bs x23.2.1), .int .i64 x23.2.2]), (b3, [.string (bs x4), .int .i64 x5, .int .i64 x6]), (b2, [.string (bs x7), .int .i64 x8]), (b1, [.int .i64 p1.1, .int .i64 p1.2.1.1, .int .i64 p1.2.1.2.1.1, .int .i64 p1.2.1.2.1.2.1, .int .i64 p1.2.1.2.1.2.2.1, .int .i64 p1.2.1.2.1.2.2.2, .int .i64 p1.2.1.2.2.1, .int .i64 p1.2.1.2.2.2.1, .int .i64 p1.2.1.2.2.2.2.1, .int .i64 p1.2.1.2.2.2.2.2, v1])]) (Z' := []) (List.Sublist.refl _) (List.nil_sublist _)
            exact ⟨_, _, _, H, hF.re ⟨rfl, trivial⟩, hW⟩
        ·
          have H := iteF (by rw [hb]; decide) H
          rw [hb] at hF
          clear hb
          refine pl_skip hF rfl (wanted_n hF rfl rfl rfl rfl rfl) rfl rfl rfl (fun a hF => ?_)
          refine pl_f rfl ?_
          refine ls_skip hF (wanted_n hF rfl rfl rfl rfl rfl) rfl rfl (fun a hF => ?_)
          refine pl_next (N2 := []) (NZ2 := []) (N3 := [(some 4, b1, [.int .i64 p1.1, .int .i64 p1.2.1.1, .int .i64 p1.2.1.2.1.1, .int .i64 p1.2.1.2.1.2.1, .int .i64 p1.2.1.2.1.2.2.1, .int .i64 p1.2.1.2.1.2.2.2, .int .i64 p1.2.1.2.2.1, .int .i64 p1.2.1.2.2.2.1, .int .i64 p1.2.1.2.2.2.2.1, .int .i64 p1.2.1.2.2.2.2.2, v1])]) (NZ3 := []) hW rfl rfl (all_cons (fun h => rel_dead (by kernel_rfl) h) all_nil) all_nil ?_
          refine pl_skip hF rfl (wanted_n hF rfl rfl rfl rfl rfl) rfl rfl rfl (fun a hF => ?_)
          refine pl_t (R := []) hF rfl rfl (yC fun M Z hN hZ => y_pick_f hF rfl rfl rfl) rfl rfl (fun a hF => ?_)
          refine pl_t (R := []) hF rfl rfl (yC fun M Z hN hZ => y_move hF rfl) rfl rfl (fun a hF => ?_)
          refine pl_f rfl ?_
          refine ls_skip hF (wanted_n hF rfl rfl rfl rfl rfl) rfl rfl (fun a hF => ?_)
          refine pl_next (N2 := []) (NZ2 := []) (N3 := [(some 4, b1, [.int .i64 p1.1, .int .i64 p1.2.1.1, .int .i64 p1.2.1.2.1.1, .int .i64 p1.2.1.2.1.2.1, .int .i64 p1.2.1.2.1.2.2.1, .int .i64 p1.2.1.2.1.2.2.2, .int .i64 p1.2.1.2.2.1, .int .i64 p1.2.1.2.2.2.1, .int .i64 p1.2.1.2.2.2.2.1, .int .i64 p1.2.1.2.2.2.2.2, v1])]) (NZ3 := []) hW rfl rfl (all_cons (fun h => rel_dead (by kernel_rfl) h) all_nil) all_nil ?_
          refine pl_t (R := []) hF rfl rfl (yC fun M Z hN hZ => y_pick_f hF rfl rfl rfl) rfl rfl (fun a hF => ?_)
          refine pl_f rfl ?_
          refine ls hF hW rfl ((y_assign hF rfl).q) (fun a w hF hW => ?_)
          refine pl_next (N2 := []) (NZ2 := []) (N3 := [(some 4, b1, [.int .i64 p1.1, .int .i64 p1.2.1.1, .int .i64 p1.2.1.2.1.1, .int .i64 p1.2.1.2.1.2.1, .int .i64 p1.2.1.2.1.2.2.1, .int .i64 p1.2.1.2.1.2.2.2, .int .i64 p1.2.1.2.2.1, .int .i64 p1.2.1.2.2.2.1, .int .i64 p1.2.1.2.2.2.2.1, .int .i64 p1.2.1.2.2.2.2.2, v1])]) (NZ3 := []) hW rfl rfl (all_cons (fun h => rel_dead (by kernel_rfl) h) all_nil) all_nil ?_
          refine pl_end ?_
          refine c_then ?_
          have hW := hW.frontM (i := 3) rfl rfl
          have hW := hW.frontM (i := 3) rfl rfl
          have hW := hW.frontM (i := 3) rfl rfl
          have hW := hW.frontM (i := 3) rfl rfl
          have hW := hW.sub (M' := [(b4, [.string (bs x21.2.1), .int .i64 x21.2.2]), (b3, [.string (bs x4), .int .i64 x5, .int .i64 x6]), (b2, [.string (bs x7), .int .i64 x8]), (b1, [.int .i64 p1.1, .int .i64 p1.2.1.1, .int .i64 p1.2.1.2.1.1, .int .i64 p1.2.1.2.1.2.1, .int .i64 p1.2.1.2.1.2.2.1, .int .i64 p1.2.1.2.1.2.2.2, .int .i64 p1.2.1.2.2.1, .int .i64 p1.2.1.2.2.2.1, .int .i64 p1.2.1.2.2.2.2.1, .int .i64 p1.2.1.2.2.2.2.2, v1])]) (Z' := []) (List.Sublist.refl _) (List.nil_sublist _)
          exact ⟨_, _, _, H, hF.re ⟨rfl, trivial⟩, hW⟩
      rintro a w ⟨x18, x19, x20, hj, hF, hW⟩
      have hj := Option.some.inj hj
      subst hj
      have H := K4
      clear G4 K4
      refine wp_ret ?_
      have H := Option.some.inj H
      subst H
      refine post1 (.inl rfl) hF hW rfl (rv_tmp hF rfl) ?_
      exact ⟨rfl, hW.done⟩

theorem Ar69 : Ar Tryd.prog 69 4 3 1 := ⟨Tryd.underlying69, by kernel_rfl⟩
noncomputable def match_Hits_l1 (p0 : Int × (Int × Int × Int × Int) × (Int × Int × Int × Int)) (p2 : Int × Int × Int × Int) : Int → Option (Int ⊕ (Unit ⊕ Bool))
  | x1 => (if x1 < 4 then (ix ([p0.2.2.1, p0.2.2.2.1, p0.2.2.2.2.1, p0.2.2.2.2.2] : List Int) x1).bind fun x2 => (ix ([p2.1, p2.2.1, p2.2.2.1, p2.2.2.2] : List Int) x1).bind fun x3 => (ix ([p0.2.1.1, p0.2.1.2.1, p0.2.1.2.2.1, p0.2.1.2.2.2] : List Int) x1).bind fun x4 => (if (andI .i64 (xorI .i64 x3 x4) x2) ≠ 0 then some (.inr (.inr false)) else some (.inl (w64 (x1 + 1)))) else some (.inr (.inl ())))
noncomputable def match_Hits (p0 : Int × (Int × Int × Int × Int) × (Int × Int × Int × Int)) (p1 : Int) (p2 : Int × Int × Int × Int) : Option Bool := (if (decide (p0.1 ≠ (-1)) && decide (p0.1 ≠ p1)) = true then some false else orR (loopW (match_Hits_l1 p0 p2) 0) fun _ => some true)
theorem match_Hits_c (Y : Nat → Prop) (w0 : World)  (p0 : Int × (Int × Int × Int × Int) × (Int × Int × Int × Int)) (p1 : Int) (p2 : Int × Int × Int × Int) (r : Bool) (H : match_Hits p0 p1 p2 = some r)  :
    Calls Tryd.prog 32 #[.agg #[.int .i64 p0.1, .int .i64 p0.2.1.1, .int .i64 p0.2.1.2.1, .int .i64 p0.2.1.2.2.1, .int .i64 p0.2.1.2.2.2, .int .i64 p0.2.2.1, .int .i64 p0.2.2.2.1, .int .i64 p0.2.2.2.2.1, .int .i64 p0.2.2.2.2.2], .int .i64 p1, .agg #[.int .i64 p2.1, .int .i64 p2.2.1, .int .i64 p2.2.2.1, .int .i64 p2.2.2.2]] w0 fun e w' => e = .returned (.bool r) ∧ Below w0.heap.size w0 w' := by
  refine enter Tryd.func32 rfl Tryd.ntmps32 rfl (fun a hF => ?_)
  have hW := Stw.start Y w0
  unfold match_Hits at H
  refine c_seq ?_
  refine reg_list ?_
  refine l_box (cs := [.int .i64 p0.1, .int .i64 p0.2.1.1, .int .i64 p0.2.1.2.1, .int .i64 p0.2.1.2.2.1, .int .i64 p0.2.1.2.2.2, .int .i64 p0.2.2.1, .int .i64 p0.2.2.2.1, .int .i64 p0.2.2.2.2.1, .int .i64 p0.2.2.2.2.2]) hF hW rfl rfl rfl (fun b1 a w hF hW => ?_)
  refine l_box (cs := [.int .i64 p2.1, .int .i64 p2.2.1, .int .i64 p2.2.2.1, .int .i64 p2.2.2.2]) hF hW rfl rfl rfl (fun b2 a w hF hW => ?_)
  refine ls hF hW rfl ((y_assign hF rfl).q) (fun a w hF hW => ?_)
  refine ls_nil ?_
  refine c_then ?_
  refine c_seq ?_
  refine c_seqJ (fun a w => Fr 36 [] [(3, .pointer (some ⟨b1, 0, none⟩)), (5, .pointer (some ⟨b2, 0, none⟩)), (6, .bool false), (17, .bool (decide (p0.1 ≠ (-1)) && decide (p0.1 ≠ p1)))] a ∧ Stw ⟨Y, [], w0⟩ [(b2, [.int .i64 p2.1, .int .i64 p2.2.1, .int .i64 p2.2.2.1, .int .i64 p2.2.2.2]), (b1, [.int .i64 p0.1, .int .i64 p0.2.1.1, .int .i64 p0.2.1.2.1, .int .i64 p0.2.1.2.2.1, .int .i64 p0.2.1.2.2.2, .int .i64 p0.2.2.1, .int .i64 p0.2.2.2.1, .int .i64 p0.2.2.2.2.1, .int .i64 p0.2.2.2.2.2])] [] w) ?_ ?_
  ·
    refine reg_list ?_
    refine ls hF hW rfl ((y_fieldAddr Tryd.underlying24 rfl rfl rfl T3 hF rfl 0 rfl).q) (fun a w hF hW => ?_)
    refine ls hF hW rfl ((y_load (v := Value.int .i64 p0.1) 1 hF rfl rfl T3 rfl).q) (fun a w hF hW => ?_)
    refine ls hF hW rfl ((y_neq hF rfl rfl).q) (fun a w hF hW => ?_)
    refine ls hF hW rfl ((y_move hF rfl).q) (fun a w hF hW => ?_)
    rcases Bool.eq_false_or_eq_true (decide (p0.1 ≠ (-1))) with hb0 | hb0
    ·
      rw [hb0] at hF
      refine ls_w hF hW (wanted_y hF rfl rfl rfl rfl) rfl (Nat.le_of_ble_eq_true rfl) ((y_fieldAddr Tryd.underlying24 rfl rfl rfl T3 hF rfl 0 rfl).q) (fun a w hF hW => ?_)
      refine ls_w hF hW (wanted_y hF rfl rfl rfl rfl) rfl (Nat.le_of_ble_eq_true rfl) ((y_load (v := Value.int .i64 p0.1) 1 hF rfl rfl T3 rfl).q) (fun a w hF hW => ?_)
      refine ls_w hF hW (wanted_y hF rfl rfl rfl rfl) rfl (Nat.le_of_ble_eq_true rfl) ((y_move hF rfl).q) (fun a w hF hW => ?_)
      refine ls_w hF hW (wanted_y hF rfl rfl rfl rfl) rfl (Nat.le_of_ble_eq_true rfl) ((y_neq hF rfl rfl).q) (fun a w hF hW => ?_)
      refine ls hF hW rfl ((y_pick_t hF rfl rfl rfl).q) (fun a w hF hW => ?_)
      refine ls_nil ?_
      refine c_then ?_
      exact ⟨hF.re ⟨rfl, rfl, rfl, (by show some (Value.bool (decide (p0.1 ≠ p1))) = some (Value.bool (decide (p0.1 ≠ (-1)) && decide (p0.1 ≠ p1))); try rw [hb0]; all_goals simp only [Bool.not_true, Bool.not_false, Bool.true_and, Bool.false_and, Bool.true_or, Bool.false_or, Bool.and_true, Bool.or_false, cond_true, cond_false]), trivial⟩, hW⟩
    ·
      rw [hb0] at hF
      refine ls_skip hF (wanted_n hF rfl rfl rfl rfl rfl) rfl rfl (fun a hF => ?_)
      refine ls_skip hF (wanted_n hF rfl rfl rfl rfl rfl) rfl rfl (fun a hF => ?_)
      refine ls_skip hF (wanted_n hF rfl rfl rfl rfl rfl) rfl rfl (fun a hF => ?_)
      refine ls_skip hF (wanted_n hF rfl rfl rfl rfl rfl) rfl rfl (fun a hF => ?_)
      refine ls hF hW rfl ((y_pick_f hF rfl rfl rfl).q) (fun a w hF hW => ?_)
      refine ls_nil ?_
      refine c_then ?_
      exact ⟨hF.re ⟨rfl, rfl, rfl, (by show some (Value.bool false) = some (Value.bool (decide (p0.1 ≠ (-1)) && decide (p0.1 ≠ p1))); try rw [hb0]; all_goals simp only [Bool.not_true, Bool.not_false, Bool.true_and, Bool.false_and, Bool.true_or, Bool.false_or, Bool.and_true, Bool.or_false, cond_true, cond_false]), trivial⟩, hW⟩
  rintro a w ⟨hF, hW⟩
  refine c_cond hF rfl (fun hb => ?_) (fun hb => ?_)
  ·
    have H := iteT hb H
    rw [hb] at hF
    clear hb
    refine c_seq ?_
    refine reg_list ?_
    refine ls hF hW rfl ((y_assign hF rfl).q) (fun a w hF hW => ?_)
    refine ls_nil ?_
    refine c_then ?_
    refine wp_ret ?_
    refine r_then ?_
    have H := Option.some.inj H
    subst H
    refine post1 (.inl rfl) hF hW rfl (rv_tmp hF rfl) ?_
    exact ⟨rfl, hW.done⟩
  ·
    have H := iteF (by rw [hb]; decide) H
    rw [hb] at hF
    clear hb
    refine wp_skip ?_
    refine c_then ?_
    obtain ⟨o1, G1, K1, L1⟩ := orE H
    refine c_seqJ (fun a w => some (Sum.inl ()) = some o1 ∧ Fr 36 [] [(6, .bool false)] a ∧ Stw ⟨Y, [], w0⟩ [(b2, [.int .i64 p2.1, .int .i64 p2.2.1, .int .i64 p2.2.2.1, .int .i64 p2.2.2.2]), (b1, [.int .i64 p0.1, .int .i64 p0.2.1.1, .int .i64 p0.2.1.2.1, .int .i64 p0.2.1.2.2.1, .int .i64 p0.2.1.2.2.2, .int .i64 p0.2.2.1, .int .i64 p0.2.2.2.1, .int .i64 p0.2.2.2.2.1, .int .i64 p0.2.2.2.2.2])] [] w) ?_ ?_
    ·
      have H := G1
      clear G1 K1
      refine c_seq ?_
      refine reg_list ?_
      refine ls hF hW rfl ((y_fieldAddr Tryd.underlying24 rfl rfl rfl T22 hF rfl 5 rfl).q) (fun a w hF hW => ?_)
      refine ls hF hW rfl ((y_load (v := Value.agg #[.int .i64 p0.2.2.1, .int .i64 p0.2.2.2.1, .int .i64 p0.2.2.2.2.1, .int .i64 p0.2.2.2.2.2]) 1 hF rfl rfl T22 rfl).q) (fun a w hF hW => ?_)
      refine ls hF hW rfl ((y_move hF rfl).q) (fun a w hF hW => ?_)
      refine ls_nil ?_
      refine c_then ?_
      refine wp_block ?_
      have hW := hW.frontM (i := 1) rfl rfl
      have hW := hW.frontM (i := 1) rfl rfl
      refine c_loopW H (fun s a w => Fr 36 [] [(3, .pointer (some ⟨b1, 0, none⟩)), (5, .pointer (some ⟨b2, 0, none⟩)), (6, .bool false), (19, .agg #[.int .i64 p0.2.2.1, .int .i64 p0.2.2.2.1, .int .i64 p0.2.2.2.2.1, .int .i64 p0.2.2.2.2.2]), (20, .int .i64 s)] a ∧ Stw ⟨Y, [], w0⟩ [(b2, [.int .i64 p2.1, .int .i64 p2.2.1, .int .i64 p2.2.2.1, .int .i64 p2.2.2.2]), (b1, [.int .i64 p0.1, .int .i64 p0.2.1.1, .int .i64 p0.2.1.2.1, .int .i64 p0.2.1.2.2.1, .int .i64 p0.2.1.2.2.2, .int .i64 p0.2.2.1, .int .i64 p0.2.2.2.1, .int .i64 p0.2.2.2.2.1, .int .i64 p0.2.2.2.2.2])] [] w) ⟨hF.re ⟨rfl, rfl, rfl, rfl, rfl, trivial⟩, hW⟩ (fun s o a w H L2 hR => ?_)
      obtain ⟨x1, rfl⟩ : ∃ x, x = s := ⟨s, rfl⟩
      obtain ⟨hF, hW⟩ := hR
      have hF : Fr 36 [] [(3, .pointer (some ⟨b1, 0, none⟩)), (5, .pointer (some ⟨b2, 0, none⟩)), (6, .bool false), (19, .agg #[.int .i64 p0.2.2.1, .int .i64 p0.2.2.2.1, .int .i64 p0.2.2.2.2.1, .int .i64 p0.2.2.2.2.2]), (20, .int .i64 x1)] a := hF
      have hW : Stw ⟨Y, [], w0⟩ [(b2, [.int .i64 p2.1, .int .i64 p2.2.1, .int .i64 p2.2.2.1, .int .i64 p2.2.2.2]), (b1, [.int .i64 p0.1, .int .i64 p0.2.1.1, .int .i64 p0.2.1.2.1, .int .i64 p0.2.1.2.2.1, .int .i64 p0.2.1.2.2.2, .int .i64 p0.2.2.1, .int .i64 p0.2.2.2.1, .int .i64 p0.2.2.2.2.1, .int .i64 p0.2.2.2.2.2])] [] w := hW
      rw [match_Hits_l1] at H
      refine c_seq ?_
      refine reg_list ?_
      refine ls hF hW rfl ((y_lss hF rfl rfl).q) (fun a w hF hW => ?_)
      refine ls_nil ?_
      refine c_then ?_
      refine c_seq ?_
      refine c_cond hF rfl (fun hb => ?_) (fun hb => ?_)
      ·
        have H := iteT (of_decide_eq_true hb) H
        rw [hb] at hF
        clear hb
        refine wp_skip ?_
        refine c_then ?_
        refine c_seq ?_
        refine wp_block ?_
        refine c_seq ?_
        refine reg_list ?_
        refine ls hF hW rfl ((y_move hF rfl).q) (fun a w hF hW => ?_)
        obtain ⟨x2, h1, H⟩ := bindE H
        refine ls hF hW rfl ((y_indexA (enc := Value.int .i64) (cs := [.int .i64 p0.2.2.1, .int .i64 p0.2.2.2.1, .int .i64 p0.2.2.2.2.1, .int .i64 p0.2.2.2.2.2]) Ar22 T3 hF rfl rfl rfl rfl h1).q) (fun a w hF hW => ?_)
        refine ls hF hW rfl ((y_assign hF rfl).q) (fun a w hF hW => ?_)
        refine ls hF hW rfl ((y_assign hF rfl).q) (fun a w hF hW => ?_)
        refine ls_nil ?_
        refine c_then ?_
        refine c_seq ?_
        refine reg_quiet hW MO (by kernel_rfl) ?_
        refine qs hF rfl ((y_move hF rfl).q) (fun a hF => ?_)
        obtain ⟨x3, h2, H⟩ := bindE H
        refine qs hF rfl ((y_indexP (0 + (x1).toNat * 1) Ar69 hF rfl rfl rfl h2 rfl).q) (fun a hF => ?_)
        refine qs hF rfl ((y_load (v := Value.int .i64 x3) 0 hF rfl rfl T3 (rdv_dyn (base := 0) (m := 4) (l := [p2.1, p2.2.1, p2.2.2.1, p2.2.2.2]) (enc := Value.int .i64) rfl h2)).q) (fun a hF => ?_)
        refine qs hF rfl ((y_move hF rfl).q) (fun a hF => ?_)
        refine qs hF rfl ((y_fieldAddr Tryd.underlying24 rfl rfl rfl T22 hF rfl 1 rfl).q) (fun a hF => ?_)
        obtain ⟨x4, h3, H⟩ := bindE H
        refine qs hF rfl ((y_indexP (1 + (x1).toNat * 1) Ar22 hF rfl rfl rfl h3 rfl).q) (fun a hF => ?_)
        refine qs hF rfl ((y_load (v := Value.int .i64 x4) 1 hF rfl rfl T3 (rdv_dyn (base := 1) (m := 4) (l := [p0.2.1.1, p0.2.1.2.1, p0.2.1.2.2.1, p0.2.1.2.2.2]) (enc := Value.int .i64) rfl h3)).q) (fun a hF => ?_)
        refine qs hF rfl ((y_xor hF rfl rfl).q) (fun a hF => ?_)
        refine qs hF rfl ((y_move hF rfl).q) (fun a hF => ?_)
        refine qs hF rfl ((y_and hF rfl rfl).q) (fun a hF => ?_)
        refine qs hF rfl ((y_neq hF rfl rfl).q) (fun a hF => ?_)
        refine quiet_end (fun w hW => ?_)
        refine c_then ?_
        refine c_cond hF rfl (fun hb => ?_) (fun hb => ?_)
        ·
          have H := iteT (of_decide_eq_true hb) H
          rw [hb] at hF
          clear hb
          refine c_seq ?_
          refine reg_list ?_
          refine ls hF hW rfl ((y_assign hF rfl).q) (fun a w hF hW => ?_)
          refine ls_nil ?_
          refine c_then ?_
          refine wp_ret ?_
          refine r_block ?_
          refine r_then ?_
          refine r_then ?_
          refine r_block ?_
          refine r_then ?_
          have H := L2 _ H
          have H := L1 _ H
          have H := Option.some.inj H
          subst H
          refine post1 (.inl rfl) hF hW rfl (rv_tmp hF rfl) ?_
          exact ⟨rfl, hW.done⟩
        ·
          have H := iteF (of_decide_eq_false hb) H
          rw [hb] at hF
          clear hb
          refine wp_skip ?_
          refine b_normal ?_
          refine c_then ?_
          refine reg_list ?_
          refine ls hF hW rfl ((y_add hF rfl rfl rfl).q) (fun a w hF hW => ?_)
          refine ls hF hW rfl ((y_move hF rfl).q) (fun a w hF hW => ?_)
          refine ls_nil ?_
          refine c_then ?_
          have hW := hW.frontM (i := 1) rfl rfl
          have hW := hW.frontM (i := 1) rfl rfl
          exact ⟨_, H, hF.re ⟨rfl, rfl, rfl, rfl, rfl, trivial⟩, hW⟩
      ·
        have H := iteF (of_decide_eq_false hb) H
        rw [hb] at hF
        clear hb
        refine wp_exit ?_
        refine e_then ?_
        refine e_then ?_
        refine e_block ?_
        refine c_then ?_
        have hW := hW.frontM (i := 1) rfl rfl
        have hW := hW.frontM (i := 1) rfl rfl
        have H := L2 _ H
        exact ⟨H, hF.re ⟨rfl, trivial⟩, hW⟩
    rintro a w ⟨hj, hF, hW⟩
    have H := K1 _ hj
    clear hj G1 K1 L1
    refine c_seq ?_
    refine reg_list ?_
    refine ls hF hW rfl ((y_assign hF rfl).q) (fun a w hF hW => ?_)
    refine ls_nil ?_
    refine c_then ?_
    refine wp_ret ?_
    have H := Option.some.inj H
    subst H
    refine post1 (.inl rfl) hF hW rfl (rv_tmp hF rfl) ?_
    exact ⟨rfl, hW.done⟩

end Go.Proofs.YteeioghoidjbpaaDoor
