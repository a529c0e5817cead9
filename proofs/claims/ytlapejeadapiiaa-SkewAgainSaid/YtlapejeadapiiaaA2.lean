/- The functions of layer 15, lifted. Conditions: none. -/
import Derived.Test.YtlapejeadapiiaaA1
namespace Go.Proofs.Ytlapejeadapiiaa
open Go Go.RowKit
set_option linter.unusedVariables false
set_option linter.unusedSimpArgs false
set_option maxRecDepth 20000
theorem H19 : Has Try.prog 19 := ⟨fun args w => run_callFunc_body Try.func19 rfl (by decide) args w⟩
noncomputable def L15_SkewTells_l1 (p0 : Bool × (Int × Int) × Int) (p1 : Int) (p2 : Int) (p3 : Int) (p4 : Int) : Int → Option (Int ⊕ (Unit ⊕ Bool))
  | x1 => (if x1 < (([p0.2.2, p1, p2, p3, p4] : List Int).length : Int) then ((ix ([p0.2.2, p1, p2, p3, p4] : List Int) x1).bind fun x3 => (if x3 < (-1125899906842624) then some true else (ix ([p0.2.2, p1, p2, p3, p4] : List Int) x1).bind fun x4 => some (decide (1125899906842624 < x4)))).bind fun x2 => (if x2 = true then (L15_awake).bind fun x5 => some (.inr (.inr x5)) else some (.inl (w64 (x1 + 1)))) else some (.inr (.inl ())))
noncomputable def L15_SkewTells (p0 : Bool × (Int × Int) × Int) (p1 : Int) (p2 : Int) (p3 : Int) (p4 : Int) (p5 : Int) : Option Bool := orR (loopW (L15_SkewTells_l1 p0 p1 p2 p3 p4) 0) fun _ => (skew_Meet ((L15_mine p0).1, ((L15_mine p0).2.1.1, (L15_mine p0).2.1.2), (L15_mine p0).2.2) p1 p2 p3 p5).bind fun x6 => (r15_Meet p0 p1 p2 p3 p5).bind fun x7 => (if (!(decide (x6.1.1 = ((L15_mine x7.1).1) ∧ x6.1.2.1.1 = ((L15_mine x7.1).2.1.1) ∧ x6.1.2.1.2 = ((L15_mine x7.1).2.1.2) ∧ x6.1.2.2 = ((L15_mine x7.1).2.2)))) = true then some true else (if x6.2 ≠ x7.2 then some true else (skew_On ((L15_mine p0).1, ((L15_mine p0).2.1.1, (L15_mine p0).2.1.2), (L15_mine p0).2.2) p4 p5).bind fun x9 => (r15_On p0 p4 p5).bind fun x10 => (if (!(L15_like x9 x10)) = true then some true else (skew_Fresh p1 p2 p3 p5).bind fun x11 => (r15_Fresh p1 p2 p3 p5).bind fun x12 => some (!(L15_like x11 x12))))).bind fun x8 => (if x8 = true then some false else (skew_Aim ((L15_mine p0).1, ((L15_mine p0).2.1.1, (L15_mine p0).2.1.2), (L15_mine p0).2.2) p4 p5).bind fun x13 => (r15_Aim p0 p4 p5).bind fun x14 => (if x13.1 = x14.1 then (if x13.2.1 = x14.2.1 then (if x13.2.2 = x14.2.2 then (r15_Miss p4).bind fun x16 => (if (skew_Miss p4) = x16 then (L15_awake).bind fun x17 => some x17 else some false) else some false) else some false) else some false).bind fun x15 => some x15)
theorem L15_SkewTells_c (Y : Nat → Prop) (w0 : World)  (p0 : Bool × (Int × Int) × Int) (p1 : Int) (p2 : Int) (p3 : Int) (p4 : Int) (p5 : Int) (r : Bool) (H : L15_SkewTells p0 p1 p2 p3 p4 p5 = some r)  :
    Calls Try.prog 3 #[.agg #[.bool p0.1, .int .i64 p0.2.1.1, .int .i64 p0.2.1.2, .int .i64 p0.2.2], .int .i64 p1, .int .i64 p2, .int .i64 p3, .int .i64 p4, .int .i64 p5] w0 fun e w' => e = .returned (.bool r) ∧ Below w0.heap.size w0 w' := by
  refine enter Try.func3 rfl Try.ntmps3 rfl (fun a hF => ?_)
  have hW := Stw.start Y w0
  unfold L15_SkewTells at H
  refine c_seq ?_
  refine reg_list ?_
  refine l_box (cs := [.bool p0.1, .int .i64 p0.2.1.1, .int .i64 p0.2.1.2, .int .i64 p0.2.2]) hF hW rfl rfl rfl (fun b1 a w hF hW => ?_)
  refine ls hF hW rfl ((y_assign hF rfl).q) (fun a w hF hW => ?_)
  refine ls_nil ?_
  refine c_then ?_
  refine c_seq ?_
  refine reg_list ?_
  refine ls hF hW rfl ((y_fieldAddr Try.underlying25 rfl rfl rfl T3 hF rfl 3 rfl).q) (fun a w hF hW => ?_)
  refine ls hF hW rfl ((y_load (v := Value.int .i64 p0.2.2) 0 hF rfl rfl T3 rfl).q) (fun a w hF hW => ?_)
  refine ls hF hW rfl ((y_move hF rfl).q) (fun a w hF hW => ?_)
  refine ls hF hW rfl ((y_move hF rfl).q) (fun a w hF hW => ?_)
  refine ls hF hW rfl ((y_move hF rfl).q) (fun a w hF hW => ?_)
  refine ls hF hW rfl ((y_move hF rfl).q) (fun a w hF hW => ?_)
  refine l_lit (z := Value.int .i64 0) (cs := [.int .i64 p0.2.2, .int .i64 p1, .int .i64 p2, .int .i64 p3, .int .i64 p4]) (Rp.int .i64) ([p0.2.2, p1, p2, p3, p4] : List Int) hF hW rfl L26 Z3 rfl rfl rfl rfl rfl rfl (Fl.int.repL _ _ ([p0.2.2, p1, p2, p3, p4] : List Int)) (fun v1 a w hF hW => ?_)
  refine ls hF hW rfl ((y_assign hF rfl).q) (fun a w hF hW => ?_)
  refine ls_nil ?_
  refine c_then ?_
  obtain ⟨o1, G1, K1, L1⟩ := orE H
  refine c_seqJ (fun a w => some (Sum.inl ()) = some o1 ∧ Fr 146 [] [(1, .int .i64 p1), (2, .int .i64 p2), (3, .int .i64 p3), (4, .int .i64 p4), (5, .int .i64 p5), (6, .pointer (some ⟨b1, 0, none⟩)), (12, .bool false)] a ∧ Stw ⟨Y, [], w0⟩ [(b1, [.bool p0.1, .int .i64 p0.2.1.1, .int .i64 p0.2.1.2, .int .i64 p0.2.2])] [] w) ?_ ?_
  ·
    have H := G1
    clear G1 K1
    refine c_seq ?_
    refine reg_list ?_
    refine ls hF hW rfl ((y_assign hF rfl).q) (fun a w hF hW => ?_)
    refine ls_nil ?_
    refine c_then ?_
    refine wp_block ?_
    refine c_loopW H (fun s a w => Fr 146 [] [(1, .int .i64 p1), (2, .int .i64 p2), (3, .int .i64 p3), (4, .int .i64 p4), (5, .int .i64 p5), (6, .pointer (some ⟨b1, 0, none⟩)), (12, .bool false), (13, v1), (14, .int .i64 s)] a ∧ Stw ⟨Y, [], w0⟩ [(b1, [.bool p0.1, .int .i64 p0.2.1.1, .int .i64 p0.2.1.2, .int .i64 p0.2.2])] [row v1 3 (Rp.int .i64) ([p0.2.2, p1, p2, p3, p4] : List Int)] w) ⟨hF.re ⟨rfl, rfl, rfl, rfl, rfl, rfl, rfl, rfl, rfl, trivial⟩, hW⟩ (fun s o a w H L2 hR => ?_)
    obtain ⟨x1, rfl⟩ : ∃ x, x = s := ⟨s, rfl⟩
    obtain ⟨hF, hW⟩ := hR
    have hF : Fr 146 [] [(1, .int .i64 p1), (2, .int .i64 p2), (3, .int .i64 p3), (4, .int .i64 p4), (5, .int .i64 p5), (6, .pointer (some ⟨b1, 0, none⟩)), (12, .bool false), (13, v1), (14, .int .i64 x1)] a := hF
    have hW : Stw ⟨Y, [], w0⟩ [(b1, [.bool p0.1, .int .i64 p0.2.1.1, .int .i64 p0.2.1.2, .int .i64 p0.2.2])] [row v1 3 (Rp.int .i64) ([p0.2.2, p1, p2, p3, p4] : List Int)] w := hW
    rw [L15_SkewTells_l1] at H
    refine c_seq ?_
    refine c_seq ?_
    refine reg_list ?_
    refine ls hF hW rfl ((y_move hF rfl).q) (fun a w hF hW => ?_)
    refine ls hF hW rfl ((y_move hF rfl).q) (fun a w hF hW => ?_)
    refine ls hF hW rfl ((y_len (r := (Rp.int .i64)) (l := ([p0.2.2, p1, p2, p3, p4] : List Int)) Try.underlying26 rfl hF rfl (rdc_row 0 rfl)).q) (fun a w hF hW => ?_)
    refine ls hF hW rfl ((y_lss hF rfl rfl).q) (fun a w hF hW => ?_)
    refine ls_nil ?_
    refine c_then ?_
    refine c_cond hF rfl (fun hb => ?_) (fun hb => ?_)
    ·
      have H := iteT (of_decide_eq_true hb) H
      rw [hb] at hF
      clear hb
      refine wp_skip ?_
      refine c_then ?_
      refine c_seq ?_
      refine wp_block ?_
      obtain ⟨o3, G3, K3⟩ := bindE H
      refine c_seqJ (fun a w => ∃ x2 : Bool, some (x2) = some o3 ∧ Fr 146 [] [(1, .int .i64 p1), (2, .int .i64 p2), (3, .int .i64 p3), (4, .int .i64 p4), (5, .int .i64 p5), (6, .pointer (some ⟨b1, 0, none⟩)), (12, .bool false), (13, v1), (14, .int .i64 x1), (49, .bool x2)] a ∧ Stw ⟨Y, [], w0⟩ [(b1, [.bool p0.1, .int .i64 p0.2.1.1, .int .i64 p0.2.1.2, .int .i64 p0.2.2])] [row v1 3 (Rp.int .i64) ([p0.2.2, p1, p2, p3, p4] : List Int)] w) ?_ ?_
      ·
        have H := G3
        clear G3 K3
        refine reg_list ?_
        refine ls hF hW rfl ((y_move hF rfl).q) (fun a w hF hW => ?_)
        refine ls hF hW rfl ((y_move hF rfl).q) (fun a w hF hW => ?_)
        obtain ⟨x3, h1, H⟩ := bindE H
        refine ls hF hW rfl ((y_index (r := (Rp.int .i64)) L26 hF rfl rfl (rdc_row 0 rfl) h1).q) (fun a w hF hW => ?_)
        refine ls hF hW rfl ((y_load_el (y := Value.int .i64 x3) (j := 0) (i := x1) hF rfl rfl (rdc_row 0 rfl) h1 Fl.int.to T3 rfl).q) (fun a w hF hW => ?_)
        refine ls hF hW rfl ((y_lss hF rfl rfl).q) (fun a w hF hW => ?_)
        refine ls hF hW rfl ((y_move hF rfl).q) (fun a w hF hW => ?_)
        rcases Bool.eq_false_or_eq_true (decide (x3 < (-1125899906842624))) with hb | hb
        ·
          have H := iteT (of_decide_eq_true hb) H
          rw [hb] at hF
          clear hb
          refine ls_skip hF (wanted_n hF rfl rfl rfl rfl rfl) rfl rfl (fun a hF => ?_)
          refine ls_skip hF (wanted_n hF rfl rfl rfl rfl rfl) rfl rfl (fun a hF => ?_)
          refine ls_skip hF (wanted_n hF rfl rfl rfl rfl rfl) rfl rfl (fun a hF => ?_)
          refine ls_skip hF (wanted_n hF rfl rfl rfl rfl rfl) rfl rfl (fun a hF => ?_)
          refine ls_skip hF (wanted_n hF rfl rfl rfl rfl rfl) rfl rfl (fun a hF => ?_)
          refine ls hF hW rfl ((y_pick_t hF rfl rfl rfl).q) (fun a w hF hW => ?_)
          refine ls_nil ?_
          refine c_then ?_
          exact ⟨_, H, hF.re ⟨rfl, rfl, rfl, rfl, rfl, rfl, rfl, rfl, rfl, rfl, trivial⟩, hW⟩
        ·
          have H := iteF (of_decide_eq_false hb) H
          rw [hb] at hF
          clear hb
          refine ls_w hF hW (wanted_y hF rfl rfl rfl rfl) rfl (Nat.le_of_ble_eq_true rfl) ((y_move hF rfl).q) (fun a w hF hW => ?_)
          refine ls_w hF hW (wanted_y hF rfl rfl rfl rfl) rfl (Nat.le_of_ble_eq_true rfl) ((y_move hF rfl).q) (fun a w hF hW => ?_)
          obtain ⟨x4, h2, H⟩ := bindE H
          refine ls_w hF hW (wanted_y hF rfl rfl rfl rfl) rfl (Nat.le_of_ble_eq_true rfl) ((y_index (r := (Rp.int .i64)) L26 hF rfl rfl (rdc_row 0 rfl) h2).q) (fun a w hF hW => ?_)
          refine ls_w hF hW (wanted_y hF rfl rfl rfl rfl) rfl (Nat.le_of_ble_eq_true rfl) ((y_load_el (y := Value.int .i64 x4) (j := 0) (i := x1) hF rfl rfl (rdc_row 0 rfl) h2 Fl.int.to T3 rfl).q) (fun a w hF hW => ?_)
          refine ls_w hF hW (wanted_y hF rfl rfl rfl rfl) rfl (Nat.le_of_ble_eq_true rfl) ((y_gtr hF rfl rfl).q) (fun a w hF hW => ?_)
          refine ls hF hW rfl ((y_pick_f hF rfl rfl rfl).q) (fun a w hF hW => ?_)
          refine ls_nil ?_
          refine c_then ?_
          exact ⟨_, H, hF.re ⟨rfl, rfl, rfl, rfl, rfl, rfl, rfl, rfl, rfl, rfl, trivial⟩, hW⟩
      rintro a w ⟨x2, hj, hF, hW⟩
      have hj := Option.some.inj hj
      subst hj
      have H := K3
      clear G3 K3
      refine c_cond hF rfl (fun hb => ?_) (fun hb => ?_)
      ·
        have H := iteT hb H
        rw [hb] at hF
        clear hb
        refine c_seq ?_
        refine reg_list ?_
        obtain ⟨x5, h3, H⟩ := bindE H
        refine ls hF hW rfl (y_call (v := Value.bool x5) hF H7 rfl (fun w hW => L15_awake_c any w _ h3)) (fun a w hF hW => ?_)
        refine ls hF hW rfl ((y_assign hF rfl).q) (fun a w hF hW => ?_)
        refine ls_nil ?_
        refine c_then ?_
        refine wp_ret ?_
        refine r_block ?_
        refine r_then ?_
        refine r_then ?_
        refine r_block ?_
        refine r_then ?_
        have H := L2 _ H
        have H := L1 _ H
        have H := Option.some.inj H
        subst H
        refine post1 (.inl rfl) hF hW rfl (rv_tmp hF rfl) ?_
        exact ⟨rfl, hW.done⟩
      ·
        have H := iteF (by rw [hb]; decide) H
        rw [hb] at hF
        clear hb
        refine wp_skip ?_
        refine b_normal ?_
        refine c_then ?_
        refine reg_list ?_
        refine ls hF hW rfl ((y_move hF rfl).q) (fun a w hF hW => ?_)
        refine ls hF hW rfl ((y_add hF rfl rfl rfl).q) (fun a w hF hW => ?_)
        refine ls hF hW rfl ((y_assign hF rfl).q) (fun a w hF hW => ?_)
        refine ls_nil ?_
        refine c_then ?_
        exact ⟨_, H, hF.re ⟨rfl, rfl, rfl, rfl, rfl, rfl, rfl, rfl, rfl, trivial⟩, hW⟩
    ·
      have H := iteF (of_decide_eq_false hb) H
      rw [hb] at hF
      clear hb
      refine wp_exit ?_
      refine e_then ?_
      refine e_then ?_
      refine e_block ?_
      refine c_then ?_
      have hW := hW.sub (M' := [(b1, [.bool p0.1, .int .i64 p0.2.1.1, .int .i64 p0.2.1.2, .int .i64 p0.2.2])]) (Z' := []) (List.Sublist.refl _) (List.nil_sublist _)
      have H := L2 _ H
      exact ⟨H, hF.re ⟨rfl, rfl, rfl, rfl, rfl, rfl, rfl, trivial⟩, hW⟩
  rintro a w ⟨hj, hF, hW⟩
  have H := K1 _ hj
  clear hj G1 K1 L1
  refine c_seq ?_
  refine reg_list ?_
  refine ls hF hW rfl ((y_load (v := Value.agg #[.bool p0.1, .int .i64 p0.2.1.1, .int .i64 p0.2.1.2, .int .i64 p0.2.2]) 0 hF rfl rfl T25 rfl).q) (fun a w hF hW => ?_)
  refine ls hF hW rfl (y_call (v := Value.agg #[.bool ((L15_mine p0).1), .int .i64 ((L15_mine p0).2.1.1), .int .i64 ((L15_mine p0).2.1.2), .int .i64 ((L15_mine p0).2.2)]) hF H9 rfl (fun w hW => L15_mine_c any w p0 _ rfl)) (fun a w hF hW => ?_)
  refine ls hF hW rfl ((y_move hF rfl).q) (fun a w hF hW => ?_)
  refine ls hF hW rfl ((y_move hF rfl).q) (fun a w hF hW => ?_)
  refine ls hF hW rfl ((y_move hF rfl).q) (fun a w hF hW => ?_)
  refine ls hF hW rfl ((y_move hF rfl).q) (fun a w hF hW => ?_)
  obtain ⟨x6, h4, H⟩ := bindE H
  refine ls hF hW rfl (y_call (v := Value.tuple #[.agg #[.bool x6.1.1, .int .i64 x6.1.2.1.1, .int .i64 x6.1.2.1.2, .int .i64 x6.1.2.2], .int .i64 x6.2]) hF H8 rfl (fun w hW => skew_Meet_c any w ((L15_mine p0).1, ((L15_mine p0).2.1.1, (L15_mine p0).2.1.2), (L15_mine p0).2.2) p1 p2 p3 p5 _ h4)) (fun a w hF hW => ?_)
  refine ls hF hW rfl ((y_move hF rfl).q) (fun a w hF hW => ?_)
  refine ls hF hW rfl ((y_extract (v := Value.agg #[.bool x6.1.1, .int .i64 x6.1.2.1.1, .int .i64 x6.1.2.1.2, .int .i64 x6.1.2.2]) hF rfl rfl).q) (fun a w hF hW => ?_)
  refine ls hF hW rfl ((y_extract (v := Value.int .i64 x6.2) hF rfl rfl).q) (fun a w hF hW => ?_)
  refine l_alloc (cs := [.bool false, .int .i64 0, .int .i64 0, .int .i64 0]) hF hW rfl Z30 rfl (fun b2 a w hF hW => ?_)
  refine l_store (vs := [.bool x6.1.1, .int .i64 x6.1.2.1.1, .int .i64 x6.1.2.1.2, .int .i64 x6.1.2.2]) (M' := [(b2, [.bool x6.1.1, .int .i64 x6.1.2.1.1, .int .i64 x6.1.2.1.2, .int .i64 x6.1.2.2]), (b1, [.bool p0.1, .int .i64 p0.2.1.1, .int .i64 p0.2.1.2, .int .i64 p0.2.2])]) 0 hF hW rfl rfl rfl T30 rfl rfl rfl rfl rfl (fun w hW => ?_)
  refine ls hF hW rfl ((y_assign hF rfl).q) (fun a w hF hW => ?_)
  refine ls_nil ?_
  refine c_then ?_
  refine c_seq ?_
  refine reg_list ?_
  refine ls hF hW rfl ((y_load (v := Value.agg #[.bool p0.1, .int .i64 p0.2.1.1, .int .i64 p0.2.1.2, .int .i64 p0.2.2]) 1 hF rfl rfl T25 rfl).q) (fun a w hF hW => ?_)
  refine ls hF hW rfl ((y_move hF rfl).q) (fun a w hF hW => ?_)
  refine ls hF hW rfl ((y_move hF rfl).q) (fun a w hF hW => ?_)
  refine ls hF hW rfl ((y_move hF rfl).q) (fun a w hF hW => ?_)
  refine ls hF hW rfl ((y_move hF rfl).q) (fun a w hF hW => ?_)
  obtain ⟨x7, h5, H⟩ := bindE H
  refine ls hF hW rfl (y_call (v := Value.tuple #[.agg #[.bool x7.1.1, .int .i64 x7.1.2.1.1, .int .i64 x7.1.2.1.2, .int .i64 x7.1.2.2], .int .i64 x7.2]) hF H10 rfl (fun w hW => r15_Meet_c any w p0 p1 p2 p3 p5 _ h5)) (fun a w hF hW => ?_)
  refine ls hF hW rfl ((y_move hF rfl).q) (fun a w hF hW => ?_)
  refine ls hF hW rfl ((y_extract (v := Value.agg #[.bool x7.1.1, .int .i64 x7.1.2.1.1, .int .i64 x7.1.2.1.2, .int .i64 x7.1.2.2]) hF rfl rfl).q) (fun a w hF hW => ?_)
  refine ls hF hW rfl ((y_extract (v := Value.int .i64 x7.2) hF rfl rfl).q) (fun a w hF hW => ?_)
  refine l_alloc (cs := [.bool false, .int .i64 0, .int .i64 0, .int .i64 0]) hF hW rfl Z25 rfl (fun b3 a w hF hW => ?_)
  refine l_store (vs := [.bool x7.1.1, .int .i64 x7.1.2.1.1, .int .i64 x7.1.2.1.2, .int .i64 x7.1.2.2]) (M' := [(b3, [.bool x7.1.1, .int .i64 x7.1.2.1.1, .int .i64 x7.1.2.1.2, .int .i64 x7.1.2.2]), (b2, [.bool x6.1.1, .int .i64 x6.1.2.1.1, .int .i64 x6.1.2.1.2, .int .i64 x6.1.2.2]), (b1, [.bool p0.1, .int .i64 p0.2.1.1, .int .i64 p0.2.1.2, .int .i64 p0.2.2])]) 0 hF hW rfl rfl rfl T25 rfl rfl rfl rfl rfl (fun w hW => ?_)
  refine ls hF hW rfl ((y_assign hF rfl).q) (fun a w hF hW => ?_)
  refine ls_nil ?_
  refine c_then ?_
  refine c_seq ?_
  obtain ⟨o4, G4, K4⟩ := bindE H
  refine c_seqJ (fun a w => ∃ x8 : Bool, some (x8) = some o4 ∧ Fr 146 [] [(4, .int .i64 p4), (5, .int .i64 p5), (6, .pointer (some ⟨b1, 0, none⟩)), (12, .bool false), (105, .bool x8)] a ∧ Stw ⟨Y, [], w0⟩ [(b3, [.bool x7.1.1, .int .i64 x7.1.2.1.1, .int .i64 x7.1.2.1.2, .int .i64 x7.1.2.2]), (b2, [.bool x6.1.1, .int .i64 x6.1.2.1.1, .int .i64 x6.1.2.1.2, .int .i64 x6.1.2.2]), (b1, [.bool p0.1, .int .i64 p0.2.1.1, .int .i64 p0.2.1.2, .int .i64 p0.2.2])] [] w) ?_ ?_
  ·
    have H := G4
    clear G4 K4
    refine reg_quiet hW MO (by kernel_rfl) ?_
    refine qs hF rfl ((y_load (v := Value.agg #[.bool x6.1.1, .int .i64 x6.1.2.1.1, .int .i64 x6.1.2.1.2, .int .i64 x6.1.2.2]) 1 hF rfl rfl T30 rfl).q) (fun a hF => ?_)
    refine qs hF rfl ((y_load (v := Value.agg #[.bool x7.1.1, .int .i64 x7.1.2.1.1, .int .i64 x7.1.2.1.2, .int .i64 x7.1.2.2]) 0 hF rfl rfl T25 rfl).q) (fun a hF => ?_)
    refine qs hF rfl (y_call (v := Value.agg #[.bool ((L15_mine x7.1).1), .int .i64 ((L15_mine x7.1).2.1.1), .int .i64 ((L15_mine x7.1).2.1.2), .int .i64 ((L15_mine x7.1).2.2)]) hF H9 rfl (fun w hW => L15_mine_c any w x7.1 _ rfl)) (fun a hF => ?_)
    refine qs hF rfl ((y_nea (t := decide (x6.1.1 = ((L15_mine x7.1).1) ∧ x6.1.2.1.1 = ((L15_mine x7.1).2.1.1) ∧ x6.1.2.1.2 = ((L15_mine x7.1).2.1.2) ∧ x6.1.2.2 = ((L15_mine x7.1).2.2))) G30 (Q30 _ _ _ _ _ _ _ _) hF rfl rfl).q) (fun a hF => ?_)
    refine qs hF rfl ((y_move hF rfl).q) (fun a hF => ?_)
    rcases Bool.eq_false_or_eq_true (!(decide (x6.1.1 = ((L15_mine x7.1).1) ∧ x6.1.2.1.1 = ((L15_mine x7.1).2.1.1) ∧ x6.1.2.1.2 = ((L15_mine x7.1).2.1.2) ∧ x6.1.2.2 = ((L15_mine x7.1).2.2)))) with hb | hb
    ·
      have H := iteT hb H
      rw [hb] at hF
      clear hb
      refine qs_skip hF (wanted_n hF rfl rfl rfl rfl rfl) rfl rfl (fun a hF => ?_)
      refine qs_skip hF (wanted_n hF rfl rfl rfl rfl rfl) rfl rfl (fun a hF => ?_)
      refine qs_skip hF (wanted_n hF rfl rfl rfl rfl rfl) rfl rfl (fun a hF => ?_)
      refine qs hF rfl ((y_pick_t hF rfl rfl rfl).q) (fun a hF => ?_)
      refine qs hF rfl ((y_move hF rfl).q) (fun a hF => ?_)
      refine qs_skip hF (wanted_n hF rfl rfl rfl rfl rfl) rfl rfl (fun a hF => ?_)
      refine qs_skip hF (wanted_n hF rfl rfl rfl rfl rfl) rfl rfl (fun a hF => ?_)
      refine qs_skip hF (wanted_n hF rfl rfl rfl rfl rfl) rfl rfl (fun a hF => ?_)
      refine qs_skip hF (wanted_n hF rfl rfl rfl rfl rfl) rfl rfl (fun a hF => ?_)
      refine qs_skip hF (wanted_n hF rfl rfl rfl rfl rfl) rfl rfl (fun a hF => ?_)
      refine qs_skip hF (wanted_n hF rfl rfl rfl rfl rfl) rfl rfl (fun a hF => ?_)
      refine qs_skip hF (wanted_n hF rfl rfl rfl rfl rfl) rfl rfl (fun a hF => ?_)
      refine qs_skip hF (wanted_n hF rfl rfl rfl rfl rfl) rfl rfl (fun a hF => ?_)
      refine qs_skip hF (wanted_n hF rfl rfl rfl rfl rfl) rfl rfl (fun a hF => ?_)
      refine qs_skip hF (wanted_n hF rfl rfl rfl rfl rfl) rfl rfl (fun a hF => ?_)
      refine qs_skip hF (wanted_n hF rfl rfl rfl rfl rfl) rfl rfl (fun a hF => ?_)
      refine qs hF rfl ((y_pick_t hF rfl rfl rfl).q) (fun a hF => ?_)
      refine qs hF rfl ((y_move hF rfl).q) (fun a hF => ?_)
      refine qs_skip hF (wanted_n hF rfl rfl rfl rfl rfl) rfl rfl (fun a hF => ?_)
      refine qs_skip hF (wanted_n hF rfl rfl rfl rfl rfl) rfl rfl (fun a hF => ?_)
      refine qs_skip hF (wanted_n hF rfl rfl rfl rfl rfl) rfl rfl (fun a hF => ?_)
      refine qs_skip hF (wanted_n hF rfl rfl rfl rfl rfl) rfl rfl (fun a hF => ?_)
      refine qs_skip hF (wanted_n hF rfl rfl rfl rfl rfl) rfl rfl (fun a hF => ?_)
      refine qs_skip hF (wanted_n hF rfl rfl rfl rfl rfl) rfl rfl (fun a hF => ?_)
      refine qs_skip hF (wanted_n hF rfl rfl rfl rfl rfl) rfl rfl (fun a hF => ?_)
      refine qs_skip hF (wanted_n hF rfl rfl rfl rfl rfl) rfl rfl (fun a hF => ?_)
      refine qs_skip hF (wanted_n hF rfl rfl rfl rfl rfl) rfl rfl (fun a hF => ?_)
      refine qs_skip hF (wanted_n hF rfl rfl rfl rfl rfl) rfl rfl (fun a hF => ?_)
      refine qs_skip hF (wanted_n hF rfl rfl rfl rfl rfl) rfl rfl (fun a hF => ?_)
      refine qs_skip hF (wanted_n hF rfl rfl rfl rfl rfl) rfl rfl (fun a hF => ?_)
      refine qs hF rfl ((y_pick_t hF rfl rfl rfl).q) (fun a hF => ?_)
      refine quiet_end (fun w hW => ?_)
      refine c_then ?_
      have hW := hW.frontM (i := 2) rfl rfl
      have hW := hW.frontM (i := 2) rfl rfl
      have hW := hW.frontM (i := 2) rfl rfl
      exact ⟨_, H, hF.re ⟨rfl, rfl, rfl, rfl, rfl, trivial⟩, hW⟩
    ·
      have H := iteF (by rw [hb]; decide) H
      rw [hb] at hF
      clear hb
      refine qs_w hF (wanted_y hF rfl rfl rfl rfl) rfl (Nat.le_of_ble_eq_true rfl) ((y_move hF rfl).q) (fun a hF => ?_)
      refine qs_w hF (wanted_y hF rfl rfl rfl rfl) rfl (Nat.le_of_ble_eq_true rfl) ((y_move hF rfl).q) (fun a hF => ?_)
      refine qs_w hF (wanted_y hF rfl rfl rfl rfl) rfl (Nat.le_of_ble_eq_true rfl) ((y_neq hF rfl rfl).q) (fun a hF => ?_)
      refine qs hF rfl ((y_pick_f hF rfl rfl rfl).q) (fun a hF => ?_)
      refine qs hF rfl ((y_move hF rfl).q) (fun a hF => ?_)
      rcases Bool.eq_false_or_eq_true (decide (x6.2 ≠ x7.2)) with hb | hb
      ·
        have H := iteT (of_decide_eq_true hb) H
        rw [hb] at hF
        clear hb
        refine qs_skip hF (wanted_n hF rfl rfl rfl rfl rfl) rfl rfl (fun a hF => ?_)
        refine qs_skip hF (wanted_n hF rfl rfl rfl rfl rfl) rfl rfl (fun a hF => ?_)
        refine qs_skip hF (wanted_n hF rfl rfl rfl rfl rfl) rfl rfl (fun a hF => ?_)
        refine qs_skip hF (wanted_n hF rfl rfl rfl rfl rfl) rfl rfl (fun a hF => ?_)
        refine qs_skip hF (wanted_n hF rfl rfl rfl rfl rfl) rfl rfl (fun a hF => ?_)
        refine qs_skip hF (wanted_n hF rfl rfl rfl rfl rfl) rfl rfl (fun a hF => ?_)
        refine qs_skip hF (wanted_n hF rfl rfl rfl rfl rfl) rfl rfl (fun a hF => ?_)
        refine qs_skip hF (wanted_n hF rfl rfl rfl rfl rfl) rfl rfl (fun a hF => ?_)
        refine qs_skip hF (wanted_n hF rfl rfl rfl rfl rfl) rfl rfl (fun a hF => ?_)
        refine qs_skip hF (wanted_n hF rfl rfl rfl rfl rfl) rfl rfl (fun a hF => ?_)
        refine qs_skip hF (wanted_n hF rfl rfl rfl rfl rfl) rfl rfl (fun a hF => ?_)
        refine qs hF rfl ((y_pick_t hF rfl rfl rfl).q) (fun a hF => ?_)
        refine qs hF rfl ((y_move hF rfl).q) (fun a hF => ?_)
        refine qs_skip hF (wanted_n hF rfl rfl rfl rfl rfl) rfl rfl (fun a hF => ?_)
        refine qs_skip hF (wanted_n hF rfl rfl rfl rfl rfl) rfl rfl (fun a hF => ?_)
        refine qs_skip hF (wanted_n hF rfl rfl rfl rfl rfl) rfl rfl (fun a hF => ?_)
        refine qs_skip hF (wanted_n hF rfl rfl rfl rfl rfl) rfl rfl (fun a hF => ?_)
        refine qs_skip hF (wanted_n hF rfl rfl rfl rfl rfl) rfl rfl (fun a hF => ?_)
        refine qs_skip hF (wanted_n hF rfl rfl rfl rfl rfl) rfl rfl (fun a hF => ?_)
        refine qs_skip hF (wanted_n hF rfl rfl rfl rfl rfl) rfl rfl (fun a hF => ?_)
        refine qs_skip hF (wanted_n hF rfl rfl rfl rfl rfl) rfl rfl (fun a hF => ?_)
        refine qs_skip hF (wanted_n hF rfl rfl rfl rfl rfl) rfl rfl (fun a hF => ?_)
        refine qs_skip hF (wanted_n hF rfl rfl rfl rfl rfl) rfl rfl (fun a hF => ?_)
        refine qs_skip hF (wanted_n hF rfl rfl rfl rfl rfl) rfl rfl (fun a hF => ?_)
        refine qs_skip hF (wanted_n hF rfl rfl rfl rfl rfl) rfl rfl (fun a hF => ?_)
        refine qs hF rfl ((y_pick_t hF rfl rfl rfl).q) (fun a hF => ?_)
        refine quiet_end (fun w hW => ?_)
        refine c_then ?_
        have hW := hW.frontM (i := 2) rfl rfl
        have hW := hW.frontM (i := 2) rfl rfl
        have hW := hW.frontM (i := 2) rfl rfl
        exact ⟨_, H, hF.re ⟨rfl, rfl, rfl, rfl, rfl, trivial⟩, hW⟩
      ·
        have H := iteF (of_decide_eq_false hb) H
        rw [hb] at hF
        clear hb
        refine qs_w hF (wanted_y hF rfl rfl rfl rfl) rfl (Nat.le_of_ble_eq_true rfl) ((y_load (v := Value.agg #[.bool p0.1, .int .i64 p0.2.1.1, .int .i64 p0.2.1.2, .int .i64 p0.2.2]) 2 hF rfl rfl T25 rfl).q) (fun a hF => ?_)
        refine qs_w hF (wanted_y hF rfl rfl rfl rfl) rfl (Nat.le_of_ble_eq_true rfl) (y_call (v := Value.agg #[.bool ((L15_mine p0).1), .int .i64 ((L15_mine p0).2.1.1), .int .i64 ((L15_mine p0).2.1.2), .int .i64 ((L15_mine p0).2.2)]) hF H9 rfl (fun w hW => L15_mine_c any w p0 _ rfl)) (fun a hF => ?_)
        refine qs_w hF (wanted_y hF rfl rfl rfl rfl) rfl (Nat.le_of_ble_eq_true rfl) ((y_move hF rfl).q) (fun a hF => ?_)
        refine qs_w hF (wanted_y hF rfl rfl rfl rfl) rfl (Nat.le_of_ble_eq_true rfl) ((y_move hF rfl).q) (fun a hF => ?_)
        obtain ⟨x9, h6, H⟩ := bindE H
        refine qs_w hF (wanted_y hF rfl rfl rfl rfl) rfl (Nat.le_of_ble_eq_true rfl) (y_call (v := Value.agg #[.int .i64 x9.1, .int .i64 x9.2]) hF H12 rfl (fun w hW => skew_On_c any w ((L15_mine p0).1, ((L15_mine p0).2.1.1, (L15_mine p0).2.1.2), (L15_mine p0).2.2) p4 p5 _ h6)) (fun a hF => ?_)
        refine qs_w hF (wanted_y hF rfl rfl rfl rfl) rfl (Nat.le_of_ble_eq_true rfl) ((y_load (v := Value.agg #[.bool p0.1, .int .i64 p0.2.1.1, .int .i64 p0.2.1.2, .int .i64 p0.2.2]) 2 hF rfl rfl T25 rfl).q) (fun a hF => ?_)
        refine qs_w hF (wanted_y hF rfl rfl rfl rfl) rfl (Nat.le_of_ble_eq_true rfl) ((y_move hF rfl).q) (fun a hF => ?_)
        refine qs_w hF (wanted_y hF rfl rfl rfl rfl) rfl (Nat.le_of_ble_eq_true rfl) ((y_move hF rfl).q) (fun a hF => ?_)
        obtain ⟨x10, h7, H⟩ := bindE H
        refine qs_w hF (wanted_y hF rfl rfl rfl rfl) rfl (Nat.le_of_ble_eq_true rfl) (y_call (v := Value.agg #[.int .i64 x10.1, .int .i64 x10.2]) hF H13 rfl (fun w hW => r15_On_c any w p0 p4 p5 _ h7)) (fun a hF => ?_)
        refine qs_w hF (wanted_y hF rfl rfl rfl rfl) rfl (Nat.le_of_ble_eq_true rfl) (y_call (v := Value.bool (L15_like x9 x10)) hF H11 rfl (fun w hW => L15_like_c any w x9 x10 _ rfl)) (fun a hF => ?_)
        refine qs_w hF (wanted_y hF rfl rfl rfl rfl) rfl (Nat.le_of_ble_eq_true rfl) ((y_not hF rfl).q) (fun a hF => ?_)
        refine qs hF rfl ((y_pick_f hF rfl rfl rfl).q) (fun a hF => ?_)
        refine qs hF rfl ((y_move hF rfl).q) (fun a hF => ?_)
        rcases Bool.eq_false_or_eq_true (!(L15_like x9 x10)) with hb | hb
        ·
          have H := iteT hb H
          rw [hb] at hF
          clear hb
          refine qs_skip hF (wanted_n hF rfl rfl rfl rfl rfl) rfl rfl (fun a hF => ?_)
          refine qs_skip hF (wanted_n hF rfl rfl rfl rfl rfl) rfl rfl (fun a hF => ?_)
          refine qs_skip hF (wanted_n hF rfl rfl rfl rfl rfl) rfl rfl (fun a hF => ?_)
          refine qs_skip hF (wanted_n hF rfl rfl rfl rfl rfl) rfl rfl (fun a hF => ?_)
          refine qs_skip hF (wanted_n hF rfl rfl rfl rfl rfl) rfl rfl (fun a hF => ?_)
          refine qs_skip hF (wanted_n hF rfl rfl rfl rfl rfl) rfl rfl (fun a hF => ?_)
          refine qs_skip hF (wanted_n hF rfl rfl rfl rfl rfl) rfl rfl (fun a hF => ?_)
          refine qs_skip hF (wanted_n hF rfl rfl rfl rfl rfl) rfl rfl (fun a hF => ?_)
          refine qs_skip hF (wanted_n hF rfl rfl rfl rfl rfl) rfl rfl (fun a hF => ?_)
          refine qs_skip hF (wanted_n hF rfl rfl rfl rfl rfl) rfl rfl (fun a hF => ?_)
          refine qs_skip hF (wanted_n hF rfl rfl rfl rfl rfl) rfl rfl (fun a hF => ?_)
          refine qs_skip hF (wanted_n hF rfl rfl rfl rfl rfl) rfl rfl (fun a hF => ?_)
          refine qs hF rfl ((y_pick_t hF rfl rfl rfl).q) (fun a hF => ?_)
          refine quiet_end (fun w hW => ?_)
          refine c_then ?_
          have hW := hW.frontM (i := 2) rfl rfl
          have hW := hW.frontM (i := 2) rfl rfl
          have hW := hW.frontM (i := 2) rfl rfl
          exact ⟨_, H, hF.re ⟨rfl, rfl, rfl, rfl, rfl, trivial⟩, hW⟩
        ·
          have H := iteF (by rw [hb]; decide) H
          rw [hb] at hF
          clear hb
          refine qs_w hF (wanted_y hF rfl rfl rfl rfl) rfl (Nat.le_of_ble_eq_true rfl) ((y_move hF rfl).q) (fun a hF => ?_)
          refine qs_w hF (wanted_y hF rfl rfl rfl rfl) rfl (Nat.le_of_ble_eq_true rfl) ((y_move hF rfl).q) (fun a hF => ?_)
          refine qs_w hF (wanted_y hF rfl rfl rfl rfl) rfl (Nat.le_of_ble_eq_true rfl) ((y_move hF rfl).q) (fun a hF => ?_)
          refine qs_w hF (wanted_y hF rfl rfl rfl rfl) rfl (Nat.le_of_ble_eq_true rfl) ((y_move hF rfl).q) (fun a hF => ?_)
          obtain ⟨x11, h8, H⟩ := bindE H
          refine qs_w hF (wanted_y hF rfl rfl rfl rfl) rfl (Nat.le_of_ble_eq_true rfl) (y_call (v := Value.agg #[.int .i64 x11.1, .int .i64 x11.2]) hF H14 rfl (fun w hW => skew_Fresh_c any w p1 p2 p3 p5 _ h8)) (fun a hF => ?_)
          refine qs_w hF (wanted_y hF rfl rfl rfl rfl) rfl (Nat.le_of_ble_eq_true rfl) ((y_move hF rfl).q) (fun a hF => ?_)
          refine qs_w hF (wanted_y hF rfl rfl rfl rfl) rfl (Nat.le_of_ble_eq_true rfl) ((y_move hF rfl).q) (fun a hF => ?_)
          refine qs_w hF (wanted_y hF rfl rfl rfl rfl) rfl (Nat.le_of_ble_eq_true rfl) ((y_move hF rfl).q) (fun a hF => ?_)
          refine qs_w hF (wanted_y hF rfl rfl rfl rfl) rfl (Nat.le_of_ble_eq_true rfl) ((y_move hF rfl).q) (fun a hF => ?_)
          obtain ⟨x12, h9, H⟩ := bindE H
          refine qs_w hF (wanted_y hF rfl rfl rfl rfl) rfl (Nat.le_of_ble_eq_true rfl) (y_call (v := Value.agg #[.int .i64 x12.1, .int .i64 x12.2]) hF H15 rfl (fun w hW => r15_Fresh_c any w p1 p2 p3 p5 _ h9)) (fun a hF => ?_)
          refine qs_w hF (wanted_y hF rfl rfl rfl rfl) rfl (Nat.le_of_ble_eq_true rfl) (y_call (v := Value.bool (L15_like x11 x12)) hF H11 rfl (fun w hW => L15_like_c any w x11 x12 _ rfl)) (fun a hF => ?_)
          refine qs_w hF (wanted_y hF rfl rfl rfl rfl) rfl (Nat.le_of_ble_eq_true rfl) ((y_not hF rfl).q) (fun a hF => ?_)
          refine qs hF rfl ((y_pick_f hF rfl rfl rfl).q) (fun a hF => ?_)
          refine quiet_end (fun w hW => ?_)
          refine c_then ?_
          have hW := hW.frontM (i := 2) rfl rfl
          have hW := hW.frontM (i := 2) rfl rfl
          have hW := hW.frontM (i := 2) rfl rfl
          exact ⟨_, H, hF.re ⟨rfl, rfl, rfl, rfl, rfl, trivial⟩, hW⟩
  rintro a w ⟨x8, hj, hF, hW⟩
  have hj := Option.some.inj hj
  subst hj
  have H := K4
  clear G4 K4
  refine c_cond hF rfl (fun hb => ?_) (fun hb => ?_)
  ·
    have H := iteT hb H
    rw [hb] at hF
    clear hb
    refine c_seq ?_
    refine reg_list ?_
    refine ls hF hW rfl ((y_assign hF rfl).q) (fun a w hF hW => ?_)
    refine ls_nil ?_
    refine c_then ?_
    refine wp_ret ?_
    refine r_then ?_
    have H := Option.some.inj H
    subst H
    refine post1 (.inl rfl) hF hW rfl (rv_tmp hF rfl) ?_
    exact ⟨rfl, hW.done⟩
  ·
    have H := iteF (by rw [hb]; decide) H
    rw [hb] at hF
    clear hb
    refine wp_skip ?_
    refine c_then ?_
    refine c_seq ?_
    refine reg_list ?_
    refine ls hF hW rfl ((y_load (v := Value.agg #[.bool p0.1, .int .i64 p0.2.1.1, .int .i64 p0.2.1.2, .int .i64 p0.2.2]) 2 hF rfl rfl T25 rfl).q) (fun a w hF hW => ?_)
    refine ls hF hW rfl (y_call (v := Value.agg #[.bool ((L15_mine p0).1), .int .i64 ((L15_mine p0).2.1.1), .int .i64 ((L15_mine p0).2.1.2), .int .i64 ((L15_mine p0).2.2)]) hF H9 rfl (fun w hW => L15_mine_c any w p0 _ rfl)) (fun a w hF hW => ?_)
    refine ls hF hW rfl ((y_move hF rfl).q) (fun a w hF hW => ?_)
    refine ls hF hW rfl ((y_move hF rfl).q) (fun a w hF hW => ?_)
    obtain ⟨x13, h10, H⟩ := bindE H
    refine ls hF hW rfl (y_call (v := Value.tuple #[.int .i64 x13.1, .int .i64 x13.2.1, .bool x13.2.2]) hF H16 rfl (fun w hW => skew_Aim_c any w ((L15_mine p0).1, ((L15_mine p0).2.1.1, (L15_mine p0).2.1.2), (L15_mine p0).2.2) p4 p5 _ h10)) (fun a w hF hW => ?_)
    refine ls hF hW rfl ((y_move hF rfl).q) (fun a w hF hW => ?_)
    refine ls hF hW rfl ((y_extract (v := Value.int .i64 x13.1) hF rfl rfl).q) (fun a w hF hW => ?_)
    refine ls hF hW rfl ((y_extract (v := Value.int .i64 x13.2.1) hF rfl rfl).q) (fun a w hF hW => ?_)
    refine ls hF hW rfl ((y_extract (v := Value.bool x13.2.2) hF rfl rfl).q) (fun a w hF hW => ?_)
    refine ls hF hW rfl ((y_assign hF rfl).q) (fun a w hF hW => ?_)
    refine ls hF hW rfl ((y_assign hF rfl).q) (fun a w hF hW => ?_)
    refine ls hF hW rfl ((y_assign hF rfl).q) (fun a w hF hW => ?_)
    refine ls_nil ?_
    refine c_then ?_
    refine c_seq ?_
    refine reg_list ?_
    refine ls hF hW rfl ((y_load (v := Value.agg #[.bool p0.1, .int .i64 p0.2.1.1, .int .i64 p0.2.1.2, .int .i64 p0.2.2]) 2 hF rfl rfl T25 rfl).q) (fun a w hF hW => ?_)
    refine ls hF hW rfl ((y_move hF rfl).q) (fun a w hF hW => ?_)
    refine ls hF hW rfl ((y_move hF rfl).q) (fun a w hF hW => ?_)
    obtain ⟨x14, h11, H⟩ := bindE H
    refine ls hF hW rfl (y_call (v := Value.tuple #[.int .i64 x14.1, .int .i64 x14.2.1, .bool x14.2.2]) hF H17 rfl (fun w hW => r15_Aim_c any w p0 p4 p5 _ h11)) (fun a w hF hW => ?_)
    refine ls hF hW rfl ((y_move hF rfl).q) (fun a w hF hW => ?_)
    refine ls hF hW rfl ((y_extract (v := Value.int .i64 x14.1) hF rfl rfl).q) (fun a w hF hW => ?_)
    refine ls hF hW rfl ((y_extract (v := Value.int .i64 x14.2.1) hF rfl rfl).q) (fun a w hF hW => ?_)
    refine ls hF hW rfl ((y_extract (v := Value.bool x14.2.2) hF rfl rfl).q) (fun a w hF hW => ?_)
    refine ls hF hW rfl ((y_assign hF rfl).q) (fun a w hF hW => ?_)
    refine ls hF hW rfl ((y_assign hF rfl).q) (fun a w hF hW => ?_)
    refine ls hF hW rfl ((y_assign hF rfl).q) (fun a w hF hW => ?_)
    refine ls_nil ?_
    refine c_then ?_
    obtain ⟨o5, G5, K5⟩ := bindE H
    refine c_seqJ (fun a w => ∃ x15 : Bool, some (x15) = some o5 ∧ Fr 146 [] [(12, .bool x15)] a ∧ Stw ⟨Y, [], w0⟩ [(b3, [.bool x7.1.1, .int .i64 x7.1.2.1.1, .int .i64 x7.1.2.1.2, .int .i64 x7.1.2.2]), (b2, [.bool x6.1.1, .int .i64 x6.1.2.1.1, .int .i64 x6.1.2.1.2, .int .i64 x6.1.2.2]), (b1, [.bool p0.1, .int .i64 p0.2.1.1, .int .i64 p0.2.1.2, .int .i64 p0.2.2])] [] w) ?_ ?_
    ·
      have H := G5
      clear G5 K5
      refine reg_list ?_
      refine ls hF hW rfl ((y_move hF rfl).q) (fun a w hF hW => ?_)
      refine ls hF hW rfl ((y_move hF rfl).q) (fun a w hF hW => ?_)
      refine ls hF hW rfl ((y_eql hF rfl rfl).q) (fun a w hF hW => ?_)
      refine ls hF hW rfl ((y_move hF rfl).q) (fun a w hF hW => ?_)
      rcases Bool.eq_false_or_eq_true (decide (x13.1 = x14.1)) with hb | hb
      ·
        have H := iteT (of_decide_eq_true hb) H
        rw [hb] at hF
        clear hb
        refine ls_w hF hW (wanted_y hF rfl rfl rfl rfl) rfl (Nat.le_of_ble_eq_true rfl) ((y_move hF rfl).q) (fun a w hF hW => ?_)
        refine ls_w hF hW (wanted_y hF rfl rfl rfl rfl) rfl (Nat.le_of_ble_eq_true rfl) ((y_move hF rfl).q) (fun a w hF hW => ?_)
        refine ls_w hF hW (wanted_y hF rfl rfl rfl rfl) rfl (Nat.le_of_ble_eq_true rfl) ((y_eql hF rfl rfl).q) (fun a w hF hW => ?_)
        refine ls hF hW rfl ((y_pick_t hF rfl rfl rfl).q) (fun a w hF hW => ?_)
        refine ls hF hW rfl ((y_move hF rfl).q) (fun a w hF hW => ?_)
        rcases Bool.eq_false_or_eq_true (decide (x13.2.1 = x14.2.1)) with hb | hb
        ·
          have H := iteT (of_decide_eq_true hb) H
          rw [hb] at hF
          clear hb
          refine ls_w hF hW (wanted_y hF rfl rfl rfl rfl) rfl (Nat.le_of_ble_eq_true rfl) ((y_move hF rfl).q) (fun a w hF hW => ?_)
          refine ls_w hF hW (wanted_y hF rfl rfl rfl rfl) rfl (Nat.le_of_ble_eq_true rfl) ((y_move hF rfl).q) (fun a w hF hW => ?_)
          refine ls_w hF hW (wanted_y hF rfl rfl rfl rfl) rfl (Nat.le_of_ble_eq_true rfl) ((y_eqb Try.underlying4 hF rfl rfl).q) (fun a w hF hW => ?_)
          refine ls hF hW rfl ((y_pick_t hF rfl rfl rfl).q) (fun a w hF hW => ?_)
          refine ls hF hW rfl ((y_move hF rfl).q) (fun a w hF hW => ?_)
          rcases Bool.eq_false_or_eq_true (decide (x13.2.2 = x14.2.2)) with hb | hb
          ·
            have H := iteT (of_decide_eq_true hb) H
            rw [hb] at hF
            clear hb
            refine ls_w hF hW (wanted_y hF rfl rfl rfl rfl) rfl (Nat.le_of_ble_eq_true rfl) ((y_move hF rfl).q) (fun a w hF hW => ?_)
            refine ls_g (wanted_y hF rfl rfl rfl rfl) ?_
            refine ls hF hW rfl (y_call (v := Value.int .i64 (skew_Miss p4)) hF H18 rfl (fun w hW => skew_Miss_c any w p4 _ rfl)) (fun a w hF hW => ?_)
            refine ls_w hF hW (wanted_y hF rfl rfl rfl rfl) rfl (Nat.le_of_ble_eq_true rfl) ((y_move hF rfl).q) (fun a w hF hW => ?_)
            refine ls_g (wanted_y hF rfl rfl rfl rfl) ?_
            obtain ⟨x16, h12, H⟩ := bindE H
            refine ls hF hW rfl (y_call (v := Value.int .i64 x16) hF H19 rfl (fun w hW => r15_Miss_c any w p4 _ h12)) (fun a w hF hW => ?_)
            refine ls_w hF hW (wanted_y hF rfl rfl rfl rfl) rfl (Nat.le_of_ble_eq_true rfl) ((y_eql hF rfl rfl).q) (fun a w hF hW => ?_)
            refine ls hF hW rfl ((y_pick_t hF rfl rfl rfl).q) (fun a w hF hW => ?_)
            refine ls hF hW rfl ((y_move hF rfl).q) (fun a w hF hW => ?_)
            rcases Bool.eq_false_or_eq_true (decide ((skew_Miss p4) = x16)) with hb | hb
            ·
              have H := iteT (of_decide_eq_true hb) H
              rw [hb] at hF
              clear hb
              refine ls_g (wanted_y hF rfl rfl rfl rfl) ?_
              obtain ⟨x17, h13, H⟩ := bindE H
              refine ls hF hW rfl (y_call (v := Value.bool x17) hF H7 rfl (fun w hW => L15_awake_c any w _ h13)) (fun a w hF hW => ?_)
              refine ls hF hW rfl ((y_pick_t hF rfl rfl rfl).q) (fun a w hF hW => ?_)
              refine ls hF hW rfl ((y_assign hF rfl).q) (fun a w hF hW => ?_)
              refine ls_nil ?_
              refine c_then ?_
              have hW := hW.frontM (i := 2) rfl rfl
              have hW := hW.frontM (i := 2) rfl rfl
              have hW := hW.frontM (i := 2) rfl rfl
              exact ⟨_, H, hF.re ⟨rfl, trivial⟩, hW⟩
            ·
              have H := iteF (of_decide_eq_false hb) H
              rw [hb] at hF
              clear hb
              refine ls_skip hF (wanted_n hF rfl rfl rfl rfl rfl) rfl rfl (fun a hF => ?_)
              refine ls hF hW rfl ((y_pick_f hF rfl rfl rfl).q) (fun a w hF hW => ?_)
              refine ls hF hW rfl ((y_assign hF rfl).q) (fun a w hF hW => ?_)
              refine ls_nil ?_
              refine c_then ?_
              have hW := hW.frontM (i := 2) rfl rfl
              have hW := hW.frontM (i := 2) rfl rfl
              have hW := hW.frontM (i := 2) rfl rfl
              exact ⟨_, H, hF.re ⟨rfl, trivial⟩, hW⟩
          ·
            have H := iteF (of_decide_eq_false hb) H
            rw [hb] at hF
            clear hb
            refine ls_skip hF (wanted_n hF rfl rfl rfl rfl rfl) rfl rfl (fun a hF => ?_)
            refine ls_skip hF (wanted_n hF rfl rfl rfl rfl rfl) rfl rfl (fun a hF => ?_)
            refine ls_skip hF (wanted_n hF rfl rfl rfl rfl rfl) rfl rfl (fun a hF => ?_)
            refine ls_skip hF (wanted_n hF rfl rfl rfl rfl rfl) rfl rfl (fun a hF => ?_)
            refine ls_skip hF (wanted_n hF rfl rfl rfl rfl rfl) rfl rfl (fun a hF => ?_)
            refine ls hF hW rfl ((y_pick_f hF rfl rfl rfl).q) (fun a w hF hW => ?_)
            refine ls hF hW rfl ((y_move hF rfl).q) (fun a w hF hW => ?_)
            refine ls_skip hF (wanted_n hF rfl rfl rfl rfl rfl) rfl rfl (fun a hF => ?_)
            refine ls hF hW rfl ((y_pick_f hF rfl rfl rfl).q) (fun a w hF hW => ?_)
            refine ls hF hW rfl ((y_assign hF rfl).q) (fun a w hF hW => ?_)
            refine ls_nil ?_
            refine c_then ?_
            have hW := hW.frontM (i := 2) rfl rfl
            have hW := hW.frontM (i := 2) rfl rfl
            have hW := hW.frontM (i := 2) rfl rfl
            exact ⟨_, H, hF.re ⟨rfl, trivial⟩, hW⟩
        ·
          have H := iteF (of_decide_eq_false hb) H
          rw [hb] at hF
          clear hb
          refine ls_skip hF (wanted_n hF rfl rfl rfl rfl rfl) rfl rfl (fun a hF => ?_)
          refine ls_skip hF (wanted_n hF rfl rfl rfl rfl rfl) rfl rfl (fun a hF => ?_)
          refine ls_skip hF (wanted_n hF rfl rfl rfl rfl rfl) rfl rfl (fun a hF => ?_)
          refine ls hF hW rfl ((y_pick_f hF rfl rfl rfl).q) (fun a w hF hW => ?_)
          refine ls hF hW rfl ((y_move hF rfl).q) (fun a w hF hW => ?_)
          refine ls_skip hF (wanted_n hF rfl rfl rfl rfl rfl) rfl rfl (fun a hF => ?_)
          refine ls_skip hF (wanted_n hF rfl rfl rfl rfl rfl) rfl rfl (fun a hF => ?_)
          refine ls_skip hF (wanted_n hF rfl rfl rfl rfl rfl) rfl rfl (fun a hF => ?_)
          refine ls_skip hF (wanted_n hF rfl rfl rfl rfl rfl) rfl rfl (fun a hF => ?_)
          refine ls_skip hF (wanted_n hF rfl rfl rfl rfl rfl) rfl rfl (fun a hF => ?_)
          refine ls hF hW rfl ((y_pick_f hF rfl rfl rfl).q) (fun a w hF hW => ?_)
          refine ls hF hW rfl ((y_move hF rfl).q) (fun a w hF hW => ?_)
          refine ls_skip hF (wanted_n hF rfl rfl rfl rfl rfl) rfl rfl (fun a hF => ?_)
          refine ls hF hW rfl ((y_pick_f hF rfl rfl rfl).q) (fun a w hF hW => ?_)
          refine ls hF hW rfl ((y_assign hF rfl).q) (fun a w hF hW => ?_)
          refine ls_nil ?_
          refine c_then ?_
          have hW := hW.frontM (i := 2) rfl rfl
          have hW := hW.frontM (i := 2) rfl rfl
          have hW := hW.frontM (i := 2) rfl rfl
          exact ⟨_, H, hF.re ⟨rfl, trivial⟩, hW⟩
      ·
        have H := iteF (of_decide_eq_false hb) H
        rw [hb] at hF
        clear hb
        refine ls_skip hF (wanted_n hF rfl rfl rfl rfl rfl) rfl rfl (fun a hF => ?_)
        refine ls_skip hF (wanted_n hF rfl rfl rfl rfl rfl) rfl rfl (fun a hF => ?_)
        refine ls_skip hF (wanted_n hF rfl rfl rfl rfl rfl) rfl rfl (fun a hF => ?_)
        refine ls hF hW rfl ((y_pick_f hF rfl rfl rfl).q) (fun a w hF hW => ?_)
        refine ls hF hW rfl ((y_move hF rfl).q) (fun a w hF hW => ?_)
        refine ls_skip hF (wanted_n hF rfl rfl rfl rfl rfl) rfl rfl (fun a hF => ?_)
        refine ls_skip hF (wanted_n hF rfl rfl rfl rfl rfl) rfl rfl (fun a hF => ?_)
        refine ls_skip hF (wanted_n hF rfl rfl rfl rfl rfl) rfl rfl (fun a hF => ?_)
        refine ls hF hW rfl ((y_pick_f hF rfl rfl rfl).q) (fun a w hF hW => ?_)
        refine ls hF hW rfl ((y_move hF rfl).q) (fun a w hF hW => ?_)
        refine ls_skip hF (wanted_n hF rfl rfl rfl rfl rfl) rfl rfl (fun a hF => ?_)
        refine ls_skip hF (wanted_n hF rfl rfl rfl rfl rfl) rfl rfl (fun a hF => ?_)
        refine ls_skip hF (wanted_n hF rfl rfl rfl rfl rfl) rfl rfl (fun a hF => ?_)
        refine ls_skip hF (wanted_n hF rfl rfl rfl rfl rfl) rfl rfl (fun a hF => ?_)
        refine ls_skip hF (wanted_n hF rfl rfl rfl rfl rfl) rfl rfl (fun a hF => ?_)
        refine ls hF hW rfl ((y_pick_f hF rfl rfl rfl).q) (fun a w hF hW => ?_)
        refine ls hF hW rfl ((y_move hF rfl).q) (fun a w hF hW => ?_)
        refine ls_skip hF (wanted_n hF rfl rfl rfl rfl rfl) rfl rfl (fun a hF => ?_)
        refine ls hF hW rfl ((y_pick_f hF rfl rfl rfl).q) (fun a w hF hW => ?_)
        refine ls hF hW rfl ((y_assign hF rfl).q) (fun a w hF hW => ?_)
        refine ls_nil ?_
        refine c_then ?_
        have hW := hW.frontM (i := 2) rfl rfl
        have hW := hW.frontM (i := 2) rfl rfl
        have hW := hW.frontM (i := 2) rfl rfl
        exact ⟨_, H, hF.re ⟨rfl, trivial⟩, hW⟩
    rintro a w ⟨x15, hj, hF, hW⟩
    have hj := Option.some.inj hj
    subst hj
    have H := K5
    clear G5 K5
    refine wp_ret ?_
    have H := Option.some.inj H
    subst H
    refine post1 (.inl rfl) hF hW rfl (rv_tmp hF rfl) ?_
    exact ⟨rfl, hW.done⟩

abbrev R73 : Rp (Int × Int × Int) := (Rp.pair (Rp.int .i64) (Rp.pair (Rp.int .i64) (Rp.int .i64)))
theorem B76 : Bt Try.prog 76 [.int .i64 0, .int .i64 0, .slice none 0 0] [(0, 1), (1, 1), (2, 1)] := ⟨⟨.agg #[.int .i64 0, .int .i64 0, .slice none 0 0], by kernel_rfl, rfl⟩, ⟨_, Try.underlying76, fun w => by kernel_rfl⟩⟩
theorem T74 : Ty Try.prog 74 false 1 := ⟨by kernel_rfl, by kernel_rfl⟩
theorem B80 : Bt Try.prog 80 [.int .i64 0, .int .i64 0, .int .i64 0] [(0, 1), (1, 1), (2, 1)] := ⟨⟨.agg #[.int .i64 0, .int .i64 0, .int .i64 0], by kernel_rfl, rfl⟩, ⟨_, Try.underlying80, fun w => by kernel_rfl⟩⟩
theorem Z80 : (Try.prog.info? 80).bind (·.zero) = some (.agg #[.int .i64 0, .int .i64 0, .int .i64 0]) := by kernel_rfl
abbrev R80 : Rp (Int × Int × Int) := (Rp.pair (Rp.int .i64) (Rp.pair (Rp.int .i64) (Rp.int .i64)))
def E80 (a : Int × Int × Int) : List Value := [.int .i64 a.1, .int .i64 a.2.1, .int .i64 a.2.2]
theorem F80 : Fl R80 E80 := (Fl.pair Fl.int (Fl.pair Fl.int Fl.int))
theorem L74 : Et Try.prog 74 80 3 24 := Et.of Try.underlying74 (by kernel_rfl) (by kernel_rfl) (by kernel_rfl) (by decide)
noncomputable def clock_New_l1 (p0 : List Int) : (Int × (List (Int × Int × Int))) → Option ((Int × (List (Int × Int × Int))) ⊕ ((List (Int × Int × Int)) ⊕ ((Int × Int × (List (Int × Int × Int))) ⊕ Unit)))
  | (x2, x3) => (if x2 < (p0.length : Int) then (ix p0 x2).bind fun x4 => (if (decide (x4 < (-1048576)) || decide (1048576 < x4)) = true then some (.inr (.inr (.inr ()))) else (app x3 ([(x4, 0, 0)] : List (Int × Int × Int))).bind fun x5 => some (.inl (w64 (x2 + 1), x5))) else some (.inr (.inl x3)))
noncomputable def clock_New (p0 : List Int) (p1 : Int) : Option ((Int × Int × (List (Int × Int × Int))) ⊕ Unit) := (if (decide ((p0.length : Int) < 1) || (decide (8 < (p0.length : Int)) || (decide (p1 < 0) || decide (500 < p1)))) = true then some (.inr ()) else orR (loopW (clock_New_l1 p0) (0, [])) fun x1 => some (.inl (0, p1, x1)))
theorem clock_New_c (Y : Nat → Prop) (w0 : World) (v1 : Value) (p0 : List Int) (p1 : Int) (r : (Int × Int × (List (Int × Int × Int))) ⊕ Unit) (H : clock_New p0 p1 = some r) (h_v1 : Sl w0 (NX []) (Rp.int .i64) v1 p0) :
    Calls Try.prog 42 #[v1, .int .i64 p1] w0 fun e w' => altP r (fun r => ∃ x : Nat × Value, e = .returned (.tuple #[.pointer (some ⟨x.1, 0, none⟩), .int .i64 0]) ∧ Stw ⟨Y, [], w0⟩ [(x.1, [.int .i64 r.1, .int .i64 r.2.1, x.2])] [row (x.2) 80 R80 r.2.2] w') (fun r => ∃ x : Unit, e = .returned (.tuple #[.pointer none, .int .i64 2]) ∧ Stw ⟨Y, [], w0⟩ [] [] w') := by
  refine enter Try.func42 rfl Try.ntmps42 rfl (fun a hF => ?_)
  have hW := Stw.start Y w0
  unfold clock_New at H
  refine c_seq ?_
  refine reg_list ?_
  refine ls hF hW rfl ((y_assign hF rfl).q) (fun a w hF hW => ?_)
  refine ls hF hW rfl ((y_assign hF rfl).q) (fun a w hF hW => ?_)
  refine ls_nil ?_
  refine c_then ?_
  refine c_seq ?_
  refine c_seqJ (fun a w => Fr 53 [] [(0, v1), (1, .int .i64 p1), (4, .pointer none), (5, .int .i64 0), (24, .bool (decide ((p0.length : Int) < 1) || (decide (8 < (p0.length : Int)) || (decide (p1 < 0) || decide (500 < p1)))))] a ∧ Stw ⟨Y, [], w0⟩ [] [] w) ?_ ?_
  ·
    refine reg_list ?_
    refine ls hF hW rfl ((y_move hF rfl).q) (fun a w hF hW => ?_)
    refine ls hF hW rfl ((y_len (r := (Rp.int .i64)) (l := p0) Try.underlying26 rfl hF rfl (rdc_ro h_v1)).q) (fun a w hF hW => ?_)
    refine ls hF hW rfl ((y_lss hF rfl rfl).q) (fun a w hF hW => ?_)
    refine ls hF hW rfl ((y_move hF rfl).q) (fun a w hF hW => ?_)
    rcases Bool.eq_false_or_eq_true (decide ((p0.length : Int) < 1)) with hb0 | hb0
    ·
      rw [hb0] at hF
      refine ls_skip hF (wanted_n hF rfl rfl rfl rfl rfl) rfl rfl (fun a hF => ?_)
      refine ls_skip hF (wanted_n hF rfl rfl rfl rfl rfl) rfl rfl (fun a hF => ?_)
      refine ls_skip hF (wanted_n hF rfl rfl rfl rfl rfl) rfl rfl (fun a hF => ?_)
      refine ls hF hW rfl ((y_pick_t hF rfl rfl rfl).q) (fun a w hF hW => ?_)
      refine ls hF hW rfl ((y_move hF rfl).q) (fun a w hF hW => ?_)
      refine ls_skip hF (wanted_n hF rfl rfl rfl rfl rfl) rfl rfl (fun a hF => ?_)
      refine ls_skip hF (wanted_n hF rfl rfl rfl rfl rfl) rfl rfl (fun a hF => ?_)
      refine ls hF hW rfl ((y_pick_t hF rfl rfl rfl).q) (fun a w hF hW => ?_)
      refine ls hF hW rfl ((y_move hF rfl).q) (fun a w hF hW => ?_)
      refine ls_skip hF (wanted_n hF rfl rfl rfl rfl rfl) rfl rfl (fun a hF => ?_)
      refine ls_skip hF (wanted_n hF rfl rfl rfl rfl rfl) rfl rfl (fun a hF => ?_)
      refine ls hF hW rfl ((y_pick_t hF rfl rfl rfl).q) (fun a w hF hW => ?_)
      refine ls_nil ?_
      refine c_then ?_
      exact ⟨hF.re ⟨rfl, rfl, rfl, rfl, (by show some (Value.bool true) = some (Value.bool (decide ((p0.length : Int) < 1) || (decide (8 < (p0.length : Int)) || (decide (p1 < 0) || decide (500 < p1))))); try rw [hb0]; all_goals simp only [Bool.not_true, Bool.not_false, Bool.true_and, Bool.false_and, Bool.true_or, Bool.false_or, Bool.and_true, Bool.or_false, cond_true, cond_false]), trivial⟩, hW⟩
    ·
      rw [hb0] at hF
      refine ls_w hF hW (wanted_y hF rfl rfl rfl rfl) rfl (Nat.le_of_ble_eq_true rfl) ((y_move hF rfl).q) (fun a w hF hW => ?_)
      refine ls_w hF hW (wanted_y hF rfl rfl rfl rfl) rfl (Nat.le_of_ble_eq_true rfl) ((y_len (r := (Rp.int .i64)) (l := p0) Try.underlying26 rfl hF rfl (rdc_ro h_v1)).q) (fun a w hF hW => ?_)
      refine ls_w hF hW (wanted_y hF rfl rfl rfl rfl) rfl (Nat.le_of_ble_eq_true rfl) ((y_gtr hF rfl rfl).q) (fun a w hF hW => ?_)
      refine ls hF hW rfl ((y_pick_f hF rfl rfl rfl).q) (fun a w hF hW => ?_)
      refine ls hF hW rfl ((y_move hF rfl).q) (fun a w hF hW => ?_)
      rcases Bool.eq_false_or_eq_true (decide (8 < (p0.length : Int))) with hb1 | hb1
      ·
        rw [hb1] at hF
        refine ls_skip hF (wanted_n hF rfl rfl rfl rfl rfl) rfl rfl (fun a hF => ?_)
        refine ls_skip hF (wanted_n hF rfl rfl rfl rfl rfl) rfl rfl (fun a hF => ?_)
        refine ls hF hW rfl ((y_pick_t hF rfl rfl rfl).q) (fun a w hF hW => ?_)
        refine ls hF hW rfl ((y_move hF rfl).q) (fun a w hF hW => ?_)
        refine ls_skip hF (wanted_n hF rfl rfl rfl rfl rfl) rfl rfl (fun a hF => ?_)
        refine ls_skip hF (wanted_n hF rfl rfl rfl rfl rfl) rfl rfl (fun a hF => ?_)
        refine ls hF hW rfl ((y_pick_t hF rfl rfl rfl).q) (fun a w hF hW => ?_)
        refine ls_nil ?_
        refine c_then ?_
        exact ⟨hF.re ⟨rfl, rfl, rfl, rfl, (by show some (Value.bool true) = some (Value.bool (decide ((p0.length : Int) < 1) || (decide (8 < (p0.length : Int)) || (decide (p1 < 0) || decide (500 < p1))))); try rw [hb0]; try rw [hb1]; all_goals simp only [Bool.not_true, Bool.not_false, Bool.true_and, Bool.false_and, Bool.true_or, Bool.false_or, Bool.and_true, Bool.or_false, cond_true, cond_false]), trivial⟩, hW⟩
      ·
        rw [hb1] at hF
        refine ls_w hF hW (wanted_y hF rfl rfl rfl rfl) rfl (Nat.le_of_ble_eq_true rfl) ((y_move hF rfl).q) (fun a w hF hW => ?_)
        refine ls_w hF hW (wanted_y hF rfl rfl rfl rfl) rfl (Nat.le_of_ble_eq_true rfl) ((y_lss hF rfl rfl).q) (fun a w hF hW => ?_)
        refine ls hF hW rfl ((y_pick_f hF rfl rfl rfl).q) (fun a w hF hW => ?_)
        refine ls hF hW rfl ((y_move hF rfl).q) (fun a w hF hW => ?_)
        rcases Bool.eq_false_or_eq_true (decide (p1 < 0)) with hb2 | hb2
        ·
          rw [hb2] at hF
          refine ls_skip hF (wanted_n hF rfl rfl rfl rfl rfl) rfl rfl (fun a hF => ?_)
          refine ls_skip hF (wanted_n hF rfl rfl rfl rfl rfl) rfl rfl (fun a hF => ?_)
          refine ls hF hW rfl ((y_pick_t hF rfl rfl rfl).q) (fun a w hF hW => ?_)
          refine ls_nil ?_
          refine c_then ?_
          exact ⟨hF.re ⟨rfl, rfl, rfl, rfl, (by show some (Value.bool true) = some (Value.bool (decide ((p0.length : Int) < 1) || (decide (8 < (p0.length : Int)) || (decide (p1 < 0) || decide (500 < p1))))); try rw [hb0]; try rw [hb1]; try rw [hb2]; all_goals simp only [Bool.not_true, Bool.not_false, Bool.true_and, Bool.false_and, Bool.true_or, Bool.false_or, Bool.and_true, Bool.or_false, cond_true, cond_false]), trivial⟩, hW⟩
        ·
          rw [hb2] at hF
          refine ls_w hF hW (wanted_y hF rfl rfl rfl rfl) rfl (Nat.le_of_ble_eq_true rfl) ((y_move hF rfl).q) (fun a w hF hW => ?_)
          refine ls_w hF hW (wanted_y hF rfl rfl rfl rfl) rfl (Nat.le_of_ble_eq_true rfl) ((y_gtr hF rfl rfl).q) (fun a w hF hW => ?_)
          refine ls hF hW rfl ((y_pick_f hF rfl rfl rfl).q) (fun a w hF hW => ?_)
          refine ls_nil ?_
          refine c_then ?_
          exact ⟨hF.re ⟨rfl, rfl, rfl, rfl, (by show some (Value.bool (decide (500 < p1))) = some (Value.bool (decide ((p0.length : Int) < 1) || (decide (8 < (p0.length : Int)) || (decide (p1 < 0) || decide (500 < p1))))); try rw [hb0]; try rw [hb1]; try rw [hb2]; all_goals simp only [Bool.not_true, Bool.not_false, Bool.true_and, Bool.false_and, Bool.true_or, Bool.false_or, Bool.and_true, Bool.or_false, cond_true, cond_false]), trivial⟩, hW⟩
  rintro a w ⟨hF, hW⟩
  refine c_cond hF rfl (fun hb => ?_) (fun hb => ?_)
  ·
    have H := iteT hb H
    rw [hb] at hF
    clear hb
    refine c_seq ?_
    refine reg_list ?_
    refine ls hF hW rfl ((y_assign hF rfl).q) (fun a w hF hW => ?_)
    refine ls hF hW rfl ((y_assign hF rfl).q) (fun a w hF hW => ?_)
    refine ls_nil ?_
    refine c_then ?_
    refine wp_ret ?_
    refine r_then ?_
    have H := Option.some.inj H
    subst H
    refine post2 (.inl rfl) hF hW rfl (rv_tmp hF rfl) (rv_tmp hF rfl) ?_
    exact ⟨(), rfl, hW⟩
  ·
    have H := iteF (by rw [hb]; decide) H
    rw [hb] at hF
    clear hb
    refine wp_skip ?_
    refine c_then ?_
    refine c_seq ?_
    refine reg_list ?_
    refine ls hF hW rfl ((y_move hF rfl).q) (fun a w hF hW => ?_)
    refine ls hF hW rfl ((y_build (v := Value.agg #[.int .i64 0, .int .i64 p1, .slice none 0 0]) B76 hF rfl rfl rfl).q) (fun a w hF hW => ?_)
    refine l_box (cs := [.int .i64 0, .int .i64 p1, .slice none 0 0]) hF hW rfl rfl rfl (fun b1 a w hF hW => ?_)
    refine ls hF hW rfl ((y_assign hF rfl).q) (fun a w hF hW => ?_)
    refine ls_nil ?_
    refine c_then ?_
    obtain ⟨o1, G1, K1, L1⟩ := orE H
    refine c_seqJ (fun a w => ∃ x1 : List (Int × Int × Int), ∃ v2 : Value, some (Sum.inl x1) = some o1 ∧ Fr 53 [] [(4, .pointer none), (5, .int .i64 0), (6, .pointer (some ⟨b1, 0, none⟩))] a ∧ Stw ⟨Y, [], w0⟩ [(b1, [.int .i64 0, .int .i64 p1, v2])] [row v2 80 R80 x1] w) ?_ ?_
    ·
      have H := G1
      clear G1 K1
      refine c_seq ?_
      refine reg_list ?_
      refine ls hF hW rfl ((y_move hF rfl).q) (fun a w hF hW => ?_)
      refine ls hF hW rfl ((y_len (r := (Rp.int .i64)) (l := p0) Try.underlying26 rfl hF rfl (rdc_ro h_v1)).q) (fun a w hF hW => ?_)
      refine ls hF hW rfl ((y_move hF rfl).q) (fun a w hF hW => ?_)
      refine ls_nil ?_
      refine c_then ?_
      refine wp_block ?_
      have hW := hW.nilRow 80 R80
      refine c_loopW H (fun s a w => ∃ v3 : Value, Fr 53 [] [(4, .pointer none), (5, .int .i64 0), (6, .pointer (some ⟨b1, 0, none⟩)), (28, v1), (29, .int .i64 (p0.length : Int)), (30, .int .i64 s.1)] a ∧ Stw ⟨Y, [], w0⟩ [(b1, [.int .i64 0, .int .i64 p1, v3])] [row v3 80 R80 s.2] w) ⟨(Value.slice none 0 0), hF.re ⟨rfl, rfl, rfl, rfl, rfl, rfl, trivial⟩, hW⟩ (fun s o a w H L2 hR => ?_)
      obtain ⟨x2, x3⟩ := s
      obtain ⟨v3, hF, hW⟩ := hR
      have hF : Fr 53 [] [(4, .pointer none), (5, .int .i64 0), (6, .pointer (some ⟨b1, 0, none⟩)), (28, v1), (29, .int .i64 (p0.length : Int)), (30, .int .i64 x2)] a := hF
      have hW : Stw ⟨Y, [], w0⟩ [(b1, [.int .i64 0, .int .i64 p1, v3])] [row v3 80 R80 x3] w := hW
      rw [clock_New_l1] at H
      refine c_seq ?_
      refine reg_list ?_
      refine ls hF hW rfl ((y_lss hF rfl rfl).q) (fun a w hF hW => ?_)
      refine ls_nil ?_
      refine c_then ?_
      refine c_seq ?_
      refine c_cond hF rfl (fun hb => ?_) (fun hb => ?_)
      ·
        have H := iteT (of_decide_eq_true hb) H
        rw [hb] at hF
        clear hb
        refine wp_skip ?_
        refine c_then ?_
        refine c_seq ?_
        refine wp_block ?_
        refine c_seq ?_
        refine reg_list ?_
        obtain ⟨x4, h1, H⟩ := bindE H
        refine ls hF hW rfl ((y_index (r := (Rp.int .i64)) L26 hF rfl rfl (rdc_ro h_v1) h1).q) (fun a w hF hW => ?_)
        refine ls hF hW rfl ((y_load_el (y := Value.int .i64 x4) (j := 0) (i := x2) hF rfl rfl (rdc_ro h_v1) h1 Fl.int.to T3 rfl).q) (fun a w hF hW => ?_)
        refine ls hF hW rfl ((y_assign hF rfl).q) (fun a w hF hW => ?_)
        refine ls_nil ?_
        refine c_then ?_
        refine c_seq ?_
        refine c_seqJ (fun a w => Fr 53 [] [(4, .pointer none), (5, .int .i64 0), (6, .pointer (some ⟨b1, 0, none⟩)), (8, .int .i64 x4), (28, v1), (29, .int .i64 (p0.length : Int)), (30, .int .i64 x2), (39, .bool (decide (x4 < (-1048576)) || decide (1048576 < x4)))] a ∧ Stw ⟨Y, [], w0⟩ [(b1, [.int .i64 0, .int .i64 p1, v3])] [row v3 80 R80 x3] w) ?_ ?_
        ·
          refine reg_list ?_
          refine ls hF hW rfl ((y_move hF rfl).q) (fun a w hF hW => ?_)
          refine ls hF hW rfl ((y_lss hF rfl rfl).q) (fun a w hF hW => ?_)
          refine ls hF hW rfl ((y_move hF rfl).q) (fun a w hF hW => ?_)
          rcases Bool.eq_false_or_eq_true (decide (x4 < (-1048576))) with hb0 | hb0
          ·
            rw [hb0] at hF
            refine ls_skip hF (wanted_n hF rfl rfl rfl rfl rfl) rfl rfl (fun a hF => ?_)
            refine ls_skip hF (wanted_n hF rfl rfl rfl rfl rfl) rfl rfl (fun a hF => ?_)
            refine ls hF hW rfl ((y_pick_t hF rfl rfl rfl).q) (fun a w hF hW => ?_)
            refine ls_nil ?_
            refine c_then ?_
            exact ⟨hF.re ⟨rfl, rfl, rfl, rfl, rfl, rfl, rfl, (by show some (Value.bool true) = some (Value.bool (decide (x4 < (-1048576)) || decide (1048576 < x4))); try rw [hb0]; all_goals simp only [Bool.not_true, Bool.not_false, Bool.true_and, Bool.false_and, Bool.true_or, Bool.false_or, Bool.and_true, Bool.or_false, cond_true, cond_false]), trivial⟩, hW⟩
          ·
            rw [hb0] at hF
            refine ls_w hF hW (wanted_y hF rfl rfl rfl rfl) rfl (Nat.le_of_ble_eq_true rfl) ((y_move hF rfl).q) (fun a w hF hW => ?_)
            refine ls_w hF hW (wanted_y hF rfl rfl rfl rfl) rfl (Nat.le_of_ble_eq_true rfl) ((y_gtr hF rfl rfl).q) (fun a w hF hW => ?_)
            refine ls hF hW rfl ((y_pick_f hF rfl rfl rfl).q) (fun a w hF hW => ?_)
            refine ls_nil ?_
            refine c_then ?_
            exact ⟨hF.re ⟨rfl, rfl, rfl, rfl, rfl, rfl, rfl, (by show some (Value.bool (decide (1048576 < x4))) = some (Value.bool (decide (x4 < (-1048576)) || decide (1048576 < x4))); try rw [hb0]; all_goals simp only [Bool.not_true, Bool.not_false, Bool.true_and, Bool.false_and, Bool.true_or, Bool.false_or, Bool.and_true, Bool.or_false, cond_true, cond_false]), trivial⟩, hW⟩
        rintro a w ⟨hF, hW⟩
        refine c_cond hF rfl (fun hb => ?_) (fun hb => ?_)
        ·
          have H := iteT hb H
          rw [hb] at hF
          clear hb
          refine c_seq ?_
          refine reg_list ?_
          refine ls hF hW rfl ((y_assign hF rfl).q) (fun a w hF hW => ?_)
          refine ls hF hW rfl ((y_assign hF rfl).q) (fun a w hF hW => ?_)
          refine ls_nil ?_
          refine c_then ?_
          refine wp_ret ?_
          refine r_then ?_
          refine r_block ?_
          refine r_then ?_
          refine r_then ?_
          refine r_block ?_
          refine r_then ?_
          have H := L2 _ H
          have H := L1 _ H
          have H := Option.some.inj H
          subst H
          refine post2 (.inl rfl) hF hW rfl (rv_tmp hF rfl) (rv_tmp hF rfl) ?_
          have hW := hW.sub (M' := []) (Z' := []) (List.nil_sublist _) (List.nil_sublist _)
          exact ⟨(), rfl, hW⟩
        ·
          have H := iteF (by rw [hb]; decide) H
          rw [hb] at hF
          clear hb
          refine wp_skip ?_
          refine c_then ?_
          refine reg_list ?_
          refine ls hF hW rfl ((y_move hF rfl).q) (fun a w hF hW => ?_)
          refine ls hF hW rfl ((y_move hF rfl).q) (fun a w hF hW => ?_)
          refine ls hF hW rfl ((y_nilCheck hF rfl).q) (fun a w hF hW => ?_)
          refine ls hF hW rfl ((y_fieldAddr Try.underlying76 rfl rfl rfl T74 hF rfl 2 rfl).q) (fun a w hF hW => ?_)
          refine ls hF hW rfl ((y_load (v := v3) 0 hF rfl rfl T74 rfl).q) (fun a w hF hW => ?_)
          refine ls hF hW rfl ((y_move hF rfl).q) (fun a w hF hW => ?_)
          refine ls hF hW rfl ((y_build (v := Value.agg #[.int .i64 x4, .int .i64 0, .int .i64 0]) B80 hF rfl rfl rfl).q) (fun a w hF hW => ?_)
          refine l_lit (z := Value.agg #[.int .i64 0, .int .i64 0, .int .i64 0]) (cs := [.int .i64 x4, .int .i64 0, .int .i64 0]) R80 ([(x4, 0, 0)] : List (Int × Int × Int)) hF hW rfl L74 Z80 rfl rfl rfl rfl rfl rfl (F80.repL _ _ ([(x4, 0, 0)] : List (Int × Int × Int))) (fun v4 a w hF hW => ?_)
          obtain ⟨x5, h2, H⟩ := bindE H
          refine l_append (r := R80) (i := 1) hF hW rfl L74 rfl rfl rfl rfl (src_row hW 0 rfl) h2 rfl (fun v5 a w hF hW => ?_)
          have hW : Stw ⟨Y, [], w0⟩ [(b1, [.int .i64 0, .int .i64 p1, v3])] [row v5 80 R80 x5, row v4 80 R80 ([(x4, 0, 0)] : List (Int × Int × Int))] w := hW
          refine ls hF hW rfl ((y_nilCheck hF rfl).q) (fun a w hF hW => ?_)
          refine ls hF hW rfl ((y_fieldAddr Try.underlying76 rfl rfl rfl T74 hF rfl 2 rfl).q) (fun a w hF hW => ?_)
          refine l_store1 (M' := [(b1, [.int .i64 0, .int .i64 p1, v5])]) 0 hF hW rfl rfl rfl T74 (hW.one (k := 0) rfl) rfl rfl (fun w hW => ?_)
          refine ls_nil ?_
          refine b_normal ?_
          refine c_then ?_
          refine reg_list ?_
          refine ls hF hW rfl ((y_add hF rfl rfl rfl).q) (fun a w hF hW => ?_)
          refine ls hF hW rfl ((y_move hF rfl).q) (fun a w hF hW => ?_)
          refine ls_nil ?_
          refine c_then ?_
          have hW := hW.sub (M' := [(b1, [.int .i64 0, .int .i64 p1, v5])]) (Z' := [row v5 80 R80 x5]) (List.Sublist.refl _) (List.Sublist.cons_cons _ (List.nil_sublist _))
          exact ⟨_, H, (v5), hF.re ⟨rfl, rfl, rfl, rfl, rfl, rfl, trivial⟩, hW⟩
      ·
        have H := iteF (of_decide_eq_false hb) H
        rw [hb] at hF
        clear hb
        refine wp_exit ?_
        refine e_then ?_
        refine e_then ?_
        refine e_block ?_
        refine c_then ?_
        have H := L2 _ H
        exact ⟨_, (v3), H, hF.re ⟨rfl, rfl, rfl, trivial⟩, hW⟩
    rintro a w ⟨x1, v2, hj, hF, hW⟩
    have H := K1 _ hj
    clear hj G1 K1 L1
    refine c_seq ?_
    refine reg_list ?_
    refine ls hF hW rfl ((y_move hF rfl).q) (fun a w hF hW => ?_)
    refine ls hF hW rfl ((y_assign hF rfl).q) (fun a w hF hW => ?_)
    refine ls hF hW rfl ((y_assign hF rfl).q) (fun a w hF hW => ?_)
    refine ls_nil ?_
    refine c_then ?_
    refine wp_ret ?_
    have H := Option.some.inj H
    subst H
    refine post2 (.inl rfl) hF hW rfl (rv_tmp hF rfl) (rv_tmp hF rfl) ?_
    exact ⟨(b1, (v2)), rfl, hW⟩

theorem H42 : Has Try.prog 42 := ⟨fun args w => run_callFunc_body Try.func42 rfl (by decide) args w⟩
theorem L47 : Et Try.prog 47 73 3 24 := Et.of Try.underlying47 (by kernel_rfl) (by kernel_rfl) (by kernel_rfl) (by decide)
def E73 (a : Int × Int × Int) : List Value := [.int .i64 a.1, .int .i64 a.2.1, .int .i64 a.2.2]
theorem F73 : Fl R73 E73 := (Fl.pair Fl.int (Fl.pair Fl.int Fl.int))
noncomputable def clock_Clocks_Tick_l1 (p0 : Int × Int × (List (Int × Int × Int))) (p1 : Int) : (Int × (List (Int × Int × Int))) → Option ((Int × (List (Int × Int × Int))) ⊕ (Int × Int × (List (Int × Int × Int))))
  | (x1, x2) => (if x1 < (p0.2.2.length : Int) then (ix x2 x1).bind fun x3 => (ix x2 x1).bind fun x4 => (ix x2 x1).bind fun x5 => some (.inl (w64 (x1 + 1), (setAt x2 x1 (x5.1, x5.2.1, w64 (x3.2.2 + (w64 ((min p1 (w64 (1099511627776 - p0.1))) * x4.2.1))))))) else some (.inr (w64 (p0.1 + (min p1 (w64 (1099511627776 - p0.1)))), p0.2.1, x2)))
noncomputable def clock_Clocks_Tick (p0 : Int × Int × (List (Int × Int × Int))) (p1 : Int) : Option (Int × Int × (List (Int × Int × Int))) := (if p1 < 0 then some p0 else loopW (clock_Clocks_Tick_l1 p0 p1) (0, p0.2.2))
theorem clock_Clocks_Tick_c (Y : Nat → Prop) (X : List Nat) (w0 : World) (q_p0 : Nat) (v1 : Value) (p0 : Int × Int × (List (Int × Int × Int))) (p1 : Int) (r : (Int × Int × (List (Int × Int × Int)))) (H : clock_Clocks_Tick p0 p1 = some r) (hL : Stw ⟨Y, X, w0⟩ [(q_p0, [.int .i64 p0.1, .int .i64 p0.2.1, v1])] [row v1 80 R80 p0.2.2] w0) :
    Calls Try.prog 27 #[.pointer (some ⟨q_p0, 0, none⟩), .int .i64 p1] w0 fun e w' => ∃ x : Value, e = .returned (.tuple #[]) ∧ Stw ⟨Y, X, w0⟩ [(q_p0, [.int .i64 r.1, .int .i64 r.2.1, x])] [row (x) 80 R80 r.2.2] w' := by
  refine enter Try.func27 rfl Try.ntmps27 rfl (fun a hF => ?_)
  have hW := hL
  unfold clock_Clocks_Tick at H
  refine c_seq ?_
  refine c_seq ?_
  refine reg_list ?_
  refine ls hF hW rfl ((y_move hF rfl).q) (fun a w hF hW => ?_)
  refine ls hF hW rfl ((y_peq_some_nil Try.underlying48 hF rfl rfl).q) (fun a w hF hW => ?_)
  refine ls hF hW rfl ((y_move hF rfl).q) (fun a w hF hW => ?_)
  refine ls_w hF hW (wanted_y hF rfl rfl rfl rfl) rfl (Nat.le_of_ble_eq_true rfl) ((y_move hF rfl).q) (fun a w hF hW => ?_)
  refine ls_w hF hW (wanted_y hF rfl rfl rfl rfl) rfl (Nat.le_of_ble_eq_true rfl) ((y_lss hF rfl rfl).q) (fun a w hF hW => ?_)
  refine ls hF hW rfl ((y_pick_f hF rfl rfl rfl).q) (fun a w hF hW => ?_)
  refine ls_nil ?_
  refine c_then ?_
  refine c_cond hF rfl (fun hb => ?_) (fun hb => ?_)
  ·
    have H := iteT (of_decide_eq_true hb) H
    rw [hb] at hF
    clear hb
    refine wp_ret ?_
    refine r_then ?_
    have H := Option.some.inj H
    subst H
    refine post0 (.inl rfl) hF rfl ?_
    exact ⟨(v1), rfl, hW⟩
  ·
    have H := iteF (of_decide_eq_false hb) H
    rw [hb] at hF
    clear hb
    refine wp_skip ?_
    refine c_then ?_
    refine c_seq ?_
    refine reg_list ?_
    refine ls hF hW rfl ((y_move hF rfl).q) (fun a w hF hW => ?_)
    refine ls hF hW rfl ((y_move hF rfl).q) (fun a w hF hW => ?_)
    refine ls hF hW rfl ((y_nilCheck hF rfl).q) (fun a w hF hW => ?_)
    refine ls hF hW rfl ((y_fieldAddr Try.underlying76 rfl rfl rfl T3 hF rfl 0 rfl).q) (fun a w hF hW => ?_)
    refine ls hF hW rfl ((y_load (v := Value.int .i64 p0.1) 0 hF rfl rfl T3 rfl).q) (fun a w hF hW => ?_)
    refine ls hF hW rfl ((y_sub hF rfl rfl rfl).q) (fun a w hF hW => ?_)
    refine ls hF hW rfl ((y_min hF rfl rfl).q) (fun a w hF hW => ?_)
    refine ls hF hW rfl ((y_assign hF rfl).q) (fun a w hF hW => ?_)
    refine ls_nil ?_
    refine c_then ?_
    refine c_seq ?_
    refine reg_list ?_
    refine ls hF hW rfl ((y_move hF rfl).q) (fun a w hF hW => ?_)
    refine ls hF hW rfl ((y_nilCheck hF rfl).q) (fun a w hF hW => ?_)
    refine ls hF hW rfl ((y_fieldAddr Try.underlying76 rfl rfl rfl T3 hF rfl 0 rfl).q) (fun a w hF hW => ?_)
    refine ls hF hW rfl ((y_load (v := Value.int .i64 p0.1) 0 hF rfl rfl T3 rfl).q) (fun a w hF hW => ?_)
    refine ls hF hW rfl ((y_move hF rfl).q) (fun a w hF hW => ?_)
    refine ls hF hW rfl ((y_add hF rfl rfl rfl).q) (fun a w hF hW => ?_)
    refine ls hF hW rfl ((y_nilCheck hF rfl).q) (fun a w hF hW => ?_)
    refine ls hF hW rfl ((y_fieldAddr Try.underlying76 rfl rfl rfl T3 hF rfl 0 rfl).q) (fun a w hF hW => ?_)
    refine l_store (vs := [.int .i64 (w64 (p0.1 + (min p1 (w64 (1099511627776 - p0.1)))))]) (M' := [(q_p0, [.int .i64 (w64 (p0.1 + (min p1 (w64 (1099511627776 - p0.1))))), .int .i64 p0.2.1, v1])]) 0 hF hW rfl rfl rfl T3 rfl rfl rfl rfl rfl (fun w hW => ?_)
    refine ls_nil ?_
    refine c_then ?_
    refine c_seq ?_
    refine reg_list ?_
    refine ls hF hW rfl ((y_move hF rfl).q) (fun a w hF hW => ?_)
    refine ls hF hW rfl ((y_nilCheck hF rfl).q) (fun a w hF hW => ?_)
    refine ls hF hW rfl ((y_fieldAddr Try.underlying76 rfl rfl rfl T74 hF rfl 2 rfl).q) (fun a w hF hW => ?_)
    refine ls hF hW rfl ((y_load (v := v1) 0 hF rfl rfl T74 rfl).q) (fun a w hF hW => ?_)
    refine ls hF hW rfl ((y_len (r := R80) (l := p0.2.2) Try.underlying74 rfl hF rfl (rdc_row 0 rfl)).q) (fun a w hF hW => ?_)
    refine ls hF hW rfl ((y_move hF rfl).q) (fun a w hF hW => ?_)
    refine ls_nil ?_
    refine c_then ?_
    refine wp_block ?_
    refine c_loopW H (fun s a w => Fr 56 [] [(0, .pointer (some ⟨q_p0, 0, none⟩)), (1, .int .i64 (min p1 (w64 (1099511627776 - p0.1)))), (30, .int .i64 (p0.2.2.length : Int)), (31, .int .i64 s.1)] a ∧ Stw ⟨Y, X, w0⟩ [(q_p0, [.int .i64 (w64 (p0.1 + (min p1 (w64 (1099511627776 - p0.1))))), .int .i64 p0.2.1, v1])] [row v1 80 R80 s.2] w) ⟨hF.re ⟨rfl, rfl, rfl, rfl, trivial⟩, hW⟩ (fun s o a w H L1 hR => ?_)
    obtain ⟨x1, x2⟩ := s
    obtain ⟨hF, hW⟩ := hR
    have hF : Fr 56 [] [(0, .pointer (some ⟨q_p0, 0, none⟩)), (1, .int .i64 (min p1 (w64 (1099511627776 - p0.1)))), (30, .int .i64 (p0.2.2.length : Int)), (31, .int .i64 x1)] a := hF
    have hW : Stw ⟨Y, X, w0⟩ [(q_p0, [.int .i64 (w64 (p0.1 + (min p1 (w64 (1099511627776 - p0.1))))), .int .i64 p0.2.1, v1])] [row v1 80 R80 x2] w := hW
    rw [clock_Clocks_Tick_l1] at H
    refine c_seq ?_
    refine reg_list ?_
    refine ls hF hW rfl ((y_lss hF rfl rfl).q) (fun a w hF hW => ?_)
    refine ls_nil ?_
    refine c_then ?_
    refine c_seq ?_
    refine c_cond hF rfl (fun hb => ?_) (fun hb => ?_)
    ·
      have H := iteT (of_decide_eq_true hb) H
      rw [hb] at hF
      clear hb
      refine wp_skip ?_
      refine c_then ?_
      refine c_seq ?_
      refine wp_block ?_
      refine c_seq ?_
      refine reg_list ?_
      refine ls hF hW rfl ((y_move hF rfl).q) (fun a w hF hW => ?_)
      refine ls hF hW rfl ((y_assign hF rfl).q) (fun a w hF hW => ?_)
      refine ls_nil ?_
      refine c_then ?_
      refine reg_tail 21 hW MO (by kernel_rfl) ?_
      refine qs hF rfl ((y_move hF rfl).q) (fun a hF => ?_)
      refine qs hF rfl ((y_nilCheck hF rfl).q) (fun a hF => ?_)
      refine qs hF rfl ((y_fieldAddr Try.underlying76 rfl rfl rfl T74 hF rfl 2 rfl).q) (fun a hF => ?_)
      refine qs hF rfl ((y_load (v := v1) 0 hF rfl rfl T74 rfl).q) (fun a hF => ?_)
      refine qs hF rfl ((y_move hF rfl).q) (fun a hF => ?_)
      obtain ⟨x3, h1, H⟩ := bindE H
      refine qs hF rfl ((y_index (r := R80) L74 hF rfl rfl (rdc_row 0 rfl) h1).q) (fun a hF => ?_)
      refine qs hF rfl ((y_fieldAddr Try.underlying80 rfl rfl rfl T3 hF rfl (voff v1 + (x1).toNat * 3 + 2) rfl).q) (fun a hF => ?_)
      refine qs hF rfl ((y_load_el (y := Value.int .i64 x3.2.2) (j := 2) (i := x1) hF rfl rfl (rdc_row 0 rfl) h1 F80.to T3 rfl).q) (fun a hF => ?_)
      refine qs hF rfl ((y_move hF rfl).q) (fun a hF => ?_)
      refine qs hF rfl ((y_move hF rfl).q) (fun a hF => ?_)
      refine qs hF rfl ((y_nilCheck hF rfl).q) (fun a hF => ?_)
      refine qs hF rfl ((y_fieldAddr Try.underlying76 rfl rfl rfl T74 hF rfl 2 rfl).q) (fun a hF => ?_)
      refine qs hF rfl ((y_load (v := v1) 0 hF rfl rfl T74 rfl).q) (fun a hF => ?_)
      refine qs hF rfl ((y_move hF rfl).q) (fun a hF => ?_)
      obtain ⟨x4, h2, H⟩ := bindE H
      refine qs hF rfl ((y_index (r := R80) L74 hF rfl rfl (rdc_row 0 rfl) h2).q) (fun a hF => ?_)
      refine qs hF rfl ((y_fieldAddr Try.underlying80 rfl rfl rfl T3 hF rfl (voff v1 + (x1).toNat * 3 + 1) rfl).q) (fun a hF => ?_)
      refine qs hF rfl ((y_load_el (y := Value.int .i64 x4.2.1) (j := 1) (i := x1) hF rfl rfl (rdc_row 0 rfl) h2 F80.to T3 rfl).q) (fun a hF => ?_)
      refine qs hF rfl ((y_mul hF rfl rfl rfl).q) (fun a hF => ?_)
      refine qs hF rfl ((y_add hF rfl rfl rfl).q) (fun a hF => ?_)
      obtain ⟨x5, h3, H⟩ := bindE H
      refine qs hF rfl ((y_index (r := R80) L74 hF rfl rfl (rdc_row 0 rfl) h3).q) (fun a hF => ?_)
      refine qs hF rfl ((y_fieldAddr Try.underlying80 rfl rfl rfl T3 hF rfl (voff v1 + (x1).toNat * 3 + 2) rfl).q) (fun a hF => ?_)
      refine quiet_end (fun w hW => ?_)
      refine l_store_el (i := x1) (j := 2) (vs := [.int .i64 (w64 (x3.2.2 + (w64 ((min p1 (w64 (1099511627776 - p0.1))) * x4.2.1))))]) (x' := (x5.1, x5.2.1, w64 (x3.2.2 + (w64 ((min p1 (w64 (1099511627776 - p0.1))) * x4.2.1))))) hF hW rfl rfl rfl (k := 0) rfl rfl h3 T3 rfl rfl rfl rfl (fun A cs _ => F80.sto (by rfl) _ _ _) (fun w hW => ?_)
      refine ls_nil ?_
      refine b_normal ?_
      refine c_then ?_
      refine reg_list ?_
      refine ls hF hW rfl ((y_add hF rfl rfl rfl).q) (fun a w hF hW => ?_)
      refine ls hF hW rfl ((y_move hF rfl).q) (fun a w hF hW => ?_)
      refine ls_nil ?_
      refine c_then ?_
      exact ⟨_, H, hF.re ⟨rfl, rfl, rfl, rfl, trivial⟩, hW⟩
    ·
      have H := iteF (of_decide_eq_false hb) H
      rw [hb] at hF
      clear hb
      refine wp_exit ?_
      refine e_then ?_
      refine e_then ?_
      refine e_block ?_
      have H := L1 _ H
      have H := Option.some.inj H
      subst H
      refine post0 (.inr rfl) hF rfl ?_
      exact ⟨(v1), rfl, hW⟩

theorem H27 : Has Try.prog 27 := ⟨fun args w => run_callFunc_body Try.func27 rfl (by decide) args w⟩
def clock_Clocks_has (p0 : Int × Int × (List (Int × Int × Int))) (p1 : Int) : Bool := (decide (0 ≤ p1) && decide (p1 < (p0.2.2.length : Int)))
theorem clock_Clocks_has_c (Y : Nat → Prop) (w0 : World) (q_p0 : Nat) (v1 : Value) (p0 : Int × Int × (List (Int × Int × Int))) (p1 : Int) (r : Bool) (H : clock_Clocks_has p0 p1 = r) (h_v1 : Sl w0 (NX []) R80 v1 p0.2.2) (a_q_p0 : At ⟨Y, [], w0⟩ q_p0 0 [.int .i64 p0.1, .int .i64 p0.2.1, v1]) :
    Calls Try.prog 45 #[.pointer (some ⟨q_p0, 0, none⟩), .int .i64 p1] w0 fun e w' => e = .returned (.bool r) ∧ Below w0.heap.size w0 w' := by
  refine enter Try.func45 rfl Try.ntmps45 rfl (fun a hF => ?_)
  have hW := Stw.start Y w0
  unfold clock_Clocks_has at H
  refine c_seq ?_
  refine reg_list ?_
  refine ls hF hW rfl ((y_assign hF rfl).q) (fun a w hF hW => ?_)
  refine ls_nil ?_
  refine c_then ?_
  refine c_seqJ (fun a w => Fr 20 [] [(4, .bool (decide (0 ≤ p1) && decide (p1 < (p0.2.2.length : Int))))] a ∧ Stw ⟨Y, [], w0⟩ [] [] w) ?_ ?_
  ·
    refine reg_list ?_
    refine ls hF hW rfl ((y_move hF rfl).q) (fun a w hF hW => ?_)
    refine ls hF hW rfl ((y_pne_some_nil Try.underlying48 hF rfl rfl).q) (fun a w hF hW => ?_)
    refine ls hF hW rfl ((y_move hF rfl).q) (fun a w hF hW => ?_)
    refine ls_w hF hW (wanted_y hF rfl rfl rfl rfl) rfl (Nat.le_of_ble_eq_true rfl) ((y_move hF rfl).q) (fun a w hF hW => ?_)
    refine ls_w hF hW (wanted_y hF rfl rfl rfl rfl) rfl (Nat.le_of_ble_eq_true rfl) ((y_geq hF rfl rfl).q) (fun a w hF hW => ?_)
    refine ls hF hW rfl ((y_pick_t hF rfl rfl rfl).q) (fun a w hF hW => ?_)
    refine ls hF hW rfl ((y_move hF rfl).q) (fun a w hF hW => ?_)
    rcases Bool.eq_false_or_eq_true (decide (0 ≤ p1)) with hb0 | hb0
    ·
      rw [hb0] at hF
      refine ls_w hF hW (wanted_y hF rfl rfl rfl rfl) rfl (Nat.le_of_ble_eq_true rfl) ((y_move hF rfl).q) (fun a w hF hW => ?_)
      refine ls_w hF hW (wanted_y hF rfl rfl rfl rfl) rfl (Nat.le_of_ble_eq_true rfl) ((y_move hF rfl).q) (fun a w hF hW => ?_)
      refine ls_w hF hW (wanted_y hF rfl rfl rfl rfl) rfl (Nat.le_of_ble_eq_true rfl) ((y_nilCheck hF rfl).q) (fun a w hF hW => ?_)
      refine ls_w hF hW (wanted_y hF rfl rfl rfl rfl) rfl (Nat.le_of_ble_eq_true rfl) ((y_fieldAddr Try.underlying76 rfl rfl rfl T74 hF rfl 2 rfl).q) (fun a w hF hW => ?_)
      refine ls_w hF hW (wanted_y hF rfl rfl rfl rfl) rfl (Nat.le_of_ble_eq_true rfl) ((y_load_at (y := v1) (j := 2) hF rfl (Nat.zero_add _).symm a_q_p0 T74 rfl).q) (fun a w hF hW => ?_)
      refine ls_w hF hW (wanted_y hF rfl rfl rfl rfl) rfl (Nat.le_of_ble_eq_true rfl) ((y_len (r := R80) (l := p0.2.2) Try.underlying74 rfl hF rfl (rdc_ro h_v1)).q) (fun a w hF hW => ?_)
      refine ls_w hF hW (wanted_y hF rfl rfl rfl rfl) rfl (Nat.le_of_ble_eq_true rfl) ((y_lss hF rfl rfl).q) (fun a w hF hW => ?_)
      refine ls hF hW rfl ((y_pick_t hF rfl rfl rfl).q) (fun a w hF hW => ?_)
      refine ls hF hW rfl ((y_assign hF rfl).q) (fun a w hF hW => ?_)
      refine ls_nil ?_
      refine c_then ?_
      exact ⟨hF.re ⟨(by show some (Value.bool (decide (p1 < (p0.2.2.length : Int)))) = some (Value.bool (decide (0 ≤ p1) && decide (p1 < (p0.2.2.length : Int)))); try rw [hb0]; all_goals simp only [Bool.not_true, Bool.not_false, Bool.true_and, Bool.false_and, Bool.true_or, Bool.false_or, Bool.and_true, Bool.or_false, cond_true, cond_false]), trivial⟩, hW⟩
    ·
      rw [hb0] at hF
      refine ls_skip hF (wanted_n hF rfl rfl rfl rfl rfl) rfl rfl (fun a hF => ?_)
      refine ls_skip hF (wanted_n hF rfl rfl rfl rfl rfl) rfl rfl (fun a hF => ?_)
      refine ls_skip hF (wanted_n hF rfl rfl rfl rfl rfl) rfl rfl (fun a hF => ?_)
      refine ls_skip hF (wanted_n hF rfl rfl rfl rfl rfl) rfl rfl (fun a hF => ?_)
      refine ls_skip hF (wanted_n hF rfl rfl rfl rfl rfl) rfl rfl (fun a hF => ?_)
      refine ls_skip hF (wanted_n hF rfl rfl rfl rfl rfl) rfl rfl (fun a hF => ?_)
      refine ls_skip hF (wanted_n hF rfl rfl rfl rfl rfl) rfl rfl (fun a hF => ?_)
      refine ls hF hW rfl ((y_pick_f hF rfl rfl rfl).q) (fun a w hF hW => ?_)
      refine ls hF hW rfl ((y_assign hF rfl).q) (fun a w hF hW => ?_)
      refine ls_nil ?_
      refine c_then ?_
      exact ⟨hF.re ⟨(by show some (Value.bool false) = some (Value.bool (decide (0 ≤ p1) && decide (p1 < (p0.2.2.length : Int)))); try rw [hb0]; all_goals simp only [Bool.not_true, Bool.not_false, Bool.true_and, Bool.false_and, Bool.true_or, Bool.false_or, Bool.and_true, Bool.or_false, cond_true, cond_false]), trivial⟩, hW⟩
  rintro a w ⟨hF, hW⟩
  refine wp_ret ?_
  subst H
  refine post1 (.inl rfl) hF hW rfl (rv_tmp hF rfl) ?_
  exact ⟨rfl, hW.done⟩

theorem H45 : Has Try.prog 45 := ⟨fun args w => run_callFunc_body Try.func45 rfl (by decide) args w⟩
noncomputable def clock_Clocks_Rate (p0 : Int × Int × (List (Int × Int × Int))) (p1 : Int) (p2 : Int) : Option (Int × (Int × Int × (List (Int × Int × Int)))) := (if (!(clock_Clocks_has p0 p1)) = true then some (7, p0) else (if (decide (p2 < (w64 (0 - p0.2.1))) || decide (p0.2.1 < p2)) = true then some (2, p0) else (ix p0.2.2 p1).bind fun x1 => some (0, (p0.1, p0.2.1, (setAt p0.2.2 p1 (x1.1, p2, x1.2.2))))))
theorem clock_Clocks_Rate_c (Y : Nat → Prop) (X : List Nat) (w0 : World) (q_p0 : Nat) (v1 : Value) (p0 : Int × Int × (List (Int × Int × Int))) (p1 : Int) (p2 : Int) (r : Int × (Int × Int × (List (Int × Int × Int)))) (H : clock_Clocks_Rate p0 p1 p2 = some r) (hL : Stw ⟨Y, X, w0⟩ [(q_p0, [.int .i64 p0.1, .int .i64 p0.2.1, v1])] [row v1 80 R80 p0.2.2] w0) :
    Calls Try.prog 26 #[.pointer (some ⟨q_p0, 0, none⟩), .int .i64 p1, .int .i64 p2] w0 fun e w' => ∃ x : Value, e = .returned (.int .i64 r.1) ∧ Stw ⟨Y, X, w0⟩ [(q_p0, [.int .i64 r.2.1, .int .i64 r.2.2.1, x])] [row (x) 80 R80 r.2.2.2] w' := by
  refine enter Try.func26 rfl Try.ntmps26 rfl (fun a hF => ?_)
  have hW := hL
  unfold clock_Clocks_Rate at H
  refine c_seq ?_
  refine reg_list ?_
  refine ls hF hW rfl ((y_assign hF rfl).q) (fun a w hF hW => ?_)
  refine ls_nil ?_
  refine c_then ?_
  refine c_seq ?_
  refine c_seq ?_
  refine reg_list ?_
  refine ls hF hW rfl ((y_move hF rfl).q) (fun a w hF hW => ?_)
  refine ls hF hW rfl ((y_move hF rfl).q) (fun a w hF hW => ?_)
  refine ls hF hW rfl (y_call (v := Value.bool (clock_Clocks_has p0 p1)) hF H45 rfl (fun w hW => clock_Clocks_has_c any w q_p0 (v1) p0 p1 _ rfl (((rdc_row 0 rfl) : Rdc _ _ _ _ _ _) w hW).nx (at_M hW 0 rfl))) (fun a w hF hW => ?_)
  refine ls hF hW rfl ((y_not hF rfl).q) (fun a w hF hW => ?_)
  refine ls_nil ?_
  refine c_then ?_
  refine c_cond hF rfl (fun hb => ?_) (fun hb => ?_)
  ·
    have H := iteT hb H
    rw [hb] at hF
    clear hb
    refine c_seq ?_
    refine reg_list ?_
    refine ls hF hW rfl ((y_assign hF rfl).q) (fun a w hF hW => ?_)
    refine ls_nil ?_
    refine c_then ?_
    refine wp_ret ?_
    refine r_then ?_
    have H := Option.some.inj H
    subst H
    refine post1 (.inl rfl) hF hW rfl (rv_tmp hF rfl) ?_
    exact ⟨(v1), rfl, hW⟩
  ·
    have H := iteF (by rw [hb]; decide) H
    rw [hb] at hF
    clear hb
    refine wp_skip ?_
    refine c_then ?_
    refine c_seq ?_
    refine c_seqJ (fun a w => Fr 34 [] [(0, .pointer (some ⟨q_p0, 0, none⟩)), (1, .int .i64 p1), (2, .int .i64 p2), (6, .int .i64 0), (25, .bool (decide (p2 < (w64 (0 - p0.2.1))) || decide (p0.2.1 < p2)))] a ∧ Stw ⟨Y, X, w0⟩ [(q_p0, [.int .i64 p0.1, .int .i64 p0.2.1, v1])] [row v1 80 R80 p0.2.2] w) ?_ ?_
    ·
      refine reg_list ?_
      refine ls hF hW rfl ((y_move hF rfl).q) (fun a w hF hW => ?_)
      refine ls hF hW rfl ((y_move hF rfl).q) (fun a w hF hW => ?_)
      refine ls hF hW rfl ((y_nilCheck hF rfl).q) (fun a w hF hW => ?_)
      refine ls hF hW rfl ((y_fieldAddr Try.underlying76 rfl rfl rfl T3 hF rfl 1 rfl).q) (fun a w hF hW => ?_)
      refine ls hF hW rfl ((y_load (v := Value.int .i64 p0.2.1) 0 hF rfl rfl T3 rfl).q) (fun a w hF hW => ?_)
      refine ls hF hW rfl ((y_neg hF rfl rfl).q) (fun a w hF hW => ?_)
      refine ls hF hW rfl ((y_lss hF rfl rfl).q) (fun a w hF hW => ?_)
      refine ls hF hW rfl ((y_move hF rfl).q) (fun a w hF hW => ?_)
      rcases Bool.eq_false_or_eq_true (decide (p2 < (w64 (0 - p0.2.1)))) with hb0 | hb0
      ·
        rw [hb0] at hF
        refine ls_skip hF (wanted_n hF rfl rfl rfl rfl rfl) rfl rfl (fun a hF => ?_)
        refine ls_skip hF (wanted_n hF rfl rfl rfl rfl rfl) rfl rfl (fun a hF => ?_)
        refine ls_skip hF (wanted_n hF rfl rfl rfl rfl rfl) rfl rfl (fun a hF => ?_)
        refine ls_skip hF (wanted_n hF rfl rfl rfl rfl rfl) rfl rfl (fun a hF => ?_)
        refine ls_skip hF (wanted_n hF rfl rfl rfl rfl rfl) rfl rfl (fun a hF => ?_)
        refine ls_skip hF (wanted_n hF rfl rfl rfl rfl rfl) rfl rfl (fun a hF => ?_)
        refine ls hF hW rfl ((y_pick_t hF rfl rfl rfl).q) (fun a w hF hW => ?_)
        refine ls_nil ?_
        refine c_then ?_
        exact ⟨hF.re ⟨rfl, rfl, rfl, rfl, (by show some (Value.bool true) = some (Value.bool (decide (p2 < (w64 (0 - p0.2.1))) || decide (p0.2.1 < p2))); try rw [hb0]; all_goals simp only [Bool.not_true, Bool.not_false, Bool.true_and, Bool.false_and, Bool.true_or, Bool.false_or, Bool.and_true, Bool.or_false, cond_true, cond_false]), trivial⟩, hW⟩
      ·
        rw [hb0] at hF
        refine ls_w hF hW (wanted_y hF rfl rfl rfl rfl) rfl (Nat.le_of_ble_eq_true rfl) ((y_move hF rfl).q) (fun a w hF hW => ?_)
        refine ls_w hF hW (wanted_y hF rfl rfl rfl rfl) rfl (Nat.le_of_ble_eq_true rfl) ((y_move hF rfl).q) (fun a w hF hW => ?_)
        refine ls_w hF hW (wanted_y hF rfl rfl rfl rfl) rfl (Nat.le_of_ble_eq_true rfl) ((y_nilCheck hF rfl).q) (fun a w hF hW => ?_)
        refine ls_w hF hW (wanted_y hF rfl rfl rfl rfl) rfl (Nat.le_of_ble_eq_true rfl) ((y_fieldAddr Try.underlying76 rfl rfl rfl T3 hF rfl 1 rfl).q) (fun a w hF hW => ?_)
        refine ls_w hF hW (wanted_y hF rfl rfl rfl rfl) rfl (Nat.le_of_ble_eq_true rfl) ((y_load (v := Value.int .i64 p0.2.1) 0 hF rfl rfl T3 rfl).q) (fun a w hF hW => ?_)
        refine ls_w hF hW (wanted_y hF rfl rfl rfl rfl) rfl (Nat.le_of_ble_eq_true rfl) ((y_gtr hF rfl rfl).q) (fun a w hF hW => ?_)
        refine ls hF hW rfl ((y_pick_f hF rfl rfl rfl).q) (fun a w hF hW => ?_)
        refine ls_nil ?_
        refine c_then ?_
        exact ⟨hF.re ⟨rfl, rfl, rfl, rfl, (by show some (Value.bool (decide (p0.2.1 < p2))) = some (Value.bool (decide (p2 < (w64 (0 - p0.2.1))) || decide (p0.2.1 < p2))); try rw [hb0]; all_goals simp only [Bool.not_true, Bool.not_false, Bool.true_and, Bool.false_and, Bool.true_or, Bool.false_or, Bool.and_true, Bool.or_false, cond_true, cond_false]), trivial⟩, hW⟩
    rintro a w ⟨hF, hW⟩
    refine c_cond hF rfl (fun hb => ?_) (fun hb => ?_)
    ·
      have H := iteT hb H
      rw [hb] at hF
      clear hb
      refine c_seq ?_
      refine reg_list ?_
      refine ls hF hW rfl ((y_assign hF rfl).q) (fun a w hF hW => ?_)
      refine ls_nil ?_
      refine c_then ?_
      refine wp_ret ?_
      refine r_then ?_
      have H := Option.some.inj H
      subst H
      refine post1 (.inl rfl) hF hW rfl (rv_tmp hF rfl) ?_
      exact ⟨(v1), rfl, hW⟩
    ·
      have H := iteF (by rw [hb]; decide) H
      rw [hb] at hF
      clear hb
      refine wp_skip ?_
      refine c_then ?_
      refine c_seq ?_
      refine reg_list ?_
      refine ls hF hW rfl ((y_move hF rfl).q) (fun a w hF hW => ?_)
      refine ls hF hW rfl ((y_nilCheck hF rfl).q) (fun a w hF hW => ?_)
      refine ls hF hW rfl ((y_fieldAddr Try.underlying76 rfl rfl rfl T74 hF rfl 2 rfl).q) (fun a w hF hW => ?_)
      refine ls hF hW rfl ((y_load (v := v1) 0 hF rfl rfl T74 rfl).q) (fun a w hF hW => ?_)
      refine ls hF hW rfl ((y_move hF rfl).q) (fun a w hF hW => ?_)
      refine ls hF hW rfl ((y_move hF rfl).q) (fun a w hF hW => ?_)
      obtain ⟨x1, h1, H⟩ := bindE H
      refine ls hF hW rfl ((y_index (r := R80) L74 hF rfl rfl (rdc_row 0 rfl) h1).q) (fun a w hF hW => ?_)
      refine ls hF hW rfl ((y_fieldAddr Try.underlying80 rfl rfl rfl T3 hF rfl (voff v1 + (p1).toNat * 3 + 1) rfl).q) (fun a w hF hW => ?_)
      refine l_store_el (i := p1) (j := 1) (vs := [.int .i64 p2]) (x' := (x1.1, p2, x1.2.2)) hF hW rfl rfl rfl (k := 0) rfl rfl h1 T3 rfl rfl rfl rfl (fun A cs _ => F80.sto (by rfl) _ _ _) (fun w hW => ?_)
      refine ls_nil ?_
      refine c_then ?_
      refine c_seq ?_
      refine reg_list ?_
      refine ls hF hW rfl ((y_assign hF rfl).q) (fun a w hF hW => ?_)
      refine ls_nil ?_
      refine c_then ?_
      refine wp_ret ?_
      have H := Option.some.inj H
      subst H
      refine post1 (.inl rfl) hF hW rfl (rv_tmp hF rfl) ?_
      exact ⟨(v1), rfl, hW⟩

theorem H26 : Has Try.prog 26 := ⟨fun args w => run_callFunc_body Try.func26 rfl (by decide) args w⟩
def clock_Clocks_Real (p0 : Int × Int × (List (Int × Int × Int))) : Int := p0.1
theorem clock_Clocks_Real_c (Y : Nat → Prop) (w0 : World) (q_p0 : Nat) (v1 : Value) (p0 : Int × Int × (List (Int × Int × Int))) (r : Int) (H : clock_Clocks_Real p0 = r) (h_v1 : Sl w0 (NX []) R80 v1 p0.2.2) (a_q_p0 : At ⟨Y, [], w0⟩ q_p0 0 [.int .i64 p0.1, .int .i64 p0.2.1, v1]) :
    Calls Try.prog 21 #[.pointer (some ⟨q_p0, 0, none⟩)] w0 fun e w' => e = .returned (.int .i64 r) ∧ Below w0.heap.size w0 w' := by
  refine enter Try.func21 rfl Try.ntmps21 rfl (fun a hF => ?_)
  have hW := Stw.start Y w0
  unfold clock_Clocks_Real at H
  refine c_seq ?_
  refine reg_list ?_
  refine ls hF hW rfl ((y_assign hF rfl).q) (fun a w hF hW => ?_)
  refine ls_nil ?_
  refine c_then ?_
  refine c_seq ?_
  refine c_seq ?_
  refine reg_list ?_
  refine ls hF hW rfl ((y_move hF rfl).q) (fun a w hF hW => ?_)
  refine ls hF hW rfl ((y_peq_some_nil Try.underlying48 hF rfl rfl).q) (fun a w hF hW => ?_)
  refine ls_nil ?_
  refine c_then ?_
  refine c_cond_f hF rfl ?_
  refine wp_skip ?_
  refine c_then ?_
  refine c_seq ?_
  refine reg_list ?_
  refine ls hF hW rfl ((y_move hF rfl).q) (fun a w hF hW => ?_)
  refine ls hF hW rfl ((y_nilCheck hF rfl).q) (fun a w hF hW => ?_)
  refine ls hF hW rfl ((y_fieldAddr Try.underlying76 rfl rfl rfl T3 hF rfl 0 rfl).q) (fun a w hF hW => ?_)
  refine ls hF hW rfl ((y_load_at (y := Value.int .i64 p0.1) (j := 0) hF rfl (Nat.zero_add _).symm a_q_p0 T3 rfl).q) (fun a w hF hW => ?_)
  refine ls hF hW rfl ((y_assign hF rfl).q) (fun a w hF hW => ?_)
  refine ls_nil ?_
  refine c_then ?_
  refine wp_ret ?_
  subst H
  refine post1 (.inl rfl) hF hW rfl (rv_tmp hF rfl) ?_
  exact ⟨rfl, hW.done⟩

theorem H21 : Has Try.prog 21 := ⟨fun args w => run_callFunc_body Try.func21 rfl (by decide) args w⟩
noncomputable def clock_Clocks_Apart (p0 : Int × Int × (List (Int × Int × Int))) (p1 : Int) : Option Int := (if (!(clock_Clocks_has p0 p1)) = true then some 0 else (ix p0.2.2 p1).bind fun x1 => (ix p0.2.2 p1).bind fun x2 => (clock_floorThousandth x2.2.2).bind fun x3 => some (w64 (x1.1 + x3)))
theorem clock_Clocks_Apart_c (Y : Nat → Prop) (w0 : World) (q_p0 : Nat) (v1 : Value) (p0 : Int × Int × (List (Int × Int × Int))) (p1 : Int) (r : Int) (H : clock_Clocks_Apart p0 p1 = some r) (h_v1 : Sl w0 (NX []) R80 v1 p0.2.2) (a_q_p0 : At ⟨Y, [], w0⟩ q_p0 0 [.int .i64 p0.1, .int .i64 p0.2.1, v1]) :
    Calls Try.prog 24 #[.pointer (some ⟨q_p0, 0, none⟩), .int .i64 p1] w0 fun e w' => e = .returned (.int .i64 r) ∧ Below w0.heap.size w0 w' := by
  refine enter Try.func24 rfl Try.ntmps24 rfl (fun a hF => ?_)
  have hW := Stw.start Y w0
  unfold clock_Clocks_Apart at H
  refine c_seq ?_
  refine reg_list ?_
  refine ls hF hW rfl ((y_assign hF rfl).q) (fun a w hF hW => ?_)
  refine ls_nil ?_
  refine c_then ?_
  refine c_seq ?_
  refine c_seq ?_
  refine reg_list ?_
  refine ls hF hW rfl ((y_move hF rfl).q) (fun a w hF hW => ?_)
  refine ls hF hW rfl ((y_move hF rfl).q) (fun a w hF hW => ?_)
  refine ls hF hW rfl (y_call (v := Value.bool (clock_Clocks_has p0 p1)) hF H45 rfl (fun w hW => clock_Clocks_has_c any w q_p0 (v1) p0 p1 _ rfl (((rdc_ro h_v1) : Rdc _ _ _ _ _ _) w hW).nx (At.re a_q_p0 hW))) (fun a w hF hW => ?_)
  refine ls hF hW rfl ((y_not hF rfl).q) (fun a w hF hW => ?_)
  refine ls_nil ?_
  refine c_then ?_
  refine c_cond hF rfl (fun hb => ?_) (fun hb => ?_)
  ·
    have H := iteT hb H
    rw [hb] at hF
    clear hb
    refine c_seq ?_
    refine reg_list ?_
    refine ls hF hW rfl ((y_assign hF rfl).q) (fun a w hF hW => ?_)
    refine ls_nil ?_
    refine c_then ?_
    refine wp_ret ?_
    refine r_then ?_
    have H := Option.some.inj H
    subst H
    refine post1 (.inl rfl) hF hW rfl (rv_tmp hF rfl) ?_
    exact ⟨rfl, hW.done⟩
  ·
    have H := iteF (by rw [hb]; decide) H
    rw [hb] at hF
    clear hb
    refine wp_skip ?_
    refine c_then ?_
    refine c_seq ?_
    refine reg_quiet hW MO (by kernel_rfl) ?_
    refine qs hF rfl ((y_move hF rfl).q) (fun a hF => ?_)
    refine qs hF rfl ((y_nilCheck hF rfl).q) (fun a hF => ?_)
    refine qs hF rfl ((y_fieldAddr Try.underlying76 rfl rfl rfl T74 hF rfl 2 rfl).q) (fun a hF => ?_)
    refine qs hF rfl ((y_load_at (y := v1) (j := 2) hF rfl (Nat.zero_add _).symm a_q_p0 T74 rfl).q) (fun a hF => ?_)
    refine qs hF rfl ((y_move hF rfl).q) (fun a hF => ?_)
    obtain ⟨x1, h1, H⟩ := bindE H
    refine qs hF rfl ((y_index (r := R80) L74 hF rfl rfl (rdc_ro h_v1) h1).q) (fun a hF => ?_)
    refine qs hF rfl ((y_fieldAddr Try.underlying80 rfl rfl rfl T3 hF rfl (voff v1 + (p1).toNat * 3) rfl).q) (fun a hF => ?_)
    refine qs hF rfl ((y_load_el (y := Value.int .i64 x1.1) (j := 0) (i := p1) hF rfl rfl (rdc_ro h_v1) h1 F80.to T3 rfl).q) (fun a hF => ?_)
    refine qs hF rfl ((y_move hF rfl).q) (fun a hF => ?_)
    refine qs hF rfl ((y_nilCheck hF rfl).q) (fun a hF => ?_)
    refine qs hF rfl ((y_fieldAddr Try.underlying76 rfl rfl rfl T74 hF rfl 2 rfl).q) (fun a hF => ?_)
    refine qs hF rfl ((y_load_at (y := v1) (j := 2) hF rfl (Nat.zero_add _).symm a_q_p0 T74 rfl).q) (fun a hF => ?_)
    refine qs hF rfl ((y_move hF rfl).q) (fun a hF => ?_)
    obtain ⟨x2, h2, H⟩ := bindE H
    refine qs hF rfl ((y_index (r := R80) L74 hF rfl rfl (rdc_ro h_v1) h2).q) (fun a hF => ?_)
    refine qs hF rfl ((y_fieldAddr Try.underlying80 rfl rfl rfl T3 hF rfl (voff v1 + (p1).toNat * 3 + 2) rfl).q) (fun a hF => ?_)
    refine qs hF rfl ((y_load_el (y := Value.int .i64 x2.2.2) (j := 2) (i := p1) hF rfl rfl (rdc_ro h_v1) h2 F80.to T3 rfl).q) (fun a hF => ?_)
    obtain ⟨x3, h3, H⟩ := bindE H
    refine qs hF rfl (y_call (v := Value.int .i64 x3) hF H46 rfl (fun w hW => clock_floorThousandth_c any w x2.2.2 _ h3)) (fun a hF => ?_)
    refine qs hF rfl ((y_add hF rfl rfl rfl).q) (fun a hF => ?_)
    refine qs hF rfl ((y_assign hF rfl).q) (fun a hF => ?_)
    refine quiet_end (fun w hW => ?_)
    refine c_then ?_
    refine wp_ret ?_
    have H := Option.some.inj H
    subst H
    refine post1 (.inl rfl) hF hW rfl (rv_tmp hF rfl) ?_
    exact ⟨rfl, hW.done⟩

theorem H24 : Has Try.prog 24 := ⟨fun args w => run_callFunc_body Try.func24 rfl (by decide) args w⟩
noncomputable def clock_Clocks_Read (p0 : Int × Int × (List (Int × Int × Int))) (p1 : Int) : Option Int := (if (!(clock_Clocks_has p0 p1)) = true then some 0 else (clock_Clocks_Apart p0 p1).bind fun x1 => some (w64 (p0.1 + x1)))
theorem clock_Clocks_Read_c (Y : Nat → Prop) (w0 : World) (q_p0 : Nat) (v1 : Value) (p0 : Int × Int × (List (Int × Int × Int))) (p1 : Int) (r : Int) (H : clock_Clocks_Read p0 p1 = some r) (h_v1 : Sl w0 (NX []) R80 v1 p0.2.2) (a_q_p0 : At ⟨Y, [], w0⟩ q_p0 0 [.int .i64 p0.1, .int .i64 p0.2.1, v1]) :
    Calls Try.prog 25 #[.pointer (some ⟨q_p0, 0, none⟩), .int .i64 p1] w0 fun e w' => e = .returned (.int .i64 r) ∧ Below w0.heap.size w0 w' := by
  refine enter Try.func25 rfl Try.ntmps25 rfl (fun a hF => ?_)
  have hW := Stw.start Y w0
  unfold clock_Clocks_Read at H
  refine c_seq ?_
  refine reg_list ?_
  refine ls hF hW rfl ((y_assign hF rfl).q) (fun a w hF hW => ?_)
  refine ls_nil ?_
  refine c_then ?_
  refine c_seq ?_
  refine c_seq ?_
  refine reg_list ?_
  refine ls hF hW rfl ((y_move hF rfl).q) (fun a w hF hW => ?_)
  refine ls hF hW rfl ((y_move hF rfl).q) (fun a w hF hW => ?_)
  refine ls hF hW rfl (y_call (v := Value.bool (clock_Clocks_has p0 p1)) hF H45 rfl (fun w hW => clock_Clocks_has_c any w q_p0 (v1) p0 p1 _ rfl (((rdc_ro h_v1) : Rdc _ _ _ _ _ _) w hW).nx (At.re a_q_p0 hW))) (fun a w hF hW => ?_)
  refine ls hF hW rfl ((y_not hF rfl).q) (fun a w hF hW => ?_)
  refine ls_nil ?_
  refine c_then ?_
  refine c_cond hF rfl (fun hb => ?_) (fun hb => ?_)
  ·
    have H := iteT hb H
    rw [hb] at hF
    clear hb
    refine c_seq ?_
    refine reg_list ?_
    refine ls hF hW rfl ((y_assign hF rfl).q) (fun a w hF hW => ?_)
    refine ls_nil ?_
    refine c_then ?_
    refine wp_ret ?_
    refine r_then ?_
    have H := Option.some.inj H
    subst H
    refine post1 (.inl rfl) hF hW rfl (rv_tmp hF rfl) ?_
    exact ⟨rfl, hW.done⟩
  ·
    have H := iteF (by rw [hb]; decide) H
    rw [hb] at hF
    clear hb
    refine wp_skip ?_
    refine c_then ?_
    refine c_seq ?_
    refine reg_quiet hW MO (by kernel_rfl) ?_
    refine qs hF rfl ((y_move hF rfl).q) (fun a hF => ?_)
    refine qs hF rfl ((y_nilCheck hF rfl).q) (fun a hF => ?_)
    refine qs hF rfl ((y_fieldAddr Try.underlying76 rfl rfl rfl T3 hF rfl 0 rfl).q) (fun a hF => ?_)
    refine qs hF rfl ((y_load_at (y := Value.int .i64 p0.1) (j := 0) hF rfl (Nat.zero_add _).symm a_q_p0 T3 rfl).q) (fun a hF => ?_)
    refine qs hF rfl ((y_move hF rfl).q) (fun a hF => ?_)
    refine qs hF rfl ((y_move hF rfl).q) (fun a hF => ?_)
    obtain ⟨x1, h1, H⟩ := bindE H
    refine qs hF rfl (y_call (v := Value.int .i64 x1) hF H24 rfl (fun w hW => clock_Clocks_Apart_c any w q_p0 (v1) p0 p1 _ h1 (((rdc_ro h_v1) : Rdc _ _ _ _ _ _) w hW).nx (At.re a_q_p0 hW))) (fun a hF => ?_)
    refine qs hF rfl ((y_add hF rfl rfl rfl).q) (fun a hF => ?_)
    refine qs hF rfl ((y_assign hF rfl).q) (fun a hF => ?_)
    refine quiet_end (fun w hW => ?_)
    refine c_then ?_
    refine wp_ret ?_
    have H := Option.some.inj H
    subst H
    refine post1 (.inl rfl) hF hW rfl (rv_tmp hF rfl) ?_
    exact ⟨rfl, hW.done⟩

end Go.Proofs.Ytlapejeadapiiaa
