/- The functions of layer 20, lifted. Conditions: none. -/
import Derived.Test.YtkgajpmlehfcnaaA3
namespace Go.Proofs.Ytkgajpmlehfcnaa
open Go Go.RowKit
set_option linter.unusedVariables false
set_option linter.unusedSimpArgs false
set_option maxRecDepth 20000
set_option maxHeartbeats 1600000
theorem H18 : Has Try.prog 18 := ⟨fun args w => run_callFunc_body Try.func18 rfl (by decide) args w⟩
noncomputable def L20_GraphTells (p0 : Int) (p1 : List (Int × Int)) (p2 : Int) : Option Bool := (if 60 < (p1.length : Int) then (L20_awake).bind fun x1 => some x1 else (L20_mine p1).bind fun x2 => (graph_Order p0 x2).bind fun x3 => (r20_Order p0 p1).bind fun x4 => ((graph_Right p0 x2).bind fun x6 => (r20_Right p0 p1).bind fun x7 => (if x6 ≠ x7 then some true else (graph_Reach p0 x2 p2).bind fun x8 => (r20_Reach p0 p1 p2).bind fun x9 => (r13_Same x8 x9).bind fun x10 => (if (!x10) = true then some true else (r13_Same x3.1 x4.1).bind fun x11 => (if (!x11) = true then some true else some (decide (x3.2 ≠ x4.2)))))).bind fun x5 => (if x5 = true then some false else (graph_Far p0 x2).bind fun x12 => (r20_Far p0 p1).bind fun x13 => ((r13_Same x12.1 x13.1).bind fun x15 => (if x15 = true then (if x12.2 = x13.2 then (graph_Loop p0 x2).bind fun x16 => (r20_Loop p0 p1).bind fun x17 => (r13_Same x16 x17).bind fun x18 => (if x18 = true then (L20_awake).bind fun x19 => some x19 else some false) else some false) else some false)).bind fun x14 => some x14))
theorem L20_GraphTells_c (Y : Nat → Prop) (w0 : World) (v1 : Value) (p0 : Int) (p1 : List (Int × Int)) (p2 : Int) (r : Bool) (H : L20_GraphTells p0 p1 p2 = some r) (h_v1 : Sl w0 (NX []) R41 v1 p1) :
    Calls Try.prog 3 #[.int .i64 p0, v1, .int .i64 p2] w0 fun e w' => e = .returned (.bool r) ∧ Below w0.heap.size w0 w' := by
  refine enter Try.func3 rfl Try.ntmps3 rfl (fun a hF => ?_)
  have hW := Stw.start Y w0
  unfold L20_GraphTells at H
  refine c_seq ?_
  refine reg_list ?_
  refine ls hF hW rfl ((y_assign hF rfl).q) (fun a w hF hW => ?_)
  refine ls_nil ?_
  refine c_then ?_
  refine c_seq ?_
  refine c_seq ?_
  refine reg_list ?_
  refine ls hF hW rfl ((y_move hF rfl).q) (fun a w hF hW => ?_)
  refine ls hF hW rfl ((y_len (r := R41) (l := p1) Try.underlying22 rfl hF rfl (rdc_ro h_v1)).q) (fun a w hF hW => ?_)
  refine ls hF hW rfl ((y_gtr hF rfl rfl).q) (fun a w hF hW => ?_)
  refine ls_nil ?_
  refine c_then ?_
  refine c_cond hF rfl (fun hb => ?_) (fun hb => ?_)
  ·
    have H := iteT (of_decide_eq_true hb) H
    rw [hb] at hF
    clear hb
    refine c_seq ?_
    refine reg_list ?_
    obtain ⟨x1, h1, H⟩ := bindE H
    refine ls hF hW rfl (y_call (v := Value.bool x1) hF H6 rfl (fun w hW => L20_awake_c any w _ h1)) (fun a w hF hW => ?_)
    refine ls hF hW rfl ((y_assign hF rfl).q) (fun a w hF hW => ?_)
    refine ls_nil ?_
    refine c_then ?_
    refine wp_ret ?_
    refine r_then ?_
    have H := Option.some.inj H
    subst H
    refine post1 (.inl rfl) hF hW rfl (rv_tmp hF rfl) ?_
    exact ⟨rfl, hW.done⟩
  ·
    have H := iteF (of_decide_eq_false hb) H
    rw [hb] at hF
    clear hb
    refine wp_skip ?_
    refine c_then ?_
    refine c_seq ?_
    refine reg_list ?_
    refine ls hF hW rfl ((y_move hF rfl).q) (fun a w hF hW => ?_)
    obtain ⟨x2, h2, H⟩ := bindE H
    refine l_callG (Ml := []) (Zl := []) (M := []) (Z := []) (β := Value) (rv := fun x => x) (MM := fun x => []) (ZZ := fun x => [row x 42 R42 x2]) hF hW H7 rfl rfl (fun hL => L20_mine_c _ w (v1) p1 _ h2 ((rdc_ro h_v1) w hW).nx) (fun x a w hF hW => ?_)
    obtain ⟨v2, rfl⟩ : ∃ y, y = x := ⟨x, rfl⟩
    have hW : Stw ⟨Y, [], w0⟩ [] [row v2 42 R42 x2] w := hW
    refine ls hF hW rfl ((y_assign hF rfl).q) (fun a w hF hW => ?_)
    refine ls_nil ?_
    refine c_then ?_
    refine c_seq ?_
    refine reg_list ?_
    refine ls hF hW rfl ((y_move hF rfl).q) (fun a w hF hW => ?_)
    refine ls hF hW rfl ((y_move hF rfl).q) (fun a w hF hW => ?_)
    obtain ⟨x3, h3, H⟩ := bindE H
    refine l_callG (Ml := []) (Zl := []) (M := []) (Z := [row v2 42 R42 x2]) (β := Value) (rv := fun x => .tuple #[x, .bool x3.2]) (MM := fun x => []) (ZZ := fun x => [row x 3 (Rp.int .i64) x3.1]) hF hW H8 rfl rfl (fun hL => graph_Order_c _ w (v2) p0 x2 _ h3 ((rdc_row 0 rfl) w hW).nx) (fun x a w hF hW => ?_)
    obtain ⟨v3, rfl⟩ : ∃ y, y = x := ⟨x, rfl⟩
    have hW : Stw ⟨Y, [], w0⟩ [] [row v3 3 (Rp.int .i64) x3.1, row v2 42 R42 x2] w := hW
    refine ls hF hW rfl ((y_move hF rfl).q) (fun a w hF hW => ?_)
    refine ls hF hW rfl ((y_extract (v := v3) hF rfl rfl).q) (fun a w hF hW => ?_)
    refine ls hF hW rfl ((y_extract (v := Value.bool x3.2) hF rfl rfl).q) (fun a w hF hW => ?_)
    refine ls hF hW rfl ((y_assign hF rfl).q) (fun a w hF hW => ?_)
    refine ls hF hW rfl ((y_assign hF rfl).q) (fun a w hF hW => ?_)
    refine ls_nil ?_
    refine c_then ?_
    refine c_seq ?_
    refine reg_list ?_
    refine ls hF hW rfl ((y_move hF rfl).q) (fun a w hF hW => ?_)
    refine ls hF hW rfl ((y_move hF rfl).q) (fun a w hF hW => ?_)
    obtain ⟨x4, h4, H⟩ := bindE H
    refine l_callG (Ml := []) (Zl := []) (M := []) (Z := [row v3 3 (Rp.int .i64) x3.1, row v2 42 R42 x2]) (β := Value) (rv := fun x => .tuple #[x, .bool x4.2]) (MM := fun x => []) (ZZ := fun x => [row x 3 (Rp.int .i64) x4.1]) hF hW H9 rfl rfl (fun hL => r20_Order_c _ w (v1) p0 p1 _ h4 ((rdc_ro h_v1) w hW).nx) (fun x a w hF hW => ?_)
    obtain ⟨v4, rfl⟩ : ∃ y, y = x := ⟨x, rfl⟩
    have hW : Stw ⟨Y, [], w0⟩ [] [row v4 3 (Rp.int .i64) x4.1, row v3 3 (Rp.int .i64) x3.1, row v2 42 R42 x2] w := hW
    refine ls hF hW rfl ((y_move hF rfl).q) (fun a w hF hW => ?_)
    refine ls hF hW rfl ((y_extract (v := v4) hF rfl rfl).q) (fun a w hF hW => ?_)
    refine ls hF hW rfl ((y_extract (v := Value.bool x4.2) hF rfl rfl).q) (fun a w hF hW => ?_)
    refine ls hF hW rfl ((y_assign hF rfl).q) (fun a w hF hW => ?_)
    refine ls hF hW rfl ((y_assign hF rfl).q) (fun a w hF hW => ?_)
    refine ls_nil ?_
    refine c_then ?_
    refine c_seq ?_
    obtain ⟨o1, G1, K1⟩ := bindE H
    refine c_seqJ (fun a w => ∃ x5 : Bool, some (x5) = some o1 ∧ Fr 92 [] [(0, .int .i64 p0), (1, v1), (6, .bool false), (7, v2), (59, .bool x5)] a ∧ Stw ⟨Y, [], w0⟩ [] [row v2 42 R42 x2] w) ?_ ?_
    ·
      have H := G1
      clear G1 K1
      refine reg_list ?_
      refine ls hF hW rfl ((y_move hF rfl).q) (fun a w hF hW => ?_)
      refine ls hF hW rfl ((y_move hF rfl).q) (fun a w hF hW => ?_)
      obtain ⟨x6, h5, H⟩ := bindE H
      refine ls hF hW rfl (y_call (v := Value.bool x6) hF H10 rfl (fun w hW => graph_Right_c any w (v2) p0 x2 _ h5 (((rdc_row 2 rfl) : Rdc _ _ _ _ _ _) w hW).nx)) (fun a w hF hW => ?_)
      refine ls hF hW rfl ((y_move hF rfl).q) (fun a w hF hW => ?_)
      refine ls hF hW rfl ((y_move hF rfl).q) (fun a w hF hW => ?_)
      obtain ⟨x7, h6, H⟩ := bindE H
      refine ls hF hW rfl (y_call (v := Value.bool x7) hF H11 rfl (fun w hW => r20_Right_c any w (v1) p0 p1 _ h6 (((rdc_ro h_v1) : Rdc _ _ _ _ _ _) w hW).nx)) (fun a w hF hW => ?_)
      refine ls hF hW rfl ((y_neb Try.underlying4 hF rfl rfl).q) (fun a w hF hW => ?_)
      refine ls hF hW rfl ((y_move hF rfl).q) (fun a w hF hW => ?_)
      rcases Bool.eq_false_or_eq_true (decide (x6 ≠ x7)) with hb | hb
      ·
        have H := iteT (of_decide_eq_true hb) H
        rw [hb] at hF
        clear hb
        refine ls_skip hF (wanted_n hF rfl rfl rfl rfl rfl) rfl rfl (fun a hF => ?_)
        refine ls_skip hF (wanted_n hF rfl rfl rfl rfl rfl) rfl rfl (fun a hF => ?_)
        refine ls_skip hF (wanted_n hF rfl rfl rfl rfl rfl) rfl rfl (fun a hF => ?_)
        refine ls_skip hF (wanted_n hF rfl rfl rfl rfl rfl) rfl rfl (fun a hF => ?_)
        refine ls_skip hF (wanted_n hF rfl rfl rfl rfl rfl) rfl rfl (fun a hF => ?_)
        refine ls_skip hF (wanted_n hF rfl rfl rfl rfl rfl) rfl rfl (fun a hF => ?_)
        refine ls_skip hF (wanted_n hF rfl rfl rfl rfl rfl) rfl rfl (fun a hF => ?_)
        refine ls_skip hF (wanted_n hF rfl rfl rfl rfl rfl) rfl rfl (fun a hF => ?_)
        refine ls_skip hF (wanted_n hF rfl rfl rfl rfl rfl) rfl rfl (fun a hF => ?_)
        refine ls_skip hF (wanted_n hF rfl rfl rfl rfl rfl) rfl rfl (fun a hF => ?_)
        refine ls hF hW rfl ((y_pick_t hF rfl rfl rfl).q) (fun a w hF hW => ?_)
        refine ls hF hW rfl ((y_move hF rfl).q) (fun a w hF hW => ?_)
        refine ls_skip hF (wanted_n hF rfl rfl rfl rfl rfl) rfl rfl (fun a hF => ?_)
        refine ls_skip hF (wanted_n hF rfl rfl rfl rfl rfl) rfl rfl (fun a hF => ?_)
        refine ls_skip hF (wanted_n hF rfl rfl rfl rfl rfl) rfl rfl (fun a hF => ?_)
        refine ls_skip hF (wanted_n hF rfl rfl rfl rfl rfl) rfl rfl (fun a hF => ?_)
        refine ls hF hW rfl ((y_pick_t hF rfl rfl rfl).q) (fun a w hF hW => ?_)
        refine ls hF hW rfl ((y_move hF rfl).q) (fun a w hF hW => ?_)
        refine ls_skip hF (wanted_n hF rfl rfl rfl rfl rfl) rfl rfl (fun a hF => ?_)
        refine ls_skip hF (wanted_n hF rfl rfl rfl rfl rfl) rfl rfl (fun a hF => ?_)
        refine ls_skip hF (wanted_n hF rfl rfl rfl rfl rfl) rfl rfl (fun a hF => ?_)
        refine ls hF hW rfl ((y_pick_t hF rfl rfl rfl).q) (fun a w hF hW => ?_)
        refine ls_nil ?_
        refine c_then ?_
        have hW := hW.frontZ (i := 2) rfl rfl
        have hW := hW.sub (M' := []) (Z' := [row v2 42 R42 x2]) (List.Sublist.refl _) (List.Sublist.cons_cons _ (List.nil_sublist _))
        exact ⟨_, H, hF.re ⟨rfl, rfl, rfl, rfl, rfl, trivial⟩, hW⟩
      ·
        have H := iteF (of_decide_eq_false hb) H
        rw [hb] at hF
        clear hb
        refine ls_w hF hW (wanted_y hF rfl rfl rfl rfl) rfl (Nat.le_of_ble_eq_true rfl) ((y_move hF rfl).q) (fun a w hF hW => ?_)
        refine ls_w hF hW (wanted_y hF rfl rfl rfl rfl) rfl (Nat.le_of_ble_eq_true rfl) ((y_move hF rfl).q) (fun a w hF hW => ?_)
        refine ls_w hF hW (wanted_y hF rfl rfl rfl rfl) rfl (Nat.le_of_ble_eq_true rfl) ((y_move hF rfl).q) (fun a w hF hW => ?_)
        refine ls_g (wanted_y hF rfl rfl rfl rfl) ?_
        obtain ⟨x8, h7, H⟩ := bindE H
        refine l_callG (Ml := []) (Zl := []) (M := []) (Z := [row v4 3 (Rp.int .i64) x4.1, row v3 3 (Rp.int .i64) x3.1, row v2 42 R42 x2]) (β := Value) (rv := fun x => x) (MM := fun x => []) (ZZ := fun x => [row x 3 (Rp.int .i64) x8]) hF hW H13 rfl rfl (fun hL => graph_Reach_c _ w (v2) p0 x2 p2 _ h7 ((rdc_row 2 rfl) w hW).nx) (fun x a w hF hW => ?_)
        obtain ⟨v5, rfl⟩ : ∃ y, y = x := ⟨x, rfl⟩
        have hW : Stw ⟨Y, [], w0⟩ [] [row v5 3 (Rp.int .i64) x8, row v4 3 (Rp.int .i64) x4.1, row v3 3 (Rp.int .i64) x3.1, row v2 42 R42 x2] w := hW
        refine ls_w hF hW (wanted_y hF rfl rfl rfl rfl) rfl (Nat.le_of_ble_eq_true rfl) ((y_move hF rfl).q) (fun a w hF hW => ?_)
        refine ls_w hF hW (wanted_y hF rfl rfl rfl rfl) rfl (Nat.le_of_ble_eq_true rfl) ((y_move hF rfl).q) (fun a w hF hW => ?_)
        refine ls_w hF hW (wanted_y hF rfl rfl rfl rfl) rfl (Nat.le_of_ble_eq_true rfl) ((y_move hF rfl).q) (fun a w hF hW => ?_)
        refine ls_g (wanted_y hF rfl rfl rfl rfl) ?_
        obtain ⟨x9, h8, H⟩ := bindE H
        refine l_callG (Ml := []) (Zl := []) (M := []) (Z := [row v5 3 (Rp.int .i64) x8, row v4 3 (Rp.int .i64) x4.1, row v3 3 (Rp.int .i64) x3.1, row v2 42 R42 x2]) (β := Value) (rv := fun x => x) (MM := fun x => []) (ZZ := fun x => [row x 3 (Rp.int .i64) x9]) hF hW H14 rfl rfl (fun hL => r20_Reach_c _ w (v1) p0 p1 p2 _ h8 ((rdc_ro h_v1) w hW).nx) (fun x a w hF hW => ?_)
        obtain ⟨v6, rfl⟩ : ∃ y, y = x := ⟨x, rfl⟩
        have hW : Stw ⟨Y, [], w0⟩ [] [row v6 3 (Rp.int .i64) x9, row v5 3 (Rp.int .i64) x8, row v4 3 (Rp.int .i64) x4.1, row v3 3 (Rp.int .i64) x3.1, row v2 42 R42 x2] w := hW
        refine ls_g (wanted_y hF rfl rfl rfl rfl) ?_
        obtain ⟨x10, h9, H⟩ := bindE H
        refine ls hF hW rfl (y_call (v := Value.bool x10) hF H12 rfl (fun w hW => r13_Same_c any w (v5) (v6) x8 x9 _ h9 (((rdc_row 1 rfl) : Rdc _ _ _ _ _ _) w hW).nx (((rdc_row 0 rfl) : Rdc _ _ _ _ _ _) w hW).nx)) (fun a w hF hW => ?_)
        refine ls_w hF hW (wanted_y hF rfl rfl rfl rfl) rfl (Nat.le_of_ble_eq_true rfl) ((y_not hF rfl).q) (fun a w hF hW => ?_)
        refine ls hF hW rfl ((y_pick_f hF rfl rfl rfl).q) (fun a w hF hW => ?_)
        refine ls hF hW rfl ((y_move hF rfl).q) (fun a w hF hW => ?_)
        rcases Bool.eq_false_or_eq_true (!x10) with hb | hb
        ·
          have H := iteT hb H
          rw [hb] at hF
          clear hb
          refine ls_skip hF (wanted_n hF rfl rfl rfl rfl rfl) rfl rfl (fun a hF => ?_)
          refine ls_skip hF (wanted_n hF rfl rfl rfl rfl rfl) rfl rfl (fun a hF => ?_)
          refine ls_skip hF (wanted_n hF rfl rfl rfl rfl rfl) rfl rfl (fun a hF => ?_)
          refine ls_skip hF (wanted_n hF rfl rfl rfl rfl rfl) rfl rfl (fun a hF => ?_)
          refine ls hF hW rfl ((y_pick_t hF rfl rfl rfl).q) (fun a w hF hW => ?_)
          refine ls hF hW rfl ((y_move hF rfl).q) (fun a w hF hW => ?_)
          refine ls_skip hF (wanted_n hF rfl rfl rfl rfl rfl) rfl rfl (fun a hF => ?_)
          refine ls_skip hF (wanted_n hF rfl rfl rfl rfl rfl) rfl rfl (fun a hF => ?_)
          refine ls_skip hF (wanted_n hF rfl rfl rfl rfl rfl) rfl rfl (fun a hF => ?_)
          refine ls hF hW rfl ((y_pick_t hF rfl rfl rfl).q) (fun a w hF hW => ?_)
          refine ls_nil ?_
          refine c_then ?_
          have hW := hW.frontZ (i := 4) rfl rfl
          have hW := hW.sub (M' := []) (Z' := [row v2 42 R42 x2]) (List.Sublist.refl _) (List.Sublist.cons_cons _ (List.nil_sublist _))
          exact ⟨_, H, hF.re ⟨rfl, rfl, rfl, rfl, rfl, trivial⟩, hW⟩
        ·
          have H := iteF (by rw [hb]; decide) H
          rw [hb] at hF
          clear hb
          refine ls_w hF hW (wanted_y hF rfl rfl rfl rfl) rfl (Nat.le_of_ble_eq_true rfl) ((y_move hF rfl).q) (fun a w hF hW => ?_)
          refine ls_w hF hW (wanted_y hF rfl rfl rfl rfl) rfl (Nat.le_of_ble_eq_true rfl) ((y_move hF rfl).q) (fun a w hF hW => ?_)
          refine ls_g (wanted_y hF rfl rfl rfl rfl) ?_
          obtain ⟨x11, h10, H⟩ := bindE H
          refine ls hF hW rfl (y_call (v := Value.bool x11) hF H12 rfl (fun w hW => r13_Same_c any w (v3) (v4) x3.1 x4.1 _ h10 (((rdc_row 3 rfl) : Rdc _ _ _ _ _ _) w hW).nx (((rdc_row 2 rfl) : Rdc _ _ _ _ _ _) w hW).nx)) (fun a w hF hW => ?_)
          refine ls_w hF hW (wanted_y hF rfl rfl rfl rfl) rfl (Nat.le_of_ble_eq_true rfl) ((y_not hF rfl).q) (fun a w hF hW => ?_)
          refine ls hF hW rfl ((y_pick_f hF rfl rfl rfl).q) (fun a w hF hW => ?_)
          refine ls hF hW rfl ((y_move hF rfl).q) (fun a w hF hW => ?_)
          rcases Bool.eq_false_or_eq_true (!x11) with hb | hb
          ·
            have H := iteT hb H
            rw [hb] at hF
            clear hb
            refine ls_skip hF (wanted_n hF rfl rfl rfl rfl rfl) rfl rfl (fun a hF => ?_)
            refine ls_skip hF (wanted_n hF rfl rfl rfl rfl rfl) rfl rfl (fun a hF => ?_)
            refine ls_skip hF (wanted_n hF rfl rfl rfl rfl rfl) rfl rfl (fun a hF => ?_)
            refine ls hF hW rfl ((y_pick_t hF rfl rfl rfl).q) (fun a w hF hW => ?_)
            refine ls_nil ?_
            refine c_then ?_
            have hW := hW.frontZ (i := 4) rfl rfl
            have hW := hW.sub (M' := []) (Z' := [row v2 42 R42 x2]) (List.Sublist.refl _) (List.Sublist.cons_cons _ (List.nil_sublist _))
            exact ⟨_, H, hF.re ⟨rfl, rfl, rfl, rfl, rfl, trivial⟩, hW⟩
          ·
            have H := iteF (by rw [hb]; decide) H
            rw [hb] at hF
            clear hb
            refine ls_w hF hW (wanted_y hF rfl rfl rfl rfl) rfl (Nat.le_of_ble_eq_true rfl) ((y_move hF rfl).q) (fun a w hF hW => ?_)
            refine ls_w hF hW (wanted_y hF rfl rfl rfl rfl) rfl (Nat.le_of_ble_eq_true rfl) ((y_move hF rfl).q) (fun a w hF hW => ?_)
            refine ls_w hF hW (wanted_y hF rfl rfl rfl rfl) rfl (Nat.le_of_ble_eq_true rfl) ((y_neb Try.underlying4 hF rfl rfl).q) (fun a w hF hW => ?_)
            refine ls hF hW rfl ((y_pick_f hF rfl rfl rfl).q) (fun a w hF hW => ?_)
            refine ls_nil ?_
            refine c_then ?_
            have hW := hW.frontZ (i := 4) rfl rfl
            have hW := hW.sub (M' := []) (Z' := [row v2 42 R42 x2]) (List.Sublist.refl _) (List.Sublist.cons_cons _ (List.nil_sublist _))
            exact ⟨_, H, hF.re ⟨rfl, rfl, rfl, rfl, rfl, trivial⟩, hW⟩
    rintro a w ⟨x5, hj, hF, hW⟩
    have hj := Option.some.inj hj
    subst hj
    have H := K1
    clear G1 K1
    refine c_cond hF rfl (fun hb => ?_) (fun hb => ?_)
    ·
      have H := iteT hb H
      rw [hb] at hF
      clear hb
      refine c_seq ?_
      refine reg_list ?_
      refine ls hF hW rfl ((y_assign hF rfl).q) (fun a w hF hW => ?_)
      refine ls_nil ?_
      refine c_then ?_
      refine wp_ret ?_
      refine r_then ?_
      have H := Option.some.inj H
      subst H
      refine post1 (.inl rfl) hF hW rfl (rv_tmp hF rfl) ?_
      exact ⟨rfl, hW.done⟩
    ·
      have H := iteF (by rw [hb]; decide) H
      rw [hb] at hF
      clear hb
      refine wp_skip ?_
      refine c_then ?_
      refine c_seq ?_
      refine reg_list ?_
      refine ls hF hW rfl ((y_move hF rfl).q) (fun a w hF hW => ?_)
      refine ls hF hW rfl ((y_move hF rfl).q) (fun a w hF hW => ?_)
      obtain ⟨x12, h11, H⟩ := bindE H
      refine l_callG (Ml := []) (Zl := []) (M := []) (Z := [row v2 42 R42 x2]) (β := Value) (rv := fun x => .tuple #[x, .bool x12.2]) (MM := fun x => []) (ZZ := fun x => [row x 3 (Rp.int .i64) x12.1]) hF hW H15 rfl rfl (fun hL => graph_Far_c _ w (v2) p0 x2 _ h11 ((rdc_row 0 rfl) w hW).nx) (fun x a w hF hW => ?_)
      obtain ⟨v7, rfl⟩ : ∃ y, y = x := ⟨x, rfl⟩
      have hW : Stw ⟨Y, [], w0⟩ [] [row v7 3 (Rp.int .i64) x12.1, row v2 42 R42 x2] w := hW
      refine ls hF hW rfl ((y_move hF rfl).q) (fun a w hF hW => ?_)
      refine ls hF hW rfl ((y_extract (v := v7) hF rfl rfl).q) (fun a w hF hW => ?_)
      refine ls hF hW rfl ((y_extract (v := Value.bool x12.2) hF rfl rfl).q) (fun a w hF hW => ?_)
      refine ls hF hW rfl ((y_assign hF rfl).q) (fun a w hF hW => ?_)
      refine ls hF hW rfl ((y_assign hF rfl).q) (fun a w hF hW => ?_)
      refine ls_nil ?_
      refine c_then ?_
      refine c_seq ?_
      refine reg_list ?_
      refine ls hF hW rfl ((y_move hF rfl).q) (fun a w hF hW => ?_)
      refine ls hF hW rfl ((y_move hF rfl).q) (fun a w hF hW => ?_)
      obtain ⟨x13, h12, H⟩ := bindE H
      refine l_callG (Ml := []) (Zl := []) (M := []) (Z := [row v7 3 (Rp.int .i64) x12.1, row v2 42 R42 x2]) (β := Value) (rv := fun x => .tuple #[x, .bool x13.2]) (MM := fun x => []) (ZZ := fun x => [row x 3 (Rp.int .i64) x13.1]) hF hW H16 rfl rfl (fun hL => r20_Far_c _ w (v1) p0 p1 _ h12 ((rdc_ro h_v1) w hW).nx) (fun x a w hF hW => ?_)
      obtain ⟨v8, rfl⟩ : ∃ y, y = x := ⟨x, rfl⟩
      have hW : Stw ⟨Y, [], w0⟩ [] [row v8 3 (Rp.int .i64) x13.1, row v7 3 (Rp.int .i64) x12.1, row v2 42 R42 x2] w := hW
      refine ls hF hW rfl ((y_move hF rfl).q) (fun a w hF hW => ?_)
      refine ls hF hW rfl ((y_extract (v := v8) hF rfl rfl).q) (fun a w hF hW => ?_)
      refine ls hF hW rfl ((y_extract (v := Value.bool x13.2) hF rfl rfl).q) (fun a w hF hW => ?_)
      refine ls hF hW rfl ((y_assign hF rfl).q) (fun a w hF hW => ?_)
      refine ls hF hW rfl ((y_assign hF rfl).q) (fun a w hF hW => ?_)
      refine ls_nil ?_
      refine c_then ?_
      obtain ⟨o2, G2, K2⟩ := bindE H
      refine c_seqJ (fun a w => ∃ x14 : Bool, some (x14) = some o2 ∧ Fr 92 [] [(6, .bool x14)] a ∧ Stw ⟨Y, [], w0⟩ [] [] w) ?_ ?_
      ·
        have H := G2
        clear G2 K2
        refine reg_list ?_
        refine ls hF hW rfl ((y_move hF rfl).q) (fun a w hF hW => ?_)
        refine ls hF hW rfl ((y_move hF rfl).q) (fun a w hF hW => ?_)
        obtain ⟨x15, h13, H⟩ := bindE H
        refine ls hF hW rfl (y_call (v := Value.bool x15) hF H12 rfl (fun w hW => r13_Same_c any w (v7) (v8) x12.1 x13.1 _ h13 (((rdc_row 1 rfl) : Rdc _ _ _ _ _ _) w hW).nx (((rdc_row 0 rfl) : Rdc _ _ _ _ _ _) w hW).nx)) (fun a w hF hW => ?_)
        refine ls hF hW rfl ((y_move hF rfl).q) (fun a w hF hW => ?_)
        rcases Bool.eq_false_or_eq_true x15 with hb | hb
        ·
          have H := iteT hb H
          rw [hb] at hF
          clear hb
          refine ls_w hF hW (wanted_y hF rfl rfl rfl rfl) rfl (Nat.le_of_ble_eq_true rfl) ((y_move hF rfl).q) (fun a w hF hW => ?_)
          refine ls_w hF hW (wanted_y hF rfl rfl rfl rfl) rfl (Nat.le_of_ble_eq_true rfl) ((y_move hF rfl).q) (fun a w hF hW => ?_)
          refine ls_w hF hW (wanted_y hF rfl rfl rfl rfl) rfl (Nat.le_of_ble_eq_true rfl) ((y_eqb Try.underlying4 hF rfl rfl).q) (fun a w hF hW => ?_)
          refine ls hF hW rfl ((y_pick_t hF rfl rfl rfl).q) (fun a w hF hW => ?_)
          refine ls hF hW rfl ((y_move hF rfl).q) (fun a w hF hW => ?_)
          rcases Bool.eq_false_or_eq_true (decide (x12.2 = x13.2)) with hb | hb
          ·
            have H := iteT (of_decide_eq_true hb) H
            rw [hb] at hF
            clear hb
            refine ls_w hF hW (wanted_y hF rfl rfl rfl rfl) rfl (Nat.le_of_ble_eq_true rfl) ((y_move hF rfl).q) (fun a w hF hW => ?_)
            refine ls_w hF hW (wanted_y hF rfl rfl rfl rfl) rfl (Nat.le_of_ble_eq_true rfl) ((y_move hF rfl).q) (fun a w hF hW => ?_)
            refine ls_g (wanted_y hF rfl rfl rfl rfl) ?_
            obtain ⟨x16, h14, H⟩ := bindE H
            refine l_callG (Ml := []) (Zl := []) (M := []) (Z := [row v8 3 (Rp.int .i64) x13.1, row v7 3 (Rp.int .i64) x12.1, row v2 42 R42 x2]) (β := Value) (rv := fun x => x) (MM := fun x => []) (ZZ := fun x => [row x 3 (Rp.int .i64) x16]) hF hW H17 rfl rfl (fun hL => graph_Loop_c _ w (v2) p0 x2 _ h14 ((rdc_row 2 rfl) w hW).nx) (fun x a w hF hW => ?_)
            obtain ⟨v9, rfl⟩ : ∃ y, y = x := ⟨x, rfl⟩
            have hW : Stw ⟨Y, [], w0⟩ [] [row v9 3 (Rp.int .i64) x16, row v8 3 (Rp.int .i64) x13.1, row v7 3 (Rp.int .i64) x12.1, row v2 42 R42 x2] w := hW
            refine ls_w hF hW (wanted_y hF rfl rfl rfl rfl) rfl (Nat.le_of_ble_eq_true rfl) ((y_move hF rfl).q) (fun a w hF hW => ?_)
            refine ls_w hF hW (wanted_y hF rfl rfl rfl rfl) rfl (Nat.le_of_ble_eq_true rfl) ((y_move hF rfl).q) (fun a w hF hW => ?_)
            refine ls_g (wanted_y hF rfl rfl rfl rfl) ?_
            obtain ⟨x17, h15, H⟩ := bindE H
            refine l_callG (Ml := []) (Zl := []) (M := []) (Z := [row v9 3 (Rp.int .i64) x16, row v8 3 (Rp.int .i64) x13.1, row v7 3 (Rp.int .i64) x12.1, row v2 42 R42 x2]) (β := Value) (rv := fun x => x) (MM := fun x => []) (ZZ := fun x => [row x 3 (Rp.int .i64) x17]) hF hW H18 rfl rfl (fun hL => r20_Loop_c _ w (v1) p0 p1 _ h15 ((rdc_ro h_v1) w hW).nx) (fun x a w hF hW => ?_)
            obtain ⟨v10, rfl⟩ : ∃ y, y = x := ⟨x, rfl⟩
            have hW : Stw ⟨Y, [], w0⟩ [] [row v10 3 (Rp.int .i64) x17, row v9 3 (Rp.int .i64) x16, row v8 3 (Rp.int .i64) x13.1, row v7 3 (Rp.int .i64) x12.1, row v2 42 R42 x2] w := hW
            refine ls_g (wanted_y hF rfl rfl rfl rfl) ?_
            obtain ⟨x18, h16, H⟩ := bindE H
            refine ls hF hW rfl (y_call (v := Value.bool x18) hF H12 rfl (fun w hW => r13_Same_c any w (v9) (v10) x16 x17 _ h16 (((rdc_row 1 rfl) : Rdc _ _ _ _ _ _) w hW).nx (((rdc_row 0 rfl) : Rdc _ _ _ _ _ _) w hW).nx)) (fun a w hF hW => ?_)
            refine ls hF hW rfl ((y_pick_t hF rfl rfl rfl).q) (fun a w hF hW => ?_)
            refine ls hF hW rfl ((y_move hF rfl).q) (fun a w hF hW => ?_)
            rcases Bool.eq_false_or_eq_true x18 with hb | hb
            ·
              have H := iteT hb H
              rw [hb] at hF
              clear hb
              refine ls_g (wanted_y hF rfl rfl rfl rfl) ?_
              obtain ⟨x19, h17, H⟩ := bindE H
              refine ls hF hW rfl (y_call (v := Value.bool x19) hF H6 rfl (fun w hW => L20_awake_c any w _ h17)) (fun a w hF hW => ?_)
              refine ls hF hW rfl ((y_pick_t hF rfl rfl rfl).q) (fun a w hF hW => ?_)
              refine ls hF hW rfl ((y_assign hF rfl).q) (fun a w hF hW => ?_)
              refine ls_nil ?_
              refine c_then ?_
              have hW := hW.sub (M' := []) (Z' := []) (List.Sublist.refl _) (List.nil_sublist _)
              exact ⟨_, H, hF.re ⟨rfl, trivial⟩, hW⟩
            ·
              have H := iteF (by rw [hb]; decide) H
              rw [hb] at hF
              clear hb
              refine ls_skip hF (wanted_n hF rfl rfl rfl rfl rfl) rfl rfl (fun a hF => ?_)
              refine ls hF hW rfl ((y_pick_f hF rfl rfl rfl).q) (fun a w hF hW => ?_)
              refine ls hF hW rfl ((y_assign hF rfl).q) (fun a w hF hW => ?_)
              refine ls_nil ?_
              refine c_then ?_
              have hW := hW.sub (M' := []) (Z' := []) (List.Sublist.refl _) (List.nil_sublist _)
              exact ⟨_, H, hF.re ⟨rfl, trivial⟩, hW⟩
          ·
            have H := iteF (of_decide_eq_false hb) H
            rw [hb] at hF
            clear hb
            refine ls_skip hF (wanted_n hF rfl rfl rfl rfl rfl) rfl rfl (fun a hF => ?_)
            refine ls_skip hF (wanted_n hF rfl rfl rfl rfl rfl) rfl rfl (fun a hF => ?_)
            refine ls_skip hF (wanted_n hF rfl rfl rfl rfl rfl) rfl rfl (fun a hF => ?_)
            refine ls_skip hF (wanted_n hF rfl rfl rfl rfl rfl) rfl rfl (fun a hF => ?_)
            refine ls_skip hF (wanted_n hF rfl rfl rfl rfl rfl) rfl rfl (fun a hF => ?_)
            refine ls_skip hF (wanted_n hF rfl rfl rfl rfl rfl) rfl rfl (fun a hF => ?_)
            refine ls_skip hF (wanted_n hF rfl rfl rfl rfl rfl) rfl rfl (fun a hF => ?_)
            refine ls hF hW rfl ((y_pick_f hF rfl rfl rfl).q) (fun a w hF hW => ?_)
            refine ls hF hW rfl ((y_move hF rfl).q) (fun a w hF hW => ?_)
            refine ls_skip hF (wanted_n hF rfl rfl rfl rfl rfl) rfl rfl (fun a hF => ?_)
            refine ls hF hW rfl ((y_pick_f hF rfl rfl rfl).q) (fun a w hF hW => ?_)
            refine ls hF hW rfl ((y_assign hF rfl).q) (fun a w hF hW => ?_)
            refine ls_nil ?_
            refine c_then ?_
            have hW := hW.sub (M' := []) (Z' := []) (List.Sublist.refl _) (List.nil_sublist _)
            exact ⟨_, H, hF.re ⟨rfl, trivial⟩, hW⟩
        ·
          have H := iteF (by rw [hb]; decide) H
          rw [hb] at hF
          clear hb
          refine ls_skip hF (wanted_n hF rfl rfl rfl rfl rfl) rfl rfl (fun a hF => ?_)
          refine ls_skip hF (wanted_n hF rfl rfl rfl rfl rfl) rfl rfl (fun a hF => ?_)
          refine ls_skip hF (wanted_n hF rfl rfl rfl rfl rfl) rfl rfl (fun a hF => ?_)
          refine ls hF hW rfl ((y_pick_f hF rfl rfl rfl).q) (fun a w hF hW => ?_)
          refine ls hF hW rfl ((y_move hF rfl).q) (fun a w hF hW => ?_)
          refine ls_skip hF (wanted_n hF rfl rfl rfl rfl rfl) rfl rfl (fun a hF => ?_)
          refine ls_skip hF (wanted_n hF rfl rfl rfl rfl rfl) rfl rfl (fun a hF => ?_)
          refine ls_skip hF (wanted_n hF rfl rfl rfl rfl rfl) rfl rfl (fun a hF => ?_)
          refine ls_skip hF (wanted_n hF rfl rfl rfl rfl rfl) rfl rfl (fun a hF => ?_)
          refine ls_skip hF (wanted_n hF rfl rfl rfl rfl rfl) rfl rfl (fun a hF => ?_)
          refine ls_skip hF (wanted_n hF rfl rfl rfl rfl rfl) rfl rfl (fun a hF => ?_)
          refine ls_skip hF (wanted_n hF rfl rfl rfl rfl rfl) rfl rfl (fun a hF => ?_)
          refine ls hF hW rfl ((y_pick_f hF rfl rfl rfl).q) (fun a w hF hW => ?_)
          refine ls hF hW rfl ((y_move hF rfl).q) (fun a w hF hW => ?_)
          refine ls_skip hF (wanted_n hF rfl rfl rfl rfl rfl) rfl rfl (fun a hF => ?_)
          refine ls hF hW rfl ((y_pick_f hF rfl rfl rfl).q) (fun a w hF hW => ?_)
          refine ls hF hW rfl ((y_assign hF rfl).q) (fun a w hF hW => ?_)
          refine ls_nil ?_
          refine c_then ?_
          have hW := hW.sub (M' := []) (Z' := []) (List.Sublist.refl _) (List.nil_sublist _)
          exact ⟨_, H, hF.re ⟨rfl, trivial⟩, hW⟩
      rintro a w ⟨x14, hj, hF, hW⟩
      have hj := Option.some.inj hj
      subst hj
      have H := K2
      clear G2 K2
      refine wp_ret ?_
      have H := Option.some.inj H
      subst H
      refine post1 (.inl rfl) hF hW rfl (rv_tmp hF rfl) ?_
      exact ⟨rfl, hW.done⟩

noncomputable def L20_joined_l1 (p0 : List (Int × Int)) (p1 : Int) (p2 : Int) : Int → Option (Int ⊕ (Unit ⊕ Bool))
  | x1 => (if x1 < (p0.length : Int) then ((ix p0 x1).bind fun x3 => (if x3.1 = p1 then (ix p0 x1).bind fun x4 => some (decide (x4.2 = p2)) else some false)).bind fun x2 => (if x2 = true then some (.inr (.inr true)) else some (.inl (w64 (x1 + 1)))) else some (.inr (.inl ())))
noncomputable def L20_joined (p0 : List (Int × Int)) (p1 : Int) (p2 : Int) : Option Bool := orR (loopW (L20_joined_l1 p0 p1 p2) 0) fun _ => some false
theorem L20_joined_c (Y : Nat → Prop) (w0 : World) (v1 : Value) (p0 : List (Int × Int)) (p1 : Int) (p2 : Int) (r : Bool) (H : L20_joined p0 p1 p2 = some r) (h_v1 : Sl w0 (NX []) R41 v1 p0) :
    Calls Try.prog 19 #[v1, .int .i64 p1, .int .i64 p2] w0 fun e w' => e = .returned (.bool r) ∧ Below w0.heap.size w0 w' := by
  refine enter Try.func19 rfl Try.ntmps19 rfl (fun a hF => ?_)
  have hW := Stw.start Y w0
  unfold L20_joined at H
  refine c_seq ?_
  refine reg_list ?_
  refine ls hF hW rfl ((y_assign hF rfl).q) (fun a w hF hW => ?_)
  refine ls_nil ?_
  refine c_then ?_
  obtain ⟨o1, G1, K1, L1⟩ := orE H
  refine c_seqJ (fun a w => some (Sum.inl ()) = some o1 ∧ Fr 30 [] [(6, .bool false)] a ∧ Stw ⟨Y, [], w0⟩ [] [] w) ?_ ?_
  ·
    have H := G1
    clear G1 K1
    refine c_seq ?_
    refine reg_list ?_
    refine ls hF hW rfl ((y_assign hF rfl).q) (fun a w hF hW => ?_)
    refine ls_nil ?_
    refine c_then ?_
    refine wp_block ?_
    refine c_loopW H (fun s a w => Fr 30 [] [(0, v1), (1, .int .i64 p1), (2, .int .i64 p2), (6, .bool false), (7, .int .i64 s)] a ∧ Stw ⟨Y, [], w0⟩ [] [] w) ⟨hF.re ⟨rfl, rfl, rfl, rfl, rfl, trivial⟩, hW⟩ (fun s o a w H L2 hR => ?_)
    obtain ⟨x1, rfl⟩ : ∃ x, x = s := ⟨s, rfl⟩
    obtain ⟨hF, hW⟩ := hR
    have hF : Fr 30 [] [(0, v1), (1, .int .i64 p1), (2, .int .i64 p2), (6, .bool false), (7, .int .i64 x1)] a := hF
    have hW : Stw ⟨Y, [], w0⟩ [] [] w := hW
    rw [L20_joined_l1] at H
    refine c_seq ?_
    refine c_seq ?_
    refine reg_list ?_
    refine ls hF hW rfl ((y_move hF rfl).q) (fun a w hF hW => ?_)
    refine ls hF hW rfl ((y_move hF rfl).q) (fun a w hF hW => ?_)
    refine ls hF hW rfl ((y_len (r := R41) (l := p0) Try.underlying22 rfl hF rfl (rdc_ro h_v1)).q) (fun a w hF hW => ?_)
    refine ls hF hW rfl ((y_lss hF rfl rfl).q) (fun a w hF hW => ?_)
    refine ls_nil ?_
    refine c_then ?_
    refine c_cond hF rfl (fun hb => ?_) (fun hb => ?_)
    ·
      have H := iteT (of_decide_eq_true hb) H
      rw [hb] at hF
      clear hb
      refine wp_skip ?_
      refine c_then ?_
      refine c_seq ?_
      refine wp_block ?_
      obtain ⟨o3, G3, K3⟩ := bindE H
      refine c_seqJ (fun a w => ∃ x2 : Bool, some (x2) = some o3 ∧ Fr 30 [] [(0, v1), (1, .int .i64 p1), (2, .int .i64 p2), (6, .bool false), (7, .int .i64 x1), (29, .bool x2)] a ∧ Stw ⟨Y, [], w0⟩ [] [] w) ?_ ?_
      ·
        have H := G3
        clear G3 K3
        refine reg_list ?_
        refine ls hF hW rfl ((y_move hF rfl).q) (fun a w hF hW => ?_)
        refine ls hF hW rfl ((y_move hF rfl).q) (fun a w hF hW => ?_)
        obtain ⟨x3, h1, H⟩ := bindE H
        refine ls hF hW rfl ((y_index (r := R41) L22 hF rfl rfl (rdc_ro h_v1) h1).q) (fun a w hF hW => ?_)
        refine ls hF hW rfl ((y_fieldAddr Try.underlying41 rfl rfl rfl T3 hF rfl (voff v1 + (x1).toNat * 2) rfl).q) (fun a w hF hW => ?_)
        refine ls hF hW rfl ((y_load_el (y := Value.int .i64 x3.1) (j := 0) (i := x1) hF rfl rfl (rdc_ro h_v1) h1 F41.to T3 rfl).q) (fun a w hF hW => ?_)
        refine ls hF hW rfl ((y_move hF rfl).q) (fun a w hF hW => ?_)
        refine ls hF hW rfl ((y_eql hF rfl rfl).q) (fun a w hF hW => ?_)
        refine ls hF hW rfl ((y_move hF rfl).q) (fun a w hF hW => ?_)
        rcases Bool.eq_false_or_eq_true (decide (x3.1 = p1)) with hb | hb
        ·
          have H := iteT (of_decide_eq_true hb) H
          rw [hb] at hF
          clear hb
          refine ls_w hF hW (wanted_y hF rfl rfl rfl rfl) rfl (Nat.le_of_ble_eq_true rfl) ((y_move hF rfl).q) (fun a w hF hW => ?_)
          refine ls_w hF hW (wanted_y hF rfl rfl rfl rfl) rfl (Nat.le_of_ble_eq_true rfl) ((y_move hF rfl).q) (fun a w hF hW => ?_)
          obtain ⟨x4, h2, H⟩ := bindE H
          refine ls_w hF hW (wanted_y hF rfl rfl rfl rfl) rfl (Nat.le_of_ble_eq_true rfl) ((y_index (r := R41) L22 hF rfl rfl (rdc_ro h_v1) h2).q) (fun a w hF hW => ?_)
          refine ls_w hF hW (wanted_y hF rfl rfl rfl rfl) rfl (Nat.le_of_ble_eq_true rfl) ((y_fieldAddr Try.underlying41 rfl rfl rfl T3 hF rfl (voff v1 + (x1).toNat * 2 + 1) rfl).q) (fun a w hF hW => ?_)
          refine ls_w hF hW (wanted_y hF rfl rfl rfl rfl) rfl (Nat.le_of_ble_eq_true rfl) ((y_load_el (y := Value.int .i64 x4.2) (j := 1) (i := x1) hF rfl rfl (rdc_ro h_v1) h2 F41.to T3 rfl).q) (fun a w hF hW => ?_)
          refine ls_w hF hW (wanted_y hF rfl rfl rfl rfl) rfl (Nat.le_of_ble_eq_true rfl) ((y_move hF rfl).q) (fun a w hF hW => ?_)
          refine ls_w hF hW (wanted_y hF rfl rfl rfl rfl) rfl (Nat.le_of_ble_eq_true rfl) ((y_eql hF rfl rfl).q) (fun a w hF hW => ?_)
          refine ls hF hW rfl ((y_pick_t hF rfl rfl rfl).q) (fun a w hF hW => ?_)
          refine ls_nil ?_
          refine c_then ?_
          exact ⟨_, H, hF.re ⟨rfl, rfl, rfl, rfl, rfl, rfl, trivial⟩, hW⟩
        ·
          have H := iteF (of_decide_eq_false hb) H
          rw [hb] at hF
          clear hb
          refine ls_skip hF (wanted_n hF rfl rfl rfl rfl rfl) rfl rfl (fun a hF => ?_)
          refine ls_skip hF (wanted_n hF rfl rfl rfl rfl rfl) rfl rfl (fun a hF => ?_)
          refine ls_skip hF (wanted_n hF rfl rfl rfl rfl rfl) rfl rfl (fun a hF => ?_)
          refine ls_skip hF (wanted_n hF rfl rfl rfl rfl rfl) rfl rfl (fun a hF => ?_)
          refine ls_skip hF (wanted_n hF rfl rfl rfl rfl rfl) rfl rfl (fun a hF => ?_)
          refine ls_skip hF (wanted_n hF rfl rfl rfl rfl rfl) rfl rfl (fun a hF => ?_)
          refine ls_skip hF (wanted_n hF rfl rfl rfl rfl rfl) rfl rfl (fun a hF => ?_)
          refine ls hF hW rfl ((y_pick_f hF rfl rfl rfl).q) (fun a w hF hW => ?_)
          refine ls_nil ?_
          refine c_then ?_
          exact ⟨_, H, hF.re ⟨rfl, rfl, rfl, rfl, rfl, rfl, trivial⟩, hW⟩
      rintro a w ⟨x2, hj, hF, hW⟩
      have hj := Option.some.inj hj
      subst hj
      have H := K3
      clear G3 K3
      refine c_cond hF rfl (fun hb => ?_) (fun hb => ?_)
      ·
        have H := iteT hb H
        rw [hb] at hF
        clear hb
        refine c_seq ?_
        refine reg_list ?_
        refine ls hF hW rfl ((y_assign hF rfl).q) (fun a w hF hW => ?_)
        refine ls_nil ?_
        refine c_then ?_
        refine wp_ret ?_
        refine r_block ?_
        refine r_then ?_
        refine r_then ?_
        refine r_block ?_
        refine r_then ?_
        have H := L2 _ H
        have H := L1 _ H
        have H := Option.some.inj H
        subst H
        refine post1 (.inl rfl) hF hW rfl (rv_tmp hF rfl) ?_
        exact ⟨rfl, hW.done⟩
      ·
        have H := iteF (by rw [hb]; decide) H
        rw [hb] at hF
        clear hb
        refine wp_skip ?_
        refine b_normal ?_
        refine c_then ?_
        refine reg_list ?_
        refine ls hF hW rfl ((y_move hF rfl).q) (fun a w hF hW => ?_)
        refine ls hF hW rfl ((y_add hF rfl rfl rfl).q) (fun a w hF hW => ?_)
        refine ls hF hW rfl ((y_assign hF rfl).q) (fun a w hF hW => ?_)
        refine ls_nil ?_
        refine c_then ?_
        exact ⟨_, H, hF.re ⟨rfl, rfl, rfl, rfl, rfl, trivial⟩, hW⟩
    ·
      have H := iteF (of_decide_eq_false hb) H
      rw [hb] at hF
      clear hb
      refine wp_exit ?_
      refine e_then ?_
      refine e_then ?_
      refine e_block ?_
      refine c_then ?_
      have H := L2 _ H
      exact ⟨H, hF.re ⟨rfl, trivial⟩, hW⟩
  rintro a w ⟨hj, hF, hW⟩
  have H := K1 _ hj
  clear hj G1 K1 L1
  refine c_seq ?_
  refine reg_list ?_
  refine ls hF hW rfl ((y_assign hF rfl).q) (fun a w hF hW => ?_)
  refine ls_nil ?_
  refine c_then ?_
  refine wp_ret ?_
  have H := Option.some.inj H
  subst H
  refine post1 (.inl rfl) hF hW rfl (rv_tmp hF rfl) ?_
  exact ⟨rfl, hW.done⟩

theorem H19 : Has Try.prog 19 := ⟨fun args w => run_callFunc_body Try.func19 rfl (by decide) args w⟩
noncomputable def L20_place_l1 (p0 : List Int) (p1 : Int) : (Int × Int) → Option ((Int × Int) ⊕ Int)
  | (x2, x3) => (if x3 < (p0.length : Int) then ((ix p0 x3).bind fun x5 => (if x5 = p1 then some x3 else some x2)).bind fun x4 => some (.inl (x4, w64 (x3 + 1))) else some (.inr x2))
noncomputable def L20_place (p0 : List Int) (p1 : Int) : Option Int := (loopW (L20_place_l1 p0 p1) ((-1), 0)).bind fun x1 => some x1
theorem L20_place_c (Y : Nat → Prop) (w0 : World) (v1 : Value) (p0 : List Int) (p1 : Int) (r : Int) (H : L20_place p0 p1 = some r) (h_v1 : Sl w0 (NX []) (Rp.int .i64) v1 p0) :
    Calls Try.prog 20 #[v1, .int .i64 p1] w0 fun e w' => e = .returned (.int .i64 r) ∧ Below w0.heap.size w0 w' := by
  refine enter Try.func20 rfl Try.ntmps20 rfl (fun a hF => ?_)
  have hW := Stw.start Y w0
  unfold L20_place at H
  refine c_seq ?_
  refine reg_list ?_
  refine ls hF hW rfl ((y_assign hF rfl).q) (fun a w hF hW => ?_)
  refine ls_nil ?_
  refine c_then ?_
  refine c_seq ?_
  refine reg_list ?_
  refine ls hF hW rfl ((y_assign hF rfl).q) (fun a w hF hW => ?_)
  refine ls_nil ?_
  refine c_then ?_
  obtain ⟨o1, G1, K1⟩ := bindE H
  refine c_seqJ (fun a w => ∃ x1 : Int, some (x1) = some o1 ∧ Fr 21 [] [(4, .int .i64 0), (5, .int .i64 x1)] a ∧ Stw ⟨Y, [], w0⟩ [] [] w) ?_ ?_
  ·
    have H := G1
    clear G1 K1
    refine c_seq ?_
    refine reg_list ?_
    refine ls hF hW rfl ((y_assign hF rfl).q) (fun a w hF hW => ?_)
    refine ls_nil ?_
    refine c_then ?_
    refine wp_block ?_
    refine c_loopW H (fun s a w => Fr 21 [] [(0, v1), (1, .int .i64 p1), (4, .int .i64 0), (5, .int .i64 s.1), (6, .int .i64 s.2)] a ∧ Stw ⟨Y, [], w0⟩ [] [] w) ⟨hF.re ⟨rfl, rfl, rfl, rfl, rfl, trivial⟩, hW⟩ (fun s o a w H L2 hR => ?_)
    obtain ⟨x2, x3⟩ := s
    obtain ⟨hF, hW⟩ := hR
    have hF : Fr 21 [] [(0, v1), (1, .int .i64 p1), (4, .int .i64 0), (5, .int .i64 x2), (6, .int .i64 x3)] a := hF
    have hW : Stw ⟨Y, [], w0⟩ [] [] w := hW
    rw [L20_place_l1] at H
    refine c_seq ?_
    refine c_seq ?_
    refine reg_list ?_
    refine ls hF hW rfl ((y_move hF rfl).q) (fun a w hF hW => ?_)
    refine ls hF hW rfl ((y_move hF rfl).q) (fun a w hF hW => ?_)
    refine ls hF hW rfl ((y_len (r := (Rp.int .i64)) (l := p0) Try.underlying26 rfl hF rfl (rdc_ro h_v1)).q) (fun a w hF hW => ?_)
    refine ls hF hW rfl ((y_lss hF rfl rfl).q) (fun a w hF hW => ?_)
    refine ls_nil ?_
    refine c_then ?_
    refine c_cond hF rfl (fun hb => ?_) (fun hb => ?_)
    ·
      have H := iteT (of_decide_eq_true hb) H
      rw [hb] at hF
      clear hb
      refine wp_skip ?_
      refine c_then ?_
      obtain ⟨o3, G3, K3⟩ := bindE H
      refine c_seqJ (fun a w => ∃ x4 : Int, some (x4) = some o3 ∧ Fr 21 [] [(0, v1), (1, .int .i64 p1), (4, .int .i64 0), (5, .int .i64 x4), (6, .int .i64 x3)] a ∧ Stw ⟨Y, [], w0⟩ [] [] w) ?_ ?_
      ·
        have H := G3
        clear G3 K3
        refine wp_block ?_
        refine c_seq ?_
        refine reg_list ?_
        refine ls hF hW rfl ((y_move hF rfl).q) (fun a w hF hW => ?_)
        refine ls hF hW rfl ((y_move hF rfl).q) (fun a w hF hW => ?_)
        obtain ⟨x5, h1, H⟩ := bindE H
        refine ls hF hW rfl ((y_index (r := (Rp.int .i64)) L26 hF rfl rfl (rdc_ro h_v1) h1).q) (fun a w hF hW => ?_)
        refine ls hF hW rfl ((y_load_el (y := Value.int .i64 x5) (j := 0) (i := x3) hF rfl rfl (rdc_ro h_v1) h1 Fl.int.to T3 rfl).q) (fun a w hF hW => ?_)
        refine ls hF hW rfl ((y_move hF rfl).q) (fun a w hF hW => ?_)
        refine ls hF hW rfl ((y_eql hF rfl rfl).q) (fun a w hF hW => ?_)
        refine ls_nil ?_
        refine c_then ?_
        refine c_cond hF rfl (fun hb => ?_) (fun hb => ?_)
        ·
          have H := iteT (of_decide_eq_true hb) H
          rw [hb] at hF
          clear hb
          refine reg_list ?_
          refine ls hF hW rfl ((y_move hF rfl).q) (fun a w hF hW => ?_)
          refine ls hF hW rfl ((y_assign hF rfl).q) (fun a w hF hW => ?_)
          refine ls_nil ?_
          refine b_normal ?_
          refine c_then ?_
          exact ⟨_, H, hF.re ⟨rfl, rfl, rfl, rfl, rfl, trivial⟩, hW⟩
        ·
          have H := iteF (of_decide_eq_false hb) H
          rw [hb] at hF
          clear hb
          refine wp_skip ?_
          refine b_normal ?_
          refine c_then ?_
          exact ⟨_, H, hF.re ⟨rfl, rfl, rfl, rfl, rfl, trivial⟩, hW⟩
      rintro a w ⟨x4, hj, hF, hW⟩
      have hj := Option.some.inj hj
      subst hj
      have H := K3
      clear G3 K3
      refine reg_list ?_
      refine ls hF hW rfl ((y_move hF rfl).q) (fun a w hF hW => ?_)
      refine ls hF hW rfl ((y_add hF rfl rfl rfl).q) (fun a w hF hW => ?_)
      refine ls hF hW rfl ((y_assign hF rfl).q) (fun a w hF hW => ?_)
      refine ls_nil ?_
      refine c_then ?_
      exact ⟨_, H, hF.re ⟨rfl, rfl, rfl, rfl, rfl, trivial⟩, hW⟩
    ·
      have H := iteF (of_decide_eq_false hb) H
      rw [hb] at hF
      clear hb
      refine wp_exit ?_
      refine e_then ?_
      refine e_then ?_
      refine e_block ?_
      refine c_then ?_
      have H := L2 _ H
      exact ⟨_, H, hF.re ⟨rfl, rfl, trivial⟩, hW⟩
  rintro a w ⟨x1, hj, hF, hW⟩
  have hj := Option.some.inj hj
  subst hj
  have H := K1
  clear G1 K1
  refine c_seq ?_
  refine reg_list ?_
  refine ls hF hW rfl ((y_move hF rfl).q) (fun a w hF hW => ?_)
  refine ls hF hW rfl ((y_assign hF rfl).q) (fun a w hF hW => ?_)
  refine ls_nil ?_
  refine c_then ?_
  refine wp_ret ?_
  have H := Option.some.inj H
  subst H
  refine post1 (.inl rfl) hF hW rfl (rv_tmp hF rfl) ?_
  exact ⟨rfl, hW.done⟩

theorem H20 : Has Try.prog 20 := ⟨fun args w => run_callFunc_body Try.func20 rfl (by decide) args w⟩
noncomputable def L20_GraphOrder_l1 (p1 : List (Int × Int)) (x7 : List Int) : Int → Option (Int ⊕ (Unit ⊕ (Unit ⊕ Bool)))
  | x8 => (if x8 < (x7.length : Int) then (ix x7 0).bind fun x9 => (if (w64 (x8 + 1)) < (x7.length : Int) then (ix x7 (w64 (x8 + 1))).bind fun x11 => some x11 else some x9).bind fun x10 => ((ix x7 x8).bind fun x13 => (L20_joined p1 x13 x10).bind fun x14 => (if (!x14) = true then some true else (ix x7 x8).bind fun x15 => (L20_place x7 x15).bind fun x16 => some (decide (x16 ≠ x8)))).bind fun x12 => (if x12 = true then some (.inr (.inr (.inr false))) else some (.inl (w64 (x8 + 1)))) else some (.inr (.inl ())))
noncomputable def L20_GraphOrder_l2 (p0 : Int) (x5 : List Int × Bool) : Int → Option (Int ⊕ (Unit ⊕ Bool))
  | x18 => (if x18 < p0 then (L20_place x5.1 x18).bind fun x19 => (if x19 < 0 then some (.inr (.inr false)) else some (.inl (w64 (x18 + 1)))) else some (.inr (.inl ())))
noncomputable def L20_GraphOrder_l3 (p1 : List (Int × Int)) (x5 : List Int × Bool) (x6 : List Int × Bool) : Int → Option (Int ⊕ (Unit ⊕ Bool))
  | x20 => (if x20 < (p1.length : Int) then ((ix p1 x20).bind fun x22 => (L20_place x5.1 x22.1).bind fun x23 => (ix p1 x20).bind fun x24 => (L20_place x5.1 x24.2).bind fun x25 => (if x25 ≤ x23 then some true else (ix p1 x20).bind fun x26 => (ix x6.1 x26.2).bind fun x27 => (ix p1 x20).bind fun x28 => (ix x6.1 x28.1).bind fun x29 => some (decide (x27 ≤ x29)))).bind fun x21 => (if x21 = true then some (.inr (.inr false)) else some (.inl (w64 (x20 + 1)))) else some (.inr (.inl ())))
noncomputable def L20_GraphOrder (p0 : Int) (p1 : List (Int × Int)) : Option Bool := (if 60 < (p1.length : Int) then some true else (r20_Right p0 p1).bind fun x2 => some (!x2)).bind fun x1 => (if x1 = true then (L20_awake).bind fun x3 => some x3 else (L20_mine p1).bind fun x4 => (graph_Order p0 x4).bind fun x5 => (graph_Far p0 x4).bind fun x6 => (graph_Loop p0 x4).bind fun x7 => (if (decide (x5.2 ≠ x6.2) || decide (x5.2 ≠ (decide ((x7.length : Int) = 0)))) = true then some false else orR (if (!x5.2) = true then orR (loopW (L20_GraphOrder_l1 p1 x7) 0) fun _ => (L20_awake).bind fun x17 => some (.inr x17) else some (.inl ())) fun _ => orR (loopW (L20_GraphOrder_l2 p0 x5) 0) fun _ => (if (decide ((x5.1.length : Int) ≠ p0) || decide ((x6.1.length : Int) ≠ p0)) = true then some false else orR (loopW (L20_GraphOrder_l3 p1 x5 x6) 0) fun _ => (L20_awake).bind fun x30 => some x30)))
theorem L20_GraphOrder_c (Y : Nat → Prop) (w0 : World) (v1 : Value) (p0 : Int) (p1 : List (Int × Int)) (r : Bool) (H : L20_GraphOrder p0 p1 = some r) (h_v1 : Sl w0 (NX []) R41 v1 p1) :
    Calls Try.prog 4 #[.int .i64 p0, v1] w0 fun e w' => e = .returned (.bool r) ∧ Below w0.heap.size w0 w' := by
  refine enter Try.func4 rfl Try.ntmps4 rfl (fun a hF => ?_)
  have hW := Stw.start Y w0
  unfold L20_GraphOrder at H
  refine c_seq ?_
  refine reg_list ?_
  refine ls hF hW rfl ((y_assign hF rfl).q) (fun a w hF hW => ?_)
  refine ls_nil ?_
  refine c_then ?_
  refine c_seq ?_
  obtain ⟨o1, G1, K1⟩ := bindE H
  refine c_seqJ (fun a w => ∃ x1 : Bool, some (x1) = some o1 ∧ Fr 152 [] [(0, .int .i64 p0), (1, v1), (4, .bool false), (23, .bool x1)] a ∧ Stw ⟨Y, [], w0⟩ [] [] w) ?_ ?_
  ·
    have H := G1
    clear G1 K1
    refine reg_list ?_
    refine ls hF hW rfl ((y_move hF rfl).q) (fun a w hF hW => ?_)
    refine ls hF hW rfl ((y_len (r := R41) (l := p1) Try.underlying22 rfl hF rfl (rdc_ro h_v1)).q) (fun a w hF hW => ?_)
    refine ls hF hW rfl ((y_gtr hF rfl rfl).q) (fun a w hF hW => ?_)
    refine ls hF hW rfl ((y_move hF rfl).q) (fun a w hF hW => ?_)
    rcases Bool.eq_false_or_eq_true (decide (60 < (p1.length : Int))) with hb | hb
    ·
      have H := iteT (of_decide_eq_true hb) H
      rw [hb] at hF
      clear hb
      refine ls_skip hF (wanted_n hF rfl rfl rfl rfl rfl) rfl rfl (fun a hF => ?_)
      refine ls_skip hF (wanted_n hF rfl rfl rfl rfl rfl) rfl rfl (fun a hF => ?_)
      refine ls_skip hF (wanted_n hF rfl rfl rfl rfl rfl) rfl rfl (fun a hF => ?_)
      refine ls_skip hF (wanted_n hF rfl rfl rfl rfl rfl) rfl rfl (fun a hF => ?_)
      refine ls hF hW rfl ((y_pick_t hF rfl rfl rfl).q) (fun a w hF hW => ?_)
      refine ls_nil ?_
      refine c_then ?_
      exact ⟨_, H, hF.re ⟨rfl, rfl, rfl, rfl, trivial⟩, hW⟩
    ·
      have H := iteF (of_decide_eq_false hb) H
      rw [hb] at hF
      clear hb
      refine ls_w hF hW (wanted_y hF rfl rfl rfl rfl) rfl (Nat.le_of_ble_eq_true rfl) ((y_move hF rfl).q) (fun a w hF hW => ?_)
      refine ls_w hF hW (wanted_y hF rfl rfl rfl rfl) rfl (Nat.le_of_ble_eq_true rfl) ((y_move hF rfl).q) (fun a w hF hW => ?_)
      refine ls_g (wanted_y hF rfl rfl rfl rfl) ?_
      obtain ⟨x2, h1, H⟩ := bindE H
      refine ls hF hW rfl (y_call (v := Value.bool x2) hF H11 rfl (fun w hW => r20_Right_c any w (v1) p0 p1 _ h1 (((rdc_ro h_v1) : Rdc _ _ _ _ _ _) w hW).nx)) (fun a w hF hW => ?_)
      refine ls_w hF hW (wanted_y hF rfl rfl rfl rfl) rfl (Nat.le_of_ble_eq_true rfl) ((y_not hF rfl).q) (fun a w hF hW => ?_)
      refine ls hF hW rfl ((y_pick_f hF rfl rfl rfl).q) (fun a w hF hW => ?_)
      refine ls_nil ?_
      refine c_then ?_
      exact ⟨_, H, hF.re ⟨rfl, rfl, rfl, rfl, trivial⟩, hW⟩
  rintro a w ⟨x1, hj, hF, hW⟩
  have hj := Option.some.inj hj
  subst hj
  have H := K1
  clear G1 K1
  refine c_cond hF rfl (fun hb => ?_) (fun hb => ?_)
  ·
    have H := iteT hb H
    rw [hb] at hF
    clear hb
    refine c_seq ?_
    refine reg_list ?_
    obtain ⟨x3, h2, H⟩ := bindE H
    refine ls hF hW rfl (y_call (v := Value.bool x3) hF H6 rfl (fun w hW => L20_awake_c any w _ h2)) (fun a w hF hW => ?_)
    refine ls hF hW rfl ((y_assign hF rfl).q) (fun a w hF hW => ?_)
    refine ls_nil ?_
    refine c_then ?_
    refine wp_ret ?_
    refine r_then ?_
    have H := Option.some.inj H
    subst H
    refine post1 (.inl rfl) hF hW rfl (rv_tmp hF rfl) ?_
    exact ⟨rfl, hW.done⟩
  ·
    have H := iteF (by rw [hb]; decide) H
    rw [hb] at hF
    clear hb
    refine wp_skip ?_
    refine c_then ?_
    refine c_seq ?_
    refine reg_list ?_
    refine ls hF hW rfl ((y_move hF rfl).q) (fun a w hF hW => ?_)
    obtain ⟨x4, h3, H⟩ := bindE H
    refine l_callG (Ml := []) (Zl := []) (M := []) (Z := []) (β := Value) (rv := fun x => x) (MM := fun x => []) (ZZ := fun x => [row x 42 R42 x4]) hF hW H7 rfl rfl (fun hL => L20_mine_c _ w (v1) p1 _ h3 ((rdc_ro h_v1) w hW).nx) (fun x a w hF hW => ?_)
    obtain ⟨v2, rfl⟩ : ∃ y, y = x := ⟨x, rfl⟩
    have hW : Stw ⟨Y, [], w0⟩ [] [row v2 42 R42 x4] w := hW
    refine ls hF hW rfl ((y_assign hF rfl).q) (fun a w hF hW => ?_)
    refine ls_nil ?_
    refine c_then ?_
    refine c_seq ?_
    refine reg_list ?_
    refine ls hF hW rfl ((y_move hF rfl).q) (fun a w hF hW => ?_)
    refine ls hF hW rfl ((y_move hF rfl).q) (fun a w hF hW => ?_)
    obtain ⟨x5, h4, H⟩ := bindE H
    refine l_callG (Ml := []) (Zl := []) (M := []) (Z := [row v2 42 R42 x4]) (β := Value) (rv := fun x => .tuple #[x, .bool x5.2]) (MM := fun x => []) (ZZ := fun x => [row x 3 (Rp.int .i64) x5.1]) hF hW H8 rfl rfl (fun hL => graph_Order_c _ w (v2) p0 x4 _ h4 ((rdc_row 0 rfl) w hW).nx) (fun x a w hF hW => ?_)
    obtain ⟨v3, rfl⟩ : ∃ y, y = x := ⟨x, rfl⟩
    have hW : Stw ⟨Y, [], w0⟩ [] [row v3 3 (Rp.int .i64) x5.1, row v2 42 R42 x4] w := hW
    refine ls hF hW rfl ((y_move hF rfl).q) (fun a w hF hW => ?_)
    refine ls hF hW rfl ((y_extract (v := v3) hF rfl rfl).q) (fun a w hF hW => ?_)
    refine ls hF hW rfl ((y_extract (v := Value.bool x5.2) hF rfl rfl).q) (fun a w hF hW => ?_)
    refine ls hF hW rfl ((y_assign hF rfl).q) (fun a w hF hW => ?_)
    refine ls hF hW rfl ((y_assign hF rfl).q) (fun a w hF hW => ?_)
    refine ls_nil ?_
    refine c_then ?_
    refine c_seq ?_
    refine reg_list ?_
    refine ls hF hW rfl ((y_move hF rfl).q) (fun a w hF hW => ?_)
    refine ls hF hW rfl ((y_move hF rfl).q) (fun a w hF hW => ?_)
    obtain ⟨x6, h5, H⟩ := bindE H
    refine l_callG (Ml := []) (Zl := []) (M := []) (Z := [row v3 3 (Rp.int .i64) x5.1, row v2 42 R42 x4]) (β := Value) (rv := fun x => .tuple #[x, .bool x6.2]) (MM := fun x => []) (ZZ := fun x => [row x 3 (Rp.int .i64) x6.1]) hF hW H15 rfl rfl (fun hL => graph_Far_c _ w (v2) p0 x4 _ h5 ((rdc_row 1 rfl) w hW).nx) (fun x a w hF hW => ?_)
    obtain ⟨v4, rfl⟩ : ∃ y, y = x := ⟨x, rfl⟩
    have hW : Stw ⟨Y, [], w0⟩ [] [row v4 3 (Rp.int .i64) x6.1, row v3 3 (Rp.int .i64) x5.1, row v2 42 R42 x4] w := hW
    refine ls hF hW rfl ((y_move hF rfl).q) (fun a w hF hW => ?_)
    refine ls hF hW rfl ((y_extract (v := v4) hF rfl rfl).q) (fun a w hF hW => ?_)
    refine ls hF hW rfl ((y_extract (v := Value.bool x6.2) hF rfl rfl).q) (fun a w hF hW => ?_)
    refine ls hF hW rfl ((y_assign hF rfl).q) (fun a w hF hW => ?_)
    refine ls hF hW rfl ((y_assign hF rfl).q) (fun a w hF hW => ?_)
    refine ls_nil ?_
    refine c_then ?_
    refine c_seq ?_
    refine reg_list ?_
    refine ls hF hW rfl ((y_move hF rfl).q) (fun a w hF hW => ?_)
    refine ls hF hW rfl ((y_move hF rfl).q) (fun a w hF hW => ?_)
    obtain ⟨x7, h6, H⟩ := bindE H
    refine l_callG (Ml := []) (Zl := []) (M := []) (Z := [row v4 3 (Rp.int .i64) x6.1, row v3 3 (Rp.int .i64) x5.1, row v2 42 R42 x4]) (β := Value) (rv := fun x => x) (MM := fun x => []) (ZZ := fun x => [row x 3 (Rp.int .i64) x7]) hF hW H17 rfl rfl (fun hL => graph_Loop_c _ w (v2) p0 x4 _ h6 ((rdc_row 2 rfl) w hW).nx) (fun x a w hF hW => ?_)
    obtain ⟨v5, rfl⟩ : ∃ y, y = x := ⟨x, rfl⟩
    have hW : Stw ⟨Y, [], w0⟩ [] [row v5 3 (Rp.int .i64) x7, row v4 3 (Rp.int .i64) x6.1, row v3 3 (Rp.int .i64) x5.1, row v2 42 R42 x4] w := hW
    refine ls hF hW rfl ((y_assign hF rfl).q) (fun a w hF hW => ?_)
    refine ls_nil ?_
    refine c_then ?_
    refine c_seq ?_
    refine c_seqJ (fun a w => Fr 152 [] [(0, .int .i64 p0), (1, v1), (4, .bool false), (6, v3), (7, .bool x5.2), (8, v4), (10, v5), (51, .bool (decide (x5.2 ≠ x6.2) || decide (x5.2 ≠ (decide ((x7.length : Int) = 0)))))] a ∧ Stw ⟨Y, [], w0⟩ [] [row v5 3 (Rp.int .i64) x7, row v4 3 (Rp.int .i64) x6.1, row v3 3 (Rp.int .i64) x5.1, row v2 42 R42 x4] w) ?_ ?_
    ·
      refine reg_list ?_
      refine ls hF hW rfl ((y_move hF rfl).q) (fun a w hF hW => ?_)
      refine ls hF hW rfl ((y_move hF rfl).q) (fun a w hF hW => ?_)
      refine ls hF hW rfl ((y_neb Try.underlying4 hF rfl rfl).q) (fun a w hF hW => ?_)
      refine ls hF hW rfl ((y_move hF rfl).q) (fun a w hF hW => ?_)
      rcases Bool.eq_false_or_eq_true (decide (x5.2 ≠ x6.2)) with hb0 | hb0
      ·
        rw [hb0] at hF
        refine ls_skip hF (wanted_n hF rfl rfl rfl rfl rfl) rfl rfl (fun a hF => ?_)
        refine ls_skip hF (wanted_n hF rfl rfl rfl rfl rfl) rfl rfl (fun a hF => ?_)
        refine ls_skip hF (wanted_n hF rfl rfl rfl rfl rfl) rfl rfl (fun a hF => ?_)
        refine ls_skip hF (wanted_n hF rfl rfl rfl rfl rfl) rfl rfl (fun a hF => ?_)
        refine ls_skip hF (wanted_n hF rfl rfl rfl rfl rfl) rfl rfl (fun a hF => ?_)
        refine ls hF hW rfl ((y_pick_t hF rfl rfl rfl).q) (fun a w hF hW => ?_)
        refine ls_nil ?_
        refine c_then ?_
        exact ⟨hF.re ⟨rfl, rfl, rfl, rfl, rfl, rfl, rfl, (by show some (Value.bool true) = some (Value.bool (decide (x5.2 ≠ x6.2) || decide (x5.2 ≠ (decide ((x7.length : Int) = 0))))); try rw [hb0]; all_goals simp only [Bool.not_true, Bool.not_false, Bool.true_and, Bool.false_and, Bool.true_or, Bool.false_or, Bool.and_true, Bool.or_false, cond_true, cond_false]), trivial⟩, hW⟩
      ·
        rw [hb0] at hF
        refine ls_w hF hW (wanted_y hF rfl rfl rfl rfl) rfl (Nat.le_of_ble_eq_true rfl) ((y_move hF rfl).q) (fun a w hF hW => ?_)
        refine ls_w hF hW (wanted_y hF rfl rfl rfl rfl) rfl (Nat.le_of_ble_eq_true rfl) ((y_move hF rfl).q) (fun a w hF hW => ?_)
        refine ls_w hF hW (wanted_y hF rfl rfl rfl rfl) rfl (Nat.le_of_ble_eq_true rfl) ((y_len (r := (Rp.int .i64)) (l := x7) Try.underlying26 rfl hF rfl (rdc_row 0 rfl)).q) (fun a w hF hW => ?_)
        refine ls_w hF hW (wanted_y hF rfl rfl rfl rfl) rfl (Nat.le_of_ble_eq_true rfl) ((y_eql hF rfl rfl).q) (fun a w hF hW => ?_)
        refine ls_w hF hW (wanted_y hF rfl rfl rfl rfl) rfl (Nat.le_of_ble_eq_true rfl) ((y_neb Try.underlying4 hF rfl rfl).q) (fun a w hF hW => ?_)
        refine ls hF hW rfl ((y_pick_f hF rfl rfl rfl).q) (fun a w hF hW => ?_)
        refine ls_nil ?_
        refine c_then ?_
        exact ⟨hF.re ⟨rfl, rfl, rfl, rfl, rfl, rfl, rfl, (by show some (Value.bool (decide (x5.2 ≠ (decide ((x7.length : Int) = 0))))) = some (Value.bool (decide (x5.2 ≠ x6.2) || decide (x5.2 ≠ (decide ((x7.length : Int) = 0))))); try rw [hb0]; all_goals simp only [Bool.not_true, Bool.not_false, Bool.true_and, Bool.false_and, Bool.true_or, Bool.false_or, Bool.and_true, Bool.or_false, cond_true, cond_false]), trivial⟩, hW⟩
    rintro a w ⟨hF, hW⟩
    refine c_cond hF rfl (fun hb => ?_) (fun hb => ?_)
    ·
      have H := iteT hb H
      rw [hb] at hF
      clear hb
      refine c_seq ?_
      refine reg_list ?_
      refine ls hF hW rfl ((y_assign hF rfl).q) (fun a w hF hW => ?_)
      refine ls_nil ?_
      refine c_then ?_
      refine wp_ret ?_
      refine r_then ?_
      have H := Option.some.inj H
      subst H
      refine post1 (.inl rfl) hF hW rfl (rv_tmp hF rfl) ?_
      exact ⟨rfl, hW.done⟩
    ·
      have H := iteF (by rw [hb]; decide) H
      rw [hb] at hF
      clear hb
      refine wp_skip ?_
      refine c_then ?_
      obtain ⟨o2, G2, K2, L2⟩ := orE H
      refine c_seqJ (fun a w => some (Sum.inl ()) = some o2 ∧ Fr 152 [] [(0, .int .i64 p0), (1, v1), (4, .bool false), (6, v3), (8, v4)] a ∧ Stw ⟨Y, [], w0⟩ [] [row v3 3 (Rp.int .i64) x5.1, row v4 3 (Rp.int .i64) x6.1] w) ?_ ?_
      ·
        have H := G2
        clear G2 K2
        refine c_seq ?_
        refine reg_list ?_
        refine ls hF hW rfl ((y_move hF rfl).q) (fun a w hF hW => ?_)
        refine ls hF hW rfl ((y_not hF rfl).q) (fun a w hF hW => ?_)
        refine ls_nil ?_
        refine c_then ?_
        refine c_cond hF rfl (fun hb => ?_) (fun hb => ?_)
        ·
          have H := iteT hb H
          rw [hb] at hF
          clear hb
          obtain ⟨o3, G3, K3, L3⟩ := orE H
          refine c_seqJ (fun a w => some (Sum.inl ()) = some o3 ∧ Fr 152 [] [(0, .int .i64 p0), (1, v1), (4, .bool false), (6, v3), (8, v4)] a ∧ Stw ⟨Y, [], w0⟩ [] [row v3 3 (Rp.int .i64) x5.1, row v4 3 (Rp.int .i64) x6.1] w) ?_ ?_
          ·
            have H := G3
            clear G3 K3
            refine c_seq ?_
            refine reg_list ?_
            refine ls hF hW rfl ((y_assign hF rfl).q) (fun a w hF hW => ?_)
            refine ls_nil ?_
            refine c_then ?_
            refine wp_block ?_
            have hW := hW.frontZ (i := 1) rfl rfl
            have hW := hW.frontZ (i := 2) rfl rfl
            have hW := hW.sub (M' := []) (Z' := [row v3 3 (Rp.int .i64) x5.1, row v4 3 (Rp.int .i64) x6.1, row v5 3 (Rp.int .i64) x7]) (List.Sublist.refl _) (List.Sublist.cons_cons _ (List.Sublist.cons_cons _ (List.Sublist.cons_cons _ (List.nil_sublist _))))
            refine c_loopW H (fun s a w => Fr 152 [] [(0, .int .i64 p0), (1, v1), (4, .bool false), (6, v3), (8, v4), (10, v5), (11, .int .i64 s)] a ∧ Stw ⟨Y, [], w0⟩ [] [row v3 3 (Rp.int .i64) x5.1, row v4 3 (Rp.int .i64) x6.1, row v5 3 (Rp.int .i64) x7] w) ⟨hF.re ⟨rfl, rfl, rfl, rfl, rfl, rfl, rfl, trivial⟩, hW⟩ (fun s o a w H L4 hR => ?_)
            obtain ⟨x8, rfl⟩ : ∃ x, x = s := ⟨s, rfl⟩
            obtain ⟨hF, hW⟩ := hR
            have hF : Fr 152 [] [(0, .int .i64 p0), (1, v1), (4, .bool false), (6, v3), (8, v4), (10, v5), (11, .int .i64 x8)] a := hF
            have hW : Stw ⟨Y, [], w0⟩ [] [row v3 3 (Rp.int .i64) x5.1, row v4 3 (Rp.int .i64) x6.1, row v5 3 (Rp.int .i64) x7] w := hW
            rw [L20_GraphOrder_l1] at H
            refine c_seq ?_
            refine c_seq ?_
            refine reg_list ?_
            refine ls hF hW rfl ((y_move hF rfl).q) (fun a w hF hW => ?_)
            refine ls hF hW rfl ((y_move hF rfl).q) (fun a w hF hW => ?_)
            refine ls hF hW rfl ((y_len (r := (Rp.int .i64)) (l := x7) Try.underlying26 rfl hF rfl (rdc_row 2 rfl)).q) (fun a w hF hW => ?_)
            refine ls hF hW rfl ((y_lss hF rfl rfl).q) (fun a w hF hW => ?_)
            refine ls_nil ?_
            refine c_then ?_
            refine c_cond hF rfl (fun hb => ?_) (fun hb => ?_)
            ·
              have H := iteT (of_decide_eq_true hb) H
              rw [hb] at hF
              clear hb
              refine wp_skip ?_
              refine c_then ?_
              refine c_seq ?_
              refine wp_block ?_
              refine c_seq ?_
              refine reg_list ?_
              refine ls hF hW rfl ((y_move hF rfl).q) (fun a w hF hW => ?_)
              obtain ⟨x9, h7, H⟩ := bindE H
              refine ls hF hW rfl ((y_index (r := (Rp.int .i64)) L26 hF rfl rfl (rdc_row 2 rfl) h7).q) (fun a w hF hW => ?_)
              refine ls hF hW rfl ((y_load_el (y := Value.int .i64 x9) (j := 0) (i := 0) hF rfl rfl (rdc_row 2 rfl) h7 Fl.int.to T3 rfl).q) (fun a w hF hW => ?_)
              refine ls hF hW rfl ((y_assign hF rfl).q) (fun a w hF hW => ?_)
              refine ls_nil ?_
              refine c_then ?_
              obtain ⟨o5, G5, K5⟩ := bindE H
              refine c_seqJ (fun a w => ∃ x10 : Int, some (x10) = some o5 ∧ Fr 152 [] [(0, .int .i64 p0), (1, v1), (4, .bool false), (6, v3), (8, v4), (10, v5), (11, .int .i64 x8), (12, .int .i64 x10)] a ∧ Stw ⟨Y, [], w0⟩ [] [row v3 3 (Rp.int .i64) x5.1, row v4 3 (Rp.int .i64) x6.1, row v5 3 (Rp.int .i64) x7] w) ?_ ?_
              ·
                have H := G5
                clear G5 K5
                refine c_seq ?_
                refine reg_list ?_
                refine ls hF hW rfl ((y_move hF rfl).q) (fun a w hF hW => ?_)
                refine ls hF hW rfl ((y_add hF rfl rfl rfl).q) (fun a w hF hW => ?_)
                refine ls hF hW rfl ((y_move hF rfl).q) (fun a w hF hW => ?_)
                refine ls hF hW rfl ((y_len (r := (Rp.int .i64)) (l := x7) Try.underlying26 rfl hF rfl (rdc_row 2 rfl)).q) (fun a w hF hW => ?_)
                refine ls hF hW rfl ((y_lss hF rfl rfl).q) (fun a w hF hW => ?_)
                refine ls_nil ?_
                refine c_then ?_
                refine c_cond hF rfl (fun hb => ?_) (fun hb => ?_)
                ·
                  have H := iteT (of_decide_eq_true hb) H
                  rw [hb] at hF
                  clear hb
                  refine reg_list ?_
                  refine ls hF hW rfl ((y_move hF rfl).q) (fun a w hF hW => ?_)
                  refine ls hF hW rfl ((y_move hF rfl).q) (fun a w hF hW => ?_)
                  refine ls hF hW rfl ((y_add hF rfl rfl rfl).q) (fun a w hF hW => ?_)
                  obtain ⟨x11, h8, H⟩ := bindE H
                  refine ls hF hW rfl ((y_index (r := (Rp.int .i64)) L26 hF rfl rfl (rdc_row 2 rfl) h8).q) (fun a w hF hW => ?_)
                  refine ls hF hW rfl ((y_load_el (y := Value.int .i64 x11) (j := 0) (i := w64 (x8 + 1)) hF rfl rfl (rdc_row 2 rfl) h8 Fl.int.to T3 rfl).q) (fun a w hF hW => ?_)
                  refine ls hF hW rfl ((y_assign hF rfl).q) (fun a w hF hW => ?_)
                  refine ls_nil ?_
                  refine c_then ?_
                  have hW := hW.frontZ (i := 2) rfl rfl
                  have hW := hW.frontZ (i := 2) rfl rfl
                  have hW := hW.frontZ (i := 2) rfl rfl
                  exact ⟨_, H, hF.re ⟨rfl, rfl, rfl, rfl, rfl, rfl, rfl, rfl, trivial⟩, hW⟩
                ·
                  have H := iteF (of_decide_eq_false hb) H
                  rw [hb] at hF
                  clear hb
                  refine wp_skip ?_
                  refine c_then ?_
                  have hW := hW.frontZ (i := 2) rfl rfl
                  have hW := hW.frontZ (i := 2) rfl rfl
                  have hW := hW.frontZ (i := 2) rfl rfl
                  exact ⟨_, H, hF.re ⟨rfl, rfl, rfl, rfl, rfl, rfl, rfl, rfl, trivial⟩, hW⟩
              rintro a w ⟨x10, hj, hF, hW⟩
              have hj := Option.some.inj hj
              subst hj
              have H := K5
              clear G5 K5
              obtain ⟨o6, G6, K6⟩ := bindE H
              refine c_seqJ (fun a w => ∃ x12 : Bool, some (x12) = some o6 ∧ Fr 152 [] [(0, .int .i64 p0), (1, v1), (4, .bool false), (6, v3), (8, v4), (10, v5), (11, .int .i64 x8), (90, .bool x12)] a ∧ Stw ⟨Y, [], w0⟩ [] [row v3 3 (Rp.int .i64) x5.1, row v4 3 (Rp.int .i64) x6.1, row v5 3 (Rp.int .i64) x7] w) ?_ ?_
              ·
                have H := G6
                clear G6 K6
                refine reg_list ?_
                refine ls hF hW rfl ((y_move hF rfl).q) (fun a w hF hW => ?_)
                refine ls hF hW rfl ((y_move hF rfl).q) (fun a w hF hW => ?_)
                refine ls hF hW rfl ((y_move hF rfl).q) (fun a w hF hW => ?_)
                obtain ⟨x13, h9, H⟩ := bindE H
                refine ls hF hW rfl ((y_index (r := (Rp.int .i64)) L26 hF rfl rfl (rdc_row 2 rfl) h9).q) (fun a w hF hW => ?_)
                refine ls hF hW rfl ((y_load_el (y := Value.int .i64 x13) (j := 0) (i := x8) hF rfl rfl (rdc_row 2 rfl) h9 Fl.int.to T3 rfl).q) (fun a w hF hW => ?_)
                refine ls hF hW rfl ((y_move hF rfl).q) (fun a w hF hW => ?_)
                obtain ⟨x14, h10, H⟩ := bindE H
                refine ls hF hW rfl (y_call (v := Value.bool x14) hF H19 rfl (fun w hW => L20_joined_c any w (v1) p1 x13 x10 _ h10 (((rdc_ro h_v1) : Rdc _ _ _ _ _ _) w hW).nx)) (fun a w hF hW => ?_)
                refine ls hF hW rfl ((y_not hF rfl).q) (fun a w hF hW => ?_)
                refine ls hF hW rfl ((y_move hF rfl).q) (fun a w hF hW => ?_)
                rcases Bool.eq_false_or_eq_true (!x14) with hb | hb
                ·
                  have H := iteT hb H
                  rw [hb] at hF
                  clear hb
                  refine ls_skip hF (wanted_n hF rfl rfl rfl rfl rfl) rfl rfl (fun a hF => ?_)
                  refine ls_skip hF (wanted_n hF rfl rfl rfl rfl rfl) rfl rfl (fun a hF => ?_)
                  refine ls_skip hF (wanted_n hF rfl rfl rfl rfl rfl) rfl rfl (fun a hF => ?_)
                  refine ls_skip hF (wanted_n hF rfl rfl rfl rfl rfl) rfl rfl (fun a hF => ?_)
                  refine ls_skip hF (wanted_n hF rfl rfl rfl rfl rfl) rfl rfl (fun a hF => ?_)
                  refine ls_skip hF (wanted_n hF rfl rfl rfl rfl rfl) rfl rfl (fun a hF => ?_)
                  refine ls_skip hF (wanted_n hF rfl rfl rfl rfl rfl) rfl rfl (fun a hF => ?_)
                  refine ls_skip hF (wanted_n hF rfl rfl rfl rfl rfl) rfl rfl (fun a hF => ?_)
                  refine ls hF hW rfl ((y_pick_t hF rfl rfl rfl).q) (fun a w hF hW => ?_)
                  refine ls_nil ?_
                  refine c_then ?_
                  have hW := hW.frontZ (i := 2) rfl rfl
                  have hW := hW.frontZ (i := 2) rfl rfl
                  have hW := hW.frontZ (i := 2) rfl rfl
                  exact ⟨_, H, hF.re ⟨rfl, rfl, rfl, rfl, rfl, rfl, rfl, rfl, trivial⟩, hW⟩
                ·
                  have H := iteF (by rw [hb]; decide) H
                  rw [hb] at hF
                  clear hb
                  refine ls_w hF hW (wanted_y hF rfl rfl rfl rfl) rfl (Nat.le_of_ble_eq_true rfl) ((y_move hF rfl).q) (fun a w hF hW => ?_)
                  refine ls_w hF hW (wanted_y hF rfl rfl rfl rfl) rfl (Nat.le_of_ble_eq_true rfl) ((y_move hF rfl).q) (fun a w hF hW => ?_)
                  refine ls_w hF hW (wanted_y hF rfl rfl rfl rfl) rfl (Nat.le_of_ble_eq_true rfl) ((y_move hF rfl).q) (fun a w hF hW => ?_)
                  obtain ⟨x15, h11, H⟩ := bindE H
                  refine ls_w hF hW (wanted_y hF rfl rfl rfl rfl) rfl (Nat.le_of_ble_eq_true rfl) ((y_index (r := (Rp.int .i64)) L26 hF rfl rfl (rdc_row 2 rfl) h11).q) (fun a w hF hW => ?_)
                  refine ls_w hF hW (wanted_y hF rfl rfl rfl rfl) rfl (Nat.le_of_ble_eq_true rfl) ((y_load_el (y := Value.int .i64 x15) (j := 0) (i := x8) hF rfl rfl (rdc_row 2 rfl) h11 Fl.int.to T3 rfl).q) (fun a w hF hW => ?_)
                  refine ls_g (wanted_y hF rfl rfl rfl rfl) ?_
                  obtain ⟨x16, h12, H⟩ := bindE H
                  refine ls hF hW rfl (y_call (v := Value.int .i64 x16) hF H20 rfl (fun w hW => L20_place_c any w (v5) x7 x15 _ h12 (((rdc_row 2 rfl) : Rdc _ _ _ _ _ _) w hW).nx)) (fun a w hF hW => ?_)
                  refine ls_w hF hW (wanted_y hF rfl rfl rfl rfl) rfl (Nat.le_of_ble_eq_true rfl) ((y_move hF rfl).q) (fun a w hF hW => ?_)
                  refine ls_w hF hW (wanted_y hF rfl rfl rfl rfl) rfl (Nat.le_of_ble_eq_true rfl) ((y_neq hF rfl rfl).q) (fun a w hF hW => ?_)
                  refine ls hF hW rfl ((y_pick_f hF rfl rfl rfl).q) (fun a w hF hW => ?_)
                  refine ls_nil ?_
                  refine c_then ?_
                  have hW := hW.frontZ (i := 2) rfl rfl
                  have hW := hW.frontZ (i := 2) rfl rfl
                  have hW := hW.frontZ (i := 2) rfl rfl
                  exact ⟨_, H, hF.re ⟨rfl, rfl, rfl, rfl, rfl, rfl, rfl, rfl, trivial⟩, hW⟩
              rintro a w ⟨x12, hj, hF, hW⟩
              have hj := Option.some.inj hj
              subst hj
              have H := K6
              clear G6 K6
              refine c_cond hF rfl (fun hb => ?_) (fun hb => ?_)
              ·
                have H := iteT hb H
                rw [hb] at hF
                clear hb
                refine c_seq ?_
                refine reg_list ?_
                refine ls hF hW rfl ((y_assign hF rfl).q) (fun a w hF hW => ?_)
                refine ls_nil ?_
                refine c_then ?_
                refine wp_ret ?_
                refine r_block ?_
                refine r_then ?_
                refine r_then ?_
                refine r_block ?_
                refine r_then ?_
                refine r_then ?_
                have H := L4 _ H
                have H := L3 _ H
                have H := L2 _ H
                have H := Option.some.inj H
                subst H
                refine post1 (.inl rfl) hF hW rfl (rv_tmp hF rfl) ?_
                exact ⟨rfl, hW.done⟩
              ·
                have H := iteF (by rw [hb]; decide) H
                rw [hb] at hF
                clear hb
                refine wp_skip ?_
                refine b_normal ?_
                refine c_then ?_
                refine reg_list ?_
                refine ls hF hW rfl ((y_move hF rfl).q) (fun a w hF hW => ?_)
                refine ls hF hW rfl ((y_add hF rfl rfl rfl).q) (fun a w hF hW => ?_)
                refine ls hF hW rfl ((y_assign hF rfl).q) (fun a w hF hW => ?_)
                refine ls_nil ?_
                refine c_then ?_
                have hW := hW.frontZ (i := 2) rfl rfl
                have hW := hW.frontZ (i := 2) rfl rfl
                have hW := hW.frontZ (i := 2) rfl rfl
                exact ⟨_, H, hF.re ⟨rfl, rfl, rfl, rfl, rfl, rfl, rfl, trivial⟩, hW⟩
            ·
              have H := iteF (of_decide_eq_false hb) H
              rw [hb] at hF
              clear hb
              refine wp_exit ?_
              refine e_then ?_
              refine e_then ?_
              refine e_block ?_
              refine c_then ?_
              have hW := hW.frontZ (i := 1) rfl rfl
              have hW := hW.frontZ (i := 1) rfl rfl
              have hW := hW.sub (M' := []) (Z' := [row v3 3 (Rp.int .i64) x5.1, row v4 3 (Rp.int .i64) x6.1]) (List.Sublist.refl _) (List.Sublist.cons_cons _ (List.Sublist.cons_cons _ (List.nil_sublist _)))
              have H := L4 _ H
              exact ⟨H, hF.re ⟨rfl, rfl, rfl, rfl, rfl, trivial⟩, hW⟩
          rintro a w ⟨hj, hF, hW⟩
          have H := K3 _ hj
          clear hj G3 K3 L3
          refine c_seq ?_
          refine reg_list ?_
          obtain ⟨x17, h13, H⟩ := bindE H
          refine ls hF hW rfl (y_call (v := Value.bool x17) hF H6 rfl (fun w hW => L20_awake_c any w _ h13)) (fun a w hF hW => ?_)
          refine ls hF hW rfl ((y_assign hF rfl).q) (fun a w hF hW => ?_)
          refine ls_nil ?_
          refine c_then ?_
          refine wp_ret ?_
          refine r_then ?_
          have H := L2 _ H
          have H := Option.some.inj H
          subst H
          refine post1 (.inl rfl) hF hW rfl (rv_tmp hF rfl) ?_
          exact ⟨rfl, hW.done⟩
        ·
          have H := iteF (by rw [hb]; decide) H
          rw [hb] at hF
          clear hb
          refine wp_skip ?_
          refine c_then ?_
          have hW := hW.frontZ (i := 1) rfl rfl
          have hW := hW.frontZ (i := 2) rfl rfl
          have hW := hW.sub (M' := []) (Z' := [row v3 3 (Rp.int .i64) x5.1, row v4 3 (Rp.int .i64) x6.1]) (List.Sublist.refl _) (List.Sublist.cons_cons _ (List.Sublist.cons_cons _ (List.nil_sublist _)))
          exact ⟨H, hF.re ⟨rfl, rfl, rfl, rfl, rfl, trivial⟩, hW⟩
      rintro a w ⟨hj, hF, hW⟩
      have H := K2 _ hj
      clear hj G2 K2 L2
      obtain ⟨o7, G7, K7, L7⟩ := orE H
      refine c_seqJ (fun a w => some (Sum.inl ()) = some o7 ∧ Fr 152 [] [(0, .int .i64 p0), (1, v1), (4, .bool false), (6, v3), (8, v4)] a ∧ Stw ⟨Y, [], w0⟩ [] [row v3 3 (Rp.int .i64) x5.1, row v4 3 (Rp.int .i64) x6.1] w) ?_ ?_
      ·
        have H := G7
        clear G7 K7
        refine c_seq ?_
        refine reg_list ?_
        refine ls hF hW rfl ((y_assign hF rfl).q) (fun a w hF hW => ?_)
        refine ls_nil ?_
        refine c_then ?_
        refine wp_block ?_
        have hW := hW.frontZ (i := 1) rfl rfl
        have hW := hW.frontZ (i := 1) rfl rfl
        refine c_loopW H (fun s a w => Fr 152 [] [(0, .int .i64 p0), (1, v1), (4, .bool false), (6, v3), (8, v4), (13, .int .i64 s)] a ∧ Stw ⟨Y, [], w0⟩ [] [row v3 3 (Rp.int .i64) x5.1, row v4 3 (Rp.int .i64) x6.1] w) ⟨hF.re ⟨rfl, rfl, rfl, rfl, rfl, rfl, trivial⟩, hW⟩ (fun s o a w H L8 hR => ?_)
        obtain ⟨x18, rfl⟩ : ∃ x, x = s := ⟨s, rfl⟩
        obtain ⟨hF, hW⟩ := hR
        have hF : Fr 152 [] [(0, .int .i64 p0), (1, v1), (4, .bool false), (6, v3), (8, v4), (13, .int .i64 x18)] a := hF
        have hW : Stw ⟨Y, [], w0⟩ [] [row v3 3 (Rp.int .i64) x5.1, row v4 3 (Rp.int .i64) x6.1] w := hW
        rw [L20_GraphOrder_l2] at H
        refine c_seq ?_
        refine c_seq ?_
        refine reg_list ?_
        refine ls hF hW rfl ((y_move hF rfl).q) (fun a w hF hW => ?_)
        refine ls hF hW rfl ((y_move hF rfl).q) (fun a w hF hW => ?_)
        refine ls hF hW rfl ((y_lss hF rfl rfl).q) (fun a w hF hW => ?_)
        refine ls_nil ?_
        refine c_then ?_
        refine c_cond hF rfl (fun hb => ?_) (fun hb => ?_)
        ·
          have H := iteT (of_decide_eq_true hb) H
          rw [hb] at hF
          clear hb
          refine wp_skip ?_
          refine c_then ?_
          refine c_seq ?_
          refine wp_block ?_
          refine c_seq ?_
          refine reg_list ?_
          refine ls hF hW rfl ((y_move hF rfl).q) (fun a w hF hW => ?_)
          refine ls hF hW rfl ((y_move hF rfl).q) (fun a w hF hW => ?_)
          obtain ⟨x19, h14, H⟩ := bindE H
          refine ls hF hW rfl (y_call (v := Value.int .i64 x19) hF H20 rfl (fun w hW => L20_place_c any w (v3) x5.1 x18 _ h14 (((rdc_row 0 rfl) : Rdc _ _ _ _ _ _) w hW).nx)) (fun a w hF hW => ?_)
          refine ls hF hW rfl ((y_lss hF rfl rfl).q) (fun a w hF hW => ?_)
          refine ls_nil ?_
          refine c_then ?_
          refine c_cond hF rfl (fun hb => ?_) (fun hb => ?_)
          ·
            have H := iteT (of_decide_eq_true hb) H
            rw [hb] at hF
            clear hb
            refine c_seq ?_
            refine reg_list ?_
            refine ls hF hW rfl ((y_assign hF rfl).q) (fun a w hF hW => ?_)
            refine ls_nil ?_
            refine c_then ?_
            refine wp_ret ?_
            refine r_block ?_
            refine r_then ?_
            refine r_then ?_
            refine r_block ?_
            refine r_then ?_
            have H := L8 _ H
            have H := L7 _ H
            have H := Option.some.inj H
            subst H
            refine post1 (.inl rfl) hF hW rfl (rv_tmp hF rfl) ?_
            exact ⟨rfl, hW.done⟩
          ·
            have H := iteF (of_decide_eq_false hb) H
            rw [hb] at hF
            clear hb
            refine wp_skip ?_
            refine b_normal ?_
            refine c_then ?_
            refine reg_list ?_
            refine ls hF hW rfl ((y_move hF rfl).q) (fun a w hF hW => ?_)
            refine ls hF hW rfl ((y_add hF rfl rfl rfl).q) (fun a w hF hW => ?_)
            refine ls hF hW rfl ((y_assign hF rfl).q) (fun a w hF hW => ?_)
            refine ls_nil ?_
            refine c_then ?_
            have hW := hW.frontZ (i := 1) rfl rfl
            have hW := hW.frontZ (i := 1) rfl rfl
            exact ⟨_, H, hF.re ⟨rfl, rfl, rfl, rfl, rfl, rfl, trivial⟩, hW⟩
        ·
          have H := iteF (of_decide_eq_false hb) H
          rw [hb] at hF
          clear hb
          refine wp_exit ?_
          refine e_then ?_
          refine e_then ?_
          refine e_block ?_
          refine c_then ?_
          have hW := hW.frontZ (i := 1) rfl rfl
          have hW := hW.frontZ (i := 1) rfl rfl
          have H := L8 _ H
          exact ⟨H, hF.re ⟨rfl, rfl, rfl, rfl, rfl, trivial⟩, hW⟩
      rintro a w ⟨hj, hF, hW⟩
      have H := K7 _ hj
      clear hj G7 K7 L7
      refine c_seq ?_
      refine c_seqJ (fun a w => Fr 152 [] [(1, v1), (4, .bool false), (6, v3), (8, v4), (110, .bool (decide ((x5.1.length : Int) ≠ p0) || decide ((x6.1.length : Int) ≠ p0)))] a ∧ Stw ⟨Y, [], w0⟩ [] [row v3 3 (Rp.int .i64) x5.1, row v4 3 (Rp.int .i64) x6.1] w) ?_ ?_
      ·
        refine reg_list ?_
        refine ls hF hW rfl ((y_move hF rfl).q) (fun a w hF hW => ?_)
        refine ls hF hW rfl ((y_len (r := (Rp.int .i64)) (l := x5.1) Try.underlying26 rfl hF rfl (rdc_row 0 rfl)).q) (fun a w hF hW => ?_)
        refine ls hF hW rfl ((y_move hF rfl).q) (fun a w hF hW => ?_)
        refine ls hF hW rfl ((y_neq hF rfl rfl).q) (fun a w hF hW => ?_)
        refine ls hF hW rfl ((y_move hF rfl).q) (fun a w hF hW => ?_)
        rcases Bool.eq_false_or_eq_true (decide ((x5.1.length : Int) ≠ p0)) with hb0 | hb0
        ·
          rw [hb0] at hF
          refine ls_skip hF (wanted_n hF rfl rfl rfl rfl rfl) rfl rfl (fun a hF => ?_)
          refine ls_skip hF (wanted_n hF rfl rfl rfl rfl rfl) rfl rfl (fun a hF => ?_)
          refine ls_skip hF (wanted_n hF rfl rfl rfl rfl rfl) rfl rfl (fun a hF => ?_)
          refine ls_skip hF (wanted_n hF rfl rfl rfl rfl rfl) rfl rfl (fun a hF => ?_)
          refine ls hF hW rfl ((y_pick_t hF rfl rfl rfl).q) (fun a w hF hW => ?_)
          refine ls_nil ?_
          refine c_then ?_
          exact ⟨hF.re ⟨rfl, rfl, rfl, rfl, (by show some (Value.bool true) = some (Value.bool (decide ((x5.1.length : Int) ≠ p0) || decide ((x6.1.length : Int) ≠ p0))); try rw [hb0]; all_goals simp only [Bool.not_true, Bool.not_false, Bool.true_and, Bool.false_and, Bool.true_or, Bool.false_or, Bool.and_true, Bool.or_false, cond_true, cond_false]), trivial⟩, hW⟩
        ·
          rw [hb0] at hF
          refine ls_w hF hW (wanted_y hF rfl rfl rfl rfl) rfl (Nat.le_of_ble_eq_true rfl) ((y_move hF rfl).q) (fun a w hF hW => ?_)
          refine ls_w hF hW (wanted_y hF rfl rfl rfl rfl) rfl (Nat.le_of_ble_eq_true rfl) ((y_len (r := (Rp.int .i64)) (l := x6.1) Try.underlying26 rfl hF rfl (rdc_row 1 rfl)).q) (fun a w hF hW => ?_)
          refine ls_w hF hW (wanted_y hF rfl rfl rfl rfl) rfl (Nat.le_of_ble_eq_true rfl) ((y_move hF rfl).q) (fun a w hF hW => ?_)
          refine ls_w hF hW (wanted_y hF rfl rfl rfl rfl) rfl (Nat.le_of_ble_eq_true rfl) ((y_neq hF rfl rfl).q) (fun a w hF hW => ?_)
          refine ls hF hW rfl ((y_pick_f hF rfl rfl rfl).q) (fun a w hF hW => ?_)
          refine ls_nil ?_
          refine c_then ?_
          exact ⟨hF.re ⟨rfl, rfl, rfl, rfl, (by show some (Value.bool (decide ((x6.1.length : Int) ≠ p0))) = some (Value.bool (decide ((x5.1.length : Int) ≠ p0) || decide ((x6.1.length : Int) ≠ p0))); try rw [hb0]; all_goals simp only [Bool.not_true, Bool.not_false, Bool.true_and, Bool.false_and, Bool.true_or, Bool.false_or, Bool.and_true, Bool.or_false, cond_true, cond_false]), trivial⟩, hW⟩
      rintro a w ⟨hF, hW⟩
      refine c_cond hF rfl (fun hb => ?_) (fun hb => ?_)
      ·
        have H := iteT hb H
        rw [hb] at hF
        clear hb
        refine c_seq ?_
        refine reg_list ?_
        refine ls hF hW rfl ((y_assign hF rfl).q) (fun a w hF hW => ?_)
        refine ls_nil ?_
        refine c_then ?_
        refine wp_ret ?_
        refine r_then ?_
        have H := Option.some.inj H
        subst H
        refine post1 (.inl rfl) hF hW rfl (rv_tmp hF rfl) ?_
        exact ⟨rfl, hW.done⟩
      ·
        have H := iteF (by rw [hb]; decide) H
        rw [hb] at hF
        clear hb
        refine wp_skip ?_
        refine c_then ?_
        obtain ⟨o9, G9, K9, L9⟩ := orE H
        refine c_seqJ (fun a w => some (Sum.inl ()) = some o9 ∧ Fr 152 [] [(4, .bool false)] a ∧ Stw ⟨Y, [], w0⟩ [] [] w) ?_ ?_
        ·
          have H := G9
          clear G9 K9
          refine c_seq ?_
          refine reg_list ?_
          refine ls hF hW rfl ((y_assign hF rfl).q) (fun a w hF hW => ?_)
          refine ls_nil ?_
          refine c_then ?_
          refine wp_block ?_
          have hW := hW.frontZ (i := 1) rfl rfl
          have hW := hW.frontZ (i := 1) rfl rfl
          refine c_loopW H (fun s a w => Fr 152 [] [(1, v1), (4, .bool false), (6, v3), (8, v4), (14, .int .i64 s)] a ∧ Stw ⟨Y, [], w0⟩ [] [row v3 3 (Rp.int .i64) x5.1, row v4 3 (Rp.int .i64) x6.1] w) ⟨hF.re ⟨rfl, rfl, rfl, rfl, rfl, trivial⟩, hW⟩ (fun s o a w H L10 hR => ?_)
          obtain ⟨x20, rfl⟩ : ∃ x, x = s := ⟨s, rfl⟩
          obtain ⟨hF, hW⟩ := hR
          have hF : Fr 152 [] [(1, v1), (4, .bool false), (6, v3), (8, v4), (14, .int .i64 x20)] a := hF
          have hW : Stw ⟨Y, [], w0⟩ [] [row v3 3 (Rp.int .i64) x5.1, row v4 3 (Rp.int .i64) x6.1] w := hW
          rw [L20_GraphOrder_l3] at H
          refine c_seq ?_
          refine c_seq ?_
          refine reg_list ?_
          refine ls hF hW rfl ((y_move hF rfl).q) (fun a w hF hW => ?_)
          refine ls hF hW rfl ((y_move hF rfl).q) (fun a w hF hW => ?_)
          refine ls hF hW rfl ((y_len (r := R41) (l := p1) Try.underlying22 rfl hF rfl (rdc_ro h_v1)).q) (fun a w hF hW => ?_)
          refine ls hF hW rfl ((y_lss hF rfl rfl).q) (fun a w hF hW => ?_)
          refine ls_nil ?_
          refine c_then ?_
          refine c_cond hF rfl (fun hb => ?_) (fun hb => ?_)
          ·
            have H := iteT (of_decide_eq_true hb) H
            rw [hb] at hF
            clear hb
            refine wp_skip ?_
            refine c_then ?_
            refine c_seq ?_
            refine wp_block ?_
            obtain ⟨o11, G11, K11⟩ := bindE H
            refine c_seqJ (fun a w => ∃ x21 : Bool, some (x21) = some o11 ∧ Fr 152 [] [(1, v1), (4, .bool false), (6, v3), (8, v4), (14, .int .i64 x20), (150, .bool x21)] a ∧ Stw ⟨Y, [], w0⟩ [] [row v3 3 (Rp.int .i64) x5.1, row v4 3 (Rp.int .i64) x6.1] w) ?_ ?_
            ·
              have H := G11
              clear G11 K11
              refine reg_quiet hW MO (by kernel_rfl) ?_
              refine qs hF rfl ((y_move hF rfl).q) (fun a hF => ?_)
              refine qs hF rfl ((y_move hF rfl).q) (fun a hF => ?_)
              refine qs hF rfl ((y_move hF rfl).q) (fun a hF => ?_)
              obtain ⟨x22, h15, H⟩ := bindE H
              refine qs hF rfl ((y_index (r := R41) L22 hF rfl rfl (rdc_ro h_v1) h15).q) (fun a hF => ?_)
              refine qs hF rfl ((y_fieldAddr Try.underlying41 rfl rfl rfl T3 hF rfl (voff v1 + (x20).toNat * 2) rfl).q) (fun a hF => ?_)
              refine qs hF rfl ((y_load_el (y := Value.int .i64 x22.1) (j := 0) (i := x20) hF rfl rfl (rdc_ro h_v1) h15 F41.to T3 rfl).q) (fun a hF => ?_)
              obtain ⟨x23, h16, H⟩ := bindE H
              refine qs hF rfl (y_call (v := Value.int .i64 x23) hF H20 rfl (fun w hW => L20_place_c any w (v3) x5.1 x22.1 _ h16 (((rdc_row 0 rfl) : Rdc _ _ _ _ _ _) w hW).nx)) (fun a hF => ?_)
              refine qs hF rfl ((y_move hF rfl).q) (fun a hF => ?_)
              refine qs hF rfl ((y_move hF rfl).q) (fun a hF => ?_)
              refine qs hF rfl ((y_move hF rfl).q) (fun a hF => ?_)
              obtain ⟨x24, h17, H⟩ := bindE H
              refine qs hF rfl ((y_index (r := R41) L22 hF rfl rfl (rdc_ro h_v1) h17).q) (fun a hF => ?_)
              refine qs hF rfl ((y_fieldAddr Try.underlying41 rfl rfl rfl T3 hF rfl (voff v1 + (x20).toNat * 2 + 1) rfl).q) (fun a hF => ?_)
              refine qs hF rfl ((y_load_el (y := Value.int .i64 x24.2) (j := 1) (i := x20) hF rfl rfl (rdc_ro h_v1) h17 F41.to T3 rfl).q) (fun a hF => ?_)
              obtain ⟨x25, h18, H⟩ := bindE H
              refine qs hF rfl (y_call (v := Value.int .i64 x25) hF H20 rfl (fun w hW => L20_place_c any w (v3) x5.1 x24.2 _ h18 (((rdc_row 0 rfl) : Rdc _ _ _ _ _ _) w hW).nx)) (fun a hF => ?_)
              refine qs hF rfl ((y_geq hF rfl rfl).q) (fun a hF => ?_)
              refine qs hF rfl ((y_move hF rfl).q) (fun a hF => ?_)
              rcases Bool.eq_false_or_eq_true (decide (x25 ≤ x23)) with hb | hb
              ·
                have H := iteT (of_decide_eq_true hb) H
                rw [hb] at hF
                clear hb
                refine qs_skip hF (wanted_n hF rfl rfl rfl rfl rfl) rfl rfl (fun a hF => ?_)
                refine qs_skip hF (wanted_n hF rfl rfl rfl rfl rfl) rfl rfl (fun a hF => ?_)
                refine qs_skip hF (wanted_n hF rfl rfl rfl rfl rfl) rfl rfl (fun a hF => ?_)
                refine qs_skip hF (wanted_n hF rfl rfl rfl rfl rfl) rfl rfl (fun a hF => ?_)
                refine qs_skip hF (wanted_n hF rfl rfl rfl rfl rfl) rfl rfl (fun a hF => ?_)
                refine qs_skip hF (wanted_n hF rfl rfl rfl rfl rfl) rfl rfl (fun a hF => ?_)
                refine qs_skip hF (wanted_n hF rfl rfl rfl rfl rfl) rfl rfl (fun a hF => ?_)
                refine qs_skip hF (wanted_n hF rfl rfl rfl rfl rfl) rfl rfl (fun a hF => ?_)
                refine qs_skip hF (wanted_n hF rfl rfl rfl rfl rfl) rfl rfl (fun a hF => ?_)
                refine qs_skip hF (wanted_n hF rfl rfl rfl rfl rfl) rfl rfl (fun a hF => ?_)
                refine qs_skip hF (wanted_n hF rfl rfl rfl rfl rfl) rfl rfl (fun a hF => ?_)
                refine qs_skip hF (wanted_n hF rfl rfl rfl rfl rfl) rfl rfl (fun a hF => ?_)
                refine qs_skip hF (wanted_n hF rfl rfl rfl rfl rfl) rfl rfl (fun a hF => ?_)
                refine qs_skip hF (wanted_n hF rfl rfl rfl rfl rfl) rfl rfl (fun a hF => ?_)
                refine qs_skip hF (wanted_n hF rfl rfl rfl rfl rfl) rfl rfl (fun a hF => ?_)
                refine qs_skip hF (wanted_n hF rfl rfl rfl rfl rfl) rfl rfl (fun a hF => ?_)
                refine qs_skip hF (wanted_n hF rfl rfl rfl rfl rfl) rfl rfl (fun a hF => ?_)
                refine qs hF rfl ((y_pick_t hF rfl rfl rfl).q) (fun a hF => ?_)
                refine quiet_end (fun w hW => ?_)
                refine c_then ?_
                have hW := hW.frontZ (i := 1) rfl rfl
                have hW := hW.frontZ (i := 1) rfl rfl
                exact ⟨_, H, hF.re ⟨rfl, rfl, rfl, rfl, rfl, rfl, trivial⟩, hW⟩
              ·
                have H := iteF (of_decide_eq_false hb) H
                rw [hb] at hF
                clear hb
                refine qs_w hF (wanted_y hF rfl rfl rfl rfl) rfl (Nat.le_of_ble_eq_true rfl) ((y_move hF rfl).q) (fun a hF => ?_)
                refine qs_w hF (wanted_y hF rfl rfl rfl rfl) rfl (Nat.le_of_ble_eq_true rfl) ((y_move hF rfl).q) (fun a hF => ?_)
                refine qs_w hF (wanted_y hF rfl rfl rfl rfl) rfl (Nat.le_of_ble_eq_true rfl) ((y_move hF rfl).q) (fun a hF => ?_)
                obtain ⟨x26, h19, H⟩ := bindE H
                refine qs_w hF (wanted_y hF rfl rfl rfl rfl) rfl (Nat.le_of_ble_eq_true rfl) ((y_index (r := R41) L22 hF rfl rfl (rdc_ro h_v1) h19).q) (fun a hF => ?_)
                refine qs_w hF (wanted_y hF rfl rfl rfl rfl) rfl (Nat.le_of_ble_eq_true rfl) ((y_fieldAddr Try.underlying41 rfl rfl rfl T3 hF rfl (voff v1 + (x20).toNat * 2 + 1) rfl).q) (fun a hF => ?_)
                refine qs_w hF (wanted_y hF rfl rfl rfl rfl) rfl (Nat.le_of_ble_eq_true rfl) ((y_load_el (y := Value.int .i64 x26.2) (j := 1) (i := x20) hF rfl rfl (rdc_ro h_v1) h19 F41.to T3 rfl).q) (fun a hF => ?_)
                obtain ⟨x27, h20, H⟩ := bindE H
                refine qs_w hF (wanted_y hF rfl rfl rfl rfl) rfl (Nat.le_of_ble_eq_true rfl) ((y_index (r := (Rp.int .i64)) L26 hF rfl rfl (rdc_row 1 rfl) h20).q) (fun a hF => ?_)
                refine qs_w hF (wanted_y hF rfl rfl rfl rfl) rfl (Nat.le_of_ble_eq_true rfl) ((y_load_el (y := Value.int .i64 x27) (j := 0) (i := x26.2) hF rfl rfl (rdc_row 1 rfl) h20 Fl.int.to T3 rfl).q) (fun a hF => ?_)
                refine qs_w hF (wanted_y hF rfl rfl rfl rfl) rfl (Nat.le_of_ble_eq_true rfl) ((y_move hF rfl).q) (fun a hF => ?_)
                refine qs_w hF (wanted_y hF rfl rfl rfl rfl) rfl (Nat.le_of_ble_eq_true rfl) ((y_move hF rfl).q) (fun a hF => ?_)
                refine qs_w hF (wanted_y hF rfl rfl rfl rfl) rfl (Nat.le_of_ble_eq_true rfl) ((y_move hF rfl).q) (fun a hF => ?_)
                obtain ⟨x28, h21, H⟩ := bindE H
                refine qs_w hF (wanted_y hF rfl rfl rfl rfl) rfl (Nat.le_of_ble_eq_true rfl) ((y_index (r := R41) L22 hF rfl rfl (rdc_ro h_v1) h21).q) (fun a hF => ?_)
                refine qs_w hF (wanted_y hF rfl rfl rfl rfl) rfl (Nat.le_of_ble_eq_true rfl) ((y_fieldAddr Try.underlying41 rfl rfl rfl T3 hF rfl (voff v1 + (x20).toNat * 2) rfl).q) (fun a hF => ?_)
                refine qs_w hF (wanted_y hF rfl rfl rfl rfl) rfl (Nat.le_of_ble_eq_true rfl) ((y_load_el (y := Value.int .i64 x28.1) (j := 0) (i := x20) hF rfl rfl (rdc_ro h_v1) h21 F41.to T3 rfl).q) (fun a hF => ?_)
                obtain ⟨x29, h22, H⟩ := bindE H
                refine qs_w hF (wanted_y hF rfl rfl rfl rfl) rfl (Nat.le_of_ble_eq_true rfl) ((y_index (r := (Rp.int .i64)) L26 hF rfl rfl (rdc_row 1 rfl) h22).q) (fun a hF => ?_)
                refine qs_w hF (wanted_y hF rfl rfl rfl rfl) rfl (Nat.le_of_ble_eq_true rfl) ((y_load_el (y := Value.int .i64 x29) (j := 0) (i := x28.1) hF rfl rfl (rdc_row 1 rfl) h22 Fl.int.to T3 rfl).q) (fun a hF => ?_)
                refine qs_w hF (wanted_y hF rfl rfl rfl rfl) rfl (Nat.le_of_ble_eq_true rfl) ((y_leq hF rfl rfl).q) (fun a hF => ?_)
                refine qs hF rfl ((y_pick_f hF rfl rfl rfl).q) (fun a hF => ?_)
                refine quiet_end (fun w hW => ?_)
                refine c_then ?_
                have hW := hW.frontZ (i := 1) rfl rfl
                have hW := hW.frontZ (i := 1) rfl rfl
                exact ⟨_, H, hF.re ⟨rfl, rfl, rfl, rfl, rfl, rfl, trivial⟩, hW⟩
            rintro a w ⟨x21, hj, hF, hW⟩
            have hj := Option.some.inj hj
            subst hj
            have H := K11
            clear G11 K11
            refine c_cond hF rfl (fun hb => ?_) (fun hb => ?_)
            ·
              have H := iteT hb H
              rw [hb] at hF
              clear hb
              refine c_seq ?_
              refine reg_list ?_
              refine ls hF hW rfl ((y_assign hF rfl).q) (fun a w hF hW => ?_)
              refine ls_nil ?_
              refine c_then ?_
              refine wp_ret ?_
              refine r_block ?_
              refine r_then ?_
              refine r_then ?_
              refine r_block ?_
              refine r_then ?_
              have H := L10 _ H
              have H := L9 _ H
              have H := Option.some.inj H
              subst H
              refine post1 (.inl rfl) hF hW rfl (rv_tmp hF rfl) ?_
              exact ⟨rfl, hW.done⟩
            ·
              have H := iteF (by rw [hb]; decide) H
              rw [hb] at hF
              clear hb
              refine wp_skip ?_
              refine b_normal ?_
              refine c_then ?_
              refine reg_list ?_
              refine ls hF hW rfl ((y_move hF rfl).q) (fun a w hF hW => ?_)
              refine ls hF hW rfl ((y_add hF rfl rfl rfl).q) (fun a w hF hW => ?_)
              refine ls hF hW rfl ((y_assign hF rfl).q) (fun a w hF hW => ?_)
              refine ls_nil ?_
              refine c_then ?_
              have hW := hW.frontZ (i := 1) rfl rfl
              have hW := hW.frontZ (i := 1) rfl rfl
              exact ⟨_, H, hF.re ⟨rfl, rfl, rfl, rfl, rfl, trivial⟩, hW⟩
          ·
            have H := iteF (of_decide_eq_false hb) H
            rw [hb] at hF
            clear hb
            refine wp_exit ?_
            refine e_then ?_
            refine e_then ?_
            refine e_block ?_
            refine c_then ?_
            have hW := hW.sub (M' := []) (Z' := []) (List.Sublist.refl _) (List.nil_sublist _)
            have H := L10 _ H
            exact ⟨H, hF.re ⟨rfl, trivial⟩, hW⟩
        rintro a w ⟨hj, hF, hW⟩
        have H := K9 _ hj
        clear hj G9 K9 L9
        refine c_seq ?_
        refine reg_list ?_
        obtain ⟨x30, h23, H⟩ := bindE H
        refine ls hF hW rfl (y_call (v := Value.bool x30) hF H6 rfl (fun w hW => L20_awake_c any w _ h23)) (fun a w hF hW => ?_)
        refine ls hF hW rfl ((y_assign hF rfl).q) (fun a w hF hW => ?_)
        refine ls_nil ?_
        refine c_then ?_
        refine wp_ret ?_
        have H := Option.some.inj H
        subst H
        refine post1 (.inl rfl) hF hW rfl (rv_tmp hF rfl) ?_
        exact ⟨rfl, hW.done⟩

end Go.Proofs.Ytkgajpmlehfcnaa
