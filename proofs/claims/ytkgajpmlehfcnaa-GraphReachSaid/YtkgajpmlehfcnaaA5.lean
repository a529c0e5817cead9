/- The functions of layer 20, lifted. Conditions: none. -/
import Derived.Test.YtkgajpmlehfcnaaA4
namespace Go.Proofs.Ytkgajpmlehfcnaa
open Go Go.RowKit
set_option linter.unusedVariables false
set_option linter.unusedSimpArgs false
set_option maxRecDepth 20000
set_option maxHeartbeats 1600000
theorem T41 : Ty Try.prog 41 true 2 := ⟨by kernel_rfl, by kernel_rfl⟩
theorem Z41 : (Try.prog.info? 41).bind (·.zero) = some (.agg #[.int .i64 0, .int .i64 0]) := by kernel_rfl
noncomputable def L20_GraphReach_l1 (x6 : List Int) (x9 : List Int) : Int → Option (Int ⊕ (Unit ⊕ Bool))
  | x10 => (if x10 < (x6.length : Int) then ((ix x6 x10).bind fun x12 => (L20_place x9 x12).bind fun x13 => (if x13 < 0 then some true else (if 0 < x10 then (ix x6 (w64 (x10 - 1))).bind fun x14 => (ix x6 x10).bind fun x15 => some (decide (x15 ≤ x14)) else some false))).bind fun x11 => (if x11 = true then some (.inr (.inr false)) else some (.inl (w64 (x10 + 1)))) else some (.inr (.inl ())))
noncomputable def L20_GraphReach_l2 (p1 : List (Int × Int)) (x6 : List Int) : Int → Option (Int ⊕ (Unit ⊕ Bool))
  | x16 => (if x16 < (p1.length : Int) then ((ix p1 x16).bind fun x18 => (L20_place x6 x18.1).bind fun x19 => (if 0 ≤ x19 then (ix p1 x16).bind fun x20 => (L20_place x6 x20.2).bind fun x21 => some (decide (x21 < 0)) else some false)).bind fun x17 => (if x17 = true then some (.inr (.inr false)) else some (.inl (w64 (x16 + 1)))) else some (.inr (.inl ())))
noncomputable def L20_GraphReach_l3 (x6 : List Int) (x29 : List Int) : Int → Option (Int ⊕ (Unit ⊕ Bool))
  | x30 => (if x30 < (x29.length : Int) then (ix x29 x30).bind fun x31 => (L20_place x6 x31).bind fun x32 => (if x32 < 0 then some (.inr (.inr false)) else some (.inl (w64 (x30 + 1)))) else some (.inr (.inl ())))
noncomputable def L20_GraphReach (p0 : Int) (p1 : List (Int × Int)) (p2 : Int) (p3 : Int) (p4 : Int × Int) : Option Bool := (if 60 < (p1.length : Int) then some true else (r20_Right p0 p1).bind fun x2 => (if (!x2) = true then some true else (if p2 < 0 then some true else (if p0 ≤ p2 then some true else (r20_Right p0 ([p4] : List (Int × Int))).bind fun x3 => some (!x3))))).bind fun x1 => (if x1 = true then (L20_awake).bind fun x4 => some x4 else (L20_mine p1).bind fun x5 => (graph_Reach p0 x5 p2).bind fun x6 => (L20_mine p1).bind fun x7 => (app x7 ([p4] : List (Int × Int))).bind fun x8 => (graph_Reach p0 x8 p2).bind fun x9 => orR (loopW (L20_GraphReach_l1 x6 x9) 0) fun _ => orR (loopW (L20_GraphReach_l2 p1 x6) 0) fun _ => ((L20_place x6 p2).bind fun x23 => (if x23 < 0 then some true else (L20_place x6 p3).bind fun x24 => some (decide (x24 < 0)))).bind fun x22 => (if x22 = true then ((L20_place x6 p2).bind fun x26 => (if 0 ≤ x26 then (L20_awake).bind fun x27 => some x27 else some false)).bind fun x25 => some x25 else (L20_mine p1).bind fun x28 => (graph_Reach p0 x28 p3).bind fun x29 => orR (loopW (L20_GraphReach_l3 x6 x29) 0) fun _ => (L20_awake).bind fun x33 => some x33))
theorem L20_GraphReach_c (Y : Nat → Prop) (w0 : World) (v1 : Value) (p0 : Int) (p1 : List (Int × Int)) (p2 : Int) (p3 : Int) (p4 : Int × Int) (r : Bool) (H : L20_GraphReach p0 p1 p2 p3 p4 = some r) (h_v1 : Sl w0 (NX []) R41 v1 p1) :
    Calls Try.prog 5 #[.int .i64 p0, v1, .int .i64 p2, .int .i64 p3, .agg #[.int .i64 p4.1, .int .i64 p4.2]] w0 fun e w' => e = .returned (.bool r) ∧ Below w0.heap.size w0 w' := by
  refine enter Try.func5 rfl Try.ntmps5 rfl (fun a hF => ?_)
  have hW := Stw.start Y w0
  unfold L20_GraphReach at H
  refine c_seq ?_
  refine reg_list ?_
  refine l_box (cs := [.int .i64 p4.1, .int .i64 p4.2]) hF hW rfl rfl rfl (fun b1 a w hF hW => ?_)
  refine ls hF hW rfl ((y_assign hF rfl).q) (fun a w hF hW => ?_)
  refine ls_nil ?_
  refine c_then ?_
  refine c_seq ?_
  obtain ⟨o1, G1, K1⟩ := bindE H
  refine c_seqJ (fun a w => ∃ x1 : Bool, some (x1) = some o1 ∧ Fr 149 [] [(0, .int .i64 p0), (1, v1), (2, .int .i64 p2), (3, .int .i64 p3), (9, .pointer (some ⟨b1, 0, none⟩)), (10, .bool false), (41, .bool x1)] a ∧ Stw ⟨Y, [], w0⟩ [(b1, [.int .i64 p4.1, .int .i64 p4.2])] [] w) ?_ ?_
  ·
    have H := G1
    clear G1 K1
    refine reg_list ?_
    refine ls hF hW rfl ((y_move hF rfl).q) (fun a w hF hW => ?_)
    refine ls hF hW rfl ((y_len (r := R41) (l := p1) Try.underlying22 rfl hF rfl (rdc_ro h_v1)).q) (fun a w hF hW => ?_)
    refine ls hF hW rfl ((y_gtr hF rfl rfl).q) (fun a w hF hW => ?_)
    refine ls hF hW rfl ((y_move hF rfl).q) (fun a w hF hW => ?_)
    rcases Bool.eq_false_or_eq_true (decide (60 < (p1.length : Int))) with hb | hb
    ·
      have H := iteT (of_decide_eq_true hb) H
      rw [hb] at hF
      clear hb
      refine ls_skip hF (wanted_n hF rfl rfl rfl rfl rfl) rfl rfl (fun a hF => ?_)
      refine ls_skip hF (wanted_n hF rfl rfl rfl rfl rfl) rfl rfl (fun a hF => ?_)
      refine ls_skip hF (wanted_n hF rfl rfl rfl rfl rfl) rfl rfl (fun a hF => ?_)
      refine ls_skip hF (wanted_n hF rfl rfl rfl rfl rfl) rfl rfl (fun a hF => ?_)
      refine ls hF hW rfl ((y_pick_t hF rfl rfl rfl).q) (fun a w hF hW => ?_)
      refine ls hF hW rfl ((y_move hF rfl).q) (fun a w hF hW => ?_)
      refine ls_skip hF (wanted_n hF rfl rfl rfl rfl rfl) rfl rfl (fun a hF => ?_)
      refine ls_skip hF (wanted_n hF rfl rfl rfl rfl rfl) rfl rfl (fun a hF => ?_)
      refine ls hF hW rfl ((y_pick_t hF rfl rfl rfl).q) (fun a w hF hW => ?_)
      refine ls hF hW rfl ((y_move hF rfl).q) (fun a w hF hW => ?_)
      refine ls_skip hF (wanted_n hF rfl rfl rfl rfl rfl) rfl rfl (fun a hF => ?_)
      refine ls_skip hF (wanted_n hF rfl rfl rfl rfl rfl) rfl rfl (fun a hF => ?_)
      refine ls_skip hF (wanted_n hF rfl rfl rfl rfl rfl) rfl rfl (fun a hF => ?_)
      refine ls hF hW rfl ((y_pick_t hF rfl rfl rfl).q) (fun a w hF hW => ?_)
      refine ls hF hW rfl ((y_move hF rfl).q) (fun a w hF hW => ?_)
      refine ls_skip hF (wanted_n hF rfl rfl rfl rfl rfl) rfl rfl (fun a hF => ?_)
      refine ls_skip hF (wanted_n hF rfl rfl rfl rfl rfl) rfl rfl (fun a hF => ?_)
      refine ls_skip hF (wanted_n hF rfl rfl rfl rfl rfl) rfl rfl (fun a hF => ?_)
      refine ls_skip hF (wanted_n hF rfl rfl rfl rfl rfl) rfl rfl (fun a hF => ?_)
      refine ls_skip hF (wanted_n hF rfl rfl rfl rfl rfl) rfl rfl (fun a hF => ?_)
      refine ls hF hW rfl ((y_pick_t hF rfl rfl rfl).q) (fun a w hF hW => ?_)
      refine ls_nil ?_
      refine c_then ?_
      exact ⟨_, H, hF.re ⟨rfl, rfl, rfl, rfl, rfl, rfl, rfl, trivial⟩, hW⟩
    ·
      have H := iteF (of_decide_eq_false hb) H
      rw [hb] at hF
      clear hb
      refine ls_w hF hW (wanted_y hF rfl rfl rfl rfl) rfl (Nat.le_of_ble_eq_true rfl) ((y_move hF rfl).q) (fun a w hF hW => ?_)
      refine ls_w hF hW (wanted_y hF rfl rfl rfl rfl) rfl (Nat.le_of_ble_eq_true rfl) ((y_move hF rfl).q) (fun a w hF hW => ?_)
      refine ls_g (wanted_y hF rfl rfl rfl rfl) ?_
      obtain ⟨x2, h1, H⟩ := bindE H
      refine ls hF hW rfl (y_call (v := Value.bool x2) hF H11 rfl (fun w hW => r20_Right_c any w (v1) p0 p1 _ h1 (((rdc_ro h_v1) : Rdc _ _ _ _ _ _) w hW).nx)) (fun a w hF hW => ?_)
      refine ls_w hF hW (wanted_y hF rfl rfl rfl rfl) rfl (Nat.le_of_ble_eq_true rfl) ((y_not hF rfl).q) (fun a w hF hW => ?_)
      refine ls hF hW rfl ((y_pick_f hF rfl rfl rfl).q) (fun a w hF hW => ?_)
      refine ls hF hW rfl ((y_move hF rfl).q) (fun a w hF hW => ?_)
      rcases Bool.eq_false_or_eq_true (!x2) with hb | hb
      ·
        have H := iteT hb H
        rw [hb] at hF
        clear hb
        refine ls_skip hF (wanted_n hF rfl rfl rfl rfl rfl) rfl rfl (fun a hF => ?_)
        refine ls_skip hF (wanted_n hF rfl rfl rfl rfl rfl) rfl rfl (fun a hF => ?_)
        refine ls hF hW rfl ((y_pick_t hF rfl rfl rfl).q) (fun a w hF hW => ?_)
        refine ls hF hW rfl ((y_move hF rfl).q) (fun a w hF hW => ?_)
        refine ls_skip hF (wanted_n hF rfl rfl rfl rfl rfl) rfl rfl (fun a hF => ?_)
        refine ls_skip hF (wanted_n hF rfl rfl rfl rfl rfl) rfl rfl (fun a hF => ?_)
        refine ls_skip hF (wanted_n hF rfl rfl rfl rfl rfl) rfl rfl (fun a hF => ?_)
        refine ls hF hW rfl ((y_pick_t hF rfl rfl rfl).q) (fun a w hF hW => ?_)
        refine ls hF hW rfl ((y_move hF rfl).q) (fun a w hF hW => ?_)
        refine ls_skip hF (wanted_n hF rfl rfl rfl rfl rfl) rfl rfl (fun a hF => ?_)
        refine ls_skip hF (wanted_n hF rfl rfl rfl rfl rfl) rfl rfl (fun a hF => ?_)
        refine ls_skip hF (wanted_n hF rfl rfl rfl rfl rfl) rfl rfl (fun a hF => ?_)
        refine ls_skip hF (wanted_n hF rfl rfl rfl rfl rfl) rfl rfl (fun a hF => ?_)
        refine ls_skip hF (wanted_n hF rfl rfl rfl rfl rfl) rfl rfl (fun a hF => ?_)
        refine ls hF hW rfl ((y_pick_t hF rfl rfl rfl).q) (fun a w hF hW => ?_)
        refine ls_nil ?_
        refine c_then ?_
        exact ⟨_, H, hF.re ⟨rfl, rfl, rfl, rfl, rfl, rfl, rfl, trivial⟩, hW⟩
      ·
        have H := iteF (by rw [hb]; decide) H
        rw [hb] at hF
        clear hb
        refine ls_w hF hW (wanted_y hF rfl rfl rfl rfl) rfl (Nat.le_of_ble_eq_true rfl) ((y_move hF rfl).q) (fun a w hF hW => ?_)
        refine ls_w hF hW (wanted_y hF rfl rfl rfl rfl) rfl (Nat.le_of_ble_eq_true rfl) ((y_lss hF rfl rfl).q) (fun a w hF hW => ?_)
        refine ls hF hW rfl ((y_pick_f hF rfl rfl rfl).q) (fun a w hF hW => ?_)
        refine ls hF hW rfl ((y_move hF rfl).q) (fun a w hF hW => ?_)
        rcases Bool.eq_false_or_eq_true (decide (p2 < 0)) with hb | hb
        ·
          have H := iteT (of_decide_eq_true hb) H
          rw [hb] at hF
          clear hb
          refine ls_skip hF (wanted_n hF rfl rfl rfl rfl rfl) rfl rfl (fun a hF => ?_)
          refine ls_skip hF (wanted_n hF rfl rfl rfl rfl rfl) rfl rfl (fun a hF => ?_)
          refine ls_skip hF (wanted_n hF rfl rfl rfl rfl rfl) rfl rfl (fun a hF => ?_)
          refine ls hF hW rfl ((y_pick_t hF rfl rfl rfl).q) (fun a w hF hW => ?_)
          refine ls hF hW rfl ((y_move hF rfl).q) (fun a w hF hW => ?_)
          refine ls_skip hF (wanted_n hF rfl rfl rfl rfl rfl) rfl rfl (fun a hF => ?_)
          refine ls_skip hF (wanted_n hF rfl rfl rfl rfl rfl) rfl rfl (fun a hF => ?_)
          refine ls_skip hF (wanted_n hF rfl rfl rfl rfl rfl) rfl rfl (fun a hF => ?_)
          refine ls_skip hF (wanted_n hF rfl rfl rfl rfl rfl) rfl rfl (fun a hF => ?_)
          refine ls_skip hF (wanted_n hF rfl rfl rfl rfl rfl) rfl rfl (fun a hF => ?_)
          refine ls hF hW rfl ((y_pick_t hF rfl rfl rfl).q) (fun a w hF hW => ?_)
          refine ls_nil ?_
          refine c_then ?_
          exact ⟨_, H, hF.re ⟨rfl, rfl, rfl, rfl, rfl, rfl, rfl, trivial⟩, hW⟩
        ·
          have H := iteF (of_decide_eq_false hb) H
          rw [hb] at hF
          clear hb
          refine ls_w hF hW (wanted_y hF rfl rfl rfl rfl) rfl (Nat.le_of_ble_eq_true rfl) ((y_move hF rfl).q) (fun a w hF hW => ?_)
          refine ls_w hF hW (wanted_y hF rfl rfl rfl rfl) rfl (Nat.le_of_ble_eq_true rfl) ((y_move hF rfl).q) (fun a w hF hW => ?_)
          refine ls_w hF hW (wanted_y hF rfl rfl rfl rfl) rfl (Nat.le_of_ble_eq_true rfl) ((y_geq hF rfl rfl).q) (fun a w hF hW => ?_)
          refine ls hF hW rfl ((y_pick_f hF rfl rfl rfl).q) (fun a w hF hW => ?_)
          refine ls hF hW rfl ((y_move hF rfl).q) (fun a w hF hW => ?_)
          rcases Bool.eq_false_or_eq_true (decide (p0 ≤ p2)) with hb | hb
          ·
            have H := iteT (of_decide_eq_true hb) H
            rw [hb] at hF
            clear hb
            refine ls_skip hF (wanted_n hF rfl rfl rfl rfl rfl) rfl rfl (fun a hF => ?_)
            refine ls_skip hF (wanted_n hF rfl rfl rfl rfl rfl) rfl rfl (fun a hF => ?_)
            refine ls_skip hF (wanted_n hF rfl rfl rfl rfl rfl) rfl rfl (fun a hF => ?_)
            refine ls_skip hF (wanted_n hF rfl rfl rfl rfl rfl) rfl rfl (fun a hF => ?_)
            refine ls_skip hF (wanted_n hF rfl rfl rfl rfl rfl) rfl rfl (fun a hF => ?_)
            refine ls hF hW rfl ((y_pick_t hF rfl rfl rfl).q) (fun a w hF hW => ?_)
            refine ls_nil ?_
            refine c_then ?_
            exact ⟨_, H, hF.re ⟨rfl, rfl, rfl, rfl, rfl, rfl, rfl, trivial⟩, hW⟩
          ·
            have H := iteF (of_decide_eq_false hb) H
            rw [hb] at hF
            clear hb
            refine ls_w hF hW (wanted_y hF rfl rfl rfl rfl) rfl (Nat.le_of_ble_eq_true rfl) ((y_move hF rfl).q) (fun a w hF hW => ?_)
            refine ls_w hF hW (wanted_y hF rfl rfl rfl rfl) rfl (Nat.le_of_ble_eq_true rfl) ((y_load (v := Value.agg #[.int .i64 p4.1, .int .i64 p4.2]) 0 hF rfl rfl T41 rfl).q) (fun a w hF hW => ?_)
            refine ls_g (wanted_y hF rfl rfl rfl rfl) ?_
            refine l_lit (z := Value.agg #[.int .i64 0, .int .i64 0]) (cs := [.int .i64 p4.1, .int .i64 p4.2]) R41 ([p4] : List (Int × Int)) hF hW rfl L22 Z41 rfl rfl rfl rfl rfl rfl (F41.repL _ _ ([p4] : List (Int × Int))) (fun v2 a w hF hW => ?_)
            refine ls_g (wanted_y hF rfl rfl rfl rfl) ?_
            obtain ⟨x3, h2, H⟩ := bindE H
            refine ls hF hW rfl (y_call (v := Value.bool x3) hF H11 rfl (fun w hW => r20_Right_c any w (v2) p0 ([p4] : List (Int × Int)) _ h2 (((rdc_row 0 rfl) : Rdc _ _ _ _ _ _) w hW).nx)) (fun a w hF hW => ?_)
            refine ls_w hF hW (wanted_y hF rfl rfl rfl rfl) rfl (Nat.le_of_ble_eq_true rfl) ((y_not hF rfl).q) (fun a w hF hW => ?_)
            refine ls hF hW rfl ((y_pick_f hF rfl rfl rfl).q) (fun a w hF hW => ?_)
            refine ls_nil ?_
            refine c_then ?_
            have hW := hW.sub (M' := [(b1, [.int .i64 p4.1, .int .i64 p4.2])]) (Z' := []) (List.Sublist.refl _) (List.nil_sublist _)
            exact ⟨_, H, hF.re ⟨rfl, rfl, rfl, rfl, rfl, rfl, rfl, trivial⟩, hW⟩
  rintro a w ⟨x1, hj, hF, hW⟩
  have hj := Option.some.inj hj
  subst hj
  have H := K1
  clear G1 K1
  refine c_cond hF rfl (fun hb => ?_) (fun hb => ?_)
  ·
    have H := iteT hb H
    rw [hb] at hF
    clear hb
    refine c_seq ?_
    refine reg_list ?_
    obtain ⟨x4, h3, H⟩ := bindE H
    refine ls hF hW rfl (y_call (v := Value.bool x4) hF H6 rfl (fun w hW => L20_awake_c any w _ h3)) (fun a w hF hW => ?_)
    refine ls hF hW rfl ((y_assign hF rfl).q) (fun a w hF hW => ?_)
    refine ls_nil ?_
    refine c_then ?_
    refine wp_ret ?_
    refine r_then ?_
    have H := Option.some.inj H
    subst H
    refine post1 (.inl rfl) hF hW rfl (rv_tmp hF rfl) ?_
    exact ⟨rfl, hW.done⟩
  ·
    have H := iteF (by rw [hb]; decide) H
    rw [hb] at hF
    clear hb
    refine wp_skip ?_
    refine c_then ?_
    refine c_seq ?_
    refine reg_list ?_
    refine ls hF hW rfl ((y_move hF rfl).q) (fun a w hF hW => ?_)
    refine ls hF hW rfl ((y_move hF rfl).q) (fun a w hF hW => ?_)
    obtain ⟨x5, h4, H⟩ := bindE H
    refine l_callG (Ml := []) (Zl := []) (M := [(b1, [.int .i64 p4.1, .int .i64 p4.2])]) (Z := []) (β := Value) (rv := fun x => x) (MM := fun x => []) (ZZ := fun x => [row x 42 R42 x5]) hF hW H7 rfl rfl (fun hL => L20_mine_c _ w (v1) p1 _ h4 ((rdc_ro h_v1) w hW).nx) (fun x a w hF hW => ?_)
    obtain ⟨v3, rfl⟩ : ∃ y, y = x := ⟨x, rfl⟩
    have hW : Stw ⟨Y, [], w0⟩ [(b1, [.int .i64 p4.1, .int .i64 p4.2])] [row v3 42 R42 x5] w := hW
    refine ls hF hW rfl ((y_move hF rfl).q) (fun a w hF hW => ?_)
    obtain ⟨x6, h5, H⟩ := bindE H
    refine l_callG (Ml := []) (Zl := []) (M := [(b1, [.int .i64 p4.1, .int .i64 p4.2])]) (Z := [row v3 42 R42 x5]) (β := Value) (rv := fun x => x) (MM := fun x => []) (ZZ := fun x => [row x 3 (Rp.int .i64) x6]) hF hW H13 rfl rfl (fun hL => graph_Reach_c _ w (v3) p0 x5 p2 _ h5 ((rdc_row 0 rfl) w hW).nx) (fun x a w hF hW => ?_)
    obtain ⟨v4, rfl⟩ : ∃ y, y = x := ⟨x, rfl⟩
    have hW : Stw ⟨Y, [], w0⟩ [(b1, [.int .i64 p4.1, .int .i64 p4.2])] [row v4 3 (Rp.int .i64) x6, row v3 42 R42 x5] w := hW
    refine ls hF hW rfl ((y_assign hF rfl).q) (fun a w hF hW => ?_)
    refine ls_nil ?_
    refine c_then ?_
    refine c_seq ?_
    obtain ⟨x7, h6, H⟩ := bindE H
    obtain ⟨x8, h7, H⟩ := bindE H
    obtain ⟨x9, h8, H⟩ := bindE H
    refine wp_oneQ (fun a w => ∃ v5 : Value, ∃ v6 : Value, ∃ v7 : Value, ∃ v8 : Value, Fr 149 [] [(0, .int .i64 p0), (1, v1), (2, .int .i64 p2), (3, .int .i64 p3), (9, .pointer (some ⟨b1, 0, none⟩)), (10, .bool false), (11, v4), (12, v8), (41, .bool false), (43, .int .i64 p0), (44, v1), (45, v3), (46, .int .i64 p2), (47, v4), (48, .int .i64 p0), (49, v1), (50, v5), (51, .pointer (some ⟨b1, 0, none⟩)), (52, .int .i64 p4.1), (53, .pointer (some ⟨b1, 1, none⟩)), (54, .int .i64 p4.2), (55, .agg #[.int .i64 p4.1, .int .i64 p4.2]), (56, v6), (57, v7), (58, .int .i64 p2), (59, v8)] a ∧ Stw ⟨Y, [], w0⟩ [(b1, [.int .i64 p4.1, .int .i64 p4.2])] [row v8 3 (Rp.int .i64) x9, row v7 42 R42 x8, row v6 42 R42 ([p4] : List (Int × Int)), row v4 3 (Rp.int .i64) x6, row v3 42 R42 x5] w) ?_ ?_
    ·
      refine reg_tree (PT.st 0 (PT.st 1 (PT.st 3 (PT.st 4 (PT.st 5 (PT.st 6 (PT.st 7 (PT.st 10 (PT.alt 2 (PT.alt 8 (PT.alt 9 (PT.alt 11 (PT.alt 12 PT.done PT.stop) PT.stop) PT.stop) PT.stop) (PT.alt 8 (PT.alt 2 (PT.alt 9 (PT.alt 11 (PT.alt 12 PT.done PT.stop) PT.stop) PT.stop) PT.stop) PT.stop)))))))))) (CN ⟨Y, [], w0⟩ [(some 12, b1, [.int .i64 p4.1, .int .i64 p4.2])] []) (fun ch a d v w h => by cases d <;> exact h) MO (by kernel_rfl) hW (fun w hW => ⟨_, _, hW, (all_cons (fun _ => (.head _)) all_nil), all_nil⟩) (fun w hW => ?_)
      refine pt_t (R := []) hF rfl rfl (yC fun M Z hN hZ => y_move hF rfl) rfl rfl (fun a hF => ?_)
      refine pt_t (R := []) hF rfl rfl (yC fun M Z hN hZ => y_move hF rfl) rfl rfl (fun a hF => ?_)
      refine pt_t (R := []) hF rfl rfl (yC fun M Z hN hZ => y_fieldAddr Try.underlying41 rfl rfl rfl T3 hF rfl 0 rfl) rfl rfl (fun a hF => ?_)
      refine pt_t (R := [12]) hF rfl rfl (yC fun M Z hN hZ => y_load_m (cs := [.int .i64 p4.1, .int .i64 p4.2]) (v := Value.int .i64 p4.1) hF rfl (hN ((some 12), b1, [.int .i64 p4.1, .int .i64 p4.2]) (.head _) rfl) T3 rfl) (by kernel_rfl) rfl (fun a hF => ?_)
      refine pt_t (R := []) hF rfl rfl (yC fun M Z hN hZ => y_fieldAddr Try.underlying41 rfl rfl rfl T3 hF rfl 1 rfl) rfl rfl (fun a hF => ?_)
      refine pt_t (R := [12]) hF rfl rfl (yC fun M Z hN hZ => y_load_m (cs := [.int .i64 p4.1, .int .i64 p4.2]) (v := Value.int .i64 p4.2) hF rfl (hN ((some 12), b1, [.int .i64 p4.1, .int .i64 p4.2]) (.head _) rfl) T3 rfl) (by kernel_rfl) rfl (fun a hF => ?_)
      refine pt_t (R := []) hF rfl rfl (yC fun M Z hN hZ => y_build (v := Value.agg #[.int .i64 p4.1, .int .i64 p4.2]) B42 hF rfl rfl rfl) rfl rfl (fun a hF => ?_)
      refine pt_t (R := []) hF rfl rfl (yC fun M Z hN hZ => y_move hF rfl) rfl rfl (fun a hF => ?_)
      refine pt_f rfl ?_ ?_
      ·
        refine l_callG (Ml := []) (Zl := []) (M := [(b1, [.int .i64 p4.1, .int .i64 p4.2])]) (Z := [row v4 3 (Rp.int .i64) x6, row v3 42 R42 x5]) (β := Value) (rv := fun x => x) (MM := fun x => []) (ZZ := fun x => [row x 42 R42 x7]) hF hW H7 rfl rfl (fun hL => L20_mine_c _ w (v1) p1 _ h6 ((rdc_ro h_v1) w hW).nx) (fun x a w hF hW => ?_)
        obtain ⟨v5, rfl⟩ : ∃ y, y = x := ⟨x, rfl⟩
        have hW : Stw ⟨Y, [], w0⟩ [(b1, [.int .i64 p4.1, .int .i64 p4.2])] [row v5 42 R42 x7, row v4 3 (Rp.int .i64) x6, row v3 42 R42 x5] w := hW
        refine pt_next (N2 := []) (NZ2 := []) (N3 := [(some 12, b1, [.int .i64 p4.1, .int .i64 p4.2])]) (NZ3 := []) hW rfl rfl (all_cons (fun _ => (.head _)) all_nil) all_nil ?_
        refine pt_f1 rfl ?_
        refine l_lit (z := Value.agg #[.int .i64 0, .int .i64 0]) (cs := [.int .i64 p4.1, .int .i64 p4.2]) R42 ([p4] : List (Int × Int)) hF hW rfl L24 Z42 rfl rfl rfl rfl rfl rfl (F42.repL _ _ ([p4] : List (Int × Int))) (fun v6 a w hF hW => ?_)
        refine pt_next (N2 := []) (NZ2 := []) (N3 := [(some 12, b1, [.int .i64 p4.1, .int .i64 p4.2])]) (NZ3 := []) hW rfl rfl (all_cons (fun _ => (.head _)) all_nil) all_nil ?_
        refine pt_f1 rfl ?_
        refine l_append (r := R42) (i := 1) hF hW rfl L24 rfl rfl rfl rfl (src_row hW 0 rfl) h7 rfl (fun v7 a w hF hW => ?_)
        have hW : Stw ⟨Y, [], w0⟩ [(b1, [.int .i64 p4.1, .int .i64 p4.2])] [row v7 42 R42 x8, row v6 42 R42 ([p4] : List (Int × Int)), row v4 3 (Rp.int .i64) x6, row v3 42 R42 x5] w := hW
        refine pt_next (N2 := []) (NZ2 := []) (N3 := [(some 12, b1, [.int .i64 p4.1, .int .i64 p4.2])]) (NZ3 := []) hW rfl rfl (all_cons (fun _ => (.head _)) all_nil) all_nil ?_
        refine pt_f1 rfl ?_
        refine l_callG (Ml := []) (Zl := []) (M := [(b1, [.int .i64 p4.1, .int .i64 p4.2])]) (Z := [row v7 42 R42 x8, row v6 42 R42 ([p4] : List (Int × Int)), row v4 3 (Rp.int .i64) x6, row v3 42 R42 x5]) (β := Value) (rv := fun x => x) (MM := fun x => []) (ZZ := fun x => [row x 3 (Rp.int .i64) x9]) hF hW H13 rfl rfl (fun hL => graph_Reach_c _ w (v7) p0 x8 p2 _ h8 ((rdc_row 0 rfl) w hW).nx) (fun x a w hF hW => ?_)
        obtain ⟨v8, rfl⟩ : ∃ y, y = x := ⟨x, rfl⟩
        have hW : Stw ⟨Y, [], w0⟩ [(b1, [.int .i64 p4.1, .int .i64 p4.2])] [row v8 3 (Rp.int .i64) x9, row v7 42 R42 x8, row v6 42 R42 ([p4] : List (Int × Int)), row v4 3 (Rp.int .i64) x6, row v3 42 R42 x5] w := hW
        refine pt_next (N2 := []) (NZ2 := []) (N3 := [(some 12, b1, [.int .i64 p4.1, .int .i64 p4.2])]) (NZ3 := []) hW rfl rfl (all_cons (fun _ => (.head _)) all_nil) all_nil ?_
        refine pt_f1 rfl ?_
        refine ls hF hW rfl ((y_assign hF rfl).q) (fun a w hF hW => ?_)
        refine pt_next (N2 := []) (NZ2 := []) (N3 := [(some 12, b1, [.int .i64 p4.1, .int .i64 p4.2])]) (NZ3 := []) hW rfl rfl (all_cons (fun h => rel_dead (by kernel_rfl) h) all_nil) all_nil ?_
        have hW := hW.frontZ (i := 4) rfl rfl
        have hW := hW.frontZ (i := 4) rfl rfl
        have hW := hW.frontZ (i := 4) rfl rfl
        have hW := hW.frontZ (i := 4) rfl rfl
        have hW := hW.frontZ (i := 4) rfl rfl
        refine pt_end ?_
        exact ⟨v5, v6, v7, v8, hF.re ⟨rfl, rfl, rfl, rfl, rfl, rfl, rfl, rfl, rfl, rfl, rfl, rfl, rfl, rfl, rfl, rfl, rfl, rfl, rfl, rfl, rfl, rfl, rfl, rfl, rfl, rfl, trivial⟩, hW⟩
      refine pt_f rfl ?_ ?_
      ·
        refine l_lit (z := Value.agg #[.int .i64 0, .int .i64 0]) (cs := [.int .i64 p4.1, .int .i64 p4.2]) R42 ([p4] : List (Int × Int)) hF hW rfl L24 Z42 rfl rfl rfl rfl rfl rfl (F42.repL _ _ ([p4] : List (Int × Int))) (fun v6 a w hF hW => ?_)
        refine pt_next (N2 := []) (NZ2 := []) (N3 := [(some 12, b1, [.int .i64 p4.1, .int .i64 p4.2])]) (NZ3 := []) hW rfl rfl (all_cons (fun _ => (.head _)) all_nil) all_nil ?_
        refine pt_f1 rfl ?_
        refine l_callG (Ml := []) (Zl := []) (M := [(b1, [.int .i64 p4.1, .int .i64 p4.2])]) (Z := [row v6 42 R42 ([p4] : List (Int × Int)), row v4 3 (Rp.int .i64) x6, row v3 42 R42 x5]) (β := Value) (rv := fun x => x) (MM := fun x => []) (ZZ := fun x => [row x 42 R42 x7]) hF hW H7 rfl rfl (fun hL => L20_mine_c _ w (v1) p1 _ h6 ((rdc_ro h_v1) w hW).nx) (fun x a w hF hW => ?_)
        obtain ⟨v5, rfl⟩ : ∃ y, y = x := ⟨x, rfl⟩
        have hW : Stw ⟨Y, [], w0⟩ [(b1, [.int .i64 p4.1, .int .i64 p4.2])] [row v5 42 R42 x7, row v6 42 R42 ([p4] : List (Int × Int)), row v4 3 (Rp.int .i64) x6, row v3 42 R42 x5] w := hW
        refine pt_next (N2 := []) (NZ2 := []) (N3 := [(some 12, b1, [.int .i64 p4.1, .int .i64 p4.2])]) (NZ3 := []) hW rfl rfl (all_cons (fun _ => (.head _)) all_nil) all_nil ?_
        refine pt_f1 rfl ?_
        refine l_append (r := R42) (i := 0) hF hW rfl L24 rfl rfl rfl rfl (src_row hW 1 rfl) h7 rfl (fun v7 a w hF hW => ?_)
        have hW : Stw ⟨Y, [], w0⟩ [(b1, [.int .i64 p4.1, .int .i64 p4.2])] [row v7 42 R42 x8, row v6 42 R42 ([p4] : List (Int × Int)), row v4 3 (Rp.int .i64) x6, row v3 42 R42 x5] w := hW
        refine pt_next (N2 := []) (NZ2 := []) (N3 := [(some 12, b1, [.int .i64 p4.1, .int .i64 p4.2])]) (NZ3 := []) hW rfl rfl (all_cons (fun _ => (.head _)) all_nil) all_nil ?_
        refine pt_f1 rfl ?_
        refine l_callG (Ml := []) (Zl := []) (M := [(b1, [.int .i64 p4.1, .int .i64 p4.2])]) (Z := [row v7 42 R42 x8, row v6 42 R42 ([p4] : List (Int × Int)), row v4 3 (Rp.int .i64) x6, row v3 42 R42 x5]) (β := Value) (rv := fun x => x) (MM := fun x => []) (ZZ := fun x => [row x 3 (Rp.int .i64) x9]) hF hW H13 rfl rfl (fun hL => graph_Reach_c _ w (v7) p0 x8 p2 _ h8 ((rdc_row 0 rfl) w hW).nx) (fun x a w hF hW => ?_)
        obtain ⟨v8, rfl⟩ : ∃ y, y = x := ⟨x, rfl⟩
        have hW : Stw ⟨Y, [], w0⟩ [(b1, [.int .i64 p4.1, .int .i64 p4.2])] [row v8 3 (Rp.int .i64) x9, row v7 42 R42 x8, row v6 42 R42 ([p4] : List (Int × Int)), row v4 3 (Rp.int .i64) x6, row v3 42 R42 x5] w := hW
        refine pt_next (N2 := []) (NZ2 := []) (N3 := [(some 12, b1, [.int .i64 p4.1, .int .i64 p4.2])]) (NZ3 := []) hW rfl rfl (all_cons (fun _ => (.head _)) all_nil) all_nil ?_
        refine pt_f1 rfl ?_
        refine ls hF hW rfl ((y_assign hF rfl).q) (fun a w hF hW => ?_)
        refine pt_next (N2 := []) (NZ2 := []) (N3 := [(some 12, b1, [.int .i64 p4.1, .int .i64 p4.2])]) (NZ3 := []) hW rfl rfl (all_cons (fun h => rel_dead (by kernel_rfl) h) all_nil) all_nil ?_
        have hW := hW.frontZ (i := 4) rfl rfl
        have hW := hW.frontZ (i := 4) rfl rfl
        have hW := hW.frontZ (i := 4) rfl rfl
        have hW := hW.frontZ (i := 4) rfl rfl
        have hW := hW.frontZ (i := 4) rfl rfl
        refine pt_end ?_
        exact ⟨v5, v6, v7, v8, hF.re ⟨rfl, rfl, rfl, rfl, rfl, rfl, rfl, rfl, rfl, rfl, rfl, rfl, rfl, rfl, rfl, rfl, rfl, rfl, rfl, rfl, rfl, rfl, rfl, rfl, rfl, rfl, trivial⟩, hW⟩
      exact trivial
    rintro a w ⟨v5, v6, v7, v8, hF, hW⟩
    refine c_then ?_
    obtain ⟨o2, G2, K2, L2⟩ := orE H
    refine c_seqJ (fun a w => some (Sum.inl ()) = some o2 ∧ Fr 149 [] [(0, .int .i64 p0), (1, v1), (2, .int .i64 p2), (3, .int .i64 p3), (10, .bool false), (11, v4)] a ∧ Stw ⟨Y, [], w0⟩ [(b1, [.int .i64 p4.1, .int .i64 p4.2])] [row v4 3 (Rp.int .i64) x6] w) ?_ ?_
    ·
      have H := G2
      clear G2 K2
      refine c_seq ?_
      refine reg_list ?_
      refine ls hF hW rfl ((y_assign hF rfl).q) (fun a w hF hW => ?_)
      refine ls_nil ?_
      refine c_then ?_
      refine wp_block ?_
      have hW := hW.frontZ (i := 3) rfl rfl
      have hW := hW.sub (M' := [(b1, [.int .i64 p4.1, .int .i64 p4.2])]) (Z' := [row v4 3 (Rp.int .i64) x6, row v8 3 (Rp.int .i64) x9]) (List.Sublist.refl _) (List.Sublist.cons_cons _ (List.Sublist.cons_cons _ (List.nil_sublist _)))
      refine c_loopW H (fun s a w => Fr 149 [] [(0, .int .i64 p0), (1, v1), (2, .int .i64 p2), (3, .int .i64 p3), (10, .bool false), (11, v4), (12, v8), (13, .int .i64 s)] a ∧ Stw ⟨Y, [], w0⟩ [(b1, [.int .i64 p4.1, .int .i64 p4.2])] [row v4 3 (Rp.int .i64) x6, row v8 3 (Rp.int .i64) x9] w) ⟨hF.re ⟨rfl, rfl, rfl, rfl, rfl, rfl, rfl, rfl, trivial⟩, hW⟩ (fun s o a w H L3 hR => ?_)
      obtain ⟨x10, rfl⟩ : ∃ x, x = s := ⟨s, rfl⟩
      obtain ⟨hF, hW⟩ := hR
      have hF : Fr 149 [] [(0, .int .i64 p0), (1, v1), (2, .int .i64 p2), (3, .int .i64 p3), (10, .bool false), (11, v4), (12, v8), (13, .int .i64 x10)] a := hF
      have hW : Stw ⟨Y, [], w0⟩ [(b1, [.int .i64 p4.1, .int .i64 p4.2])] [row v4 3 (Rp.int .i64) x6, row v8 3 (Rp.int .i64) x9] w := hW
      rw [L20_GraphReach_l1] at H
      refine c_seq ?_
      refine c_seq ?_
      refine reg_list ?_
      refine ls hF hW rfl ((y_move hF rfl).q) (fun a w hF hW => ?_)
      refine ls hF hW rfl ((y_move hF rfl).q) (fun a w hF hW => ?_)
      refine ls hF hW rfl ((y_len (r := (Rp.int .i64)) (l := x6) Try.underlying26 rfl hF rfl (rdc_row 0 rfl)).q) (fun a w hF hW => ?_)
      refine ls hF hW rfl ((y_lss hF rfl rfl).q) (fun a w hF hW => ?_)
      refine ls_nil ?_
      refine c_then ?_
      refine c_cond hF rfl (fun hb => ?_) (fun hb => ?_)
      ·
        have H := iteT (of_decide_eq_true hb) H
        rw [hb] at hF
        clear hb
        refine wp_skip ?_
        refine c_then ?_
        refine c_seq ?_
        refine wp_block ?_
        obtain ⟨o4, G4, K4⟩ := bindE H
        refine c_seqJ (fun a w => ∃ x11 : Bool, some (x11) = some o4 ∧ Fr 149 [] [(0, .int .i64 p0), (1, v1), (2, .int .i64 p2), (3, .int .i64 p3), (10, .bool false), (11, v4), (12, v8), (13, .int .i64 x10), (88, .bool x11)] a ∧ Stw ⟨Y, [], w0⟩ [(b1, [.int .i64 p4.1, .int .i64 p4.2])] [row v4 3 (Rp.int .i64) x6, row v8 3 (Rp.int .i64) x9] w) ?_ ?_
        ·
          have H := G4
          clear G4 K4
          refine reg_quiet hW MO (by kernel_rfl) ?_
          refine qs hF rfl ((y_move hF rfl).q) (fun a hF => ?_)
          refine qs hF rfl ((y_move hF rfl).q) (fun a hF => ?_)
          refine qs hF rfl ((y_move hF rfl).q) (fun a hF => ?_)
          obtain ⟨x12, h9, H⟩ := bindE H
          refine qs hF rfl ((y_index (r := (Rp.int .i64)) L26 hF rfl rfl (rdc_row 0 rfl) h9).q) (fun a hF => ?_)
          refine qs hF rfl ((y_load_el (y := Value.int .i64 x12) (j := 0) (i := x10) hF rfl rfl (rdc_row 0 rfl) h9 Fl.int.to T3 rfl).q) (fun a hF => ?_)
          obtain ⟨x13, h10, H⟩ := bindE H
          refine qs hF rfl (y_call (v := Value.int .i64 x13) hF H20 rfl (fun w hW => L20_place_c any w (v8) x9 x12 _ h10 (((rdc_row 1 rfl) : Rdc _ _ _ _ _ _) w hW).nx)) (fun a hF => ?_)
          refine qs hF rfl ((y_lss hF rfl rfl).q) (fun a hF => ?_)
          refine qs hF rfl ((y_move hF rfl).q) (fun a hF => ?_)
          rcases Bool.eq_false_or_eq_true (decide (x13 < 0)) with hb | hb
          ·
            have H := iteT (of_decide_eq_true hb) H
            rw [hb] at hF
            clear hb
            refine qs_skip hF (wanted_n hF rfl rfl rfl rfl rfl) rfl rfl (fun a hF => ?_)
            refine qs_skip hF (wanted_n hF rfl rfl rfl rfl rfl) rfl rfl (fun a hF => ?_)
            refine qs_skip hF (wanted_n hF rfl rfl rfl rfl rfl) rfl rfl (fun a hF => ?_)
            refine qs_skip hF (wanted_undef hF rfl rfl rfl rfl) rfl rfl (fun a hF => ?_)
            refine qs_skip hF (wanted_undef hF rfl rfl rfl rfl) rfl rfl (fun a hF => ?_)
            refine qs_skip hF (wanted_undef hF rfl rfl rfl rfl) rfl rfl (fun a hF => ?_)
            refine qs_skip hF (wanted_undef hF rfl rfl rfl rfl) rfl rfl (fun a hF => ?_)
            refine qs_skip hF (wanted_undef hF rfl rfl rfl rfl) rfl rfl (fun a hF => ?_)
            refine qs_skip hF (wanted_undef hF rfl rfl rfl rfl) rfl rfl (fun a hF => ?_)
            refine qs_skip hF (wanted_undef hF rfl rfl rfl rfl) rfl rfl (fun a hF => ?_)
            refine qs_skip hF (wanted_undef hF rfl rfl rfl rfl) rfl rfl (fun a hF => ?_)
            refine qs_skip hF (wanted_undef hF rfl rfl rfl rfl) rfl rfl (fun a hF => ?_)
            refine qs_skip hF (wanted_undef hF rfl rfl rfl rfl) rfl rfl (fun a hF => ?_)
            refine qs_skip hF (wanted_n hF rfl rfl rfl rfl rfl) rfl rfl (fun a hF => ?_)
            refine qs hF rfl ((y_pick_t hF rfl rfl rfl).q) (fun a hF => ?_)
            refine quiet_end (fun w hW => ?_)
            refine c_then ?_
            have hW := hW.frontZ (i := 1) rfl rfl
            have hW := hW.frontZ (i := 1) rfl rfl
            exact ⟨_, H, hF.re ⟨rfl, rfl, rfl, rfl, rfl, rfl, rfl, rfl, rfl, trivial⟩, hW⟩
          ·
            have H := iteF (of_decide_eq_false hb) H
            rw [hb] at hF
            clear hb
            refine qs_w hF (wanted_y hF rfl rfl rfl rfl) rfl (Nat.le_of_ble_eq_true rfl) ((y_move hF rfl).q) (fun a hF => ?_)
            refine qs_w hF (wanted_y hF rfl rfl rfl rfl) rfl (Nat.le_of_ble_eq_true rfl) ((y_gtr hF rfl rfl).q) (fun a hF => ?_)
            refine qs_w hF (wanted_y hF rfl rfl rfl rfl) rfl (Nat.le_of_ble_eq_true rfl) ((y_move hF rfl).q) (fun a hF => ?_)
            rcases Bool.eq_false_or_eq_true (decide (0 < x10)) with hb | hb
            ·
              have H := iteT (of_decide_eq_true hb) H
              rw [hb] at hF
              clear hb
              refine qs_w hF (wanted_y hF rfl rfl rfl rfl) rfl (Nat.le_of_ble_eq_true rfl) ((y_move hF rfl).q) (fun a hF => ?_)
              refine qs_w hF (wanted_y hF rfl rfl rfl rfl) rfl (Nat.le_of_ble_eq_true rfl) ((y_move hF rfl).q) (fun a hF => ?_)
              refine qs_w hF (wanted_y hF rfl rfl rfl rfl) rfl (Nat.le_of_ble_eq_true rfl) ((y_sub hF rfl rfl rfl).q) (fun a hF => ?_)
              obtain ⟨x14, h11, H⟩ := bindE H
              refine qs_w hF (wanted_y hF rfl rfl rfl rfl) rfl (Nat.le_of_ble_eq_true rfl) ((y_index (r := (Rp.int .i64)) L26 hF rfl rfl (rdc_row 0 rfl) h11).q) (fun a hF => ?_)
              refine qs_w hF (wanted_y hF rfl rfl rfl rfl) rfl (Nat.le_of_ble_eq_true rfl) ((y_load_el (y := Value.int .i64 x14) (j := 0) (i := w64 (x10 - 1)) hF rfl rfl (rdc_row 0 rfl) h11 Fl.int.to T3 rfl).q) (fun a hF => ?_)
              refine qs_w hF (wanted_y hF rfl rfl rfl rfl) rfl (Nat.le_of_ble_eq_true rfl) ((y_move hF rfl).q) (fun a hF => ?_)
              refine qs_w hF (wanted_y hF rfl rfl rfl rfl) rfl (Nat.le_of_ble_eq_true rfl) ((y_move hF rfl).q) (fun a hF => ?_)
              obtain ⟨x15, h12, H⟩ := bindE H
              refine qs_w hF (wanted_y hF rfl rfl rfl rfl) rfl (Nat.le_of_ble_eq_true rfl) ((y_index (r := (Rp.int .i64)) L26 hF rfl rfl (rdc_row 0 rfl) h12).q) (fun a hF => ?_)
              refine qs_w hF (wanted_y hF rfl rfl rfl rfl) rfl (Nat.le_of_ble_eq_true rfl) ((y_load_el (y := Value.int .i64 x15) (j := 0) (i := x10) hF rfl rfl (rdc_row 0 rfl) h12 Fl.int.to T3 rfl).q) (fun a hF => ?_)
              refine qs_w hF (wanted_y hF rfl rfl rfl rfl) rfl (Nat.le_of_ble_eq_true rfl) ((y_geq hF rfl rfl).q) (fun a hF => ?_)
              refine qs_w hF (wanted_y hF rfl rfl rfl rfl) rfl (Nat.le_of_ble_eq_true rfl) ((y_pick_t hF rfl rfl rfl).q) (fun a hF => ?_)
              refine qs hF rfl ((y_pick_f hF rfl rfl rfl).q) (fun a hF => ?_)
              refine quiet_end (fun w hW => ?_)
              refine c_then ?_
              have hW := hW.frontZ (i := 1) rfl rfl
              have hW := hW.frontZ (i := 1) rfl rfl
              exact ⟨_, H, hF.re ⟨rfl, rfl, rfl, rfl, rfl, rfl, rfl, rfl, rfl, trivial⟩, hW⟩
            ·
              have H := iteF (of_decide_eq_false hb) H
              rw [hb] at hF
              clear hb
              refine qs_skip hF (wanted_n hF rfl rfl rfl rfl rfl) rfl rfl (fun a hF => ?_)
              refine qs_skip hF (wanted_n hF rfl rfl rfl rfl rfl) rfl rfl (fun a hF => ?_)
              refine qs_skip hF (wanted_n hF rfl rfl rfl rfl rfl) rfl rfl (fun a hF => ?_)
              refine qs_skip hF (wanted_n hF rfl rfl rfl rfl rfl) rfl rfl (fun a hF => ?_)
              refine qs_skip hF (wanted_n hF rfl rfl rfl rfl rfl) rfl rfl (fun a hF => ?_)
              refine qs_skip hF (wanted_n hF rfl rfl rfl rfl rfl) rfl rfl (fun a hF => ?_)
              refine qs_skip hF (wanted_n hF rfl rfl rfl rfl rfl) rfl rfl (fun a hF => ?_)
              refine qs_skip hF (wanted_n hF rfl rfl rfl rfl rfl) rfl rfl (fun a hF => ?_)
              refine qs_skip hF (wanted_n hF rfl rfl rfl rfl rfl) rfl rfl (fun a hF => ?_)
              refine qs_skip hF (wanted_n hF rfl rfl rfl rfl rfl) rfl rfl (fun a hF => ?_)
              refine qs_w hF (wanted_y hF rfl rfl rfl rfl) rfl (Nat.le_of_ble_eq_true rfl) ((y_pick_f hF rfl rfl rfl).q) (fun a hF => ?_)
              refine qs hF rfl ((y_pick_f hF rfl rfl rfl).q) (fun a hF => ?_)
              refine quiet_end (fun w hW => ?_)
              refine c_then ?_
              have hW := hW.frontZ (i := 1) rfl rfl
              have hW := hW.frontZ (i := 1) rfl rfl
              exact ⟨_, H, hF.re ⟨rfl, rfl, rfl, rfl, rfl, rfl, rfl, rfl, rfl, trivial⟩, hW⟩
        rintro a w ⟨x11, hj, hF, hW⟩
        have hj := Option.some.inj hj
        subst hj
        have H := K4
        clear G4 K4
        refine c_cond hF rfl (fun hb => ?_) (fun hb => ?_)
        ·
          have H := iteT hb H
          rw [hb] at hF
          clear hb
          refine c_seq ?_
          refine reg_list ?_
          refine ls hF hW rfl ((y_assign hF rfl).q) (fun a w hF hW => ?_)
          refine ls_nil ?_
          refine c_then ?_
          refine wp_ret ?_
          refine r_block ?_
          refine r_then ?_
          refine r_then ?_
          refine r_block ?_
          refine r_then ?_
          have H := L3 _ H
          have H := L2 _ H
          have H := Option.some.inj H
          subst H
          refine post1 (.inl rfl) hF hW rfl (rv_tmp hF rfl) ?_
          exact ⟨rfl, hW.done⟩
        ·
          have H := iteF (by rw [hb]; decide) H
          rw [hb] at hF
          clear hb
          refine wp_skip ?_
          refine b_normal ?_
          refine c_then ?_
          refine reg_list ?_
          refine ls hF hW rfl ((y_move hF rfl).q) (fun a w hF hW => ?_)
          refine ls hF hW rfl ((y_add hF rfl rfl rfl).q) (fun a w hF hW => ?_)
          refine ls hF hW rfl ((y_assign hF rfl).q) (fun a w hF hW => ?_)
          refine ls_nil ?_
          refine c_then ?_
          have hW := hW.frontZ (i := 1) rfl rfl
          have hW := hW.frontZ (i := 1) rfl rfl
          exact ⟨_, H, hF.re ⟨rfl, rfl, rfl, rfl, rfl, rfl, rfl, rfl, trivial⟩, hW⟩
      ·
        have H := iteF (of_decide_eq_false hb) H
        rw [hb] at hF
        clear hb
        refine wp_exit ?_
        refine e_then ?_
        refine e_then ?_
        refine e_block ?_
        refine c_then ?_
        have hW := hW.sub (M' := [(b1, [.int .i64 p4.1, .int .i64 p4.2])]) (Z' := [row v4 3 (Rp.int .i64) x6]) (List.Sublist.refl _) (List.Sublist.cons_cons _ (List.nil_sublist _))
        have H := L3 _ H
        exact ⟨H, hF.re ⟨rfl, rfl, rfl, rfl, rfl, rfl, trivial⟩, hW⟩
    rintro a w ⟨hj, hF, hW⟩
    have H := K2 _ hj
    clear hj G2 K2 L2
    obtain ⟨o5, G5, K5, L5⟩ := orE H
    refine c_seqJ (fun a w => some (Sum.inl ()) = some o5 ∧ Fr 149 [] [(0, .int .i64 p0), (1, v1), (2, .int .i64 p2), (3, .int .i64 p3), (10, .bool false), (11, v4)] a ∧ Stw ⟨Y, [], w0⟩ [(b1, [.int .i64 p4.1, .int .i64 p4.2])] [row v4 3 (Rp.int .i64) x6] w) ?_ ?_
    ·
      have H := G5
      clear G5 K5
      refine c_seq ?_
      refine reg_list ?_
      refine ls hF hW rfl ((y_assign hF rfl).q) (fun a w hF hW => ?_)
      refine ls_nil ?_
      refine c_then ?_
      refine wp_block ?_
      refine c_loopW H (fun s a w => Fr 149 [] [(0, .int .i64 p0), (1, v1), (2, .int .i64 p2), (3, .int .i64 p3), (10, .bool false), (11, v4), (14, .int .i64 s)] a ∧ Stw ⟨Y, [], w0⟩ [(b1, [.int .i64 p4.1, .int .i64 p4.2])] [row v4 3 (Rp.int .i64) x6] w) ⟨hF.re ⟨rfl, rfl, rfl, rfl, rfl, rfl, rfl, trivial⟩, hW⟩ (fun s o a w H L6 hR => ?_)
      obtain ⟨x16, rfl⟩ : ∃ x, x = s := ⟨s, rfl⟩
      obtain ⟨hF, hW⟩ := hR
      have hF : Fr 149 [] [(0, .int .i64 p0), (1, v1), (2, .int .i64 p2), (3, .int .i64 p3), (10, .bool false), (11, v4), (14, .int .i64 x16)] a := hF
      have hW : Stw ⟨Y, [], w0⟩ [(b1, [.int .i64 p4.1, .int .i64 p4.2])] [row v4 3 (Rp.int .i64) x6] w := hW
      rw [L20_GraphReach_l2] at H
      refine c_seq ?_
      refine c_seq ?_
      refine reg_list ?_
      refine ls hF hW rfl ((y_move hF rfl).q) (fun a w hF hW => ?_)
      refine ls hF hW rfl ((y_move hF rfl).q) (fun a w hF hW => ?_)
      refine ls hF hW rfl ((y_len (r := R41) (l := p1) Try.underlying22 rfl hF rfl (rdc_ro h_v1)).q) (fun a w hF hW => ?_)
      refine ls hF hW rfl ((y_lss hF rfl rfl).q) (fun a w hF hW => ?_)
      refine ls_nil ?_
      refine c_then ?_
      refine c_cond hF rfl (fun hb => ?_) (fun hb => ?_)
      ·
        have H := iteT (of_decide_eq_true hb) H
        rw [hb] at hF
        clear hb
        refine wp_skip ?_
        refine c_then ?_
        refine c_seq ?_
        refine wp_block ?_
        obtain ⟨o7, G7, K7⟩ := bindE H
        refine c_seqJ (fun a w => ∃ x17 : Bool, some (x17) = some o7 ∧ Fr 149 [] [(0, .int .i64 p0), (1, v1), (2, .int .i64 p2), (3, .int .i64 p3), (10, .bool false), (11, v4), (14, .int .i64 x16), (112, .bool x17)] a ∧ Stw ⟨Y, [], w0⟩ [(b1, [.int .i64 p4.1, .int .i64 p4.2])] [row v4 3 (Rp.int .i64) x6] w) ?_ ?_
        ·
          have H := G7
          clear G7 K7
          refine reg_list ?_
          refine ls hF hW rfl ((y_move hF rfl).q) (fun a w hF hW => ?_)
          refine ls hF hW rfl ((y_move hF rfl).q) (fun a w hF hW => ?_)
          refine ls hF hW rfl ((y_move hF rfl).q) (fun a w hF hW => ?_)
          obtain ⟨x18, h13, H⟩ := bindE H
          refine ls hF hW rfl ((y_index (r := R41) L22 hF rfl rfl (rdc_ro h_v1) h13).q) (fun a w hF hW => ?_)
          refine ls hF hW rfl ((y_fieldAddr Try.underlying41 rfl rfl rfl T3 hF rfl (voff v1 + (x16).toNat * 2) rfl).q) (fun a w hF hW => ?_)
          refine ls hF hW rfl ((y_load_el (y := Value.int .i64 x18.1) (j := 0) (i := x16) hF rfl rfl (rdc_ro h_v1) h13 F41.to T3 rfl).q) (fun a w hF hW => ?_)
          obtain ⟨x19, h14, H⟩ := bindE H
          refine ls hF hW rfl (y_call (v := Value.int .i64 x19) hF H20 rfl (fun w hW => L20_place_c any w (v4) x6 x18.1 _ h14 (((rdc_row 0 rfl) : Rdc _ _ _ _ _ _) w hW).nx)) (fun a w hF hW => ?_)
          refine ls hF hW rfl ((y_geq hF rfl rfl).q) (fun a w hF hW => ?_)
          refine ls hF hW rfl ((y_move hF rfl).q) (fun a w hF hW => ?_)
          rcases Bool.eq_false_or_eq_true (decide (0 ≤ x19)) with hb | hb
          ·
            have H := iteT (of_decide_eq_true hb) H
            rw [hb] at hF
            clear hb
            refine ls_w hF hW (wanted_y hF rfl rfl rfl rfl) rfl (Nat.le_of_ble_eq_true rfl) ((y_move hF rfl).q) (fun a w hF hW => ?_)
            refine ls_w hF hW (wanted_y hF rfl rfl rfl rfl) rfl (Nat.le_of_ble_eq_true rfl) ((y_move hF rfl).q) (fun a w hF hW => ?_)
            refine ls_w hF hW (wanted_y hF rfl rfl rfl rfl) rfl (Nat.le_of_ble_eq_true rfl) ((y_move hF rfl).q) (fun a w hF hW => ?_)
            obtain ⟨x20, h15, H⟩ := bindE H
            refine ls_w hF hW (wanted_y hF rfl rfl rfl rfl) rfl (Nat.le_of_ble_eq_true rfl) ((y_index (r := R41) L22 hF rfl rfl (rdc_ro h_v1) h15).q) (fun a w hF hW => ?_)
            refine ls_w hF hW (wanted_y hF rfl rfl rfl rfl) rfl (Nat.le_of_ble_eq_true rfl) ((y_fieldAddr Try.underlying41 rfl rfl rfl T3 hF rfl (voff v1 + (x16).toNat * 2 + 1) rfl).q) (fun a w hF hW => ?_)
            refine ls_w hF hW (wanted_y hF rfl rfl rfl rfl) rfl (Nat.le_of_ble_eq_true rfl) ((y_load_el (y := Value.int .i64 x20.2) (j := 1) (i := x16) hF rfl rfl (rdc_ro h_v1) h15 F41.to T3 rfl).q) (fun a w hF hW => ?_)
            refine ls_g (wanted_y hF rfl rfl rfl rfl) ?_
            obtain ⟨x21, h16, H⟩ := bindE H
            refine ls hF hW rfl (y_call (v := Value.int .i64 x21) hF H20 rfl (fun w hW => L20_place_c any w (v4) x6 x20.2 _ h16 (((rdc_row 0 rfl) : Rdc _ _ _ _ _ _) w hW).nx)) (fun a w hF hW => ?_)
            refine ls_w hF hW (wanted_y hF rfl rfl rfl rfl) rfl (Nat.le_of_ble_eq_true rfl) ((y_lss hF rfl rfl).q) (fun a w hF hW => ?_)
            refine ls hF hW rfl ((y_pick_t hF rfl rfl rfl).q) (fun a w hF hW => ?_)
            refine ls_nil ?_
            refine c_then ?_
            exact ⟨_, H, hF.re ⟨rfl, rfl, rfl, rfl, rfl, rfl, rfl, rfl, trivial⟩, hW⟩
          ·
            have H := iteF (of_decide_eq_false hb) H
            rw [hb] at hF
            clear hb
            refine ls_skip hF (wanted_n hF rfl rfl rfl rfl rfl) rfl rfl (fun a hF => ?_)
            refine ls_skip hF (wanted_n hF rfl rfl rfl rfl rfl) rfl rfl (fun a hF => ?_)
            refine ls_skip hF (wanted_n hF rfl rfl rfl rfl rfl) rfl rfl (fun a hF => ?_)
            refine ls_skip hF (wanted_n hF rfl rfl rfl rfl rfl) rfl rfl (fun a hF => ?_)
            refine ls_skip hF (wanted_n hF rfl rfl rfl rfl rfl) rfl rfl (fun a hF => ?_)
            refine ls_skip hF (wanted_n hF rfl rfl rfl rfl rfl) rfl rfl (fun a hF => ?_)
            refine ls_skip hF (wanted_n hF rfl rfl rfl rfl rfl) rfl rfl (fun a hF => ?_)
            refine ls_skip hF (wanted_n hF rfl rfl rfl rfl rfl) rfl rfl (fun a hF => ?_)
            refine ls hF hW rfl ((y_pick_f hF rfl rfl rfl).q) (fun a w hF hW => ?_)
            refine ls_nil ?_
            refine c_then ?_
            exact ⟨_, H, hF.re ⟨rfl, rfl, rfl, rfl, rfl, rfl, rfl, rfl, trivial⟩, hW⟩
        rintro a w ⟨x17, hj, hF, hW⟩
        have hj := Option.some.inj hj
        subst hj
        have H := K7
        clear G7 K7
        refine c_cond hF rfl (fun hb => ?_) (fun hb => ?_)
        ·
          have H := iteT hb H
          rw [hb] at hF
          clear hb
          refine c_seq ?_
          refine reg_list ?_
          refine ls hF hW rfl ((y_assign hF rfl).q) (fun a w hF hW => ?_)
          refine ls_nil ?_
          refine c_then ?_
          refine wp_ret ?_
          refine r_block ?_
          refine r_then ?_
          refine r_then ?_
          refine r_block ?_
          refine r_then ?_
          have H := L6 _ H
          have H := L5 _ H
          have H := Option.some.inj H
          subst H
          refine post1 (.inl rfl) hF hW rfl (rv_tmp hF rfl) ?_
          exact ⟨rfl, hW.done⟩
        ·
          have H := iteF (by rw [hb]; decide) H
          rw [hb] at hF
          clear hb
          refine wp_skip ?_
          refine b_normal ?_
          refine c_then ?_
          refine reg_list ?_
          refine ls hF hW rfl ((y_move hF rfl).q) (fun a w hF hW => ?_)
          refine ls hF hW rfl ((y_add hF rfl rfl rfl).q) (fun a w hF hW => ?_)
          refine ls hF hW rfl ((y_assign hF rfl).q) (fun a w hF hW => ?_)
          refine ls_nil ?_
          refine c_then ?_
          exact ⟨_, H, hF.re ⟨rfl, rfl, rfl, rfl, rfl, rfl, rfl, trivial⟩, hW⟩
      ·
        have H := iteF (of_decide_eq_false hb) H
        rw [hb] at hF
        clear hb
        refine wp_exit ?_
        refine e_then ?_
        refine e_then ?_
        refine e_block ?_
        refine c_then ?_
        have H := L6 _ H
        exact ⟨H, hF.re ⟨rfl, rfl, rfl, rfl, rfl, rfl, trivial⟩, hW⟩
    rintro a w ⟨hj, hF, hW⟩
    have H := K5 _ hj
    clear hj G5 K5 L5
    refine c_seq ?_
    obtain ⟨o8, G8, K8⟩ := bindE H
    refine c_seqJ (fun a w => ∃ x22 : Bool, some (x22) = some o8 ∧ Fr 149 [] [(0, .int .i64 p0), (1, v1), (2, .int .i64 p2), (3, .int .i64 p3), (10, .bool false), (11, v4), (122, .bool x22)] a ∧ Stw ⟨Y, [], w0⟩ [(b1, [.int .i64 p4.1, .int .i64 p4.2])] [row v4 3 (Rp.int .i64) x6] w) ?_ ?_
    ·
      have H := G8
      clear G8 K8
      refine reg_list ?_
      refine ls hF hW rfl ((y_move hF rfl).q) (fun a w hF hW => ?_)
      refine ls hF hW rfl ((y_move hF rfl).q) (fun a w hF hW => ?_)
      obtain ⟨x23, h17, H⟩ := bindE H
      refine ls hF hW rfl (y_call (v := Value.int .i64 x23) hF H20 rfl (fun w hW => L20_place_c any w (v4) x6 p2 _ h17 (((rdc_row 0 rfl) : Rdc _ _ _ _ _ _) w hW).nx)) (fun a w hF hW => ?_)
      refine ls hF hW rfl ((y_lss hF rfl rfl).q) (fun a w hF hW => ?_)
      refine ls hF hW rfl ((y_move hF rfl).q) (fun a w hF hW => ?_)
      rcases Bool.eq_false_or_eq_true (decide (x23 < 0)) with hb | hb
      ·
        have H := iteT (of_decide_eq_true hb) H
        rw [hb] at hF
        clear hb
        refine ls_skip hF (wanted_n hF rfl rfl rfl rfl rfl) rfl rfl (fun a hF => ?_)
        refine ls_skip hF (wanted_n hF rfl rfl rfl rfl rfl) rfl rfl (fun a hF => ?_)
        refine ls_skip hF (wanted_n hF rfl rfl rfl rfl rfl) rfl rfl (fun a hF => ?_)
        refine ls_skip hF (wanted_n hF rfl rfl rfl rfl rfl) rfl rfl (fun a hF => ?_)
        refine ls hF hW rfl ((y_pick_t hF rfl rfl rfl).q) (fun a w hF hW => ?_)
        refine ls_nil ?_
        refine c_then ?_
        exact ⟨_, H, hF.re ⟨rfl, rfl, rfl, rfl, rfl, rfl, rfl, trivial⟩, hW⟩
      ·
        have H := iteF (of_decide_eq_false hb) H
        rw [hb] at hF
        clear hb
        refine ls_w hF hW (wanted_y hF rfl rfl rfl rfl) rfl (Nat.le_of_ble_eq_true rfl) ((y_move hF rfl).q) (fun a w hF hW => ?_)
        refine ls_w hF hW (wanted_y hF rfl rfl rfl rfl) rfl (Nat.le_of_ble_eq_true rfl) ((y_move hF rfl).q) (fun a w hF hW => ?_)
        refine ls_g (wanted_y hF rfl rfl rfl rfl) ?_
        obtain ⟨x24, h18, H⟩ := bindE H
        refine ls hF hW rfl (y_call (v := Value.int .i64 x24) hF H20 rfl (fun w hW => L20_place_c any w (v4) x6 p3 _ h18 (((rdc_row 0 rfl) : Rdc _ _ _ _ _ _) w hW).nx)) (fun a w hF hW => ?_)
        refine ls_w hF hW (wanted_y hF rfl rfl rfl rfl) rfl (Nat.le_of_ble_eq_true rfl) ((y_lss hF rfl rfl).q) (fun a w hF hW => ?_)
        refine ls hF hW rfl ((y_pick_f hF rfl rfl rfl).q) (fun a w hF hW => ?_)
        refine ls_nil ?_
        refine c_then ?_
        exact ⟨_, H, hF.re ⟨rfl, rfl, rfl, rfl, rfl, rfl, rfl, trivial⟩, hW⟩
    rintro a w ⟨x22, hj, hF, hW⟩
    have hj := Option.some.inj hj
    subst hj
    have H := K8
    clear G8 K8
    refine c_cond hF rfl (fun hb => ?_) (fun hb => ?_)
    ·
      have H := iteT hb H
      rw [hb] at hF
      clear hb
      obtain ⟨o9, G9, K9⟩ := bindE H
      refine c_seqJ (fun a w => ∃ x25 : Bool, some (x25) = some o9 ∧ Fr 149 [] [(0, .int .i64 p0), (1, v1), (3, .int .i64 p3), (10, .bool x25), (11, v4)] a ∧ Stw ⟨Y, [], w0⟩ [(b1, [.int .i64 p4.1, .int .i64 p4.2])] [row v4 3 (Rp.int .i64) x6] w) ?_ ?_
      ·
        have H := G9
        clear G9 K9
        refine reg_list ?_
        refine ls hF hW rfl ((y_move hF rfl).q) (fun a w hF hW => ?_)
        refine ls hF hW rfl ((y_move hF rfl).q) (fun a w hF hW => ?_)
        obtain ⟨x26, h19, H⟩ := bindE H
        refine ls hF hW rfl (y_call (v := Value.int .i64 x26) hF H20 rfl (fun w hW => L20_place_c any w (v4) x6 p2 _ h19 (((rdc_row 0 rfl) : Rdc _ _ _ _ _ _) w hW).nx)) (fun a w hF hW => ?_)
        refine ls hF hW rfl ((y_geq hF rfl rfl).q) (fun a w hF hW => ?_)
        refine ls hF hW rfl ((y_move hF rfl).q) (fun a w hF hW => ?_)
        rcases Bool.eq_false_or_eq_true (decide (0 ≤ x26)) with hb | hb
        ·
          have H := iteT (of_decide_eq_true hb) H
          rw [hb] at hF
          clear hb
          refine ls_g (wanted_y hF rfl rfl rfl rfl) ?_
          obtain ⟨x27, h20, H⟩ := bindE H
          refine ls hF hW rfl (y_call (v := Value.bool x27) hF H6 rfl (fun w hW => L20_awake_c any w _ h20)) (fun a w hF hW => ?_)
          refine ls hF hW rfl ((y_pick_t hF rfl rfl rfl).q) (fun a w hF hW => ?_)
          refine ls hF hW rfl ((y_assign hF rfl).q) (fun a w hF hW => ?_)
          refine ls_nil ?_
          refine c_then ?_
          exact ⟨_, H, hF.re ⟨rfl, rfl, rfl, rfl, rfl, trivial⟩, hW⟩
        ·
          have H := iteF (of_decide_eq_false hb) H
          rw [hb] at hF
          clear hb
          refine ls_skip hF (wanted_n hF rfl rfl rfl rfl rfl) rfl rfl (fun a hF => ?_)
          refine ls hF hW rfl ((y_pick_f hF rfl rfl rfl).q) (fun a w hF hW => ?_)
          refine ls hF hW rfl ((y_assign hF rfl).q) (fun a w hF hW => ?_)
          refine ls_nil ?_
          refine c_then ?_
          exact ⟨_, H, hF.re ⟨rfl, rfl, rfl, rfl, rfl, trivial⟩, hW⟩
      rintro a w ⟨x25, hj, hF, hW⟩
      have hj := Option.some.inj hj
      subst hj
      have H := K9
      clear G9 K9
      refine wp_ret ?_
      refine r_then ?_
      have H := Option.some.inj H
      subst H
      refine post1 (.inl rfl) hF hW rfl (rv_tmp hF rfl) ?_
      exact ⟨rfl, hW.done⟩
    ·
      have H := iteF (by rw [hb]; decide) H
      rw [hb] at hF
      clear hb
      refine wp_skip ?_
      refine c_then ?_
      refine c_seq ?_
      refine reg_list ?_
      refine ls hF hW rfl ((y_move hF rfl).q) (fun a w hF hW => ?_)
      refine ls hF hW rfl ((y_move hF rfl).q) (fun a w hF hW => ?_)
      obtain ⟨x28, h21, H⟩ := bindE H
      refine l_callG (Ml := []) (Zl := []) (M := [(b1, [.int .i64 p4.1, .int .i64 p4.2])]) (Z := [row v4 3 (Rp.int .i64) x6]) (β := Value) (rv := fun x => x) (MM := fun x => []) (ZZ := fun x => [row x 42 R42 x28]) hF hW H7 rfl rfl (fun hL => L20_mine_c _ w (v1) p1 _ h21 ((rdc_ro h_v1) w hW).nx) (fun x a w hF hW => ?_)
      obtain ⟨v9, rfl⟩ : ∃ y, y = x := ⟨x, rfl⟩
      have hW : Stw ⟨Y, [], w0⟩ [(b1, [.int .i64 p4.1, .int .i64 p4.2])] [row v9 42 R42 x28, row v4 3 (Rp.int .i64) x6] w := hW
      refine ls hF hW rfl ((y_move hF rfl).q) (fun a w hF hW => ?_)
      obtain ⟨x29, h22, H⟩ := bindE H
      refine l_callG (Ml := []) (Zl := []) (M := [(b1, [.int .i64 p4.1, .int .i64 p4.2])]) (Z := [row v9 42 R42 x28, row v4 3 (Rp.int .i64) x6]) (β := Value) (rv := fun x => x) (MM := fun x => []) (ZZ := fun x => [row x 3 (Rp.int .i64) x29]) hF hW H13 rfl rfl (fun hL => graph_Reach_c _ w (v9) p0 x28 p3 _ h22 ((rdc_row 0 rfl) w hW).nx) (fun x a w hF hW => ?_)
      obtain ⟨v10, rfl⟩ : ∃ y, y = x := ⟨x, rfl⟩
      have hW : Stw ⟨Y, [], w0⟩ [(b1, [.int .i64 p4.1, .int .i64 p4.2])] [row v10 3 (Rp.int .i64) x29, row v9 42 R42 x28, row v4 3 (Rp.int .i64) x6] w := hW
      refine ls hF hW rfl ((y_assign hF rfl).q) (fun a w hF hW => ?_)
      refine ls_nil ?_
      refine c_then ?_
      obtain ⟨o10, G10, K10, L10⟩ := orE H
      refine c_seqJ (fun a w => some (Sum.inl ()) = some o10 ∧ Fr 149 [] [(10, .bool false)] a ∧ Stw ⟨Y, [], w0⟩ [(b1, [.int .i64 p4.1, .int .i64 p4.2])] [] w) ?_ ?_
      ·
        have H := G10
        clear G10 K10
        refine c_seq ?_
        refine reg_list ?_
        refine ls hF hW rfl ((y_assign hF rfl).q) (fun a w hF hW => ?_)
        refine ls_nil ?_
        refine c_then ?_
        refine wp_block ?_
        have hW := hW.frontZ (i := 2) rfl rfl
        have hW := hW.sub (M' := [(b1, [.int .i64 p4.1, .int .i64 p4.2])]) (Z' := [row v4 3 (Rp.int .i64) x6, row v10 3 (Rp.int .i64) x29]) (List.Sublist.refl _) (List.Sublist.cons_cons _ (List.Sublist.cons_cons _ (List.nil_sublist _)))
        refine c_loopW H (fun s a w => Fr 149 [] [(10, .bool false), (11, v4), (15, v10), (16, .int .i64 s)] a ∧ Stw ⟨Y, [], w0⟩ [(b1, [.int .i64 p4.1, .int .i64 p4.2])] [row v4 3 (Rp.int .i64) x6, row v10 3 (Rp.int .i64) x29] w) ⟨hF.re ⟨rfl, rfl, rfl, rfl, trivial⟩, hW⟩ (fun s o a w H L11 hR => ?_)
        obtain ⟨x30, rfl⟩ : ∃ x, x = s := ⟨s, rfl⟩
        obtain ⟨hF, hW⟩ := hR
        have hF : Fr 149 [] [(10, .bool false), (11, v4), (15, v10), (16, .int .i64 x30)] a := hF
        have hW : Stw ⟨Y, [], w0⟩ [(b1, [.int .i64 p4.1, .int .i64 p4.2])] [row v4 3 (Rp.int .i64) x6, row v10 3 (Rp.int .i64) x29] w := hW
        rw [L20_GraphReach_l3] at H
        refine c_seq ?_
        refine c_seq ?_
        refine reg_list ?_
        refine ls hF hW rfl ((y_move hF rfl).q) (fun a w hF hW => ?_)
        refine ls hF hW rfl ((y_move hF rfl).q) (fun a w hF hW => ?_)
        refine ls hF hW rfl ((y_len (r := (Rp.int .i64)) (l := x29) Try.underlying26 rfl hF rfl (rdc_row 1 rfl)).q) (fun a w hF hW => ?_)
        refine ls hF hW rfl ((y_lss hF rfl rfl).q) (fun a w hF hW => ?_)
        refine ls_nil ?_
        refine c_then ?_
        refine c_cond hF rfl (fun hb => ?_) (fun hb => ?_)
        ·
          have H := iteT (of_decide_eq_true hb) H
          rw [hb] at hF
          clear hb
          refine wp_skip ?_
          refine c_then ?_
          refine c_seq ?_
          refine wp_block ?_
          refine c_seq ?_
          refine reg_list ?_
          refine ls hF hW rfl ((y_move hF rfl).q) (fun a w hF hW => ?_)
          refine ls hF hW rfl ((y_move hF rfl).q) (fun a w hF hW => ?_)
          refine ls hF hW rfl ((y_move hF rfl).q) (fun a w hF hW => ?_)
          obtain ⟨x31, h23, H⟩ := bindE H
          refine ls hF hW rfl ((y_index (r := (Rp.int .i64)) L26 hF rfl rfl (rdc_row 1 rfl) h23).q) (fun a w hF hW => ?_)
          refine ls hF hW rfl ((y_load_el (y := Value.int .i64 x31) (j := 0) (i := x30) hF rfl rfl (rdc_row 1 rfl) h23 Fl.int.to T3 rfl).q) (fun a w hF hW => ?_)
          obtain ⟨x32, h24, H⟩ := bindE H
          refine ls hF hW rfl (y_call (v := Value.int .i64 x32) hF H20 rfl (fun w hW => L20_place_c any w (v4) x6 x31 _ h24 (((rdc_row 0 rfl) : Rdc _ _ _ _ _ _) w hW).nx)) (fun a w hF hW => ?_)
          refine ls hF hW rfl ((y_lss hF rfl rfl).q) (fun a w hF hW => ?_)
          refine ls_nil ?_
          refine c_then ?_
          refine c_cond hF rfl (fun hb => ?_) (fun hb => ?_)
          ·
            have H := iteT (of_decide_eq_true hb) H
            rw [hb] at hF
            clear hb
            refine c_seq ?_
            refine reg_list ?_
            refine ls hF hW rfl ((y_assign hF rfl).q) (fun a w hF hW => ?_)
            refine ls_nil ?_
            refine c_then ?_
            refine wp_ret ?_
            refine r_block ?_
            refine r_then ?_
            refine r_then ?_
            refine r_block ?_
            refine r_then ?_
            have H := L11 _ H
            have H := L10 _ H
            have H := Option.some.inj H
            subst H
            refine post1 (.inl rfl) hF hW rfl (rv_tmp hF rfl) ?_
            exact ⟨rfl, hW.done⟩
          ·
            have H := iteF (of_decide_eq_false hb) H
            rw [hb] at hF
            clear hb
            refine wp_skip ?_
            refine b_normal ?_
            refine c_then ?_
            refine reg_list ?_
            refine ls hF hW rfl ((y_move hF rfl).q) (fun a w hF hW => ?_)
            refine ls hF hW rfl ((y_add hF rfl rfl rfl).q) (fun a w hF hW => ?_)
            refine ls hF hW rfl ((y_assign hF rfl).q) (fun a w hF hW => ?_)
            refine ls_nil ?_
            refine c_then ?_
            have hW := hW.frontZ (i := 1) rfl rfl
            have hW := hW.frontZ (i := 1) rfl rfl
            exact ⟨_, H, hF.re ⟨rfl, rfl, rfl, rfl, trivial⟩, hW⟩
        ·
          have H := iteF (of_decide_eq_false hb) H
          rw [hb] at hF
          clear hb
          refine wp_exit ?_
          refine e_then ?_
          refine e_then ?_
          refine e_block ?_
          refine c_then ?_
          have hW := hW.sub (M' := [(b1, [.int .i64 p4.1, .int .i64 p4.2])]) (Z' := []) (List.Sublist.refl _) (List.nil_sublist _)
          have H := L11 _ H
          exact ⟨H, hF.re ⟨rfl, trivial⟩, hW⟩
      rintro a w ⟨hj, hF, hW⟩
      have H := K10 _ hj
      clear hj G10 K10 L10
      refine c_seq ?_
      refine reg_list ?_
      obtain ⟨x33, h25, H⟩ := bindE H
      refine ls hF hW rfl (y_call (v := Value.bool x33) hF H6 rfl (fun w hW => L20_awake_c any w _ h25)) (fun a w hF hW => ?_)
      refine ls hF hW rfl ((y_assign hF rfl).q) (fun a w hF hW => ?_)
      refine ls_nil ?_
      refine c_then ?_
      refine wp_ret ?_
      have H := Option.some.inj H
      subst H
      refine post1 (.inl rfl) hF hW rfl (rv_tmp hF rfl) ?_
      exact ⟨rfl, hW.done⟩

end Go.Proofs.Ytkgajpmlehfcnaa
