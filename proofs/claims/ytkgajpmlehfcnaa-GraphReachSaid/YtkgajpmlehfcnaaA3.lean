/- The functions of layer 20, lifted. Conditions: none. -/
import Derived.Test.YtkgajpmlehfcnaaA2
namespace Go.Proofs.Ytkgajpmlehfcnaa
open Go Go.RowKit
set_option linter.unusedVariables false
set_option linter.unusedSimpArgs false
set_option maxRecDepth 20000
set_option maxHeartbeats 1600000
theorem H13 : Has Try.prog 13 := ⟨fun args w => run_callFunc_body Try.func13 rfl (by decide) args w⟩
noncomputable def r20_Reach_l2 (p0 : Int) (p1 : List (Int × Int)) (x5 : Int) : (List Int × Int) → Option ((List Int × Int) ⊕ (List Int))
  | (x7, x8) => (if x8 < p0 then (((ix x7 x5).bind fun x11 => (r20_edge p1 x11 x8).bind fun x12 => (if x12 = true then (r20_has x7 x8).bind fun x13 => some (!x13) else some false)).bind fun x10 => (if x10 = true then (app x7 ([x8] : List Int)).bind fun x14 => some x14 else some x7)).bind fun x9 => some (.inl (x9, w64 (x8 + 1))) else some (.inr x7))
noncomputable def r20_Reach_l1 (p0 : Int) (p1 : List (Int × Int)) : (List Int × Int) → Option ((List Int × Int) ⊕ (List Int))
  | (x4, x5) => (if x5 < (x4.length : Int) then (loopW (r20_Reach_l2 p0 p1 x5) (x4, 0)).bind fun x6 => some (.inl (x6, w64 (x5 + 1))) else some (.inr x4))
noncomputable def r20_Reach_l3 (p0 : Int) (x3 : List Int) : (List Int × Int) → Option ((List Int × Int) ⊕ (List Int))
  | (x16, x17) => (if x17 < p0 then ((r20_has x3 x17).bind fun x19 => (if x19 = true then (app x16 ([x17] : List Int)).bind fun x20 => some x20 else some x16)).bind fun x18 => some (.inl (x18, w64 (x17 + 1))) else some (.inr x16))
noncomputable def r20_Reach (p0 : Int) (p1 : List (Int × Int)) (p2 : Int) : Option (List Int) := ((r20_Right p0 p1).bind fun x2 => (if (!x2) = true then some true else (if p2 < 0 then some true else some (decide (p0 ≤ p2))))).bind fun x1 => (if x1 = true then some ([] : List Int) else (loopW (r20_Reach_l1 p0 p1) (([p2] : List Int), 0)).bind fun x3 => (loopW (r20_Reach_l3 p0 x3) ([], 0)).bind fun x15 => some x15)
theorem r20_Reach_c (Y : Nat → Prop) (w0 : World) (v1 : Value) (p0 : Int) (p1 : List (Int × Int)) (p2 : Int) (r : List Int) (H : r20_Reach p0 p1 p2 = some r) (h_v1 : Sl w0 (NX []) R41 v1 p1) :
    Calls Try.prog 14 #[.int .i64 p0, v1, .int .i64 p2] w0 fun e w' => ∃ x : Value, e = .returned (x) ∧ Stw ⟨Y, [], w0⟩ [] [row (x) 3 (Rp.int .i64) r] w' := by
  refine enter Try.func14 rfl Try.ntmps14 rfl (fun a hF => ?_)
  have hW := Stw.start Y w0
  unfold r20_Reach at H
  refine c_seq ?_
  refine reg_list ?_
  refine ls hF hW rfl ((y_assign hF rfl).q) (fun a w hF hW => ?_)
  refine ls_nil ?_
  refine c_then ?_
  refine c_seq ?_
  obtain ⟨o1, G1, K1⟩ := bindE H
  refine c_seqJ (fun a w => ∃ x1 : Bool, some (x1) = some o1 ∧ Fr 68 [] [(0, .int .i64 p0), (1, v1), (2, .int .i64 p2), (6, .slice none 0 0), (24, .bool x1)] a ∧ Stw ⟨Y, [], w0⟩ [] [] w) ?_ ?_
  ·
    have H := G1
    clear G1 K1
    refine reg_list ?_
    refine ls hF hW rfl ((y_move hF rfl).q) (fun a w hF hW => ?_)
    refine ls hF hW rfl ((y_move hF rfl).q) (fun a w hF hW => ?_)
    obtain ⟨x2, h1, H⟩ := bindE H
    refine ls hF hW rfl (y_call (v := Value.bool x2) hF H11 rfl (fun w hW => r20_Right_c any w (v1) p0 p1 _ h1 (((rdc_ro h_v1) : Rdc _ _ _ _ _ _) w hW).nx)) (fun a w hF hW => ?_)
    refine ls hF hW rfl ((y_not hF rfl).q) (fun a w hF hW => ?_)
    refine ls hF hW rfl ((y_move hF rfl).q) (fun a w hF hW => ?_)
    rcases Bool.eq_false_or_eq_true (!x2) with hb | hb
    ·
      have H := iteT hb H
      rw [hb] at hF
      clear hb
      refine ls_skip hF (wanted_n hF rfl rfl rfl rfl rfl) rfl rfl (fun a hF => ?_)
      refine ls_skip hF (wanted_n hF rfl rfl rfl rfl rfl) rfl rfl (fun a hF => ?_)
      refine ls hF hW rfl ((y_pick_t hF rfl rfl rfl).q) (fun a w hF hW => ?_)
      refine ls hF hW rfl ((y_move hF rfl).q) (fun a w hF hW => ?_)
      refine ls_skip hF (wanted_n hF rfl rfl rfl rfl rfl) rfl rfl (fun a hF => ?_)
      refine ls_skip hF (wanted_n hF rfl rfl rfl rfl rfl) rfl rfl (fun a hF => ?_)
      refine ls_skip hF (wanted_n hF rfl rfl rfl rfl rfl) rfl rfl (fun a hF => ?_)
      refine ls hF hW rfl ((y_pick_t hF rfl rfl rfl).q) (fun a w hF hW => ?_)
      refine ls_nil ?_
      refine c_then ?_
      exact ⟨_, H, hF.re ⟨rfl, rfl, rfl, rfl, rfl, trivial⟩, hW⟩
    ·
      have H := iteF (by rw [hb]; decide) H
      rw [hb] at hF
      clear hb
      refine ls_w hF hW (wanted_y hF rfl rfl rfl rfl) rfl (Nat.le_of_ble_eq_true rfl) ((y_move hF rfl).q) (fun a w hF hW => ?_)
      refine ls_w hF hW (wanted_y hF rfl rfl rfl rfl) rfl (Nat.le_of_ble_eq_true rfl) ((y_lss hF rfl rfl).q) (fun a w hF hW => ?_)
      refine ls hF hW rfl ((y_pick_f hF rfl rfl rfl).q) (fun a w hF hW => ?_)
      refine ls hF hW rfl ((y_move hF rfl).q) (fun a w hF hW => ?_)
      rcases Bool.eq_false_or_eq_true (decide (p2 < 0)) with hb | hb
      ·
        have H := iteT (of_decide_eq_true hb) H
        rw [hb] at hF
        clear hb
        refine ls_skip hF (wanted_n hF rfl rfl rfl rfl rfl) rfl rfl (fun a hF => ?_)
        refine ls_skip hF (wanted_n hF rfl rfl rfl rfl rfl) rfl rfl (fun a hF => ?_)
        refine ls_skip hF (wanted_n hF rfl rfl rfl rfl rfl) rfl rfl (fun a hF => ?_)
        refine ls hF hW rfl ((y_pick_t hF rfl rfl rfl).q) (fun a w hF hW => ?_)
        refine ls_nil ?_
        refine c_then ?_
        exact ⟨_, H, hF.re ⟨rfl, rfl, rfl, rfl, rfl, trivial⟩, hW⟩
      ·
        have H := iteF (of_decide_eq_false hb) H
        rw [hb] at hF
        clear hb
        refine ls_w hF hW (wanted_y hF rfl rfl rfl rfl) rfl (Nat.le_of_ble_eq_true rfl) ((y_move hF rfl).q) (fun a w hF hW => ?_)
        refine ls_w hF hW (wanted_y hF rfl rfl rfl rfl) rfl (Nat.le_of_ble_eq_true rfl) ((y_move hF rfl).q) (fun a w hF hW => ?_)
        refine ls_w hF hW (wanted_y hF rfl rfl rfl rfl) rfl (Nat.le_of_ble_eq_true rfl) ((y_geq hF rfl rfl).q) (fun a w hF hW => ?_)
        refine ls hF hW rfl ((y_pick_f hF rfl rfl rfl).q) (fun a w hF hW => ?_)
        refine ls_nil ?_
        refine c_then ?_
        exact ⟨_, H, hF.re ⟨rfl, rfl, rfl, rfl, rfl, trivial⟩, hW⟩
  rintro a w ⟨x1, hj, hF, hW⟩
  have hj := Option.some.inj hj
  subst hj
  have H := K1
  clear G1 K1
  refine c_cond hF rfl (fun hb => ?_) (fun hb => ?_)
  ·
    have H := iteT hb H
    rw [hb] at hF
    clear hb
    refine c_seq ?_
    refine reg_list ?_
    refine ls hF hW rfl ((y_assign hF rfl).q) (fun a w hF hW => ?_)
    refine ls_nil ?_
    refine c_then ?_
    refine wp_ret ?_
    refine r_then ?_
    have H := Option.some.inj H
    subst H
    refine post1 (.inl rfl) hF hW rfl (rv_tmp hF rfl) ?_
    have hW := hW.nilRow 3 (Rp.int .i64)
    exact ⟨(Value.slice none 0 0), rfl, hW⟩
  ·
    have H := iteF (by rw [hb]; decide) H
    rw [hb] at hF
    clear hb
    refine wp_skip ?_
    refine c_then ?_
    refine c_seq ?_
    refine reg_list ?_
    refine ls hF hW rfl ((y_move hF rfl).q) (fun a w hF hW => ?_)
    refine l_lit (z := Value.int .i64 0) (cs := [.int .i64 p2]) (Rp.int .i64) ([p2] : List Int) hF hW rfl L26 Z3 rfl rfl rfl rfl rfl rfl (Fl.int.repL _ _ ([p2] : List Int)) (fun v2 a w hF hW => ?_)
    refine ls hF hW rfl ((y_assign hF rfl).q) (fun a w hF hW => ?_)
    refine ls_nil ?_
    refine c_then ?_
    obtain ⟨o2, G2, K2⟩ := bindE H
    refine c_seqJ (fun a w => ∃ x3 : List Int, ∃ v3 : Value, some (x3) = some o2 ∧ Fr 68 [] [(0, .int .i64 p0), (6, .slice none 0 0), (7, v3)] a ∧ Stw ⟨Y, [], w0⟩ [] [row v3 3 (Rp.int .i64) x3] w) ?_ ?_
    ·
      have H := G2
      clear G2 K2
      refine c_seq ?_
      refine reg_list ?_
      refine ls hF hW rfl ((y_assign hF rfl).q) (fun a w hF hW => ?_)
      refine ls_nil ?_
      refine c_then ?_
      refine wp_block ?_
      refine c_loopW H (fun s a w => ∃ v4 : Value, Fr 68 [] [(0, .int .i64 p0), (1, v1), (6, .slice none 0 0), (7, v4), (8, .int .i64 s.2)] a ∧ Stw ⟨Y, [], w0⟩ [] [row v4 3 (Rp.int .i64) s.1] w) ⟨(v2), hF.re ⟨rfl, rfl, rfl, rfl, rfl, trivial⟩, hW⟩ (fun s o a w H L3 hR => ?_)
      obtain ⟨x4, x5⟩ := s
      obtain ⟨v4, hF, hW⟩ := hR
      have hF : Fr 68 [] [(0, .int .i64 p0), (1, v1), (6, .slice none 0 0), (7, v4), (8, .int .i64 x5)] a := hF
      have hW : Stw ⟨Y, [], w0⟩ [] [row v4 3 (Rp.int .i64) x4] w := hW
      rw [r20_Reach_l1] at H
      refine c_seq ?_
      refine c_seq ?_
      refine reg_list ?_
      refine ls hF hW rfl ((y_move hF rfl).q) (fun a w hF hW => ?_)
      refine ls hF hW rfl ((y_move hF rfl).q) (fun a w hF hW => ?_)
      refine ls hF hW rfl ((y_len (r := (Rp.int .i64)) (l := x4) Try.underlying26 rfl hF rfl (rdc_row 0 rfl)).q) (fun a w hF hW => ?_)
      refine ls hF hW rfl ((y_lss hF rfl rfl).q) (fun a w hF hW => ?_)
      refine ls_nil ?_
      refine c_then ?_
      refine c_cond hF rfl (fun hb => ?_) (fun hb => ?_)
      ·
        have H := iteT (of_decide_eq_true hb) H
        rw [hb] at hF
        clear hb
        refine wp_skip ?_
        refine c_then ?_
        obtain ⟨o4, G4, K4⟩ := bindE H
        refine c_seqJ (fun a w => ∃ x6 : List Int, ∃ v5 : Value, some (x6) = some o4 ∧ Fr 68 [] [(0, .int .i64 p0), (1, v1), (6, .slice none 0 0), (7, v5), (8, .int .i64 x5)] a ∧ Stw ⟨Y, [], w0⟩ [] [row v5 3 (Rp.int .i64) x6] w) ?_ ?_
        ·
          have H := G4
          clear G4 K4
          refine wp_block ?_
          refine c_seq ?_
          refine reg_list ?_
          refine ls hF hW rfl ((y_assign hF rfl).q) (fun a w hF hW => ?_)
          refine ls_nil ?_
          refine c_then ?_
          refine wp_block ?_
          refine c_loopW H (fun s a w => ∃ v6 : Value, Fr 68 [] [(0, .int .i64 p0), (1, v1), (6, .slice none 0 0), (7, v6), (8, .int .i64 x5), (9, .int .i64 s.2)] a ∧ Stw ⟨Y, [], w0⟩ [] [row v6 3 (Rp.int .i64) s.1] w) ⟨(v4), hF.re ⟨rfl, rfl, rfl, rfl, rfl, rfl, trivial⟩, hW⟩ (fun s o a w H L5 hR => ?_)
          obtain ⟨x7, x8⟩ := s
          obtain ⟨v6, hF, hW⟩ := hR
          have hF : Fr 68 [] [(0, .int .i64 p0), (1, v1), (6, .slice none 0 0), (7, v6), (8, .int .i64 x5), (9, .int .i64 x8)] a := hF
          have hW : Stw ⟨Y, [], w0⟩ [] [row v6 3 (Rp.int .i64) x7] w := hW
          rw [r20_Reach_l2] at H
          refine c_seq ?_
          refine c_seq ?_
          refine reg_list ?_
          refine ls hF hW rfl ((y_move hF rfl).q) (fun a w hF hW => ?_)
          refine ls hF hW rfl ((y_move hF rfl).q) (fun a w hF hW => ?_)
          refine ls hF hW rfl ((y_lss hF rfl rfl).q) (fun a w hF hW => ?_)
          refine ls_nil ?_
          refine c_then ?_
          refine c_cond hF rfl (fun hb => ?_) (fun hb => ?_)
          ·
            have H := iteT (of_decide_eq_true hb) H
            rw [hb] at hF
            clear hb
            refine wp_skip ?_
            refine c_then ?_
            obtain ⟨o6, G6, K6⟩ := bindE H
            refine c_seqJ (fun a w => ∃ x9 : List Int, ∃ v7 : Value, some (x9) = some o6 ∧ Fr 68 [] [(0, .int .i64 p0), (1, v1), (6, .slice none 0 0), (7, v7), (8, .int .i64 x5), (9, .int .i64 x8)] a ∧ Stw ⟨Y, [], w0⟩ [] [row v7 3 (Rp.int .i64) x9] w) ?_ ?_
            ·
              have H := G6
              clear G6 K6
              refine wp_block ?_
              obtain ⟨o7, G7, K7⟩ := bindE H
              refine c_seqJ (fun a w => ∃ x10 : Bool, some (x10) = some o7 ∧ Fr 68 [] [(0, .int .i64 p0), (1, v1), (6, .slice none 0 0), (7, v6), (8, .int .i64 x5), (9, .int .i64 x8), (50, .bool x10)] a ∧ Stw ⟨Y, [], w0⟩ [] [row v6 3 (Rp.int .i64) x7] w) ?_ ?_
              ·
                have H := G7
                clear G7 K7
                refine reg_list ?_
                refine ls hF hW rfl ((y_move hF rfl).q) (fun a w hF hW => ?_)
                refine ls hF hW rfl ((y_move hF rfl).q) (fun a w hF hW => ?_)
                refine ls hF hW rfl ((y_move hF rfl).q) (fun a w hF hW => ?_)
                obtain ⟨x11, h2, H⟩ := bindE H
                refine ls hF hW rfl ((y_index (r := (Rp.int .i64)) L26 hF rfl rfl (rdc_row 0 rfl) h2).q) (fun a w hF hW => ?_)
                refine ls hF hW rfl ((y_load_el (y := Value.int .i64 x11) (j := 0) (i := x5) hF rfl rfl (rdc_row 0 rfl) h2 Fl.int.to T3 rfl).q) (fun a w hF hW => ?_)
                refine ls hF hW rfl ((y_move hF rfl).q) (fun a w hF hW => ?_)
                obtain ⟨x12, h3, H⟩ := bindE H
                refine ls hF hW rfl (y_call (v := Value.bool x12) hF H28 rfl (fun w hW => r20_edge_c any w (v1) p1 x11 x8 _ h3 (((rdc_ro h_v1) : Rdc _ _ _ _ _ _) w hW).nx)) (fun a w hF hW => ?_)
                refine ls hF hW rfl ((y_move hF rfl).q) (fun a w hF hW => ?_)
                rcases Bool.eq_false_or_eq_true x12 with hb | hb
                ·
                  have H := iteT hb H
                  rw [hb] at hF
                  clear hb
                  refine ls_w hF hW (wanted_y hF rfl rfl rfl rfl) rfl (Nat.le_of_ble_eq_true rfl) ((y_move hF rfl).q) (fun a w hF hW => ?_)
                  refine ls_w hF hW (wanted_y hF rfl rfl rfl rfl) rfl (Nat.le_of_ble_eq_true rfl) ((y_move hF rfl).q) (fun a w hF hW => ?_)
                  refine ls_g (wanted_y hF rfl rfl rfl rfl) ?_
                  obtain ⟨x13, h4, H⟩ := bindE H
                  refine ls hF hW rfl (y_call (v := Value.bool x13) hF H29 rfl (fun w hW => r20_has_c any w (v6) x7 x8 _ h4 (((rdc_row 0 rfl) : Rdc _ _ _ _ _ _) w hW).nx)) (fun a w hF hW => ?_)
                  refine ls_w hF hW (wanted_y hF rfl rfl rfl rfl) rfl (Nat.le_of_ble_eq_true rfl) ((y_not hF rfl).q) (fun a w hF hW => ?_)
                  refine ls hF hW rfl ((y_pick_t hF rfl rfl rfl).q) (fun a w hF hW => ?_)
                  refine ls_nil ?_
                  refine c_then ?_
                  exact ⟨_, H, hF.re ⟨rfl, rfl, rfl, rfl, rfl, rfl, rfl, trivial⟩, hW⟩
                ·
                  have H := iteF (by rw [hb]; decide) H
                  rw [hb] at hF
                  clear hb
                  refine ls_skip hF (wanted_n hF rfl rfl rfl rfl rfl) rfl rfl (fun a hF => ?_)
                  refine ls_skip hF (wanted_n hF rfl rfl rfl rfl rfl) rfl rfl (fun a hF => ?_)
                  refine ls_skip hF (wanted_n hF rfl rfl rfl rfl rfl) rfl rfl (fun a hF => ?_)
                  refine ls_skip hF (wanted_n hF rfl rfl rfl rfl rfl) rfl rfl (fun a hF => ?_)
                  refine ls hF hW rfl ((y_pick_f hF rfl rfl rfl).q) (fun a w hF hW => ?_)
                  refine ls_nil ?_
                  refine c_then ?_
                  exact ⟨_, H, hF.re ⟨rfl, rfl, rfl, rfl, rfl, rfl, rfl, trivial⟩, hW⟩
              rintro a w ⟨x10, hj, hF, hW⟩
              have hj := Option.some.inj hj
              subst hj
              have H := K7
              clear G7 K7
              refine c_cond hF rfl (fun hb => ?_) (fun hb => ?_)
              ·
                have H := iteT hb H
                rw [hb] at hF
                clear hb
                refine reg_list ?_
                refine ls hF hW rfl ((y_move hF rfl).q) (fun a w hF hW => ?_)
                refine ls hF hW rfl ((y_move hF rfl).q) (fun a w hF hW => ?_)
                refine l_lit (z := Value.int .i64 0) (cs := [.int .i64 x8]) (Rp.int .i64) ([x8] : List Int) hF hW rfl L26 Z3 rfl rfl rfl rfl rfl rfl (Fl.int.repL _ _ ([x8] : List Int)) (fun v8 a w hF hW => ?_)
                obtain ⟨x14, h5, H⟩ := bindE H
                refine l_append (r := (Rp.int .i64)) (i := 1) hF hW rfl L26 rfl rfl rfl rfl (src_row hW 0 rfl) h5 rfl (fun v9 a w hF hW => ?_)
                have hW : Stw ⟨Y, [], w0⟩ [] [row v9 3 (Rp.int .i64) x14, row v8 3 (Rp.int .i64) ([x8] : List Int)] w := hW
                refine ls hF hW rfl ((y_assign hF rfl).q) (fun a w hF hW => ?_)
                refine ls_nil ?_
                refine b_normal ?_
                refine c_then ?_
                have hW := hW.sub (M' := []) (Z' := [row v9 3 (Rp.int .i64) x14]) (List.Sublist.refl _) (List.Sublist.cons_cons _ (List.nil_sublist _))
                exact ⟨_, (v9), H, hF.re ⟨rfl, rfl, rfl, rfl, rfl, rfl, trivial⟩, hW⟩
              ·
                have H := iteF (by rw [hb]; decide) H
                rw [hb] at hF
                clear hb
                refine wp_skip ?_
                refine b_normal ?_
                refine c_then ?_
                exact ⟨_, (v6), H, hF.re ⟨rfl, rfl, rfl, rfl, rfl, rfl, trivial⟩, hW⟩
            rintro a w ⟨x9, v7, hj, hF, hW⟩
            have hj := Option.some.inj hj
            subst hj
            have H := K6
            clear G6 K6
            refine reg_list ?_
            refine ls hF hW rfl ((y_move hF rfl).q) (fun a w hF hW => ?_)
            refine ls hF hW rfl ((y_add hF rfl rfl rfl).q) (fun a w hF hW => ?_)
            refine ls hF hW rfl ((y_assign hF rfl).q) (fun a w hF hW => ?_)
            refine ls_nil ?_
            refine c_then ?_
            exact ⟨_, H, (v7), hF.re ⟨rfl, rfl, rfl, rfl, rfl, rfl, trivial⟩, hW⟩
          ·
            have H := iteF (of_decide_eq_false hb) H
            rw [hb] at hF
            clear hb
            refine wp_exit ?_
            refine e_then ?_
            refine e_then ?_
            refine e_block ?_
            refine b_normal ?_
            refine c_then ?_
            have H := L5 _ H
            exact ⟨_, (v6), H, hF.re ⟨rfl, rfl, rfl, rfl, rfl, trivial⟩, hW⟩
        rintro a w ⟨x6, v5, hj, hF, hW⟩
        have hj := Option.some.inj hj
        subst hj
        have H := K4
        clear G4 K4
        refine reg_list ?_
        refine ls hF hW rfl ((y_move hF rfl).q) (fun a w hF hW => ?_)
        refine ls hF hW rfl ((y_add hF rfl rfl rfl).q) (fun a w hF hW => ?_)
        refine ls hF hW rfl ((y_assign hF rfl).q) (fun a w hF hW => ?_)
        refine ls_nil ?_
        refine c_then ?_
        exact ⟨_, H, (v5), hF.re ⟨rfl, rfl, rfl, rfl, rfl, trivial⟩, hW⟩
      ·
        have H := iteF (of_decide_eq_false hb) H
        rw [hb] at hF
        clear hb
        refine wp_exit ?_
        refine e_then ?_
        refine e_then ?_
        refine e_block ?_
        refine c_then ?_
        have H := L3 _ H
        exact ⟨_, (v4), H, hF.re ⟨rfl, rfl, rfl, trivial⟩, hW⟩
    rintro a w ⟨x3, v3, hj, hF, hW⟩
    have hj := Option.some.inj hj
    subst hj
    have H := K2
    clear G2 K2
    refine c_seq ?_
    refine reg_list ?_
    refine ls hF hW rfl ((y_assign hF rfl).q) (fun a w hF hW => ?_)
    refine ls_nil ?_
    refine c_then ?_
    obtain ⟨o8, G8, K8⟩ := bindE H
    refine c_seqJ (fun a w => ∃ x15 : List Int, ∃ v10 : Value, some (x15) = some o8 ∧ Fr 68 [] [(6, .slice none 0 0), (10, v10)] a ∧ Stw ⟨Y, [], w0⟩ [] [row v10 3 (Rp.int .i64) x15] w) ?_ ?_
    ·
      have H := G8
      clear G8 K8
      refine c_seq ?_
      refine reg_list ?_
      refine ls hF hW rfl ((y_assign hF rfl).q) (fun a w hF hW => ?_)
      refine ls_nil ?_
      refine c_then ?_
      refine wp_block ?_
      have hW := hW.nilRow 3 (Rp.int .i64)
      have hW := hW.frontZ (i := 1) rfl rfl
      refine c_loopW H (fun s a w => ∃ v11 : Value, Fr 68 [] [(0, .int .i64 p0), (6, .slice none 0 0), (7, v3), (10, v11), (11, .int .i64 s.2)] a ∧ Stw ⟨Y, [], w0⟩ [] [row v3 3 (Rp.int .i64) x3, row v11 3 (Rp.int .i64) s.1] w) ⟨(Value.slice none 0 0), hF.re ⟨rfl, rfl, rfl, rfl, rfl, trivial⟩, hW⟩ (fun s o a w H L9 hR => ?_)
      obtain ⟨x16, x17⟩ := s
      obtain ⟨v11, hF, hW⟩ := hR
      have hF : Fr 68 [] [(0, .int .i64 p0), (6, .slice none 0 0), (7, v3), (10, v11), (11, .int .i64 x17)] a := hF
      have hW : Stw ⟨Y, [], w0⟩ [] [row v3 3 (Rp.int .i64) x3, row v11 3 (Rp.int .i64) x16] w := hW
      rw [r20_Reach_l3] at H
      refine c_seq ?_
      refine c_seq ?_
      refine reg_list ?_
      refine ls hF hW rfl ((y_move hF rfl).q) (fun a w hF hW => ?_)
      refine ls hF hW rfl ((y_move hF rfl).q) (fun a w hF hW => ?_)
      refine ls hF hW rfl ((y_lss hF rfl rfl).q) (fun a w hF hW => ?_)
      refine ls_nil ?_
      refine c_then ?_
      refine c_cond hF rfl (fun hb => ?_) (fun hb => ?_)
      ·
        have H := iteT (of_decide_eq_true hb) H
        rw [hb] at hF
        clear hb
        refine wp_skip ?_
        refine c_then ?_
        obtain ⟨o10, G10, K10⟩ := bindE H
        refine c_seqJ (fun a w => ∃ x18 : List Int, ∃ v12 : Value, some (x18) = some o10 ∧ Fr 68 [] [(0, .int .i64 p0), (6, .slice none 0 0), (7, v3), (10, v12), (11, .int .i64 x17)] a ∧ Stw ⟨Y, [], w0⟩ [] [row v3 3 (Rp.int .i64) x3, row v12 3 (Rp.int .i64) x18] w) ?_ ?_
        ·
          have H := G10
          clear G10 K10
          refine wp_block ?_
          refine c_seq ?_
          refine reg_list ?_
          refine ls hF hW rfl ((y_move hF rfl).q) (fun a w hF hW => ?_)
          refine ls hF hW rfl ((y_move hF rfl).q) (fun a w hF hW => ?_)
          obtain ⟨x19, h6, H⟩ := bindE H
          refine ls hF hW rfl (y_call (v := Value.bool x19) hF H29 rfl (fun w hW => r20_has_c any w (v3) x3 x17 _ h6 (((rdc_row 0 rfl) : Rdc _ _ _ _ _ _) w hW).nx)) (fun a w hF hW => ?_)
          refine ls_nil ?_
          refine c_then ?_
          refine c_cond hF rfl (fun hb => ?_) (fun hb => ?_)
          ·
            have H := iteT hb H
            rw [hb] at hF
            clear hb
            refine reg_list ?_
            refine ls hF hW rfl ((y_move hF rfl).q) (fun a w hF hW => ?_)
            refine ls hF hW rfl ((y_move hF rfl).q) (fun a w hF hW => ?_)
            refine l_lit (z := Value.int .i64 0) (cs := [.int .i64 x17]) (Rp.int .i64) ([x17] : List Int) hF hW rfl L26 Z3 rfl rfl rfl rfl rfl rfl (Fl.int.repL _ _ ([x17] : List Int)) (fun v13 a w hF hW => ?_)
            obtain ⟨x20, h7, H⟩ := bindE H
            refine l_append (r := (Rp.int .i64)) (i := 2) hF hW rfl L26 rfl rfl rfl rfl (src_row hW 0 rfl) h7 rfl (fun v14 a w hF hW => ?_)
            have hW : Stw ⟨Y, [], w0⟩ [] [row v14 3 (Rp.int .i64) x20, row v13 3 (Rp.int .i64) ([x17] : List Int), row v3 3 (Rp.int .i64) x3] w := hW
            refine ls hF hW rfl ((y_assign hF rfl).q) (fun a w hF hW => ?_)
            refine ls_nil ?_
            refine b_normal ?_
            refine c_then ?_
            have hW := hW.frontZ (i := 2) rfl rfl
            have hW := hW.sub (M' := []) (Z' := [row v3 3 (Rp.int .i64) x3, row v14 3 (Rp.int .i64) x20]) (List.Sublist.refl _) (List.Sublist.cons_cons _ (List.Sublist.cons_cons _ (List.nil_sublist _)))
            exact ⟨_, (v14), H, hF.re ⟨rfl, rfl, rfl, rfl, rfl, trivial⟩, hW⟩
          ·
            have H := iteF (by rw [hb]; decide) H
            rw [hb] at hF
            clear hb
            refine wp_skip ?_
            refine b_normal ?_
            refine c_then ?_
            have hW := hW.frontZ (i := 1) rfl rfl
            have hW := hW.frontZ (i := 1) rfl rfl
            exact ⟨_, (v11), H, hF.re ⟨rfl, rfl, rfl, rfl, rfl, trivial⟩, hW⟩
        rintro a w ⟨x18, v12, hj, hF, hW⟩
        have hj := Option.some.inj hj
        subst hj
        have H := K10
        clear G10 K10
        refine reg_list ?_
        refine ls hF hW rfl ((y_move hF rfl).q) (fun a w hF hW => ?_)
        refine ls hF hW rfl ((y_add hF rfl rfl rfl).q) (fun a w hF hW => ?_)
        refine ls hF hW rfl ((y_assign hF rfl).q) (fun a w hF hW => ?_)
        refine ls_nil ?_
        refine c_then ?_
        have hW := hW.frontZ (i := 1) rfl rfl
        have hW := hW.frontZ (i := 1) rfl rfl
        exact ⟨_, H, (v12), hF.re ⟨rfl, rfl, rfl, rfl, rfl, trivial⟩, hW⟩
      ·
        have H := iteF (of_decide_eq_false hb) H
        rw [hb] at hF
        clear hb
        refine wp_exit ?_
        refine e_then ?_
        refine e_then ?_
        refine e_block ?_
        refine c_then ?_
        have hW := hW.frontZ (i := 1) rfl rfl
        have hW := hW.sub (M' := []) (Z' := [row v11 3 (Rp.int .i64) x16]) (List.Sublist.refl _) (List.Sublist.cons_cons _ (List.nil_sublist _))
        have H := L9 _ H
        exact ⟨_, (v11), H, hF.re ⟨rfl, rfl, trivial⟩, hW⟩
    rintro a w ⟨x15, v10, hj, hF, hW⟩
    have hj := Option.some.inj hj
    subst hj
    have H := K8
    clear G8 K8
    refine c_seq ?_
    refine reg_list ?_
    refine ls hF hW rfl ((y_move hF rfl).q) (fun a w hF hW => ?_)
    refine ls hF hW rfl ((y_assign hF rfl).q) (fun a w hF hW => ?_)
    refine ls_nil ?_
    refine c_then ?_
    refine wp_ret ?_
    have H := Option.some.inj H
    subst H
    refine post1 (.inl rfl) hF hW rfl (rv_tmp hF rfl) ?_
    exact ⟨(v10), rfl, hW⟩

theorem H14 : Has Try.prog 14 := ⟨fun args w => run_callFunc_body Try.func14 rfl (by decide) args w⟩
noncomputable def graph_Far_l2 (p0 : Int) (x2 : (Int × Int × Int × Int × Int × Int × Int × Int × Int × Int × Int × Int × Int × Int × Int × Int)) (x8 : Int) : (List Int × Int) → Option ((List Int × Int) ⊕ (List Int))
  | (x9, x10) => (if x10 < p0 then ((ix ([x2.1, x2.2.1, x2.2.2.1, x2.2.2.2.1, x2.2.2.2.2.1, x2.2.2.2.2.2.1, x2.2.2.2.2.2.2.1, x2.2.2.2.2.2.2.2.1, x2.2.2.2.2.2.2.2.2.1, x2.2.2.2.2.2.2.2.2.2.1, x2.2.2.2.2.2.2.2.2.2.2.1, x2.2.2.2.2.2.2.2.2.2.2.2.1, x2.2.2.2.2.2.2.2.2.2.2.2.2.1, x2.2.2.2.2.2.2.2.2.2.2.2.2.2.1, x2.2.2.2.2.2.2.2.2.2.2.2.2.2.2.1, x2.2.2.2.2.2.2.2.2.2.2.2.2.2.2.2] : List Int) x8).bind fun x12 => (graph_set_has x12 x10).bind fun x13 => (if x13 = true then (ix x9 x8).bind fun x14 => (ix x9 x10).bind fun x15 => (ix x9 x8).bind fun x16 => some (setAt x9 x8 (max x14 (w64 (x15 + 1)))) else some x9)).bind fun x11 => some (.inl (x11, w64 (x10 + 1))) else some (.inr x9))
noncomputable def graph_Far_l1 (p0 : Int) (x1 : List Int × Bool) (x2 : (Int × Int × Int × Int × Int × Int × Int × Int × Int × Int × Int × Int × Int × Int × Int × Int)) : (List Int × Int) → Option ((List Int × Int) ⊕ (List Int))
  | (x5, x6) => (if x6 < (x1.1.length : Int) then ((ix x1.1 x6).bind fun x8 => loopW (graph_Far_l2 p0 x2 x8) (x5, 0)).bind fun x7 => some (.inl (x7, w64 (x6 + 1))) else some (.inr x5))
noncomputable def graph_Far (p0 : Int) (p1 : List (Int × Int)) : Option (List Int × Bool) := (graph_Order p0 p1).bind fun x1 => (if (!x1.2) = true then some (([] : List Int), false) else (graph_predecessors p1).bind fun x2 => (mk p0 (0 : Int)).bind fun x3 => (loopW (graph_Far_l1 p0 x1 x2) (x3, 0)).bind fun x4 => some (x4, true))
theorem graph_Far_c (Y : Nat → Prop) (w0 : World) (v1 : Value) (p0 : Int) (p1 : List (Int × Int)) (r : List Int × Bool) (H : graph_Far p0 p1 = some r) (h_v1 : Sl w0 (NX []) R42 v1 p1) :
    Calls Try.prog 15 #[.int .i64 p0, v1] w0 fun e w' => ∃ x : Value, e = .returned (.tuple #[x, .bool r.2]) ∧ Stw ⟨Y, [], w0⟩ [] [row (x) 3 (Rp.int .i64) r.1] w' := by
  refine enter Try.func15 rfl Try.ntmps15 rfl (fun a hF => ?_)
  have hW := Stw.start Y w0
  unfold graph_Far at H
  refine c_seq ?_
  refine reg_list ?_
  refine ls hF hW rfl ((y_assign hF rfl).q) (fun a w hF hW => ?_)
  refine ls hF hW rfl ((y_assign hF rfl).q) (fun a w hF hW => ?_)
  refine ls_nil ?_
  refine c_then ?_
  refine c_seq ?_
  refine reg_list ?_
  refine ls hF hW rfl ((y_move hF rfl).q) (fun a w hF hW => ?_)
  refine ls hF hW rfl ((y_move hF rfl).q) (fun a w hF hW => ?_)
  obtain ⟨x1, h1, H⟩ := bindE H
  refine l_callG (Ml := []) (Zl := []) (M := []) (Z := []) (β := Value) (rv := fun x => .tuple #[x, .bool x1.2]) (MM := fun x => []) (ZZ := fun x => [row x 3 (Rp.int .i64) x1.1]) hF hW H8 rfl rfl (fun hL => graph_Order_c _ w (v1) p0 p1 _ h1 ((rdc_ro h_v1) w hW).nx) (fun x a w hF hW => ?_)
  obtain ⟨v2, rfl⟩ : ∃ y, y = x := ⟨x, rfl⟩
  have hW : Stw ⟨Y, [], w0⟩ [] [row v2 3 (Rp.int .i64) x1.1] w := hW
  refine ls hF hW rfl ((y_move hF rfl).q) (fun a w hF hW => ?_)
  refine ls hF hW rfl ((y_extract (v := v2) hF rfl rfl).q) (fun a w hF hW => ?_)
  refine ls hF hW rfl ((y_extract (v := Value.bool x1.2) hF rfl rfl).q) (fun a w hF hW => ?_)
  refine ls hF hW rfl ((y_assign hF rfl).q) (fun a w hF hW => ?_)
  refine ls hF hW rfl ((y_assign hF rfl).q) (fun a w hF hW => ?_)
  refine ls_nil ?_
  refine c_then ?_
  refine c_seq ?_
  refine c_seq ?_
  refine reg_list ?_
  refine ls hF hW rfl ((y_move hF rfl).q) (fun a w hF hW => ?_)
  refine ls hF hW rfl ((y_not hF rfl).q) (fun a w hF hW => ?_)
  refine ls_nil ?_
  refine c_then ?_
  refine c_cond hF rfl (fun hb => ?_) (fun hb => ?_)
  ·
    have H := iteT hb H
    rw [hb] at hF
    clear hb
    refine c_seq ?_
    refine reg_list ?_
    refine ls hF hW rfl ((y_assign hF rfl).q) (fun a w hF hW => ?_)
    refine ls hF hW rfl ((y_assign hF rfl).q) (fun a w hF hW => ?_)
    refine ls_nil ?_
    refine c_then ?_
    refine wp_ret ?_
    refine r_then ?_
    have H := Option.some.inj H
    subst H
    refine post2 (.inl rfl) hF hW rfl (rv_tmp hF rfl) (rv_tmp hF rfl) ?_
    have hW := hW.nilRow 3 (Rp.int .i64)
    have hW := hW.sub (M' := []) (Z' := [row (Value.slice none 0 0) 3 (Rp.int .i64) ([])]) (List.Sublist.refl _) (List.Sublist.cons_cons _ (List.nil_sublist _))
    exact ⟨(Value.slice none 0 0), rfl, hW⟩
  ·
    have H := iteF (by rw [hb]; decide) H
    rw [hb] at hF
    clear hb
    refine wp_skip ?_
    refine c_then ?_
    refine c_seq ?_
    refine reg_list ?_
    refine ls hF hW rfl ((y_move hF rfl).q) (fun a w hF hW => ?_)
    obtain ⟨x2, h2, H⟩ := bindE H
    refine ls hF hW rfl (y_call (v := Value.agg #[.int .u32 x2.1, .int .u32 x2.2.1, .int .u32 x2.2.2.1, .int .u32 x2.2.2.2.1, .int .u32 x2.2.2.2.2.1, .int .u32 x2.2.2.2.2.2.1, .int .u32 x2.2.2.2.2.2.2.1, .int .u32 x2.2.2.2.2.2.2.2.1, .int .u32 x2.2.2.2.2.2.2.2.2.1, .int .u32 x2.2.2.2.2.2.2.2.2.2.1, .int .u32 x2.2.2.2.2.2.2.2.2.2.2.1, .int .u32 x2.2.2.2.2.2.2.2.2.2.2.2.1, .int .u32 x2.2.2.2.2.2.2.2.2.2.2.2.2.1, .int .u32 x2.2.2.2.2.2.2.2.2.2.2.2.2.2.1, .int .u32 x2.2.2.2.2.2.2.2.2.2.2.2.2.2.2.1, .int .u32 x2.2.2.2.2.2.2.2.2.2.2.2.2.2.2.2]) hF H21 rfl (fun w hW => graph_predecessors_c any w (v1) p1 _ h2 (((rdc_ro h_v1) : Rdc _ _ _ _ _ _) w hW).nx)) (fun a w hF hW => ?_)
    refine l_alloc (cs := [.int .u32 0, .int .u32 0, .int .u32 0, .int .u32 0, .int .u32 0, .int .u32 0, .int .u32 0, .int .u32 0, .int .u32 0, .int .u32 0, .int .u32 0, .int .u32 0, .int .u32 0, .int .u32 0, .int .u32 0, .int .u32 0]) hF hW rfl Z46 rfl (fun b1 a w hF hW => ?_)
    refine l_store (vs := [.int .u32 x2.1, .int .u32 x2.2.1, .int .u32 x2.2.2.1, .int .u32 x2.2.2.2.1, .int .u32 x2.2.2.2.2.1, .int .u32 x2.2.2.2.2.2.1, .int .u32 x2.2.2.2.2.2.2.1, .int .u32 x2.2.2.2.2.2.2.2.1, .int .u32 x2.2.2.2.2.2.2.2.2.1, .int .u32 x2.2.2.2.2.2.2.2.2.2.1, .int .u32 x2.2.2.2.2.2.2.2.2.2.2.1, .int .u32 x2.2.2.2.2.2.2.2.2.2.2.2.1, .int .u32 x2.2.2.2.2.2.2.2.2.2.2.2.2.1, .int .u32 x2.2.2.2.2.2.2.2.2.2.2.2.2.2.1, .int .u32 x2.2.2.2.2.2.2.2.2.2.2.2.2.2.2.1, .int .u32 x2.2.2.2.2.2.2.2.2.2.2.2.2.2.2.2]) (M' := [(b1, [.int .u32 x2.1, .int .u32 x2.2.1, .int .u32 x2.2.2.1, .int .u32 x2.2.2.2.1, .int .u32 x2.2.2.2.2.1, .int .u32 x2.2.2.2.2.2.1, .int .u32 x2.2.2.2.2.2.2.1, .int .u32 x2.2.2.2.2.2.2.2.1, .int .u32 x2.2.2.2.2.2.2.2.2.1, .int .u32 x2.2.2.2.2.2.2.2.2.2.1, .int .u32 x2.2.2.2.2.2.2.2.2.2.2.1, .int .u32 x2.2.2.2.2.2.2.2.2.2.2.2.1, .int .u32 x2.2.2.2.2.2.2.2.2.2.2.2.2.1, .int .u32 x2.2.2.2.2.2.2.2.2.2.2.2.2.2.1, .int .u32 x2.2.2.2.2.2.2.2.2.2.2.2.2.2.2.1, .int .u32 x2.2.2.2.2.2.2.2.2.2.2.2.2.2.2.2])]) 0 hF hW rfl rfl rfl T46 rfl rfl rfl rfl rfl (fun w hW => ?_)
    refine ls_nil ?_
    refine c_then ?_
    refine c_seq ?_
    refine reg_list ?_
    refine ls hF hW rfl ((y_move hF rfl).q) (fun a w hF hW => ?_)
    obtain ⟨x3, h3, H⟩ := bindE H
    refine l_make (r := (Rp.int .i64)) (0 : Int) hF hW rfl L26 Z3 rfl rfl (fun w A => Fl.int.mk' w A _) h3 rfl (fun v3 a w hF hW => ?_)
    refine ls hF hW rfl ((y_assign hF rfl).q) (fun a w hF hW => ?_)
    refine ls_nil ?_
    refine c_then ?_
    obtain ⟨o1, G1, K1⟩ := bindE H
    refine c_seqJ (fun a w => ∃ x4 : List Int, some (x4) = some o1 ∧ Fr 56 [] [(4, .slice none 0 0), (5, .bool false), (9, v3)] a ∧ Stw ⟨Y, [], w0⟩ [(b1, [.int .u32 x2.1, .int .u32 x2.2.1, .int .u32 x2.2.2.1, .int .u32 x2.2.2.2.1, .int .u32 x2.2.2.2.2.1, .int .u32 x2.2.2.2.2.2.1, .int .u32 x2.2.2.2.2.2.2.1, .int .u32 x2.2.2.2.2.2.2.2.1, .int .u32 x2.2.2.2.2.2.2.2.2.1, .int .u32 x2.2.2.2.2.2.2.2.2.2.1, .int .u32 x2.2.2.2.2.2.2.2.2.2.2.1, .int .u32 x2.2.2.2.2.2.2.2.2.2.2.2.1, .int .u32 x2.2.2.2.2.2.2.2.2.2.2.2.2.1, .int .u32 x2.2.2.2.2.2.2.2.2.2.2.2.2.2.1, .int .u32 x2.2.2.2.2.2.2.2.2.2.2.2.2.2.2.1, .int .u32 x2.2.2.2.2.2.2.2.2.2.2.2.2.2.2.2])] [row v3 3 (Rp.int .i64) x4] w) ?_ ?_
    ·
      have H := G1
      clear G1 K1
      refine c_seq ?_
      refine reg_list ?_
      refine ls hF hW rfl ((y_move hF rfl).q) (fun a w hF hW => ?_)
      refine ls hF hW rfl ((y_len (r := (Rp.int .i64)) (l := x1.1) Try.underlying26 rfl hF rfl (rdc_row 1 rfl)).q) (fun a w hF hW => ?_)
      refine ls hF hW rfl ((y_move hF rfl).q) (fun a w hF hW => ?_)
      refine ls_nil ?_
      refine c_then ?_
      refine wp_block ?_
      have hW := hW.frontZ (i := 1) rfl rfl
      have hW := hW.frontZ (i := 1) rfl rfl
      refine c_loopW H (fun s a w => Fr 56 [] [(0, .int .i64 p0), (4, .slice none 0 0), (5, .bool false), (8, .pointer (some ⟨b1, 0, none⟩)), (9, v3), (25, v2), (26, .int .i64 (x1.1.length : Int)), (27, .int .i64 s.2)] a ∧ Stw ⟨Y, [], w0⟩ [(b1, [.int .u32 x2.1, .int .u32 x2.2.1, .int .u32 x2.2.2.1, .int .u32 x2.2.2.2.1, .int .u32 x2.2.2.2.2.1, .int .u32 x2.2.2.2.2.2.1, .int .u32 x2.2.2.2.2.2.2.1, .int .u32 x2.2.2.2.2.2.2.2.1, .int .u32 x2.2.2.2.2.2.2.2.2.1, .int .u32 x2.2.2.2.2.2.2.2.2.2.1, .int .u32 x2.2.2.2.2.2.2.2.2.2.2.1, .int .u32 x2.2.2.2.2.2.2.2.2.2.2.2.1, .int .u32 x2.2.2.2.2.2.2.2.2.2.2.2.2.1, .int .u32 x2.2.2.2.2.2.2.2.2.2.2.2.2.2.1, .int .u32 x2.2.2.2.2.2.2.2.2.2.2.2.2.2.2.1, .int .u32 x2.2.2.2.2.2.2.2.2.2.2.2.2.2.2.2])] [row v3 3 (Rp.int .i64) s.1, row v2 3 (Rp.int .i64) x1.1] w) ⟨hF.re ⟨rfl, rfl, rfl, rfl, rfl, rfl, rfl, rfl, trivial⟩, hW⟩ (fun s o a w H L2 hR => ?_)
      obtain ⟨x5, x6⟩ := s
      obtain ⟨hF, hW⟩ := hR
      have hF : Fr 56 [] [(0, .int .i64 p0), (4, .slice none 0 0), (5, .bool false), (8, .pointer (some ⟨b1, 0, none⟩)), (9, v3), (25, v2), (26, .int .i64 (x1.1.length : Int)), (27, .int .i64 x6)] a := hF
      have hW : Stw ⟨Y, [], w0⟩ [(b1, [.int .u32 x2.1, .int .u32 x2.2.1, .int .u32 x2.2.2.1, .int .u32 x2.2.2.2.1, .int .u32 x2.2.2.2.2.1, .int .u32 x2.2.2.2.2.2.1, .int .u32 x2.2.2.2.2.2.2.1, .int .u32 x2.2.2.2.2.2.2.2.1, .int .u32 x2.2.2.2.2.2.2.2.2.1, .int .u32 x2.2.2.2.2.2.2.2.2.2.1, .int .u32 x2.2.2.2.2.2.2.2.2.2.2.1, .int .u32 x2.2.2.2.2.2.2.2.2.2.2.2.1, .int .u32 x2.2.2.2.2.2.2.2.2.2.2.2.2.1, .int .u32 x2.2.2.2.2.2.2.2.2.2.2.2.2.2.1, .int .u32 x2.2.2.2.2.2.2.2.2.2.2.2.2.2.2.1, .int .u32 x2.2.2.2.2.2.2.2.2.2.2.2.2.2.2.2])] [row v3 3 (Rp.int .i64) x5, row v2 3 (Rp.int .i64) x1.1] w := hW
      rw [graph_Far_l1] at H
      refine c_seq ?_
      refine reg_list ?_
      refine ls hF hW rfl ((y_lss hF rfl rfl).q) (fun a w hF hW => ?_)
      refine ls_nil ?_
      refine c_then ?_
      refine c_seq ?_
      refine c_cond hF rfl (fun hb => ?_) (fun hb => ?_)
      ·
        have H := iteT (of_decide_eq_true hb) H
        rw [hb] at hF
        clear hb
        refine wp_skip ?_
        refine c_then ?_
        obtain ⟨o3, G3, K3⟩ := bindE H
        refine c_seqJ (fun a w => ∃ x7 : List Int, some (x7) = some o3 ∧ Fr 56 [] [(0, .int .i64 p0), (4, .slice none 0 0), (5, .bool false), (8, .pointer (some ⟨b1, 0, none⟩)), (9, v3), (25, v2), (26, .int .i64 (x1.1.length : Int)), (27, .int .i64 x6)] a ∧ Stw ⟨Y, [], w0⟩ [(b1, [.int .u32 x2.1, .int .u32 x2.2.1, .int .u32 x2.2.2.1, .int .u32 x2.2.2.2.1, .int .u32 x2.2.2.2.2.1, .int .u32 x2.2.2.2.2.2.1, .int .u32 x2.2.2.2.2.2.2.1, .int .u32 x2.2.2.2.2.2.2.2.1, .int .u32 x2.2.2.2.2.2.2.2.2.1, .int .u32 x2.2.2.2.2.2.2.2.2.2.1, .int .u32 x2.2.2.2.2.2.2.2.2.2.2.1, .int .u32 x2.2.2.2.2.2.2.2.2.2.2.2.1, .int .u32 x2.2.2.2.2.2.2.2.2.2.2.2.2.1, .int .u32 x2.2.2.2.2.2.2.2.2.2.2.2.2.2.1, .int .u32 x2.2.2.2.2.2.2.2.2.2.2.2.2.2.2.1, .int .u32 x2.2.2.2.2.2.2.2.2.2.2.2.2.2.2.2])] [row v3 3 (Rp.int .i64) x7, row v2 3 (Rp.int .i64) x1.1] w) ?_ ?_
        ·
          have H := G3
          clear G3 K3
          refine wp_block ?_
          refine c_seq ?_
          refine reg_list ?_
          obtain ⟨x8, h4, H⟩ := bindE H
          refine ls hF hW rfl ((y_index (r := (Rp.int .i64)) L26 hF rfl rfl (rdc_row 1 rfl) h4).q) (fun a w hF hW => ?_)
          refine ls hF hW rfl ((y_load_el (y := Value.int .i64 x8) (j := 0) (i := x6) hF rfl rfl (rdc_row 1 rfl) h4 Fl.int.to T3 rfl).q) (fun a w hF hW => ?_)
          refine ls hF hW rfl ((y_assign hF rfl).q) (fun a w hF hW => ?_)
          refine ls_nil ?_
          refine c_then ?_
          refine c_seq ?_
          refine reg_list ?_
          refine ls hF hW rfl ((y_move hF rfl).q) (fun a w hF hW => ?_)
          refine ls hF hW rfl ((y_move hF rfl).q) (fun a w hF hW => ?_)
          refine ls_nil ?_
          refine c_then ?_
          refine wp_block ?_
          have hW := hW.frontZ (i := 1) rfl rfl
          have hW := hW.frontZ (i := 1) rfl rfl
          refine c_loopW H (fun s a w => Fr 56 [] [(0, .int .i64 p0), (4, .slice none 0 0), (5, .bool false), (8, .pointer (some ⟨b1, 0, none⟩)), (9, v3), (11, .int .i64 x8), (25, v2), (26, .int .i64 (x1.1.length : Int)), (27, .int .i64 x6), (31, .int .i64 p0), (32, .int .i64 s.2)] a ∧ Stw ⟨Y, [], w0⟩ [(b1, [.int .u32 x2.1, .int .u32 x2.2.1, .int .u32 x2.2.2.1, .int .u32 x2.2.2.2.1, .int .u32 x2.2.2.2.2.1, .int .u32 x2.2.2.2.2.2.1, .int .u32 x2.2.2.2.2.2.2.1, .int .u32 x2.2.2.2.2.2.2.2.1, .int .u32 x2.2.2.2.2.2.2.2.2.1, .int .u32 x2.2.2.2.2.2.2.2.2.2.1, .int .u32 x2.2.2.2.2.2.2.2.2.2.2.1, .int .u32 x2.2.2.2.2.2.2.2.2.2.2.2.1, .int .u32 x2.2.2.2.2.2.2.2.2.2.2.2.2.1, .int .u32 x2.2.2.2.2.2.2.2.2.2.2.2.2.2.1, .int .u32 x2.2.2.2.2.2.2.2.2.2.2.2.2.2.2.1, .int .u32 x2.2.2.2.2.2.2.2.2.2.2.2.2.2.2.2])] [row v3 3 (Rp.int .i64) s.1, row v2 3 (Rp.int .i64) x1.1] w) ⟨hF.re ⟨rfl, rfl, rfl, rfl, rfl, rfl, rfl, rfl, rfl, rfl, rfl, trivial⟩, hW⟩ (fun s o a w H L4 hR => ?_)
          obtain ⟨x9, x10⟩ := s
          obtain ⟨hF, hW⟩ := hR
          have hF : Fr 56 [] [(0, .int .i64 p0), (4, .slice none 0 0), (5, .bool false), (8, .pointer (some ⟨b1, 0, none⟩)), (9, v3), (11, .int .i64 x8), (25, v2), (26, .int .i64 (x1.1.length : Int)), (27, .int .i64 x6), (31, .int .i64 p0), (32, .int .i64 x10)] a := hF
          have hW : Stw ⟨Y, [], w0⟩ [(b1, [.int .u32 x2.1, .int .u32 x2.2.1, .int .u32 x2.2.2.1, .int .u32 x2.2.2.2.1, .int .u32 x2.2.2.2.2.1, .int .u32 x2.2.2.2.2.2.1, .int .u32 x2.2.2.2.2.2.2.1, .int .u32 x2.2.2.2.2.2.2.2.1, .int .u32 x2.2.2.2.2.2.2.2.2.1, .int .u32 x2.2.2.2.2.2.2.2.2.2.1, .int .u32 x2.2.2.2.2.2.2.2.2.2.2.1, .int .u32 x2.2.2.2.2.2.2.2.2.2.2.2.1, .int .u32 x2.2.2.2.2.2.2.2.2.2.2.2.2.1, .int .u32 x2.2.2.2.2.2.2.2.2.2.2.2.2.2.1, .int .u32 x2.2.2.2.2.2.2.2.2.2.2.2.2.2.2.1, .int .u32 x2.2.2.2.2.2.2.2.2.2.2.2.2.2.2.2])] [row v3 3 (Rp.int .i64) x9, row v2 3 (Rp.int .i64) x1.1] w := hW
          rw [graph_Far_l2] at H
          refine c_seq ?_
          refine reg_list ?_
          refine ls hF hW rfl ((y_lss hF rfl rfl).q) (fun a w hF hW => ?_)
          refine ls_nil ?_
          refine c_then ?_
          refine c_seq ?_
          refine c_cond hF rfl (fun hb => ?_) (fun hb => ?_)
          ·
            have H := iteT (of_decide_eq_true hb) H
            rw [hb] at hF
            clear hb
            refine wp_skip ?_
            refine c_then ?_
            obtain ⟨o5, G5, K5⟩ := bindE H
            refine c_seqJ (fun a w => ∃ x11 : List Int, some (x11) = some o5 ∧ Fr 56 [] [(0, .int .i64 p0), (4, .slice none 0 0), (5, .bool false), (8, .pointer (some ⟨b1, 0, none⟩)), (9, v3), (11, .int .i64 x8), (25, v2), (26, .int .i64 (x1.1.length : Int)), (27, .int .i64 x6), (31, .int .i64 p0), (32, .int .i64 x10)] a ∧ Stw ⟨Y, [], w0⟩ [(b1, [.int .u32 x2.1, .int .u32 x2.2.1, .int .u32 x2.2.2.1, .int .u32 x2.2.2.2.1, .int .u32 x2.2.2.2.2.1, .int .u32 x2.2.2.2.2.2.1, .int .u32 x2.2.2.2.2.2.2.1, .int .u32 x2.2.2.2.2.2.2.2.1, .int .u32 x2.2.2.2.2.2.2.2.2.1, .int .u32 x2.2.2.2.2.2.2.2.2.2.1, .int .u32 x2.2.2.2.2.2.2.2.2.2.2.1, .int .u32 x2.2.2.2.2.2.2.2.2.2.2.2.1, .int .u32 x2.2.2.2.2.2.2.2.2.2.2.2.2.1, .int .u32 x2.2.2.2.2.2.2.2.2.2.2.2.2.2.1, .int .u32 x2.2.2.2.2.2.2.2.2.2.2.2.2.2.2.1, .int .u32 x2.2.2.2.2.2.2.2.2.2.2.2.2.2.2.2])] [row v3 3 (Rp.int .i64) x11, row v2 3 (Rp.int .i64) x1.1] w) ?_ ?_
            ·
              have H := G5
              clear G5 K5
              refine wp_block ?_
              refine c_seq ?_
              refine reg_list ?_
              refine ls hF hW rfl ((y_move hF rfl).q) (fun a w hF hW => ?_)
              refine ls hF hW rfl ((y_assign hF rfl).q) (fun a w hF hW => ?_)
              refine ls_nil ?_
              refine c_then ?_
              refine c_seq ?_
              refine reg_list ?_
              refine ls hF hW rfl ((y_move hF rfl).q) (fun a w hF hW => ?_)
              obtain ⟨x12, h5, H⟩ := bindE H
              refine ls hF hW rfl ((y_indexP (0 + (x8).toNat * 1) Ar46 hF rfl rfl rfl h5 rfl).q) (fun a w hF hW => ?_)
              refine ls hF hW rfl ((y_load (v := Value.int .u32 x12) 0 hF rfl rfl T45 (rdv_dyn (base := 0) (m := 16) (l := [x2.1, x2.2.1, x2.2.2.1, x2.2.2.2.1, x2.2.2.2.2.1, x2.2.2.2.2.2.1, x2.2.2.2.2.2.2.1, x2.2.2.2.2.2.2.2.1, x2.2.2.2.2.2.2.2.2.1, x2.2.2.2.2.2.2.2.2.2.1, x2.2.2.2.2.2.2.2.2.2.2.1, x2.2.2.2.2.2.2.2.2.2.2.2.1, x2.2.2.2.2.2.2.2.2.2.2.2.2.1, x2.2.2.2.2.2.2.2.2.2.2.2.2.2.1, x2.2.2.2.2.2.2.2.2.2.2.2.2.2.2.1, x2.2.2.2.2.2.2.2.2.2.2.2.2.2.2.2]) (enc := Value.int .u32) rfl h5)).q) (fun a w hF hW => ?_)
              refine ls hF hW rfl ((y_move hF rfl).q) (fun a w hF hW => ?_)
              obtain ⟨x13, h6, H⟩ := bindE H
              refine ls hF hW rfl (y_call (v := Value.bool x13) hF H30 rfl (fun w hW => graph_set_has_c any w x12 x10 _ h6)) (fun a w hF hW => ?_)
              refine ls_nil ?_
              refine c_then ?_
              refine c_cond hF rfl (fun hb => ?_) (fun hb => ?_)
              ·
                have H := iteT hb H
                rw [hb] at hF
                clear hb
                refine reg_tail 13 hW MO (by kernel_rfl) ?_
                refine qs hF rfl ((y_move hF rfl).q) (fun a hF => ?_)
                refine qs hF rfl ((y_move hF rfl).q) (fun a hF => ?_)
                refine qs hF rfl ((y_move hF rfl).q) (fun a hF => ?_)
                refine qs hF rfl ((y_move hF rfl).q) (fun a hF => ?_)
                obtain ⟨x14, h7, H⟩ := bindE H
                refine qs hF rfl ((y_index (r := (Rp.int .i64)) L26 hF rfl rfl (rdc_row 0 rfl) h7).q) (fun a hF => ?_)
                refine qs hF rfl ((y_load_el (y := Value.int .i64 x14) (j := 0) (i := x8) hF rfl rfl (rdc_row 0 rfl) h7 Fl.int.to T3 rfl).q) (fun a hF => ?_)
                refine qs hF rfl ((y_move hF rfl).q) (fun a hF => ?_)
                refine qs hF rfl ((y_move hF rfl).q) (fun a hF => ?_)
                obtain ⟨x15, h8, H⟩ := bindE H
                refine qs hF rfl ((y_index (r := (Rp.int .i64)) L26 hF rfl rfl (rdc_row 0 rfl) h8).q) (fun a hF => ?_)
                refine qs hF rfl ((y_load_el (y := Value.int .i64 x15) (j := 0) (i := x10) hF rfl rfl (rdc_row 0 rfl) h8 Fl.int.to T3 rfl).q) (fun a hF => ?_)
                refine qs hF rfl ((y_add hF rfl rfl rfl).q) (fun a hF => ?_)
                refine qs hF rfl ((y_max hF rfl rfl).q) (fun a hF => ?_)
                obtain ⟨x16, h9, H⟩ := bindE H
                refine qs hF rfl ((y_index (r := (Rp.int .i64)) L26 hF rfl rfl (rdc_row 0 rfl) h9).q) (fun a hF => ?_)
                refine quiet_end (fun w hW => ?_)
                refine l_store_el (i := x8) (j := 0) (vs := [.int .i64 (max x14 (w64 (x15 + 1)))]) (x' := max x14 (w64 (x15 + 1))) hF hW rfl rfl rfl (k := 0) rfl rfl h9 T3 rfl rfl rfl rfl (fun A cs _ => Fl.int.sto (by rfl) _ _ _) (fun w hW => ?_)
                refine ls_nil ?_
                refine b_normal ?_
                refine c_then ?_
                have hW := hW.frontZ (i := 1) rfl rfl
                have hW := hW.frontZ (i := 1) rfl rfl
                exact ⟨_, H, hF.re ⟨rfl, rfl, rfl, rfl, rfl, rfl, rfl, rfl, rfl, rfl, rfl, trivial⟩, hW⟩
              ·
                have H := iteF (by rw [hb]; decide) H
                rw [hb] at hF
                clear hb
                refine wp_skip ?_
                refine b_normal ?_
                refine c_then ?_
                have hW := hW.frontZ (i := 1) rfl rfl
                have hW := hW.frontZ (i := 1) rfl rfl
                exact ⟨_, H, hF.re ⟨rfl, rfl, rfl, rfl, rfl, rfl, rfl, rfl, rfl, rfl, rfl, trivial⟩, hW⟩
            rintro a w ⟨x11, hj, hF, hW⟩
            have hj := Option.some.inj hj
            subst hj
            have H := K5
            clear G5 K5
            refine reg_list ?_
            refine ls hF hW rfl ((y_add hF rfl rfl rfl).q) (fun a w hF hW => ?_)
            refine ls hF hW rfl ((y_move hF rfl).q) (fun a w hF hW => ?_)
            refine ls_nil ?_
            refine c_then ?_
            have hW := hW.frontZ (i := 1) rfl rfl
            have hW := hW.frontZ (i := 1) rfl rfl
            exact ⟨_, H, hF.re ⟨rfl, rfl, rfl, rfl, rfl, rfl, rfl, rfl, rfl, rfl, rfl, trivial⟩, hW⟩
          ·
            have H := iteF (of_decide_eq_false hb) H
            rw [hb] at hF
            clear hb
            refine wp_exit ?_
            refine e_then ?_
            refine e_then ?_
            refine e_block ?_
            refine b_normal ?_
            refine c_then ?_
            have hW := hW.frontZ (i := 1) rfl rfl
            have hW := hW.frontZ (i := 1) rfl rfl
            have H := L4 _ H
            exact ⟨_, H, hF.re ⟨rfl, rfl, rfl, rfl, rfl, rfl, rfl, rfl, trivial⟩, hW⟩
        rintro a w ⟨x7, hj, hF, hW⟩
        have hj := Option.some.inj hj
        subst hj
        have H := K3
        clear G3 K3
        refine reg_list ?_
        refine ls hF hW rfl ((y_add hF rfl rfl rfl).q) (fun a w hF hW => ?_)
        refine ls hF hW rfl ((y_move hF rfl).q) (fun a w hF hW => ?_)
        refine ls_nil ?_
        refine c_then ?_
        have hW := hW.frontZ (i := 1) rfl rfl
        have hW := hW.frontZ (i := 1) rfl rfl
        exact ⟨_, H, hF.re ⟨rfl, rfl, rfl, rfl, rfl, rfl, rfl, rfl, trivial⟩, hW⟩
      ·
        have H := iteF (of_decide_eq_false hb) H
        rw [hb] at hF
        clear hb
        refine wp_exit ?_
        refine e_then ?_
        refine e_then ?_
        refine e_block ?_
        refine c_then ?_
        have hW := hW.sub (M' := [(b1, [.int .u32 x2.1, .int .u32 x2.2.1, .int .u32 x2.2.2.1, .int .u32 x2.2.2.2.1, .int .u32 x2.2.2.2.2.1, .int .u32 x2.2.2.2.2.2.1, .int .u32 x2.2.2.2.2.2.2.1, .int .u32 x2.2.2.2.2.2.2.2.1, .int .u32 x2.2.2.2.2.2.2.2.2.1, .int .u32 x2.2.2.2.2.2.2.2.2.2.1, .int .u32 x2.2.2.2.2.2.2.2.2.2.2.1, .int .u32 x2.2.2.2.2.2.2.2.2.2.2.2.1, .int .u32 x2.2.2.2.2.2.2.2.2.2.2.2.2.1, .int .u32 x2.2.2.2.2.2.2.2.2.2.2.2.2.2.1, .int .u32 x2.2.2.2.2.2.2.2.2.2.2.2.2.2.2.1, .int .u32 x2.2.2.2.2.2.2.2.2.2.2.2.2.2.2.2])]) (Z' := [row v3 3 (Rp.int .i64) x5]) (List.Sublist.refl _) (List.Sublist.cons_cons _ (List.nil_sublist _))
        have H := L2 _ H
        exact ⟨_, H, hF.re ⟨rfl, rfl, rfl, trivial⟩, hW⟩
    rintro a w ⟨x4, hj, hF, hW⟩
    have hj := Option.some.inj hj
    subst hj
    have H := K1
    clear G1 K1
    refine c_seq ?_
    refine reg_list ?_
    refine ls hF hW rfl ((y_move hF rfl).q) (fun a w hF hW => ?_)
    refine ls hF hW rfl ((y_assign hF rfl).q) (fun a w hF hW => ?_)
    refine ls hF hW rfl ((y_assign hF rfl).q) (fun a w hF hW => ?_)
    refine ls_nil ?_
    refine c_then ?_
    refine wp_ret ?_
    have H := Option.some.inj H
    subst H
    refine post2 (.inl rfl) hF hW rfl (rv_tmp hF rfl) (rv_tmp hF rfl) ?_
    have hW := hW.sub (M' := []) (Z' := [row v3 3 (Rp.int .i64) x4]) (List.nil_sublist _) (List.Sublist.refl _)
    exact ⟨(v3), rfl, hW⟩

theorem H15 : Has Try.prog 15 := ⟨fun args w => run_callFunc_body Try.func15 rfl (by decide) args w⟩
noncomputable def r20_Far_l1 (p0 : Int) : (List Int × Int) → Option ((List Int × Int) ⊕ (List Int))
  | (x3, x4) => (if x4 < p0 then (app x3 ([0] : List Int)).bind fun x5 => some (.inl (x5, w64 (x4 + 1))) else some (.inr x3))
noncomputable def r20_Far_l3 (p1 : List (Int × Int)) : (List Int × Int) → Option ((List Int × Int) ⊕ (List Int))
  | (x10, x11) => (if x11 < (p1.length : Int) then ((ix p1 x11).bind fun x13 => (ix x10 x13.2).bind fun x14 => (ix p1 x11).bind fun x15 => (ix x10 x15.1).bind fun x16 => (if x14 < (w64 (x16 + 1)) then (ix p1 x11).bind fun x17 => (ix p1 x11).bind fun x18 => (ix x10 x18.1).bind fun x19 => (ix x10 x17.2).bind fun x20 => some (setAt x10 x17.2 (w64 (x19 + 1))) else some x10)).bind fun x12 => some (.inl (x12, w64 (x11 + 1))) else some (.inr x10))
noncomputable def r20_Far_l2 (p0 : Int) (p1 : List (Int × Int)) : (List Int × Int) → Option ((List Int × Int) ⊕ (List Int))
  | (x7, x8) => (if x8 < p0 then (loopW (r20_Far_l3 p1) (x7, 0)).bind fun x9 => some (.inl (x9, w64 (x8 + 1))) else some (.inr x7))
noncomputable def r20_Far (p0 : Int) (p1 : List (Int × Int)) : Option (List Int × Bool) := (r20_Order p0 p1).bind fun x1 => (if (!x1.2) = true then some (([] : List Int), false) else (loopW (r20_Far_l1 p0) ([], 0)).bind fun x2 => (loopW (r20_Far_l2 p0 p1) (x2, 0)).bind fun x6 => some (x6, true))
theorem r20_Far_c (Y : Nat → Prop) (w0 : World) (v1 : Value) (p0 : Int) (p1 : List (Int × Int)) (r : List Int × Bool) (H : r20_Far p0 p1 = some r) (h_v1 : Sl w0 (NX []) R41 v1 p1) :
    Calls Try.prog 16 #[.int .i64 p0, v1] w0 fun e w' => ∃ x : Value, e = .returned (.tuple #[x, .bool r.2]) ∧ Stw ⟨Y, [], w0⟩ [] [row (x) 3 (Rp.int .i64) r.1] w' := by
  refine enter Try.func16 rfl Try.ntmps16 rfl (fun a hF => ?_)
  have hW := Stw.start Y w0
  unfold r20_Far at H
  refine c_seq ?_
  refine reg_list ?_
  refine ls hF hW rfl ((y_assign hF rfl).q) (fun a w hF hW => ?_)
  refine ls hF hW rfl ((y_assign hF rfl).q) (fun a w hF hW => ?_)
  refine ls_nil ?_
  refine c_then ?_
  refine c_seq ?_
  refine reg_list ?_
  refine ls hF hW rfl ((y_move hF rfl).q) (fun a w hF hW => ?_)
  refine ls hF hW rfl ((y_move hF rfl).q) (fun a w hF hW => ?_)
  obtain ⟨x1, h1, H⟩ := bindE H
  refine l_callG (Ml := []) (Zl := []) (M := []) (Z := []) (β := Value) (rv := fun x => .tuple #[x, .bool x1.2]) (MM := fun x => []) (ZZ := fun x => [row x 3 (Rp.int .i64) x1.1]) hF hW H9 rfl rfl (fun hL => r20_Order_c _ w (v1) p0 p1 _ h1 ((rdc_ro h_v1) w hW).nx) (fun x a w hF hW => ?_)
  obtain ⟨v2, rfl⟩ : ∃ y, y = x := ⟨x, rfl⟩
  have hW : Stw ⟨Y, [], w0⟩ [] [row v2 3 (Rp.int .i64) x1.1] w := hW
  refine ls hF hW rfl ((y_move hF rfl).q) (fun a w hF hW => ?_)
  refine ls hF hW rfl ((y_extract (v := v2) hF rfl rfl).q) (fun a w hF hW => ?_)
  refine ls hF hW rfl ((y_extract (v := Value.bool x1.2) hF rfl rfl).q) (fun a w hF hW => ?_)
  refine ls hF hW rfl ((y_assign hF rfl).q) (fun a w hF hW => ?_)
  refine ls hF hW rfl ((y_assign hF rfl).q) (fun a w hF hW => ?_)
  refine ls_nil ?_
  refine c_then ?_
  refine c_seq ?_
  refine c_seq ?_
  refine reg_list ?_
  refine ls hF hW rfl ((y_move hF rfl).q) (fun a w hF hW => ?_)
  refine ls hF hW rfl ((y_not hF rfl).q) (fun a w hF hW => ?_)
  refine ls_nil ?_
  refine c_then ?_
  refine c_cond hF rfl (fun hb => ?_) (fun hb => ?_)
  ·
    have H := iteT hb H
    rw [hb] at hF
    clear hb
    refine c_seq ?_
    refine reg_list ?_
    refine ls hF hW rfl ((y_assign hF rfl).q) (fun a w hF hW => ?_)
    refine ls hF hW rfl ((y_assign hF rfl).q) (fun a w hF hW => ?_)
    refine ls_nil ?_
    refine c_then ?_
    refine wp_ret ?_
    refine r_then ?_
    have H := Option.some.inj H
    subst H
    refine post2 (.inl rfl) hF hW rfl (rv_tmp hF rfl) (rv_tmp hF rfl) ?_
    have hW := hW.nilRow 3 (Rp.int .i64)
    have hW := hW.sub (M' := []) (Z' := [row (Value.slice none 0 0) 3 (Rp.int .i64) ([])]) (List.Sublist.refl _) (List.Sublist.cons_cons _ (List.nil_sublist _))
    exact ⟨(Value.slice none 0 0), rfl, hW⟩
  ·
    have H := iteF (by rw [hb]; decide) H
    rw [hb] at hF
    clear hb
    refine wp_skip ?_
    refine c_then ?_
    refine c_seq ?_
    refine reg_list ?_
    refine ls hF hW rfl ((y_assign hF rfl).q) (fun a w hF hW => ?_)
    refine ls_nil ?_
    refine c_then ?_
    obtain ⟨o1, G1, K1⟩ := bindE H
    refine c_seqJ (fun a w => ∃ x2 : List Int, ∃ v3 : Value, some (x2) = some o1 ∧ Fr 74 [] [(0, .int .i64 p0), (1, v1), (4, .slice none 0 0), (5, .bool false), (8, v3)] a ∧ Stw ⟨Y, [], w0⟩ [] [row v3 3 (Rp.int .i64) x2] w) ?_ ?_
    ·
      have H := G1
      clear G1 K1
      refine c_seq ?_
      refine reg_list ?_
      refine ls hF hW rfl ((y_assign hF rfl).q) (fun a w hF hW => ?_)
      refine ls_nil ?_
      refine c_then ?_
      refine wp_block ?_
      have hW := hW.nilRow 3 (Rp.int .i64)
      have hW := hW.sub (M' := []) (Z' := [row (Value.slice none 0 0) 3 (Rp.int .i64) ([])]) (List.Sublist.refl _) (List.Sublist.cons_cons _ (List.nil_sublist _))
      refine c_loopW H (fun s a w => ∃ v4 : Value, Fr 74 [] [(0, .int .i64 p0), (1, v1), (4, .slice none 0 0), (5, .bool false), (8, v4), (9, .int .i64 s.2)] a ∧ Stw ⟨Y, [], w0⟩ [] [row v4 3 (Rp.int .i64) s.1] w) ⟨(Value.slice none 0 0), hF.re ⟨rfl, rfl, rfl, rfl, rfl, rfl, trivial⟩, hW⟩ (fun s o a w H L2 hR => ?_)
      obtain ⟨x3, x4⟩ := s
      obtain ⟨v4, hF, hW⟩ := hR
      have hF : Fr 74 [] [(0, .int .i64 p0), (1, v1), (4, .slice none 0 0), (5, .bool false), (8, v4), (9, .int .i64 x4)] a := hF
      have hW : Stw ⟨Y, [], w0⟩ [] [row v4 3 (Rp.int .i64) x3] w := hW
      rw [r20_Far_l1] at H
      refine c_seq ?_
      refine c_seq ?_
      refine reg_list ?_
      refine ls hF hW rfl ((y_move hF rfl).q) (fun a w hF hW => ?_)
      refine ls hF hW rfl ((y_move hF rfl).q) (fun a w hF hW => ?_)
      refine ls hF hW rfl ((y_lss hF rfl rfl).q) (fun a w hF hW => ?_)
      refine ls_nil ?_
      refine c_then ?_
      refine c_cond hF rfl (fun hb => ?_) (fun hb => ?_)
      ·
        have H := iteT (of_decide_eq_true hb) H
        rw [hb] at hF
        clear hb
        refine wp_skip ?_
        refine c_then ?_
        refine c_seq ?_
        refine wp_block ?_
        refine reg_list ?_
        refine ls hF hW rfl ((y_move hF rfl).q) (fun a w hF hW => ?_)
        refine l_lit (z := Value.int .i64 0) (cs := [.int .i64 0]) (Rp.int .i64) ([0] : List Int) hF hW rfl L26 Z3 rfl rfl rfl rfl rfl rfl (Fl.int.repL _ _ ([0] : List Int)) (fun v5 a w hF hW => ?_)
        obtain ⟨x5, h2, H⟩ := bindE H
        refine l_append (r := (Rp.int .i64)) (i := 1) hF hW rfl L26 rfl rfl rfl rfl (src_row hW 0 rfl) h2 rfl (fun v6 a w hF hW => ?_)
        have hW : Stw ⟨Y, [], w0⟩ [] [row v6 3 (Rp.int .i64) x5, row v5 3 (Rp.int .i64) ([0] : List Int)] w := hW
        refine ls hF hW rfl ((y_assign hF rfl).q) (fun a w hF hW => ?_)
        refine ls_nil ?_
        refine b_normal ?_
        refine c_then ?_
        refine reg_list ?_
        refine ls hF hW rfl ((y_move hF rfl).q) (fun a w hF hW => ?_)
        refine ls hF hW rfl ((y_add hF rfl rfl rfl).q) (fun a w hF hW => ?_)
        refine ls hF hW rfl ((y_assign hF rfl).q) (fun a w hF hW => ?_)
        refine ls_nil ?_
        refine c_then ?_
        have hW := hW.sub (M' := []) (Z' := [row v6 3 (Rp.int .i64) x5]) (List.Sublist.refl _) (List.Sublist.cons_cons _ (List.nil_sublist _))
        exact ⟨_, H, (v6), hF.re ⟨rfl, rfl, rfl, rfl, rfl, rfl, trivial⟩, hW⟩
      ·
        have H := iteF (of_decide_eq_false hb) H
        rw [hb] at hF
        clear hb
        refine wp_exit ?_
        refine e_then ?_
        refine e_then ?_
        refine e_block ?_
        refine c_then ?_
        have H := L2 _ H
        exact ⟨_, (v4), H, hF.re ⟨rfl, rfl, rfl, rfl, rfl, trivial⟩, hW⟩
    rintro a w ⟨x2, v3, hj, hF, hW⟩
    have hj := Option.some.inj hj
    subst hj
    have H := K1
    clear G1 K1
    obtain ⟨o3, G3, K3⟩ := bindE H
    refine c_seqJ (fun a w => ∃ x6 : List Int, some (x6) = some o3 ∧ Fr 74 [] [(4, .slice none 0 0), (5, .bool false), (8, v3)] a ∧ Stw ⟨Y, [], w0⟩ [] [row v3 3 (Rp.int .i64) x6] w) ?_ ?_
    ·
      have H := G3
      clear G3 K3
      refine c_seq ?_
      refine reg_list ?_
      refine ls hF hW rfl ((y_assign hF rfl).q) (fun a w hF hW => ?_)
      refine ls_nil ?_
      refine c_then ?_
      refine wp_block ?_
      refine c_loopW H (fun s a w => Fr 74 [] [(0, .int .i64 p0), (1, v1), (4, .slice none 0 0), (5, .bool false), (8, v3), (10, .int .i64 s.2)] a ∧ Stw ⟨Y, [], w0⟩ [] [row v3 3 (Rp.int .i64) s.1] w) ⟨hF.re ⟨rfl, rfl, rfl, rfl, rfl, rfl, trivial⟩, hW⟩ (fun s o a w H L4 hR => ?_)
      obtain ⟨x7, x8⟩ := s
      obtain ⟨hF, hW⟩ := hR
      have hF : Fr 74 [] [(0, .int .i64 p0), (1, v1), (4, .slice none 0 0), (5, .bool false), (8, v3), (10, .int .i64 x8)] a := hF
      have hW : Stw ⟨Y, [], w0⟩ [] [row v3 3 (Rp.int .i64) x7] w := hW
      rw [r20_Far_l2] at H
      refine c_seq ?_
      refine c_seq ?_
      refine reg_list ?_
      refine ls hF hW rfl ((y_move hF rfl).q) (fun a w hF hW => ?_)
      refine ls hF hW rfl ((y_move hF rfl).q) (fun a w hF hW => ?_)
      refine ls hF hW rfl ((y_lss hF rfl rfl).q) (fun a w hF hW => ?_)
      refine ls_nil ?_
      refine c_then ?_
      refine c_cond hF rfl (fun hb => ?_) (fun hb => ?_)
      ·
        have H := iteT (of_decide_eq_true hb) H
        rw [hb] at hF
        clear hb
        refine wp_skip ?_
        refine c_then ?_
        obtain ⟨o5, G5, K5⟩ := bindE H
        refine c_seqJ (fun a w => ∃ x9 : List Int, some (x9) = some o5 ∧ Fr 74 [] [(0, .int .i64 p0), (1, v1), (4, .slice none 0 0), (5, .bool false), (8, v3), (10, .int .i64 x8)] a ∧ Stw ⟨Y, [], w0⟩ [] [row v3 3 (Rp.int .i64) x9] w) ?_ ?_
        ·
          have H := G5
          clear G5 K5
          refine wp_block ?_
          refine c_seq ?_
          refine reg_list ?_
          refine ls hF hW rfl ((y_assign hF rfl).q) (fun a w hF hW => ?_)
          refine ls_nil ?_
          refine c_then ?_
          refine wp_block ?_
          refine c_loopW H (fun s a w => Fr 74 [] [(0, .int .i64 p0), (1, v1), (4, .slice none 0 0), (5, .bool false), (8, v3), (10, .int .i64 x8), (11, .int .i64 s.2)] a ∧ Stw ⟨Y, [], w0⟩ [] [row v3 3 (Rp.int .i64) s.1] w) ⟨hF.re ⟨rfl, rfl, rfl, rfl, rfl, rfl, rfl, trivial⟩, hW⟩ (fun s o a w H L6 hR => ?_)
          obtain ⟨x10, x11⟩ := s
          obtain ⟨hF, hW⟩ := hR
          have hF : Fr 74 [] [(0, .int .i64 p0), (1, v1), (4, .slice none 0 0), (5, .bool false), (8, v3), (10, .int .i64 x8), (11, .int .i64 x11)] a := hF
          have hW : Stw ⟨Y, [], w0⟩ [] [row v3 3 (Rp.int .i64) x10] w := hW
          rw [r20_Far_l3] at H
          refine c_seq ?_
          refine c_seq ?_
          refine reg_list ?_
          refine ls hF hW rfl ((y_move hF rfl).q) (fun a w hF hW => ?_)
          refine ls hF hW rfl ((y_move hF rfl).q) (fun a w hF hW => ?_)
          refine ls hF hW rfl ((y_len (r := R41) (l := p1) Try.underlying22 rfl hF rfl (rdc_ro h_v1)).q) (fun a w hF hW => ?_)
          refine ls hF hW rfl ((y_lss hF rfl rfl).q) (fun a w hF hW => ?_)
          refine ls_nil ?_
          refine c_then ?_
          refine c_cond hF rfl (fun hb => ?_) (fun hb => ?_)
          ·
            have H := iteT (of_decide_eq_true hb) H
            rw [hb] at hF
            clear hb
            refine wp_skip ?_
            refine c_then ?_
            obtain ⟨o7, G7, K7⟩ := bindE H
            refine c_seqJ (fun a w => ∃ x12 : List Int, some (x12) = some o7 ∧ Fr 74 [] [(0, .int .i64 p0), (1, v1), (4, .slice none 0 0), (5, .bool false), (8, v3), (10, .int .i64 x8), (11, .int .i64 x11)] a ∧ Stw ⟨Y, [], w0⟩ [] [row v3 3 (Rp.int .i64) x12] w) ?_ ?_
            ·
              have H := G7
              clear G7 K7
              refine wp_block ?_
              refine c_seq ?_
              refine reg_quiet hW MO (by kernel_rfl) ?_
              refine qs hF rfl ((y_move hF rfl).q) (fun a hF => ?_)
              refine qs hF rfl ((y_move hF rfl).q) (fun a hF => ?_)
              refine qs hF rfl ((y_move hF rfl).q) (fun a hF => ?_)
              obtain ⟨x13, h3, H⟩ := bindE H
              refine qs hF rfl ((y_index (r := R41) L22 hF rfl rfl (rdc_ro h_v1) h3).q) (fun a hF => ?_)
              refine qs hF rfl ((y_fieldAddr Try.underlying41 rfl rfl rfl T3 hF rfl (voff v1 + (x11).toNat * 2 + 1) rfl).q) (fun a hF => ?_)
              refine qs hF rfl ((y_load_el (y := Value.int .i64 x13.2) (j := 1) (i := x11) hF rfl rfl (rdc_ro h_v1) h3 F41.to T3 rfl).q) (fun a hF => ?_)
              obtain ⟨x14, h4, H⟩ := bindE H
              refine qs hF rfl ((y_index (r := (Rp.int .i64)) L26 hF rfl rfl (rdc_row 0 rfl) h4).q) (fun a hF => ?_)
              refine qs hF rfl ((y_load_el (y := Value.int .i64 x14) (j := 0) (i := x13.2) hF rfl rfl (rdc_row 0 rfl) h4 Fl.int.to T3 rfl).q) (fun a hF => ?_)
              refine qs hF rfl ((y_move hF rfl).q) (fun a hF => ?_)
              refine qs hF rfl ((y_move hF rfl).q) (fun a hF => ?_)
              refine qs hF rfl ((y_move hF rfl).q) (fun a hF => ?_)
              obtain ⟨x15, h5, H⟩ := bindE H
              refine qs hF rfl ((y_index (r := R41) L22 hF rfl rfl (rdc_ro h_v1) h5).q) (fun a hF => ?_)
              refine qs hF rfl ((y_fieldAddr Try.underlying41 rfl rfl rfl T3 hF rfl (voff v1 + (x11).toNat * 2) rfl).q) (fun a hF => ?_)
              refine qs hF rfl ((y_load_el (y := Value.int .i64 x15.1) (j := 0) (i := x11) hF rfl rfl (rdc_ro h_v1) h5 F41.to T3 rfl).q) (fun a hF => ?_)
              obtain ⟨x16, h6, H⟩ := bindE H
              refine qs hF rfl ((y_index (r := (Rp.int .i64)) L26 hF rfl rfl (rdc_row 0 rfl) h6).q) (fun a hF => ?_)
              refine qs hF rfl ((y_load_el (y := Value.int .i64 x16) (j := 0) (i := x15.1) hF rfl rfl (rdc_row 0 rfl) h6 Fl.int.to T3 rfl).q) (fun a hF => ?_)
              refine qs hF rfl ((y_add hF rfl rfl rfl).q) (fun a hF => ?_)
              refine qs hF rfl ((y_lss hF rfl rfl).q) (fun a hF => ?_)
              refine quiet_end (fun w hW => ?_)
              refine c_then ?_
              refine c_cond hF rfl (fun hb => ?_) (fun hb => ?_)
              ·
                have H := iteT (of_decide_eq_true hb) H
                rw [hb] at hF
                clear hb
                refine reg_tail 16 hW MO (by kernel_rfl) ?_
                refine qs hF rfl ((y_move hF rfl).q) (fun a hF => ?_)
                refine qs hF rfl ((y_move hF rfl).q) (fun a hF => ?_)
                refine qs hF rfl ((y_move hF rfl).q) (fun a hF => ?_)
                obtain ⟨x17, h7, H⟩ := bindE H
                refine qs hF rfl ((y_index (r := R41) L22 hF rfl rfl (rdc_ro h_v1) h7).q) (fun a hF => ?_)
                refine qs hF rfl ((y_fieldAddr Try.underlying41 rfl rfl rfl T3 hF rfl (voff v1 + (x11).toNat * 2 + 1) rfl).q) (fun a hF => ?_)
                refine qs hF rfl ((y_load_el (y := Value.int .i64 x17.2) (j := 1) (i := x11) hF rfl rfl (rdc_ro h_v1) h7 F41.to T3 rfl).q) (fun a hF => ?_)
                refine qs hF rfl ((y_move hF rfl).q) (fun a hF => ?_)
                refine qs hF rfl ((y_move hF rfl).q) (fun a hF => ?_)
                refine qs hF rfl ((y_move hF rfl).q) (fun a hF => ?_)
                obtain ⟨x18, h8, H⟩ := bindE H
                refine qs hF rfl ((y_index (r := R41) L22 hF rfl rfl (rdc_ro h_v1) h8).q) (fun a hF => ?_)
                refine qs hF rfl ((y_fieldAddr Try.underlying41 rfl rfl rfl T3 hF rfl (voff v1 + (x11).toNat * 2) rfl).q) (fun a hF => ?_)
                refine qs hF rfl ((y_load_el (y := Value.int .i64 x18.1) (j := 0) (i := x11) hF rfl rfl (rdc_ro h_v1) h8 F41.to T3 rfl).q) (fun a hF => ?_)
                obtain ⟨x19, h9, H⟩ := bindE H
                refine qs hF rfl ((y_index (r := (Rp.int .i64)) L26 hF rfl rfl (rdc_row 0 rfl) h9).q) (fun a hF => ?_)
                refine qs hF rfl ((y_load_el (y := Value.int .i64 x19) (j := 0) (i := x18.1) hF rfl rfl (rdc_row 0 rfl) h9 Fl.int.to T3 rfl).q) (fun a hF => ?_)
                refine qs hF rfl ((y_add hF rfl rfl rfl).q) (fun a hF => ?_)
                obtain ⟨x20, h10, H⟩ := bindE H
                refine qs hF rfl ((y_index (r := (Rp.int .i64)) L26 hF rfl rfl (rdc_row 0 rfl) h10).q) (fun a hF => ?_)
                refine quiet_end (fun w hW => ?_)
                refine l_store_el (i := x17.2) (j := 0) (vs := [.int .i64 (w64 (x19 + 1))]) (x' := w64 (x19 + 1)) hF hW rfl rfl rfl (k := 0) rfl rfl h10 T3 rfl rfl rfl rfl (fun A cs _ => Fl.int.sto (by rfl) _ _ _) (fun w hW => ?_)
                refine ls_nil ?_
                refine b_normal ?_
                refine c_then ?_
                exact ⟨_, H, hF.re ⟨rfl, rfl, rfl, rfl, rfl, rfl, rfl, trivial⟩, hW⟩
              ·
                have H := iteF (of_decide_eq_false hb) H
                rw [hb] at hF
                clear hb
                refine wp_skip ?_
                refine b_normal ?_
                refine c_then ?_
                exact ⟨_, H, hF.re ⟨rfl, rfl, rfl, rfl, rfl, rfl, rfl, trivial⟩, hW⟩
            rintro a w ⟨x12, hj, hF, hW⟩
            have hj := Option.some.inj hj
            subst hj
            have H := K7
            clear G7 K7
            refine reg_list ?_
            refine ls hF hW rfl ((y_move hF rfl).q) (fun a w hF hW => ?_)
            refine ls hF hW rfl ((y_add hF rfl rfl rfl).q) (fun a w hF hW => ?_)
            refine ls hF hW rfl ((y_assign hF rfl).q) (fun a w hF hW => ?_)
            refine ls_nil ?_
            refine c_then ?_
            exact ⟨_, H, hF.re ⟨rfl, rfl, rfl, rfl, rfl, rfl, rfl, trivial⟩, hW⟩
          ·
            have H := iteF (of_decide_eq_false hb) H
            rw [hb] at hF
            clear hb
            refine wp_exit ?_
            refine e_then ?_
            refine e_then ?_
            refine e_block ?_
            refine b_normal ?_
            refine c_then ?_
            have H := L6 _ H
            exact ⟨_, H, hF.re ⟨rfl, rfl, rfl, rfl, rfl, rfl, trivial⟩, hW⟩
        rintro a w ⟨x9, hj, hF, hW⟩
        have hj := Option.some.inj hj
        subst hj
        have H := K5
        clear G5 K5
        refine reg_list ?_
        refine ls hF hW rfl ((y_move hF rfl).q) (fun a w hF hW => ?_)
        refine ls hF hW rfl ((y_add hF rfl rfl rfl).q) (fun a w hF hW => ?_)
        refine ls hF hW rfl ((y_assign hF rfl).q) (fun a w hF hW => ?_)
        refine ls_nil ?_
        refine c_then ?_
        exact ⟨_, H, hF.re ⟨rfl, rfl, rfl, rfl, rfl, rfl, trivial⟩, hW⟩
      ·
        have H := iteF (of_decide_eq_false hb) H
        rw [hb] at hF
        clear hb
        refine wp_exit ?_
        refine e_then ?_
        refine e_then ?_
        refine e_block ?_
        refine c_then ?_
        have H := L4 _ H
        exact ⟨_, H, hF.re ⟨rfl, rfl, rfl, trivial⟩, hW⟩
    rintro a w ⟨x6, hj, hF, hW⟩
    have hj := Option.some.inj hj
    subst hj
    have H := K3
    clear G3 K3
    refine c_seq ?_
    refine reg_list ?_
    refine ls hF hW rfl ((y_move hF rfl).q) (fun a w hF hW => ?_)
    refine ls hF hW rfl ((y_assign hF rfl).q) (fun a w hF hW => ?_)
    refine ls hF hW rfl ((y_assign hF rfl).q) (fun a w hF hW => ?_)
    refine ls_nil ?_
    refine c_then ?_
    refine wp_ret ?_
    have H := Option.some.inj H
    subst H
    refine post2 (.inl rfl) hF hW rfl (rv_tmp hF rfl) (rv_tmp hF rfl) ?_
    exact ⟨(v3), rfl, hW⟩

theorem H16 : Has Try.prog 16 := ⟨fun args w => run_callFunc_body Try.func16 rfl (by decide) args w⟩
noncomputable def r20_ways_l3 (p1 : List (Int × Int)) (x1 : List Int) (x6 : Int) : (List Int × Int) → Option ((List Int × Int) ⊕ (List Int))
  | (x8, x9) => (if x9 < (x1.length : Int) then (((ix x1 x9).bind fun x12 => (r20_edge p1 x12 x6).bind fun x13 => (if x13 = true then (r20_has x8 x6).bind fun x14 => some (!x14) else some false)).bind fun x11 => (if x11 = true then (app x8 ([x6] : List Int)).bind fun x15 => some x15 else some x8)).bind fun x10 => some (.inl (x10, w64 (x9 + 1))) else some (.inr x8))
noncomputable def r20_ways_l2 (p0 : Int) (p1 : List (Int × Int)) (x1 : List Int) : (List Int × Int) → Option ((List Int × Int) ⊕ (List Int))
  | (x5, x6) => (if x6 < p0 then (loopW (r20_ways_l3 p1 x1 x6) (x5, 0)).bind fun x7 => some (.inl (x7, w64 (x6 + 1))) else some (.inr x5))
noncomputable def r20_ways_l1 (p0 : Int) (p1 : List (Int × Int)) (p3 : Int) : (List Int × Int) → Option ((List Int × Int) ⊕ (Unit ⊕ Int))
  | (x1, x2) => (if x2 ≤ p0 then orR ((loopW (r20_ways_l2 p0 p1 x1) ([], 0)).bind fun x4 => (r20_has x4 p3).bind fun x16 => (if x16 = true then some (.inr (.inr (.inr x2))) else some (.inl x4))) fun x3 => some (.inl (x3, w64 (x2 + 1))) else some (.inr (.inl ())))
noncomputable def r20_ways (p0 : Int) (p1 : List (Int × Int)) (p2 : Int) (p3 : Int) : Option Int := orR (loopW (r20_ways_l1 p0 p1 p3) (([p2] : List Int), 1)) fun _ => some 0
theorem r20_ways_c (Y : Nat → Prop) (w0 : World) (v1 : Value) (p0 : Int) (p1 : List (Int × Int)) (p2 : Int) (p3 : Int) (r : Int) (H : r20_ways p0 p1 p2 p3 = some r) (h_v1 : Sl w0 (NX []) R41 v1 p1) :
    Calls Try.prog 33 #[.int .i64 p0, v1, .int .i64 p2, .int .i64 p3] w0 fun e w' => e = .returned (.int .i64 r) ∧ Below w0.heap.size w0 w' := by
  refine enter Try.func33 rfl Try.ntmps33 rfl (fun a hF => ?_)
  have hW := Stw.start Y w0
  unfold r20_ways at H
  refine c_seq ?_
  refine reg_list ?_
  refine ls hF hW rfl ((y_assign hF rfl).q) (fun a w hF hW => ?_)
  refine ls_nil ?_
  refine c_then ?_
  refine c_seq ?_
  refine reg_list ?_
  refine ls hF hW rfl ((y_move hF rfl).q) (fun a w hF hW => ?_)
  refine l_lit (z := Value.int .i64 0) (cs := [.int .i64 p2]) (Rp.int .i64) ([p2] : List Int) hF hW rfl L26 Z3 rfl rfl rfl rfl rfl rfl (Fl.int.repL _ _ ([p2] : List Int)) (fun v2 a w hF hW => ?_)
  refine ls hF hW rfl ((y_assign hF rfl).q) (fun a w hF hW => ?_)
  refine ls_nil ?_
  refine c_then ?_
  obtain ⟨o1, G1, K1, L1⟩ := orE H
  refine c_seqJ (fun a w => some (Sum.inl ()) = some o1 ∧ Fr 54 [] [(8, .int .i64 0)] a ∧ Stw ⟨Y, [], w0⟩ [] [] w) ?_ ?_
  ·
    have H := G1
    clear G1 K1
    refine c_seq ?_
    refine reg_list ?_
    refine ls hF hW rfl ((y_assign hF rfl).q) (fun a w hF hW => ?_)
    refine ls_nil ?_
    refine c_then ?_
    refine wp_block ?_
    refine c_loopW H (fun s a w => ∃ v3 : Value, Fr 54 [] [(0, .int .i64 p0), (1, v1), (3, .int .i64 p3), (8, .int .i64 0), (9, v3), (10, .int .i64 s.2)] a ∧ Stw ⟨Y, [], w0⟩ [] [row v3 3 (Rp.int .i64) s.1] w) ⟨(v2), hF.re ⟨rfl, rfl, rfl, rfl, rfl, rfl, trivial⟩, hW⟩ (fun s o a w H L2 hR => ?_)
    obtain ⟨x1, x2⟩ := s
    obtain ⟨v3, hF, hW⟩ := hR
    have hF : Fr 54 [] [(0, .int .i64 p0), (1, v1), (3, .int .i64 p3), (8, .int .i64 0), (9, v3), (10, .int .i64 x2)] a := hF
    have hW : Stw ⟨Y, [], w0⟩ [] [row v3 3 (Rp.int .i64) x1] w := hW
    rw [r20_ways_l1] at H
    refine c_seq ?_
    refine c_seq ?_
    refine reg_list ?_
    refine ls hF hW rfl ((y_move hF rfl).q) (fun a w hF hW => ?_)
    refine ls hF hW rfl ((y_move hF rfl).q) (fun a w hF hW => ?_)
    refine ls hF hW rfl ((y_leq hF rfl rfl).q) (fun a w hF hW => ?_)
    refine ls_nil ?_
    refine c_then ?_
    refine c_cond hF rfl (fun hb => ?_) (fun hb => ?_)
    ·
      have H := iteT (of_decide_eq_true hb) H
      rw [hb] at hF
      clear hb
      refine wp_skip ?_
      refine c_then ?_
      obtain ⟨o3, G3, K3, L3⟩ := orE H
      refine c_seqJ (fun a w => ∃ x3 : List Int, ∃ v4 : Value, some (Sum.inl x3) = some o3 ∧ Fr 54 [] [(0, .int .i64 p0), (1, v1), (3, .int .i64 p3), (8, .int .i64 0), (9, v4), (10, .int .i64 x2)] a ∧ Stw ⟨Y, [], w0⟩ [] [row v4 3 (Rp.int .i64) x3] w) ?_ ?_
      ·
        have H := G3
        clear G3 K3
        refine wp_block ?_
        refine c_seq ?_
        refine reg_list ?_
        refine ls hF hW rfl ((y_assign hF rfl).q) (fun a w hF hW => ?_)
        refine ls_nil ?_
        refine c_then ?_
        obtain ⟨o4, G4, K4⟩ := bindE H
        refine c_seqJ (fun a w => ∃ x4 : List Int, ∃ v5 : Value, some (x4) = some o4 ∧ Fr 54 [] [(0, .int .i64 p0), (1, v1), (3, .int .i64 p3), (8, .int .i64 0), (9, v3), (10, .int .i64 x2), (11, v5)] a ∧ Stw ⟨Y, [], w0⟩ [] [row v3 3 (Rp.int .i64) x1, row v5 3 (Rp.int .i64) x4] w) ?_ ?_
        ·
          have H := G4
          clear G4 K4
          refine c_seq ?_
          refine reg_list ?_
          refine ls hF hW rfl ((y_assign hF rfl).q) (fun a w hF hW => ?_)
          refine ls_nil ?_
          refine c_then ?_
          refine wp_block ?_
          have hW := hW.nilRow 3 (Rp.int .i64)
          have hW := hW.frontZ (i := 1) rfl rfl
          refine c_loopW H (fun s a w => ∃ v6 : Value, Fr 54 [] [(0, .int .i64 p0), (1, v1), (3, .int .i64 p3), (8, .int .i64 0), (9, v3), (10, .int .i64 x2), (11, v6), (12, .int .i64 s.2)] a ∧ Stw ⟨Y, [], w0⟩ [] [row v3 3 (Rp.int .i64) x1, row v6 3 (Rp.int .i64) s.1] w) ⟨(Value.slice none 0 0), hF.re ⟨rfl, rfl, rfl, rfl, rfl, rfl, rfl, rfl, trivial⟩, hW⟩ (fun s o a w H L5 hR => ?_)
          obtain ⟨x5, x6⟩ := s
          obtain ⟨v6, hF, hW⟩ := hR
          have hF : Fr 54 [] [(0, .int .i64 p0), (1, v1), (3, .int .i64 p3), (8, .int .i64 0), (9, v3), (10, .int .i64 x2), (11, v6), (12, .int .i64 x6)] a := hF
          have hW : Stw ⟨Y, [], w0⟩ [] [row v3 3 (Rp.int .i64) x1, row v6 3 (Rp.int .i64) x5] w := hW
          rw [r20_ways_l2] at H
          refine c_seq ?_
          refine c_seq ?_
          refine reg_list ?_
          refine ls hF hW rfl ((y_move hF rfl).q) (fun a w hF hW => ?_)
          refine ls hF hW rfl ((y_move hF rfl).q) (fun a w hF hW => ?_)
          refine ls hF hW rfl ((y_lss hF rfl rfl).q) (fun a w hF hW => ?_)
          refine ls_nil ?_
          refine c_then ?_
          refine c_cond hF rfl (fun hb => ?_) (fun hb => ?_)
          ·
            have H := iteT (of_decide_eq_true hb) H
            rw [hb] at hF
            clear hb
            refine wp_skip ?_
            refine c_then ?_
            obtain ⟨o6, G6, K6⟩ := bindE H
            refine c_seqJ (fun a w => ∃ x7 : List Int, ∃ v7 : Value, some (x7) = some o6 ∧ Fr 54 [] [(0, .int .i64 p0), (1, v1), (3, .int .i64 p3), (8, .int .i64 0), (9, v3), (10, .int .i64 x2), (11, v7), (12, .int .i64 x6)] a ∧ Stw ⟨Y, [], w0⟩ [] [row v3 3 (Rp.int .i64) x1, row v7 3 (Rp.int .i64) x7] w) ?_ ?_
            ·
              have H := G6
              clear G6 K6
              refine wp_block ?_
              refine c_seq ?_
              refine reg_list ?_
              refine ls hF hW rfl ((y_assign hF rfl).q) (fun a w hF hW => ?_)
              refine ls_nil ?_
              refine c_then ?_
              refine wp_block ?_
              have hW := hW.frontZ (i := 1) rfl rfl
              have hW := hW.frontZ (i := 1) rfl rfl
              refine c_loopW H (fun s a w => ∃ v8 : Value, Fr 54 [] [(0, .int .i64 p0), (1, v1), (3, .int .i64 p3), (8, .int .i64 0), (9, v3), (10, .int .i64 x2), (11, v8), (12, .int .i64 x6), (13, .int .i64 s.2)] a ∧ Stw ⟨Y, [], w0⟩ [] [row v3 3 (Rp.int .i64) x1, row v8 3 (Rp.int .i64) s.1] w) ⟨(v6), hF.re ⟨rfl, rfl, rfl, rfl, rfl, rfl, rfl, rfl, rfl, trivial⟩, hW⟩ (fun s o a w H L7 hR => ?_)
              obtain ⟨x8, x9⟩ := s
              obtain ⟨v8, hF, hW⟩ := hR
              have hF : Fr 54 [] [(0, .int .i64 p0), (1, v1), (3, .int .i64 p3), (8, .int .i64 0), (9, v3), (10, .int .i64 x2), (11, v8), (12, .int .i64 x6), (13, .int .i64 x9)] a := hF
              have hW : Stw ⟨Y, [], w0⟩ [] [row v3 3 (Rp.int .i64) x1, row v8 3 (Rp.int .i64) x8] w := hW
              rw [r20_ways_l3] at H
              refine c_seq ?_
              refine c_seq ?_
              refine reg_list ?_
              refine ls hF hW rfl ((y_move hF rfl).q) (fun a w hF hW => ?_)
              refine ls hF hW rfl ((y_move hF rfl).q) (fun a w hF hW => ?_)
              refine ls hF hW rfl ((y_len (r := (Rp.int .i64)) (l := x1) Try.underlying26 rfl hF rfl (rdc_row 0 rfl)).q) (fun a w hF hW => ?_)
              refine ls hF hW rfl ((y_lss hF rfl rfl).q) (fun a w hF hW => ?_)
              refine ls_nil ?_
              refine c_then ?_
              refine c_cond hF rfl (fun hb => ?_) (fun hb => ?_)
              ·
                have H := iteT (of_decide_eq_true hb) H
                rw [hb] at hF
                clear hb
                refine wp_skip ?_
                refine c_then ?_
                obtain ⟨o8, G8, K8⟩ := bindE H
                refine c_seqJ (fun a w => ∃ x10 : List Int, ∃ v9 : Value, some (x10) = some o8 ∧ Fr 54 [] [(0, .int .i64 p0), (1, v1), (3, .int .i64 p3), (8, .int .i64 0), (9, v3), (10, .int .i64 x2), (11, v9), (12, .int .i64 x6), (13, .int .i64 x9)] a ∧ Stw ⟨Y, [], w0⟩ [] [row v3 3 (Rp.int .i64) x1, row v9 3 (Rp.int .i64) x10] w) ?_ ?_
                ·
                  have H := G8
                  clear G8 K8
                  refine wp_block ?_
                  obtain ⟨o9, G9, K9⟩ := bindE H
                  refine c_seqJ (fun a w => ∃ x11 : Bool, some (x11) = some o9 ∧ Fr 54 [] [(0, .int .i64 p0), (1, v1), (3, .int .i64 p3), (8, .int .i64 0), (9, v3), (10, .int .i64 x2), (11, v8), (12, .int .i64 x6), (13, .int .i64 x9), (44, .bool x11)] a ∧ Stw ⟨Y, [], w0⟩ [] [row v3 3 (Rp.int .i64) x1, row v8 3 (Rp.int .i64) x8] w) ?_ ?_
                  ·
                    have H := G9
                    clear G9 K9
                    refine reg_list ?_
                    refine ls hF hW rfl ((y_move hF rfl).q) (fun a w hF hW => ?_)
                    refine ls hF hW rfl ((y_move hF rfl).q) (fun a w hF hW => ?_)
                    refine ls hF hW rfl ((y_move hF rfl).q) (fun a w hF hW => ?_)
                    obtain ⟨x12, h1, H⟩ := bindE H
                    refine ls hF hW rfl ((y_index (r := (Rp.int .i64)) L26 hF rfl rfl (rdc_row 0 rfl) h1).q) (fun a w hF hW => ?_)
                    refine ls hF hW rfl ((y_load_el (y := Value.int .i64 x12) (j := 0) (i := x9) hF rfl rfl (rdc_row 0 rfl) h1 Fl.int.to T3 rfl).q) (fun a w hF hW => ?_)
                    refine ls hF hW rfl ((y_move hF rfl).q) (fun a w hF hW => ?_)
                    obtain ⟨x13, h2, H⟩ := bindE H
                    refine ls hF hW rfl (y_call (v := Value.bool x13) hF H28 rfl (fun w hW => r20_edge_c any w (v1) p1 x12 x6 _ h2 (((rdc_ro h_v1) : Rdc _ _ _ _ _ _) w hW).nx)) (fun a w hF hW => ?_)
                    refine ls hF hW rfl ((y_move hF rfl).q) (fun a w hF hW => ?_)
                    rcases Bool.eq_false_or_eq_true x13 with hb | hb
                    ·
                      have H := iteT hb H
                      rw [hb] at hF
                      clear hb
                      refine ls_w hF hW (wanted_y hF rfl rfl rfl rfl) rfl (Nat.le_of_ble_eq_true rfl) ((y_move hF rfl).q) (fun a w hF hW => ?_)
                      refine ls_w hF hW (wanted_y hF rfl rfl rfl rfl) rfl (Nat.le_of_ble_eq_true rfl) ((y_move hF rfl).q) (fun a w hF hW => ?_)
                      refine ls_g (wanted_y hF rfl rfl rfl rfl) ?_
                      obtain ⟨x14, h3, H⟩ := bindE H
                      refine ls hF hW rfl (y_call (v := Value.bool x14) hF H29 rfl (fun w hW => r20_has_c any w (v8) x8 x6 _ h3 (((rdc_row 1 rfl) : Rdc _ _ _ _ _ _) w hW).nx)) (fun a w hF hW => ?_)
                      refine ls_w hF hW (wanted_y hF rfl rfl rfl rfl) rfl (Nat.le_of_ble_eq_true rfl) ((y_not hF rfl).q) (fun a w hF hW => ?_)
                      refine ls hF hW rfl ((y_pick_t hF rfl rfl rfl).q) (fun a w hF hW => ?_)
                      refine ls_nil ?_
                      refine c_then ?_
                      have hW := hW.frontZ (i := 1) rfl rfl
                      have hW := hW.frontZ (i := 1) rfl rfl
                      exact ⟨_, H, hF.re ⟨rfl, rfl, rfl, rfl, rfl, rfl, rfl, rfl, rfl, rfl, trivial⟩, hW⟩
                    ·
                      have H := iteF (by rw [hb]; decide) H
                      rw [hb] at hF
                      clear hb
                      refine ls_skip hF (wanted_n hF rfl rfl rfl rfl rfl) rfl rfl (fun a hF => ?_)
                      refine ls_skip hF (wanted_n hF rfl rfl rfl rfl rfl) rfl rfl (fun a hF => ?_)
                      refine ls_skip hF (wanted_n hF rfl rfl rfl rfl rfl) rfl rfl (fun a hF => ?_)
                      refine ls_skip hF (wanted_n hF rfl rfl rfl rfl rfl) rfl rfl (fun a hF => ?_)
                      refine ls hF hW rfl ((y_pick_f hF rfl rfl rfl).q) (fun a w hF hW => ?_)
                      refine ls_nil ?_
                      refine c_then ?_
                      have hW := hW.frontZ (i := 1) rfl rfl
                      have hW := hW.frontZ (i := 1) rfl rfl
                      exact ⟨_, H, hF.re ⟨rfl, rfl, rfl, rfl, rfl, rfl, rfl, rfl, rfl, rfl, trivial⟩, hW⟩
                  rintro a w ⟨x11, hj, hF, hW⟩
                  have hj := Option.some.inj hj
                  subst hj
                  have H := K9
                  clear G9 K9
                  refine c_cond hF rfl (fun hb => ?_) (fun hb => ?_)
                  ·
                    have H := iteT hb H
                    rw [hb] at hF
                    clear hb
                    refine reg_list ?_
                    refine ls hF hW rfl ((y_move hF rfl).q) (fun a w hF hW => ?_)
                    refine ls hF hW rfl ((y_move hF rfl).q) (fun a w hF hW => ?_)
                    refine l_lit (z := Value.int .i64 0) (cs := [.int .i64 x6]) (Rp.int .i64) ([x6] : List Int) hF hW rfl L26 Z3 rfl rfl rfl rfl rfl rfl (Fl.int.repL _ _ ([x6] : List Int)) (fun v10 a w hF hW => ?_)
                    obtain ⟨x15, h4, H⟩ := bindE H
                    refine l_append (r := (Rp.int .i64)) (i := 2) hF hW rfl L26 rfl rfl rfl rfl (src_row hW 0 rfl) h4 rfl (fun v11 a w hF hW => ?_)
                    have hW : Stw ⟨Y, [], w0⟩ [] [row v11 3 (Rp.int .i64) x15, row v10 3 (Rp.int .i64) ([x6] : List Int), row v3 3 (Rp.int .i64) x1] w := hW
                    refine ls hF hW rfl ((y_assign hF rfl).q) (fun a w hF hW => ?_)
                    refine ls_nil ?_
                    refine b_normal ?_
                    refine c_then ?_
                    have hW := hW.frontZ (i := 2) rfl rfl
                    have hW := hW.sub (M' := []) (Z' := [row v3 3 (Rp.int .i64) x1, row v11 3 (Rp.int .i64) x15]) (List.Sublist.refl _) (List.Sublist.cons_cons _ (List.Sublist.cons_cons _ (List.nil_sublist _)))
                    exact ⟨_, (v11), H, hF.re ⟨rfl, rfl, rfl, rfl, rfl, rfl, rfl, rfl, rfl, trivial⟩, hW⟩
                  ·
                    have H := iteF (by rw [hb]; decide) H
                    rw [hb] at hF
                    clear hb
                    refine wp_skip ?_
                    refine b_normal ?_
                    refine c_then ?_
                    have hW := hW.frontZ (i := 1) rfl rfl
                    have hW := hW.frontZ (i := 1) rfl rfl
                    exact ⟨_, (v8), H, hF.re ⟨rfl, rfl, rfl, rfl, rfl, rfl, rfl, rfl, rfl, trivial⟩, hW⟩
                rintro a w ⟨x10, v9, hj, hF, hW⟩
                have hj := Option.some.inj hj
                subst hj
                have H := K8
                clear G8 K8
                refine reg_list ?_
                refine ls hF hW rfl ((y_move hF rfl).q) (fun a w hF hW => ?_)
                refine ls hF hW rfl ((y_add hF rfl rfl rfl).q) (fun a w hF hW => ?_)
                refine ls hF hW rfl ((y_assign hF rfl).q) (fun a w hF hW => ?_)
                refine ls_nil ?_
                refine c_then ?_
                have hW := hW.frontZ (i := 1) rfl rfl
                have hW := hW.frontZ (i := 1) rfl rfl
                exact ⟨_, H, (v9), hF.re ⟨rfl, rfl, rfl, rfl, rfl, rfl, rfl, rfl, rfl, trivial⟩, hW⟩
              ·
                have H := iteF (of_decide_eq_false hb) H
                rw [hb] at hF
                clear hb
                refine wp_exit ?_
                refine e_then ?_
                refine e_then ?_
                refine e_block ?_
                refine b_normal ?_
                refine c_then ?_
                have hW := hW.frontZ (i := 1) rfl rfl
                have hW := hW.frontZ (i := 1) rfl rfl
                have H := L7 _ H
                exact ⟨_, (v8), H, hF.re ⟨rfl, rfl, rfl, rfl, rfl, rfl, rfl, rfl, trivial⟩, hW⟩
            rintro a w ⟨x7, v7, hj, hF, hW⟩
            have hj := Option.some.inj hj
            subst hj
            have H := K6
            clear G6 K6
            refine reg_list ?_
            refine ls hF hW rfl ((y_move hF rfl).q) (fun a w hF hW => ?_)
            refine ls hF hW rfl ((y_add hF rfl rfl rfl).q) (fun a w hF hW => ?_)
            refine ls hF hW rfl ((y_assign hF rfl).q) (fun a w hF hW => ?_)
            refine ls_nil ?_
            refine c_then ?_
            have hW := hW.frontZ (i := 1) rfl rfl
            have hW := hW.frontZ (i := 1) rfl rfl
            exact ⟨_, H, (v7), hF.re ⟨rfl, rfl, rfl, rfl, rfl, rfl, rfl, rfl, trivial⟩, hW⟩
          ·
            have H := iteF (of_decide_eq_false hb) H
            rw [hb] at hF
            clear hb
            refine wp_exit ?_
            refine e_then ?_
            refine e_then ?_
            refine e_block ?_
            refine c_then ?_
            have hW := hW.frontZ (i := 1) rfl rfl
            have hW := hW.frontZ (i := 1) rfl rfl
            have H := L5 _ H
            exact ⟨_, (v6), H, hF.re ⟨rfl, rfl, rfl, rfl, rfl, rfl, rfl, trivial⟩, hW⟩
        rintro a w ⟨x4, v5, hj, hF, hW⟩
        have hj := Option.some.inj hj
        subst hj
        have H := K4
        clear G4 K4
        refine c_seq ?_
        refine c_seq ?_
        refine reg_list ?_
        refine ls hF hW rfl ((y_move hF rfl).q) (fun a w hF hW => ?_)
        refine ls hF hW rfl ((y_move hF rfl).q) (fun a w hF hW => ?_)
        obtain ⟨x16, h5, H⟩ := bindE H
        refine ls hF hW rfl (y_call (v := Value.bool x16) hF H29 rfl (fun w hW => r20_has_c any w (v5) x4 p3 _ h5 (((rdc_row 1 rfl) : Rdc _ _ _ _ _ _) w hW).nx)) (fun a w hF hW => ?_)
        refine ls_nil ?_
        refine c_then ?_
        refine c_cond hF rfl (fun hb => ?_) (fun hb => ?_)
        ·
          have H := iteT hb H
          rw [hb] at hF
          clear hb
          refine c_seq ?_
          refine reg_list ?_
          refine ls hF hW rfl ((y_move hF rfl).q) (fun a w hF hW => ?_)
          refine ls hF hW rfl ((y_assign hF rfl).q) (fun a w hF hW => ?_)
          refine ls_nil ?_
          refine c_then ?_
          refine wp_ret ?_
          refine r_then ?_
          refine r_block ?_
          refine r_then ?_
          refine r_then ?_
          refine r_block ?_
          refine r_then ?_
          have H := L3 _ H
          have H := L2 _ H
          have H := L1 _ H
          have H := Option.some.inj H
          subst H
          refine post1 (.inl rfl) hF hW rfl (rv_tmp hF rfl) ?_
          exact ⟨rfl, hW.done⟩
        ·
          have H := iteF (by rw [hb]; decide) H
          rw [hb] at hF
          clear hb
          refine wp_skip ?_
          refine c_then ?_
          refine reg_list ?_
          refine ls hF hW rfl ((y_move hF rfl).q) (fun a w hF hW => ?_)
          refine ls hF hW rfl ((y_assign hF rfl).q) (fun a w hF hW => ?_)
          refine ls_nil ?_
          refine b_normal ?_
          refine c_then ?_
          have hW := hW.frontZ (i := 1) rfl rfl
          have hW := hW.sub (M' := []) (Z' := [row v5 3 (Rp.int .i64) x4]) (List.Sublist.refl _) (List.Sublist.cons_cons _ (List.nil_sublist _))
          exact ⟨_, (v5), H, hF.re ⟨rfl, rfl, rfl, rfl, rfl, rfl, trivial⟩, hW⟩
      rintro a w ⟨x3, v4, hj, hF, hW⟩
      have H := K3 _ hj
      clear hj G3 K3 L3
      refine reg_list ?_
      refine ls hF hW rfl ((y_move hF rfl).q) (fun a w hF hW => ?_)
      refine ls hF hW rfl ((y_add hF rfl rfl rfl).q) (fun a w hF hW => ?_)
      refine ls hF hW rfl ((y_assign hF rfl).q) (fun a w hF hW => ?_)
      refine ls_nil ?_
      refine c_then ?_
      exact ⟨_, H, (v4), hF.re ⟨rfl, rfl, rfl, rfl, rfl, rfl, trivial⟩, hW⟩
    ·
      have H := iteF (of_decide_eq_false hb) H
      rw [hb] at hF
      clear hb
      refine wp_exit ?_
      refine e_then ?_
      refine e_then ?_
      refine e_block ?_
      refine c_then ?_
      have hW := hW.sub (M' := []) (Z' := []) (List.Sublist.refl _) (List.nil_sublist _)
      have H := L2 _ H
      exact ⟨H, hF.re ⟨rfl, trivial⟩, hW⟩
  rintro a w ⟨hj, hF, hW⟩
  have H := K1 _ hj
  clear hj G1 K1 L1
  refine c_seq ?_
  refine reg_list ?_
  refine ls hF hW rfl ((y_assign hF rfl).q) (fun a w hF hW => ?_)
  refine ls_nil ?_
  refine c_then ?_
  refine wp_ret ?_
  have H := Option.some.inj H
  subst H
  refine post1 (.inl rfl) hF hW rfl (rv_tmp hF rfl) ?_
  exact ⟨rfl, hW.done⟩

theorem H33 : Has Try.prog 33 := ⟨fun args w => run_callFunc_body Try.func33 rfl (by decide) args w⟩
noncomputable def r20_Loop_l3 (p0 : Int) (p1 : List (Int × Int)) (x2 : Int) (x5 : Int) (x6 : List Int) : (Int × Int) → Option ((Int × Int) ⊕ Int)
  | (x8, x9) => (if 0 ≤ x9 then (((ix x6 (w64 ((x6.length : Int) - 1))).bind fun x12 => (r20_edge p1 x12 x9).bind fun x13 => (if x13 = true then (r20_ways p0 p1 x9 x2).bind fun x14 => some (decide (x14 = (w64 (x5 - 1)))) else some false)).bind fun x11 => (if x11 = true then some x9 else some x8)).bind fun x10 => some (.inl (x10, w64 (x9 - 1))) else some (.inr x8))
noncomputable def r20_Loop_l2 (p0 : Int) (p1 : List (Int × Int)) (x2 : Int) : (Int × List Int) → Option ((Int × List Int) ⊕ (List Int))
  | (x5, x6) => (if 1 < x5 then (loopW (r20_Loop_l3 p0 p1 x2 x5 x6) ((-1), w64 (p0 - 1))).bind fun x7 => (app x6 ([x7] : List Int)).bind fun x15 => some (.inl (w64 (x5 - 1), x15)) else some (.inr x6))
noncomputable def r20_Loop_l1 (p0 : Int) (p1 : List (Int × Int)) : Int → Option (Int ⊕ (Unit ⊕ (List Int)))
  | x2 => (if x2 < p0 then orR ((r20_ways p0 p1 x2 x2).bind fun x3 => (if x3 = 0 then some (.inl ()) else (loopW (r20_Loop_l2 p0 p1 x2) (x3, ([x2] : List Int))).bind fun x4 => some (.inr (.inr (.inr x4))))) fun _ => some (.inl (w64 (x2 + 1))) else some (.inr (.inl ())))
noncomputable def r20_Loop (p0 : Int) (p1 : List (Int × Int)) : Option (List Int) := (r20_Right p0 p1).bind fun x1 => (if (!x1) = true then some ([] : List Int) else orR (loopW (r20_Loop_l1 p0 p1) 0) fun _ => some ([] : List Int))
theorem r20_Loop_c (Y : Nat → Prop) (w0 : World) (v1 : Value) (p0 : Int) (p1 : List (Int × Int)) (r : List Int) (H : r20_Loop p0 p1 = some r) (h_v1 : Sl w0 (NX []) R41 v1 p1) :
    Calls Try.prog 18 #[.int .i64 p0, v1] w0 fun e w' => ∃ x : Value, e = .returned (x) ∧ Stw ⟨Y, [], w0⟩ [] [row (x) 3 (Rp.int .i64) r] w' := by
  refine enter Try.func18 rfl Try.ntmps18 rfl (fun a hF => ?_)
  have hW := Stw.start Y w0
  unfold r20_Loop at H
  refine c_seq ?_
  refine reg_list ?_
  refine ls hF hW rfl ((y_assign hF rfl).q) (fun a w hF hW => ?_)
  refine ls_nil ?_
  refine c_then ?_
  refine c_seq ?_
  refine c_seq ?_
  refine reg_list ?_
  refine ls hF hW rfl ((y_move hF rfl).q) (fun a w hF hW => ?_)
  refine ls hF hW rfl ((y_move hF rfl).q) (fun a w hF hW => ?_)
  obtain ⟨x1, h1, H⟩ := bindE H
  refine ls hF hW rfl (y_call (v := Value.bool x1) hF H11 rfl (fun w hW => r20_Right_c any w (v1) p0 p1 _ h1 (((rdc_ro h_v1) : Rdc _ _ _ _ _ _) w hW).nx)) (fun a w hF hW => ?_)
  refine ls hF hW rfl ((y_not hF rfl).q) (fun a w hF hW => ?_)
  refine ls_nil ?_
  refine c_then ?_
  refine c_cond hF rfl (fun hb => ?_) (fun hb => ?_)
  ·
    have H := iteT hb H
    rw [hb] at hF
    clear hb
    refine c_seq ?_
    refine reg_list ?_
    refine ls hF hW rfl ((y_assign hF rfl).q) (fun a w hF hW => ?_)
    refine ls_nil ?_
    refine c_then ?_
    refine wp_ret ?_
    refine r_then ?_
    have H := Option.some.inj H
    subst H
    refine post1 (.inl rfl) hF hW rfl (rv_tmp hF rfl) ?_
    have hW := hW.nilRow 3 (Rp.int .i64)
    exact ⟨(Value.slice none 0 0), rfl, hW⟩
  ·
    have H := iteF (by rw [hb]; decide) H
    rw [hb] at hF
    clear hb
    refine wp_skip ?_
    refine c_then ?_
    obtain ⟨o1, G1, K1, L1⟩ := orE H
    refine c_seqJ (fun a w => some (Sum.inl ()) = some o1 ∧ Fr 62 [] [(4, .slice none 0 0)] a ∧ Stw ⟨Y, [], w0⟩ [] [] w) ?_ ?_
    ·
      have H := G1
      clear G1 K1
      refine c_seq ?_
      refine reg_list ?_
      refine ls hF hW rfl ((y_assign hF rfl).q) (fun a w hF hW => ?_)
      refine ls_nil ?_
      refine c_then ?_
      refine wp_block ?_
      refine c_loopW H (fun s a w => Fr 62 [] [(0, .int .i64 p0), (1, v1), (4, .slice none 0 0), (5, .int .i64 s)] a ∧ Stw ⟨Y, [], w0⟩ [] [] w) ⟨hF.re ⟨rfl, rfl, rfl, rfl, trivial⟩, hW⟩ (fun s o a w H L2 hR => ?_)
      obtain ⟨x2, rfl⟩ : ∃ x, x = s := ⟨s, rfl⟩
      obtain ⟨hF, hW⟩ := hR
      have hF : Fr 62 [] [(0, .int .i64 p0), (1, v1), (4, .slice none 0 0), (5, .int .i64 x2)] a := hF
      have hW : Stw ⟨Y, [], w0⟩ [] [] w := hW
      rw [r20_Loop_l1] at H
      refine c_seq ?_
      refine c_seq ?_
      refine reg_list ?_
      refine ls hF hW rfl ((y_move hF rfl).q) (fun a w hF hW => ?_)
      refine ls hF hW rfl ((y_move hF rfl).q) (fun a w hF hW => ?_)
      refine ls hF hW rfl ((y_lss hF rfl rfl).q) (fun a w hF hW => ?_)
      refine ls_nil ?_
      refine c_then ?_
      refine c_cond hF rfl (fun hb => ?_) (fun hb => ?_)
      ·
        have H := iteT (of_decide_eq_true hb) H
        rw [hb] at hF
        clear hb
        refine wp_skip ?_
        refine c_then ?_
        obtain ⟨o3, G3, K3, L3⟩ := orE H
        refine c_seqJ (fun a w => some (Sum.inl ()) = some o3 ∧ Fr 62 [] [(0, .int .i64 p0), (1, v1), (4, .slice none 0 0), (5, .int .i64 x2)] a ∧ Stw ⟨Y, [], w0⟩ [] [] w) ?_ ?_
        ·
          have H := G3
          clear G3 K3
          refine wp_block ?_
          refine c_seq ?_
          refine reg_list ?_
          refine ls hF hW rfl ((y_move hF rfl).q) (fun a w hF hW => ?_)
          refine ls hF hW rfl ((y_move hF rfl).q) (fun a w hF hW => ?_)
          refine ls hF hW rfl ((y_move hF rfl).q) (fun a w hF hW => ?_)
          refine ls hF hW rfl ((y_move hF rfl).q) (fun a w hF hW => ?_)
          obtain ⟨x3, h2, H⟩ := bindE H
          refine ls hF hW rfl (y_call (v := Value.int .i64 x3) hF H33 rfl (fun w hW => r20_ways_c any w (v1) p0 p1 x2 x2 _ h2 (((rdc_ro h_v1) : Rdc _ _ _ _ _ _) w hW).nx)) (fun a w hF hW => ?_)
          refine ls hF hW rfl ((y_assign hF rfl).q) (fun a w hF hW => ?_)
          refine ls_nil ?_
          refine c_then ?_
          refine c_seq ?_
          refine c_seq ?_
          refine reg_list ?_
          refine ls hF hW rfl ((y_move hF rfl).q) (fun a w hF hW => ?_)
          refine ls hF hW rfl ((y_eql hF rfl rfl).q) (fun a w hF hW => ?_)
          refine ls_nil ?_
          refine c_then ?_
          refine c_cond hF rfl (fun hb => ?_) (fun hb => ?_)
          ·
            have H := iteT (of_decide_eq_true hb) H
            rw [hb] at hF
            clear hb
            refine wp_exit ?_
            refine e_then ?_
            refine e_block ?_
            refine c_then ?_
            exact ⟨H, hF.re ⟨rfl, rfl, rfl, rfl, trivial⟩, hW⟩
          ·
            have H := iteF (of_decide_eq_false hb) H
            rw [hb] at hF
            clear hb
            refine wp_skip ?_
            refine c_then ?_
            refine c_seq ?_
            refine reg_list ?_
            refine ls hF hW rfl ((y_move hF rfl).q) (fun a w hF hW => ?_)
            refine l_lit (z := Value.int .i64 0) (cs := [.int .i64 x2]) (Rp.int .i64) ([x2] : List Int) hF hW rfl L26 Z3 rfl rfl rfl rfl rfl rfl (Fl.int.repL _ _ ([x2] : List Int)) (fun v2 a w hF hW => ?_)
            refine ls hF hW rfl ((y_assign hF rfl).q) (fun a w hF hW => ?_)
            refine ls_nil ?_
            refine c_then ?_
            obtain ⟨o4, G4, K4⟩ := bindE H
            refine c_seqJ (fun a w => ∃ x4 : List Int, ∃ v3 : Value, some (x4) = some o4 ∧ Fr 62 [] [(0, .int .i64 p0), (1, v1), (4, .slice none 0 0), (5, .int .i64 x2), (7, v3)] a ∧ Stw ⟨Y, [], w0⟩ [] [row v3 3 (Rp.int .i64) x4] w) ?_ ?_
            ·
              have H := G4
              clear G4 K4
              refine wp_block ?_
              refine c_loopW H (fun s a w => ∃ v4 : Value, Fr 62 [] [(0, .int .i64 p0), (1, v1), (4, .slice none 0 0), (5, .int .i64 x2), (6, .int .i64 s.1), (7, v4)] a ∧ Stw ⟨Y, [], w0⟩ [] [row v4 3 (Rp.int .i64) s.2] w) ⟨(v2), hF.re ⟨rfl, rfl, rfl, rfl, rfl, rfl, trivial⟩, hW⟩ (fun s o a w H L5 hR => ?_)
              obtain ⟨x5, x6⟩ := s
              obtain ⟨v4, hF, hW⟩ := hR
              have hF : Fr 62 [] [(0, .int .i64 p0), (1, v1), (4, .slice none 0 0), (5, .int .i64 x2), (6, .int .i64 x5), (7, v4)] a := hF
              have hW : Stw ⟨Y, [], w0⟩ [] [row v4 3 (Rp.int .i64) x6] w := hW
              rw [r20_Loop_l2] at H
              refine c_seq ?_
              refine c_seq ?_
              refine reg_list ?_
              refine ls hF hW rfl ((y_move hF rfl).q) (fun a w hF hW => ?_)
              refine ls hF hW rfl ((y_gtr hF rfl rfl).q) (fun a w hF hW => ?_)
              refine ls_nil ?_
              refine c_then ?_
              refine c_cond hF rfl (fun hb => ?_) (fun hb => ?_)
              ·
                have H := iteT (of_decide_eq_true hb) H
                rw [hb] at hF
                clear hb
                refine wp_skip ?_
                refine c_then ?_
                refine wp_block ?_
                refine c_seq ?_
                refine reg_list ?_
                refine ls hF hW rfl ((y_move hF rfl).q) (fun a w hF hW => ?_)
                refine ls hF hW rfl ((y_sub hF rfl rfl rfl).q) (fun a w hF hW => ?_)
                refine ls hF hW rfl ((y_assign hF rfl).q) (fun a w hF hW => ?_)
                refine ls_nil ?_
                refine c_then ?_
                refine c_seq ?_
                refine reg_list ?_
                refine ls hF hW rfl ((y_assign hF rfl).q) (fun a w hF hW => ?_)
                refine ls_nil ?_
                refine c_then ?_
                obtain ⟨o6, G6, K6⟩ := bindE H
                refine c_seqJ (fun a w => ∃ x7 : Int, some (x7) = some o6 ∧ Fr 62 [] [(0, .int .i64 p0), (1, v1), (4, .slice none 0 0), (5, .int .i64 x2), (6, .int .i64 (w64 (x5 - 1))), (7, v4), (8, .int .i64 x7)] a ∧ Stw ⟨Y, [], w0⟩ [] [row v4 3 (Rp.int .i64) x6] w) ?_ ?_
                ·
                  have H := G6
                  clear G6 K6
                  refine c_seq ?_
                  refine reg_list ?_
                  refine ls hF hW rfl ((y_move hF rfl).q) (fun a w hF hW => ?_)
                  refine ls hF hW rfl ((y_sub hF rfl rfl rfl).q) (fun a w hF hW => ?_)
                  refine ls hF hW rfl ((y_assign hF rfl).q) (fun a w hF hW => ?_)
                  refine ls_nil ?_
                  refine c_then ?_
                  refine wp_block ?_
                  refine c_loopW H (fun s a w => Fr 62 [] [(0, .int .i64 p0), (1, v1), (4, .slice none 0 0), (5, .int .i64 x2), (6, .int .i64 (w64 (x5 - 1))), (7, v4), (8, .int .i64 s.1), (9, .int .i64 s.2)] a ∧ Stw ⟨Y, [], w0⟩ [] [row v4 3 (Rp.int .i64) x6] w) ⟨hF.re ⟨rfl, rfl, rfl, rfl, rfl, rfl, rfl, rfl, trivial⟩, hW⟩ (fun s o a w H L7 hR => ?_)
                  obtain ⟨x8, x9⟩ := s
                  obtain ⟨hF, hW⟩ := hR
                  have hF : Fr 62 [] [(0, .int .i64 p0), (1, v1), (4, .slice none 0 0), (5, .int .i64 x2), (6, .int .i64 (w64 (x5 - 1))), (7, v4), (8, .int .i64 x8), (9, .int .i64 x9)] a := hF
                  have hW : Stw ⟨Y, [], w0⟩ [] [row v4 3 (Rp.int .i64) x6] w := hW
                  rw [r20_Loop_l3] at H
                  refine c_seq ?_
                  refine c_seq ?_
                  refine reg_list ?_
                  refine ls hF hW rfl ((y_move hF rfl).q) (fun a w hF hW => ?_)
                  refine ls hF hW rfl ((y_geq hF rfl rfl).q) (fun a w hF hW => ?_)
                  refine ls_nil ?_
                  refine c_then ?_
                  refine c_cond hF rfl (fun hb => ?_) (fun hb => ?_)
                  ·
                    have H := iteT (of_decide_eq_true hb) H
                    rw [hb] at hF
                    clear hb
                    refine wp_skip ?_
                    refine c_then ?_
                    obtain ⟨o8, G8, K8⟩ := bindE H
                    refine c_seqJ (fun a w => ∃ x10 : Int, some (x10) = some o8 ∧ Fr 62 [] [(0, .int .i64 p0), (1, v1), (4, .slice none 0 0), (5, .int .i64 x2), (6, .int .i64 (w64 (x5 - 1))), (7, v4), (8, .int .i64 x10), (9, .int .i64 x9)] a ∧ Stw ⟨Y, [], w0⟩ [] [row v4 3 (Rp.int .i64) x6] w) ?_ ?_
                    ·
                      have H := G8
                      clear G8 K8
                      refine wp_block ?_
                      obtain ⟨o9, G9, K9⟩ := bindE H
                      refine c_seqJ (fun a w => ∃ x11 : Bool, some (x11) = some o9 ∧ Fr 62 [] [(0, .int .i64 p0), (1, v1), (4, .slice none 0 0), (5, .int .i64 x2), (6, .int .i64 (w64 (x5 - 1))), (7, v4), (8, .int .i64 x8), (9, .int .i64 x9), (55, .bool x11)] a ∧ Stw ⟨Y, [], w0⟩ [] [row v4 3 (Rp.int .i64) x6] w) ?_ ?_
                      ·
                        have H := G9
                        clear G9 K9
                        refine reg_list ?_
                        refine ls hF hW rfl ((y_move hF rfl).q) (fun a w hF hW => ?_)
                        refine ls hF hW rfl ((y_move hF rfl).q) (fun a w hF hW => ?_)
                        refine ls hF hW rfl ((y_move hF rfl).q) (fun a w hF hW => ?_)
                        refine ls hF hW rfl ((y_len (r := (Rp.int .i64)) (l := x6) Try.underlying26 rfl hF rfl (rdc_row 0 rfl)).q) (fun a w hF hW => ?_)
                        refine ls hF hW rfl ((y_sub hF rfl rfl rfl).q) (fun a w hF hW => ?_)
                        obtain ⟨x12, h3, H⟩ := bindE H
                        refine ls hF hW rfl ((y_index (r := (Rp.int .i64)) L26 hF rfl rfl (rdc_row 0 rfl) h3).q) (fun a w hF hW => ?_)
                        refine ls hF hW rfl ((y_load_el (y := Value.int .i64 x12) (j := 0) (i := w64 ((x6.length : Int) - 1)) hF rfl rfl (rdc_row 0 rfl) h3 Fl.int.to T3 rfl).q) (fun a w hF hW => ?_)
                        refine ls hF hW rfl ((y_move hF rfl).q) (fun a w hF hW => ?_)
                        obtain ⟨x13, h4, H⟩ := bindE H
                        refine ls hF hW rfl (y_call (v := Value.bool x13) hF H28 rfl (fun w hW => r20_edge_c any w (v1) p1 x12 x9 _ h4 (((rdc_ro h_v1) : Rdc _ _ _ _ _ _) w hW).nx)) (fun a w hF hW => ?_)
                        refine ls hF hW rfl ((y_move hF rfl).q) (fun a w hF hW => ?_)
                        rcases Bool.eq_false_or_eq_true x13 with hb | hb
                        ·
                          have H := iteT hb H
                          rw [hb] at hF
                          clear hb
                          refine ls_w hF hW (wanted_y hF rfl rfl rfl rfl) rfl (Nat.le_of_ble_eq_true rfl) ((y_move hF rfl).q) (fun a w hF hW => ?_)
                          refine ls_w hF hW (wanted_y hF rfl rfl rfl rfl) rfl (Nat.le_of_ble_eq_true rfl) ((y_move hF rfl).q) (fun a w hF hW => ?_)
                          refine ls_w hF hW (wanted_y hF rfl rfl rfl rfl) rfl (Nat.le_of_ble_eq_true rfl) ((y_move hF rfl).q) (fun a w hF hW => ?_)
                          refine ls_w hF hW (wanted_y hF rfl rfl rfl rfl) rfl (Nat.le_of_ble_eq_true rfl) ((y_move hF rfl).q) (fun a w hF hW => ?_)
                          refine ls_g (wanted_y hF rfl rfl rfl rfl) ?_
                          obtain ⟨x14, h5, H⟩ := bindE H
                          refine ls hF hW rfl (y_call (v := Value.int .i64 x14) hF H33 rfl (fun w hW => r20_ways_c any w (v1) p0 p1 x9 x2 _ h5 (((rdc_ro h_v1) : Rdc _ _ _ _ _ _) w hW).nx)) (fun a w hF hW => ?_)
                          refine ls_w hF hW (wanted_y hF rfl rfl rfl rfl) rfl (Nat.le_of_ble_eq_true rfl) ((y_move hF rfl).q) (fun a w hF hW => ?_)
                          refine ls_w hF hW (wanted_y hF rfl rfl rfl rfl) rfl (Nat.le_of_ble_eq_true rfl) ((y_eql hF rfl rfl).q) (fun a w hF hW => ?_)
                          refine ls hF hW rfl ((y_pick_t hF rfl rfl rfl).q) (fun a w hF hW => ?_)
                          refine ls_nil ?_
                          refine c_then ?_
                          exact ⟨_, H, hF.re ⟨rfl, rfl, rfl, rfl, rfl, rfl, rfl, rfl, rfl, trivial⟩, hW⟩
                        ·
                          have H := iteF (by rw [hb]; decide) H
                          rw [hb] at hF
                          clear hb
                          refine ls_skip hF (wanted_n hF rfl rfl rfl rfl rfl) rfl rfl (fun a hF => ?_)
                          refine ls_skip hF (wanted_n hF rfl rfl rfl rfl rfl) rfl rfl (fun a hF => ?_)
                          refine ls_skip hF (wanted_n hF rfl rfl rfl rfl rfl) rfl rfl (fun a hF => ?_)
                          refine ls_skip hF (wanted_n hF rfl rfl rfl rfl rfl) rfl rfl (fun a hF => ?_)
                          refine ls_skip hF (wanted_n hF rfl rfl rfl rfl rfl) rfl rfl (fun a hF => ?_)
                          refine ls_skip hF (wanted_n hF rfl rfl rfl rfl rfl) rfl rfl (fun a hF => ?_)
                          refine ls_skip hF (wanted_n hF rfl rfl rfl rfl rfl) rfl rfl (fun a hF => ?_)
                          refine ls hF hW rfl ((y_pick_f hF rfl rfl rfl).q) (fun a w hF hW => ?_)
                          refine ls_nil ?_
                          refine c_then ?_
                          exact ⟨_, H, hF.re ⟨rfl, rfl, rfl, rfl, rfl, rfl, rfl, rfl, rfl, trivial⟩, hW⟩
                      rintro a w ⟨x11, hj, hF, hW⟩
                      have hj := Option.some.inj hj
                      subst hj
                      have H := K9
                      clear G9 K9
                      refine c_cond hF rfl (fun hb => ?_) (fun hb => ?_)
                      ·
                        have H := iteT hb H
                        rw [hb] at hF
                        clear hb
                        refine reg_list ?_
                        refine ls hF hW rfl ((y_move hF rfl).q) (fun a w hF hW => ?_)
                        refine ls hF hW rfl ((y_assign hF rfl).q) (fun a w hF hW => ?_)
                        refine ls_nil ?_
                        refine b_normal ?_
                        refine c_then ?_
                        exact ⟨_, H, hF.re ⟨rfl, rfl, rfl, rfl, rfl, rfl, rfl, rfl, trivial⟩, hW⟩
                      ·
                        have H := iteF (by rw [hb]; decide) H
                        rw [hb] at hF
                        clear hb
                        refine wp_skip ?_
                        refine b_normal ?_
                        refine c_then ?_
                        exact ⟨_, H, hF.re ⟨rfl, rfl, rfl, rfl, rfl, rfl, rfl, rfl, trivial⟩, hW⟩
                    rintro a w ⟨x10, hj, hF, hW⟩
                    have hj := Option.some.inj hj
                    subst hj
                    have H := K8
                    clear G8 K8
                    refine reg_list ?_
                    refine ls hF hW rfl ((y_move hF rfl).q) (fun a w hF hW => ?_)
                    refine ls hF hW rfl ((y_sub hF rfl rfl rfl).q) (fun a w hF hW => ?_)
                    refine ls hF hW rfl ((y_assign hF rfl).q) (fun a w hF hW => ?_)
                    refine ls_nil ?_
                    refine c_then ?_
                    exact ⟨_, H, hF.re ⟨rfl, rfl, rfl, rfl, rfl, rfl, rfl, rfl, trivial⟩, hW⟩
                  ·
                    have H := iteF (of_decide_eq_false hb) H
                    rw [hb] at hF
                    clear hb
                    refine wp_exit ?_
                    refine e_then ?_
                    refine e_then ?_
                    refine e_block ?_
                    refine c_then ?_
                    have H := L7 _ H
                    exact ⟨_, H, hF.re ⟨rfl, rfl, rfl, rfl, rfl, rfl, rfl, trivial⟩, hW⟩
                rintro a w ⟨x7, hj, hF, hW⟩
                have hj := Option.some.inj hj
                subst hj
                have H := K6
                clear G6 K6
                refine reg_list ?_
                refine ls hF hW rfl ((y_move hF rfl).q) (fun a w hF hW => ?_)
                refine ls hF hW rfl ((y_move hF rfl).q) (fun a w hF hW => ?_)
                refine l_lit (z := Value.int .i64 0) (cs := [.int .i64 x7]) (Rp.int .i64) ([x7] : List Int) hF hW rfl L26 Z3 rfl rfl rfl rfl rfl rfl (Fl.int.repL _ _ ([x7] : List Int)) (fun v5 a w hF hW => ?_)
                obtain ⟨x15, h6, H⟩ := bindE H
                refine l_append (r := (Rp.int .i64)) (i := 1) hF hW rfl L26 rfl rfl rfl rfl (src_row hW 0 rfl) h6 rfl (fun v6 a w hF hW => ?_)
                have hW : Stw ⟨Y, [], w0⟩ [] [row v6 3 (Rp.int .i64) x15, row v5 3 (Rp.int .i64) ([x7] : List Int)] w := hW
                refine ls hF hW rfl ((y_assign hF rfl).q) (fun a w hF hW => ?_)
                refine ls_nil ?_
                refine b_normal ?_
                refine c_then ?_
                have hW := hW.sub (M' := []) (Z' := [row v6 3 (Rp.int .i64) x15]) (List.Sublist.refl _) (List.Sublist.cons_cons _ (List.nil_sublist _))
                exact ⟨_, H, (v6), hF.re ⟨rfl, rfl, rfl, rfl, rfl, rfl, trivial⟩, hW⟩
              ·
                have H := iteF (of_decide_eq_false hb) H
                rw [hb] at hF
                clear hb
                refine wp_exit ?_
                refine e_then ?_
                refine e_then ?_
                refine e_block ?_
                refine c_then ?_
                have H := L5 _ H
                exact ⟨_, (v4), H, hF.re ⟨rfl, rfl, rfl, rfl, rfl, trivial⟩, hW⟩
            rintro a w ⟨x4, v3, hj, hF, hW⟩
            have hj := Option.some.inj hj
            subst hj
            have H := K4
            clear G4 K4
            refine c_seq ?_
            refine reg_list ?_
            refine ls hF hW rfl ((y_move hF rfl).q) (fun a w hF hW => ?_)
            refine ls hF hW rfl ((y_assign hF rfl).q) (fun a w hF hW => ?_)
            refine ls_nil ?_
            refine c_then ?_
            refine wp_ret ?_
            refine r_block ?_
            refine r_then ?_
            refine r_then ?_
            refine r_block ?_
            refine r_then ?_
            have H := L3 _ H
            have H := L2 _ H
            have H := L1 _ H
            have H := Option.some.inj H
            subst H
            refine post1 (.inl rfl) hF hW rfl (rv_tmp hF rfl) ?_
            exact ⟨(v3), rfl, hW⟩
        rintro a w ⟨hj, hF, hW⟩
        have H := K3 _ hj
        clear hj G3 K3 L3
        refine reg_list ?_
        refine ls hF hW rfl ((y_move hF rfl).q) (fun a w hF hW => ?_)
        refine ls hF hW rfl ((y_add hF rfl rfl rfl).q) (fun a w hF hW => ?_)
        refine ls hF hW rfl ((y_assign hF rfl).q) (fun a w hF hW => ?_)
        refine ls_nil ?_
        refine c_then ?_
        exact ⟨_, H, hF.re ⟨rfl, rfl, rfl, rfl, trivial⟩, hW⟩
      ·
        have H := iteF (of_decide_eq_false hb) H
        rw [hb] at hF
        clear hb
        refine wp_exit ?_
        refine e_then ?_
        refine e_then ?_
        refine e_block ?_
        refine c_then ?_
        have H := L2 _ H
        exact ⟨H, hF.re ⟨rfl, trivial⟩, hW⟩
    rintro a w ⟨hj, hF, hW⟩
    have H := K1 _ hj
    clear hj G1 K1 L1
    refine c_seq ?_
    refine reg_list ?_
    refine ls hF hW rfl ((y_assign hF rfl).q) (fun a w hF hW => ?_)
    refine ls_nil ?_
    refine c_then ?_
    refine wp_ret ?_
    have H := Option.some.inj H
    subst H
    refine post1 (.inl rfl) hF hW rfl (rv_tmp hF rfl) ?_
    have hW := hW.nilRow 3 (Rp.int .i64)
    exact ⟨(Value.slice none 0 0), rfl, hW⟩

end Go.Proofs.Ytkgajpmlehfcnaa
