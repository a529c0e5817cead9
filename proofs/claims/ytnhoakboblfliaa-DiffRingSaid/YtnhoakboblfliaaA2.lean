/- The functions of layer 22, lifted. Conditions: none. -/
import Derived.Test.YtnhoakboblfliaaA1
namespace Go.Proofs.Ytnhoakboblfliaa
open Go Go.RowKit
set_option linter.unusedVariables false
set_option linter.unusedSimpArgs false
set_option maxRecDepth 20000
noncomputable def L22_DiffLeast_l1 (p2 : List Int) : Int → Option (Int ⊕ (Unit ⊕ Bool))
  | x5 => (if x5 < (p2.length : Int) then (ix p2 x5).bind fun x6 => (if x6 < 0 then (L22_awake).bind fun x7 => some (.inr (.inr x7)) else some (.inl (w64 (x5 + 1)))) else some (.inr (.inl ())))
noncomputable def L22_DiffLeast_l2 (p0 : Int) (p2 : List Int) (x9 : List Int × Bool) : (Bool × Int) → Option ((Bool × Int) ⊕ (Unit ⊕ Bool))
  | (x15, x16) => (if x16 < p0 then ((ix x9.1 x16).bind fun x19 => (if x19 < 0 then some (x15, true) else (if x15 = true then (ix x9.1 x16).bind fun x20 => (ix p2 x16).bind fun x21 => some (true, decide (x21 < x20)) else some (false, false)))).bind fun (x17, x18) => (if x18 = true then some (.inr (.inr false)) else some (.inl (x17, w64 (x16 + 1)))) else some (.inr (.inl ())))
noncomputable def L22_DiffLeast (p0 : Int) (p1 : List (Int × Int × Int)) (p2 : List Int) : Option Bool := (if 256 < (p1.length : Int) then some true else (r22_Right p0 p1).bind fun x2 => (if (!x2) = true then some true else (r22_Times p0 p2).bind fun x3 => some (!x3))).bind fun x1 => (if x1 = true then (L22_awake).bind fun x4 => some x4 else orR (loopW (L22_DiffLeast_l1 p2) 0) fun _ => (L22_mine p1).bind fun x8 => (diff_Earliest p0 x8).bind fun x9 => (r22_Wrong p0 p1 p2).bind fun x10 => (if (!x9.2) = true then (if (x9.1.length : Int) = 0 then (if (!(decide ((x10.length : Int) = 0))) = true then (L22_awake).bind fun x12 => some x12 else some false) else some false).bind fun x11 => some x11 else (if (x9.1.length : Int) ≠ p0 then some true else (diff_Wrong p0 x8 x9.1).bind fun x14 => some (decide ((x14.length : Int) ≠ 0))).bind fun x13 => (if x13 = true then some false else orR (loopW (L22_DiffLeast_l2 p0 p2 x9) (decide ((x10.length : Int) = 0), 0)) fun _ => (L22_awake).bind fun x22 => some x22)))
theorem L22_DiffLeast_c (Y : Nat → Prop) (w0 : World) (v1 : Value) (v2 : Value) (p0 : Int) (p1 : List (Int × Int × Int)) (p2 : List Int) (r : Bool) (H : L22_DiffLeast p0 p1 p2 = some r) (h_v1 : Sl w0 (NX []) R39 v1 p1) (h_v2 : Sl w0 (NX []) (Rp.int .i64) v2 p2) :
    Calls Try.prog 4 #[.int .i64 p0, v1, v2] w0 fun e w' => e = .returned (.bool r) ∧ Below w0.heap.size w0 w' := by
  refine enter Try.func4 rfl Try.ntmps4 rfl (fun a hF => ?_)
  have hW := Stw.start Y w0
  unfold L22_DiffLeast at H
  refine c_seq ?_
  refine reg_list ?_
  refine ls hF hW rfl ((y_assign hF rfl).q) (fun a w hF hW => ?_)
  refine ls_nil ?_
  refine c_then ?_
  refine c_seq ?_
  obtain ⟨o1, G1, K1⟩ := bindE H
  refine c_seqJ (fun a w => ∃ x1 : Bool, some (x1) = some o1 ∧ Fr 104 [] [(0, .int .i64 p0), (1, v1), (2, v2), (6, .bool false), (27, .bool x1)] a ∧ Stw ⟨Y, [], w0⟩ [] [] w) ?_ ?_
  ·
    have H := G1
    clear G1 K1
    refine reg_list ?_
    refine ls hF hW rfl ((y_move hF rfl).q) (fun a w hF hW => ?_)
    refine ls hF hW rfl ((y_len (r := R39) (l := p1) Try.underlying22 rfl hF rfl (rdc_ro h_v1)).q) (fun a w hF hW => ?_)
    refine ls hF hW rfl ((y_gtr hF rfl rfl).q) (fun a w hF hW => ?_)
    refine ls hF hW rfl ((y_move hF rfl).q) (fun a w hF hW => ?_)
    rcases Bool.eq_false_or_eq_true (decide (256 < (p1.length : Int))) with hb | hb
    ·
      have H := iteT (of_decide_eq_true hb) H
      rw [hb] at hF
      clear hb
      refine ls_skip hF (wanted_n hF rfl rfl rfl rfl rfl) rfl rfl (fun a hF => ?_)
      refine ls_skip hF (wanted_n hF rfl rfl rfl rfl rfl) rfl rfl (fun a hF => ?_)
      refine ls_skip hF (wanted_n hF rfl rfl rfl rfl rfl) rfl rfl (fun a hF => ?_)
      refine ls_skip hF (wanted_n hF rfl rfl rfl rfl rfl) rfl rfl (fun a hF => ?_)
      refine ls hF hW rfl ((y_pick_t hF rfl rfl rfl).q) (fun a w hF hW => ?_)
      refine ls hF hW rfl ((y_move hF rfl).q) (fun a w hF hW => ?_)
      refine ls_skip hF (wanted_n hF rfl rfl rfl rfl rfl) rfl rfl (fun a hF => ?_)
      refine ls_skip hF (wanted_n hF rfl rfl rfl rfl rfl) rfl rfl (fun a hF => ?_)
      refine ls_skip hF (wanted_n hF rfl rfl rfl rfl rfl) rfl rfl (fun a hF => ?_)
      refine ls_skip hF (wanted_n hF rfl rfl rfl rfl rfl) rfl rfl (fun a hF => ?_)
      refine ls hF hW rfl ((y_pick_t hF rfl rfl rfl).q) (fun a w hF hW => ?_)
      refine ls_nil ?_
      refine c_then ?_
      exact ⟨_, H, hF.re ⟨rfl, rfl, rfl, rfl, rfl, trivial⟩, hW⟩
    ·
      have H := iteF (of_decide_eq_false hb) H
      rw [hb] at hF
      clear hb
      refine ls_w hF hW (wanted_y hF rfl rfl rfl rfl) rfl (Nat.le_of_ble_eq_true rfl) ((y_move hF rfl).q) (fun a w hF hW => ?_)
      refine ls_w hF hW (wanted_y hF rfl rfl rfl rfl) rfl (Nat.le_of_ble_eq_true rfl) ((y_move hF rfl).q) (fun a w hF hW => ?_)
      refine ls_g (wanted_y hF rfl rfl rfl rfl) ?_
      obtain ⟨x2, h1, H⟩ := bindE H
      refine ls hF hW rfl (y_call (v := Value.bool x2) hF H11 rfl (fun w hW => r22_Right_c any w (v1) p0 p1 _ h1 (((rdc_ro h_v1) : Rdc _ _ _ _ _ _) w hW).nx)) (fun a w hF hW => ?_)
      refine ls_w hF hW (wanted_y hF rfl rfl rfl rfl) rfl (Nat.le_of_ble_eq_true rfl) ((y_not hF rfl).q) (fun a w hF hW => ?_)
      refine ls hF hW rfl ((y_pick_f hF rfl rfl rfl).q) (fun a w hF hW => ?_)
      refine ls hF hW rfl ((y_move hF rfl).q) (fun a w hF hW => ?_)
      rcases Bool.eq_false_or_eq_true (!x2) with hb | hb
      ·
        have H := iteT hb H
        rw [hb] at hF
        clear hb
        refine ls_skip hF (wanted_n hF rfl rfl rfl rfl rfl) rfl rfl (fun a hF => ?_)
        refine ls_skip hF (wanted_n hF rfl rfl rfl rfl rfl) rfl rfl (fun a hF => ?_)
        refine ls_skip hF (wanted_n hF rfl rfl rfl rfl rfl) rfl rfl (fun a hF => ?_)
        refine ls_skip hF (wanted_n hF rfl rfl rfl rfl rfl) rfl rfl (fun a hF => ?_)
        refine ls hF hW rfl ((y_pick_t hF rfl rfl rfl).q) (fun a w hF hW => ?_)
        refine ls_nil ?_
        refine c_then ?_
        exact ⟨_, H, hF.re ⟨rfl, rfl, rfl, rfl, rfl, trivial⟩, hW⟩
      ·
        have H := iteF (by rw [hb]; decide) H
        rw [hb] at hF
        clear hb
        refine ls_w hF hW (wanted_y hF rfl rfl rfl rfl) rfl (Nat.le_of_ble_eq_true rfl) ((y_move hF rfl).q) (fun a w hF hW => ?_)
        refine ls_w hF hW (wanted_y hF rfl rfl rfl rfl) rfl (Nat.le_of_ble_eq_true rfl) ((y_move hF rfl).q) (fun a w hF hW => ?_)
        refine ls_g (wanted_y hF rfl rfl rfl rfl) ?_
        obtain ⟨x3, h2, H⟩ := bindE H
        refine ls hF hW rfl (y_call (v := Value.bool x3) hF H15 rfl (fun w hW => r22_Times_c any w (v2) p0 p2 _ h2 (((rdc_ro h_v2) : Rdc _ _ _ _ _ _) w hW).nx)) (fun a w hF hW => ?_)
        refine ls_w hF hW (wanted_y hF rfl rfl rfl rfl) rfl (Nat.le_of_ble_eq_true rfl) ((y_not hF rfl).q) (fun a w hF hW => ?_)
        refine ls hF hW rfl ((y_pick_f hF rfl rfl rfl).q) (fun a w hF hW => ?_)
        refine ls_nil ?_
        refine c_then ?_
        exact ⟨_, H, hF.re ⟨rfl, rfl, rfl, rfl, rfl, trivial⟩, hW⟩
  rintro a w ⟨x1, hj, hF, hW⟩
  have hj := Option.some.inj hj
  subst hj
  have H := K1
  clear G1 K1
  refine c_cond hF rfl (fun hb => ?_) (fun hb => ?_)
  ·
    have H := iteT hb H
    rw [hb] at hF
    clear hb
    refine c_seq ?_
    refine reg_list ?_
    obtain ⟨x4, h3, H⟩ := bindE H
    refine ls hF hW rfl (y_call (v := Value.bool x4) hF H6 rfl (fun w hW => L22_awake_c any w _ h3)) (fun a w hF hW => ?_)
    refine ls hF hW rfl ((y_assign hF rfl).q) (fun a w hF hW => ?_)
    refine ls_nil ?_
    refine c_then ?_
    refine wp_ret ?_
    refine r_then ?_
    have H := Option.some.inj H
    subst H
    refine post1 (.inl rfl) hF hW rfl (rv_tmp hF rfl) ?_
    exact ⟨rfl, hW.done⟩
  ·
    have H := iteF (by rw [hb]; decide) H
    rw [hb] at hF
    clear hb
    refine wp_skip ?_
    refine c_then ?_
    obtain ⟨o2, G2, K2, L2⟩ := orE H
    refine c_seqJ (fun a w => some (Sum.inl ()) = some o2 ∧ Fr 104 [] [(0, .int .i64 p0), (1, v1), (2, v2), (6, .bool false)] a ∧ Stw ⟨Y, [], w0⟩ [] [] w) ?_ ?_
    ·
      have H := G2
      clear G2 K2
      refine c_seq ?_
      refine reg_list ?_
      refine ls hF hW rfl ((y_assign hF rfl).q) (fun a w hF hW => ?_)
      refine ls_nil ?_
      refine c_then ?_
      refine wp_block ?_
      refine c_loopW H (fun s a w => Fr 104 [] [(0, .int .i64 p0), (1, v1), (2, v2), (6, .bool false), (7, .int .i64 s)] a ∧ Stw ⟨Y, [], w0⟩ [] [] w) ⟨hF.re ⟨rfl, rfl, rfl, rfl, rfl, trivial⟩, hW⟩ (fun s o a w H L3 hR => ?_)
      obtain ⟨x5, rfl⟩ : ∃ x, x = s := ⟨s, rfl⟩
      obtain ⟨hF, hW⟩ := hR
      have hF : Fr 104 [] [(0, .int .i64 p0), (1, v1), (2, v2), (6, .bool false), (7, .int .i64 x5)] a := hF
      have hW : Stw ⟨Y, [], w0⟩ [] [] w := hW
      rw [L22_DiffLeast_l1] at H
      refine c_seq ?_
      refine c_seq ?_
      refine reg_list ?_
      refine ls hF hW rfl ((y_move hF rfl).q) (fun a w hF hW => ?_)
      refine ls hF hW rfl ((y_move hF rfl).q) (fun a w hF hW => ?_)
      refine ls hF hW rfl ((y_len (r := (Rp.int .i64)) (l := p2) Try.underlying23 rfl hF rfl (rdc_ro h_v2)).q) (fun a w hF hW => ?_)
      refine ls hF hW rfl ((y_lss hF rfl rfl).q) (fun a w hF hW => ?_)
      refine ls_nil ?_
      refine c_then ?_
      refine c_cond hF rfl (fun hb => ?_) (fun hb => ?_)
      ·
        have H := iteT (of_decide_eq_true hb) H
        rw [hb] at hF
        clear hb
        refine wp_skip ?_
        refine c_then ?_
        refine c_seq ?_
        refine wp_block ?_
        refine c_seq ?_
        refine reg_list ?_
        refine ls hF hW rfl ((y_move hF rfl).q) (fun a w hF hW => ?_)
        refine ls hF hW rfl ((y_move hF rfl).q) (fun a w hF hW => ?_)
        obtain ⟨x6, h4, H⟩ := bindE H
        refine ls hF hW rfl ((y_index (r := (Rp.int .i64)) L23 hF rfl rfl (rdc_ro h_v2) h4).q) (fun a w hF hW => ?_)
        refine ls hF hW rfl ((y_load_el (y := Value.int .i64 x6) (j := 0) (i := x5) hF rfl rfl (rdc_ro h_v2) h4 Fl.int.to T3 rfl).q) (fun a w hF hW => ?_)
        refine ls hF hW rfl ((y_lss hF rfl rfl).q) (fun a w hF hW => ?_)
        refine ls_nil ?_
        refine c_then ?_
        refine c_cond hF rfl (fun hb => ?_) (fun hb => ?_)
        ·
          have H := iteT (of_decide_eq_true hb) H
          rw [hb] at hF
          clear hb
          refine c_seq ?_
          refine reg_list ?_
          obtain ⟨x7, h5, H⟩ := bindE H
          refine ls hF hW rfl (y_call (v := Value.bool x7) hF H6 rfl (fun w hW => L22_awake_c any w _ h5)) (fun a w hF hW => ?_)
          refine ls hF hW rfl ((y_assign hF rfl).q) (fun a w hF hW => ?_)
          refine ls_nil ?_
          refine c_then ?_
          refine wp_ret ?_
          refine r_block ?_
          refine r_then ?_
          refine r_then ?_
          refine r_block ?_
          refine r_then ?_
          have H := L3 _ H
          have H := L2 _ H
          have H := Option.some.inj H
          subst H
          refine post1 (.inl rfl) hF hW rfl (rv_tmp hF rfl) ?_
          exact ⟨rfl, hW.done⟩
        ·
          have H := iteF (of_decide_eq_false hb) H
          rw [hb] at hF
          clear hb
          refine wp_skip ?_
          refine b_normal ?_
          refine c_then ?_
          refine reg_list ?_
          refine ls hF hW rfl ((y_move hF rfl).q) (fun a w hF hW => ?_)
          refine ls hF hW rfl ((y_add hF rfl rfl rfl).q) (fun a w hF hW => ?_)
          refine ls hF hW rfl ((y_assign hF rfl).q) (fun a w hF hW => ?_)
          refine ls_nil ?_
          refine c_then ?_
          exact ⟨_, H, hF.re ⟨rfl, rfl, rfl, rfl, rfl, trivial⟩, hW⟩
      ·
        have H := iteF (of_decide_eq_false hb) H
        rw [hb] at hF
        clear hb
        refine wp_exit ?_
        refine e_then ?_
        refine e_then ?_
        refine e_block ?_
        refine c_then ?_
        have H := L3 _ H
        exact ⟨H, hF.re ⟨rfl, rfl, rfl, rfl, trivial⟩, hW⟩
    rintro a w ⟨hj, hF, hW⟩
    have H := K2 _ hj
    clear hj G2 K2 L2
    refine c_seq ?_
    refine reg_list ?_
    refine ls hF hW rfl ((y_move hF rfl).q) (fun a w hF hW => ?_)
    obtain ⟨x8, h6, H⟩ := bindE H
    refine l_callG (Ml := []) (Zl := []) (M := []) (Z := []) (β := Value) (rv := fun x => x) (MM := fun x => []) (ZZ := fun x => [row x 40 R40 x8]) hF hW H7 rfl rfl (fun hL => L22_mine_c _ w (v1) p1 _ h6 ((rdc_ro h_v1) w hW).nx) (fun x a w hF hW => ?_)
    obtain ⟨v3, rfl⟩ : ∃ y, y = x := ⟨x, rfl⟩
    have hW : Stw ⟨Y, [], w0⟩ [] [row v3 40 R40 x8] w := hW
    refine ls hF hW rfl ((y_assign hF rfl).q) (fun a w hF hW => ?_)
    refine ls_nil ?_
    refine c_then ?_
    refine c_seq ?_
    refine reg_list ?_
    refine ls hF hW rfl ((y_move hF rfl).q) (fun a w hF hW => ?_)
    refine ls hF hW rfl ((y_move hF rfl).q) (fun a w hF hW => ?_)
    obtain ⟨x9, h7, H⟩ := bindE H
    refine l_callG (Ml := []) (Zl := []) (M := []) (Z := [row v3 40 R40 x8]) (β := Value) (rv := fun x => .tuple #[x, .bool x9.2]) (MM := fun x => []) (ZZ := fun x => [row x 3 (Rp.int .i64) x9.1]) hF hW H8 rfl rfl (fun hL => diff_Earliest_c _ w (v3) p0 x8 _ h7 ((rdc_row 0 rfl) w hW).nx) (fun x a w hF hW => ?_)
    obtain ⟨v4, rfl⟩ : ∃ y, y = x := ⟨x, rfl⟩
    have hW : Stw ⟨Y, [], w0⟩ [] [row v4 3 (Rp.int .i64) x9.1, row v3 40 R40 x8] w := hW
    refine ls hF hW rfl ((y_move hF rfl).q) (fun a w hF hW => ?_)
    refine ls hF hW rfl ((y_extract (v := v4) hF rfl rfl).q) (fun a w hF hW => ?_)
    refine ls hF hW rfl ((y_extract (v := Value.bool x9.2) hF rfl rfl).q) (fun a w hF hW => ?_)
    refine ls hF hW rfl ((y_assign hF rfl).q) (fun a w hF hW => ?_)
    refine ls hF hW rfl ((y_assign hF rfl).q) (fun a w hF hW => ?_)
    refine ls_nil ?_
    refine c_then ?_
    refine c_seq ?_
    refine reg_list ?_
    refine ls hF hW rfl ((y_move hF rfl).q) (fun a w hF hW => ?_)
    refine ls hF hW rfl ((y_move hF rfl).q) (fun a w hF hW => ?_)
    refine ls hF hW rfl ((y_move hF rfl).q) (fun a w hF hW => ?_)
    obtain ⟨x10, h8, H⟩ := bindE H
    refine l_callG (Ml := []) (Zl := []) (M := []) (Z := [row v4 3 (Rp.int .i64) x9.1, row v3 40 R40 x8]) (β := Value) (rv := fun x => x) (MM := fun x => []) (ZZ := fun x => [row x 3 (Rp.int .i64) x10]) hF hW H14 rfl rfl (fun hL => r22_Wrong_c _ w (v1) (v2) p0 p1 p2 _ h8 ((rdc_ro h_v1) w hW).nx ((rdc_ro h_v2) w hW).nx) (fun x a w hF hW => ?_)
    obtain ⟨v5, rfl⟩ : ∃ y, y = x := ⟨x, rfl⟩
    have hW : Stw ⟨Y, [], w0⟩ [] [row v5 3 (Rp.int .i64) x10, row v4 3 (Rp.int .i64) x9.1, row v3 40 R40 x8] w := hW
    refine ls hF hW rfl ((y_len (r := (Rp.int .i64)) (l := x10) Try.underlying23 rfl hF rfl (rdc_row 0 rfl)).q) (fun a w hF hW => ?_)
    refine ls hF hW rfl ((y_eql hF rfl rfl).q) (fun a w hF hW => ?_)
    refine ls hF hW rfl ((y_assign hF rfl).q) (fun a w hF hW => ?_)
    refine ls_nil ?_
    refine c_then ?_
    refine c_seq ?_
    refine c_seq ?_
    refine reg_list ?_
    refine ls hF hW rfl ((y_move hF rfl).q) (fun a w hF hW => ?_)
    refine ls hF hW rfl ((y_not hF rfl).q) (fun a w hF hW => ?_)
    refine ls_nil ?_
    refine c_then ?_
    refine c_cond hF rfl (fun hb => ?_) (fun hb => ?_)
    ·
      have H := iteT hb H
      rw [hb] at hF
      clear hb
      obtain ⟨o4, G4, K4⟩ := bindE H
      refine c_seqJ (fun a w => ∃ x11 : Bool, some (x11) = some o4 ∧ Fr 104 [] [(0, .int .i64 p0), (2, v2), (6, .bool x11), (8, v3), (9, v4), (11, .bool (decide ((x10.length : Int) = 0)))] a ∧ Stw ⟨Y, [], w0⟩ [] [row v3 40 R40 x8, row v4 3 (Rp.int .i64) x9.1] w) ?_ ?_
      ·
        have H := G4
        clear G4 K4
        refine reg_list ?_
        refine ls hF hW rfl ((y_move hF rfl).q) (fun a w hF hW => ?_)
        refine ls hF hW rfl ((y_len (r := (Rp.int .i64)) (l := x9.1) Try.underlying23 rfl hF rfl (rdc_row 1 rfl)).q) (fun a w hF hW => ?_)
        refine ls hF hW rfl ((y_eql hF rfl rfl).q) (fun a w hF hW => ?_)
        refine ls hF hW rfl ((y_move hF rfl).q) (fun a w hF hW => ?_)
        rcases Bool.eq_false_or_eq_true (decide ((x9.1.length : Int) = 0)) with hb | hb
        ·
          have H := iteT (of_decide_eq_true hb) H
          rw [hb] at hF
          clear hb
          refine ls_w hF hW (wanted_y hF rfl rfl rfl rfl) rfl (Nat.le_of_ble_eq_true rfl) ((y_move hF rfl).q) (fun a w hF hW => ?_)
          refine ls_w hF hW (wanted_y hF rfl rfl rfl rfl) rfl (Nat.le_of_ble_eq_true rfl) ((y_not hF rfl).q) (fun a w hF hW => ?_)
          refine ls hF hW rfl ((y_pick_t hF rfl rfl rfl).q) (fun a w hF hW => ?_)
          refine ls hF hW rfl ((y_move hF rfl).q) (fun a w hF hW => ?_)
          rcases Bool.eq_false_or_eq_true (!(decide ((x10.length : Int) = 0))) with hb | hb
          ·
            have H := iteT hb H
            rw [hb] at hF
            clear hb
            refine ls_g (wanted_y hF rfl rfl rfl rfl) ?_
            obtain ⟨x12, h9, H⟩ := bindE H
            refine ls hF hW rfl (y_call (v := Value.bool x12) hF H6 rfl (fun w hW => L22_awake_c any w _ h9)) (fun a w hF hW => ?_)
            refine ls hF hW rfl ((y_pick_t hF rfl rfl rfl).q) (fun a w hF hW => ?_)
            refine ls hF hW rfl ((y_assign hF rfl).q) (fun a w hF hW => ?_)
            refine ls_nil ?_
            refine c_then ?_
            have hW := hW.frontZ (i := 1) rfl rfl
            have hW := hW.frontZ (i := 2) rfl rfl
            have hW := hW.sub (M' := []) (Z' := [row v3 40 R40 x8, row v4 3 (Rp.int .i64) x9.1]) (List.Sublist.refl _) (List.Sublist.cons_cons _ (List.Sublist.cons_cons _ (List.nil_sublist _)))
            exact ⟨_, H, hF.re ⟨rfl, rfl, rfl, rfl, rfl, rfl, trivial⟩, hW⟩
          ·
            have H := iteF (by rw [hb]; decide) H
            rw [hb] at hF
            clear hb
            refine ls_skip hF (wanted_n hF rfl rfl rfl rfl rfl) rfl rfl (fun a hF => ?_)
            refine ls hF hW rfl ((y_pick_f hF rfl rfl rfl).q) (fun a w hF hW => ?_)
            refine ls hF hW rfl ((y_assign hF rfl).q) (fun a w hF hW => ?_)
            refine ls_nil ?_
            refine c_then ?_
            have hW := hW.frontZ (i := 1) rfl rfl
            have hW := hW.frontZ (i := 2) rfl rfl
            have hW := hW.sub (M' := []) (Z' := [row v3 40 R40 x8, row v4 3 (Rp.int .i64) x9.1]) (List.Sublist.refl _) (List.Sublist.cons_cons _ (List.Sublist.cons_cons _ (List.nil_sublist _)))
            exact ⟨_, H, hF.re ⟨rfl, rfl, rfl, rfl, rfl, rfl, trivial⟩, hW⟩
        ·
          have H := iteF (of_decide_eq_false hb) H
          rw [hb] at hF
          clear hb
          refine ls_skip hF (wanted_n hF rfl rfl rfl rfl rfl) rfl rfl (fun a hF => ?_)
          refine ls_skip hF (wanted_n hF rfl rfl rfl rfl rfl) rfl rfl (fun a hF => ?_)
          refine ls hF hW rfl ((y_pick_f hF rfl rfl rfl).q) (fun a w hF hW => ?_)
          refine ls hF hW rfl ((y_move hF rfl).q) (fun a w hF hW => ?_)
          refine ls_skip hF (wanted_n hF rfl rfl rfl rfl rfl) rfl rfl (fun a hF => ?_)
          refine ls hF hW rfl ((y_pick_f hF rfl rfl rfl).q) (fun a w hF hW => ?_)
          refine ls hF hW rfl ((y_assign hF rfl).q) (fun a w hF hW => ?_)
          refine ls_nil ?_
          refine c_then ?_
          have hW := hW.frontZ (i := 1) rfl rfl
          have hW := hW.frontZ (i := 2) rfl rfl
          have hW := hW.sub (M' := []) (Z' := [row v3 40 R40 x8, row v4 3 (Rp.int .i64) x9.1]) (List.Sublist.refl _) (List.Sublist.cons_cons _ (List.Sublist.cons_cons _ (List.nil_sublist _)))
          exact ⟨_, H, hF.re ⟨rfl, rfl, rfl, rfl, rfl, rfl, trivial⟩, hW⟩
      rintro a w ⟨x11, hj, hF, hW⟩
      have hj := Option.some.inj hj
      subst hj
      have H := K4
      clear G4 K4
      refine wp_ret ?_
      refine r_then ?_
      have H := Option.some.inj H
      subst H
      refine post1 (.inl rfl) hF hW rfl (rv_tmp hF rfl) ?_
      exact ⟨rfl, hW.done⟩
    ·
      have H := iteF (by rw [hb]; decide) H
      rw [hb] at hF
      clear hb
      refine wp_skip ?_
      refine c_then ?_
      refine c_seq ?_
      obtain ⟨o5, G5, K5⟩ := bindE H
      refine c_seqJ (fun a w => ∃ x13 : Bool, some (x13) = some o5 ∧ Fr 104 [] [(0, .int .i64 p0), (2, v2), (6, .bool false), (9, v4), (11, .bool (decide ((x10.length : Int) = 0))), (78, .bool x13)] a ∧ Stw ⟨Y, [], w0⟩ [] [row v4 3 (Rp.int .i64) x9.1] w) ?_ ?_
      ·
        have H := G5
        clear G5 K5
        refine reg_list ?_
        refine ls hF hW rfl ((y_move hF rfl).q) (fun a w hF hW => ?_)
        refine ls hF hW rfl ((y_len (r := (Rp.int .i64)) (l := x9.1) Try.underlying23 rfl hF rfl (rdc_row 1 rfl)).q) (fun a w hF hW => ?_)
        refine ls hF hW rfl ((y_move hF rfl).q) (fun a w hF hW => ?_)
        refine ls hF hW rfl ((y_neq hF rfl rfl).q) (fun a w hF hW => ?_)
        refine ls hF hW rfl ((y_move hF rfl).q) (fun a w hF hW => ?_)
        rcases Bool.eq_false_or_eq_true (decide ((x9.1.length : Int) ≠ p0)) with hb | hb
        ·
          have H := iteT (of_decide_eq_true hb) H
          rw [hb] at hF
          clear hb
          refine ls_skip hF (wanted_n hF rfl rfl rfl rfl rfl) rfl rfl (fun a hF => ?_)
          refine ls_skip hF (wanted_n hF rfl rfl rfl rfl rfl) rfl rfl (fun a hF => ?_)
          refine ls_skip hF (wanted_n hF rfl rfl rfl rfl rfl) rfl rfl (fun a hF => ?_)
          refine ls_skip hF (wanted_n hF rfl rfl rfl rfl rfl) rfl rfl (fun a hF => ?_)
          refine ls_skip hF (wanted_n hF rfl rfl rfl rfl rfl) rfl rfl (fun a hF => ?_)
          refine ls_skip hF (wanted_n hF rfl rfl rfl rfl rfl) rfl rfl (fun a hF => ?_)
          refine ls hF hW rfl ((y_pick_t hF rfl rfl rfl).q) (fun a w hF hW => ?_)
          refine ls_nil ?_
          refine c_then ?_
          have hW := hW.frontZ (i := 1) rfl rfl
          have hW := hW.sub (M' := []) (Z' := [row v4 3 (Rp.int .i64) x9.1]) (List.Sublist.refl _) (List.Sublist.cons_cons _ (List.nil_sublist _))
          exact ⟨_, H, hF.re ⟨rfl, rfl, rfl, rfl, rfl, rfl, trivial⟩, hW⟩
        ·
          have H := iteF (of_decide_eq_false hb) H
          rw [hb] at hF
          clear hb
          refine ls_w hF hW (wanted_y hF rfl rfl rfl rfl) rfl (Nat.le_of_ble_eq_true rfl) ((y_move hF rfl).q) (fun a w hF hW => ?_)
          refine ls_w hF hW (wanted_y hF rfl rfl rfl rfl) rfl (Nat.le_of_ble_eq_true rfl) ((y_move hF rfl).q) (fun a w hF hW => ?_)
          refine ls_w hF hW (wanted_y hF rfl rfl rfl rfl) rfl (Nat.le_of_ble_eq_true rfl) ((y_move hF rfl).q) (fun a w hF hW => ?_)
          refine ls_g (wanted_y hF rfl rfl rfl rfl) ?_
          obtain ⟨x14, h10, H⟩ := bindE H
          refine l_callG (Ml := []) (Zl := []) (M := []) (Z := [row v5 3 (Rp.int .i64) x10, row v4 3 (Rp.int .i64) x9.1, row v3 40 R40 x8]) (β := Value) (rv := fun x => x) (MM := fun x => []) (ZZ := fun x => [row x 3 (Rp.int .i64) x14]) hF hW H13 rfl rfl (fun hL => diff_Wrong_c _ w (v3) (v4) p0 x8 x9.1 _ h10 ((rdc_row 2 rfl) w hW).nx ((rdc_row 1 rfl) w hW).nx) (fun x a w hF hW => ?_)
          obtain ⟨v6, rfl⟩ : ∃ y, y = x := ⟨x, rfl⟩
          have hW : Stw ⟨Y, [], w0⟩ [] [row v6 3 (Rp.int .i64) x14, row v5 3 (Rp.int .i64) x10, row v4 3 (Rp.int .i64) x9.1, row v3 40 R40 x8] w := hW
          refine ls_w hF hW (wanted_y hF rfl rfl rfl rfl) rfl (Nat.le_of_ble_eq_true rfl) ((y_len (r := (Rp.int .i64)) (l := x14) Try.underlying23 rfl hF rfl (rdc_row 0 rfl)).q) (fun a w hF hW => ?_)
          refine ls_w hF hW (wanted_y hF rfl rfl rfl rfl) rfl (Nat.le_of_ble_eq_true rfl) ((y_neq hF rfl rfl).q) (fun a w hF hW => ?_)
          refine ls hF hW rfl ((y_pick_f hF rfl rfl rfl).q) (fun a w hF hW => ?_)
          refine ls_nil ?_
          refine c_then ?_
          have hW := hW.frontZ (i := 2) rfl rfl
          have hW := hW.sub (M' := []) (Z' := [row v4 3 (Rp.int .i64) x9.1]) (List.Sublist.refl _) (List.Sublist.cons_cons _ (List.nil_sublist _))
          exact ⟨_, H, hF.re ⟨rfl, rfl, rfl, rfl, rfl, rfl, trivial⟩, hW⟩
      rintro a w ⟨x13, hj, hF, hW⟩
      have hj := Option.some.inj hj
      subst hj
      have H := K5
      clear G5 K5
      refine c_cond hF rfl (fun hb => ?_) (fun hb => ?_)
      ·
        have H := iteT hb H
        rw [hb] at hF
        clear hb
        refine c_seq ?_
        refine reg_list ?_
        refine ls hF hW rfl ((y_assign hF rfl).q) (fun a w hF hW => ?_)
        refine ls_nil ?_
        refine c_then ?_
        refine wp_ret ?_
        refine r_then ?_
        have H := Option.some.inj H
        subst H
        refine post1 (.inl rfl) hF hW rfl (rv_tmp hF rfl) ?_
        exact ⟨rfl, hW.done⟩
      ·
        have H := iteF (by rw [hb]; decide) H
        rw [hb] at hF
        clear hb
        refine wp_skip ?_
        refine c_then ?_
        obtain ⟨o6, G6, K6, L6⟩ := orE H
        refine c_seqJ (fun a w => some (Sum.inl ()) = some o6 ∧ Fr 104 [] [(6, .bool false)] a ∧ Stw ⟨Y, [], w0⟩ [] [] w) ?_ ?_
        ·
          have H := G6
          clear G6 K6
          refine c_seq ?_
          refine reg_list ?_
          refine ls hF hW rfl ((y_assign hF rfl).q) (fun a w hF hW => ?_)
          refine ls_nil ?_
          refine c_then ?_
          refine wp_block ?_
          refine c_loopW H (fun s a w => Fr 104 [] [(0, .int .i64 p0), (2, v2), (6, .bool false), (9, v4), (11, .bool s.1), (12, .int .i64 s.2)] a ∧ Stw ⟨Y, [], w0⟩ [] [row v4 3 (Rp.int .i64) x9.1] w) ⟨hF.re ⟨rfl, rfl, rfl, rfl, rfl, rfl, trivial⟩, hW⟩ (fun s o a w H L7 hR => ?_)
          obtain ⟨x15, x16⟩ := s
          obtain ⟨hF, hW⟩ := hR
          have hF : Fr 104 [] [(0, .int .i64 p0), (2, v2), (6, .bool false), (9, v4), (11, .bool x15), (12, .int .i64 x16)] a := hF
          have hW : Stw ⟨Y, [], w0⟩ [] [row v4 3 (Rp.int .i64) x9.1] w := hW
          rw [L22_DiffLeast_l2] at H
          refine c_seq ?_
          refine c_seq ?_
          refine reg_list ?_
          refine ls hF hW rfl ((y_move hF rfl).q) (fun a w hF hW => ?_)
          refine ls hF hW rfl ((y_move hF rfl).q) (fun a w hF hW => ?_)
          refine ls hF hW rfl ((y_lss hF rfl rfl).q) (fun a w hF hW => ?_)
          refine ls_nil ?_
          refine c_then ?_
          refine c_cond hF rfl (fun hb => ?_) (fun hb => ?_)
          ·
            have H := iteT (of_decide_eq_true hb) H
            rw [hb] at hF
            clear hb
            refine wp_skip ?_
            refine c_then ?_
            refine c_seq ?_
            refine wp_block ?_
            obtain ⟨o8, G8, K8⟩ := bindE H
            refine c_seqJ (fun a w => ∃ x17 : Bool, ∃ x18 : Bool, some ((x17, x18)) = some o8 ∧ Fr 104 [] [(0, .int .i64 p0), (2, v2), (6, .bool false), (9, v4), (11, .bool x17), (12, .int .i64 x16), (102, .bool x18)] a ∧ Stw ⟨Y, [], w0⟩ [] [row v4 3 (Rp.int .i64) x9.1] w) ?_ ?_
            ·
              have H := G8
              clear G8 K8
              refine reg_quiet hW MO (by kernel_rfl) ?_
              refine qs hF rfl ((y_move hF rfl).q) (fun a hF => ?_)
              refine qs hF rfl ((y_move hF rfl).q) (fun a hF => ?_)
              obtain ⟨x19, h11, H⟩ := bindE H
              refine qs hF rfl ((y_index (r := (Rp.int .i64)) L23 hF rfl rfl (rdc_row 0 rfl) h11).q) (fun a hF => ?_)
              refine qs hF rfl ((y_load_el (y := Value.int .i64 x19) (j := 0) (i := x16) hF rfl rfl (rdc_row 0 rfl) h11 Fl.int.to T3 rfl).q) (fun a hF => ?_)
              refine qs hF rfl ((y_lss hF rfl rfl).q) (fun a hF => ?_)
              refine qs hF rfl ((y_move hF rfl).q) (fun a hF => ?_)
              rcases Bool.eq_false_or_eq_true (decide (x19 < 0)) with hb | hb
              ·
                have H := iteT (of_decide_eq_true hb) H
                rw [hb] at hF
                clear hb
                refine qs_skip hF (wanted_n hF rfl rfl rfl rfl rfl) rfl rfl (fun a hF => ?_)
                refine qs_skip hF (wanted_n hF rfl rfl rfl rfl rfl) rfl rfl (fun a hF => ?_)
                refine qs_skip hF (wanted_undef hF rfl rfl rfl rfl) rfl rfl (fun a hF => ?_)
                refine qs_skip hF (wanted_undef hF rfl rfl rfl rfl) rfl rfl (fun a hF => ?_)
                refine qs_skip hF (wanted_undef hF rfl rfl rfl rfl) rfl rfl (fun a hF => ?_)
                refine qs_skip hF (wanted_undef hF rfl rfl rfl rfl) rfl rfl (fun a hF => ?_)
                refine qs_skip hF (wanted_undef hF rfl rfl rfl rfl) rfl rfl (fun a hF => ?_)
                refine qs_skip hF (wanted_undef hF rfl rfl rfl rfl) rfl rfl (fun a hF => ?_)
                refine qs_skip hF (wanted_undef hF rfl rfl rfl rfl) rfl rfl (fun a hF => ?_)
                refine qs_skip hF (wanted_undef hF rfl rfl rfl rfl) rfl rfl (fun a hF => ?_)
                refine qs_skip hF (wanted_undef hF rfl rfl rfl rfl) rfl rfl (fun a hF => ?_)
                refine qs_skip hF (wanted_n hF rfl rfl rfl rfl rfl) rfl rfl (fun a hF => ?_)
                refine qs hF rfl ((y_pick_t hF rfl rfl rfl).q) (fun a hF => ?_)
                refine quiet_end (fun w hW => ?_)
                refine c_then ?_
                exact ⟨_, _, H, hF.re ⟨rfl, rfl, rfl, rfl, rfl, rfl, rfl, trivial⟩, hW⟩
              ·
                have H := iteF (of_decide_eq_false hb) H
                rw [hb] at hF
                clear hb
                refine qs_w hF (wanted_y hF rfl rfl rfl rfl) rfl (Nat.le_of_ble_eq_true rfl) ((y_move hF rfl).q) (fun a hF => ?_)
                refine qs_w hF (wanted_y hF rfl rfl rfl rfl) rfl (Nat.le_of_ble_eq_true rfl) ((y_move hF rfl).q) (fun a hF => ?_)
                rcases Bool.eq_false_or_eq_true x15 with hb | hb
                ·
                  have H := iteT hb H
                  rw [hb] at hF
                  clear hb
                  refine qs_w hF (wanted_y hF rfl rfl rfl rfl) rfl (Nat.le_of_ble_eq_true rfl) ((y_move hF rfl).q) (fun a hF => ?_)
                  refine qs_w hF (wanted_y hF rfl rfl rfl rfl) rfl (Nat.le_of_ble_eq_true rfl) ((y_move hF rfl).q) (fun a hF => ?_)
                  obtain ⟨x20, h12, H⟩ := bindE H
                  refine qs_w hF (wanted_y hF rfl rfl rfl rfl) rfl (Nat.le_of_ble_eq_true rfl) ((y_index (r := (Rp.int .i64)) L23 hF rfl rfl (rdc_row 0 rfl) h12).q) (fun a hF => ?_)
                  refine qs_w hF (wanted_y hF rfl rfl rfl rfl) rfl (Nat.le_of_ble_eq_true rfl) ((y_load_el (y := Value.int .i64 x20) (j := 0) (i := x16) hF rfl rfl (rdc_row 0 rfl) h12 Fl.int.to T3 rfl).q) (fun a hF => ?_)
                  refine qs_w hF (wanted_y hF rfl rfl rfl rfl) rfl (Nat.le_of_ble_eq_true rfl) ((y_move hF rfl).q) (fun a hF => ?_)
                  refine qs_w hF (wanted_y hF rfl rfl rfl rfl) rfl (Nat.le_of_ble_eq_true rfl) ((y_move hF rfl).q) (fun a hF => ?_)
                  obtain ⟨x21, h13, H⟩ := bindE H
                  refine qs_w hF (wanted_y hF rfl rfl rfl rfl) rfl (Nat.le_of_ble_eq_true rfl) ((y_index (r := (Rp.int .i64)) L23 hF rfl rfl (rdc_ro h_v2) h13).q) (fun a hF => ?_)
                  refine qs_w hF (wanted_y hF rfl rfl rfl rfl) rfl (Nat.le_of_ble_eq_true rfl) ((y_load_el (y := Value.int .i64 x21) (j := 0) (i := x16) hF rfl rfl (rdc_ro h_v2) h13 Fl.int.to T3 rfl).q) (fun a hF => ?_)
                  refine qs_w hF (wanted_y hF rfl rfl rfl rfl) rfl (Nat.le_of_ble_eq_true rfl) ((y_gtr hF rfl rfl).q) (fun a hF => ?_)
                  refine qs_w hF (wanted_y hF rfl rfl rfl rfl) rfl (Nat.le_of_ble_eq_true rfl) ((y_pick_t hF rfl rfl rfl).q) (fun a hF => ?_)
                  refine qs hF rfl ((y_pick_f hF rfl rfl rfl).q) (fun a hF => ?_)
                  refine quiet_end (fun w hW => ?_)
                  refine c_then ?_
                  exact ⟨_, _, H, hF.re ⟨rfl, rfl, rfl, rfl, rfl, rfl, rfl, trivial⟩, hW⟩
                ·
                  have H := iteF (by rw [hb]; decide) H
                  rw [hb] at hF
                  clear hb
                  refine qs_skip hF (wanted_n hF rfl rfl rfl rfl rfl) rfl rfl (fun a hF => ?_)
                  refine qs_skip hF (wanted_n hF rfl rfl rfl rfl rfl) rfl rfl (fun a hF => ?_)
                  refine qs_skip hF (wanted_n hF rfl rfl rfl rfl rfl) rfl rfl (fun a hF => ?_)
                  refine qs_skip hF (wanted_n hF rfl rfl rfl rfl rfl) rfl rfl (fun a hF => ?_)
                  refine qs_skip hF (wanted_n hF rfl rfl rfl rfl rfl) rfl rfl (fun a hF => ?_)
                  refine qs_skip hF (wanted_n hF rfl rfl rfl rfl rfl) rfl rfl (fun a hF => ?_)
                  refine qs_skip hF (wanted_n hF rfl rfl rfl rfl rfl) rfl rfl (fun a hF => ?_)
                  refine qs_skip hF (wanted_n hF rfl rfl rfl rfl rfl) rfl rfl (fun a hF => ?_)
                  refine qs_skip hF (wanted_n hF rfl rfl rfl rfl rfl) rfl rfl (fun a hF => ?_)
                  refine qs_w hF (wanted_y hF rfl rfl rfl rfl) rfl (Nat.le_of_ble_eq_true rfl) ((y_pick_f hF rfl rfl rfl).q) (fun a hF => ?_)
                  refine qs hF rfl ((y_pick_f hF rfl rfl rfl).q) (fun a hF => ?_)
                  refine quiet_end (fun w hW => ?_)
                  refine c_then ?_
                  exact ⟨_, _, H, hF.re ⟨rfl, rfl, rfl, rfl, rfl, rfl, rfl, trivial⟩, hW⟩
            rintro a w ⟨x17, x18, hj, hF, hW⟩
            have hj := Option.some.inj hj
            subst hj
            have H := K8
            clear G8 K8
            refine c_cond hF rfl (fun hb => ?_) (fun hb => ?_)
            ·
              have H := iteT hb H
              rw [hb] at hF
              clear hb
              refine c_seq ?_
              refine reg_list ?_
              refine ls hF hW rfl ((y_assign hF rfl).q) (fun a w hF hW => ?_)
              refine ls_nil ?_
              refine c_then ?_
              refine wp_ret ?_
              refine r_block ?_
              refine r_then ?_
              refine r_then ?_
              refine r_block ?_
              refine r_then ?_
              have H := L7 _ H
              have H := L6 _ H
              have H := Option.some.inj H
              subst H
              refine post1 (.inl rfl) hF hW rfl (rv_tmp hF rfl) ?_
              exact ⟨rfl, hW.done⟩
            ·
              have H := iteF (by rw [hb]; decide) H
              rw [hb] at hF
              clear hb
              refine wp_skip ?_
              refine b_normal ?_
              refine c_then ?_
              refine reg_list ?_
              refine ls hF hW rfl ((y_move hF rfl).q) (fun a w hF hW => ?_)
              refine ls hF hW rfl ((y_add hF rfl rfl rfl).q) (fun a w hF hW => ?_)
              refine ls hF hW rfl ((y_assign hF rfl).q) (fun a w hF hW => ?_)
              refine ls_nil ?_
              refine c_then ?_
              exact ⟨_, H, hF.re ⟨rfl, rfl, rfl, rfl, rfl, rfl, trivial⟩, hW⟩
          ·
            have H := iteF (of_decide_eq_false hb) H
            rw [hb] at hF
            clear hb
            refine wp_exit ?_
            refine e_then ?_
            refine e_then ?_
            refine e_block ?_
            refine c_then ?_
            have hW := hW.sub (M' := []) (Z' := []) (List.Sublist.refl _) (List.nil_sublist _)
            have H := L7 _ H
            exact ⟨H, hF.re ⟨rfl, trivial⟩, hW⟩
        rintro a w ⟨hj, hF, hW⟩
        have H := K6 _ hj
        clear hj G6 K6 L6
        refine c_seq ?_
        refine reg_list ?_
        obtain ⟨x22, h14, H⟩ := bindE H
        refine ls hF hW rfl (y_call (v := Value.bool x22) hF H6 rfl (fun w hW => L22_awake_c any w _ h14)) (fun a w hF hW => ?_)
        refine ls hF hW rfl ((y_assign hF rfl).q) (fun a w hF hW => ?_)
        refine ls_nil ?_
        refine c_then ?_
        refine wp_ret ?_
        have H := Option.some.inj H
        subst H
        refine post1 (.inl rfl) hF hW rfl (rv_tmp hF rfl) ?_
        exact ⟨rfl, hW.done⟩

noncomputable def L22_DiffRing_l2 (p1 : List (Int × Int × Int)) (x7 : List Int) (x10 : Int) : Int → Option (Int ⊕ (Unit ⊕ (Int ⊕ ((Int × Int) ⊕ (Int ⊕ Bool)))))
  | x20 => (if x20 < x10 then (ix x7 x20).bind fun x21 => (ix p1 x21).bind fun x22 => (ix x7 x10).bind fun x23 => (ix p1 x23).bind fun x24 => (if x22.2.1 = x24.2.1 then some (.inr (.inr (.inr (.inr (.inr false))))) else some (.inl (w64 (x20 + 1)))) else some (.inr (.inl ())))
noncomputable def L22_DiffRing_l1 (p1 : List (Int × Int × Int)) (x7 : List Int) : (Int × Int) → Option ((Int × Int) ⊕ (Int ⊕ Bool))
  | (x9, x10) => (if x10 < (x7.length : Int) then orR ((rmI (w64 (x10 + 1)) (x7.length : Int)).bind fun x12 => (ix x7 x12).bind fun x13 => ((ix x7 x10).bind fun x15 => (if x15 < 0 then some true else (ix x7 x10).bind fun x16 => (if (p1.length : Int) ≤ x16 then some true else (if x13 < 0 then some true else (if (p1.length : Int) ≤ x13 then some true else (ix x7 x10).bind fun x17 => (ix p1 x17).bind fun x18 => (ix p1 x13).bind fun x19 => some (decide (x18.2.1 ≠ x19.1))))))).bind fun x14 => (if x14 = true then some (.inr (.inr (.inr false))) else orR (loopW (L22_DiffRing_l2 p1 x7 x10) 0) fun _ => (ix x7 x10).bind fun x25 => (ix p1 x25).bind fun x26 => some (.inl (w64 (x9 + x26.2.2))))) fun x11 => some (.inl (x11, w64 (x10 + 1))) else some (.inr (.inl x9)))
noncomputable def L22_DiffRing (p0 : Int) (p1 : List (Int × Int × Int)) : Option Bool := (if 256 < (p1.length : Int) then some true else (r22_Right p0 p1).bind fun x2 => some (!x2)).bind fun x1 => (if x1 = true then (L22_awake).bind fun x3 => some x3 else (L22_mine p1).bind fun x4 => (diff_Earliest p0 x4).bind fun x5 => (L22_mine p1).bind fun x6 => (diff_Ring p0 x6).bind fun x7 => (if (decide (x5.2 ≠ (decide ((x7.length : Int) = 0))) || decide (p0 < (x7.length : Int))) = true then some false else orR (loopW (L22_DiffRing_l1 p1 x7) (0, 0)) fun x8 => (if x5.2 = true then (L22_awake).bind fun x28 => some x28 else (if 0 < x8 then (L22_awake).bind fun x29 => some x29 else some false)).bind fun x27 => some x27))
theorem L22_DiffRing_c (Y : Nat → Prop) (w0 : World) (v1 : Value) (p0 : Int) (p1 : List (Int × Int × Int)) (r : Bool) (H : L22_DiffRing p0 p1 = some r) (h_v1 : Sl w0 (NX []) R39 v1 p1) :
    Calls Try.prog 5 #[.int .i64 p0, v1] w0 fun e w' => e = .returned (.bool r) ∧ Below w0.heap.size w0 w' := by
  refine enter Try.func5 rfl Try.ntmps5 rfl (fun a hF => ?_)
  have hW := Stw.start Y w0
  unfold L22_DiffRing at H
  refine c_seq ?_
  refine reg_list ?_
  refine ls hF hW rfl ((y_assign hF rfl).q) (fun a w hF hW => ?_)
  refine ls_nil ?_
  refine c_then ?_
  refine c_seq ?_
  obtain ⟨o1, G1, K1⟩ := bindE H
  refine c_seqJ (fun a w => ∃ x1 : Bool, some (x1) = some o1 ∧ Fr 138 [] [(0, .int .i64 p0), (1, v1), (4, .bool false), (20, .bool x1)] a ∧ Stw ⟨Y, [], w0⟩ [] [] w) ?_ ?_
  ·
    have H := G1
    clear G1 K1
    refine reg_list ?_
    refine ls hF hW rfl ((y_move hF rfl).q) (fun a w hF hW => ?_)
    refine ls hF hW rfl ((y_len (r := R39) (l := p1) Try.underlying22 rfl hF rfl (rdc_ro h_v1)).q) (fun a w hF hW => ?_)
    refine ls hF hW rfl ((y_gtr hF rfl rfl).q) (fun a w hF hW => ?_)
    refine ls hF hW rfl ((y_move hF rfl).q) (fun a w hF hW => ?_)
    rcases Bool.eq_false_or_eq_true (decide (256 < (p1.length : Int))) with hb | hb
    ·
      have H := iteT (of_decide_eq_true hb) H
      rw [hb] at hF
      clear hb
      refine ls_skip hF (wanted_n hF rfl rfl rfl rfl rfl) rfl rfl (fun a hF => ?_)
      refine ls_skip hF (wanted_n hF rfl rfl rfl rfl rfl) rfl rfl (fun a hF => ?_)
      refine ls_skip hF (wanted_n hF rfl rfl rfl rfl rfl) rfl rfl (fun a hF => ?_)
      refine ls_skip hF (wanted_n hF rfl rfl rfl rfl rfl) rfl rfl (fun a hF => ?_)
      refine ls hF hW rfl ((y_pick_t hF rfl rfl rfl).q) (fun a w hF hW => ?_)
      refine ls_nil ?_
      refine c_then ?_
      exact ⟨_, H, hF.re ⟨rfl, rfl, rfl, rfl, trivial⟩, hW⟩
    ·
      have H := iteF (of_decide_eq_false hb) H
      rw [hb] at hF
      clear hb
      refine ls_w hF hW (wanted_y hF rfl rfl rfl rfl) rfl (Nat.le_of_ble_eq_true rfl) ((y_move hF rfl).q) (fun a w hF hW => ?_)
      refine ls_w hF hW (wanted_y hF rfl rfl rfl rfl) rfl (Nat.le_of_ble_eq_true rfl) ((y_move hF rfl).q) (fun a w hF hW => ?_)
      refine ls_g (wanted_y hF rfl rfl rfl rfl) ?_
      obtain ⟨x2, h1, H⟩ := bindE H
      refine ls hF hW rfl (y_call (v := Value.bool x2) hF H11 rfl (fun w hW => r22_Right_c any w (v1) p0 p1 _ h1 (((rdc_ro h_v1) : Rdc _ _ _ _ _ _) w hW).nx)) (fun a w hF hW => ?_)
      refine ls_w hF hW (wanted_y hF rfl rfl rfl rfl) rfl (Nat.le_of_ble_eq_true rfl) ((y_not hF rfl).q) (fun a w hF hW => ?_)
      refine ls hF hW rfl ((y_pick_f hF rfl rfl rfl).q) (fun a w hF hW => ?_)
      refine ls_nil ?_
      refine c_then ?_
      exact ⟨_, H, hF.re ⟨rfl, rfl, rfl, rfl, trivial⟩, hW⟩
  rintro a w ⟨x1, hj, hF, hW⟩
  have hj := Option.some.inj hj
  subst hj
  have H := K1
  clear G1 K1
  refine c_cond hF rfl (fun hb => ?_) (fun hb => ?_)
  ·
    have H := iteT hb H
    rw [hb] at hF
    clear hb
    refine c_seq ?_
    refine reg_list ?_
    obtain ⟨x3, h2, H⟩ := bindE H
    refine ls hF hW rfl (y_call (v := Value.bool x3) hF H6 rfl (fun w hW => L22_awake_c any w _ h2)) (fun a w hF hW => ?_)
    refine ls hF hW rfl ((y_assign hF rfl).q) (fun a w hF hW => ?_)
    refine ls_nil ?_
    refine c_then ?_
    refine wp_ret ?_
    refine r_then ?_
    have H := Option.some.inj H
    subst H
    refine post1 (.inl rfl) hF hW rfl (rv_tmp hF rfl) ?_
    exact ⟨rfl, hW.done⟩
  ·
    have H := iteF (by rw [hb]; decide) H
    rw [hb] at hF
    clear hb
    refine wp_skip ?_
    refine c_then ?_
    refine c_seq ?_
    refine reg_list ?_
    refine ls hF hW rfl ((y_move hF rfl).q) (fun a w hF hW => ?_)
    refine ls hF hW rfl ((y_move hF rfl).q) (fun a w hF hW => ?_)
    obtain ⟨x4, h3, H⟩ := bindE H
    refine l_callG (Ml := []) (Zl := []) (M := []) (Z := []) (β := Value) (rv := fun x => x) (MM := fun x => []) (ZZ := fun x => [row x 40 R40 x4]) hF hW H7 rfl rfl (fun hL => L22_mine_c _ w (v1) p1 _ h3 ((rdc_ro h_v1) w hW).nx) (fun x a w hF hW => ?_)
    obtain ⟨v2, rfl⟩ : ∃ y, y = x := ⟨x, rfl⟩
    have hW : Stw ⟨Y, [], w0⟩ [] [row v2 40 R40 x4] w := hW
    obtain ⟨x5, h4, H⟩ := bindE H
    refine l_callG (Ml := []) (Zl := []) (M := []) (Z := [row v2 40 R40 x4]) (β := Value) (rv := fun x => .tuple #[x, .bool x5.2]) (MM := fun x => []) (ZZ := fun x => [row x 3 (Rp.int .i64) x5.1]) hF hW H8 rfl rfl (fun hL => diff_Earliest_c _ w (v2) p0 x4 _ h4 ((rdc_row 0 rfl) w hW).nx) (fun x a w hF hW => ?_)
    obtain ⟨v3, rfl⟩ : ∃ y, y = x := ⟨x, rfl⟩
    have hW : Stw ⟨Y, [], w0⟩ [] [row v3 3 (Rp.int .i64) x5.1, row v2 40 R40 x4] w := hW
    refine ls hF hW rfl ((y_move hF rfl).q) (fun a w hF hW => ?_)
    refine ls hF hW rfl ((y_extract (v := v3) hF rfl rfl).q) (fun a w hF hW => ?_)
    refine ls hF hW rfl ((y_extract (v := Value.bool x5.2) hF rfl rfl).q) (fun a w hF hW => ?_)
    refine ls hF hW rfl ((y_assign hF rfl).q) (fun a w hF hW => ?_)
    refine ls hF hW rfl ((y_assign hF rfl).q) (fun a w hF hW => ?_)
    refine ls_nil ?_
    refine c_then ?_
    refine c_seq ?_
    refine reg_list ?_
    refine ls hF hW rfl ((y_move hF rfl).q) (fun a w hF hW => ?_)
    refine ls hF hW rfl ((y_move hF rfl).q) (fun a w hF hW => ?_)
    obtain ⟨x6, h5, H⟩ := bindE H
    refine l_callG (Ml := []) (Zl := []) (M := []) (Z := [row v3 3 (Rp.int .i64) x5.1, row v2 40 R40 x4]) (β := Value) (rv := fun x => x) (MM := fun x => []) (ZZ := fun x => [row x 40 R40 x6]) hF hW H7 rfl rfl (fun hL => L22_mine_c _ w (v1) p1 _ h5 ((rdc_ro h_v1) w hW).nx) (fun x a w hF hW => ?_)
    obtain ⟨v4, rfl⟩ : ∃ y, y = x := ⟨x, rfl⟩
    have hW : Stw ⟨Y, [], w0⟩ [] [row v4 40 R40 x6, row v3 3 (Rp.int .i64) x5.1, row v2 40 R40 x4] w := hW
    obtain ⟨x7, h6, H⟩ := bindE H
    refine l_callG (Ml := []) (Zl := []) (M := []) (Z := [row v4 40 R40 x6, row v3 3 (Rp.int .i64) x5.1, row v2 40 R40 x4]) (β := Value) (rv := fun x => x) (MM := fun x => []) (ZZ := fun x => [row x 3 (Rp.int .i64) x7]) hF hW H16 rfl rfl (fun hL => diff_Ring_c _ w (v4) p0 x6 _ h6 ((rdc_row 0 rfl) w hW).nx) (fun x a w hF hW => ?_)
    obtain ⟨v5, rfl⟩ : ∃ y, y = x := ⟨x, rfl⟩
    have hW : Stw ⟨Y, [], w0⟩ [] [row v5 3 (Rp.int .i64) x7, row v4 40 R40 x6, row v3 3 (Rp.int .i64) x5.1, row v2 40 R40 x4] w := hW
    refine ls hF hW rfl ((y_assign hF rfl).q) (fun a w hF hW => ?_)
    refine ls_nil ?_
    refine c_then ?_
    refine c_seq ?_
    refine c_seqJ (fun a w => Fr 138 [] [(1, v1), (4, .bool false), (6, .bool x5.2), (7, v5), (43, .bool (decide (x5.2 ≠ (decide ((x7.length : Int) = 0))) || decide (p0 < (x7.length : Int))))] a ∧ Stw ⟨Y, [], w0⟩ [] [row v5 3 (Rp.int .i64) x7, row v4 40 R40 x6, row v3 3 (Rp.int .i64) x5.1, row v2 40 R40 x4] w) ?_ ?_
    ·
      refine reg_list ?_
      refine ls hF hW rfl ((y_move hF rfl).q) (fun a w hF hW => ?_)
      refine ls hF hW rfl ((y_move hF rfl).q) (fun a w hF hW => ?_)
      refine ls hF hW rfl ((y_len (r := (Rp.int .i64)) (l := x7) Try.underlying23 rfl hF rfl (rdc_row 0 rfl)).q) (fun a w hF hW => ?_)
      refine ls hF hW rfl ((y_eql hF rfl rfl).q) (fun a w hF hW => ?_)
      refine ls hF hW rfl ((y_neb Try.underlying4 hF rfl rfl).q) (fun a w hF hW => ?_)
      refine ls hF hW rfl ((y_move hF rfl).q) (fun a w hF hW => ?_)
      rcases Bool.eq_false_or_eq_true (decide (x5.2 ≠ (decide ((x7.length : Int) = 0)))) with hb0 | hb0
      ·
        rw [hb0] at hF
        refine ls_skip hF (wanted_n hF rfl rfl rfl rfl rfl) rfl rfl (fun a hF => ?_)
        refine ls_skip hF (wanted_n hF rfl rfl rfl rfl rfl) rfl rfl (fun a hF => ?_)
        refine ls_skip hF (wanted_n hF rfl rfl rfl rfl rfl) rfl rfl (fun a hF => ?_)
        refine ls_skip hF (wanted_n hF rfl rfl rfl rfl rfl) rfl rfl (fun a hF => ?_)
        refine ls hF hW rfl ((y_pick_t hF rfl rfl rfl).q) (fun a w hF hW => ?_)
        refine ls_nil ?_
        refine c_then ?_
        exact ⟨hF.re ⟨rfl, rfl, rfl, rfl, (by show some (Value.bool true) = some (Value.bool (decide (x5.2 ≠ (decide ((x7.length : Int) = 0))) || decide (p0 < (x7.length : Int)))); try rw [hb0]; all_goals simp only [Bool.not_true, Bool.not_false, Bool.true_and, Bool.false_and, Bool.true_or, Bool.false_or, Bool.and_true, Bool.or_false, cond_true, cond_false]), trivial⟩, hW⟩
      ·
        rw [hb0] at hF
        refine ls_w hF hW (wanted_y hF rfl rfl rfl rfl) rfl (Nat.le_of_ble_eq_true rfl) ((y_move hF rfl).q) (fun a w hF hW => ?_)
        refine ls_w hF hW (wanted_y hF rfl rfl rfl rfl) rfl (Nat.le_of_ble_eq_true rfl) ((y_len (r := (Rp.int .i64)) (l := x7) Try.underlying23 rfl hF rfl (rdc_row 0 rfl)).q) (fun a w hF hW => ?_)
        refine ls_w hF hW (wanted_y hF rfl rfl rfl rfl) rfl (Nat.le_of_ble_eq_true rfl) ((y_move hF rfl).q) (fun a w hF hW => ?_)
        refine ls_w hF hW (wanted_y hF rfl rfl rfl rfl) rfl (Nat.le_of_ble_eq_true rfl) ((y_gtr hF rfl rfl).q) (fun a w hF hW => ?_)
        refine ls hF hW rfl ((y_pick_f hF rfl rfl rfl).q) (fun a w hF hW => ?_)
        refine ls_nil ?_
        refine c_then ?_
        exact ⟨hF.re ⟨rfl, rfl, rfl, rfl, (by show some (Value.bool (decide (p0 < (x7.length : Int)))) = some (Value.bool (decide (x5.2 ≠ (decide ((x7.length : Int) = 0))) || decide (p0 < (x7.length : Int)))); try rw [hb0]; all_goals simp only [Bool.not_true, Bool.not_false, Bool.true_and, Bool.false_and, Bool.true_or, Bool.false_or, Bool.and_true, Bool.or_false, cond_true, cond_false]), trivial⟩, hW⟩
    rintro a w ⟨hF, hW⟩
    refine c_cond hF rfl (fun hb => ?_) (fun hb => ?_)
    ·
      have H := iteT hb H
      rw [hb] at hF
      clear hb
      refine c_seq ?_
      refine reg_list ?_
      refine ls hF hW rfl ((y_assign hF rfl).q) (fun a w hF hW => ?_)
      refine ls_nil ?_
      refine c_then ?_
      refine wp_ret ?_
      refine r_then ?_
      have H := Option.some.inj H
      subst H
      refine post1 (.inl rfl) hF hW rfl (rv_tmp hF rfl) ?_
      exact ⟨rfl, hW.done⟩
    ·
      have H := iteF (by rw [hb]; decide) H
      rw [hb] at hF
      clear hb
      refine wp_skip ?_
      refine c_then ?_
      refine c_seq ?_
      refine reg_list ?_
      refine ls hF hW rfl ((y_assign hF rfl).q) (fun a w hF hW => ?_)
      refine ls_nil ?_
      refine c_then ?_
      obtain ⟨o2, G2, K2, L2⟩ := orE H
      refine c_seqJ (fun a w => ∃ x8 : Int, some (Sum.inl x8) = some o2 ∧ Fr 138 [] [(4, .bool false), (6, .bool x5.2), (8, .int .i64 x8)] a ∧ Stw ⟨Y, [], w0⟩ [] [] w) ?_ ?_
      ·
        have H := G2
        clear G2 K2
        refine c_seq ?_
        refine reg_list ?_
        refine ls hF hW rfl ((y_assign hF rfl).q) (fun a w hF hW => ?_)
        refine ls_nil ?_
        refine c_then ?_
        refine wp_block ?_
        have hW := hW.sub (M' := []) (Z' := [row v5 3 (Rp.int .i64) x7]) (List.Sublist.refl _) (List.Sublist.cons_cons _ (List.nil_sublist _))
        refine c_loopW H (fun s a w => Fr 138 [] [(1, v1), (4, .bool false), (6, .bool x5.2), (7, v5), (8, .int .i64 s.1), (9, .int .i64 s.2)] a ∧ Stw ⟨Y, [], w0⟩ [] [row v5 3 (Rp.int .i64) x7] w) ⟨hF.re ⟨rfl, rfl, rfl, rfl, rfl, rfl, trivial⟩, hW⟩ (fun s o a w H L3 hR => ?_)
        obtain ⟨x9, x10⟩ := s
        obtain ⟨hF, hW⟩ := hR
        have hF : Fr 138 [] [(1, v1), (4, .bool false), (6, .bool x5.2), (7, v5), (8, .int .i64 x9), (9, .int .i64 x10)] a := hF
        have hW : Stw ⟨Y, [], w0⟩ [] [row v5 3 (Rp.int .i64) x7] w := hW
        rw [L22_DiffRing_l1] at H
        refine c_seq ?_
        refine c_seq ?_
        refine reg_list ?_
        refine ls hF hW rfl ((y_move hF rfl).q) (fun a w hF hW => ?_)
        refine ls hF hW rfl ((y_move hF rfl).q) (fun a w hF hW => ?_)
        refine ls hF hW rfl ((y_len (r := (Rp.int .i64)) (l := x7) Try.underlying23 rfl hF rfl (rdc_row 0 rfl)).q) (fun a w hF hW => ?_)
        refine ls hF hW rfl ((y_lss hF rfl rfl).q) (fun a w hF hW => ?_)
        refine ls_nil ?_
        refine c_then ?_
        refine c_cond hF rfl (fun hb => ?_) (fun hb => ?_)
        ·
          have H := iteT (of_decide_eq_true hb) H
          rw [hb] at hF
          clear hb
          refine wp_skip ?_
          refine c_then ?_
          obtain ⟨o4, G4, K4, L4⟩ := orE H
          refine c_seqJ (fun a w => ∃ x11 : Int, some (Sum.inl x11) = some o4 ∧ Fr 138 [] [(1, v1), (4, .bool false), (6, .bool x5.2), (7, v5), (8, .int .i64 x11), (9, .int .i64 x10)] a ∧ Stw ⟨Y, [], w0⟩ [] [row v5 3 (Rp.int .i64) x7] w) ?_ ?_
          ·
            have H := G4
            clear G4 K4
            refine wp_block ?_
            refine c_seq ?_
            refine reg_list ?_
            refine ls hF hW rfl ((y_move hF rfl).q) (fun a w hF hW => ?_)
            refine ls hF hW rfl ((y_move hF rfl).q) (fun a w hF hW => ?_)
            refine ls hF hW rfl ((y_add hF rfl rfl rfl).q) (fun a w hF hW => ?_)
            refine ls hF hW rfl ((y_move hF rfl).q) (fun a w hF hW => ?_)
            refine ls hF hW rfl ((y_len (r := (Rp.int .i64)) (l := x7) Try.underlying23 rfl hF rfl (rdc_row 0 rfl)).q) (fun a w hF hW => ?_)
            obtain ⟨x12, h7, H⟩ := bindE H
            refine ls hF hW rfl ((y_rem hF rfl rfl (rmI_some h7).1 (rmI_some h7).2).q) (fun a w hF hW => ?_)
            obtain ⟨x13, h8, H⟩ := bindE H
            refine ls hF hW rfl ((y_index (r := (Rp.int .i64)) L23 hF rfl rfl (rdc_row 0 rfl) h8).q) (fun a w hF hW => ?_)
            refine ls hF hW rfl ((y_load_el (y := Value.int .i64 x13) (j := 0) (i := x12) hF rfl rfl (rdc_row 0 rfl) h8 Fl.int.to T3 rfl).q) (fun a w hF hW => ?_)
            refine ls hF hW rfl ((y_assign hF rfl).q) (fun a w hF hW => ?_)
            refine ls_nil ?_
            refine c_then ?_
            refine c_seq ?_
            obtain ⟨o5, G5, K5⟩ := bindE H
            refine c_seqJ (fun a w => ∃ x14 : Bool, some (x14) = some o5 ∧ Fr 138 [] [(1, v1), (4, .bool false), (6, .bool x5.2), (7, v5), (8, .int .i64 x9), (9, .int .i64 x10), (97, .bool x14)] a ∧ Stw ⟨Y, [], w0⟩ [] [row v5 3 (Rp.int .i64) x7] w) ?_ ?_
            ·
              have H := G5
              clear G5 K5
              refine reg_quiet hW MO (by kernel_rfl) ?_
              refine qs hF rfl ((y_move hF rfl).q) (fun a hF => ?_)
              refine qs hF rfl ((y_move hF rfl).q) (fun a hF => ?_)
              obtain ⟨x15, h9, H⟩ := bindE H
              refine qs hF rfl ((y_index (r := (Rp.int .i64)) L23 hF rfl rfl (rdc_row 0 rfl) h9).q) (fun a hF => ?_)
              refine qs hF rfl ((y_load_el (y := Value.int .i64 x15) (j := 0) (i := x10) hF rfl rfl (rdc_row 0 rfl) h9 Fl.int.to T3 rfl).q) (fun a hF => ?_)
              refine qs hF rfl ((y_lss hF rfl rfl).q) (fun a hF => ?_)
              refine qs hF rfl ((y_move hF rfl).q) (fun a hF => ?_)
              rcases Bool.eq_false_or_eq_true (decide (x15 < 0)) with hb | hb
              ·
                have H := iteT (of_decide_eq_true hb) H
                rw [hb] at hF
                clear hb
                refine qs_skip hF (wanted_n hF rfl rfl rfl rfl rfl) rfl rfl (fun a hF => ?_)
                refine qs_skip hF (wanted_n hF rfl rfl rfl rfl rfl) rfl rfl (fun a hF => ?_)
                refine qs_skip hF (wanted_n hF rfl rfl rfl rfl rfl) rfl rfl (fun a hF => ?_)
                refine qs_skip hF (wanted_n hF rfl rfl rfl rfl rfl) rfl rfl (fun a hF => ?_)
                refine qs_skip hF (wanted_n hF rfl rfl rfl rfl rfl) rfl rfl (fun a hF => ?_)
                refine qs_skip hF (wanted_n hF rfl rfl rfl rfl rfl) rfl rfl (fun a hF => ?_)
                refine qs_skip hF (wanted_n hF rfl rfl rfl rfl rfl) rfl rfl (fun a hF => ?_)
                refine qs hF rfl ((y_pick_t hF rfl rfl rfl).q) (fun a hF => ?_)
                refine qs hF rfl ((y_move hF rfl).q) (fun a hF => ?_)
                refine qs_skip hF (wanted_n hF rfl rfl rfl rfl rfl) rfl rfl (fun a hF => ?_)
                refine qs_skip hF (wanted_n hF rfl rfl rfl rfl rfl) rfl rfl (fun a hF => ?_)
                refine qs hF rfl ((y_pick_t hF rfl rfl rfl).q) (fun a hF => ?_)
                refine qs hF rfl ((y_move hF rfl).q) (fun a hF => ?_)
                refine qs_skip hF (wanted_n hF rfl rfl rfl rfl rfl) rfl rfl (fun a hF => ?_)
                refine qs_skip hF (wanted_n hF rfl rfl rfl rfl rfl) rfl rfl (fun a hF => ?_)
                refine qs_skip hF (wanted_n hF rfl rfl rfl rfl rfl) rfl rfl (fun a hF => ?_)
                refine qs_skip hF (wanted_n hF rfl rfl rfl rfl rfl) rfl rfl (fun a hF => ?_)
                refine qs hF rfl ((y_pick_t hF rfl rfl rfl).q) (fun a hF => ?_)
                refine qs hF rfl ((y_move hF rfl).q) (fun a hF => ?_)
                refine qs_skip hF (wanted_n hF rfl rfl rfl rfl rfl) rfl rfl (fun a hF => ?_)
                refine qs_skip hF (wanted_n hF rfl rfl rfl rfl rfl) rfl rfl (fun a hF => ?_)
                refine qs_skip hF (wanted_n hF rfl rfl rfl rfl rfl) rfl rfl (fun a hF => ?_)
                refine qs_skip hF (wanted_n hF rfl rfl rfl rfl rfl) rfl rfl (fun a hF => ?_)
                refine qs_skip hF (wanted_n hF rfl rfl rfl rfl rfl) rfl rfl (fun a hF => ?_)
                refine qs_skip hF (wanted_n hF rfl rfl rfl rfl rfl) rfl rfl (fun a hF => ?_)
                refine qs_skip hF (wanted_n hF rfl rfl rfl rfl rfl) rfl rfl (fun a hF => ?_)
                refine qs_skip hF (wanted_n hF rfl rfl rfl rfl rfl) rfl rfl (fun a hF => ?_)
                refine qs_skip hF (wanted_n hF rfl rfl rfl rfl rfl) rfl rfl (fun a hF => ?_)
                refine qs_skip hF (wanted_n hF rfl rfl rfl rfl rfl) rfl rfl (fun a hF => ?_)
                refine qs_skip hF (wanted_n hF rfl rfl rfl rfl rfl) rfl rfl (fun a hF => ?_)
                refine qs_skip hF (wanted_n hF rfl rfl rfl rfl rfl) rfl rfl (fun a hF => ?_)
                refine qs_skip hF (wanted_n hF rfl rfl rfl rfl rfl) rfl rfl (fun a hF => ?_)
                refine qs_skip hF (wanted_n hF rfl rfl rfl rfl rfl) rfl rfl (fun a hF => ?_)
                refine qs hF rfl ((y_pick_t hF rfl rfl rfl).q) (fun a hF => ?_)
                refine quiet_end (fun w hW => ?_)
                refine c_then ?_
                exact ⟨_, H, hF.re ⟨rfl, rfl, rfl, rfl, rfl, rfl, rfl, trivial⟩, hW⟩
              ·
                have H := iteF (of_decide_eq_false hb) H
                rw [hb] at hF
                clear hb
                refine qs_w hF (wanted_y hF rfl rfl rfl rfl) rfl (Nat.le_of_ble_eq_true rfl) ((y_move hF rfl).q) (fun a hF => ?_)
                refine qs_w hF (wanted_y hF rfl rfl rfl rfl) rfl (Nat.le_of_ble_eq_true rfl) ((y_move hF rfl).q) (fun a hF => ?_)
                obtain ⟨x16, h10, H⟩ := bindE H
                refine qs_w hF (wanted_y hF rfl rfl rfl rfl) rfl (Nat.le_of_ble_eq_true rfl) ((y_index (r := (Rp.int .i64)) L23 hF rfl rfl (rdc_row 0 rfl) h10).q) (fun a hF => ?_)
                refine qs_w hF (wanted_y hF rfl rfl rfl rfl) rfl (Nat.le_of_ble_eq_true rfl) ((y_load_el (y := Value.int .i64 x16) (j := 0) (i := x10) hF rfl rfl (rdc_row 0 rfl) h10 Fl.int.to T3 rfl).q) (fun a hF => ?_)
                refine qs_w hF (wanted_y hF rfl rfl rfl rfl) rfl (Nat.le_of_ble_eq_true rfl) ((y_move hF rfl).q) (fun a hF => ?_)
                refine qs_w hF (wanted_y hF rfl rfl rfl rfl) rfl (Nat.le_of_ble_eq_true rfl) ((y_len (r := R39) (l := p1) Try.underlying22 rfl hF rfl (rdc_ro h_v1)).q) (fun a hF => ?_)
                refine qs_w hF (wanted_y hF rfl rfl rfl rfl) rfl (Nat.le_of_ble_eq_true rfl) ((y_geq hF rfl rfl).q) (fun a hF => ?_)
                refine qs hF rfl ((y_pick_f hF rfl rfl rfl).q) (fun a hF => ?_)
                refine qs hF rfl ((y_move hF rfl).q) (fun a hF => ?_)
                rcases Bool.eq_false_or_eq_true (decide ((p1.length : Int) ≤ x16)) with hb | hb
                ·
                  have H := iteT (of_decide_eq_true hb) H
                  rw [hb] at hF
                  clear hb
                  refine qs_skip hF (wanted_n hF rfl rfl rfl rfl rfl) rfl rfl (fun a hF => ?_)
                  refine qs_skip hF (wanted_n hF rfl rfl rfl rfl rfl) rfl rfl (fun a hF => ?_)
                  refine qs hF rfl ((y_pick_t hF rfl rfl rfl).q) (fun a hF => ?_)
                  refine qs hF rfl ((y_move hF rfl).q) (fun a hF => ?_)
                  refine qs_skip hF (wanted_n hF rfl rfl rfl rfl rfl) rfl rfl (fun a hF => ?_)
                  refine qs_skip hF (wanted_n hF rfl rfl rfl rfl rfl) rfl rfl (fun a hF => ?_)
                  refine qs_skip hF (wanted_n hF rfl rfl rfl rfl rfl) rfl rfl (fun a hF => ?_)
                  refine qs_skip hF (wanted_n hF rfl rfl rfl rfl rfl) rfl rfl (fun a hF => ?_)
                  refine qs hF rfl ((y_pick_t hF rfl rfl rfl).q) (fun a hF => ?_)
                  refine qs hF rfl ((y_move hF rfl).q) (fun a hF => ?_)
                  refine qs_skip hF (wanted_n hF rfl rfl rfl rfl rfl) rfl rfl (fun a hF => ?_)
                  refine qs_skip hF (wanted_n hF rfl rfl rfl rfl rfl) rfl rfl (fun a hF => ?_)
                  refine qs_skip hF (wanted_n hF rfl rfl rfl rfl rfl) rfl rfl (fun a hF => ?_)
                  refine qs_skip hF (wanted_n hF rfl rfl rfl rfl rfl) rfl rfl (fun a hF => ?_)
                  refine qs_skip hF (wanted_n hF rfl rfl rfl rfl rfl) rfl rfl (fun a hF => ?_)
                  refine qs_skip hF (wanted_n hF rfl rfl rfl rfl rfl) rfl rfl (fun a hF => ?_)
                  refine qs_skip hF (wanted_n hF rfl rfl rfl rfl rfl) rfl rfl (fun a hF => ?_)
                  refine qs_skip hF (wanted_n hF rfl rfl rfl rfl rfl) rfl rfl (fun a hF => ?_)
                  refine qs_skip hF (wanted_n hF rfl rfl rfl rfl rfl) rfl rfl (fun a hF => ?_)
                  refine qs_skip hF (wanted_n hF rfl rfl rfl rfl rfl) rfl rfl (fun a hF => ?_)
                  refine qs_skip hF (wanted_n hF rfl rfl rfl rfl rfl) rfl rfl (fun a hF => ?_)
                  refine qs_skip hF (wanted_n hF rfl rfl rfl rfl rfl) rfl rfl (fun a hF => ?_)
                  refine qs_skip hF (wanted_n hF rfl rfl rfl rfl rfl) rfl rfl (fun a hF => ?_)
                  refine qs_skip hF (wanted_n hF rfl rfl rfl rfl rfl) rfl rfl (fun a hF => ?_)
                  refine qs hF rfl ((y_pick_t hF rfl rfl rfl).q) (fun a hF => ?_)
                  refine quiet_end (fun w hW => ?_)
                  refine c_then ?_
                  exact ⟨_, H, hF.re ⟨rfl, rfl, rfl, rfl, rfl, rfl, rfl, trivial⟩, hW⟩
                ·
                  have H := iteF (of_decide_eq_false hb) H
                  rw [hb] at hF
                  clear hb
                  refine qs_w hF (wanted_y hF rfl rfl rfl rfl) rfl (Nat.le_of_ble_eq_true rfl) ((y_move hF rfl).q) (fun a hF => ?_)
                  refine qs_w hF (wanted_y hF rfl rfl rfl rfl) rfl (Nat.le_of_ble_eq_true rfl) ((y_lss hF rfl rfl).q) (fun a hF => ?_)
                  refine qs hF rfl ((y_pick_f hF rfl rfl rfl).q) (fun a hF => ?_)
                  refine qs hF rfl ((y_move hF rfl).q) (fun a hF => ?_)
                  rcases Bool.eq_false_or_eq_true (decide (x13 < 0)) with hb | hb
                  ·
                    have H := iteT (of_decide_eq_true hb) H
                    rw [hb] at hF
                    clear hb
                    refine qs_skip hF (wanted_n hF rfl rfl rfl rfl rfl) rfl rfl (fun a hF => ?_)
                    refine qs_skip hF (wanted_n hF rfl rfl rfl rfl rfl) rfl rfl (fun a hF => ?_)
                    refine qs_skip hF (wanted_n hF rfl rfl rfl rfl rfl) rfl rfl (fun a hF => ?_)
                    refine qs_skip hF (wanted_n hF rfl rfl rfl rfl rfl) rfl rfl (fun a hF => ?_)
                    refine qs hF rfl ((y_pick_t hF rfl rfl rfl).q) (fun a hF => ?_)
                    refine qs hF rfl ((y_move hF rfl).q) (fun a hF => ?_)
                    refine qs_skip hF (wanted_n hF rfl rfl rfl rfl rfl) rfl rfl (fun a hF => ?_)
                    refine qs_skip hF (wanted_n hF rfl rfl rfl rfl rfl) rfl rfl (fun a hF => ?_)
                    refine qs_skip hF (wanted_n hF rfl rfl rfl rfl rfl) rfl rfl (fun a hF => ?_)
                    refine qs_skip hF (wanted_n hF rfl rfl rfl rfl rfl) rfl rfl (fun a hF => ?_)
                    refine qs_skip hF (wanted_n hF rfl rfl rfl rfl rfl) rfl rfl (fun a hF => ?_)
                    refine qs_skip hF (wanted_n hF rfl rfl rfl rfl rfl) rfl rfl (fun a hF => ?_)
                    refine qs_skip hF (wanted_n hF rfl rfl rfl rfl rfl) rfl rfl (fun a hF => ?_)
                    refine qs_skip hF (wanted_n hF rfl rfl rfl rfl rfl) rfl rfl (fun a hF => ?_)
                    refine qs_skip hF (wanted_n hF rfl rfl rfl rfl rfl) rfl rfl (fun a hF => ?_)
                    refine qs_skip hF (wanted_n hF rfl rfl rfl rfl rfl) rfl rfl (fun a hF => ?_)
                    refine qs_skip hF (wanted_n hF rfl rfl rfl rfl rfl) rfl rfl (fun a hF => ?_)
                    refine qs_skip hF (wanted_n hF rfl rfl rfl rfl rfl) rfl rfl (fun a hF => ?_)
                    refine qs_skip hF (wanted_n hF rfl rfl rfl rfl rfl) rfl rfl (fun a hF => ?_)
                    refine qs_skip hF (wanted_n hF rfl rfl rfl rfl rfl) rfl rfl (fun a hF => ?_)
                    refine qs hF rfl ((y_pick_t hF rfl rfl rfl).q) (fun a hF => ?_)
                    refine quiet_end (fun w hW => ?_)
                    refine c_then ?_
                    exact ⟨_, H, hF.re ⟨rfl, rfl, rfl, rfl, rfl, rfl, rfl, trivial⟩, hW⟩
                  ·
                    have H := iteF (of_decide_eq_false hb) H
                    rw [hb] at hF
                    clear hb
                    refine qs_w hF (wanted_y hF rfl rfl rfl rfl) rfl (Nat.le_of_ble_eq_true rfl) ((y_move hF rfl).q) (fun a hF => ?_)
                    refine qs_w hF (wanted_y hF rfl rfl rfl rfl) rfl (Nat.le_of_ble_eq_true rfl) ((y_move hF rfl).q) (fun a hF => ?_)
                    refine qs_w hF (wanted_y hF rfl rfl rfl rfl) rfl (Nat.le_of_ble_eq_true rfl) ((y_len (r := R39) (l := p1) Try.underlying22 rfl hF rfl (rdc_ro h_v1)).q) (fun a hF => ?_)
                    refine qs_w hF (wanted_y hF rfl rfl rfl rfl) rfl (Nat.le_of_ble_eq_true rfl) ((y_geq hF rfl rfl).q) (fun a hF => ?_)
                    refine qs hF rfl ((y_pick_f hF rfl rfl rfl).q) (fun a hF => ?_)
                    refine qs hF rfl ((y_move hF rfl).q) (fun a hF => ?_)
                    rcases Bool.eq_false_or_eq_true (decide ((p1.length : Int) ≤ x13)) with hb | hb
                    ·
                      have H := iteT (of_decide_eq_true hb) H
                      rw [hb] at hF
                      clear hb
                      refine qs_skip hF (wanted_n hF rfl rfl rfl rfl rfl) rfl rfl (fun a hF => ?_)
                      refine qs_skip hF (wanted_n hF rfl rfl rfl rfl rfl) rfl rfl (fun a hF => ?_)
                      refine qs_skip hF (wanted_n hF rfl rfl rfl rfl rfl) rfl rfl (fun a hF => ?_)
                      refine qs_skip hF (wanted_n hF rfl rfl rfl rfl rfl) rfl rfl (fun a hF => ?_)
                      refine qs_skip hF (wanted_n hF rfl rfl rfl rfl rfl) rfl rfl (fun a hF => ?_)
                      refine qs_skip hF (wanted_n hF rfl rfl rfl rfl rfl) rfl rfl (fun a hF => ?_)
                      refine qs_skip hF (wanted_n hF rfl rfl rfl rfl rfl) rfl rfl (fun a hF => ?_)
                      refine qs_skip hF (wanted_n hF rfl rfl rfl rfl rfl) rfl rfl (fun a hF => ?_)
                      refine qs_skip hF (wanted_n hF rfl rfl rfl rfl rfl) rfl rfl (fun a hF => ?_)
                      refine qs_skip hF (wanted_n hF rfl rfl rfl rfl rfl) rfl rfl (fun a hF => ?_)
                      refine qs_skip hF (wanted_n hF rfl rfl rfl rfl rfl) rfl rfl (fun a hF => ?_)
                      refine qs_skip hF (wanted_n hF rfl rfl rfl rfl rfl) rfl rfl (fun a hF => ?_)
                      refine qs_skip hF (wanted_n hF rfl rfl rfl rfl rfl) rfl rfl (fun a hF => ?_)
                      refine qs_skip hF (wanted_n hF rfl rfl rfl rfl rfl) rfl rfl (fun a hF => ?_)
                      refine qs hF rfl ((y_pick_t hF rfl rfl rfl).q) (fun a hF => ?_)
                      refine quiet_end (fun w hW => ?_)
                      refine c_then ?_
                      exact ⟨_, H, hF.re ⟨rfl, rfl, rfl, rfl, rfl, rfl, rfl, trivial⟩, hW⟩
                    ·
                      have H := iteF (of_decide_eq_false hb) H
                      rw [hb] at hF
                      clear hb
                      refine qs_w hF (wanted_y hF rfl rfl rfl rfl) rfl (Nat.le_of_ble_eq_true rfl) ((y_move hF rfl).q) (fun a hF => ?_)
                      refine qs_w hF (wanted_y hF rfl rfl rfl rfl) rfl (Nat.le_of_ble_eq_true rfl) ((y_move hF rfl).q) (fun a hF => ?_)
                      refine qs_w hF (wanted_y hF rfl rfl rfl rfl) rfl (Nat.le_of_ble_eq_true rfl) ((y_move hF rfl).q) (fun a hF => ?_)
                      obtain ⟨x17, h11, H⟩ := bindE H
                      refine qs_w hF (wanted_y hF rfl rfl rfl rfl) rfl (Nat.le_of_ble_eq_true rfl) ((y_index (r := (Rp.int .i64)) L23 hF rfl rfl (rdc_row 0 rfl) h11).q) (fun a hF => ?_)
                      refine qs_w hF (wanted_y hF rfl rfl rfl rfl) rfl (Nat.le_of_ble_eq_true rfl) ((y_load_el (y := Value.int .i64 x17) (j := 0) (i := x10) hF rfl rfl (rdc_row 0 rfl) h11 Fl.int.to T3 rfl).q) (fun a hF => ?_)
                      obtain ⟨x18, h12, H⟩ := bindE H
                      refine qs_w hF (wanted_y hF rfl rfl rfl rfl) rfl (Nat.le_of_ble_eq_true rfl) ((y_index (r := R39) L22 hF rfl rfl (rdc_ro h_v1) h12).q) (fun a hF => ?_)
                      refine qs_w hF (wanted_y hF rfl rfl rfl rfl) rfl (Nat.le_of_ble_eq_true rfl) ((y_fieldAddr Try.underlying39 rfl rfl rfl T3 hF rfl (voff v1 + (x17).toNat * 3 + 1) rfl).q) (fun a hF => ?_)
                      refine qs_w hF (wanted_y hF rfl rfl rfl rfl) rfl (Nat.le_of_ble_eq_true rfl) ((y_load_el (y := Value.int .i64 x18.2.1) (j := 1) (i := x17) hF rfl rfl (rdc_ro h_v1) h12 F39.to T3 rfl).q) (fun a hF => ?_)
                      refine qs_w hF (wanted_y hF rfl rfl rfl rfl) rfl (Nat.le_of_ble_eq_true rfl) ((y_move hF rfl).q) (fun a hF => ?_)
                      refine qs_w hF (wanted_y hF rfl rfl rfl rfl) rfl (Nat.le_of_ble_eq_true rfl) ((y_move hF rfl).q) (fun a hF => ?_)
                      obtain ⟨x19, h13, H⟩ := bindE H
                      refine qs_w hF (wanted_y hF rfl rfl rfl rfl) rfl (Nat.le_of_ble_eq_true rfl) ((y_index (r := R39) L22 hF rfl rfl (rdc_ro h_v1) h13).q) (fun a hF => ?_)
                      refine qs_w hF (wanted_y hF rfl rfl rfl rfl) rfl (Nat.le_of_ble_eq_true rfl) ((y_fieldAddr Try.underlying39 rfl rfl rfl T3 hF rfl (voff v1 + (x13).toNat * 3) rfl).q) (fun a hF => ?_)
                      refine qs_w hF (wanted_y hF rfl rfl rfl rfl) rfl (Nat.le_of_ble_eq_true rfl) ((y_load_el (y := Value.int .i64 x19.1) (j := 0) (i := x13) hF rfl rfl (rdc_ro h_v1) h13 F39.to T3 rfl).q) (fun a hF => ?_)
                      refine qs_w hF (wanted_y hF rfl rfl rfl rfl) rfl (Nat.le_of_ble_eq_true rfl) ((y_neq hF rfl rfl).q) (fun a hF => ?_)
                      refine qs hF rfl ((y_pick_f hF rfl rfl rfl).q) (fun a hF => ?_)
                      refine quiet_end (fun w hW => ?_)
                      refine c_then ?_
                      exact ⟨_, H, hF.re ⟨rfl, rfl, rfl, rfl, rfl, rfl, rfl, trivial⟩, hW⟩
            rintro a w ⟨x14, hj, hF, hW⟩
            have hj := Option.some.inj hj
            subst hj
            have H := K5
            clear G5 K5
            refine c_cond hF rfl (fun hb => ?_) (fun hb => ?_)
            ·
              have H := iteT hb H
              rw [hb] at hF
              clear hb
              refine c_seq ?_
              refine reg_list ?_
              refine ls hF hW rfl ((y_assign hF rfl).q) (fun a w hF hW => ?_)
              refine ls_nil ?_
              refine c_then ?_
              refine wp_ret ?_
              refine r_then ?_
              refine r_block ?_
              refine r_then ?_
              refine r_then ?_
              refine r_block ?_
              refine r_then ?_
              have H := L4 _ H
              have H := L3 _ H
              have H := L2 _ H
              have H := Option.some.inj H
              subst H
              refine post1 (.inl rfl) hF hW rfl (rv_tmp hF rfl) ?_
              exact ⟨rfl, hW.done⟩
            ·
              have H := iteF (by rw [hb]; decide) H
              rw [hb] at hF
              clear hb
              refine wp_skip ?_
              refine c_then ?_
              obtain ⟨o6, G6, K6, L6⟩ := orE H
              refine c_seqJ (fun a w => some (Sum.inl ()) = some o6 ∧ Fr 138 [] [(1, v1), (4, .bool false), (6, .bool x5.2), (7, v5), (8, .int .i64 x9), (9, .int .i64 x10)] a ∧ Stw ⟨Y, [], w0⟩ [] [row v5 3 (Rp.int .i64) x7] w) ?_ ?_
              ·
                have H := G6
                clear G6 K6
                refine c_seq ?_
                refine reg_list ?_
                refine ls hF hW rfl ((y_assign hF rfl).q) (fun a w hF hW => ?_)
                refine ls_nil ?_
                refine c_then ?_
                refine wp_block ?_
                refine c_loopW H (fun s a w => Fr 138 [] [(1, v1), (4, .bool false), (6, .bool x5.2), (7, v5), (8, .int .i64 x9), (9, .int .i64 x10), (11, .int .i64 s)] a ∧ Stw ⟨Y, [], w0⟩ [] [row v5 3 (Rp.int .i64) x7] w) ⟨hF.re ⟨rfl, rfl, rfl, rfl, rfl, rfl, rfl, trivial⟩, hW⟩ (fun s o a w H L7 hR => ?_)
                obtain ⟨x20, rfl⟩ : ∃ x, x = s := ⟨s, rfl⟩
                obtain ⟨hF, hW⟩ := hR
                have hF : Fr 138 [] [(1, v1), (4, .bool false), (6, .bool x5.2), (7, v5), (8, .int .i64 x9), (9, .int .i64 x10), (11, .int .i64 x20)] a := hF
                have hW : Stw ⟨Y, [], w0⟩ [] [row v5 3 (Rp.int .i64) x7] w := hW
                rw [L22_DiffRing_l2] at H
                refine c_seq ?_
                refine c_seq ?_
                refine reg_list ?_
                refine ls hF hW rfl ((y_move hF rfl).q) (fun a w hF hW => ?_)
                refine ls hF hW rfl ((y_move hF rfl).q) (fun a w hF hW => ?_)
                refine ls hF hW rfl ((y_lss hF rfl rfl).q) (fun a w hF hW => ?_)
                refine ls_nil ?_
                refine c_then ?_
                refine c_cond hF rfl (fun hb => ?_) (fun hb => ?_)
                ·
                  have H := iteT (of_decide_eq_true hb) H
                  rw [hb] at hF
                  clear hb
                  refine wp_skip ?_
                  refine c_then ?_
                  refine c_seq ?_
                  refine wp_block ?_
                  refine c_seq ?_
                  refine reg_quiet hW MO (by kernel_rfl) ?_
                  refine qs hF rfl ((y_move hF rfl).q) (fun a hF => ?_)
                  refine qs hF rfl ((y_move hF rfl).q) (fun a hF => ?_)
                  refine qs hF rfl ((y_move hF rfl).q) (fun a hF => ?_)
                  obtain ⟨x21, h14, H⟩ := bindE H
                  refine qs hF rfl ((y_index (r := (Rp.int .i64)) L23 hF rfl rfl (rdc_row 0 rfl) h14).q) (fun a hF => ?_)
                  refine qs hF rfl ((y_load_el (y := Value.int .i64 x21) (j := 0) (i := x20) hF rfl rfl (rdc_row 0 rfl) h14 Fl.int.to T3 rfl).q) (fun a hF => ?_)
                  obtain ⟨x22, h15, H⟩ := bindE H
                  refine qs hF rfl ((y_index (r := R39) L22 hF rfl rfl (rdc_ro h_v1) h15).q) (fun a hF => ?_)
                  refine qs hF rfl ((y_fieldAddr Try.underlying39 rfl rfl rfl T3 hF rfl (voff v1 + (x21).toNat * 3 + 1) rfl).q) (fun a hF => ?_)
                  refine qs hF rfl ((y_load_el (y := Value.int .i64 x22.2.1) (j := 1) (i := x21) hF rfl rfl (rdc_ro h_v1) h15 F39.to T3 rfl).q) (fun a hF => ?_)
                  refine qs hF rfl ((y_move hF rfl).q) (fun a hF => ?_)
                  refine qs hF rfl ((y_move hF rfl).q) (fun a hF => ?_)
                  refine qs hF rfl ((y_move hF rfl).q) (fun a hF => ?_)
                  obtain ⟨x23, h16, H⟩ := bindE H
                  refine qs hF rfl ((y_index (r := (Rp.int .i64)) L23 hF rfl rfl (rdc_row 0 rfl) h16).q) (fun a hF => ?_)
                  refine qs hF rfl ((y_load_el (y := Value.int .i64 x23) (j := 0) (i := x10) hF rfl rfl (rdc_row 0 rfl) h16 Fl.int.to T3 rfl).q) (fun a hF => ?_)
                  obtain ⟨x24, h17, H⟩ := bindE H
                  refine qs hF rfl ((y_index (r := R39) L22 hF rfl rfl (rdc_ro h_v1) h17).q) (fun a hF => ?_)
                  refine qs hF rfl ((y_fieldAddr Try.underlying39 rfl rfl rfl T3 hF rfl (voff v1 + (x23).toNat * 3 + 1) rfl).q) (fun a hF => ?_)
                  refine qs hF rfl ((y_load_el (y := Value.int .i64 x24.2.1) (j := 1) (i := x23) hF rfl rfl (rdc_ro h_v1) h17 F39.to T3 rfl).q) (fun a hF => ?_)
                  refine qs hF rfl ((y_eql hF rfl rfl).q) (fun a hF => ?_)
                  refine quiet_end (fun w hW => ?_)
                  refine c_then ?_
                  refine c_cond hF rfl (fun hb => ?_) (fun hb => ?_)
                  ·
                    have H := iteT (of_decide_eq_true hb) H
                    rw [hb] at hF
                    clear hb
                    refine c_seq ?_
                    refine reg_list ?_
                    refine ls hF hW rfl ((y_assign hF rfl).q) (fun a w hF hW => ?_)
                    refine ls_nil ?_
                    refine c_then ?_
                    refine wp_ret ?_
                    refine r_block ?_
                    refine r_then ?_
                    refine r_then ?_
                    refine r_block ?_
                    refine r_then ?_
                    refine r_block ?_
                    refine r_then ?_
                    refine r_then ?_
                    refine r_block ?_
                    refine r_then ?_
                    have H := L7 _ H
                    have H := L6 _ H
                    have H := L4 _ H
                    have H := L3 _ H
                    have H := L2 _ H
                    have H := Option.some.inj H
                    subst H
                    refine post1 (.inl rfl) hF hW rfl (rv_tmp hF rfl) ?_
                    exact ⟨rfl, hW.done⟩
                  ·
                    have H := iteF (of_decide_eq_false hb) H
                    rw [hb] at hF
                    clear hb
                    refine wp_skip ?_
                    refine b_normal ?_
                    refine c_then ?_
                    refine reg_list ?_
                    refine ls hF hW rfl ((y_move hF rfl).q) (fun a w hF hW => ?_)
                    refine ls hF hW rfl ((y_add hF rfl rfl rfl).q) (fun a w hF hW => ?_)
                    refine ls hF hW rfl ((y_assign hF rfl).q) (fun a w hF hW => ?_)
                    refine ls_nil ?_
                    refine c_then ?_
                    exact ⟨_, H, hF.re ⟨rfl, rfl, rfl, rfl, rfl, rfl, rfl, trivial⟩, hW⟩
                ·
                  have H := iteF (of_decide_eq_false hb) H
                  rw [hb] at hF
                  clear hb
                  refine wp_exit ?_
                  refine e_then ?_
                  refine e_then ?_
                  refine e_block ?_
                  refine c_then ?_
                  have H := L7 _ H
                  exact ⟨H, hF.re ⟨rfl, rfl, rfl, rfl, rfl, rfl, trivial⟩, hW⟩
              rintro a w ⟨hj, hF, hW⟩
              have H := K6 _ hj
              clear hj G6 K6 L6
              refine reg_list ?_
              refine ls hF hW rfl ((y_move hF rfl).q) (fun a w hF hW => ?_)
              refine ls hF hW rfl ((y_move hF rfl).q) (fun a w hF hW => ?_)
              refine ls hF hW rfl ((y_move hF rfl).q) (fun a w hF hW => ?_)
              refine ls hF hW rfl ((y_move hF rfl).q) (fun a w hF hW => ?_)
              obtain ⟨x25, h18, H⟩ := bindE H
              refine ls hF hW rfl ((y_index (r := (Rp.int .i64)) L23 hF rfl rfl (rdc_row 0 rfl) h18).q) (fun a w hF hW => ?_)
              refine ls hF hW rfl ((y_load_el (y := Value.int .i64 x25) (j := 0) (i := x10) hF rfl rfl (rdc_row 0 rfl) h18 Fl.int.to T3 rfl).q) (fun a w hF hW => ?_)
              obtain ⟨x26, h19, H⟩ := bindE H
              refine ls hF hW rfl ((y_index (r := R39) L22 hF rfl rfl (rdc_ro h_v1) h19).q) (fun a w hF hW => ?_)
              refine ls hF hW rfl ((y_fieldAddr Try.underlying39 rfl rfl rfl T3 hF rfl (voff v1 + (x25).toNat * 3 + 2) rfl).q) (fun a w hF hW => ?_)
              refine ls hF hW rfl ((y_load_el (y := Value.int .i64 x26.2.2) (j := 2) (i := x25) hF rfl rfl (rdc_ro h_v1) h19 F39.to T3 rfl).q) (fun a w hF hW => ?_)
              refine ls hF hW rfl ((y_add hF rfl rfl rfl).q) (fun a w hF hW => ?_)
              refine ls hF hW rfl ((y_assign hF rfl).q) (fun a w hF hW => ?_)
              refine ls_nil ?_
              refine b_normal ?_
              refine c_then ?_
              exact ⟨_, H, hF.re ⟨rfl, rfl, rfl, rfl, rfl, rfl, trivial⟩, hW⟩
          rintro a w ⟨x11, hj, hF, hW⟩
          have H := K4 _ hj
          clear hj G4 K4 L4
          refine reg_list ?_
          refine ls hF hW rfl ((y_move hF rfl).q) (fun a w hF hW => ?_)
          refine ls hF hW rfl ((y_add hF rfl rfl rfl).q) (fun a w hF hW => ?_)
          refine ls hF hW rfl ((y_assign hF rfl).q) (fun a w hF hW => ?_)
          refine ls_nil ?_
          refine c_then ?_
          exact ⟨_, H, hF.re ⟨rfl, rfl, rfl, rfl, rfl, rfl, trivial⟩, hW⟩
        ·
          have H := iteF (of_decide_eq_false hb) H
          rw [hb] at hF
          clear hb
          refine wp_exit ?_
          refine e_then ?_
          refine e_then ?_
          refine e_block ?_
          refine c_then ?_
          have hW := hW.sub (M' := []) (Z' := []) (List.Sublist.refl _) (List.nil_sublist _)
          have H := L3 _ H
          exact ⟨_, H, hF.re ⟨rfl, rfl, rfl, trivial⟩, hW⟩
      rintro a w ⟨x8, hj, hF, hW⟩
      have H := K2 _ hj
      clear hj G2 K2 L2
      obtain ⟨o8, G8, K8⟩ := bindE H
      refine c_seqJ (fun a w => ∃ x27 : Bool, some (x27) = some o8 ∧ Fr 138 [] [(4, .bool x27)] a ∧ Stw ⟨Y, [], w0⟩ [] [] w) ?_ ?_
      ·
        have H := G8
        clear G8 K8
        refine reg_list ?_
        refine ls hF hW rfl ((y_move hF rfl).q) (fun a w hF hW => ?_)
        refine ls hF hW rfl ((y_move hF rfl).q) (fun a w hF hW => ?_)
        rcases Bool.eq_false_or_eq_true x5.2 with hb | hb
        ·
          have H := iteT hb H
          rw [hb] at hF
          clear hb
          refine ls_skip hF (wanted_n hF rfl rfl rfl rfl rfl) rfl rfl (fun a hF => ?_)
          refine ls_skip hF (wanted_n hF rfl rfl rfl rfl rfl) rfl rfl (fun a hF => ?_)
          refine ls hF hW rfl ((y_pick_t hF rfl rfl rfl).q) (fun a w hF hW => ?_)
          refine ls hF hW rfl ((y_move hF rfl).q) (fun a w hF hW => ?_)
          refine ls_g (wanted_y hF rfl rfl rfl rfl) ?_
          obtain ⟨x28, h20, H⟩ := bindE H
          refine ls hF hW rfl (y_call (v := Value.bool x28) hF H6 rfl (fun w hW => L22_awake_c any w _ h20)) (fun a w hF hW => ?_)
          refine ls hF hW rfl ((y_pick_t hF rfl rfl rfl).q) (fun a w hF hW => ?_)
          refine ls hF hW rfl ((y_assign hF rfl).q) (fun a w hF hW => ?_)
          refine ls_nil ?_
          refine c_then ?_
          exact ⟨_, H, hF.re ⟨rfl, trivial⟩, hW⟩
        ·
          have H := iteF (by rw [hb]; decide) H
          rw [hb] at hF
          clear hb
          refine ls_w hF hW (wanted_y hF rfl rfl rfl rfl) rfl (Nat.le_of_ble_eq_true rfl) ((y_move hF rfl).q) (fun a w hF hW => ?_)
          refine ls_w hF hW (wanted_y hF rfl rfl rfl rfl) rfl (Nat.le_of_ble_eq_true rfl) ((y_gtr hF rfl rfl).q) (fun a w hF hW => ?_)
          refine ls hF hW rfl ((y_pick_f hF rfl rfl rfl).q) (fun a w hF hW => ?_)
          refine ls hF hW rfl ((y_move hF rfl).q) (fun a w hF hW => ?_)
          rcases Bool.eq_false_or_eq_true (decide (0 < x8)) with hb | hb
          ·
            have H := iteT (of_decide_eq_true hb) H
            rw [hb] at hF
            clear hb
            refine ls_g (wanted_y hF rfl rfl rfl rfl) ?_
            obtain ⟨x29, h21, H⟩ := bindE H
            refine ls hF hW rfl (y_call (v := Value.bool x29) hF H6 rfl (fun w hW => L22_awake_c any w _ h21)) (fun a w hF hW => ?_)
            refine ls hF hW rfl ((y_pick_t hF rfl rfl rfl).q) (fun a w hF hW => ?_)
            refine ls hF hW rfl ((y_assign hF rfl).q) (fun a w hF hW => ?_)
            refine ls_nil ?_
            refine c_then ?_
            exact ⟨_, H, hF.re ⟨rfl, trivial⟩, hW⟩
          ·
            have H := iteF (of_decide_eq_false hb) H
            rw [hb] at hF
            clear hb
            refine ls_skip hF (wanted_n hF rfl rfl rfl rfl rfl) rfl rfl (fun a hF => ?_)
            refine ls hF hW rfl ((y_pick_f hF rfl rfl rfl).q) (fun a w hF hW => ?_)
            refine ls hF hW rfl ((y_assign hF rfl).q) (fun a w hF hW => ?_)
            refine ls_nil ?_
            refine c_then ?_
            exact ⟨_, H, hF.re ⟨rfl, trivial⟩, hW⟩
      rintro a w ⟨x27, hj, hF, hW⟩
      have hj := Option.some.inj hj
      subst hj
      have H := K8
      clear G8 K8
      refine wp_ret ?_
      have H := Option.some.inj H
      subst H
      refine post1 (.inl rfl) hF hW rfl (rv_tmp hF rfl) ?_
      exact ⟨rfl, hW.done⟩

end Go.Proofs.Ytnhoakboblfliaa
