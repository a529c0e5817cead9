/- The functions of layer 23, lifted. Conditions: none. -/
import Derived.Test.YthiejmoddfenlaaB1
namespace Go.Proofs.Ythiejmoddfenlaa
open Go Go.RowKit
set_option linter.unusedVariables false
set_option linter.unusedSimpArgs false
set_option maxRecDepth 20000
theorem H19 : Has Try.prog 19 := ⟨fun args w => run_callFunc_body Try.func19 rfl (by decide) args w⟩
noncomputable def L23_LevelFar_l1 (p0 : Int × (List (Int × Int × Int × Int × Int × Int)) × (List (Int × Int))) (p1 : List (List Int)) (p2 : List (List Int)) (x7 : (List (Int × Int × Int × Int)) × Int) : Int → Option (Int ⊕ (Unit ⊕ Bool))
  | x8 => (if x8 < (x7.1.length : Int) then (ix x7.1 x8).bind fun x9 => (if x9.1 < 0 then some true else (if p0.1 ≤ x9.1 then some true else (if x9.2.1 < 0 then some true else (if (p0.2.2.length : Int) ≤ x9.2.1 then some true else (if x9.2.2.2 < 1 then some true else (if p0.1 ≤ x9.2.2.2 then some true else (ix p2 x9.1).bind fun x11 => (ix x11 x9.2.1).bind fun x12 => (if x12 ≠ x9.2.2.1 then some true else (ix p1 x9.1).bind fun x13 => (ix x13 x9.2.1).bind fun x14 => some (decide (x14 = x9.2.2.1))))))))).bind fun x10 => (if x10 = true then some (.inr (.inr false)) else (r21_Far p0 p2 x9.2.1).bind fun x15 => (r17_Peer p0 x9.1 x9.2.2.1).bind fun x16 => ((ix x15 x9.1).bind fun x18 => (if x18 ≠ x9.2.2.2 then some true else (if (!x16.2.2.2) = true then some true else (ix x15 x16.1).bind fun x19 => some (decide (x19 ≠ (w64 (x9.2.2.2 - 1))))))).bind fun x17 => (if x17 = true then some (.inr (.inr false)) else (if 0 < x8 then (ix x7.1 (w64 (x8 - 1))).bind fun x21 => some (!(L23_before x21 x9)) else some false).bind fun x20 => (if x20 = true then some (.inr (.inr false)) else some (.inl (w64 (x8 + 1)))))) else some (.inr (.inl ())))
noncomputable def L23_LevelFar (p0 : Int × (List (Int × Int × Int × Int × Int × Int)) × (List (Int × Int))) (p1 : List (List Int)) (p2 : List (List Int)) : Option Bool := ((L23_Small p0 p1).bind fun x2 => (if (!x2) = true then some true else (L23_Small p0 p2).bind fun x3 => (if (!x3) = true then some true else (r21_Good p0 p1).bind fun x4 => (if (!x4) = true then some true else (r21_Good p0 p2).bind fun x5 => some (!x5))))).bind fun x1 => (if x1 = true then (L23_awake).bind fun x6 => some x6 else (level_Moves p0 p1 p2).bind fun x7 => (if x7.2 ≠ 0 then some false else orR (loopW (L23_LevelFar_l1 p0 p1 p2 x7) 0) fun _ => (L23_awake).bind fun x22 => some x22))
theorem L23_LevelFar_c (Y : Nat → Prop) (w0 : World) (v1 : Value) (v2 : Value) (v3 : Value) (v4 : Value) (p0 : Int × (List (Int × Int × Int × Int × Int × Int)) × (List (Int × Int))) (p1 : List (List Int)) (p2 : List (List Int)) (r : Bool) (H : L23_LevelFar p0 p1 p2 = some r) (h_v1 : Sl w0 (NX []) R69 v1 p0.2.1) (h_v2 : Sl w0 (NX []) R43 v2 p0.2.2) (h_v3 : Sl w0 (NX []) (Rp.slice (Rp.int .i64)) v3 p1) (h_v4 : Sl w0 (NX []) (Rp.slice (Rp.int .i64)) v4 p2) :
    Calls Try.prog 6 #[.agg #[.int .i64 p0.1, v1, v2], v3, v4] w0 fun e w' => e = .returned (.bool r) ∧ Below w0.heap.size w0 w' := by
 refine enter Try.func6 rfl Try.ntmps6 rfl (fun a hF => ?_)
 have hW := Stw.start Y w0
 obtain ⟨v5, h1, h_v3⟩ := h_v3.ex EX28
 obtain ⟨v6, h2, h_v4⟩ := h_v4.ex EX28
 unfold L23_LevelFar at H
 refine c_seq (reg_list ?_)
 refine l_box (cs := [.int .i64 p0.1, v1, v2]) hF hW rfl rfl rfl (fun b1 a w hF hW => ?_)
 refine ls hF hW rfl ((y_assign hF rfl).q) (fun a w hF hW => ?_)
 refine ls_nil (c_then ?_)
 refine c_seq ?_
 obtain ⟨o1, G1, K1⟩ := bindE H
 refine c_seqJ (fun a w => ∃ x1 : Bool, some (x1) = some o1 ∧ Fr 172 [] [(1, v3), (2, v4), (3, .pointer (some ⟨b1, 0, none⟩)), (6, .bool false), (37, .bool x1)] a ∧ Stw ⟨Y, [], w0⟩ [(b1, [.int .i64 p0.1, v1, v2])] [] w) ?_ ?_
 ·
  have H := G1
  clear G1 K1
  refine reg_list ?_
  refine ls hF hW rfl ((y_load (v := Value.agg #[.int .i64 p0.1, v1, v2]) 0 hF rfl rfl T25 rfl).q) (fun a w hF hW => ?_)
  refine ls hF hW rfl ((y_move hF rfl).q) (fun a w hF hW => ?_)
  obtain ⟨x2, h3, H⟩ := bindE H
  refine ls hF hW rfl (y_call (v := Value.bool x2) hF H7 rfl (fun w hW => L23_Small_c any w (v1) (v2) (v3) p0 p1 _ h3 (((rdc_ro h_v1) : Rdc _ _ _ _ _ _) w hW).nx (((rdc_ro h_v2) : Rdc _ _ _ _ _ _) w hW).nx (((rdc_hide EX28 h1 (rdc_ro h_v3)) : Rdc _ _ _ _ _ _) w hW).nx)) (fun a w hF hW => ?_)
  refine ls hF hW rfl ((y_not hF rfl).q) (fun a w hF hW => ?_)
  refine ls hF hW rfl ((y_move hF rfl).q) (fun a w hF hW => ?_)
  rcases Bool.eq_false_or_eq_true (!x2) with hb | hb
  ·
   have H := iteT hb H
   rw [hb] at hF
   clear hb
   iterate 4 refine lsn hF rfl rfl rfl rfl rfl rfl rfl (fun a hF => ?_)
   refine ls hF hW rfl ((y_pick_t hF rfl rfl rfl).q) (fun a w hF hW => ?_)
   refine ls hF hW rfl ((y_move hF rfl).q) (fun a w hF hW => ?_)
   iterate 4 refine lsn hF rfl rfl rfl rfl rfl rfl rfl (fun a hF => ?_)
   refine ls hF hW rfl ((y_pick_t hF rfl rfl rfl).q) (fun a w hF hW => ?_)
   refine ls hF hW rfl ((y_move hF rfl).q) (fun a w hF hW => ?_)
   iterate 4 refine lsn hF rfl rfl rfl rfl rfl rfl rfl (fun a hF => ?_)
   refine ls hF hW rfl ((y_pick_t hF rfl rfl rfl).q) (fun a w hF hW => ?_)
   refine ls_nil (c_then ?_)
   exact ⟨_, H, hF.re ⟨rfl, rfl, rfl, rfl, rfl, trivial⟩, hW⟩
  ·
   have H := iteF (by rw [hb]; decide) H
   rw [hb] at hF
   clear hb
   refine ls_w hF hW (wanted_y hF rfl rfl rfl rfl) rfl (Nat.le_of_ble_eq_true rfl) ((y_load (v := Value.agg #[.int .i64 p0.1, v1, v2]) 0 hF rfl rfl T25 rfl).q) (fun a w hF hW => ?_)
   refine ls_w hF hW (wanted_y hF rfl rfl rfl rfl) rfl (Nat.le_of_ble_eq_true rfl) ((y_move hF rfl).q) (fun a w hF hW => ?_)
   refine ls_g (wanted_y hF rfl rfl rfl rfl) ?_
   obtain ⟨x3, h4, H⟩ := bindE H
   refine ls hF hW rfl (y_call (v := Value.bool x3) hF H7 rfl (fun w hW => L23_Small_c any w (v1) (v2) (v4) p0 p2 _ h4 (((rdc_ro h_v1) : Rdc _ _ _ _ _ _) w hW).nx (((rdc_ro h_v2) : Rdc _ _ _ _ _ _) w hW).nx (((rdc_hide EX28 h2 (rdc_ro h_v4)) : Rdc _ _ _ _ _ _) w hW).nx)) (fun a w hF hW => ?_)
   refine ls_w hF hW (wanted_y hF rfl rfl rfl rfl) rfl (Nat.le_of_ble_eq_true rfl) ((y_not hF rfl).q) (fun a w hF hW => ?_)
   refine ls hF hW rfl ((y_pick_f hF rfl rfl rfl).q) (fun a w hF hW => ?_)
   refine ls hF hW rfl ((y_move hF rfl).q) (fun a w hF hW => ?_)
   rcases Bool.eq_false_or_eq_true (!x3) with hb | hb
   ·
    have H := iteT hb H
    rw [hb] at hF
    clear hb
    iterate 4 refine lsn hF rfl rfl rfl rfl rfl rfl rfl (fun a hF => ?_)
    refine ls hF hW rfl ((y_pick_t hF rfl rfl rfl).q) (fun a w hF hW => ?_)
    refine ls hF hW rfl ((y_move hF rfl).q) (fun a w hF hW => ?_)
    iterate 4 refine lsn hF rfl rfl rfl rfl rfl rfl rfl (fun a hF => ?_)
    refine ls hF hW rfl ((y_pick_t hF rfl rfl rfl).q) (fun a w hF hW => ?_)
    refine ls_nil (c_then ?_)
    exact ⟨_, H, hF.re ⟨rfl, rfl, rfl, rfl, rfl, trivial⟩, hW⟩
   ·
    have H := iteF (by rw [hb]; decide) H
    rw [hb] at hF
    clear hb
    refine ls_w hF hW (wanted_y hF rfl rfl rfl rfl) rfl (Nat.le_of_ble_eq_true rfl) ((y_load (v := Value.agg #[.int .i64 p0.1, v1, v2]) 0 hF rfl rfl T25 rfl).q) (fun a w hF hW => ?_)
    refine ls_w hF hW (wanted_y hF rfl rfl rfl rfl) rfl (Nat.le_of_ble_eq_true rfl) ((y_move hF rfl).q) (fun a w hF hW => ?_)
    refine ls_g (wanted_y hF rfl rfl rfl rfl) ?_
    obtain ⟨x4, h5, H⟩ := bindE H
    refine ls hF hW rfl (y_call (v := Value.bool x4) hF H8 rfl (fun w hW => r21_Good_c any w (v1) (v2) (v3) p0 p1 _ h5 (((rdc_ro h_v1) : Rdc _ _ _ _ _ _) w hW).nx (((rdc_ro h_v2) : Rdc _ _ _ _ _ _) w hW).nx (((rdc_hide EX28 h1 (rdc_ro h_v3)) : Rdc _ _ _ _ _ _) w hW).nx)) (fun a w hF hW => ?_)
    refine ls_w hF hW (wanted_y hF rfl rfl rfl rfl) rfl (Nat.le_of_ble_eq_true rfl) ((y_not hF rfl).q) (fun a w hF hW => ?_)
    refine ls hF hW rfl ((y_pick_f hF rfl rfl rfl).q) (fun a w hF hW => ?_)
    refine ls hF hW rfl ((y_move hF rfl).q) (fun a w hF hW => ?_)
    rcases Bool.eq_false_or_eq_true (!x4) with hb | hb
    ·
     have H := iteT hb H
     rw [hb] at hF
     clear hb
     iterate 4 refine lsn hF rfl rfl rfl rfl rfl rfl rfl (fun a hF => ?_)
     refine ls hF hW rfl ((y_pick_t hF rfl rfl rfl).q) (fun a w hF hW => ?_)
     refine ls_nil (c_then ?_)
     exact ⟨_, H, hF.re ⟨rfl, rfl, rfl, rfl, rfl, trivial⟩, hW⟩
    ·
     have H := iteF (by rw [hb]; decide) H
     rw [hb] at hF
     clear hb
     refine ls_w hF hW (wanted_y hF rfl rfl rfl rfl) rfl (Nat.le_of_ble_eq_true rfl) ((y_load (v := Value.agg #[.int .i64 p0.1, v1, v2]) 0 hF rfl rfl T25 rfl).q) (fun a w hF hW => ?_)
     refine ls_w hF hW (wanted_y hF rfl rfl rfl rfl) rfl (Nat.le_of_ble_eq_true rfl) ((y_move hF rfl).q) (fun a w hF hW => ?_)
     refine ls_g (wanted_y hF rfl rfl rfl rfl) ?_
     obtain ⟨x5, h6, H⟩ := bindE H
     refine ls hF hW rfl (y_call (v := Value.bool x5) hF H8 rfl (fun w hW => r21_Good_c any w (v1) (v2) (v4) p0 p2 _ h6 (((rdc_ro h_v1) : Rdc _ _ _ _ _ _) w hW).nx (((rdc_ro h_v2) : Rdc _ _ _ _ _ _) w hW).nx (((rdc_hide EX28 h2 (rdc_ro h_v4)) : Rdc _ _ _ _ _ _) w hW).nx)) (fun a w hF hW => ?_)
     refine ls_w hF hW (wanted_y hF rfl rfl rfl rfl) rfl (Nat.le_of_ble_eq_true rfl) ((y_not hF rfl).q) (fun a w hF hW => ?_)
     refine ls hF hW rfl ((y_pick_f hF rfl rfl rfl).q) (fun a w hF hW => ?_)
     refine ls_nil (c_then ?_)
     exact ⟨_, H, hF.re ⟨rfl, rfl, rfl, rfl, rfl, trivial⟩, hW⟩
 rintro a w ⟨x1, hj, hF, hW⟩
 have hj := Option.some.inj hj
 subst hj
 have H := K1
 clear G1 K1
 refine c_cond hF rfl (fun hb => ?_) (fun hb => ?_)
 ·
  have H := iteT hb H
  rw [hb] at hF
  clear hb
  refine c_seq (reg_list ?_)
  obtain ⟨x6, h7, H⟩ := bindE H
  refine ls hF hW rfl (y_call (v := Value.bool x6) hF H9 rfl (fun w hW => L23_awake_c any w _ h7)) (fun a w hF hW => ?_)
  refine ls hF hW rfl ((y_assign hF rfl).q) (fun a w hF hW => ?_)
  refine ls_nil (c_then ?_)
  refine wp_ret ?_
  refine r_then ?_
  have H := Option.some.inj H
  subst H
  refine post1 (.inl rfl) hF hW rfl (rv_tmp hF rfl) ?_
  exact ⟨rfl, hW.done⟩
 ·
  have H := iteF (by rw [hb]; decide) H
  rw [hb] at hF
  clear hb
  refine wp_skip ?_
  refine c_then ?_
  refine c_seq (reg_list ?_)
  refine ls hF hW rfl ((y_load (v := Value.agg #[.int .i64 p0.1, v1, v2]) 0 hF rfl rfl T25 rfl).q) (fun a w hF hW => ?_)
  iterate 2 refine ls hF hW rfl ((y_move hF rfl).q) (fun a w hF hW => ?_)
  obtain ⟨x7, h8, H⟩ := bindE H
  refine l_callG (Ml := []) (Zl := []) (M := [(b1, [.int .i64 p0.1, v1, v2])]) (Z := []) (β := Value) (rv := fun x => .tuple #[x, .int .i64 x7.2]) (MM := fun x => []) (ZZ := fun x => [row x 62 R62 x7.1]) hF hW H10 rfl rfl (fun hL => level_Moves_c _ w (v1) (v2) (v3) (v4) p0 p1 p2 _ h8 ((rdc_ro h_v1) w hW).nx ((rdc_ro h_v2) w hW).nx ((rdc_hide EX28 h1 (rdc_ro h_v3)) w hW).nx ((rdc_hide EX28 h2 (rdc_ro h_v4)) w hW).nx) (fun x a w hF hW => ?_)
  obtain ⟨v7, rfl⟩ : ∃ y, y = x := ⟨x, rfl⟩
  have hW : Stw ⟨Y, [], w0⟩ [(b1, [.int .i64 p0.1, v1, v2])] [row v7 62 R62 x7.1] w := hW
  refine ls hF hW rfl ((y_move hF rfl).q) (fun a w hF hW => ?_)
  refine ls hF hW rfl ((y_extract (v := v7) hF rfl rfl).q) (fun a w hF hW => ?_)
  refine ls hF hW rfl ((y_extract (v := Value.int .i64 x7.2) hF rfl rfl).q) (fun a w hF hW => ?_)
  iterate 2 refine ls hF hW rfl ((y_assign hF rfl).q) (fun a w hF hW => ?_)
  refine ls_nil (c_then ?_)
  refine c_seq ?_
  refine c_seq (reg_list ?_)
  refine ls hF hW rfl ((y_move hF rfl).q) (fun a w hF hW => ?_)
  refine ls hF hW rfl ((y_neq hF rfl rfl).q) (fun a w hF hW => ?_)
  refine ls_nil (c_then ?_)
  refine c_cond hF rfl (fun hb => ?_) (fun hb => ?_)
  ·
   have H := iteT (of_decide_eq_true hb) H
   rw [hb] at hF
   clear hb
   refine c_seq (reg_list ?_)
   refine ls hF hW rfl ((y_assign hF rfl).q) (fun a w hF hW => ?_)
   refine ls_nil (c_then ?_)
   refine wp_ret ?_
   refine r_then ?_
   have H := Option.some.inj H
   subst H
   refine post1 (.inl rfl) hF hW rfl (rv_tmp hF rfl) ?_
   exact ⟨rfl, hW.done⟩
  ·
   have H := iteF (of_decide_eq_false hb) H
   rw [hb] at hF
   clear hb
   refine wp_skip ?_
   refine c_then ?_
   obtain ⟨o2, G2, K2, L2⟩ := orE H
   refine c_seqJ (fun a w => some (Sum.inl ()) = some o2 ∧ Fr 172 [] [(6, .bool false)] a ∧ Stw ⟨Y, [], w0⟩ [(b1, [.int .i64 p0.1, v1, v2])] [] w) ?_ ?_
   ·
    have H := G2
    clear G2 K2
    refine c_seq (reg_list ?_)
    refine ls hF hW rfl ((y_assign hF rfl).q) (fun a w hF hW => ?_)
    refine ls_nil (c_then ?_)
    refine wp_block ?_
    refine c_loopW H (fun s a w => Fr 172 [] [(1, v3), (2, v4), (3, .pointer (some ⟨b1, 0, none⟩)), (6, .bool false), (7, v7), (9, .int .i64 s)] a ∧ Stw ⟨Y, [], w0⟩ [(b1, [.int .i64 p0.1, v1, v2])] [row v7 62 R62 x7.1] w) ⟨hF.re ⟨rfl, rfl, rfl, rfl, rfl, rfl, trivial⟩, hW⟩ (fun s o a w H L3 hR => ?_)
    obtain ⟨x8, rfl⟩ : ∃ x, x = s := ⟨s, rfl⟩
    obtain ⟨hF, hW⟩ := hR
    have hF : Fr 172 [] [(1, v3), (2, v4), (3, .pointer (some ⟨b1, 0, none⟩)), (6, .bool false), (7, v7), (9, .int .i64 x8)] a := hF
    have hW : Stw ⟨Y, [], w0⟩ [(b1, [.int .i64 p0.1, v1, v2])] [row v7 62 R62 x7.1] w := hW
    rw [L23_LevelFar_l1] at H
    refine c_seq ?_
    refine c_seq (reg_list ?_)
    iterate 2 refine ls hF hW rfl ((y_move hF rfl).q) (fun a w hF hW => ?_)
    refine ls hF hW rfl ((y_len (r := R62) (l := x7.1) u31_ rfl hF rfl (rdc_row 0 rfl)).q) (fun a w hF hW => ?_)
    refine ls hF hW rfl ((y_lss hF rfl rfl).q) (fun a w hF hW => ?_)
    refine ls_nil (c_then ?_)
    refine c_cond hF rfl (fun hb => ?_) (fun hb => ?_)
    ·
     have H := iteT (of_decide_eq_true hb) H
     rw [hb] at hF
     clear hb
     refine wp_skip ?_
     refine c_then ?_
     refine c_seq ?_
     refine wp_block ?_
     refine c_seq (reg_list ?_)
     iterate 2 refine ls hF hW rfl ((y_move hF rfl).q) (fun a w hF hW => ?_)
     obtain ⟨x9, h9, H⟩ := bindE H
     refine ls hF hW rfl ((y_index (r := R62) L31 hF rfl rfl (rdc_row 0 rfl) h9).q) (fun a w hF hW => ?_)
     refine ls hF hW rfl ((y_load_el (y := Value.agg #[.int .i64 x9.1, .int .i64 x9.2.1, .int .i64 x9.2.2.1, .int .i64 x9.2.2.2]) (j := 0) (i := x8) hF rfl rfl (rdc_row 0 rfl) h9 F62.to T62 rfl).q) (fun a w hF hW => ?_)
     refine l_alloc (cs := [.int .i64 0, .int .i64 0, .int .i64 0, .int .i64 0]) hF hW rfl Z62 rfl (fun b2 a w hF hW => ?_)
     refine l_store (vs := [.int .i64 x9.1, .int .i64 x9.2.1, .int .i64 x9.2.2.1, .int .i64 x9.2.2.2]) (M' := [(b2, [.int .i64 x9.1, .int .i64 x9.2.1, .int .i64 x9.2.2.1, .int .i64 x9.2.2.2]), (b1, [.int .i64 p0.1, v1, v2])]) 0 hF hW rfl rfl rfl T62 rfl rfl rfl rfl rfl (fun w hW => ?_)
     refine ls_nil (c_then ?_)
     refine c_seq ?_
     obtain ⟨o4, G4, K4⟩ := bindE H
     refine c_seqJ (fun a w => ∃ x10 : Bool, some (x10) = some o4 ∧ Fr 172 [] [(1, v3), (2, v4), (3, .pointer (some ⟨b1, 0, none⟩)), (6, .bool false), (7, v7), (9, .int .i64 x8), (10, .pointer (some ⟨b2, 0, none⟩)), (120, .bool x10)] a ∧ Stw ⟨Y, [], w0⟩ [(b2, [.int .i64 x9.1, .int .i64 x9.2.1, .int .i64 x9.2.2.1, .int .i64 x9.2.2.2]), (b1, [.int .i64 p0.1, v1, v2])] [row v7 62 R62 x7.1] w) ?_ ?_
     ·
      have H := G4
      clear G4 K4
      refine reg_quiet hW MO (by kernel_rfl) ?_
      refine qs hF rfl ((y_fieldAddr u62_ rfl rfl rfl T3 hF rfl 0 rfl).q) (fun a hF => ?_)
      refine qs hF rfl ((y_load (v := Value.int .i64 x9.1) 0 hF rfl rfl T3 rfl).q) (fun a hF => ?_)
      refine qs hF rfl ((y_lss hF rfl rfl).q) (fun a hF => ?_)
      refine qs hF rfl ((y_move hF rfl).q) (fun a hF => ?_)
      rcases Bool.eq_false_or_eq_true (decide (x9.1 < 0)) with hb | hb
      ·
       have H := iteT (of_decide_eq_true hb) H
       rw [hb] at hF
       clear hb
       iterate 5 refine qs_skip hF (wanted_n hF rfl rfl rfl rfl rfl) rfl rfl (fun a hF => ?_)
       refine qs hF rfl ((y_pick_t hF rfl rfl rfl).q) (fun a hF => ?_)
       refine qs hF rfl ((y_move hF rfl).q) (fun a hF => ?_)
       iterate 3 refine qs_skip hF (wanted_n hF rfl rfl rfl rfl rfl) rfl rfl (fun a hF => ?_)
       refine qs hF rfl ((y_pick_t hF rfl rfl rfl).q) (fun a hF => ?_)
       refine qs hF rfl ((y_move hF rfl).q) (fun a hF => ?_)
       iterate 6 refine qs_skip hF (wanted_n hF rfl rfl rfl rfl rfl) rfl rfl (fun a hF => ?_)
       refine qs hF rfl ((y_pick_t hF rfl rfl rfl).q) (fun a hF => ?_)
       refine qs hF rfl ((y_move hF rfl).q) (fun a hF => ?_)
       iterate 3 refine qs_skip hF (wanted_n hF rfl rfl rfl rfl rfl) rfl rfl (fun a hF => ?_)
       refine qs hF rfl ((y_pick_t hF rfl rfl rfl).q) (fun a hF => ?_)
       refine qs hF rfl ((y_move hF rfl).q) (fun a hF => ?_)
       iterate 5 refine qs_skip hF (wanted_n hF rfl rfl rfl rfl rfl) rfl rfl (fun a hF => ?_)
       refine qs hF rfl ((y_pick_t hF rfl rfl rfl).q) (fun a hF => ?_)
       refine qs hF rfl ((y_move hF rfl).q) (fun a hF => ?_)
       iterate 12 refine qs_skip hF (wanted_n hF rfl rfl rfl rfl rfl) rfl rfl (fun a hF => ?_)
       refine qs hF rfl ((y_pick_t hF rfl rfl rfl).q) (fun a hF => ?_)
       refine qs hF rfl ((y_move hF rfl).q) (fun a hF => ?_)
       iterate 12 refine qs_skip hF (wanted_n hF rfl rfl rfl rfl rfl) rfl rfl (fun a hF => ?_)
       refine qs hF rfl ((y_pick_t hF rfl rfl rfl).q) (fun a hF => ?_)
       refine quiet_end (fun w hW => ?_)
       refine c_then ?_
       have hW := hW.frontM (i := 1) rfl rfl
       have hW := hW.frontM (i := 1) rfl rfl
       exact ⟨_, H, hF.re ⟨rfl, rfl, rfl, rfl, rfl, rfl, rfl, rfl, trivial⟩, hW⟩
      ·
       have H := iteF (of_decide_eq_false hb) H
       rw [hb] at hF
       clear hb
       refine qs_w hF (wanted_y hF rfl rfl rfl rfl) rfl (Nat.le_of_ble_eq_true rfl) ((y_fieldAddr u62_ rfl rfl rfl T3 hF rfl 0 rfl).q) (fun a hF => ?_)
       refine qs_w hF (wanted_y hF rfl rfl rfl rfl) rfl (Nat.le_of_ble_eq_true rfl) ((y_load (v := Value.int .i64 x9.1) 0 hF rfl rfl T3 rfl).q) (fun a hF => ?_)
       refine qs_w hF (wanted_y hF rfl rfl rfl rfl) rfl (Nat.le_of_ble_eq_true rfl) ((y_fieldAddr u25_ rfl rfl rfl T3 hF rfl 0 rfl).q) (fun a hF => ?_)
       refine qs_w hF (wanted_y hF rfl rfl rfl rfl) rfl (Nat.le_of_ble_eq_true rfl) ((y_load (v := Value.int .i64 p0.1) 1 hF rfl rfl T3 rfl).q) (fun a hF => ?_)
       refine qs_w hF (wanted_y hF rfl rfl rfl rfl) rfl (Nat.le_of_ble_eq_true rfl) ((y_geq hF rfl rfl).q) (fun a hF => ?_)
       refine qs hF rfl ((y_pick_f hF rfl rfl rfl).q) (fun a hF => ?_)
       refine qs hF rfl ((y_move hF rfl).q) (fun a hF => ?_)
       rcases Bool.eq_false_or_eq_true (decide (p0.1 ≤ x9.1)) with hb | hb
       ·
        have H := iteT (of_decide_eq_true hb) H
        rw [hb] at hF
        clear hb
        iterate 3 refine qs_skip hF (wanted_n hF rfl rfl rfl rfl rfl) rfl rfl (fun a hF => ?_)
        refine qs hF rfl ((y_pick_t hF rfl rfl rfl).q) (fun a hF => ?_)
        refine qs hF rfl ((y_move hF rfl).q) (fun a hF => ?_)
        iterate 6 refine qs_skip hF (wanted_n hF rfl rfl rfl rfl rfl) rfl rfl (fun a hF => ?_)
        refine qs hF rfl ((y_pick_t hF rfl rfl rfl).q) (fun a hF => ?_)
        refine qs hF rfl ((y_move hF rfl).q) (fun a hF => ?_)
        iterate 3 refine qs_skip hF (wanted_n hF rfl rfl rfl rfl rfl) rfl rfl (fun a hF => ?_)
        refine qs hF rfl ((y_pick_t hF rfl rfl rfl).q) (fun a hF => ?_)
        refine qs hF rfl ((y_move hF rfl).q) (fun a hF => ?_)
        iterate 5 refine qs_skip hF (wanted_n hF rfl rfl rfl rfl rfl) rfl rfl (fun a hF => ?_)
        refine qs hF rfl ((y_pick_t hF rfl rfl rfl).q) (fun a hF => ?_)
        refine qs hF rfl ((y_move hF rfl).q) (fun a hF => ?_)
        iterate 12 refine qs_skip hF (wanted_n hF rfl rfl rfl rfl rfl) rfl rfl (fun a hF => ?_)
        refine qs hF rfl ((y_pick_t hF rfl rfl rfl).q) (fun a hF => ?_)
        refine qs hF rfl ((y_move hF rfl).q) (fun a hF => ?_)
        iterate 12 refine qs_skip hF (wanted_n hF rfl rfl rfl rfl rfl) rfl rfl (fun a hF => ?_)
        refine qs hF rfl ((y_pick_t hF rfl rfl rfl).q) (fun a hF => ?_)
        refine quiet_end (fun w hW => ?_)
        refine c_then ?_
        have hW := hW.frontM (i := 1) rfl rfl
        have hW := hW.frontM (i := 1) rfl rfl
        exact ⟨_, H, hF.re ⟨rfl, rfl, rfl, rfl, rfl, rfl, rfl, rfl, trivial⟩, hW⟩
       ·
        have H := iteF (of_decide_eq_false hb) H
        rw [hb] at hF
        clear hb
        refine qs_w hF (wanted_y hF rfl rfl rfl rfl) rfl (Nat.le_of_ble_eq_true rfl) ((y_fieldAddr u62_ rfl rfl rfl T3 hF rfl 1 rfl).q) (fun a hF => ?_)
        refine qs_w hF (wanted_y hF rfl rfl rfl rfl) rfl (Nat.le_of_ble_eq_true rfl) ((y_load (v := Value.int .i64 x9.2.1) 0 hF rfl rfl T3 rfl).q) (fun a hF => ?_)
        refine qs_w hF (wanted_y hF rfl rfl rfl rfl) rfl (Nat.le_of_ble_eq_true rfl) ((y_lss hF rfl rfl).q) (fun a hF => ?_)
        refine qs hF rfl ((y_pick_f hF rfl rfl rfl).q) (fun a hF => ?_)
        refine qs hF rfl ((y_move hF rfl).q) (fun a hF => ?_)
        rcases Bool.eq_false_or_eq_true (decide (x9.2.1 < 0)) with hb | hb
        ·
         have H := iteT (of_decide_eq_true hb) H
         rw [hb] at hF
         clear hb
         iterate 6 refine qs_skip hF (wanted_n hF rfl rfl rfl rfl rfl) rfl rfl (fun a hF => ?_)
         refine qs hF rfl ((y_pick_t hF rfl rfl rfl).q) (fun a hF => ?_)
         refine qs hF rfl ((y_move hF rfl).q) (fun a hF => ?_)
         iterate 3 refine qs_skip hF (wanted_n hF rfl rfl rfl rfl rfl) rfl rfl (fun a hF => ?_)
         refine qs hF rfl ((y_pick_t hF rfl rfl rfl).q) (fun a hF => ?_)
         refine qs hF rfl ((y_move hF rfl).q) (fun a hF => ?_)
         iterate 5 refine qs_skip hF (wanted_n hF rfl rfl rfl rfl rfl) rfl rfl (fun a hF => ?_)
         refine qs hF rfl ((y_pick_t hF rfl rfl rfl).q) (fun a hF => ?_)
         refine qs hF rfl ((y_move hF rfl).q) (fun a hF => ?_)
         iterate 12 refine qs_skip hF (wanted_n hF rfl rfl rfl rfl rfl) rfl rfl (fun a hF => ?_)
         refine qs hF rfl ((y_pick_t hF rfl rfl rfl).q) (fun a hF => ?_)
         refine qs hF rfl ((y_move hF rfl).q) (fun a hF => ?_)
         iterate 12 refine qs_skip hF (wanted_n hF rfl rfl rfl rfl rfl) rfl rfl (fun a hF => ?_)
         refine qs hF rfl ((y_pick_t hF rfl rfl rfl).q) (fun a hF => ?_)
         refine quiet_end (fun w hW => ?_)
         refine c_then ?_
         have hW := hW.frontM (i := 1) rfl rfl
         have hW := hW.frontM (i := 1) rfl rfl
         exact ⟨_, H, hF.re ⟨rfl, rfl, rfl, rfl, rfl, rfl, rfl, rfl, trivial⟩, hW⟩
        ·
         have H := iteF (of_decide_eq_false hb) H
         rw [hb] at hF
         clear hb
         refine qs_w hF (wanted_y hF rfl rfl rfl rfl) rfl (Nat.le_of_ble_eq_true rfl) ((y_fieldAddr u62_ rfl rfl rfl T3 hF rfl 1 rfl).q) (fun a hF => ?_)
         refine qs_w hF (wanted_y hF rfl rfl rfl rfl) rfl (Nat.le_of_ble_eq_true rfl) ((y_load (v := Value.int .i64 x9.2.1) 0 hF rfl rfl T3 rfl).q) (fun a hF => ?_)
         refine qs_w hF (wanted_y hF rfl rfl rfl rfl) rfl (Nat.le_of_ble_eq_true rfl) ((y_fieldAddr u25_ rfl rfl rfl T23 hF rfl 2 rfl).q) (fun a hF => ?_)
         refine qs_w hF (wanted_y hF rfl rfl rfl rfl) rfl (Nat.le_of_ble_eq_true rfl) ((y_load (v := v2) 1 hF rfl rfl T23 rfl).q) (fun a hF => ?_)
         refine qs_w hF (wanted_y hF rfl rfl rfl rfl) rfl (Nat.le_of_ble_eq_true rfl) ((y_len (r := R43) (l := p0.2.2) u23_ rfl hF rfl (rdc_ro h_v2)).q) (fun a hF => ?_)
         refine qs_w hF (wanted_y hF rfl rfl rfl rfl) rfl (Nat.le_of_ble_eq_true rfl) ((y_geq hF rfl rfl).q) (fun a hF => ?_)
         refine qs hF rfl ((y_pick_f hF rfl rfl rfl).q) (fun a hF => ?_)
         refine qs hF rfl ((y_move hF rfl).q) (fun a hF => ?_)
         rcases Bool.eq_false_or_eq_true (decide ((p0.2.2.length : Int) ≤ x9.2.1)) with hb | hb
         ·
          have H := iteT (of_decide_eq_true hb) H
          rw [hb] at hF
          clear hb
          iterate 3 refine qs_skip hF (wanted_n hF rfl rfl rfl rfl rfl) rfl rfl (fun a hF => ?_)
          refine qs hF rfl ((y_pick_t hF rfl rfl rfl).q) (fun a hF => ?_)
          refine qs hF rfl ((y_move hF rfl).q) (fun a hF => ?_)
          iterate 5 refine qs_skip hF (wanted_n hF rfl rfl rfl rfl rfl) rfl rfl (fun a hF => ?_)
          refine qs hF rfl ((y_pick_t hF rfl rfl rfl).q) (fun a hF => ?_)
          refine qs hF rfl ((y_move hF rfl).q) (fun a hF => ?_)
          iterate 12 refine qs_skip hF (wanted_n hF rfl rfl rfl rfl rfl) rfl rfl (fun a hF => ?_)
          refine qs hF rfl ((y_pick_t hF rfl rfl rfl).q) (fun a hF => ?_)
          refine qs hF rfl ((y_move hF rfl).q) (fun a hF => ?_)
          iterate 12 refine qs_skip hF (wanted_n hF rfl rfl rfl rfl rfl) rfl rfl (fun a hF => ?_)
          refine qs hF rfl ((y_pick_t hF rfl rfl rfl).q) (fun a hF => ?_)
          refine quiet_end (fun w hW => ?_)
          refine c_then ?_
          have hW := hW.frontM (i := 1) rfl rfl
          have hW := hW.frontM (i := 1) rfl rfl
          exact ⟨_, H, hF.re ⟨rfl, rfl, rfl, rfl, rfl, rfl, rfl, rfl, trivial⟩, hW⟩
         ·
          have H := iteF (of_decide_eq_false hb) H
          rw [hb] at hF
          clear hb
          refine qs_w hF (wanted_y hF rfl rfl rfl rfl) rfl (Nat.le_of_ble_eq_true rfl) ((y_fieldAddr u62_ rfl rfl rfl T3 hF rfl 3 rfl).q) (fun a hF => ?_)
          refine qs_w hF (wanted_y hF rfl rfl rfl rfl) rfl (Nat.le_of_ble_eq_true rfl) ((y_load (v := Value.int .i64 x9.2.2.2) 0 hF rfl rfl T3 rfl).q) (fun a hF => ?_)
          refine qs_w hF (wanted_y hF rfl rfl rfl rfl) rfl (Nat.le_of_ble_eq_true rfl) ((y_lss hF rfl rfl).q) (fun a hF => ?_)
          refine qs hF rfl ((y_pick_f hF rfl rfl rfl).q) (fun a hF => ?_)
          refine qs hF rfl ((y_move hF rfl).q) (fun a hF => ?_)
          rcases Bool.eq_false_or_eq_true (decide (x9.2.2.2 < 1)) with hb | hb
          ·
           have H := iteT (of_decide_eq_true hb) H
           rw [hb] at hF
           clear hb
           iterate 5 refine qs_skip hF (wanted_n hF rfl rfl rfl rfl rfl) rfl rfl (fun a hF => ?_)
           refine qs hF rfl ((y_pick_t hF rfl rfl rfl).q) (fun a hF => ?_)
           refine qs hF rfl ((y_move hF rfl).q) (fun a hF => ?_)
           iterate 12 refine qs_skip hF (wanted_n hF rfl rfl rfl rfl rfl) rfl rfl (fun a hF => ?_)
           refine qs hF rfl ((y_pick_t hF rfl rfl rfl).q) (fun a hF => ?_)
           refine qs hF rfl ((y_move hF rfl).q) (fun a hF => ?_)
           iterate 12 refine qs_skip hF (wanted_n hF rfl rfl rfl rfl rfl) rfl rfl (fun a hF => ?_)
           refine qs hF rfl ((y_pick_t hF rfl rfl rfl).q) (fun a hF => ?_)
           refine quiet_end (fun w hW => ?_)
           refine c_then ?_
           have hW := hW.frontM (i := 1) rfl rfl
           have hW := hW.frontM (i := 1) rfl rfl
           exact ⟨_, H, hF.re ⟨rfl, rfl, rfl, rfl, rfl, rfl, rfl, rfl, trivial⟩, hW⟩
          ·
           have H := iteF (of_decide_eq_false hb) H
           rw [hb] at hF
           clear hb
           refine qs_w hF (wanted_y hF rfl rfl rfl rfl) rfl (Nat.le_of_ble_eq_true rfl) ((y_fieldAddr u62_ rfl rfl rfl T3 hF rfl 3 rfl).q) (fun a hF => ?_)
           refine qs_w hF (wanted_y hF rfl rfl rfl rfl) rfl (Nat.le_of_ble_eq_true rfl) ((y_load (v := Value.int .i64 x9.2.2.2) 0 hF rfl rfl T3 rfl).q) (fun a hF => ?_)
           refine qs_w hF (wanted_y hF rfl rfl rfl rfl) rfl (Nat.le_of_ble_eq_true rfl) ((y_fieldAddr u25_ rfl rfl rfl T3 hF rfl 0 rfl).q) (fun a hF => ?_)
           refine qs_w hF (wanted_y hF rfl rfl rfl rfl) rfl (Nat.le_of_ble_eq_true rfl) ((y_load (v := Value.int .i64 p0.1) 1 hF rfl rfl T3 rfl).q) (fun a hF => ?_)
           refine qs_w hF (wanted_y hF rfl rfl rfl rfl) rfl (Nat.le_of_ble_eq_true rfl) ((y_geq hF rfl rfl).q) (fun a hF => ?_)
           refine qs hF rfl ((y_pick_f hF rfl rfl rfl).q) (fun a hF => ?_)
           refine qs hF rfl ((y_move hF rfl).q) (fun a hF => ?_)
           rcases Bool.eq_false_or_eq_true (decide (p0.1 ≤ x9.2.2.2)) with hb | hb
           ·
            have H := iteT (of_decide_eq_true hb) H
            rw [hb] at hF
            clear hb
            iterate 12 refine qs_skip hF (wanted_n hF rfl rfl rfl rfl rfl) rfl rfl (fun a hF => ?_)
            refine qs hF rfl ((y_pick_t hF rfl rfl rfl).q) (fun a hF => ?_)
            refine qs hF rfl ((y_move hF rfl).q) (fun a hF => ?_)
            iterate 12 refine qs_skip hF (wanted_n hF rfl rfl rfl rfl rfl) rfl rfl (fun a hF => ?_)
            refine qs hF rfl ((y_pick_t hF rfl rfl rfl).q) (fun a hF => ?_)
            refine quiet_end (fun w hW => ?_)
            refine c_then ?_
            have hW := hW.frontM (i := 1) rfl rfl
            have hW := hW.frontM (i := 1) rfl rfl
            exact ⟨_, H, hF.re ⟨rfl, rfl, rfl, rfl, rfl, rfl, rfl, rfl, trivial⟩, hW⟩
           ·
            have H := iteF (of_decide_eq_false hb) H
            rw [hb] at hF
            clear hb
            refine qs_w hF (wanted_y hF rfl rfl rfl rfl) rfl (Nat.le_of_ble_eq_true rfl) ((y_move hF rfl).q) (fun a hF => ?_)
            refine qs_w hF (wanted_y hF rfl rfl rfl rfl) rfl (Nat.le_of_ble_eq_true rfl) ((y_fieldAddr u62_ rfl rfl rfl T3 hF rfl 0 rfl).q) (fun a hF => ?_)
            refine qs_w hF (wanted_y hF rfl rfl rfl rfl) rfl (Nat.le_of_ble_eq_true rfl) ((y_load (v := Value.int .i64 x9.1) 0 hF rfl rfl T3 rfl).q) (fun a hF => ?_)
            obtain ⟨x11, h10, H⟩ := bindE H
            obtain ⟨v8, h11, h12⟩ := ix_ex h2 h10
            have h13 : EE28 v8 = [(v8.1)] := congrArg (fun q : List Int => ([(v8.1)] : List Value)) h12
            refine qs_w hF (wanted_y hF rfl rfl rfl rfl) rfl (Nat.le_of_ble_eq_true rfl) ((y_index (r := (Rp.vsl (Rp.int .i64))) L27 hF rfl rfl (rdc_ro h_v4) h11).q) (fun a hF => ?_)
            refine qs_w hF (wanted_y hF rfl rfl rfl rfl) rfl (Nat.le_of_ble_eq_true rfl) ((y_load_el (y := (v8.1)) (j := 0) (i := x9.1) (enc := EE28) hF rfl rfl (rdc_ro h_v4) h11 FE28 T28 (by rw [h13]; rfl)).q) (fun a hF => ?_)
            refine qs_w hF (wanted_y hF rfl rfl rfl rfl) rfl (Nat.le_of_ble_eq_true rfl) ((y_fieldAddr u62_ rfl rfl rfl T3 hF rfl 1 rfl).q) (fun a hF => ?_)
            refine qs_w hF (wanted_y hF rfl rfl rfl rfl) rfl (Nat.le_of_ble_eq_true rfl) ((y_load (v := Value.int .i64 x9.2.1) 0 hF rfl rfl T3 rfl).q) (fun a hF => ?_)
            obtain ⟨x12, h14, H⟩ := bindE H
            refine qs_w hF (wanted_y hF rfl rfl rfl rfl) rfl (Nat.le_of_ble_eq_true rfl) ((y_index (r := (Rp.int .i64)) L28 hF rfl rfl (rdc_at (rdc_ro h_v4) h11 Path.here (congrArg (fun q : List Int => q) h12)) h14).q) (fun a hF => ?_)
            refine qs_w hF (wanted_y hF rfl rfl rfl rfl) rfl (Nat.le_of_ble_eq_true rfl) ((y_load_el (y := Value.int .i64 x12) (j := 0) (i := x9.2.1) hF rfl rfl (rdc_at (rdc_ro h_v4) h11 Path.here (congrArg (fun q : List Int => q) h12)) h14 Fl.int.to T3 rfl).q) (fun a hF => ?_)
            refine qs_w hF (wanted_y hF rfl rfl rfl rfl) rfl (Nat.le_of_ble_eq_true rfl) ((y_fieldAddr u62_ rfl rfl rfl T3 hF rfl 2 rfl).q) (fun a hF => ?_)
            refine qs_w hF (wanted_y hF rfl rfl rfl rfl) rfl (Nat.le_of_ble_eq_true rfl) ((y_load (v := Value.int .i64 x9.2.2.1) 0 hF rfl rfl T3 rfl).q) (fun a hF => ?_)
            refine qs_w hF (wanted_y hF rfl rfl rfl rfl) rfl (Nat.le_of_ble_eq_true rfl) ((y_neq hF rfl rfl).q) (fun a hF => ?_)
            refine qs hF rfl ((y_pick_f hF rfl rfl rfl).q) (fun a hF => ?_)
            refine qs hF rfl ((y_move hF rfl).q) (fun a hF => ?_)
            rcases Bool.eq_false_or_eq_true (decide (x12 ≠ x9.2.2.1)) with hb | hb
            ·
             have H := iteT (of_decide_eq_true hb) H
             rw [hb] at hF
             clear hb
             iterate 12 refine qs_skip hF (wanted_n hF rfl rfl rfl rfl rfl) rfl rfl (fun a hF => ?_)
             refine qs hF rfl ((y_pick_t hF rfl rfl rfl).q) (fun a hF => ?_)
             refine quiet_end (fun w hW => ?_)
             refine c_then ?_
             have hW := hW.frontM (i := 1) rfl rfl
             have hW := hW.frontM (i := 1) rfl rfl
             exact ⟨_, H, hF.re ⟨rfl, rfl, rfl, rfl, rfl, rfl, rfl, rfl, trivial⟩, hW⟩
            ·
             have H := iteF (of_decide_eq_false hb) H
             rw [hb] at hF
             clear hb
             refine qs_w hF (wanted_y hF rfl rfl rfl rfl) rfl (Nat.le_of_ble_eq_true rfl) ((y_move hF rfl).q) (fun a hF => ?_)
             refine qs_w hF (wanted_y hF rfl rfl rfl rfl) rfl (Nat.le_of_ble_eq_true rfl) ((y_fieldAddr u62_ rfl rfl rfl T3 hF rfl 0 rfl).q) (fun a hF => ?_)
             refine qs_w hF (wanted_y hF rfl rfl rfl rfl) rfl (Nat.le_of_ble_eq_true rfl) ((y_load (v := Value.int .i64 x9.1) 0 hF rfl rfl T3 rfl).q) (fun a hF => ?_)
             obtain ⟨x13, h15, H⟩ := bindE H
             obtain ⟨v9, h16, h17⟩ := ix_ex h1 h15
             have h18 : EE28 v9 = [(v9.1)] := congrArg (fun q : List Int => ([(v9.1)] : List Value)) h17
             refine qs_w hF (wanted_y hF rfl rfl rfl rfl) rfl (Nat.le_of_ble_eq_true rfl) ((y_index (r := (Rp.vsl (Rp.int .i64))) L27 hF rfl rfl (rdc_ro h_v3) h16).q) (fun a hF => ?_)
             refine qs_w hF (wanted_y hF rfl rfl rfl rfl) rfl (Nat.le_of_ble_eq_true rfl) ((y_load_el (y := (v9.1)) (j := 0) (i := x9.1) (enc := EE28) hF rfl rfl (rdc_ro h_v3) h16 FE28 T28 (by rw [h18]; rfl)).q) (fun a hF => ?_)
             refine qs_w hF (wanted_y hF rfl rfl rfl rfl) rfl (Nat.le_of_ble_eq_true rfl) ((y_fieldAddr u62_ rfl rfl rfl T3 hF rfl 1 rfl).q) (fun a hF => ?_)
             refine qs_w hF (wanted_y hF rfl rfl rfl rfl) rfl (Nat.le_of_ble_eq_true rfl) ((y_load (v := Value.int .i64 x9.2.1) 0 hF rfl rfl T3 rfl).q) (fun a hF => ?_)
             obtain ⟨x14, h19, H⟩ := bindE H
             refine qs_w hF (wanted_y hF rfl rfl rfl rfl) rfl (Nat.le_of_ble_eq_true rfl) ((y_index (r := (Rp.int .i64)) L28 hF rfl rfl (rdc_at (rdc_ro h_v3) h16 Path.here (congrArg (fun q : List Int => q) h17)) h19).q) (fun a hF => ?_)
             refine qs_w hF (wanted_y hF rfl rfl rfl rfl) rfl (Nat.le_of_ble_eq_true rfl) ((y_load_el (y := Value.int .i64 x14) (j := 0) (i := x9.2.1) hF rfl rfl (rdc_at (rdc_ro h_v3) h16 Path.here (congrArg (fun q : List Int => q) h17)) h19 Fl.int.to T3 rfl).q) (fun a hF => ?_)
             refine qs_w hF (wanted_y hF rfl rfl rfl rfl) rfl (Nat.le_of_ble_eq_true rfl) ((y_fieldAddr u62_ rfl rfl rfl T3 hF rfl 2 rfl).q) (fun a hF => ?_)
             refine qs_w hF (wanted_y hF rfl rfl rfl rfl) rfl (Nat.le_of_ble_eq_true rfl) ((y_load (v := Value.int .i64 x9.2.2.1) 0 hF rfl rfl T3 rfl).q) (fun a hF => ?_)
             refine qs_w hF (wanted_y hF rfl rfl rfl rfl) rfl (Nat.le_of_ble_eq_true rfl) ((y_eql hF rfl rfl).q) (fun a hF => ?_)
             refine qs hF rfl ((y_pick_f hF rfl rfl rfl).q) (fun a hF => ?_)
             refine quiet_end (fun w hW => ?_)
             refine c_then ?_
             have hW := hW.frontM (i := 1) rfl rfl
             have hW := hW.frontM (i := 1) rfl rfl
             exact ⟨_, H, hF.re ⟨rfl, rfl, rfl, rfl, rfl, rfl, rfl, rfl, trivial⟩, hW⟩
     rintro a w ⟨x10, hj, hF, hW⟩
     have hj := Option.some.inj hj
     subst hj
     have H := K4
     clear G4 K4
     refine c_cond hF rfl (fun hb => ?_) (fun hb => ?_)
     ·
      have H := iteT hb H
      rw [hb] at hF
      clear hb
      refine c_seq (reg_list ?_)
      refine ls hF hW rfl ((y_assign hF rfl).q) (fun a w hF hW => ?_)
      refine ls_nil (c_then ?_)
      refine wp_ret ?_
      refine r_then ?_
      refine r_block ?_
      iterate 2 refine r_then ?_
      refine r_block ?_
      refine r_then ?_
      have H := L3 _ H
      have H := L2 _ H
      have H := Option.some.inj H
      subst H
      refine post1 (.inl rfl) hF hW rfl (rv_tmp hF rfl) ?_
      exact ⟨rfl, hW.done⟩
     ·
      have H := iteF (by rw [hb]; decide) H
      rw [hb] at hF
      clear hb
      refine wp_skip ?_
      refine c_then ?_
      refine c_seq (reg_list ?_)
      refine ls hF hW rfl ((y_load (v := Value.agg #[.int .i64 p0.1, v1, v2]) 1 hF rfl rfl T25 rfl).q) (fun a w hF hW => ?_)
      refine ls hF hW rfl ((y_move hF rfl).q) (fun a w hF hW => ?_)
      refine ls hF hW rfl ((y_fieldAddr u62_ rfl rfl rfl T3 hF rfl 1 rfl).q) (fun a w hF hW => ?_)
      refine ls hF hW rfl ((y_load (v := Value.int .i64 x9.2.1) 0 hF rfl rfl T3 rfl).q) (fun a w hF hW => ?_)
      obtain ⟨x15, h20, H⟩ := bindE H
      refine l_callG (Ml := []) (Zl := []) (M := [(b2, [.int .i64 x9.1, .int .i64 x9.2.1, .int .i64 x9.2.2.1, .int .i64 x9.2.2.2]), (b1, [.int .i64 p0.1, v1, v2])]) (Z := [row v7 62 R62 x7.1]) (β := Value) (rv := fun x => x) (MM := fun x => []) (ZZ := fun x => [row x 3 (Rp.int .i64) x15]) hF hW H18 rfl rfl (fun hL => r21_Far_c _ w (v1) (v2) (v4) p0 p2 x9.2.1 _ h20 ((rdc_ro h_v1) w hW).nx ((rdc_ro h_v2) w hW).nx ((rdc_hide EX28 h2 (rdc_ro h_v4)) w hW).nx) (fun x a w hF hW => ?_)
      obtain ⟨v10, rfl⟩ : ∃ y, y = x := ⟨x, rfl⟩
      have hW : Stw ⟨Y, [], w0⟩ [(b2, [.int .i64 x9.1, .int .i64 x9.2.1, .int .i64 x9.2.2.1, .int .i64 x9.2.2.2]), (b1, [.int .i64 p0.1, v1, v2])] [row v10 3 (Rp.int .i64) x15, row v7 62 R62 x7.1] w := hW
      refine ls hF hW rfl ((y_assign hF rfl).q) (fun a w hF hW => ?_)
      refine ls_nil (c_then ?_)
      refine c_seq (reg_list ?_)
      refine ls hF hW rfl ((y_load (v := Value.agg #[.int .i64 p0.1, v1, v2]) 1 hF rfl rfl T25 rfl).q) (fun a w hF hW => ?_)
      refine ls hF hW rfl ((y_fieldAddr u62_ rfl rfl rfl T3 hF rfl 0 rfl).q) (fun a w hF hW => ?_)
      refine ls hF hW rfl ((y_load (v := Value.int .i64 x9.1) 0 hF rfl rfl T3 rfl).q) (fun a w hF hW => ?_)
      refine ls hF hW rfl ((y_fieldAddr u62_ rfl rfl rfl T3 hF rfl 2 rfl).q) (fun a w hF hW => ?_)
      refine ls hF hW rfl ((y_load (v := Value.int .i64 x9.2.2.1) 0 hF rfl rfl T3 rfl).q) (fun a w hF hW => ?_)
      obtain ⟨x16, h21, H⟩ := bindE H
      refine ls hF hW rfl (y_call (v := Value.tuple #[.int .i64 x16.1, .int .i64 x16.2.1, .int .i64 x16.2.2.1, .bool x16.2.2.2]) hF H15 rfl (fun w hW => r17_Peer_c any w (v1) (v2) p0 x9.1 x9.2.2.1 _ h21 (((rdc_ro h_v1) : Rdc _ _ _ _ _ _) w hW).nx (((rdc_ro h_v2) : Rdc _ _ _ _ _ _) w hW).nx)) (fun a w hF hW => ?_)
      refine ls hF hW rfl ((y_move hF rfl).q) (fun a w hF hW => ?_)
      refine ls hF hW rfl ((y_extract (v := Value.int .i64 x16.1) hF rfl rfl).q) (fun a w hF hW => ?_)
      refine ls hF hW rfl ((y_extract (v := Value.int .i64 x16.2.1) hF rfl rfl).q) (fun a w hF hW => ?_)
      refine ls hF hW rfl ((y_extract (v := Value.int .i64 x16.2.2.1) hF rfl rfl).q) (fun a w hF hW => ?_)
      refine ls hF hW rfl ((y_extract (v := Value.bool x16.2.2.2) hF rfl rfl).q) (fun a w hF hW => ?_)
      iterate 4 refine ls hF hW rfl ((y_assign hF rfl).q) (fun a w hF hW => ?_)
      refine ls_nil (c_then ?_)
      refine c_seq ?_
      obtain ⟨o5, G5, K5⟩ := bindE H
      refine c_seqJ (fun a w => ∃ x17 : Bool, some (x17) = some o5 ∧ Fr 172 [] [(1, v3), (2, v4), (3, .pointer (some ⟨b1, 0, none⟩)), (6, .bool false), (7, v7), (9, .int .i64 x8), (10, .pointer (some ⟨b2, 0, none⟩)), (158, .bool x17)] a ∧ Stw ⟨Y, [], w0⟩ [(b2, [.int .i64 x9.1, .int .i64 x9.2.1, .int .i64 x9.2.2.1, .int .i64 x9.2.2.2]), (b1, [.int .i64 p0.1, v1, v2])] [row v7 62 R62 x7.1] w) ?_ ?_
      ·
       have H := G5
       clear G5 K5
       refine reg_quiet hW MO (by kernel_rfl) ?_
       refine qs hF rfl ((y_move hF rfl).q) (fun a hF => ?_)
       refine qs hF rfl ((y_fieldAddr u62_ rfl rfl rfl T3 hF rfl 0 rfl).q) (fun a hF => ?_)
       refine qs hF rfl ((y_load (v := Value.int .i64 x9.1) 0 hF rfl rfl T3 rfl).q) (fun a hF => ?_)
       obtain ⟨x18, h22, H⟩ := bindE H
       refine qs hF rfl ((y_index (r := (Rp.int .i64)) L28 hF rfl rfl (rdc_row 0 rfl) h22).q) (fun a hF => ?_)
       refine qs hF rfl ((y_load_el (y := Value.int .i64 x18) (j := 0) (i := x9.1) hF rfl rfl (rdc_row 0 rfl) h22 Fl.int.to T3 rfl).q) (fun a hF => ?_)
       refine qs hF rfl ((y_fieldAddr u62_ rfl rfl rfl T3 hF rfl 3 rfl).q) (fun a hF => ?_)
       refine qs hF rfl ((y_load (v := Value.int .i64 x9.2.2.2) 0 hF rfl rfl T3 rfl).q) (fun a hF => ?_)
       refine qs hF rfl ((y_neq hF rfl rfl).q) (fun a hF => ?_)
       refine qs hF rfl ((y_move hF rfl).q) (fun a hF => ?_)
       rcases Bool.eq_false_or_eq_true (decide (x18 ≠ x9.2.2.2)) with hb | hb
       ·
        have H := iteT (of_decide_eq_true hb) H
        rw [hb] at hF
        clear hb
        iterate 2 refine qs_skip hF (wanted_n hF rfl rfl rfl rfl rfl) rfl rfl (fun a hF => ?_)
        refine qs hF rfl ((y_pick_t hF rfl rfl rfl).q) (fun a hF => ?_)
        refine qs hF rfl ((y_move hF rfl).q) (fun a hF => ?_)
        iterate 8 refine qs_skip hF (wanted_n hF rfl rfl rfl rfl rfl) rfl rfl (fun a hF => ?_)
        refine qs hF rfl ((y_pick_t hF rfl rfl rfl).q) (fun a hF => ?_)
        refine quiet_end (fun w hW => ?_)
        refine c_then ?_
        have hW := hW.frontZ (i := 1) rfl rfl
        have hW := hW.frontM (i := 1) rfl rfl
        have hW := hW.frontM (i := 1) rfl rfl
        have hW := hW.sub (M' := [(b2, [.int .i64 x9.1, .int .i64 x9.2.1, .int .i64 x9.2.2.1, .int .i64 x9.2.2.2]), (b1, [.int .i64 p0.1, v1, v2])]) (Z' := [row v7 62 R62 x7.1]) (List.Sublist.refl _) (List.Sublist.cons_cons _ (List.nil_sublist _))
        exact ⟨_, H, hF.re ⟨rfl, rfl, rfl, rfl, rfl, rfl, rfl, rfl, trivial⟩, hW⟩
       ·
        have H := iteF (of_decide_eq_false hb) H
        rw [hb] at hF
        clear hb
        refine qs_w hF (wanted_y hF rfl rfl rfl rfl) rfl (Nat.le_of_ble_eq_true rfl) ((y_move hF rfl).q) (fun a hF => ?_)
        refine qs_w hF (wanted_y hF rfl rfl rfl rfl) rfl (Nat.le_of_ble_eq_true rfl) ((y_not hF rfl).q) (fun a hF => ?_)
        refine qs hF rfl ((y_pick_f hF rfl rfl rfl).q) (fun a hF => ?_)
        refine qs hF rfl ((y_move hF rfl).q) (fun a hF => ?_)
        rcases Bool.eq_false_or_eq_true (!x16.2.2.2) with hb | hb
        ·
         have H := iteT hb H
         rw [hb] at hF
         clear hb
         iterate 8 refine qs_skip hF (wanted_n hF rfl rfl rfl rfl rfl) rfl rfl (fun a hF => ?_)
         refine qs hF rfl ((y_pick_t hF rfl rfl rfl).q) (fun a hF => ?_)
         refine quiet_end (fun w hW => ?_)
         refine c_then ?_
         have hW := hW.frontZ (i := 1) rfl rfl
         have hW := hW.frontM (i := 1) rfl rfl
         have hW := hW.frontM (i := 1) rfl rfl
         have hW := hW.sub (M' := [(b2, [.int .i64 x9.1, .int .i64 x9.2.1, .int .i64 x9.2.2.1, .int .i64 x9.2.2.2]), (b1, [.int .i64 p0.1, v1, v2])]) (Z' := [row v7 62 R62 x7.1]) (List.Sublist.refl _) (List.Sublist.cons_cons _ (List.nil_sublist _))
         exact ⟨_, H, hF.re ⟨rfl, rfl, rfl, rfl, rfl, rfl, rfl, rfl, trivial⟩, hW⟩
        ·
         have H := iteF (by rw [hb]; decide) H
         rw [hb] at hF
         clear hb
         iterate 2 refine qs_w hF (wanted_y hF rfl rfl rfl rfl) rfl (Nat.le_of_ble_eq_true rfl) ((y_move hF rfl).q) (fun a hF => ?_)
         obtain ⟨x19, h23, H⟩ := bindE H
         refine qs_w hF (wanted_y hF rfl rfl rfl rfl) rfl (Nat.le_of_ble_eq_true rfl) ((y_index (r := (Rp.int .i64)) L28 hF rfl rfl (rdc_row 0 rfl) h23).q) (fun a hF => ?_)
         refine qs_w hF (wanted_y hF rfl rfl rfl rfl) rfl (Nat.le_of_ble_eq_true rfl) ((y_load_el (y := Value.int .i64 x19) (j := 0) (i := x16.1) hF rfl rfl (rdc_row 0 rfl) h23 Fl.int.to T3 rfl).q) (fun a hF => ?_)
         refine qs_w hF (wanted_y hF rfl rfl rfl rfl) rfl (Nat.le_of_ble_eq_true rfl) ((y_fieldAddr u62_ rfl rfl rfl T3 hF rfl 3 rfl).q) (fun a hF => ?_)
         refine qs_w hF (wanted_y hF rfl rfl rfl rfl) rfl (Nat.le_of_ble_eq_true rfl) ((y_load (v := Value.int .i64 x9.2.2.2) 0 hF rfl rfl T3 rfl).q) (fun a hF => ?_)
         refine qs_w hF (wanted_y hF rfl rfl rfl rfl) rfl (Nat.le_of_ble_eq_true rfl) ((y_sub hF rfl rfl rfl).q) (fun a hF => ?_)
         refine qs_w hF (wanted_y hF rfl rfl rfl rfl) rfl (Nat.le_of_ble_eq_true rfl) ((y_neq hF rfl rfl).q) (fun a hF => ?_)
         refine qs hF rfl ((y_pick_f hF rfl rfl rfl).q) (fun a hF => ?_)
         refine quiet_end (fun w hW => ?_)
         refine c_then ?_
         have hW := hW.frontZ (i := 1) rfl rfl
         have hW := hW.frontM (i := 1) rfl rfl
         have hW := hW.frontM (i := 1) rfl rfl
         have hW := hW.sub (M' := [(b2, [.int .i64 x9.1, .int .i64 x9.2.1, .int .i64 x9.2.2.1, .int .i64 x9.2.2.2]), (b1, [.int .i64 p0.1, v1, v2])]) (Z' := [row v7 62 R62 x7.1]) (List.Sublist.refl _) (List.Sublist.cons_cons _ (List.nil_sublist _))
         exact ⟨_, H, hF.re ⟨rfl, rfl, rfl, rfl, rfl, rfl, rfl, rfl, trivial⟩, hW⟩
      rintro a w ⟨x17, hj, hF, hW⟩
      have hj := Option.some.inj hj
      subst hj
      have H := K5
      clear G5 K5
      refine c_cond hF rfl (fun hb => ?_) (fun hb => ?_)
      ·
       have H := iteT hb H
       rw [hb] at hF
       clear hb
       refine c_seq (reg_list ?_)
       refine ls hF hW rfl ((y_assign hF rfl).q) (fun a w hF hW => ?_)
       refine ls_nil (c_then ?_)
       refine wp_ret ?_
       refine r_then ?_
       refine r_block ?_
       iterate 2 refine r_then ?_
       refine r_block ?_
       refine r_then ?_
       have H := L3 _ H
       have H := L2 _ H
       have H := Option.some.inj H
       subst H
       refine post1 (.inl rfl) hF hW rfl (rv_tmp hF rfl) ?_
       exact ⟨rfl, hW.done⟩
      ·
       have H := iteF (by rw [hb]; decide) H
       rw [hb] at hF
       clear hb
       refine wp_skip ?_
       refine c_then ?_
       obtain ⟨o6, G6, K6⟩ := bindE H
       refine c_seqJ (fun a w => ∃ x20 : Bool, some (x20) = some o6 ∧ Fr 172 [] [(1, v3), (2, v4), (3, .pointer (some ⟨b1, 0, none⟩)), (6, .bool false), (7, v7), (9, .int .i64 x8), (170, .bool x20)] a ∧ Stw ⟨Y, [], w0⟩ [(b2, [.int .i64 x9.1, .int .i64 x9.2.1, .int .i64 x9.2.2.1, .int .i64 x9.2.2.2]), (b1, [.int .i64 p0.1, v1, v2])] [row v7 62 R62 x7.1] w) ?_ ?_
       ·
        have H := G6
        clear G6 K6
        refine reg_quiet hW MO (by kernel_rfl) ?_
        refine qs hF rfl ((y_move hF rfl).q) (fun a hF => ?_)
        refine qs hF rfl ((y_gtr hF rfl rfl).q) (fun a hF => ?_)
        refine qs hF rfl ((y_move hF rfl).q) (fun a hF => ?_)
        rcases Bool.eq_false_or_eq_true (decide (0 < x8)) with hb | hb
        ·
         have H := iteT (of_decide_eq_true hb) H
         rw [hb] at hF
         clear hb
         iterate 2 refine qs_w hF (wanted_y hF rfl rfl rfl rfl) rfl (Nat.le_of_ble_eq_true rfl) ((y_move hF rfl).q) (fun a hF => ?_)
         refine qs_w hF (wanted_y hF rfl rfl rfl rfl) rfl (Nat.le_of_ble_eq_true rfl) ((y_sub hF rfl rfl rfl).q) (fun a hF => ?_)
         obtain ⟨x21, h24, H⟩ := bindE H
         refine qs_w hF (wanted_y hF rfl rfl rfl rfl) rfl (Nat.le_of_ble_eq_true rfl) ((y_index (r := R62) L31 hF rfl rfl (rdc_row 0 rfl) h24).q) (fun a hF => ?_)
         refine qs_w hF (wanted_y hF rfl rfl rfl rfl) rfl (Nat.le_of_ble_eq_true rfl) ((y_load_el (y := Value.agg #[.int .i64 x21.1, .int .i64 x21.2.1, .int .i64 x21.2.2.1, .int .i64 x21.2.2.2]) (j := 0) (i := w64 (x8 - 1)) hF rfl rfl (rdc_row 0 rfl) h24 F62.to T62 rfl).q) (fun a hF => ?_)
         refine qs_w hF (wanted_y hF rfl rfl rfl rfl) rfl (Nat.le_of_ble_eq_true rfl) ((y_load (v := Value.agg #[.int .i64 x9.1, .int .i64 x9.2.1, .int .i64 x9.2.2.1, .int .i64 x9.2.2.2]) 0 hF rfl rfl T62 rfl).q) (fun a hF => ?_)
         refine qs_w hF (wanted_y hF rfl rfl rfl rfl) rfl (Nat.le_of_ble_eq_true rfl) (y_call (v := Value.bool (L23_before x21 x9)) hF H19 rfl (fun w hW => L23_before_c any w x21 x9 _ rfl)) (fun a hF => ?_)
         refine qs_w hF (wanted_y hF rfl rfl rfl rfl) rfl (Nat.le_of_ble_eq_true rfl) ((y_not hF rfl).q) (fun a hF => ?_)
         refine qs hF rfl ((y_pick_t hF rfl rfl rfl).q) (fun a hF => ?_)
         refine quiet_end (fun w hW => ?_)
         refine c_then ?_
         have hW := hW.frontM (i := 1) rfl rfl
         have hW := hW.frontM (i := 1) rfl rfl
         exact ⟨_, H, hF.re ⟨rfl, rfl, rfl, rfl, rfl, rfl, rfl, trivial⟩, hW⟩
        ·
         have H := iteF (of_decide_eq_false hb) H
         rw [hb] at hF
         clear hb
         iterate 8 refine qs_skip hF (wanted_n hF rfl rfl rfl rfl rfl) rfl rfl (fun a hF => ?_)
         refine qs hF rfl ((y_pick_f hF rfl rfl rfl).q) (fun a hF => ?_)
         refine quiet_end (fun w hW => ?_)
         refine c_then ?_
         have hW := hW.frontM (i := 1) rfl rfl
         have hW := hW.frontM (i := 1) rfl rfl
         exact ⟨_, H, hF.re ⟨rfl, rfl, rfl, rfl, rfl, rfl, rfl, trivial⟩, hW⟩
       rintro a w ⟨x20, hj, hF, hW⟩
       have hj := Option.some.inj hj
       subst hj
       have H := K6
       clear G6 K6
       refine c_cond hF rfl (fun hb => ?_) (fun hb => ?_)
       ·
        have H := iteT hb H
        rw [hb] at hF
        clear hb
        refine c_seq (reg_list ?_)
        refine ls hF hW rfl ((y_assign hF rfl).q) (fun a w hF hW => ?_)
        refine ls_nil (c_then ?_)
        refine wp_ret ?_
        refine r_block ?_
        iterate 2 refine r_then ?_
        refine r_block ?_
        refine r_then ?_
        have H := L3 _ H
        have H := L2 _ H
        have H := Option.some.inj H
        subst H
        refine post1 (.inl rfl) hF hW rfl (rv_tmp hF rfl) ?_
        exact ⟨rfl, hW.done⟩
       ·
        have H := iteF (by rw [hb]; decide) H
        rw [hb] at hF
        clear hb
        refine wp_skip ?_
        refine b_normal ?_
        refine c_then ?_
        refine reg_list ?_
        refine ls hF hW rfl ((y_move hF rfl).q) (fun a w hF hW => ?_)
        refine ls hF hW rfl ((y_add hF rfl rfl rfl).q) (fun a w hF hW => ?_)
        refine ls hF hW rfl ((y_assign hF rfl).q) (fun a w hF hW => ?_)
        refine ls_nil (c_then ?_)
        have hW := hW.frontM (i := 1) rfl rfl
        have hW := hW.sub (M' := [(b1, [.int .i64 p0.1, v1, v2])]) (Z' := [row v7 62 R62 x7.1]) (List.Sublist.cons_cons _ (List.nil_sublist _)) (List.Sublist.refl _)
        exact ⟨_, H, hF.re ⟨rfl, rfl, rfl, rfl, rfl, rfl, trivial⟩, hW⟩
    ·
     have H := iteF (of_decide_eq_false hb) H
     rw [hb] at hF
     clear hb
     refine wp_exit ?_
     iterate 2 refine e_then ?_
     refine e_block ?_
     refine c_then ?_
     have hW := hW.sub (M' := [(b1, [.int .i64 p0.1, v1, v2])]) (Z' := []) (List.Sublist.refl _) (List.nil_sublist _)
     have H := L3 _ H
     exact ⟨H, hF.re ⟨rfl, trivial⟩, hW⟩
   rintro a w ⟨hj, hF, hW⟩
   have H := K2 _ hj
   clear hj G2 K2 L2
   refine c_seq (reg_list ?_)
   obtain ⟨x22, h25, H⟩ := bindE H
   refine ls hF hW rfl (y_call (v := Value.bool x22) hF H9 rfl (fun w hW => L23_awake_c any w _ h25)) (fun a w hF hW => ?_)
   refine ls hF hW rfl ((y_assign hF rfl).q) (fun a w hF hW => ?_)
   refine ls_nil (c_then ?_)
   refine wp_ret ?_
   have H := Option.some.inj H
   subst H
   refine post1 (.inl rfl) hF hW rfl (rv_tmp hF rfl) ?_
   exact ⟨rfl, hW.done⟩

end Go.Proofs.Ythiejmoddfenlaa
