/- The functions of layer 34, lifted. Conditions: none. -/
import Derived.Test.YtglegnicihnlmaaA1
namespace Go.Proofs.Ytglegnicihnlmaa
open Go Go.RowKit
set_option linter.unusedVariables false
set_option linter.unusedSimpArgs false
set_option maxRecDepth 20000
theorem H12 : Has Try.prog 12 := ⟨fun args w => run_callFunc_body Try.func12 rfl (by decide) args w⟩
noncomputable def L34_ChannelPlays_l1 (p0 : List (Int × Int × (Int × Bool × List UInt8))) (p1 : Int) (p2 : Bool) : (Int × (List (Int × Bool × List UInt8)) × Int × (List (Int × Bool × List UInt8)) × Int) → Option ((Int × (List (Int × Bool × List UInt8)) × Int × (List (Int × Bool × List UInt8)) × Int) ⊕ (((List (Int × Bool × List UInt8)) × Int × (List (Int × Bool × List UInt8)) × Int) ⊕ Bool))
  | (x5, x6, x7, x8, x9) => (if (decide (x5 < (p0.length : Int)) && decide (x5 < 300)) = true then (ix p0 x5).bind fun x10 => (if 200 < (x10.2.2.2.2.length : Int) then (L34_awake).bind fun x11 => some (.inr (.inr x11)) else ((ix p0 x5).bind fun x17 => (L34_does (x8, x9) (x6, x7) x17).bind fun x18 => (if (!x18.1) = true then some (true, x18.2.2.1, x18.2.2.2, x18.2.1.1, x18.2.1.2) else (channel_Channel_Len x18.2.1).bind fun x19 => (if x19 ≠ (x18.2.2.1.length : Int) then some (true, x18.2.2.1, x18.2.2.2, x18.2.1.1, x18.2.1.2) else (if (channel_Channel_Lost x18.2.1) ≠ x18.2.2.2 then some (true, x18.2.2.1, x18.2.2.2, x18.2.1.1, x18.2.1.2) else (channel_Channel_Of x18.2.1 p1).bind fun x20 => (r34_Channel_Of x18.2.2 p1).bind fun x21 => (if x20 ≠ x21 then some (true, x18.2.2.1, x18.2.2.2, x18.2.1.1, x18.2.1.2) else (channel_Channel_Next x18.2.1 p1 p2).bind fun x22 => (r34_Channel_Next x18.2.2 p1 p2).bind fun x23 => some (decide (x22 ≠ x23), x18.2.2.1, x18.2.2.2, x18.2.1.1, x18.2.1.2)))))).bind fun (x12, x13, x14, x15, x16) => (if x12 = true then some (.inr (.inr false)) else some (.inl (w64 (x5 + 1), x13, x14, x15, x16)))) else some (.inr (.inl (x6, x7, x8, x9))))
noncomputable def L34_ChannelPlays_l2 (x1 : List (Int × Bool × List UInt8)) (x3 : List (Int × Bool × List UInt8)) (x4 : Int) : Int → Option (Int ⊕ (Unit ⊕ Bool))
  | x24 => (if x24 < (x1.length : Int) then (channel_Channel_Look (x3, x4) x24).bind fun x25 => (if x25.2 ≠ 0 then some true else (ix x1 x24).bind fun x27 => some (!(decide (x25.1.1 = ((L34_mine x27).1) ∧ x25.1.2.1 = ((L34_mine x27).2.1) ∧ x25.1.2.2 = ((L34_mine x27).2.2))))).bind fun x26 => (if x26 = true then some (.inr (.inr false)) else some (.inl (w64 (x24 + 1)))) else some (.inr (.inl ())))
noncomputable def L34_ChannelPlays (p0 : List (Int × Int × (Int × Bool × List UInt8))) (p1 : Int) (p2 : Bool) : Option Bool := orR (loopW (L34_ChannelPlays_l1 p0 p1 p2) (0, [], 0, channel_New.1, channel_New.2)) fun (x1, x2, x3, x4) => orR (loopW (L34_ChannelPlays_l2 x1 x3 x4) 0) fun _ => (L34_awake).bind fun x28 => some x28
theorem L34_ChannelPlays_c (Y : Nat → Prop) (w0 : World) (v1 : Value) (p0 : List (Int × Int × (Int × Bool × List UInt8))) (p1 : Int) (p2 : Bool) (r : Bool) (H : L34_ChannelPlays p0 p1 p2 = some r) (h_v1 : Sl w0 (NX []) R32 v1 p0) :
    Calls Try.prog 3 #[v1, .int .i64 p1, .bool p2] w0 fun e w' => e = .returned (.bool r) ∧ Below w0.heap.size w0 w' := by
  refine enter Try.func3 rfl Try.ntmps3 rfl (fun a hF => ?_)
  have hW := Stw.start Y w0
  unfold L34_ChannelPlays at H
  refine c_seq ?_
  refine reg_list ?_
  refine ls hF hW rfl ((y_assign hF rfl).q) (fun a w hF hW => ?_)
  refine ls_nil ?_
  refine c_then ?_
  refine c_seq ?_
  refine reg_list ?_
  refine l_callG (Ml := []) (Zl := []) (M := []) (Z := []) (β := Nat × Value) (rv := fun x => .pointer (some ⟨x.1, 0, none⟩)) (MM := fun x => [(x.1, [x.2, .int .i64 channel_New.2])]) (ZZ := fun x => [row x.2 38 R38 channel_New.1]) hF hW H4 rfl rfl (fun hL => channel_New_c _ w _ rfl) (fun x a w hF hW => ?_)
  obtain ⟨b1, v2⟩ := x
  have hW : Stw ⟨Y, [], w0⟩ [(b1, [v2, .int .i64 channel_New.2])] [row v2 38 R38 channel_New.1] w := hW
  refine ls hF hW rfl ((y_build (v := Value.agg #[.slice none 0 0, .int .i64 0]) B28 hF rfl rfl rfl).q) (fun a w hF hW => ?_)
  refine l_box (cs := [.slice none 0 0, .int .i64 0]) hF hW rfl rfl rfl (fun b2 a w hF hW => ?_)
  refine ls hF hW rfl ((y_assign hF rfl).q) (fun a w hF hW => ?_)
  refine ls hF hW rfl ((y_assign hF rfl).q) (fun a w hF hW => ?_)
  refine ls_nil ?_
  refine c_then ?_
  obtain ⟨o1, G1, K1, L1⟩ := orE H
  refine c_seqJ (fun a w => ∃ x1 : List (Int × Bool × List UInt8), ∃ x2 : Int, ∃ x3 : List (Int × Bool × List UInt8), ∃ x4 : Int, ∃ v3 : Value, ∃ v4 : Value, some (Sum.inl (x1, x2, x3, x4)) = some o1 ∧ Fr 112 [] [(6, .bool false), (7, .pointer (some ⟨b1, 0, none⟩)), (8, .pointer (some ⟨b2, 0, none⟩))] a ∧ Stw ⟨Y, [], w0⟩ [(b2, [v3, .int .i64 x2]), (b1, [v4, .int .i64 x4])] [row v3 30 R30 x1, row v4 38 R38 x3] w) ?_ ?_
  ·
    have H := G1
    clear G1 K1
    refine c_seq ?_
    refine reg_list ?_
    refine ls hF hW rfl ((y_assign hF rfl).q) (fun a w hF hW => ?_)
    refine ls_nil ?_
    refine c_then ?_
    refine wp_block ?_
    have hW := hW.nilRow 30 R30
    have hW := hW.frontZ (i := 1) rfl rfl
    have hW := hW.frontZ (i := 1) rfl rfl
    have hW := hW.frontM (i := 1) rfl rfl
    have hW := hW.frontM (i := 1) rfl rfl
    refine c_loopW H (fun s a w => ∃ v5 : Value, ∃ v6 : Value, Fr 112 [] [(0, v1), (1, .int .i64 p1), (2, .bool p2), (6, .bool false), (7, .pointer (some ⟨b1, 0, none⟩)), (8, .pointer (some ⟨b2, 0, none⟩)), (9, .int .i64 s.1)] a ∧ Stw ⟨Y, [], w0⟩ [(b2, [v5, .int .i64 s.2.2.1]), (b1, [v6, .int .i64 s.2.2.2.2])] [row v5 30 R30 s.2.1, row v6 38 R38 s.2.2.2.1] w) ⟨(Value.slice none 0 0), (v2), hF.re ⟨rfl, rfl, rfl, rfl, rfl, rfl, rfl, trivial⟩, hW⟩ (fun s o a w H L2 hR => ?_)
    obtain ⟨x5, x6, x7, x8, x9⟩ := s
    obtain ⟨v5, v6, hF, hW⟩ := hR
    have hF : Fr 112 [] [(0, v1), (1, .int .i64 p1), (2, .bool p2), (6, .bool false), (7, .pointer (some ⟨b1, 0, none⟩)), (8, .pointer (some ⟨b2, 0, none⟩)), (9, .int .i64 x5)] a := hF
    have hW : Stw ⟨Y, [], w0⟩ [(b2, [v5, .int .i64 x7]), (b1, [v6, .int .i64 x9])] [row v5 30 R30 x6, row v6 38 R38 x8] w := hW
    rw [L34_ChannelPlays_l1] at H
    refine c_seq ?_
    refine c_seqJ (fun a w => Fr 112 [] [(0, v1), (1, .int .i64 p1), (2, .bool p2), (6, .bool false), (7, .pointer (some ⟨b1, 0, none⟩)), (8, .pointer (some ⟨b2, 0, none⟩)), (9, .int .i64 x5), (23, .bool (decide (x5 < (p0.length : Int)) && decide (x5 < 300)))] a ∧ Stw ⟨Y, [], w0⟩ [(b2, [v5, .int .i64 x7]), (b1, [v6, .int .i64 x9])] [row v5 30 R30 x6, row v6 38 R38 x8] w) ?_ ?_
    ·
      refine reg_list ?_
      refine ls hF hW rfl ((y_move hF rfl).q) (fun a w hF hW => ?_)
      refine ls hF hW rfl ((y_move hF rfl).q) (fun a w hF hW => ?_)
      refine ls hF hW rfl ((y_len (r := R32) (l := p0) Try.underlying22 rfl hF rfl (rdc_ro h_v1)).q) (fun a w hF hW => ?_)
      refine ls hF hW rfl ((y_lss hF rfl rfl).q) (fun a w hF hW => ?_)
      refine ls hF hW rfl ((y_move hF rfl).q) (fun a w hF hW => ?_)
      rcases Bool.eq_false_or_eq_true (decide (x5 < (p0.length : Int))) with hb0 | hb0
      ·
        rw [hb0] at hF
        refine ls_w hF hW (wanted_y hF rfl rfl rfl rfl) rfl (Nat.le_of_ble_eq_true rfl) ((y_move hF rfl).q) (fun a w hF hW => ?_)
        refine ls_w hF hW (wanted_y hF rfl rfl rfl rfl) rfl (Nat.le_of_ble_eq_true rfl) ((y_lss hF rfl rfl).q) (fun a w hF hW => ?_)
        refine ls hF hW rfl ((y_pick_t hF rfl rfl rfl).q) (fun a w hF hW => ?_)
        refine ls_nil ?_
        refine c_then ?_
        exact ⟨hF.re ⟨rfl, rfl, rfl, rfl, rfl, rfl, rfl, (by show some (Value.bool (decide (x5 < 300))) = some (Value.bool (decide (x5 < (p0.length : Int)) && decide (x5 < 300))); try rw [hb0]; all_goals simp only [Bool.not_true, Bool.not_false, Bool.true_and, Bool.false_and, Bool.true_or, Bool.false_or, Bool.and_true, Bool.or_false, cond_true, cond_false]), trivial⟩, hW⟩
      ·
        rw [hb0] at hF
        refine ls_skip hF (wanted_n hF rfl rfl rfl rfl rfl) rfl rfl (fun a hF => ?_)
        refine ls_skip hF (wanted_n hF rfl rfl rfl rfl rfl) rfl rfl (fun a hF => ?_)
        refine ls hF hW rfl ((y_pick_f hF rfl rfl rfl).q) (fun a w hF hW => ?_)
        refine ls_nil ?_
        refine c_then ?_
        exact ⟨hF.re ⟨rfl, rfl, rfl, rfl, rfl, rfl, rfl, (by show some (Value.bool false) = some (Value.bool (decide (x5 < (p0.length : Int)) && decide (x5 < 300))); try rw [hb0]; all_goals simp only [Bool.not_true, Bool.not_false, Bool.true_and, Bool.false_and, Bool.true_or, Bool.false_or, Bool.and_true, Bool.or_false, cond_true, cond_false]), trivial⟩, hW⟩
    rintro a w ⟨hF, hW⟩
    refine c_cond hF rfl (fun hb => ?_) (fun hb => ?_)
    ·
      have H := iteT hb H
      rw [hb] at hF
      clear hb
      refine wp_skip ?_
      refine c_then ?_
      refine c_seq ?_
      refine wp_block ?_
      refine c_seq ?_
      refine c_seq ?_
      refine reg_list ?_
      refine ls hF hW rfl ((y_move hF rfl).q) (fun a w hF hW => ?_)
      refine ls hF hW rfl ((y_move hF rfl).q) (fun a w hF hW => ?_)
      obtain ⟨x10, h1, H⟩ := bindE H
      refine ls hF hW rfl ((y_index (r := R32) L22 hF rfl rfl (rdc_ro h_v1) h1).q) (fun a w hF hW => ?_)
      refine ls hF hW rfl ((y_fieldAddr Try.underlying32 rfl rfl rfl T30 hF rfl (voff v1 + (x5).toNat * 5 + 2) rfl).q) (fun a w hF hW => ?_)
      refine ls hF hW rfl ((y_fieldAddr Try.underlying30 rfl rfl rfl T9 hF rfl (voff v1 + (x5).toNat * 5 + 2 + 2) rfl).q) (fun a w hF hW => ?_)
      refine ls hF hW rfl ((y_load_el (y := Value.string (bs x10.2.2.2.2)) (j := 4) (i := x5) hF rfl rfl (rdc_ro h_v1) h1 F32.to T9 rfl).q) (fun a w hF hW => ?_)
      refine ls hF hW rfl ((y_slen (l := x10.2.2.2.2) Try.underlying9 rfl hF rfl).q) (fun a w hF hW => ?_)
      refine ls hF hW rfl ((y_gtr hF rfl rfl).q) (fun a w hF hW => ?_)
      refine ls_nil ?_
      refine c_then ?_
      refine c_cond hF rfl (fun hb => ?_) (fun hb => ?_)
      ·
        have H := iteT (of_decide_eq_true hb) H
        rw [hb] at hF
        clear hb
        refine c_seq ?_
        refine reg_list ?_
        obtain ⟨x11, h2, H⟩ := bindE H
        refine ls hF hW rfl (y_call (v := Value.bool x11) hF H5 rfl (fun w hW => L34_awake_c any w _ h2)) (fun a w hF hW => ?_)
        refine ls hF hW rfl ((y_assign hF rfl).q) (fun a w hF hW => ?_)
        refine ls_nil ?_
        refine c_then ?_
        refine wp_ret ?_
        refine r_then ?_
        refine r_block ?_
        refine r_then ?_
        refine r_then ?_
        refine r_block ?_
        refine r_then ?_
        have H := L2 _ H
        have H := L1 _ H
        have H := Option.some.inj H
        subst H
        refine post1 (.inl rfl) hF hW rfl (rv_tmp hF rfl) ?_
        exact ⟨rfl, hW.done⟩
      ·
        have H := iteF (of_decide_eq_false hb) H
        rw [hb] at hF
        clear hb
        refine wp_skip ?_
        refine c_then ?_
        obtain ⟨o3, G3, K3⟩ := bindE H
        refine c_seqJ (fun a w => ∃ x12 : Bool, ∃ x13 : List (Int × Bool × List UInt8), ∃ x14 : Int, ∃ x15 : List (Int × Bool × List UInt8), ∃ x16 : Int, ∃ v7 : Value, ∃ v8 : Value, some ((x12, x13, x14, x15, x16)) = some o3 ∧ Fr 112 [] [(0, v1), (1, .int .i64 p1), (2, .bool p2), (6, .bool false), (7, .pointer (some ⟨b1, 0, none⟩)), (8, .pointer (some ⟨b2, 0, none⟩)), (9, .int .i64 x5), (81, .bool x12)] a ∧ Stw ⟨Y, [], w0⟩ [(b2, [v7, .int .i64 x14]), (b1, [v8, .int .i64 x16])] [row v7 30 R30 x13, row v8 38 R38 x15] w) ?_ ?_
        ·
          have H := G3
          clear G3 K3
          refine reg_plan [(true, 0), (true, 1), (true, 2), (true, 3), (true, 4), (true, 5), (false, 6), (true, 7), (true, 8), (true, 9), (true, 11), (true, 12), (true, 13), (true, 14), (true, 15), (false, 10), (true, 16), (true, 17), (true, 18), (true, 19), (true, 21), (true, 22), (true, 23), (true, 24), (false, 20), (true, 25), (true, 26), (true, 27), (true, 28), (true, 29), (true, 31), (true, 32), (false, 30), (false, 33), (true, 34), (true, 35), (true, 36), (true, 37), (true, 38), (true, 39), (true, 41), (true, 42), (true, 43), (false, 40), (false, 44), (true, 45), (true, 46)] (CN ⟨Y, [], w0⟩ [] []) (fun ch a d v w h => by cases d <;> exact h) MO (by kernel_rfl) hW (fun w hW => ⟨_, _, hW, all_nil, all_nil⟩) (fun w hW => ?_)
          refine pl_t (R := []) hF rfl rfl (yC fun M Z hN hZ => y_move hF rfl) rfl rfl (fun a hF => ?_)
          refine pl_t (R := []) hF rfl rfl (yC fun M Z hN hZ => y_move hF rfl) rfl rfl (fun a hF => ?_)
          refine pl_t (R := []) hF rfl rfl (yC fun M Z hN hZ => y_move hF rfl) rfl rfl (fun a hF => ?_)
          refine pl_t (R := []) hF rfl rfl (yC fun M Z hN hZ => y_move hF rfl) rfl rfl (fun a hF => ?_)
          obtain ⟨x17, h3, H⟩ := bindE H
          refine pl_t (R := []) hF rfl rfl (yC fun M Z hN hZ => y_index (r := R32) L22 hF rfl rfl (rdc_ro h_v1) h3) rfl rfl (fun a hF => ?_)
          refine pl_t (R := []) hF rfl rfl (yC fun M Z hN hZ => y_load_el (y := Value.agg #[.int .i64 x17.1, .int .i64 x17.2.1, .int .i64 x17.2.2.1, .bool x17.2.2.2.1, .string (bs x17.2.2.2.2)]) (j := 0) (i := x5) hF rfl rfl (rdc_ro h_v1) h3 F32.to T32 rfl) rfl rfl (fun a hF => ?_)
          refine pl_f rfl ?_
          obtain ⟨x18, h4, H⟩ := bindE H
          have hW := hW.frontZ (i := 1) rfl rfl
          have hW := hW.frontM (i := 1) rfl rfl
          refine l_callG (Ml := [(b1, [v6, .int .i64 x9]), (b2, [v5, .int .i64 x7])]) (Zl := [row v6 38 R38 x8, row v5 30 R30 x6]) (M := []) (Z := []) (β := Value × Value) (rv := fun x => .bool x18.1) (MM := fun x => [(b1, [x.1, .int .i64 x18.2.1.2]), (b2, [x.2, .int .i64 x18.2.2.2])]) (ZZ := fun x => [row x.1 38 R38 x18.2.1.1, row x.2 30 R30 x18.2.2.1]) hF hW H6 rfl rfl (fun hL => L34_does_c _ _ w b1 (v6) b2 (v5) (x8, x9) (x6, x7) x17 _ h4 hL) (fun x a w hF hW => ?_)
          obtain ⟨v9, v10⟩ := x
          have hW : Stw ⟨Y, [], w0⟩ [(b1, [v9, .int .i64 x18.2.1.2]), (b2, [v10, .int .i64 x18.2.2.2])] [row v9 38 R38 x18.2.1.1, row v10 30 R30 x18.2.2.1] w := hW
          refine pl_next (N2 := [(none, b2, [v10, .int .i64 x18.2.2.2])]) (NZ2 := [(none, row v10 30 R30 x18.2.2.1)]) (N3 := [(none, b2, [v10, .int .i64 x18.2.2.2])]) (NZ3 := [(none, row v10 30 R30 x18.2.2.1)]) hW rfl rfl (all_cons (fun _ => (.tail _ (.head _))) all_nil) (all_cons (fun _ => (.tail _ (.head _))) all_nil) ?_
          refine pl_t (R := []) hF rfl rfl (yC fun M Z hN hZ => y_not hF rfl) rfl rfl (fun a hF => ?_)
          refine pl_t (R := []) hF rfl rfl (yC fun M Z hN hZ => y_move hF rfl) rfl rfl (fun a hF => ?_)
          rcases Bool.eq_false_or_eq_true (!x18.1) with hb | hb
          ·
            have H := iteT hb H
            rw [hb] at hF
            clear hb
            refine pl_skip hF rfl (wanted_n hF rfl rfl rfl rfl rfl) rfl rfl rfl (fun a hF => ?_)
            refine pl_skip hF rfl (wanted_n hF rfl rfl rfl rfl rfl) rfl rfl rfl (fun a hF => ?_)
            refine pl_skip hF rfl (wanted_n hF rfl rfl rfl rfl rfl) rfl rfl rfl (fun a hF => ?_)
            refine pl_skip hF rfl (wanted_n hF rfl rfl rfl rfl rfl) rfl rfl rfl (fun a hF => ?_)
            refine pl_skip hF rfl (wanted_n hF rfl rfl rfl rfl rfl) rfl rfl rfl (fun a hF => ?_)
            refine pl_skip hF rfl (wanted_n hF rfl rfl rfl rfl rfl) rfl rfl rfl (fun a hF => ?_)
            refine pl_f rfl ?_
            refine ls_skip hF (wanted_n hF rfl rfl rfl rfl rfl) rfl rfl (fun a hF => ?_)
            refine pl_next (N2 := []) (NZ2 := []) (N3 := [(none, b2, [v10, .int .i64 x18.2.2.2])]) (NZ3 := [(none, row v10 30 R30 x18.2.2.1)]) hW rfl rfl (all_cons (fun _ => (.tail _ (.head _))) all_nil) (all_cons (fun _ => (.tail _ (.head _))) all_nil) ?_
            refine pl_skip hF rfl (wanted_n hF rfl rfl rfl rfl rfl) rfl rfl rfl (fun a hF => ?_)
            refine pl_t (R := []) hF rfl rfl (yC fun M Z hN hZ => y_pick_t hF rfl rfl rfl) rfl rfl (fun a hF => ?_)
            refine pl_t (R := []) hF rfl rfl (yC fun M Z hN hZ => y_move hF rfl) rfl rfl (fun a hF => ?_)
            refine pl_skip hF rfl (wanted_n hF rfl rfl rfl rfl rfl) rfl rfl rfl (fun a hF => ?_)
            refine pl_skip hF rfl (wanted_n hF rfl rfl rfl rfl rfl) rfl rfl rfl (fun a hF => ?_)
            refine pl_skip hF rfl (wanted_n hF rfl rfl rfl rfl rfl) rfl rfl rfl (fun a hF => ?_)
            refine pl_skip hF rfl (wanted_n hF rfl rfl rfl rfl rfl) rfl rfl rfl (fun a hF => ?_)
            refine pl_skip hF rfl (wanted_n hF rfl rfl rfl rfl rfl) rfl rfl rfl (fun a hF => ?_)
            refine pl_f rfl ?_
            refine ls_skip hF (wanted_n hF rfl rfl rfl rfl rfl) rfl rfl (fun a hF => ?_)
            refine pl_next (N2 := []) (NZ2 := []) (N3 := [(none, b2, [v10, .int .i64 x18.2.2.2])]) (NZ3 := [(none, row v10 30 R30 x18.2.2.1)]) hW rfl rfl (all_cons (fun _ => (.tail _ (.head _))) all_nil) (all_cons (fun _ => (.tail _ (.head _))) all_nil) ?_
            refine pl_skip hF rfl (wanted_n hF rfl rfl rfl rfl rfl) rfl rfl rfl (fun a hF => ?_)
            refine pl_t (R := []) hF rfl rfl (yC fun M Z hN hZ => y_pick_t hF rfl rfl rfl) rfl rfl (fun a hF => ?_)
            refine pl_t (R := []) hF rfl rfl (yC fun M Z hN hZ => y_move hF rfl) rfl rfl (fun a hF => ?_)
            refine pl_skip hF rfl (wanted_n hF rfl rfl rfl rfl rfl) rfl rfl rfl (fun a hF => ?_)
            refine pl_skip hF rfl (wanted_n hF rfl rfl rfl rfl rfl) rfl rfl rfl (fun a hF => ?_)
            refine pl_skip hF rfl (wanted_n hF rfl rfl rfl rfl rfl) rfl rfl rfl (fun a hF => ?_)
            refine pl_skip hF rfl (wanted_n hF rfl rfl rfl rfl rfl) rfl rfl rfl (fun a hF => ?_)
            refine pl_f rfl ?_
            refine ls_skip hF (wanted_n hF rfl rfl rfl rfl rfl) rfl rfl (fun a hF => ?_)
            refine pl_next (N2 := []) (NZ2 := []) (N3 := [(none, b2, [v10, .int .i64 x18.2.2.2])]) (NZ3 := [(none, row v10 30 R30 x18.2.2.1)]) hW rfl rfl (all_cons (fun _ => (.tail _ (.head _))) all_nil) (all_cons (fun _ => (.tail _ (.head _))) all_nil) ?_
            refine pl_f rfl ?_
            refine ls_skip hF (wanted_n hF rfl rfl rfl rfl rfl) rfl rfl (fun a hF => ?_)
            refine pl_next (N2 := []) (NZ2 := []) (N3 := [(none, b2, [v10, .int .i64 x18.2.2.2])]) (NZ3 := [(none, row v10 30 R30 x18.2.2.1)]) hW rfl rfl (all_cons (fun _ => (.tail _ (.head _))) all_nil) (all_cons (fun _ => (.tail _ (.head _))) all_nil) ?_
            refine pl_skip hF rfl (wanted_n hF rfl rfl rfl rfl rfl) rfl rfl rfl (fun a hF => ?_)
            refine pl_t (R := []) hF rfl rfl (yC fun M Z hN hZ => y_pick_t hF rfl rfl rfl) rfl rfl (fun a hF => ?_)
            refine pl_t (R := []) hF rfl rfl (yC fun M Z hN hZ => y_move hF rfl) rfl rfl (fun a hF => ?_)
            refine pl_skip hF rfl (wanted_n hF rfl rfl rfl rfl rfl) rfl rfl rfl (fun a hF => ?_)
            refine pl_skip hF rfl (wanted_n hF rfl rfl rfl rfl rfl) rfl rfl rfl (fun a hF => ?_)
            refine pl_skip hF rfl (wanted_n hF rfl rfl rfl rfl rfl) rfl rfl rfl (fun a hF => ?_)
            refine pl_skip hF rfl (wanted_n hF rfl rfl rfl rfl rfl) rfl rfl rfl (fun a hF => ?_)
            refine pl_skip hF rfl (wanted_n hF rfl rfl rfl rfl rfl) rfl rfl rfl (fun a hF => ?_)
            refine pl_skip hF rfl (wanted_n hF rfl rfl rfl rfl rfl) rfl rfl rfl (fun a hF => ?_)
            refine pl_f rfl ?_
            refine ls_skip hF (wanted_n hF rfl rfl rfl rfl rfl) rfl rfl (fun a hF => ?_)
            refine pl_next (N2 := []) (NZ2 := []) (N3 := [(none, b2, [v10, .int .i64 x18.2.2.2])]) (NZ3 := [(none, row v10 30 R30 x18.2.2.1)]) hW rfl rfl (all_cons (fun _ => (.tail _ (.head _))) all_nil) (all_cons (fun _ => (.tail _ (.head _))) all_nil) ?_
            refine pl_f rfl ?_
            refine ls_skip hF (wanted_n hF rfl rfl rfl rfl rfl) rfl rfl (fun a hF => ?_)
            refine pl_next (N2 := []) (NZ2 := []) (N3 := [(none, b2, [v10, .int .i64 x18.2.2.2])]) (NZ3 := [(none, row v10 30 R30 x18.2.2.1)]) hW rfl rfl (all_cons (fun _ => (.tail _ (.head _))) all_nil) (all_cons (fun _ => (.tail _ (.head _))) all_nil) ?_
            refine pl_skip hF rfl (wanted_n hF rfl rfl rfl rfl rfl) rfl rfl rfl (fun a hF => ?_)
            refine pl_t (R := []) hF rfl rfl (yC fun M Z hN hZ => y_pick_t hF rfl rfl rfl) rfl rfl (fun a hF => ?_)
            refine pl_end ?_
            refine c_then ?_
            have hW := hW.frontZ (i := 1) rfl rfl
            have hW := hW.frontM (i := 1) rfl rfl
            exact ⟨_, _, _, _, _, (v10), (v9), H, hF.re ⟨rfl, rfl, rfl, rfl, rfl, rfl, rfl, rfl, trivial⟩, hW⟩
          ·
            have H := iteF (by rw [hb]; decide) H
            rw [hb] at hF
            clear hb
            refine pl_w (R := []) hF rfl (wanted_y hF rfl rfl rfl rfl) rfl rfl (yC fun M Z hN hZ => y_move hF rfl) rfl rfl (fun a hF => ?_)
            refine pl_w (R := []) hF rfl (wanted_y hF rfl rfl rfl rfl) rfl rfl (yC fun M Z hN hZ => y_move hF rfl) rfl rfl (fun a hF => ?_)
            refine pl_w (R := []) hF rfl (wanted_y hF rfl rfl rfl rfl) rfl rfl (yC fun M Z hN hZ => y_nilCheck hF rfl) rfl rfl (fun a hF => ?_)
            refine pl_w (R := []) hF rfl (wanted_y hF rfl rfl rfl rfl) rfl rfl (yC fun M Z hN hZ => y_fieldAddr Try.underlying28 rfl rfl rfl T26 hF rfl 0 rfl) rfl rfl (fun a hF => ?_)
            refine pl_w (R := []) hF rfl (wanted_y hF rfl rfl rfl rfl) rfl rfl (yC fun M Z hN hZ => y_load_m (cs := [v10, .int .i64 x18.2.2.2]) (v := v10) hF rfl (hN (none, b2, [v10, .int .i64 x18.2.2.2]) (.head _) rfl) T26 rfl) rfl rfl (fun a hF => ?_)
            refine pl_w (R := []) hF rfl (wanted_y hF rfl rfl rfl rfl) rfl rfl (yC fun M Z hN hZ => y_len (r := R30) (l := x18.2.2.1) Try.underlying26 rfl hF rfl (rdc_mrow (hZ (none, row v10 30 R30 x18.2.2.1) (.head _) rfl))) rfl rfl (fun a hF => ?_)
            refine pl_f rfl ?_
            refine ls_g (wanted_y hF rfl rfl rfl rfl) ?_
            obtain ⟨x19, h5, H⟩ := bindE H
            refine ls hF hW rfl (y_call (v := Value.int .i64 x19) hF H7 rfl (fun w hW => channel_Channel_Len_c any w b1 (v9) x18.2.1 _ h5 (((rdc_row 0 rfl) : Rdc _ _ _ _ _ _) w hW).nx (at_M hW 0 rfl))) (fun a w hF hW => ?_)
            refine pl_next (N2 := []) (NZ2 := []) (N3 := [(none, b2, [v10, .int .i64 x18.2.2.2])]) (NZ3 := [(none, row v10 30 R30 x18.2.2.1)]) hW rfl rfl (all_cons (fun _ => (.tail _ (.head _))) all_nil) (all_cons (fun _ => (.tail _ (.head _))) all_nil) ?_
            refine pl_w (R := []) hF rfl (wanted_y hF rfl rfl rfl rfl) rfl rfl (yC fun M Z hN hZ => y_neq hF rfl rfl) rfl rfl (fun a hF => ?_)
            refine pl_t (R := []) hF rfl rfl (yC fun M Z hN hZ => y_pick_f hF rfl rfl rfl) rfl rfl (fun a hF => ?_)
            refine pl_t (R := []) hF rfl rfl (yC fun M Z hN hZ => y_move hF rfl) rfl rfl (fun a hF => ?_)
            rcases Bool.eq_false_or_eq_true (decide (x19 ≠ (x18.2.2.1.length : Int))) with hb | hb
            ·
              have H := iteT (of_decide_eq_true hb) H
              rw [hb] at hF
              clear hb
              refine pl_skip hF rfl (wanted_n hF rfl rfl rfl rfl rfl) rfl rfl rfl (fun a hF => ?_)
              refine pl_skip hF rfl (wanted_n hF rfl rfl rfl rfl rfl) rfl rfl rfl (fun a hF => ?_)
              refine pl_skip hF rfl (wanted_n hF rfl rfl rfl rfl rfl) rfl rfl rfl (fun a hF => ?_)
              refine pl_skip hF rfl (wanted_n hF rfl rfl rfl rfl rfl) rfl rfl rfl (fun a hF => ?_)
              refine pl_skip hF rfl (wanted_n hF rfl rfl rfl rfl rfl) rfl rfl rfl (fun a hF => ?_)
              refine pl_f rfl ?_
              refine ls_skip hF (wanted_n hF rfl rfl rfl rfl rfl) rfl rfl (fun a hF => ?_)
              refine pl_next (N2 := []) (NZ2 := []) (N3 := [(none, b2, [v10, .int .i64 x18.2.2.2])]) (NZ3 := [(none, row v10 30 R30 x18.2.2.1)]) hW rfl rfl (all_cons (fun _ => (.tail _ (.head _))) all_nil) (all_cons (fun _ => (.tail _ (.head _))) all_nil) ?_
              refine pl_skip hF rfl (wanted_n hF rfl rfl rfl rfl rfl) rfl rfl rfl (fun a hF => ?_)
              refine pl_t (R := []) hF rfl rfl (yC fun M Z hN hZ => y_pick_t hF rfl rfl rfl) rfl rfl (fun a hF => ?_)
              refine pl_t (R := []) hF rfl rfl (yC fun M Z hN hZ => y_move hF rfl) rfl rfl (fun a hF => ?_)
              refine pl_skip hF rfl (wanted_n hF rfl rfl rfl rfl rfl) rfl rfl rfl (fun a hF => ?_)
              refine pl_skip hF rfl (wanted_n hF rfl rfl rfl rfl rfl) rfl rfl rfl (fun a hF => ?_)
              refine pl_skip hF rfl (wanted_n hF rfl rfl rfl rfl rfl) rfl rfl rfl (fun a hF => ?_)
              refine pl_skip hF rfl (wanted_n hF rfl rfl rfl rfl rfl) rfl rfl rfl (fun a hF => ?_)
              refine pl_f rfl ?_
              refine ls_skip hF (wanted_n hF rfl rfl rfl rfl rfl) rfl rfl (fun a hF => ?_)
              refine pl_next (N2 := []) (NZ2 := []) (N3 := [(none, b2, [v10, .int .i64 x18.2.2.2])]) (NZ3 := [(none, row v10 30 R30 x18.2.2.1)]) hW rfl rfl (all_cons (fun _ => (.tail _ (.head _))) all_nil) (all_cons (fun _ => (.tail _ (.head _))) all_nil) ?_
              refine pl_f rfl ?_
              refine ls_skip hF (wanted_n hF rfl rfl rfl rfl rfl) rfl rfl (fun a hF => ?_)
              refine pl_next (N2 := []) (NZ2 := []) (N3 := [(none, b2, [v10, .int .i64 x18.2.2.2])]) (NZ3 := [(none, row v10 30 R30 x18.2.2.1)]) hW rfl rfl (all_cons (fun _ => (.tail _ (.head _))) all_nil) (all_cons (fun _ => (.tail _ (.head _))) all_nil) ?_
              refine pl_skip hF rfl (wanted_n hF rfl rfl rfl rfl rfl) rfl rfl rfl (fun a hF => ?_)
              refine pl_t (R := []) hF rfl rfl (yC fun M Z hN hZ => y_pick_t hF rfl rfl rfl) rfl rfl (fun a hF => ?_)
              refine pl_t (R := []) hF rfl rfl (yC fun M Z hN hZ => y_move hF rfl) rfl rfl (fun a hF => ?_)
              refine pl_skip hF rfl (wanted_n hF rfl rfl rfl rfl rfl) rfl rfl rfl (fun a hF => ?_)
              refine pl_skip hF rfl (wanted_n hF rfl rfl rfl rfl rfl) rfl rfl rfl (fun a hF => ?_)
              refine pl_skip hF rfl (wanted_n hF rfl rfl rfl rfl rfl) rfl rfl rfl (fun a hF => ?_)
              refine pl_skip hF rfl (wanted_n hF rfl rfl rfl rfl rfl) rfl rfl rfl (fun a hF => ?_)
              refine pl_skip hF rfl (wanted_n hF rfl rfl rfl rfl rfl) rfl rfl rfl (fun a hF => ?_)
              refine pl_skip hF rfl (wanted_n hF rfl rfl rfl rfl rfl) rfl rfl rfl (fun a hF => ?_)
              refine pl_f rfl ?_
              refine ls_skip hF (wanted_n hF rfl rfl rfl rfl rfl) rfl rfl (fun a hF => ?_)
              refine pl_next (N2 := []) (NZ2 := []) (N3 := [(none, b2, [v10, .int .i64 x18.2.2.2])]) (NZ3 := [(none, row v10 30 R30 x18.2.2.1)]) hW rfl rfl (all_cons (fun _ => (.tail _ (.head _))) all_nil) (all_cons (fun _ => (.tail _ (.head _))) all_nil) ?_
              refine pl_f rfl ?_
              refine ls_skip hF (wanted_n hF rfl rfl rfl rfl rfl) rfl rfl (fun a hF => ?_)
              refine pl_next (N2 := []) (NZ2 := []) (N3 := [(none, b2, [v10, .int .i64 x18.2.2.2])]) (NZ3 := [(none, row v10 30 R30 x18.2.2.1)]) hW rfl rfl (all_cons (fun _ => (.tail _ (.head _))) all_nil) (all_cons (fun _ => (.tail _ (.head _))) all_nil) ?_
              refine pl_skip hF rfl (wanted_n hF rfl rfl rfl rfl rfl) rfl rfl rfl (fun a hF => ?_)
              refine pl_t (R := []) hF rfl rfl (yC fun M Z hN hZ => y_pick_t hF rfl rfl rfl) rfl rfl (fun a hF => ?_)
              refine pl_end ?_
              refine c_then ?_
              have hW := hW.frontZ (i := 1) rfl rfl
              have hW := hW.frontM (i := 1) rfl rfl
              exact ⟨_, _, _, _, _, (v10), (v9), H, hF.re ⟨rfl, rfl, rfl, rfl, rfl, rfl, rfl, rfl, trivial⟩, hW⟩
            ·
              have H := iteF (of_decide_eq_false hb) H
              rw [hb] at hF
              clear hb
              refine pl_w (R := []) hF rfl (wanted_y hF rfl rfl rfl rfl) rfl rfl (yC fun M Z hN hZ => y_move hF rfl) rfl rfl (fun a hF => ?_)
              refine pl_w (R := []) hF rfl (wanted_y hF rfl rfl rfl rfl) rfl rfl (yC fun M Z hN hZ => y_move hF rfl) rfl rfl (fun a hF => ?_)
              refine pl_w (R := []) hF rfl (wanted_y hF rfl rfl rfl rfl) rfl rfl (yC fun M Z hN hZ => y_nilCheck hF rfl) rfl rfl (fun a hF => ?_)
              refine pl_w (R := []) hF rfl (wanted_y hF rfl rfl rfl rfl) rfl rfl (yC fun M Z hN hZ => y_fieldAddr Try.underlying28 rfl rfl rfl T3 hF rfl 1 rfl) rfl rfl (fun a hF => ?_)
              refine pl_w (R := []) hF rfl (wanted_y hF rfl rfl rfl rfl) rfl rfl (yC fun M Z hN hZ => y_load_m (cs := [v10, .int .i64 x18.2.2.2]) (v := Value.int .i64 x18.2.2.2) hF rfl (hN (none, b2, [v10, .int .i64 x18.2.2.2]) (.head _) rfl) T3 rfl) rfl rfl (fun a hF => ?_)
              refine pl_f rfl ?_
              refine ls_g (wanted_y hF rfl rfl rfl rfl) ?_
              refine ls hF hW rfl (y_call (v := Value.int .i64 (channel_Channel_Lost x18.2.1)) hF H8 rfl (fun w hW => channel_Channel_Lost_c any w b1 (v9) x18.2.1 _ rfl (((rdc_row 0 rfl) : Rdc _ _ _ _ _ _) w hW).nx (at_M hW 0 rfl))) (fun a w hF hW => ?_)
              refine pl_next (N2 := []) (NZ2 := []) (N3 := [(none, b2, [v10, .int .i64 x18.2.2.2])]) (NZ3 := [(none, row v10 30 R30 x18.2.2.1)]) hW rfl rfl (all_cons (fun _ => (.tail _ (.head _))) all_nil) (all_cons (fun _ => (.tail _ (.head _))) all_nil) ?_
              refine pl_w (R := []) hF rfl (wanted_y hF rfl rfl rfl rfl) rfl rfl (yC fun M Z hN hZ => y_neq hF rfl rfl) rfl rfl (fun a hF => ?_)
              refine pl_t (R := []) hF rfl rfl (yC fun M Z hN hZ => y_pick_f hF rfl rfl rfl) rfl rfl (fun a hF => ?_)
              refine pl_t (R := []) hF rfl rfl (yC fun M Z hN hZ => y_move hF rfl) rfl rfl (fun a hF => ?_)
              rcases Bool.eq_false_or_eq_true (decide ((channel_Channel_Lost x18.2.1) ≠ x18.2.2.2)) with hb | hb
              ·
                have H := iteT (of_decide_eq_true hb) H
                rw [hb] at hF
                clear hb
                refine pl_skip hF rfl (wanted_n hF rfl rfl rfl rfl rfl) rfl rfl rfl (fun a hF => ?_)
                refine pl_skip hF rfl (wanted_n hF rfl rfl rfl rfl rfl) rfl rfl rfl (fun a hF => ?_)
                refine pl_skip hF rfl (wanted_n hF rfl rfl rfl rfl rfl) rfl rfl rfl (fun a hF => ?_)
                refine pl_skip hF rfl (wanted_n hF rfl rfl rfl rfl rfl) rfl rfl rfl (fun a hF => ?_)
                refine pl_f rfl ?_
                refine ls_skip hF (wanted_n hF rfl rfl rfl rfl rfl) rfl rfl (fun a hF => ?_)
                refine pl_next (N2 := []) (NZ2 := []) (N3 := [(none, b2, [v10, .int .i64 x18.2.2.2])]) (NZ3 := [(none, row v10 30 R30 x18.2.2.1)]) hW rfl rfl (all_cons (fun _ => (.tail _ (.head _))) all_nil) (all_cons (fun _ => (.tail _ (.head _))) all_nil) ?_
                refine pl_f rfl ?_
                refine ls_skip hF (wanted_n hF rfl rfl rfl rfl rfl) rfl rfl (fun a hF => ?_)
                refine pl_next (N2 := []) (NZ2 := []) (N3 := [(none, b2, [v10, .int .i64 x18.2.2.2])]) (NZ3 := [(none, row v10 30 R30 x18.2.2.1)]) hW rfl rfl (all_cons (fun _ => (.tail _ (.head _))) all_nil) (all_cons (fun _ => (.tail _ (.head _))) all_nil) ?_
                refine pl_skip hF rfl (wanted_n hF rfl rfl rfl rfl rfl) rfl rfl rfl (fun a hF => ?_)
                refine pl_t (R := []) hF rfl rfl (yC fun M Z hN hZ => y_pick_t hF rfl rfl rfl) rfl rfl (fun a hF => ?_)
                refine pl_t (R := []) hF rfl rfl (yC fun M Z hN hZ => y_move hF rfl) rfl rfl (fun a hF => ?_)
                refine pl_skip hF rfl (wanted_n hF rfl rfl rfl rfl rfl) rfl rfl rfl (fun a hF => ?_)
                refine pl_skip hF rfl (wanted_n hF rfl rfl rfl rfl rfl) rfl rfl rfl (fun a hF => ?_)
                refine pl_skip hF rfl (wanted_n hF rfl rfl rfl rfl rfl) rfl rfl rfl (fun a hF => ?_)
                refine pl_skip hF rfl (wanted_n hF rfl rfl rfl rfl rfl) rfl rfl rfl (fun a hF => ?_)
                refine pl_skip hF rfl (wanted_n hF rfl rfl rfl rfl rfl) rfl rfl rfl (fun a hF => ?_)
                refine pl_skip hF rfl (wanted_n hF rfl rfl rfl rfl rfl) rfl rfl rfl (fun a hF => ?_)
                refine pl_f rfl ?_
                refine ls_skip hF (wanted_n hF rfl rfl rfl rfl rfl) rfl rfl (fun a hF => ?_)
                refine pl_next (N2 := []) (NZ2 := []) (N3 := [(none, b2, [v10, .int .i64 x18.2.2.2])]) (NZ3 := [(none, row v10 30 R30 x18.2.2.1)]) hW rfl rfl (all_cons (fun _ => (.tail _ (.head _))) all_nil) (all_cons (fun _ => (.tail _ (.head _))) all_nil) ?_
                refine pl_f rfl ?_
                refine ls_skip hF (wanted_n hF rfl rfl rfl rfl rfl) rfl rfl (fun a hF => ?_)
                refine pl_next (N2 := []) (NZ2 := []) (N3 := [(none, b2, [v10, .int .i64 x18.2.2.2])]) (NZ3 := [(none, row v10 30 R30 x18.2.2.1)]) hW rfl rfl (all_cons (fun _ => (.tail _ (.head _))) all_nil) (all_cons (fun _ => (.tail _ (.head _))) all_nil) ?_
                refine pl_skip hF rfl (wanted_n hF rfl rfl rfl rfl rfl) rfl rfl rfl (fun a hF => ?_)
                refine pl_t (R := []) hF rfl rfl (yC fun M Z hN hZ => y_pick_t hF rfl rfl rfl) rfl rfl (fun a hF => ?_)
                refine pl_end ?_
                refine c_then ?_
                have hW := hW.frontZ (i := 1) rfl rfl
                have hW := hW.frontM (i := 1) rfl rfl
                exact ⟨_, _, _, _, _, (v10), (v9), H, hF.re ⟨rfl, rfl, rfl, rfl, rfl, rfl, rfl, rfl, trivial⟩, hW⟩
              ·
                have H := iteF (of_decide_eq_false hb) H
                rw [hb] at hF
                clear hb
                refine pl_w (R := []) hF rfl (wanted_y hF rfl rfl rfl rfl) rfl rfl (yC fun M Z hN hZ => y_move hF rfl) rfl rfl (fun a hF => ?_)
                refine pl_w (R := []) hF rfl (wanted_y hF rfl rfl rfl rfl) rfl rfl (yC fun M Z hN hZ => y_move hF rfl) rfl rfl (fun a hF => ?_)
                refine pl_w (R := []) hF rfl (wanted_y hF rfl rfl rfl rfl) rfl rfl (yC fun M Z hN hZ => y_move hF rfl) rfl rfl (fun a hF => ?_)
                refine pl_w (R := []) hF rfl (wanted_y hF rfl rfl rfl rfl) rfl rfl (yC fun M Z hN hZ => y_move hF rfl) rfl rfl (fun a hF => ?_)
                refine pl_f rfl ?_
                refine ls_g (wanted_y hF rfl rfl rfl rfl) ?_
                obtain ⟨x20, h6, H⟩ := bindE H
                refine ls hF hW rfl (y_call (v := Value.int .i64 x20) hF H9 rfl (fun w hW => channel_Channel_Of_c any w b1 (v9) x18.2.1 p1 _ h6 (((rdc_row 0 rfl) : Rdc _ _ _ _ _ _) w hW).nx (at_M hW 0 rfl))) (fun a w hF hW => ?_)
                refine pl_next (N2 := []) (NZ2 := []) (N3 := [(none, b2, [v10, .int .i64 x18.2.2.2])]) (NZ3 := [(none, row v10 30 R30 x18.2.2.1)]) hW rfl rfl (all_cons (fun _ => (.tail _ (.head _))) all_nil) (all_cons (fun _ => (.tail _ (.head _))) all_nil) ?_
                refine pl_f rfl ?_
                refine ls_g (wanted_y hF rfl rfl rfl rfl) ?_
                obtain ⟨x21, h7, H⟩ := bindE H
                refine ls hF hW rfl (y_call (v := Value.int .i64 x21) hF H10 rfl (fun w hW => r34_Channel_Of_c any w b2 (v10) x18.2.2 p1 _ h7 (((rdc_row 1 rfl) : Rdc _ _ _ _ _ _) w hW).nx (at_M hW 1 rfl))) (fun a w hF hW => ?_)
                refine pl_next (N2 := []) (NZ2 := []) (N3 := [(none, b2, [v10, .int .i64 x18.2.2.2])]) (NZ3 := [(none, row v10 30 R30 x18.2.2.1)]) hW rfl rfl (all_cons (fun _ => (.tail _ (.head _))) all_nil) (all_cons (fun _ => (.tail _ (.head _))) all_nil) ?_
                refine pl_w (R := []) hF rfl (wanted_y hF rfl rfl rfl rfl) rfl rfl (yC fun M Z hN hZ => y_neq hF rfl rfl) rfl rfl (fun a hF => ?_)
                refine pl_t (R := []) hF rfl rfl (yC fun M Z hN hZ => y_pick_f hF rfl rfl rfl) rfl rfl (fun a hF => ?_)
                refine pl_t (R := []) hF rfl rfl (yC fun M Z hN hZ => y_move hF rfl) rfl rfl (fun a hF => ?_)
                rcases Bool.eq_false_or_eq_true (decide (x20 ≠ x21)) with hb | hb
                ·
                  have H := iteT (of_decide_eq_true hb) H
                  rw [hb] at hF
                  clear hb
                  refine pl_skip hF rfl (wanted_n hF rfl rfl rfl rfl rfl) rfl rfl rfl (fun a hF => ?_)
                  refine pl_skip hF rfl (wanted_n hF rfl rfl rfl rfl rfl) rfl rfl rfl (fun a hF => ?_)
                  refine pl_skip hF rfl (wanted_n hF rfl rfl rfl rfl rfl) rfl rfl rfl (fun a hF => ?_)
                  refine pl_skip hF rfl (wanted_n hF rfl rfl rfl rfl rfl) rfl rfl rfl (fun a hF => ?_)
                  refine pl_skip hF rfl (wanted_n hF rfl rfl rfl rfl rfl) rfl rfl rfl (fun a hF => ?_)
                  refine pl_skip hF rfl (wanted_n hF rfl rfl rfl rfl rfl) rfl rfl rfl (fun a hF => ?_)
                  refine pl_f rfl ?_
                  refine ls_skip hF (wanted_n hF rfl rfl rfl rfl rfl) rfl rfl (fun a hF => ?_)
                  refine pl_next (N2 := []) (NZ2 := []) (N3 := [(none, b2, [v10, .int .i64 x18.2.2.2])]) (NZ3 := [(none, row v10 30 R30 x18.2.2.1)]) hW rfl rfl (all_cons (fun _ => (.tail _ (.head _))) all_nil) (all_cons (fun _ => (.tail _ (.head _))) all_nil) ?_
                  refine pl_f rfl ?_
                  refine ls_skip hF (wanted_n hF rfl rfl rfl rfl rfl) rfl rfl (fun a hF => ?_)
                  refine pl_next (N2 := []) (NZ2 := []) (N3 := [(none, b2, [v10, .int .i64 x18.2.2.2])]) (NZ3 := [(none, row v10 30 R30 x18.2.2.1)]) hW rfl rfl (all_cons (fun _ => (.tail _ (.head _))) all_nil) (all_cons (fun _ => (.tail _ (.head _))) all_nil) ?_
                  refine pl_skip hF rfl (wanted_n hF rfl rfl rfl rfl rfl) rfl rfl rfl (fun a hF => ?_)
                  refine pl_t (R := []) hF rfl rfl (yC fun M Z hN hZ => y_pick_t hF rfl rfl rfl) rfl rfl (fun a hF => ?_)
                  refine pl_end ?_
                  refine c_then ?_
                  have hW := hW.frontZ (i := 1) rfl rfl
                  have hW := hW.frontM (i := 1) rfl rfl
                  exact ⟨_, _, _, _, _, (v10), (v9), H, hF.re ⟨rfl, rfl, rfl, rfl, rfl, rfl, rfl, rfl, trivial⟩, hW⟩
                ·
                  have H := iteF (of_decide_eq_false hb) H
                  rw [hb] at hF
                  clear hb
                  refine pl_w (R := []) hF rfl (wanted_y hF rfl rfl rfl rfl) rfl rfl (yC fun M Z hN hZ => y_move hF rfl) rfl rfl (fun a hF => ?_)
                  refine pl_w (R := []) hF rfl (wanted_y hF rfl rfl rfl rfl) rfl rfl (yC fun M Z hN hZ => y_move hF rfl) rfl rfl (fun a hF => ?_)
                  refine pl_w (R := []) hF rfl (wanted_y hF rfl rfl rfl rfl) rfl rfl (yC fun M Z hN hZ => y_move hF rfl) rfl rfl (fun a hF => ?_)
                  refine pl_w (R := []) hF rfl (wanted_y hF rfl rfl rfl rfl) rfl rfl (yC fun M Z hN hZ => y_move hF rfl) rfl rfl (fun a hF => ?_)
                  refine pl_w (R := []) hF rfl (wanted_y hF rfl rfl rfl rfl) rfl rfl (yC fun M Z hN hZ => y_move hF rfl) rfl rfl (fun a hF => ?_)
                  refine pl_w (R := []) hF rfl (wanted_y hF rfl rfl rfl rfl) rfl rfl (yC fun M Z hN hZ => y_move hF rfl) rfl rfl (fun a hF => ?_)
                  refine pl_f rfl ?_
                  refine ls_g (wanted_y hF rfl rfl rfl rfl) ?_
                  obtain ⟨x22, h8, H⟩ := bindE H
                  refine ls hF hW rfl (y_call (v := Value.int .i64 x22) hF H11 rfl (fun w hW => channel_Channel_Next_c any w b1 (v9) x18.2.1 p1 p2 _ h8 (((rdc_row 0 rfl) : Rdc _ _ _ _ _ _) w hW).nx (at_M hW 0 rfl))) (fun a w hF hW => ?_)
                  refine pl_next (N2 := []) (NZ2 := []) (N3 := [(none, b2, [v10, .int .i64 x18.2.2.2])]) (NZ3 := [(none, row v10 30 R30 x18.2.2.1)]) hW rfl rfl (all_cons (fun _ => (.tail _ (.head _))) all_nil) (all_cons (fun _ => (.tail _ (.head _))) all_nil) ?_
                  refine pl_f rfl ?_
                  refine ls_g (wanted_y hF rfl rfl rfl rfl) ?_
                  obtain ⟨x23, h9, H⟩ := bindE H
                  refine ls hF hW rfl (y_call (v := Value.int .i64 x23) hF H12 rfl (fun w hW => r34_Channel_Next_c any w b2 (v10) x18.2.2 p1 p2 _ h9 (((rdc_row 1 rfl) : Rdc _ _ _ _ _ _) w hW).nx (at_M hW 1 rfl))) (fun a w hF hW => ?_)
                  refine pl_next (N2 := []) (NZ2 := []) (N3 := [(none, b2, [v10, .int .i64 x18.2.2.2])]) (NZ3 := [(none, row v10 30 R30 x18.2.2.1)]) hW rfl rfl (all_cons (fun _ => (.tail _ (.head _))) all_nil) (all_cons (fun _ => (.tail _ (.head _))) all_nil) ?_
                  refine pl_w (R := []) hF rfl (wanted_y hF rfl rfl rfl rfl) rfl rfl (yC fun M Z hN hZ => y_neq hF rfl rfl) rfl rfl (fun a hF => ?_)
                  refine pl_t (R := []) hF rfl rfl (yC fun M Z hN hZ => y_pick_f hF rfl rfl rfl) rfl rfl (fun a hF => ?_)
                  refine pl_end ?_
                  refine c_then ?_
                  have hW := hW.frontZ (i := 1) rfl rfl
                  have hW := hW.frontM (i := 1) rfl rfl
                  exact ⟨_, _, _, _, _, (v10), (v9), H, hF.re ⟨rfl, rfl, rfl, rfl, rfl, rfl, rfl, rfl, trivial⟩, hW⟩
        rintro a w ⟨x12, x13, x14, x15, x16, v7, v8, hj, hF, hW⟩
        have hj := Option.some.inj hj
        subst hj
        have H := K3
        clear G3 K3
        refine c_cond hF rfl (fun hb => ?_) (fun hb => ?_)
        ·
          have H := iteT hb H
          rw [hb] at hF
          clear hb
          refine c_seq ?_
          refine reg_list ?_
          refine ls hF hW rfl ((y_assign hF rfl).q) (fun a w hF hW => ?_)
          refine ls_nil ?_
          refine c_then ?_
          refine wp_ret ?_
          refine r_block ?_
          refine r_then ?_
          refine r_then ?_
          refine r_block ?_
          refine r_then ?_
          have H := L2 _ H
          have H := L1 _ H
          have H := Option.some.inj H
          subst H
          refine post1 (.inl rfl) hF hW rfl (rv_tmp hF rfl) ?_
          exact ⟨rfl, hW.done⟩
        ·
          have H := iteF (by rw [hb]; decide) H
          rw [hb] at hF
          clear hb
          refine wp_skip ?_
          refine b_normal ?_
          refine c_then ?_
          refine reg_list ?_
          refine ls hF hW rfl ((y_move hF rfl).q) (fun a w hF hW => ?_)
          refine ls hF hW rfl ((y_add hF rfl rfl rfl).q) (fun a w hF hW => ?_)
          refine ls hF hW rfl ((y_assign hF rfl).q) (fun a w hF hW => ?_)
          refine ls_nil ?_
          refine c_then ?_
          have hW := hW.frontZ (i := 1) rfl rfl
          have hW := hW.frontZ (i := 1) rfl rfl
          have hW := hW.frontM (i := 1) rfl rfl
          have hW := hW.frontM (i := 1) rfl rfl
          exact ⟨_, H, (v7), (v8), hF.re ⟨rfl, rfl, rfl, rfl, rfl, rfl, rfl, trivial⟩, hW⟩
    ·
      have H := iteF (by rw [hb]; decide) H
      rw [hb] at hF
      clear hb
      refine wp_exit ?_
      refine e_then ?_
      refine e_then ?_
      refine e_block ?_
      refine c_then ?_
      have hW := hW.frontZ (i := 1) rfl rfl
      have hW := hW.frontZ (i := 1) rfl rfl
      have hW := hW.frontM (i := 1) rfl rfl
      have hW := hW.frontM (i := 1) rfl rfl
      have H := L2 _ H
      exact ⟨_, _, _, _, (v5), (v6), H, hF.re ⟨rfl, rfl, rfl, trivial⟩, hW⟩
  rintro a w ⟨x1, x2, x3, x4, v3, v4, hj, hF, hW⟩
  have H := K1 _ hj
  clear hj G1 K1 L1
  obtain ⟨o4, G4, K4, L4⟩ := orE H
  refine c_seqJ (fun a w => some (Sum.inl ()) = some o4 ∧ Fr 112 [] [(6, .bool false)] a ∧ Stw ⟨Y, [], w0⟩ [(b2, [v3, .int .i64 x2]), (b1, [v4, .int .i64 x4])] [row v3 30 R30 x1, row v4 38 R38 x3] w) ?_ ?_
  ·
    have H := G4
    clear G4 K4
    refine c_seq ?_
    refine reg_list ?_
    refine ls hF hW rfl ((y_assign hF rfl).q) (fun a w hF hW => ?_)
    refine ls_nil ?_
    refine c_then ?_
    refine wp_block ?_
    have hW := hW.frontZ (i := 1) rfl rfl
    have hW := hW.frontZ (i := 1) rfl rfl
    have hW := hW.frontM (i := 1) rfl rfl
    have hW := hW.frontM (i := 1) rfl rfl
    refine c_loopW H (fun s a w => Fr 112 [] [(6, .bool false), (7, .pointer (some ⟨b1, 0, none⟩)), (8, .pointer (some ⟨b2, 0, none⟩)), (10, .int .i64 s)] a ∧ Stw ⟨Y, [], w0⟩ [(b2, [v3, .int .i64 x2]), (b1, [v4, .int .i64 x4])] [row v3 30 R30 x1, row v4 38 R38 x3] w) ⟨hF.re ⟨rfl, rfl, rfl, rfl, trivial⟩, hW⟩ (fun s o a w H L5 hR => ?_)
    obtain ⟨x24, rfl⟩ : ∃ x, x = s := ⟨s, rfl⟩
    obtain ⟨hF, hW⟩ := hR
    have hF : Fr 112 [] [(6, .bool false), (7, .pointer (some ⟨b1, 0, none⟩)), (8, .pointer (some ⟨b2, 0, none⟩)), (10, .int .i64 x24)] a := hF
    have hW : Stw ⟨Y, [], w0⟩ [(b2, [v3, .int .i64 x2]), (b1, [v4, .int .i64 x4])] [row v3 30 R30 x1, row v4 38 R38 x3] w := hW
    rw [L34_ChannelPlays_l2] at H
    refine c_seq ?_
    refine c_seq ?_
    refine reg_list ?_
    refine ls hF hW rfl ((y_move hF rfl).q) (fun a w hF hW => ?_)
    refine ls hF hW rfl ((y_move hF rfl).q) (fun a w hF hW => ?_)
    refine ls hF hW rfl ((y_nilCheck hF rfl).q) (fun a w hF hW => ?_)
    refine ls hF hW rfl ((y_fieldAddr Try.underlying28 rfl rfl rfl T26 hF rfl 0 rfl).q) (fun a w hF hW => ?_)
    refine ls hF hW rfl ((y_load (v := v3) 0 hF rfl rfl T26 rfl).q) (fun a w hF hW => ?_)
    refine ls hF hW rfl ((y_len (r := R30) (l := x1) Try.underlying26 rfl hF rfl (rdc_row 0 rfl)).q) (fun a w hF hW => ?_)
    refine ls hF hW rfl ((y_lss hF rfl rfl).q) (fun a w hF hW => ?_)
    refine ls_nil ?_
    refine c_then ?_
    refine c_cond hF rfl (fun hb => ?_) (fun hb => ?_)
    ·
      have H := iteT (of_decide_eq_true hb) H
      rw [hb] at hF
      clear hb
      refine wp_skip ?_
      refine c_then ?_
      refine c_seq ?_
      refine wp_block ?_
      refine c_seq ?_
      refine reg_list ?_
      refine ls hF hW rfl ((y_move hF rfl).q) (fun a w hF hW => ?_)
      refine ls hF hW rfl ((y_move hF rfl).q) (fun a w hF hW => ?_)
      obtain ⟨x25, h10, H⟩ := bindE H
      refine ls hF hW rfl (y_call (v := Value.tuple #[.agg #[.int .i64 x25.1.1, .bool x25.1.2.1, .string (bs x25.1.2.2)], .int .i64 x25.2]) hF H13 rfl (fun w hW => channel_Channel_Look_c any w b1 (v4) (x3, x4) x24 _ h10 (((rdc_row 1 rfl) : Rdc _ _ _ _ _ _) w hW).nx (at_M hW 1 rfl))) (fun a w hF hW => ?_)
      refine ls hF hW rfl ((y_move hF rfl).q) (fun a w hF hW => ?_)
      refine ls hF hW rfl ((y_extract (v := Value.agg #[.int .i64 x25.1.1, .bool x25.1.2.1, .string (bs x25.1.2.2)]) hF rfl rfl).q) (fun a w hF hW => ?_)
      refine ls hF hW rfl ((y_extract (v := Value.int .i64 x25.2) hF rfl rfl).q) (fun a w hF hW => ?_)
      refine l_alloc (cs := [.int .i64 0, .bool false, .string (bs ([] : List UInt8))]) hF hW rfl Z38 rfl (fun b3 a w hF hW => ?_)
      refine l_store (vs := [.int .i64 x25.1.1, .bool x25.1.2.1, .string (bs x25.1.2.2)]) (M' := [(b3, [.int .i64 x25.1.1, .bool x25.1.2.1, .string (bs x25.1.2.2)]), (b2, [v3, .int .i64 x2]), (b1, [v4, .int .i64 x4])]) 0 hF hW rfl rfl rfl T38 rfl rfl rfl rfl rfl (fun w hW => ?_)
      refine ls hF hW rfl ((y_assign hF rfl).q) (fun a w hF hW => ?_)
      refine ls_nil ?_
      refine c_then ?_
      obtain ⟨o6, G6, K6⟩ := bindE H
      refine c_seqJ (fun a w => ∃ x26 : Bool, some (x26) = some o6 ∧ Fr 112 [] [(6, .bool false), (7, .pointer (some ⟨b1, 0, none⟩)), (8, .pointer (some ⟨b2, 0, none⟩)), (10, .int .i64 x24), (110, .bool x26)] a ∧ Stw ⟨Y, [], w0⟩ [(b3, [.int .i64 x25.1.1, .bool x25.1.2.1, .string (bs x25.1.2.2)]), (b2, [v3, .int .i64 x2]), (b1, [v4, .int .i64 x4])] [row v3 30 R30 x1, row v4 38 R38 x3] w) ?_ ?_
      ·
        have H := G6
        clear G6 K6
        refine reg_quiet hW MO (by kernel_rfl) ?_
        refine qs hF rfl ((y_move hF rfl).q) (fun a hF => ?_)
        refine qs hF rfl ((y_neq hF rfl rfl).q) (fun a hF => ?_)
        refine qs hF rfl ((y_move hF rfl).q) (fun a hF => ?_)
        rcases Bool.eq_false_or_eq_true (decide (x25.2 ≠ 0)) with hb | hb
        ·
          have H := iteT (of_decide_eq_true hb) H
          rw [hb] at hF
          clear hb
          refine qs_skip hF (wanted_n hF rfl rfl rfl rfl rfl) rfl rfl (fun a hF => ?_)
          refine qs_skip hF (wanted_n hF rfl rfl rfl rfl rfl) rfl rfl (fun a hF => ?_)
          refine qs_skip hF (wanted_n hF rfl rfl rfl rfl rfl) rfl rfl (fun a hF => ?_)
          refine qs_skip hF (wanted_n hF rfl rfl rfl rfl rfl) rfl rfl (fun a hF => ?_)
          refine qs_skip hF (wanted_n hF rfl rfl rfl rfl rfl) rfl rfl (fun a hF => ?_)
          refine qs_skip hF (wanted_n hF rfl rfl rfl rfl rfl) rfl rfl (fun a hF => ?_)
          refine qs_skip hF (wanted_n hF rfl rfl rfl rfl rfl) rfl rfl (fun a hF => ?_)
          refine qs_skip hF (wanted_n hF rfl rfl rfl rfl rfl) rfl rfl (fun a hF => ?_)
          refine qs_skip hF (wanted_n hF rfl rfl rfl rfl rfl) rfl rfl (fun a hF => ?_)
          refine qs_skip hF (wanted_n hF rfl rfl rfl rfl rfl) rfl rfl (fun a hF => ?_)
          refine qs hF rfl ((y_pick_t hF rfl rfl rfl).q) (fun a hF => ?_)
          refine quiet_end (fun w hW => ?_)
          refine c_then ?_
          have hW := hW.frontZ (i := 1) rfl rfl
          have hW := hW.frontZ (i := 1) rfl rfl
          have hW := hW.frontM (i := 2) rfl rfl
          have hW := hW.frontM (i := 2) rfl rfl
          have hW := hW.frontM (i := 2) rfl rfl
          exact ⟨_, H, hF.re ⟨rfl, rfl, rfl, rfl, rfl, trivial⟩, hW⟩
        ·
          have H := iteF (of_decide_eq_false hb) H
          rw [hb] at hF
          clear hb
          refine qs_w hF (wanted_y hF rfl rfl rfl rfl) rfl (Nat.le_of_ble_eq_true rfl) ((y_load (v := Value.agg #[.int .i64 x25.1.1, .bool x25.1.2.1, .string (bs x25.1.2.2)]) 0 hF rfl rfl T38 rfl).q) (fun a hF => ?_)
          refine qs_w hF (wanted_y hF rfl rfl rfl rfl) rfl (Nat.le_of_ble_eq_true rfl) ((y_move hF rfl).q) (fun a hF => ?_)
          refine qs_w hF (wanted_y hF rfl rfl rfl rfl) rfl (Nat.le_of_ble_eq_true rfl) ((y_nilCheck hF rfl).q) (fun a hF => ?_)
          refine qs_w hF (wanted_y hF rfl rfl rfl rfl) rfl (Nat.le_of_ble_eq_true rfl) ((y_fieldAddr Try.underlying28 rfl rfl rfl T26 hF rfl 0 rfl).q) (fun a hF => ?_)
          refine qs_w hF (wanted_y hF rfl rfl rfl rfl) rfl (Nat.le_of_ble_eq_true rfl) ((y_load (v := v3) 1 hF rfl rfl T26 rfl).q) (fun a hF => ?_)
          refine qs_w hF (wanted_y hF rfl rfl rfl rfl) rfl (Nat.le_of_ble_eq_true rfl) ((y_move hF rfl).q) (fun a hF => ?_)
          obtain ⟨x27, h11, H⟩ := bindE H
          refine qs_w hF (wanted_y hF rfl rfl rfl rfl) rfl (Nat.le_of_ble_eq_true rfl) ((y_index (r := R30) L26 hF rfl rfl (rdc_row 0 rfl) h11).q) (fun a hF => ?_)
          refine qs_w hF (wanted_y hF rfl rfl rfl rfl) rfl (Nat.le_of_ble_eq_true rfl) ((y_load_el (y := Value.agg #[.int .i64 x27.1, .bool x27.2.1, .string (bs x27.2.2)]) (j := 0) (i := x24) hF rfl rfl (rdc_row 0 rfl) h11 F30.to T30 rfl).q) (fun a hF => ?_)
          refine qs_w hF (wanted_y hF rfl rfl rfl rfl) rfl (Nat.le_of_ble_eq_true rfl) (y_call (v := Value.agg #[.int .i64 ((L34_mine x27).1), .bool ((L34_mine x27).2.1), .string (bs ((L34_mine x27).2.2))]) hF H14 rfl (fun w hW => L34_mine_c any w x27 _ rfl)) (fun a hF => ?_)
          refine qs_w hF (wanted_y hF rfl rfl rfl rfl) rfl (Nat.le_of_ble_eq_true rfl) ((y_nea (t := decide (x25.1.1 = ((L34_mine x27).1) ∧ x25.1.2.1 = ((L34_mine x27).2.1) ∧ x25.1.2.2 = ((L34_mine x27).2.2))) G38 (Q38 _ _ _ _ _ _) hF rfl rfl).q) (fun a hF => ?_)
          refine qs hF rfl ((y_pick_f hF rfl rfl rfl).q) (fun a hF => ?_)
          refine quiet_end (fun w hW => ?_)
          refine c_then ?_
          have hW := hW.frontZ (i := 1) rfl rfl
          have hW := hW.frontZ (i := 1) rfl rfl
          have hW := hW.frontM (i := 2) rfl rfl
          have hW := hW.frontM (i := 2) rfl rfl
          have hW := hW.frontM (i := 2) rfl rfl
          exact ⟨_, H, hF.re ⟨rfl, rfl, rfl, rfl, rfl, trivial⟩, hW⟩
      rintro a w ⟨x26, hj, hF, hW⟩
      have hj := Option.some.inj hj
      subst hj
      have H := K6
      clear G6 K6
      refine c_cond hF rfl (fun hb => ?_) (fun hb => ?_)
      ·
        have H := iteT hb H
        rw [hb] at hF
        clear hb
        refine c_seq ?_
        refine reg_list ?_
        refine ls hF hW rfl ((y_assign hF rfl).q) (fun a w hF hW => ?_)
        refine ls_nil ?_
        refine c_then ?_
        refine wp_ret ?_
        refine r_block ?_
        refine r_then ?_
        refine r_then ?_
        refine r_block ?_
        refine r_then ?_
        have H := L5 _ H
        have H := L4 _ H
        have H := Option.some.inj H
        subst H
        refine post1 (.inl rfl) hF hW rfl (rv_tmp hF rfl) ?_
        exact ⟨rfl, hW.done⟩
      ·
        have H := iteF (by rw [hb]; decide) H
        rw [hb] at hF
        clear hb
        refine wp_skip ?_
        refine b_normal ?_
        refine c_then ?_
        refine reg_list ?_
        refine ls hF hW rfl ((y_move hF rfl).q) (fun a w hF hW => ?_)
        refine ls hF hW rfl ((y_add hF rfl rfl rfl).q) (fun a w hF hW => ?_)
        refine ls hF hW rfl ((y_assign hF rfl).q) (fun a w hF hW => ?_)
        refine ls_nil ?_
        refine c_then ?_
        have hW := hW.frontZ (i := 1) rfl rfl
        have hW := hW.frontZ (i := 1) rfl rfl
        have hW := hW.frontM (i := 2) rfl rfl
        have hW := hW.frontM (i := 2) rfl rfl
        have hW := hW.sub (M' := [(b2, [v3, .int .i64 x2]), (b1, [v4, .int .i64 x4])]) (Z' := [row v3 30 R30 x1, row v4 38 R38 x3]) (List.Sublist.cons_cons _ (List.Sublist.cons_cons _ (List.nil_sublist _))) (List.Sublist.refl _)
        exact ⟨_, H, hF.re ⟨rfl, rfl, rfl, rfl, trivial⟩, hW⟩
    ·
      have H := iteF (of_decide_eq_false hb) H
      rw [hb] at hF
      clear hb
      refine wp_exit ?_
      refine e_then ?_
      refine e_then ?_
      refine e_block ?_
      refine c_then ?_
      have hW := hW.frontZ (i := 1) rfl rfl
      have hW := hW.frontZ (i := 1) rfl rfl
      have hW := hW.frontM (i := 1) rfl rfl
      have hW := hW.frontM (i := 1) rfl rfl
      have H := L5 _ H
      exact ⟨H, hF.re ⟨rfl, trivial⟩, hW⟩
  rintro a w ⟨hj, hF, hW⟩
  have H := K4 _ hj
  clear hj G4 K4 L4
  refine c_seq ?_
  refine reg_list ?_
  obtain ⟨x28, h12, H⟩ := bindE H
  refine ls hF hW rfl (y_call (v := Value.bool x28) hF H5 rfl (fun w hW => L34_awake_c any w _ h12)) (fun a w hF hW => ?_)
  refine ls hF hW rfl ((y_assign hF rfl).q) (fun a w hF hW => ?_)
  refine ls_nil ?_
  refine c_then ?_
  refine wp_ret ?_
  have H := Option.some.inj H
  subst H
  refine post1 (.inl rfl) hF hW rfl (rv_tmp hF rfl) ?_
  exact ⟨rfl, hW.done⟩

end Go.Proofs.Ytglegnicihnlmaa
