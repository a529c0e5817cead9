/- The functions of layer 20, lifted. Conditions: none. -/
import Derived.Test.YtkgajpmlehfcnaaA1
namespace Go.Proofs.Ytkgajpmlehfcnaa
open Go Go.RowKit
set_option linter.unusedVariables false
set_option linter.unusedSimpArgs false
set_option maxRecDepth 20000
set_option maxHeartbeats 1600000
theorem H17 : Has Try.prog 17 := ⟨fun args w => run_callFunc_body Try.func17 rfl (by decide) args w⟩
noncomputable def L20_awake  : Option Bool := (graph_Order 3 ([(2, 0), (0, 1)] : List (Int × Int))).bind fun x1 => (if x1.2 = true then (r13_Same x1.1 ([2, 0, 1] : List Int)).bind fun x3 => (if x3 = true then (graph_Loop 3 ([(2, 0), (0, 1)] : List (Int × Int))).bind fun x4 => (if (x4.length : Int) = 0 then (graph_Loop 2 ([(0, 1), (1, 0)] : List (Int × Int))).bind fun x5 => (r13_Same x5 ([0, 1] : List Int)).bind fun x6 => some x6 else some false) else some false) else some false).bind fun x2 => some x2
theorem L20_awake_c (Y : Nat → Prop) (w0 : World)   (r : Bool) (H : L20_awake  = some r)  :
    Calls Try.prog 6 #[] w0 fun e w' => e = .returned (.bool r) ∧ Below w0.heap.size w0 w' := by
  refine enter Try.func6 rfl Try.ntmps6 rfl (fun a hF => ?_)
  have hW := Stw.start Y w0
  unfold L20_awake at H
  refine c_seq ?_
  refine reg_list ?_
  refine ls hF hW rfl ((y_assign hF rfl).q) (fun a w hF hW => ?_)
  refine ls_nil ?_
  refine c_then ?_
  refine c_seq ?_
  refine reg_list ?_
  refine ls hF hW rfl ((y_build (v := Value.agg #[.int .i64 2, .int .i64 0]) B42 hF rfl rfl rfl).q) (fun a w hF hW => ?_)
  refine ls hF hW rfl ((y_build (v := Value.agg #[.int .i64 0, .int .i64 1]) B42 hF rfl rfl rfl).q) (fun a w hF hW => ?_)
  refine l_lit (z := Value.agg #[.int .i64 0, .int .i64 0]) (cs := [.int .i64 2, .int .i64 0, .int .i64 0, .int .i64 1]) R42 ([(2, 0), (0, 1)] : List (Int × Int)) hF hW rfl L24 Z42 rfl rfl rfl rfl rfl rfl (F42.repL _ _ ([(2, 0), (0, 1)] : List (Int × Int))) (fun v1 a w hF hW => ?_)
  refine ls hF hW rfl ((y_assign hF rfl).q) (fun a w hF hW => ?_)
  refine ls_nil ?_
  refine c_then ?_
  refine c_seq ?_
  refine reg_list ?_
  refine ls hF hW rfl ((y_move hF rfl).q) (fun a w hF hW => ?_)
  obtain ⟨x1, h1, H⟩ := bindE H
  refine l_callG (Ml := []) (Zl := []) (M := []) (Z := [row v1 42 R42 ([(2, 0), (0, 1)] : List (Int × Int))]) (β := Value) (rv := fun x => .tuple #[x, .bool x1.2]) (MM := fun x => []) (ZZ := fun x => [row x 3 (Rp.int .i64) x1.1]) hF hW H8 rfl rfl (fun hL => graph_Order_c _ w (v1) 3 ([(2, 0), (0, 1)] : List (Int × Int)) _ h1 ((rdc_row 0 rfl) w hW).nx) (fun x a w hF hW => ?_)
  obtain ⟨v2, rfl⟩ : ∃ y, y = x := ⟨x, rfl⟩
  have hW : Stw ⟨Y, [], w0⟩ [] [row v2 3 (Rp.int .i64) x1.1, row v1 42 R42 ([(2, 0), (0, 1)] : List (Int × Int))] w := hW
  refine ls hF hW rfl ((y_move hF rfl).q) (fun a w hF hW => ?_)
  refine ls hF hW rfl ((y_extract (v := v2) hF rfl rfl).q) (fun a w hF hW => ?_)
  refine ls hF hW rfl ((y_extract (v := Value.bool x1.2) hF rfl rfl).q) (fun a w hF hW => ?_)
  refine ls hF hW rfl ((y_assign hF rfl).q) (fun a w hF hW => ?_)
  refine ls hF hW rfl ((y_assign hF rfl).q) (fun a w hF hW => ?_)
  refine ls_nil ?_
  refine c_then ?_
  obtain ⟨o1, G1, K1⟩ := bindE H
  refine c_seqJ (fun a w => ∃ x2 : Bool, some (x2) = some o1 ∧ Fr 32 [] [(0, .bool x2)] a ∧ Stw ⟨Y, [], w0⟩ [] [] w) ?_ ?_
  ·
    have H := G1
    clear G1 K1
    refine reg_list ?_
    refine ls hF hW rfl ((y_move hF rfl).q) (fun a w hF hW => ?_)
    refine ls hF hW rfl ((y_move hF rfl).q) (fun a w hF hW => ?_)
    rcases Bool.eq_false_or_eq_true x1.2 with hb | hb
    ·
      have H := iteT hb H
      rw [hb] at hF
      clear hb
      refine ls_w hF hW (wanted_y hF rfl rfl rfl rfl) rfl (Nat.le_of_ble_eq_true rfl) ((y_move hF rfl).q) (fun a w hF hW => ?_)
      refine ls_g (wanted_y hF rfl rfl rfl rfl) ?_
      refine l_lit (z := Value.int .i64 0) (cs := [.int .i64 2, .int .i64 0, .int .i64 1]) (Rp.int .i64) ([2, 0, 1] : List Int) hF hW rfl L26 Z3 rfl rfl rfl rfl rfl rfl (Fl.int.repL _ _ ([2, 0, 1] : List Int)) (fun v3 a w hF hW => ?_)
      refine ls_g (wanted_y hF rfl rfl rfl rfl) ?_
      obtain ⟨x3, h2, H⟩ := bindE H
      refine ls hF hW rfl (y_call (v := Value.bool x3) hF H12 rfl (fun w hW => r13_Same_c any w (v2) (v3) x1.1 ([2, 0, 1] : List Int) _ h2 (((rdc_row 1 rfl) : Rdc _ _ _ _ _ _) w hW).nx (((rdc_row 0 rfl) : Rdc _ _ _ _ _ _) w hW).nx)) (fun a w hF hW => ?_)
      refine ls hF hW rfl ((y_pick_t hF rfl rfl rfl).q) (fun a w hF hW => ?_)
      refine ls hF hW rfl ((y_move hF rfl).q) (fun a w hF hW => ?_)
      rcases Bool.eq_false_or_eq_true x3 with hb | hb
      ·
        have H := iteT hb H
        rw [hb] at hF
        clear hb
        refine ls_w hF hW (wanted_y hF rfl rfl rfl rfl) rfl (Nat.le_of_ble_eq_true rfl) ((y_move hF rfl).q) (fun a w hF hW => ?_)
        refine ls_g (wanted_y hF rfl rfl rfl rfl) ?_
        obtain ⟨x4, h3, H⟩ := bindE H
        refine l_callG (Ml := []) (Zl := []) (M := []) (Z := [row v3 3 (Rp.int .i64) ([2, 0, 1] : List Int), row v2 3 (Rp.int .i64) x1.1, row v1 42 R42 ([(2, 0), (0, 1)] : List (Int × Int))]) (β := Value) (rv := fun x => x) (MM := fun x => []) (ZZ := fun x => [row x 3 (Rp.int .i64) x4]) hF hW H17 rfl rfl (fun hL => graph_Loop_c _ w (v1) 3 ([(2, 0), (0, 1)] : List (Int × Int)) _ h3 ((rdc_row 2 rfl) w hW).nx) (fun x a w hF hW => ?_)
        obtain ⟨v4, rfl⟩ : ∃ y, y = x := ⟨x, rfl⟩
        have hW : Stw ⟨Y, [], w0⟩ [] [row v4 3 (Rp.int .i64) x4, row v3 3 (Rp.int .i64) ([2, 0, 1] : List Int), row v2 3 (Rp.int .i64) x1.1, row v1 42 R42 ([(2, 0), (0, 1)] : List (Int × Int))] w := hW
        refine ls_w hF hW (wanted_y hF rfl rfl rfl rfl) rfl (Nat.le_of_ble_eq_true rfl) ((y_len (r := (Rp.int .i64)) (l := x4) Try.underlying26 rfl hF rfl (rdc_row 0 rfl)).q) (fun a w hF hW => ?_)
        refine ls_w hF hW (wanted_y hF rfl rfl rfl rfl) rfl (Nat.le_of_ble_eq_true rfl) ((y_eql hF rfl rfl).q) (fun a w hF hW => ?_)
        refine ls hF hW rfl ((y_pick_t hF rfl rfl rfl).q) (fun a w hF hW => ?_)
        refine ls hF hW rfl ((y_move hF rfl).q) (fun a w hF hW => ?_)
        rcases Bool.eq_false_or_eq_true (decide ((x4.length : Int) = 0)) with hb | hb
        ·
          have H := iteT (of_decide_eq_true hb) H
          rw [hb] at hF
          clear hb
          refine ls_w hF hW (wanted_y hF rfl rfl rfl rfl) rfl (Nat.le_of_ble_eq_true rfl) ((y_build (v := Value.agg #[.int .i64 0, .int .i64 1]) B42 hF rfl rfl rfl).q) (fun a w hF hW => ?_)
          refine ls_w hF hW (wanted_y hF rfl rfl rfl rfl) rfl (Nat.le_of_ble_eq_true rfl) ((y_build (v := Value.agg #[.int .i64 1, .int .i64 0]) B42 hF rfl rfl rfl).q) (fun a w hF hW => ?_)
          refine ls_g (wanted_y hF rfl rfl rfl rfl) ?_
          refine l_lit (z := Value.agg #[.int .i64 0, .int .i64 0]) (cs := [.int .i64 0, .int .i64 1, .int .i64 1, .int .i64 0]) R42 ([(0, 1), (1, 0)] : List (Int × Int)) hF hW rfl L24 Z42 rfl rfl rfl rfl rfl rfl (F42.repL _ _ ([(0, 1), (1, 0)] : List (Int × Int))) (fun v5 a w hF hW => ?_)
          refine ls_g (wanted_y hF rfl rfl rfl rfl) ?_
          obtain ⟨x5, h4, H⟩ := bindE H
          refine l_callG (Ml := []) (Zl := []) (M := []) (Z := [row v5 42 R42 ([(0, 1), (1, 0)] : List (Int × Int)), row v4 3 (Rp.int .i64) x4, row v3 3 (Rp.int .i64) ([2, 0, 1] : List Int), row v2 3 (Rp.int .i64) x1.1, row v1 42 R42 ([(2, 0), (0, 1)] : List (Int × Int))]) (β := Value) (rv := fun x => x) (MM := fun x => []) (ZZ := fun x => [row x 3 (Rp.int .i64) x5]) hF hW H17 rfl rfl (fun hL => graph_Loop_c _ w (v5) 2 ([(0, 1), (1, 0)] : List (Int × Int)) _ h4 ((rdc_row 0 rfl) w hW).nx) (fun x a w hF hW => ?_)
          obtain ⟨v6, rfl⟩ : ∃ y, y = x := ⟨x, rfl⟩
          have hW : Stw ⟨Y, [], w0⟩ [] [row v6 3 (Rp.int .i64) x5, row v5 42 R42 ([(0, 1), (1, 0)] : List (Int × Int)), row v4 3 (Rp.int .i64) x4, row v3 3 (Rp.int .i64) ([2, 0, 1] : List Int), row v2 3 (Rp.int .i64) x1.1, row v1 42 R42 ([(2, 0), (0, 1)] : List (Int × Int))] w := hW
          refine ls_g (wanted_y hF rfl rfl rfl rfl) ?_
          refine l_lit (z := Value.int .i64 0) (cs := [.int .i64 0, .int .i64 1]) (Rp.int .i64) ([0, 1] : List Int) hF hW rfl L26 Z3 rfl rfl rfl rfl rfl rfl (Fl.int.repL _ _ ([0, 1] : List Int)) (fun v7 a w hF hW => ?_)
          refine ls_g (wanted_y hF rfl rfl rfl rfl) ?_
          obtain ⟨x6, h5, H⟩ := bindE H
          refine ls hF hW rfl (y_call (v := Value.bool x6) hF H12 rfl (fun w hW => r13_Same_c any w (v6) (v7) x5 ([0, 1] : List Int) _ h5 (((rdc_row 1 rfl) : Rdc _ _ _ _ _ _) w hW).nx (((rdc_row 0 rfl) : Rdc _ _ _ _ _ _) w hW).nx)) (fun a w hF hW => ?_)
          refine ls hF hW rfl ((y_pick_t hF rfl rfl rfl).q) (fun a w hF hW => ?_)
          refine ls hF hW rfl ((y_assign hF rfl).q) (fun a w hF hW => ?_)
          refine ls_nil ?_
          refine c_then ?_
          have hW := hW.sub (M' := []) (Z' := []) (List.Sublist.refl _) (List.nil_sublist _)
          exact ⟨_, H, hF.re ⟨rfl, trivial⟩, hW⟩
        ·
          have H := iteF (of_decide_eq_false hb) H
          rw [hb] at hF
          clear hb
          refine ls_skip hF (wanted_n hF rfl rfl rfl rfl rfl) rfl rfl (fun a hF => ?_)
          refine ls_skip hF (wanted_n hF rfl rfl rfl rfl rfl) rfl rfl (fun a hF => ?_)
          refine ls_skip hF (wanted_n hF rfl rfl rfl rfl rfl) rfl rfl (fun a hF => ?_)
          refine ls_skip hF (wanted_n hF rfl rfl rfl rfl rfl) rfl rfl (fun a hF => ?_)
          refine ls_skip hF (wanted_n hF rfl rfl rfl rfl rfl) rfl rfl (fun a hF => ?_)
          refine ls_skip hF (wanted_n hF rfl rfl rfl rfl rfl) rfl rfl (fun a hF => ?_)
          refine ls hF hW rfl ((y_pick_f hF rfl rfl rfl).q) (fun a w hF hW => ?_)
          refine ls hF hW rfl ((y_assign hF rfl).q) (fun a w hF hW => ?_)
          refine ls_nil ?_
          refine c_then ?_
          have hW := hW.sub (M' := []) (Z' := []) (List.Sublist.refl _) (List.nil_sublist _)
          exact ⟨_, H, hF.re ⟨rfl, trivial⟩, hW⟩
      ·
        have H := iteF (by rw [hb]; decide) H
        rw [hb] at hF
        clear hb
        refine ls_skip hF (wanted_n hF rfl rfl rfl rfl rfl) rfl rfl (fun a hF => ?_)
        refine ls_skip hF (wanted_n hF rfl rfl rfl rfl rfl) rfl rfl (fun a hF => ?_)
        refine ls_skip hF (wanted_n hF rfl rfl rfl rfl rfl) rfl rfl (fun a hF => ?_)
        refine ls_skip hF (wanted_n hF rfl rfl rfl rfl rfl) rfl rfl (fun a hF => ?_)
        refine ls hF hW rfl ((y_pick_f hF rfl rfl rfl).q) (fun a w hF hW => ?_)
        refine ls hF hW rfl ((y_move hF rfl).q) (fun a w hF hW => ?_)
        refine ls_skip hF (wanted_n hF rfl rfl rfl rfl rfl) rfl rfl (fun a hF => ?_)
        refine ls_skip hF (wanted_n hF rfl rfl rfl rfl rfl) rfl rfl (fun a hF => ?_)
        refine ls_skip hF (wanted_n hF rfl rfl rfl rfl rfl) rfl rfl (fun a hF => ?_)
        refine ls_skip hF (wanted_n hF rfl rfl rfl rfl rfl) rfl rfl (fun a hF => ?_)
        refine ls_skip hF (wanted_n hF rfl rfl rfl rfl rfl) rfl rfl (fun a hF => ?_)
        refine ls_skip hF (wanted_n hF rfl rfl rfl rfl rfl) rfl rfl (fun a hF => ?_)
        refine ls hF hW rfl ((y_pick_f hF rfl rfl rfl).q) (fun a w hF hW => ?_)
        refine ls hF hW rfl ((y_assign hF rfl).q) (fun a w hF hW => ?_)
        refine ls_nil ?_
        refine c_then ?_
        have hW := hW.sub (M' := []) (Z' := []) (List.Sublist.refl _) (List.nil_sublist _)
        exact ⟨_, H, hF.re ⟨rfl, trivial⟩, hW⟩
    ·
      have H := iteF (by rw [hb]; decide) H
      rw [hb] at hF
      clear hb
      refine ls_skip hF (wanted_n hF rfl rfl rfl rfl rfl) rfl rfl (fun a hF => ?_)
      refine ls_skip hF (wanted_n hF rfl rfl rfl rfl rfl) rfl rfl (fun a hF => ?_)
      refine ls_skip hF (wanted_n hF rfl rfl rfl rfl rfl) rfl rfl (fun a hF => ?_)
      refine ls hF hW rfl ((y_pick_f hF rfl rfl rfl).q) (fun a w hF hW => ?_)
      refine ls hF hW rfl ((y_move hF rfl).q) (fun a w hF hW => ?_)
      refine ls_skip hF (wanted_n hF rfl rfl rfl rfl rfl) rfl rfl (fun a hF => ?_)
      refine ls_skip hF (wanted_n hF rfl rfl rfl rfl rfl) rfl rfl (fun a hF => ?_)
      refine ls_skip hF (wanted_n hF rfl rfl rfl rfl rfl) rfl rfl (fun a hF => ?_)
      refine ls_skip hF (wanted_n hF rfl rfl rfl rfl rfl) rfl rfl (fun a hF => ?_)
      refine ls hF hW rfl ((y_pick_f hF rfl rfl rfl).q) (fun a w hF hW => ?_)
      refine ls hF hW rfl ((y_move hF rfl).q) (fun a w hF hW => ?_)
      refine ls_skip hF (wanted_n hF rfl rfl rfl rfl rfl) rfl rfl (fun a hF => ?_)
      refine ls_skip hF (wanted_n hF rfl rfl rfl rfl rfl) rfl rfl (fun a hF => ?_)
      refine ls_skip hF (wanted_n hF rfl rfl rfl rfl rfl) rfl rfl (fun a hF => ?_)
      refine ls_skip hF (wanted_n hF rfl rfl rfl rfl rfl) rfl rfl (fun a hF => ?_)
      refine ls_skip hF (wanted_n hF rfl rfl rfl rfl rfl) rfl rfl (fun a hF => ?_)
      refine ls_skip hF (wanted_n hF rfl rfl rfl rfl rfl) rfl rfl (fun a hF => ?_)
      refine ls hF hW rfl ((y_pick_f hF rfl rfl rfl).q) (fun a w hF hW => ?_)
      refine ls hF hW rfl ((y_assign hF rfl).q) (fun a w hF hW => ?_)
      refine ls_nil ?_
      refine c_then ?_
      have hW := hW.sub (M' := []) (Z' := []) (List.Sublist.refl _) (List.nil_sublist _)
      exact ⟨_, H, hF.re ⟨rfl, trivial⟩, hW⟩
  rintro a w ⟨x2, hj, hF, hW⟩
  have hj := Option.some.inj hj
  subst hj
  have H := K1
  clear G1 K1
  refine wp_ret ?_
  have H := Option.some.inj H
  subst H
  refine post1 (.inl rfl) hF hW rfl (rv_tmp hF rfl) ?_
  exact ⟨rfl, hW.done⟩

theorem H6 : Has Try.prog 6 := ⟨fun args w => run_callFunc_body Try.func6 rfl (by decide) args w⟩
theorem L22 : Et Try.prog 22 41 2 16 := Et.of Try.underlying22 (by kernel_rfl) (by kernel_rfl) (by kernel_rfl) (by decide)
def E41 (a : Int × Int) : List Value := [.int .i64 a.1, .int .i64 a.2]
theorem F41 : Fl R41 E41 := (Fl.pair Fl.int Fl.int)
noncomputable def L20_mine_l1 (p0 : List (Int × Int)) : ((List (Int × Int)) × Int) → Option (((List (Int × Int)) × Int) ⊕ (List (Int × Int)))
  | (x2, x3) => (if x3 < (p0.length : Int) then (ix p0 x3).bind fun x4 => (ix p0 x3).bind fun x5 => (app x2 ([(x4.1, x5.2)] : List (Int × Int))).bind fun x6 => some (.inl (x6, w64 (x3 + 1))) else some (.inr x2))
noncomputable def L20_mine (p0 : List (Int × Int)) : Option (List (Int × Int)) := (loopW (L20_mine_l1 p0) ([], 0)).bind fun x1 => some x1
theorem L20_mine_c (Y : Nat → Prop) (w0 : World) (v1 : Value) (p0 : List (Int × Int)) (r : (List (Int × Int))) (H : L20_mine p0 = some r) (h_v1 : Sl w0 (NX []) R41 v1 p0) :
    Calls Try.prog 7 #[v1] w0 fun e w' => ∃ x : Value, e = .returned (x) ∧ Stw ⟨Y, [], w0⟩ [] [row (x) 42 R42 r] w' := by
  refine enter Try.func7 rfl Try.ntmps7 rfl (fun a hF => ?_)
  have hW := Stw.start Y w0
  unfold L20_mine at H
  refine c_seq ?_
  refine reg_list ?_
  refine ls hF hW rfl ((y_assign hF rfl).q) (fun a w hF hW => ?_)
  refine ls_nil ?_
  refine c_then ?_
  refine c_seq ?_
  refine reg_list ?_
  refine ls hF hW rfl ((y_assign hF rfl).q) (fun a w hF hW => ?_)
  refine ls_nil ?_
  refine c_then ?_
  obtain ⟨o1, G1, K1⟩ := bindE H
  refine c_seqJ (fun a w => ∃ x1 : List (Int × Int), ∃ v2 : Value, some (x1) = some o1 ∧ Fr 26 [] [(2, .slice none 0 0), (3, v2)] a ∧ Stw ⟨Y, [], w0⟩ [] [row v2 42 R42 x1] w) ?_ ?_
  ·
    have H := G1
    clear G1 K1
    refine c_seq ?_
    refine reg_list ?_
    refine ls hF hW rfl ((y_assign hF rfl).q) (fun a w hF hW => ?_)
    refine ls_nil ?_
    refine c_then ?_
    refine wp_block ?_
    have hW := hW.nilRow 42 R42
    refine c_loopW H (fun s a w => ∃ v3 : Value, Fr 26 [] [(0, v1), (2, .slice none 0 0), (3, v3), (4, .int .i64 s.2)] a ∧ Stw ⟨Y, [], w0⟩ [] [row v3 42 R42 s.1] w) ⟨(Value.slice none 0 0), hF.re ⟨rfl, rfl, rfl, rfl, trivial⟩, hW⟩ (fun s o a w H L2 hR => ?_)
    obtain ⟨x2, x3⟩ := s
    obtain ⟨v3, hF, hW⟩ := hR
    have hF : Fr 26 [] [(0, v1), (2, .slice none 0 0), (3, v3), (4, .int .i64 x3)] a := hF
    have hW : Stw ⟨Y, [], w0⟩ [] [row v3 42 R42 x2] w := hW
    rw [L20_mine_l1] at H
    refine c_seq ?_
    refine c_seq ?_
    refine reg_list ?_
    refine ls hF hW rfl ((y_move hF rfl).q) (fun a w hF hW => ?_)
    refine ls hF hW rfl ((y_move hF rfl).q) (fun a w hF hW => ?_)
    refine ls hF hW rfl ((y_len (r := R41) (l := p0) Try.underlying22 rfl hF rfl (rdc_ro h_v1)).q) (fun a w hF hW => ?_)
    refine ls hF hW rfl ((y_lss hF rfl rfl).q) (fun a w hF hW => ?_)
    refine ls_nil ?_
    refine c_then ?_
    refine c_cond hF rfl (fun hb => ?_) (fun hb => ?_)
    ·
      have H := iteT (of_decide_eq_true hb) H
      rw [hb] at hF
      clear hb
      refine wp_skip ?_
      refine c_then ?_
      refine c_seq ?_
      refine wp_block ?_
      refine reg_ord 12 [0] [1, 2, 3, 4, 5, 6, 7, 8, 9, 10, 11] (fun ch a d v w h => by cases d <;> exact h) hW MO (by kernel_rfl) ?_
      refine hm hF rfl rfl rfl (fun a hF => ?_)
      refine hm_end ?_
      refine hs hF rfl rfl rfl ((y_move hF rfl).q) (fun a hF => ?_)
      refine hs hF rfl rfl rfl ((y_move hF rfl).q) (fun a hF => ?_)
      obtain ⟨x4, h1, H⟩ := bindE H
      refine hs hF rfl rfl rfl ((y_index (r := R41) L22 hF rfl rfl (rdc_ro h_v1) h1).q) (fun a hF => ?_)
      refine hs hF rfl rfl rfl ((y_fieldAddr Try.underlying41 rfl rfl rfl T3 hF rfl (voff v1 + (x3).toNat * 2) rfl).q) (fun a hF => ?_)
      refine hs hF rfl rfl rfl ((y_load_el (y := Value.int .i64 x4.1) (j := 0) (i := x3) hF rfl rfl (rdc_ro h_v1) h1 F41.to T3 rfl).q) (fun a hF => ?_)
      refine hs hF rfl rfl rfl ((y_move hF rfl).q) (fun a hF => ?_)
      refine hs hF rfl rfl rfl ((y_move hF rfl).q) (fun a hF => ?_)
      obtain ⟨x5, h2, H⟩ := bindE H
      refine hs hF rfl rfl rfl ((y_index (r := R41) L22 hF rfl rfl (rdc_ro h_v1) h2).q) (fun a hF => ?_)
      refine hs hF rfl rfl rfl ((y_fieldAddr Try.underlying41 rfl rfl rfl T3 hF rfl (voff v1 + (x3).toNat * 2 + 1) rfl).q) (fun a hF => ?_)
      refine hs hF rfl rfl rfl ((y_load_el (y := Value.int .i64 x5.2) (j := 1) (i := x3) hF rfl rfl (rdc_ro h_v1) h2 F41.to T3 rfl).q) (fun a hF => ?_)
      refine hs hF rfl rfl rfl ((y_build (v := Value.agg #[.int .i64 x4.1, .int .i64 x5.2]) B42 hF rfl rfl rfl).q) (fun a hF => ?_)
      refine h_end (fun w hW => ?_)
      have hW : Stw ⟨Y, [], w0⟩ [] [row v3 42 R42 x2] w := hW
      refine l_lit (z := Value.agg #[.int .i64 0, .int .i64 0]) (cs := [.int .i64 x4.1, .int .i64 x5.2]) R42 ([(x4.1, x5.2)] : List (Int × Int)) hF hW rfl L24 Z42 rfl rfl rfl rfl rfl rfl (F42.repL _ _ ([(x4.1, x5.2)] : List (Int × Int))) (fun v4 a w hF hW => ?_)
      obtain ⟨x6, h3, H⟩ := bindE H
      refine l_append (r := R42) (i := 1) hF hW rfl L24 rfl rfl rfl rfl (src_row hW 0 rfl) h3 rfl (fun v5 a w hF hW => ?_)
      have hW : Stw ⟨Y, [], w0⟩ [] [row v5 42 R42 x6, row v4 42 R42 ([(x4.1, x5.2)] : List (Int × Int))] w := hW
      refine ls hF hW rfl ((y_assign hF rfl).q) (fun a w hF hW => ?_)
      refine ls_nil ?_
      refine b_normal ?_
      refine c_then ?_
      refine reg_list ?_
      refine ls hF hW rfl ((y_move hF rfl).q) (fun a w hF hW => ?_)
      refine ls hF hW rfl ((y_add hF rfl rfl rfl).q) (fun a w hF hW => ?_)
      refine ls hF hW rfl ((y_assign hF rfl).q) (fun a w hF hW => ?_)
      refine ls_nil ?_
      refine c_then ?_
      have hW := hW.sub (M' := []) (Z' := [row v5 42 R42 x6]) (List.Sublist.refl _) (List.Sublist.cons_cons _ (List.nil_sublist _))
      exact ⟨_, H, (v5), hF.re ⟨rfl, rfl, rfl, rfl, trivial⟩, hW⟩
    ·
      have H := iteF (of_decide_eq_false hb) H
      rw [hb] at hF
      clear hb
      refine wp_exit ?_
      refine e_then ?_
      refine e_then ?_
      refine e_block ?_
      refine c_then ?_
      have H := L2 _ H
      exact ⟨_, (v3), H, hF.re ⟨rfl, rfl, trivial⟩, hW⟩
  rintro a w ⟨x1, v2, hj, hF, hW⟩
  have hj := Option.some.inj hj
  subst hj
  have H := K1
  clear G1 K1
  refine c_seq ?_
  refine reg_list ?_
  refine ls hF hW rfl ((y_move hF rfl).q) (fun a w hF hW => ?_)
  refine ls hF hW rfl ((y_assign hF rfl).q) (fun a w hF hW => ?_)
  refine ls_nil ?_
  refine c_then ?_
  refine wp_ret ?_
  have H := Option.some.inj H
  subst H
  refine post1 (.inl rfl) hF hW rfl (rv_tmp hF rfl) ?_
  exact ⟨(v2), rfl, hW⟩

theorem H7 : Has Try.prog 7 := ⟨fun args w => run_callFunc_body Try.func7 rfl (by decide) args w⟩
noncomputable def r20_Right_l1 (p0 : Int) (p1 : List (Int × Int)) : Int → Option (Int ⊕ (Unit ⊕ Bool))
  | x1 => (if x1 < (p1.length : Int) then ((ix p1 x1).bind fun x3 => (if x3.1 < 0 then some true else (ix p1 x1).bind fun x4 => (if p0 ≤ x4.1 then some true else (ix p1 x1).bind fun x5 => (if x5.2 < 0 then some true else (ix p1 x1).bind fun x6 => some (decide (p0 ≤ x6.2)))))).bind fun x2 => (if x2 = true then some (.inr (.inr false)) else some (.inl (w64 (x1 + 1)))) else some (.inr (.inl ())))
noncomputable def r20_Right (p0 : Int) (p1 : List (Int × Int)) : Option Bool := orR (loopW (r20_Right_l1 p0 p1) 0) fun _ => some (decide (0 ≤ p0) && decide (p0 ≤ 16))
theorem r20_Right_c (Y : Nat → Prop) (w0 : World) (v1 : Value) (p0 : Int) (p1 : List (Int × Int)) (r : Bool) (H : r20_Right p0 p1 = some r) (h_v1 : Sl w0 (NX []) R41 v1 p1) :
    Calls Try.prog 11 #[.int .i64 p0, v1] w0 fun e w' => e = .returned (.bool r) ∧ Below w0.heap.size w0 w' := by
  refine enter Try.func11 rfl Try.ntmps11 rfl (fun a hF => ?_)
  have hW := Stw.start Y w0
  unfold r20_Right at H
  refine c_seq ?_
  refine reg_list ?_
  refine ls hF hW rfl ((y_assign hF rfl).q) (fun a w hF hW => ?_)
  refine ls_nil ?_
  refine c_then ?_
  obtain ⟨o1, G1, K1, L1⟩ := orE H
  refine c_seqJ (fun a w => some (Sum.inl ()) = some o1 ∧ Fr 50 [] [(0, .int .i64 p0), (4, .bool false)] a ∧ Stw ⟨Y, [], w0⟩ [] [] w) ?_ ?_
  ·
    have H := G1
    clear G1 K1
    refine c_seq ?_
    refine reg_list ?_
    refine ls hF hW rfl ((y_assign hF rfl).q) (fun a w hF hW => ?_)
    refine ls_nil ?_
    refine c_then ?_
    refine wp_block ?_
    refine c_loopW H (fun s a w => Fr 50 [] [(0, .int .i64 p0), (1, v1), (4, .bool false), (5, .int .i64 s)] a ∧ Stw ⟨Y, [], w0⟩ [] [] w) ⟨hF.re ⟨rfl, rfl, rfl, rfl, trivial⟩, hW⟩ (fun s o a w H L2 hR => ?_)
    obtain ⟨x1, rfl⟩ : ∃ x, x = s := ⟨s, rfl⟩
    obtain ⟨hF, hW⟩ := hR
    have hF : Fr 50 [] [(0, .int .i64 p0), (1, v1), (4, .bool false), (5, .int .i64 x1)] a := hF
    have hW : Stw ⟨Y, [], w0⟩ [] [] w := hW
    rw [r20_Right_l1] at H
    refine c_seq ?_
    refine c_seq ?_
    refine reg_list ?_
    refine ls hF hW rfl ((y_move hF rfl).q) (fun a w hF hW => ?_)
    refine ls hF hW rfl ((y_move hF rfl).q) (fun a w hF hW => ?_)
    refine ls hF hW rfl ((y_len (r := R41) (l := p1) Try.underlying22 rfl hF rfl (rdc_ro h_v1)).q) (fun a w hF hW => ?_)
    refine ls hF hW rfl ((y_lss hF rfl rfl).q) (fun a w hF hW => ?_)
    refine ls_nil ?_
    refine c_then ?_
    refine c_cond hF rfl (fun hb => ?_) (fun hb => ?_)
    ·
      have H := iteT (of_decide_eq_true hb) H
      rw [hb] at hF
      clear hb
      refine wp_skip ?_
      refine c_then ?_
      refine c_seq ?_
      refine wp_block ?_
      obtain ⟨o3, G3, K3⟩ := bindE H
      refine c_seqJ (fun a w => ∃ x2 : Bool, some (x2) = some o3 ∧ Fr 50 [] [(0, .int .i64 p0), (1, v1), (4, .bool false), (5, .int .i64 x1), (43, .bool x2)] a ∧ Stw ⟨Y, [], w0⟩ [] [] w) ?_ ?_
      ·
        have H := G3
        clear G3 K3
        refine reg_list ?_
        refine ls hF hW rfl ((y_move hF rfl).q) (fun a w hF hW => ?_)
        refine ls hF hW rfl ((y_move hF rfl).q) (fun a w hF hW => ?_)
        obtain ⟨x3, h1, H⟩ := bindE H
        refine ls hF hW rfl ((y_index (r := R41) L22 hF rfl rfl (rdc_ro h_v1) h1).q) (fun a w hF hW => ?_)
        refine ls hF hW rfl ((y_fieldAddr Try.underlying41 rfl rfl rfl T3 hF rfl (voff v1 + (x1).toNat * 2) rfl).q) (fun a w hF hW => ?_)
        refine ls hF hW rfl ((y_load_el (y := Value.int .i64 x3.1) (j := 0) (i := x1) hF rfl rfl (rdc_ro h_v1) h1 F41.to T3 rfl).q) (fun a w hF hW => ?_)
        refine ls hF hW rfl ((y_lss hF rfl rfl).q) (fun a w hF hW => ?_)
        refine ls hF hW rfl ((y_move hF rfl).q) (fun a w hF hW => ?_)
        rcases Bool.eq_false_or_eq_true (decide (x3.1 < 0)) with hb | hb
        ·
          have H := iteT (of_decide_eq_true hb) H
          rw [hb] at hF
          clear hb
          refine ls_skip hF (wanted_n hF rfl rfl rfl rfl rfl) rfl rfl (fun a hF => ?_)
          refine ls_skip hF (wanted_n hF rfl rfl rfl rfl rfl) rfl rfl (fun a hF => ?_)
          refine ls_skip hF (wanted_n hF rfl rfl rfl rfl rfl) rfl rfl (fun a hF => ?_)
          refine ls_skip hF (wanted_n hF rfl rfl rfl rfl rfl) rfl rfl (fun a hF => ?_)
          refine ls_skip hF (wanted_n hF rfl rfl rfl rfl rfl) rfl rfl (fun a hF => ?_)
          refine ls_skip hF (wanted_n hF rfl rfl rfl rfl rfl) rfl rfl (fun a hF => ?_)
          refine ls_skip hF (wanted_n hF rfl rfl rfl rfl rfl) rfl rfl (fun a hF => ?_)
          refine ls hF hW rfl ((y_pick_t hF rfl rfl rfl).q) (fun a w hF hW => ?_)
          refine ls hF hW rfl ((y_move hF rfl).q) (fun a w hF hW => ?_)
          refine ls_skip hF (wanted_n hF rfl rfl rfl rfl rfl) rfl rfl (fun a hF => ?_)
          refine ls_skip hF (wanted_n hF rfl rfl rfl rfl rfl) rfl rfl (fun a hF => ?_)
          refine ls_skip hF (wanted_n hF rfl rfl rfl rfl rfl) rfl rfl (fun a hF => ?_)
          refine ls_skip hF (wanted_n hF rfl rfl rfl rfl rfl) rfl rfl (fun a hF => ?_)
          refine ls_skip hF (wanted_n hF rfl rfl rfl rfl rfl) rfl rfl (fun a hF => ?_)
          refine ls_skip hF (wanted_n hF rfl rfl rfl rfl rfl) rfl rfl (fun a hF => ?_)
          refine ls hF hW rfl ((y_pick_t hF rfl rfl rfl).q) (fun a w hF hW => ?_)
          refine ls hF hW rfl ((y_move hF rfl).q) (fun a w hF hW => ?_)
          refine ls_skip hF (wanted_n hF rfl rfl rfl rfl rfl) rfl rfl (fun a hF => ?_)
          refine ls_skip hF (wanted_n hF rfl rfl rfl rfl rfl) rfl rfl (fun a hF => ?_)
          refine ls_skip hF (wanted_n hF rfl rfl rfl rfl rfl) rfl rfl (fun a hF => ?_)
          refine ls_skip hF (wanted_n hF rfl rfl rfl rfl rfl) rfl rfl (fun a hF => ?_)
          refine ls_skip hF (wanted_n hF rfl rfl rfl rfl rfl) rfl rfl (fun a hF => ?_)
          refine ls_skip hF (wanted_n hF rfl rfl rfl rfl rfl) rfl rfl (fun a hF => ?_)
          refine ls_skip hF (wanted_n hF rfl rfl rfl rfl rfl) rfl rfl (fun a hF => ?_)
          refine ls hF hW rfl ((y_pick_t hF rfl rfl rfl).q) (fun a w hF hW => ?_)
          refine ls_nil ?_
          refine c_then ?_
          exact ⟨_, H, hF.re ⟨rfl, rfl, rfl, rfl, rfl, trivial⟩, hW⟩
        ·
          have H := iteF (of_decide_eq_false hb) H
          rw [hb] at hF
          clear hb
          refine ls_w hF hW (wanted_y hF rfl rfl rfl rfl) rfl (Nat.le_of_ble_eq_true rfl) ((y_move hF rfl).q) (fun a w hF hW => ?_)
          refine ls_w hF hW (wanted_y hF rfl rfl rfl rfl) rfl (Nat.le_of_ble_eq_true rfl) ((y_move hF rfl).q) (fun a w hF hW => ?_)
          obtain ⟨x4, h2, H⟩ := bindE H
          refine ls_w hF hW (wanted_y hF rfl rfl rfl rfl) rfl (Nat.le_of_ble_eq_true rfl) ((y_index (r := R41) L22 hF rfl rfl (rdc_ro h_v1) h2).q) (fun a w hF hW => ?_)
          refine ls_w hF hW (wanted_y hF rfl rfl rfl rfl) rfl (Nat.le_of_ble_eq_true rfl) ((y_fieldAddr Try.underlying41 rfl rfl rfl T3 hF rfl (voff v1 + (x1).toNat * 2) rfl).q) (fun a w hF hW => ?_)
          refine ls_w hF hW (wanted_y hF rfl rfl rfl rfl) rfl (Nat.le_of_ble_eq_true rfl) ((y_load_el (y := Value.int .i64 x4.1) (j := 0) (i := x1) hF rfl rfl (rdc_ro h_v1) h2 F41.to T3 rfl).q) (fun a w hF hW => ?_)
          refine ls_w hF hW (wanted_y hF rfl rfl rfl rfl) rfl (Nat.le_of_ble_eq_true rfl) ((y_move hF rfl).q) (fun a w hF hW => ?_)
          refine ls_w hF hW (wanted_y hF rfl rfl rfl rfl) rfl (Nat.le_of_ble_eq_true rfl) ((y_geq hF rfl rfl).q) (fun a w hF hW => ?_)
          refine ls hF hW rfl ((y_pick_f hF rfl rfl rfl).q) (fun a w hF hW => ?_)
          refine ls hF hW rfl ((y_move hF rfl).q) (fun a w hF hW => ?_)
          rcases Bool.eq_false_or_eq_true (decide (p0 ≤ x4.1)) with hb | hb
          ·
            have H := iteT (of_decide_eq_true hb) H
            rw [hb] at hF
            clear hb
            refine ls_skip hF (wanted_n hF rfl rfl rfl rfl rfl) rfl rfl (fun a hF => ?_)
            refine ls_skip hF (wanted_n hF rfl rfl rfl rfl rfl) rfl rfl (fun a hF => ?_)
            refine ls_skip hF (wanted_n hF rfl rfl rfl rfl rfl) rfl rfl (fun a hF => ?_)
            refine ls_skip hF (wanted_n hF rfl rfl rfl rfl rfl) rfl rfl (fun a hF => ?_)
            refine ls_skip hF (wanted_n hF rfl rfl rfl rfl rfl) rfl rfl (fun a hF => ?_)
            refine ls_skip hF (wanted_n hF rfl rfl rfl rfl rfl) rfl rfl (fun a hF => ?_)
            refine ls hF hW rfl ((y_pick_t hF rfl rfl rfl).q) (fun a w hF hW => ?_)
            refine ls hF hW rfl ((y_move hF rfl).q) (fun a w hF hW => ?_)
            refine ls_skip hF (wanted_n hF rfl rfl rfl rfl rfl) rfl rfl (fun a hF => ?_)
            refine ls_skip hF (wanted_n hF rfl rfl rfl rfl rfl) rfl rfl (fun a hF => ?_)
            refine ls_skip hF (wanted_n hF rfl rfl rfl rfl rfl) rfl rfl (fun a hF => ?_)
            refine ls_skip hF (wanted_n hF rfl rfl rfl rfl rfl) rfl rfl (fun a hF => ?_)
            refine ls_skip hF (wanted_n hF rfl rfl rfl rfl rfl) rfl rfl (fun a hF => ?_)
            refine ls_skip hF (wanted_n hF rfl rfl rfl rfl rfl) rfl rfl (fun a hF => ?_)
            refine ls_skip hF (wanted_n hF rfl rfl rfl rfl rfl) rfl rfl (fun a hF => ?_)
            refine ls hF hW rfl ((y_pick_t hF rfl rfl rfl).q) (fun a w hF hW => ?_)
            refine ls_nil ?_
            refine c_then ?_
            exact ⟨_, H, hF.re ⟨rfl, rfl, rfl, rfl, rfl, trivial⟩, hW⟩
          ·
            have H := iteF (of_decide_eq_false hb) H
            rw [hb] at hF
            clear hb
            refine ls_w hF hW (wanted_y hF rfl rfl rfl rfl) rfl (Nat.le_of_ble_eq_true rfl) ((y_move hF rfl).q) (fun a w hF hW => ?_)
            refine ls_w hF hW (wanted_y hF rfl rfl rfl rfl) rfl (Nat.le_of_ble_eq_true rfl) ((y_move hF rfl).q) (fun a w hF hW => ?_)
            obtain ⟨x5, h3, H⟩ := bindE H
            refine ls_w hF hW (wanted_y hF rfl rfl rfl rfl) rfl (Nat.le_of_ble_eq_true rfl) ((y_index (r := R41) L22 hF rfl rfl (rdc_ro h_v1) h3).q) (fun a w hF hW => ?_)
            refine ls_w hF hW (wanted_y hF rfl rfl rfl rfl) rfl (Nat.le_of_ble_eq_true rfl) ((y_fieldAddr Try.underlying41 rfl rfl rfl T3 hF rfl (voff v1 + (x1).toNat * 2 + 1) rfl).q) (fun a w hF hW => ?_)
            refine ls_w hF hW (wanted_y hF rfl rfl rfl rfl) rfl (Nat.le_of_ble_eq_true rfl) ((y_load_el (y := Value.int .i64 x5.2) (j := 1) (i := x1) hF rfl rfl (rdc_ro h_v1) h3 F41.to T3 rfl).q) (fun a w hF hW => ?_)
            refine ls_w hF hW (wanted_y hF rfl rfl rfl rfl) rfl (Nat.le_of_ble_eq_true rfl) ((y_lss hF rfl rfl).q) (fun a w hF hW => ?_)
            refine ls hF hW rfl ((y_pick_f hF rfl rfl rfl).q) (fun a w hF hW => ?_)
            refine ls hF hW rfl ((y_move hF rfl).q) (fun a w hF hW => ?_)
            rcases Bool.eq_false_or_eq_true (decide (x5.2 < 0)) with hb | hb
            ·
              have H := iteT (of_decide_eq_true hb) H
              rw [hb] at hF
              clear hb
              refine ls_skip hF (wanted_n hF rfl rfl rfl rfl rfl) rfl rfl (fun a hF => ?_)
              refine ls_skip hF (wanted_n hF rfl rfl rfl rfl rfl) rfl rfl (fun a hF => ?_)
              refine ls_skip hF (wanted_n hF rfl rfl rfl rfl rfl) rfl rfl (fun a hF => ?_)
              refine ls_skip hF (wanted_n hF rfl rfl rfl rfl rfl) rfl rfl (fun a hF => ?_)
              refine ls_skip hF (wanted_n hF rfl rfl rfl rfl rfl) rfl rfl (fun a hF => ?_)
              refine ls_skip hF (wanted_n hF rfl rfl rfl rfl rfl) rfl rfl (fun a hF => ?_)
              refine ls_skip hF (wanted_n hF rfl rfl rfl rfl rfl) rfl rfl (fun a hF => ?_)
              refine ls hF hW rfl ((y_pick_t hF rfl rfl rfl).q) (fun a w hF hW => ?_)
              refine ls_nil ?_
              refine c_then ?_
              exact ⟨_, H, hF.re ⟨rfl, rfl, rfl, rfl, rfl, trivial⟩, hW⟩
            ·
              have H := iteF (of_decide_eq_false hb) H
              rw [hb] at hF
              clear hb
              refine ls_w hF hW (wanted_y hF rfl rfl rfl rfl) rfl (Nat.le_of_ble_eq_true rfl) ((y_move hF rfl).q) (fun a w hF hW => ?_)
              refine ls_w hF hW (wanted_y hF rfl rfl rfl rfl) rfl (Nat.le_of_ble_eq_true rfl) ((y_move hF rfl).q) (fun a w hF hW => ?_)
              obtain ⟨x6, h4, H⟩ := bindE H
              refine ls_w hF hW (wanted_y hF rfl rfl rfl rfl) rfl (Nat.le_of_ble_eq_true rfl) ((y_index (r := R41) L22 hF rfl rfl (rdc_ro h_v1) h4).q) (fun a w hF hW => ?_)
              refine ls_w hF hW (wanted_y hF rfl rfl rfl rfl) rfl (Nat.le_of_ble_eq_true rfl) ((y_fieldAddr Try.underlying41 rfl rfl rfl T3 hF rfl (voff v1 + (x1).toNat * 2 + 1) rfl).q) (fun a w hF hW => ?_)
              refine ls_w hF hW (wanted_y hF rfl rfl rfl rfl) rfl (Nat.le_of_ble_eq_true rfl) ((y_load_el (y := Value.int .i64 x6.2) (j := 1) (i := x1) hF rfl rfl (rdc_ro h_v1) h4 F41.to T3 rfl).q) (fun a w hF hW => ?_)
              refine ls_w hF hW (wanted_y hF rfl rfl rfl rfl) rfl (Nat.le_of_ble_eq_true rfl) ((y_move hF rfl).q) (fun a w hF hW => ?_)
              refine ls_w hF hW (wanted_y hF rfl rfl rfl rfl) rfl (Nat.le_of_ble_eq_true rfl) ((y_geq hF rfl rfl).q) (fun a w hF hW => ?_)
              refine ls hF hW rfl ((y_pick_f hF rfl rfl rfl).q) (fun a w hF hW => ?_)
              refine ls_nil ?_
              refine c_then ?_
              exact ⟨_, H, hF.re ⟨rfl, rfl, rfl, rfl, rfl, trivial⟩, hW⟩
      rintro a w ⟨x2, hj, hF, hW⟩
      have hj := Option.some.inj hj
      subst hj
      have H := K3
      clear G3 K3
      refine c_cond hF rfl (fun hb => ?_) (fun hb => ?_)
      ·
        have H := iteT hb H
        rw [hb] at hF
        clear hb
        refine c_seq ?_
        refine reg_list ?_
        refine ls hF hW rfl ((y_assign hF rfl).q) (fun a w hF hW => ?_)
        refine ls_nil ?_
        refine c_then ?_
        refine wp_ret ?_
        refine r_block ?_
        refine r_then ?_
        refine r_then ?_
        refine r_block ?_
        refine r_then ?_
        have H := L2 _ H
        have H := L1 _ H
        have H := Option.some.inj H
        subst H
        refine post1 (.inl rfl) hF hW rfl (rv_tmp hF rfl) ?_
        exact ⟨rfl, hW.done⟩
      ·
        have H := iteF (by rw [hb]; decide) H
        rw [hb] at hF
        clear hb
        refine wp_skip ?_
        refine b_normal ?_
        refine c_then ?_
        refine reg_list ?_
        refine ls hF hW rfl ((y_move hF rfl).q) (fun a w hF hW => ?_)
        refine ls hF hW rfl ((y_add hF rfl rfl rfl).q) (fun a w hF hW => ?_)
        refine ls hF hW rfl ((y_assign hF rfl).q) (fun a w hF hW => ?_)
        refine ls_nil ?_
        refine c_then ?_
        exact ⟨_, H, hF.re ⟨rfl, rfl, rfl, rfl, trivial⟩, hW⟩
    ·
      have H := iteF (of_decide_eq_false hb) H
      rw [hb] at hF
      clear hb
      refine wp_exit ?_
      refine e_then ?_
      refine e_then ?_
      refine e_block ?_
      refine c_then ?_
      have H := L2 _ H
      exact ⟨H, hF.re ⟨rfl, rfl, trivial⟩, hW⟩
  rintro a w ⟨hj, hF, hW⟩
  have H := K1 _ hj
  clear hj G1 K1 L1
  refine c_seqJ (fun a w => Fr 50 [] [(4, .bool (decide (0 ≤ p0) && decide (p0 ≤ 16)))] a ∧ Stw ⟨Y, [], w0⟩ [] [] w) ?_ ?_
  ·
    refine reg_list ?_
    refine ls hF hW rfl ((y_move hF rfl).q) (fun a w hF hW => ?_)
    refine ls hF hW rfl ((y_geq hF rfl rfl).q) (fun a w hF hW => ?_)
    refine ls hF hW rfl ((y_move hF rfl).q) (fun a w hF hW => ?_)
    rcases Bool.eq_false_or_eq_true (decide (0 ≤ p0)) with hb0 | hb0
    ·
      rw [hb0] at hF
      refine ls_w hF hW (wanted_y hF rfl rfl rfl rfl) rfl (Nat.le_of_ble_eq_true rfl) ((y_move hF rfl).q) (fun a w hF hW => ?_)
      refine ls_w hF hW (wanted_y hF rfl rfl rfl rfl) rfl (Nat.le_of_ble_eq_true rfl) ((y_leq hF rfl rfl).q) (fun a w hF hW => ?_)
      refine ls hF hW rfl ((y_pick_t hF rfl rfl rfl).q) (fun a w hF hW => ?_)
      refine ls hF hW rfl ((y_assign hF rfl).q) (fun a w hF hW => ?_)
      refine ls_nil ?_
      refine c_then ?_
      exact ⟨hF.re ⟨(by show some (Value.bool (decide (p0 ≤ 16))) = some (Value.bool (decide (0 ≤ p0) && decide (p0 ≤ 16))); try rw [hb0]; all_goals simp only [Bool.not_true, Bool.not_false, Bool.true_and, Bool.false_and, Bool.true_or, Bool.false_or, Bool.and_true, Bool.or_false, cond_true, cond_false]), trivial⟩, hW⟩
    ·
      rw [hb0] at hF
      refine ls_skip hF (wanted_n hF rfl rfl rfl rfl rfl) rfl rfl (fun a hF => ?_)
      refine ls_skip hF (wanted_n hF rfl rfl rfl rfl rfl) rfl rfl (fun a hF => ?_)
      refine ls hF hW rfl ((y_pick_f hF rfl rfl rfl).q) (fun a w hF hW => ?_)
      refine ls hF hW rfl ((y_assign hF rfl).q) (fun a w hF hW => ?_)
      refine ls_nil ?_
      refine c_then ?_
      exact ⟨hF.re ⟨(by show some (Value.bool false) = some (Value.bool (decide (0 ≤ p0) && decide (p0 ≤ 16))); try rw [hb0]; all_goals simp only [Bool.not_true, Bool.not_false, Bool.true_and, Bool.false_and, Bool.true_or, Bool.false_or, Bool.and_true, Bool.or_false, cond_true, cond_false]), trivial⟩, hW⟩
  rintro a w ⟨hF, hW⟩
  refine wp_ret ?_
  have H := Option.some.inj H
  subst H
  refine post1 (.inl rfl) hF hW rfl (rv_tmp hF rfl) ?_
  exact ⟨rfl, hW.done⟩

theorem H11 : Has Try.prog 11 := ⟨fun args w => run_callFunc_body Try.func11 rfl (by decide) args w⟩
noncomputable def r20_has_l1 (p0 : List Int) (p1 : Int) : Int → Option (Int ⊕ (Unit ⊕ Bool))
  | x1 => (if x1 < (p0.length : Int) then (ix p0 x1).bind fun x2 => (if x2 = p1 then some (.inr (.inr true)) else some (.inl (w64 (x1 + 1)))) else some (.inr (.inl ())))
noncomputable def r20_has (p0 : List Int) (p1 : Int) : Option Bool := orR (loopW (r20_has_l1 p0 p1) 0) fun _ => some false
theorem r20_has_c (Y : Nat → Prop) (w0 : World) (v1 : Value) (p0 : List Int) (p1 : Int) (r : Bool) (H : r20_has p0 p1 = some r) (h_v1 : Sl w0 (NX []) (Rp.int .i64) v1 p0) :
    Calls Try.prog 29 #[v1, .int .i64 p1] w0 fun e w' => e = .returned (.bool r) ∧ Below w0.heap.size w0 w' := by
  refine enter Try.func29 rfl Try.ntmps29 rfl (fun a hF => ?_)
  have hW := Stw.start Y w0
  unfold r20_has at H
  refine c_seq ?_
  refine reg_list ?_
  refine ls hF hW rfl ((y_assign hF rfl).q) (fun a w hF hW => ?_)
  refine ls_nil ?_
  refine c_then ?_
  obtain ⟨o1, G1, K1, L1⟩ := orE H
  refine c_seqJ (fun a w => some (Sum.inl ()) = some o1 ∧ Fr 18 [] [(4, .bool false)] a ∧ Stw ⟨Y, [], w0⟩ [] [] w) ?_ ?_
  ·
    have H := G1
    clear G1 K1
    refine c_seq ?_
    refine reg_list ?_
    refine ls hF hW rfl ((y_assign hF rfl).q) (fun a w hF hW => ?_)
    refine ls_nil ?_
    refine c_then ?_
    refine wp_block ?_
    refine c_loopW H (fun s a w => Fr 18 [] [(0, v1), (1, .int .i64 p1), (4, .bool false), (5, .int .i64 s)] a ∧ Stw ⟨Y, [], w0⟩ [] [] w) ⟨hF.re ⟨rfl, rfl, rfl, rfl, trivial⟩, hW⟩ (fun s o a w H L2 hR => ?_)
    obtain ⟨x1, rfl⟩ : ∃ x, x = s := ⟨s, rfl⟩
    obtain ⟨hF, hW⟩ := hR
    have hF : Fr 18 [] [(0, v1), (1, .int .i64 p1), (4, .bool false), (5, .int .i64 x1)] a := hF
    have hW : Stw ⟨Y, [], w0⟩ [] [] w := hW
    rw [r20_has_l1] at H
    refine c_seq ?_
    refine c_seq ?_
    refine reg_list ?_
    refine ls hF hW rfl ((y_move hF rfl).q) (fun a w hF hW => ?_)
    refine ls hF hW rfl ((y_move hF rfl).q) (fun a w hF hW => ?_)
    refine ls hF hW rfl ((y_len (r := (Rp.int .i64)) (l := p0) Try.underlying26 rfl hF rfl (rdc_ro h_v1)).q) (fun a w hF hW => ?_)
    refine ls hF hW rfl ((y_lss hF rfl rfl).q) (fun a w hF hW => ?_)
    refine ls_nil ?_
    refine c_then ?_
    refine c_cond hF rfl (fun hb => ?_) (fun hb => ?_)
    ·
      have H := iteT (of_decide_eq_true hb) H
      rw [hb] at hF
      clear hb
      refine wp_skip ?_
      refine c_then ?_
      refine c_seq ?_
      refine wp_block ?_
      refine c_seq ?_
      refine reg_list ?_
      refine ls hF hW rfl ((y_move hF rfl).q) (fun a w hF hW => ?_)
      refine ls hF hW rfl ((y_move hF rfl).q) (fun a w hF hW => ?_)
      obtain ⟨x2, h1, H⟩ := bindE H
      refine ls hF hW rfl ((y_index (r := (Rp.int .i64)) L26 hF rfl rfl (rdc_ro h_v1) h1).q) (fun a w hF hW => ?_)
      refine ls hF hW rfl ((y_load_el (y := Value.int .i64 x2) (j := 0) (i := x1) hF rfl rfl (rdc_ro h_v1) h1 Fl.int.to T3 rfl).q) (fun a w hF hW => ?_)
      refine ls hF hW rfl ((y_move hF rfl).q) (fun a w hF hW => ?_)
      refine ls hF hW rfl ((y_eql hF rfl rfl).q) (fun a w hF hW => ?_)
      refine ls_nil ?_
      refine c_then ?_
      refine c_cond hF rfl (fun hb => ?_) (fun hb => ?_)
      ·
        have H := iteT (of_decide_eq_true hb) H
        rw [hb] at hF
        clear hb
        refine c_seq ?_
        refine reg_list ?_
        refine ls hF hW rfl ((y_assign hF rfl).q) (fun a w hF hW => ?_)
        refine ls_nil ?_
        refine c_then ?_
        refine wp_ret ?_
        refine r_block ?_
        refine r_then ?_
        refine r_then ?_
        refine r_block ?_
        refine r_then ?_
        have H := L2 _ H
        have H := L1 _ H
        have H := Option.some.inj H
        subst H
        refine post1 (.inl rfl) hF hW rfl (rv_tmp hF rfl) ?_
        exact ⟨rfl, hW.done⟩
      ·
        have H := iteF (of_decide_eq_false hb) H
        rw [hb] at hF
        clear hb
        refine wp_skip ?_
        refine b_normal ?_
        refine c_then ?_
        refine reg_list ?_
        refine ls hF hW rfl ((y_move hF rfl).q) (fun a w hF hW => ?_)
        refine ls hF hW rfl ((y_add hF rfl rfl rfl).q) (fun a w hF hW => ?_)
        refine ls hF hW rfl ((y_assign hF rfl).q) (fun a w hF hW => ?_)
        refine ls_nil ?_
        refine c_then ?_
        exact ⟨_, H, hF.re ⟨rfl, rfl, rfl, rfl, trivial⟩, hW⟩
    ·
      have H := iteF (of_decide_eq_false hb) H
      rw [hb] at hF
      clear hb
      refine wp_exit ?_
      refine e_then ?_
      refine e_then ?_
      refine e_block ?_
      refine c_then ?_
      have H := L2 _ H
      exact ⟨H, hF.re ⟨rfl, trivial⟩, hW⟩
  rintro a w ⟨hj, hF, hW⟩
  have H := K1 _ hj
  clear hj G1 K1 L1
  refine c_seq ?_
  refine reg_list ?_
  refine ls hF hW rfl ((y_assign hF rfl).q) (fun a w hF hW => ?_)
  refine ls_nil ?_
  refine c_then ?_
  refine wp_ret ?_
  have H := Option.some.inj H
  subst H
  refine post1 (.inl rfl) hF hW rfl (rv_tmp hF rfl) ?_
  exact ⟨rfl, hW.done⟩

theorem H29 : Has Try.prog 29 := ⟨fun args w => run_callFunc_body Try.func29 rfl (by decide) args w⟩
noncomputable def r20_edge_l1 (p0 : List (Int × Int)) (p1 : Int) (p2 : Int) : Int → Option (Int ⊕ (Unit ⊕ Bool))
  | x1 => (if x1 < (p0.length : Int) then ((ix p0 x1).bind fun x3 => (if x3.1 = p1 then (ix p0 x1).bind fun x4 => some (decide (x4.2 = p2)) else some false)).bind fun x2 => (if x2 = true then some (.inr (.inr true)) else some (.inl (w64 (x1 + 1)))) else some (.inr (.inl ())))
noncomputable def r20_edge (p0 : List (Int × Int)) (p1 : Int) (p2 : Int) : Option Bool := orR (loopW (r20_edge_l1 p0 p1 p2) 0) fun _ => some false
theorem r20_edge_c (Y : Nat → Prop) (w0 : World) (v1 : Value) (p0 : List (Int × Int)) (p1 : Int) (p2 : Int) (r : Bool) (H : r20_edge p0 p1 p2 = some r) (h_v1 : Sl w0 (NX []) R41 v1 p0) :
    Calls Try.prog 28 #[v1, .int .i64 p1, .int .i64 p2] w0 fun e w' => e = .returned (.bool r) ∧ Below w0.heap.size w0 w' := by
  refine enter Try.func28 rfl Try.ntmps28 rfl (fun a hF => ?_)
  have hW := Stw.start Y w0
  unfold r20_edge at H
  refine c_seq ?_
  refine reg_list ?_
  refine ls hF hW rfl ((y_assign hF rfl).q) (fun a w hF hW => ?_)
  refine ls_nil ?_
  refine c_then ?_
  obtain ⟨o1, G1, K1, L1⟩ := orE H
  refine c_seqJ (fun a w => some (Sum.inl ()) = some o1 ∧ Fr 30 [] [(6, .bool false)] a ∧ Stw ⟨Y, [], w0⟩ [] [] w) ?_ ?_
  ·
    have H := G1
    clear G1 K1
    refine c_seq ?_
    refine reg_list ?_
    refine ls hF hW rfl ((y_assign hF rfl).q) (fun a w hF hW => ?_)
    refine ls_nil ?_
    refine c_then ?_
    refine wp_block ?_
    refine c_loopW H (fun s a w => Fr 30 [] [(0, v1), (1, .int .i64 p1), (2, .int .i64 p2), (6, .bool false), (7, .int .i64 s)] a ∧ Stw ⟨Y, [], w0⟩ [] [] w) ⟨hF.re ⟨rfl, rfl, rfl, rfl, rfl, trivial⟩, hW⟩ (fun s o a w H L2 hR => ?_)
    obtain ⟨x1, rfl⟩ : ∃ x, x = s := ⟨s, rfl⟩
    obtain ⟨hF, hW⟩ := hR
    have hF : Fr 30 [] [(0, v1), (1, .int .i64 p1), (2, .int .i64 p2), (6, .bool false), (7, .int .i64 x1)] a := hF
    have hW : Stw ⟨Y, [], w0⟩ [] [] w := hW
    rw [r20_edge_l1] at H
    refine c_seq ?_
    refine c_seq ?_
    refine reg_list ?_
    refine ls hF hW rfl ((y_move hF rfl).q) (fun a w hF hW => ?_)
    refine ls hF hW rfl ((y_move hF rfl).q) (fun a w hF hW => ?_)
    refine ls hF hW rfl ((y_len (r := R41) (l := p0) Try.underlying22 rfl hF rfl (rdc_ro h_v1)).q) (fun a w hF hW => ?_)
    refine ls hF hW rfl ((y_lss hF rfl rfl).q) (fun a w hF hW => ?_)
    refine ls_nil ?_
    refine c_then ?_
    refine c_cond hF rfl (fun hb => ?_) (fun hb => ?_)
    ·
      have H := iteT (of_decide_eq_true hb) H
      rw [hb] at hF
      clear hb
      refine wp_skip ?_
      refine c_then ?_
      refine c_seq ?_
      refine wp_block ?_
      obtain ⟨o3, G3, K3⟩ := bindE H
      refine c_seqJ (fun a w => ∃ x2 : Bool, some (x2) = some o3 ∧ Fr 30 [] [(0, v1), (1, .int .i64 p1), (2, .int .i64 p2), (6, .bool false), (7, .int .i64 x1), (29, .bool x2)] a ∧ Stw ⟨Y, [], w0⟩ [] [] w) ?_ ?_
      ·
        have H := G3
        clear G3 K3
        refine reg_list ?_
        refine ls hF hW rfl ((y_move hF rfl).q) (fun a w hF hW => ?_)
        refine ls hF hW rfl ((y_move hF rfl).q) (fun a w hF hW => ?_)
        obtain ⟨x3, h1, H⟩ := bindE H
        refine ls hF hW rfl ((y_index (r := R41) L22 hF rfl rfl (rdc_ro h_v1) h1).q) (fun a w hF hW => ?_)
        refine ls hF hW rfl ((y_fieldAddr Try.underlying41 rfl rfl rfl T3 hF rfl (voff v1 + (x1).toNat * 2) rfl).q) (fun a w hF hW => ?_)
        refine ls hF hW rfl ((y_load_el (y := Value.int .i64 x3.1) (j := 0) (i := x1) hF rfl rfl (rdc_ro h_v1) h1 F41.to T3 rfl).q) (fun a w hF hW => ?_)
        refine ls hF hW rfl ((y_move hF rfl).q) (fun a w hF hW => ?_)
        refine ls hF hW rfl ((y_eql hF rfl rfl).q) (fun a w hF hW => ?_)
        refine ls hF hW rfl ((y_move hF rfl).q) (fun a w hF hW => ?_)
        rcases Bool.eq_false_or_eq_true (decide (x3.1 = p1)) with hb | hb
        ·
          have H := iteT (of_decide_eq_true hb) H
          rw [hb] at hF
          clear hb
          refine ls_w hF hW (wanted_y hF rfl rfl rfl rfl) rfl (Nat.le_of_ble_eq_true rfl) ((y_move hF rfl).q) (fun a w hF hW => ?_)
          refine ls_w hF hW (wanted_y hF rfl rfl rfl rfl) rfl (Nat.le_of_ble_eq_true rfl) ((y_move hF rfl).q) (fun a w hF hW => ?_)
          obtain ⟨x4, h2, H⟩ := bindE H
          refine ls_w hF hW (wanted_y hF rfl rfl rfl rfl) rfl (Nat.le_of_ble_eq_true rfl) ((y_index (r := R41) L22 hF rfl rfl (rdc_ro h_v1) h2).q) (fun a w hF hW => ?_)
          refine ls_w hF hW (wanted_y hF rfl rfl rfl rfl) rfl (Nat.le_of_ble_eq_true rfl) ((y_fieldAddr Try.underlying41 rfl rfl rfl T3 hF rfl (voff v1 + (x1).toNat * 2 + 1) rfl).q) (fun a w hF hW => ?_)
          refine ls_w hF hW (wanted_y hF rfl rfl rfl rfl) rfl (Nat.le_of_ble_eq_true rfl) ((y_load_el (y := Value.int .i64 x4.2) (j := 1) (i := x1) hF rfl rfl (rdc_ro h_v1) h2 F41.to T3 rfl).q) (fun a w hF hW => ?_)
          refine ls_w hF hW (wanted_y hF rfl rfl rfl rfl) rfl (Nat.le_of_ble_eq_true rfl) ((y_move hF rfl).q) (fun a w hF hW => ?_)
          refine ls_w hF hW (wanted_y hF rfl rfl rfl rfl) rfl (Nat.le_of_ble_eq_true rfl) ((y_eql hF rfl rfl).q) (fun a w hF hW => ?_)
          refine ls hF hW rfl ((y_pick_t hF rfl rfl rfl).q) (fun a w hF hW => ?_)
          refine ls_nil ?_
          refine c_then ?_
          exact ⟨_, H, hF.re ⟨rfl, rfl, rfl, rfl, rfl, rfl, trivial⟩, hW⟩
        ·
          have H := iteF (of_decide_eq_false hb) H
          rw [hb] at hF
          clear hb
          refine ls_skip hF (wanted_n hF rfl rfl rfl rfl rfl) rfl rfl (fun a hF => ?_)
          refine ls_skip hF (wanted_n hF rfl rfl rfl rfl rfl) rfl rfl (fun a hF => ?_)
          refine ls_skip hF (wanted_n hF rfl rfl rfl rfl rfl) rfl rfl (fun a hF => ?_)
          refine ls_skip hF (wanted_n hF rfl rfl rfl rfl rfl) rfl rfl (fun a hF => ?_)
          refine ls_skip hF (wanted_n hF rfl rfl rfl rfl rfl) rfl rfl (fun a hF => ?_)
          refine ls_skip hF (wanted_n hF rfl rfl rfl rfl rfl) rfl rfl (fun a hF => ?_)
          refine ls_skip hF (wanted_n hF rfl rfl rfl rfl rfl) rfl rfl (fun a hF => ?_)
          refine ls hF hW rfl ((y_pick_f hF rfl rfl rfl).q) (fun a w hF hW => ?_)
          refine ls_nil ?_
          refine c_then ?_
          exact ⟨_, H, hF.re ⟨rfl, rfl, rfl, rfl, rfl, rfl, trivial⟩, hW⟩
      rintro a w ⟨x2, hj, hF, hW⟩
      have hj := Option.some.inj hj
      subst hj
      have H := K3
      clear G3 K3
      refine c_cond hF rfl (fun hb => ?_) (fun hb => ?_)
      ·
        have H := iteT hb H
        rw [hb] at hF
        clear hb
        refine c_seq ?_
        refine reg_list ?_
        refine ls hF hW rfl ((y_assign hF rfl).q) (fun a w hF hW => ?_)
        refine ls_nil ?_
        refine c_then ?_
        refine wp_ret ?_
        refine r_block ?_
        refine r_then ?_
        refine r_then ?_
        refine r_block ?_
        refine r_then ?_
        have H := L2 _ H
        have H := L1 _ H
        have H := Option.some.inj H
        subst H
        refine post1 (.inl rfl) hF hW rfl (rv_tmp hF rfl) ?_
        exact ⟨rfl, hW.done⟩
      ·
        have H := iteF (by rw [hb]; decide) H
        rw [hb] at hF
        clear hb
        refine wp_skip ?_
        refine b_normal ?_
        refine c_then ?_
        refine reg_list ?_
        refine ls hF hW rfl ((y_move hF rfl).q) (fun a w hF hW => ?_)
        refine ls hF hW rfl ((y_add hF rfl rfl rfl).q) (fun a w hF hW => ?_)
        refine ls hF hW rfl ((y_assign hF rfl).q) (fun a w hF hW => ?_)
        refine ls_nil ?_
        refine c_then ?_
        exact ⟨_, H, hF.re ⟨rfl, rfl, rfl, rfl, rfl, trivial⟩, hW⟩
    ·
      have H := iteF (of_decide_eq_false hb) H
      rw [hb] at hF
      clear hb
      refine wp_exit ?_
      refine e_then ?_
      refine e_then ?_
      refine e_block ?_
      refine c_then ?_
      have H := L2 _ H
      exact ⟨H, hF.re ⟨rfl, trivial⟩, hW⟩
  rintro a w ⟨hj, hF, hW⟩
  have H := K1 _ hj
  clear hj G1 K1 L1
  refine c_seq ?_
  refine reg_list ?_
  refine ls hF hW rfl ((y_assign hF rfl).q) (fun a w hF hW => ?_)
  refine ls_nil ?_
  refine c_then ?_
  refine wp_ret ?_
  have H := Option.some.inj H
  subst H
  refine post1 (.inl rfl) hF hW rfl (rv_tmp hF rfl) ?_
  exact ⟨rfl, hW.done⟩

theorem H28 : Has Try.prog 28 := ⟨fun args w => run_callFunc_body Try.func28 rfl (by decide) args w⟩
noncomputable def r20_free_l1 (p0 : Int) (p1 : List (Int × Int)) (p2 : List Int) (p3 : Int) : Int → Option (Int ⊕ (Unit ⊕ Bool))
  | x2 => (if x2 < p0 then ((r20_edge p1 x2 p3).bind fun x4 => (if x4 = true then (r20_has p2 x2).bind fun x5 => some (!x5) else some false)).bind fun x3 => (if x3 = true then some (.inr (.inr false)) else some (.inl (w64 (x2 + 1)))) else some (.inr (.inl ())))
noncomputable def r20_free (p0 : Int) (p1 : List (Int × Int)) (p2 : List Int) (p3 : Int) : Option Bool := (r20_has p2 p3).bind fun x1 => (if x1 = true then some false else orR (loopW (r20_free_l1 p0 p1 p2 p3) 0) fun _ => some true)
theorem r20_free_c (Y : Nat → Prop) (w0 : World) (v1 : Value) (v2 : Value) (p0 : Int) (p1 : List (Int × Int)) (p2 : List Int) (p3 : Int) (r : Bool) (H : r20_free p0 p1 p2 p3 = some r) (h_v1 : Sl w0 (NX []) R41 v1 p1) (h_v2 : Sl w0 (NX []) (Rp.int .i64) v2 p2) :
    Calls Try.prog 24 #[.int .i64 p0, v1, v2, .int .i64 p3] w0 fun e w' => e = .returned (.bool r) ∧ Below w0.heap.size w0 w' := by
  refine enter Try.func24 rfl Try.ntmps24 rfl (fun a hF => ?_)
  have hW := Stw.start Y w0
  unfold r20_free at H
  refine c_seq ?_
  refine reg_list ?_
  refine ls hF hW rfl ((y_assign hF rfl).q) (fun a w hF hW => ?_)
  refine ls_nil ?_
  refine c_then ?_
  refine c_seq ?_
  refine c_seq ?_
  refine reg_list ?_
  refine ls hF hW rfl ((y_move hF rfl).q) (fun a w hF hW => ?_)
  refine ls hF hW rfl ((y_move hF rfl).q) (fun a w hF hW => ?_)
  obtain ⟨x1, h1, H⟩ := bindE H
  refine ls hF hW rfl (y_call (v := Value.bool x1) hF H29 rfl (fun w hW => r20_has_c any w (v2) p2 p3 _ h1 (((rdc_ro h_v2) : Rdc _ _ _ _ _ _) w hW).nx)) (fun a w hF hW => ?_)
  refine ls_nil ?_
  refine c_then ?_
  refine c_cond hF rfl (fun hb => ?_) (fun hb => ?_)
  ·
    have H := iteT hb H
    rw [hb] at hF
    clear hb
    refine c_seq ?_
    refine reg_list ?_
    refine ls hF hW rfl ((y_assign hF rfl).q) (fun a w hF hW => ?_)
    refine ls_nil ?_
    refine c_then ?_
    refine wp_ret ?_
    refine r_then ?_
    have H := Option.some.inj H
    subst H
    refine post1 (.inl rfl) hF hW rfl (rv_tmp hF rfl) ?_
    exact ⟨rfl, hW.done⟩
  ·
    have H := iteF (by rw [hb]; decide) H
    rw [hb] at hF
    clear hb
    refine wp_skip ?_
    refine c_then ?_
    obtain ⟨o1, G1, K1, L1⟩ := orE H
    refine c_seqJ (fun a w => some (Sum.inl ()) = some o1 ∧ Fr 28 [] [(8, .bool false)] a ∧ Stw ⟨Y, [], w0⟩ [] [] w) ?_ ?_
    ·
      have H := G1
      clear G1 K1
      refine c_seq ?_
      refine reg_list ?_
      refine ls hF hW rfl ((y_assign hF rfl).q) (fun a w hF hW => ?_)
      refine ls_nil ?_
      refine c_then ?_
      refine wp_block ?_
      refine c_loopW H (fun s a w => Fr 28 [] [(0, .int .i64 p0), (1, v1), (2, v2), (3, .int .i64 p3), (8, .bool false), (9, .int .i64 s)] a ∧ Stw ⟨Y, [], w0⟩ [] [] w) ⟨hF.re ⟨rfl, rfl, rfl, rfl, rfl, rfl, trivial⟩, hW⟩ (fun s o a w H L2 hR => ?_)
      obtain ⟨x2, rfl⟩ : ∃ x, x = s := ⟨s, rfl⟩
      obtain ⟨hF, hW⟩ := hR
      have hF : Fr 28 [] [(0, .int .i64 p0), (1, v1), (2, v2), (3, .int .i64 p3), (8, .bool false), (9, .int .i64 x2)] a := hF
      have hW : Stw ⟨Y, [], w0⟩ [] [] w := hW
      rw [r20_free_l1] at H
      refine c_seq ?_
      refine c_seq ?_
      refine reg_list ?_
      refine ls hF hW rfl ((y_move hF rfl).q) (fun a w hF hW => ?_)
      refine ls hF hW rfl ((y_move hF rfl).q) (fun a w hF hW => ?_)
      refine ls hF hW rfl ((y_lss hF rfl rfl).q) (fun a w hF hW => ?_)
      refine ls_nil ?_
      refine c_then ?_
      refine c_cond hF rfl (fun hb => ?_) (fun hb => ?_)
      ·
        have H := iteT (of_decide_eq_true hb) H
        rw [hb] at hF
        clear hb
        refine wp_skip ?_
        refine c_then ?_
        refine c_seq ?_
        refine wp_block ?_
        obtain ⟨o3, G3, K3⟩ := bindE H
        refine c_seqJ (fun a w => ∃ x3 : Bool, some (x3) = some o3 ∧ Fr 28 [] [(0, .int .i64 p0), (1, v1), (2, v2), (3, .int .i64 p3), (8, .bool false), (9, .int .i64 x2), (27, .bool x3)] a ∧ Stw ⟨Y, [], w0⟩ [] [] w) ?_ ?_
        ·
          have H := G3
          clear G3 K3
          refine reg_list ?_
          refine ls hF hW rfl ((y_move hF rfl).q) (fun a w hF hW => ?_)
          refine ls hF hW rfl ((y_move hF rfl).q) (fun a w hF hW => ?_)
          refine ls hF hW rfl ((y_move hF rfl).q) (fun a w hF hW => ?_)
          obtain ⟨x4, h2, H⟩ := bindE H
          refine ls hF hW rfl (y_call (v := Value.bool x4) hF H28 rfl (fun w hW => r20_edge_c any w (v1) p1 x2 p3 _ h2 (((rdc_ro h_v1) : Rdc _ _ _ _ _ _) w hW).nx)) (fun a w hF hW => ?_)
          refine ls hF hW rfl ((y_move hF rfl).q) (fun a w hF hW => ?_)
          rcases Bool.eq_false_or_eq_true x4 with hb | hb
          ·
            have H := iteT hb H
            rw [hb] at hF
            clear hb
            refine ls_w hF hW (wanted_y hF rfl rfl rfl rfl) rfl (Nat.le_of_ble_eq_true rfl) ((y_move hF rfl).q) (fun a w hF hW => ?_)
            refine ls_w hF hW (wanted_y hF rfl rfl rfl rfl) rfl (Nat.le_of_ble_eq_true rfl) ((y_move hF rfl).q) (fun a w hF hW => ?_)
            refine ls_g (wanted_y hF rfl rfl rfl rfl) ?_
            obtain ⟨x5, h3, H⟩ := bindE H
            refine ls hF hW rfl (y_call (v := Value.bool x5) hF H29 rfl (fun w hW => r20_has_c any w (v2) p2 x2 _ h3 (((rdc_ro h_v2) : Rdc _ _ _ _ _ _) w hW).nx)) (fun a w hF hW => ?_)
            refine ls_w hF hW (wanted_y hF rfl rfl rfl rfl) rfl (Nat.le_of_ble_eq_true rfl) ((y_not hF rfl).q) (fun a w hF hW => ?_)
            refine ls hF hW rfl ((y_pick_t hF rfl rfl rfl).q) (fun a w hF hW => ?_)
            refine ls_nil ?_
            refine c_then ?_
            exact ⟨_, H, hF.re ⟨rfl, rfl, rfl, rfl, rfl, rfl, rfl, trivial⟩, hW⟩
          ·
            have H := iteF (by rw [hb]; decide) H
            rw [hb] at hF
            clear hb
            refine ls_skip hF (wanted_n hF rfl rfl rfl rfl rfl) rfl rfl (fun a hF => ?_)
            refine ls_skip hF (wanted_n hF rfl rfl rfl rfl rfl) rfl rfl (fun a hF => ?_)
            refine ls_skip hF (wanted_n hF rfl rfl rfl rfl rfl) rfl rfl (fun a hF => ?_)
            refine ls_skip hF (wanted_n hF rfl rfl rfl rfl rfl) rfl rfl (fun a hF => ?_)
            refine ls hF hW rfl ((y_pick_f hF rfl rfl rfl).q) (fun a w hF hW => ?_)
            refine ls_nil ?_
            refine c_then ?_
            exact ⟨_, H, hF.re ⟨rfl, rfl, rfl, rfl, rfl, rfl, rfl, trivial⟩, hW⟩
        rintro a w ⟨x3, hj, hF, hW⟩
        have hj := Option.some.inj hj
        subst hj
        have H := K3
        clear G3 K3
        refine c_cond hF rfl (fun hb => ?_) (fun hb => ?_)
        ·
          have H := iteT hb H
          rw [hb] at hF
          clear hb
          refine c_seq ?_
          refine reg_list ?_
          refine ls hF hW rfl ((y_assign hF rfl).q) (fun a w hF hW => ?_)
          refine ls_nil ?_
          refine c_then ?_
          refine wp_ret ?_
          refine r_block ?_
          refine r_then ?_
          refine r_then ?_
          refine r_block ?_
          refine r_then ?_
          have H := L2 _ H
          have H := L1 _ H
          have H := Option.some.inj H
          subst H
          refine post1 (.inl rfl) hF hW rfl (rv_tmp hF rfl) ?_
          exact ⟨rfl, hW.done⟩
        ·
          have H := iteF (by rw [hb]; decide) H
          rw [hb] at hF
          clear hb
          refine wp_skip ?_
          refine b_normal ?_
          refine c_then ?_
          refine reg_list ?_
          refine ls hF hW rfl ((y_move hF rfl).q) (fun a w hF hW => ?_)
          refine ls hF hW rfl ((y_add hF rfl rfl rfl).q) (fun a w hF hW => ?_)
          refine ls hF hW rfl ((y_assign hF rfl).q) (fun a w hF hW => ?_)
          refine ls_nil ?_
          refine c_then ?_
          exact ⟨_, H, hF.re ⟨rfl, rfl, rfl, rfl, rfl, rfl, trivial⟩, hW⟩
      ·
        have H := iteF (of_decide_eq_false hb) H
        rw [hb] at hF
        clear hb
        refine wp_exit ?_
        refine e_then ?_
        refine e_then ?_
        refine e_block ?_
        refine c_then ?_
        have H := L2 _ H
        exact ⟨H, hF.re ⟨rfl, trivial⟩, hW⟩
    rintro a w ⟨hj, hF, hW⟩
    have H := K1 _ hj
    clear hj G1 K1 L1
    refine c_seq ?_
    refine reg_list ?_
    refine ls hF hW rfl ((y_assign hF rfl).q) (fun a w hF hW => ?_)
    refine ls_nil ?_
    refine c_then ?_
    refine wp_ret ?_
    have H := Option.some.inj H
    subst H
    refine post1 (.inl rfl) hF hW rfl (rv_tmp hF rfl) ?_
    exact ⟨rfl, hW.done⟩

theorem H24 : Has Try.prog 24 := ⟨fun args w => run_callFunc_body Try.func24 rfl (by decide) args w⟩
noncomputable def r20_Order_l2 (p0 : Int) (p1 : List (Int × Int)) (x3 : List Int) : (Int × Int) → Option ((Int × Int) ⊕ Int)
  | (x5, x6) => (if 0 ≤ x6 then ((r20_free p0 p1 x3 x6).bind fun x8 => (if x8 = true then some x6 else some x5)).bind fun x7 => some (.inl (x7, w64 (x6 - 1))) else some (.inr x5))
noncomputable def r20_Order_l1 (p0 : Int) (p1 : List (Int × Int)) : (List Int) → Option ((List Int) ⊕ ((List Int) ⊕ (List Int × Bool)))
  | x3 => (if (x3.length : Int) < p0 then (loopW (r20_Order_l2 p0 p1 x3) ((-1), w64 (p0 - 1))).bind fun x4 => (if x4 = (-1) then some (.inr (.inr (([] : List Int), false))) else (app x3 ([x4] : List Int)).bind fun x9 => some (.inl x9)) else some (.inr (.inl x3)))
noncomputable def r20_Order (p0 : Int) (p1 : List (Int × Int)) : Option (List Int × Bool) := (r20_Right p0 p1).bind fun x1 => (if (!x1) = true then some (([] : List Int), false) else orR (loopW (r20_Order_l1 p0 p1) ([])) fun x2 => some (x2, true))
theorem r20_Order_c (Y : Nat → Prop) (w0 : World) (v1 : Value) (p0 : Int) (p1 : List (Int × Int)) (r : List Int × Bool) (H : r20_Order p0 p1 = some r) (h_v1 : Sl w0 (NX []) R41 v1 p1) :
    Calls Try.prog 9 #[.int .i64 p0, v1] w0 fun e w' => ∃ x : Value, e = .returned (.tuple #[x, .bool r.2]) ∧ Stw ⟨Y, [], w0⟩ [] [row (x) 3 (Rp.int .i64) r.1] w' := by
  refine enter Try.func9 rfl Try.ntmps9 rfl (fun a hF => ?_)
  have hW := Stw.start Y w0
  unfold r20_Order at H
  refine c_seq ?_
  refine reg_list ?_
  refine ls hF hW rfl ((y_assign hF rfl).q) (fun a w hF hW => ?_)
  refine ls hF hW rfl ((y_assign hF rfl).q) (fun a w hF hW => ?_)
  refine ls_nil ?_
  refine c_then ?_
  refine c_seq ?_
  refine c_seq ?_
  refine reg_list ?_
  refine ls hF hW rfl ((y_move hF rfl).q) (fun a w hF hW => ?_)
  refine ls hF hW rfl ((y_move hF rfl).q) (fun a w hF hW => ?_)
  obtain ⟨x1, h1, H⟩ := bindE H
  refine ls hF hW rfl (y_call (v := Value.bool x1) hF H11 rfl (fun w hW => r20_Right_c any w (v1) p0 p1 _ h1 (((rdc_ro h_v1) : Rdc _ _ _ _ _ _) w hW).nx)) (fun a w hF hW => ?_)
  refine ls hF hW rfl ((y_not hF rfl).q) (fun a w hF hW => ?_)
  refine ls_nil ?_
  refine c_then ?_
  refine c_cond hF rfl (fun hb => ?_) (fun hb => ?_)
  ·
    have H := iteT hb H
    rw [hb] at hF
    clear hb
    refine c_seq ?_
    refine reg_list ?_
    refine ls hF hW rfl ((y_assign hF rfl).q) (fun a w hF hW => ?_)
    refine ls hF hW rfl ((y_assign hF rfl).q) (fun a w hF hW => ?_)
    refine ls_nil ?_
    refine c_then ?_
    refine wp_ret ?_
    refine r_then ?_
    have H := Option.some.inj H
    subst H
    refine post2 (.inl rfl) hF hW rfl (rv_tmp hF rfl) (rv_tmp hF rfl) ?_
    have hW := hW.nilRow 3 (Rp.int .i64)
    exact ⟨(Value.slice none 0 0), rfl, hW⟩
  ·
    have H := iteF (by rw [hb]; decide) H
    rw [hb] at hF
    clear hb
    refine wp_skip ?_
    refine c_then ?_
    refine c_seq ?_
    refine reg_list ?_
    refine ls hF hW rfl ((y_assign hF rfl).q) (fun a w hF hW => ?_)
    refine ls_nil ?_
    refine c_then ?_
    obtain ⟨o1, G1, K1, L1⟩ := orE H
    refine c_seqJ (fun a w => ∃ x2 : List Int, ∃ v2 : Value, some (Sum.inl x2) = some o1 ∧ Fr 36 [] [(4, .slice none 0 0), (5, .bool false), (6, v2)] a ∧ Stw ⟨Y, [], w0⟩ [] [row v2 3 (Rp.int .i64) x2] w) ?_ ?_
    ·
      have H := G1
      clear G1 K1
      refine wp_block ?_
      have hW := hW.nilRow 3 (Rp.int .i64)
      refine c_loopW H (fun s a w => ∃ v3 : Value, Fr 36 [] [(0, .int .i64 p0), (1, v1), (4, .slice none 0 0), (5, .bool false), (6, v3)] a ∧ Stw ⟨Y, [], w0⟩ [] [row v3 3 (Rp.int .i64) s] w) ⟨(Value.slice none 0 0), hF.re ⟨rfl, rfl, rfl, rfl, rfl, trivial⟩, hW⟩ (fun s o a w H L2 hR => ?_)
      obtain ⟨x3, rfl⟩ : ∃ x, x = s := ⟨s, rfl⟩
      obtain ⟨v3, hF, hW⟩ := hR
      have hF : Fr 36 [] [(0, .int .i64 p0), (1, v1), (4, .slice none 0 0), (5, .bool false), (6, v3)] a := hF
      have hW : Stw ⟨Y, [], w0⟩ [] [row v3 3 (Rp.int .i64) x3] w := hW
      rw [r20_Order_l1] at H
      refine c_seq ?_
      refine c_seq ?_
      refine reg_list ?_
      refine ls hF hW rfl ((y_move hF rfl).q) (fun a w hF hW => ?_)
      refine ls hF hW rfl ((y_len (r := (Rp.int .i64)) (l := x3) Try.underlying26 rfl hF rfl (rdc_row 0 rfl)).q) (fun a w hF hW => ?_)
      refine ls hF hW rfl ((y_move hF rfl).q) (fun a w hF hW => ?_)
      refine ls hF hW rfl ((y_lss hF rfl rfl).q) (fun a w hF hW => ?_)
      refine ls_nil ?_
      refine c_then ?_
      refine c_cond hF rfl (fun hb => ?_) (fun hb => ?_)
      ·
        have H := iteT (of_decide_eq_true hb) H
        rw [hb] at hF
        clear hb
        refine wp_skip ?_
        refine c_then ?_
        refine wp_block ?_
        refine c_seq ?_
        refine reg_list ?_
        refine ls hF hW rfl ((y_assign hF rfl).q) (fun a w hF hW => ?_)
        refine ls_nil ?_
        refine c_then ?_
        obtain ⟨o3, G3, K3⟩ := bindE H
        refine c_seqJ (fun a w => ∃ x4 : Int, some (x4) = some o3 ∧ Fr 36 [] [(0, .int .i64 p0), (1, v1), (4, .slice none 0 0), (5, .bool false), (6, v3), (7, .int .i64 x4)] a ∧ Stw ⟨Y, [], w0⟩ [] [row v3 3 (Rp.int .i64) x3] w) ?_ ?_
        ·
          have H := G3
          clear G3 K3
          refine c_seq ?_
          refine reg_list ?_
          refine ls hF hW rfl ((y_move hF rfl).q) (fun a w hF hW => ?_)
          refine ls hF hW rfl ((y_sub hF rfl rfl rfl).q) (fun a w hF hW => ?_)
          refine ls hF hW rfl ((y_assign hF rfl).q) (fun a w hF hW => ?_)
          refine ls_nil ?_
          refine c_then ?_
          refine wp_block ?_
          refine c_loopW H (fun s a w => Fr 36 [] [(0, .int .i64 p0), (1, v1), (4, .slice none 0 0), (5, .bool false), (6, v3), (7, .int .i64 s.1), (8, .int .i64 s.2)] a ∧ Stw ⟨Y, [], w0⟩ [] [row v3 3 (Rp.int .i64) x3] w) ⟨hF.re ⟨rfl, rfl, rfl, rfl, rfl, rfl, rfl, trivial⟩, hW⟩ (fun s o a w H L4 hR => ?_)
          obtain ⟨x5, x6⟩ := s
          obtain ⟨hF, hW⟩ := hR
          have hF : Fr 36 [] [(0, .int .i64 p0), (1, v1), (4, .slice none 0 0), (5, .bool false), (6, v3), (7, .int .i64 x5), (8, .int .i64 x6)] a := hF
          have hW : Stw ⟨Y, [], w0⟩ [] [row v3 3 (Rp.int .i64) x3] w := hW
          rw [r20_Order_l2] at H
          refine c_seq ?_
          refine c_seq ?_
          refine reg_list ?_
          refine ls hF hW rfl ((y_move hF rfl).q) (fun a w hF hW => ?_)
          refine ls hF hW rfl ((y_geq hF rfl rfl).q) (fun a w hF hW => ?_)
          refine ls_nil ?_
          refine c_then ?_
          refine c_cond hF rfl (fun hb => ?_) (fun hb => ?_)
          ·
            have H := iteT (of_decide_eq_true hb) H
            rw [hb] at hF
            clear hb
            refine wp_skip ?_
            refine c_then ?_
            obtain ⟨o5, G5, K5⟩ := bindE H
            refine c_seqJ (fun a w => ∃ x7 : Int, some (x7) = some o5 ∧ Fr 36 [] [(0, .int .i64 p0), (1, v1), (4, .slice none 0 0), (5, .bool false), (6, v3), (7, .int .i64 x7), (8, .int .i64 x6)] a ∧ Stw ⟨Y, [], w0⟩ [] [row v3 3 (Rp.int .i64) x3] w) ?_ ?_
            ·
              have H := G5
              clear G5 K5
              refine wp_block ?_
              refine c_seq ?_
              refine reg_list ?_
              refine ls hF hW rfl ((y_move hF rfl).q) (fun a w hF hW => ?_)
              refine ls hF hW rfl ((y_move hF rfl).q) (fun a w hF hW => ?_)
              refine ls hF hW rfl ((y_move hF rfl).q) (fun a w hF hW => ?_)
              refine ls hF hW rfl ((y_move hF rfl).q) (fun a w hF hW => ?_)
              obtain ⟨x8, h2, H⟩ := bindE H
              refine ls hF hW rfl (y_call (v := Value.bool x8) hF H24 rfl (fun w hW => r20_free_c any w (v1) (v3) p0 p1 x3 x6 _ h2 (((rdc_ro h_v1) : Rdc _ _ _ _ _ _) w hW).nx (((rdc_row 0 rfl) : Rdc _ _ _ _ _ _) w hW).nx)) (fun a w hF hW => ?_)
              refine ls_nil ?_
              refine c_then ?_
              refine c_cond hF rfl (fun hb => ?_) (fun hb => ?_)
              ·
                have H := iteT hb H
                rw [hb] at hF
                clear hb
                refine reg_list ?_
                refine ls hF hW rfl ((y_move hF rfl).q) (fun a w hF hW => ?_)
                refine ls hF hW rfl ((y_assign hF rfl).q) (fun a w hF hW => ?_)
                refine ls_nil ?_
                refine b_normal ?_
                refine c_then ?_
                exact ⟨_, H, hF.re ⟨rfl, rfl, rfl, rfl, rfl, rfl, rfl, trivial⟩, hW⟩
              ·
                have H := iteF (by rw [hb]; decide) H
                rw [hb] at hF
                clear hb
                refine wp_skip ?_
                refine b_normal ?_
                refine c_then ?_
                exact ⟨_, H, hF.re ⟨rfl, rfl, rfl, rfl, rfl, rfl, rfl, trivial⟩, hW⟩
            rintro a w ⟨x7, hj, hF, hW⟩
            have hj := Option.some.inj hj
            subst hj
            have H := K5
            clear G5 K5
            refine reg_list ?_
            refine ls hF hW rfl ((y_move hF rfl).q) (fun a w hF hW => ?_)
            refine ls hF hW rfl ((y_sub hF rfl rfl rfl).q) (fun a w hF hW => ?_)
            refine ls hF hW rfl ((y_assign hF rfl).q) (fun a w hF hW => ?_)
            refine ls_nil ?_
            refine c_then ?_
            exact ⟨_, H, hF.re ⟨rfl, rfl, rfl, rfl, rfl, rfl, rfl, trivial⟩, hW⟩
          ·
            have H := iteF (of_decide_eq_false hb) H
            rw [hb] at hF
            clear hb
            refine wp_exit ?_
            refine e_then ?_
            refine e_then ?_
            refine e_block ?_
            refine c_then ?_
            have H := L4 _ H
            exact ⟨_, H, hF.re ⟨rfl, rfl, rfl, rfl, rfl, rfl, trivial⟩, hW⟩
        rintro a w ⟨x4, hj, hF, hW⟩
        have hj := Option.some.inj hj
        subst hj
        have H := K3
        clear G3 K3
        refine c_seq ?_
        refine c_seq ?_
        refine reg_list ?_
        refine ls hF hW rfl ((y_move hF rfl).q) (fun a w hF hW => ?_)
        refine ls hF hW rfl ((y_eql hF rfl rfl).q) (fun a w hF hW => ?_)
        refine ls_nil ?_
        refine c_then ?_
        refine c_cond hF rfl (fun hb => ?_) (fun hb => ?_)
        ·
          have H := iteT (of_decide_eq_true hb) H
          rw [hb] at hF
          clear hb
          refine c_seq ?_
          refine reg_list ?_
          refine ls hF hW rfl ((y_assign hF rfl).q) (fun a w hF hW => ?_)
          refine ls hF hW rfl ((y_assign hF rfl).q) (fun a w hF hW => ?_)
          refine ls_nil ?_
          refine c_then ?_
          refine wp_ret ?_
          refine r_then ?_
          refine r_block ?_
          refine r_then ?_
          refine r_block ?_
          refine r_then ?_
          have H := L2 _ H
          have H := L1 _ H
          have H := Option.some.inj H
          subst H
          refine post2 (.inl rfl) hF hW rfl (rv_tmp hF rfl) (rv_tmp hF rfl) ?_
          have hW := hW.nilRow 3 (Rp.int .i64)
          have hW := hW.sub (M' := []) (Z' := [row (Value.slice none 0 0) 3 (Rp.int .i64) ([])]) (List.Sublist.refl _) (List.Sublist.cons_cons _ (List.nil_sublist _))
          exact ⟨(Value.slice none 0 0), rfl, hW⟩
        ·
          have H := iteF (of_decide_eq_false hb) H
          rw [hb] at hF
          clear hb
          refine wp_skip ?_
          refine c_then ?_
          refine reg_list ?_
          refine ls hF hW rfl ((y_move hF rfl).q) (fun a w hF hW => ?_)
          refine ls hF hW rfl ((y_move hF rfl).q) (fun a w hF hW => ?_)
          refine l_lit (z := Value.int .i64 0) (cs := [.int .i64 x4]) (Rp.int .i64) ([x4] : List Int) hF hW rfl L26 Z3 rfl rfl rfl rfl rfl rfl (Fl.int.repL _ _ ([x4] : List Int)) (fun v4 a w hF hW => ?_)
          obtain ⟨x9, h3, H⟩ := bindE H
          refine l_append (r := (Rp.int .i64)) (i := 1) hF hW rfl L26 rfl rfl rfl rfl (src_row hW 0 rfl) h3 rfl (fun v5 a w hF hW => ?_)
          have hW : Stw ⟨Y, [], w0⟩ [] [row v5 3 (Rp.int .i64) x9, row v4 3 (Rp.int .i64) ([x4] : List Int)] w := hW
          refine ls hF hW rfl ((y_assign hF rfl).q) (fun a w hF hW => ?_)
          refine ls_nil ?_
          refine b_normal ?_
          refine c_then ?_
          have hW := hW.sub (M' := []) (Z' := [row v5 3 (Rp.int .i64) x9]) (List.Sublist.refl _) (List.Sublist.cons_cons _ (List.nil_sublist _))
          exact ⟨_, H, (v5), hF.re ⟨rfl, rfl, rfl, rfl, rfl, trivial⟩, hW⟩
      ·
        have H := iteF (of_decide_eq_false hb) H
        rw [hb] at hF
        clear hb
        refine wp_exit ?_
        refine e_then ?_
        refine e_then ?_
        refine e_block ?_
        refine c_then ?_
        have H := L2 _ H
        exact ⟨_, (v3), H, hF.re ⟨rfl, rfl, rfl, trivial⟩, hW⟩
    rintro a w ⟨x2, v2, hj, hF, hW⟩
    have H := K1 _ hj
    clear hj G1 K1 L1
    refine c_seq ?_
    refine reg_list ?_
    refine ls hF hW rfl ((y_move hF rfl).q) (fun a w hF hW => ?_)
    refine ls hF hW rfl ((y_assign hF rfl).q) (fun a w hF hW => ?_)
    refine ls hF hW rfl ((y_assign hF rfl).q) (fun a w hF hW => ?_)
    refine ls_nil ?_
    refine c_then ?_
    refine wp_ret ?_
    have H := Option.some.inj H
    subst H
    refine post2 (.inl rfl) hF hW rfl (rv_tmp hF rfl) (rv_tmp hF rfl) ?_
    exact ⟨(v2), rfl, hW⟩

theorem H9 : Has Try.prog 9 := ⟨fun args w => run_callFunc_body Try.func9 rfl (by decide) args w⟩
noncomputable def graph_reached_l2 (p0 : Int) (p1 : Int × Int × Int × Int × Int × Int × Int × Int × Int × Int × Int × Int × Int × Int × Int × Int) : (Int × Int) → Option ((Int × Int) ⊕ Int)
  | (x6, x7) => (if x7 < p0 then ((graph_set_has x6 x7).bind fun x9 => (if x9 = true then (ix ([p1.1, p1.2.1, p1.2.2.1, p1.2.2.2.1, p1.2.2.2.2.1, p1.2.2.2.2.2.1, p1.2.2.2.2.2.2.1, p1.2.2.2.2.2.2.2.1, p1.2.2.2.2.2.2.2.2.1, p1.2.2.2.2.2.2.2.2.2.1, p1.2.2.2.2.2.2.2.2.2.2.1, p1.2.2.2.2.2.2.2.2.2.2.2.1, p1.2.2.2.2.2.2.2.2.2.2.2.2.1, p1.2.2.2.2.2.2.2.2.2.2.2.2.2.1, p1.2.2.2.2.2.2.2.2.2.2.2.2.2.2.1, p1.2.2.2.2.2.2.2.2.2.2.2.2.2.2.2] : List Int) x7).bind fun x10 => some (orI .u32 x6 x10) else some x6)).bind fun x8 => some (.inl (x8, w64 (x7 + 1))) else some (.inr x6))
noncomputable def graph_reached_l1 (p0 : Int) (p1 : Int × Int × Int × Int × Int × Int × Int × Int × Int × Int × Int × Int × Int × Int × Int × Int) : (Int × Int) → Option ((Int × Int) ⊕ Int)
  | (x3, x4) => (if x4 < p0 then (loopW (graph_reached_l2 p0 p1) (x3, 0)).bind fun x5 => some (.inl (x5, w64 (x4 + 1))) else some (.inr x3))
noncomputable def graph_reached (p0 : Int) (p1 : Int × Int × Int × Int × Int × Int × Int × Int × Int × Int × Int × Int × Int × Int × Int × Int) (p2 : Int) : Option Int := (graph_set_with 0 p2).bind fun x1 => (loopW (graph_reached_l1 p0 p1) (x1, 0)).bind fun x2 => some x2
theorem graph_reached_c (Y : Nat → Prop) (w0 : World)  (p0 : Int) (p1 : Int × Int × Int × Int × Int × Int × Int × Int × Int × Int × Int × Int × Int × Int × Int × Int) (p2 : Int) (r : Int) (H : graph_reached p0 p1 p2 = some r)  :
    Calls Try.prog 26 #[.int .i64 p0, .agg #[.int .u32 p1.1, .int .u32 p1.2.1, .int .u32 p1.2.2.1, .int .u32 p1.2.2.2.1, .int .u32 p1.2.2.2.2.1, .int .u32 p1.2.2.2.2.2.1, .int .u32 p1.2.2.2.2.2.2.1, .int .u32 p1.2.2.2.2.2.2.2.1, .int .u32 p1.2.2.2.2.2.2.2.2.1, .int .u32 p1.2.2.2.2.2.2.2.2.2.1, .int .u32 p1.2.2.2.2.2.2.2.2.2.2.1, .int .u32 p1.2.2.2.2.2.2.2.2.2.2.2.1, .int .u32 p1.2.2.2.2.2.2.2.2.2.2.2.2.1, .int .u32 p1.2.2.2.2.2.2.2.2.2.2.2.2.2.1, .int .u32 p1.2.2.2.2.2.2.2.2.2.2.2.2.2.2.1, .int .u32 p1.2.2.2.2.2.2.2.2.2.2.2.2.2.2.2], .int .i64 p2] w0 fun e w' => e = .returned (.int .u32 r) ∧ Below w0.heap.size w0 w' := by
  refine enter Try.func26 rfl Try.ntmps26 rfl (fun a hF => ?_)
  have hW := Stw.start Y w0
  unfold graph_reached at H
  refine c_seq ?_
  refine reg_list ?_
  refine l_box (cs := [.int .u32 p1.1, .int .u32 p1.2.1, .int .u32 p1.2.2.1, .int .u32 p1.2.2.2.1, .int .u32 p1.2.2.2.2.1, .int .u32 p1.2.2.2.2.2.1, .int .u32 p1.2.2.2.2.2.2.1, .int .u32 p1.2.2.2.2.2.2.2.1, .int .u32 p1.2.2.2.2.2.2.2.2.1, .int .u32 p1.2.2.2.2.2.2.2.2.2.1, .int .u32 p1.2.2.2.2.2.2.2.2.2.2.1, .int .u32 p1.2.2.2.2.2.2.2.2.2.2.2.1, .int .u32 p1.2.2.2.2.2.2.2.2.2.2.2.2.1, .int .u32 p1.2.2.2.2.2.2.2.2.2.2.2.2.2.1, .int .u32 p1.2.2.2.2.2.2.2.2.2.2.2.2.2.2.1, .int .u32 p1.2.2.2.2.2.2.2.2.2.2.2.2.2.2.2]) hF hW rfl rfl rfl (fun b1 a w hF hW => ?_)
  refine ls hF hW rfl ((y_assign hF rfl).q) (fun a w hF hW => ?_)
  refine ls_nil ?_
  refine c_then ?_
  refine c_seq ?_
  refine reg_list ?_
  refine ls hF hW rfl ((y_move hF rfl).q) (fun a w hF hW => ?_)
  obtain ⟨x1, h1, H⟩ := bindE H
  refine ls hF hW rfl (y_call (v := Value.int .u32 x1) hF H23 rfl (fun w hW => graph_set_with_c any w 0 p2 _ h1)) (fun a w hF hW => ?_)
  refine ls hF hW rfl ((y_assign hF rfl).q) (fun a w hF hW => ?_)
  refine ls_nil ?_
  refine c_then ?_
  obtain ⟨o1, G1, K1⟩ := bindE H
  refine c_seqJ (fun a w => ∃ x2 : Int, some (x2) = some o1 ∧ Fr 29 [] [(6, .int .u32 0), (7, .int .u32 x2)] a ∧ Stw ⟨Y, [], w0⟩ [(b1, [.int .u32 p1.1, .int .u32 p1.2.1, .int .u32 p1.2.2.1, .int .u32 p1.2.2.2.1, .int .u32 p1.2.2.2.2.1, .int .u32 p1.2.2.2.2.2.1, .int .u32 p1.2.2.2.2.2.2.1, .int .u32 p1.2.2.2.2.2.2.2.1, .int .u32 p1.2.2.2.2.2.2.2.2.1, .int .u32 p1.2.2.2.2.2.2.2.2.2.1, .int .u32 p1.2.2.2.2.2.2.2.2.2.2.1, .int .u32 p1.2.2.2.2.2.2.2.2.2.2.2.1, .int .u32 p1.2.2.2.2.2.2.2.2.2.2.2.2.1, .int .u32 p1.2.2.2.2.2.2.2.2.2.2.2.2.2.1, .int .u32 p1.2.2.2.2.2.2.2.2.2.2.2.2.2.2.1, .int .u32 p1.2.2.2.2.2.2.2.2.2.2.2.2.2.2.2])] [] w) ?_ ?_
  ·
    have H := G1
    clear G1 K1
    refine c_seq ?_
    refine reg_list ?_
    refine ls hF hW rfl ((y_move hF rfl).q) (fun a w hF hW => ?_)
    refine ls hF hW rfl ((y_move hF rfl).q) (fun a w hF hW => ?_)
    refine ls_nil ?_
    refine c_then ?_
    refine wp_block ?_
    refine c_loopW H (fun s a w => Fr 29 [] [(0, .int .i64 p0), (4, .pointer (some ⟨b1, 0, none⟩)), (6, .int .u32 0), (7, .int .u32 s.1), (11, .int .i64 p0), (12, .int .i64 s.2)] a ∧ Stw ⟨Y, [], w0⟩ [(b1, [.int .u32 p1.1, .int .u32 p1.2.1, .int .u32 p1.2.2.1, .int .u32 p1.2.2.2.1, .int .u32 p1.2.2.2.2.1, .int .u32 p1.2.2.2.2.2.1, .int .u32 p1.2.2.2.2.2.2.1, .int .u32 p1.2.2.2.2.2.2.2.1, .int .u32 p1.2.2.2.2.2.2.2.2.1, .int .u32 p1.2.2.2.2.2.2.2.2.2.1, .int .u32 p1.2.2.2.2.2.2.2.2.2.2.1, .int .u32 p1.2.2.2.2.2.2.2.2.2.2.2.1, .int .u32 p1.2.2.2.2.2.2.2.2.2.2.2.2.1, .int .u32 p1.2.2.2.2.2.2.2.2.2.2.2.2.2.1, .int .u32 p1.2.2.2.2.2.2.2.2.2.2.2.2.2.2.1, .int .u32 p1.2.2.2.2.2.2.2.2.2.2.2.2.2.2.2])] [] w) ⟨hF.re ⟨rfl, rfl, rfl, rfl, rfl, rfl, trivial⟩, hW⟩ (fun s o a w H L2 hR => ?_)
    obtain ⟨x3, x4⟩ := s
    obtain ⟨hF, hW⟩ := hR
    have hF : Fr 29 [] [(0, .int .i64 p0), (4, .pointer (some ⟨b1, 0, none⟩)), (6, .int .u32 0), (7, .int .u32 x3), (11, .int .i64 p0), (12, .int .i64 x4)] a := hF
    have hW : Stw ⟨Y, [], w0⟩ [(b1, [.int .u32 p1.1, .int .u32 p1.2.1, .int .u32 p1.2.2.1, .int .u32 p1.2.2.2.1, .int .u32 p1.2.2.2.2.1, .int .u32 p1.2.2.2.2.2.1, .int .u32 p1.2.2.2.2.2.2.1, .int .u32 p1.2.2.2.2.2.2.2.1, .int .u32 p1.2.2.2.2.2.2.2.2.1, .int .u32 p1.2.2.2.2.2.2.2.2.2.1, .int .u32 p1.2.2.2.2.2.2.2.2.2.2.1, .int .u32 p1.2.2.2.2.2.2.2.2.2.2.2.1, .int .u32 p1.2.2.2.2.2.2.2.2.2.2.2.2.1, .int .u32 p1.2.2.2.2.2.2.2.2.2.2.2.2.2.1, .int .u32 p1.2.2.2.2.2.2.2.2.2.2.2.2.2.2.1, .int .u32 p1.2.2.2.2.2.2.2.2.2.2.2.2.2.2.2])] [] w := hW
    rw [graph_reached_l1] at H
    refine c_seq ?_
    refine reg_list ?_
    refine ls hF hW rfl ((y_lss hF rfl rfl).q) (fun a w hF hW => ?_)
    refine ls_nil ?_
    refine c_then ?_
    refine c_seq ?_
    refine c_cond hF rfl (fun hb => ?_) (fun hb => ?_)
    ·
      have H := iteT (of_decide_eq_true hb) H
      rw [hb] at hF
      clear hb
      refine wp_skip ?_
      refine c_then ?_
      obtain ⟨o3, G3, K3⟩ := bindE H
      refine c_seqJ (fun a w => ∃ x5 : Int, some (x5) = some o3 ∧ Fr 29 [] [(0, .int .i64 p0), (4, .pointer (some ⟨b1, 0, none⟩)), (6, .int .u32 0), (7, .int .u32 x5), (11, .int .i64 p0), (12, .int .i64 x4)] a ∧ Stw ⟨Y, [], w0⟩ [(b1, [.int .u32 p1.1, .int .u32 p1.2.1, .int .u32 p1.2.2.1, .int .u32 p1.2.2.2.1, .int .u32 p1.2.2.2.2.1, .int .u32 p1.2.2.2.2.2.1, .int .u32 p1.2.2.2.2.2.2.1, .int .u32 p1.2.2.2.2.2.2.2.1, .int .u32 p1.2.2.2.2.2.2.2.2.1, .int .u32 p1.2.2.2.2.2.2.2.2.2.1, .int .u32 p1.2.2.2.2.2.2.2.2.2.2.1, .int .u32 p1.2.2.2.2.2.2.2.2.2.2.2.1, .int .u32 p1.2.2.2.2.2.2.2.2.2.2.2.2.1, .int .u32 p1.2.2.2.2.2.2.2.2.2.2.2.2.2.1, .int .u32 p1.2.2.2.2.2.2.2.2.2.2.2.2.2.2.1, .int .u32 p1.2.2.2.2.2.2.2.2.2.2.2.2.2.2.2])] [] w) ?_ ?_
      ·
        have H := G3
        clear G3 K3
        refine wp_block ?_
        refine c_seq ?_
        refine reg_list ?_
        refine ls hF hW rfl ((y_move hF rfl).q) (fun a w hF hW => ?_)
        refine ls hF hW rfl ((y_move hF rfl).q) (fun a w hF hW => ?_)
        refine ls_nil ?_
        refine c_then ?_
        refine wp_block ?_
        refine c_loopW H (fun s a w => Fr 29 [] [(0, .int .i64 p0), (4, .pointer (some ⟨b1, 0, none⟩)), (6, .int .u32 0), (7, .int .u32 s.1), (11, .int .i64 p0), (12, .int .i64 x4), (14, .int .i64 p0), (15, .int .i64 s.2)] a ∧ Stw ⟨Y, [], w0⟩ [(b1, [.int .u32 p1.1, .int .u32 p1.2.1, .int .u32 p1.2.2.1, .int .u32 p1.2.2.2.1, .int .u32 p1.2.2.2.2.1, .int .u32 p1.2.2.2.2.2.1, .int .u32 p1.2.2.2.2.2.2.1, .int .u32 p1.2.2.2.2.2.2.2.1, .int .u32 p1.2.2.2.2.2.2.2.2.1, .int .u32 p1.2.2.2.2.2.2.2.2.2.1, .int .u32 p1.2.2.2.2.2.2.2.2.2.2.1, .int .u32 p1.2.2.2.2.2.2.2.2.2.2.2.1, .int .u32 p1.2.2.2.2.2.2.2.2.2.2.2.2.1, .int .u32 p1.2.2.2.2.2.2.2.2.2.2.2.2.2.1, .int .u32 p1.2.2.2.2.2.2.2.2.2.2.2.2.2.2.1, .int .u32 p1.2.2.2.2.2.2.2.2.2.2.2.2.2.2.2])] [] w) ⟨hF.re ⟨rfl, rfl, rfl, rfl, rfl, rfl, rfl, rfl, trivial⟩, hW⟩ (fun s o a w H L4 hR => ?_)
        obtain ⟨x6, x7⟩ := s
        obtain ⟨hF, hW⟩ := hR
        have hF : Fr 29 [] [(0, .int .i64 p0), (4, .pointer (some ⟨b1, 0, none⟩)), (6, .int .u32 0), (7, .int .u32 x6), (11, .int .i64 p0), (12, .int .i64 x4), (14, .int .i64 p0), (15, .int .i64 x7)] a := hF
        have hW : Stw ⟨Y, [], w0⟩ [(b1, [.int .u32 p1.1, .int .u32 p1.2.1, .int .u32 p1.2.2.1, .int .u32 p1.2.2.2.1, .int .u32 p1.2.2.2.2.1, .int .u32 p1.2.2.2.2.2.1, .int .u32 p1.2.2.2.2.2.2.1, .int .u32 p1.2.2.2.2.2.2.2.1, .int .u32 p1.2.2.2.2.2.2.2.2.1, .int .u32 p1.2.2.2.2.2.2.2.2.2.1, .int .u32 p1.2.2.2.2.2.2.2.2.2.2.1, .int .u32 p1.2.2.2.2.2.2.2.2.2.2.2.1, .int .u32 p1.2.2.2.2.2.2.2.2.2.2.2.2.1, .int .u32 p1.2.2.2.2.2.2.2.2.2.2.2.2.2.1, .int .u32 p1.2.2.2.2.2.2.2.2.2.2.2.2.2.2.1, .int .u32 p1.2.2.2.2.2.2.2.2.2.2.2.2.2.2.2])] [] w := hW
        rw [graph_reached_l2] at H
        refine c_seq ?_
        refine reg_list ?_
        refine ls hF hW rfl ((y_lss hF rfl rfl).q) (fun a w hF hW => ?_)
        refine ls_nil ?_
        refine c_then ?_
        refine c_seq ?_
        refine c_cond hF rfl (fun hb => ?_) (fun hb => ?_)
        ·
          have H := iteT (of_decide_eq_true hb) H
          rw [hb] at hF
          clear hb
          refine wp_skip ?_
          refine c_then ?_
          obtain ⟨o5, G5, K5⟩ := bindE H
          refine c_seqJ (fun a w => ∃ x8 : Int, some (x8) = some o5 ∧ Fr 29 [] [(0, .int .i64 p0), (4, .pointer (some ⟨b1, 0, none⟩)), (6, .int .u32 0), (7, .int .u32 x8), (11, .int .i64 p0), (12, .int .i64 x4), (14, .int .i64 p0), (15, .int .i64 x7)] a ∧ Stw ⟨Y, [], w0⟩ [(b1, [.int .u32 p1.1, .int .u32 p1.2.1, .int .u32 p1.2.2.1, .int .u32 p1.2.2.2.1, .int .u32 p1.2.2.2.2.1, .int .u32 p1.2.2.2.2.2.1, .int .u32 p1.2.2.2.2.2.2.1, .int .u32 p1.2.2.2.2.2.2.2.1, .int .u32 p1.2.2.2.2.2.2.2.2.1, .int .u32 p1.2.2.2.2.2.2.2.2.2.1, .int .u32 p1.2.2.2.2.2.2.2.2.2.2.1, .int .u32 p1.2.2.2.2.2.2.2.2.2.2.2.1, .int .u32 p1.2.2.2.2.2.2.2.2.2.2.2.2.1, .int .u32 p1.2.2.2.2.2.2.2.2.2.2.2.2.2.1, .int .u32 p1.2.2.2.2.2.2.2.2.2.2.2.2.2.2.1, .int .u32 p1.2.2.2.2.2.2.2.2.2.2.2.2.2.2.2])] [] w) ?_ ?_
          ·
            have H := G5
            clear G5 K5
            refine wp_block ?_
            refine c_seq ?_
            refine reg_list ?_
            refine ls hF hW rfl ((y_move hF rfl).q) (fun a w hF hW => ?_)
            refine ls hF hW rfl ((y_assign hF rfl).q) (fun a w hF hW => ?_)
            refine ls_nil ?_
            refine c_then ?_
            refine c_seq ?_
            refine reg_list ?_
            refine ls hF hW rfl ((y_move hF rfl).q) (fun a w hF hW => ?_)
            refine ls hF hW rfl ((y_move hF rfl).q) (fun a w hF hW => ?_)
            obtain ⟨x9, h2, H⟩ := bindE H
            refine ls hF hW rfl (y_call (v := Value.bool x9) hF H30 rfl (fun w hW => graph_set_has_c any w x6 x7 _ h2)) (fun a w hF hW => ?_)
            refine ls_nil ?_
            refine c_then ?_
            refine c_cond hF rfl (fun hb => ?_) (fun hb => ?_)
            ·
              have H := iteT hb H
              rw [hb] at hF
              clear hb
              refine reg_list ?_
              refine ls hF hW rfl ((y_move hF rfl).q) (fun a w hF hW => ?_)
              refine ls hF hW rfl ((y_move hF rfl).q) (fun a w hF hW => ?_)
              obtain ⟨x10, h3, H⟩ := bindE H
              refine ls hF hW rfl ((y_indexP (0 + (x7).toNat * 1) Ar46 hF rfl rfl rfl h3 rfl).q) (fun a w hF hW => ?_)
              refine ls hF hW rfl ((y_load (v := Value.int .u32 x10) 0 hF rfl rfl T45 (rdv_dyn (base := 0) (m := 16) (l := [p1.1, p1.2.1, p1.2.2.1, p1.2.2.2.1, p1.2.2.2.2.1, p1.2.2.2.2.2.1, p1.2.2.2.2.2.2.1, p1.2.2.2.2.2.2.2.1, p1.2.2.2.2.2.2.2.2.1, p1.2.2.2.2.2.2.2.2.2.1, p1.2.2.2.2.2.2.2.2.2.2.1, p1.2.2.2.2.2.2.2.2.2.2.2.1, p1.2.2.2.2.2.2.2.2.2.2.2.2.1, p1.2.2.2.2.2.2.2.2.2.2.2.2.2.1, p1.2.2.2.2.2.2.2.2.2.2.2.2.2.2.1, p1.2.2.2.2.2.2.2.2.2.2.2.2.2.2.2]) (enc := Value.int .u32) rfl h3)).q) (fun a w hF hW => ?_)
              refine ls hF hW rfl ((y_or hF rfl rfl).q) (fun a w hF hW => ?_)
              refine ls hF hW rfl ((y_assign hF rfl).q) (fun a w hF hW => ?_)
              refine ls_nil ?_
              refine b_normal ?_
              refine c_then ?_
              exact ⟨_, H, hF.re ⟨rfl, rfl, rfl, rfl, rfl, rfl, rfl, rfl, trivial⟩, hW⟩
            ·
              have H := iteF (by rw [hb]; decide) H
              rw [hb] at hF
              clear hb
              refine wp_skip ?_
              refine b_normal ?_
              refine c_then ?_
              exact ⟨_, H, hF.re ⟨rfl, rfl, rfl, rfl, rfl, rfl, rfl, rfl, trivial⟩, hW⟩
          rintro a w ⟨x8, hj, hF, hW⟩
          have hj := Option.some.inj hj
          subst hj
          have H := K5
          clear G5 K5
          refine reg_list ?_
          refine ls hF hW rfl ((y_add hF rfl rfl rfl).q) (fun a w hF hW => ?_)
          refine ls hF hW rfl ((y_move hF rfl).q) (fun a w hF hW => ?_)
          refine ls_nil ?_
          refine c_then ?_
          exact ⟨_, H, hF.re ⟨rfl, rfl, rfl, rfl, rfl, rfl, rfl, rfl, trivial⟩, hW⟩
        ·
          have H := iteF (of_decide_eq_false hb) H
          rw [hb] at hF
          clear hb
          refine wp_exit ?_
          refine e_then ?_
          refine e_then ?_
          refine e_block ?_
          refine b_normal ?_
          refine c_then ?_
          have H := L4 _ H
          exact ⟨_, H, hF.re ⟨rfl, rfl, rfl, rfl, rfl, rfl, trivial⟩, hW⟩
      rintro a w ⟨x5, hj, hF, hW⟩
      have hj := Option.some.inj hj
      subst hj
      have H := K3
      clear G3 K3
      refine reg_list ?_
      refine ls hF hW rfl ((y_add hF rfl rfl rfl).q) (fun a w hF hW => ?_)
      refine ls hF hW rfl ((y_move hF rfl).q) (fun a w hF hW => ?_)
      refine ls_nil ?_
      refine c_then ?_
      exact ⟨_, H, hF.re ⟨rfl, rfl, rfl, rfl, rfl, rfl, trivial⟩, hW⟩
    ·
      have H := iteF (of_decide_eq_false hb) H
      rw [hb] at hF
      clear hb
      refine wp_exit ?_
      refine e_then ?_
      refine e_then ?_
      refine e_block ?_
      refine c_then ?_
      have H := L2 _ H
      exact ⟨_, H, hF.re ⟨rfl, rfl, trivial⟩, hW⟩
  rintro a w ⟨x2, hj, hF, hW⟩
  have hj := Option.some.inj hj
  subst hj
  have H := K1
  clear G1 K1
  refine c_seq ?_
  refine reg_list ?_
  refine ls hF hW rfl ((y_move hF rfl).q) (fun a w hF hW => ?_)
  refine ls hF hW rfl ((y_assign hF rfl).q) (fun a w hF hW => ?_)
  refine ls_nil ?_
  refine c_then ?_
  refine wp_ret ?_
  have H := Option.some.inj H
  subst H
  refine post1 (.inl rfl) hF hW rfl (rv_tmp hF rfl) ?_
  exact ⟨rfl, hW.done⟩

theorem H26 : Has Try.prog 26 := ⟨fun args w => run_callFunc_body Try.func26 rfl (by decide) args w⟩
noncomputable def graph_nodes_l1 (p0 : Int) : (List Int × Int) → Option ((List Int × Int) ⊕ (List Int))
  | (x2, x3) => (if x3 < 16 then ((graph_set_has p0 x3).bind fun x5 => (if x5 = true then (app x2 ([x3] : List Int)).bind fun x6 => some x6 else some x2)).bind fun x4 => some (.inl (x4, w64 (x3 + 1))) else some (.inr x2))
noncomputable def graph_nodes (p0 : Int) : Option (List Int) := (loopW (graph_nodes_l1 p0) ([], 0)).bind fun x1 => some x1
theorem graph_nodes_c (Y : Nat → Prop) (w0 : World)  (p0 : Int) (r : List Int) (H : graph_nodes p0 = some r)  :
    Calls Try.prog 25 #[.int .u32 p0] w0 fun e w' => ∃ x : Value, e = .returned (x) ∧ Stw ⟨Y, [], w0⟩ [] [row (x) 3 (Rp.int .i64) r] w' := by
  refine enter Try.func25 rfl Try.ntmps25 rfl (fun a hF => ?_)
  have hW := Stw.start Y w0
  unfold graph_nodes at H
  refine c_seq ?_
  refine reg_list ?_
  refine ls hF hW rfl ((y_assign hF rfl).q) (fun a w hF hW => ?_)
  refine ls_nil ?_
  refine c_then ?_
  refine c_seq ?_
  refine reg_list ?_
  refine ls hF hW rfl ((y_assign hF rfl).q) (fun a w hF hW => ?_)
  refine ls_nil ?_
  refine c_then ?_
  obtain ⟨o1, G1, K1⟩ := bindE H
  refine c_seqJ (fun a w => ∃ x1 : List Int, ∃ v1 : Value, some (x1) = some o1 ∧ Fr 17 [] [(2, .slice none 0 0), (3, v1)] a ∧ Stw ⟨Y, [], w0⟩ [] [row v1 3 (Rp.int .i64) x1] w) ?_ ?_
  ·
    have H := G1
    clear G1 K1
    refine c_seq ?_
    refine reg_list ?_
    refine ls hF hW rfl ((y_move hF rfl).q) (fun a w hF hW => ?_)
    refine ls_nil ?_
    refine c_then ?_
    refine wp_block ?_
    have hW := hW.nilRow 3 (Rp.int .i64)
    refine c_loopW H (fun s a w => ∃ v2 : Value, Fr 17 [] [(0, .int .u32 p0), (2, .slice none 0 0), (3, v2), (5, .int .i64 s.2)] a ∧ Stw ⟨Y, [], w0⟩ [] [row v2 3 (Rp.int .i64) s.1] w) ⟨(Value.slice none 0 0), hF.re ⟨rfl, rfl, rfl, rfl, trivial⟩, hW⟩ (fun s o a w H L2 hR => ?_)
    obtain ⟨x2, x3⟩ := s
    obtain ⟨v2, hF, hW⟩ := hR
    have hF : Fr 17 [] [(0, .int .u32 p0), (2, .slice none 0 0), (3, v2), (5, .int .i64 x3)] a := hF
    have hW : Stw ⟨Y, [], w0⟩ [] [row v2 3 (Rp.int .i64) x2] w := hW
    rw [graph_nodes_l1] at H
    refine c_seq ?_
    refine reg_list ?_
    refine ls hF hW rfl ((y_lss hF rfl rfl).q) (fun a w hF hW => ?_)
    refine ls_nil ?_
    refine c_then ?_
    refine c_seq ?_
    refine c_cond hF rfl (fun hb => ?_) (fun hb => ?_)
    ·
      have H := iteT (of_decide_eq_true hb) H
      rw [hb] at hF
      clear hb
      refine wp_skip ?_
      refine c_then ?_
      obtain ⟨o3, G3, K3⟩ := bindE H
      refine c_seqJ (fun a w => ∃ x4 : List Int, ∃ v3 : Value, some (x4) = some o3 ∧ Fr 17 [] [(0, .int .u32 p0), (2, .slice none 0 0), (3, v3), (5, .int .i64 x3)] a ∧ Stw ⟨Y, [], w0⟩ [] [row v3 3 (Rp.int .i64) x4] w) ?_ ?_
      ·
        have H := G3
        clear G3 K3
        refine wp_block ?_
        refine c_seq ?_
        refine reg_list ?_
        refine ls hF hW rfl ((y_move hF rfl).q) (fun a w hF hW => ?_)
        refine ls hF hW rfl ((y_assign hF rfl).q) (fun a w hF hW => ?_)
        refine ls_nil ?_
        refine c_then ?_
        refine c_seq ?_
        refine reg_list ?_
        refine ls hF hW rfl ((y_move hF rfl).q) (fun a w hF hW => ?_)
        refine ls hF hW rfl ((y_move hF rfl).q) (fun a w hF hW => ?_)
        obtain ⟨x5, h1, H⟩ := bindE H
        refine ls hF hW rfl (y_call (v := Value.bool x5) hF H30 rfl (fun w hW => graph_set_has_c any w p0 x3 _ h1)) (fun a w hF hW => ?_)
        refine ls_nil ?_
        refine c_then ?_
        refine c_cond hF rfl (fun hb => ?_) (fun hb => ?_)
        ·
          have H := iteT hb H
          rw [hb] at hF
          clear hb
          refine reg_list ?_
          refine ls hF hW rfl ((y_move hF rfl).q) (fun a w hF hW => ?_)
          refine ls hF hW rfl ((y_move hF rfl).q) (fun a w hF hW => ?_)
          refine l_lit (z := Value.int .i64 0) (cs := [.int .i64 x3]) (Rp.int .i64) ([x3] : List Int) hF hW rfl L26 Z3 rfl rfl rfl rfl rfl rfl (Fl.int.repL _ _ ([x3] : List Int)) (fun v4 a w hF hW => ?_)
          obtain ⟨x6, h2, H⟩ := bindE H
          refine l_append (r := (Rp.int .i64)) (i := 1) hF hW rfl L26 rfl rfl rfl rfl (src_row hW 0 rfl) h2 rfl (fun v5 a w hF hW => ?_)
          have hW : Stw ⟨Y, [], w0⟩ [] [row v5 3 (Rp.int .i64) x6, row v4 3 (Rp.int .i64) ([x3] : List Int)] w := hW
          refine ls hF hW rfl ((y_assign hF rfl).q) (fun a w hF hW => ?_)
          refine ls_nil ?_
          refine b_normal ?_
          refine c_then ?_
          have hW := hW.sub (M' := []) (Z' := [row v5 3 (Rp.int .i64) x6]) (List.Sublist.refl _) (List.Sublist.cons_cons _ (List.nil_sublist _))
          exact ⟨_, (v5), H, hF.re ⟨rfl, rfl, rfl, rfl, trivial⟩, hW⟩
        ·
          have H := iteF (by rw [hb]; decide) H
          rw [hb] at hF
          clear hb
          refine wp_skip ?_
          refine b_normal ?_
          refine c_then ?_
          exact ⟨_, (v2), H, hF.re ⟨rfl, rfl, rfl, rfl, trivial⟩, hW⟩
      rintro a w ⟨x4, v3, hj, hF, hW⟩
      have hj := Option.some.inj hj
      subst hj
      have H := K3
      clear G3 K3
      refine reg_list ?_
      refine ls hF hW rfl ((y_add hF rfl rfl rfl).q) (fun a w hF hW => ?_)
      refine ls hF hW rfl ((y_move hF rfl).q) (fun a w hF hW => ?_)
      refine ls_nil ?_
      refine c_then ?_
      exact ⟨_, H, (v3), hF.re ⟨rfl, rfl, rfl, rfl, trivial⟩, hW⟩
    ·
      have H := iteF (of_decide_eq_false hb) H
      rw [hb] at hF
      clear hb
      refine wp_exit ?_
      refine e_then ?_
      refine e_then ?_
      refine e_block ?_
      refine c_then ?_
      have H := L2 _ H
      exact ⟨_, (v2), H, hF.re ⟨rfl, rfl, trivial⟩, hW⟩
  rintro a w ⟨x1, v1, hj, hF, hW⟩
  have hj := Option.some.inj hj
  subst hj
  have H := K1
  clear G1 K1
  refine c_seq ?_
  refine reg_list ?_
  refine ls hF hW rfl ((y_move hF rfl).q) (fun a w hF hW => ?_)
  refine ls hF hW rfl ((y_assign hF rfl).q) (fun a w hF hW => ?_)
  refine ls_nil ?_
  refine c_then ?_
  refine wp_ret ?_
  have H := Option.some.inj H
  subst H
  refine post1 (.inl rfl) hF hW rfl (rv_tmp hF rfl) ?_
  exact ⟨(v1), rfl, hW⟩

theorem H25 : Has Try.prog 25 := ⟨fun args w => run_callFunc_body Try.func25 rfl (by decide) args w⟩
noncomputable def graph_Reach (p0 : Int) (p1 : List (Int × Int)) (p2 : Int) : Option (List Int) := ((graph_Right p0 p1).bind fun x2 => (if (!x2) = true then some true else (if p2 < 0 then some true else some (decide (p0 ≤ p2))))).bind fun x1 => (if x1 = true then some ([] : List Int) else (graph_successors p1).bind fun x3 => (graph_reached p0 x3 p2).bind fun x4 => (graph_nodes x4).bind fun x5 => some x5)
theorem graph_Reach_c (Y : Nat → Prop) (w0 : World) (v1 : Value) (p0 : Int) (p1 : List (Int × Int)) (p2 : Int) (r : List Int) (H : graph_Reach p0 p1 p2 = some r) (h_v1 : Sl w0 (NX []) R42 v1 p1) :
    Calls Try.prog 13 #[.int .i64 p0, v1, .int .i64 p2] w0 fun e w' => ∃ x : Value, e = .returned (x) ∧ Stw ⟨Y, [], w0⟩ [] [row (x) 3 (Rp.int .i64) r] w' := by
  refine enter Try.func13 rfl Try.ntmps13 rfl (fun a hF => ?_)
  have hW := Stw.start Y w0
  unfold graph_Reach at H
  refine c_seq ?_
  refine reg_list ?_
  refine ls hF hW rfl ((y_assign hF rfl).q) (fun a w hF hW => ?_)
  refine ls_nil ?_
  refine c_then ?_
  refine c_seq ?_
  obtain ⟨o1, G1, K1⟩ := bindE H
  refine c_seqJ (fun a w => ∃ x1 : Bool, some (x1) = some o1 ∧ Fr 26 [] [(0, .int .i64 p0), (1, v1), (2, .int .i64 p2), (6, .slice none 0 0), (19, .bool x1)] a ∧ Stw ⟨Y, [], w0⟩ [] [] w) ?_ ?_
  ·
    have H := G1
    clear G1 K1
    refine reg_list ?_
    refine ls hF hW rfl ((y_move hF rfl).q) (fun a w hF hW => ?_)
    refine ls hF hW rfl ((y_move hF rfl).q) (fun a w hF hW => ?_)
    obtain ⟨x2, h1, H⟩ := bindE H
    refine ls hF hW rfl (y_call (v := Value.bool x2) hF H10 rfl (fun w hW => graph_Right_c any w (v1) p0 p1 _ h1 (((rdc_ro h_v1) : Rdc _ _ _ _ _ _) w hW).nx)) (fun a w hF hW => ?_)
    refine ls hF hW rfl ((y_not hF rfl).q) (fun a w hF hW => ?_)
    refine ls hF hW rfl ((y_move hF rfl).q) (fun a w hF hW => ?_)
    rcases Bool.eq_false_or_eq_true (!x2) with hb | hb
    ·
      have H := iteT hb H
      rw [hb] at hF
      clear hb
      refine ls_skip hF (wanted_n hF rfl rfl rfl rfl rfl) rfl rfl (fun a hF => ?_)
      refine ls_skip hF (wanted_n hF rfl rfl rfl rfl rfl) rfl rfl (fun a hF => ?_)
      refine ls hF hW rfl ((y_pick_t hF rfl rfl rfl).q) (fun a w hF hW => ?_)
      refine ls hF hW rfl ((y_move hF rfl).q) (fun a w hF hW => ?_)
      refine ls_skip hF (wanted_n hF rfl rfl rfl rfl rfl) rfl rfl (fun a hF => ?_)
      refine ls_skip hF (wanted_n hF rfl rfl rfl rfl rfl) rfl rfl (fun a hF => ?_)
      refine ls_skip hF (wanted_n hF rfl rfl rfl rfl rfl) rfl rfl (fun a hF => ?_)
      refine ls hF hW rfl ((y_pick_t hF rfl rfl rfl).q) (fun a w hF hW => ?_)
      refine ls_nil ?_
      refine c_then ?_
      exact ⟨_, H, hF.re ⟨rfl, rfl, rfl, rfl, rfl, trivial⟩, hW⟩
    ·
      have H := iteF (by rw [hb]; decide) H
      rw [hb] at hF
      clear hb
      refine ls_w hF hW (wanted_y hF rfl rfl rfl rfl) rfl (Nat.le_of_ble_eq_true rfl) ((y_move hF rfl).q) (fun a w hF hW => ?_)
      refine ls_w hF hW (wanted_y hF rfl rfl rfl rfl) rfl (Nat.le_of_ble_eq_true rfl) ((y_lss hF rfl rfl).q) (fun a w hF hW => ?_)
      refine ls hF hW rfl ((y_pick_f hF rfl rfl rfl).q) (fun a w hF hW => ?_)
      refine ls hF hW rfl ((y_move hF rfl).q) (fun a w hF hW => ?_)
      rcases Bool.eq_false_or_eq_true (decide (p2 < 0)) with hb | hb
      ·
        have H := iteT (of_decide_eq_true hb) H
        rw [hb] at hF
        clear hb
        refine ls_skip hF (wanted_n hF rfl rfl rfl rfl rfl) rfl rfl (fun a hF => ?_)
        refine ls_skip hF (wanted_n hF rfl rfl rfl rfl rfl) rfl rfl (fun a hF => ?_)
        refine ls_skip hF (wanted_n hF rfl rfl rfl rfl rfl) rfl rfl (fun a hF => ?_)
        refine ls hF hW rfl ((y_pick_t hF rfl rfl rfl).q) (fun a w hF hW => ?_)
        refine ls_nil ?_
        refine c_then ?_
        exact ⟨_, H, hF.re ⟨rfl, rfl, rfl, rfl, rfl, trivial⟩, hW⟩
      ·
        have H := iteF (of_decide_eq_false hb) H
        rw [hb] at hF
        clear hb
        refine ls_w hF hW (wanted_y hF rfl rfl rfl rfl) rfl (Nat.le_of_ble_eq_true rfl) ((y_move hF rfl).q) (fun a w hF hW => ?_)
        refine ls_w hF hW (wanted_y hF rfl rfl rfl rfl) rfl (Nat.le_of_ble_eq_true rfl) ((y_move hF rfl).q) (fun a w hF hW => ?_)
        refine ls_w hF hW (wanted_y hF rfl rfl rfl rfl) rfl (Nat.le_of_ble_eq_true rfl) ((y_geq hF rfl rfl).q) (fun a w hF hW => ?_)
        refine ls hF hW rfl ((y_pick_f hF rfl rfl rfl).q) (fun a w hF hW => ?_)
        refine ls_nil ?_
        refine c_then ?_
        exact ⟨_, H, hF.re ⟨rfl, rfl, rfl, rfl, rfl, trivial⟩, hW⟩
  rintro a w ⟨x1, hj, hF, hW⟩
  have hj := Option.some.inj hj
  subst hj
  have H := K1
  clear G1 K1
  refine c_cond hF rfl (fun hb => ?_) (fun hb => ?_)
  ·
    have H := iteT hb H
    rw [hb] at hF
    clear hb
    refine c_seq ?_
    refine reg_list ?_
    refine ls hF hW rfl ((y_assign hF rfl).q) (fun a w hF hW => ?_)
    refine ls_nil ?_
    refine c_then ?_
    refine wp_ret ?_
    refine r_then ?_
    have H := Option.some.inj H
    subst H
    refine post1 (.inl rfl) hF hW rfl (rv_tmp hF rfl) ?_
    have hW := hW.nilRow 3 (Rp.int .i64)
    exact ⟨(Value.slice none 0 0), rfl, hW⟩
  ·
    have H := iteF (by rw [hb]; decide) H
    rw [hb] at hF
    clear hb
    refine wp_skip ?_
    refine c_then ?_
    refine c_seq ?_
    refine reg_list ?_
    refine ls hF hW rfl ((y_move hF rfl).q) (fun a w hF hW => ?_)
    refine ls hF hW rfl ((y_move hF rfl).q) (fun a w hF hW => ?_)
    obtain ⟨x3, h2, H⟩ := bindE H
    refine ls hF hW rfl (y_call (v := Value.agg #[.int .u32 x3.1, .int .u32 x3.2.1, .int .u32 x3.2.2.1, .int .u32 x3.2.2.2.1, .int .u32 x3.2.2.2.2.1, .int .u32 x3.2.2.2.2.2.1, .int .u32 x3.2.2.2.2.2.2.1, .int .u32 x3.2.2.2.2.2.2.2.1, .int .u32 x3.2.2.2.2.2.2.2.2.1, .int .u32 x3.2.2.2.2.2.2.2.2.2.1, .int .u32 x3.2.2.2.2.2.2.2.2.2.2.1, .int .u32 x3.2.2.2.2.2.2.2.2.2.2.2.1, .int .u32 x3.2.2.2.2.2.2.2.2.2.2.2.2.1, .int .u32 x3.2.2.2.2.2.2.2.2.2.2.2.2.2.1, .int .u32 x3.2.2.2.2.2.2.2.2.2.2.2.2.2.2.1, .int .u32 x3.2.2.2.2.2.2.2.2.2.2.2.2.2.2.2]) hF H27 rfl (fun w hW => graph_successors_c any w (v1) p1 _ h2 (((rdc_ro h_v1) : Rdc _ _ _ _ _ _) w hW).nx)) (fun a w hF hW => ?_)
    refine ls hF hW rfl ((y_move hF rfl).q) (fun a w hF hW => ?_)
    obtain ⟨x4, h3, H⟩ := bindE H
    refine ls hF hW rfl (y_call (v := Value.int .u32 x4) hF H26 rfl (fun w hW => graph_reached_c any w p0 x3 p2 _ h3)) (fun a w hF hW => ?_)
    obtain ⟨x5, h4, H⟩ := bindE H
    refine l_callG (Ml := []) (Zl := []) (M := []) (Z := []) (β := Value) (rv := fun x => x) (MM := fun x => []) (ZZ := fun x => [row x 3 (Rp.int .i64) x5]) hF hW H25 rfl rfl (fun hL => graph_nodes_c _ w x4 _ h4) (fun x a w hF hW => ?_)
    obtain ⟨v2, rfl⟩ : ∃ y, y = x := ⟨x, rfl⟩
    have hW : Stw ⟨Y, [], w0⟩ [] [row v2 3 (Rp.int .i64) x5] w := hW
    refine ls hF hW rfl ((y_assign hF rfl).q) (fun a w hF hW => ?_)
    refine ls_nil ?_
    refine c_then ?_
    refine wp_ret ?_
    have H := Option.some.inj H
    subst H
    refine post1 (.inl rfl) hF hW rfl (rv_tmp hF rfl) ?_
    exact ⟨(v2), rfl, hW⟩

end Go.Proofs.Ytkgajpmlehfcnaa
