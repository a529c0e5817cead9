/- The functions of layer 20, lifted. Conditions: none. -/
import Derived.Test.YtkgajpmlehfcnaaRows
import Derived.Test.YtkgajpmlehfcnaaQT
namespace Go.Proofs.Ytkgajpmlehfcnaa
open Go Go.RowKit
set_option linter.unusedVariables false
set_option linter.unusedSimpArgs false
set_option maxRecDepth 20000
set_option maxHeartbeats 1600000
abbrev R41 : Rp (Int × Int) := (Rp.pair (Rp.int .i64) (Rp.int .i64))
theorem B42 : Bt Try.prog 42 [.int .i64 0, .int .i64 0] [(0, 1), (1, 1)] := ⟨⟨.agg #[.int .i64 0, .int .i64 0], by kernel_rfl, rfl⟩, ⟨_, Try.underlying42, fun w => by kernel_rfl⟩⟩
theorem Z42 : (Try.prog.info? 42).bind (·.zero) = some (.agg #[.int .i64 0, .int .i64 0]) := by kernel_rfl
abbrev R42 : Rp (Int × Int) := (Rp.pair (Rp.int .i64) (Rp.int .i64))
def E42 (a : Int × Int) : List Value := [.int .i64 a.1, .int .i64 a.2]
theorem F42 : Fl R42 E42 := (Fl.pair Fl.int Fl.int)
theorem L24 : Et Try.prog 24 42 2 16 := Et.of Try.underlying24 (by kernel_rfl) (by kernel_rfl) (by kernel_rfl) (by decide)
theorem T42 : Ty Try.prog 42 true 2 := ⟨by kernel_rfl, by kernel_rfl⟩
theorem T3 : Ty Try.prog 3 false 1 := ⟨by kernel_rfl, by kernel_rfl⟩
noncomputable def graph_Right_l1 (p0 : Int) (p1 : List (Int × Int)) : Int → Option (Int ⊕ (Unit ⊕ Bool))
  | x1 => (if x1 < (p1.length : Int) then (ix p1 x1).bind fun x2 => (if (decide (x2.1 < 0) || (decide (p0 ≤ x2.1) || (decide (x2.2 < 0) || decide (p0 ≤ x2.2)))) = true then some (.inr (.inr false)) else some (.inl (w64 (x1 + 1)))) else some (.inr (.inl ())))
noncomputable def graph_Right (p0 : Int) (p1 : List (Int × Int)) : Option Bool := (if (decide (p0 < 0) || decide (16 < p0)) = true then some false else orR (loopW (graph_Right_l1 p0 p1) 0) fun _ => some true)
theorem graph_Right_c (Y : Nat → Prop) (w0 : World) (v1 : Value) (p0 : Int) (p1 : List (Int × Int)) (r : Bool) (H : graph_Right p0 p1 = some r) (h_v1 : Sl w0 (NX []) R42 v1 p1) :
    Calls Try.prog 10 #[.int .i64 p0, v1] w0 fun e w' => e = .returned (.bool r) ∧ Below w0.heap.size w0 w' := by
  refine enter Try.func10 rfl Try.ntmps10 rfl (fun a hF => ?_)
  have hW := Stw.start Y w0
  unfold graph_Right at H
  refine c_seq ?_
  refine reg_list ?_
  refine ls hF hW rfl ((y_assign hF rfl).q) (fun a w hF hW => ?_)
  refine ls_nil ?_
  refine c_then ?_
  refine c_seq ?_
  refine c_seqJ (fun a w => Fr 40 [] [(0, .int .i64 p0), (1, v1), (4, .bool false), (12, .bool (decide (p0 < 0) || decide (16 < p0)))] a ∧ Stw ⟨Y, [], w0⟩ [] [] w) ?_ ?_
  ·
    refine reg_list ?_
    refine ls hF hW rfl ((y_move hF rfl).q) (fun a w hF hW => ?_)
    refine ls hF hW rfl ((y_lss hF rfl rfl).q) (fun a w hF hW => ?_)
    refine ls hF hW rfl ((y_move hF rfl).q) (fun a w hF hW => ?_)
    rcases Bool.eq_false_or_eq_true (decide (p0 < 0)) with hb0 | hb0
    ·
      rw [hb0] at hF
      refine ls_skip hF (wanted_n hF rfl rfl rfl rfl rfl) rfl rfl (fun a hF => ?_)
      refine ls_skip hF (wanted_n hF rfl rfl rfl rfl rfl) rfl rfl (fun a hF => ?_)
      refine ls hF hW rfl ((y_pick_t hF rfl rfl rfl).q) (fun a w hF hW => ?_)
      refine ls_nil ?_
      refine c_then ?_
      exact ⟨hF.re ⟨rfl, rfl, rfl, (by show some (Value.bool true) = some (Value.bool (decide (p0 < 0) || decide (16 < p0))); try rw [hb0]; all_goals simp only [Bool.not_true, Bool.not_false, Bool.true_and, Bool.false_and, Bool.true_or, Bool.false_or, Bool.and_true, Bool.or_false, cond_true, cond_false]), trivial⟩, hW⟩
    ·
      rw [hb0] at hF
      refine ls_w hF hW (wanted_y hF rfl rfl rfl rfl) rfl (Nat.le_of_ble_eq_true rfl) ((y_move hF rfl).q) (fun a w hF hW => ?_)
      refine ls_w hF hW (wanted_y hF rfl rfl rfl rfl) rfl (Nat.le_of_ble_eq_true rfl) ((y_gtr hF rfl rfl).q) (fun a w hF hW => ?_)
      refine ls hF hW rfl ((y_pick_f hF rfl rfl rfl).q) (fun a w hF hW => ?_)
      refine ls_nil ?_
      refine c_then ?_
      exact ⟨hF.re ⟨rfl, rfl, rfl, (by show some (Value.bool (decide (16 < p0))) = some (Value.bool (decide (p0 < 0) || decide (16 < p0))); try rw [hb0]; all_goals simp only [Bool.not_true, Bool.not_false, Bool.true_and, Bool.false_and, Bool.true_or, Bool.false_or, Bool.and_true, Bool.or_false, cond_true, cond_false]), trivial⟩, hW⟩
  rintro a w ⟨hF, hW⟩
  refine c_cond hF rfl (fun hb => ?_) (fun hb => ?_)
  ·
    have H := iteT hb H
    rw [hb] at hF
    clear hb
    refine c_seq ?_
    refine reg_list ?_
    refine ls hF hW rfl ((y_assign hF rfl).q) (fun a w hF hW => ?_)
    refine ls_nil ?_
    refine c_then ?_
    refine wp_ret ?_
    refine r_then ?_
    have H := Option.some.inj H
    subst H
    refine post1 (.inl rfl) hF hW rfl (rv_tmp hF rfl) ?_
    exact ⟨rfl, hW.done⟩
  ·
    have H := iteF (by rw [hb]; decide) H
    rw [hb] at hF
    clear hb
    refine wp_skip ?_
    refine c_then ?_
    obtain ⟨o1, G1, K1, L1⟩ := orE H
    refine c_seqJ (fun a w => some (Sum.inl ()) = some o1 ∧ Fr 40 [] [(4, .bool false)] a ∧ Stw ⟨Y, [], w0⟩ [] [] w) ?_ ?_
    ·
      have H := G1
      clear G1 K1
      refine c_seq ?_
      refine reg_list ?_
      refine ls hF hW rfl ((y_move hF rfl).q) (fun a w hF hW => ?_)
      refine ls hF hW rfl ((y_len (r := R42) (l := p1) Try.underlying24 rfl hF rfl (rdc_ro h_v1)).q) (fun a w hF hW => ?_)
      refine ls hF hW rfl ((y_move hF rfl).q) (fun a w hF hW => ?_)
      refine ls_nil ?_
      refine c_then ?_
      refine wp_block ?_
      refine c_loopW H (fun s a w => Fr 40 [] [(0, .int .i64 p0), (4, .bool false), (13, v1), (14, .int .i64 (p1.length : Int)), (15, .int .i64 s)] a ∧ Stw ⟨Y, [], w0⟩ [] [] w) ⟨hF.re ⟨rfl, rfl, rfl, rfl, rfl, trivial⟩, hW⟩ (fun s o a w H L2 hR => ?_)
      obtain ⟨x1, rfl⟩ : ∃ x, x = s := ⟨s, rfl⟩
      obtain ⟨hF, hW⟩ := hR
      have hF : Fr 40 [] [(0, .int .i64 p0), (4, .bool false), (13, v1), (14, .int .i64 (p1.length : Int)), (15, .int .i64 x1)] a := hF
      have hW : Stw ⟨Y, [], w0⟩ [] [] w := hW
      rw [graph_Right_l1] at H
      refine c_seq ?_
      refine reg_list ?_
      refine ls hF hW rfl ((y_lss hF rfl rfl).q) (fun a w hF hW => ?_)
      refine ls_nil ?_
      refine c_then ?_
      refine c_seq ?_
      refine c_cond hF rfl (fun hb => ?_) (fun hb => ?_)
      ·
        have H := iteT (of_decide_eq_true hb) H
        rw [hb] at hF
        clear hb
        refine wp_skip ?_
        refine c_then ?_
        refine c_seq ?_
        refine wp_block ?_
        refine c_seq ?_
        refine reg_list ?_
        obtain ⟨x2, h1, H⟩ := bindE H
        refine ls hF hW rfl ((y_index (r := R42) L24 hF rfl rfl (rdc_ro h_v1) h1).q) (fun a w hF hW => ?_)
        refine ls hF hW rfl ((y_load_el (y := Value.agg #[.int .i64 x2.1, .int .i64 x2.2]) (j := 0) (i := x1) hF rfl rfl (rdc_ro h_v1) h1 F42.to T42 rfl).q) (fun a w hF hW => ?_)
        refine l_alloc (cs := [.int .i64 0, .int .i64 0]) hF hW rfl Z42 rfl (fun b1 a w hF hW => ?_)
        refine l_store (vs := [.int .i64 x2.1, .int .i64 x2.2]) (M' := [(b1, [.int .i64 x2.1, .int .i64 x2.2])]) 0 hF hW rfl rfl rfl T42 rfl rfl rfl rfl rfl (fun w hW => ?_)
        refine ls_nil ?_
        refine c_then ?_
        refine c_seqJ (fun a w => Fr 40 [] [(0, .int .i64 p0), (4, .bool false), (13, v1), (14, .int .i64 (p1.length : Int)), (15, .int .i64 x1), (38, .bool (decide (x2.1 < 0) || (decide (p0 ≤ x2.1) || (decide (x2.2 < 0) || decide (p0 ≤ x2.2)))))] a ∧ Stw ⟨Y, [], w0⟩ [(b1, [.int .i64 x2.1, .int .i64 x2.2])] [] w) ?_ ?_
        ·
          refine reg_list ?_
          refine ls hF hW rfl ((y_fieldAddr Try.underlying42 rfl rfl rfl T3 hF rfl 0 rfl).q) (fun a w hF hW => ?_)
          refine ls hF hW rfl ((y_load (v := Value.int .i64 x2.1) 0 hF rfl rfl T3 rfl).q) (fun a w hF hW => ?_)
          refine ls hF hW rfl ((y_lss hF rfl rfl).q) (fun a w hF hW => ?_)
          refine ls hF hW rfl ((y_move hF rfl).q) (fun a w hF hW => ?_)
          rcases Bool.eq_false_or_eq_true (decide (x2.1 < 0)) with hb0 | hb0
          ·
            rw [hb0] at hF
            refine ls_skip hF (wanted_n hF rfl rfl rfl rfl rfl) rfl rfl (fun a hF => ?_)
            refine ls_skip hF (wanted_n hF rfl rfl rfl rfl rfl) rfl rfl (fun a hF => ?_)
            refine ls_skip hF (wanted_n hF rfl rfl rfl rfl rfl) rfl rfl (fun a hF => ?_)
            refine ls_skip hF (wanted_n hF rfl rfl rfl rfl rfl) rfl rfl (fun a hF => ?_)
            refine ls hF hW rfl ((y_pick_t hF rfl rfl rfl).q) (fun a w hF hW => ?_)
            refine ls hF hW rfl ((y_move hF rfl).q) (fun a w hF hW => ?_)
            refine ls_skip hF (wanted_n hF rfl rfl rfl rfl rfl) rfl rfl (fun a hF => ?_)
            refine ls_skip hF (wanted_n hF rfl rfl rfl rfl rfl) rfl rfl (fun a hF => ?_)
            refine ls_skip hF (wanted_n hF rfl rfl rfl rfl rfl) rfl rfl (fun a hF => ?_)
            refine ls hF hW rfl ((y_pick_t hF rfl rfl rfl).q) (fun a w hF hW => ?_)
            refine ls hF hW rfl ((y_move hF rfl).q) (fun a w hF hW => ?_)
            refine ls_skip hF (wanted_n hF rfl rfl rfl rfl rfl) rfl rfl (fun a hF => ?_)
            refine ls_skip hF (wanted_n hF rfl rfl rfl rfl rfl) rfl rfl (fun a hF => ?_)
            refine ls_skip hF (wanted_n hF rfl rfl rfl rfl rfl) rfl rfl (fun a hF => ?_)
            refine ls_skip hF (wanted_n hF rfl rfl rfl rfl rfl) rfl rfl (fun a hF => ?_)
            refine ls hF hW rfl ((y_pick_t hF rfl rfl rfl).q) (fun a w hF hW => ?_)
            refine ls_nil ?_
            refine c_then ?_
            exact ⟨hF.re ⟨rfl, rfl, rfl, rfl, rfl, (by show some (Value.bool true) = some (Value.bool (decide (x2.1 < 0) || (decide (p0 ≤ x2.1) || (decide (x2.2 < 0) || decide (p0 ≤ x2.2))))); try rw [hb0]; all_goals simp only [Bool.not_true, Bool.not_false, Bool.true_and, Bool.false_and, Bool.true_or, Bool.false_or, Bool.and_true, Bool.or_false, cond_true, cond_false]), trivial⟩, hW⟩
          ·
            rw [hb0] at hF
            refine ls_w hF hW (wanted_y hF rfl rfl rfl rfl) rfl (Nat.le_of_ble_eq_true rfl) ((y_fieldAddr Try.underlying42 rfl rfl rfl T3 hF rfl 0 rfl).q) (fun a w hF hW => ?_)
            refine ls_w hF hW (wanted_y hF rfl rfl rfl rfl) rfl (Nat.le_of_ble_eq_true rfl) ((y_load (v := Value.int .i64 x2.1) 0 hF rfl rfl T3 rfl).q) (fun a w hF hW => ?_)
            refine ls_w hF hW (wanted_y hF rfl rfl rfl rfl) rfl (Nat.le_of_ble_eq_true rfl) ((y_move hF rfl).q) (fun a w hF hW => ?_)
            refine ls_w hF hW (wanted_y hF rfl rfl rfl rfl) rfl (Nat.le_of_ble_eq_true rfl) ((y_geq hF rfl rfl).q) (fun a w hF hW => ?_)
            refine ls hF hW rfl ((y_pick_f hF rfl rfl rfl).q) (fun a w hF hW => ?_)
            refine ls hF hW rfl ((y_move hF rfl).q) (fun a w hF hW => ?_)
            rcases Bool.eq_false_or_eq_true (decide (p0 ≤ x2.1)) with hb1 | hb1
            ·
              rw [hb1] at hF
              refine ls_skip hF (wanted_n hF rfl rfl rfl rfl rfl) rfl rfl (fun a hF => ?_)
              refine ls_skip hF (wanted_n hF rfl rfl rfl rfl rfl) rfl rfl (fun a hF => ?_)
              refine ls_skip hF (wanted_n hF rfl rfl rfl rfl rfl) rfl rfl (fun a hF => ?_)
              refine ls hF hW rfl ((y_pick_t hF rfl rfl rfl).q) (fun a w hF hW => ?_)
              refine ls hF hW rfl ((y_move hF rfl).q) (fun a w hF hW => ?_)
              refine ls_skip hF (wanted_n hF rfl rfl rfl rfl rfl) rfl rfl (fun a hF => ?_)
              refine ls_skip hF (wanted_n hF rfl rfl rfl rfl rfl) rfl rfl (fun a hF => ?_)
              refine ls_skip hF (wanted_n hF rfl rfl rfl rfl rfl) rfl rfl (fun a hF => ?_)
              refine ls_skip hF (wanted_n hF rfl rfl rfl rfl rfl) rfl rfl (fun a hF => ?_)
              refine ls hF hW rfl ((y_pick_t hF rfl rfl rfl).q) (fun a w hF hW => ?_)
              refine ls_nil ?_
              refine c_then ?_
              exact ⟨hF.re ⟨rfl, rfl, rfl, rfl, rfl, (by show some (Value.bool true) = some (Value.bool (decide (x2.1 < 0) || (decide (p0 ≤ x2.1) || (decide (x2.2 < 0) || decide (p0 ≤ x2.2))))); try rw [hb1]; try rw [hb0]; all_goals simp only [Bool.not_true, Bool.not_false, Bool.true_and, Bool.false_and, Bool.true_or, Bool.false_or, Bool.and_true, Bool.or_false, cond_true, cond_false]), trivial⟩, hW⟩
            ·
              rw [hb1] at hF
              refine ls_w hF hW (wanted_y hF rfl rfl rfl rfl) rfl (Nat.le_of_ble_eq_true rfl) ((y_fieldAddr Try.underlying42 rfl rfl rfl T3 hF rfl 1 rfl).q) (fun a w hF hW => ?_)
              refine ls_w hF hW (wanted_y hF rfl rfl rfl rfl) rfl (Nat.le_of_ble_eq_true rfl) ((y_load (v := Value.int .i64 x2.2) 0 hF rfl rfl T3 rfl).q) (fun a w hF hW => ?_)
              refine ls_w hF hW (wanted_y hF rfl rfl rfl rfl) rfl (Nat.le_of_ble_eq_true rfl) ((y_lss hF rfl rfl).q) (fun a w hF hW => ?_)
              refine ls hF hW rfl ((y_pick_f hF rfl rfl rfl).q) (fun a w hF hW => ?_)
              refine ls hF hW rfl ((y_move hF rfl).q) (fun a w hF hW => ?_)
              rcases Bool.eq_false_or_eq_true (decide (x2.2 < 0)) with hb2 | hb2
              ·
                rw [hb2] at hF
                refine ls_skip hF (wanted_n hF rfl rfl rfl rfl rfl) rfl rfl (fun a hF => ?_)
                refine ls_skip hF (wanted_n hF rfl rfl rfl rfl rfl) rfl rfl (fun a hF => ?_)
                refine ls_skip hF (wanted_n hF rfl rfl rfl rfl rfl) rfl rfl (fun a hF => ?_)
                refine ls_skip hF (wanted_n hF rfl rfl rfl rfl rfl) rfl rfl (fun a hF => ?_)
                refine ls hF hW rfl ((y_pick_t hF rfl rfl rfl).q) (fun a w hF hW => ?_)
                refine ls_nil ?_
                refine c_then ?_
                exact ⟨hF.re ⟨rfl, rfl, rfl, rfl, rfl, (by show some (Value.bool true) = some (Value.bool (decide (x2.1 < 0) || (decide (p0 ≤ x2.1) || (decide (x2.2 < 0) || decide (p0 ≤ x2.2))))); try rw [hb1]; try rw [hb0]; try rw [hb2]; all_goals simp only [Bool.not_true, Bool.not_false, Bool.true_and, Bool.false_and, Bool.true_or, Bool.false_or, Bool.and_true, Bool.or_false, cond_true, cond_false]), trivial⟩, hW⟩
              ·
                rw [hb2] at hF
                refine ls_w hF hW (wanted_y hF rfl rfl rfl rfl) rfl (Nat.le_of_ble_eq_true rfl) ((y_fieldAddr Try.underlying42 rfl rfl rfl T3 hF rfl 1 rfl).q) (fun a w hF hW => ?_)
                refine ls_w hF hW (wanted_y hF rfl rfl rfl rfl) rfl (Nat.le_of_ble_eq_true rfl) ((y_load (v := Value.int .i64 x2.2) 0 hF rfl rfl T3 rfl).q) (fun a w hF hW => ?_)
                refine ls_w hF hW (wanted_y hF rfl rfl rfl rfl) rfl (Nat.le_of_ble_eq_true rfl) ((y_move hF rfl).q) (fun a w hF hW => ?_)
                refine ls_w hF hW (wanted_y hF rfl rfl rfl rfl) rfl (Nat.le_of_ble_eq_true rfl) ((y_geq hF rfl rfl).q) (fun a w hF hW => ?_)
                refine ls hF hW rfl ((y_pick_f hF rfl rfl rfl).q) (fun a w hF hW => ?_)
                refine ls_nil ?_
                refine c_then ?_
                exact ⟨hF.re ⟨rfl, rfl, rfl, rfl, rfl, (by show some (Value.bool (decide (p0 ≤ x2.2))) = some (Value.bool (decide (x2.1 < 0) || (decide (p0 ≤ x2.1) || (decide (x2.2 < 0) || decide (p0 ≤ x2.2))))); try rw [hb1]; try rw [hb0]; try rw [hb2]; all_goals simp only [Bool.not_true, Bool.not_false, Bool.true_and, Bool.false_and, Bool.true_or, Bool.false_or, Bool.and_true, Bool.or_false, cond_true, cond_false]), trivial⟩, hW⟩
        rintro a w ⟨hF, hW⟩
        refine c_cond hF rfl (fun hb => ?_) (fun hb => ?_)
        ·
          have H := iteT hb H
          rw [hb] at hF
          clear hb
          refine c_seq ?_
          refine reg_list ?_
          refine ls hF hW rfl ((y_assign hF rfl).q) (fun a w hF hW => ?_)
          refine ls_nil ?_
          refine c_then ?_
          refine wp_ret ?_
          refine r_block ?_
          refine r_then ?_
          refine r_then ?_
          refine r_block ?_
          refine r_then ?_
          have H := L2 _ H
          have H := L1 _ H
          have H := Option.some.inj H
          subst H
          refine post1 (.inl rfl) hF hW rfl (rv_tmp hF rfl) ?_
          exact ⟨rfl, hW.done⟩
        ·
          have H := iteF (by rw [hb]; decide) H
          rw [hb] at hF
          clear hb
          refine wp_skip ?_
          refine b_normal ?_
          refine c_then ?_
          refine reg_list ?_
          refine ls hF hW rfl ((y_add hF rfl rfl rfl).q) (fun a w hF hW => ?_)
          refine ls hF hW rfl ((y_move hF rfl).q) (fun a w hF hW => ?_)
          refine ls_nil ?_
          refine c_then ?_
          have hW := hW.sub (M' := []) (Z' := []) (List.nil_sublist _) (List.Sublist.refl _)
          exact ⟨_, H, hF.re ⟨rfl, rfl, rfl, rfl, rfl, trivial⟩, hW⟩
      ·
        have H := iteF (of_decide_eq_false hb) H
        rw [hb] at hF
        clear hb
        refine wp_exit ?_
        refine e_then ?_
        refine e_then ?_
        refine e_block ?_
        refine c_then ?_
        have H := L2 _ H
        exact ⟨H, hF.re ⟨rfl, trivial⟩, hW⟩
    rintro a w ⟨hj, hF, hW⟩
    have H := K1 _ hj
    clear hj G1 K1 L1
    refine c_seq ?_
    refine reg_list ?_
    refine ls hF hW rfl ((y_assign hF rfl).q) (fun a w hF hW => ?_)
    refine ls_nil ?_
    refine c_then ?_
    refine wp_ret ?_
    have H := Option.some.inj H
    subst H
    refine post1 (.inl rfl) hF hW rfl (rv_tmp hF rfl) ?_
    exact ⟨rfl, hW.done⟩

theorem H10 : Has Try.prog 10 := ⟨fun args w => run_callFunc_body Try.func10 rfl (by decide) args w⟩
theorem Z46 : (Try.prog.info? 46).bind (·.zero) = some (.agg #[.int .u32 0, .int .u32 0, .int .u32 0, .int .u32 0, .int .u32 0, .int .u32 0, .int .u32 0, .int .u32 0, .int .u32 0, .int .u32 0, .int .u32 0, .int .u32 0, .int .u32 0, .int .u32 0, .int .u32 0, .int .u32 0]) := by kernel_rfl
theorem MO : Try.prog.follows .mixedOrders = true := by kernel_rfl
theorem Ar46 : Ar Try.prog 46 16 45 1 := ⟨Try.underlying46, by kernel_rfl⟩
theorem T45 : Ty Try.prog 45 false 1 := ⟨by kernel_rfl, by kernel_rfl⟩
noncomputable def graph_set_with (p0 : Int) (p1 : Int) : Option Int := (shN (shlI .u32 1 p1) p1).bind fun x1 => some (orI .u32 p0 x1)
theorem graph_set_with_c (Y : Nat → Prop) (w0 : World)  (p0 : Int) (p1 : Int) (r : Int) (H : graph_set_with p0 p1 = some r)  :
    Calls Try.prog 23 #[.int .u32 p0, .int .i64 p1] w0 fun e w' => e = .returned (.int .u32 r) ∧ Below w0.heap.size w0 w' := by
  refine enter Try.func23 rfl Try.ntmps23 rfl (fun a hF => ?_)
  have hW := Stw.start Y w0
  unfold graph_set_with at H
  refine c_seq ?_
  refine reg_list ?_
  refine ls hF hW rfl ((y_assign hF rfl).q) (fun a w hF hW => ?_)
  refine ls_nil ?_
  refine c_then ?_
  refine c_seq ?_
  refine reg_list ?_
  refine ls hF hW rfl ((y_move hF rfl).q) (fun a w hF hW => ?_)
  refine ls hF hW rfl ((y_move hF rfl).q) (fun a w hF hW => ?_)
  obtain ⟨x1, h1, H⟩ := bindE H
  refine ls hF hW rfl ((y_shc (shN_some h1).2 (y_shl hF rfl rfl (shN_some h1).1)).q) (fun a w hF hW => ?_)
  refine ls hF hW rfl ((y_or hF rfl rfl).q) (fun a w hF hW => ?_)
  refine ls hF hW rfl ((y_assign hF rfl).q) (fun a w hF hW => ?_)
  refine ls_nil ?_
  refine c_then ?_
  refine wp_ret ?_
  have H := Option.some.inj H
  subst H
  refine post1 (.inl rfl) hF hW rfl (rv_tmp hF rfl) ?_
  exact ⟨rfl, hW.done⟩

theorem H23 : Has Try.prog 23 := ⟨fun args w => run_callFunc_body Try.func23 rfl (by decide) args w⟩
theorem T46 : Ty Try.prog 46 true 16 := ⟨by kernel_rfl, by kernel_rfl⟩
noncomputable def graph_predecessors_l1 (p0 : List (Int × Int)) : (Int × Int × Int × Int × Int × Int × Int × Int × Int × Int × Int × Int × Int × Int × Int × Int × Int) → Option ((Int × Int × Int × Int × Int × Int × Int × Int × Int × Int × Int × Int × Int × Int × Int × Int × Int) ⊕ (Int × Int × Int × Int × Int × Int × Int × Int × Int × Int × Int × Int × Int × Int × Int × Int))
  | (x17, x18, x19, x20, x21, x22, x23, x24, x25, x26, x27, x28, x29, x30, x31, x32, x33) => (if x17 < (p0.length : Int) then (ix p0 x17).bind fun x34 => (ix ([x18, x19, x20, x21, x22, x23, x24, x25, x26, x27, x28, x29, x30, x31, x32, x33] : List Int) x34.2).bind fun x35 => (graph_set_with x35 x34.1).bind fun x36 => (ix ([x18, x19, x20, x21, x22, x23, x24, x25, x26, x27, x28, x29, x30, x31, x32, x33] : List Int) x34.2).bind fun x37 => some (.inl (w64 (x17 + 1), (if x34.2 = 0 then x36 else x18), (if x34.2 = 1 then x36 else x19), (if x34.2 = 2 then x36 else x20), (if x34.2 = 3 then x36 else x21), (if x34.2 = 4 then x36 else x22), (if x34.2 = 5 then x36 else x23), (if x34.2 = 6 then x36 else x24), (if x34.2 = 7 then x36 else x25), (if x34.2 = 8 then x36 else x26), (if x34.2 = 9 then x36 else x27), (if x34.2 = 10 then x36 else x28), (if x34.2 = 11 then x36 else x29), (if x34.2 = 12 then x36 else x30), (if x34.2 = 13 then x36 else x31), (if x34.2 = 14 then x36 else x32), (if x34.2 = 15 then x36 else x33))) else some (.inr (x18, x19, x20, x21, x22, x23, x24, x25, x26, x27, x28, x29, x30, x31, x32, x33)))
noncomputable def graph_predecessors (p0 : List (Int × Int)) : Option (Int × Int × Int × Int × Int × Int × Int × Int × Int × Int × Int × Int × Int × Int × Int × Int) := (loopW (graph_predecessors_l1 p0) (0, 0, 0, 0, 0, 0, 0, 0, 0, 0, 0, 0, 0, 0, 0, 0, 0)).bind fun (x1, x2, x3, x4, x5, x6, x7, x8, x9, x10, x11, x12, x13, x14, x15, x16) => some (x1, x2, x3, x4, x5, x6, x7, x8, x9, x10, x11, x12, x13, x14, x15, x16)
theorem graph_predecessors_c (Y : Nat → Prop) (w0 : World) (v1 : Value) (p0 : List (Int × Int)) (r : (Int × Int × Int × Int × Int × Int × Int × Int × Int × Int × Int × Int × Int × Int × Int × Int)) (H : graph_predecessors p0 = some r) (h_v1 : Sl w0 (NX []) R42 v1 p0) :
    Calls Try.prog 21 #[v1] w0 fun e w' => e = .returned (.agg #[.int .u32 r.1, .int .u32 r.2.1, .int .u32 r.2.2.1, .int .u32 r.2.2.2.1, .int .u32 r.2.2.2.2.1, .int .u32 r.2.2.2.2.2.1, .int .u32 r.2.2.2.2.2.2.1, .int .u32 r.2.2.2.2.2.2.2.1, .int .u32 r.2.2.2.2.2.2.2.2.1, .int .u32 r.2.2.2.2.2.2.2.2.2.1, .int .u32 r.2.2.2.2.2.2.2.2.2.2.1, .int .u32 r.2.2.2.2.2.2.2.2.2.2.2.1, .int .u32 r.2.2.2.2.2.2.2.2.2.2.2.2.1, .int .u32 r.2.2.2.2.2.2.2.2.2.2.2.2.2.1, .int .u32 r.2.2.2.2.2.2.2.2.2.2.2.2.2.2.1, .int .u32 r.2.2.2.2.2.2.2.2.2.2.2.2.2.2.2]) ∧ Below w0.heap.size w0 w' := by
  refine enter Try.func21 rfl Try.ntmps21 rfl (fun a hF => ?_)
  have hW := Stw.start Y w0
  unfold graph_predecessors at H
  refine c_seq ?_
  refine reg_list ?_
  refine l_alloc (cs := [.int .u32 0, .int .u32 0, .int .u32 0, .int .u32 0, .int .u32 0, .int .u32 0, .int .u32 0, .int .u32 0, .int .u32 0, .int .u32 0, .int .u32 0, .int .u32 0, .int .u32 0, .int .u32 0, .int .u32 0, .int .u32 0]) hF hW rfl Z46 rfl (fun b1 a w hF hW => ?_)
  refine ls_nil ?_
  refine c_then ?_
  refine c_seq ?_
  refine reg_list ?_
  refine l_alloc (cs := [.int .u32 0, .int .u32 0, .int .u32 0, .int .u32 0, .int .u32 0, .int .u32 0, .int .u32 0, .int .u32 0, .int .u32 0, .int .u32 0, .int .u32 0, .int .u32 0, .int .u32 0, .int .u32 0, .int .u32 0, .int .u32 0]) hF hW rfl Z46 rfl (fun b2 a w hF hW => ?_)
  refine ls_nil ?_
  refine c_then ?_
  obtain ⟨o1, G1, K1⟩ := bindE H
  refine c_seqJ (fun a w => ∃ x1 : Int, ∃ x2 : Int, ∃ x3 : Int, ∃ x4 : Int, ∃ x5 : Int, ∃ x6 : Int, ∃ x7 : Int, ∃ x8 : Int, ∃ x9 : Int, ∃ x10 : Int, ∃ x11 : Int, ∃ x12 : Int, ∃ x13 : Int, ∃ x14 : Int, ∃ x15 : Int, ∃ x16 : Int, some ((x1, x2, x3, x4, x5, x6, x7, x8, x9, x10, x11, x12, x13, x14, x15, x16)) = some o1 ∧ Fr 24 [] [(2, .pointer (some ⟨b1, 0, none⟩)), (3, .pointer (some ⟨b2, 0, none⟩))] a ∧ Stw ⟨Y, [], w0⟩ [(b2, [.int .u32 x1, .int .u32 x2, .int .u32 x3, .int .u32 x4, .int .u32 x5, .int .u32 x6, .int .u32 x7, .int .u32 x8, .int .u32 x9, .int .u32 x10, .int .u32 x11, .int .u32 x12, .int .u32 x13, .int .u32 x14, .int .u32 x15, .int .u32 x16]), (b1, [.int .u32 0, .int .u32 0, .int .u32 0, .int .u32 0, .int .u32 0, .int .u32 0, .int .u32 0, .int .u32 0, .int .u32 0, .int .u32 0, .int .u32 0, .int .u32 0, .int .u32 0, .int .u32 0, .int .u32 0, .int .u32 0])] [] w) ?_ ?_
  ·
    have H := G1
    clear G1 K1
    refine c_seq ?_
    refine reg_list ?_
    refine ls hF hW rfl ((y_move hF rfl).q) (fun a w hF hW => ?_)
    refine ls hF hW rfl ((y_len (r := R42) (l := p0) Try.underlying24 rfl hF rfl (rdc_ro h_v1)).q) (fun a w hF hW => ?_)
    refine ls hF hW rfl ((y_move hF rfl).q) (fun a w hF hW => ?_)
    refine ls_nil ?_
    refine c_then ?_
    refine wp_block ?_
    have hW := hW.frontM (i := 1) rfl rfl
    have hW := hW.frontM (i := 1) rfl rfl
    refine c_loopW H (fun s a w => Fr 24 [] [(2, .pointer (some ⟨b1, 0, none⟩)), (3, .pointer (some ⟨b2, 0, none⟩)), (6, v1), (7, .int .i64 (p0.length : Int)), (8, .int .i64 s.1)] a ∧ Stw ⟨Y, [], w0⟩ [(b2, [.int .u32 s.2.1, .int .u32 s.2.2.1, .int .u32 s.2.2.2.1, .int .u32 s.2.2.2.2.1, .int .u32 s.2.2.2.2.2.1, .int .u32 s.2.2.2.2.2.2.1, .int .u32 s.2.2.2.2.2.2.2.1, .int .u32 s.2.2.2.2.2.2.2.2.1, .int .u32 s.2.2.2.2.2.2.2.2.2.1, .int .u32 s.2.2.2.2.2.2.2.2.2.2.1, .int .u32 s.2.2.2.2.2.2.2.2.2.2.2.1, .int .u32 s.2.2.2.2.2.2.2.2.2.2.2.2.1, .int .u32 s.2.2.2.2.2.2.2.2.2.2.2.2.2.1, .int .u32 s.2.2.2.2.2.2.2.2.2.2.2.2.2.2.1, .int .u32 s.2.2.2.2.2.2.2.2.2.2.2.2.2.2.2.1, .int .u32 s.2.2.2.2.2.2.2.2.2.2.2.2.2.2.2.2]), (b1, [.int .u32 0, .int .u32 0, .int .u32 0, .int .u32 0, .int .u32 0, .int .u32 0, .int .u32 0, .int .u32 0, .int .u32 0, .int .u32 0, .int .u32 0, .int .u32 0, .int .u32 0, .int .u32 0, .int .u32 0, .int .u32 0])] [] w) ⟨hF.re ⟨rfl, rfl, rfl, rfl, rfl, trivial⟩, hW⟩ (fun s o a w H L2 hR => ?_)
    obtain ⟨x17, x18, x19, x20, x21, x22, x23, x24, x25, x26, x27, x28, x29, x30, x31, x32, x33⟩ := s
    obtain ⟨hF, hW⟩ := hR
    have hF : Fr 24 [] [(2, .pointer (some ⟨b1, 0, none⟩)), (3, .pointer (some ⟨b2, 0, none⟩)), (6, v1), (7, .int .i64 (p0.length : Int)), (8, .int .i64 x17)] a := hF
    have hW : Stw ⟨Y, [], w0⟩ [(b2, [.int .u32 x18, .int .u32 x19, .int .u32 x20, .int .u32 x21, .int .u32 x22, .int .u32 x23, .int .u32 x24, .int .u32 x25, .int .u32 x26, .int .u32 x27, .int .u32 x28, .int .u32 x29, .int .u32 x30, .int .u32 x31, .int .u32 x32, .int .u32 x33]), (b1, [.int .u32 0, .int .u32 0, .int .u32 0, .int .u32 0, .int .u32 0, .int .u32 0, .int .u32 0, .int .u32 0, .int .u32 0, .int .u32 0, .int .u32 0, .int .u32 0, .int .u32 0, .int .u32 0, .int .u32 0, .int .u32 0])] [] w := hW
    rw [graph_predecessors_l1] at H
    refine c_seq ?_
    refine reg_list ?_
    refine ls hF hW rfl ((y_lss hF rfl rfl).q) (fun a w hF hW => ?_)
    refine ls_nil ?_
    refine c_then ?_
    refine c_seq ?_
    refine c_cond hF rfl (fun hb => ?_) (fun hb => ?_)
    ·
      have H := iteT (of_decide_eq_true hb) H
      rw [hb] at hF
      clear hb
      refine wp_skip ?_
      refine c_then ?_
      refine c_seq ?_
      refine wp_block ?_
      refine c_seq ?_
      refine reg_list ?_
      obtain ⟨x34, h1, H⟩ := bindE H
      refine ls hF hW rfl ((y_index (r := R42) L24 hF rfl rfl (rdc_ro h_v1) h1).q) (fun a w hF hW => ?_)
      refine ls hF hW rfl ((y_load_el (y := Value.agg #[.int .i64 x34.1, .int .i64 x34.2]) (j := 0) (i := x17) hF rfl rfl (rdc_ro h_v1) h1 F42.to T42 rfl).q) (fun a w hF hW => ?_)
      refine l_alloc (cs := [.int .i64 0, .int .i64 0]) hF hW rfl Z42 rfl (fun b3 a w hF hW => ?_)
      refine l_store (vs := [.int .i64 x34.1, .int .i64 x34.2]) (M' := [(b3, [.int .i64 x34.1, .int .i64 x34.2]), (b2, [.int .u32 x18, .int .u32 x19, .int .u32 x20, .int .u32 x21, .int .u32 x22, .int .u32 x23, .int .u32 x24, .int .u32 x25, .int .u32 x26, .int .u32 x27, .int .u32 x28, .int .u32 x29, .int .u32 x30, .int .u32 x31, .int .u32 x32, .int .u32 x33]), (b1, [.int .u32 0, .int .u32 0, .int .u32 0, .int .u32 0, .int .u32 0, .int .u32 0, .int .u32 0, .int .u32 0, .int .u32 0, .int .u32 0, .int .u32 0, .int .u32 0, .int .u32 0, .int .u32 0, .int .u32 0, .int .u32 0])]) 0 hF hW rfl rfl rfl T42 rfl rfl rfl rfl rfl (fun w hW => ?_)
      refine ls_nil ?_
      refine c_then ?_
      refine reg_tail 10 hW MO (by kernel_rfl) ?_
      refine qs hF rfl ((y_fieldAddr Try.underlying42 rfl rfl rfl T3 hF rfl 1 rfl).q) (fun a hF => ?_)
      refine qs hF rfl ((y_load (v := Value.int .i64 x34.2) 0 hF rfl rfl T3 rfl).q) (fun a hF => ?_)
      refine qs hF rfl ((y_fieldAddr Try.underlying42 rfl rfl rfl T3 hF rfl 1 rfl).q) (fun a hF => ?_)
      refine qs hF rfl ((y_load (v := Value.int .i64 x34.2) 0 hF rfl rfl T3 rfl).q) (fun a hF => ?_)
      obtain ⟨x35, h2, H⟩ := bindE H
      refine qs hF rfl ((y_indexP (0 + (x34.2).toNat * 1) Ar46 hF rfl rfl rfl h2 rfl).q) (fun a hF => ?_)
      refine qs hF rfl ((y_load (v := Value.int .u32 x35) 1 hF rfl rfl T45 (rdv_dyn (base := 0) (m := 16) (l := [x18, x19, x20, x21, x22, x23, x24, x25, x26, x27, x28, x29, x30, x31, x32, x33]) (enc := Value.int .u32) rfl h2)).q) (fun a hF => ?_)
      refine qs hF rfl ((y_fieldAddr Try.underlying42 rfl rfl rfl T3 hF rfl 0 rfl).q) (fun a hF => ?_)
      refine qs hF rfl ((y_load (v := Value.int .i64 x34.1) 0 hF rfl rfl T3 rfl).q) (fun a hF => ?_)
      obtain ⟨x36, h3, H⟩ := bindE H
      refine qs hF rfl (y_call (v := Value.int .u32 x36) hF H23 rfl (fun w hW => graph_set_with_c any w x35 x34.1 _ h3)) (fun a hF => ?_)
      obtain ⟨x37, h4, H⟩ := bindE H
      refine qs hF rfl ((y_indexP (0 + (x34.2).toNat * 1) Ar46 hF rfl rfl rfl h4 rfl).q) (fun a hF => ?_)
      refine quiet_end (fun w hW => ?_)
      refine l_store_dyn (o := 0) (m := 16) (i := x34.2) (l := ([x18, x19, x20, x21, x22, x23, x24, x25, x26, x27, x28, x29, x30, x31, x32, x33] : List Int)) (x := x37) (cs := [.int .u32 x18, .int .u32 x19, .int .u32 x20, .int .u32 x21, .int .u32 x22, .int .u32 x23, .int .u32 x24, .int .u32 x25, .int .u32 x26, .int .u32 x27, .int .u32 x28, .int .u32 x29, .int .u32 x30, .int .u32 x31, .int .u32 x32, .int .u32 x33]) (cs' := [.int .u32 (if x34.2 = 0 then x36 else x18), .int .u32 (if x34.2 = 1 then x36 else x19), .int .u32 (if x34.2 = 2 then x36 else x20), .int .u32 (if x34.2 = 3 then x36 else x21), .int .u32 (if x34.2 = 4 then x36 else x22), .int .u32 (if x34.2 = 5 then x36 else x23), .int .u32 (if x34.2 = 6 then x36 else x24), .int .u32 (if x34.2 = 7 then x36 else x25), .int .u32 (if x34.2 = 8 then x36 else x26), .int .u32 (if x34.2 = 9 then x36 else x27), .int .u32 (if x34.2 = 10 then x36 else x28), .int .u32 (if x34.2 = 11 then x36 else x29), .int .u32 (if x34.2 = 12 then x36 else x30), .int .u32 (if x34.2 = 13 then x36 else x31), .int .u32 (if x34.2 = 14 then x36 else x32), .int .u32 (if x34.2 = 15 then x36 else x33)]) 1 hF hW rfl rfl rfl T45 rfl rfl rfl rfl h4 (by intro k hk hn; rw [hk]; match k, hn with | 0, _ => rfl | 1, _ => rfl | 2, _ => rfl | 3, _ => rfl | 4, _ => rfl | 5, _ => rfl | 6, _ => rfl | 7, _ => rfl | 8, _ => rfl | 9, _ => rfl | 10, _ => rfl | 11, _ => rfl | 12, _ => rfl | 13, _ => rfl | 14, _ => rfl | 15, _ => rfl | (z + 16), h => exact absurd h (by omega)) (fun w hW => ?_)
      have hW : Stw ⟨Y, [], w0⟩ [(b3, [.int .i64 x34.1, .int .i64 x34.2]), (b2, [.int .u32 (if x34.2 = 0 then x36 else x18), .int .u32 (if x34.2 = 1 then x36 else x19), .int .u32 (if x34.2 = 2 then x36 else x20), .int .u32 (if x34.2 = 3 then x36 else x21), .int .u32 (if x34.2 = 4 then x36 else x22), .int .u32 (if x34.2 = 5 then x36 else x23), .int .u32 (if x34.2 = 6 then x36 else x24), .int .u32 (if x34.2 = 7 then x36 else x25), .int .u32 (if x34.2 = 8 then x36 else x26), .int .u32 (if x34.2 = 9 then x36 else x27), .int .u32 (if x34.2 = 10 then x36 else x28), .int .u32 (if x34.2 = 11 then x36 else x29), .int .u32 (if x34.2 = 12 then x36 else x30), .int .u32 (if x34.2 = 13 then x36 else x31), .int .u32 (if x34.2 = 14 then x36 else x32), .int .u32 (if x34.2 = 15 then x36 else x33)]), (b1, [.int .u32 0, .int .u32 0, .int .u32 0, .int .u32 0, .int .u32 0, .int .u32 0, .int .u32 0, .int .u32 0, .int .u32 0, .int .u32 0, .int .u32 0, .int .u32 0, .int .u32 0, .int .u32 0, .int .u32 0, .int .u32 0])] [] w := hW
      refine ls_nil ?_
      refine b_normal ?_
      refine c_then ?_
      refine reg_list ?_
      refine ls hF hW rfl ((y_add hF rfl rfl rfl).q) (fun a w hF hW => ?_)
      refine ls hF hW rfl ((y_move hF rfl).q) (fun a w hF hW => ?_)
      refine ls_nil ?_
      refine c_then ?_
      have hW := hW.frontM (i := 2) rfl rfl
      have hW := hW.frontM (i := 2) rfl rfl
      have hW := hW.sub (M' := [(b2, [.int .u32 (if x34.2 = 0 then x36 else x18), .int .u32 (if x34.2 = 1 then x36 else x19), .int .u32 (if x34.2 = 2 then x36 else x20), .int .u32 (if x34.2 = 3 then x36 else x21), .int .u32 (if x34.2 = 4 then x36 else x22), .int .u32 (if x34.2 = 5 then x36 else x23), .int .u32 (if x34.2 = 6 then x36 else x24), .int .u32 (if x34.2 = 7 then x36 else x25), .int .u32 (if x34.2 = 8 then x36 else x26), .int .u32 (if x34.2 = 9 then x36 else x27), .int .u32 (if x34.2 = 10 then x36 else x28), .int .u32 (if x34.2 = 11 then x36 else x29), .int .u32 (if x34.2 = 12 then x36 else x30), .int .u32 (if x34.2 = 13 then x36 else x31), .int .u32 (if x34.2 = 14 then x36 else x32), .int .u32 (if x34.2 = 15 then x36 else x33)]), (b1, [.int .u32 0, .int .u32 0, .int .u32 0, .int .u32 0, .int .u32 0, .int .u32 0, .int .u32 0, .int .u32 0, .int .u32 0, .int .u32 0, .int .u32 0, .int .u32 0, .int .u32 0, .int .u32 0, .int .u32 0, .int .u32 0])]) (Z' := []) (List.Sublist.cons_cons _ (List.Sublist.cons_cons _ (List.nil_sublist _))) (List.Sublist.refl _)
      exact ⟨_, H, hF.re ⟨rfl, rfl, rfl, rfl, rfl, trivial⟩, hW⟩
    ·
      have H := iteF (of_decide_eq_false hb) H
      rw [hb] at hF
      clear hb
      refine wp_exit ?_
      refine e_then ?_
      refine e_then ?_
      refine e_block ?_
      refine c_then ?_
      have hW := hW.frontM (i := 1) rfl rfl
      have hW := hW.frontM (i := 1) rfl rfl
      have H := L2 _ H
      exact ⟨_, _, _, _, _, _, _, _, _, _, _, _, _, _, _, _, H, hF.re ⟨rfl, rfl, trivial⟩, hW⟩
  rintro a w ⟨x1, x2, x3, x4, x5, x6, x7, x8, x9, x10, x11, x12, x13, x14, x15, x16, hj, hF, hW⟩
  have hj := Option.some.inj hj
  subst hj
  have H := K1
  clear G1 K1
  refine c_seq ?_
  refine reg_list ?_
  refine ls hF hW rfl ((y_load (v := Value.agg #[.int .u32 x1, .int .u32 x2, .int .u32 x3, .int .u32 x4, .int .u32 x5, .int .u32 x6, .int .u32 x7, .int .u32 x8, .int .u32 x9, .int .u32 x10, .int .u32 x11, .int .u32 x12, .int .u32 x13, .int .u32 x14, .int .u32 x15, .int .u32 x16]) 0 hF rfl rfl T46 rfl).q) (fun a w hF hW => ?_)
  refine l_store (vs := [.int .u32 x1, .int .u32 x2, .int .u32 x3, .int .u32 x4, .int .u32 x5, .int .u32 x6, .int .u32 x7, .int .u32 x8, .int .u32 x9, .int .u32 x10, .int .u32 x11, .int .u32 x12, .int .u32 x13, .int .u32 x14, .int .u32 x15, .int .u32 x16]) (M' := [(b2, [.int .u32 x1, .int .u32 x2, .int .u32 x3, .int .u32 x4, .int .u32 x5, .int .u32 x6, .int .u32 x7, .int .u32 x8, .int .u32 x9, .int .u32 x10, .int .u32 x11, .int .u32 x12, .int .u32 x13, .int .u32 x14, .int .u32 x15, .int .u32 x16]), (b1, [.int .u32 x1, .int .u32 x2, .int .u32 x3, .int .u32 x4, .int .u32 x5, .int .u32 x6, .int .u32 x7, .int .u32 x8, .int .u32 x9, .int .u32 x10, .int .u32 x11, .int .u32 x12, .int .u32 x13, .int .u32 x14, .int .u32 x15, .int .u32 x16])]) 1 hF hW rfl rfl rfl T46 rfl rfl rfl rfl rfl (fun w hW => ?_)
  refine ls_nil ?_
  refine c_then ?_
  refine wp_ret ?_
  have H := Option.some.inj H
  subst H
  refine post1 (.inl rfl) hF hW rfl (rv_cell 1 hF rfl rfl T46 rfl) ?_
  exact ⟨rfl, hW.done⟩

theorem H21 : Has Try.prog 21 := ⟨fun args w => run_callFunc_body Try.func21 rfl (by decide) args w⟩
noncomputable def graph_set_has (p0 : Int) (p1 : Int) : Option Bool := (shN (shrI .u32 p0 p1) p1).bind fun x1 => some (decide ((andI .u32 x1 1) = 1))
theorem graph_set_has_c (Y : Nat → Prop) (w0 : World)  (p0 : Int) (p1 : Int) (r : Bool) (H : graph_set_has p0 p1 = some r)  :
    Calls Try.prog 30 #[.int .u32 p0, .int .i64 p1] w0 fun e w' => e = .returned (.bool r) ∧ Below w0.heap.size w0 w' := by
  refine enter Try.func30 rfl Try.ntmps30 rfl (fun a hF => ?_)
  have hW := Stw.start Y w0
  unfold graph_set_has at H
  refine c_seq ?_
  refine reg_list ?_
  refine ls hF hW rfl ((y_assign hF rfl).q) (fun a w hF hW => ?_)
  refine ls_nil ?_
  refine c_then ?_
  refine c_seq ?_
  refine reg_list ?_
  refine ls hF hW rfl ((y_move hF rfl).q) (fun a w hF hW => ?_)
  refine ls hF hW rfl ((y_move hF rfl).q) (fun a w hF hW => ?_)
  obtain ⟨x1, h1, H⟩ := bindE H
  refine ls hF hW rfl ((y_shc (shN_some h1).2 (y_shr hF rfl rfl (shN_some h1).1)).q) (fun a w hF hW => ?_)
  refine ls hF hW rfl ((y_and hF rfl rfl).q) (fun a w hF hW => ?_)
  refine ls hF hW rfl ((y_eql hF rfl rfl).q) (fun a w hF hW => ?_)
  refine ls hF hW rfl ((y_assign hF rfl).q) (fun a w hF hW => ?_)
  refine ls_nil ?_
  refine c_then ?_
  refine wp_ret ?_
  have H := Option.some.inj H
  subst H
  refine post1 (.inl rfl) hF hW rfl (rv_tmp hF rfl) ?_
  exact ⟨rfl, hW.done⟩

theorem H30 : Has Try.prog 30 := ⟨fun args w => run_callFunc_body Try.func30 rfl (by decide) args w⟩
noncomputable def graph_smallestFree_l1 (p0 : Int) (p1 : Int × Int × Int × Int × Int × Int × Int × Int × Int × Int × Int × Int × Int × Int × Int × Int) (p2 : Int) : Int → Option (Int ⊕ (Unit ⊕ Int))
  | x1 => (if x1 < p0 then ((graph_set_has p2 x1).bind fun x3 => (if (!x3) = true then (ix ([p1.1, p1.2.1, p1.2.2.1, p1.2.2.2.1, p1.2.2.2.2.1, p1.2.2.2.2.2.1, p1.2.2.2.2.2.2.1, p1.2.2.2.2.2.2.2.1, p1.2.2.2.2.2.2.2.2.1, p1.2.2.2.2.2.2.2.2.2.1, p1.2.2.2.2.2.2.2.2.2.2.1, p1.2.2.2.2.2.2.2.2.2.2.2.1, p1.2.2.2.2.2.2.2.2.2.2.2.2.1, p1.2.2.2.2.2.2.2.2.2.2.2.2.2.1, p1.2.2.2.2.2.2.2.2.2.2.2.2.2.2.1, p1.2.2.2.2.2.2.2.2.2.2.2.2.2.2.2] : List Int) x1).bind fun x4 => some (decide ((andNotI .u32 x4 p2) = 0)) else some false)).bind fun x2 => (if x2 = true then some (.inr (.inr x1)) else some (.inl (w64 (x1 + 1)))) else some (.inr (.inl ())))
noncomputable def graph_smallestFree (p0 : Int) (p1 : Int × Int × Int × Int × Int × Int × Int × Int × Int × Int × Int × Int × Int × Int × Int × Int) (p2 : Int) : Option Int := orR (loopW (graph_smallestFree_l1 p0 p1 p2) 0) fun _ => some (-1)
theorem graph_smallestFree_c (Y : Nat → Prop) (w0 : World)  (p0 : Int) (p1 : Int × Int × Int × Int × Int × Int × Int × Int × Int × Int × Int × Int × Int × Int × Int × Int) (p2 : Int) (r : Int) (H : graph_smallestFree p0 p1 p2 = some r)  :
    Calls Try.prog 22 #[.int .i64 p0, .agg #[.int .u32 p1.1, .int .u32 p1.2.1, .int .u32 p1.2.2.1, .int .u32 p1.2.2.2.1, .int .u32 p1.2.2.2.2.1, .int .u32 p1.2.2.2.2.2.1, .int .u32 p1.2.2.2.2.2.2.1, .int .u32 p1.2.2.2.2.2.2.2.1, .int .u32 p1.2.2.2.2.2.2.2.2.1, .int .u32 p1.2.2.2.2.2.2.2.2.2.1, .int .u32 p1.2.2.2.2.2.2.2.2.2.2.1, .int .u32 p1.2.2.2.2.2.2.2.2.2.2.2.1, .int .u32 p1.2.2.2.2.2.2.2.2.2.2.2.2.1, .int .u32 p1.2.2.2.2.2.2.2.2.2.2.2.2.2.1, .int .u32 p1.2.2.2.2.2.2.2.2.2.2.2.2.2.2.1, .int .u32 p1.2.2.2.2.2.2.2.2.2.2.2.2.2.2.2], .int .u32 p2] w0 fun e w' => e = .returned (.int .i64 r) ∧ Below w0.heap.size w0 w' := by
  refine enter Try.func22 rfl Try.ntmps22 rfl (fun a hF => ?_)
  have hW := Stw.start Y w0
  unfold graph_smallestFree at H
  refine c_seq ?_
  refine reg_list ?_
  refine l_box (cs := [.int .u32 p1.1, .int .u32 p1.2.1, .int .u32 p1.2.2.1, .int .u32 p1.2.2.2.1, .int .u32 p1.2.2.2.2.1, .int .u32 p1.2.2.2.2.2.1, .int .u32 p1.2.2.2.2.2.2.1, .int .u32 p1.2.2.2.2.2.2.2.1, .int .u32 p1.2.2.2.2.2.2.2.2.1, .int .u32 p1.2.2.2.2.2.2.2.2.2.1, .int .u32 p1.2.2.2.2.2.2.2.2.2.2.1, .int .u32 p1.2.2.2.2.2.2.2.2.2.2.2.1, .int .u32 p1.2.2.2.2.2.2.2.2.2.2.2.2.1, .int .u32 p1.2.2.2.2.2.2.2.2.2.2.2.2.2.1, .int .u32 p1.2.2.2.2.2.2.2.2.2.2.2.2.2.2.1, .int .u32 p1.2.2.2.2.2.2.2.2.2.2.2.2.2.2.2]) hF hW rfl rfl rfl (fun b1 a w hF hW => ?_)
  refine ls hF hW rfl ((y_assign hF rfl).q) (fun a w hF hW => ?_)
  refine ls_nil ?_
  refine c_then ?_
  obtain ⟨o1, G1, K1, L1⟩ := orE H
  refine c_seqJ (fun a w => some (Sum.inl ()) = some o1 ∧ Fr 26 [] [(6, .int .i64 0)] a ∧ Stw ⟨Y, [], w0⟩ [(b1, [.int .u32 p1.1, .int .u32 p1.2.1, .int .u32 p1.2.2.1, .int .u32 p1.2.2.2.1, .int .u32 p1.2.2.2.2.1, .int .u32 p1.2.2.2.2.2.1, .int .u32 p1.2.2.2.2.2.2.1, .int .u32 p1.2.2.2.2.2.2.2.1, .int .u32 p1.2.2.2.2.2.2.2.2.1, .int .u32 p1.2.2.2.2.2.2.2.2.2.1, .int .u32 p1.2.2.2.2.2.2.2.2.2.2.1, .int .u32 p1.2.2.2.2.2.2.2.2.2.2.2.1, .int .u32 p1.2.2.2.2.2.2.2.2.2.2.2.2.1, .int .u32 p1.2.2.2.2.2.2.2.2.2.2.2.2.2.1, .int .u32 p1.2.2.2.2.2.2.2.2.2.2.2.2.2.2.1, .int .u32 p1.2.2.2.2.2.2.2.2.2.2.2.2.2.2.2])] [] w) ?_ ?_
  ·
    have H := G1
    clear G1 K1
    refine c_seq ?_
    refine reg_list ?_
    refine ls hF hW rfl ((y_move hF rfl).q) (fun a w hF hW => ?_)
    refine ls hF hW rfl ((y_move hF rfl).q) (fun a w hF hW => ?_)
    refine ls_nil ?_
    refine c_then ?_
    refine wp_block ?_
    refine c_loopW H (fun s a w => Fr 26 [] [(2, .int .u32 p2), (4, .pointer (some ⟨b1, 0, none⟩)), (6, .int .i64 0), (8, .int .i64 p0), (9, .int .i64 s)] a ∧ Stw ⟨Y, [], w0⟩ [(b1, [.int .u32 p1.1, .int .u32 p1.2.1, .int .u32 p1.2.2.1, .int .u32 p1.2.2.2.1, .int .u32 p1.2.2.2.2.1, .int .u32 p1.2.2.2.2.2.1, .int .u32 p1.2.2.2.2.2.2.1, .int .u32 p1.2.2.2.2.2.2.2.1, .int .u32 p1.2.2.2.2.2.2.2.2.1, .int .u32 p1.2.2.2.2.2.2.2.2.2.1, .int .u32 p1.2.2.2.2.2.2.2.2.2.2.1, .int .u32 p1.2.2.2.2.2.2.2.2.2.2.2.1, .int .u32 p1.2.2.2.2.2.2.2.2.2.2.2.2.1, .int .u32 p1.2.2.2.2.2.2.2.2.2.2.2.2.2.1, .int .u32 p1.2.2.2.2.2.2.2.2.2.2.2.2.2.2.1, .int .u32 p1.2.2.2.2.2.2.2.2.2.2.2.2.2.2.2])] [] w) ⟨hF.re ⟨rfl, rfl, rfl, rfl, rfl, trivial⟩, hW⟩ (fun s o a w H L2 hR => ?_)
    obtain ⟨x1, rfl⟩ : ∃ x, x = s := ⟨s, rfl⟩
    obtain ⟨hF, hW⟩ := hR
    have hF : Fr 26 [] [(2, .int .u32 p2), (4, .pointer (some ⟨b1, 0, none⟩)), (6, .int .i64 0), (8, .int .i64 p0), (9, .int .i64 x1)] a := hF
    have hW : Stw ⟨Y, [], w0⟩ [(b1, [.int .u32 p1.1, .int .u32 p1.2.1, .int .u32 p1.2.2.1, .int .u32 p1.2.2.2.1, .int .u32 p1.2.2.2.2.1, .int .u32 p1.2.2.2.2.2.1, .int .u32 p1.2.2.2.2.2.2.1, .int .u32 p1.2.2.2.2.2.2.2.1, .int .u32 p1.2.2.2.2.2.2.2.2.1, .int .u32 p1.2.2.2.2.2.2.2.2.2.1, .int .u32 p1.2.2.2.2.2.2.2.2.2.2.1, .int .u32 p1.2.2.2.2.2.2.2.2.2.2.2.1, .int .u32 p1.2.2.2.2.2.2.2.2.2.2.2.2.1, .int .u32 p1.2.2.2.2.2.2.2.2.2.2.2.2.2.1, .int .u32 p1.2.2.2.2.2.2.2.2.2.2.2.2.2.2.1, .int .u32 p1.2.2.2.2.2.2.2.2.2.2.2.2.2.2.2])] [] w := hW
    rw [graph_smallestFree_l1] at H
    refine c_seq ?_
    refine reg_list ?_
    refine ls hF hW rfl ((y_lss hF rfl rfl).q) (fun a w hF hW => ?_)
    refine ls_nil ?_
    refine c_then ?_
    refine c_seq ?_
    refine c_cond hF rfl (fun hb => ?_) (fun hb => ?_)
    ·
      have H := iteT (of_decide_eq_true hb) H
      rw [hb] at hF
      clear hb
      refine wp_skip ?_
      refine c_then ?_
      refine c_seq ?_
      refine wp_block ?_
      refine c_seq ?_
      refine reg_list ?_
      refine ls hF hW rfl ((y_move hF rfl).q) (fun a w hF hW => ?_)
      refine ls hF hW rfl ((y_assign hF rfl).q) (fun a w hF hW => ?_)
      refine ls_nil ?_
      refine c_then ?_
      obtain ⟨o3, G3, K3⟩ := bindE H
      refine c_seqJ (fun a w => ∃ x2 : Bool, some (x2) = some o3 ∧ Fr 26 [] [(2, .int .u32 p2), (4, .pointer (some ⟨b1, 0, none⟩)), (6, .int .i64 0), (7, .int .i64 x1), (8, .int .i64 p0), (9, .int .i64 x1), (23, .bool x2)] a ∧ Stw ⟨Y, [], w0⟩ [(b1, [.int .u32 p1.1, .int .u32 p1.2.1, .int .u32 p1.2.2.1, .int .u32 p1.2.2.2.1, .int .u32 p1.2.2.2.2.1, .int .u32 p1.2.2.2.2.2.1, .int .u32 p1.2.2.2.2.2.2.1, .int .u32 p1.2.2.2.2.2.2.2.1, .int .u32 p1.2.2.2.2.2.2.2.2.1, .int .u32 p1.2.2.2.2.2.2.2.2.2.1, .int .u32 p1.2.2.2.2.2.2.2.2.2.2.1, .int .u32 p1.2.2.2.2.2.2.2.2.2.2.2.1, .int .u32 p1.2.2.2.2.2.2.2.2.2.2.2.2.1, .int .u32 p1.2.2.2.2.2.2.2.2.2.2.2.2.2.1, .int .u32 p1.2.2.2.2.2.2.2.2.2.2.2.2.2.2.1, .int .u32 p1.2.2.2.2.2.2.2.2.2.2.2.2.2.2.2])] [] w) ?_ ?_
      ·
        have H := G3
        clear G3 K3
        refine reg_list ?_
        refine ls hF hW rfl ((y_move hF rfl).q) (fun a w hF hW => ?_)
        refine ls hF hW rfl ((y_move hF rfl).q) (fun a w hF hW => ?_)
        obtain ⟨x3, h1, H⟩ := bindE H
        refine ls hF hW rfl (y_call (v := Value.bool x3) hF H30 rfl (fun w hW => graph_set_has_c any w p2 x1 _ h1)) (fun a w hF hW => ?_)
        refine ls hF hW rfl ((y_not hF rfl).q) (fun a w hF hW => ?_)
        refine ls hF hW rfl ((y_move hF rfl).q) (fun a w hF hW => ?_)
        rcases Bool.eq_false_or_eq_true (!x3) with hb | hb
        ·
          have H := iteT hb H
          rw [hb] at hF
          clear hb
          refine ls_w hF hW (wanted_y hF rfl rfl rfl rfl) rfl (Nat.le_of_ble_eq_true rfl) ((y_move hF rfl).q) (fun a w hF hW => ?_)
          obtain ⟨x4, h2, H⟩ := bindE H
          refine ls_w hF hW (wanted_y hF rfl rfl rfl rfl) rfl (Nat.le_of_ble_eq_true rfl) ((y_indexP (0 + (x1).toNat * 1) Ar46 hF rfl rfl rfl h2 rfl).q) (fun a w hF hW => ?_)
          refine ls_w hF hW (wanted_y hF rfl rfl rfl rfl) rfl (Nat.le_of_ble_eq_true rfl) ((y_load (v := Value.int .u32 x4) 0 hF rfl rfl T45 (rdv_dyn (base := 0) (m := 16) (l := [p1.1, p1.2.1, p1.2.2.1, p1.2.2.2.1, p1.2.2.2.2.1, p1.2.2.2.2.2.1, p1.2.2.2.2.2.2.1, p1.2.2.2.2.2.2.2.1, p1.2.2.2.2.2.2.2.2.1, p1.2.2.2.2.2.2.2.2.2.1, p1.2.2.2.2.2.2.2.2.2.2.1, p1.2.2.2.2.2.2.2.2.2.2.2.1, p1.2.2.2.2.2.2.2.2.2.2.2.2.1, p1.2.2.2.2.2.2.2.2.2.2.2.2.2.1, p1.2.2.2.2.2.2.2.2.2.2.2.2.2.2.1, p1.2.2.2.2.2.2.2.2.2.2.2.2.2.2.2]) (enc := Value.int .u32) rfl h2)).q) (fun a w hF hW => ?_)
          refine ls_w hF hW (wanted_y hF rfl rfl rfl rfl) rfl (Nat.le_of_ble_eq_true rfl) ((y_move hF rfl).q) (fun a w hF hW => ?_)
          refine ls_w hF hW (wanted_y hF rfl rfl rfl rfl) rfl (Nat.le_of_ble_eq_true rfl) ((y_andNot hF rfl rfl).q) (fun a w hF hW => ?_)
          refine ls_w hF hW (wanted_y hF rfl rfl rfl rfl) rfl (Nat.le_of_ble_eq_true rfl) ((y_eql hF rfl rfl).q) (fun a w hF hW => ?_)
          refine ls hF hW rfl ((y_pick_t hF rfl rfl rfl).q) (fun a w hF hW => ?_)
          refine ls_nil ?_
          refine c_then ?_
          exact ⟨_, H, hF.re ⟨rfl, rfl, rfl, rfl, rfl, rfl, rfl, trivial⟩, hW⟩
        ·
          have H := iteF (by rw [hb]; decide) H
          rw [hb] at hF
          clear hb
          refine ls_skip hF (wanted_n hF rfl rfl rfl rfl rfl) rfl rfl (fun a hF => ?_)
          refine ls_skip hF (wanted_n hF rfl rfl rfl rfl rfl) rfl rfl (fun a hF => ?_)
          refine ls_skip hF (wanted_n hF rfl rfl rfl rfl rfl) rfl rfl (fun a hF => ?_)
          refine ls_skip hF (wanted_n hF rfl rfl rfl rfl rfl) rfl rfl (fun a hF => ?_)
          refine ls_skip hF (wanted_n hF rfl rfl rfl rfl rfl) rfl rfl (fun a hF => ?_)
          refine ls_skip hF (wanted_n hF rfl rfl rfl rfl rfl) rfl rfl (fun a hF => ?_)
          refine ls hF hW rfl ((y_pick_f hF rfl rfl rfl).q) (fun a w hF hW => ?_)
          refine ls_nil ?_
          refine c_then ?_
          exact ⟨_, H, hF.re ⟨rfl, rfl, rfl, rfl, rfl, rfl, rfl, trivial⟩, hW⟩
      rintro a w ⟨x2, hj, hF, hW⟩
      have hj := Option.some.inj hj
      subst hj
      have H := K3
      clear G3 K3
      refine c_cond hF rfl (fun hb => ?_) (fun hb => ?_)
      ·
        have H := iteT hb H
        rw [hb] at hF
        clear hb
        refine c_seq ?_
        refine reg_list ?_
        refine ls hF hW rfl ((y_move hF rfl).q) (fun a w hF hW => ?_)
        refine ls hF hW rfl ((y_assign hF rfl).q) (fun a w hF hW => ?_)
        refine ls_nil ?_
        refine c_then ?_
        refine wp_ret ?_
        refine r_block ?_
        refine r_then ?_
        refine r_then ?_
        refine r_block ?_
        refine r_then ?_
        have H := L2 _ H
        have H := L1 _ H
        have H := Option.some.inj H
        subst H
        refine post1 (.inl rfl) hF hW rfl (rv_tmp hF rfl) ?_
        exact ⟨rfl, hW.done⟩
      ·
        have H := iteF (by rw [hb]; decide) H
        rw [hb] at hF
        clear hb
        refine wp_skip ?_
        refine b_normal ?_
        refine c_then ?_
        refine reg_list ?_
        refine ls hF hW rfl ((y_add hF rfl rfl rfl).q) (fun a w hF hW => ?_)
        refine ls hF hW rfl ((y_move hF rfl).q) (fun a w hF hW => ?_)
        refine ls_nil ?_
        refine c_then ?_
        exact ⟨_, H, hF.re ⟨rfl, rfl, rfl, rfl, rfl, trivial⟩, hW⟩
    ·
      have H := iteF (of_decide_eq_false hb) H
      rw [hb] at hF
      clear hb
      refine wp_exit ?_
      refine e_then ?_
      refine e_then ?_
      refine e_block ?_
      refine c_then ?_
      have H := L2 _ H
      exact ⟨H, hF.re ⟨rfl, trivial⟩, hW⟩
  rintro a w ⟨hj, hF, hW⟩
  have H := K1 _ hj
  clear hj G1 K1 L1
  refine c_seq ?_
  refine reg_list ?_
  refine ls hF hW rfl ((y_assign hF rfl).q) (fun a w hF hW => ?_)
  refine ls_nil ?_
  refine c_then ?_
  refine wp_ret ?_
  have H := Option.some.inj H
  subst H
  refine post1 (.inl rfl) hF hW rfl (rv_tmp hF rfl) ?_
  exact ⟨rfl, hW.done⟩

theorem H22 : Has Try.prog 22 := ⟨fun args w => run_callFunc_body Try.func22 rfl (by decide) args w⟩
theorem Z3 : (Try.prog.info? 3).bind (·.zero) = some (.int .i64 0) := by kernel_rfl
theorem L26 : Et Try.prog 26 3 1 8 := Et.of Try.underlying26 (by kernel_rfl) (by kernel_rfl) (by kernel_rfl) (by decide)
noncomputable def graph_Order_l1 (p0 : Int) (x2 : (Int × Int × Int × Int × Int × Int × Int × Int × Int × Int × Int × Int × Int × Int × Int × Int)) : (List Int × Int × Int) → Option ((List Int × Int × Int) ⊕ ((List Int) ⊕ (List Int × Bool)))
  | (x4, x5, x6) => (if x6 < p0 then (graph_smallestFree p0 x2 x5).bind fun x7 => (if x7 < 0 then some (.inr (.inr (([] : List Int), false))) else (app x4 ([x7] : List Int)).bind fun x8 => (graph_set_with x5 x7).bind fun x9 => some (.inl (x8, x9, w64 (x6 + 1)))) else some (.inr (.inl x4)))
noncomputable def graph_Order (p0 : Int) (p1 : List (Int × Int)) : Option (List Int × Bool) := (graph_Right p0 p1).bind fun x1 => (if (!x1) = true then some (([] : List Int), false) else (graph_predecessors p1).bind fun x2 => orR (loopW (graph_Order_l1 p0 x2) ([], 0, 0)) fun x3 => some (x3, true))
theorem graph_Order_c (Y : Nat → Prop) (w0 : World) (v1 : Value) (p0 : Int) (p1 : List (Int × Int)) (r : List Int × Bool) (H : graph_Order p0 p1 = some r) (h_v1 : Sl w0 (NX []) R42 v1 p1) :
    Calls Try.prog 8 #[.int .i64 p0, v1] w0 fun e w' => ∃ x : Value, e = .returned (.tuple #[x, .bool r.2]) ∧ Stw ⟨Y, [], w0⟩ [] [row (x) 3 (Rp.int .i64) r.1] w' := by
  refine enter Try.func8 rfl Try.ntmps8 rfl (fun a hF => ?_)
  have hW := Stw.start Y w0
  unfold graph_Order at H
  refine c_seq ?_
  refine reg_list ?_
  refine ls hF hW rfl ((y_assign hF rfl).q) (fun a w hF hW => ?_)
  refine ls hF hW rfl ((y_assign hF rfl).q) (fun a w hF hW => ?_)
  refine ls_nil ?_
  refine c_then ?_
  refine c_seq ?_
  refine c_seq ?_
  refine reg_list ?_
  refine ls hF hW rfl ((y_move hF rfl).q) (fun a w hF hW => ?_)
  refine ls hF hW rfl ((y_move hF rfl).q) (fun a w hF hW => ?_)
  obtain ⟨x1, h1, H⟩ := bindE H
  refine ls hF hW rfl (y_call (v := Value.bool x1) hF H10 rfl (fun w hW => graph_Right_c any w (v1) p0 p1 _ h1 (((rdc_ro h_v1) : Rdc _ _ _ _ _ _) w hW).nx)) (fun a w hF hW => ?_)
  refine ls hF hW rfl ((y_not hF rfl).q) (fun a w hF hW => ?_)
  refine ls_nil ?_
  refine c_then ?_
  refine c_cond hF rfl (fun hb => ?_) (fun hb => ?_)
  ·
    have H := iteT hb H
    rw [hb] at hF
    clear hb
    refine c_seq ?_
    refine reg_list ?_
    refine ls hF hW rfl ((y_assign hF rfl).q) (fun a w hF hW => ?_)
    refine ls hF hW rfl ((y_assign hF rfl).q) (fun a w hF hW => ?_)
    refine ls_nil ?_
    refine c_then ?_
    refine wp_ret ?_
    refine r_then ?_
    have H := Option.some.inj H
    subst H
    refine post2 (.inl rfl) hF hW rfl (rv_tmp hF rfl) (rv_tmp hF rfl) ?_
    have hW := hW.nilRow 3 (Rp.int .i64)
    exact ⟨(Value.slice none 0 0), rfl, hW⟩
  ·
    have H := iteF (by rw [hb]; decide) H
    rw [hb] at hF
    clear hb
    refine wp_skip ?_
    refine c_then ?_
    refine c_seq ?_
    refine reg_list ?_
    refine ls hF hW rfl ((y_move hF rfl).q) (fun a w hF hW => ?_)
    obtain ⟨x2, h2, H⟩ := bindE H
    refine ls hF hW rfl (y_call (v := Value.agg #[.int .u32 x2.1, .int .u32 x2.2.1, .int .u32 x2.2.2.1, .int .u32 x2.2.2.2.1, .int .u32 x2.2.2.2.2.1, .int .u32 x2.2.2.2.2.2.1, .int .u32 x2.2.2.2.2.2.2.1, .int .u32 x2.2.2.2.2.2.2.2.1, .int .u32 x2.2.2.2.2.2.2.2.2.1, .int .u32 x2.2.2.2.2.2.2.2.2.2.1, .int .u32 x2.2.2.2.2.2.2.2.2.2.2.1, .int .u32 x2.2.2.2.2.2.2.2.2.2.2.2.1, .int .u32 x2.2.2.2.2.2.2.2.2.2.2.2.2.1, .int .u32 x2.2.2.2.2.2.2.2.2.2.2.2.2.2.1, .int .u32 x2.2.2.2.2.2.2.2.2.2.2.2.2.2.2.1, .int .u32 x2.2.2.2.2.2.2.2.2.2.2.2.2.2.2.2]) hF H21 rfl (fun w hW => graph_predecessors_c any w (v1) p1 _ h2 (((rdc_ro h_v1) : Rdc _ _ _ _ _ _) w hW).nx)) (fun a w hF hW => ?_)
    refine l_alloc (cs := [.int .u32 0, .int .u32 0, .int .u32 0, .int .u32 0, .int .u32 0, .int .u32 0, .int .u32 0, .int .u32 0, .int .u32 0, .int .u32 0, .int .u32 0, .int .u32 0, .int .u32 0, .int .u32 0, .int .u32 0, .int .u32 0]) hF hW rfl Z46 rfl (fun b1 a w hF hW => ?_)
    refine l_store (vs := [.int .u32 x2.1, .int .u32 x2.2.1, .int .u32 x2.2.2.1, .int .u32 x2.2.2.2.1, .int .u32 x2.2.2.2.2.1, .int .u32 x2.2.2.2.2.2.1, .int .u32 x2.2.2.2.2.2.2.1, .int .u32 x2.2.2.2.2.2.2.2.1, .int .u32 x2.2.2.2.2.2.2.2.2.1, .int .u32 x2.2.2.2.2.2.2.2.2.2.1, .int .u32 x2.2.2.2.2.2.2.2.2.2.2.1, .int .u32 x2.2.2.2.2.2.2.2.2.2.2.2.1, .int .u32 x2.2.2.2.2.2.2.2.2.2.2.2.2.1, .int .u32 x2.2.2.2.2.2.2.2.2.2.2.2.2.2.1, .int .u32 x2.2.2.2.2.2.2.2.2.2.2.2.2.2.2.1, .int .u32 x2.2.2.2.2.2.2.2.2.2.2.2.2.2.2.2]) (M' := [(b1, [.int .u32 x2.1, .int .u32 x2.2.1, .int .u32 x2.2.2.1, .int .u32 x2.2.2.2.1, .int .u32 x2.2.2.2.2.1, .int .u32 x2.2.2.2.2.2.1, .int .u32 x2.2.2.2.2.2.2.1, .int .u32 x2.2.2.2.2.2.2.2.1, .int .u32 x2.2.2.2.2.2.2.2.2.1, .int .u32 x2.2.2.2.2.2.2.2.2.2.1, .int .u32 x2.2.2.2.2.2.2.2.2.2.2.1, .int .u32 x2.2.2.2.2.2.2.2.2.2.2.2.1, .int .u32 x2.2.2.2.2.2.2.2.2.2.2.2.2.1, .int .u32 x2.2.2.2.2.2.2.2.2.2.2.2.2.2.1, .int .u32 x2.2.2.2.2.2.2.2.2.2.2.2.2.2.2.1, .int .u32 x2.2.2.2.2.2.2.2.2.2.2.2.2.2.2.2])]) 0 hF hW rfl rfl rfl T46 rfl rfl rfl rfl rfl (fun w hW => ?_)
    refine ls_nil ?_
    refine c_then ?_
    refine c_seq ?_
    refine reg_list ?_
    refine ls hF hW rfl ((y_assign hF rfl).q) (fun a w hF hW => ?_)
    refine ls_nil ?_
    refine c_then ?_
    refine c_seq ?_
    refine reg_list ?_
    refine ls hF hW rfl ((y_assign hF rfl).q) (fun a w hF hW => ?_)
    refine ls_nil ?_
    refine c_then ?_
    obtain ⟨o1, G1, K1, L1⟩ := orE H
    refine c_seqJ (fun a w => ∃ x3 : List Int, ∃ v2 : Value, some (Sum.inl x3) = some o1 ∧ Fr 34 [] [(4, .slice none 0 0), (5, .bool false), (7, v2)] a ∧ Stw ⟨Y, [], w0⟩ [(b1, [.int .u32 x2.1, .int .u32 x2.2.1, .int .u32 x2.2.2.1, .int .u32 x2.2.2.2.1, .int .u32 x2.2.2.2.2.1, .int .u32 x2.2.2.2.2.2.1, .int .u32 x2.2.2.2.2.2.2.1, .int .u32 x2.2.2.2.2.2.2.2.1, .int .u32 x2.2.2.2.2.2.2.2.2.1, .int .u32 x2.2.2.2.2.2.2.2.2.2.1, .int .u32 x2.2.2.2.2.2.2.2.2.2.2.1, .int .u32 x2.2.2.2.2.2.2.2.2.2.2.2.1, .int .u32 x2.2.2.2.2.2.2.2.2.2.2.2.2.1, .int .u32 x2.2.2.2.2.2.2.2.2.2.2.2.2.2.1, .int .u32 x2.2.2.2.2.2.2.2.2.2.2.2.2.2.2.1, .int .u32 x2.2.2.2.2.2.2.2.2.2.2.2.2.2.2.2])] [row v2 3 (Rp.int .i64) x3] w) ?_ ?_
    ·
      have H := G1
      clear G1 K1
      refine c_seq ?_
      refine reg_list ?_
      refine ls hF hW rfl ((y_move hF rfl).q) (fun a w hF hW => ?_)
      refine ls hF hW rfl ((y_move hF rfl).q) (fun a w hF hW => ?_)
      refine ls_nil ?_
      refine c_then ?_
      refine wp_block ?_
      have hW := hW.nilRow 3 (Rp.int .i64)
      refine c_loopW H (fun s a w => ∃ v3 : Value, Fr 34 [] [(0, .int .i64 p0), (4, .slice none 0 0), (5, .bool false), (6, .pointer (some ⟨b1, 0, none⟩)), (7, v3), (8, .int .u32 s.2.1), (16, .int .i64 p0), (17, .int .i64 s.2.2)] a ∧ Stw ⟨Y, [], w0⟩ [(b1, [.int .u32 x2.1, .int .u32 x2.2.1, .int .u32 x2.2.2.1, .int .u32 x2.2.2.2.1, .int .u32 x2.2.2.2.2.1, .int .u32 x2.2.2.2.2.2.1, .int .u32 x2.2.2.2.2.2.2.1, .int .u32 x2.2.2.2.2.2.2.2.1, .int .u32 x2.2.2.2.2.2.2.2.2.1, .int .u32 x2.2.2.2.2.2.2.2.2.2.1, .int .u32 x2.2.2.2.2.2.2.2.2.2.2.1, .int .u32 x2.2.2.2.2.2.2.2.2.2.2.2.1, .int .u32 x2.2.2.2.2.2.2.2.2.2.2.2.2.1, .int .u32 x2.2.2.2.2.2.2.2.2.2.2.2.2.2.1, .int .u32 x2.2.2.2.2.2.2.2.2.2.2.2.2.2.2.1, .int .u32 x2.2.2.2.2.2.2.2.2.2.2.2.2.2.2.2])] [row v3 3 (Rp.int .i64) s.1] w) ⟨(Value.slice none 0 0), hF.re ⟨rfl, rfl, rfl, rfl, rfl, rfl, rfl, rfl, trivial⟩, hW⟩ (fun s o a w H L2 hR => ?_)
      obtain ⟨x4, x5, x6⟩ := s
      obtain ⟨v3, hF, hW⟩ := hR
      have hF : Fr 34 [] [(0, .int .i64 p0), (4, .slice none 0 0), (5, .bool false), (6, .pointer (some ⟨b1, 0, none⟩)), (7, v3), (8, .int .u32 x5), (16, .int .i64 p0), (17, .int .i64 x6)] a := hF
      have hW : Stw ⟨Y, [], w0⟩ [(b1, [.int .u32 x2.1, .int .u32 x2.2.1, .int .u32 x2.2.2.1, .int .u32 x2.2.2.2.1, .int .u32 x2.2.2.2.2.1, .int .u32 x2.2.2.2.2.2.1, .int .u32 x2.2.2.2.2.2.2.1, .int .u32 x2.2.2.2.2.2.2.2.1, .int .u32 x2.2.2.2.2.2.2.2.2.1, .int .u32 x2.2.2.2.2.2.2.2.2.2.1, .int .u32 x2.2.2.2.2.2.2.2.2.2.2.1, .int .u32 x2.2.2.2.2.2.2.2.2.2.2.2.1, .int .u32 x2.2.2.2.2.2.2.2.2.2.2.2.2.1, .int .u32 x2.2.2.2.2.2.2.2.2.2.2.2.2.2.1, .int .u32 x2.2.2.2.2.2.2.2.2.2.2.2.2.2.2.1, .int .u32 x2.2.2.2.2.2.2.2.2.2.2.2.2.2.2.2])] [row v3 3 (Rp.int .i64) x4] w := hW
      rw [graph_Order_l1] at H
      refine c_seq ?_
      refine reg_list ?_
      refine ls hF hW rfl ((y_lss hF rfl rfl).q) (fun a w hF hW => ?_)
      refine ls_nil ?_
      refine c_then ?_
      refine c_seq ?_
      refine c_cond hF rfl (fun hb => ?_) (fun hb => ?_)
      ·
        have H := iteT (of_decide_eq_true hb) H
        rw [hb] at hF
        clear hb
        refine wp_skip ?_
        refine c_then ?_
        refine c_seq ?_
        refine wp_block ?_
        refine c_seq ?_
        refine reg_list ?_
        refine ls hF hW rfl ((y_move hF rfl).q) (fun a w hF hW => ?_)
        refine ls hF hW rfl ((y_load (v := Value.agg #[.int .u32 x2.1, .int .u32 x2.2.1, .int .u32 x2.2.2.1, .int .u32 x2.2.2.2.1, .int .u32 x2.2.2.2.2.1, .int .u32 x2.2.2.2.2.2.1, .int .u32 x2.2.2.2.2.2.2.1, .int .u32 x2.2.2.2.2.2.2.2.1, .int .u32 x2.2.2.2.2.2.2.2.2.1, .int .u32 x2.2.2.2.2.2.2.2.2.2.1, .int .u32 x2.2.2.2.2.2.2.2.2.2.2.1, .int .u32 x2.2.2.2.2.2.2.2.2.2.2.2.1, .int .u32 x2.2.2.2.2.2.2.2.2.2.2.2.2.1, .int .u32 x2.2.2.2.2.2.2.2.2.2.2.2.2.2.1, .int .u32 x2.2.2.2.2.2.2.2.2.2.2.2.2.2.2.1, .int .u32 x2.2.2.2.2.2.2.2.2.2.2.2.2.2.2.2]) 0 hF rfl rfl T46 rfl).q) (fun a w hF hW => ?_)
        refine ls hF hW rfl ((y_move hF rfl).q) (fun a w hF hW => ?_)
        obtain ⟨x7, h3, H⟩ := bindE H
        refine ls hF hW rfl (y_call (v := Value.int .i64 x7) hF H22 rfl (fun w hW => graph_smallestFree_c any w p0 x2 x5 _ h3)) (fun a w hF hW => ?_)
        refine ls hF hW rfl ((y_assign hF rfl).q) (fun a w hF hW => ?_)
        refine ls_nil ?_
        refine c_then ?_
        refine c_seq ?_
        refine c_seq ?_
        refine reg_list ?_
        refine ls hF hW rfl ((y_move hF rfl).q) (fun a w hF hW => ?_)
        refine ls hF hW rfl ((y_lss hF rfl rfl).q) (fun a w hF hW => ?_)
        refine ls_nil ?_
        refine c_then ?_
        refine c_cond hF rfl (fun hb => ?_) (fun hb => ?_)
        ·
          have H := iteT (of_decide_eq_true hb) H
          rw [hb] at hF
          clear hb
          refine c_seq ?_
          refine reg_list ?_
          refine ls hF hW rfl ((y_assign hF rfl).q) (fun a w hF hW => ?_)
          refine ls hF hW rfl ((y_assign hF rfl).q) (fun a w hF hW => ?_)
          refine ls_nil ?_
          refine c_then ?_
          refine wp_ret ?_
          refine r_then ?_
          refine r_block ?_
          refine r_then ?_
          refine r_then ?_
          refine r_block ?_
          refine r_then ?_
          have H := L2 _ H
          have H := L1 _ H
          have H := Option.some.inj H
          subst H
          refine post2 (.inl rfl) hF hW rfl (rv_tmp hF rfl) (rv_tmp hF rfl) ?_
          have hW := hW.nilRow 3 (Rp.int .i64)
          have hW := hW.sub (M' := []) (Z' := [row (Value.slice none 0 0) 3 (Rp.int .i64) ([])]) (List.nil_sublist _) (List.Sublist.cons_cons _ (List.nil_sublist _))
          exact ⟨(Value.slice none 0 0), rfl, hW⟩
        ·
          have H := iteF (of_decide_eq_false hb) H
          rw [hb] at hF
          clear hb
          refine wp_skip ?_
          refine c_then ?_
          refine c_seq ?_
          refine reg_list ?_
          refine ls hF hW rfl ((y_move hF rfl).q) (fun a w hF hW => ?_)
          refine ls hF hW rfl ((y_move hF rfl).q) (fun a w hF hW => ?_)
          refine l_lit (z := Value.int .i64 0) (cs := [.int .i64 x7]) (Rp.int .i64) ([x7] : List Int) hF hW rfl L26 Z3 rfl rfl rfl rfl rfl rfl (Fl.int.repL _ _ ([x7] : List Int)) (fun v4 a w hF hW => ?_)
          obtain ⟨x8, h4, H⟩ := bindE H
          refine l_append (r := (Rp.int .i64)) (i := 1) hF hW rfl L26 rfl rfl rfl rfl (src_row hW 0 rfl) h4 rfl (fun v5 a w hF hW => ?_)
          have hW : Stw ⟨Y, [], w0⟩ [(b1, [.int .u32 x2.1, .int .u32 x2.2.1, .int .u32 x2.2.2.1, .int .u32 x2.2.2.2.1, .int .u32 x2.2.2.2.2.1, .int .u32 x2.2.2.2.2.2.1, .int .u32 x2.2.2.2.2.2.2.1, .int .u32 x2.2.2.2.2.2.2.2.1, .int .u32 x2.2.2.2.2.2.2.2.2.1, .int .u32 x2.2.2.2.2.2.2.2.2.2.1, .int .u32 x2.2.2.2.2.2.2.2.2.2.2.1, .int .u32 x2.2.2.2.2.2.2.2.2.2.2.2.1, .int .u32 x2.2.2.2.2.2.2.2.2.2.2.2.2.1, .int .u32 x2.2.2.2.2.2.2.2.2.2.2.2.2.2.1, .int .u32 x2.2.2.2.2.2.2.2.2.2.2.2.2.2.2.1, .int .u32 x2.2.2.2.2.2.2.2.2.2.2.2.2.2.2.2])] [row v5 3 (Rp.int .i64) x8, row v4 3 (Rp.int .i64) ([x7] : List Int)] w := hW
          refine ls hF hW rfl ((y_assign hF rfl).q) (fun a w hF hW => ?_)
          refine ls_nil ?_
          refine c_then ?_
          refine reg_list ?_
          refine ls hF hW rfl ((y_move hF rfl).q) (fun a w hF hW => ?_)
          refine ls hF hW rfl ((y_move hF rfl).q) (fun a w hF hW => ?_)
          obtain ⟨x9, h5, H⟩ := bindE H
          refine ls hF hW rfl (y_call (v := Value.int .u32 x9) hF H23 rfl (fun w hW => graph_set_with_c any w x5 x7 _ h5)) (fun a w hF hW => ?_)
          refine ls hF hW rfl ((y_assign hF rfl).q) (fun a w hF hW => ?_)
          refine ls_nil ?_
          refine b_normal ?_
          refine c_then ?_
          refine reg_list ?_
          refine ls hF hW rfl ((y_add hF rfl rfl rfl).q) (fun a w hF hW => ?_)
          refine ls hF hW rfl ((y_move hF rfl).q) (fun a w hF hW => ?_)
          refine ls_nil ?_
          refine c_then ?_
          have hW := hW.sub (M' := [(b1, [.int .u32 x2.1, .int .u32 x2.2.1, .int .u32 x2.2.2.1, .int .u32 x2.2.2.2.1, .int .u32 x2.2.2.2.2.1, .int .u32 x2.2.2.2.2.2.1, .int .u32 x2.2.2.2.2.2.2.1, .int .u32 x2.2.2.2.2.2.2.2.1, .int .u32 x2.2.2.2.2.2.2.2.2.1, .int .u32 x2.2.2.2.2.2.2.2.2.2.1, .int .u32 x2.2.2.2.2.2.2.2.2.2.2.1, .int .u32 x2.2.2.2.2.2.2.2.2.2.2.2.1, .int .u32 x2.2.2.2.2.2.2.2.2.2.2.2.2.1, .int .u32 x2.2.2.2.2.2.2.2.2.2.2.2.2.2.1, .int .u32 x2.2.2.2.2.2.2.2.2.2.2.2.2.2.2.1, .int .u32 x2.2.2.2.2.2.2.2.2.2.2.2.2.2.2.2])]) (Z' := [row v5 3 (Rp.int .i64) x8]) (List.Sublist.refl _) (List.Sublist.cons_cons _ (List.nil_sublist _))
          exact ⟨_, H, (v5), hF.re ⟨rfl, rfl, rfl, rfl, rfl, rfl, rfl, rfl, trivial⟩, hW⟩
      ·
        have H := iteF (of_decide_eq_false hb) H
        rw [hb] at hF
        clear hb
        refine wp_exit ?_
        refine e_then ?_
        refine e_then ?_
        refine e_block ?_
        refine c_then ?_
        have H := L2 _ H
        exact ⟨_, (v3), H, hF.re ⟨rfl, rfl, rfl, trivial⟩, hW⟩
    rintro a w ⟨x3, v2, hj, hF, hW⟩
    have H := K1 _ hj
    clear hj G1 K1 L1
    refine c_seq ?_
    refine reg_list ?_
    refine ls hF hW rfl ((y_move hF rfl).q) (fun a w hF hW => ?_)
    refine ls hF hW rfl ((y_assign hF rfl).q) (fun a w hF hW => ?_)
    refine ls hF hW rfl ((y_assign hF rfl).q) (fun a w hF hW => ?_)
    refine ls_nil ?_
    refine c_then ?_
    refine wp_ret ?_
    have H := Option.some.inj H
    subst H
    refine post2 (.inl rfl) hF hW rfl (rv_tmp hF rfl) (rv_tmp hF rfl) ?_
    have hW := hW.sub (M' := []) (Z' := [row v2 3 (Rp.int .i64) x3]) (List.nil_sublist _) (List.Sublist.refl _)
    exact ⟨(v2), rfl, hW⟩

theorem H8 : Has Try.prog 8 := ⟨fun args w => run_callFunc_body Try.func8 rfl (by decide) args w⟩
noncomputable def r13_Same_l1 (p0 : List Int) (p1 : List Int) : Int → Option (Int ⊕ (Unit ⊕ Bool))
  | x1 => (if x1 < (p0.length : Int) then (ix p0 x1).bind fun x2 => (ix p1 x1).bind fun x3 => (if x2 ≠ x3 then some (.inr (.inr false)) else some (.inl (w64 (x1 + 1)))) else some (.inr (.inl ())))
noncomputable def r13_Same (p0 : List Int) (p1 : List Int) : Option Bool := (if (p0.length : Int) ≠ (p1.length : Int) then some false else orR (loopW (r13_Same_l1 p0 p1) 0) fun _ => some true)
theorem r13_Same_c (Y : Nat → Prop) (w0 : World) (v1 : Value) (v2 : Value) (p0 : List Int) (p1 : List Int) (r : Bool) (H : r13_Same p0 p1 = some r) (h_v1 : Sl w0 (NX []) (Rp.int .i64) v1 p0) (h_v2 : Sl w0 (NX []) (Rp.int .i64) v2 p1) :
    Calls Try.prog 12 #[v1, v2] w0 fun e w' => e = .returned (.bool r) ∧ Below w0.heap.size w0 w' := by
  refine enter Try.func12 rfl Try.ntmps12 rfl (fun a hF => ?_)
  have hW := Stw.start Y w0
  unfold r13_Same at H
  refine c_seq ?_
  refine reg_list ?_
  refine ls hF hW rfl ((y_assign hF rfl).q) (fun a w hF hW => ?_)
  refine ls_nil ?_
  refine c_then ?_
  refine c_seq ?_
  refine c_seq ?_
  refine reg_list ?_
  refine ls hF hW rfl ((y_move hF rfl).q) (fun a w hF hW => ?_)
  refine ls hF hW rfl ((y_len (r := (Rp.int .i64)) (l := p0) Try.underlying26 rfl hF rfl (rdc_ro h_v1)).q) (fun a w hF hW => ?_)
  refine ls hF hW rfl ((y_move hF rfl).q) (fun a w hF hW => ?_)
  refine ls hF hW rfl ((y_len (r := (Rp.int .i64)) (l := p1) Try.underlying26 rfl hF rfl (rdc_ro h_v2)).q) (fun a w hF hW => ?_)
  refine ls hF hW rfl ((y_neq hF rfl rfl).q) (fun a w hF hW => ?_)
  refine ls_nil ?_
  refine c_then ?_
  refine c_cond hF rfl (fun hb => ?_) (fun hb => ?_)
  ·
    have H := iteT (of_decide_eq_true hb) H
    rw [hb] at hF
    clear hb
    refine c_seq ?_
    refine reg_list ?_
    refine ls hF hW rfl ((y_assign hF rfl).q) (fun a w hF hW => ?_)
    refine ls_nil ?_
    refine c_then ?_
    refine wp_ret ?_
    refine r_then ?_
    have H := Option.some.inj H
    subst H
    refine post1 (.inl rfl) hF hW rfl (rv_tmp hF rfl) ?_
    exact ⟨rfl, hW.done⟩
  ·
    have H := iteF (of_decide_eq_false hb) H
    rw [hb] at hF
    clear hb
    refine wp_skip ?_
    refine c_then ?_
    obtain ⟨o1, G1, K1, L1⟩ := orE H
    refine c_seqJ (fun a w => some (Sum.inl ()) = some o1 ∧ Fr 26 [] [(4, .bool false)] a ∧ Stw ⟨Y, [], w0⟩ [] [] w) ?_ ?_
    ·
      have H := G1
      clear G1 K1
      refine c_seq ?_
      refine reg_list ?_
      refine ls hF hW rfl ((y_assign hF rfl).q) (fun a w hF hW => ?_)
      refine ls_nil ?_
      refine c_then ?_
      refine wp_block ?_
      refine c_loopW H (fun s a w => Fr 26 [] [(0, v1), (1, v2), (4, .bool false), (5, .int .i64 s)] a ∧ Stw ⟨Y, [], w0⟩ [] [] w) ⟨hF.re ⟨rfl, rfl, rfl, rfl, trivial⟩, hW⟩ (fun s o a w H L2 hR => ?_)
      obtain ⟨x1, rfl⟩ : ∃ x, x = s := ⟨s, rfl⟩
      obtain ⟨hF, hW⟩ := hR
      have hF : Fr 26 [] [(0, v1), (1, v2), (4, .bool false), (5, .int .i64 x1)] a := hF
      have hW : Stw ⟨Y, [], w0⟩ [] [] w := hW
      rw [r13_Same_l1] at H
      refine c_seq ?_
      refine c_seq ?_
      refine reg_list ?_
      refine ls hF hW rfl ((y_move hF rfl).q) (fun a w hF hW => ?_)
      refine ls hF hW rfl ((y_move hF rfl).q) (fun a w hF hW => ?_)
      refine ls hF hW rfl ((y_len (r := (Rp.int .i64)) (l := p0) Try.underlying26 rfl hF rfl (rdc_ro h_v1)).q) (fun a w hF hW => ?_)
      refine ls hF hW rfl ((y_lss hF rfl rfl).q) (fun a w hF hW => ?_)
      refine ls_nil ?_
      refine c_then ?_
      refine c_cond hF rfl (fun hb => ?_) (fun hb => ?_)
      ·
        have H := iteT (of_decide_eq_true hb) H
        rw [hb] at hF
        clear hb
        refine wp_skip ?_
        refine c_then ?_
        refine c_seq ?_
        refine wp_block ?_
        refine c_seq ?_
        refine reg_quiet hW MO (by kernel_rfl) ?_
        refine qs hF rfl ((y_move hF rfl).q) (fun a hF => ?_)
        refine qs hF rfl ((y_move hF rfl).q) (fun a hF => ?_)
        obtain ⟨x2, h1, H⟩ := bindE H
        refine qs hF rfl ((y_index (r := (Rp.int .i64)) L26 hF rfl rfl (rdc_ro h_v1) h1).q) (fun a hF => ?_)
        refine qs hF rfl ((y_load_el (y := Value.int .i64 x2) (j := 0) (i := x1) hF rfl rfl (rdc_ro h_v1) h1 Fl.int.to T3 rfl).q) (fun a hF => ?_)
        refine qs hF rfl ((y_move hF rfl).q) (fun a hF => ?_)
        refine qs hF rfl ((y_move hF rfl).q) (fun a hF => ?_)
        obtain ⟨x3, h2, H⟩ := bindE H
        refine qs hF rfl ((y_index (r := (Rp.int .i64)) L26 hF rfl rfl (rdc_ro h_v2) h2).q) (fun a hF => ?_)
        refine qs hF rfl ((y_load_el (y := Value.int .i64 x3) (j := 0) (i := x1) hF rfl rfl (rdc_ro h_v2) h2 Fl.int.to T3 rfl).q) (fun a hF => ?_)
        refine qs hF rfl ((y_neq hF rfl rfl).q) (fun a hF => ?_)
        refine quiet_end (fun w hW => ?_)
        refine c_then ?_
        refine c_cond hF rfl (fun hb => ?_) (fun hb => ?_)
        ·
          have H := iteT (of_decide_eq_true hb) H
          rw [hb] at hF
          clear hb
          refine c_seq ?_
          refine reg_list ?_
          refine ls hF hW rfl ((y_assign hF rfl).q) (fun a w hF hW => ?_)
          refine ls_nil ?_
          refine c_then ?_
          refine wp_ret ?_
          refine r_block ?_
          refine r_then ?_
          refine r_then ?_
          refine r_block ?_
          refine r_then ?_
          have H := L2 _ H
          have H := L1 _ H
          have H := Option.some.inj H
          subst H
          refine post1 (.inl rfl) hF hW rfl (rv_tmp hF rfl) ?_
          exact ⟨rfl, hW.done⟩
        ·
          have H := iteF (of_decide_eq_false hb) H
          rw [hb] at hF
          clear hb
          refine wp_skip ?_
          refine b_normal ?_
          refine c_then ?_
          refine reg_list ?_
          refine ls hF hW rfl ((y_move hF rfl).q) (fun a w hF hW => ?_)
          refine ls hF hW rfl ((y_add hF rfl rfl rfl).q) (fun a w hF hW => ?_)
          refine ls hF hW rfl ((y_assign hF rfl).q) (fun a w hF hW => ?_)
          refine ls_nil ?_
          refine c_then ?_
          exact ⟨_, H, hF.re ⟨rfl, rfl, rfl, rfl, trivial⟩, hW⟩
      ·
        have H := iteF (of_decide_eq_false hb) H
        rw [hb] at hF
        clear hb
        refine wp_exit ?_
        refine e_then ?_
        refine e_then ?_
        refine e_block ?_
        refine c_then ?_
        have H := L2 _ H
        exact ⟨H, hF.re ⟨rfl, trivial⟩, hW⟩
    rintro a w ⟨hj, hF, hW⟩
    have H := K1 _ hj
    clear hj G1 K1 L1
    refine c_seq ?_
    refine reg_list ?_
    refine ls hF hW rfl ((y_assign hF rfl).q) (fun a w hF hW => ?_)
    refine ls_nil ?_
    refine c_then ?_
    refine wp_ret ?_
    have H := Option.some.inj H
    subst H
    refine post1 (.inl rfl) hF hW rfl (rv_tmp hF rfl) ?_
    exact ⟨rfl, hW.done⟩

theorem H12 : Has Try.prog 12 := ⟨fun args w => run_callFunc_body Try.func12 rfl (by decide) args w⟩
noncomputable def graph_successors_l1 (p0 : List (Int × Int)) : (Int × Int × Int × Int × Int × Int × Int × Int × Int × Int × Int × Int × Int × Int × Int × Int × Int) → Option ((Int × Int × Int × Int × Int × Int × Int × Int × Int × Int × Int × Int × Int × Int × Int × Int × Int) ⊕ (Int × Int × Int × Int × Int × Int × Int × Int × Int × Int × Int × Int × Int × Int × Int × Int))
  | (x17, x18, x19, x20, x21, x22, x23, x24, x25, x26, x27, x28, x29, x30, x31, x32, x33) => (if x17 < (p0.length : Int) then (ix p0 x17).bind fun x34 => (ix ([x18, x19, x20, x21, x22, x23, x24, x25, x26, x27, x28, x29, x30, x31, x32, x33] : List Int) x34.1).bind fun x35 => (graph_set_with x35 x34.2).bind fun x36 => (ix ([x18, x19, x20, x21, x22, x23, x24, x25, x26, x27, x28, x29, x30, x31, x32, x33] : List Int) x34.1).bind fun x37 => some (.inl (w64 (x17 + 1), (if x34.1 = 0 then x36 else x18), (if x34.1 = 1 then x36 else x19), (if x34.1 = 2 then x36 else x20), (if x34.1 = 3 then x36 else x21), (if x34.1 = 4 then x36 else x22), (if x34.1 = 5 then x36 else x23), (if x34.1 = 6 then x36 else x24), (if x34.1 = 7 then x36 else x25), (if x34.1 = 8 then x36 else x26), (if x34.1 = 9 then x36 else x27), (if x34.1 = 10 then x36 else x28), (if x34.1 = 11 then x36 else x29), (if x34.1 = 12 then x36 else x30), (if x34.1 = 13 then x36 else x31), (if x34.1 = 14 then x36 else x32), (if x34.1 = 15 then x36 else x33))) else some (.inr (x18, x19, x20, x21, x22, x23, x24, x25, x26, x27, x28, x29, x30, x31, x32, x33)))
noncomputable def graph_successors (p0 : List (Int × Int)) : Option (Int × Int × Int × Int × Int × Int × Int × Int × Int × Int × Int × Int × Int × Int × Int × Int) := (loopW (graph_successors_l1 p0) (0, 0, 0, 0, 0, 0, 0, 0, 0, 0, 0, 0, 0, 0, 0, 0, 0)).bind fun (x1, x2, x3, x4, x5, x6, x7, x8, x9, x10, x11, x12, x13, x14, x15, x16) => some (x1, x2, x3, x4, x5, x6, x7, x8, x9, x10, x11, x12, x13, x14, x15, x16)
theorem graph_successors_c (Y : Nat → Prop) (w0 : World) (v1 : Value) (p0 : List (Int × Int)) (r : (Int × Int × Int × Int × Int × Int × Int × Int × Int × Int × Int × Int × Int × Int × Int × Int)) (H : graph_successors p0 = some r) (h_v1 : Sl w0 (NX []) R42 v1 p0) :
    Calls Try.prog 27 #[v1] w0 fun e w' => e = .returned (.agg #[.int .u32 r.1, .int .u32 r.2.1, .int .u32 r.2.2.1, .int .u32 r.2.2.2.1, .int .u32 r.2.2.2.2.1, .int .u32 r.2.2.2.2.2.1, .int .u32 r.2.2.2.2.2.2.1, .int .u32 r.2.2.2.2.2.2.2.1, .int .u32 r.2.2.2.2.2.2.2.2.1, .int .u32 r.2.2.2.2.2.2.2.2.2.1, .int .u32 r.2.2.2.2.2.2.2.2.2.2.1, .int .u32 r.2.2.2.2.2.2.2.2.2.2.2.1, .int .u32 r.2.2.2.2.2.2.2.2.2.2.2.2.1, .int .u32 r.2.2.2.2.2.2.2.2.2.2.2.2.2.1, .int .u32 r.2.2.2.2.2.2.2.2.2.2.2.2.2.2.1, .int .u32 r.2.2.2.2.2.2.2.2.2.2.2.2.2.2.2]) ∧ Below w0.heap.size w0 w' := by
  refine enter Try.func27 rfl Try.ntmps27 rfl (fun a hF => ?_)
  have hW := Stw.start Y w0
  unfold graph_successors at H
  refine c_seq ?_
  refine reg_list ?_
  refine l_alloc (cs := [.int .u32 0, .int .u32 0, .int .u32 0, .int .u32 0, .int .u32 0, .int .u32 0, .int .u32 0, .int .u32 0, .int .u32 0, .int .u32 0, .int .u32 0, .int .u32 0, .int .u32 0, .int .u32 0, .int .u32 0, .int .u32 0]) hF hW rfl Z46 rfl (fun b1 a w hF hW => ?_)
  refine ls_nil ?_
  refine c_then ?_
  refine c_seq ?_
  refine reg_list ?_
  refine l_alloc (cs := [.int .u32 0, .int .u32 0, .int .u32 0, .int .u32 0, .int .u32 0, .int .u32 0, .int .u32 0, .int .u32 0, .int .u32 0, .int .u32 0, .int .u32 0, .int .u32 0, .int .u32 0, .int .u32 0, .int .u32 0, .int .u32 0]) hF hW rfl Z46 rfl (fun b2 a w hF hW => ?_)
  refine ls_nil ?_
  refine c_then ?_
  obtain ⟨o1, G1, K1⟩ := bindE H
  refine c_seqJ (fun a w => ∃ x1 : Int, ∃ x2 : Int, ∃ x3 : Int, ∃ x4 : Int, ∃ x5 : Int, ∃ x6 : Int, ∃ x7 : Int, ∃ x8 : Int, ∃ x9 : Int, ∃ x10 : Int, ∃ x11 : Int, ∃ x12 : Int, ∃ x13 : Int, ∃ x14 : Int, ∃ x15 : Int, ∃ x16 : Int, some ((x1, x2, x3, x4, x5, x6, x7, x8, x9, x10, x11, x12, x13, x14, x15, x16)) = some o1 ∧ Fr 24 [] [(2, .pointer (some ⟨b1, 0, none⟩)), (3, .pointer (some ⟨b2, 0, none⟩))] a ∧ Stw ⟨Y, [], w0⟩ [(b2, [.int .u32 x1, .int .u32 x2, .int .u32 x3, .int .u32 x4, .int .u32 x5, .int .u32 x6, .int .u32 x7, .int .u32 x8, .int .u32 x9, .int .u32 x10, .int .u32 x11, .int .u32 x12, .int .u32 x13, .int .u32 x14, .int .u32 x15, .int .u32 x16]), (b1, [.int .u32 0, .int .u32 0, .int .u32 0, .int .u32 0, .int .u32 0, .int .u32 0, .int .u32 0, .int .u32 0, .int .u32 0, .int .u32 0, .int .u32 0, .int .u32 0, .int .u32 0, .int .u32 0, .int .u32 0, .int .u32 0])] [] w) ?_ ?_
  ·
    have H := G1
    clear G1 K1
    refine c_seq ?_
    refine reg_list ?_
    refine ls hF hW rfl ((y_move hF rfl).q) (fun a w hF hW => ?_)
    refine ls hF hW rfl ((y_len (r := R42) (l := p0) Try.underlying24 rfl hF rfl (rdc_ro h_v1)).q) (fun a w hF hW => ?_)
    refine ls hF hW rfl ((y_move hF rfl).q) (fun a w hF hW => ?_)
    refine ls_nil ?_
    refine c_then ?_
    refine wp_block ?_
    have hW := hW.frontM (i := 1) rfl rfl
    have hW := hW.frontM (i := 1) rfl rfl
    refine c_loopW H (fun s a w => Fr 24 [] [(2, .pointer (some ⟨b1, 0, none⟩)), (3, .pointer (some ⟨b2, 0, none⟩)), (6, v1), (7, .int .i64 (p0.length : Int)), (8, .int .i64 s.1)] a ∧ Stw ⟨Y, [], w0⟩ [(b2, [.int .u32 s.2.1, .int .u32 s.2.2.1, .int .u32 s.2.2.2.1, .int .u32 s.2.2.2.2.1, .int .u32 s.2.2.2.2.2.1, .int .u32 s.2.2.2.2.2.2.1, .int .u32 s.2.2.2.2.2.2.2.1, .int .u32 s.2.2.2.2.2.2.2.2.1, .int .u32 s.2.2.2.2.2.2.2.2.2.1, .int .u32 s.2.2.2.2.2.2.2.2.2.2.1, .int .u32 s.2.2.2.2.2.2.2.2.2.2.2.1, .int .u32 s.2.2.2.2.2.2.2.2.2.2.2.2.1, .int .u32 s.2.2.2.2.2.2.2.2.2.2.2.2.2.1, .int .u32 s.2.2.2.2.2.2.2.2.2.2.2.2.2.2.1, .int .u32 s.2.2.2.2.2.2.2.2.2.2.2.2.2.2.2.1, .int .u32 s.2.2.2.2.2.2.2.2.2.2.2.2.2.2.2.2]), (b1, [.int .u32 0, .int .u32 0, .int .u32 0, .int .u32 0, .int .u32 0, .int .u32 0, .int .u32 0, .int .u32 0, .int .u32 0, .int .u32 0, .int .u32 0, .int .u32 0, .int .u32 0, .int .u32 0, .int .u32 0, .int .u32 0])] [] w) ⟨hF.re ⟨rfl, rfl, rfl, rfl, rfl, trivial⟩, hW⟩ (fun s o a w H L2 hR => ?_)
    obtain ⟨x17, x18, x19, x20, x21, x22, x23, x24, x25, x26, x27, x28, x29, x30, x31, x32, x33⟩ := s
    obtain ⟨hF, hW⟩ := hR
    have hF : Fr 24 [] [(2, .pointer (some ⟨b1, 0, none⟩)), (3, .pointer (some ⟨b2, 0, none⟩)), (6, v1), (7, .int .i64 (p0.length : Int)), (8, .int .i64 x17)] a := hF
    have hW : Stw ⟨Y, [], w0⟩ [(b2, [.int .u32 x18, .int .u32 x19, .int .u32 x20, .int .u32 x21, .int .u32 x22, .int .u32 x23, .int .u32 x24, .int .u32 x25, .int .u32 x26, .int .u32 x27, .int .u32 x28, .int .u32 x29, .int .u32 x30, .int .u32 x31, .int .u32 x32, .int .u32 x33]), (b1, [.int .u32 0, .int .u32 0, .int .u32 0, .int .u32 0, .int .u32 0, .int .u32 0, .int .u32 0, .int .u32 0, .int .u32 0, .int .u32 0, .int .u32 0, .int .u32 0, .int .u32 0, .int .u32 0, .int .u32 0, .int .u32 0])] [] w := hW
    rw [graph_successors_l1] at H
    refine c_seq ?_
    refine reg_list ?_
    refine ls hF hW rfl ((y_lss hF rfl rfl).q) (fun a w hF hW => ?_)
    refine ls_nil ?_
    refine c_then ?_
    refine c_seq ?_
    refine c_cond hF rfl (fun hb => ?_) (fun hb => ?_)
    ·
      have H := iteT (of_decide_eq_true hb) H
      rw [hb] at hF
      clear hb
      refine wp_skip ?_
      refine c_then ?_
      refine c_seq ?_
      refine wp_block ?_
      refine c_seq ?_
      refine reg_list ?_
      obtain ⟨x34, h1, H⟩ := bindE H
      refine ls hF hW rfl ((y_index (r := R42) L24 hF rfl rfl (rdc_ro h_v1) h1).q) (fun a w hF hW => ?_)
      refine ls hF hW rfl ((y_load_el (y := Value.agg #[.int .i64 x34.1, .int .i64 x34.2]) (j := 0) (i := x17) hF rfl rfl (rdc_ro h_v1) h1 F42.to T42 rfl).q) (fun a w hF hW => ?_)
      refine l_alloc (cs := [.int .i64 0, .int .i64 0]) hF hW rfl Z42 rfl (fun b3 a w hF hW => ?_)
      refine l_store (vs := [.int .i64 x34.1, .int .i64 x34.2]) (M' := [(b3, [.int .i64 x34.1, .int .i64 x34.2]), (b2, [.int .u32 x18, .int .u32 x19, .int .u32 x20, .int .u32 x21, .int .u32 x22, .int .u32 x23, .int .u32 x24, .int .u32 x25, .int .u32 x26, .int .u32 x27, .int .u32 x28, .int .u32 x29, .int .u32 x30, .int .u32 x31, .int .u32 x32, .int .u32 x33]), (b1, [.int .u32 0, .int .u32 0, .int .u32 0, .int .u32 0, .int .u32 0, .int .u32 0, .int .u32 0, .int .u32 0, .int .u32 0, .int .u32 0, .int .u32 0, .int .u32 0, .int .u32 0, .int .u32 0, .int .u32 0, .int .u32 0])]) 0 hF hW rfl rfl rfl T42 rfl rfl rfl rfl rfl (fun w hW => ?_)
      refine ls_nil ?_
      refine c_then ?_
      refine reg_tail 10 hW MO (by kernel_rfl) ?_
      refine qs hF rfl ((y_fieldAddr Try.underlying42 rfl rfl rfl T3 hF rfl 0 rfl).q) (fun a hF => ?_)
      refine qs hF rfl ((y_load (v := Value.int .i64 x34.1) 0 hF rfl rfl T3 rfl).q) (fun a hF => ?_)
      refine qs hF rfl ((y_fieldAddr Try.underlying42 rfl rfl rfl T3 hF rfl 0 rfl).q) (fun a hF => ?_)
      refine qs hF rfl ((y_load (v := Value.int .i64 x34.1) 0 hF rfl rfl T3 rfl).q) (fun a hF => ?_)
      obtain ⟨x35, h2, H⟩ := bindE H
      refine qs hF rfl ((y_indexP (0 + (x34.1).toNat * 1) Ar46 hF rfl rfl rfl h2 rfl).q) (fun a hF => ?_)
      refine qs hF rfl ((y_load (v := Value.int .u32 x35) 1 hF rfl rfl T45 (rdv_dyn (base := 0) (m := 16) (l := [x18, x19, x20, x21, x22, x23, x24, x25, x26, x27, x28, x29, x30, x31, x32, x33]) (enc := Value.int .u32) rfl h2)).q) (fun a hF => ?_)
      refine qs hF rfl ((y_fieldAddr Try.underlying42 rfl rfl rfl T3 hF rfl 1 rfl).q) (fun a hF => ?_)
      refine qs hF rfl ((y_load (v := Value.int .i64 x34.2) 0 hF rfl rfl T3 rfl).q) (fun a hF => ?_)
      obtain ⟨x36, h3, H⟩ := bindE H
      refine qs hF rfl (y_call (v := Value.int .u32 x36) hF H23 rfl (fun w hW => graph_set_with_c any w x35 x34.2 _ h3)) (fun a hF => ?_)
      obtain ⟨x37, h4, H⟩ := bindE H
      refine qs hF rfl ((y_indexP (0 + (x34.1).toNat * 1) Ar46 hF rfl rfl rfl h4 rfl).q) (fun a hF => ?_)
      refine quiet_end (fun w hW => ?_)
      refine l_store_dyn (o := 0) (m := 16) (i := x34.1) (l := ([x18, x19, x20, x21, x22, x23, x24, x25, x26, x27, x28, x29, x30, x31, x32, x33] : List Int)) (x := x37) (cs := [.int .u32 x18, .int .u32 x19, .int .u32 x20, .int .u32 x21, .int .u32 x22, .int .u32 x23, .int .u32 x24, .int .u32 x25, .int .u32 x26, .int .u32 x27, .int .u32 x28, .int .u32 x29, .int .u32 x30, .int .u32 x31, .int .u32 x32, .int .u32 x33]) (cs' := [.int .u32 (if x34.1 = 0 then x36 else x18), .int .u32 (if x34.1 = 1 then x36 else x19), .int .u32 (if x34.1 = 2 then x36 else x20), .int .u32 (if x34.1 = 3 then x36 else x21), .int .u32 (if x34.1 = 4 then x36 else x22), .int .u32 (if x34.1 = 5 then x36 else x23), .int .u32 (if x34.1 = 6 then x36 else x24), .int .u32 (if x34.1 = 7 then x36 else x25), .int .u32 (if x34.1 = 8 then x36 else x26), .int .u32 (if x34.1 = 9 then x36 else x27), .int .u32 (if x34.1 = 10 then x36 else x28), .int .u32 (if x34.1 = 11 then x36 else x29), .int .u32 (if x34.1 = 12 then x36 else x30), .int .u32 (if x34.1 = 13 then x36 else x31), .int .u32 (if x34.1 = 14 then x36 else x32), .int .u32 (if x34.1 = 15 then x36 else x33)]) 1 hF hW rfl rfl rfl T45 rfl rfl rfl rfl h4 (by intro k hk hn; rw [hk]; match k, hn with | 0, _ => rfl | 1, _ => rfl | 2, _ => rfl | 3, _ => rfl | 4, _ => rfl | 5, _ => rfl | 6, _ => rfl | 7, _ => rfl | 8, _ => rfl | 9, _ => rfl | 10, _ => rfl | 11, _ => rfl | 12, _ => rfl | 13, _ => rfl | 14, _ => rfl | 15, _ => rfl | (z + 16), h => exact absurd h (by omega)) (fun w hW => ?_)
      have hW : Stw ⟨Y, [], w0⟩ [(b3, [.int .i64 x34.1, .int .i64 x34.2]), (b2, [.int .u32 (if x34.1 = 0 then x36 else x18), .int .u32 (if x34.1 = 1 then x36 else x19), .int .u32 (if x34.1 = 2 then x36 else x20), .int .u32 (if x34.1 = 3 then x36 else x21), .int .u32 (if x34.1 = 4 then x36 else x22), .int .u32 (if x34.1 = 5 then x36 else x23), .int .u32 (if x34.1 = 6 then x36 else x24), .int .u32 (if x34.1 = 7 then x36 else x25), .int .u32 (if x34.1 = 8 then x36 else x26), .int .u32 (if x34.1 = 9 then x36 else x27), .int .u32 (if x34.1 = 10 then x36 else x28), .int .u32 (if x34.1 = 11 then x36 else x29), .int .u32 (if x34.1 = 12 then x36 else x30), .int .u32 (if x34.1 = 13 then x36 else x31), .int .u32 (if x34.1 = 14 then x36 else x32), .int .u32 (if x34.1 = 15 then x36 else x33)]), (b1, [.int .u32 0, .int .u32 0, .int .u32 0, .int .u32 0, .int .u32 0, .int .u32 0, .int .u32 0, .int .u32 0, .int .u32 0, .int .u32 0, .int .u32 0, .int .u32 0, .int .u32 0, .int .u32 0, .int .u32 0, .int .u32 0])] [] w := hW
      refine ls_nil ?_
      refine b_normal ?_
      refine c_then ?_
      refine reg_list ?_
      refine ls hF hW rfl ((y_add hF rfl rfl rfl).q) (fun a w hF hW => ?_)
      refine ls hF hW rfl ((y_move hF rfl).q) (fun a w hF hW => ?_)
      refine ls_nil ?_
      refine c_then ?_
      have hW := hW.frontM (i := 2) rfl rfl
      have hW := hW.frontM (i := 2) rfl rfl
      have hW := hW.sub (M' := [(b2, [.int .u32 (if x34.1 = 0 then x36 else x18), .int .u32 (if x34.1 = 1 then x36 else x19), .int .u32 (if x34.1 = 2 then x36 else x20), .int .u32 (if x34.1 = 3 then x36 else x21), .int .u32 (if x34.1 = 4 then x36 else x22), .int .u32 (if x34.1 = 5 then x36 else x23), .int .u32 (if x34.1 = 6 then x36 else x24), .int .u32 (if x34.1 = 7 then x36 else x25), .int .u32 (if x34.1 = 8 then x36 else x26), .int .u32 (if x34.1 = 9 then x36 else x27), .int .u32 (if x34.1 = 10 then x36 else x28), .int .u32 (if x34.1 = 11 then x36 else x29), .int .u32 (if x34.1 = 12 then x36 else x30), .int .u32 (if x34.1 = 13 then x36 else x31), .int .u32 (if x34.1 = 14 then x36 else x32), .int .u32 (if x34.1 = 15 then x36 else x33)]), (b1, [.int .u32 0, .int .u32 0, .int .u32 0, .int .u32 0, .int .u32 0, .int .u32 0, .int .u32 0, .int .u32 0, .int .u32 0, .int .u32 0, .int .u32 0, .int .u32 0, .int .u32 0, .int .u32 0, .int .u32 0, .int .u32 0])]) (Z' := []) (List.Sublist.cons_cons _ (List.Sublist.cons_cons _ (List.nil_sublist _))) (List.Sublist.refl _)
      exact ⟨_, H, hF.re ⟨rfl, rfl, rfl, rfl, rfl, trivial⟩, hW⟩
    ·
      have H := iteF (of_decide_eq_false hb) H
      rw [hb] at hF
      clear hb
      refine wp_exit ?_
      refine e_then ?_
      refine e_then ?_
      refine e_block ?_
      refine c_then ?_
      have hW := hW.frontM (i := 1) rfl rfl
      have hW := hW.frontM (i := 1) rfl rfl
      have H := L2 _ H
      exact ⟨_, _, _, _, _, _, _, _, _, _, _, _, _, _, _, _, H, hF.re ⟨rfl, rfl, trivial⟩, hW⟩
  rintro a w ⟨x1, x2, x3, x4, x5, x6, x7, x8, x9, x10, x11, x12, x13, x14, x15, x16, hj, hF, hW⟩
  have hj := Option.some.inj hj
  subst hj
  have H := K1
  clear G1 K1
  refine c_seq ?_
  refine reg_list ?_
  refine ls hF hW rfl ((y_load (v := Value.agg #[.int .u32 x1, .int .u32 x2, .int .u32 x3, .int .u32 x4, .int .u32 x5, .int .u32 x6, .int .u32 x7, .int .u32 x8, .int .u32 x9, .int .u32 x10, .int .u32 x11, .int .u32 x12, .int .u32 x13, .int .u32 x14, .int .u32 x15, .int .u32 x16]) 0 hF rfl rfl T46 rfl).q) (fun a w hF hW => ?_)
  refine l_store (vs := [.int .u32 x1, .int .u32 x2, .int .u32 x3, .int .u32 x4, .int .u32 x5, .int .u32 x6, .int .u32 x7, .int .u32 x8, .int .u32 x9, .int .u32 x10, .int .u32 x11, .int .u32 x12, .int .u32 x13, .int .u32 x14, .int .u32 x15, .int .u32 x16]) (M' := [(b2, [.int .u32 x1, .int .u32 x2, .int .u32 x3, .int .u32 x4, .int .u32 x5, .int .u32 x6, .int .u32 x7, .int .u32 x8, .int .u32 x9, .int .u32 x10, .int .u32 x11, .int .u32 x12, .int .u32 x13, .int .u32 x14, .int .u32 x15, .int .u32 x16]), (b1, [.int .u32 x1, .int .u32 x2, .int .u32 x3, .int .u32 x4, .int .u32 x5, .int .u32 x6, .int .u32 x7, .int .u32 x8, .int .u32 x9, .int .u32 x10, .int .u32 x11, .int .u32 x12, .int .u32 x13, .int .u32 x14, .int .u32 x15, .int .u32 x16])]) 1 hF hW rfl rfl rfl T46 rfl rfl rfl rfl rfl (fun w hW => ?_)
  refine ls_nil ?_
  refine c_then ?_
  refine wp_ret ?_
  have H := Option.some.inj H
  subst H
  refine post1 (.inl rfl) hF hW rfl (rv_cell 1 hF rfl rfl T46 rfl) ?_
  exact ⟨rfl, hW.done⟩

end Go.Proofs.Ytkgajpmlehfcnaa
