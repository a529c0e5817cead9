/- The functions of layer 22, lifted. Conditions: none. -/
import Derived.Test.YtnhoakboblfliaaRows
import Derived.Test.YtnhoakboblfliaaQT
namespace Go.Proofs.Ytnhoakboblfliaa
open Go Go.RowKit
set_option linter.unusedVariables false
set_option linter.unusedSimpArgs false
set_option maxRecDepth 20000
abbrev R39 : Rp (Int × Int × Int) := (Rp.pair (Rp.int .i64) (Rp.pair (Rp.int .i64) (Rp.int .i64)))
theorem B40 : Bt Try.prog 40 [.int .i64 0, .int .i64 0, .int .i64 0] [(0, 1), (1, 1), (2, 1)] := ⟨⟨.agg #[.int .i64 0, .int .i64 0, .int .i64 0], by kernel_rfl, rfl⟩, ⟨_, Try.underlying40, fun w => by kernel_rfl⟩⟩
theorem Z40 : (Try.prog.info? 40).bind (·.zero) = some (.agg #[.int .i64 0, .int .i64 0, .int .i64 0]) := by kernel_rfl
abbrev R40 : Rp (Int × Int × Int) := (Rp.pair (Rp.int .i64) (Rp.pair (Rp.int .i64) (Rp.int .i64)))
def E40 (a : Int × Int × Int) : List Value := [.int .i64 a.1, .int .i64 a.2.1, .int .i64 a.2.2]
theorem F40 : Fl R40 E40 := (Fl.pair Fl.int (Fl.pair Fl.int Fl.int))
theorem L25 : Et Try.prog 25 40 3 24 := Et.of Try.underlying25 (by kernel_rfl) (by kernel_rfl) (by kernel_rfl) (by decide)
theorem T40 : Ty Try.prog 40 true 3 := ⟨by kernel_rfl, by kernel_rfl⟩
theorem T3 : Ty Try.prog 3 false 1 := ⟨by kernel_rfl, by kernel_rfl⟩
noncomputable def diff_Right_l1 (p0 : Int) (p1 : List (Int × Int × Int)) : Int → Option (Int ⊕ (Unit ⊕ Bool))
  | x1 => (if x1 < (p1.length : Int) then (ix p1 x1).bind fun x2 => (if (decide (x2.1 < 0) || (decide (p0 ≤ x2.1) || (decide (x2.2.1 < 0) || (decide (p0 ≤ x2.2.1) || (decide (x2.2.2 < (-1073741824)) || decide (1073741824 < x2.2.2)))))) = true then some (.inr (.inr false)) else some (.inl (w64 (x1 + 1)))) else some (.inr (.inl ())))
noncomputable def diff_Right (p0 : Int) (p1 : List (Int × Int × Int)) : Option Bool := (if (decide (p0 < 0) || (decide (64 < p0) || decide (256 < (p1.length : Int)))) = true then some false else orR (loopW (diff_Right_l1 p0 p1) 0) fun _ => some true)
theorem diff_Right_c (Y : Nat → Prop) (w0 : World) (v1 : Value) (p0 : Int) (p1 : List (Int × Int × Int)) (r : Bool) (H : diff_Right p0 p1 = some r) (h_v1 : Sl w0 (NX []) R40 v1 p1) :
    Calls Try.prog 10 #[.int .i64 p0, v1] w0 fun e w' => e = .returned (.bool r) ∧ Below w0.heap.size w0 w' := by
  refine enter Try.func10 rfl Try.ntmps10 rfl (fun a hF => ?_)
  have hW := Stw.start Y w0
  unfold diff_Right at H
  refine c_seq ?_
  refine reg_list ?_
  refine ls hF hW rfl ((y_assign hF rfl).q) (fun a w hF hW => ?_)
  refine ls_nil ?_
  refine c_then ?_
  refine c_seq ?_
  refine c_seqJ (fun a w => Fr 55 [] [(0, .int .i64 p0), (1, v1), (4, .bool false), (17, .bool (decide (p0 < 0) || (decide (64 < p0) || decide (256 < (p1.length : Int)))))] a ∧ Stw ⟨Y, [], w0⟩ [] [] w) ?_ ?_
  ·
    refine reg_list ?_
    refine ls hF hW rfl ((y_move hF rfl).q) (fun a w hF hW => ?_)
    refine ls hF hW rfl ((y_lss hF rfl rfl).q) (fun a w hF hW => ?_)
    refine ls hF hW rfl ((y_move hF rfl).q) (fun a w hF hW => ?_)
    rcases Bool.eq_false_or_eq_true (decide (p0 < 0)) with hb0 | hb0
    ·
      rw [hb0] at hF
      refine ls_skip hF (wanted_n hF rfl rfl rfl rfl rfl) rfl rfl (fun a hF => ?_)
      refine ls_skip hF (wanted_n hF rfl rfl rfl rfl rfl) rfl rfl (fun a hF => ?_)
      refine ls hF hW rfl ((y_pick_t hF rfl rfl rfl).q) (fun a w hF hW => ?_)
      refine ls hF hW rfl ((y_move hF rfl).q) (fun a w hF hW => ?_)
      refine ls_skip hF (wanted_n hF rfl rfl rfl rfl rfl) rfl rfl (fun a hF => ?_)
      refine ls_skip hF (wanted_n hF rfl rfl rfl rfl rfl) rfl rfl (fun a hF => ?_)
      refine ls_skip hF (wanted_n hF rfl rfl rfl rfl rfl) rfl rfl (fun a hF => ?_)
      refine ls hF hW rfl ((y_pick_t hF rfl rfl rfl).q) (fun a w hF hW => ?_)
      refine ls_nil ?_
      refine c_then ?_
      exact ⟨hF.re ⟨rfl, rfl, rfl, (by show some (Value.bool true) = some (Value.bool (decide (p0 < 0) || (decide (64 < p0) || decide (256 < (p1.length : Int))))); try rw [hb0]; all_goals simp only [Bool.not_true, Bool.not_false, Bool.true_and, Bool.false_and, Bool.true_or, Bool.false_or, Bool.and_true, Bool.or_false, cond_true, cond_false]), trivial⟩, hW⟩
    ·
      rw [hb0] at hF
      refine ls_w hF hW (wanted_y hF rfl rfl rfl rfl) rfl (Nat.le_of_ble_eq_true rfl) ((y_move hF rfl).q) (fun a w hF hW => ?_)
      refine ls_w hF hW (wanted_y hF rfl rfl rfl rfl) rfl (Nat.le_of_ble_eq_true rfl) ((y_gtr hF rfl rfl).q) (fun a w hF hW => ?_)
      refine ls hF hW rfl ((y_pick_f hF rfl rfl rfl).q) (fun a w hF hW => ?_)
      refine ls hF hW rfl ((y_move hF rfl).q) (fun a w hF hW => ?_)
      rcases Bool.eq_false_or_eq_true (decide (64 < p0)) with hb1 | hb1
      ·
        rw [hb1] at hF
        refine ls_skip hF (wanted_n hF rfl rfl rfl rfl rfl) rfl rfl (fun a hF => ?_)
        refine ls_skip hF (wanted_n hF rfl rfl rfl rfl rfl) rfl rfl (fun a hF => ?_)
        refine ls_skip hF (wanted_n hF rfl rfl rfl rfl rfl) rfl rfl (fun a hF => ?_)
        refine ls hF hW rfl ((y_pick_t hF rfl rfl rfl).q) (fun a w hF hW => ?_)
        refine ls_nil ?_
        refine c_then ?_
        exact ⟨hF.re ⟨rfl, rfl, rfl, (by show some (Value.bool true) = some (Value.bool (decide (p0 < 0) || (decide (64 < p0) || decide (256 < (p1.length : Int))))); try rw [hb1]; try rw [hb0]; all_goals simp only [Bool.not_true, Bool.not_false, Bool.true_and, Bool.false_and, Bool.true_or, Bool.false_or, Bool.and_true, Bool.or_false, cond_true, cond_false]), trivial⟩, hW⟩
      ·
        rw [hb1] at hF
        refine ls_w hF hW (wanted_y hF rfl rfl rfl rfl) rfl (Nat.le_of_ble_eq_true rfl) ((y_move hF rfl).q) (fun a w hF hW => ?_)
        refine ls_w hF hW (wanted_y hF rfl rfl rfl rfl) rfl (Nat.le_of_ble_eq_true rfl) ((y_len (r := R40) (l := p1) Try.underlying25 rfl hF rfl (rdc_ro h_v1)).q) (fun a w hF hW => ?_)
        refine ls_w hF hW (wanted_y hF rfl rfl rfl rfl) rfl (Nat.le_of_ble_eq_true rfl) ((y_gtr hF rfl rfl).q) (fun a w hF hW => ?_)
        refine ls hF hW rfl ((y_pick_f hF rfl rfl rfl).q) (fun a w hF hW => ?_)
        refine ls_nil ?_
        refine c_then ?_
        exact ⟨hF.re ⟨rfl, rfl, rfl, (by show some (Value.bool (decide (256 < (p1.length : Int)))) = some (Value.bool (decide (p0 < 0) || (decide (64 < p0) || decide (256 < (p1.length : Int))))); try rw [hb1]; try rw [hb0]; all_goals simp only [Bool.not_true, Bool.not_false, Bool.true_and, Bool.false_and, Bool.true_or, Bool.false_or, Bool.and_true, Bool.or_false, cond_true, cond_false]), trivial⟩, hW⟩
  rintro a w ⟨hF, hW⟩
  refine c_cond hF rfl (fun hb => ?_) (fun hb => ?_)
  ·
    have H := iteT hb H
    rw [hb] at hF
    clear hb
    refine c_seq ?_
    refine reg_list ?_
    refine ls hF hW rfl ((y_assign hF rfl).q) (fun a w hF hW => ?_)
    refine ls_nil ?_
    refine c_then ?_
    refine wp_ret ?_
    refine r_then ?_
    have H := Option.some.inj H
    subst H
    refine post1 (.inl rfl) hF hW rfl (rv_tmp hF rfl) ?_
    exact ⟨rfl, hW.done⟩
  ·
    have H := iteF (by rw [hb]; decide) H
    rw [hb] at hF
    clear hb
    refine wp_skip ?_
    refine c_then ?_
    obtain ⟨o1, G1, K1, L1⟩ := orE H
    refine c_seqJ (fun a w => some (Sum.inl ()) = some o1 ∧ Fr 55 [] [(4, .bool false)] a ∧ Stw ⟨Y, [], w0⟩ [] [] w) ?_ ?_
    ·
      have H := G1
      clear G1 K1
      refine c_seq ?_
      refine reg_list ?_
      refine ls hF hW rfl ((y_move hF rfl).q) (fun a w hF hW => ?_)
      refine ls hF hW rfl ((y_len (r := R40) (l := p1) Try.underlying25 rfl hF rfl (rdc_ro h_v1)).q) (fun a w hF hW => ?_)
      refine ls hF hW rfl ((y_move hF rfl).q) (fun a w hF hW => ?_)
      refine ls_nil ?_
      refine c_then ?_
      refine wp_block ?_
      refine c_loopW H (fun s a w => Fr 55 [] [(0, .int .i64 p0), (4, .bool false), (18, v1), (19, .int .i64 (p1.length : Int)), (20, .int .i64 s)] a ∧ Stw ⟨Y, [], w0⟩ [] [] w) ⟨hF.re ⟨rfl, rfl, rfl, rfl, rfl, trivial⟩, hW⟩ (fun s o a w H L2 hR => ?_)
      obtain ⟨x1, rfl⟩ : ∃ x, x = s := ⟨s, rfl⟩
      obtain ⟨hF, hW⟩ := hR
      have hF : Fr 55 [] [(0, .int .i64 p0), (4, .bool false), (18, v1), (19, .int .i64 (p1.length : Int)), (20, .int .i64 x1)] a := hF
      have hW : Stw ⟨Y, [], w0⟩ [] [] w := hW
      rw [diff_Right_l1] at H
      refine c_seq ?_
      refine reg_list ?_
      refine ls hF hW rfl ((y_lss hF rfl rfl).q) (fun a w hF hW => ?_)
      refine ls_nil ?_
      refine c_then ?_
      refine c_seq ?_
      refine c_cond hF rfl (fun hb => ?_) (fun hb => ?_)
      ·
        have H := iteT (of_decide_eq_true hb) H
        rw [hb] at hF
        clear hb
        refine wp_skip ?_
        refine c_then ?_
        refine c_seq ?_
        refine wp_block ?_
        refine c_seq ?_
        refine reg_list ?_
        obtain ⟨x2, h1, H⟩ := bindE H
        refine ls hF hW rfl ((y_index (r := R40) L25 hF rfl rfl (rdc_ro h_v1) h1).q) (fun a w hF hW => ?_)
        refine ls hF hW rfl ((y_load_el (y := Value.agg #[.int .i64 x2.1, .int .i64 x2.2.1, .int .i64 x2.2.2]) (j := 0) (i := x1) hF rfl rfl (rdc_ro h_v1) h1 F40.to T40 rfl).q) (fun a w hF hW => ?_)
        refine l_alloc (cs := [.int .i64 0, .int .i64 0, .int .i64 0]) hF hW rfl Z40 rfl (fun b1 a w hF hW => ?_)
        refine l_store (vs := [.int .i64 x2.1, .int .i64 x2.2.1, .int .i64 x2.2.2]) (M' := [(b1, [.int .i64 x2.1, .int .i64 x2.2.1, .int .i64 x2.2.2])]) 0 hF hW rfl rfl rfl T40 rfl rfl rfl rfl rfl (fun w hW => ?_)
        refine ls_nil ?_
        refine c_then ?_
        refine c_seqJ (fun a w => Fr 55 [] [(0, .int .i64 p0), (4, .bool false), (18, v1), (19, .int .i64 (p1.length : Int)), (20, .int .i64 x1), (53, .bool (decide (x2.1 < 0) || (decide (p0 ≤ x2.1) || (decide (x2.2.1 < 0) || (decide (p0 ≤ x2.2.1) || (decide (x2.2.2 < (-1073741824)) || decide (1073741824 < x2.2.2)))))))] a ∧ Stw ⟨Y, [], w0⟩ [(b1, [.int .i64 x2.1, .int .i64 x2.2.1, .int .i64 x2.2.2])] [] w) ?_ ?_
        ·
          refine reg_list ?_
          refine ls hF hW rfl ((y_fieldAddr Try.underlying40 rfl rfl rfl T3 hF rfl 0 rfl).q) (fun a w hF hW => ?_)
          refine ls hF hW rfl ((y_load (v := Value.int .i64 x2.1) 0 hF rfl rfl T3 rfl).q) (fun a w hF hW => ?_)
          refine ls hF hW rfl ((y_lss hF rfl rfl).q) (fun a w hF hW => ?_)
          refine ls hF hW rfl ((y_move hF rfl).q) (fun a w hF hW => ?_)
          rcases Bool.eq_false_or_eq_true (decide (x2.1 < 0)) with hb0 | hb0
          ·
            rw [hb0] at hF
            refine ls_skip hF (wanted_n hF rfl rfl rfl rfl rfl) rfl rfl (fun a hF => ?_)
            refine ls_skip hF (wanted_n hF rfl rfl rfl rfl rfl) rfl rfl (fun a hF => ?_)
            refine ls_skip hF (wanted_n hF rfl rfl rfl rfl rfl) rfl rfl (fun a hF => ?_)
            refine ls_skip hF (wanted_n hF rfl rfl rfl rfl rfl) rfl rfl (fun a hF => ?_)
            refine ls hF hW rfl ((y_pick_t hF rfl rfl rfl).q) (fun a w hF hW => ?_)
            refine ls hF hW rfl ((y_move hF rfl).q) (fun a w hF hW => ?_)
            refine ls_skip hF (wanted_n hF rfl rfl rfl rfl rfl) rfl rfl (fun a hF => ?_)
            refine ls_skip hF (wanted_n hF rfl rfl rfl rfl rfl) rfl rfl (fun a hF => ?_)
            refine ls_skip hF (wanted_n hF rfl rfl rfl rfl rfl) rfl rfl (fun a hF => ?_)
            refine ls hF hW rfl ((y_pick_t hF rfl rfl rfl).q) (fun a w hF hW => ?_)
            refine ls hF hW rfl ((y_move hF rfl).q) (fun a w hF hW => ?_)
            refine ls_skip hF (wanted_n hF rfl rfl rfl rfl rfl) rfl rfl (fun a hF => ?_)
            refine ls_skip hF (wanted_n hF rfl rfl rfl rfl rfl) rfl rfl (fun a hF => ?_)
            refine ls_skip hF (wanted_n hF rfl rfl rfl rfl rfl) rfl rfl (fun a hF => ?_)
            refine ls_skip hF (wanted_n hF rfl rfl rfl rfl rfl) rfl rfl (fun a hF => ?_)
            refine ls hF hW rfl ((y_pick_t hF rfl rfl rfl).q) (fun a w hF hW => ?_)
            refine ls hF hW rfl ((y_move hF rfl).q) (fun a w hF hW => ?_)
            refine ls_skip hF (wanted_n hF rfl rfl rfl rfl rfl) rfl rfl (fun a hF => ?_)
            refine ls_skip hF (wanted_n hF rfl rfl rfl rfl rfl) rfl rfl (fun a hF => ?_)
            refine ls_skip hF (wanted_n hF rfl rfl rfl rfl rfl) rfl rfl (fun a hF => ?_)
            refine ls hF hW rfl ((y_pick_t hF rfl rfl rfl).q) (fun a w hF hW => ?_)
            refine ls hF hW rfl ((y_move hF rfl).q) (fun a w hF hW => ?_)
            refine ls_skip hF (wanted_n hF rfl rfl rfl rfl rfl) rfl rfl (fun a hF => ?_)
            refine ls_skip hF (wanted_n hF rfl rfl rfl rfl rfl) rfl rfl (fun a hF => ?_)
            refine ls_skip hF (wanted_n hF rfl rfl rfl rfl rfl) rfl rfl (fun a hF => ?_)
            refine ls hF hW rfl ((y_pick_t hF rfl rfl rfl).q) (fun a w hF hW => ?_)
            refine ls_nil ?_
            refine c_then ?_
            exact ⟨hF.re ⟨rfl, rfl, rfl, rfl, rfl, (by show some (Value.bool true) = some (Value.bool (decide (x2.1 < 0) || (decide (p0 ≤ x2.1) || (decide (x2.2.1 < 0) || (decide (p0 ≤ x2.2.1) || (decide (x2.2.2 < (-1073741824)) || decide (1073741824 < x2.2.2))))))); try rw [hb0]; all_goals simp only [Bool.not_true, Bool.not_false, Bool.true_and, Bool.false_and, Bool.true_or, Bool.false_or, Bool.and_true, Bool.or_false, cond_true, cond_false]), trivial⟩, hW⟩
          ·
            rw [hb0] at hF
            refine ls_w hF hW (wanted_y hF rfl rfl rfl rfl) rfl (Nat.le_of_ble_eq_true rfl) ((y_fieldAddr Try.underlying40 rfl rfl rfl T3 hF rfl 0 rfl).q) (fun a w hF hW => ?_)
            refine ls_w hF hW (wanted_y hF rfl rfl rfl rfl) rfl (Nat.le_of_ble_eq_true rfl) ((y_load (v := Value.int .i64 x2.1) 0 hF rfl rfl T3 rfl).q) (fun a w hF hW => ?_)
            refine ls_w hF hW (wanted_y hF rfl rfl rfl rfl) rfl (Nat.le_of_ble_eq_true rfl) ((y_move hF rfl).q) (fun a w hF hW => ?_)
            refine ls_w hF hW (wanted_y hF rfl rfl rfl rfl) rfl (Nat.le_of_ble_eq_true rfl) ((y_geq hF rfl rfl).q) (fun a w hF hW => ?_)
            refine ls hF hW rfl ((y_pick_f hF rfl rfl rfl).q) (fun a w hF hW => ?_)
            refine ls hF hW rfl ((y_move hF rfl).q) (fun a w hF hW => ?_)
            rcases Bool.eq_false_or_eq_true (decide (p0 ≤ x2.1)) with hb1 | hb1
            ·
              rw [hb1] at hF
              refine ls_skip hF (wanted_n hF rfl rfl rfl rfl rfl) rfl rfl (fun a hF => ?_)
              refine ls_skip hF (wanted_n hF rfl rfl rfl rfl rfl) rfl rfl (fun a hF => ?_)
              refine ls_skip hF (wanted_n hF rfl rfl rfl rfl rfl) rfl rfl (fun a hF => ?_)
              refine ls hF hW rfl ((y_pick_t hF rfl rfl rfl).q) (fun a w hF hW => ?_)
              refine ls hF hW rfl ((y_move hF rfl).q) (fun a w hF hW => ?_)
              refine ls_skip hF (wanted_n hF rfl rfl rfl rfl rfl) rfl rfl (fun a hF => ?_)
              refine ls_skip hF (wanted_n hF rfl rfl rfl rfl rfl) rfl rfl (fun a hF => ?_)
              refine ls_skip hF (wanted_n hF rfl rfl rfl rfl rfl) rfl rfl (fun a hF => ?_)
              refine ls_skip hF (wanted_n hF rfl rfl rfl rfl rfl) rfl rfl (fun a hF => ?_)
              refine ls hF hW rfl ((y_pick_t hF rfl rfl rfl).q) (fun a w hF hW => ?_)
              refine ls hF hW rfl ((y_move hF rfl).q) (fun a w hF hW => ?_)
              refine ls_skip hF (wanted_n hF rfl rfl rfl rfl rfl) rfl rfl (fun a hF => ?_)
              refine ls_skip hF (wanted_n hF rfl rfl rfl rfl rfl) rfl rfl (fun a hF => ?_)
              refine ls_skip hF (wanted_n hF rfl rfl rfl rfl rfl) rfl rfl (fun a hF => ?_)
              refine ls hF hW rfl ((y_pick_t hF rfl rfl rfl).q) (fun a w hF hW => ?_)
              refine ls hF hW rfl ((y_move hF rfl).q) (fun a w hF hW => ?_)
              refine ls_skip hF (wanted_n hF rfl rfl rfl rfl rfl) rfl rfl (fun a hF => ?_)
              refine ls_skip hF (wanted_n hF rfl rfl rfl rfl rfl) rfl rfl (fun a hF => ?_)
              refine ls_skip hF (wanted_n hF rfl rfl rfl rfl rfl) rfl rfl (fun a hF => ?_)
              refine ls hF hW rfl ((y_pick_t hF rfl rfl rfl).q) (fun a w hF hW => ?_)
              refine ls_nil ?_
              refine c_then ?_
              exact ⟨hF.re ⟨rfl, rfl, rfl, rfl, rfl, (by show some (Value.bool true) = some (Value.bool (decide (x2.1 < 0) || (decide (p0 ≤ x2.1) || (decide (x2.2.1 < 0) || (decide (p0 ≤ x2.2.1) || (decide (x2.2.2 < (-1073741824)) || decide (1073741824 < x2.2.2))))))); try rw [hb1]; try rw [hb0]; all_goals simp only [Bool.not_true, Bool.not_false, Bool.true_and, Bool.false_and, Bool.true_or, Bool.false_or, Bool.and_true, Bool.or_false, cond_true, cond_false]), trivial⟩, hW⟩
            ·
              rw [hb1] at hF
              refine ls_w hF hW (wanted_y hF rfl rfl rfl rfl) rfl (Nat.le_of_ble_eq_true rfl) ((y_fieldAddr Try.underlying40 rfl rfl rfl T3 hF rfl 1 rfl).q) (fun a w hF hW => ?_)
              refine ls_w hF hW (wanted_y hF rfl rfl rfl rfl) rfl (Nat.le_of_ble_eq_true rfl) ((y_load (v := Value.int .i64 x2.2.1) 0 hF rfl rfl T3 rfl).q) (fun a w hF hW => ?_)
              refine ls_w hF hW (wanted_y hF rfl rfl rfl rfl) rfl (Nat.le_of_ble_eq_true rfl) ((y_lss hF rfl rfl).q) (fun a w hF hW => ?_)
              refine ls hF hW rfl ((y_pick_f hF rfl rfl rfl).q) (fun a w hF hW => ?_)
              refine ls hF hW rfl ((y_move hF rfl).q) (fun a w hF hW => ?_)
              rcases Bool.eq_false_or_eq_true (decide (x2.2.1 < 0)) with hb2 | hb2
              ·
                rw [hb2] at hF
                refine ls_skip hF (wanted_n hF rfl rfl rfl rfl rfl) rfl rfl (fun a hF => ?_)
                refine ls_skip hF (wanted_n hF rfl rfl rfl rfl rfl) rfl rfl (fun a hF => ?_)
                refine ls_skip hF (wanted_n hF rfl rfl rfl rfl rfl) rfl rfl (fun a hF => ?_)
                refine ls_skip hF (wanted_n hF rfl rfl rfl rfl rfl) rfl rfl (fun a hF => ?_)
                refine ls hF hW rfl ((y_pick_t hF rfl rfl rfl).q) (fun a w hF hW => ?_)
                refine ls hF hW rfl ((y_move hF rfl).q) (fun a w hF hW => ?_)
                refine ls_skip hF (wanted_n hF rfl rfl rfl rfl rfl) rfl rfl (fun a hF => ?_)
                refine ls_skip hF (wanted_n hF rfl rfl rfl rfl rfl) rfl rfl (fun a hF => ?_)
                refine ls_skip hF (wanted_n hF rfl rfl rfl rfl rfl) rfl rfl (fun a hF => ?_)
                refine ls hF hW rfl ((y_pick_t hF rfl rfl rfl).q) (fun a w hF hW => ?_)
                refine ls hF hW rfl ((y_move hF rfl).q) (fun a w hF hW => ?_)
                refine ls_skip hF (wanted_n hF rfl rfl rfl rfl rfl) rfl rfl (fun a hF => ?_)
                refine ls_skip hF (wanted_n hF rfl rfl rfl rfl rfl) rfl rfl (fun a hF => ?_)
                refine ls_skip hF (wanted_n hF rfl rfl rfl rfl rfl) rfl rfl (fun a hF => ?_)
                refine ls hF hW rfl ((y_pick_t hF rfl rfl rfl).q) (fun a w hF hW => ?_)
                refine ls_nil ?_
                refine c_then ?_
                exact ⟨hF.re ⟨rfl, rfl, rfl, rfl, rfl, (by show some (Value.bool true) = some (Value.bool (decide (x2.1 < 0) || (decide (p0 ≤ x2.1) || (decide (x2.2.1 < 0) || (decide (p0 ≤ x2.2.1) || (decide (x2.2.2 < (-1073741824)) || decide (1073741824 < x2.2.2))))))); try rw [hb2]; try rw [hb1]; try rw [hb0]; all_goals simp only [Bool.not_true, Bool.not_false, Bool.true_and, Bool.false_and, Bool.true_or, Bool.false_or, Bool.and_true, Bool.or_false, cond_true, cond_false]), trivial⟩, hW⟩
              ·
                rw [hb2] at hF
                refine ls_w hF hW (wanted_y hF rfl rfl rfl rfl) rfl (Nat.le_of_ble_eq_true rfl) ((y_fieldAddr Try.underlying40 rfl rfl rfl T3 hF rfl 1 rfl).q) (fun a w hF hW => ?_)
                refine ls_w hF hW (wanted_y hF rfl rfl rfl rfl) rfl (Nat.le_of_ble_eq_true rfl) ((y_load (v := Value.int .i64 x2.2.1) 0 hF rfl rfl T3 rfl).q) (fun a w hF hW => ?_)
                refine ls_w hF hW (wanted_y hF rfl rfl rfl rfl) rfl (Nat.le_of_ble_eq_true rfl) ((y_move hF rfl).q) (fun a w hF hW => ?_)
                refine ls_w hF hW (wanted_y hF rfl rfl rfl rfl) rfl (Nat.le_of_ble_eq_true rfl) ((y_geq hF rfl rfl).q) (fun a w hF hW => ?_)
                refine ls hF hW rfl ((y_pick_f hF rfl rfl rfl).q) (fun a w hF hW => ?_)
                refine ls hF hW rfl ((y_move hF rfl).q) (fun a w hF hW => ?_)
                rcases Bool.eq_false_or_eq_true (decide (p0 ≤ x2.2.1)) with hb3 | hb3
                ·
                  rw [hb3] at hF
                  refine ls_skip hF (wanted_n hF rfl rfl rfl rfl rfl) rfl rfl (fun a hF => ?_)
                  refine ls_skip hF (wanted_n hF rfl rfl rfl rfl rfl) rfl rfl (fun a hF => ?_)
                  refine ls_skip hF (wanted_n hF rfl rfl rfl rfl rfl) rfl rfl (fun a hF => ?_)
                  refine ls hF hW rfl ((y_pick_t hF rfl rfl rfl).q) (fun a w hF hW => ?_)
                  refine ls hF hW rfl ((y_move hF rfl).q) (fun a w hF hW => ?_)
                  refine ls_skip hF (wanted_n hF rfl rfl rfl rfl rfl) rfl rfl (fun a hF => ?_)
                  refine ls_skip hF (wanted_n hF rfl rfl rfl rfl rfl) rfl rfl (fun a hF => ?_)
                  refine ls_skip hF (wanted_n hF rfl rfl rfl rfl rfl) rfl rfl (fun a hF => ?_)
                  refine ls hF hW rfl ((y_pick_t hF rfl rfl rfl).q) (fun a w hF hW => ?_)
                  refine ls_nil ?_
                  refine c_then ?_
                  exact ⟨hF.re ⟨rfl, rfl, rfl, rfl, rfl, (by show some (Value.bool true) = some (Value.bool (decide (x2.1 < 0) || (decide (p0 ≤ x2.1) || (decide (x2.2.1 < 0) || (decide (p0 ≤ x2.2.1) || (decide (x2.2.2 < (-1073741824)) || decide (1073741824 < x2.2.2))))))); try rw [hb3]; try rw [hb2]; try rw [hb1]; try rw [hb0]; all_goals simp only [Bool.not_true, Bool.not_false, Bool.true_and, Bool.false_and, Bool.true_or, Bool.false_or, Bool.and_true, Bool.or_false, cond_true, cond_false]), trivial⟩, hW⟩
                ·
                  rw [hb3] at hF
                  refine ls_w hF hW (wanted_y hF rfl rfl rfl rfl) rfl (Nat.le_of_ble_eq_true rfl) ((y_fieldAddr Try.underlying40 rfl rfl rfl T3 hF rfl 2 rfl).q) (fun a w hF hW => ?_)
                  refine ls_w hF hW (wanted_y hF rfl rfl rfl rfl) rfl (Nat.le_of_ble_eq_true rfl) ((y_load (v := Value.int .i64 x2.2.2) 0 hF rfl rfl T3 rfl).q) (fun a w hF hW => ?_)
                  refine ls_w hF hW (wanted_y hF rfl rfl rfl rfl) rfl (Nat.le_of_ble_eq_true rfl) ((y_lss hF rfl rfl).q) (fun a w hF hW => ?_)
                  refine ls hF hW rfl ((y_pick_f hF rfl rfl rfl).q) (fun a w hF hW => ?_)
                  refine ls hF hW rfl ((y_move hF rfl).q) (fun a w hF hW => ?_)
                  rcases Bool.eq_false_or_eq_true (decide (x2.2.2 < (-1073741824))) with hb4 | hb4
                  ·
                    rw [hb4] at hF
                    refine ls_skip hF (wanted_n hF rfl rfl rfl rfl rfl) rfl rfl (fun a hF => ?_)
                    refine ls_skip hF (wanted_n hF rfl rfl rfl rfl rfl) rfl rfl (fun a hF => ?_)
                    refine ls_skip hF (wanted_n hF rfl rfl rfl rfl rfl) rfl rfl (fun a hF => ?_)
                    refine ls hF hW rfl ((y_pick_t hF rfl rfl rfl).q) (fun a w hF hW => ?_)
                    refine ls_nil ?_
                    refine c_then ?_
                    exact ⟨hF.re ⟨rfl, rfl, rfl, rfl, rfl, (by show some (Value.bool true) = some (Value.bool (decide (x2.1 < 0) || (decide (p0 ≤ x2.1) || (decide (x2.2.1 < 0) || (decide (p0 ≤ x2.2.1) || (decide (x2.2.2 < (-1073741824)) || decide (1073741824 < x2.2.2))))))); try rw [hb4]; try rw [hb3]; try rw [hb2]; try rw [hb1]; try rw [hb0]; all_goals simp only [Bool.not_true, Bool.not_false, Bool.true_and, Bool.false_and, Bool.true_or, Bool.false_or, Bool.and_true, Bool.or_false, cond_true, cond_false]), trivial⟩, hW⟩
                  ·
                    rw [hb4] at hF
                    refine ls_w hF hW (wanted_y hF rfl rfl rfl rfl) rfl (Nat.le_of_ble_eq_true rfl) ((y_fieldAddr Try.underlying40 rfl rfl rfl T3 hF rfl 2 rfl).q) (fun a w hF hW => ?_)
                    refine ls_w hF hW (wanted_y hF rfl rfl rfl rfl) rfl (Nat.le_of_ble_eq_true rfl) ((y_load (v := Value.int .i64 x2.2.2) 0 hF rfl rfl T3 rfl).q) (fun a w hF hW => ?_)
                    refine ls_w hF hW (wanted_y hF rfl rfl rfl rfl) rfl (Nat.le_of_ble_eq_true rfl) ((y_gtr hF rfl rfl).q) (fun a w hF hW => ?_)
                    refine ls hF hW rfl ((y_pick_f hF rfl rfl rfl).q) (fun a w hF hW => ?_)
                    refine ls_nil ?_
                    refine c_then ?_
                    exact ⟨hF.re ⟨rfl, rfl, rfl, rfl, rfl, (by show some (Value.bool (decide (1073741824 < x2.2.2))) = some (Value.bool (decide (x2.1 < 0) || (decide (p0 ≤ x2.1) || (decide (x2.2.1 < 0) || (decide (p0 ≤ x2.2.1) || (decide (x2.2.2 < (-1073741824)) || decide (1073741824 < x2.2.2))))))); try rw [hb4]; try rw [hb3]; try rw [hb2]; try rw [hb1]; try rw [hb0]; all_goals simp only [Bool.not_true, Bool.not_false, Bool.true_and, Bool.false_and, Bool.true_or, Bool.false_or, Bool.and_true, Bool.or_false, cond_true, cond_false]), trivial⟩, hW⟩
        rintro a w ⟨hF, hW⟩
        refine c_cond hF rfl (fun hb => ?_) (fun hb => ?_)
        ·
          have H := iteT hb H
          rw [hb] at hF
          clear hb
          refine c_seq ?_
          refine reg_list ?_
          refine ls hF hW rfl ((y_assign hF rfl).q) (fun a w hF hW => ?_)
          refine ls_nil ?_
          refine c_then ?_
          refine wp_ret ?_
          refine r_block ?_
          refine r_then ?_
          refine r_then ?_
          refine r_block ?_
          refine r_then ?_
          have H := L2 _ H
          have H := L1 _ H
          have H := Option.some.inj H
          subst H
          refine post1 (.inl rfl) hF hW rfl (rv_tmp hF rfl) ?_
          exact ⟨rfl, hW.done⟩
        ·
          have H := iteF (by rw [hb]; decide) H
          rw [hb] at hF
          clear hb
          refine wp_skip ?_
          refine b_normal ?_
          refine c_then ?_
          refine reg_list ?_
          refine ls hF hW rfl ((y_add hF rfl rfl rfl).q) (fun a w hF hW => ?_)
          refine ls hF hW rfl ((y_move hF rfl).q) (fun a w hF hW => ?_)
          refine ls_nil ?_
          refine c_then ?_
          have hW := hW.sub (M' := []) (Z' := []) (List.nil_sublist _) (List.Sublist.refl _)
          exact ⟨_, H, hF.re ⟨rfl, rfl, rfl, rfl, rfl, trivial⟩, hW⟩
      ·
        have H := iteF (of_decide_eq_false hb) H
        rw [hb] at hF
        clear hb
        refine wp_exit ?_
        refine e_then ?_
        refine e_then ?_
        refine e_block ?_
        refine c_then ?_
        have H := L2 _ H
        exact ⟨H, hF.re ⟨rfl, trivial⟩, hW⟩
    rintro a w ⟨hj, hF, hW⟩
    have H := K1 _ hj
    clear hj G1 K1 L1
    refine c_seq ?_
    refine reg_list ?_
    refine ls hF hW rfl ((y_assign hF rfl).q) (fun a w hF hW => ?_)
    refine ls_nil ?_
    refine c_then ?_
    refine wp_ret ?_
    have H := Option.some.inj H
    subst H
    refine post1 (.inl rfl) hF hW rfl (rv_tmp hF rfl) ?_
    exact ⟨rfl, hW.done⟩

theorem H10 : Has Try.prog 10 := ⟨fun args w => run_callFunc_body Try.func10 rfl (by decide) args w⟩
theorem Z42 : (Try.prog.info? 42).bind (·.zero) = some (.agg #[.slice none 0 0, .slice none 0 0, .int .i64 0]) := by kernel_rfl
theorem MO : Try.prog.follows .mixedOrders = true := by kernel_rfl
theorem L23 : Et Try.prog 23 3 1 8 := Et.of Try.underlying23 (by kernel_rfl) (by kernel_rfl) (by kernel_rfl) (by decide)
theorem Z3 : (Try.prog.info? 3).bind (·.zero) = some (.int .i64 0) := by kernel_rfl
theorem B42 : Bt Try.prog 42 [.slice none 0 0, .slice none 0 0, .int .i64 0] [(0, 1), (1, 1), (2, 1)] := ⟨⟨.agg #[.slice none 0 0, .slice none 0 0, .int .i64 0], by kernel_rfl, rfl⟩, ⟨_, Try.underlying42, fun w => by kernel_rfl⟩⟩
theorem T42 : Ty Try.prog 42 true 3 := ⟨by kernel_rfl, by kernel_rfl⟩
theorem T23 : Ty Try.prog 23 false 1 := ⟨by kernel_rfl, by kernel_rfl⟩
noncomputable def diff_solve_l2 (p0 : Int) (p1 : List (Int × Int × Int)) (x6 : Int) : (Bool × Int × List Int × List Int) → Option ((Bool × Int × List Int × List Int) ⊕ ((Bool × List Int × List Int) ⊕ ((List Int × List Int) ⊕ ((Int × List Int × List Int) ⊕ (List Int × List Int × Int)))))
  | (x14, x15, x16, x17) => (if x15 < (p1.length : Int) then orR ((ix p1 x15).bind fun x21 => (ix x16 x21.1).bind fun x22 => (ix x16 x21.2.1).bind fun x23 => (if (w64 (x22 + x21.2.2)) ≤ x23 then some (.inl (x14, x16, x17)) else (ix x16 x21.2.1).bind fun x24 => (ix x17 x21.2.1).bind fun x25 => (if x6 = p0 then some (.inr (.inr (.inr (.inr (.inr ((setAt x16 x21.2.1 (w64 (x22 + x21.2.2))), (setAt x17 x21.2.1 x15), x21.2.1)))))) else some (.inl (true, (setAt x16 x21.2.1 (w64 (x22 + x21.2.2))), (setAt x17 x21.2.1 x15)))))) fun (x18, x19, x20) => some (.inl (x18, w64 (x15 + 1), x19, x20)) else some (.inr (.inl (x14, x16, x17))))
noncomputable def diff_solve_l1 (p0 : Int) (p1 : List (Int × Int × Int)) : (Int × List Int × List Int) → Option ((Int × List Int × List Int) ⊕ (List Int × List Int × Int))
  | (x6, x7, x8) => orR (orR (loopW (diff_solve_l2 p0 p1 x6) (false, 0, x7, x8)) fun (x11, x12, x13) => (if (!x11) = true then some (.inr (.inr (x12, x13, (-1)))) else some (.inl (x12, x13)))) fun (x9, x10) => some (.inl (w64 (x6 + 1), x9, x10))
noncomputable def diff_solve (p0 : Int) (p1 : List (Int × Int × Int)) : Option (List Int × List Int × Int) := (mk p0 (0 : Int)).bind fun x1 => (mk p0 (0 : Int)).bind fun x2 => (loopW (diff_solve_l1 p0 p1) (1, x1, x2)).bind fun (x3, x4, x5) => some (x3, x4, x5)
theorem diff_solve_c (Y : Nat → Prop) (w0 : World) (v1 : Value) (p0 : Int) (p1 : List (Int × Int × Int)) (r : (List Int × List Int × Int)) (H : diff_solve p0 p1 = some r) (h_v1 : Sl w0 (NX []) R40 v1 p1) :
    Calls Try.prog 17 #[.int .i64 p0, v1] w0 fun e w' => ∃ x : Value × Value, e = .returned (.agg #[x.1, x.2, .int .i64 r.2.2]) ∧ Stw ⟨Y, [], w0⟩ [] [row (x.1) 3 (Rp.int .i64) r.1, row (x.2) 3 (Rp.int .i64) r.2.1] w' := by
  refine enter Try.func17 rfl Try.ntmps17 rfl (fun a hF => ?_)
  have hW := Stw.start Y w0
  unfold diff_solve at H
  refine c_seq ?_
  refine reg_list ?_
  refine l_alloc (cs := [.slice none 0 0, .slice none 0 0, .int .i64 0]) hF hW rfl Z42 rfl (fun b1 a w hF hW => ?_)
  refine ls_nil ?_
  refine c_then ?_
  refine wp_scope_straight ?_
  refine c_seq ?_
  obtain ⟨x1, h1, H⟩ := bindE H
  obtain ⟨x2, h2, H⟩ := bindE H
  refine wp_oneQ (fun a w => ∃ b2 : Nat, ∃ v2 : Value, ∃ v3 : Value, Fr 64 [] [(0, .int .i64 p0), (1, v1), (4, .pointer (some ⟨b1, 0, none⟩)), (5, .pointer (some ⟨b2, 0, none⟩)), (11, .int .i64 p0), (12, v2), (13, .int .i64 p0), (14, v3), (15, .agg #[v2, v3, .int .i64 (-1)])] a ∧ Stw ⟨Y, [], w0⟩ [(b2, [v2, v3, .int .i64 (-1)]), (b1, [.slice none 0 0, .slice none 0 0, .int .i64 0])] [row v3 3 (Rp.int .i64) x2, row v2 3 (Rp.int .i64) x1] w) ?_ ?_
  ·
    refine reg_tree (PT.st 0 (PT.st 2 (PT.alt 1 (PT.alt 3 (PT.st 4 (PT.alt 5 (PT.alt 6 PT.done PT.stop) PT.stop)) (PT.alt 5 (PT.alt 3 (PT.st 4 (PT.alt 6 PT.done PT.stop)) PT.stop) PT.stop)) (PT.alt 3 (PT.alt 1 (PT.st 4 (PT.alt 5 (PT.alt 6 PT.done PT.stop) PT.stop)) (PT.alt 5 (PT.alt 1 (PT.st 4 (PT.alt 6 PT.done PT.stop)) PT.stop) PT.stop)) (PT.alt 5 (PT.alt 1 (PT.alt 3 (PT.st 4 (PT.alt 6 PT.done PT.stop)) PT.stop) (PT.alt 3 (PT.alt 1 (PT.st 4 (PT.alt 6 PT.done PT.stop)) PT.stop) PT.stop)) PT.stop))))) (CN ⟨Y, [], w0⟩ [] []) (fun ch a d v w h => by cases d <;> exact h) MO (by kernel_rfl) hW (fun w hW => ⟨_, _, hW, all_nil, all_nil⟩) (fun w hW => ?_)
    refine pt_t (R := []) hF rfl rfl (yC fun M Z hN hZ => y_move hF rfl) rfl rfl (fun a hF => ?_)
    refine pt_t (R := []) hF rfl rfl (yC fun M Z hN hZ => y_move hF rfl) rfl rfl (fun a hF => ?_)
    refine pt_f rfl ?_ ?_
    ·
      refine l_make (r := (Rp.int .i64)) (0 : Int) hF hW rfl L23 Z3 rfl rfl (fun w A => Fl.int.mk' w A _) h1 rfl (fun v2 a w hF hW => ?_)
      refine pt_next (N2 := []) (NZ2 := []) (N3 := []) (NZ3 := []) hW rfl rfl all_nil all_nil ?_
      refine pt_f rfl ?_ ?_
      ·
        refine l_make (r := (Rp.int .i64)) (0 : Int) hF hW rfl L23 Z3 rfl rfl (fun w A => Fl.int.mk' w A _) h2 rfl (fun v3 a w hF hW => ?_)
        refine pt_next (N2 := []) (NZ2 := []) (N3 := []) (NZ3 := []) hW rfl rfl all_nil all_nil ?_
        refine pt_t (R := []) hF rfl rfl (yC fun M Z hN hZ => y_build (v := Value.agg #[v2, v3, .int .i64 (-1)]) B42 hF rfl (fill_cons rfl (cells_one (hW.one (k := 1) rfl)) rfl (fill_cons rfl (cells_one (hW.one (k := 0) rfl)) rfl (fill_cons rfl rfl rfl fill_nil))) rfl) rfl rfl (fun a hF => ?_)
        refine pt_f1 rfl ?_
        refine l_alloc (cs := [.slice none 0 0, .slice none 0 0, .int .i64 0]) hF hW rfl Z42 rfl (fun b2 a w hF hW => ?_)
        refine pt_next (N2 := []) (NZ2 := []) (N3 := []) (NZ3 := []) hW rfl rfl all_nil all_nil ?_
        refine pt_f1 rfl ?_
        refine l_store (vs := [v2, v3, .int .i64 (-1)]) (M' := [(b2, [v2, v3, .int .i64 (-1)]), (b1, [.slice none 0 0, .slice none 0 0, .int .i64 0])]) 0 hF hW rfl rfl rfl T42 rfl rfl rfl (one_cons (hW.one (k := 1) rfl) (one_cons (hW.one (k := 0) rfl) (one_cons rfl one_nil))) rfl (fun w hW => ?_)
        refine pt_next (N2 := []) (NZ2 := []) (N3 := []) (NZ3 := []) hW rfl rfl all_nil all_nil ?_
        have hW := hW.frontZ (i := 1) rfl rfl
        have hW := hW.frontZ (i := 1) rfl rfl
        have hW := hW.frontM (i := 1) rfl rfl
        have hW := hW.frontM (i := 1) rfl rfl
        refine pt_end ?_
        exact ⟨b2, v2, v3, hF.re ⟨rfl, rfl, rfl, rfl, rfl, rfl, rfl, rfl, rfl, trivial⟩, hW⟩
      refine pt_f rfl ?_ ?_
      ·
        refine l_alloc (cs := [.slice none 0 0, .slice none 0 0, .int .i64 0]) hF hW rfl Z42 rfl (fun b2 a w hF hW => ?_)
        refine pt_next (N2 := []) (NZ2 := []) (N3 := []) (NZ3 := []) hW rfl rfl all_nil all_nil ?_
        refine pt_f1 rfl ?_
        refine l_make (r := (Rp.int .i64)) (0 : Int) hF hW rfl L23 Z3 rfl rfl (fun w A => Fl.int.mk' w A _) h2 rfl (fun v3 a w hF hW => ?_)
        refine pt_next (N2 := []) (NZ2 := []) (N3 := []) (NZ3 := []) hW rfl rfl all_nil all_nil ?_
        refine pt_t (R := []) hF rfl rfl (yC fun M Z hN hZ => y_build (v := Value.agg #[v2, v3, .int .i64 (-1)]) B42 hF rfl (fill_cons rfl (cells_one (hW.one (k := 1) rfl)) rfl (fill_cons rfl (cells_one (hW.one (k := 0) rfl)) rfl (fill_cons rfl rfl rfl fill_nil))) rfl) rfl rfl (fun a hF => ?_)
        refine pt_f1 rfl ?_
        refine l_store (vs := [v2, v3, .int .i64 (-1)]) (M' := [(b2, [v2, v3, .int .i64 (-1)]), (b1, [.slice none 0 0, .slice none 0 0, .int .i64 0])]) 0 hF hW rfl rfl rfl T42 rfl rfl rfl (one_cons (hW.one (k := 1) rfl) (one_cons (hW.one (k := 0) rfl) (one_cons rfl one_nil))) rfl (fun w hW => ?_)
        refine pt_next (N2 := []) (NZ2 := []) (N3 := []) (NZ3 := []) hW rfl rfl all_nil all_nil ?_
        have hW := hW.frontZ (i := 1) rfl rfl
        have hW := hW.frontZ (i := 1) rfl rfl
        have hW := hW.frontM (i := 1) rfl rfl
        have hW := hW.frontM (i := 1) rfl rfl
        refine pt_end ?_
        exact ⟨b2, v2, v3, hF.re ⟨rfl, rfl, rfl, rfl, rfl, rfl, rfl, rfl, rfl, trivial⟩, hW⟩
      exact trivial
    refine pt_f rfl ?_ ?_
    ·
      refine l_make (r := (Rp.int .i64)) (0 : Int) hF hW rfl L23 Z3 rfl rfl (fun w A => Fl.int.mk' w A _) h2 rfl (fun v3 a w hF hW => ?_)
      refine pt_next (N2 := []) (NZ2 := []) (N3 := []) (NZ3 := []) hW rfl rfl all_nil all_nil ?_
      refine pt_f rfl ?_ ?_
      ·
        refine l_make (r := (Rp.int .i64)) (0 : Int) hF hW rfl L23 Z3 rfl rfl (fun w A => Fl.int.mk' w A _) h1 rfl (fun v2 a w hF hW => ?_)
        refine pt_next (N2 := []) (NZ2 := []) (N3 := []) (NZ3 := []) hW rfl rfl all_nil all_nil ?_
        refine pt_t (R := []) hF rfl rfl (yC fun M Z hN hZ => y_build (v := Value.agg #[v2, v3, .int .i64 (-1)]) B42 hF rfl (fill_cons rfl (cells_one (hW.one (k := 0) rfl)) rfl (fill_cons rfl (cells_one (hW.one (k := 1) rfl)) rfl (fill_cons rfl rfl rfl fill_nil))) rfl) rfl rfl (fun a hF => ?_)
        refine pt_f1 rfl ?_
        refine l_alloc (cs := [.slice none 0 0, .slice none 0 0, .int .i64 0]) hF hW rfl Z42 rfl (fun b2 a w hF hW => ?_)
        refine pt_next (N2 := []) (NZ2 := []) (N3 := []) (NZ3 := []) hW rfl rfl all_nil all_nil ?_
        refine pt_f1 rfl ?_
        refine l_store (vs := [v2, v3, .int .i64 (-1)]) (M' := [(b2, [v2, v3, .int .i64 (-1)]), (b1, [.slice none 0 0, .slice none 0 0, .int .i64 0])]) 0 hF hW rfl rfl rfl T42 rfl rfl rfl (one_cons (hW.one (k := 0) rfl) (one_cons (hW.one (k := 1) rfl) (one_cons rfl one_nil))) rfl (fun w hW => ?_)
        refine pt_next (N2 := []) (NZ2 := []) (N3 := []) (NZ3 := []) hW rfl rfl all_nil all_nil ?_
        have hW := hW.frontZ (i := 1) rfl rfl
        have hW := hW.frontM (i := 1) rfl rfl
        have hW := hW.frontM (i := 1) rfl rfl
        refine pt_end ?_
        exact ⟨b2, v2, v3, hF.re ⟨rfl, rfl, rfl, rfl, rfl, rfl, rfl, rfl, rfl, trivial⟩, hW⟩
      refine pt_f rfl ?_ ?_
      ·
        refine l_alloc (cs := [.slice none 0 0, .slice none 0 0, .int .i64 0]) hF hW rfl Z42 rfl (fun b2 a w hF hW => ?_)
        refine pt_next (N2 := []) (NZ2 := []) (N3 := []) (NZ3 := []) hW rfl rfl all_nil all_nil ?_
        refine pt_f1 rfl ?_
        refine l_make (r := (Rp.int .i64)) (0 : Int) hF hW rfl L23 Z3 rfl rfl (fun w A => Fl.int.mk' w A _) h1 rfl (fun v2 a w hF hW => ?_)
        refine pt_next (N2 := []) (NZ2 := []) (N3 := []) (NZ3 := []) hW rfl rfl all_nil all_nil ?_
        refine pt_t (R := []) hF rfl rfl (yC fun M Z hN hZ => y_build (v := Value.agg #[v2, v3, .int .i64 (-1)]) B42 hF rfl (fill_cons rfl (cells_one (hW.one (k := 0) rfl)) rfl (fill_cons rfl (cells_one (hW.one (k := 1) rfl)) rfl (fill_cons rfl rfl rfl fill_nil))) rfl) rfl rfl (fun a hF => ?_)
        refine pt_f1 rfl ?_
        refine l_store (vs := [v2, v3, .int .i64 (-1)]) (M' := [(b2, [v2, v3, .int .i64 (-1)]), (b1, [.slice none 0 0, .slice none 0 0, .int .i64 0])]) 0 hF hW rfl rfl rfl T42 rfl rfl rfl (one_cons (hW.one (k := 0) rfl) (one_cons (hW.one (k := 1) rfl) (one_cons rfl one_nil))) rfl (fun w hW => ?_)
        refine pt_next (N2 := []) (NZ2 := []) (N3 := []) (NZ3 := []) hW rfl rfl all_nil all_nil ?_
        have hW := hW.frontZ (i := 1) rfl rfl
        have hW := hW.frontM (i := 1) rfl rfl
        have hW := hW.frontM (i := 1) rfl rfl
        refine pt_end ?_
        exact ⟨b2, v2, v3, hF.re ⟨rfl, rfl, rfl, rfl, rfl, rfl, rfl, rfl, rfl, trivial⟩, hW⟩
      exact trivial
    refine pt_f rfl ?_ ?_
    ·
      refine l_alloc (cs := [.slice none 0 0, .slice none 0 0, .int .i64 0]) hF hW rfl Z42 rfl (fun b2 a w hF hW => ?_)
      refine pt_next (N2 := []) (NZ2 := []) (N3 := []) (NZ3 := []) hW rfl rfl all_nil all_nil ?_
      refine pt_f rfl ?_ ?_
      ·
        refine l_make (r := (Rp.int .i64)) (0 : Int) hF hW rfl L23 Z3 rfl rfl (fun w A => Fl.int.mk' w A _) h1 rfl (fun v2 a w hF hW => ?_)
        refine pt_next (N2 := []) (NZ2 := []) (N3 := []) (NZ3 := []) hW rfl rfl all_nil all_nil ?_
        refine pt_f1 rfl ?_
        refine l_make (r := (Rp.int .i64)) (0 : Int) hF hW rfl L23 Z3 rfl rfl (fun w A => Fl.int.mk' w A _) h2 rfl (fun v3 a w hF hW => ?_)
        refine pt_next (N2 := []) (NZ2 := []) (N3 := []) (NZ3 := []) hW rfl rfl all_nil all_nil ?_
        refine pt_t (R := []) hF rfl rfl (yC fun M Z hN hZ => y_build (v := Value.agg #[v2, v3, .int .i64 (-1)]) B42 hF rfl (fill_cons rfl (cells_one (hW.one (k := 1) rfl)) rfl (fill_cons rfl (cells_one (hW.one (k := 0) rfl)) rfl (fill_cons rfl rfl rfl fill_nil))) rfl) rfl rfl (fun a hF => ?_)
        refine pt_f1 rfl ?_
        refine l_store (vs := [v2, v3, .int .i64 (-1)]) (M' := [(b2, [v2, v3, .int .i64 (-1)]), (b1, [.slice none 0 0, .slice none 0 0, .int .i64 0])]) 0 hF hW rfl rfl rfl T42 rfl rfl rfl (one_cons (hW.one (k := 1) rfl) (one_cons (hW.one (k := 0) rfl) (one_cons rfl one_nil))) rfl (fun w hW => ?_)
        refine pt_next (N2 := []) (NZ2 := []) (N3 := []) (NZ3 := []) hW rfl rfl all_nil all_nil ?_
        have hW := hW.frontZ (i := 1) rfl rfl
        have hW := hW.frontZ (i := 1) rfl rfl
        have hW := hW.frontM (i := 1) rfl rfl
        have hW := hW.frontM (i := 1) rfl rfl
        refine pt_end ?_
        exact ⟨b2, v2, v3, hF.re ⟨rfl, rfl, rfl, rfl, rfl, rfl, rfl, rfl, rfl, trivial⟩, hW⟩
      refine pt_f rfl ?_ ?_
      ·
        refine l_make (r := (Rp.int .i64)) (0 : Int) hF hW rfl L23 Z3 rfl rfl (fun w A => Fl.int.mk' w A _) h2 rfl (fun v3 a w hF hW => ?_)
        refine pt_next (N2 := []) (NZ2 := []) (N3 := []) (NZ3 := []) hW rfl rfl all_nil all_nil ?_
        refine pt_f1 rfl ?_
        refine l_make (r := (Rp.int .i64)) (0 : Int) hF hW rfl L23 Z3 rfl rfl (fun w A => Fl.int.mk' w A _) h1 rfl (fun v2 a w hF hW => ?_)
        refine pt_next (N2 := []) (NZ2 := []) (N3 := []) (NZ3 := []) hW rfl rfl all_nil all_nil ?_
        refine pt_t (R := []) hF rfl rfl (yC fun M Z hN hZ => y_build (v := Value.agg #[v2, v3, .int .i64 (-1)]) B42 hF rfl (fill_cons rfl (cells_one (hW.one (k := 0) rfl)) rfl (fill_cons rfl (cells_one (hW.one (k := 1) rfl)) rfl (fill_cons rfl rfl rfl fill_nil))) rfl) rfl rfl (fun a hF => ?_)
        refine pt_f1 rfl ?_
        refine l_store (vs := [v2, v3, .int .i64 (-1)]) (M' := [(b2, [v2, v3, .int .i64 (-1)]), (b1, [.slice none 0 0, .slice none 0 0, .int .i64 0])]) 0 hF hW rfl rfl rfl T42 rfl rfl rfl (one_cons (hW.one (k := 0) rfl) (one_cons (hW.one (k := 1) rfl) (one_cons rfl one_nil))) rfl (fun w hW => ?_)
        refine pt_next (N2 := []) (NZ2 := []) (N3 := []) (NZ3 := []) hW rfl rfl all_nil all_nil ?_
        have hW := hW.frontZ (i := 1) rfl rfl
        have hW := hW.frontM (i := 1) rfl rfl
        have hW := hW.frontM (i := 1) rfl rfl
        refine pt_end ?_
        exact ⟨b2, v2, v3, hF.re ⟨rfl, rfl, rfl, rfl, rfl, rfl, rfl, rfl, rfl, trivial⟩, hW⟩
      exact trivial
    exact trivial
  rintro a w ⟨b2, v2, v3, hF, hW⟩
  refine c_then ?_
  refine c_seq ?_
  refine wp_label ?_
  refine c_then ?_
  obtain ⟨o1, G1, K1⟩ := bindE H
  refine c_seqJ (fun a w => ∃ x3 : List Int, ∃ x4 : List Int, ∃ x5 : Int, some ((x3, x4, x5)) = some o1 ∧ Fr 64 [] [(4, .pointer (some ⟨b1, 0, none⟩)), (5, .pointer (some ⟨b2, 0, none⟩))] a ∧ Stw ⟨Y, [], w0⟩ [(b2, [v2, v3, .int .i64 x5]), (b1, [.slice none 0 0, .slice none 0 0, .int .i64 0])] [row v2 3 (Rp.int .i64) x3, row v3 3 (Rp.int .i64) x4] w) ?_ ?_
  ·
    have H := G1
    clear G1 K1
    refine c_seq ?_
    refine reg_list ?_
    refine ls hF hW rfl ((y_assign hF rfl).q) (fun a w hF hW => ?_)
    refine ls_nil ?_
    refine c_then ?_
    refine wp_block ?_
    have hW := hW.frontZ (i := 1) rfl rfl
    have hW := hW.frontM (i := 1) rfl rfl
    have hW := hW.frontM (i := 1) rfl rfl
    refine c_loopW H (fun s a w => Fr 64 [] [(0, .int .i64 p0), (1, v1), (4, .pointer (some ⟨b1, 0, none⟩)), (5, .pointer (some ⟨b2, 0, none⟩)), (6, .int .i64 s.1)] a ∧ Stw ⟨Y, [], w0⟩ [(b2, [v2, v3, .int .i64 (-1)]), (b1, [.slice none 0 0, .slice none 0 0, .int .i64 0])] [row v2 3 (Rp.int .i64) s.2.1, row v3 3 (Rp.int .i64) s.2.2] w) ⟨hF.re ⟨rfl, rfl, rfl, rfl, rfl, trivial⟩, hW⟩ (fun s o a w H L2 hR => ?_)
    obtain ⟨x6, x7, x8⟩ := s
    obtain ⟨hF, hW⟩ := hR
    have hF : Fr 64 [] [(0, .int .i64 p0), (1, v1), (4, .pointer (some ⟨b1, 0, none⟩)), (5, .pointer (some ⟨b2, 0, none⟩)), (6, .int .i64 x6)] a := hF
    have hW : Stw ⟨Y, [], w0⟩ [(b2, [v2, v3, .int .i64 (-1)]), (b1, [.slice none 0 0, .slice none 0 0, .int .i64 0])] [row v2 3 (Rp.int .i64) x7, row v3 3 (Rp.int .i64) x8] w := hW
    rw [diff_solve_l1] at H
    obtain ⟨o3, G3, K3, L3⟩ := orE H
    refine c_seqJ (fun a w => ∃ x9 : List Int, ∃ x10 : List Int, some (Sum.inl (x9, x10)) = some o3 ∧ Fr 64 [] [(0, .int .i64 p0), (1, v1), (4, .pointer (some ⟨b1, 0, none⟩)), (5, .pointer (some ⟨b2, 0, none⟩)), (6, .int .i64 x6)] a ∧ Stw ⟨Y, [], w0⟩ [(b2, [v2, v3, .int .i64 (-1)]), (b1, [.slice none 0 0, .slice none 0 0, .int .i64 0])] [row v2 3 (Rp.int .i64) x9, row v3 3 (Rp.int .i64) x10] w) ?_ ?_
    ·
      have H := G3
      clear G3 K3
      refine wp_block ?_
      refine c_seq ?_
      refine reg_list ?_
      refine ls hF hW rfl ((y_assign hF rfl).q) (fun a w hF hW => ?_)
      refine ls_nil ?_
      refine c_then ?_
      obtain ⟨o4, G4, K4, L4⟩ := orE H
      refine c_seqJ (fun a w => ∃ x11 : Bool, ∃ x12 : List Int, ∃ x13 : List Int, some (Sum.inl (x11, x12, x13)) = some o4 ∧ Fr 64 [] [(0, .int .i64 p0), (1, v1), (4, .pointer (some ⟨b1, 0, none⟩)), (5, .pointer (some ⟨b2, 0, none⟩)), (6, .int .i64 x6), (7, .bool x11)] a ∧ Stw ⟨Y, [], w0⟩ [(b2, [v2, v3, .int .i64 (-1)]), (b1, [.slice none 0 0, .slice none 0 0, .int .i64 0])] [row v2 3 (Rp.int .i64) x12, row v3 3 (Rp.int .i64) x13] w) ?_ ?_
      ·
        have H := G4
        clear G4 K4
        refine c_seq ?_
        refine reg_list ?_
        refine ls hF hW rfl ((y_move hF rfl).q) (fun a w hF hW => ?_)
        refine ls hF hW rfl ((y_len (r := R40) (l := p1) Try.underlying25 rfl hF rfl (rdc_ro h_v1)).q) (fun a w hF hW => ?_)
        refine ls hF hW rfl ((y_move hF rfl).q) (fun a w hF hW => ?_)
        refine ls_nil ?_
        refine c_then ?_
        refine wp_block ?_
        have hW := hW.frontZ (i := 1) rfl rfl
        have hW := hW.frontZ (i := 1) rfl rfl
        have hW := hW.frontM (i := 1) rfl rfl
        have hW := hW.frontM (i := 1) rfl rfl
        refine c_loopW H (fun s a w => Fr 64 [] [(0, .int .i64 p0), (1, v1), (4, .pointer (some ⟨b1, 0, none⟩)), (5, .pointer (some ⟨b2, 0, none⟩)), (6, .int .i64 x6), (7, .bool s.1), (18, v1), (19, .int .i64 (p1.length : Int)), (20, .int .i64 s.2.1)] a ∧ Stw ⟨Y, [], w0⟩ [(b2, [v2, v3, .int .i64 (-1)]), (b1, [.slice none 0 0, .slice none 0 0, .int .i64 0])] [row v2 3 (Rp.int .i64) s.2.2.1, row v3 3 (Rp.int .i64) s.2.2.2] w) ⟨hF.re ⟨rfl, rfl, rfl, rfl, rfl, rfl, rfl, rfl, rfl, trivial⟩, hW⟩ (fun s o a w H L5 hR => ?_)
        obtain ⟨x14, x15, x16, x17⟩ := s
        obtain ⟨hF, hW⟩ := hR
        have hF : Fr 64 [] [(0, .int .i64 p0), (1, v1), (4, .pointer (some ⟨b1, 0, none⟩)), (5, .pointer (some ⟨b2, 0, none⟩)), (6, .int .i64 x6), (7, .bool x14), (18, v1), (19, .int .i64 (p1.length : Int)), (20, .int .i64 x15)] a := hF
        have hW : Stw ⟨Y, [], w0⟩ [(b2, [v2, v3, .int .i64 (-1)]), (b1, [.slice none 0 0, .slice none 0 0, .int .i64 0])] [row v2 3 (Rp.int .i64) x16, row v3 3 (Rp.int .i64) x17] w := hW
        rw [diff_solve_l2] at H
        refine c_seq ?_
        refine reg_list ?_
        refine ls hF hW rfl ((y_lss hF rfl rfl).q) (fun a w hF hW => ?_)
        refine ls_nil ?_
        refine c_then ?_
        refine c_seq ?_
        refine c_cond hF rfl (fun hb => ?_) (fun hb => ?_)
        ·
          have H := iteT (of_decide_eq_true hb) H
          rw [hb] at hF
          clear hb
          refine wp_skip ?_
          refine c_then ?_
          obtain ⟨o6, G6, K6, L6⟩ := orE H
          refine c_seqJ (fun a w => ∃ x18 : Bool, ∃ x19 : List Int, ∃ x20 : List Int, some (Sum.inl (x18, x19, x20)) = some o6 ∧ Fr 64 [] [(0, .int .i64 p0), (1, v1), (4, .pointer (some ⟨b1, 0, none⟩)), (5, .pointer (some ⟨b2, 0, none⟩)), (6, .int .i64 x6), (7, .bool x18), (18, v1), (19, .int .i64 (p1.length : Int)), (20, .int .i64 x15)] a ∧ Stw ⟨Y, [], w0⟩ [(b2, [v2, v3, .int .i64 (-1)]), (b1, [.slice none 0 0, .slice none 0 0, .int .i64 0])] [row v2 3 (Rp.int .i64) x19, row v3 3 (Rp.int .i64) x20] w) ?_ ?_
          ·
            have H := G6
            clear G6 K6
            refine wp_block ?_
            refine c_seq ?_
            refine reg_list ?_
            refine ls hF hW rfl ((y_move hF rfl).q) (fun a w hF hW => ?_)
            obtain ⟨x21, h3, H⟩ := bindE H
            refine ls hF hW rfl ((y_index (r := R40) L25 hF rfl rfl (rdc_ro h_v1) h3).q) (fun a w hF hW => ?_)
            refine ls hF hW rfl ((y_load_el (y := Value.agg #[.int .i64 x21.1, .int .i64 x21.2.1, .int .i64 x21.2.2]) (j := 0) (i := x15) hF rfl rfl (rdc_ro h_v1) h3 F40.to T40 rfl).q) (fun a w hF hW => ?_)
            refine l_alloc (cs := [.int .i64 0, .int .i64 0, .int .i64 0]) hF hW rfl Z40 rfl (fun b3 a w hF hW => ?_)
            refine ls hF hW rfl ((y_assign hF rfl).q) (fun a w hF hW => ?_)
            refine l_store (vs := [.int .i64 x21.1, .int .i64 x21.2.1, .int .i64 x21.2.2]) (M' := [(b3, [.int .i64 x21.1, .int .i64 x21.2.1, .int .i64 x21.2.2]), (b2, [v2, v3, .int .i64 (-1)]), (b1, [.slice none 0 0, .slice none 0 0, .int .i64 0])]) 0 hF hW rfl rfl rfl T40 rfl rfl rfl rfl rfl (fun w hW => ?_)
            refine ls_nil ?_
            refine c_then ?_
            refine c_seq ?_
            refine reg_quiet hW MO (by kernel_rfl) ?_
            refine qs hF rfl ((y_fieldAddr Try.underlying42 rfl rfl rfl T23 hF rfl 0 rfl).q) (fun a hF => ?_)
            refine qs hF rfl ((y_load (v := v2) 1 hF rfl rfl T23 rfl).q) (fun a hF => ?_)
            refine qs hF rfl ((y_fieldAddr Try.underlying40 rfl rfl rfl T3 hF rfl 0 rfl).q) (fun a hF => ?_)
            refine qs hF rfl ((y_load (v := Value.int .i64 x21.1) 0 hF rfl rfl T3 rfl).q) (fun a hF => ?_)
            obtain ⟨x22, h4, H⟩ := bindE H
            refine qs hF rfl ((y_index (r := (Rp.int .i64)) L23 hF rfl rfl (rdc_row 0 rfl) h4).q) (fun a hF => ?_)
            refine qs hF rfl ((y_load_el (y := Value.int .i64 x22) (j := 0) (i := x21.1) hF rfl rfl (rdc_row 0 rfl) h4 Fl.int.to T3 rfl).q) (fun a hF => ?_)
            refine qs hF rfl ((y_fieldAddr Try.underlying40 rfl rfl rfl T3 hF rfl 2 rfl).q) (fun a hF => ?_)
            refine qs hF rfl ((y_load (v := Value.int .i64 x21.2.2) 0 hF rfl rfl T3 rfl).q) (fun a hF => ?_)
            refine qs hF rfl ((y_add hF rfl rfl rfl).q) (fun a hF => ?_)
            refine qs hF rfl ((y_assign hF rfl).q) (fun a hF => ?_)
            refine quiet_end (fun w hW => ?_)
            refine c_then ?_
            refine c_seq ?_
            refine c_seq ?_
            refine reg_list ?_
            refine ls hF hW rfl ((y_fieldAddr Try.underlying42 rfl rfl rfl T23 hF rfl 0 rfl).q) (fun a w hF hW => ?_)
            refine ls hF hW rfl ((y_load (v := v2) 1 hF rfl rfl T23 rfl).q) (fun a w hF hW => ?_)
            refine ls hF hW rfl ((y_fieldAddr Try.underlying40 rfl rfl rfl T3 hF rfl 1 rfl).q) (fun a w hF hW => ?_)
            refine ls hF hW rfl ((y_load (v := Value.int .i64 x21.2.1) 0 hF rfl rfl T3 rfl).q) (fun a w hF hW => ?_)
            obtain ⟨x23, h5, H⟩ := bindE H
            refine ls hF hW rfl ((y_index (r := (Rp.int .i64)) L23 hF rfl rfl (rdc_row 0 rfl) h5).q) (fun a w hF hW => ?_)
            refine ls hF hW rfl ((y_load_el (y := Value.int .i64 x23) (j := 0) (i := x21.2.1) hF rfl rfl (rdc_row 0 rfl) h5 Fl.int.to T3 rfl).q) (fun a w hF hW => ?_)
            refine ls hF hW rfl ((y_move hF rfl).q) (fun a w hF hW => ?_)
            refine ls hF hW rfl ((y_geq hF rfl rfl).q) (fun a w hF hW => ?_)
            refine ls_nil ?_
            refine c_then ?_
            refine c_cond hF rfl (fun hb => ?_) (fun hb => ?_)
            ·
              have H := iteT (of_decide_eq_true hb) H
              rw [hb] at hF
              clear hb
              refine wp_exit ?_
              refine e_then ?_
              refine e_block ?_
              refine c_then ?_
              have hW := hW.frontZ (i := 1) rfl rfl
              have hW := hW.frontZ (i := 1) rfl rfl
              have hW := hW.frontM (i := 2) rfl rfl
              have hW := hW.frontM (i := 2) rfl rfl
              have hW := hW.sub (M' := [(b2, [v2, v3, .int .i64 (-1)]), (b1, [.slice none 0 0, .slice none 0 0, .int .i64 0])]) (Z' := [row v2 3 (Rp.int .i64) x16, row v3 3 (Rp.int .i64) x17]) (List.Sublist.cons_cons _ (List.Sublist.cons_cons _ (List.nil_sublist _))) (List.Sublist.refl _)
              exact ⟨_, _, _, H, hF.re ⟨rfl, rfl, rfl, rfl, rfl, rfl, rfl, rfl, rfl, trivial⟩, hW⟩
            ·
              have H := iteF (of_decide_eq_false hb) H
              rw [hb] at hF
              clear hb
              refine wp_skip ?_
              refine c_then ?_
              refine c_seq ?_
              refine reg_plan [(true, 0), (true, 1), (true, 2), (true, 3), (true, 4), (true, 5), (true, 6), (true, 7), (true, 8), (true, 9), (true, 10), (false, 11), (true, 12), (false, 13)] (CN ⟨Y, [], w0⟩ [(some 11, b2, [v2, v3, .int .i64 (-1)]), (some 11, b3, [.int .i64 x21.1, .int .i64 x21.2.1, .int .i64 x21.2.2]), (some 13, b2, [v2, v3, .int .i64 (-1)]), (some 13, b3, [.int .i64 x21.1, .int .i64 x21.2.1, .int .i64 x21.2.2])] [(some 11, row v2 3 (Rp.int .i64) x16)]) (fun ch a d v w h => by cases d <;> exact h) MO (by kernel_rfl) hW (fun w hW => ⟨_, _, hW, (all_cons (fun _ => (.tail _ (.head _))) (all_cons (fun _ => (.head _)) (all_cons (fun _ => (.tail _ (.head _))) (all_cons (fun _ => (.head _)) all_nil)))), (all_cons (fun _ => (.head _)) all_nil)⟩) (fun w hW => ?_)
              refine pl_t (R := []) hF rfl rfl (yC fun M Z hN hZ => y_fieldAddr Try.underlying42 rfl rfl rfl T23 hF rfl 0 rfl) rfl rfl (fun a hF => ?_)
              refine pl_t (R := [11]) hF rfl rfl (yC fun M Z hN hZ => y_load_m (cs := [v2, v3, .int .i64 (-1)]) (v := v2) hF rfl (hN ((some 11), b2, [v2, v3, .int .i64 (-1)]) (.head _) rfl) T23 rfl) (by kernel_rfl) rfl (fun a hF => ?_)
              refine pl_t (R := []) hF rfl rfl (yC fun M Z hN hZ => y_fieldAddr Try.underlying40 rfl rfl rfl T3 hF rfl 1 rfl) rfl rfl (fun a hF => ?_)
              refine pl_t (R := [11]) hF rfl rfl (yC fun M Z hN hZ => y_load_m (cs := [.int .i64 x21.1, .int .i64 x21.2.1, .int .i64 x21.2.2]) (v := Value.int .i64 x21.2.1) hF rfl (hN ((some 11), b3, [.int .i64 x21.1, .int .i64 x21.2.1, .int .i64 x21.2.2]) (.tail _ (.head _)) rfl) T3 rfl) (by kernel_rfl) rfl (fun a hF => ?_)
              refine pl_t (R := []) hF rfl rfl (yC fun M Z hN hZ => y_fieldAddr Try.underlying42 rfl rfl rfl T23 hF rfl 1 rfl) rfl rfl (fun a hF => ?_)
              refine pl_t (R := [13]) hF rfl rfl (yC fun M Z hN hZ => y_load_m (cs := [v2, v3, .int .i64 (-1)]) (v := v3) hF rfl (hN ((some 13), b2, [v2, v3, .int .i64 (-1)]) (.tail _ (.tail _ (.head _))) rfl) T23 rfl) (by kernel_rfl) rfl (fun a hF => ?_)
              refine pl_t (R := []) hF rfl rfl (yC fun M Z hN hZ => y_fieldAddr Try.underlying40 rfl rfl rfl T3 hF rfl 1 rfl) rfl rfl (fun a hF => ?_)
              refine pl_t (R := [13]) hF rfl rfl (yC fun M Z hN hZ => y_load_m (cs := [.int .i64 x21.1, .int .i64 x21.2.1, .int .i64 x21.2.2]) (v := Value.int .i64 x21.2.1) hF rfl (hN ((some 13), b3, [.int .i64 x21.1, .int .i64 x21.2.1, .int .i64 x21.2.2]) (.tail _ (.tail _ (.tail _ (.head _)))) rfl) T3 rfl) (by kernel_rfl) rfl (fun a hF => ?_)
              refine pl_t (R := []) hF rfl rfl (yC fun M Z hN hZ => y_move hF rfl) rfl rfl (fun a hF => ?_)
              refine pl_t (R := []) hF rfl rfl (yC fun M Z hN hZ => y_move hF rfl) rfl rfl (fun a hF => ?_)
              obtain ⟨x24, h6, H⟩ := bindE H
              refine pl_t (R := [11]) hF rfl rfl (yC fun M Z hN hZ => y_index (r := (Rp.int .i64)) L23 hF rfl rfl (rdc_mrow (hZ ((some 11), row v2 3 (Rp.int .i64) x16) (.head _) rfl)) h6) (by kernel_rfl) rfl (fun a hF => ?_)
              refine pl_f rfl ?_
              refine l_store_el (i := x21.2.1) (j := 0) (vs := [.int .i64 (w64 (x22 + x21.2.2))]) (x' := w64 (x22 + x21.2.2)) hF hW rfl rfl rfl (k := 0) rfl rfl h6 T3 rfl rfl rfl rfl (fun A cs _ => Fl.int.sto (by rfl) _ _ _) (fun w hW => ?_)
              refine pl_next (N2 := []) (NZ2 := [(some 13, row v3 3 (Rp.int .i64) x17)]) (N3 := [(some 11, b2, [v2, v3, .int .i64 (-1)]), (some 11, b3, [.int .i64 x21.1, .int .i64 x21.2.1, .int .i64 x21.2.2]), (some 13, b2, [v2, v3, .int .i64 (-1)]), (some 13, b3, [.int .i64 x21.1, .int .i64 x21.2.1, .int .i64 x21.2.2])]) (NZ3 := [(some 11, row v2 3 (Rp.int .i64) x16), (some 13, row v3 3 (Rp.int .i64) x17)]) hW rfl rfl (all_cons (fun h => rel_dead (by kernel_rfl) h) (all_cons (fun h => rel_dead (by kernel_rfl) h) (all_cons (fun _ => (.tail _ (.head _))) (all_cons (fun _ => (.head _)) all_nil)))) (all_cons (fun h => rel_dead (by kernel_rfl) h) (all_cons (fun _ => (.tail _ (.head _))) all_nil)) ?_
              obtain ⟨x25, h7, H⟩ := bindE H
              refine pl_t (R := [13]) hF rfl rfl (yC fun M Z hN hZ => y_index (r := (Rp.int .i64)) L23 hF rfl rfl (rdc_mrow (hZ ((some 13), row v3 3 (Rp.int .i64) x17) (.tail _ (.head _)) rfl)) h7) (by kernel_rfl) rfl (fun a hF => ?_)
              refine pl_f rfl ?_
              refine l_store_el (i := x21.2.1) (j := 0) (vs := [.int .i64 x15]) (x' := x15) hF hW rfl rfl rfl (k := 1) rfl rfl h7 T3 rfl rfl rfl rfl (fun A cs _ => Fl.int.sto (by rfl) _ _ _) (fun w hW => ?_)
              refine pl_next (N2 := []) (NZ2 := []) (N3 := [(some 11, b2, [v2, v3, .int .i64 (-1)]), (some 11, b3, [.int .i64 x21.1, .int .i64 x21.2.1, .int .i64 x21.2.2]), (some 13, b2, [v2, v3, .int .i64 (-1)]), (some 13, b3, [.int .i64 x21.1, .int .i64 x21.2.1, .int .i64 x21.2.2])]) (NZ3 := [(some 11, row v2 3 (Rp.int .i64) x16), (some 13, row v3 3 (Rp.int .i64) x17)]) hW rfl rfl (all_cons (fun h => rel_dead (by kernel_rfl) h) (all_cons (fun h => rel_dead (by kernel_rfl) h) (all_cons (fun h => rel_dead (by kernel_rfl) h) (all_cons (fun h => rel_dead (by kernel_rfl) h) all_nil)))) (all_cons (fun h => rel_dead (by kernel_rfl) h) (all_cons (fun h => rel_dead (by kernel_rfl) h) all_nil)) ?_
              refine pl_end ?_
              refine c_then ?_
              refine c_seq ?_
              refine reg_list ?_
              refine ls hF hW rfl ((y_assign hF rfl).q) (fun a w hF hW => ?_)
              refine ls_nil ?_
              refine c_then ?_
              refine c_seq ?_
              refine reg_list ?_
              refine ls hF hW rfl ((y_move hF rfl).q) (fun a w hF hW => ?_)
              refine ls hF hW rfl ((y_move hF rfl).q) (fun a w hF hW => ?_)
              refine ls hF hW rfl ((y_eql hF rfl rfl).q) (fun a w hF hW => ?_)
              refine ls_nil ?_
              refine c_then ?_
              refine c_cond hF rfl (fun hb => ?_) (fun hb => ?_)
              ·
                have H := iteT (of_decide_eq_true hb) H
                rw [hb] at hF
                clear hb
                refine c_seq ?_
                refine reg_list ?_
                refine ls hF hW rfl ((y_fieldAddr Try.underlying40 rfl rfl rfl T3 hF rfl 1 rfl).q) (fun a w hF hW => ?_)
                refine ls hF hW rfl ((y_load (v := Value.int .i64 x21.2.1) 0 hF rfl rfl T3 rfl).q) (fun a w hF hW => ?_)
                refine ls hF hW rfl ((y_fieldAddr Try.underlying42 rfl rfl rfl T3 hF rfl 2 rfl).q) (fun a w hF hW => ?_)
                refine l_store (vs := [.int .i64 x21.2.1]) (M' := [(b3, [.int .i64 x21.1, .int .i64 x21.2.1, .int .i64 x21.2.2]), (b2, [v2, v3, .int .i64 x21.2.1]), (b1, [.slice none 0 0, .slice none 0 0, .int .i64 0])]) 1 hF hW rfl rfl rfl T3 rfl rfl rfl rfl rfl (fun w hW => ?_)
                refine ls_nil ?_
                refine c_then ?_
                refine wp_exit ?_
                refine e_pass rfl ?_
                refine e_then ?_
                refine e_then ?_
                refine e_pass rfl ?_
                refine e_then ?_
                refine e_pass rfl ?_
                refine e_then ?_
                refine e_then ?_
                refine e_block ?_
                refine c_then ?_
                have hW := hW.frontZ (i := 1) rfl rfl
                have hW := hW.frontM (i := 2) rfl rfl
                have hW := hW.frontM (i := 2) rfl rfl
                have hW := hW.sub (M' := [(b2, [v2, v3, .int .i64 x21.2.1]), (b1, [.slice none 0 0, .slice none 0 0, .int .i64 0])]) (Z' := [row v2 3 (Rp.int .i64) (setAt x16 x21.2.1 (w64 (x22 + x21.2.2))), row v3 3 (Rp.int .i64) (setAt x17 x21.2.1 x15)]) (List.Sublist.cons_cons _ (List.Sublist.cons_cons _ (List.nil_sublist _))) (List.Sublist.refl _)
                have H := L6 _ H
                have H := L5 _ H
                have H := L4 _ H
                have H := L3 _ H
                have H := L2 _ H
                exact ⟨_, _, _, H, hF.re ⟨rfl, rfl, trivial⟩, hW⟩
              ·
                have H := iteF (of_decide_eq_false hb) H
                rw [hb] at hF
                clear hb
                refine wp_skip ?_
                refine b_normal ?_
                refine c_then ?_
                have hW := hW.frontZ (i := 1) rfl rfl
                have hW := hW.frontM (i := 2) rfl rfl
                have hW := hW.frontM (i := 2) rfl rfl
                have hW := hW.sub (M' := [(b2, [v2, v3, .int .i64 (-1)]), (b1, [.slice none 0 0, .slice none 0 0, .int .i64 0])]) (Z' := [row v2 3 (Rp.int .i64) (setAt x16 x21.2.1 (w64 (x22 + x21.2.2))), row v3 3 (Rp.int .i64) (setAt x17 x21.2.1 x15)]) (List.Sublist.cons_cons _ (List.Sublist.cons_cons _ (List.nil_sublist _))) (List.Sublist.refl _)
                exact ⟨_, _, _, H, hF.re ⟨rfl, rfl, rfl, rfl, rfl, rfl, rfl, rfl, rfl, trivial⟩, hW⟩
          rintro a w ⟨x18, x19, x20, hj, hF, hW⟩
          have H := K6 _ hj
          clear hj G6 K6 L6
          refine reg_list ?_
          refine ls hF hW rfl ((y_add hF rfl rfl rfl).q) (fun a w hF hW => ?_)
          refine ls hF hW rfl ((y_move hF rfl).q) (fun a w hF hW => ?_)
          refine ls_nil ?_
          refine c_then ?_
          have hW := hW.frontZ (i := 1) rfl rfl
          have hW := hW.frontZ (i := 1) rfl rfl
          have hW := hW.frontM (i := 1) rfl rfl
          have hW := hW.frontM (i := 1) rfl rfl
          exact ⟨_, H, hF.re ⟨rfl, rfl, rfl, rfl, rfl, rfl, rfl, rfl, rfl, trivial⟩, hW⟩
        ·
          have H := iteF (of_decide_eq_false hb) H
          rw [hb] at hF
          clear hb
          refine wp_exit ?_
          refine e_then ?_
          refine e_then ?_
          refine e_block ?_
          refine c_then ?_
          have hW := hW.frontZ (i := 1) rfl rfl
          have hW := hW.frontZ (i := 1) rfl rfl
          have hW := hW.frontM (i := 1) rfl rfl
          have hW := hW.frontM (i := 1) rfl rfl
          have H := L5 _ H
          exact ⟨_, _, _, H, hF.re ⟨rfl, rfl, rfl, rfl, rfl, rfl, trivial⟩, hW⟩
      rintro a w ⟨x11, x12, x13, hj, hF, hW⟩
      have H := K4 _ hj
      clear hj G4 K4 L4
      refine c_seq ?_
      refine reg_list ?_
      refine ls hF hW rfl ((y_move hF rfl).q) (fun a w hF hW => ?_)
      refine ls hF hW rfl ((y_not hF rfl).q) (fun a w hF hW => ?_)
      refine ls_nil ?_
      refine c_then ?_
      refine c_cond hF rfl (fun hb => ?_) (fun hb => ?_)
      ·
        have H := iteT hb H
        rw [hb] at hF
        clear hb
        refine wp_exit ?_
        refine e_pass rfl ?_
        refine e_then ?_
        refine e_then ?_
        refine e_block ?_
        refine c_then ?_
        have hW := hW.frontZ (i := 1) rfl rfl
        have hW := hW.frontZ (i := 1) rfl rfl
        have hW := hW.frontM (i := 1) rfl rfl
        have hW := hW.frontM (i := 1) rfl rfl
        have H := L3 _ H
        have H := L2 _ H
        exact ⟨_, _, _, H, hF.re ⟨rfl, rfl, trivial⟩, hW⟩
      ·
        have H := iteF (by rw [hb]; decide) H
        rw [hb] at hF
        clear hb
        refine wp_skip ?_
        refine b_normal ?_
        refine c_then ?_
        have hW := hW.frontZ (i := 1) rfl rfl
        have hW := hW.frontZ (i := 1) rfl rfl
        have hW := hW.frontM (i := 1) rfl rfl
        have hW := hW.frontM (i := 1) rfl rfl
        exact ⟨_, _, H, hF.re ⟨rfl, rfl, rfl, rfl, rfl, trivial⟩, hW⟩
    rintro a w ⟨x9, x10, hj, hF, hW⟩
    have H := K3 _ hj
    clear hj G3 K3 L3
    refine reg_list ?_
    refine ls hF hW rfl ((y_move hF rfl).q) (fun a w hF hW => ?_)
    refine ls hF hW rfl ((y_add hF rfl rfl rfl).q) (fun a w hF hW => ?_)
    refine ls hF hW rfl ((y_assign hF rfl).q) (fun a w hF hW => ?_)
    refine ls_nil ?_
    refine c_then ?_
    have hW := hW.frontZ (i := 1) rfl rfl
    have hW := hW.frontZ (i := 1) rfl rfl
    have hW := hW.frontM (i := 1) rfl rfl
    have hW := hW.frontM (i := 1) rfl rfl
    exact ⟨_, H, hF.re ⟨rfl, rfl, rfl, rfl, rfl, trivial⟩, hW⟩
  rintro a w ⟨x3, x4, x5, hj, hF, hW⟩
  have hj := Option.some.inj hj
  subst hj
  have H := K1
  clear G1 K1
  refine c_seq ?_
  refine reg_list ?_
  refine ls hF hW rfl ((y_load (v := Value.agg #[v2, v3, .int .i64 x5]) 0 hF rfl rfl T42 rfl).q) (fun a w hF hW => ?_)
  refine l_store (vs := [v2, v3, .int .i64 x5]) (M' := [(b2, [v2, v3, .int .i64 x5]), (b1, [v2, v3, .int .i64 x5])]) 1 hF hW rfl rfl rfl T42 rfl rfl rfl (one_cons (hW.one (k := 0) rfl) (one_cons (hW.one (k := 1) rfl) (one_cons rfl one_nil))) rfl (fun w hW => ?_)
  refine ls_nil ?_
  refine c_then ?_
  refine wp_ret ?_
  refine sc_r ?_
  have H := Option.some.inj H
  subst H
  refine post1 (.inl rfl) hF hW rfl (rv_cell 1 hF rfl rfl T42 rfl) ?_
  have hW := hW.frontZ (i := 1) rfl rfl
  have hW := hW.frontZ (i := 1) rfl rfl
  have hW := hW.sub (M' := []) (Z' := [row v2 3 (Rp.int .i64) x3, row v3 3 (Rp.int .i64) x4]) (List.nil_sublist _) (List.Sublist.refl _)
  exact ⟨((v2), (v3)), rfl, hW⟩

theorem H17 : Has Try.prog 17 := ⟨fun args w => run_callFunc_body Try.func17 rfl (by decide) args w⟩
noncomputable def diff_Earliest (p0 : Int) (p1 : List (Int × Int × Int)) : Option (List Int × Bool) := (diff_Right p0 p1).bind fun x1 => (if (!x1) = true then some (([] : List Int), false) else (diff_solve p0 p1).bind fun x2 => (if 0 ≤ x2.2.2 then some (([] : List Int), false) else some (x2.1, true)))
theorem diff_Earliest_c (Y : Nat → Prop) (w0 : World) (v1 : Value) (p0 : Int) (p1 : List (Int × Int × Int)) (r : List Int × Bool) (H : diff_Earliest p0 p1 = some r) (h_v1 : Sl w0 (NX []) R40 v1 p1) :
    Calls Try.prog 8 #[.int .i64 p0, v1] w0 fun e w' => ∃ x : Value, e = .returned (.tuple #[x, .bool r.2]) ∧ Stw ⟨Y, [], w0⟩ [] [row (x) 3 (Rp.int .i64) r.1] w' := by
  refine enter Try.func8 rfl Try.ntmps8 rfl (fun a hF => ?_)
  have hW := Stw.start Y w0
  unfold diff_Earliest at H
  refine c_seq ?_
  refine reg_list ?_
  refine ls hF hW rfl ((y_assign hF rfl).q) (fun a w hF hW => ?_)
  refine ls hF hW rfl ((y_assign hF rfl).q) (fun a w hF hW => ?_)
  refine ls_nil ?_
  refine c_then ?_
  refine c_seq ?_
  refine c_seq ?_
  refine reg_list ?_
  refine ls hF hW rfl ((y_move hF rfl).q) (fun a w hF hW => ?_)
  refine ls hF hW rfl ((y_move hF rfl).q) (fun a w hF hW => ?_)
  obtain ⟨x1, h1, H⟩ := bindE H
  refine ls hF hW rfl (y_call (v := Value.bool x1) hF H10 rfl (fun w hW => diff_Right_c any w (v1) p0 p1 _ h1 (((rdc_ro h_v1) : Rdc _ _ _ _ _ _) w hW).nx)) (fun a w hF hW => ?_)
  refine ls hF hW rfl ((y_not hF rfl).q) (fun a w hF hW => ?_)
  refine ls_nil ?_
  refine c_then ?_
  refine c_cond hF rfl (fun hb => ?_) (fun hb => ?_)
  ·
    have H := iteT hb H
    rw [hb] at hF
    clear hb
    refine c_seq ?_
    refine reg_list ?_
    refine ls hF hW rfl ((y_assign hF rfl).q) (fun a w hF hW => ?_)
    refine ls hF hW rfl ((y_assign hF rfl).q) (fun a w hF hW => ?_)
    refine ls_nil ?_
    refine c_then ?_
    refine wp_ret ?_
    refine r_then ?_
    have H := Option.some.inj H
    subst H
    refine post2 (.inl rfl) hF hW rfl (rv_tmp hF rfl) (rv_tmp hF rfl) ?_
    have hW := hW.nilRow 3 (Rp.int .i64)
    exact ⟨(Value.slice none 0 0), rfl, hW⟩
  ·
    have H := iteF (by rw [hb]; decide) H
    rw [hb] at hF
    clear hb
    refine wp_skip ?_
    refine c_then ?_
    refine c_seq ?_
    refine reg_list ?_
    refine ls hF hW rfl ((y_move hF rfl).q) (fun a w hF hW => ?_)
    refine ls hF hW rfl ((y_move hF rfl).q) (fun a w hF hW => ?_)
    obtain ⟨x2, h2, H⟩ := bindE H
    refine l_callG (Ml := []) (Zl := []) (M := []) (Z := []) (β := Value × Value) (rv := fun x => .agg #[x.1, x.2, .int .i64 x2.2.2]) (MM := fun x => []) (ZZ := fun x => [row x.1 3 (Rp.int .i64) x2.1, row x.2 3 (Rp.int .i64) x2.2.1]) hF hW H17 rfl rfl (fun hL => diff_solve_c _ w (v1) p0 p1 _ h2 ((rdc_ro h_v1) w hW).nx) (fun x a w hF hW => ?_)
    obtain ⟨v2, v3⟩ := x
    have hW : Stw ⟨Y, [], w0⟩ [] [row v2 3 (Rp.int .i64) x2.1, row v3 3 (Rp.int .i64) x2.2.1] w := hW
    refine l_alloc (cs := [.slice none 0 0, .slice none 0 0, .int .i64 0]) hF hW rfl Z42 rfl (fun b1 a w hF hW => ?_)
    refine l_store (vs := [v2, v3, .int .i64 x2.2.2]) (M' := [(b1, [v2, v3, .int .i64 x2.2.2])]) 0 hF hW rfl rfl rfl T42 rfl rfl rfl (one_cons (hW.one (k := 0) rfl) (one_cons (hW.one (k := 1) rfl) (one_cons rfl one_nil))) rfl (fun w hW => ?_)
    refine ls_nil ?_
    refine c_then ?_
    refine c_seq ?_
    refine c_seq ?_
    refine reg_list ?_
    refine ls hF hW rfl ((y_fieldAddr Try.underlying42 rfl rfl rfl T3 hF rfl 2 rfl).q) (fun a w hF hW => ?_)
    refine ls hF hW rfl ((y_load (v := Value.int .i64 x2.2.2) 0 hF rfl rfl T3 rfl).q) (fun a w hF hW => ?_)
    refine ls hF hW rfl ((y_geq hF rfl rfl).q) (fun a w hF hW => ?_)
    refine ls_nil ?_
    refine c_then ?_
    refine c_cond hF rfl (fun hb => ?_) (fun hb => ?_)
    ·
      have H := iteT (of_decide_eq_true hb) H
      rw [hb] at hF
      clear hb
      refine c_seq ?_
      refine reg_list ?_
      refine ls hF hW rfl ((y_assign hF rfl).q) (fun a w hF hW => ?_)
      refine ls hF hW rfl ((y_assign hF rfl).q) (fun a w hF hW => ?_)
      refine ls_nil ?_
      refine c_then ?_
      refine wp_ret ?_
      refine r_then ?_
      have H := Option.some.inj H
      subst H
      refine post2 (.inl rfl) hF hW rfl (rv_tmp hF rfl) (rv_tmp hF rfl) ?_
      have hW := hW.nilRow 3 (Rp.int .i64)
      have hW := hW.sub (M' := []) (Z' := [row (Value.slice none 0 0) 3 (Rp.int .i64) ([])]) (List.nil_sublist _) (List.Sublist.cons_cons _ (List.nil_sublist _))
      exact ⟨(Value.slice none 0 0), rfl, hW⟩
    ·
      have H := iteF (of_decide_eq_false hb) H
      rw [hb] at hF
      clear hb
      refine wp_skip ?_
      refine c_then ?_
      refine c_seq ?_
      refine reg_list ?_
      refine ls hF hW rfl ((y_fieldAddr Try.underlying42 rfl rfl rfl T23 hF rfl 0 rfl).q) (fun a w hF hW => ?_)
      refine ls hF hW rfl ((y_load (v := v2) 0 hF rfl rfl T23 rfl).q) (fun a w hF hW => ?_)
      refine ls hF hW rfl ((y_assign hF rfl).q) (fun a w hF hW => ?_)
      refine ls hF hW rfl ((y_assign hF rfl).q) (fun a w hF hW => ?_)
      refine ls_nil ?_
      refine c_then ?_
      refine wp_ret ?_
      have H := Option.some.inj H
      subst H
      refine post2 (.inl rfl) hF hW rfl (rv_tmp hF rfl) (rv_tmp hF rfl) ?_
      have hW := hW.sub (M' := []) (Z' := [row v2 3 (Rp.int .i64) x2.1]) (List.nil_sublist _) (List.Sublist.cons_cons _ (List.nil_sublist _))
      exact ⟨(v2), rfl, hW⟩

theorem H8 : Has Try.prog 8 := ⟨fun args w => run_callFunc_body Try.func8 rfl (by decide) args w⟩
noncomputable def r13_Same_l1 (p0 : List Int) (p1 : List Int) : Int → Option (Int ⊕ (Unit ⊕ Bool))
  | x1 => (if x1 < (p0.length : Int) then (ix p0 x1).bind fun x2 => (ix p1 x1).bind fun x3 => (if x2 ≠ x3 then some (.inr (.inr false)) else some (.inl (w64 (x1 + 1)))) else some (.inr (.inl ())))
noncomputable def r13_Same (p0 : List Int) (p1 : List Int) : Option Bool := (if (p0.length : Int) ≠ (p1.length : Int) then some false else orR (loopW (r13_Same_l1 p0 p1) 0) fun _ => some true)
theorem r13_Same_c (Y : Nat → Prop) (w0 : World) (v1 : Value) (v2 : Value) (p0 : List Int) (p1 : List Int) (r : Bool) (H : r13_Same p0 p1 = some r) (h_v1 : Sl w0 (NX []) (Rp.int .i64) v1 p0) (h_v2 : Sl w0 (NX []) (Rp.int .i64) v2 p1) :
    Calls Try.prog 12 #[v1, v2] w0 fun e w' => e = .returned (.bool r) ∧ Below w0.heap.size w0 w' := by
  refine enter Try.func12 rfl Try.ntmps12 rfl (fun a hF => ?_)
  have hW := Stw.start Y w0
  unfold r13_Same at H
  refine c_seq ?_
  refine reg_list ?_
  refine ls hF hW rfl ((y_assign hF rfl).q) (fun a w hF hW => ?_)
  refine ls_nil ?_
  refine c_then ?_
  refine c_seq ?_
  refine c_seq ?_
  refine reg_list ?_
  refine ls hF hW rfl ((y_move hF rfl).q) (fun a w hF hW => ?_)
  refine ls hF hW rfl ((y_len (r := (Rp.int .i64)) (l := p0) Try.underlying23 rfl hF rfl (rdc_ro h_v1)).q) (fun a w hF hW => ?_)
  refine ls hF hW rfl ((y_move hF rfl).q) (fun a w hF hW => ?_)
  refine ls hF hW rfl ((y_len (r := (Rp.int .i64)) (l := p1) Try.underlying23 rfl hF rfl (rdc_ro h_v2)).q) (fun a w hF hW => ?_)
  refine ls hF hW rfl ((y_neq hF rfl rfl).q) (fun a w hF hW => ?_)
  refine ls_nil ?_
  refine c_then ?_
  refine c_cond hF rfl (fun hb => ?_) (fun hb => ?_)
  ·
    have H := iteT (of_decide_eq_true hb) H
    rw [hb] at hF
    clear hb
    refine c_seq ?_
    refine reg_list ?_
    refine ls hF hW rfl ((y_assign hF rfl).q) (fun a w hF hW => ?_)
    refine ls_nil ?_
    refine c_then ?_
    refine wp_ret ?_
    refine r_then ?_
    have H := Option.some.inj H
    subst H
    refine post1 (.inl rfl) hF hW rfl (rv_tmp hF rfl) ?_
    exact ⟨rfl, hW.done⟩
  ·
    have H := iteF (of_decide_eq_false hb) H
    rw [hb] at hF
    clear hb
    refine wp_skip ?_
    refine c_then ?_
    obtain ⟨o1, G1, K1, L1⟩ := orE H
    refine c_seqJ (fun a w => some (Sum.inl ()) = some o1 ∧ Fr 26 [] [(4, .bool false)] a ∧ Stw ⟨Y, [], w0⟩ [] [] w) ?_ ?_
    ·
      have H := G1
      clear G1 K1
      refine c_seq ?_
      refine reg_list ?_
      refine ls hF hW rfl ((y_assign hF rfl).q) (fun a w hF hW => ?_)
      refine ls_nil ?_
      refine c_then ?_
      refine wp_block ?_
      refine c_loopW H (fun s a w => Fr 26 [] [(0, v1), (1, v2), (4, .bool false), (5, .int .i64 s)] a ∧ Stw ⟨Y, [], w0⟩ [] [] w) ⟨hF.re ⟨rfl, rfl, rfl, rfl, trivial⟩, hW⟩ (fun s o a w H L2 hR => ?_)
      obtain ⟨x1, rfl⟩ : ∃ x, x = s := ⟨s, rfl⟩
      obtain ⟨hF, hW⟩ := hR
      have hF : Fr 26 [] [(0, v1), (1, v2), (4, .bool false), (5, .int .i64 x1)] a := hF
      have hW : Stw ⟨Y, [], w0⟩ [] [] w := hW
      rw [r13_Same_l1] at H
      refine c_seq ?_
      refine c_seq ?_
      refine reg_list ?_
      refine ls hF hW rfl ((y_move hF rfl).q) (fun a w hF hW => ?_)
      refine ls hF hW rfl ((y_move hF rfl).q) (fun a w hF hW => ?_)
      refine ls hF hW rfl ((y_len (r := (Rp.int .i64)) (l := p0) Try.underlying23 rfl hF rfl (rdc_ro h_v1)).q) (fun a w hF hW => ?_)
      refine ls hF hW rfl ((y_lss hF rfl rfl).q) (fun a w hF hW => ?_)
      refine ls_nil ?_
      refine c_then ?_
      refine c_cond hF rfl (fun hb => ?_) (fun hb => ?_)
      ·
        have H := iteT (of_decide_eq_true hb) H
        rw [hb] at hF
        clear hb
        refine wp_skip ?_
        refine c_then ?_
        refine c_seq ?_
        refine wp_block ?_
        refine c_seq ?_
        refine reg_quiet hW MO (by kernel_rfl) ?_
        refine qs hF rfl ((y_move hF rfl).q) (fun a hF => ?_)
        refine qs hF rfl ((y_move hF rfl).q) (fun a hF => ?_)
        obtain ⟨x2, h1, H⟩ := bindE H
        refine qs hF rfl ((y_index (r := (Rp.int .i64)) L23 hF rfl rfl (rdc_ro h_v1) h1).q) (fun a hF => ?_)
        refine qs hF rfl ((y_load_el (y := Value.int .i64 x2) (j := 0) (i := x1) hF rfl rfl (rdc_ro h_v1) h1 Fl.int.to T3 rfl).q) (fun a hF => ?_)
        refine qs hF rfl ((y_move hF rfl).q) (fun a hF => ?_)
        refine qs hF rfl ((y_move hF rfl).q) (fun a hF => ?_)
        obtain ⟨x3, h2, H⟩ := bindE H
        refine qs hF rfl ((y_index (r := (Rp.int .i64)) L23 hF rfl rfl (rdc_ro h_v2) h2).q) (fun a hF => ?_)
        refine qs hF rfl ((y_load_el (y := Value.int .i64 x3) (j := 0) (i := x1) hF rfl rfl (rdc_ro h_v2) h2 Fl.int.to T3 rfl).q) (fun a hF => ?_)
        refine qs hF rfl ((y_neq hF rfl rfl).q) (fun a hF => ?_)
        refine quiet_end (fun w hW => ?_)
        refine c_then ?_
        refine c_cond hF rfl (fun hb => ?_) (fun hb => ?_)
        ·
          have H := iteT (of_decide_eq_true hb) H
          rw [hb] at hF
          clear hb
          refine c_seq ?_
          refine reg_list ?_
          refine ls hF hW rfl ((y_assign hF rfl).q) (fun a w hF hW => ?_)
          refine ls_nil ?_
          refine c_then ?_
          refine wp_ret ?_
          refine r_block ?_
          refine r_then ?_
          refine r_then ?_
          refine r_block ?_
          refine r_then ?_
          have H := L2 _ H
          have H := L1 _ H
          have H := Option.some.inj H
          subst H
          refine post1 (.inl rfl) hF hW rfl (rv_tmp hF rfl) ?_
          exact ⟨rfl, hW.done⟩
        ·
          have H := iteF (of_decide_eq_false hb) H
          rw [hb] at hF
          clear hb
          refine wp_skip ?_
          refine b_normal ?_
          refine c_then ?_
          refine reg_list ?_
          refine ls hF hW rfl ((y_move hF rfl).q) (fun a w hF hW => ?_)
          refine ls hF hW rfl ((y_add hF rfl rfl rfl).q) (fun a w hF hW => ?_)
          refine ls hF hW rfl ((y_assign hF rfl).q) (fun a w hF hW => ?_)
          refine ls_nil ?_
          refine c_then ?_
          exact ⟨_, H, hF.re ⟨rfl, rfl, rfl, rfl, trivial⟩, hW⟩
      ·
        have H := iteF (of_decide_eq_false hb) H
        rw [hb] at hF
        clear hb
        refine wp_exit ?_
        refine e_then ?_
        refine e_then ?_
        refine e_block ?_
        refine c_then ?_
        have H := L2 _ H
        exact ⟨H, hF.re ⟨rfl, trivial⟩, hW⟩
    rintro a w ⟨hj, hF, hW⟩
    have H := K1 _ hj
    clear hj G1 K1 L1
    refine c_seq ?_
    refine reg_list ?_
    refine ls hF hW rfl ((y_assign hF rfl).q) (fun a w hF hW => ?_)
    refine ls_nil ?_
    refine c_then ?_
    refine wp_ret ?_
    have H := Option.some.inj H
    subst H
    refine post1 (.inl rfl) hF hW rfl (rv_tmp hF rfl) ?_
    exact ⟨rfl, hW.done⟩

theorem H12 : Has Try.prog 12 := ⟨fun args w => run_callFunc_body Try.func12 rfl (by decide) args w⟩
noncomputable def slices_Reverse_int_int_l1  : (List Int × Int × Int) → Option ((List Int × Int × Int) ⊕ (List Int))
  | (x1, x2, x3) => (if x2 < x3 then (ix x1 x3).bind fun x4 => (ix x1 x2).bind fun x5 => (ix x1 x2).bind fun x6 => (ix (setAt x1 x2 x4) x3).bind fun x7 => some (.inl ((setAt (setAt x1 x2 x4) x3 x5), w64 (x2 + 1), w64 (x3 - 1))) else some (.inr x1))
noncomputable def slices_Reverse_int_int (p0 : List Int) : Option (List Int) := loopW (slices_Reverse_int_int_l1) (p0, 0, w64 ((p0.length : Int) - 1))
theorem slices_Reverse_int_int_c (Y : Nat → Prop) (X : List Nat) (w0 : World) (v1 : Value) (p0 : List Int) (r : List Int) (H : slices_Reverse_int_int p0 = some r) (hL : Stw ⟨Y, X, w0⟩ [] [row v1 3 (Rp.int .i64) p0] w0) :
    Calls Try.prog 20 #[v1] w0 fun e w' => ∃ x : Unit, e = .returned (.tuple #[]) ∧ Stw ⟨Y, X, w0⟩ [] [row v1 3 (Rp.int .i64) r] w' := by
  refine enter Try.func20 rfl Try.ntmps20 rfl (fun a hF => ?_)
  have hW := hL
  unfold slices_Reverse_int_int at H
  refine c_seq ?_
  refine reg_list ?_
  refine ls hF hW rfl ((y_move hF rfl).q) (fun a w hF hW => ?_)
  refine ls hF hW rfl ((y_len (r := (Rp.int .i64)) (l := p0) Try.underlying23 rfl hF rfl (rdc_row 0 rfl)).q) (fun a w hF hW => ?_)
  refine ls hF hW rfl ((y_sub hF rfl rfl rfl).q) (fun a w hF hW => ?_)
  refine ls hF hW rfl ((y_assign hF rfl).q) (fun a w hF hW => ?_)
  refine ls hF hW rfl ((y_assign hF rfl).q) (fun a w hF hW => ?_)
  refine ls_nil ?_
  refine c_then ?_
  refine wp_block ?_
  refine c_loopW H (fun s a w => Fr 28 [] [(0, v1), (2, .int .i64 s.2.1), (3, .int .i64 s.2.2)] a ∧ Stw ⟨Y, X, w0⟩ [] [row v1 3 (Rp.int .i64) s.1] w) ⟨hF.re ⟨rfl, rfl, rfl, trivial⟩, hW⟩ (fun s o a w H L1 hR => ?_)
  obtain ⟨x1, x2, x3⟩ := s
  obtain ⟨hF, hW⟩ := hR
  have hF : Fr 28 [] [(0, v1), (2, .int .i64 x2), (3, .int .i64 x3)] a := hF
  have hW : Stw ⟨Y, X, w0⟩ [] [row v1 3 (Rp.int .i64) x1] w := hW
  rw [slices_Reverse_int_int_l1] at H
  refine c_seq ?_
  refine c_seq ?_
  refine reg_list ?_
  refine ls hF hW rfl ((y_move hF rfl).q) (fun a w hF hW => ?_)
  refine ls hF hW rfl ((y_move hF rfl).q) (fun a w hF hW => ?_)
  refine ls hF hW rfl ((y_lss hF rfl rfl).q) (fun a w hF hW => ?_)
  refine ls_nil ?_
  refine c_then ?_
  refine c_cond hF rfl (fun hb => ?_) (fun hb => ?_)
  ·
    have H := iteT (of_decide_eq_true hb) H
    rw [hb] at hF
    clear hb
    refine wp_skip ?_
    refine c_then ?_
    refine c_seq ?_
    refine wp_block ?_
    refine reg_ord 13 [2, 3] [0, 1, 4, 5, 6, 7, 8, 9, 10, 11, 12] (fun ch a d v w h => by cases d <;> exact h) hW MO (by kernel_rfl) ?_
    refine hm hF rfl rfl rfl (fun a hF => ?_)
    refine hm hF rfl rfl rfl (fun a hF => ?_)
    refine hm_end ?_
    refine hs hF rfl rfl rfl ((y_move hF rfl).q) (fun a hF => ?_)
    refine hs hF rfl rfl rfl ((y_move hF rfl).q) (fun a hF => ?_)
    refine hs hF rfl rfl rfl ((y_move hF rfl).q) (fun a hF => ?_)
    refine hs hF rfl rfl rfl ((y_move hF rfl).q) (fun a hF => ?_)
    obtain ⟨x4, h1, H⟩ := bindE H
    refine hs hF rfl rfl rfl ((y_index (r := (Rp.int .i64)) L23 hF rfl rfl (rdc_row 0 rfl) h1).q) (fun a hF => ?_)
    refine hs hF rfl rfl rfl ((y_load_el (y := Value.int .i64 x4) (j := 0) (i := x3) hF rfl rfl (rdc_row 0 rfl) h1 Fl.int.to T3 rfl).q) (fun a hF => ?_)
    refine hs hF rfl rfl rfl ((y_move hF rfl).q) (fun a hF => ?_)
    refine hs hF rfl rfl rfl ((y_move hF rfl).q) (fun a hF => ?_)
    obtain ⟨x5, h2, H⟩ := bindE H
    refine hs hF rfl rfl rfl ((y_index (r := (Rp.int .i64)) L23 hF rfl rfl (rdc_row 0 rfl) h2).q) (fun a hF => ?_)
    refine hs hF rfl rfl rfl ((y_load_el (y := Value.int .i64 x5) (j := 0) (i := x2) hF rfl rfl (rdc_row 0 rfl) h2 Fl.int.to T3 rfl).q) (fun a hF => ?_)
    obtain ⟨x6, h3, H⟩ := bindE H
    refine hs hF rfl rfl rfl ((y_index (r := (Rp.int .i64)) L23 hF rfl rfl (rdc_row 0 rfl) h3).q) (fun a hF => ?_)
    refine h_end (fun w hW => ?_)
    have hW : Stw ⟨Y, X, w0⟩ [] [row v1 3 (Rp.int .i64) x1] w := hW
    refine l_store_el (i := x2) (j := 0) (vs := [.int .i64 x4]) (x' := x4) hF hW rfl rfl rfl (k := 0) rfl rfl h3 T3 rfl rfl rfl rfl (fun A cs _ => Fl.int.sto (by rfl) _ _ _) (fun w hW => ?_)
    obtain ⟨x7, h4, H⟩ := bindE H
    refine ls hF hW rfl ((y_index (r := (Rp.int .i64)) L23 hF rfl rfl (rdc_row 0 rfl) h4).q) (fun a w hF hW => ?_)
    refine l_store_el (i := x3) (j := 0) (vs := [.int .i64 x5]) (x' := x5) hF hW rfl rfl rfl (k := 0) rfl rfl h4 T3 rfl rfl rfl rfl (fun A cs _ => Fl.int.sto (by rfl) _ _ _) (fun w hW => ?_)
    refine ls_nil ?_
    refine b_normal ?_
    refine c_then ?_
    refine reg_list ?_
    refine ls hF hW rfl ((y_move hF rfl).q) (fun a w hF hW => ?_)
    refine ls hF hW rfl ((y_add hF rfl rfl rfl).q) (fun a w hF hW => ?_)
    refine ls hF hW rfl ((y_move hF rfl).q) (fun a w hF hW => ?_)
    refine ls hF hW rfl ((y_sub hF rfl rfl rfl).q) (fun a w hF hW => ?_)
    refine ls hF hW rfl ((y_assign hF rfl).q) (fun a w hF hW => ?_)
    refine ls hF hW rfl ((y_assign hF rfl).q) (fun a w hF hW => ?_)
    refine ls_nil ?_
    refine c_then ?_
    exact ⟨_, H, hF.re ⟨rfl, rfl, rfl, trivial⟩, hW⟩
  ·
    have H := iteF (of_decide_eq_false hb) H
    rw [hb] at hF
    clear hb
    refine wp_exit ?_
    refine e_then ?_
    refine e_then ?_
    refine e_block ?_
    have H := L1 _ H
    have H := Option.some.inj H
    subst H
    refine post0 (.inr rfl) hF rfl ?_
    exact ⟨(), rfl, hW⟩

theorem H20 : Has Try.prog 20 := ⟨fun args w => run_callFunc_body Try.func20 rfl (by decide) args w⟩
noncomputable def diff_Ring_l1 (p0 : Int) (p1 : List (Int × Int × Int)) (x2 : (List Int × List Int × Int)) : (Int × Int) → Option ((Int × Int) ⊕ Int)
  | (x4, x5) => (if x5 < p0 then (ix x2.2.1 x4).bind fun x6 => (ix p1 x6).bind fun x7 => some (.inl (x7.1, w64 (x5 + 1))) else some (.inr x4))
noncomputable def diff_Ring_l2 (p1 : List (Int × Int × Int)) (x2 : (List Int × List Int × Int)) (x3 : Int) : (List Int × Int) → Option ((List Int × Int) ⊕ (List Int))
  | (x12, x13) => (if x13 ≠ x3 then (ix x2.2.1 x13).bind fun x14 => (app x12 ([x14] : List Int)).bind fun x15 => (ix x2.2.1 x13).bind fun x16 => (ix p1 x16).bind fun x17 => some (.inl (x15, x17.1)) else some (.inr x12))
noncomputable def diff_Ring (p0 : Int) (p1 : List (Int × Int × Int)) : Option (List Int) := (diff_Right p0 p1).bind fun x1 => (if (!x1) = true then some ([] : List Int) else (diff_solve p0 p1).bind fun x2 => (if x2.2.2 < 0 then some ([] : List Int) else (loopW (diff_Ring_l1 p0 p1 x2) (x2.2.2, 0)).bind fun x3 => (ix x2.2.1 x3).bind fun x8 => ((ix x2.2.1 x3).bind fun x10 => (ix p1 x10).bind fun x11 => loopW (diff_Ring_l2 p1 x2 x3) (([x8] : List Int), x11.1)).bind fun x9 => (slices_Reverse_int_int x9).bind fun x18 => some x18))
theorem diff_Ring_c (Y : Nat → Prop) (w0 : World) (v1 : Value) (p0 : Int) (p1 : List (Int × Int × Int)) (r : List Int) (H : diff_Ring p0 p1 = some r) (h_v1 : Sl w0 (NX []) R40 v1 p1) :
    Calls Try.prog 16 #[.int .i64 p0, v1] w0 fun e w' => ∃ x : Value, e = .returned (x) ∧ Stw ⟨Y, [], w0⟩ [] [row (x) 3 (Rp.int .i64) r] w' := by
  refine enter Try.func16 rfl Try.ntmps16 rfl (fun a hF => ?_)
  have hW := Stw.start Y w0
  unfold diff_Ring at H
  refine c_seq ?_
  refine reg_list ?_
  refine ls hF hW rfl ((y_assign hF rfl).q) (fun a w hF hW => ?_)
  refine ls_nil ?_
  refine c_then ?_
  refine c_seq ?_
  refine c_seq ?_
  refine reg_list ?_
  refine ls hF hW rfl ((y_move hF rfl).q) (fun a w hF hW => ?_)
  refine ls hF hW rfl ((y_move hF rfl).q) (fun a w hF hW => ?_)
  obtain ⟨x1, h1, H⟩ := bindE H
  refine ls hF hW rfl (y_call (v := Value.bool x1) hF H10 rfl (fun w hW => diff_Right_c any w (v1) p0 p1 _ h1 (((rdc_ro h_v1) : Rdc _ _ _ _ _ _) w hW).nx)) (fun a w hF hW => ?_)
  refine ls hF hW rfl ((y_not hF rfl).q) (fun a w hF hW => ?_)
  refine ls_nil ?_
  refine c_then ?_
  refine c_cond hF rfl (fun hb => ?_) (fun hb => ?_)
  ·
    have H := iteT hb H
    rw [hb] at hF
    clear hb
    refine c_seq ?_
    refine reg_list ?_
    refine ls hF hW rfl ((y_assign hF rfl).q) (fun a w hF hW => ?_)
    refine ls_nil ?_
    refine c_then ?_
    refine wp_ret ?_
    refine r_then ?_
    have H := Option.some.inj H
    subst H
    refine post1 (.inl rfl) hF hW rfl (rv_tmp hF rfl) ?_
    have hW := hW.nilRow 3 (Rp.int .i64)
    exact ⟨(Value.slice none 0 0), rfl, hW⟩
  ·
    have H := iteF (by rw [hb]; decide) H
    rw [hb] at hF
    clear hb
    refine wp_skip ?_
    refine c_then ?_
    refine c_seq ?_
    refine reg_list ?_
    refine ls hF hW rfl ((y_move hF rfl).q) (fun a w hF hW => ?_)
    refine ls hF hW rfl ((y_move hF rfl).q) (fun a w hF hW => ?_)
    obtain ⟨x2, h2, H⟩ := bindE H
    refine l_callG (Ml := []) (Zl := []) (M := []) (Z := []) (β := Value × Value) (rv := fun x => .agg #[x.1, x.2, .int .i64 x2.2.2]) (MM := fun x => []) (ZZ := fun x => [row x.1 3 (Rp.int .i64) x2.1, row x.2 3 (Rp.int .i64) x2.2.1]) hF hW H17 rfl rfl (fun hL => diff_solve_c _ w (v1) p0 p1 _ h2 ((rdc_ro h_v1) w hW).nx) (fun x a w hF hW => ?_)
    obtain ⟨v2, v3⟩ := x
    have hW : Stw ⟨Y, [], w0⟩ [] [row v2 3 (Rp.int .i64) x2.1, row v3 3 (Rp.int .i64) x2.2.1] w := hW
    refine l_alloc (cs := [.slice none 0 0, .slice none 0 0, .int .i64 0]) hF hW rfl Z42 rfl (fun b1 a w hF hW => ?_)
    refine l_store (vs := [v2, v3, .int .i64 x2.2.2]) (M' := [(b1, [v2, v3, .int .i64 x2.2.2])]) 0 hF hW rfl rfl rfl T42 rfl rfl rfl (one_cons (hW.one (k := 0) rfl) (one_cons (hW.one (k := 1) rfl) (one_cons rfl one_nil))) rfl (fun w hW => ?_)
    refine ls_nil ?_
    refine c_then ?_
    refine c_seq ?_
    refine c_seq ?_
    refine reg_list ?_
    refine ls hF hW rfl ((y_fieldAddr Try.underlying42 rfl rfl rfl T3 hF rfl 2 rfl).q) (fun a w hF hW => ?_)
    refine ls hF hW rfl ((y_load (v := Value.int .i64 x2.2.2) 0 hF rfl rfl T3 rfl).q) (fun a w hF hW => ?_)
    refine ls hF hW rfl ((y_lss hF rfl rfl).q) (fun a w hF hW => ?_)
    refine ls_nil ?_
    refine c_then ?_
    refine c_cond hF rfl (fun hb => ?_) (fun hb => ?_)
    ·
      have H := iteT (of_decide_eq_true hb) H
      rw [hb] at hF
      clear hb
      refine c_seq ?_
      refine reg_list ?_
      refine ls hF hW rfl ((y_assign hF rfl).q) (fun a w hF hW => ?_)
      refine ls_nil ?_
      refine c_then ?_
      refine wp_ret ?_
      refine r_then ?_
      have H := Option.some.inj H
      subst H
      refine post1 (.inl rfl) hF hW rfl (rv_tmp hF rfl) ?_
      have hW := hW.nilRow 3 (Rp.int .i64)
      have hW := hW.sub (M' := []) (Z' := [row (Value.slice none 0 0) 3 (Rp.int .i64) ([])]) (List.nil_sublist _) (List.Sublist.cons_cons _ (List.nil_sublist _))
      exact ⟨(Value.slice none 0 0), rfl, hW⟩
    ·
      have H := iteF (of_decide_eq_false hb) H
      rw [hb] at hF
      clear hb
      refine wp_skip ?_
      refine c_then ?_
      refine c_seq ?_
      refine reg_list ?_
      refine ls hF hW rfl ((y_fieldAddr Try.underlying42 rfl rfl rfl T3 hF rfl 2 rfl).q) (fun a w hF hW => ?_)
      refine ls hF hW rfl ((y_load (v := Value.int .i64 x2.2.2) 0 hF rfl rfl T3 rfl).q) (fun a w hF hW => ?_)
      refine ls hF hW rfl ((y_assign hF rfl).q) (fun a w hF hW => ?_)
      refine ls_nil ?_
      refine c_then ?_
      obtain ⟨o1, G1, K1⟩ := bindE H
      refine c_seqJ (fun a w => ∃ x3 : Int, some (x3) = some o1 ∧ Fr 72 [] [(1, v1), (4, .slice none 0 0), (5, .pointer (some ⟨b1, 0, none⟩)), (6, .int .i64 x3)] a ∧ Stw ⟨Y, [], w0⟩ [(b1, [v2, v3, .int .i64 x2.2.2])] [row v2 3 (Rp.int .i64) x2.1, row v3 3 (Rp.int .i64) x2.2.1] w) ?_ ?_
      ·
        have H := G1
        clear G1 K1
        refine c_seq ?_
        refine reg_list ?_
        refine ls hF hW rfl ((y_move hF rfl).q) (fun a w hF hW => ?_)
        refine ls hF hW rfl ((y_move hF rfl).q) (fun a w hF hW => ?_)
        refine ls_nil ?_
        refine c_then ?_
        refine wp_block ?_
        have hW := hW.frontZ (i := 1) rfl rfl
        have hW := hW.frontZ (i := 1) rfl rfl
        refine c_loopW H (fun s a w => Fr 72 [] [(1, v1), (4, .slice none 0 0), (5, .pointer (some ⟨b1, 0, none⟩)), (6, .int .i64 s.1), (21, .int .i64 p0), (22, .int .i64 s.2)] a ∧ Stw ⟨Y, [], w0⟩ [(b1, [v2, v3, .int .i64 x2.2.2])] [row v2 3 (Rp.int .i64) x2.1, row v3 3 (Rp.int .i64) x2.2.1] w) ⟨hF.re ⟨rfl, rfl, rfl, rfl, rfl, rfl, trivial⟩, hW⟩ (fun s o a w H L2 hR => ?_)
        obtain ⟨x4, x5⟩ := s
        obtain ⟨hF, hW⟩ := hR
        have hF : Fr 72 [] [(1, v1), (4, .slice none 0 0), (5, .pointer (some ⟨b1, 0, none⟩)), (6, .int .i64 x4), (21, .int .i64 p0), (22, .int .i64 x5)] a := hF
        have hW : Stw ⟨Y, [], w0⟩ [(b1, [v2, v3, .int .i64 x2.2.2])] [row v2 3 (Rp.int .i64) x2.1, row v3 3 (Rp.int .i64) x2.2.1] w := hW
        rw [diff_Ring_l1] at H
        refine c_seq ?_
        refine reg_list ?_
        refine ls hF hW rfl ((y_lss hF rfl rfl).q) (fun a w hF hW => ?_)
        refine ls_nil ?_
        refine c_then ?_
        refine c_seq ?_
        refine c_cond hF rfl (fun hb => ?_) (fun hb => ?_)
        ·
          have H := iteT (of_decide_eq_true hb) H
          rw [hb] at hF
          clear hb
          refine wp_skip ?_
          refine c_then ?_
          refine c_seq ?_
          refine wp_block ?_
          refine reg_list ?_
          refine ls hF hW rfl ((y_move hF rfl).q) (fun a w hF hW => ?_)
          refine ls hF hW rfl ((y_fieldAddr Try.underlying42 rfl rfl rfl T23 hF rfl 1 rfl).q) (fun a w hF hW => ?_)
          refine ls hF hW rfl ((y_load (v := v3) 0 hF rfl rfl T23 rfl).q) (fun a w hF hW => ?_)
          refine ls hF hW rfl ((y_move hF rfl).q) (fun a w hF hW => ?_)
          obtain ⟨x6, h3, H⟩ := bindE H
          refine ls hF hW rfl ((y_index (r := (Rp.int .i64)) L23 hF rfl rfl (rdc_row 1 rfl) h3).q) (fun a w hF hW => ?_)
          refine ls hF hW rfl ((y_load_el (y := Value.int .i64 x6) (j := 0) (i := x4) hF rfl rfl (rdc_row 1 rfl) h3 Fl.int.to T3 rfl).q) (fun a w hF hW => ?_)
          obtain ⟨x7, h4, H⟩ := bindE H
          refine ls hF hW rfl ((y_index (r := R40) L25 hF rfl rfl (rdc_ro h_v1) h4).q) (fun a w hF hW => ?_)
          refine ls hF hW rfl ((y_fieldAddr Try.underlying40 rfl rfl rfl T3 hF rfl (voff v1 + (x6).toNat * 3) rfl).q) (fun a w hF hW => ?_)
          refine ls hF hW rfl ((y_load_el (y := Value.int .i64 x7.1) (j := 0) (i := x6) hF rfl rfl (rdc_ro h_v1) h4 F40.to T3 rfl).q) (fun a w hF hW => ?_)
          refine ls hF hW rfl ((y_assign hF rfl).q) (fun a w hF hW => ?_)
          refine ls_nil ?_
          refine b_normal ?_
          refine c_then ?_
          refine reg_list ?_
          refine ls hF hW rfl ((y_add hF rfl rfl rfl).q) (fun a w hF hW => ?_)
          refine ls hF hW rfl ((y_move hF rfl).q) (fun a w hF hW => ?_)
          refine ls_nil ?_
          refine c_then ?_
          have hW := hW.frontZ (i := 1) rfl rfl
          have hW := hW.frontZ (i := 1) rfl rfl
          exact ⟨_, H, hF.re ⟨rfl, rfl, rfl, rfl, rfl, rfl, trivial⟩, hW⟩
        ·
          have H := iteF (of_decide_eq_false hb) H
          rw [hb] at hF
          clear hb
          refine wp_exit ?_
          refine e_then ?_
          refine e_then ?_
          refine e_block ?_
          refine c_then ?_
          have hW := hW.frontZ (i := 1) rfl rfl
          have hW := hW.frontZ (i := 1) rfl rfl
          have H := L2 _ H
          exact ⟨_, H, hF.re ⟨rfl, rfl, rfl, rfl, trivial⟩, hW⟩
      rintro a w ⟨x3, hj, hF, hW⟩
      have hj := Option.some.inj hj
      subst hj
      have H := K1
      clear G1 K1
      refine c_seq ?_
      refine reg_list ?_
      refine ls hF hW rfl ((y_fieldAddr Try.underlying42 rfl rfl rfl T23 hF rfl 1 rfl).q) (fun a w hF hW => ?_)
      refine ls hF hW rfl ((y_load (v := v3) 0 hF rfl rfl T23 rfl).q) (fun a w hF hW => ?_)
      refine ls hF hW rfl ((y_move hF rfl).q) (fun a w hF hW => ?_)
      obtain ⟨x8, h5, H⟩ := bindE H
      refine ls hF hW rfl ((y_index (r := (Rp.int .i64)) L23 hF rfl rfl (rdc_row 1 rfl) h5).q) (fun a w hF hW => ?_)
      refine ls hF hW rfl ((y_load_el (y := Value.int .i64 x8) (j := 0) (i := x3) hF rfl rfl (rdc_row 1 rfl) h5 Fl.int.to T3 rfl).q) (fun a w hF hW => ?_)
      refine l_lit (z := Value.int .i64 0) (cs := [.int .i64 x8]) (Rp.int .i64) ([x8] : List Int) hF hW rfl L23 Z3 rfl rfl rfl rfl rfl rfl (Fl.int.repL _ _ ([x8] : List Int)) (fun v4 a w hF hW => ?_)
      refine ls hF hW rfl ((y_assign hF rfl).q) (fun a w hF hW => ?_)
      refine ls_nil ?_
      refine c_then ?_
      obtain ⟨o3, G3, K3⟩ := bindE H
      refine c_seqJ (fun a w => ∃ x9 : List Int, ∃ v5 : Value, some (x9) = some o3 ∧ Fr 72 [] [(4, .slice none 0 0), (7, v5)] a ∧ Stw ⟨Y, [], w0⟩ [(b1, [v2, v3, .int .i64 x2.2.2])] [row v5 3 (Rp.int .i64) x9, row v2 3 (Rp.int .i64) x2.1, row v3 3 (Rp.int .i64) x2.2.1] w) ?_ ?_
      ·
        have H := G3
        clear G3 K3
        refine c_seq ?_
        refine reg_list ?_
        refine ls hF hW rfl ((y_move hF rfl).q) (fun a w hF hW => ?_)
        refine ls hF hW rfl ((y_fieldAddr Try.underlying42 rfl rfl rfl T23 hF rfl 1 rfl).q) (fun a w hF hW => ?_)
        refine ls hF hW rfl ((y_load (v := v3) 0 hF rfl rfl T23 rfl).q) (fun a w hF hW => ?_)
        refine ls hF hW rfl ((y_move hF rfl).q) (fun a w hF hW => ?_)
        obtain ⟨x10, h6, H⟩ := bindE H
        refine ls hF hW rfl ((y_index (r := (Rp.int .i64)) L23 hF rfl rfl (rdc_row 2 rfl) h6).q) (fun a w hF hW => ?_)
        refine ls hF hW rfl ((y_load_el (y := Value.int .i64 x10) (j := 0) (i := x3) hF rfl rfl (rdc_row 2 rfl) h6 Fl.int.to T3 rfl).q) (fun a w hF hW => ?_)
        obtain ⟨x11, h7, H⟩ := bindE H
        refine ls hF hW rfl ((y_index (r := R40) L25 hF rfl rfl (rdc_ro h_v1) h7).q) (fun a w hF hW => ?_)
        refine ls hF hW rfl ((y_fieldAddr Try.underlying40 rfl rfl rfl T3 hF rfl (voff v1 + (x10).toNat * 3) rfl).q) (fun a w hF hW => ?_)
        refine ls hF hW rfl ((y_load_el (y := Value.int .i64 x11.1) (j := 0) (i := x10) hF rfl rfl (rdc_ro h_v1) h7 F40.to T3 rfl).q) (fun a w hF hW => ?_)
        refine ls hF hW rfl ((y_assign hF rfl).q) (fun a w hF hW => ?_)
        refine ls_nil ?_
        refine c_then ?_
        refine wp_block ?_
        have hW := hW.frontZ (i := 2) rfl rfl
        have hW := hW.frontZ (i := 2) rfl rfl
        have hW := hW.frontZ (i := 2) rfl rfl
        refine c_loopW H (fun s a w => ∃ v6 : Value, Fr 72 [] [(1, v1), (4, .slice none 0 0), (5, .pointer (some ⟨b1, 0, none⟩)), (6, .int .i64 x3), (7, v6), (8, .int .i64 s.2)] a ∧ Stw ⟨Y, [], w0⟩ [(b1, [v2, v3, .int .i64 x2.2.2])] [row v6 3 (Rp.int .i64) s.1, row v2 3 (Rp.int .i64) x2.1, row v3 3 (Rp.int .i64) x2.2.1] w) ⟨(v4), hF.re ⟨rfl, rfl, rfl, rfl, rfl, rfl, trivial⟩, hW⟩ (fun s o a w H L4 hR => ?_)
        obtain ⟨x12, x13⟩ := s
        obtain ⟨v6, hF, hW⟩ := hR
        have hF : Fr 72 [] [(1, v1), (4, .slice none 0 0), (5, .pointer (some ⟨b1, 0, none⟩)), (6, .int .i64 x3), (7, v6), (8, .int .i64 x13)] a := hF
        have hW : Stw ⟨Y, [], w0⟩ [(b1, [v2, v3, .int .i64 x2.2.2])] [row v6 3 (Rp.int .i64) x12, row v2 3 (Rp.int .i64) x2.1, row v3 3 (Rp.int .i64) x2.2.1] w := hW
        rw [diff_Ring_l2] at H
        refine c_seq ?_
        refine c_seq ?_
        refine reg_list ?_
        refine ls hF hW rfl ((y_move hF rfl).q) (fun a w hF hW => ?_)
        refine ls hF hW rfl ((y_move hF rfl).q) (fun a w hF hW => ?_)
        refine ls hF hW rfl ((y_neq hF rfl rfl).q) (fun a w hF hW => ?_)
        refine ls_nil ?_
        refine c_then ?_
        refine c_cond hF rfl (fun hb => ?_) (fun hb => ?_)
        ·
          have H := iteT (of_decide_eq_true hb) H
          rw [hb] at hF
          clear hb
          refine wp_skip ?_
          refine c_then ?_
          refine c_seq ?_
          refine wp_block ?_
          refine reg_list ?_
          refine ls hF hW rfl ((y_move hF rfl).q) (fun a w hF hW => ?_)
          refine ls hF hW rfl ((y_fieldAddr Try.underlying42 rfl rfl rfl T23 hF rfl 1 rfl).q) (fun a w hF hW => ?_)
          refine ls hF hW rfl ((y_load (v := v3) 0 hF rfl rfl T23 rfl).q) (fun a w hF hW => ?_)
          refine ls hF hW rfl ((y_move hF rfl).q) (fun a w hF hW => ?_)
          obtain ⟨x14, h8, H⟩ := bindE H
          refine ls hF hW rfl ((y_index (r := (Rp.int .i64)) L23 hF rfl rfl (rdc_row 2 rfl) h8).q) (fun a w hF hW => ?_)
          refine ls hF hW rfl ((y_load_el (y := Value.int .i64 x14) (j := 0) (i := x13) hF rfl rfl (rdc_row 2 rfl) h8 Fl.int.to T3 rfl).q) (fun a w hF hW => ?_)
          refine l_lit (z := Value.int .i64 0) (cs := [.int .i64 x14]) (Rp.int .i64) ([x14] : List Int) hF hW rfl L23 Z3 rfl rfl rfl rfl rfl rfl (Fl.int.repL _ _ ([x14] : List Int)) (fun v7 a w hF hW => ?_)
          obtain ⟨x15, h9, H⟩ := bindE H
          refine l_append (r := (Rp.int .i64)) (i := 1) hF hW rfl L23 rfl rfl rfl rfl (src_row hW 0 rfl) h9 rfl (fun v8 a w hF hW => ?_)
          have hW : Stw ⟨Y, [], w0⟩ [(b1, [v2, v3, .int .i64 x2.2.2])] [row v8 3 (Rp.int .i64) x15, row v7 3 (Rp.int .i64) ([x14] : List Int), row v2 3 (Rp.int .i64) x2.1, row v3 3 (Rp.int .i64) x2.2.1] w := hW
          refine ls hF hW rfl ((y_assign hF rfl).q) (fun a w hF hW => ?_)
          refine ls_nil ?_
          refine b_normal ?_
          refine c_then ?_
          refine reg_list ?_
          refine ls hF hW rfl ((y_move hF rfl).q) (fun a w hF hW => ?_)
          refine ls hF hW rfl ((y_fieldAddr Try.underlying42 rfl rfl rfl T23 hF rfl 1 rfl).q) (fun a w hF hW => ?_)
          refine ls hF hW rfl ((y_load (v := v3) 0 hF rfl rfl T23 rfl).q) (fun a w hF hW => ?_)
          refine ls hF hW rfl ((y_move hF rfl).q) (fun a w hF hW => ?_)
          obtain ⟨x16, h10, H⟩ := bindE H
          refine ls hF hW rfl ((y_index (r := (Rp.int .i64)) L23 hF rfl rfl (rdc_row 3 rfl) h10).q) (fun a w hF hW => ?_)
          refine ls hF hW rfl ((y_load_el (y := Value.int .i64 x16) (j := 0) (i := x13) hF rfl rfl (rdc_row 3 rfl) h10 Fl.int.to T3 rfl).q) (fun a w hF hW => ?_)
          obtain ⟨x17, h11, H⟩ := bindE H
          refine ls hF hW rfl ((y_index (r := R40) L25 hF rfl rfl (rdc_ro h_v1) h11).q) (fun a w hF hW => ?_)
          refine ls hF hW rfl ((y_fieldAddr Try.underlying40 rfl rfl rfl T3 hF rfl (voff v1 + (x16).toNat * 3) rfl).q) (fun a w hF hW => ?_)
          refine ls hF hW rfl ((y_load_el (y := Value.int .i64 x17.1) (j := 0) (i := x16) hF rfl rfl (rdc_ro h_v1) h11 F40.to T3 rfl).q) (fun a w hF hW => ?_)
          refine ls hF hW rfl ((y_assign hF rfl).q) (fun a w hF hW => ?_)
          refine ls_nil ?_
          refine c_then ?_
          have hW := hW.frontZ (i := 3) rfl rfl
          have hW := hW.frontZ (i := 3) rfl rfl
          have hW := hW.frontZ (i := 2) rfl rfl
          have hW := hW.sub (M' := [(b1, [v2, v3, .int .i64 x2.2.2])]) (Z' := [row v8 3 (Rp.int .i64) x15, row v2 3 (Rp.int .i64) x2.1, row v3 3 (Rp.int .i64) x2.2.1]) (List.Sublist.refl _) (List.Sublist.cons_cons _ (List.Sublist.cons_cons _ (List.Sublist.cons_cons _ (List.nil_sublist _))))
          exact ⟨_, H, (v8), hF.re ⟨rfl, rfl, rfl, rfl, rfl, rfl, trivial⟩, hW⟩
        ·
          have H := iteF (of_decide_eq_false hb) H
          rw [hb] at hF
          clear hb
          refine wp_exit ?_
          refine e_then ?_
          refine e_then ?_
          refine e_block ?_
          refine c_then ?_
          have hW := hW.frontZ (i := 2) rfl rfl
          have hW := hW.frontZ (i := 2) rfl rfl
          have hW := hW.frontZ (i := 2) rfl rfl
          have H := L4 _ H
          exact ⟨_, (v6), H, hF.re ⟨rfl, rfl, trivial⟩, hW⟩
      rintro a w ⟨x9, v5, hj, hF, hW⟩
      have hj := Option.some.inj hj
      subst hj
      have H := K3
      clear G3 K3
      refine c_seq ?_
      refine reg_list ?_
      refine ls hF hW rfl ((y_move hF rfl).q) (fun a w hF hW => ?_)
      obtain ⟨x18, h12, H⟩ := bindE H
      refine l_callG (Ml := []) (Zl := [row v5 3 (Rp.int .i64) x9]) (M := [(b1, [v2, v3, .int .i64 x2.2.2])]) (Z := [row v2 3 (Rp.int .i64) x2.1, row v3 3 (Rp.int .i64) x2.2.1]) (β := Unit) (rv := fun x => .tuple #[]) (MM := fun x => []) (ZZ := fun x => [row v5 3 (Rp.int .i64) x18]) hF hW H20 rfl rfl (fun hL => slices_Reverse_int_int_c _ _ w (v5) x9 _ h12 hL) (fun x a w hF hW => ?_)
      have hW : Stw ⟨Y, [], w0⟩ [(b1, [v2, v3, .int .i64 x2.2.2])] [row v5 3 (Rp.int .i64) x18, row v2 3 (Rp.int .i64) x2.1, row v3 3 (Rp.int .i64) x2.2.1] w := hW
      refine ls_nil ?_
      refine c_then ?_
      refine c_seq ?_
      refine reg_list ?_
      refine ls hF hW rfl ((y_move hF rfl).q) (fun a w hF hW => ?_)
      refine ls hF hW rfl ((y_assign hF rfl).q) (fun a w hF hW => ?_)
      refine ls_nil ?_
      refine c_then ?_
      refine wp_ret ?_
      have H := Option.some.inj H
      subst H
      refine post1 (.inl rfl) hF hW rfl (rv_tmp hF rfl) ?_
      have hW := hW.sub (M' := []) (Z' := [row v5 3 (Rp.int .i64) x18]) (List.nil_sublist _) (List.Sublist.cons_cons _ (List.nil_sublist _))
      exact ⟨(v5), rfl, hW⟩

theorem H16 : Has Try.prog 16 := ⟨fun args w => run_callFunc_body Try.func16 rfl (by decide) args w⟩
noncomputable def L22_awake  : Option Bool := (diff_Earliest 3 ([(0, 1, 5), (1, 2, 3)] : List (Int × Int × Int))).bind fun x1 => (if x1.2 = true then (r13_Same x1.1 ([0, 5, 8] : List Int)).bind fun x3 => (if x3 = true then (diff_Ring 1 ([(0, 0, 1)] : List (Int × Int × Int))).bind fun x4 => some (decide ((x4.length : Int) = 1)) else some false) else some false).bind fun x2 => some x2
theorem L22_awake_c (Y : Nat → Prop) (w0 : World)   (r : Bool) (H : L22_awake  = some r)  :
    Calls Try.prog 6 #[] w0 fun e w' => e = .returned (.bool r) ∧ Below w0.heap.size w0 w' := by
  refine enter Try.func6 rfl Try.ntmps6 rfl (fun a hF => ?_)
  have hW := Stw.start Y w0
  unfold L22_awake at H
  refine c_seq ?_
  refine reg_list ?_
  refine ls hF hW rfl ((y_assign hF rfl).q) (fun a w hF hW => ?_)
  refine ls_nil ?_
  refine c_then ?_
  refine c_seq ?_
  refine reg_list ?_
  refine ls hF hW rfl ((y_build (v := Value.agg #[.int .i64 0, .int .i64 1, .int .i64 5]) B40 hF rfl rfl rfl).q) (fun a w hF hW => ?_)
  refine ls hF hW rfl ((y_build (v := Value.agg #[.int .i64 1, .int .i64 2, .int .i64 3]) B40 hF rfl rfl rfl).q) (fun a w hF hW => ?_)
  refine l_lit (z := Value.agg #[.int .i64 0, .int .i64 0, .int .i64 0]) (cs := [.int .i64 0, .int .i64 1, .int .i64 5, .int .i64 1, .int .i64 2, .int .i64 3]) R40 ([(0, 1, 5), (1, 2, 3)] : List (Int × Int × Int)) hF hW rfl L25 Z40 rfl rfl rfl rfl rfl rfl (F40.repL _ _ ([(0, 1, 5), (1, 2, 3)] : List (Int × Int × Int))) (fun v1 a w hF hW => ?_)
  obtain ⟨x1, h1, H⟩ := bindE H
  refine l_callG (Ml := []) (Zl := []) (M := []) (Z := [row v1 40 R40 ([(0, 1, 5), (1, 2, 3)] : List (Int × Int × Int))]) (β := Value) (rv := fun x => .tuple #[x, .bool x1.2]) (MM := fun x => []) (ZZ := fun x => [row x 3 (Rp.int .i64) x1.1]) hF hW H8 rfl rfl (fun hL => diff_Earliest_c _ w (v1) 3 ([(0, 1, 5), (1, 2, 3)] : List (Int × Int × Int)) _ h1 ((rdc_row 0 rfl) w hW).nx) (fun x a w hF hW => ?_)
  obtain ⟨v2, rfl⟩ : ∃ y, y = x := ⟨x, rfl⟩
  have hW : Stw ⟨Y, [], w0⟩ [] [row v2 3 (Rp.int .i64) x1.1, row v1 40 R40 ([(0, 1, 5), (1, 2, 3)] : List (Int × Int × Int))] w := hW
  refine ls hF hW rfl ((y_move hF rfl).q) (fun a w hF hW => ?_)
  refine ls hF hW rfl ((y_extract (v := v2) hF rfl rfl).q) (fun a w hF hW => ?_)
  refine ls hF hW rfl ((y_extract (v := Value.bool x1.2) hF rfl rfl).q) (fun a w hF hW => ?_)
  refine ls hF hW rfl ((y_assign hF rfl).q) (fun a w hF hW => ?_)
  refine ls hF hW rfl ((y_assign hF rfl).q) (fun a w hF hW => ?_)
  refine ls_nil ?_
  refine c_then ?_
  obtain ⟨o1, G1, K1⟩ := bindE H
  refine c_seqJ (fun a w => ∃ x2 : Bool, some (x2) = some o1 ∧ Fr 23 [] [(0, .bool x2)] a ∧ Stw ⟨Y, [], w0⟩ [] [] w) ?_ ?_
  ·
    have H := G1
    clear G1 K1
    refine reg_list ?_
    refine ls hF hW rfl ((y_move hF rfl).q) (fun a w hF hW => ?_)
    refine ls hF hW rfl ((y_move hF rfl).q) (fun a w hF hW => ?_)
    rcases Bool.eq_false_or_eq_true x1.2 with hb | hb
    ·
      have H := iteT hb H
      rw [hb] at hF
      clear hb
      refine ls_w hF hW (wanted_y hF rfl rfl rfl rfl) rfl (Nat.le_of_ble_eq_true rfl) ((y_move hF rfl).q) (fun a w hF hW => ?_)
      refine ls_g (wanted_y hF rfl rfl rfl rfl) ?_
      refine l_lit (z := Value.int .i64 0) (cs := [.int .i64 0, .int .i64 5, .int .i64 8]) (Rp.int .i64) ([0, 5, 8] : List Int) hF hW rfl L23 Z3 rfl rfl rfl rfl rfl rfl (Fl.int.repL _ _ ([0, 5, 8] : List Int)) (fun v3 a w hF hW => ?_)
      refine ls_g (wanted_y hF rfl rfl rfl rfl) ?_
      obtain ⟨x3, h2, H⟩ := bindE H
      refine ls hF hW rfl (y_call (v := Value.bool x3) hF H12 rfl (fun w hW => r13_Same_c any w (v2) (v3) x1.1 ([0, 5, 8] : List Int) _ h2 (((rdc_row 1 rfl) : Rdc _ _ _ _ _ _) w hW).nx (((rdc_row 0 rfl) : Rdc _ _ _ _ _ _) w hW).nx)) (fun a w hF hW => ?_)
      refine ls hF hW rfl ((y_pick_t hF rfl rfl rfl).q) (fun a w hF hW => ?_)
      refine ls hF hW rfl ((y_move hF rfl).q) (fun a w hF hW => ?_)
      rcases Bool.eq_false_or_eq_true x3 with hb | hb
      ·
        have H := iteT hb H
        rw [hb] at hF
        clear hb
        refine ls_w hF hW (wanted_y hF rfl rfl rfl rfl) rfl (Nat.le_of_ble_eq_true rfl) ((y_build (v := Value.agg #[.int .i64 0, .int .i64 0, .int .i64 1]) B40 hF rfl rfl rfl).q) (fun a w hF hW => ?_)
        refine ls_g (wanted_y hF rfl rfl rfl rfl) ?_
        refine l_lit (z := Value.agg #[.int .i64 0, .int .i64 0, .int .i64 0]) (cs := [.int .i64 0, .int .i64 0, .int .i64 1]) R40 ([(0, 0, 1)] : List (Int × Int × Int)) hF hW rfl L25 Z40 rfl rfl rfl rfl rfl rfl (F40.repL _ _ ([(0, 0, 1)] : List (Int × Int × Int))) (fun v4 a w hF hW => ?_)
        refine ls_g (wanted_y hF rfl rfl rfl rfl) ?_
        obtain ⟨x4, h3, H⟩ := bindE H
        refine l_callG (Ml := []) (Zl := []) (M := []) (Z := [row v4 40 R40 ([(0, 0, 1)] : List (Int × Int × Int)), row v3 3 (Rp.int .i64) ([0, 5, 8] : List Int), row v2 3 (Rp.int .i64) x1.1, row v1 40 R40 ([(0, 1, 5), (1, 2, 3)] : List (Int × Int × Int))]) (β := Value) (rv := fun x => x) (MM := fun x => []) (ZZ := fun x => [row x 3 (Rp.int .i64) x4]) hF hW H16 rfl rfl (fun hL => diff_Ring_c _ w (v4) 1 ([(0, 0, 1)] : List (Int × Int × Int)) _ h3 ((rdc_row 0 rfl) w hW).nx) (fun x a w hF hW => ?_)
        obtain ⟨v5, rfl⟩ : ∃ y, y = x := ⟨x, rfl⟩
        have hW : Stw ⟨Y, [], w0⟩ [] [row v5 3 (Rp.int .i64) x4, row v4 40 R40 ([(0, 0, 1)] : List (Int × Int × Int)), row v3 3 (Rp.int .i64) ([0, 5, 8] : List Int), row v2 3 (Rp.int .i64) x1.1, row v1 40 R40 ([(0, 1, 5), (1, 2, 3)] : List (Int × Int × Int))] w := hW
        refine ls_w hF hW (wanted_y hF rfl rfl rfl rfl) rfl (Nat.le_of_ble_eq_true rfl) ((y_len (r := (Rp.int .i64)) (l := x4) Try.underlying23 rfl hF rfl (rdc_row 0 rfl)).q) (fun a w hF hW => ?_)
        refine ls_w hF hW (wanted_y hF rfl rfl rfl rfl) rfl (Nat.le_of_ble_eq_true rfl) ((y_eql hF rfl rfl).q) (fun a w hF hW => ?_)
        refine ls hF hW rfl ((y_pick_t hF rfl rfl rfl).q) (fun a w hF hW => ?_)
        refine ls hF hW rfl ((y_assign hF rfl).q) (fun a w hF hW => ?_)
        refine ls_nil ?_
        refine c_then ?_
        have hW := hW.sub (M' := []) (Z' := []) (List.Sublist.refl _) (List.nil_sublist _)
        exact ⟨_, H, hF.re ⟨rfl, trivial⟩, hW⟩
      ·
        have H := iteF (by rw [hb]; decide) H
        rw [hb] at hF
        clear hb
        refine ls_skip hF (wanted_n hF rfl rfl rfl rfl rfl) rfl rfl (fun a hF => ?_)
        refine ls_skip hF (wanted_n hF rfl rfl rfl rfl rfl) rfl rfl (fun a hF => ?_)
        refine ls_skip hF (wanted_n hF rfl rfl rfl rfl rfl) rfl rfl (fun a hF => ?_)
        refine ls_skip hF (wanted_n hF rfl rfl rfl rfl rfl) rfl rfl (fun a hF => ?_)
        refine ls_skip hF (wanted_n hF rfl rfl rfl rfl rfl) rfl rfl (fun a hF => ?_)
        refine ls hF hW rfl ((y_pick_f hF rfl rfl rfl).q) (fun a w hF hW => ?_)
        refine ls hF hW rfl ((y_assign hF rfl).q) (fun a w hF hW => ?_)
        refine ls_nil ?_
        refine c_then ?_
        have hW := hW.sub (M' := []) (Z' := []) (List.Sublist.refl _) (List.nil_sublist _)
        exact ⟨_, H, hF.re ⟨rfl, trivial⟩, hW⟩
    ·
      have H := iteF (by rw [hb]; decide) H
      rw [hb] at hF
      clear hb
      refine ls_skip hF (wanted_n hF rfl rfl rfl rfl rfl) rfl rfl (fun a hF => ?_)
      refine ls_skip hF (wanted_n hF rfl rfl rfl rfl rfl) rfl rfl (fun a hF => ?_)
      refine ls_skip hF (wanted_n hF rfl rfl rfl rfl rfl) rfl rfl (fun a hF => ?_)
      refine ls hF hW rfl ((y_pick_f hF rfl rfl rfl).q) (fun a w hF hW => ?_)
      refine ls hF hW rfl ((y_move hF rfl).q) (fun a w hF hW => ?_)
      refine ls_skip hF (wanted_n hF rfl rfl rfl rfl rfl) rfl rfl (fun a hF => ?_)
      refine ls_skip hF (wanted_n hF rfl rfl rfl rfl rfl) rfl rfl (fun a hF => ?_)
      refine ls_skip hF (wanted_n hF rfl rfl rfl rfl rfl) rfl rfl (fun a hF => ?_)
      refine ls_skip hF (wanted_n hF rfl rfl rfl rfl rfl) rfl rfl (fun a hF => ?_)
      refine ls_skip hF (wanted_n hF rfl rfl rfl rfl rfl) rfl rfl (fun a hF => ?_)
      refine ls hF hW rfl ((y_pick_f hF rfl rfl rfl).q) (fun a w hF hW => ?_)
      refine ls hF hW rfl ((y_assign hF rfl).q) (fun a w hF hW => ?_)
      refine ls_nil ?_
      refine c_then ?_
      have hW := hW.sub (M' := []) (Z' := []) (List.Sublist.refl _) (List.nil_sublist _)
      exact ⟨_, H, hF.re ⟨rfl, trivial⟩, hW⟩
  rintro a w ⟨x2, hj, hF, hW⟩
  have hj := Option.some.inj hj
  subst hj
  have H := K1
  clear G1 K1
  refine wp_ret ?_
  have H := Option.some.inj H
  subst H
  refine post1 (.inl rfl) hF hW rfl (rv_tmp hF rfl) ?_
  exact ⟨rfl, hW.done⟩

theorem H6 : Has Try.prog 6 := ⟨fun args w => run_callFunc_body Try.func6 rfl (by decide) args w⟩
theorem L22 : Et Try.prog 22 39 3 24 := Et.of Try.underlying22 (by kernel_rfl) (by kernel_rfl) (by kernel_rfl) (by decide)
def E39 (a : Int × Int × Int) : List Value := [.int .i64 a.1, .int .i64 a.2.1, .int .i64 a.2.2]
theorem F39 : Fl R39 E39 := (Fl.pair Fl.int (Fl.pair Fl.int Fl.int))
noncomputable def L22_mine_l1 (p0 : List (Int × Int × Int)) : ((List (Int × Int × Int)) × Int) → Option (((List (Int × Int × Int)) × Int) ⊕ (List (Int × Int × Int)))
  | (x2, x3) => (if x3 < (p0.length : Int) then (ix p0 x3).bind fun x4 => (ix p0 x3).bind fun x5 => (ix p0 x3).bind fun x6 => (app x2 ([(x4.1, x5.2.1, x6.2.2)] : List (Int × Int × Int))).bind fun x7 => some (.inl (x7, w64 (x3 + 1))) else some (.inr x2))
noncomputable def L22_mine (p0 : List (Int × Int × Int)) : Option (List (Int × Int × Int)) := (loopW (L22_mine_l1 p0) ([], 0)).bind fun x1 => some x1
theorem L22_mine_c (Y : Nat → Prop) (w0 : World) (v1 : Value) (p0 : List (Int × Int × Int)) (r : (List (Int × Int × Int))) (H : L22_mine p0 = some r) (h_v1 : Sl w0 (NX []) R39 v1 p0) :
    Calls Try.prog 7 #[v1] w0 fun e w' => ∃ x : Value, e = .returned (x) ∧ Stw ⟨Y, [], w0⟩ [] [row (x) 40 R40 r] w' := by
  refine enter Try.func7 rfl Try.ntmps7 rfl (fun a hF => ?_)
  have hW := Stw.start Y w0
  unfold L22_mine at H
  refine c_seq ?_
  refine reg_list ?_
  refine ls hF hW rfl ((y_assign hF rfl).q) (fun a w hF hW => ?_)
  refine ls_nil ?_
  refine c_then ?_
  refine c_seq ?_
  refine reg_list ?_
  refine ls hF hW rfl ((y_assign hF rfl).q) (fun a w hF hW => ?_)
  refine ls_nil ?_
  refine c_then ?_
  obtain ⟨o1, G1, K1⟩ := bindE H
  refine c_seqJ (fun a w => ∃ x1 : List (Int × Int × Int), ∃ v2 : Value, some (x1) = some o1 ∧ Fr 31 [] [(2, .slice none 0 0), (3, v2)] a ∧ Stw ⟨Y, [], w0⟩ [] [row v2 40 R40 x1] w) ?_ ?_
  ·
    have H := G1
    clear G1 K1
    refine c_seq ?_
    refine reg_list ?_
    refine ls hF hW rfl ((y_assign hF rfl).q) (fun a w hF hW => ?_)
    refine ls_nil ?_
    refine c_then ?_
    refine wp_block ?_
    have hW := hW.nilRow 40 R40
    refine c_loopW H (fun s a w => ∃ v3 : Value, Fr 31 [] [(0, v1), (2, .slice none 0 0), (3, v3), (4, .int .i64 s.2)] a ∧ Stw ⟨Y, [], w0⟩ [] [row v3 40 R40 s.1] w) ⟨(Value.slice none 0 0), hF.re ⟨rfl, rfl, rfl, rfl, trivial⟩, hW⟩ (fun s o a w H L2 hR => ?_)
    obtain ⟨x2, x3⟩ := s
    obtain ⟨v3, hF, hW⟩ := hR
    have hF : Fr 31 [] [(0, v1), (2, .slice none 0 0), (3, v3), (4, .int .i64 x3)] a := hF
    have hW : Stw ⟨Y, [], w0⟩ [] [row v3 40 R40 x2] w := hW
    rw [L22_mine_l1] at H
    refine c_seq ?_
    refine c_seq ?_
    refine reg_list ?_
    refine ls hF hW rfl ((y_move hF rfl).q) (fun a w hF hW => ?_)
    refine ls hF hW rfl ((y_move hF rfl).q) (fun a w hF hW => ?_)
    refine ls hF hW rfl ((y_len (r := R39) (l := p0) Try.underlying22 rfl hF rfl (rdc_ro h_v1)).q) (fun a w hF hW => ?_)
    refine ls hF hW rfl ((y_lss hF rfl rfl).q) (fun a w hF hW => ?_)
    refine ls_nil ?_
    refine c_then ?_
    refine c_cond hF rfl (fun hb => ?_) (fun hb => ?_)
    ·
      have H := iteT (of_decide_eq_true hb) H
      rw [hb] at hF
      clear hb
      refine wp_skip ?_
      refine c_then ?_
      refine c_seq ?_
      refine wp_block ?_
      refine reg_ord 17 [0] [1, 2, 3, 4, 5, 6, 7, 8, 9, 10, 11, 12, 13, 14, 15, 16] (fun ch a d v w h => by cases d <;> exact h) hW MO (by kernel_rfl) ?_
      refine hm hF rfl rfl rfl (fun a hF => ?_)
      refine hm_end ?_
      refine hs hF rfl rfl rfl ((y_move hF rfl).q) (fun a hF => ?_)
      refine hs hF rfl rfl rfl ((y_move hF rfl).q) (fun a hF => ?_)
      obtain ⟨x4, h1, H⟩ := bindE H
      refine hs hF rfl rfl rfl ((y_index (r := R39) L22 hF rfl rfl (rdc_ro h_v1) h1).q) (fun a hF => ?_)
      refine hs hF rfl rfl rfl ((y_fieldAddr Try.underlying39 rfl rfl rfl T3 hF rfl (voff v1 + (x3).toNat * 3) rfl).q) (fun a hF => ?_)
      refine hs hF rfl rfl rfl ((y_load_el (y := Value.int .i64 x4.1) (j := 0) (i := x3) hF rfl rfl (rdc_ro h_v1) h1 F39.to T3 rfl).q) (fun a hF => ?_)
      refine hs hF rfl rfl rfl ((y_move hF rfl).q) (fun a hF => ?_)
      refine hs hF rfl rfl rfl ((y_move hF rfl).q) (fun a hF => ?_)
      obtain ⟨x5, h2, H⟩ := bindE H
      refine hs hF rfl rfl rfl ((y_index (r := R39) L22 hF rfl rfl (rdc_ro h_v1) h2).q) (fun a hF => ?_)
      refine hs hF rfl rfl rfl ((y_fieldAddr Try.underlying39 rfl rfl rfl T3 hF rfl (voff v1 + (x3).toNat * 3 + 1) rfl).q) (fun a hF => ?_)
      refine hs hF rfl rfl rfl ((y_load_el (y := Value.int .i64 x5.2.1) (j := 1) (i := x3) hF rfl rfl (rdc_ro h_v1) h2 F39.to T3 rfl).q) (fun a hF => ?_)
      refine hs hF rfl rfl rfl ((y_move hF rfl).q) (fun a hF => ?_)
      refine hs hF rfl rfl rfl ((y_move hF rfl).q) (fun a hF => ?_)
      obtain ⟨x6, h3, H⟩ := bindE H
      refine hs hF rfl rfl rfl ((y_index (r := R39) L22 hF rfl rfl (rdc_ro h_v1) h3).q) (fun a hF => ?_)
      refine hs hF rfl rfl rfl ((y_fieldAddr Try.underlying39 rfl rfl rfl T3 hF rfl (voff v1 + (x3).toNat * 3 + 2) rfl).q) (fun a hF => ?_)
      refine hs hF rfl rfl rfl ((y_load_el (y := Value.int .i64 x6.2.2) (j := 2) (i := x3) hF rfl rfl (rdc_ro h_v1) h3 F39.to T3 rfl).q) (fun a hF => ?_)
      refine hs hF rfl rfl rfl ((y_build (v := Value.agg #[.int .i64 x4.1, .int .i64 x5.2.1, .int .i64 x6.2.2]) B40 hF rfl rfl rfl).q) (fun a hF => ?_)
      refine h_end (fun w hW => ?_)
      have hW : Stw ⟨Y, [], w0⟩ [] [row v3 40 R40 x2] w := hW
      refine l_lit (z := Value.agg #[.int .i64 0, .int .i64 0, .int .i64 0]) (cs := [.int .i64 x4.1, .int .i64 x5.2.1, .int .i64 x6.2.2]) R40 ([(x4.1, x5.2.1, x6.2.2)] : List (Int × Int × Int)) hF hW rfl L25 Z40 rfl rfl rfl rfl rfl rfl (F40.repL _ _ ([(x4.1, x5.2.1, x6.2.2)] : List (Int × Int × Int))) (fun v4 a w hF hW => ?_)
      obtain ⟨x7, h4, H⟩ := bindE H
      refine l_append (r := R40) (i := 1) hF hW rfl L25 rfl rfl rfl rfl (src_row hW 0 rfl) h4 rfl (fun v5 a w hF hW => ?_)
      have hW : Stw ⟨Y, [], w0⟩ [] [row v5 40 R40 x7, row v4 40 R40 ([(x4.1, x5.2.1, x6.2.2)] : List (Int × Int × Int))] w := hW
      refine ls hF hW rfl ((y_assign hF rfl).q) (fun a w hF hW => ?_)
      refine ls_nil ?_
      refine b_normal ?_
      refine c_then ?_
      refine reg_list ?_
      refine ls hF hW rfl ((y_move hF rfl).q) (fun a w hF hW => ?_)
      refine ls hF hW rfl ((y_add hF rfl rfl rfl).q) (fun a w hF hW => ?_)
      refine ls hF hW rfl ((y_assign hF rfl).q) (fun a w hF hW => ?_)
      refine ls_nil ?_
      refine c_then ?_
      have hW := hW.sub (M' := []) (Z' := [row v5 40 R40 x7]) (List.Sublist.refl _) (List.Sublist.cons_cons _ (List.nil_sublist _))
      exact ⟨_, H, (v5), hF.re ⟨rfl, rfl, rfl, rfl, trivial⟩, hW⟩
    ·
      have H := iteF (of_decide_eq_false hb) H
      rw [hb] at hF
      clear hb
      refine wp_exit ?_
      refine e_then ?_
      refine e_then ?_
      refine e_block ?_
      refine c_then ?_
      have H := L2 _ H
      exact ⟨_, (v3), H, hF.re ⟨rfl, rfl, trivial⟩, hW⟩
  rintro a w ⟨x1, v2, hj, hF, hW⟩
  have hj := Option.some.inj hj
  subst hj
  have H := K1
  clear G1 K1
  refine c_seq ?_
  refine reg_list ?_
  refine ls hF hW rfl ((y_move hF rfl).q) (fun a w hF hW => ?_)
  refine ls hF hW rfl ((y_assign hF rfl).q) (fun a w hF hW => ?_)
  refine ls_nil ?_
  refine c_then ?_
  refine wp_ret ?_
  have H := Option.some.inj H
  subst H
  refine post1 (.inl rfl) hF hW rfl (rv_tmp hF rfl) ?_
  exact ⟨(v2), rfl, hW⟩

end Go.Proofs.Ytnhoakboblfliaa
