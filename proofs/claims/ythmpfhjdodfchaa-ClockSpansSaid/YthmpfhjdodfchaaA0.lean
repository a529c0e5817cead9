/- The functions of layer 14, lifted. Conditions: none. -/
import Derived.Test.YthmpfhjdodfchaaRows
import Derived.Test.YthmpfhjdodfchaaOR
namespace Go.Proofs.Ythmpfhjdodfchaa
open Go Go.RowKit
set_option linter.unusedVariables false
set_option linter.unusedSimpArgs false
set_option maxRecDepth 20000
abbrev R32 : Rp (Int × Int × Int) := (Rp.pair (Rp.int .i64) (Rp.pair (Rp.int .i64) (Rp.int .i64)))
theorem B48 : Bt Try.prog 48 [.int .i64 0, .int .i64 0, .slice none 0 0] [(0, 1), (1, 1), (2, 1)] := ⟨⟨.agg #[.int .i64 0, .int .i64 0, .slice none 0 0], by kernel_rfl, rfl⟩, ⟨_, Try.underlying48, fun w => by kernel_rfl⟩⟩
theorem L22 : Et Try.prog 22 3 1 8 := Et.of Try.underlying22 (by kernel_rfl) (by kernel_rfl) (by kernel_rfl) (by decide)
theorem T3 : Ty Try.prog 3 false 1 := ⟨by kernel_rfl, by kernel_rfl⟩
theorem T46 : Ty Try.prog 46 false 1 := ⟨by kernel_rfl, by kernel_rfl⟩
theorem B50 : Bt Try.prog 50 [.int .i64 0, .int .i64 0, .int .i64 0] [(0, 1), (1, 1), (2, 1)] := ⟨⟨.agg #[.int .i64 0, .int .i64 0, .int .i64 0], by kernel_rfl, rfl⟩, ⟨_, Try.underlying50, fun w => by kernel_rfl⟩⟩
theorem Z50 : (Try.prog.info? 50).bind (·.zero) = some (.agg #[.int .i64 0, .int .i64 0, .int .i64 0]) := by kernel_rfl
abbrev R50 : Rp (Int × Int × Int) := (Rp.pair (Rp.int .i64) (Rp.pair (Rp.int .i64) (Rp.int .i64)))
def E50 (a : Int × Int × Int) : List Value := [.int .i64 a.1, .int .i64 a.2.1, .int .i64 a.2.2]
theorem F50 : Fl R50 E50 := (Fl.pair Fl.int (Fl.pair Fl.int Fl.int))
theorem L46 : Et Try.prog 46 50 3 24 := Et.of Try.underlying46 (by kernel_rfl) (by kernel_rfl) (by kernel_rfl) (by decide)
noncomputable def clock_New_l1 (p0 : List Int) : (Int × (List (Int × Int × Int))) → Option ((Int × (List (Int × Int × Int))) ⊕ ((List (Int × Int × Int)) ⊕ ((Int × Int × (List (Int × Int × Int))) ⊕ Unit)))
  | (x2, x3) => (if x2 < (p0.length : Int) then (ix p0 x2).bind fun x4 => (if (decide (x4 < (-1048576)) || decide (1048576 < x4)) = true then some (.inr (.inr (.inr ()))) else (app x3 ([(x4, 0, 0)] : List (Int × Int × Int))).bind fun x5 => some (.inl (w64 (x2 + 1), x5))) else some (.inr (.inl x3)))
noncomputable def clock_New (p0 : List Int) (p1 : Int) : Option ((Int × Int × (List (Int × Int × Int))) ⊕ Unit) := (if (decide ((p0.length : Int) < 1) || (decide (8 < (p0.length : Int)) || (decide (p1 < 0) || decide (500 < p1)))) = true then some (.inr ()) else orR (loopW (clock_New_l1 p0) (0, [])) fun x1 => some (.inl (0, p1, x1)))
theorem clock_New_c (Y : Nat → Prop) (w0 : World) (v1 : Value) (p0 : List Int) (p1 : Int) (r : (Int × Int × (List (Int × Int × Int))) ⊕ Unit) (H : clock_New p0 p1 = some r) (h_v1 : Sl w0 (NX []) (Rp.int .i64) v1 p0) :
    Calls Try.prog 7 #[v1, .int .i64 p1] w0 fun e w' => altP r (fun r => ∃ x : Nat × Value, e = .returned (.tuple #[.pointer (some ⟨x.1, 0, none⟩), .int .i64 0]) ∧ Stw ⟨Y, [], w0⟩ [(x.1, [.int .i64 r.1, .int .i64 r.2.1, x.2])] [row (x.2) 50 R50 r.2.2] w') (fun r => ∃ x : Unit, e = .returned (.tuple #[.pointer none, .int .i64 2]) ∧ Stw ⟨Y, [], w0⟩ [] [] w') := by
  refine enter Try.func7 rfl Try.ntmps7 rfl (fun a hF => ?_)
  have hW := Stw.start Y w0
  unfold clock_New at H
  refine c_seq ?_
  refine reg_list ?_
  refine ls hF hW rfl ((y_assign hF rfl).q) (fun a w hF hW => ?_)
  refine ls hF hW rfl ((y_assign hF rfl).q) (fun a w hF hW => ?_)
  refine ls_nil ?_
  refine c_then ?_
  refine c_seq ?_
  refine c_seqJ (fun a w => Fr 53 [] [(0, v1), (1, .int .i64 p1), (4, .pointer none), (5, .int .i64 0), (24, .bool (decide ((p0.length : Int) < 1) || (decide (8 < (p0.length : Int)) || (decide (p1 < 0) || decide (500 < p1)))))] a ∧ Stw ⟨Y, [], w0⟩ [] [] w) ?_ ?_
  ·
    refine reg_list ?_
    refine ls hF hW rfl ((y_move hF rfl).q) (fun a w hF hW => ?_)
    refine ls hF hW rfl ((y_len (r := (Rp.int .i64)) (l := p0) Try.underlying22 rfl hF rfl (rdc_ro h_v1)).q) (fun a w hF hW => ?_)
    refine ls hF hW rfl ((y_lss hF rfl rfl).q) (fun a w hF hW => ?_)
    refine ls hF hW rfl ((y_move hF rfl).q) (fun a w hF hW => ?_)
    rcases Bool.eq_false_or_eq_true (decide ((p0.length : Int) < 1)) with hb0 | hb0
    ·
      rw [hb0] at hF
      refine ls_skip hF (wanted_n hF rfl rfl rfl rfl rfl) rfl rfl (fun a hF => ?_)
      refine ls_skip hF (wanted_n hF rfl rfl rfl rfl rfl) rfl rfl (fun a hF => ?_)
      refine ls_skip hF (wanted_n hF rfl rfl rfl rfl rfl) rfl rfl (fun a hF => ?_)
      refine ls hF hW rfl ((y_pick_t hF rfl rfl rfl).q) (fun a w hF hW => ?_)
      refine ls hF hW rfl ((y_move hF rfl).q) (fun a w hF hW => ?_)
      refine ls_skip hF (wanted_n hF rfl rfl rfl rfl rfl) rfl rfl (fun a hF => ?_)
      refine ls_skip hF (wanted_n hF rfl rfl rfl rfl rfl) rfl rfl (fun a hF => ?_)
      refine ls hF hW rfl ((y_pick_t hF rfl rfl rfl).q) (fun a w hF hW => ?_)
      refine ls hF hW rfl ((y_move hF rfl).q) (fun a w hF hW => ?_)
      refine ls_skip hF (wanted_n hF rfl rfl rfl rfl rfl) rfl rfl (fun a hF => ?_)
      refine ls_skip hF (wanted_n hF rfl rfl rfl rfl rfl) rfl rfl (fun a hF => ?_)
      refine ls hF hW rfl ((y_pick_t hF rfl rfl rfl).q) (fun a w hF hW => ?_)
      refine ls_nil ?_
      refine c_then ?_
      exact ⟨hF.re ⟨rfl, rfl, rfl, rfl, (by show some (Value.bool true) = some (Value.bool (decide ((p0.length : Int) < 1) || (decide (8 < (p0.length : Int)) || (decide (p1 < 0) || decide (500 < p1))))); try rw [hb0]; all_goals simp only [Bool.not_true, Bool.not_false, Bool.true_and, Bool.false_and, Bool.true_or, Bool.false_or, Bool.and_true, Bool.or_false, cond_true, cond_false]), trivial⟩, hW⟩
    ·
      rw [hb0] at hF
      refine ls_w hF hW (wanted_y hF rfl rfl rfl rfl) rfl (Nat.le_of_ble_eq_true rfl) ((y_move hF rfl).q) (fun a w hF hW => ?_)
      refine ls_w hF hW (wanted_y hF rfl rfl rfl rfl) rfl (Nat.le_of_ble_eq_true rfl) ((y_len (r := (Rp.int .i64)) (l := p0) Try.underlying22 rfl hF rfl (rdc_ro h_v1)).q) (fun a w hF hW => ?_)
      refine ls_w hF hW (wanted_y hF rfl rfl rfl rfl) rfl (Nat.le_of_ble_eq_true rfl) ((y_gtr hF rfl rfl).q) (fun a w hF hW => ?_)
      refine ls hF hW rfl ((y_pick_f hF rfl rfl rfl).q) (fun a w hF hW => ?_)
      refine ls hF hW rfl ((y_move hF rfl).q) (fun a w hF hW => ?_)
      rcases Bool.eq_false_or_eq_true (decide (8 < (p0.length : Int))) with hb1 | hb1
      ·
        rw [hb1] at hF
        refine ls_skip hF (wanted_n hF rfl rfl rfl rfl rfl) rfl rfl (fun a hF => ?_)
        refine ls_skip hF (wanted_n hF rfl rfl rfl rfl rfl) rfl rfl (fun a hF => ?_)
        refine ls hF hW rfl ((y_pick_t hF rfl rfl rfl).q) (fun a w hF hW => ?_)
        refine ls hF hW rfl ((y_move hF rfl).q) (fun a w hF hW => ?_)
        refine ls_skip hF (wanted_n hF rfl rfl rfl rfl rfl) rfl rfl (fun a hF => ?_)
        refine ls_skip hF (wanted_n hF rfl rfl rfl rfl rfl) rfl rfl (fun a hF => ?_)
        refine ls hF hW rfl ((y_pick_t hF rfl rfl rfl).q) (fun a w hF hW => ?_)
        refine ls_nil ?_
        refine c_then ?_
        exact ⟨hF.re ⟨rfl, rfl, rfl, rfl, (by show some (Value.bool true) = some (Value.bool (decide ((p0.length : Int) < 1) || (decide (8 < (p0.length : Int)) || (decide (p1 < 0) || decide (500 < p1))))); try rw [hb0]; try rw [hb1]; all_goals simp only [Bool.not_true, Bool.not_false, Bool.true_and, Bool.false_and, Bool.true_or, Bool.false_or, Bool.and_true, Bool.or_false, cond_true, cond_false]), trivial⟩, hW⟩
      ·
        rw [hb1] at hF
        refine ls_w hF hW (wanted_y hF rfl rfl rfl rfl) rfl (Nat.le_of_ble_eq_true rfl) ((y_move hF rfl).q) (fun a w hF hW => ?_)
        refine ls_w hF hW (wanted_y hF rfl rfl rfl rfl) rfl (Nat.le_of_ble_eq_true rfl) ((y_lss hF rfl rfl).q) (fun a w hF hW => ?_)
        refine ls hF hW rfl ((y_pick_f hF rfl rfl rfl).q) (fun a w hF hW => ?_)
        refine ls hF hW rfl ((y_move hF rfl).q) (fun a w hF hW => ?_)
        rcases Bool.eq_false_or_eq_true (decide (p1 < 0)) with hb2 | hb2
        ·
          rw [hb2] at hF
          refine ls_skip hF (wanted_n hF rfl rfl rfl rfl rfl) rfl rfl (fun a hF => ?_)
          refine ls_skip hF (wanted_n hF rfl rfl rfl rfl rfl) rfl rfl (fun a hF => ?_)
          refine ls hF hW rfl ((y_pick_t hF rfl rfl rfl).q) (fun a w hF hW => ?_)
          refine ls_nil ?_
          refine c_then ?_
          exact ⟨hF.re ⟨rfl, rfl, rfl, rfl, (by show some (Value.bool true) = some (Value.bool (decide ((p0.length : Int) < 1) || (decide (8 < (p0.length : Int)) || (decide (p1 < 0) || decide (500 < p1))))); try rw [hb0]; try rw [hb1]; try rw [hb2]; all_goals simp only [Bool.not_true, Bool.not_false, Bool.true_and, Bool.false_and, Bool.true_or, Bool.false_or, Bool.and_true, Bool.or_false, cond_true, cond_false]), trivial⟩, hW⟩
        ·
          rw [hb2] at hF
          refine ls_w hF hW (wanted_y hF rfl rfl rfl rfl) rfl (Nat.le_of_ble_eq_true rfl) ((y_move hF rfl).q) (fun a w hF hW => ?_)
          refine ls_w hF hW (wanted_y hF rfl rfl rfl rfl) rfl (Nat.le_of_ble_eq_true rfl) ((y_gtr hF rfl rfl).q) (fun a w hF hW => ?_)
          refine ls hF hW rfl ((y_pick_f hF rfl rfl rfl).q) (fun a w hF hW => ?_)
          refine ls_nil ?_
          refine c_then ?_
          exact ⟨hF.re ⟨rfl, rfl, rfl, rfl, (by show some (Value.bool (decide (500 < p1))) = some (Value.bool (decide ((p0.length : Int) < 1) || (decide (8 < (p0.length : Int)) || (decide (p1 < 0) || decide (500 < p1))))); try rw [hb0]; try rw [hb1]; try rw [hb2]; all_goals simp only [Bool.not_true, Bool.not_false, Bool.true_and, Bool.false_and, Bool.true_or, Bool.false_or, Bool.and_true, Bool.or_false, cond_true, cond_false]), trivial⟩, hW⟩
  rintro a w ⟨hF, hW⟩
  refine c_cond hF rfl (fun hb => ?_) (fun hb => ?_)
  ·
    have H := iteT hb H
    rw [hb] at hF
    clear hb
    refine c_seq ?_
    refine reg_list ?_
    refine ls hF hW rfl ((y_assign hF rfl).q) (fun a w hF hW => ?_)
    refine ls hF hW rfl ((y_assign hF rfl).q) (fun a w hF hW => ?_)
    refine ls_nil ?_
    refine c_then ?_
    refine wp_ret ?_
    refine r_then ?_
    have H := Option.some.inj H
    subst H
    refine post2 (.inl rfl) hF hW rfl (rv_tmp hF rfl) (rv_tmp hF rfl) ?_
    exact ⟨(), rfl, hW⟩
  ·
    have H := iteF (by rw [hb]; decide) H
    rw [hb] at hF
    clear hb
    refine wp_skip ?_
    refine c_then ?_
    refine c_seq ?_
    refine reg_list ?_
    refine ls hF hW rfl ((y_move hF rfl).q) (fun a w hF hW => ?_)
    refine ls hF hW rfl ((y_build (v := Value.agg #[.int .i64 0, .int .i64 p1, .slice none 0 0]) B48 hF rfl rfl rfl).q) (fun a w hF hW => ?_)
    refine l_box (cs := [.int .i64 0, .int .i64 p1, .slice none 0 0]) hF hW rfl rfl rfl (fun b1 a w hF hW => ?_)
    refine ls hF hW rfl ((y_assign hF rfl).q) (fun a w hF hW => ?_)
    refine ls_nil ?_
    refine c_then ?_
    obtain ⟨o1, G1, K1, L1⟩ := orE H
    refine c_seqJ (fun a w => ∃ x1 : List (Int × Int × Int), ∃ v2 : Value, some (Sum.inl x1) = some o1 ∧ Fr 53 [] [(4, .pointer none), (5, .int .i64 0), (6, .pointer (some ⟨b1, 0, none⟩))] a ∧ Stw ⟨Y, [], w0⟩ [(b1, [.int .i64 0, .int .i64 p1, v2])] [row v2 50 R50 x1] w) ?_ ?_
    ·
      have H := G1
      clear G1 K1
      refine c_seq ?_
      refine reg_list ?_
      refine ls hF hW rfl ((y_move hF rfl).q) (fun a w hF hW => ?_)
      refine ls hF hW rfl ((y_len (r := (Rp.int .i64)) (l := p0) Try.underlying22 rfl hF rfl (rdc_ro h_v1)).q) (fun a w hF hW => ?_)
      refine ls hF hW rfl ((y_move hF rfl).q) (fun a w hF hW => ?_)
      refine ls_nil ?_
      refine c_then ?_
      refine wp_block ?_
      have hW := hW.nilRow 50 R50
      refine c_loopW H (fun s a w => ∃ v3 : Value, Fr 53 [] [(4, .pointer none), (5, .int .i64 0), (6, .pointer (some ⟨b1, 0, none⟩)), (28, v1), (29, .int .i64 (p0.length : Int)), (30, .int .i64 s.1)] a ∧ Stw ⟨Y, [], w0⟩ [(b1, [.int .i64 0, .int .i64 p1, v3])] [row v3 50 R50 s.2] w) ⟨(Value.slice none 0 0), hF.re ⟨rfl, rfl, rfl, rfl, rfl, rfl, trivial⟩, hW⟩ (fun s o a w H L2 hR => ?_)
      obtain ⟨x2, x3⟩ := s
      obtain ⟨v3, hF, hW⟩ := hR
      have hF : Fr 53 [] [(4, .pointer none), (5, .int .i64 0), (6, .pointer (some ⟨b1, 0, none⟩)), (28, v1), (29, .int .i64 (p0.length : Int)), (30, .int .i64 x2)] a := hF
      have hW : Stw ⟨Y, [], w0⟩ [(b1, [.int .i64 0, .int .i64 p1, v3])] [row v3 50 R50 x3] w := hW
      rw [clock_New_l1] at H
      refine c_seq ?_
      refine reg_list ?_
      refine ls hF hW rfl ((y_lss hF rfl rfl).q) (fun a w hF hW => ?_)
      refine ls_nil ?_
      refine c_then ?_
      refine c_seq ?_
      refine c_cond hF rfl (fun hb => ?_) (fun hb => ?_)
      ·
        have H := iteT (of_decide_eq_true hb) H
        rw [hb] at hF
        clear hb
        refine wp_skip ?_
        refine c_then ?_
        refine c_seq ?_
        refine wp_block ?_
        refine c_seq ?_
        refine reg_list ?_
        obtain ⟨x4, h1, H⟩ := bindE H
        refine ls hF hW rfl ((y_index (r := (Rp.int .i64)) L22 hF rfl rfl (rdc_ro h_v1) h1).q) (fun a w hF hW => ?_)
        refine ls hF hW rfl ((y_load_el (y := Value.int .i64 x4) (j := 0) (i := x2) hF rfl rfl (rdc_ro h_v1) h1 Fl.int.to T3 rfl).q) (fun a w hF hW => ?_)
        refine ls hF hW rfl ((y_assign hF rfl).q) (fun a w hF hW => ?_)
        refine ls_nil ?_
        refine c_then ?_
        refine c_seq ?_
        refine c_seqJ (fun a w => Fr 53 [] [(4, .pointer none), (5, .int .i64 0), (6, .pointer (some ⟨b1, 0, none⟩)), (8, .int .i64 x4), (28, v1), (29, .int .i64 (p0.length : Int)), (30, .int .i64 x2), (39, .bool (decide (x4 < (-1048576)) || decide (1048576 < x4)))] a ∧ Stw ⟨Y, [], w0⟩ [(b1, [.int .i64 0, .int .i64 p1, v3])] [row v3 50 R50 x3] w) ?_ ?_
        ·
          refine reg_list ?_
          refine ls hF hW rfl ((y_move hF rfl).q) (fun a w hF hW => ?_)
          refine ls hF hW rfl ((y_lss hF rfl rfl).q) (fun a w hF hW => ?_)
          refine ls hF hW rfl ((y_move hF rfl).q) (fun a w hF hW => ?_)
          rcases Bool.eq_false_or_eq_true (decide (x4 < (-1048576))) with hb0 | hb0
          ·
            rw [hb0] at hF
            refine ls_skip hF (wanted_n hF rfl rfl rfl rfl rfl) rfl rfl (fun a hF => ?_)
            refine ls_skip hF (wanted_n hF rfl rfl rfl rfl rfl) rfl rfl (fun a hF => ?_)
            refine ls hF hW rfl ((y_pick_t hF rfl rfl rfl).q) (fun a w hF hW => ?_)
            refine ls_nil ?_
            refine c_then ?_
            exact ⟨hF.re ⟨rfl, rfl, rfl, rfl, rfl, rfl, rfl, (by show some (Value.bool true) = some (Value.bool (decide (x4 < (-1048576)) || decide (1048576 < x4))); try rw [hb0]; all_goals simp only [Bool.not_true, Bool.not_false, Bool.true_and, Bool.false_and, Bool.true_or, Bool.false_or, Bool.and_true, Bool.or_false, cond_true, cond_false]), trivial⟩, hW⟩
          ·
            rw [hb0] at hF
            refine ls_w hF hW (wanted_y hF rfl rfl rfl rfl) rfl (Nat.le_of_ble_eq_true rfl) ((y_move hF rfl).q) (fun a w hF hW => ?_)
            refine ls_w hF hW (wanted_y hF rfl rfl rfl rfl) rfl (Nat.le_of_ble_eq_true rfl) ((y_gtr hF rfl rfl).q) (fun a w hF hW => ?_)
            refine ls hF hW rfl ((y_pick_f hF rfl rfl rfl).q) (fun a w hF hW => ?_)
            refine ls_nil ?_
            refine c_then ?_
            exact ⟨hF.re ⟨rfl, rfl, rfl, rfl, rfl, rfl, rfl, (by show some (Value.bool (decide (1048576 < x4))) = some (Value.bool (decide (x4 < (-1048576)) || decide (1048576 < x4))); try rw [hb0]; all_goals simp only [Bool.not_true, Bool.not_false, Bool.true_and, Bool.false_and, Bool.true_or, Bool.false_or, Bool.and_true, Bool.or_false, cond_true, cond_false]), trivial⟩, hW⟩
        rintro a w ⟨hF, hW⟩
        refine c_cond hF rfl (fun hb => ?_) (fun hb => ?_)
        ·
          have H := iteT hb H
          rw [hb] at hF
          clear hb
          refine c_seq ?_
          refine reg_list ?_
          refine ls hF hW rfl ((y_assign hF rfl).q) (fun a w hF hW => ?_)
          refine ls hF hW rfl ((y_assign hF rfl).q) (fun a w hF hW => ?_)
          refine ls_nil ?_
          refine c_then ?_
          refine wp_ret ?_
          refine r_then ?_
          refine r_block ?_
          refine r_then ?_
          refine r_then ?_
          refine r_block ?_
          refine r_then ?_
          have H := L2 _ H
          have H := L1 _ H
          have H := Option.some.inj H
          subst H
          refine post2 (.inl rfl) hF hW rfl (rv_tmp hF rfl) (rv_tmp hF rfl) ?_
          have hW := hW.sub (M' := []) (Z' := []) (List.nil_sublist _) (List.nil_sublist _)
          exact ⟨(), rfl, hW⟩
        ·
          have H := iteF (by rw [hb]; decide) H
          rw [hb] at hF
          clear hb
          refine wp_skip ?_
          refine c_then ?_
          refine reg_list ?_
          refine ls hF hW rfl ((y_move hF rfl).q) (fun a w hF hW => ?_)
          refine ls hF hW rfl ((y_move hF rfl).q) (fun a w hF hW => ?_)
          refine ls hF hW rfl ((y_nilCheck hF rfl).q) (fun a w hF hW => ?_)
          refine ls hF hW rfl ((y_fieldAddr Try.underlying48 rfl rfl rfl T46 hF rfl 2 rfl).q) (fun a w hF hW => ?_)
          refine ls hF hW rfl ((y_load (v := v3) 0 hF rfl rfl T46 rfl).q) (fun a w hF hW => ?_)
          refine ls hF hW rfl ((y_move hF rfl).q) (fun a w hF hW => ?_)
          refine ls hF hW rfl ((y_build (v := Value.agg #[.int .i64 x4, .int .i64 0, .int .i64 0]) B50 hF rfl rfl rfl).q) (fun a w hF hW => ?_)
          refine l_lit (z := Value.agg #[.int .i64 0, .int .i64 0, .int .i64 0]) (cs := [.int .i64 x4, .int .i64 0, .int .i64 0]) R50 ([(x4, 0, 0)] : List (Int × Int × Int)) hF hW rfl L46 Z50 rfl rfl rfl rfl rfl rfl (F50.repL _ _ ([(x4, 0, 0)] : List (Int × Int × Int))) (fun v4 a w hF hW => ?_)
          obtain ⟨x5, h2, H⟩ := bindE H
          refine l_append (r := R50) (i := 1) hF hW rfl L46 rfl rfl rfl rfl (src_row hW 0 rfl) h2 rfl (fun v5 a w hF hW => ?_)
          have hW : Stw ⟨Y, [], w0⟩ [(b1, [.int .i64 0, .int .i64 p1, v3])] [row v5 50 R50 x5, row v4 50 R50 ([(x4, 0, 0)] : List (Int × Int × Int))] w := hW
          refine ls hF hW rfl ((y_nilCheck hF rfl).q) (fun a w hF hW => ?_)
          refine ls hF hW rfl ((y_fieldAddr Try.underlying48 rfl rfl rfl T46 hF rfl 2 rfl).q) (fun a w hF hW => ?_)
          refine l_store1 (M' := [(b1, [.int .i64 0, .int .i64 p1, v5])]) 0 hF hW rfl rfl rfl T46 (hW.one (k := 0) rfl) rfl rfl (fun w hW => ?_)
          refine ls_nil ?_
          refine b_normal ?_
          refine c_then ?_
          refine reg_list ?_
          refine ls hF hW rfl ((y_add hF rfl rfl rfl).q) (fun a w hF hW => ?_)
          refine ls hF hW rfl ((y_move hF rfl).q) (fun a w hF hW => ?_)
          refine ls_nil ?_
          refine c_then ?_
          have hW := hW.sub (M' := [(b1, [.int .i64 0, .int .i64 p1, v5])]) (Z' := [row v5 50 R50 x5]) (List.Sublist.refl _) (List.Sublist.cons_cons _ (List.nil_sublist _))
          exact ⟨_, H, (v5), hF.re ⟨rfl, rfl, rfl, rfl, rfl, rfl, trivial⟩, hW⟩
      ·
        have H := iteF (of_decide_eq_false hb) H
        rw [hb] at hF
        clear hb
        refine wp_exit ?_
        refine e_then ?_
        refine e_then ?_
        refine e_block ?_
        refine c_then ?_
        have H := L2 _ H
        exact ⟨_, (v3), H, hF.re ⟨rfl, rfl, rfl, trivial⟩, hW⟩
    rintro a w ⟨x1, v2, hj, hF, hW⟩
    have H := K1 _ hj
    clear hj G1 K1 L1
    refine c_seq ?_
    refine reg_list ?_
    refine ls hF hW rfl ((y_move hF rfl).q) (fun a w hF hW => ?_)
    refine ls hF hW rfl ((y_assign hF rfl).q) (fun a w hF hW => ?_)
    refine ls hF hW rfl ((y_assign hF rfl).q) (fun a w hF hW => ?_)
    refine ls_nil ?_
    refine c_then ?_
    refine wp_ret ?_
    have H := Option.some.inj H
    subst H
    refine post2 (.inl rfl) hF hW rfl (rv_tmp hF rfl) (rv_tmp hF rfl) ?_
    exact ⟨(b1, (v2)), rfl, hW⟩

theorem H7 : Has Try.prog 7 := ⟨fun args w => run_callFunc_body Try.func7 rfl (by decide) args w⟩
def clock_Clocks_has (p0 : Int × Int × (List (Int × Int × Int))) (p1 : Int) : Bool := (decide (0 ≤ p1) && decide (p1 < (p0.2.2.length : Int)))
theorem clock_Clocks_has_c (Y : Nat → Prop) (w0 : World) (q_p0 : Nat) (v1 : Value) (p0 : Int × Int × (List (Int × Int × Int))) (p1 : Int) (r : Bool) (H : clock_Clocks_has p0 p1 = r) (h_v1 : Sl w0 (NX []) R50 v1 p0.2.2) (a_q_p0 : At ⟨Y, [], w0⟩ q_p0 0 [.int .i64 p0.1, .int .i64 p0.2.1, v1]) :
    Calls Try.prog 22 #[.pointer (some ⟨q_p0, 0, none⟩), .int .i64 p1] w0 fun e w' => e = .returned (.bool r) ∧ Below w0.heap.size w0 w' := by
  refine enter Try.func22 rfl Try.ntmps22 rfl (fun a hF => ?_)
  have hW := Stw.start Y w0
  unfold clock_Clocks_has at H
  refine c_seq ?_
  refine reg_list ?_
  refine ls hF hW rfl ((y_assign hF rfl).q) (fun a w hF hW => ?_)
  refine ls_nil ?_
  refine c_then ?_
  refine c_seqJ (fun a w => Fr 20 [] [(4, .bool (decide (0 ≤ p1) && decide (p1 < (p0.2.2.length : Int))))] a ∧ Stw ⟨Y, [], w0⟩ [] [] w) ?_ ?_
  ·
    refine reg_list ?_
    refine ls hF hW rfl ((y_move hF rfl).q) (fun a w hF hW => ?_)
    refine ls hF hW rfl ((y_pne_some_nil Try.underlying24 hF rfl rfl).q) (fun a w hF hW => ?_)
    refine ls hF hW rfl ((y_move hF rfl).q) (fun a w hF hW => ?_)
    refine ls_w hF hW (wanted_y hF rfl rfl rfl rfl) rfl (Nat.le_of_ble_eq_true rfl) ((y_move hF rfl).q) (fun a w hF hW => ?_)
    refine ls_w hF hW (wanted_y hF rfl rfl rfl rfl) rfl (Nat.le_of_ble_eq_true rfl) ((y_geq hF rfl rfl).q) (fun a w hF hW => ?_)
    refine ls hF hW rfl ((y_pick_t hF rfl rfl rfl).q) (fun a w hF hW => ?_)
    refine ls hF hW rfl ((y_move hF rfl).q) (fun a w hF hW => ?_)
    rcases Bool.eq_false_or_eq_true (decide (0 ≤ p1)) with hb0 | hb0
    ·
      rw [hb0] at hF
      refine ls_w hF hW (wanted_y hF rfl rfl rfl rfl) rfl (Nat.le_of_ble_eq_true rfl) ((y_move hF rfl).q) (fun a w hF hW => ?_)
      refine ls_w hF hW (wanted_y hF rfl rfl rfl rfl) rfl (Nat.le_of_ble_eq_true rfl) ((y_move hF rfl).q) (fun a w hF hW => ?_)
      refine ls_w hF hW (wanted_y hF rfl rfl rfl rfl) rfl (Nat.le_of_ble_eq_true rfl) ((y_nilCheck hF rfl).q) (fun a w hF hW => ?_)
      refine ls_w hF hW (wanted_y hF rfl rfl rfl rfl) rfl (Nat.le_of_ble_eq_true rfl) ((y_fieldAddr Try.underlying48 rfl rfl rfl T46 hF rfl 2 rfl).q) (fun a w hF hW => ?_)
      refine ls_w hF hW (wanted_y hF rfl rfl rfl rfl) rfl (Nat.le_of_ble_eq_true rfl) ((y_load_at (y := v1) (j := 2) hF rfl (Nat.zero_add _).symm a_q_p0 T46 rfl).q) (fun a w hF hW => ?_)
      refine ls_w hF hW (wanted_y hF rfl rfl rfl rfl) rfl (Nat.le_of_ble_eq_true rfl) ((y_len (r := R50) (l := p0.2.2) Try.underlying46 rfl hF rfl (rdc_ro h_v1)).q) (fun a w hF hW => ?_)
      refine ls_w hF hW (wanted_y hF rfl rfl rfl rfl) rfl (Nat.le_of_ble_eq_true rfl) ((y_lss hF rfl rfl).q) (fun a w hF hW => ?_)
      refine ls hF hW rfl ((y_pick_t hF rfl rfl rfl).q) (fun a w hF hW => ?_)
      refine ls hF hW rfl ((y_assign hF rfl).q) (fun a w hF hW => ?_)
      refine ls_nil ?_
      refine c_then ?_
      exact ⟨hF.re ⟨(by show some (Value.bool (decide (p1 < (p0.2.2.length : Int)))) = some (Value.bool (decide (0 ≤ p1) && decide (p1 < (p0.2.2.length : Int)))); try rw [hb0]; all_goals simp only [Bool.not_true, Bool.not_false, Bool.true_and, Bool.false_and, Bool.true_or, Bool.false_or, Bool.and_true, Bool.or_false, cond_true, cond_false]), trivial⟩, hW⟩
    ·
      rw [hb0] at hF
      refine ls_skip hF (wanted_n hF rfl rfl rfl rfl rfl) rfl rfl (fun a hF => ?_)
      refine ls_skip hF (wanted_n hF rfl rfl rfl rfl rfl) rfl rfl (fun a hF => ?_)
      refine ls_skip hF (wanted_n hF rfl rfl rfl rfl rfl) rfl rfl (fun a hF => ?_)
      refine ls_skip hF (wanted_n hF rfl rfl rfl rfl rfl) rfl rfl (fun a hF => ?_)
      refine ls_skip hF (wanted_n hF rfl rfl rfl rfl rfl) rfl rfl (fun a hF => ?_)
      refine ls_skip hF (wanted_n hF rfl rfl rfl rfl rfl) rfl rfl (fun a hF => ?_)
      refine ls_skip hF (wanted_n hF rfl rfl rfl rfl rfl) rfl rfl (fun a hF => ?_)
      refine ls hF hW rfl ((y_pick_f hF rfl rfl rfl).q) (fun a w hF hW => ?_)
      refine ls hF hW rfl ((y_assign hF rfl).q) (fun a w hF hW => ?_)
      refine ls_nil ?_
      refine c_then ?_
      exact ⟨hF.re ⟨(by show some (Value.bool false) = some (Value.bool (decide (0 ≤ p1) && decide (p1 < (p0.2.2.length : Int)))); try rw [hb0]; all_goals simp only [Bool.not_true, Bool.not_false, Bool.true_and, Bool.false_and, Bool.true_or, Bool.false_or, Bool.and_true, Bool.or_false, cond_true, cond_false]), trivial⟩, hW⟩
  rintro a w ⟨hF, hW⟩
  refine wp_ret ?_
  subst H
  refine post1 (.inl rfl) hF hW rfl (rv_tmp hF rfl) ?_
  exact ⟨rfl, hW.done⟩

theorem H22 : Has Try.prog 22 := ⟨fun args w => run_callFunc_body Try.func22 rfl (by decide) args w⟩
theorem MO : Try.prog.follows .mixedOrders = true := by kernel_rfl
noncomputable def clock_floorThousandth (p0 : Int) : Option Int := (if (Int.tmod p0 1000) < 0 then some (w64 ((w64 (Int.tdiv p0 1000)) - 1)) else some (w64 (Int.tdiv p0 1000))).bind fun x1 => some x1
theorem clock_floorThousandth_c (Y : Nat → Prop) (w0 : World)  (p0 : Int) (r : Int) (H : clock_floorThousandth p0 = some r)  :
    Calls Try.prog 23 #[.int .i64 p0] w0 fun e w' => e = .returned (.int .i64 r) ∧ Below w0.heap.size w0 w' := by
  refine enter Try.func23 rfl Try.ntmps23 rfl (fun a hF => ?_)
  have hW := Stw.start Y w0
  unfold clock_floorThousandth at H
  refine c_seq ?_
  refine reg_list ?_
  refine ls hF hW rfl ((y_assign hF rfl).q) (fun a w hF hW => ?_)
  refine ls_nil ?_
  refine c_then ?_
  refine c_seq ?_
  refine reg_list ?_
  refine ls hF hW rfl ((y_move hF rfl).q) (fun a w hF hW => ?_)
  refine ls hF hW rfl ((y_quo hF rfl rfl (by decide) rfl).q) (fun a w hF hW => ?_)
  refine ls hF hW rfl ((y_assign hF rfl).q) (fun a w hF hW => ?_)
  refine ls_nil ?_
  refine c_then ?_
  obtain ⟨o1, G1, K1⟩ := bindE H
  refine c_seqJ (fun a w => ∃ x1 : Int, some (x1) = some o1 ∧ Fr 12 [] [(2, .int .i64 0), (3, .int .i64 x1)] a ∧ Stw ⟨Y, [], w0⟩ [] [] w) ?_ ?_
  ·
    have H := G1
    clear G1 K1
    refine c_seq ?_
    refine reg_list ?_
    refine ls hF hW rfl ((y_move hF rfl).q) (fun a w hF hW => ?_)
    refine ls hF hW rfl ((y_rem hF rfl rfl (by decide) rfl).q) (fun a w hF hW => ?_)
    refine ls hF hW rfl ((y_lss hF rfl rfl).q) (fun a w hF hW => ?_)
    refine ls_nil ?_
    refine c_then ?_
    refine c_cond hF rfl (fun hb => ?_) (fun hb => ?_)
    ·
      have H := iteT (of_decide_eq_true hb) H
      rw [hb] at hF
      clear hb
      refine reg_list ?_
      refine ls hF hW rfl ((y_move hF rfl).q) (fun a w hF hW => ?_)
      refine ls hF hW rfl ((y_sub hF rfl rfl rfl).q) (fun a w hF hW => ?_)
      refine ls hF hW rfl ((y_assign hF rfl).q) (fun a w hF hW => ?_)
      refine ls_nil ?_
      refine c_then ?_
      exact ⟨_, H, hF.re ⟨rfl, rfl, trivial⟩, hW⟩
    ·
      have H := iteF (of_decide_eq_false hb) H
      rw [hb] at hF
      clear hb
      refine wp_skip ?_
      refine c_then ?_
      exact ⟨_, H, hF.re ⟨rfl, rfl, trivial⟩, hW⟩
  rintro a w ⟨x1, hj, hF, hW⟩
  have hj := Option.some.inj hj
  subst hj
  have H := K1
  clear G1 K1
  refine c_seq ?_
  refine reg_list ?_
  refine ls hF hW rfl ((y_move hF rfl).q) (fun a w hF hW => ?_)
  refine ls hF hW rfl ((y_assign hF rfl).q) (fun a w hF hW => ?_)
  refine ls_nil ?_
  refine c_then ?_
  refine wp_ret ?_
  have H := Option.some.inj H
  subst H
  refine post1 (.inl rfl) hF hW rfl (rv_tmp hF rfl) ?_
  exact ⟨rfl, hW.done⟩

theorem H23 : Has Try.prog 23 := ⟨fun args w => run_callFunc_body Try.func23 rfl (by decide) args w⟩
noncomputable def clock_Clocks_Apart (p0 : Int × Int × (List (Int × Int × Int))) (p1 : Int) : Option Int := (if (!(clock_Clocks_has p0 p1)) = true then some 0 else (ix p0.2.2 p1).bind fun x1 => (ix p0.2.2 p1).bind fun x2 => (clock_floorThousandth x2.2.2).bind fun x3 => some (w64 (x1.1 + x3)))
theorem clock_Clocks_Apart_c (Y : Nat → Prop) (w0 : World) (q_p0 : Nat) (v1 : Value) (p0 : Int × Int × (List (Int × Int × Int))) (p1 : Int) (r : Int) (H : clock_Clocks_Apart p0 p1 = some r) (h_v1 : Sl w0 (NX []) R50 v1 p0.2.2) (a_q_p0 : At ⟨Y, [], w0⟩ q_p0 0 [.int .i64 p0.1, .int .i64 p0.2.1, v1]) :
    Calls Try.prog 18 #[.pointer (some ⟨q_p0, 0, none⟩), .int .i64 p1] w0 fun e w' => e = .returned (.int .i64 r) ∧ Below w0.heap.size w0 w' := by
  refine enter Try.func18 rfl Try.ntmps18 rfl (fun a hF => ?_)
  have hW := Stw.start Y w0
  unfold clock_Clocks_Apart at H
  refine c_seq ?_
  refine reg_list ?_
  refine ls hF hW rfl ((y_assign hF rfl).q) (fun a w hF hW => ?_)
  refine ls_nil ?_
  refine c_then ?_
  refine c_seq ?_
  refine c_seq ?_
  refine reg_list ?_
  refine ls hF hW rfl ((y_move hF rfl).q) (fun a w hF hW => ?_)
  refine ls hF hW rfl ((y_move hF rfl).q) (fun a w hF hW => ?_)
  refine ls hF hW rfl (y_call (v := Value.bool (clock_Clocks_has p0 p1)) hF H22 rfl (fun w hW => clock_Clocks_has_c any w q_p0 (v1) p0 p1 _ rfl (((rdc_ro h_v1) : Rdc _ _ _ _ _ _) w hW).nx (At.re a_q_p0 hW))) (fun a w hF hW => ?_)
  refine ls hF hW rfl ((y_not hF rfl).q) (fun a w hF hW => ?_)
  refine ls_nil ?_
  refine c_then ?_
  refine c_cond hF rfl (fun hb => ?_) (fun hb => ?_)
  ·
    have H := iteT hb H
    rw [hb] at hF
    clear hb
    refine c_seq ?_
    refine reg_list ?_
    refine ls hF hW rfl ((y_assign hF rfl).q) (fun a w hF hW => ?_)
    refine ls_nil ?_
    refine c_then ?_
    refine wp_ret ?_
    refine r_then ?_
    have H := Option.some.inj H
    subst H
    refine post1 (.inl rfl) hF hW rfl (rv_tmp hF rfl) ?_
    exact ⟨rfl, hW.done⟩
  ·
    have H := iteF (by rw [hb]; decide) H
    rw [hb] at hF
    clear hb
    refine wp_skip ?_
    refine c_then ?_
    refine c_seq ?_
    refine reg_quiet hW MO (by kernel_rfl) ?_
    refine qs hF rfl ((y_move hF rfl).q) (fun a hF => ?_)
    refine qs hF rfl ((y_nilCheck hF rfl).q) (fun a hF => ?_)
    refine qs hF rfl ((y_fieldAddr Try.underlying48 rfl rfl rfl T46 hF rfl 2 rfl).q) (fun a hF => ?_)
    refine qs hF rfl ((y_load_at (y := v1) (j := 2) hF rfl (Nat.zero_add _).symm a_q_p0 T46 rfl).q) (fun a hF => ?_)
    refine qs hF rfl ((y_move hF rfl).q) (fun a hF => ?_)
    obtain ⟨x1, h1, H⟩ := bindE H
    refine qs hF rfl ((y_index (r := R50) L46 hF rfl rfl (rdc_ro h_v1) h1).q) (fun a hF => ?_)
    refine qs hF rfl ((y_fieldAddr Try.underlying50 rfl rfl rfl T3 hF rfl (voff v1 + (p1).toNat * 3) rfl).q) (fun a hF => ?_)
    refine qs hF rfl ((y_load_el (y := Value.int .i64 x1.1) (j := 0) (i := p1) hF rfl rfl (rdc_ro h_v1) h1 F50.to T3 rfl).q) (fun a hF => ?_)
    refine qs hF rfl ((y_move hF rfl).q) (fun a hF => ?_)
    refine qs hF rfl ((y_nilCheck hF rfl).q) (fun a hF => ?_)
    refine qs hF rfl ((y_fieldAddr Try.underlying48 rfl rfl rfl T46 hF rfl 2 rfl).q) (fun a hF => ?_)
    refine qs hF rfl ((y_load_at (y := v1) (j := 2) hF rfl (Nat.zero_add _).symm a_q_p0 T46 rfl).q) (fun a hF => ?_)
    refine qs hF rfl ((y_move hF rfl).q) (fun a hF => ?_)
    obtain ⟨x2, h2, H⟩ := bindE H
    refine qs hF rfl ((y_index (r := R50) L46 hF rfl rfl (rdc_ro h_v1) h2).q) (fun a hF => ?_)
    refine qs hF rfl ((y_fieldAddr Try.underlying50 rfl rfl rfl T3 hF rfl (voff v1 + (p1).toNat * 3 + 2) rfl).q) (fun a hF => ?_)
    refine qs hF rfl ((y_load_el (y := Value.int .i64 x2.2.2) (j := 2) (i := p1) hF rfl rfl (rdc_ro h_v1) h2 F50.to T3 rfl).q) (fun a hF => ?_)
    obtain ⟨x3, h3, H⟩ := bindE H
    refine qs hF rfl (y_call (v := Value.int .i64 x3) hF H23 rfl (fun w hW => clock_floorThousandth_c any w x2.2.2 _ h3)) (fun a hF => ?_)
    refine qs hF rfl ((y_add hF rfl rfl rfl).q) (fun a hF => ?_)
    refine qs hF rfl ((y_assign hF rfl).q) (fun a hF => ?_)
    refine quiet_end (fun w hW => ?_)
    refine c_then ?_
    refine wp_ret ?_
    have H := Option.some.inj H
    subst H
    refine post1 (.inl rfl) hF hW rfl (rv_tmp hF rfl) ?_
    exact ⟨rfl, hW.done⟩

theorem H18 : Has Try.prog 18 := ⟨fun args w => run_callFunc_body Try.func18 rfl (by decide) args w⟩
noncomputable def clock_Clocks_Read (p0 : Int × Int × (List (Int × Int × Int))) (p1 : Int) : Option Int := (if (!(clock_Clocks_has p0 p1)) = true then some 0 else (clock_Clocks_Apart p0 p1).bind fun x1 => some (w64 (p0.1 + x1)))
theorem clock_Clocks_Read_c (Y : Nat → Prop) (w0 : World) (q_p0 : Nat) (v1 : Value) (p0 : Int × Int × (List (Int × Int × Int))) (p1 : Int) (r : Int) (H : clock_Clocks_Read p0 p1 = some r) (h_v1 : Sl w0 (NX []) R50 v1 p0.2.2) (a_q_p0 : At ⟨Y, [], w0⟩ q_p0 0 [.int .i64 p0.1, .int .i64 p0.2.1, v1]) :
    Calls Try.prog 14 #[.pointer (some ⟨q_p0, 0, none⟩), .int .i64 p1] w0 fun e w' => e = .returned (.int .i64 r) ∧ Below w0.heap.size w0 w' := by
  refine enter Try.func14 rfl Try.ntmps14 rfl (fun a hF => ?_)
  have hW := Stw.start Y w0
  unfold clock_Clocks_Read at H
  refine c_seq ?_
  refine reg_list ?_
  refine ls hF hW rfl ((y_assign hF rfl).q) (fun a w hF hW => ?_)
  refine ls_nil ?_
  refine c_then ?_
  refine c_seq ?_
  refine c_seq ?_
  refine reg_list ?_
  refine ls hF hW rfl ((y_move hF rfl).q) (fun a w hF hW => ?_)
  refine ls hF hW rfl ((y_move hF rfl).q) (fun a w hF hW => ?_)
  refine ls hF hW rfl (y_call (v := Value.bool (clock_Clocks_has p0 p1)) hF H22 rfl (fun w hW => clock_Clocks_has_c any w q_p0 (v1) p0 p1 _ rfl (((rdc_ro h_v1) : Rdc _ _ _ _ _ _) w hW).nx (At.re a_q_p0 hW))) (fun a w hF hW => ?_)
  refine ls hF hW rfl ((y_not hF rfl).q) (fun a w hF hW => ?_)
  refine ls_nil ?_
  refine c_then ?_
  refine c_cond hF rfl (fun hb => ?_) (fun hb => ?_)
  ·
    have H := iteT hb H
    rw [hb] at hF
    clear hb
    refine c_seq ?_
    refine reg_list ?_
    refine ls hF hW rfl ((y_assign hF rfl).q) (fun a w hF hW => ?_)
    refine ls_nil ?_
    refine c_then ?_
    refine wp_ret ?_
    refine r_then ?_
    have H := Option.some.inj H
    subst H
    refine post1 (.inl rfl) hF hW rfl (rv_tmp hF rfl) ?_
    exact ⟨rfl, hW.done⟩
  ·
    have H := iteF (by rw [hb]; decide) H
    rw [hb] at hF
    clear hb
    refine wp_skip ?_
    refine c_then ?_
    refine c_seq ?_
    refine reg_quiet hW MO (by kernel_rfl) ?_
    refine qs hF rfl ((y_move hF rfl).q) (fun a hF => ?_)
    refine qs hF rfl ((y_nilCheck hF rfl).q) (fun a hF => ?_)
    refine qs hF rfl ((y_fieldAddr Try.underlying48 rfl rfl rfl T3 hF rfl 0 rfl).q) (fun a hF => ?_)
    refine qs hF rfl ((y_load_at (y := Value.int .i64 p0.1) (j := 0) hF rfl (Nat.zero_add _).symm a_q_p0 T3 rfl).q) (fun a hF => ?_)
    refine qs hF rfl ((y_move hF rfl).q) (fun a hF => ?_)
    refine qs hF rfl ((y_move hF rfl).q) (fun a hF => ?_)
    obtain ⟨x1, h1, H⟩ := bindE H
    refine qs hF rfl (y_call (v := Value.int .i64 x1) hF H18 rfl (fun w hW => clock_Clocks_Apart_c any w q_p0 (v1) p0 p1 _ h1 (((rdc_ro h_v1) : Rdc _ _ _ _ _ _) w hW).nx (At.re a_q_p0 hW))) (fun a hF => ?_)
    refine qs hF rfl ((y_add hF rfl rfl rfl).q) (fun a hF => ?_)
    refine qs hF rfl ((y_assign hF rfl).q) (fun a hF => ?_)
    refine quiet_end (fun w hW => ?_)
    refine c_then ?_
    refine wp_ret ?_
    have H := Option.some.inj H
    subst H
    refine post1 (.inl rfl) hF hW rfl (rv_tmp hF rfl) ?_
    exact ⟨rfl, hW.done⟩

theorem H14 : Has Try.prog 14 := ⟨fun args w => run_callFunc_body Try.func14 rfl (by decide) args w⟩
def clock_Clocks_Real (p0 : Int × Int × (List (Int × Int × Int))) : Int := p0.1
theorem clock_Clocks_Real_c (Y : Nat → Prop) (w0 : World) (q_p0 : Nat) (v1 : Value) (p0 : Int × Int × (List (Int × Int × Int))) (r : Int) (H : clock_Clocks_Real p0 = r) (h_v1 : Sl w0 (NX []) R50 v1 p0.2.2) (a_q_p0 : At ⟨Y, [], w0⟩ q_p0 0 [.int .i64 p0.1, .int .i64 p0.2.1, v1]) :
    Calls Try.prog 16 #[.pointer (some ⟨q_p0, 0, none⟩)] w0 fun e w' => e = .returned (.int .i64 r) ∧ Below w0.heap.size w0 w' := by
  refine enter Try.func16 rfl Try.ntmps16 rfl (fun a hF => ?_)
  have hW := Stw.start Y w0
  unfold clock_Clocks_Real at H
  refine c_seq ?_
  refine reg_list ?_
  refine ls hF hW rfl ((y_assign hF rfl).q) (fun a w hF hW => ?_)
  refine ls_nil ?_
  refine c_then ?_
  refine c_seq ?_
  refine c_seq ?_
  refine reg_list ?_
  refine ls hF hW rfl ((y_move hF rfl).q) (fun a w hF hW => ?_)
  refine ls hF hW rfl ((y_peq_some_nil Try.underlying24 hF rfl rfl).q) (fun a w hF hW => ?_)
  refine ls_nil ?_
  refine c_then ?_
  refine c_cond_f hF rfl ?_
  refine wp_skip ?_
  refine c_then ?_
  refine c_seq ?_
  refine reg_list ?_
  refine ls hF hW rfl ((y_move hF rfl).q) (fun a w hF hW => ?_)
  refine ls hF hW rfl ((y_nilCheck hF rfl).q) (fun a w hF hW => ?_)
  refine ls hF hW rfl ((y_fieldAddr Try.underlying48 rfl rfl rfl T3 hF rfl 0 rfl).q) (fun a w hF hW => ?_)
  refine ls hF hW rfl ((y_load_at (y := Value.int .i64 p0.1) (j := 0) hF rfl (Nat.zero_add _).symm a_q_p0 T3 rfl).q) (fun a w hF hW => ?_)
  refine ls hF hW rfl ((y_assign hF rfl).q) (fun a w hF hW => ?_)
  refine ls_nil ?_
  refine c_then ?_
  refine wp_ret ?_
  subst H
  refine post1 (.inl rfl) hF hW rfl (rv_tmp hF rfl) ?_
  exact ⟨rfl, hW.done⟩

theorem H16 : Has Try.prog 16 := ⟨fun args w => run_callFunc_body Try.func16 rfl (by decide) args w⟩
theorem L23 : Et Try.prog 23 32 3 24 := Et.of Try.underlying23 (by kernel_rfl) (by kernel_rfl) (by kernel_rfl) (by decide)
def E32 (a : Int × Int × Int) : List Value := [.int .i64 a.1, .int .i64 a.2.1, .int .i64 a.2.2]
theorem F32 : Fl R32 E32 := (Fl.pair Fl.int (Fl.pair Fl.int Fl.int))
noncomputable def clock_Clocks_Tick_l1 (p0 : Int × Int × (List (Int × Int × Int))) (p1 : Int) : (Int × (List (Int × Int × Int))) → Option ((Int × (List (Int × Int × Int))) ⊕ (Int × Int × (List (Int × Int × Int))))
  | (x1, x2) => (if x1 < (p0.2.2.length : Int) then (ix x2 x1).bind fun x3 => (ix x2 x1).bind fun x4 => (ix x2 x1).bind fun x5 => some (.inl (w64 (x1 + 1), (setAt x2 x1 (x5.1, x5.2.1, w64 (x3.2.2 + (w64 ((min p1 (w64 (1099511627776 - p0.1))) * x4.2.1))))))) else some (.inr (w64 (p0.1 + (min p1 (w64 (1099511627776 - p0.1)))), p0.2.1, x2)))
noncomputable def clock_Clocks_Tick (p0 : Int × Int × (List (Int × Int × Int))) (p1 : Int) : Option (Int × Int × (List (Int × Int × Int))) := (if p1 < 0 then some p0 else loopW (clock_Clocks_Tick_l1 p0 p1) (0, p0.2.2))
theorem clock_Clocks_Tick_c (Y : Nat → Prop) (X : List Nat) (w0 : World) (q_p0 : Nat) (v1 : Value) (p0 : Int × Int × (List (Int × Int × Int))) (p1 : Int) (r : (Int × Int × (List (Int × Int × Int)))) (H : clock_Clocks_Tick p0 p1 = some r) (hL : Stw ⟨Y, X, w0⟩ [(q_p0, [.int .i64 p0.1, .int .i64 p0.2.1, v1])] [row v1 50 R50 p0.2.2] w0) :
    Calls Try.prog 10 #[.pointer (some ⟨q_p0, 0, none⟩), .int .i64 p1] w0 fun e w' => ∃ x : Value, e = .returned (.tuple #[]) ∧ Stw ⟨Y, X, w0⟩ [(q_p0, [.int .i64 r.1, .int .i64 r.2.1, x])] [row (x) 50 R50 r.2.2] w' := by
  refine enter Try.func10 rfl Try.ntmps10 rfl (fun a hF => ?_)
  have hW := hL
  unfold clock_Clocks_Tick at H
  refine c_seq ?_
  refine c_seq ?_
  refine reg_list ?_
  refine ls hF hW rfl ((y_move hF rfl).q) (fun a w hF hW => ?_)
  refine ls hF hW rfl ((y_peq_some_nil Try.underlying24 hF rfl rfl).q) (fun a w hF hW => ?_)
  refine ls hF hW rfl ((y_move hF rfl).q) (fun a w hF hW => ?_)
  refine ls_w hF hW (wanted_y hF rfl rfl rfl rfl) rfl (Nat.le_of_ble_eq_true rfl) ((y_move hF rfl).q) (fun a w hF hW => ?_)
  refine ls_w hF hW (wanted_y hF rfl rfl rfl rfl) rfl (Nat.le_of_ble_eq_true rfl) ((y_lss hF rfl rfl).q) (fun a w hF hW => ?_)
  refine ls hF hW rfl ((y_pick_f hF rfl rfl rfl).q) (fun a w hF hW => ?_)
  refine ls_nil ?_
  refine c_then ?_
  refine c_cond hF rfl (fun hb => ?_) (fun hb => ?_)
  ·
    have H := iteT (of_decide_eq_true hb) H
    rw [hb] at hF
    clear hb
    refine wp_ret ?_
    refine r_then ?_
    have H := Option.some.inj H
    subst H
    refine post0 (.inl rfl) hF rfl ?_
    exact ⟨(v1), rfl, hW⟩
  ·
    have H := iteF (of_decide_eq_false hb) H
    rw [hb] at hF
    clear hb
    refine wp_skip ?_
    refine c_then ?_
    refine c_seq ?_
    refine reg_list ?_
    refine ls hF hW rfl ((y_move hF rfl).q) (fun a w hF hW => ?_)
    refine ls hF hW rfl ((y_move hF rfl).q) (fun a w hF hW => ?_)
    refine ls hF hW rfl ((y_nilCheck hF rfl).q) (fun a w hF hW => ?_)
    refine ls hF hW rfl ((y_fieldAddr Try.underlying48 rfl rfl rfl T3 hF rfl 0 rfl).q) (fun a w hF hW => ?_)
    refine ls hF hW rfl ((y_load (v := Value.int .i64 p0.1) 0 hF rfl rfl T3 rfl).q) (fun a w hF hW => ?_)
    refine ls hF hW rfl ((y_sub hF rfl rfl rfl).q) (fun a w hF hW => ?_)
    refine ls hF hW rfl ((y_min hF rfl rfl).q) (fun a w hF hW => ?_)
    refine ls hF hW rfl ((y_assign hF rfl).q) (fun a w hF hW => ?_)
    refine ls_nil ?_
    refine c_then ?_
    refine c_seq ?_
    refine reg_list ?_
    refine ls hF hW rfl ((y_move hF rfl).q) (fun a w hF hW => ?_)
    refine ls hF hW rfl ((y_nilCheck hF rfl).q) (fun a w hF hW => ?_)
    refine ls hF hW rfl ((y_fieldAddr Try.underlying48 rfl rfl rfl T3 hF rfl 0 rfl).q) (fun a w hF hW => ?_)
    refine ls hF hW rfl ((y_load (v := Value.int .i64 p0.1) 0 hF rfl rfl T3 rfl).q) (fun a w hF hW => ?_)
    refine ls hF hW rfl ((y_move hF rfl).q) (fun a w hF hW => ?_)
    refine ls hF hW rfl ((y_add hF rfl rfl rfl).q) (fun a w hF hW => ?_)
    refine ls hF hW rfl ((y_nilCheck hF rfl).q) (fun a w hF hW => ?_)
    refine ls hF hW rfl ((y_fieldAddr Try.underlying48 rfl rfl rfl T3 hF rfl 0 rfl).q) (fun a w hF hW => ?_)
    refine l_store (vs := [.int .i64 (w64 (p0.1 + (min p1 (w64 (1099511627776 - p0.1)))))]) (M' := [(q_p0, [.int .i64 (w64 (p0.1 + (min p1 (w64 (1099511627776 - p0.1))))), .int .i64 p0.2.1, v1])]) 0 hF hW rfl rfl rfl T3 rfl rfl rfl rfl rfl (fun w hW => ?_)
    refine ls_nil ?_
    refine c_then ?_
    refine c_seq ?_
    refine reg_list ?_
    refine ls hF hW rfl ((y_move hF rfl).q) (fun a w hF hW => ?_)
    refine ls hF hW rfl ((y_nilCheck hF rfl).q) (fun a w hF hW => ?_)
    refine ls hF hW rfl ((y_fieldAddr Try.underlying48 rfl rfl rfl T46 hF rfl 2 rfl).q) (fun a w hF hW => ?_)
    refine ls hF hW rfl ((y_load (v := v1) 0 hF rfl rfl T46 rfl).q) (fun a w hF hW => ?_)
    refine ls hF hW rfl ((y_len (r := R50) (l := p0.2.2) Try.underlying46 rfl hF rfl (rdc_row 0 rfl)).q) (fun a w hF hW => ?_)
    refine ls hF hW rfl ((y_move hF rfl).q) (fun a w hF hW => ?_)
    refine ls_nil ?_
    refine c_then ?_
    refine wp_block ?_
    refine c_loopW H (fun s a w => Fr 56 [] [(0, .pointer (some ⟨q_p0, 0, none⟩)), (1, .int .i64 (min p1 (w64 (1099511627776 - p0.1)))), (30, .int .i64 (p0.2.2.length : Int)), (31, .int .i64 s.1)] a ∧ Stw ⟨Y, X, w0⟩ [(q_p0, [.int .i64 (w64 (p0.1 + (min p1 (w64 (1099511627776 - p0.1))))), .int .i64 p0.2.1, v1])] [row v1 50 R50 s.2] w) ⟨hF.re ⟨rfl, rfl, rfl, rfl, trivial⟩, hW⟩ (fun s o a w H L1 hR => ?_)
    obtain ⟨x1, x2⟩ := s
    obtain ⟨hF, hW⟩ := hR
    have hF : Fr 56 [] [(0, .pointer (some ⟨q_p0, 0, none⟩)), (1, .int .i64 (min p1 (w64 (1099511627776 - p0.1)))), (30, .int .i64 (p0.2.2.length : Int)), (31, .int .i64 x1)] a := hF
    have hW : Stw ⟨Y, X, w0⟩ [(q_p0, [.int .i64 (w64 (p0.1 + (min p1 (w64 (1099511627776 - p0.1))))), .int .i64 p0.2.1, v1])] [row v1 50 R50 x2] w := hW
    rw [clock_Clocks_Tick_l1] at H
    refine c_seq ?_
    refine reg_list ?_
    refine ls hF hW rfl ((y_lss hF rfl rfl).q) (fun a w hF hW => ?_)
    refine ls_nil ?_
    refine c_then ?_
    refine c_seq ?_
    refine c_cond hF rfl (fun hb => ?_) (fun hb => ?_)
    ·
      have H := iteT (of_decide_eq_true hb) H
      rw [hb] at hF
      clear hb
      refine wp_skip ?_
      refine c_then ?_
      refine c_seq ?_
      refine wp_block ?_
      refine c_seq ?_
      refine reg_list ?_
      refine ls hF hW rfl ((y_move hF rfl).q) (fun a w hF hW => ?_)
      refine ls hF hW rfl ((y_assign hF rfl).q) (fun a w hF hW => ?_)
      refine ls_nil ?_
      refine c_then ?_
      refine reg_tail 21 hW MO (by kernel_rfl) ?_
      refine qs hF rfl ((y_move hF rfl).q) (fun a hF => ?_)
      refine qs hF rfl ((y_nilCheck hF rfl).q) (fun a hF => ?_)
      refine qs hF rfl ((y_fieldAddr Try.underlying48 rfl rfl rfl T46 hF rfl 2 rfl).q) (fun a hF => ?_)
      refine qs hF rfl ((y_load (v := v1) 0 hF rfl rfl T46 rfl).q) (fun a hF => ?_)
      refine qs hF rfl ((y_move hF rfl).q) (fun a hF => ?_)
      obtain ⟨x3, h1, H⟩ := bindE H
      refine qs hF rfl ((y_index (r := R50) L46 hF rfl rfl (rdc_row 0 rfl) h1).q) (fun a hF => ?_)
      refine qs hF rfl ((y_fieldAddr Try.underlying50 rfl rfl rfl T3 hF rfl (voff v1 + (x1).toNat * 3 + 2) rfl).q) (fun a hF => ?_)
      refine qs hF rfl ((y_load_el (y := Value.int .i64 x3.2.2) (j := 2) (i := x1) hF rfl rfl (rdc_row 0 rfl) h1 F50.to T3 rfl).q) (fun a hF => ?_)
      refine qs hF rfl ((y_move hF rfl).q) (fun a hF => ?_)
      refine qs hF rfl ((y_move hF rfl).q) (fun a hF => ?_)
      refine qs hF rfl ((y_nilCheck hF rfl).q) (fun a hF => ?_)
      refine qs hF rfl ((y_fieldAddr Try.underlying48 rfl rfl rfl T46 hF rfl 2 rfl).q) (fun a hF => ?_)
      refine qs hF rfl ((y_load (v := v1) 0 hF rfl rfl T46 rfl).q) (fun a hF => ?_)
      refine qs hF rfl ((y_move hF rfl).q) (fun a hF => ?_)
      obtain ⟨x4, h2, H⟩ := bindE H
      refine qs hF rfl ((y_index (r := R50) L46 hF rfl rfl (rdc_row 0 rfl) h2).q) (fun a hF => ?_)
      refine qs hF rfl ((y_fieldAddr Try.underlying50 rfl rfl rfl T3 hF rfl (voff v1 + (x1).toNat * 3 + 1) rfl).q) (fun a hF => ?_)
      refine qs hF rfl ((y_load_el (y := Value.int .i64 x4.2.1) (j := 1) (i := x1) hF rfl rfl (rdc_row 0 rfl) h2 F50.to T3 rfl).q) (fun a hF => ?_)
      refine qs hF rfl ((y_mul hF rfl rfl rfl).q) (fun a hF => ?_)
      refine qs hF rfl ((y_add hF rfl rfl rfl).q) (fun a hF => ?_)
      obtain ⟨x5, h3, H⟩ := bindE H
      refine qs hF rfl ((y_index (r := R50) L46 hF rfl rfl (rdc_row 0 rfl) h3).q) (fun a hF => ?_)
      refine qs hF rfl ((y_fieldAddr Try.underlying50 rfl rfl rfl T3 hF rfl (voff v1 + (x1).toNat * 3 + 2) rfl).q) (fun a hF => ?_)
      refine quiet_end (fun w hW => ?_)
      refine l_store_el (i := x1) (j := 2) (vs := [.int .i64 (w64 (x3.2.2 + (w64 ((min p1 (w64 (1099511627776 - p0.1))) * x4.2.1))))]) (x' := (x5.1, x5.2.1, w64 (x3.2.2 + (w64 ((min p1 (w64 (1099511627776 - p0.1))) * x4.2.1))))) hF hW rfl rfl rfl (k := 0) rfl rfl h3 T3 rfl rfl rfl rfl (fun A cs _ => F50.sto (by rfl) _ _ _) (fun w hW => ?_)
      refine ls_nil ?_
      refine b_normal ?_
      refine c_then ?_
      refine reg_list ?_
      refine ls hF hW rfl ((y_add hF rfl rfl rfl).q) (fun a w hF hW => ?_)
      refine ls hF hW rfl ((y_move hF rfl).q) (fun a w hF hW => ?_)
      refine ls_nil ?_
      refine c_then ?_
      exact ⟨_, H, hF.re ⟨rfl, rfl, rfl, rfl, trivial⟩, hW⟩
    ·
      have H := iteF (of_decide_eq_false hb) H
      rw [hb] at hF
      clear hb
      refine wp_exit ?_
      refine e_then ?_
      refine e_then ?_
      refine e_block ?_
      have H := L1 _ H
      have H := Option.some.inj H
      subst H
      refine post0 (.inr rfl) hF rfl ?_
      exact ⟨(v1), rfl, hW⟩

theorem H10 : Has Try.prog 10 := ⟨fun args w => run_callFunc_body Try.func10 rfl (by decide) args w⟩
noncomputable def clock_Clocks_Rate (p0 : Int × Int × (List (Int × Int × Int))) (p1 : Int) (p2 : Int) : Option (Int × (Int × Int × (List (Int × Int × Int)))) := (if (!(clock_Clocks_has p0 p1)) = true then some (7, p0) else (if (decide (p2 < (w64 (0 - p0.2.1))) || decide (p0.2.1 < p2)) = true then some (2, p0) else (ix p0.2.2 p1).bind fun x1 => some (0, (p0.1, p0.2.1, (setAt p0.2.2 p1 (x1.1, p2, x1.2.2))))))
theorem clock_Clocks_Rate_c (Y : Nat → Prop) (X : List Nat) (w0 : World) (q_p0 : Nat) (v1 : Value) (p0 : Int × Int × (List (Int × Int × Int))) (p1 : Int) (p2 : Int) (r : Int × (Int × Int × (List (Int × Int × Int)))) (H : clock_Clocks_Rate p0 p1 p2 = some r) (hL : Stw ⟨Y, X, w0⟩ [(q_p0, [.int .i64 p0.1, .int .i64 p0.2.1, v1])] [row v1 50 R50 p0.2.2] w0) :
    Calls Try.prog 12 #[.pointer (some ⟨q_p0, 0, none⟩), .int .i64 p1, .int .i64 p2] w0 fun e w' => ∃ x : Value, e = .returned (.int .i64 r.1) ∧ Stw ⟨Y, X, w0⟩ [(q_p0, [.int .i64 r.2.1, .int .i64 r.2.2.1, x])] [row (x) 50 R50 r.2.2.2] w' := by
  refine enter Try.func12 rfl Try.ntmps12 rfl (fun a hF => ?_)
  have hW := hL
  unfold clock_Clocks_Rate at H
  refine c_seq ?_
  refine reg_list ?_
  refine ls hF hW rfl ((y_assign hF rfl).q) (fun a w hF hW => ?_)
  refine ls_nil ?_
  refine c_then ?_
  refine c_seq ?_
  refine c_seq ?_
  refine reg_list ?_
  refine ls hF hW rfl ((y_move hF rfl).q) (fun a w hF hW => ?_)
  refine ls hF hW rfl ((y_move hF rfl).q) (fun a w hF hW => ?_)
  refine ls hF hW rfl (y_call (v := Value.bool (clock_Clocks_has p0 p1)) hF H22 rfl (fun w hW => clock_Clocks_has_c any w q_p0 (v1) p0 p1 _ rfl (((rdc_row 0 rfl) : Rdc _ _ _ _ _ _) w hW).nx (at_M hW 0 rfl))) (fun a w hF hW => ?_)
  refine ls hF hW rfl ((y_not hF rfl).q) (fun a w hF hW => ?_)
  refine ls_nil ?_
  refine c_then ?_
  refine c_cond hF rfl (fun hb => ?_) (fun hb => ?_)
  ·
    have H := iteT hb H
    rw [hb] at hF
    clear hb
    refine c_seq ?_
    refine reg_list ?_
    refine ls hF hW rfl ((y_assign hF rfl).q) (fun a w hF hW => ?_)
    refine ls_nil ?_
    refine c_then ?_
    refine wp_ret ?_
    refine r_then ?_
    have H := Option.some.inj H
    subst H
    refine post1 (.inl rfl) hF hW rfl (rv_tmp hF rfl) ?_
    exact ⟨(v1), rfl, hW⟩
  ·
    have H := iteF (by rw [hb]; decide) H
    rw [hb] at hF
    clear hb
    refine wp_skip ?_
    refine c_then ?_
    refine c_seq ?_
    refine c_seqJ (fun a w => Fr 34 [] [(0, .pointer (some ⟨q_p0, 0, none⟩)), (1, .int .i64 p1), (2, .int .i64 p2), (6, .int .i64 0), (25, .bool (decide (p2 < (w64 (0 - p0.2.1))) || decide (p0.2.1 < p2)))] a ∧ Stw ⟨Y, X, w0⟩ [(q_p0, [.int .i64 p0.1, .int .i64 p0.2.1, v1])] [row v1 50 R50 p0.2.2] w) ?_ ?_
    ·
      refine reg_list ?_
      refine ls hF hW rfl ((y_move hF rfl).q) (fun a w hF hW => ?_)
      refine ls hF hW rfl ((y_move hF rfl).q) (fun a w hF hW => ?_)
      refine ls hF hW rfl ((y_nilCheck hF rfl).q) (fun a w hF hW => ?_)
      refine ls hF hW rfl ((y_fieldAddr Try.underlying48 rfl rfl rfl T3 hF rfl 1 rfl).q) (fun a w hF hW => ?_)
      refine ls hF hW rfl ((y_load (v := Value.int .i64 p0.2.1) 0 hF rfl rfl T3 rfl).q) (fun a w hF hW => ?_)
      refine ls hF hW rfl ((y_neg hF rfl rfl).q) (fun a w hF hW => ?_)
      refine ls hF hW rfl ((y_lss hF rfl rfl).q) (fun a w hF hW => ?_)
      refine ls hF hW rfl ((y_move hF rfl).q) (fun a w hF hW => ?_)
      rcases Bool.eq_false_or_eq_true (decide (p2 < (w64 (0 - p0.2.1)))) with hb0 | hb0
      ·
        rw [hb0] at hF
        refine ls_skip hF (wanted_n hF rfl rfl rfl rfl rfl) rfl rfl (fun a hF => ?_)
        refine ls_skip hF (wanted_n hF rfl rfl rfl rfl rfl) rfl rfl (fun a hF => ?_)
        refine ls_skip hF (wanted_n hF rfl rfl rfl rfl rfl) rfl rfl (fun a hF => ?_)
        refine ls_skip hF (wanted_n hF rfl rfl rfl rfl rfl) rfl rfl (fun a hF => ?_)
        refine ls_skip hF (wanted_n hF rfl rfl rfl rfl rfl) rfl rfl (fun a hF => ?_)
        refine ls_skip hF (wanted_n hF rfl rfl rfl rfl rfl) rfl rfl (fun a hF => ?_)
        refine ls hF hW rfl ((y_pick_t hF rfl rfl rfl).q) (fun a w hF hW => ?_)
        refine ls_nil ?_
        refine c_then ?_
        exact ⟨hF.re ⟨rfl, rfl, rfl, rfl, (by show some (Value.bool true) = some (Value.bool (decide (p2 < (w64 (0 - p0.2.1))) || decide (p0.2.1 < p2))); try rw [hb0]; all_goals simp only [Bool.not_true, Bool.not_false, Bool.true_and, Bool.false_and, Bool.true_or, Bool.false_or, Bool.and_true, Bool.or_false, cond_true, cond_false]), trivial⟩, hW⟩
      ·
        rw [hb0] at hF
        refine ls_w hF hW (wanted_y hF rfl rfl rfl rfl) rfl (Nat.le_of_ble_eq_true rfl) ((y_move hF rfl).q) (fun a w hF hW => ?_)
        refine ls_w hF hW (wanted_y hF rfl rfl rfl rfl) rfl (Nat.le_of_ble_eq_true rfl) ((y_move hF rfl).q) (fun a w hF hW => ?_)
        refine ls_w hF hW (wanted_y hF rfl rfl rfl rfl) rfl (Nat.le_of_ble_eq_true rfl) ((y_nilCheck hF rfl).q) (fun a w hF hW => ?_)
        refine ls_w hF hW (wanted_y hF rfl rfl rfl rfl) rfl (Nat.le_of_ble_eq_true rfl) ((y_fieldAddr Try.underlying48 rfl rfl rfl T3 hF rfl 1 rfl).q) (fun a w hF hW => ?_)
        refine ls_w hF hW (wanted_y hF rfl rfl rfl rfl) rfl (Nat.le_of_ble_eq_true rfl) ((y_load (v := Value.int .i64 p0.2.1) 0 hF rfl rfl T3 rfl).q) (fun a w hF hW => ?_)
        refine ls_w hF hW (wanted_y hF rfl rfl rfl rfl) rfl (Nat.le_of_ble_eq_true rfl) ((y_gtr hF rfl rfl).q) (fun a w hF hW => ?_)
        refine ls hF hW rfl ((y_pick_f hF rfl rfl rfl).q) (fun a w hF hW => ?_)
        refine ls_nil ?_
        refine c_then ?_
        exact ⟨hF.re ⟨rfl, rfl, rfl, rfl, (by show some (Value.bool (decide (p0.2.1 < p2))) = some (Value.bool (decide (p2 < (w64 (0 - p0.2.1))) || decide (p0.2.1 < p2))); try rw [hb0]; all_goals simp only [Bool.not_true, Bool.not_false, Bool.true_and, Bool.false_and, Bool.true_or, Bool.false_or, Bool.and_true, Bool.or_false, cond_true, cond_false]), trivial⟩, hW⟩
    rintro a w ⟨hF, hW⟩
    refine c_cond hF rfl (fun hb => ?_) (fun hb => ?_)
    ·
      have H := iteT hb H
      rw [hb] at hF
      clear hb
      refine c_seq ?_
      refine reg_list ?_
      refine ls hF hW rfl ((y_assign hF rfl).q) (fun a w hF hW => ?_)
      refine ls_nil ?_
      refine c_then ?_
      refine wp_ret ?_
      refine r_then ?_
      have H := Option.some.inj H
      subst H
      refine post1 (.inl rfl) hF hW rfl (rv_tmp hF rfl) ?_
      exact ⟨(v1), rfl, hW⟩
    ·
      have H := iteF (by rw [hb]; decide) H
      rw [hb] at hF
      clear hb
      refine wp_skip ?_
      refine c_then ?_
      refine c_seq ?_
      refine reg_list ?_
      refine ls hF hW rfl ((y_move hF rfl).q) (fun a w hF hW => ?_)
      refine ls hF hW rfl ((y_nilCheck hF rfl).q) (fun a w hF hW => ?_)
      refine ls hF hW rfl ((y_fieldAddr Try.underlying48 rfl rfl rfl T46 hF rfl 2 rfl).q) (fun a w hF hW => ?_)
      refine ls hF hW rfl ((y_load (v := v1) 0 hF rfl rfl T46 rfl).q) (fun a w hF hW => ?_)
      refine ls hF hW rfl ((y_move hF rfl).q) (fun a w hF hW => ?_)
      refine ls hF hW rfl ((y_move hF rfl).q) (fun a w hF hW => ?_)
      obtain ⟨x1, h1, H⟩ := bindE H
      refine ls hF hW rfl ((y_index (r := R50) L46 hF rfl rfl (rdc_row 0 rfl) h1).q) (fun a w hF hW => ?_)
      refine ls hF hW rfl ((y_fieldAddr Try.underlying50 rfl rfl rfl T3 hF rfl (voff v1 + (p1).toNat * 3 + 1) rfl).q) (fun a w hF hW => ?_)
      refine l_store_el (i := p1) (j := 1) (vs := [.int .i64 p2]) (x' := (x1.1, p2, x1.2.2)) hF hW rfl rfl rfl (k := 0) rfl rfl h1 T3 rfl rfl rfl rfl (fun A cs _ => F50.sto (by rfl) _ _ _) (fun w hW => ?_)
      refine ls_nil ?_
      refine c_then ?_
      refine c_seq ?_
      refine reg_list ?_
      refine ls hF hW rfl ((y_assign hF rfl).q) (fun a w hF hW => ?_)
      refine ls_nil ?_
      refine c_then ?_
      refine wp_ret ?_
      have H := Option.some.inj H
      subst H
      refine post1 (.inl rfl) hF hW rfl (rv_tmp hF rfl) ?_
      exact ⟨(v1), rfl, hW⟩

theorem H12 : Has Try.prog 12 := ⟨fun args w => run_callFunc_body Try.func12 rfl (by decide) args w⟩
noncomputable def clock_Drift (p0 : Int) (p1 : Int) : Option Int := (clock_floorThousandth (w64 ((w64 (0 - (min (max p1 0) 1000))) * (min (max p0 0) 1099511627776)))).bind fun x1 => some (w64 (0 - x1))
theorem clock_Drift_c (Y : Nat → Prop) (w0 : World)  (p0 : Int) (p1 : Int) (r : Int) (H : clock_Drift p0 p1 = some r)  :
    Calls Try.prog 20 #[.int .i64 p0, .int .i64 p1] w0 fun e w' => e = .returned (.int .i64 r) ∧ Below w0.heap.size w0 w' := by
  refine enter Try.func20 rfl Try.ntmps20 rfl (fun a hF => ?_)
  have hW := Stw.start Y w0
  unfold clock_Drift at H
  refine c_seq ?_
  refine reg_list ?_
  refine ls hF hW rfl ((y_assign hF rfl).q) (fun a w hF hW => ?_)
  refine ls_nil ?_
  refine c_then ?_
  refine c_seq ?_
  refine reg_list ?_
  refine ls hF hW rfl ((y_move hF rfl).q) (fun a w hF hW => ?_)
  refine ls hF hW rfl ((y_max hF rfl rfl).q) (fun a w hF hW => ?_)
  refine ls hF hW rfl ((y_min hF rfl rfl).q) (fun a w hF hW => ?_)
  refine ls hF hW rfl ((y_assign hF rfl).q) (fun a w hF hW => ?_)
  refine ls_nil ?_
  refine c_then ?_
  refine c_seq ?_
  refine reg_list ?_
  refine ls hF hW rfl ((y_move hF rfl).q) (fun a w hF hW => ?_)
  refine ls hF hW rfl ((y_max hF rfl rfl).q) (fun a w hF hW => ?_)
  refine ls hF hW rfl ((y_min hF rfl rfl).q) (fun a w hF hW => ?_)
  refine ls hF hW rfl ((y_assign hF rfl).q) (fun a w hF hW => ?_)
  refine ls_nil ?_
  refine c_then ?_
  refine c_seq ?_
  refine reg_list ?_
  refine ls hF hW rfl ((y_move hF rfl).q) (fun a w hF hW => ?_)
  refine ls hF hW rfl ((y_neg hF rfl rfl).q) (fun a w hF hW => ?_)
  refine ls hF hW rfl ((y_move hF rfl).q) (fun a w hF hW => ?_)
  refine ls hF hW rfl ((y_mul hF rfl rfl rfl).q) (fun a w hF hW => ?_)
  obtain ⟨x1, h1, H⟩ := bindE H
  refine ls hF hW rfl (y_call (v := Value.int .i64 x1) hF H23 rfl (fun w hW => clock_floorThousandth_c any w (w64 ((w64 (0 - (min (max p1 0) 1000))) * (min (max p0 0) 1099511627776))) _ h1)) (fun a w hF hW => ?_)
  refine ls hF hW rfl ((y_neg hF rfl rfl).q) (fun a w hF hW => ?_)
  refine ls hF hW rfl ((y_assign hF rfl).q) (fun a w hF hW => ?_)
  refine ls_nil ?_
  refine c_then ?_
  refine wp_ret ?_
  have H := Option.some.inj H
  subst H
  refine post1 (.inl rfl) hF hW rfl (rv_tmp hF rfl) ?_
  exact ⟨rfl, hW.done⟩

theorem H20 : Has Try.prog 20 := ⟨fun args w => run_callFunc_body Try.func20 rfl (by decide) args w⟩
theorem Z3 : (Try.prog.info? 3).bind (·.zero) = some (.int .i64 0) := by kernel_rfl
def clock_Clocks_has_2 (p1 : Int) : Unit := ()
theorem clock_Clocks_has_2_c (Y : Nat → Prop) (w0 : World)  (p1 : Int) (r : Unit) (H : clock_Clocks_has_2 p1 = r)  :
    Calls Try.prog 22 #[.pointer none, .int .i64 p1] w0 fun e w' => e = .returned (.bool false) ∧ Below w0.heap.size w0 w' := by
  refine enter Try.func22 rfl Try.ntmps22 rfl (fun a hF => ?_)
  have hW := Stw.start Y w0
  unfold clock_Clocks_has_2 at H
  refine c_seq ?_
  refine reg_list ?_
  refine ls hF hW rfl ((y_assign hF rfl).q) (fun a w hF hW => ?_)
  refine ls_nil ?_
  refine c_then ?_
  refine c_seq ?_
  refine reg_list ?_
  refine ls hF hW rfl ((y_move hF rfl).q) (fun a w hF hW => ?_)
  refine ls hF hW rfl ((y_pne_nil_nil Try.underlying24 hF rfl rfl).q) (fun a w hF hW => ?_)
  refine ls hF hW rfl ((y_move hF rfl).q) (fun a w hF hW => ?_)
  refine ls_skip hF (wanted_n hF rfl rfl rfl rfl rfl) rfl rfl (fun a hF => ?_)
  refine ls_skip hF (wanted_n hF rfl rfl rfl rfl rfl) rfl rfl (fun a hF => ?_)
  refine ls hF hW rfl ((y_pick_f hF rfl rfl rfl).q) (fun a w hF hW => ?_)
  refine ls hF hW rfl ((y_move hF rfl).q) (fun a w hF hW => ?_)
  refine ls_skip hF (wanted_n hF rfl rfl rfl rfl rfl) rfl rfl (fun a hF => ?_)
  refine ls_skip hF (wanted_n hF rfl rfl rfl rfl rfl) rfl rfl (fun a hF => ?_)
  refine ls_skip hF (wanted_n hF rfl rfl rfl rfl rfl) rfl rfl (fun a hF => ?_)
  refine ls_skip hF (wanted_n hF rfl rfl rfl rfl rfl) rfl rfl (fun a hF => ?_)
  refine ls_skip hF (wanted_n hF rfl rfl rfl rfl rfl) rfl rfl (fun a hF => ?_)
  refine ls_skip hF (wanted_n hF rfl rfl rfl rfl rfl) rfl rfl (fun a hF => ?_)
  refine ls_skip hF (wanted_n hF rfl rfl rfl rfl rfl) rfl rfl (fun a hF => ?_)
  refine ls hF hW rfl ((y_pick_f hF rfl rfl rfl).q) (fun a w hF hW => ?_)
  refine ls hF hW rfl ((y_assign hF rfl).q) (fun a w hF hW => ?_)
  refine ls_nil ?_
  refine c_then ?_
  refine wp_ret ?_
  subst H
  refine post1 (.inl rfl) hF hW rfl (rv_tmp hF rfl) ?_
  exact ⟨rfl, hW.done⟩

def clock_Clocks_Rate_2 (p1 : Int) (p2 : Int) : Unit := ()
theorem clock_Clocks_Rate_2_c (Y : Nat → Prop) (w0 : World)  (p1 : Int) (p2 : Int) (r : Unit) (H : clock_Clocks_Rate_2 p1 p2 = r)  :
    Calls Try.prog 12 #[.pointer none, .int .i64 p1, .int .i64 p2] w0 fun e w' => e = .returned (.int .i64 7) ∧ Below w0.heap.size w0 w' := by
  refine enter Try.func12 rfl Try.ntmps12 rfl (fun a hF => ?_)
  have hW := Stw.start Y w0
  unfold clock_Clocks_Rate_2 at H
  refine c_seq ?_
  refine reg_list ?_
  refine ls hF hW rfl ((y_assign hF rfl).q) (fun a w hF hW => ?_)
  refine ls_nil ?_
  refine c_then ?_
  refine c_seq ?_
  refine c_seq ?_
  refine reg_list ?_
  refine ls hF hW rfl ((y_move hF rfl).q) (fun a w hF hW => ?_)
  refine ls hF hW rfl ((y_move hF rfl).q) (fun a w hF hW => ?_)
  refine ls hF hW rfl (y_call (v := Value.bool false) hF H22 rfl (fun w hW => clock_Clocks_has_2_c any w p1 _ rfl)) (fun a w hF hW => ?_)
  refine ls hF hW rfl ((y_not hF rfl).q) (fun a w hF hW => ?_)
  refine ls_nil ?_
  refine c_then ?_
  refine c_cond_t hF rfl ?_
  refine c_seq ?_
  refine reg_list ?_
  refine ls hF hW rfl ((y_assign hF rfl).q) (fun a w hF hW => ?_)
  refine ls_nil ?_
  refine c_then ?_
  refine wp_ret ?_
  refine r_then ?_
  subst H
  refine post1 (.inl rfl) hF hW rfl (rv_tmp hF rfl) ?_
  exact ⟨rfl, hW.done⟩

def clock_Clocks_Tick_2 (p1 : Int) : Unit := ()
theorem clock_Clocks_Tick_2_c (Y : Nat → Prop) (w0 : World)  (p1 : Int) (r : Unit) (H : clock_Clocks_Tick_2 p1 = r)  :
    Calls Try.prog 10 #[.pointer none, .int .i64 p1] w0 fun e w' => e = .returned (.tuple #[]) ∧ Below w0.heap.size w0 w' := by
  refine enter Try.func10 rfl Try.ntmps10 rfl (fun a hF => ?_)
  have hW := Stw.start Y w0
  unfold clock_Clocks_Tick_2 at H
  refine c_seq ?_
  refine c_seq ?_
  refine reg_list ?_
  refine ls hF hW rfl ((y_move hF rfl).q) (fun a w hF hW => ?_)
  refine ls hF hW rfl ((y_peq_nil_nil Try.underlying24 hF rfl rfl).q) (fun a w hF hW => ?_)
  refine ls hF hW rfl ((y_move hF rfl).q) (fun a w hF hW => ?_)
  refine ls_skip hF (wanted_n hF rfl rfl rfl rfl rfl) rfl rfl (fun a hF => ?_)
  refine ls_skip hF (wanted_n hF rfl rfl rfl rfl rfl) rfl rfl (fun a hF => ?_)
  refine ls hF hW rfl ((y_pick_t hF rfl rfl rfl).q) (fun a w hF hW => ?_)
  refine ls_nil ?_
  refine c_then ?_
  refine c_cond_t hF rfl ?_
  refine wp_ret ?_
  refine r_then ?_
  subst H
  refine post0 (.inl rfl) hF rfl ?_
  exact ⟨rfl, hW.done⟩

noncomputable def L14_awake  : Option Bool := (clock_New ([7] : List Int) 500).bind fun x1 => altS x1 (fun x2 => (clock_Clocks_Rate x2 0 (-500)).bind fun x4 => (clock_Clocks_Tick x4.2 3).bind fun x5 => (if x4.1 = 0 then (clock_Clocks_Apart x5 0).bind fun x7 => (if x7 = 5 then (clock_Clocks_Read x5 0).bind fun x8 => (if x8 = 8 then (if (clock_Clocks_Real x5) = 3 then (clock_Drift 3 500).bind fun x9 => some (decide (x9 = 2)) else some false) else some false) else some false) else some false).bind fun x6 => some x6) (fun x3 => some false)
theorem L14_awake_c (Y : Nat → Prop) (w0 : World)   (r : Bool) (H : L14_awake  = some r)  :
    Calls Try.prog 9 #[] w0 fun e w' => e = .returned (.bool r) ∧ Below w0.heap.size w0 w' := by
  refine enter Try.func9 rfl Try.ntmps9 rfl (fun a hF => ?_)
  have hW := Stw.start Y w0
  unfold L14_awake at H
  refine c_seq ?_
  refine reg_list ?_
  refine ls hF hW rfl ((y_assign hF rfl).q) (fun a w hF hW => ?_)
  refine ls_nil ?_
  refine c_then ?_
  refine c_seq ?_
  refine reg_list ?_
  refine l_lit (z := Value.int .i64 0) (cs := [.int .i64 7]) (Rp.int .i64) ([7] : List Int) hF hW rfl L22 Z3 rfl rfl rfl rfl rfl rfl (Fl.int.repL _ _ ([7] : List Int)) (fun v1 a w hF hW => ?_)
  obtain ⟨x1, h1, H⟩ := bindE H
  rcases x1 with x2 | x3
  ·
    have H := altL H
    refine l_callG (Ml := []) (Zl := []) (M := []) (Z := [row v1 3 (Rp.int .i64) ([7] : List Int)]) (β := Nat × Value) (rv := fun x => .tuple #[.pointer (some ⟨x.1, 0, none⟩), .int .i64 0]) (MM := fun x => [(x.1, [.int .i64 x2.1, .int .i64 x2.2.1, x.2])]) (ZZ := fun x => [row x.2 50 R50 x2.2.2]) hF hW H7 rfl rfl (fun hL => clock_New_c _ w (v1) ([7] : List Int) 500 _ h1 ((rdc_row 0 rfl) w hW).nx) (fun x a w hF hW => ?_)
    obtain ⟨b1, v2⟩ := x
    have hW : Stw ⟨Y, [], w0⟩ [(b1, [.int .i64 x2.1, .int .i64 x2.2.1, v2])] [row v2 50 R50 x2.2.2, row v1 3 (Rp.int .i64) ([7] : List Int)] w := hW
    refine ls hF hW rfl ((y_move hF rfl).q) (fun a w hF hW => ?_)
    refine ls hF hW rfl ((y_extract (v := Value.pointer (some ⟨b1, 0, none⟩)) hF rfl rfl).q) (fun a w hF hW => ?_)
    refine ls hF hW rfl ((y_extract (v := Value.int .i64 0) hF rfl rfl).q) (fun a w hF hW => ?_)
    refine ls hF hW rfl ((y_assign hF rfl).q) (fun a w hF hW => ?_)
    refine ls hF hW rfl ((y_assign hF rfl).q) (fun a w hF hW => ?_)
    refine ls_nil ?_
    refine c_then ?_
    refine c_seq ?_
    refine reg_list ?_
    refine ls hF hW rfl ((y_move hF rfl).q) (fun a w hF hW => ?_)
    obtain ⟨x4, h2, H⟩ := bindE H
    refine l_callG (Ml := [(b1, [.int .i64 x2.1, .int .i64 x2.2.1, v2])]) (Zl := [row v2 50 R50 x2.2.2]) (M := []) (Z := [row v1 3 (Rp.int .i64) ([7] : List Int)]) (β := Value) (rv := fun x => .int .i64 x4.1) (MM := fun x => [(b1, [.int .i64 x4.2.1, .int .i64 x4.2.2.1, x])]) (ZZ := fun x => [row x 50 R50 x4.2.2.2]) hF hW H12 rfl rfl (fun hL => clock_Clocks_Rate_c _ _ w b1 (v2) x2 0 (-500) _ h2 hL) (fun x a w hF hW => ?_)
    obtain ⟨v3, rfl⟩ : ∃ y, y = x := ⟨x, rfl⟩
    have hW : Stw ⟨Y, [], w0⟩ [(b1, [.int .i64 x4.2.1, .int .i64 x4.2.2.1, v3])] [row v3 50 R50 x4.2.2.2, row v1 3 (Rp.int .i64) ([7] : List Int)] w := hW
    refine ls hF hW rfl ((y_assign hF rfl).q) (fun a w hF hW => ?_)
    refine ls_nil ?_
    refine c_then ?_
    refine c_seq ?_
    refine reg_list ?_
    refine ls hF hW rfl ((y_move hF rfl).q) (fun a w hF hW => ?_)
    obtain ⟨x5, h3, H⟩ := bindE H
    refine l_callG (Ml := [(b1, [.int .i64 x4.2.1, .int .i64 x4.2.2.1, v3])]) (Zl := [row v3 50 R50 x4.2.2.2]) (M := []) (Z := [row v1 3 (Rp.int .i64) ([7] : List Int)]) (β := Value) (rv := fun x => .tuple #[]) (MM := fun x => [(b1, [.int .i64 x5.1, .int .i64 x5.2.1, x])]) (ZZ := fun x => [row x 50 R50 x5.2.2]) hF hW H10 rfl rfl (fun hL => clock_Clocks_Tick_c _ _ w b1 (v3) x4.2 3 _ h3 hL) (fun x a w hF hW => ?_)
    obtain ⟨v4, rfl⟩ : ∃ y, y = x := ⟨x, rfl⟩
    have hW : Stw ⟨Y, [], w0⟩ [(b1, [.int .i64 x5.1, .int .i64 x5.2.1, v4])] [row v4 50 R50 x5.2.2, row v1 3 (Rp.int .i64) ([7] : List Int)] w := hW
    refine ls_nil ?_
    refine c_then ?_
    obtain ⟨o1, G1, K1⟩ := bindE H
    refine c_seqJ (fun a w => ∃ x6 : Bool, some (x6) = some o1 ∧ Fr 38 [] [(0, .bool x6)] a ∧ Stw ⟨Y, [], w0⟩ [(b1, [.int .i64 x5.1, .int .i64 x5.2.1, v4])] [row v4 50 R50 x5.2.2] w) ?_ ?_
    ·
      have H := G1
      clear G1 K1
      refine reg_list ?_
      refine ls hF hW rfl ((y_move hF rfl).q) (fun a w hF hW => ?_)
      refine ls hF hW rfl ((y_eql hF rfl rfl).q) (fun a w hF hW => ?_)
      rw [show decide ((0 : Int) = 0) = true from by decide] at hF
      refine ls hF hW rfl ((y_move hF rfl).q) (fun a w hF hW => ?_)
      refine ls_w hF hW (wanted_y hF rfl rfl rfl rfl) rfl (Nat.le_of_ble_eq_true rfl) ((y_move hF rfl).q) (fun a w hF hW => ?_)
      refine ls_w hF hW (wanted_y hF rfl rfl rfl rfl) rfl (Nat.le_of_ble_eq_true rfl) ((y_eql hF rfl rfl).q) (fun a w hF hW => ?_)
      refine ls hF hW rfl ((y_pick_t hF rfl rfl rfl).q) (fun a w hF hW => ?_)
      refine ls hF hW rfl ((y_move hF rfl).q) (fun a w hF hW => ?_)
      rcases Bool.eq_false_or_eq_true (decide (x4.1 = 0)) with hb | hb
      ·
        have H := iteT (of_decide_eq_true hb) H
        rw [hb] at hF
        clear hb
        refine ls_w hF hW (wanted_y hF rfl rfl rfl rfl) rfl (Nat.le_of_ble_eq_true rfl) ((y_move hF rfl).q) (fun a w hF hW => ?_)
        refine ls_g (wanted_y hF rfl rfl rfl rfl) ?_
        obtain ⟨x7, h4, H⟩ := bindE H
        refine ls hF hW rfl (y_call (v := Value.int .i64 x7) hF H18 rfl (fun w hW => clock_Clocks_Apart_c any w b1 (v4) x5 0 _ h4 (((rdc_row 0 rfl) : Rdc _ _ _ _ _ _) w hW).nx (at_M hW 0 rfl))) (fun a w hF hW => ?_)
        refine ls_w hF hW (wanted_y hF rfl rfl rfl rfl) rfl (Nat.le_of_ble_eq_true rfl) ((y_eql hF rfl rfl).q) (fun a w hF hW => ?_)
        refine ls hF hW rfl ((y_pick_t hF rfl rfl rfl).q) (fun a w hF hW => ?_)
        refine ls hF hW rfl ((y_move hF rfl).q) (fun a w hF hW => ?_)
        rcases Bool.eq_false_or_eq_true (decide (x7 = 5)) with hb | hb
        ·
          have H := iteT (of_decide_eq_true hb) H
          rw [hb] at hF
          clear hb
          refine ls_w hF hW (wanted_y hF rfl rfl rfl rfl) rfl (Nat.le_of_ble_eq_true rfl) ((y_move hF rfl).q) (fun a w hF hW => ?_)
          refine ls_g (wanted_y hF rfl rfl rfl rfl) ?_
          obtain ⟨x8, h5, H⟩ := bindE H
          refine ls hF hW rfl (y_call (v := Value.int .i64 x8) hF H14 rfl (fun w hW => clock_Clocks_Read_c any w b1 (v4) x5 0 _ h5 (((rdc_row 0 rfl) : Rdc _ _ _ _ _ _) w hW).nx (at_M hW 0 rfl))) (fun a w hF hW => ?_)
          refine ls_w hF hW (wanted_y hF rfl rfl rfl rfl) rfl (Nat.le_of_ble_eq_true rfl) ((y_eql hF rfl rfl).q) (fun a w hF hW => ?_)
          refine ls hF hW rfl ((y_pick_t hF rfl rfl rfl).q) (fun a w hF hW => ?_)
          refine ls hF hW rfl ((y_move hF rfl).q) (fun a w hF hW => ?_)
          rcases Bool.eq_false_or_eq_true (decide (x8 = 8)) with hb | hb
          ·
            have H := iteT (of_decide_eq_true hb) H
            rw [hb] at hF
            clear hb
            refine ls_w hF hW (wanted_y hF rfl rfl rfl rfl) rfl (Nat.le_of_ble_eq_true rfl) ((y_move hF rfl).q) (fun a w hF hW => ?_)
            refine ls_g (wanted_y hF rfl rfl rfl rfl) ?_
            refine ls hF hW rfl (y_call (v := Value.int .i64 (clock_Clocks_Real x5)) hF H16 rfl (fun w hW => clock_Clocks_Real_c any w b1 (v4) x5 _ rfl (((rdc_row 0 rfl) : Rdc _ _ _ _ _ _) w hW).nx (at_M hW 0 rfl))) (fun a w hF hW => ?_)
            refine ls_w hF hW (wanted_y hF rfl rfl rfl rfl) rfl (Nat.le_of_ble_eq_true rfl) ((y_eql hF rfl rfl).q) (fun a w hF hW => ?_)
            refine ls hF hW rfl ((y_pick_t hF rfl rfl rfl).q) (fun a w hF hW => ?_)
            refine ls hF hW rfl ((y_move hF rfl).q) (fun a w hF hW => ?_)
            rcases Bool.eq_false_or_eq_true (decide ((clock_Clocks_Real x5) = 3)) with hb | hb
            ·
              have H := iteT (of_decide_eq_true hb) H
              rw [hb] at hF
              clear hb
              refine ls_g (wanted_y hF rfl rfl rfl rfl) ?_
              obtain ⟨x9, h6, H⟩ := bindE H
              refine ls hF hW rfl (y_call (v := Value.int .i64 x9) hF H20 rfl (fun w hW => clock_Drift_c any w 3 500 _ h6)) (fun a w hF hW => ?_)
              refine ls_w hF hW (wanted_y hF rfl rfl rfl rfl) rfl (Nat.le_of_ble_eq_true rfl) ((y_eql hF rfl rfl).q) (fun a w hF hW => ?_)
              refine ls hF hW rfl ((y_pick_t hF rfl rfl rfl).q) (fun a w hF hW => ?_)
              refine ls hF hW rfl ((y_assign hF rfl).q) (fun a w hF hW => ?_)
              refine ls_nil ?_
              refine c_then ?_
              have hW := hW.sub (M' := [(b1, [.int .i64 x5.1, .int .i64 x5.2.1, v4])]) (Z' := [row v4 50 R50 x5.2.2]) (List.Sublist.refl _) (List.Sublist.cons_cons _ (List.nil_sublist _))
              exact ⟨_, H, hF.re ⟨rfl, trivial⟩, hW⟩
            ·
              have H := iteF (of_decide_eq_false hb) H
              rw [hb] at hF
              clear hb
              refine ls_skip hF (wanted_n hF rfl rfl rfl rfl rfl) rfl rfl (fun a hF => ?_)
              refine ls_skip hF (wanted_n hF rfl rfl rfl rfl rfl) rfl rfl (fun a hF => ?_)
              refine ls hF hW rfl ((y_pick_f hF rfl rfl rfl).q) (fun a w hF hW => ?_)
              refine ls hF hW rfl ((y_assign hF rfl).q) (fun a w hF hW => ?_)
              refine ls_nil ?_
              refine c_then ?_
              have hW := hW.sub (M' := [(b1, [.int .i64 x5.1, .int .i64 x5.2.1, v4])]) (Z' := [row v4 50 R50 x5.2.2]) (List.Sublist.refl _) (List.Sublist.cons_cons _ (List.nil_sublist _))
              exact ⟨_, H, hF.re ⟨rfl, trivial⟩, hW⟩
          ·
            have H := iteF (of_decide_eq_false hb) H
            rw [hb] at hF
            clear hb
            refine ls_skip hF (wanted_n hF rfl rfl rfl rfl rfl) rfl rfl (fun a hF => ?_)
            refine ls_skip hF (wanted_n hF rfl rfl rfl rfl rfl) rfl rfl (fun a hF => ?_)
            refine ls_skip hF (wanted_n hF rfl rfl rfl rfl rfl) rfl rfl (fun a hF => ?_)
            refine ls hF hW rfl ((y_pick_f hF rfl rfl rfl).q) (fun a w hF hW => ?_)
            refine ls hF hW rfl ((y_move hF rfl).q) (fun a w hF hW => ?_)
            refine ls_skip hF (wanted_n hF rfl rfl rfl rfl rfl) rfl rfl (fun a hF => ?_)
            refine ls_skip hF (wanted_n hF rfl rfl rfl rfl rfl) rfl rfl (fun a hF => ?_)
            refine ls hF hW rfl ((y_pick_f hF rfl rfl rfl).q) (fun a w hF hW => ?_)
            refine ls hF hW rfl ((y_assign hF rfl).q) (fun a w hF hW => ?_)
            refine ls_nil ?_
            refine c_then ?_
            have hW := hW.sub (M' := [(b1, [.int .i64 x5.1, .int .i64 x5.2.1, v4])]) (Z' := [row v4 50 R50 x5.2.2]) (List.Sublist.refl _) (List.Sublist.cons_cons _ (List.nil_sublist _))
            exact ⟨_, H, hF.re ⟨rfl, trivial⟩, hW⟩
        ·
          have H := iteF (of_decide_eq_false hb) H
          rw [hb] at hF
          clear hb
          refine ls_skip hF (wanted_n hF rfl rfl rfl rfl rfl) rfl rfl (fun a hF => ?_)
          refine ls_skip hF (wanted_n hF rfl rfl rfl rfl rfl) rfl rfl (fun a hF => ?_)
          refine ls_skip hF (wanted_n hF rfl rfl rfl rfl rfl) rfl rfl (fun a hF => ?_)
          refine ls hF hW rfl ((y_pick_f hF rfl rfl rfl).q) (fun a w hF hW => ?_)
          refine ls hF hW rfl ((y_move hF rfl).q) (fun a w hF hW => ?_)
          refine ls_skip hF (wanted_n hF rfl rfl rfl rfl rfl) rfl rfl (fun a hF => ?_)
          refine ls_skip hF (wanted_n hF rfl rfl rfl rfl rfl) rfl rfl (fun a hF => ?_)
          refine ls_skip hF (wanted_n hF rfl rfl rfl rfl rfl) rfl rfl (fun a hF => ?_)
          refine ls hF hW rfl ((y_pick_f hF rfl rfl rfl).q) (fun a w hF hW => ?_)
          refine ls hF hW rfl ((y_move hF rfl).q) (fun a w hF hW => ?_)
          refine ls_skip hF (wanted_n hF rfl rfl rfl rfl rfl) rfl rfl (fun a hF => ?_)
          refine ls_skip hF (wanted_n hF rfl rfl rfl rfl rfl) rfl rfl (fun a hF => ?_)
          refine ls hF hW rfl ((y_pick_f hF rfl rfl rfl).q) (fun a w hF hW => ?_)
          refine ls hF hW rfl ((y_assign hF rfl).q) (fun a w hF hW => ?_)
          refine ls_nil ?_
          refine c_then ?_
          have hW := hW.sub (M' := [(b1, [.int .i64 x5.1, .int .i64 x5.2.1, v4])]) (Z' := [row v4 50 R50 x5.2.2]) (List.Sublist.refl _) (List.Sublist.cons_cons _ (List.nil_sublist _))
          exact ⟨_, H, hF.re ⟨rfl, trivial⟩, hW⟩
      ·
        have H := iteF (of_decide_eq_false hb) H
        rw [hb] at hF
        clear hb
        refine ls_skip hF (wanted_n hF rfl rfl rfl rfl rfl) rfl rfl (fun a hF => ?_)
        refine ls_skip hF (wanted_n hF rfl rfl rfl rfl rfl) rfl rfl (fun a hF => ?_)
        refine ls_skip hF (wanted_n hF rfl rfl rfl rfl rfl) rfl rfl (fun a hF => ?_)
        refine ls hF hW rfl ((y_pick_f hF rfl rfl rfl).q) (fun a w hF hW => ?_)
        refine ls hF hW rfl ((y_move hF rfl).q) (fun a w hF hW => ?_)
        refine ls_skip hF (wanted_n hF rfl rfl rfl rfl rfl) rfl rfl (fun a hF => ?_)
        refine ls_skip hF (wanted_n hF rfl rfl rfl rfl rfl) rfl rfl (fun a hF => ?_)
        refine ls_skip hF (wanted_n hF rfl rfl rfl rfl rfl) rfl rfl (fun a hF => ?_)
        refine ls hF hW rfl ((y_pick_f hF rfl rfl rfl).q) (fun a w hF hW => ?_)
        refine ls hF hW rfl ((y_move hF rfl).q) (fun a w hF hW => ?_)
        refine ls_skip hF (wanted_n hF rfl rfl rfl rfl rfl) rfl rfl (fun a hF => ?_)
        refine ls_skip hF (wanted_n hF rfl rfl rfl rfl rfl) rfl rfl (fun a hF => ?_)
        refine ls_skip hF (wanted_n hF rfl rfl rfl rfl rfl) rfl rfl (fun a hF => ?_)
        refine ls hF hW rfl ((y_pick_f hF rfl rfl rfl).q) (fun a w hF hW => ?_)
        refine ls hF hW rfl ((y_move hF rfl).q) (fun a w hF hW => ?_)
        refine ls_skip hF (wanted_n hF rfl rfl rfl rfl rfl) rfl rfl (fun a hF => ?_)
        refine ls_skip hF (wanted_n hF rfl rfl rfl rfl rfl) rfl rfl (fun a hF => ?_)
        refine ls hF hW rfl ((y_pick_f hF rfl rfl rfl).q) (fun a w hF hW => ?_)
        refine ls hF hW rfl ((y_assign hF rfl).q) (fun a w hF hW => ?_)
        refine ls_nil ?_
        refine c_then ?_
        have hW := hW.sub (M' := [(b1, [.int .i64 x5.1, .int .i64 x5.2.1, v4])]) (Z' := [row v4 50 R50 x5.2.2]) (List.Sublist.refl _) (List.Sublist.cons_cons _ (List.nil_sublist _))
        exact ⟨_, H, hF.re ⟨rfl, trivial⟩, hW⟩
    rintro a w ⟨x6, hj, hF, hW⟩
    have hj := Option.some.inj hj
    subst hj
    have H := K1
    clear G1 K1
    refine wp_ret ?_
    have H := Option.some.inj H
    subst H
    refine post1 (.inl rfl) hF hW rfl (rv_tmp hF rfl) ?_
    exact ⟨rfl, hW.done⟩
  ·
    have H := altR H
    refine l_callG (Ml := []) (Zl := []) (M := []) (Z := [row v1 3 (Rp.int .i64) ([7] : List Int)]) (β := Unit) (rv := fun x => .tuple #[.pointer none, .int .i64 2]) (MM := fun x => []) (ZZ := fun x => []) hF hW H7 rfl rfl (fun hL => clock_New_c _ w (v1) ([7] : List Int) 500 _ h1 ((rdc_row 0 rfl) w hW).nx) (fun x a w hF hW => ?_)
    have hW : Stw ⟨Y, [], w0⟩ [] [row v1 3 (Rp.int .i64) ([7] : List Int)] w := hW
    refine ls hF hW rfl ((y_move hF rfl).q) (fun a w hF hW => ?_)
    refine ls hF hW rfl ((y_extract (v := Value.pointer none) hF rfl rfl).q) (fun a w hF hW => ?_)
    refine ls hF hW rfl ((y_extract (v := Value.int .i64 2) hF rfl rfl).q) (fun a w hF hW => ?_)
    refine ls hF hW rfl ((y_assign hF rfl).q) (fun a w hF hW => ?_)
    refine ls hF hW rfl ((y_assign hF rfl).q) (fun a w hF hW => ?_)
    refine ls_nil ?_
    refine c_then ?_
    refine c_seq ?_
    refine reg_list ?_
    refine ls hF hW rfl ((y_move hF rfl).q) (fun a w hF hW => ?_)
    refine ls hF hW rfl (y_call (v := Value.int .i64 7) hF H12 rfl (fun w hW => clock_Clocks_Rate_2_c any w 0 (-500) _ rfl)) (fun a w hF hW => ?_)
    refine ls hF hW rfl ((y_assign hF rfl).q) (fun a w hF hW => ?_)
    refine ls_nil ?_
    refine c_then ?_
    refine c_seq ?_
    refine reg_list ?_
    refine ls hF hW rfl ((y_move hF rfl).q) (fun a w hF hW => ?_)
    refine ls hF hW rfl (y_call (v := Value.tuple #[]) hF H10 rfl (fun w hW => clock_Clocks_Tick_2_c any w 3 _ rfl)) (fun a w hF hW => ?_)
    refine ls_nil ?_
    refine c_then ?_
    refine c_seq ?_
    refine reg_list ?_
    refine ls hF hW rfl ((y_move hF rfl).q) (fun a w hF hW => ?_)
    refine ls hF hW rfl ((y_eql hF rfl rfl).q) (fun a w hF hW => ?_)
    rw [show decide ((2 : Int) = 0) = false from by decide] at hF
    refine ls hF hW rfl ((y_move hF rfl).q) (fun a w hF hW => ?_)
    refine ls_skip hF (wanted_n hF rfl rfl rfl rfl rfl) rfl rfl (fun a hF => ?_)
    refine ls_skip hF (wanted_n hF rfl rfl rfl rfl rfl) rfl rfl (fun a hF => ?_)
    refine ls hF hW rfl ((y_pick_f hF rfl rfl rfl).q) (fun a w hF hW => ?_)
    refine ls hF hW rfl ((y_move hF rfl).q) (fun a w hF hW => ?_)
    refine ls_skip hF (wanted_n hF rfl rfl rfl rfl rfl) rfl rfl (fun a hF => ?_)
    refine ls_skip hF (wanted_n hF rfl rfl rfl rfl rfl) rfl rfl (fun a hF => ?_)
    refine ls_skip hF (wanted_n hF rfl rfl rfl rfl rfl) rfl rfl (fun a hF => ?_)
    refine ls hF hW rfl ((y_pick_f hF rfl rfl rfl).q) (fun a w hF hW => ?_)
    refine ls hF hW rfl ((y_move hF rfl).q) (fun a w hF hW => ?_)
    refine ls_skip hF (wanted_n hF rfl rfl rfl rfl rfl) rfl rfl (fun a hF => ?_)
    refine ls_skip hF (wanted_n hF rfl rfl rfl rfl rfl) rfl rfl (fun a hF => ?_)
    refine ls_skip hF (wanted_n hF rfl rfl rfl rfl rfl) rfl rfl (fun a hF => ?_)
    refine ls hF hW rfl ((y_pick_f hF rfl rfl rfl).q) (fun a w hF hW => ?_)
    refine ls hF hW rfl ((y_move hF rfl).q) (fun a w hF hW => ?_)
    refine ls_skip hF (wanted_n hF rfl rfl rfl rfl rfl) rfl rfl (fun a hF => ?_)
    refine ls_skip hF (wanted_n hF rfl rfl rfl rfl rfl) rfl rfl (fun a hF => ?_)
    refine ls_skip hF (wanted_n hF rfl rfl rfl rfl rfl) rfl rfl (fun a hF => ?_)
    refine ls hF hW rfl ((y_pick_f hF rfl rfl rfl).q) (fun a w hF hW => ?_)
    refine ls hF hW rfl ((y_move hF rfl).q) (fun a w hF hW => ?_)
    refine ls_skip hF (wanted_n hF rfl rfl rfl rfl rfl) rfl rfl (fun a hF => ?_)
    refine ls_skip hF (wanted_n hF rfl rfl rfl rfl rfl) rfl rfl (fun a hF => ?_)
    refine ls hF hW rfl ((y_pick_f hF rfl rfl rfl).q) (fun a w hF hW => ?_)
    refine ls hF hW rfl ((y_assign hF rfl).q) (fun a w hF hW => ?_)
    refine ls_nil ?_
    refine c_then ?_
    refine wp_ret ?_
    have H := Option.some.inj H
    subst H
    refine post1 (.inl rfl) hF hW rfl (rv_tmp hF rfl) ?_
    exact ⟨rfl, hW.done⟩

theorem H9 : Has Try.prog 9 := ⟨fun args w => run_callFunc_body Try.func9 rfl (by decide) args w⟩
noncomputable def L14_ClockDrifts_l1 (p1 : Int) (p2 : List (Int × Int × Int)) (p3 : Int) (p4 : Int) : (Int × Int × Int × Int × Int × Int × (List (Int × Int × Int))) → Option ((Int × Int × Int × Int × Int × Int × (List (Int × Int × Int))) ⊕ ((Int × Int × (List (Int × Int × Int))) ⊕ Bool))
  | (x9, x10, x11, x12, x13, x14, x15) => (if (decide (x12 < (p2.length : Int)) && decide (x12 < 40)) = true then (if x12 = p4 then (clock_Clocks_Apart (x13, x14, x15) p3).bind fun x18 => some ((clock_Clocks_Real (x13, x14, x15)), x18) else some (x9, x10)).bind fun (x16, x17) => ((ix p2 x12).bind fun x22 => (if x22.1 = 0 then some true else (if x22.1 = 1 then some true else some (decide (x22.1 = 2)))).bind fun x23 => (if x23 = true then (ix p2 x12).bind fun x24 => (clock_Clocks_Tick (x13, x14, x15) x24.2.2).bind fun x25 => some (x25.1, x25.2.1, x25.2.2) else (if x22.1 = 3 then (ix p2 x12).bind fun x26 => (ix p2 x12).bind fun x27 => (clock_Clocks_Rate (x13, x14, x15) x26.2.1 x27.2.2).bind fun x28 => some (x28.2.1, x28.2.2.1, x28.2.2.2) else some (x13, x14, x15)))).bind fun (x19, x20, x21) => (clock_Drift (w64 ((clock_Clocks_Real (x19, x20, x21)) - x16)) p1).bind fun x29 => (if (clock_Clocks_Real (x19, x20, x21)) < (clock_Clocks_Real (x13, x14, x15)) then some true else (clock_Clocks_Read (x19, x20, x21) p3).bind fun x31 => (if x31 < x11 then some true else (clock_Clocks_Apart (x19, x20, x21) p3).bind fun x32 => (if x29 < (w64 (x32 - x17)) then some true else (clock_Clocks_Apart (x19, x20, x21) p3).bind fun x33 => some (decide (x29 < (w64 (x17 - x33))))))).bind fun x30 => (if x30 = true then some (.inr (.inr false)) else (clock_Clocks_Read (x19, x20, x21) p3).bind fun x34 => some (.inl (x16, x17, x34, w64 (x12 + 1), x19, x20, x21))) else some (.inr (.inl (x13, x14, x15))))
noncomputable def L14_ClockDrifts (p0 : List Int) (p1 : Int) (p2 : List (Int × Int × Int)) (p3 : Int) (p4 : Int) : Option Bool := (clock_New p0 p1).bind fun x1 => altS x1 (fun x2 => (clock_Clocks_Apart x2 p3).bind fun x4 => (clock_Clocks_Read x2 p3).bind fun x5 => orR (loopW (L14_ClockDrifts_l1 p1 p2 p3 p4) (0, x4, x5, 0, x2.1, x2.2.1, x2.2.2)) fun (x6, x7, x8) => (L14_awake).bind fun x35 => some x35) (fun x3 => (L14_awake).bind fun x36 => some x36)
theorem L14_ClockDrifts_c (Y : Nat → Prop) (w0 : World) (v1 : Value) (v2 : Value) (p0 : List Int) (p1 : Int) (p2 : List (Int × Int × Int)) (p3 : Int) (p4 : Int) (r : Bool) (H : L14_ClockDrifts p0 p1 p2 p3 p4 = some r) (h_v1 : Sl w0 (NX []) (Rp.int .i64) v1 p0) (h_v2 : Sl w0 (NX []) R32 v2 p2) :
    Calls Try.prog 4 #[v1, .int .i64 p1, v2, .int .i64 p3, .int .i64 p4] w0 fun e w' => e = .returned (.bool r) ∧ Below w0.heap.size w0 w' := by
  refine enter Try.func4 rfl Try.ntmps4 rfl (fun a hF => ?_)
  have hW := Stw.start Y w0
  unfold L14_ClockDrifts at H
  refine c_seq ?_
  refine reg_list ?_
  refine ls hF hW rfl ((y_assign hF rfl).q) (fun a w hF hW => ?_)
  refine ls_nil ?_
  refine c_then ?_
  refine c_seq ?_
  refine reg_list ?_
  refine ls hF hW rfl ((y_move hF rfl).q) (fun a w hF hW => ?_)
  refine ls hF hW rfl ((y_move hF rfl).q) (fun a w hF hW => ?_)
  obtain ⟨x1, h1, H⟩ := bindE H
  rcases x1 with x2 | x3
  ·
    have H := altL H
    refine l_callG (Ml := []) (Zl := []) (M := []) (Z := []) (β := Nat × Value) (rv := fun x => .tuple #[.pointer (some ⟨x.1, 0, none⟩), .int .i64 0]) (MM := fun x => [(x.1, [.int .i64 x2.1, .int .i64 x2.2.1, x.2])]) (ZZ := fun x => [row x.2 50 R50 x2.2.2]) hF hW H7 rfl rfl (fun hL => clock_New_c _ w (v1) p0 p1 _ h1 ((rdc_ro h_v1) w hW).nx) (fun x a w hF hW => ?_)
    obtain ⟨b1, v3⟩ := x
    have hW : Stw ⟨Y, [], w0⟩ [(b1, [.int .i64 x2.1, .int .i64 x2.2.1, v3])] [row v3 50 R50 x2.2.2] w := hW
    refine ls hF hW rfl ((y_move hF rfl).q) (fun a w hF hW => ?_)
    refine ls hF hW rfl ((y_extract (v := Value.pointer (some ⟨b1, 0, none⟩)) hF rfl rfl).q) (fun a w hF hW => ?_)
    refine ls hF hW rfl ((y_extract (v := Value.int .i64 0) hF rfl rfl).q) (fun a w hF hW => ?_)
    refine ls hF hW rfl ((y_assign hF rfl).q) (fun a w hF hW => ?_)
    refine ls hF hW rfl ((y_assign hF rfl).q) (fun a w hF hW => ?_)
    refine ls_nil ?_
    refine c_then ?_
    refine c_seq ?_
    refine c_seq ?_
    refine reg_list ?_
    refine ls hF hW rfl ((y_move hF rfl).q) (fun a w hF hW => ?_)
    refine ls hF hW rfl ((y_neq hF rfl rfl).q) (fun a w hF hW => ?_)
    rw [show decide ((0 : Int) ≠ 0) = false from by decide] at hF
    refine ls hF hW rfl ((y_move hF rfl).q) (fun a w hF hW => ?_)
    refine ls_w hF hW (wanted_y hF rfl rfl rfl rfl) rfl (Nat.le_of_ble_eq_true rfl) ((y_move hF rfl).q) (fun a w hF hW => ?_)
    refine ls_w hF hW (wanted_y hF rfl rfl rfl rfl) rfl (Nat.le_of_ble_eq_true rfl) ((y_peq_some_nil Try.underlying24 hF rfl rfl).q) (fun a w hF hW => ?_)
    refine ls hF hW rfl ((y_pick_f hF rfl rfl rfl).q) (fun a w hF hW => ?_)
    refine ls_nil ?_
    refine c_then ?_
    refine c_cond_f hF rfl ?_
    refine wp_skip ?_
    refine c_then ?_
    refine c_seq ?_
    refine reg_list ?_
    refine ls hF hW rfl ((y_move hF rfl).q) (fun a w hF hW => ?_)
    refine ls hF hW rfl ((y_move hF rfl).q) (fun a w hF hW => ?_)
    obtain ⟨x4, h2, H⟩ := bindE H
    refine ls hF hW rfl (y_call (v := Value.int .i64 x4) hF H18 rfl (fun w hW => clock_Clocks_Apart_c any w b1 (v3) x2 p3 _ h2 (((rdc_row 0 rfl) : Rdc _ _ _ _ _ _) w hW).nx (at_M hW 0 rfl))) (fun a w hF hW => ?_)
    refine ls hF hW rfl ((y_move hF rfl).q) (fun a w hF hW => ?_)
    refine ls hF hW rfl ((y_move hF rfl).q) (fun a w hF hW => ?_)
    obtain ⟨x5, h3, H⟩ := bindE H
    refine ls hF hW rfl (y_call (v := Value.int .i64 x5) hF H14 rfl (fun w hW => clock_Clocks_Read_c any w b1 (v3) x2 p3 _ h3 (((rdc_row 0 rfl) : Rdc _ _ _ _ _ _) w hW).nx (at_M hW 0 rfl))) (fun a w hF hW => ?_)
    refine ls hF hW rfl ((y_assign hF rfl).q) (fun a w hF hW => ?_)
    refine ls hF hW rfl ((y_assign hF rfl).q) (fun a w hF hW => ?_)
    refine ls hF hW rfl ((y_assign hF rfl).q) (fun a w hF hW => ?_)
    refine ls_nil ?_
    refine c_then ?_
    obtain ⟨o1, G1, K1, L1⟩ := orE H
    refine c_seqJ (fun a w => ∃ x6 : Int, ∃ x7 : Int, ∃ x8 : List (Int × Int × Int), ∃ v4 : Value, some (Sum.inl (x6, x7, x8)) = some o1 ∧ Fr 131 [] [(10, .bool false)] a ∧ Stw ⟨Y, [], w0⟩ [(b1, [.int .i64 x6, .int .i64 x7, v4])] [row v4 50 R50 x8] w) ?_ ?_
    ·
      have H := G1
      clear G1 K1
      refine c_seq ?_
      refine reg_list ?_
      refine ls hF hW rfl ((y_assign hF rfl).q) (fun a w hF hW => ?_)
      refine ls_nil ?_
      refine c_then ?_
      refine wp_block ?_
      refine c_loopW H (fun s a w => ∃ v5 : Value, Fr 131 [] [(1, .int .i64 p1), (2, v2), (3, .int .i64 p3), (4, .int .i64 p4), (10, .bool false), (11, .pointer (some ⟨b1, 0, none⟩)), (13, .int .i64 s.1), (14, .int .i64 s.2.1), (15, .int .i64 s.2.2.1), (16, .int .i64 s.2.2.2.1)] a ∧ Stw ⟨Y, [], w0⟩ [(b1, [.int .i64 s.2.2.2.2.1, .int .i64 s.2.2.2.2.2.1, v5])] [row v5 50 R50 s.2.2.2.2.2.2] w) ⟨(v3), hF.re ⟨rfl, rfl, rfl, rfl, rfl, rfl, rfl, rfl, rfl, rfl, trivial⟩, hW⟩ (fun s o a w H L2 hR => ?_)
      obtain ⟨x9, x10, x11, x12, x13, x14, x15⟩ := s
      obtain ⟨v5, hF, hW⟩ := hR
      have hF : Fr 131 [] [(1, .int .i64 p1), (2, v2), (3, .int .i64 p3), (4, .int .i64 p4), (10, .bool false), (11, .pointer (some ⟨b1, 0, none⟩)), (13, .int .i64 x9), (14, .int .i64 x10), (15, .int .i64 x11), (16, .int .i64 x12)] a := hF
      have hW : Stw ⟨Y, [], w0⟩ [(b1, [.int .i64 x13, .int .i64 x14, v5])] [row v5 50 R50 x15] w := hW
      rw [L14_ClockDrifts_l1] at H
      refine c_seq ?_
      refine c_seqJ (fun a w => Fr 131 [] [(1, .int .i64 p1), (2, v2), (3, .int .i64 p3), (4, .int .i64 p4), (10, .bool false), (11, .pointer (some ⟨b1, 0, none⟩)), (13, .int .i64 x9), (14, .int .i64 x10), (15, .int .i64 x11), (16, .int .i64 x12), (49, .bool (decide (x12 < (p2.length : Int)) && decide (x12 < 40)))] a ∧ Stw ⟨Y, [], w0⟩ [(b1, [.int .i64 x13, .int .i64 x14, v5])] [row v5 50 R50 x15] w) ?_ ?_
      ·
        refine reg_list ?_
        refine ls hF hW rfl ((y_move hF rfl).q) (fun a w hF hW => ?_)
        refine ls hF hW rfl ((y_move hF rfl).q) (fun a w hF hW => ?_)
        refine ls hF hW rfl ((y_len (r := R32) (l := p2) Try.underlying23 rfl hF rfl (rdc_ro h_v2)).q) (fun a w hF hW => ?_)
        refine ls hF hW rfl ((y_lss hF rfl rfl).q) (fun a w hF hW => ?_)
        refine ls hF hW rfl ((y_move hF rfl).q) (fun a w hF hW => ?_)
        rcases Bool.eq_false_or_eq_true (decide (x12 < (p2.length : Int))) with hb0 | hb0
        ·
          rw [hb0] at hF
          refine ls_w hF hW (wanted_y hF rfl rfl rfl rfl) rfl (Nat.le_of_ble_eq_true rfl) ((y_move hF rfl).q) (fun a w hF hW => ?_)
          refine ls_w hF hW (wanted_y hF rfl rfl rfl rfl) rfl (Nat.le_of_ble_eq_true rfl) ((y_lss hF rfl rfl).q) (fun a w hF hW => ?_)
          refine ls hF hW rfl ((y_pick_t hF rfl rfl rfl).q) (fun a w hF hW => ?_)
          refine ls_nil ?_
          refine c_then ?_
          exact ⟨hF.re ⟨rfl, rfl, rfl, rfl, rfl, rfl, rfl, rfl, rfl, rfl, (by show some (Value.bool (decide (x12 < 40))) = some (Value.bool (decide (x12 < (p2.length : Int)) && decide (x12 < 40))); try rw [hb0]; all_goals simp only [Bool.not_true, Bool.not_false, Bool.true_and, Bool.false_and, Bool.true_or, Bool.false_or, Bool.and_true, Bool.or_false, cond_true, cond_false]), trivial⟩, hW⟩
        ·
          rw [hb0] at hF
          refine ls_skip hF (wanted_n hF rfl rfl rfl rfl rfl) rfl rfl (fun a hF => ?_)
          refine ls_skip hF (wanted_n hF rfl rfl rfl rfl rfl) rfl rfl (fun a hF => ?_)
          refine ls hF hW rfl ((y_pick_f hF rfl rfl rfl).q) (fun a w hF hW => ?_)
          refine ls_nil ?_
          refine c_then ?_
          exact ⟨hF.re ⟨rfl, rfl, rfl, rfl, rfl, rfl, rfl, rfl, rfl, rfl, (by show some (Value.bool false) = some (Value.bool (decide (x12 < (p2.length : Int)) && decide (x12 < 40))); try rw [hb0]; all_goals simp only [Bool.not_true, Bool.not_false, Bool.true_and, Bool.false_and, Bool.true_or, Bool.false_or, Bool.and_true, Bool.or_false, cond_true, cond_false]), trivial⟩, hW⟩
      rintro a w ⟨hF, hW⟩
      refine c_cond hF rfl (fun hb => ?_) (fun hb => ?_)
      ·
        have H := iteT hb H
        rw [hb] at hF
        clear hb
        refine wp_skip ?_
        refine c_then ?_
        refine c_seq ?_
        refine wp_block ?_
        obtain ⟨o3, G3, K3⟩ := bindE H
        refine c_seqJ (fun a w => ∃ x16 : Int, ∃ x17 : Int, some ((x16, x17)) = some o3 ∧ Fr 131 [] [(1, .int .i64 p1), (2, v2), (3, .int .i64 p3), (4, .int .i64 p4), (10, .bool false), (11, .pointer (some ⟨b1, 0, none⟩)), (13, .int .i64 x16), (14, .int .i64 x17), (15, .int .i64 x11), (16, .int .i64 x12)] a ∧ Stw ⟨Y, [], w0⟩ [(b1, [.int .i64 x13, .int .i64 x14, v5])] [row v5 50 R50 x15] w) ?_ ?_
        ·
          have H := G3
          clear G3 K3
          refine c_seq ?_
          refine reg_list ?_
          refine ls hF hW rfl ((y_move hF rfl).q) (fun a w hF hW => ?_)
          refine ls hF hW rfl ((y_move hF rfl).q) (fun a w hF hW => ?_)
          refine ls hF hW rfl ((y_eql hF rfl rfl).q) (fun a w hF hW => ?_)
          refine ls_nil ?_
          refine c_then ?_
          refine c_cond hF rfl (fun hb => ?_) (fun hb => ?_)
          ·
            have H := iteT (of_decide_eq_true hb) H
            rw [hb] at hF
            clear hb
            refine reg_list ?_
            refine ls hF hW rfl ((y_move hF rfl).q) (fun a w hF hW => ?_)
            refine ls hF hW rfl (y_call (v := Value.int .i64 (clock_Clocks_Real (x13, x14, x15))) hF H16 rfl (fun w hW => clock_Clocks_Real_c any w b1 (v5) (x13, x14, x15) _ rfl (((rdc_row 0 rfl) : Rdc _ _ _ _ _ _) w hW).nx (at_M hW 0 rfl))) (fun a w hF hW => ?_)
            refine ls hF hW rfl ((y_move hF rfl).q) (fun a w hF hW => ?_)
            refine ls hF hW rfl ((y_move hF rfl).q) (fun a w hF hW => ?_)
            obtain ⟨x18, h4, H⟩ := bindE H
            refine ls hF hW rfl (y_call (v := Value.int .i64 x18) hF H18 rfl (fun w hW => clock_Clocks_Apart_c any w b1 (v5) (x13, x14, x15) p3 _ h4 (((rdc_row 0 rfl) : Rdc _ _ _ _ _ _) w hW).nx (at_M hW 0 rfl))) (fun a w hF hW => ?_)
            refine ls hF hW rfl ((y_assign hF rfl).q) (fun a w hF hW => ?_)
            refine ls hF hW rfl ((y_assign hF rfl).q) (fun a w hF hW => ?_)
            refine ls_nil ?_
            refine c_then ?_
            exact ⟨_, _, H, hF.re ⟨rfl, rfl, rfl, rfl, rfl, rfl, rfl, rfl, rfl, rfl, trivial⟩, hW⟩
          ·
            have H := iteF (of_decide_eq_false hb) H
            rw [hb] at hF
            clear hb
            refine wp_skip ?_
            refine c_then ?_
            exact ⟨_, _, H, hF.re ⟨rfl, rfl, rfl, rfl, rfl, rfl, rfl, rfl, rfl, rfl, trivial⟩, hW⟩
        rintro a w ⟨x16, x17, hj, hF, hW⟩
        have hj := Option.some.inj hj
        subst hj
        have H := K3
        clear G3 K3
        refine c_seq ?_
        refine reg_list ?_
        refine ls hF hW rfl ((y_move hF rfl).q) (fun a w hF hW => ?_)
        refine ls hF hW rfl (y_call (v := Value.int .i64 (clock_Clocks_Real (x13, x14, x15))) hF H16 rfl (fun w hW => clock_Clocks_Real_c any w b1 (v5) (x13, x14, x15) _ rfl (((rdc_row 0 rfl) : Rdc _ _ _ _ _ _) w hW).nx (at_M hW 0 rfl))) (fun a w hF hW => ?_)
        refine ls hF hW rfl ((y_assign hF rfl).q) (fun a w hF hW => ?_)
        refine ls_nil ?_
        refine c_then ?_
        obtain ⟨o4, G4, K4⟩ := bindE H
        refine c_seqJ (fun a w => ∃ x19 : Int, ∃ x20 : Int, ∃ x21 : List (Int × Int × Int), ∃ v6 : Value, some ((x19, x20, x21)) = some o4 ∧ Fr 131 [] [(1, .int .i64 p1), (2, v2), (3, .int .i64 p3), (4, .int .i64 p4), (10, .bool false), (11, .pointer (some ⟨b1, 0, none⟩)), (13, .int .i64 x16), (14, .int .i64 x17), (15, .int .i64 x11), (16, .int .i64 x12), (17, .int .i64 (clock_Clocks_Real (x13, x14, x15)))] a ∧ Stw ⟨Y, [], w0⟩ [(b1, [.int .i64 x19, .int .i64 x20, v6])] [row v6 50 R50 x21] w) ?_ ?_
        ·
          have H := G4
          clear G4 K4
          refine c_seq ?_
          refine reg_list ?_
          refine ls hF hW rfl ((y_move hF rfl).q) (fun a w hF hW => ?_)
          refine ls hF hW rfl ((y_move hF rfl).q) (fun a w hF hW => ?_)
          obtain ⟨x22, h5, H⟩ := bindE H
          refine ls hF hW rfl ((y_index (r := R32) L23 hF rfl rfl (rdc_ro h_v2) h5).q) (fun a w hF hW => ?_)
          refine ls hF hW rfl ((y_fieldAddr Try.underlying32 rfl rfl rfl T3 hF rfl (voff v2 + (x12).toNat * 3) rfl).q) (fun a w hF hW => ?_)
          refine ls hF hW rfl ((y_load_el (y := Value.int .i64 x22.1) (j := 0) (i := x12) hF rfl rfl (rdc_ro h_v2) h5 F32.to T3 rfl).q) (fun a w hF hW => ?_)
          refine ls_nil ?_
          refine c_then ?_
          refine wp_block ?_
          obtain ⟨o5, G5, K5⟩ := bindE H
          refine c_seqJ (fun a w => ∃ x23 : Bool, some (x23) = some o5 ∧ Fr 131 [] [(1, .int .i64 p1), (2, v2), (3, .int .i64 p3), (4, .int .i64 p4), (10, .bool false), (11, .pointer (some ⟨b1, 0, none⟩)), (13, .int .i64 x16), (14, .int .i64 x17), (15, .int .i64 x11), (16, .int .i64 x12), (17, .int .i64 (clock_Clocks_Real (x13, x14, x15))), (66, .int .i64 x22.1), (67, .bool x23)] a ∧ Stw ⟨Y, [], w0⟩ [(b1, [.int .i64 x13, .int .i64 x14, v5])] [row v5 50 R50 x15] w) ?_ ?_
          ·
            have H := G5
            clear G5 K5
            refine c_seq ?_
            refine reg_list ?_
            refine ls hF hW rfl ((y_eql hF rfl rfl).q) (fun a w hF hW => ?_)
            refine ls hF hW rfl ((y_assign hF rfl).q) (fun a w hF hW => ?_)
            refine ls_nil ?_
            refine c_then ?_
            refine c_cond hF rfl (fun hb => ?_) (fun hb => ?_)
            ·
              have H := iteT (of_decide_eq_true hb) H
              rw [hb] at hF
              clear hb
              refine wp_skip ?_
              refine c_then ?_
              exact ⟨_, H, hF.re ⟨rfl, rfl, rfl, rfl, rfl, rfl, rfl, rfl, rfl, rfl, rfl, rfl, rfl, trivial⟩, hW⟩
            ·
              have H := iteF (of_decide_eq_false hb) H
              rw [hb] at hF
              clear hb
              refine c_seq ?_
              refine reg_list ?_
              refine ls hF hW rfl ((y_eql hF rfl rfl).q) (fun a w hF hW => ?_)
              refine ls hF hW rfl ((y_assign hF rfl).q) (fun a w hF hW => ?_)
              refine ls_nil ?_
              refine c_then ?_
              refine c_cond hF rfl (fun hb => ?_) (fun hb => ?_)
              ·
                have H := iteT (of_decide_eq_true hb) H
                rw [hb] at hF
                clear hb
                refine wp_skip ?_
                refine c_then ?_
                exact ⟨_, H, hF.re ⟨rfl, rfl, rfl, rfl, rfl, rfl, rfl, rfl, rfl, rfl, rfl, rfl, rfl, trivial⟩, hW⟩
              ·
                have H := iteF (of_decide_eq_false hb) H
                rw [hb] at hF
                clear hb
                refine reg_list ?_
                refine ls hF hW rfl ((y_eql hF rfl rfl).q) (fun a w hF hW => ?_)
                refine ls hF hW rfl ((y_assign hF rfl).q) (fun a w hF hW => ?_)
                refine ls_nil ?_
                refine c_then ?_
                exact ⟨_, H, hF.re ⟨rfl, rfl, rfl, rfl, rfl, rfl, rfl, rfl, rfl, rfl, rfl, rfl, rfl, trivial⟩, hW⟩
          rintro a w ⟨x23, hj, hF, hW⟩
          have hj := Option.some.inj hj
          subst hj
          have H := K5
          clear G5 K5
          refine c_cond hF rfl (fun hb => ?_) (fun hb => ?_)
          ·
            have H := iteT hb H
            rw [hb] at hF
            clear hb
            refine reg_list ?_
            refine ls hF hW rfl ((y_move hF rfl).q) (fun a w hF hW => ?_)
            refine ls hF hW rfl ((y_move hF rfl).q) (fun a w hF hW => ?_)
            refine ls hF hW rfl ((y_move hF rfl).q) (fun a w hF hW => ?_)
            obtain ⟨x24, h6, H⟩ := bindE H
            refine ls hF hW rfl ((y_index (r := R32) L23 hF rfl rfl (rdc_ro h_v2) h6).q) (fun a w hF hW => ?_)
            refine ls hF hW rfl ((y_fieldAddr Try.underlying32 rfl rfl rfl T3 hF rfl (voff v2 + (x12).toNat * 3 + 2) rfl).q) (fun a w hF hW => ?_)
            refine ls hF hW rfl ((y_load_el (y := Value.int .i64 x24.2.2) (j := 2) (i := x12) hF rfl rfl (rdc_ro h_v2) h6 F32.to T3 rfl).q) (fun a w hF hW => ?_)
            obtain ⟨x25, h7, H⟩ := bindE H
            refine l_callG (Ml := [(b1, [.int .i64 x13, .int .i64 x14, v5])]) (Zl := [row v5 50 R50 x15]) (M := []) (Z := []) (β := Value) (rv := fun x => .tuple #[]) (MM := fun x => [(b1, [.int .i64 x25.1, .int .i64 x25.2.1, x])]) (ZZ := fun x => [row x 50 R50 x25.2.2]) hF hW H10 rfl rfl (fun hL => clock_Clocks_Tick_c _ _ w b1 (v5) (x13, x14, x15) x24.2.2 _ h7 hL) (fun x a w hF hW => ?_)
            obtain ⟨v7, rfl⟩ : ∃ y, y = x := ⟨x, rfl⟩
            have hW : Stw ⟨Y, [], w0⟩ [(b1, [.int .i64 x25.1, .int .i64 x25.2.1, v7])] [row v7 50 R50 x25.2.2] w := hW
            refine ls_nil ?_
            refine b_normal ?_
            refine c_then ?_
            exact ⟨_, _, _, (v7), H, hF.re ⟨rfl, rfl, rfl, rfl, rfl, rfl, rfl, rfl, rfl, rfl, rfl, trivial⟩, hW⟩
          ·
            have H := iteF (by rw [hb]; decide) H
            rw [hb] at hF
            clear hb
            refine c_seq ?_
            refine reg_list ?_
            refine ls hF hW rfl ((y_eql hF rfl rfl).q) (fun a w hF hW => ?_)
            refine ls hF hW rfl ((y_assign hF rfl).q) (fun a w hF hW => ?_)
            refine ls_nil ?_
            refine c_then ?_
            refine c_cond hF rfl (fun hb => ?_) (fun hb => ?_)
            ·
              have H := iteT (of_decide_eq_true hb) H
              rw [hb] at hF
              clear hb
              refine reg_tail 11 hW MO (by kernel_rfl) ?_
              refine qs hF rfl ((y_move hF rfl).q) (fun a hF => ?_)
              refine qs hF rfl ((y_move hF rfl).q) (fun a hF => ?_)
              refine qs hF rfl ((y_move hF rfl).q) (fun a hF => ?_)
              obtain ⟨x26, h8, H⟩ := bindE H
              refine qs hF rfl ((y_index (r := R32) L23 hF rfl rfl (rdc_ro h_v2) h8).q) (fun a hF => ?_)
              refine qs hF rfl ((y_fieldAddr Try.underlying32 rfl rfl rfl T3 hF rfl (voff v2 + (x12).toNat * 3 + 1) rfl).q) (fun a hF => ?_)
              refine qs hF rfl ((y_load_el (y := Value.int .i64 x26.2.1) (j := 1) (i := x12) hF rfl rfl (rdc_ro h_v2) h8 F32.to T3 rfl).q) (fun a hF => ?_)
              refine qs hF rfl ((y_move hF rfl).q) (fun a hF => ?_)
              refine qs hF rfl ((y_move hF rfl).q) (fun a hF => ?_)
              obtain ⟨x27, h9, H⟩ := bindE H
              refine qs hF rfl ((y_index (r := R32) L23 hF rfl rfl (rdc_ro h_v2) h9).q) (fun a hF => ?_)
              refine qs hF rfl ((y_fieldAddr Try.underlying32 rfl rfl rfl T3 hF rfl (voff v2 + (x12).toNat * 3 + 2) rfl).q) (fun a hF => ?_)
              refine qs hF rfl ((y_load_el (y := Value.int .i64 x27.2.2) (j := 2) (i := x12) hF rfl rfl (rdc_ro h_v2) h9 F32.to T3 rfl).q) (fun a hF => ?_)
              refine quiet_end (fun w hW => ?_)
              obtain ⟨x28, h10, H⟩ := bindE H
              refine l_callG (Ml := [(b1, [.int .i64 x13, .int .i64 x14, v5])]) (Zl := [row v5 50 R50 x15]) (M := []) (Z := []) (β := Value) (rv := fun x => .int .i64 x28.1) (MM := fun x => [(b1, [.int .i64 x28.2.1, .int .i64 x28.2.2.1, x])]) (ZZ := fun x => [row x 50 R50 x28.2.2.2]) hF hW H12 rfl rfl (fun hL => clock_Clocks_Rate_c _ _ w b1 (v5) (x13, x14, x15) x26.2.1 x27.2.2 _ h10 hL) (fun x a w hF hW => ?_)
              obtain ⟨v8, rfl⟩ : ∃ y, y = x := ⟨x, rfl⟩
              have hW : Stw ⟨Y, [], w0⟩ [(b1, [.int .i64 x28.2.1, .int .i64 x28.2.2.1, v8])] [row v8 50 R50 x28.2.2.2] w := hW
              refine ls_nil ?_
              refine b_normal ?_
              refine c_then ?_
              exact ⟨_, _, _, (v8), H, hF.re ⟨rfl, rfl, rfl, rfl, rfl, rfl, rfl, rfl, rfl, rfl, rfl, trivial⟩, hW⟩
            ·
              have H := iteF (of_decide_eq_false hb) H
              rw [hb] at hF
              clear hb
              refine wp_skip ?_
              refine b_normal ?_
              refine c_then ?_
              exact ⟨_, _, _, (v5), H, hF.re ⟨rfl, rfl, rfl, rfl, rfl, rfl, rfl, rfl, rfl, rfl, rfl, trivial⟩, hW⟩
        rintro a w ⟨x19, x20, x21, v6, hj, hF, hW⟩
        have hj := Option.some.inj hj
        subst hj
        have H := K4
        clear G4 K4
        refine c_seq ?_
        refine reg_list ?_
        refine ls hF hW rfl ((y_move hF rfl).q) (fun a w hF hW => ?_)
        refine ls hF hW rfl (y_call (v := Value.int .i64 (clock_Clocks_Real (x19, x20, x21))) hF H16 rfl (fun w hW => clock_Clocks_Real_c any w b1 (v6) (x19, x20, x21) _ rfl (((rdc_row 0 rfl) : Rdc _ _ _ _ _ _) w hW).nx (at_M hW 0 rfl))) (fun a w hF hW => ?_)
        refine ls hF hW rfl ((y_move hF rfl).q) (fun a w hF hW => ?_)
        refine ls hF hW rfl ((y_sub hF rfl rfl rfl).q) (fun a w hF hW => ?_)
        refine ls hF hW rfl ((y_move hF rfl).q) (fun a w hF hW => ?_)
        obtain ⟨x29, h11, H⟩ := bindE H
        refine ls hF hW rfl (y_call (v := Value.int .i64 x29) hF H20 rfl (fun w hW => clock_Drift_c any w (w64 ((clock_Clocks_Real (x19, x20, x21)) - x16)) p1 _ h11)) (fun a w hF hW => ?_)
        refine ls hF hW rfl ((y_assign hF rfl).q) (fun a w hF hW => ?_)
        refine ls_nil ?_
        refine c_then ?_
        refine c_seq ?_
        obtain ⟨o6, G6, K6⟩ := bindE H
        refine c_seqJ (fun a w => ∃ x30 : Bool, some (x30) = some o6 ∧ Fr 131 [] [(1, .int .i64 p1), (2, v2), (3, .int .i64 p3), (4, .int .i64 p4), (10, .bool false), (11, .pointer (some ⟨b1, 0, none⟩)), (13, .int .i64 x16), (14, .int .i64 x17), (15, .int .i64 x11), (16, .int .i64 x12), (126, .bool x30)] a ∧ Stw ⟨Y, [], w0⟩ [(b1, [.int .i64 x19, .int .i64 x20, v6])] [row v6 50 R50 x21] w) ?_ ?_
        ·
          have H := G6
          clear G6 K6
          refine reg_list ?_
          refine ls hF hW rfl ((y_move hF rfl).q) (fun a w hF hW => ?_)
          refine ls hF hW rfl (y_call (v := Value.int .i64 (clock_Clocks_Real (x19, x20, x21))) hF H16 rfl (fun w hW => clock_Clocks_Real_c any w b1 (v6) (x19, x20, x21) _ rfl (((rdc_row 0 rfl) : Rdc _ _ _ _ _ _) w hW).nx (at_M hW 0 rfl))) (fun a w hF hW => ?_)
          refine ls hF hW rfl ((y_move hF rfl).q) (fun a w hF hW => ?_)
          refine ls hF hW rfl ((y_lss hF rfl rfl).q) (fun a w hF hW => ?_)
          refine ls hF hW rfl ((y_move hF rfl).q) (fun a w hF hW => ?_)
          rcases Bool.eq_false_or_eq_true (decide ((clock_Clocks_Real (x19, x20, x21)) < (clock_Clocks_Real (x13, x14, x15)))) with hb | hb
          ·
            have H := iteT (of_decide_eq_true hb) H
            rw [hb] at hF
            clear hb
            refine ls_skip hF (wanted_n hF rfl rfl rfl rfl rfl) rfl rfl (fun a hF => ?_)
            refine ls_skip hF (wanted_n hF rfl rfl rfl rfl rfl) rfl rfl (fun a hF => ?_)
            refine ls_skip hF (wanted_n hF rfl rfl rfl rfl rfl) rfl rfl (fun a hF => ?_)
            refine ls_skip hF (wanted_n hF rfl rfl rfl rfl rfl) rfl rfl (fun a hF => ?_)
            refine ls_skip hF (wanted_n hF rfl rfl rfl rfl rfl) rfl rfl (fun a hF => ?_)
            refine ls hF hW rfl ((y_pick_t hF rfl rfl rfl).q) (fun a w hF hW => ?_)
            refine ls hF hW rfl ((y_move hF rfl).q) (fun a w hF hW => ?_)
            refine ls_skip hF (wanted_n hF rfl rfl rfl rfl rfl) rfl rfl (fun a hF => ?_)
            refine ls_skip hF (wanted_n hF rfl rfl rfl rfl rfl) rfl rfl (fun a hF => ?_)
            refine ls_skip hF (wanted_n hF rfl rfl rfl rfl rfl) rfl rfl (fun a hF => ?_)
            refine ls_skip hF (wanted_n hF rfl rfl rfl rfl rfl) rfl rfl (fun a hF => ?_)
            refine ls_skip hF (wanted_n hF rfl rfl rfl rfl rfl) rfl rfl (fun a hF => ?_)
            refine ls_skip hF (wanted_n hF rfl rfl rfl rfl rfl) rfl rfl (fun a hF => ?_)
            refine ls_skip hF (wanted_n hF rfl rfl rfl rfl rfl) rfl rfl (fun a hF => ?_)
            refine ls hF hW rfl ((y_pick_t hF rfl rfl rfl).q) (fun a w hF hW => ?_)
            refine ls hF hW rfl ((y_move hF rfl).q) (fun a w hF hW => ?_)
            refine ls_skip hF (wanted_n hF rfl rfl rfl rfl rfl) rfl rfl (fun a hF => ?_)
            refine ls_skip hF (wanted_n hF rfl rfl rfl rfl rfl) rfl rfl (fun a hF => ?_)
            refine ls_skip hF (wanted_n hF rfl rfl rfl rfl rfl) rfl rfl (fun a hF => ?_)
            refine ls_skip hF (wanted_n hF rfl rfl rfl rfl rfl) rfl rfl (fun a hF => ?_)
            refine ls_skip hF (wanted_n hF rfl rfl rfl rfl rfl) rfl rfl (fun a hF => ?_)
            refine ls_skip hF (wanted_n hF rfl rfl rfl rfl rfl) rfl rfl (fun a hF => ?_)
            refine ls_skip hF (wanted_n hF rfl rfl rfl rfl rfl) rfl rfl (fun a hF => ?_)
            refine ls hF hW rfl ((y_pick_t hF rfl rfl rfl).q) (fun a w hF hW => ?_)
            refine ls_nil ?_
            refine c_then ?_
            exact ⟨_, H, hF.re ⟨rfl, rfl, rfl, rfl, rfl, rfl, rfl, rfl, rfl, rfl, rfl, trivial⟩, hW⟩
          ·
            have H := iteF (of_decide_eq_false hb) H
            rw [hb] at hF
            clear hb
            refine ls_w hF hW (wanted_y hF rfl rfl rfl rfl) rfl (Nat.le_of_ble_eq_true rfl) ((y_move hF rfl).q) (fun a w hF hW => ?_)
            refine ls_w hF hW (wanted_y hF rfl rfl rfl rfl) rfl (Nat.le_of_ble_eq_true rfl) ((y_move hF rfl).q) (fun a w hF hW => ?_)
            refine ls_g (wanted_y hF rfl rfl rfl rfl) ?_
            obtain ⟨x31, h12, H⟩ := bindE H
            refine ls hF hW rfl (y_call (v := Value.int .i64 x31) hF H14 rfl (fun w hW => clock_Clocks_Read_c any w b1 (v6) (x19, x20, x21) p3 _ h12 (((rdc_row 0 rfl) : Rdc _ _ _ _ _ _) w hW).nx (at_M hW 0 rfl))) (fun a w hF hW => ?_)
            refine ls_w hF hW (wanted_y hF rfl rfl rfl rfl) rfl (Nat.le_of_ble_eq_true rfl) ((y_move hF rfl).q) (fun a w hF hW => ?_)
            refine ls_w hF hW (wanted_y hF rfl rfl rfl rfl) rfl (Nat.le_of_ble_eq_true rfl) ((y_lss hF rfl rfl).q) (fun a w hF hW => ?_)
            refine ls hF hW rfl ((y_pick_f hF rfl rfl rfl).q) (fun a w hF hW => ?_)
            refine ls hF hW rfl ((y_move hF rfl).q) (fun a w hF hW => ?_)
            rcases Bool.eq_false_or_eq_true (decide (x31 < x11)) with hb | hb
            ·
              have H := iteT (of_decide_eq_true hb) H
              rw [hb] at hF
              clear hb
              refine ls_skip hF (wanted_n hF rfl rfl rfl rfl rfl) rfl rfl (fun a hF => ?_)
              refine ls_skip hF (wanted_n hF rfl rfl rfl rfl rfl) rfl rfl (fun a hF => ?_)
              refine ls_skip hF (wanted_n hF rfl rfl rfl rfl rfl) rfl rfl (fun a hF => ?_)
              refine ls_skip hF (wanted_n hF rfl rfl rfl rfl rfl) rfl rfl (fun a hF => ?_)
              refine ls_skip hF (wanted_n hF rfl rfl rfl rfl rfl) rfl rfl (fun a hF => ?_)
              refine ls_skip hF (wanted_n hF rfl rfl rfl rfl rfl) rfl rfl (fun a hF => ?_)
              refine ls_skip hF (wanted_n hF rfl rfl rfl rfl rfl) rfl rfl (fun a hF => ?_)
              refine ls hF hW rfl ((y_pick_t hF rfl rfl rfl).q) (fun a w hF hW => ?_)
              refine ls hF hW rfl ((y_move hF rfl).q) (fun a w hF hW => ?_)
              refine ls_skip hF (wanted_n hF rfl rfl rfl rfl rfl) rfl rfl (fun a hF => ?_)
              refine ls_skip hF (wanted_n hF rfl rfl rfl rfl rfl) rfl rfl (fun a hF => ?_)
              refine ls_skip hF (wanted_n hF rfl rfl rfl rfl rfl) rfl rfl (fun a hF => ?_)
              refine ls_skip hF (wanted_n hF rfl rfl rfl rfl rfl) rfl rfl (fun a hF => ?_)
              refine ls_skip hF (wanted_n hF rfl rfl rfl rfl rfl) rfl rfl (fun a hF => ?_)
              refine ls_skip hF (wanted_n hF rfl rfl rfl rfl rfl) rfl rfl (fun a hF => ?_)
              refine ls_skip hF (wanted_n hF rfl rfl rfl rfl rfl) rfl rfl (fun a hF => ?_)
              refine ls hF hW rfl ((y_pick_t hF rfl rfl rfl).q) (fun a w hF hW => ?_)
              refine ls_nil ?_
              refine c_then ?_
              exact ⟨_, H, hF.re ⟨rfl, rfl, rfl, rfl, rfl, rfl, rfl, rfl, rfl, rfl, rfl, trivial⟩, hW⟩
            ·
              have H := iteF (of_decide_eq_false hb) H
              rw [hb] at hF
              clear hb
              refine ls_w hF hW (wanted_y hF rfl rfl rfl rfl) rfl (Nat.le_of_ble_eq_true rfl) ((y_move hF rfl).q) (fun a w hF hW => ?_)
              refine ls_w hF hW (wanted_y hF rfl rfl rfl rfl) rfl (Nat.le_of_ble_eq_true rfl) ((y_move hF rfl).q) (fun a w hF hW => ?_)
              refine ls_g (wanted_y hF rfl rfl rfl rfl) ?_
              obtain ⟨x32, h13, H⟩ := bindE H
              refine ls hF hW rfl (y_call (v := Value.int .i64 x32) hF H18 rfl (fun w hW => clock_Clocks_Apart_c any w b1 (v6) (x19, x20, x21) p3 _ h13 (((rdc_row 0 rfl) : Rdc _ _ _ _ _ _) w hW).nx (at_M hW 0 rfl))) (fun a w hF hW => ?_)
              refine ls_w hF hW (wanted_y hF rfl rfl rfl rfl) rfl (Nat.le_of_ble_eq_true rfl) ((y_move hF rfl).q) (fun a w hF hW => ?_)
              refine ls_w hF hW (wanted_y hF rfl rfl rfl rfl) rfl (Nat.le_of_ble_eq_true rfl) ((y_sub hF rfl rfl rfl).q) (fun a w hF hW => ?_)
              refine ls_w hF hW (wanted_y hF rfl rfl rfl rfl) rfl (Nat.le_of_ble_eq_true rfl) ((y_move hF rfl).q) (fun a w hF hW => ?_)
              refine ls_w hF hW (wanted_y hF rfl rfl rfl rfl) rfl (Nat.le_of_ble_eq_true rfl) ((y_gtr hF rfl rfl).q) (fun a w hF hW => ?_)
              refine ls hF hW rfl ((y_pick_f hF rfl rfl rfl).q) (fun a w hF hW => ?_)
              refine ls hF hW rfl ((y_move hF rfl).q) (fun a w hF hW => ?_)
              rcases Bool.eq_false_or_eq_true (decide (x29 < (w64 (x32 - x17)))) with hb | hb
              ·
                have H := iteT (of_decide_eq_true hb) H
                rw [hb] at hF
                clear hb
                refine ls_skip hF (wanted_n hF rfl rfl rfl rfl rfl) rfl rfl (fun a hF => ?_)
                refine ls_skip hF (wanted_n hF rfl rfl rfl rfl rfl) rfl rfl (fun a hF => ?_)
                refine ls_skip hF (wanted_n hF rfl rfl rfl rfl rfl) rfl rfl (fun a hF => ?_)
                refine ls_skip hF (wanted_n hF rfl rfl rfl rfl rfl) rfl rfl (fun a hF => ?_)
                refine ls_skip hF (wanted_n hF rfl rfl rfl rfl rfl) rfl rfl (fun a hF => ?_)
                refine ls_skip hF (wanted_n hF rfl rfl rfl rfl rfl) rfl rfl (fun a hF => ?_)
                refine ls_skip hF (wanted_n hF rfl rfl rfl rfl rfl) rfl rfl (fun a hF => ?_)
                refine ls hF hW rfl ((y_pick_t hF rfl rfl rfl).q) (fun a w hF hW => ?_)
                refine ls_nil ?_
                refine c_then ?_
                exact ⟨_, H, hF.re ⟨rfl, rfl, rfl, rfl, rfl, rfl, rfl, rfl, rfl, rfl, rfl, trivial⟩, hW⟩
              ·
                have H := iteF (of_decide_eq_false hb) H
                rw [hb] at hF
                clear hb
                refine ls_w hF hW (wanted_y hF rfl rfl rfl rfl) rfl (Nat.le_of_ble_eq_true rfl) ((y_move hF rfl).q) (fun a w hF hW => ?_)
                refine ls_w hF hW (wanted_y hF rfl rfl rfl rfl) rfl (Nat.le_of_ble_eq_true rfl) ((y_move hF rfl).q) (fun a w hF hW => ?_)
                refine ls_w hF hW (wanted_y hF rfl rfl rfl rfl) rfl (Nat.le_of_ble_eq_true rfl) ((y_move hF rfl).q) (fun a w hF hW => ?_)
                refine ls_g (wanted_y hF rfl rfl rfl rfl) ?_
                obtain ⟨x33, h14, H⟩ := bindE H
                refine ls hF hW rfl (y_call (v := Value.int .i64 x33) hF H18 rfl (fun w hW => clock_Clocks_Apart_c any w b1 (v6) (x19, x20, x21) p3 _ h14 (((rdc_row 0 rfl) : Rdc _ _ _ _ _ _) w hW).nx (at_M hW 0 rfl))) (fun a w hF hW => ?_)
                refine ls_w hF hW (wanted_y hF rfl rfl rfl rfl) rfl (Nat.le_of_ble_eq_true rfl) ((y_sub hF rfl rfl rfl).q) (fun a w hF hW => ?_)
                refine ls_w hF hW (wanted_y hF rfl rfl rfl rfl) rfl (Nat.le_of_ble_eq_true rfl) ((y_move hF rfl).q) (fun a w hF hW => ?_)
                refine ls_w hF hW (wanted_y hF rfl rfl rfl rfl) rfl (Nat.le_of_ble_eq_true rfl) ((y_gtr hF rfl rfl).q) (fun a w hF hW => ?_)
                refine ls hF hW rfl ((y_pick_f hF rfl rfl rfl).q) (fun a w hF hW => ?_)
                refine ls_nil ?_
                refine c_then ?_
                exact ⟨_, H, hF.re ⟨rfl, rfl, rfl, rfl, rfl, rfl, rfl, rfl, rfl, rfl, rfl, trivial⟩, hW⟩
        rintro a w ⟨x30, hj, hF, hW⟩
        have hj := Option.some.inj hj
        subst hj
        have H := K6
        clear G6 K6
        refine c_cond hF rfl (fun hb => ?_) (fun hb => ?_)
        ·
          have H := iteT hb H
          rw [hb] at hF
          clear hb
          refine c_seq ?_
          refine reg_list ?_
          refine ls hF hW rfl ((y_assign hF rfl).q) (fun a w hF hW => ?_)
          refine ls_nil ?_
          refine c_then ?_
          refine wp_ret ?_
          refine r_then ?_
          refine r_block ?_
          refine r_then ?_
          refine r_then ?_
          refine r_block ?_
          refine r_then ?_
          have H := L2 _ H
          have H := L1 _ H
          have H := Option.some.inj H
          subst H
          refine post1 (.inl rfl) hF hW rfl (rv_tmp hF rfl) ?_
          exact ⟨rfl, hW.done⟩
        ·
          have H := iteF (by rw [hb]; decide) H
          rw [hb] at hF
          clear hb
          refine wp_skip ?_
          refine c_then ?_
          refine reg_list ?_
          refine ls hF hW rfl ((y_move hF rfl).q) (fun a w hF hW => ?_)
          refine ls hF hW rfl ((y_move hF rfl).q) (fun a w hF hW => ?_)
          obtain ⟨x34, h15, H⟩ := bindE H
          refine ls hF hW rfl (y_call (v := Value.int .i64 x34) hF H14 rfl (fun w hW => clock_Clocks_Read_c any w b1 (v6) (x19, x20, x21) p3 _ h15 (((rdc_row 0 rfl) : Rdc _ _ _ _ _ _) w hW).nx (at_M hW 0 rfl))) (fun a w hF hW => ?_)
          refine ls hF hW rfl ((y_assign hF rfl).q) (fun a w hF hW => ?_)
          refine ls_nil ?_
          refine b_normal ?_
          refine c_then ?_
          refine reg_list ?_
          refine ls hF hW rfl ((y_move hF rfl).q) (fun a w hF hW => ?_)
          refine ls hF hW rfl ((y_add hF rfl rfl rfl).q) (fun a w hF hW => ?_)
          refine ls hF hW rfl ((y_assign hF rfl).q) (fun a w hF hW => ?_)
          refine ls_nil ?_
          refine c_then ?_
          exact ⟨_, H, (v6), hF.re ⟨rfl, rfl, rfl, rfl, rfl, rfl, rfl, rfl, rfl, rfl, trivial⟩, hW⟩
      ·
        have H := iteF (by rw [hb]; decide) H
        rw [hb] at hF
        clear hb
        refine wp_exit ?_
        refine e_then ?_
        refine e_then ?_
        refine e_block ?_
        refine c_then ?_
        have H := L2 _ H
        exact ⟨_, _, _, (v5), H, hF.re ⟨rfl, trivial⟩, hW⟩
    rintro a w ⟨x6, x7, x8, v4, hj, hF, hW⟩
    have H := K1 _ hj
    clear hj G1 K1 L1
    refine c_seq ?_
    refine reg_list ?_
    obtain ⟨x35, h16, H⟩ := bindE H
    refine ls hF hW rfl (y_call (v := Value.bool x35) hF H9 rfl (fun w hW => L14_awake_c any w _ h16)) (fun a w hF hW => ?_)
    refine ls hF hW rfl ((y_assign hF rfl).q) (fun a w hF hW => ?_)
    refine ls_nil ?_
    refine c_then ?_
    refine wp_ret ?_
    have H := Option.some.inj H
    subst H
    refine post1 (.inl rfl) hF hW rfl (rv_tmp hF rfl) ?_
    exact ⟨rfl, hW.done⟩
  ·
    have H := altR H
    refine l_callG (Ml := []) (Zl := []) (M := []) (Z := []) (β := Unit) (rv := fun x => .tuple #[.pointer none, .int .i64 2]) (MM := fun x => []) (ZZ := fun x => []) hF hW H7 rfl rfl (fun hL => clock_New_c _ w (v1) p0 p1 _ h1 ((rdc_ro h_v1) w hW).nx) (fun x a w hF hW => ?_)
    have hW : Stw ⟨Y, [], w0⟩ [] [] w := hW
    refine ls hF hW rfl ((y_move hF rfl).q) (fun a w hF hW => ?_)
    refine ls hF hW rfl ((y_extract (v := Value.pointer none) hF rfl rfl).q) (fun a w hF hW => ?_)
    refine ls hF hW rfl ((y_extract (v := Value.int .i64 2) hF rfl rfl).q) (fun a w hF hW => ?_)
    refine ls hF hW rfl ((y_assign hF rfl).q) (fun a w hF hW => ?_)
    refine ls hF hW rfl ((y_assign hF rfl).q) (fun a w hF hW => ?_)
    refine ls_nil ?_
    refine c_then ?_
    refine c_seq ?_
    refine c_seq ?_
    refine reg_list ?_
    refine ls hF hW rfl ((y_move hF rfl).q) (fun a w hF hW => ?_)
    refine ls hF hW rfl ((y_neq hF rfl rfl).q) (fun a w hF hW => ?_)
    rw [show decide ((2 : Int) ≠ 0) = true from by decide] at hF
    refine ls hF hW rfl ((y_move hF rfl).q) (fun a w hF hW => ?_)
    refine ls_skip hF (wanted_n hF rfl rfl rfl rfl rfl) rfl rfl (fun a hF => ?_)
    refine ls_skip hF (wanted_n hF rfl rfl rfl rfl rfl) rfl rfl (fun a hF => ?_)
    refine ls hF hW rfl ((y_pick_t hF rfl rfl rfl).q) (fun a w hF hW => ?_)
    refine ls_nil ?_
    refine c_then ?_
    refine c_cond_t hF rfl ?_
    refine c_seq ?_
    refine reg_list ?_
    refine ls hF hW rfl ((y_move hF rfl).q) (fun a w hF hW => ?_)
    refine ls hF hW rfl ((y_eql hF rfl rfl).q) (fun a w hF hW => ?_)
    rw [show decide ((2 : Int) = 2) = true from by decide] at hF
    refine ls hF hW rfl ((y_move hF rfl).q) (fun a w hF hW => ?_)
    refine ls_g (wanted_y hF rfl rfl rfl rfl) ?_
    obtain ⟨x36, h17, H⟩ := bindE H
    refine ls hF hW rfl (y_call (v := Value.bool x36) hF H9 rfl (fun w hW => L14_awake_c any w _ h17)) (fun a w hF hW => ?_)
    refine ls hF hW rfl ((y_pick_t hF rfl rfl rfl).q) (fun a w hF hW => ?_)
    refine ls hF hW rfl ((y_assign hF rfl).q) (fun a w hF hW => ?_)
    refine ls_nil ?_
    refine c_then ?_
    refine wp_ret ?_
    refine r_then ?_
    have H := Option.some.inj H
    subst H
    refine post1 (.inl rfl) hF hW rfl (rv_tmp hF rfl) ?_
    exact ⟨rfl, hW.done⟩

end Go.Proofs.Ythmpfhjdodfchaa
