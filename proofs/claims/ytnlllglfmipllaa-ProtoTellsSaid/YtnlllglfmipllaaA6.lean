/- The functions of layer 16, lifted. Conditions: none. -/
import Derived.Test.YtnlllglfmipllaaA5
namespace Go.Proofs.Ytnlllglfmipllaa
open Go Go.RowKit
set_option linter.unusedVariables false
set_option linter.unusedSimpArgs false
set_option maxRecDepth 20000
theorem H9 : Has Try.prog 9 := ⟨fun args w => run_callFunc_body Try.func9 rfl (by decide) args w⟩
def r16_numbers (p0 : Int × Int × Int × Int × Int × Int × Int × Int × Int × (List (Int × (Int × (Int × (Int × Int × Int × Int) × (Int × Int × Int × Int)) × (List (Int × Int × Int))) × Bool))) : Bool := (if (decide (p0.2.2.2.2.1 < 0) || (decide (1125899906842624 < p0.2.2.2.2.1) || (decide (p0.2.2.2.2.2.1 < (-1125899906842624)) || (decide (1125899906842624 < p0.2.2.2.2.2.1) || (decide (p0.2.2.2.2.2.2.1 < 0) || (decide (65535 < p0.2.2.2.2.2.2.1) || (decide (p0.2.2.2.2.2.2.2.2.1 < 0) || decide (255 < p0.2.2.2.2.2.2.2.2.1)))))))) = true then false else (if (decide (2 < p0.1) && (decide (p0.2.2.1 < 1) || (decide (65535 < p0.2.2.1) || decide (7 < p0.2.2.2.1)))) = true then false else (if (decide (p0.2.2.2.1 < 0) && (decide (p0.2.2.2.1 < (-1)) || (decide (p0.1 < 5) || decide (p0.1 = 6)))) = true then false else (decide (p0.1 < 7) || (decide (3 ≤ p0.2.2.2.2.2.2.2.1) && decide (p0.2.2.2.2.2.2.2.1 ≤ 6))))))
theorem r16_numbers_c (Y : Nat → Prop) (w0 : World) (v1 : Value) (p0 : Int × Int × Int × Int × Int × Int × Int × Int × Int × (List (Int × (Int × (Int × (Int × Int × Int × Int) × (Int × Int × Int × Int)) × (List (Int × Int × Int))) × Bool))) (r : Bool) (H : r16_numbers p0 = r) (h_v1 : Sl w0 (NX []) R42 v1 p0.2.2.2.2.2.2.2.2.2) :
    Calls Try.prog 21 #[.agg #[.int .i64 p0.1, .int .i64 p0.2.1, .int .i64 p0.2.2.1, .int .i64 p0.2.2.2.1, .int .i64 p0.2.2.2.2.1, .int .i64 p0.2.2.2.2.2.1, .int .i64 p0.2.2.2.2.2.2.1, .int .i64 p0.2.2.2.2.2.2.2.1, .int .i64 p0.2.2.2.2.2.2.2.2.1, v1]] w0 fun e w' => e = .returned (.bool r) ∧ Below w0.heap.size w0 w' := by
 refine enter Try.func21 rfl Try.ntmps21 rfl (fun a hF => ?_)
 have hW := Stw.start Y w0
 obtain ⟨v2, h1, h_v1⟩ := h_v1.ex EX42
 unfold r16_numbers at H
 refine c_seq ?_
 refine reg_list ?_
 refine l_box (cs := [.int .i64 p0.1, .int .i64 p0.2.1, .int .i64 p0.2.2.1, .int .i64 p0.2.2.2.1, .int .i64 p0.2.2.2.2.1, .int .i64 p0.2.2.2.2.2.1, .int .i64 p0.2.2.2.2.2.2.1, .int .i64 p0.2.2.2.2.2.2.2.1, .int .i64 p0.2.2.2.2.2.2.2.2.1, v1]) hF hW rfl rfl rfl (fun b1 a w hF hW => ?_)
 refine ls hF hW rfl ((y_assign hF rfl).q) (fun a w hF hW => ?_)
 refine ls_nil ?_
 refine c_then ?_
 refine c_seq ?_
 refine reg_list ?_
 refine ls hF hW rfl ((y_fieldAddr u24_ rfl rfl rfl T3 hF rfl 0 rfl).q) (fun a w hF hW => ?_)
 refine ls hF hW rfl ((y_load (v := Value.int .i64 p0.1) 0 hF rfl rfl T3 rfl).q) (fun a w hF hW => ?_)
 refine ls hF hW rfl ((y_assign hF rfl).q) (fun a w hF hW => ?_)
 refine ls_nil ?_
 refine c_then ?_
 refine c_seq ?_
 refine c_seqJ (fun a w => Fr 89 [] [(1, .pointer (some ⟨b1, 0, none⟩)), (2, .bool false), (3, .int .i64 p0.1), (43, .bool (decide (p0.2.2.2.2.1 < 0) || (decide (1125899906842624 < p0.2.2.2.2.1) || (decide (p0.2.2.2.2.2.1 < (-1125899906842624)) || (decide (1125899906842624 < p0.2.2.2.2.2.1) || (decide (p0.2.2.2.2.2.2.1 < 0) || (decide (65535 < p0.2.2.2.2.2.2.1) || (decide (p0.2.2.2.2.2.2.2.2.1 < 0) || decide (255 < p0.2.2.2.2.2.2.2.2.1)))))))))] a ∧ Stw ⟨Y, [], w0⟩ [(b1, [.int .i64 p0.1, .int .i64 p0.2.1, .int .i64 p0.2.2.1, .int .i64 p0.2.2.2.1, .int .i64 p0.2.2.2.2.1, .int .i64 p0.2.2.2.2.2.1, .int .i64 p0.2.2.2.2.2.2.1, .int .i64 p0.2.2.2.2.2.2.2.1, .int .i64 p0.2.2.2.2.2.2.2.2.1, v1])] [] w) ?_ ?_
 ·
  refine reg_list ?_
  refine ls hF hW rfl ((y_fieldAddr u24_ rfl rfl rfl T3 hF rfl 4 rfl).q) (fun a w hF hW => ?_)
  refine ls hF hW rfl ((y_load (v := Value.int .i64 p0.2.2.2.2.1) 0 hF rfl rfl T3 rfl).q) (fun a w hF hW => ?_)
  refine ls hF hW rfl ((y_lss hF rfl rfl).q) (fun a w hF hW => ?_)
  refine ls hF hW rfl ((y_move hF rfl).q) (fun a w hF hW => ?_)
  rcases Bool.eq_false_or_eq_true (decide (p0.2.2.2.2.1 < 0)) with hb0 | hb0
  ·
   rw [hb0] at hF
   refine lsn hF rfl rfl rfl rfl rfl rfl rfl (fun a hF => ?_)
   refine lsn hF rfl rfl rfl rfl rfl rfl rfl (fun a hF => ?_)
   refine lsn hF rfl rfl rfl rfl rfl rfl rfl (fun a hF => ?_)
   refine ls hF hW rfl ((y_pick_t hF rfl rfl rfl).q) (fun a w hF hW => ?_)
   refine ls hF hW rfl ((y_move hF rfl).q) (fun a w hF hW => ?_)
   refine lsn hF rfl rfl rfl rfl rfl rfl rfl (fun a hF => ?_)
   refine lsn hF rfl rfl rfl rfl rfl rfl rfl (fun a hF => ?_)
   refine lsn hF rfl rfl rfl rfl rfl rfl rfl (fun a hF => ?_)
   refine ls hF hW rfl ((y_pick_t hF rfl rfl rfl).q) (fun a w hF hW => ?_)
   refine ls hF hW rfl ((y_move hF rfl).q) (fun a w hF hW => ?_)
   refine lsn hF rfl rfl rfl rfl rfl rfl rfl (fun a hF => ?_)
   refine lsn hF rfl rfl rfl rfl rfl rfl rfl (fun a hF => ?_)
   refine lsn hF rfl rfl rfl rfl rfl rfl rfl (fun a hF => ?_)
   refine ls hF hW rfl ((y_pick_t hF rfl rfl rfl).q) (fun a w hF hW => ?_)
   refine ls hF hW rfl ((y_move hF rfl).q) (fun a w hF hW => ?_)
   refine lsn hF rfl rfl rfl rfl rfl rfl rfl (fun a hF => ?_)
   refine lsn hF rfl rfl rfl rfl rfl rfl rfl (fun a hF => ?_)
   refine lsn hF rfl rfl rfl rfl rfl rfl rfl (fun a hF => ?_)
   refine ls hF hW rfl ((y_pick_t hF rfl rfl rfl).q) (fun a w hF hW => ?_)
   refine ls hF hW rfl ((y_move hF rfl).q) (fun a w hF hW => ?_)
   refine lsn hF rfl rfl rfl rfl rfl rfl rfl (fun a hF => ?_)
   refine lsn hF rfl rfl rfl rfl rfl rfl rfl (fun a hF => ?_)
   refine lsn hF rfl rfl rfl rfl rfl rfl rfl (fun a hF => ?_)
   refine ls hF hW rfl ((y_pick_t hF rfl rfl rfl).q) (fun a w hF hW => ?_)
   refine ls hF hW rfl ((y_move hF rfl).q) (fun a w hF hW => ?_)
   refine lsn hF rfl rfl rfl rfl rfl rfl rfl (fun a hF => ?_)
   refine lsn hF rfl rfl rfl rfl rfl rfl rfl (fun a hF => ?_)
   refine lsn hF rfl rfl rfl rfl rfl rfl rfl (fun a hF => ?_)
   refine ls hF hW rfl ((y_pick_t hF rfl rfl rfl).q) (fun a w hF hW => ?_)
   refine ls hF hW rfl ((y_move hF rfl).q) (fun a w hF hW => ?_)
   refine lsn hF rfl rfl rfl rfl rfl rfl rfl (fun a hF => ?_)
   refine lsn hF rfl rfl rfl rfl rfl rfl rfl (fun a hF => ?_)
   refine lsn hF rfl rfl rfl rfl rfl rfl rfl (fun a hF => ?_)
   refine ls hF hW rfl ((y_pick_t hF rfl rfl rfl).q) (fun a w hF hW => ?_)
   refine ls_nil ?_
   refine c_then ?_
   exact ⟨hF.re ⟨rfl, rfl, rfl, (by show some (Value.bool true) = some (Value.bool (decide (p0.2.2.2.2.1 < 0) || (decide (1125899906842624 < p0.2.2.2.2.1) || (decide (p0.2.2.2.2.2.1 < (-1125899906842624)) || (decide (1125899906842624 < p0.2.2.2.2.2.1) || (decide (p0.2.2.2.2.2.2.1 < 0) || (decide (65535 < p0.2.2.2.2.2.2.1) || (decide (p0.2.2.2.2.2.2.2.2.1 < 0) || decide (255 < p0.2.2.2.2.2.2.2.2.1))))))))); try rw [hb0]; all_goals simp only [Bool.not_true, Bool.not_false, Bool.true_and, Bool.false_and, Bool.true_or, Bool.false_or, Bool.and_true, Bool.or_false, cond_true, cond_false]), trivial⟩, hW⟩
  ·
   rw [hb0] at hF
   refine ls_w hF hW (wanted_y hF rfl rfl rfl rfl) rfl (Nat.le_of_ble_eq_true rfl) ((y_fieldAddr u24_ rfl rfl rfl T3 hF rfl 4 rfl).q) (fun a w hF hW => ?_)
   refine ls_w hF hW (wanted_y hF rfl rfl rfl rfl) rfl (Nat.le_of_ble_eq_true rfl) ((y_load (v := Value.int .i64 p0.2.2.2.2.1) 0 hF rfl rfl T3 rfl).q) (fun a w hF hW => ?_)
   refine ls_w hF hW (wanted_y hF rfl rfl rfl rfl) rfl (Nat.le_of_ble_eq_true rfl) ((y_gtr hF rfl rfl).q) (fun a w hF hW => ?_)
   refine ls hF hW rfl ((y_pick_f hF rfl rfl rfl).q) (fun a w hF hW => ?_)
   refine ls hF hW rfl ((y_move hF rfl).q) (fun a w hF hW => ?_)
   rcases Bool.eq_false_or_eq_true (decide (1125899906842624 < p0.2.2.2.2.1)) with hb1 | hb1
   ·
    rw [hb1] at hF
    refine lsn hF rfl rfl rfl rfl rfl rfl rfl (fun a hF => ?_)
    refine lsn hF rfl rfl rfl rfl rfl rfl rfl (fun a hF => ?_)
    refine lsn hF rfl rfl rfl rfl rfl rfl rfl (fun a hF => ?_)
    refine ls hF hW rfl ((y_pick_t hF rfl rfl rfl).q) (fun a w hF hW => ?_)
    refine ls hF hW rfl ((y_move hF rfl).q) (fun a w hF hW => ?_)
    refine lsn hF rfl rfl rfl rfl rfl rfl rfl (fun a hF => ?_)
    refine lsn hF rfl rfl rfl rfl rfl rfl rfl (fun a hF => ?_)
    refine lsn hF rfl rfl rfl rfl rfl rfl rfl (fun a hF => ?_)
    refine ls hF hW rfl ((y_pick_t hF rfl rfl rfl).q) (fun a w hF hW => ?_)
    refine ls hF hW rfl ((y_move hF rfl).q) (fun a w hF hW => ?_)
    refine lsn hF rfl rfl rfl rfl rfl rfl rfl (fun a hF => ?_)
    refine lsn hF rfl rfl rfl rfl rfl rfl rfl (fun a hF => ?_)
    refine lsn hF rfl rfl rfl rfl rfl rfl rfl (fun a hF => ?_)
    refine ls hF hW rfl ((y_pick_t hF rfl rfl rfl).q) (fun a w hF hW => ?_)
    refine ls hF hW rfl ((y_move hF rfl).q) (fun a w hF hW => ?_)
    refine lsn hF rfl rfl rfl rfl rfl rfl rfl (fun a hF => ?_)
    refine lsn hF rfl rfl rfl rfl rfl rfl rfl (fun a hF => ?_)
    refine lsn hF rfl rfl rfl rfl rfl rfl rfl (fun a hF => ?_)
    refine ls hF hW rfl ((y_pick_t hF rfl rfl rfl).q) (fun a w hF hW => ?_)
    refine ls hF hW rfl ((y_move hF rfl).q) (fun a w hF hW => ?_)
    refine lsn hF rfl rfl rfl rfl rfl rfl rfl (fun a hF => ?_)
    refine lsn hF rfl rfl rfl rfl rfl rfl rfl (fun a hF => ?_)
    refine lsn hF rfl rfl rfl rfl rfl rfl rfl (fun a hF => ?_)
    refine ls hF hW rfl ((y_pick_t hF rfl rfl rfl).q) (fun a w hF hW => ?_)
    refine ls hF hW rfl ((y_move hF rfl).q) (fun a w hF hW => ?_)
    refine lsn hF rfl rfl rfl rfl rfl rfl rfl (fun a hF => ?_)
    refine lsn hF rfl rfl rfl rfl rfl rfl rfl (fun a hF => ?_)
    refine lsn hF rfl rfl rfl rfl rfl rfl rfl (fun a hF => ?_)
    refine ls hF hW rfl ((y_pick_t hF rfl rfl rfl).q) (fun a w hF hW => ?_)
    refine ls_nil ?_
    refine c_then ?_
    exact ⟨hF.re ⟨rfl, rfl, rfl, (by show some (Value.bool true) = some (Value.bool (decide (p0.2.2.2.2.1 < 0) || (decide (1125899906842624 < p0.2.2.2.2.1) || (decide (p0.2.2.2.2.2.1 < (-1125899906842624)) || (decide (1125899906842624 < p0.2.2.2.2.2.1) || (decide (p0.2.2.2.2.2.2.1 < 0) || (decide (65535 < p0.2.2.2.2.2.2.1) || (decide (p0.2.2.2.2.2.2.2.2.1 < 0) || decide (255 < p0.2.2.2.2.2.2.2.2.1))))))))); try rw [hb1]; try rw [hb0]; all_goals simp only [Bool.not_true, Bool.not_false, Bool.true_and, Bool.false_and, Bool.true_or, Bool.false_or, Bool.and_true, Bool.or_false, cond_true, cond_false]), trivial⟩, hW⟩
   ·
    rw [hb1] at hF
    refine ls_w hF hW (wanted_y hF rfl rfl rfl rfl) rfl (Nat.le_of_ble_eq_true rfl) ((y_fieldAddr u24_ rfl rfl rfl T3 hF rfl 5 rfl).q) (fun a w hF hW => ?_)
    refine ls_w hF hW (wanted_y hF rfl rfl rfl rfl) rfl (Nat.le_of_ble_eq_true rfl) ((y_load (v := Value.int .i64 p0.2.2.2.2.2.1) 0 hF rfl rfl T3 rfl).q) (fun a w hF hW => ?_)
    refine ls_w hF hW (wanted_y hF rfl rfl rfl rfl) rfl (Nat.le_of_ble_eq_true rfl) ((y_lss hF rfl rfl).q) (fun a w hF hW => ?_)
    refine ls hF hW rfl ((y_pick_f hF rfl rfl rfl).q) (fun a w hF hW => ?_)
    refine ls hF hW rfl ((y_move hF rfl).q) (fun a w hF hW => ?_)
    rcases Bool.eq_false_or_eq_true (decide (p0.2.2.2.2.2.1 < (-1125899906842624))) with hb2 | hb2
    ·
     rw [hb2] at hF
     refine lsn hF rfl rfl rfl rfl rfl rfl rfl (fun a hF => ?_)
     refine lsn hF rfl rfl rfl rfl rfl rfl rfl (fun a hF => ?_)
     refine lsn hF rfl rfl rfl rfl rfl rfl rfl (fun a hF => ?_)
     refine ls hF hW rfl ((y_pick_t hF rfl rfl rfl).q) (fun a w hF hW => ?_)
     refine ls hF hW rfl ((y_move hF rfl).q) (fun a w hF hW => ?_)
     refine lsn hF rfl rfl rfl rfl rfl rfl rfl (fun a hF => ?_)
     refine lsn hF rfl rfl rfl rfl rfl rfl rfl (fun a hF => ?_)
     refine lsn hF rfl rfl rfl rfl rfl rfl rfl (fun a hF => ?_)
     refine ls hF hW rfl ((y_pick_t hF rfl rfl rfl).q) (fun a w hF hW => ?_)
     refine ls hF hW rfl ((y_move hF rfl).q) (fun a w hF hW => ?_)
     refine lsn hF rfl rfl rfl rfl rfl rfl rfl (fun a hF => ?_)
     refine lsn hF rfl rfl rfl rfl rfl rfl rfl (fun a hF => ?_)
     refine lsn hF rfl rfl rfl rfl rfl rfl rfl (fun a hF => ?_)
     refine ls hF hW rfl ((y_pick_t hF rfl rfl rfl).q) (fun a w hF hW => ?_)
     refine ls hF hW rfl ((y_move hF rfl).q) (fun a w hF hW => ?_)
     refine lsn hF rfl rfl rfl rfl rfl rfl rfl (fun a hF => ?_)
     refine lsn hF rfl rfl rfl rfl rfl rfl rfl (fun a hF => ?_)
     refine lsn hF rfl rfl rfl rfl rfl rfl rfl (fun a hF => ?_)
     refine ls hF hW rfl ((y_pick_t hF rfl rfl rfl).q) (fun a w hF hW => ?_)
     refine ls hF hW rfl ((y_move hF rfl).q) (fun a w hF hW => ?_)
     refine lsn hF rfl rfl rfl rfl rfl rfl rfl (fun a hF => ?_)
     refine lsn hF rfl rfl rfl rfl rfl rfl rfl (fun a hF => ?_)
     refine lsn hF rfl rfl rfl rfl rfl rfl rfl (fun a hF => ?_)
     refine ls hF hW rfl ((y_pick_t hF rfl rfl rfl).q) (fun a w hF hW => ?_)
     refine ls_nil ?_
     refine c_then ?_
     exact ⟨hF.re ⟨rfl, rfl, rfl, (by show some (Value.bool true) = some (Value.bool (decide (p0.2.2.2.2.1 < 0) || (decide (1125899906842624 < p0.2.2.2.2.1) || (decide (p0.2.2.2.2.2.1 < (-1125899906842624)) || (decide (1125899906842624 < p0.2.2.2.2.2.1) || (decide (p0.2.2.2.2.2.2.1 < 0) || (decide (65535 < p0.2.2.2.2.2.2.1) || (decide (p0.2.2.2.2.2.2.2.2.1 < 0) || decide (255 < p0.2.2.2.2.2.2.2.2.1))))))))); try rw [hb2]; try rw [hb1]; try rw [hb0]; all_goals simp only [Bool.not_true, Bool.not_false, Bool.true_and, Bool.false_and, Bool.true_or, Bool.false_or, Bool.and_true, Bool.or_false, cond_true, cond_false]), trivial⟩, hW⟩
    ·
     rw [hb2] at hF
     refine ls_w hF hW (wanted_y hF rfl rfl rfl rfl) rfl (Nat.le_of_ble_eq_true rfl) ((y_fieldAddr u24_ rfl rfl rfl T3 hF rfl 5 rfl).q) (fun a w hF hW => ?_)
     refine ls_w hF hW (wanted_y hF rfl rfl rfl rfl) rfl (Nat.le_of_ble_eq_true rfl) ((y_load (v := Value.int .i64 p0.2.2.2.2.2.1) 0 hF rfl rfl T3 rfl).q) (fun a w hF hW => ?_)
     refine ls_w hF hW (wanted_y hF rfl rfl rfl rfl) rfl (Nat.le_of_ble_eq_true rfl) ((y_gtr hF rfl rfl).q) (fun a w hF hW => ?_)
     refine ls hF hW rfl ((y_pick_f hF rfl rfl rfl).q) (fun a w hF hW => ?_)
     refine ls hF hW rfl ((y_move hF rfl).q) (fun a w hF hW => ?_)
     rcases Bool.eq_false_or_eq_true (decide (1125899906842624 < p0.2.2.2.2.2.1)) with hb3 | hb3
     ·
      rw [hb3] at hF
      refine lsn hF rfl rfl rfl rfl rfl rfl rfl (fun a hF => ?_)
      refine lsn hF rfl rfl rfl rfl rfl rfl rfl (fun a hF => ?_)
      refine lsn hF rfl rfl rfl rfl rfl rfl rfl (fun a hF => ?_)
      refine ls hF hW rfl ((y_pick_t hF rfl rfl rfl).q) (fun a w hF hW => ?_)
      refine ls hF hW rfl ((y_move hF rfl).q) (fun a w hF hW => ?_)
      refine lsn hF rfl rfl rfl rfl rfl rfl rfl (fun a hF => ?_)
      refine lsn hF rfl rfl rfl rfl rfl rfl rfl (fun a hF => ?_)
      refine lsn hF rfl rfl rfl rfl rfl rfl rfl (fun a hF => ?_)
      refine ls hF hW rfl ((y_pick_t hF rfl rfl rfl).q) (fun a w hF hW => ?_)
      refine ls hF hW rfl ((y_move hF rfl).q) (fun a w hF hW => ?_)
      refine lsn hF rfl rfl rfl rfl rfl rfl rfl (fun a hF => ?_)
      refine lsn hF rfl rfl rfl rfl rfl rfl rfl (fun a hF => ?_)
      refine lsn hF rfl rfl rfl rfl rfl rfl rfl (fun a hF => ?_)
      refine ls hF hW rfl ((y_pick_t hF rfl rfl rfl).q) (fun a w hF hW => ?_)
      refine ls hF hW rfl ((y_move hF rfl).q) (fun a w hF hW => ?_)
      refine lsn hF rfl rfl rfl rfl rfl rfl rfl (fun a hF => ?_)
      refine lsn hF rfl rfl rfl rfl rfl rfl rfl (fun a hF => ?_)
      refine lsn hF rfl rfl rfl rfl rfl rfl rfl (fun a hF => ?_)
      refine ls hF hW rfl ((y_pick_t hF rfl rfl rfl).q) (fun a w hF hW => ?_)
      refine ls_nil ?_
      refine c_then ?_
      exact ⟨hF.re ⟨rfl, rfl, rfl, (by show some (Value.bool true) = some (Value.bool (decide (p0.2.2.2.2.1 < 0) || (decide (1125899906842624 < p0.2.2.2.2.1) || (decide (p0.2.2.2.2.2.1 < (-1125899906842624)) || (decide (1125899906842624 < p0.2.2.2.2.2.1) || (decide (p0.2.2.2.2.2.2.1 < 0) || (decide (65535 < p0.2.2.2.2.2.2.1) || (decide (p0.2.2.2.2.2.2.2.2.1 < 0) || decide (255 < p0.2.2.2.2.2.2.2.2.1))))))))); try rw [hb2]; try rw [hb3]; try rw [hb1]; try rw [hb0]; all_goals simp only [Bool.not_true, Bool.not_false, Bool.true_and, Bool.false_and, Bool.true_or, Bool.false_or, Bool.and_true, Bool.or_false, cond_true, cond_false]), trivial⟩, hW⟩
     ·
      rw [hb3] at hF
      refine ls_w hF hW (wanted_y hF rfl rfl rfl rfl) rfl (Nat.le_of_ble_eq_true rfl) ((y_fieldAddr u24_ rfl rfl rfl T3 hF rfl 6 rfl).q) (fun a w hF hW => ?_)
      refine ls_w hF hW (wanted_y hF rfl rfl rfl rfl) rfl (Nat.le_of_ble_eq_true rfl) ((y_load (v := Value.int .i64 p0.2.2.2.2.2.2.1) 0 hF rfl rfl T3 rfl).q) (fun a w hF hW => ?_)
      refine ls_w hF hW (wanted_y hF rfl rfl rfl rfl) rfl (Nat.le_of_ble_eq_true rfl) ((y_lss hF rfl rfl).q) (fun a w hF hW => ?_)
      refine ls hF hW rfl ((y_pick_f hF rfl rfl rfl).q) (fun a w hF hW => ?_)
      refine ls hF hW rfl ((y_move hF rfl).q) (fun a w hF hW => ?_)
      rcases Bool.eq_false_or_eq_true (decide (p0.2.2.2.2.2.2.1 < 0)) with hb4 | hb4
      ·
       rw [hb4] at hF
       refine lsn hF rfl rfl rfl rfl rfl rfl rfl (fun a hF => ?_)
       refine lsn hF rfl rfl rfl rfl rfl rfl rfl (fun a hF => ?_)
       refine lsn hF rfl rfl rfl rfl rfl rfl rfl (fun a hF => ?_)
       refine ls hF hW rfl ((y_pick_t hF rfl rfl rfl).q) (fun a w hF hW => ?_)
       refine ls hF hW rfl ((y_move hF rfl).q) (fun a w hF hW => ?_)
       refine lsn hF rfl rfl rfl rfl rfl rfl rfl (fun a hF => ?_)
       refine lsn hF rfl rfl rfl rfl rfl rfl rfl (fun a hF => ?_)
       refine lsn hF rfl rfl rfl rfl rfl rfl rfl (fun a hF => ?_)
       refine ls hF hW rfl ((y_pick_t hF rfl rfl rfl).q) (fun a w hF hW => ?_)
       refine ls hF hW rfl ((y_move hF rfl).q) (fun a w hF hW => ?_)
       refine lsn hF rfl rfl rfl rfl rfl rfl rfl (fun a hF => ?_)
       refine lsn hF rfl rfl rfl rfl rfl rfl rfl (fun a hF => ?_)
       refine lsn hF rfl rfl rfl rfl rfl rfl rfl (fun a hF => ?_)
       refine ls hF hW rfl ((y_pick_t hF rfl rfl rfl).q) (fun a w hF hW => ?_)
       refine ls_nil ?_
       refine c_then ?_
       exact ⟨hF.re ⟨rfl, rfl, rfl, (by show some (Value.bool true) = some (Value.bool (decide (p0.2.2.2.2.1 < 0) || (decide (1125899906842624 < p0.2.2.2.2.1) || (decide (p0.2.2.2.2.2.1 < (-1125899906842624)) || (decide (1125899906842624 < p0.2.2.2.2.2.1) || (decide (p0.2.2.2.2.2.2.1 < 0) || (decide (65535 < p0.2.2.2.2.2.2.1) || (decide (p0.2.2.2.2.2.2.2.2.1 < 0) || decide (255 < p0.2.2.2.2.2.2.2.2.1))))))))); try rw [hb2]; try rw [hb3]; try rw [hb1]; try rw [hb4]; try rw [hb0]; all_goals simp only [Bool.not_true, Bool.not_false, Bool.true_and, Bool.false_and, Bool.true_or, Bool.false_or, Bool.and_true, Bool.or_false, cond_true, cond_false]), trivial⟩, hW⟩
      ·
       rw [hb4] at hF
       refine ls_w hF hW (wanted_y hF rfl rfl rfl rfl) rfl (Nat.le_of_ble_eq_true rfl) ((y_fieldAddr u24_ rfl rfl rfl T3 hF rfl 6 rfl).q) (fun a w hF hW => ?_)
       refine ls_w hF hW (wanted_y hF rfl rfl rfl rfl) rfl (Nat.le_of_ble_eq_true rfl) ((y_load (v := Value.int .i64 p0.2.2.2.2.2.2.1) 0 hF rfl rfl T3 rfl).q) (fun a w hF hW => ?_)
       refine ls_w hF hW (wanted_y hF rfl rfl rfl rfl) rfl (Nat.le_of_ble_eq_true rfl) ((y_gtr hF rfl rfl).q) (fun a w hF hW => ?_)
       refine ls hF hW rfl ((y_pick_f hF rfl rfl rfl).q) (fun a w hF hW => ?_)
       refine ls hF hW rfl ((y_move hF rfl).q) (fun a w hF hW => ?_)
       rcases Bool.eq_false_or_eq_true (decide (65535 < p0.2.2.2.2.2.2.1)) with hb5 | hb5
       ·
        rw [hb5] at hF
        refine lsn hF rfl rfl rfl rfl rfl rfl rfl (fun a hF => ?_)
        refine lsn hF rfl rfl rfl rfl rfl rfl rfl (fun a hF => ?_)
        refine lsn hF rfl rfl rfl rfl rfl rfl rfl (fun a hF => ?_)
        refine ls hF hW rfl ((y_pick_t hF rfl rfl rfl).q) (fun a w hF hW => ?_)
        refine ls hF hW rfl ((y_move hF rfl).q) (fun a w hF hW => ?_)
        refine lsn hF rfl rfl rfl rfl rfl rfl rfl (fun a hF => ?_)
        refine lsn hF rfl rfl rfl rfl rfl rfl rfl (fun a hF => ?_)
        refine lsn hF rfl rfl rfl rfl rfl rfl rfl (fun a hF => ?_)
        refine ls hF hW rfl ((y_pick_t hF rfl rfl rfl).q) (fun a w hF hW => ?_)
        refine ls_nil ?_
        refine c_then ?_
        exact ⟨hF.re ⟨rfl, rfl, rfl, (by show some (Value.bool true) = some (Value.bool (decide (p0.2.2.2.2.1 < 0) || (decide (1125899906842624 < p0.2.2.2.2.1) || (decide (p0.2.2.2.2.2.1 < (-1125899906842624)) || (decide (1125899906842624 < p0.2.2.2.2.2.1) || (decide (p0.2.2.2.2.2.2.1 < 0) || (decide (65535 < p0.2.2.2.2.2.2.1) || (decide (p0.2.2.2.2.2.2.2.2.1 < 0) || decide (255 < p0.2.2.2.2.2.2.2.2.1))))))))); try rw [hb2]; try rw [hb3]; try rw [hb1]; try rw [hb5]; try rw [hb4]; try rw [hb0]; all_goals simp only [Bool.not_true, Bool.not_false, Bool.true_and, Bool.false_and, Bool.true_or, Bool.false_or, Bool.and_true, Bool.or_false, cond_true, cond_false]), trivial⟩, hW⟩
       ·
        rw [hb5] at hF
        refine ls_w hF hW (wanted_y hF rfl rfl rfl rfl) rfl (Nat.le_of_ble_eq_true rfl) ((y_fieldAddr u24_ rfl rfl rfl T3 hF rfl 8 rfl).q) (fun a w hF hW => ?_)
        refine ls_w hF hW (wanted_y hF rfl rfl rfl rfl) rfl (Nat.le_of_ble_eq_true rfl) ((y_load (v := Value.int .i64 p0.2.2.2.2.2.2.2.2.1) 0 hF rfl rfl T3 rfl).q) (fun a w hF hW => ?_)
        refine ls_w hF hW (wanted_y hF rfl rfl rfl rfl) rfl (Nat.le_of_ble_eq_true rfl) ((y_lss hF rfl rfl).q) (fun a w hF hW => ?_)
        refine ls hF hW rfl ((y_pick_f hF rfl rfl rfl).q) (fun a w hF hW => ?_)
        refine ls hF hW rfl ((y_move hF rfl).q) (fun a w hF hW => ?_)
        rcases Bool.eq_false_or_eq_true (decide (p0.2.2.2.2.2.2.2.2.1 < 0)) with hb6 | hb6
        ·
         rw [hb6] at hF
         refine lsn hF rfl rfl rfl rfl rfl rfl rfl (fun a hF => ?_)
         refine lsn hF rfl rfl rfl rfl rfl rfl rfl (fun a hF => ?_)
         refine lsn hF rfl rfl rfl rfl rfl rfl rfl (fun a hF => ?_)
         refine ls hF hW rfl ((y_pick_t hF rfl rfl rfl).q) (fun a w hF hW => ?_)
         refine ls_nil ?_
         refine c_then ?_
         exact ⟨hF.re ⟨rfl, rfl, rfl, (by show some (Value.bool true) = some (Value.bool (decide (p0.2.2.2.2.1 < 0) || (decide (1125899906842624 < p0.2.2.2.2.1) || (decide (p0.2.2.2.2.2.1 < (-1125899906842624)) || (decide (1125899906842624 < p0.2.2.2.2.2.1) || (decide (p0.2.2.2.2.2.2.1 < 0) || (decide (65535 < p0.2.2.2.2.2.2.1) || (decide (p0.2.2.2.2.2.2.2.2.1 < 0) || decide (255 < p0.2.2.2.2.2.2.2.2.1))))))))); try rw [hb2]; try rw [hb3]; try rw [hb1]; try rw [hb5]; try rw [hb6]; try rw [hb4]; try rw [hb0]; all_goals simp only [Bool.not_true, Bool.not_false, Bool.true_and, Bool.false_and, Bool.true_or, Bool.false_or, Bool.and_true, Bool.or_false, cond_true, cond_false]), trivial⟩, hW⟩
        ·
         rw [hb6] at hF
         refine ls_w hF hW (wanted_y hF rfl rfl rfl rfl) rfl (Nat.le_of_ble_eq_true rfl) ((y_fieldAddr u24_ rfl rfl rfl T3 hF rfl 8 rfl).q) (fun a w hF hW => ?_)
         refine ls_w hF hW (wanted_y hF rfl rfl rfl rfl) rfl (Nat.le_of_ble_eq_true rfl) ((y_load (v := Value.int .i64 p0.2.2.2.2.2.2.2.2.1) 0 hF rfl rfl T3 rfl).q) (fun a w hF hW => ?_)
         refine ls_w hF hW (wanted_y hF rfl rfl rfl rfl) rfl (Nat.le_of_ble_eq_true rfl) ((y_gtr hF rfl rfl).q) (fun a w hF hW => ?_)
         refine ls hF hW rfl ((y_pick_f hF rfl rfl rfl).q) (fun a w hF hW => ?_)
         refine ls_nil ?_
         refine c_then ?_
         exact ⟨hF.re ⟨rfl, rfl, rfl, (by show some (Value.bool (decide (255 < p0.2.2.2.2.2.2.2.2.1))) = some (Value.bool (decide (p0.2.2.2.2.1 < 0) || (decide (1125899906842624 < p0.2.2.2.2.1) || (decide (p0.2.2.2.2.2.1 < (-1125899906842624)) || (decide (1125899906842624 < p0.2.2.2.2.2.1) || (decide (p0.2.2.2.2.2.2.1 < 0) || (decide (65535 < p0.2.2.2.2.2.2.1) || (decide (p0.2.2.2.2.2.2.2.2.1 < 0) || decide (255 < p0.2.2.2.2.2.2.2.2.1))))))))); try rw [hb2]; try rw [hb3]; try rw [hb1]; try rw [hb5]; try rw [hb6]; try rw [hb4]; try rw [hb0]; all_goals simp only [Bool.not_true, Bool.not_false, Bool.true_and, Bool.false_and, Bool.true_or, Bool.false_or, Bool.and_true, Bool.or_false, cond_true, cond_false]), trivial⟩, hW⟩
 rintro a w ⟨hF, hW⟩
 refine c_cond hF rfl (fun hb => ?_) (fun hb => ?_)
 ·
  have H := iteT hb H
  rw [hb] at hF
  clear hb
  refine c_seq ?_
  refine reg_list ?_
  refine ls hF hW rfl ((y_assign hF rfl).q) (fun a w hF hW => ?_)
  refine ls_nil ?_
  refine c_then ?_
  refine wp_ret ?_
  refine r_then ?_
  subst H
  refine post1 (.inl rfl) hF hW rfl (rv_tmp hF rfl) ?_
  exact ⟨rfl, hW.done⟩
 ·
  have H := iteF (by rw [hb]; decide) H
  rw [hb] at hF
  clear hb
  refine wp_skip ?_
  refine c_then ?_
  refine c_seq ?_
  refine c_seqJ (fun a w => Fr 89 [] [(1, .pointer (some ⟨b1, 0, none⟩)), (2, .bool false), (3, .int .i64 p0.1), (60, .bool (decide (2 < p0.1) && (decide (p0.2.2.1 < 1) || (decide (65535 < p0.2.2.1) || decide (7 < p0.2.2.2.1)))))] a ∧ Stw ⟨Y, [], w0⟩ [(b1, [.int .i64 p0.1, .int .i64 p0.2.1, .int .i64 p0.2.2.1, .int .i64 p0.2.2.2.1, .int .i64 p0.2.2.2.2.1, .int .i64 p0.2.2.2.2.2.1, .int .i64 p0.2.2.2.2.2.2.1, .int .i64 p0.2.2.2.2.2.2.2.1, .int .i64 p0.2.2.2.2.2.2.2.2.1, v1])] [] w) ?_ ?_
  ·
   refine reg_list ?_
   refine ls hF hW rfl ((y_move hF rfl).q) (fun a w hF hW => ?_)
   refine ls hF hW rfl ((y_gtr hF rfl rfl).q) (fun a w hF hW => ?_)
   refine ls hF hW rfl ((y_move hF rfl).q) (fun a w hF hW => ?_)
   rcases Bool.eq_false_or_eq_true (decide (2 < p0.1)) with hb0 | hb0
   ·
    rw [hb0] at hF
    refine ls_w hF hW (wanted_y hF rfl rfl rfl rfl) rfl (Nat.le_of_ble_eq_true rfl) ((y_fieldAddr u24_ rfl rfl rfl T3 hF rfl 2 rfl).q) (fun a w hF hW => ?_)
    refine ls_w hF hW (wanted_y hF rfl rfl rfl rfl) rfl (Nat.le_of_ble_eq_true rfl) ((y_load (v := Value.int .i64 p0.2.2.1) 0 hF rfl rfl T3 rfl).q) (fun a w hF hW => ?_)
    refine ls_w hF hW (wanted_y hF rfl rfl rfl rfl) rfl (Nat.le_of_ble_eq_true rfl) ((y_lss hF rfl rfl).q) (fun a w hF hW => ?_)
    refine ls_w hF hW (wanted_y hF rfl rfl rfl rfl) rfl (Nat.le_of_ble_eq_true rfl) ((y_move hF rfl).q) (fun a w hF hW => ?_)
    rcases Bool.eq_false_or_eq_true (decide (p0.2.2.1 < 1)) with hb1 | hb1
    ·
     rw [hb1] at hF
     refine lsn hF rfl rfl rfl rfl rfl rfl rfl (fun a hF => ?_)
     refine lsn hF rfl rfl rfl rfl rfl rfl rfl (fun a hF => ?_)
     refine lsn hF rfl rfl rfl rfl rfl rfl rfl (fun a hF => ?_)
     refine ls_w hF hW (wanted_y hF rfl rfl rfl rfl) rfl (Nat.le_of_ble_eq_true rfl) ((y_pick_t hF rfl rfl rfl).q) (fun a w hF hW => ?_)
     refine ls_w hF hW (wanted_y hF rfl rfl rfl rfl) rfl (Nat.le_of_ble_eq_true rfl) ((y_move hF rfl).q) (fun a w hF hW => ?_)
     refine lsn hF rfl rfl rfl rfl rfl rfl rfl (fun a hF => ?_)
     refine lsn hF rfl rfl rfl rfl rfl rfl rfl (fun a hF => ?_)
     refine lsn hF rfl rfl rfl rfl rfl rfl rfl (fun a hF => ?_)
     refine ls_w hF hW (wanted_y hF rfl rfl rfl rfl) rfl (Nat.le_of_ble_eq_true rfl) ((y_pick_t hF rfl rfl rfl).q) (fun a w hF hW => ?_)
     refine ls hF hW rfl ((y_pick_t hF rfl rfl rfl).q) (fun a w hF hW => ?_)
     refine ls_nil ?_
     refine c_then ?_
     exact ⟨hF.re ⟨rfl, rfl, rfl, (by show some (Value.bool true) = some (Value.bool (decide (2 < p0.1) && (decide (p0.2.2.1 < 1) || (decide (65535 < p0.2.2.1) || decide (7 < p0.2.2.2.1))))); try rw [hb1]; try rw [hb0]; all_goals simp only [Bool.not_true, Bool.not_false, Bool.true_and, Bool.false_and, Bool.true_or, Bool.false_or, Bool.and_true, Bool.or_false, cond_true, cond_false]), trivial⟩, hW⟩
    ·
     rw [hb1] at hF
     refine ls_w hF hW (wanted_y hF rfl rfl rfl rfl) rfl (Nat.le_of_ble_eq_true rfl) ((y_fieldAddr u24_ rfl rfl rfl T3 hF rfl 2 rfl).q) (fun a w hF hW => ?_)
     refine ls_w hF hW (wanted_y hF rfl rfl rfl rfl) rfl (Nat.le_of_ble_eq_true rfl) ((y_load (v := Value.int .i64 p0.2.2.1) 0 hF rfl rfl T3 rfl).q) (fun a w hF hW => ?_)
     refine ls_w hF hW (wanted_y hF rfl rfl rfl rfl) rfl (Nat.le_of_ble_eq_true rfl) ((y_gtr hF rfl rfl).q) (fun a w hF hW => ?_)
     refine ls_w hF hW (wanted_y hF rfl rfl rfl rfl) rfl (Nat.le_of_ble_eq_true rfl) ((y_pick_f hF rfl rfl rfl).q) (fun a w hF hW => ?_)
     refine ls_w hF hW (wanted_y hF rfl rfl rfl rfl) rfl (Nat.le_of_ble_eq_true rfl) ((y_move hF rfl).q) (fun a w hF hW => ?_)
     rcases Bool.eq_false_or_eq_true (decide (65535 < p0.2.2.1)) with hb2 | hb2
     ·
      rw [hb2] at hF
      refine lsn hF rfl rfl rfl rfl rfl rfl rfl (fun a hF => ?_)
      refine lsn hF rfl rfl rfl rfl rfl rfl rfl (fun a hF => ?_)
      refine lsn hF rfl rfl rfl rfl rfl rfl rfl (fun a hF => ?_)
      refine ls_w hF hW (wanted_y hF rfl rfl rfl rfl) rfl (Nat.le_of_ble_eq_true rfl) ((y_pick_t hF rfl rfl rfl).q) (fun a w hF hW => ?_)
      refine ls hF hW rfl ((y_pick_t hF rfl rfl rfl).q) (fun a w hF hW => ?_)
      refine ls_nil ?_
      refine c_then ?_
      exact ⟨hF.re ⟨rfl, rfl, rfl, (by show some (Value.bool true) = some (Value.bool (decide (2 < p0.1) && (decide (p0.2.2.1 < 1) || (decide (65535 < p0.2.2.1) || decide (7 < p0.2.2.2.1))))); try rw [hb2]; try rw [hb1]; try rw [hb0]; all_goals simp only [Bool.not_true, Bool.not_false, Bool.true_and, Bool.false_and, Bool.true_or, Bool.false_or, Bool.and_true, Bool.or_false, cond_true, cond_false]), trivial⟩, hW⟩
     ·
      rw [hb2] at hF
      refine ls_w hF hW (wanted_y hF rfl rfl rfl rfl) rfl (Nat.le_of_ble_eq_true rfl) ((y_fieldAddr u24_ rfl rfl rfl T3 hF rfl 3 rfl).q) (fun a w hF hW => ?_)
      refine ls_w hF hW (wanted_y hF rfl rfl rfl rfl) rfl (Nat.le_of_ble_eq_true rfl) ((y_load (v := Value.int .i64 p0.2.2.2.1) 0 hF rfl rfl T3 rfl).q) (fun a w hF hW => ?_)
      refine ls_w hF hW (wanted_y hF rfl rfl rfl rfl) rfl (Nat.le_of_ble_eq_true rfl) ((y_gtr hF rfl rfl).q) (fun a w hF hW => ?_)
      refine ls_w hF hW (wanted_y hF rfl rfl rfl rfl) rfl (Nat.le_of_ble_eq_true rfl) ((y_pick_f hF rfl rfl rfl).q) (fun a w hF hW => ?_)
      refine ls hF hW rfl ((y_pick_t hF rfl rfl rfl).q) (fun a w hF hW => ?_)
      refine ls_nil ?_
      refine c_then ?_
      exact ⟨hF.re ⟨rfl, rfl, rfl, (by show some (Value.bool (decide (7 < p0.2.2.2.1))) = some (Value.bool (decide (2 < p0.1) && (decide (p0.2.2.1 < 1) || (decide (65535 < p0.2.2.1) || decide (7 < p0.2.2.2.1))))); try rw [hb2]; try rw [hb1]; try rw [hb0]; all_goals simp only [Bool.not_true, Bool.not_false, Bool.true_and, Bool.false_and, Bool.true_or, Bool.false_or, Bool.and_true, Bool.or_false, cond_true, cond_false]), trivial⟩, hW⟩
   ·
    rw [hb0] at hF
    refine lsn hF rfl rfl rfl rfl rfl rfl rfl (fun a hF => ?_)
    refine lsn hF rfl rfl rfl rfl rfl rfl rfl (fun a hF => ?_)
    refine lsn hF rfl rfl rfl rfl rfl rfl rfl (fun a hF => ?_)
    refine lsn hF rfl rfl rfl rfl rfl rfl rfl (fun a hF => ?_)
    refine lsu hF rfl rfl rfl rfl rfl rfl (fun a hF => ?_)
    refine lsu hF rfl rfl rfl rfl rfl rfl (fun a hF => ?_)
    refine lsu hF rfl rfl rfl rfl rfl rfl (fun a hF => ?_)
    refine lsn hF rfl rfl rfl rfl rfl rfl rfl (fun a hF => ?_)
    refine lsn hF rfl rfl rfl rfl rfl rfl rfl (fun a hF => ?_)
    refine lsu hF rfl rfl rfl rfl rfl rfl (fun a hF => ?_)
    refine lsu hF rfl rfl rfl rfl rfl rfl (fun a hF => ?_)
    refine lsu hF rfl rfl rfl rfl rfl rfl (fun a hF => ?_)
    refine lsn hF rfl rfl rfl rfl rfl rfl rfl (fun a hF => ?_)
    refine ls hF hW rfl ((y_pick_f hF rfl rfl rfl).q) (fun a w hF hW => ?_)
    refine ls_nil ?_
    refine c_then ?_
    exact ⟨hF.re ⟨rfl, rfl, rfl, (by show some (Value.bool false) = some (Value.bool (decide (2 < p0.1) && (decide (p0.2.2.1 < 1) || (decide (65535 < p0.2.2.1) || decide (7 < p0.2.2.2.1))))); try rw [hb0]; all_goals simp only [Bool.not_true, Bool.not_false, Bool.true_and, Bool.false_and, Bool.true_or, Bool.false_or, Bool.and_true, Bool.or_false, cond_true, cond_false]), trivial⟩, hW⟩
  rintro a w ⟨hF, hW⟩
  refine c_cond hF rfl (fun hb => ?_) (fun hb => ?_)
  ·
   have H := iteT hb H
   rw [hb] at hF
   clear hb
   refine c_seq ?_
   refine reg_list ?_
   refine ls hF hW rfl ((y_assign hF rfl).q) (fun a w hF hW => ?_)
   refine ls_nil ?_
   refine c_then ?_
   refine wp_ret ?_
   refine r_then ?_
   subst H
   refine post1 (.inl rfl) hF hW rfl (rv_tmp hF rfl) ?_
   exact ⟨rfl, hW.done⟩
  ·
   have H := iteF (by rw [hb]; decide) H
   rw [hb] at hF
   clear hb
   refine wp_skip ?_
   refine c_then ?_
   refine c_seq ?_
   refine c_seqJ (fun a w => Fr 89 [] [(1, .pointer (some ⟨b1, 0, none⟩)), (2, .bool false), (3, .int .i64 p0.1), (76, .bool (decide (p0.2.2.2.1 < 0) && (decide (p0.2.2.2.1 < (-1)) || (decide (p0.1 < 5) || decide (p0.1 = 6)))))] a ∧ Stw ⟨Y, [], w0⟩ [(b1, [.int .i64 p0.1, .int .i64 p0.2.1, .int .i64 p0.2.2.1, .int .i64 p0.2.2.2.1, .int .i64 p0.2.2.2.2.1, .int .i64 p0.2.2.2.2.2.1, .int .i64 p0.2.2.2.2.2.2.1, .int .i64 p0.2.2.2.2.2.2.2.1, .int .i64 p0.2.2.2.2.2.2.2.2.1, v1])] [] w) ?_ ?_
   ·
    refine reg_list ?_
    refine ls hF hW rfl ((y_fieldAddr u24_ rfl rfl rfl T3 hF rfl 3 rfl).q) (fun a w hF hW => ?_)
    refine ls hF hW rfl ((y_load (v := Value.int .i64 p0.2.2.2.1) 0 hF rfl rfl T3 rfl).q) (fun a w hF hW => ?_)
    refine ls hF hW rfl ((y_lss hF rfl rfl).q) (fun a w hF hW => ?_)
    refine ls hF hW rfl ((y_move hF rfl).q) (fun a w hF hW => ?_)
    rcases Bool.eq_false_or_eq_true (decide (p0.2.2.2.1 < 0)) with hb0 | hb0
    ·
     rw [hb0] at hF
     refine ls_w hF hW (wanted_y hF rfl rfl rfl rfl) rfl (Nat.le_of_ble_eq_true rfl) ((y_fieldAddr u24_ rfl rfl rfl T3 hF rfl 3 rfl).q) (fun a w hF hW => ?_)
     refine ls_w hF hW (wanted_y hF rfl rfl rfl rfl) rfl (Nat.le_of_ble_eq_true rfl) ((y_load (v := Value.int .i64 p0.2.2.2.1) 0 hF rfl rfl T3 rfl).q) (fun a w hF hW => ?_)
     refine ls_w hF hW (wanted_y hF rfl rfl rfl rfl) rfl (Nat.le_of_ble_eq_true rfl) ((y_lss hF rfl rfl).q) (fun a w hF hW => ?_)
     refine ls_w hF hW (wanted_y hF rfl rfl rfl rfl) rfl (Nat.le_of_ble_eq_true rfl) ((y_move hF rfl).q) (fun a w hF hW => ?_)
     rcases Bool.eq_false_or_eq_true (decide (p0.2.2.2.1 < (-1))) with hb1 | hb1
     ·
      rw [hb1] at hF
      refine lsn hF rfl rfl rfl rfl rfl rfl rfl (fun a hF => ?_)
      refine lsn hF rfl rfl rfl rfl rfl rfl rfl (fun a hF => ?_)
      refine ls_w hF hW (wanted_y hF rfl rfl rfl rfl) rfl (Nat.le_of_ble_eq_true rfl) ((y_pick_t hF rfl rfl rfl).q) (fun a w hF hW => ?_)
      refine ls_w hF hW (wanted_y hF rfl rfl rfl rfl) rfl (Nat.le_of_ble_eq_true rfl) ((y_move hF rfl).q) (fun a w hF hW => ?_)
      refine lsn hF rfl rfl rfl rfl rfl rfl rfl (fun a hF => ?_)
      refine lsn hF rfl rfl rfl rfl rfl rfl rfl (fun a hF => ?_)
      refine ls_w hF hW (wanted_y hF rfl rfl rfl rfl) rfl (Nat.le_of_ble_eq_true rfl) ((y_pick_t hF rfl rfl rfl).q) (fun a w hF hW => ?_)
      refine ls hF hW rfl ((y_pick_t hF rfl rfl rfl).q) (fun a w hF hW => ?_)
      refine ls_nil ?_
      refine c_then ?_
      exact ⟨hF.re ⟨rfl, rfl, rfl, (by show some (Value.bool true) = some (Value.bool (decide (p0.2.2.2.1 < 0) && (decide (p0.2.2.2.1 < (-1)) || (decide (p0.1 < 5) || decide (p0.1 = 6))))); try rw [hb1]; try rw [hb0]; all_goals simp only [Bool.not_true, Bool.not_false, Bool.true_and, Bool.false_and, Bool.true_or, Bool.false_or, Bool.and_true, Bool.or_false, cond_true, cond_false]), trivial⟩, hW⟩
     ·
      rw [hb1] at hF
      refine ls_w hF hW (wanted_y hF rfl rfl rfl rfl) rfl (Nat.le_of_ble_eq_true rfl) ((y_move hF rfl).q) (fun a w hF hW => ?_)
      refine ls_w hF hW (wanted_y hF rfl rfl rfl rfl) rfl (Nat.le_of_ble_eq_true rfl) ((y_lss hF rfl rfl).q) (fun a w hF hW => ?_)
      refine ls_w hF hW (wanted_y hF rfl rfl rfl rfl) rfl (Nat.le_of_ble_eq_true rfl) ((y_pick_f hF rfl rfl rfl).q) (fun a w hF hW => ?_)
      refine ls_w hF hW (wanted_y hF rfl rfl rfl rfl) rfl (Nat.le_of_ble_eq_true rfl) ((y_move hF rfl).q) (fun a w hF hW => ?_)
      rcases Bool.eq_false_or_eq_true (decide (p0.1 < 5)) with hb2 | hb2
      ·
       rw [hb2] at hF
       refine lsn hF rfl rfl rfl rfl rfl rfl rfl (fun a hF => ?_)
       refine lsn hF rfl rfl rfl rfl rfl rfl rfl (fun a hF => ?_)
       refine ls_w hF hW (wanted_y hF rfl rfl rfl rfl) rfl (Nat.le_of_ble_eq_true rfl) ((y_pick_t hF rfl rfl rfl).q) (fun a w hF hW => ?_)
       refine ls hF hW rfl ((y_pick_t hF rfl rfl rfl).q) (fun a w hF hW => ?_)
       refine ls_nil ?_
       refine c_then ?_
       exact ⟨hF.re ⟨rfl, rfl, rfl, (by show some (Value.bool true) = some (Value.bool (decide (p0.2.2.2.1 < 0) && (decide (p0.2.2.2.1 < (-1)) || (decide (p0.1 < 5) || decide (p0.1 = 6))))); try rw [hb1]; try rw [hb0]; try rw [hb2]; all_goals simp only [Bool.not_true, Bool.not_false, Bool.true_and, Bool.false_and, Bool.true_or, Bool.false_or, Bool.and_true, Bool.or_false, cond_true, cond_false]), trivial⟩, hW⟩
      ·
       rw [hb2] at hF
       refine ls_w hF hW (wanted_y hF rfl rfl rfl rfl) rfl (Nat.le_of_ble_eq_true rfl) ((y_move hF rfl).q) (fun a w hF hW => ?_)
       refine ls_w hF hW (wanted_y hF rfl rfl rfl rfl) rfl (Nat.le_of_ble_eq_true rfl) ((y_eql hF rfl rfl).q) (fun a w hF hW => ?_)
       refine ls_w hF hW (wanted_y hF rfl rfl rfl rfl) rfl (Nat.le_of_ble_eq_true rfl) ((y_pick_f hF rfl rfl rfl).q) (fun a w hF hW => ?_)
       refine ls hF hW rfl ((y_pick_t hF rfl rfl rfl).q) (fun a w hF hW => ?_)
       refine ls_nil ?_
       refine c_then ?_
       exact ⟨hF.re ⟨rfl, rfl, rfl, (by show some (Value.bool (decide (p0.1 = 6))) = some (Value.bool (decide (p0.2.2.2.1 < 0) && (decide (p0.2.2.2.1 < (-1)) || (decide (p0.1 < 5) || decide (p0.1 = 6))))); try rw [hb1]; try rw [hb0]; try rw [hb2]; all_goals simp only [Bool.not_true, Bool.not_false, Bool.true_and, Bool.false_and, Bool.true_or, Bool.false_or, Bool.and_true, Bool.or_false, cond_true, cond_false]), trivial⟩, hW⟩
    ·
     rw [hb0] at hF
     refine lsn hF rfl rfl rfl rfl rfl rfl rfl (fun a hF => ?_)
     refine lsn hF rfl rfl rfl rfl rfl rfl rfl (fun a hF => ?_)
     refine lsn hF rfl rfl rfl rfl rfl rfl rfl (fun a hF => ?_)
     refine lsn hF rfl rfl rfl rfl rfl rfl rfl (fun a hF => ?_)
     refine lsu hF rfl rfl rfl rfl rfl rfl (fun a hF => ?_)
     refine lsu hF rfl rfl rfl rfl rfl rfl (fun a hF => ?_)
     refine lsn hF rfl rfl rfl rfl rfl rfl rfl (fun a hF => ?_)
     refine lsn hF rfl rfl rfl rfl rfl rfl rfl (fun a hF => ?_)
     refine lsu hF rfl rfl rfl rfl rfl rfl (fun a hF => ?_)
     refine lsu hF rfl rfl rfl rfl rfl rfl (fun a hF => ?_)
     refine lsn hF rfl rfl rfl rfl rfl rfl rfl (fun a hF => ?_)
     refine ls hF hW rfl ((y_pick_f hF rfl rfl rfl).q) (fun a w hF hW => ?_)
     refine ls_nil ?_
     refine c_then ?_
     exact ⟨hF.re ⟨rfl, rfl, rfl, (by show some (Value.bool false) = some (Value.bool (decide (p0.2.2.2.1 < 0) && (decide (p0.2.2.2.1 < (-1)) || (decide (p0.1 < 5) || decide (p0.1 = 6))))); try rw [hb0]; all_goals simp only [Bool.not_true, Bool.not_false, Bool.true_and, Bool.false_and, Bool.true_or, Bool.false_or, Bool.and_true, Bool.or_false, cond_true, cond_false]), trivial⟩, hW⟩
   rintro a w ⟨hF, hW⟩
   refine c_cond hF rfl (fun hb => ?_) (fun hb => ?_)
   ·
    have H := iteT hb H
    rw [hb] at hF
    clear hb
    refine c_seq ?_
    refine reg_list ?_
    refine ls hF hW rfl ((y_assign hF rfl).q) (fun a w hF hW => ?_)
    refine ls_nil ?_
    refine c_then ?_
    refine wp_ret ?_
    refine r_then ?_
    subst H
    refine post1 (.inl rfl) hF hW rfl (rv_tmp hF rfl) ?_
    exact ⟨rfl, hW.done⟩
   ·
    have H := iteF (by rw [hb]; decide) H
    rw [hb] at hF
    clear hb
    refine wp_skip ?_
    refine c_then ?_
    refine c_seqJ (fun a w => Fr 89 [] [(2, .bool (decide (p0.1 < 7) || (decide (3 ≤ p0.2.2.2.2.2.2.2.1) && decide (p0.2.2.2.2.2.2.2.1 ≤ 6))))] a ∧ Stw ⟨Y, [], w0⟩ [(b1, [.int .i64 p0.1, .int .i64 p0.2.1, .int .i64 p0.2.2.1, .int .i64 p0.2.2.2.1, .int .i64 p0.2.2.2.2.1, .int .i64 p0.2.2.2.2.2.1, .int .i64 p0.2.2.2.2.2.2.1, .int .i64 p0.2.2.2.2.2.2.2.1, .int .i64 p0.2.2.2.2.2.2.2.2.1, v1])] [] w) ?_ ?_
    ·
     refine reg_list ?_
     refine ls hF hW rfl ((y_move hF rfl).q) (fun a w hF hW => ?_)
     refine ls hF hW rfl ((y_lss hF rfl rfl).q) (fun a w hF hW => ?_)
     refine ls hF hW rfl ((y_move hF rfl).q) (fun a w hF hW => ?_)
     rcases Bool.eq_false_or_eq_true (decide (p0.1 < 7)) with hb0 | hb0
     ·
      rw [hb0] at hF
      refine lsn hF rfl rfl rfl rfl rfl rfl rfl (fun a hF => ?_)
      refine lsn hF rfl rfl rfl rfl rfl rfl rfl (fun a hF => ?_)
      refine lsn hF rfl rfl rfl rfl rfl rfl rfl (fun a hF => ?_)
      refine lsn hF rfl rfl rfl rfl rfl rfl rfl (fun a hF => ?_)
      refine lsu hF rfl rfl rfl rfl rfl rfl (fun a hF => ?_)
      refine lsu hF rfl rfl rfl rfl rfl rfl (fun a hF => ?_)
      refine lsu hF rfl rfl rfl rfl rfl rfl (fun a hF => ?_)
      refine lsn hF rfl rfl rfl rfl rfl rfl rfl (fun a hF => ?_)
      refine ls hF hW rfl ((y_pick_t hF rfl rfl rfl).q) (fun a w hF hW => ?_)
      refine ls hF hW rfl ((y_assign hF rfl).q) (fun a w hF hW => ?_)
      refine ls_nil ?_
      refine c_then ?_
      exact ⟨hF.re ⟨(by show some (Value.bool true) = some (Value.bool (decide (p0.1 < 7) || (decide (3 ≤ p0.2.2.2.2.2.2.2.1) && decide (p0.2.2.2.2.2.2.2.1 ≤ 6)))); try rw [hb0]; all_goals simp only [Bool.not_true, Bool.not_false, Bool.true_and, Bool.false_and, Bool.true_or, Bool.false_or, Bool.and_true, Bool.or_false, cond_true, cond_false]), trivial⟩, hW⟩
     ·
      rw [hb0] at hF
      refine ls_w hF hW (wanted_y hF rfl rfl rfl rfl) rfl (Nat.le_of_ble_eq_true rfl) ((y_fieldAddr u24_ rfl rfl rfl T3 hF rfl 7 rfl).q) (fun a w hF hW => ?_)
      refine ls_w hF hW (wanted_y hF rfl rfl rfl rfl) rfl (Nat.le_of_ble_eq_true rfl) ((y_load (v := Value.int .i64 p0.2.2.2.2.2.2.2.1) 0 hF rfl rfl T3 rfl).q) (fun a w hF hW => ?_)
      refine ls_w hF hW (wanted_y hF rfl rfl rfl rfl) rfl (Nat.le_of_ble_eq_true rfl) ((y_geq hF rfl rfl).q) (fun a w hF hW => ?_)
      refine ls_w hF hW (wanted_y hF rfl rfl rfl rfl) rfl (Nat.le_of_ble_eq_true rfl) ((y_move hF rfl).q) (fun a w hF hW => ?_)
      rcases Bool.eq_false_or_eq_true (decide (3 ≤ p0.2.2.2.2.2.2.2.1)) with hb1 | hb1
      ·
       rw [hb1] at hF
       refine ls_w hF hW (wanted_y hF rfl rfl rfl rfl) rfl (Nat.le_of_ble_eq_true rfl) ((y_fieldAddr u24_ rfl rfl rfl T3 hF rfl 7 rfl).q) (fun a w hF hW => ?_)
       refine ls_w hF hW (wanted_y hF rfl rfl rfl rfl) rfl (Nat.le_of_ble_eq_true rfl) ((y_load (v := Value.int .i64 p0.2.2.2.2.2.2.2.1) 0 hF rfl rfl T3 rfl).q) (fun a w hF hW => ?_)
       refine ls_w hF hW (wanted_y hF rfl rfl rfl rfl) rfl (Nat.le_of_ble_eq_true rfl) ((y_leq hF rfl rfl).q) (fun a w hF hW => ?_)
       refine ls_w hF hW (wanted_y hF rfl rfl rfl rfl) rfl (Nat.le_of_ble_eq_true rfl) ((y_pick_t hF rfl rfl rfl).q) (fun a w hF hW => ?_)
       refine ls hF hW rfl ((y_pick_f hF rfl rfl rfl).q) (fun a w hF hW => ?_)
       refine ls hF hW rfl ((y_assign hF rfl).q) (fun a w hF hW => ?_)
       refine ls_nil ?_
       refine c_then ?_
       exact ⟨hF.re ⟨(by show some (Value.bool (decide (p0.2.2.2.2.2.2.2.1 ≤ 6))) = some (Value.bool (decide (p0.1 < 7) || (decide (3 ≤ p0.2.2.2.2.2.2.2.1) && decide (p0.2.2.2.2.2.2.2.1 ≤ 6)))); try rw [hb1]; try rw [hb0]; all_goals simp only [Bool.not_true, Bool.not_false, Bool.true_and, Bool.false_and, Bool.true_or, Bool.false_or, Bool.and_true, Bool.or_false, cond_true, cond_false]), trivial⟩, hW⟩
      ·
       rw [hb1] at hF
       refine lsn hF rfl rfl rfl rfl rfl rfl rfl (fun a hF => ?_)
       refine lsn hF rfl rfl rfl rfl rfl rfl rfl (fun a hF => ?_)
       refine lsn hF rfl rfl rfl rfl rfl rfl rfl (fun a hF => ?_)
       refine ls_w hF hW (wanted_y hF rfl rfl rfl rfl) rfl (Nat.le_of_ble_eq_true rfl) ((y_pick_f hF rfl rfl rfl).q) (fun a w hF hW => ?_)
       refine ls hF hW rfl ((y_pick_f hF rfl rfl rfl).q) (fun a w hF hW => ?_)
       refine ls hF hW rfl ((y_assign hF rfl).q) (fun a w hF hW => ?_)
       refine ls_nil ?_
       refine c_then ?_
       exact ⟨hF.re ⟨(by show some (Value.bool false) = some (Value.bool (decide (p0.1 < 7) || (decide (3 ≤ p0.2.2.2.2.2.2.2.1) && decide (p0.2.2.2.2.2.2.2.1 ≤ 6)))); try rw [hb1]; try rw [hb0]; all_goals simp only [Bool.not_true, Bool.not_false, Bool.true_and, Bool.false_and, Bool.true_or, Bool.false_or, Bool.and_true, Bool.or_false, cond_true, cond_false]), trivial⟩, hW⟩
    rintro a w ⟨hF, hW⟩
    refine wp_ret ?_
    subst H
    refine post1 (.inl rfl) hF hW rfl (rv_tmp hF rfl) ?_
    exact ⟨rfl, hW.done⟩

theorem H21 : Has Try.prog 21 := ⟨fun args w => run_callFunc_body Try.func21 rfl (by decide) args w⟩
def r07_Top (p0 : Int) : Int := (if p0 = 2 then 15 else (if (decide (p0 = 0) || (decide (p0 = 1) || decide (p0 = 3))) = true then 255 else 0))
theorem r07_Top_c (Y : Nat → Prop) (w0 : World)  (p0 : Int) (r : Int) (H : r07_Top p0 = r)  :
    Calls Try.prog 60 #[.int .i64 p0] w0 fun e w' => e = .returned (.int .i64 r) ∧ Below w0.heap.size w0 w' := by
 refine enter Try.func60 rfl Try.ntmps60 rfl (fun a hF => ?_)
 have hW := Stw.start Y w0
 unfold r07_Top at H
 refine c_seq ?_
 refine reg_list ?_
 refine ls hF hW rfl ((y_assign hF rfl).q) (fun a w hF hW => ?_)
 refine ls_nil ?_
 refine c_then ?_
 refine c_seq ?_
 refine c_seq ?_
 refine reg_list ?_
 refine ls hF hW rfl ((y_move hF rfl).q) (fun a w hF hW => ?_)
 refine ls hF hW rfl ((y_eql hF rfl rfl).q) (fun a w hF hW => ?_)
 refine ls_nil ?_
 refine c_then ?_
 refine c_cond hF rfl (fun hb => ?_) (fun hb => ?_)
 ·
  have H := iteT (of_decide_eq_true hb) H
  rw [hb] at hF
  clear hb
  refine c_seq ?_
  refine reg_list ?_
  refine ls hF hW rfl ((y_assign hF rfl).q) (fun a w hF hW => ?_)
  refine ls_nil ?_
  refine c_then ?_
  refine wp_ret ?_
  refine r_then ?_
  subst H
  refine post1 (.inl rfl) hF hW rfl (rv_tmp hF rfl) ?_
  exact ⟨rfl, hW.done⟩
 ·
  have H := iteF (of_decide_eq_false hb) H
  rw [hb] at hF
  clear hb
  refine wp_skip ?_
  refine c_then ?_
  refine c_seq ?_
  refine c_seqJ (fun a w => Fr 15 [] [(2, .int .i64 0), (14, .bool (decide (p0 = 0) || (decide (p0 = 1) || decide (p0 = 3))))] a ∧ Stw ⟨Y, [], w0⟩ [] [] w) ?_ ?_
  ·
   refine reg_list ?_
   refine ls hF hW rfl ((y_move hF rfl).q) (fun a w hF hW => ?_)
   refine ls hF hW rfl ((y_eql hF rfl rfl).q) (fun a w hF hW => ?_)
   refine ls hF hW rfl ((y_move hF rfl).q) (fun a w hF hW => ?_)
   rcases Bool.eq_false_or_eq_true (decide (p0 = 0)) with hb0 | hb0
   ·
    rw [hb0] at hF
    refine lsn hF rfl rfl rfl rfl rfl rfl rfl (fun a hF => ?_)
    refine lsn hF rfl rfl rfl rfl rfl rfl rfl (fun a hF => ?_)
    refine ls hF hW rfl ((y_pick_t hF rfl rfl rfl).q) (fun a w hF hW => ?_)
    refine ls hF hW rfl ((y_move hF rfl).q) (fun a w hF hW => ?_)
    refine lsn hF rfl rfl rfl rfl rfl rfl rfl (fun a hF => ?_)
    refine lsn hF rfl rfl rfl rfl rfl rfl rfl (fun a hF => ?_)
    refine ls hF hW rfl ((y_pick_t hF rfl rfl rfl).q) (fun a w hF hW => ?_)
    refine ls_nil ?_
    refine c_then ?_
    exact ⟨hF.re ⟨rfl, (by show some (Value.bool true) = some (Value.bool (decide (p0 = 0) || (decide (p0 = 1) || decide (p0 = 3)))); try rw [hb0]; all_goals simp only [Bool.not_true, Bool.not_false, Bool.true_and, Bool.false_and, Bool.true_or, Bool.false_or, Bool.and_true, Bool.or_false, cond_true, cond_false]), trivial⟩, hW⟩
   ·
    rw [hb0] at hF
    refine ls_w hF hW (wanted_y hF rfl rfl rfl rfl) rfl (Nat.le_of_ble_eq_true rfl) ((y_move hF rfl).q) (fun a w hF hW => ?_)
    refine ls_w hF hW (wanted_y hF rfl rfl rfl rfl) rfl (Nat.le_of_ble_eq_true rfl) ((y_eql hF rfl rfl).q) (fun a w hF hW => ?_)
    refine ls hF hW rfl ((y_pick_f hF rfl rfl rfl).q) (fun a w hF hW => ?_)
    refine ls hF hW rfl ((y_move hF rfl).q) (fun a w hF hW => ?_)
    rcases Bool.eq_false_or_eq_true (decide (p0 = 1)) with hb1 | hb1
    ·
     rw [hb1] at hF
     refine lsn hF rfl rfl rfl rfl rfl rfl rfl (fun a hF => ?_)
     refine lsn hF rfl rfl rfl rfl rfl rfl rfl (fun a hF => ?_)
     refine ls hF hW rfl ((y_pick_t hF rfl rfl rfl).q) (fun a w hF hW => ?_)
     refine ls_nil ?_
     refine c_then ?_
     exact ⟨hF.re ⟨rfl, (by show some (Value.bool true) = some (Value.bool (decide (p0 = 0) || (decide (p0 = 1) || decide (p0 = 3)))); try rw [hb0]; try rw [hb1]; all_goals simp only [Bool.not_true, Bool.not_false, Bool.true_and, Bool.false_and, Bool.true_or, Bool.false_or, Bool.and_true, Bool.or_false, cond_true, cond_false]), trivial⟩, hW⟩
    ·
     rw [hb1] at hF
     refine ls_w hF hW (wanted_y hF rfl rfl rfl rfl) rfl (Nat.le_of_ble_eq_true rfl) ((y_move hF rfl).q) (fun a w hF hW => ?_)
     refine ls_w hF hW (wanted_y hF rfl rfl rfl rfl) rfl (Nat.le_of_ble_eq_true rfl) ((y_eql hF rfl rfl).q) (fun a w hF hW => ?_)
     refine ls hF hW rfl ((y_pick_f hF rfl rfl rfl).q) (fun a w hF hW => ?_)
     refine ls_nil ?_
     refine c_then ?_
     exact ⟨hF.re ⟨rfl, (by show some (Value.bool (decide (p0 = 3))) = some (Value.bool (decide (p0 = 0) || (decide (p0 = 1) || decide (p0 = 3)))); try rw [hb0]; try rw [hb1]; all_goals simp only [Bool.not_true, Bool.not_false, Bool.true_and, Bool.false_and, Bool.true_or, Bool.false_or, Bool.and_true, Bool.or_false, cond_true, cond_false]), trivial⟩, hW⟩
  rintro a w ⟨hF, hW⟩
  refine c_cond hF rfl (fun hb => ?_) (fun hb => ?_)
  ·
   have H := iteT hb H
   rw [hb] at hF
   clear hb
   refine c_seq ?_
   refine reg_list ?_
   refine ls hF hW rfl ((y_assign hF rfl).q) (fun a w hF hW => ?_)
   refine ls_nil ?_
   refine c_then ?_
   refine wp_ret ?_
   refine r_then ?_
   subst H
   refine post1 (.inl rfl) hF hW rfl (rv_tmp hF rfl) ?_
   exact ⟨rfl, hW.done⟩
  ·
   have H := iteF (by rw [hb]; decide) H
   rw [hb] at hF
   clear hb
   refine wp_skip ?_
   refine c_then ?_
   refine c_seq ?_
   refine reg_list ?_
   refine ls hF hW rfl ((y_assign hF rfl).q) (fun a w hF hW => ?_)
   refine ls_nil ?_
   refine c_then ?_
   refine wp_ret ?_
   subst H
   refine post1 (.inl rfl) hF hW rfl (rv_tmp hF rfl) ?_
   exact ⟨rfl, hW.done⟩

theorem H60 : Has Try.prog 60 := ⟨fun args w => run_callFunc_body Try.func60 rfl (by decide) args w⟩
noncomputable def r08_Bit_l1 (p1 : Int) : (Int × Int) → Option ((Int × Int) ⊕ Int)
  | (x2, x3) => (if x3 < p1 then some (.inl (w64 (Int.tdiv x2 2), w64 (x3 + 1))) else some (.inr x2))
noncomputable def r08_Bit (p0 : Int) (p1 : Int) : Option Int := (loopW (r08_Bit_l1 p1) (p0, 0)).bind fun x1 => some (Int.tmod x1 2)
theorem r08_Bit_c (Y : Nat → Prop) (w0 : World)  (p0 : Int) (p1 : Int) (r : Int) (H : r08_Bit p0 p1 = some r)  :
    Calls Try.prog 61 #[.int .i64 p0, .int .i64 p1] w0 fun e w' => e = .returned (.int .i64 r) ∧ Below w0.heap.size w0 w' := by
 refine enter Try.func61 rfl Try.ntmps61 rfl (fun a hF => ?_)
 have hW := Stw.start Y w0
 unfold r08_Bit at H
 refine c_seq ?_
 refine reg_list ?_
 refine ls hF hW rfl ((y_assign hF rfl).q) (fun a w hF hW => ?_)
 refine ls_nil ?_
 refine c_then ?_
 obtain ⟨o1, G1, K1⟩ := bindE H
 refine c_seqJ (fun a w => ∃ x1 : Int, some (x1) = some o1 ∧ Fr 15 [] [(0, .int .i64 x1), (4, .int .i64 0)] a ∧ Stw ⟨Y, [], w0⟩ [] [] w) ?_ ?_
 ·
  have H := G1
  clear G1 K1
  refine c_seq ?_
  refine reg_list ?_
  refine ls hF hW rfl ((y_assign hF rfl).q) (fun a w hF hW => ?_)
  refine ls_nil ?_
  refine c_then ?_
  refine wp_block ?_
  refine c_loopW H (fun s a w => Fr 15 [] [(0, .int .i64 s.1), (1, .int .i64 p1), (4, .int .i64 0), (5, .int .i64 s.2)] a ∧ Stw ⟨Y, [], w0⟩ [] [] w) ⟨hF.re ⟨rfl, rfl, rfl, rfl, trivial⟩, hW⟩ (fun s o a w H L2 hR => ?_)
  obtain ⟨x2, x3⟩ := s
  obtain ⟨hF, hW⟩ := hR
  have hF : Fr 15 [] [(0, .int .i64 x2), (1, .int .i64 p1), (4, .int .i64 0), (5, .int .i64 x3)] a := hF
  have hW : Stw ⟨Y, [], w0⟩ [] [] w := hW
  rw [r08_Bit_l1] at H
  refine c_seq ?_
  refine c_seq ?_
  refine reg_list ?_
  refine ls hF hW rfl ((y_move hF rfl).q) (fun a w hF hW => ?_)
  refine ls hF hW rfl ((y_move hF rfl).q) (fun a w hF hW => ?_)
  refine ls hF hW rfl ((y_lss hF rfl rfl).q) (fun a w hF hW => ?_)
  refine ls_nil ?_
  refine c_then ?_
  refine c_cond hF rfl (fun hb => ?_) (fun hb => ?_)
  ·
   have H := iteT (of_decide_eq_true hb) H
   rw [hb] at hF
   clear hb
   refine wp_skip ?_
   refine c_then ?_
   refine c_seq ?_
   refine wp_block ?_
   refine reg_list ?_
   refine ls hF hW rfl ((y_move hF rfl).q) (fun a w hF hW => ?_)
   refine ls hF hW rfl ((y_quo hF rfl rfl (by decide) rfl).q) (fun a w hF hW => ?_)
   refine ls hF hW rfl ((y_assign hF rfl).q) (fun a w hF hW => ?_)
   refine ls_nil ?_
   refine b_normal ?_
   refine c_then ?_
   refine reg_list ?_
   refine ls hF hW rfl ((y_move hF rfl).q) (fun a w hF hW => ?_)
   refine ls hF hW rfl ((y_add hF rfl rfl rfl).q) (fun a w hF hW => ?_)
   refine ls hF hW rfl ((y_assign hF rfl).q) (fun a w hF hW => ?_)
   refine ls_nil ?_
   refine c_then ?_
   exact ⟨_, H, hF.re ⟨rfl, rfl, rfl, rfl, trivial⟩, hW⟩
  ·
   have H := iteF (of_decide_eq_false hb) H
   rw [hb] at hF
   clear hb
   refine wp_exit ?_
   refine e_then ?_
   refine e_then ?_
   refine e_block ?_
   refine c_then ?_
   have H := L2 _ H
   exact ⟨_, H, hF.re ⟨rfl, rfl, trivial⟩, hW⟩
 rintro a w ⟨x1, hj, hF, hW⟩
 have hj := Option.some.inj hj
 subst hj
 have H := K1
 clear G1 K1
 refine c_seq ?_
 refine reg_list ?_
 refine ls hF hW rfl ((y_move hF rfl).q) (fun a w hF hW => ?_)
 refine ls hF hW rfl ((y_rem hF rfl rfl (by decide) rfl).q) (fun a w hF hW => ?_)
 refine ls hF hW rfl ((y_assign hF rfl).q) (fun a w hF hW => ?_)
 refine ls_nil ?_
 refine c_then ?_
 refine wp_ret ?_
 have H := Option.some.inj H
 subst H
 refine post1 (.inl rfl) hF hW rfl (rv_tmp hF rfl) ?_
 exact ⟨rfl, hW.done⟩

theorem H61 : Has Try.prog 61 := ⟨fun args w => run_callFunc_body Try.func61 rfl (by decide) args w⟩
noncomputable def r08_Right_l2 (p0 : Int × (Int × Int × Int × Int) × (Int × Int × Int × Int)) (x1 : Int) : Int → Option (Int ⊕ (Unit ⊕ (Int ⊕ (Unit ⊕ Bool))))
  | x7 => (if x7 < 8 then (ix ([p0.2.1.1, p0.2.1.2.1, p0.2.1.2.2.1, p0.2.1.2.2.2] : List Int) x1).bind fun x8 => (r08_Bit x8 x7).bind fun x9 => (ix ([p0.2.2.1, p0.2.2.2.1, p0.2.2.2.2.1, p0.2.2.2.2.2] : List Int) x1).bind fun x10 => (r08_Bit x10 x7).bind fun x11 => (if x11 < x9 then some (.inr (.inr (.inr (.inr false)))) else some (.inl (w64 (x7 + 1)))) else some (.inr (.inl ())))
noncomputable def r08_Right_l1 (p0 : Int × (Int × Int × Int × Int) × (Int × Int × Int × Int)) : Int → Option (Int ⊕ (Unit ⊕ Bool))
  | x1 => (if x1 < 4 then orR (((ix ([p0.2.2.1, p0.2.2.2.1, p0.2.2.2.2.1, p0.2.2.2.2.2] : List Int) x1).bind fun x3 => (if x3 < 0 then some true else (ix ([p0.2.2.1, p0.2.2.2.1, p0.2.2.2.2.1, p0.2.2.2.2.2] : List Int) x1).bind fun x4 => (if (r07_Top x1) < x4 then some true else (ix ([p0.2.1.1, p0.2.1.2.1, p0.2.1.2.2.1, p0.2.1.2.2.2] : List Int) x1).bind fun x5 => (if x5 < 0 then some true else (ix ([p0.2.1.1, p0.2.1.2.1, p0.2.1.2.2.1, p0.2.1.2.2.2] : List Int) x1).bind fun x6 => some (decide ((r07_Top x1) < x6)))))).bind fun x2 => (if x2 = true then some (.inr (.inr (.inr false))) else loopW (r08_Right_l2 p0 x1) 0)) fun _ => some (.inl (w64 (x1 + 1))) else some (.inr (.inl ())))
noncomputable def r08_Right (p0 : Int × (Int × Int × Int × Int) × (Int × Int × Int × Int)) : Option Bool := (if (decide (p0.1 < (-1)) || decide (7 < p0.1)) = true then some false else orR (loopW (r08_Right_l1 p0) 0) fun _ => some true)
theorem r08_Right_c (Y : Nat → Prop) (w0 : World)  (p0 : Int × (Int × Int × Int × Int) × (Int × Int × Int × Int)) (r : Bool) (H : r08_Right p0 = some r)  :
    Calls Try.prog 42 #[.agg #[.int .i64 p0.1, .int .i64 p0.2.1.1, .int .i64 p0.2.1.2.1, .int .i64 p0.2.1.2.2.1, .int .i64 p0.2.1.2.2.2, .int .i64 p0.2.2.1, .int .i64 p0.2.2.2.1, .int .i64 p0.2.2.2.2.1, .int .i64 p0.2.2.2.2.2]] w0 fun e w' => e = .returned (.bool r) ∧ Below w0.heap.size w0 w' := by
 refine enter Try.func42 rfl Try.ntmps42 rfl (fun a hF => ?_)
 have hW := Stw.start Y w0
 unfold r08_Right at H
 refine c_seq ?_
 refine reg_list ?_
 refine l_box (cs := [.int .i64 p0.1, .int .i64 p0.2.1.1, .int .i64 p0.2.1.2.1, .int .i64 p0.2.1.2.2.1, .int .i64 p0.2.1.2.2.2, .int .i64 p0.2.2.1, .int .i64 p0.2.2.2.1, .int .i64 p0.2.2.2.2.1, .int .i64 p0.2.2.2.2.2]) hF hW rfl rfl rfl (fun b1 a w hF hW => ?_)
 refine ls hF hW rfl ((y_assign hF rfl).q) (fun a w hF hW => ?_)
 refine ls_nil ?_
 refine c_then ?_
 refine c_seq ?_
 refine c_seqJ (fun a w => Fr 64 [] [(1, .pointer (some ⟨b1, 0, none⟩)), (2, .bool false), (12, .bool (decide (p0.1 < (-1)) || decide (7 < p0.1)))] a ∧ Stw ⟨Y, [], w0⟩ [(b1, [.int .i64 p0.1, .int .i64 p0.2.1.1, .int .i64 p0.2.1.2.1, .int .i64 p0.2.1.2.2.1, .int .i64 p0.2.1.2.2.2, .int .i64 p0.2.2.1, .int .i64 p0.2.2.2.1, .int .i64 p0.2.2.2.2.1, .int .i64 p0.2.2.2.2.2])] [] w) ?_ ?_
 ·
  refine reg_list ?_
  refine ls hF hW rfl ((y_fieldAddr u37_ rfl rfl rfl T3 hF rfl 0 rfl).q) (fun a w hF hW => ?_)
  refine ls hF hW rfl ((y_load (v := Value.int .i64 p0.1) 0 hF rfl rfl T3 rfl).q) (fun a w hF hW => ?_)
  refine ls hF hW rfl ((y_lss hF rfl rfl).q) (fun a w hF hW => ?_)
  refine ls hF hW rfl ((y_move hF rfl).q) (fun a w hF hW => ?_)
  rcases Bool.eq_false_or_eq_true (decide (p0.1 < (-1))) with hb0 | hb0
  ·
   rw [hb0] at hF
   refine lsn hF rfl rfl rfl rfl rfl rfl rfl (fun a hF => ?_)
   refine lsn hF rfl rfl rfl rfl rfl rfl rfl (fun a hF => ?_)
   refine lsn hF rfl rfl rfl rfl rfl rfl rfl (fun a hF => ?_)
   refine ls hF hW rfl ((y_pick_t hF rfl rfl rfl).q) (fun a w hF hW => ?_)
   refine ls_nil ?_
   refine c_then ?_
   exact ⟨hF.re ⟨rfl, rfl, (by show some (Value.bool true) = some (Value.bool (decide (p0.1 < (-1)) || decide (7 < p0.1))); try rw [hb0]; all_goals simp only [Bool.not_true, Bool.not_false, Bool.true_and, Bool.false_and, Bool.true_or, Bool.false_or, Bool.and_true, Bool.or_false, cond_true, cond_false]), trivial⟩, hW⟩
  ·
   rw [hb0] at hF
   refine ls_w hF hW (wanted_y hF rfl rfl rfl rfl) rfl (Nat.le_of_ble_eq_true rfl) ((y_fieldAddr u37_ rfl rfl rfl T3 hF rfl 0 rfl).q) (fun a w hF hW => ?_)
   refine ls_w hF hW (wanted_y hF rfl rfl rfl rfl) rfl (Nat.le_of_ble_eq_true rfl) ((y_load (v := Value.int .i64 p0.1) 0 hF rfl rfl T3 rfl).q) (fun a w hF hW => ?_)
   refine ls_w hF hW (wanted_y hF rfl rfl rfl rfl) rfl (Nat.le_of_ble_eq_true rfl) ((y_gtr hF rfl rfl).q) (fun a w hF hW => ?_)
   refine ls hF hW rfl ((y_pick_f hF rfl rfl rfl).q) (fun a w hF hW => ?_)
   refine ls_nil ?_
   refine c_then ?_
   exact ⟨hF.re ⟨rfl, rfl, (by show some (Value.bool (decide (7 < p0.1))) = some (Value.bool (decide (p0.1 < (-1)) || decide (7 < p0.1))); try rw [hb0]; all_goals simp only [Bool.not_true, Bool.not_false, Bool.true_and, Bool.false_and, Bool.true_or, Bool.false_or, Bool.and_true, Bool.or_false, cond_true, cond_false]), trivial⟩, hW⟩
 rintro a w ⟨hF, hW⟩
 refine c_cond hF rfl (fun hb => ?_) (fun hb => ?_)
 ·
  have H := iteT hb H
  rw [hb] at hF
  clear hb
  refine c_seq ?_
  refine reg_list ?_
  refine ls hF hW rfl ((y_assign hF rfl).q) (fun a w hF hW => ?_)
  refine ls_nil ?_
  refine c_then ?_
  refine wp_ret ?_
  refine r_then ?_
  have H := Option.some.inj H
  subst H
  refine post1 (.inl rfl) hF hW rfl (rv_tmp hF rfl) ?_
  exact ⟨rfl, hW.done⟩
 ·
  have H := iteF (by rw [hb]; decide) H
  rw [hb] at hF
  clear hb
  refine wp_skip ?_
  refine c_then ?_
  obtain ⟨o1, G1, K1, L1⟩ := orE H
  refine c_seqJ (fun a w => some (Sum.inl ()) = some o1 ∧ Fr 64 [] [(2, .bool false)] a ∧ Stw ⟨Y, [], w0⟩ [(b1, [.int .i64 p0.1, .int .i64 p0.2.1.1, .int .i64 p0.2.1.2.1, .int .i64 p0.2.1.2.2.1, .int .i64 p0.2.1.2.2.2, .int .i64 p0.2.2.1, .int .i64 p0.2.2.2.1, .int .i64 p0.2.2.2.2.1, .int .i64 p0.2.2.2.2.2])] [] w) ?_ ?_
  ·
   have H := G1
   clear G1 K1
   refine c_seq ?_
   refine reg_list ?_
   refine ls hF hW rfl ((y_assign hF rfl).q) (fun a w hF hW => ?_)
   refine ls_nil ?_
   refine c_then ?_
   refine wp_block ?_
   refine c_loopW H (fun s a w => Fr 64 [] [(1, .pointer (some ⟨b1, 0, none⟩)), (2, .bool false), (3, .int .i64 s)] a ∧ Stw ⟨Y, [], w0⟩ [(b1, [.int .i64 p0.1, .int .i64 p0.2.1.1, .int .i64 p0.2.1.2.1, .int .i64 p0.2.1.2.2.1, .int .i64 p0.2.1.2.2.2, .int .i64 p0.2.2.1, .int .i64 p0.2.2.2.1, .int .i64 p0.2.2.2.2.1, .int .i64 p0.2.2.2.2.2])] [] w) ⟨hF.re ⟨rfl, rfl, rfl, trivial⟩, hW⟩ (fun s o a w H L2 hR => ?_)
   obtain ⟨x1, rfl⟩ : ∃ x, x = s := ⟨s, rfl⟩
   obtain ⟨hF, hW⟩ := hR
   have hF : Fr 64 [] [(1, .pointer (some ⟨b1, 0, none⟩)), (2, .bool false), (3, .int .i64 x1)] a := hF
   have hW : Stw ⟨Y, [], w0⟩ [(b1, [.int .i64 p0.1, .int .i64 p0.2.1.1, .int .i64 p0.2.1.2.1, .int .i64 p0.2.1.2.2.1, .int .i64 p0.2.1.2.2.2, .int .i64 p0.2.2.1, .int .i64 p0.2.2.2.1, .int .i64 p0.2.2.2.2.1, .int .i64 p0.2.2.2.2.2])] [] w := hW
   rw [r08_Right_l1] at H
   refine c_seq ?_
   refine c_seq ?_
   refine reg_list ?_
   refine ls hF hW rfl ((y_move hF rfl).q) (fun a w hF hW => ?_)
   refine ls hF hW rfl ((y_lss hF rfl rfl).q) (fun a w hF hW => ?_)
   refine ls_nil ?_
   refine c_then ?_
   refine c_cond hF rfl (fun hb => ?_) (fun hb => ?_)
   ·
    have H := iteT (of_decide_eq_true hb) H
    rw [hb] at hF
    clear hb
    refine wp_skip ?_
    refine c_then ?_
    obtain ⟨o3, G3, K3, L3⟩ := orE H
    refine c_seqJ (fun a w => some (Sum.inl ()) = some o3 ∧ Fr 64 [] [(1, .pointer (some ⟨b1, 0, none⟩)), (2, .bool false), (3, .int .i64 x1)] a ∧ Stw ⟨Y, [], w0⟩ [(b1, [.int .i64 p0.1, .int .i64 p0.2.1.1, .int .i64 p0.2.1.2.1, .int .i64 p0.2.1.2.2.1, .int .i64 p0.2.1.2.2.2, .int .i64 p0.2.2.1, .int .i64 p0.2.2.2.1, .int .i64 p0.2.2.2.2.1, .int .i64 p0.2.2.2.2.2])] [] w) ?_ ?_
    ·
     have H := G3
     clear G3 K3
     refine wp_block ?_
     refine c_seq ?_
     obtain ⟨o4, G4, K4⟩ := bindE H
     refine c_seqJ (fun a w => ∃ x2 : Bool, some (x2) = some o4 ∧ Fr 64 [] [(1, .pointer (some ⟨b1, 0, none⟩)), (2, .bool false), (3, .int .i64 x1), (46, .bool x2)] a ∧ Stw ⟨Y, [], w0⟩ [(b1, [.int .i64 p0.1, .int .i64 p0.2.1.1, .int .i64 p0.2.1.2.1, .int .i64 p0.2.1.2.2.1, .int .i64 p0.2.1.2.2.2, .int .i64 p0.2.2.1, .int .i64 p0.2.2.2.1, .int .i64 p0.2.2.2.2.1, .int .i64 p0.2.2.2.2.2])] [] w) ?_ ?_
     ·
      have H := G4
      clear G4 K4
      refine reg_quiet hW MO (by kernel_rfl) ?_
      refine qs hF rfl ((y_move hF rfl).q) (fun a hF => ?_)
      refine qs hF rfl ((y_fieldAddr u37_ rfl rfl rfl T35 hF rfl 5 rfl).q) (fun a hF => ?_)
      obtain ⟨x3, h1, H⟩ := bindE H
      refine qs hF rfl ((y_indexP (5 + (x1).toNat * 1) Ar35 hF rfl rfl rfl h1 rfl).q) (fun a hF => ?_)
      refine qs hF rfl ((y_load (v := Value.int .i64 x3) 0 hF rfl rfl T3 (rdv_dyn (base := 5) (m := 4) (l := [p0.2.2.1, p0.2.2.2.1, p0.2.2.2.2.1, p0.2.2.2.2.2]) (enc := Value.int .i64) rfl h1)).q) (fun a hF => ?_)
      refine qs hF rfl ((y_lss hF rfl rfl).q) (fun a hF => ?_)
      refine qs hF rfl ((y_move hF rfl).q) (fun a hF => ?_)
      rcases Bool.eq_false_or_eq_true (decide (x3 < 0)) with hb | hb
      ·
       have H := iteT (of_decide_eq_true hb) H
       rw [hb] at hF
       clear hb
       refine qs_skip hF (wanted_n hF rfl rfl rfl rfl rfl) rfl rfl (fun a hF => ?_)
       refine qs_skip hF (wanted_n hF rfl rfl rfl rfl rfl) rfl rfl (fun a hF => ?_)
       refine qs_skip hF (wanted_n hF rfl rfl rfl rfl rfl) rfl rfl (fun a hF => ?_)
       refine qs_skip hF (wanted_n hF rfl rfl rfl rfl rfl) rfl rfl (fun a hF => ?_)
       refine qs_skip hF (wanted_n hF rfl rfl rfl rfl rfl) rfl rfl (fun a hF => ?_)
       refine qs_skip hF (wanted_n hF rfl rfl rfl rfl rfl) rfl rfl (fun a hF => ?_)
       refine qs_skip hF (wanted_n hF rfl rfl rfl rfl rfl) rfl rfl (fun a hF => ?_)
       refine qs hF rfl ((y_pick_t hF rfl rfl rfl).q) (fun a hF => ?_)
       refine qs hF rfl ((y_move hF rfl).q) (fun a hF => ?_)
       refine qs_skip hF (wanted_n hF rfl rfl rfl rfl rfl) rfl rfl (fun a hF => ?_)
       refine qs_skip hF (wanted_n hF rfl rfl rfl rfl rfl) rfl rfl (fun a hF => ?_)
       refine qs_skip hF (wanted_n hF rfl rfl rfl rfl rfl) rfl rfl (fun a hF => ?_)
       refine qs_skip hF (wanted_n hF rfl rfl rfl rfl rfl) rfl rfl (fun a hF => ?_)
       refine qs_skip hF (wanted_n hF rfl rfl rfl rfl rfl) rfl rfl (fun a hF => ?_)
       refine qs hF rfl ((y_pick_t hF rfl rfl rfl).q) (fun a hF => ?_)
       refine qs hF rfl ((y_move hF rfl).q) (fun a hF => ?_)
       refine qs_skip hF (wanted_n hF rfl rfl rfl rfl rfl) rfl rfl (fun a hF => ?_)
       refine qs_skip hF (wanted_n hF rfl rfl rfl rfl rfl) rfl rfl (fun a hF => ?_)
       refine qs_skip hF (wanted_n hF rfl rfl rfl rfl rfl) rfl rfl (fun a hF => ?_)
       refine qs_skip hF (wanted_n hF rfl rfl rfl rfl rfl) rfl rfl (fun a hF => ?_)
       refine qs_skip hF (wanted_n hF rfl rfl rfl rfl rfl) rfl rfl (fun a hF => ?_)
       refine qs_skip hF (wanted_n hF rfl rfl rfl rfl rfl) rfl rfl (fun a hF => ?_)
       refine qs_skip hF (wanted_n hF rfl rfl rfl rfl rfl) rfl rfl (fun a hF => ?_)
       refine qs hF rfl ((y_pick_t hF rfl rfl rfl).q) (fun a hF => ?_)
       refine quiet_end (fun w hW => ?_)
       refine c_then ?_
       exact ⟨_, H, hF.re ⟨rfl, rfl, rfl, rfl, trivial⟩, hW⟩
      ·
       have H := iteF (of_decide_eq_false hb) H
       rw [hb] at hF
       clear hb
       refine qs_w hF (wanted_y hF rfl rfl rfl rfl) rfl (Nat.le_of_ble_eq_true rfl) ((y_move hF rfl).q) (fun a hF => ?_)
       refine qs_w hF (wanted_y hF rfl rfl rfl rfl) rfl (Nat.le_of_ble_eq_true rfl) ((y_fieldAddr u37_ rfl rfl rfl T35 hF rfl 5 rfl).q) (fun a hF => ?_)
       obtain ⟨x4, h2, H⟩ := bindE H
       refine qs_w hF (wanted_y hF rfl rfl rfl rfl) rfl (Nat.le_of_ble_eq_true rfl) ((y_indexP (5 + (x1).toNat * 1) Ar35 hF rfl rfl rfl h2 rfl).q) (fun a hF => ?_)
       refine qs_w hF (wanted_y hF rfl rfl rfl rfl) rfl (Nat.le_of_ble_eq_true rfl) ((y_load (v := Value.int .i64 x4) 0 hF rfl rfl T3 (rdv_dyn (base := 5) (m := 4) (l := [p0.2.2.1, p0.2.2.2.1, p0.2.2.2.2.1, p0.2.2.2.2.2]) (enc := Value.int .i64) rfl h2)).q) (fun a hF => ?_)
       refine qs_w hF (wanted_y hF rfl rfl rfl rfl) rfl (Nat.le_of_ble_eq_true rfl) ((y_move hF rfl).q) (fun a hF => ?_)
       refine qs_w hF (wanted_y hF rfl rfl rfl rfl) rfl (Nat.le_of_ble_eq_true rfl) (y_call (v := Value.int .i64 (r07_Top x1)) hF H60 rfl (fun w hW => r07_Top_c any w x1 _ rfl)) (fun a hF => ?_)
       refine qs_w hF (wanted_y hF rfl rfl rfl rfl) rfl (Nat.le_of_ble_eq_true rfl) ((y_gtr hF rfl rfl).q) (fun a hF => ?_)
       refine qs hF rfl ((y_pick_f hF rfl rfl rfl).q) (fun a hF => ?_)
       refine qs hF rfl ((y_move hF rfl).q) (fun a hF => ?_)
       rcases Bool.eq_false_or_eq_true (decide ((r07_Top x1) < x4)) with hb | hb
       ·
        have H := iteT (of_decide_eq_true hb) H
        rw [hb] at hF
        clear hb
        refine qs_skip hF (wanted_n hF rfl rfl rfl rfl rfl) rfl rfl (fun a hF => ?_)
        refine qs_skip hF (wanted_n hF rfl rfl rfl rfl rfl) rfl rfl (fun a hF => ?_)
        refine qs_skip hF (wanted_n hF rfl rfl rfl rfl rfl) rfl rfl (fun a hF => ?_)
        refine qs_skip hF (wanted_n hF rfl rfl rfl rfl rfl) rfl rfl (fun a hF => ?_)
        refine qs_skip hF (wanted_n hF rfl rfl rfl rfl rfl) rfl rfl (fun a hF => ?_)
        refine qs hF rfl ((y_pick_t hF rfl rfl rfl).q) (fun a hF => ?_)
        refine qs hF rfl ((y_move hF rfl).q) (fun a hF => ?_)
        refine qs_skip hF (wanted_n hF rfl rfl rfl rfl rfl) rfl rfl (fun a hF => ?_)
        refine qs_skip hF (wanted_n hF rfl rfl rfl rfl rfl) rfl rfl (fun a hF => ?_)
        refine qs_skip hF (wanted_n hF rfl rfl rfl rfl rfl) rfl rfl (fun a hF => ?_)
        refine qs_skip hF (wanted_n hF rfl rfl rfl rfl rfl) rfl rfl (fun a hF => ?_)
        refine qs_skip hF (wanted_n hF rfl rfl rfl rfl rfl) rfl rfl (fun a hF => ?_)
        refine qs_skip hF (wanted_n hF rfl rfl rfl rfl rfl) rfl rfl (fun a hF => ?_)
        refine qs_skip hF (wanted_n hF rfl rfl rfl rfl rfl) rfl rfl (fun a hF => ?_)
        refine qs hF rfl ((y_pick_t hF rfl rfl rfl).q) (fun a hF => ?_)
        refine quiet_end (fun w hW => ?_)
        refine c_then ?_
        exact ⟨_, H, hF.re ⟨rfl, rfl, rfl, rfl, trivial⟩, hW⟩
       ·
        have H := iteF (of_decide_eq_false hb) H
        rw [hb] at hF
        clear hb
        refine qs_w hF (wanted_y hF rfl rfl rfl rfl) rfl (Nat.le_of_ble_eq_true rfl) ((y_move hF rfl).q) (fun a hF => ?_)
        refine qs_w hF (wanted_y hF rfl rfl rfl rfl) rfl (Nat.le_of_ble_eq_true rfl) ((y_fieldAddr u37_ rfl rfl rfl T35 hF rfl 1 rfl).q) (fun a hF => ?_)
        obtain ⟨x5, h3, H⟩ := bindE H
        refine qs_w hF (wanted_y hF rfl rfl rfl rfl) rfl (Nat.le_of_ble_eq_true rfl) ((y_indexP (1 + (x1).toNat * 1) Ar35 hF rfl rfl rfl h3 rfl).q) (fun a hF => ?_)
        refine qs_w hF (wanted_y hF rfl rfl rfl rfl) rfl (Nat.le_of_ble_eq_true rfl) ((y_load (v := Value.int .i64 x5) 0 hF rfl rfl T3 (rdv_dyn (base := 1) (m := 4) (l := [p0.2.1.1, p0.2.1.2.1, p0.2.1.2.2.1, p0.2.1.2.2.2]) (enc := Value.int .i64) rfl h3)).q) (fun a hF => ?_)
        refine qs_w hF (wanted_y hF rfl rfl rfl rfl) rfl (Nat.le_of_ble_eq_true rfl) ((y_lss hF rfl rfl).q) (fun a hF => ?_)
        refine qs hF rfl ((y_pick_f hF rfl rfl rfl).q) (fun a hF => ?_)
        refine qs hF rfl ((y_move hF rfl).q) (fun a hF => ?_)
        rcases Bool.eq_false_or_eq_true (decide (x5 < 0)) with hb | hb
        ·
         have H := iteT (of_decide_eq_true hb) H
         rw [hb] at hF
         clear hb
         refine qs_skip hF (wanted_n hF rfl rfl rfl rfl rfl) rfl rfl (fun a hF => ?_)
         refine qs_skip hF (wanted_n hF rfl rfl rfl rfl rfl) rfl rfl (fun a hF => ?_)
         refine qs_skip hF (wanted_n hF rfl rfl rfl rfl rfl) rfl rfl (fun a hF => ?_)
         refine qs_skip hF (wanted_n hF rfl rfl rfl rfl rfl) rfl rfl (fun a hF => ?_)
         refine qs_skip hF (wanted_n hF rfl rfl rfl rfl rfl) rfl rfl (fun a hF => ?_)
         refine qs_skip hF (wanted_n hF rfl rfl rfl rfl rfl) rfl rfl (fun a hF => ?_)
         refine qs_skip hF (wanted_n hF rfl rfl rfl rfl rfl) rfl rfl (fun a hF => ?_)
         refine qs hF rfl ((y_pick_t hF rfl rfl rfl).q) (fun a hF => ?_)
         refine quiet_end (fun w hW => ?_)
         refine c_then ?_
         exact ⟨_, H, hF.re ⟨rfl, rfl, rfl, rfl, trivial⟩, hW⟩
        ·
         have H := iteF (of_decide_eq_false hb) H
         rw [hb] at hF
         clear hb
         refine qs_w hF (wanted_y hF rfl rfl rfl rfl) rfl (Nat.le_of_ble_eq_true rfl) ((y_move hF rfl).q) (fun a hF => ?_)
         refine qs_w hF (wanted_y hF rfl rfl rfl rfl) rfl (Nat.le_of_ble_eq_true rfl) ((y_fieldAddr u37_ rfl rfl rfl T35 hF rfl 1 rfl).q) (fun a hF => ?_)
         obtain ⟨x6, h4, H⟩ := bindE H
         refine qs_w hF (wanted_y hF rfl rfl rfl rfl) rfl (Nat.le_of_ble_eq_true rfl) ((y_indexP (1 + (x1).toNat * 1) Ar35 hF rfl rfl rfl h4 rfl).q) (fun a hF => ?_)
         refine qs_w hF (wanted_y hF rfl rfl rfl rfl) rfl (Nat.le_of_ble_eq_true rfl) ((y_load (v := Value.int .i64 x6) 0 hF rfl rfl T3 (rdv_dyn (base := 1) (m := 4) (l := [p0.2.1.1, p0.2.1.2.1, p0.2.1.2.2.1, p0.2.1.2.2.2]) (enc := Value.int .i64) rfl h4)).q) (fun a hF => ?_)
         refine qs_w hF (wanted_y hF rfl rfl rfl rfl) rfl (Nat.le_of_ble_eq_true rfl) ((y_move hF rfl).q) (fun a hF => ?_)
         refine qs_w hF (wanted_y hF rfl rfl rfl rfl) rfl (Nat.le_of_ble_eq_true rfl) (y_call (v := Value.int .i64 (r07_Top x1)) hF H60 rfl (fun w hW => r07_Top_c any w x1 _ rfl)) (fun a hF => ?_)
         refine qs_w hF (wanted_y hF rfl rfl rfl rfl) rfl (Nat.le_of_ble_eq_true rfl) ((y_gtr hF rfl rfl).q) (fun a hF => ?_)
         refine qs hF rfl ((y_pick_f hF rfl rfl rfl).q) (fun a hF => ?_)
         refine quiet_end (fun w hW => ?_)
         refine c_then ?_
         exact ⟨_, H, hF.re ⟨rfl, rfl, rfl, rfl, trivial⟩, hW⟩
     rintro a w ⟨x2, hj, hF, hW⟩
     have hj := Option.some.inj hj
     subst hj
     have H := K4
     clear G4 K4
     refine c_cond hF rfl (fun hb => ?_) (fun hb => ?_)
     ·
      have H := iteT hb H
      rw [hb] at hF
      clear hb
      refine c_seq ?_
      refine reg_list ?_
      refine ls hF hW rfl ((y_assign hF rfl).q) (fun a w hF hW => ?_)
      refine ls_nil ?_
      refine c_then ?_
      refine wp_ret ?_
      refine r_then ?_
      refine r_block ?_
      refine r_then ?_
      refine r_then ?_
      refine r_block ?_
      refine r_then ?_
      have H := L3 _ H
      have H := L2 _ H
      have H := L1 _ H
      have H := Option.some.inj H
      subst H
      refine post1 (.inl rfl) hF hW rfl (rv_tmp hF rfl) ?_
      exact ⟨rfl, hW.done⟩
     ·
      have H := iteF (by rw [hb]; decide) H
      rw [hb] at hF
      clear hb
      refine wp_skip ?_
      refine c_then ?_
      refine c_seq ?_
      refine reg_list ?_
      refine ls hF hW rfl ((y_assign hF rfl).q) (fun a w hF hW => ?_)
      refine ls_nil ?_
      refine c_then ?_
      refine wp_block ?_
      refine c_loopW H (fun s a w => Fr 64 [] [(1, .pointer (some ⟨b1, 0, none⟩)), (2, .bool false), (3, .int .i64 x1), (4, .int .i64 s)] a ∧ Stw ⟨Y, [], w0⟩ [(b1, [.int .i64 p0.1, .int .i64 p0.2.1.1, .int .i64 p0.2.1.2.1, .int .i64 p0.2.1.2.2.1, .int .i64 p0.2.1.2.2.2, .int .i64 p0.2.2.1, .int .i64 p0.2.2.2.1, .int .i64 p0.2.2.2.2.1, .int .i64 p0.2.2.2.2.2])] [] w) ⟨hF.re ⟨rfl, rfl, rfl, rfl, trivial⟩, hW⟩ (fun s o a w H L5 hR => ?_)
      obtain ⟨x7, rfl⟩ : ∃ x, x = s := ⟨s, rfl⟩
      obtain ⟨hF, hW⟩ := hR
      have hF : Fr 64 [] [(1, .pointer (some ⟨b1, 0, none⟩)), (2, .bool false), (3, .int .i64 x1), (4, .int .i64 x7)] a := hF
      have hW : Stw ⟨Y, [], w0⟩ [(b1, [.int .i64 p0.1, .int .i64 p0.2.1.1, .int .i64 p0.2.1.2.1, .int .i64 p0.2.1.2.2.1, .int .i64 p0.2.1.2.2.2, .int .i64 p0.2.2.1, .int .i64 p0.2.2.2.1, .int .i64 p0.2.2.2.2.1, .int .i64 p0.2.2.2.2.2])] [] w := hW
      rw [r08_Right_l2] at H
      refine c_seq ?_
      refine c_seq ?_
      refine reg_list ?_
      refine ls hF hW rfl ((y_move hF rfl).q) (fun a w hF hW => ?_)
      refine ls hF hW rfl ((y_lss hF rfl rfl).q) (fun a w hF hW => ?_)
      refine ls_nil ?_
      refine c_then ?_
      refine c_cond hF rfl (fun hb => ?_) (fun hb => ?_)
      ·
       have H := iteT (of_decide_eq_true hb) H
       rw [hb] at hF
       clear hb
       refine wp_skip ?_
       refine c_then ?_
       refine c_seq ?_
       refine wp_block ?_
       refine c_seq ?_
       refine reg_quiet hW MO (by kernel_rfl) ?_
       refine qs hF rfl ((y_move hF rfl).q) (fun a hF => ?_)
       refine qs hF rfl ((y_fieldAddr u37_ rfl rfl rfl T35 hF rfl 1 rfl).q) (fun a hF => ?_)
       obtain ⟨x8, h5, H⟩ := bindE H
       refine qs hF rfl ((y_indexP (1 + (x1).toNat * 1) Ar35 hF rfl rfl rfl h5 rfl).q) (fun a hF => ?_)
       refine qs hF rfl ((y_load (v := Value.int .i64 x8) 0 hF rfl rfl T3 (rdv_dyn (base := 1) (m := 4) (l := [p0.2.1.1, p0.2.1.2.1, p0.2.1.2.2.1, p0.2.1.2.2.2]) (enc := Value.int .i64) rfl h5)).q) (fun a hF => ?_)
       refine qs hF rfl ((y_move hF rfl).q) (fun a hF => ?_)
       obtain ⟨x9, h6, H⟩ := bindE H
       refine qs hF rfl (y_call (v := Value.int .i64 x9) hF H61 rfl (fun w hW => r08_Bit_c any w x8 x7 _ h6)) (fun a hF => ?_)
       refine qs hF rfl ((y_move hF rfl).q) (fun a hF => ?_)
       refine qs hF rfl ((y_fieldAddr u37_ rfl rfl rfl T35 hF rfl 5 rfl).q) (fun a hF => ?_)
       obtain ⟨x10, h7, H⟩ := bindE H
       refine qs hF rfl ((y_indexP (5 + (x1).toNat * 1) Ar35 hF rfl rfl rfl h7 rfl).q) (fun a hF => ?_)
       refine qs hF rfl ((y_load (v := Value.int .i64 x10) 0 hF rfl rfl T3 (rdv_dyn (base := 5) (m := 4) (l := [p0.2.2.1, p0.2.2.2.1, p0.2.2.2.2.1, p0.2.2.2.2.2]) (enc := Value.int .i64) rfl h7)).q) (fun a hF => ?_)
       refine qs hF rfl ((y_move hF rfl).q) (fun a hF => ?_)
       obtain ⟨x11, h8, H⟩ := bindE H
       refine qs hF rfl (y_call (v := Value.int .i64 x11) hF H61 rfl (fun w hW => r08_Bit_c any w x10 x7 _ h8)) (fun a hF => ?_)
       refine qs hF rfl ((y_gtr hF rfl rfl).q) (fun a hF => ?_)
       refine quiet_end (fun w hW => ?_)
       refine c_then ?_
       refine c_cond hF rfl (fun hb => ?_) (fun hb => ?_)
       ·
        have H := iteT (of_decide_eq_true hb) H
        rw [hb] at hF
        clear hb
        refine c_seq ?_
        refine reg_list ?_
        refine ls hF hW rfl ((y_assign hF rfl).q) (fun a w hF hW => ?_)
        refine ls_nil ?_
        refine c_then ?_
        refine wp_ret ?_
        refine r_block ?_
        refine r_then ?_
        refine r_then ?_
        refine r_block ?_
        refine r_block ?_
        refine r_then ?_
        refine r_then ?_
        refine r_block ?_
        refine r_then ?_
        have H := L5 _ H
        have H := L3 _ H
        have H := L2 _ H
        have H := L1 _ H
        have H := Option.some.inj H
        subst H
        refine post1 (.inl rfl) hF hW rfl (rv_tmp hF rfl) ?_
        exact ⟨rfl, hW.done⟩
       ·
        have H := iteF (of_decide_eq_false hb) H
        rw [hb] at hF
        clear hb
        refine wp_skip ?_
        refine b_normal ?_
        refine c_then ?_
        refine reg_list ?_
        refine ls hF hW rfl ((y_move hF rfl).q) (fun a w hF hW => ?_)
        refine ls hF hW rfl ((y_add hF rfl rfl rfl).q) (fun a w hF hW => ?_)
        refine ls hF hW rfl ((y_assign hF rfl).q) (fun a w hF hW => ?_)
        refine ls_nil ?_
        refine c_then ?_
        exact ⟨_, H, hF.re ⟨rfl, rfl, rfl, rfl, trivial⟩, hW⟩
      ·
       have H := iteF (of_decide_eq_false hb) H
       rw [hb] at hF
       clear hb
       refine wp_exit ?_
       refine e_then ?_
       refine e_then ?_
       refine e_block ?_
       refine b_normal ?_
       refine c_then ?_
       have H := L5 _ H
       exact ⟨H, hF.re ⟨rfl, rfl, rfl, trivial⟩, hW⟩
    rintro a w ⟨hj, hF, hW⟩
    have H := K3 _ hj
    clear hj G3 K3 L3
    refine reg_list ?_
    refine ls hF hW rfl ((y_move hF rfl).q) (fun a w hF hW => ?_)
    refine ls hF hW rfl ((y_add hF rfl rfl rfl).q) (fun a w hF hW => ?_)
    refine ls hF hW rfl ((y_assign hF rfl).q) (fun a w hF hW => ?_)
    refine ls_nil ?_
    refine c_then ?_
    exact ⟨_, H, hF.re ⟨rfl, rfl, rfl, trivial⟩, hW⟩
   ·
    have H := iteF (of_decide_eq_false hb) H
    rw [hb] at hF
    clear hb
    refine wp_exit ?_
    refine e_then ?_
    refine e_then ?_
    refine e_block ?_
    refine c_then ?_
    have H := L2 _ H
    exact ⟨H, hF.re ⟨rfl, trivial⟩, hW⟩
  rintro a w ⟨hj, hF, hW⟩
  have H := K1 _ hj
  clear hj G1 K1 L1
  refine c_seq ?_
  refine reg_list ?_
  refine ls hF hW rfl ((y_assign hF rfl).q) (fun a w hF hW => ?_)
  refine ls_nil ?_
  refine c_then ?_
  refine wp_ret ?_
  have H := Option.some.inj H
  subst H
  refine post1 (.inl rfl) hF hW rfl (rv_tmp hF rfl) ?_
  exact ⟨rfl, hW.done⟩

theorem H42 : Has Try.prog 42 := ⟨fun args w => run_callFunc_body Try.func42 rfl (by decide) args w⟩
def r09_One (p0 : Int × Int × Int) (p1 : Int) : Bool := (if p0.1 = 1 then (decide (0 ≤ p0.2.1) && (decide (p0.2.1 ≤ 3) && (decide (0 ≤ p0.2.2) && decide (p0.2.2 ≤ (r07_Top p0.2.1))))) else (if p0.1 = 3 then (decide (p0.2.1 = 0) && decide (p0.2.2 = 0)) else (decide (p0.1 = 2) && (decide (p0.2.1 = 0) && (decide (0 ≤ p0.2.2) && decide (p0.2.2 < p1))))))
theorem r09_One_c (Y : Nat → Prop) (w0 : World)  (p0 : Int × Int × Int) (p1 : Int) (r : Bool) (H : r09_One p0 p1 = r)  :
    Calls Try.prog 62 #[.agg #[.int .i64 p0.1, .int .i64 p0.2.1, .int .i64 p0.2.2], .int .i64 p1] w0 fun e w' => e = .returned (.bool r) ∧ Below w0.heap.size w0 w' := by
 refine enter Try.func62 rfl Try.ntmps62 rfl (fun a hF => ?_)
 have hW := Stw.start Y w0
 unfold r09_One at H
 refine c_seq ?_
 refine reg_list ?_
 refine l_box (cs := [.int .i64 p0.1, .int .i64 p0.2.1, .int .i64 p0.2.2]) hF hW rfl rfl rfl (fun b1 a w hF hW => ?_)
 refine ls hF hW rfl ((y_assign hF rfl).q) (fun a w hF hW => ?_)
 refine ls_nil ?_
 refine c_then ?_
 refine c_seq ?_
 refine c_seq ?_
 refine reg_list ?_
 refine ls hF hW rfl ((y_fieldAddr u77_ rfl rfl rfl T3 hF rfl 0 rfl).q) (fun a w hF hW => ?_)
 refine ls hF hW rfl ((y_load (v := Value.int .i64 p0.1) 0 hF rfl rfl T3 rfl).q) (fun a w hF hW => ?_)
 refine ls hF hW rfl ((y_eql hF rfl rfl).q) (fun a w hF hW => ?_)
 refine ls_nil ?_
 refine c_then ?_
 refine c_cond hF rfl (fun hb => ?_) (fun hb => ?_)
 ·
  have H := iteT (of_decide_eq_true hb) H
  rw [hb] at hF
  clear hb
  refine c_seqJ (fun a w => Fr 59 [] [(1, .int .i64 p1), (2, .pointer (some ⟨b1, 0, none⟩)), (4, .bool (decide (0 ≤ p0.2.1) && (decide (p0.2.1 ≤ 3) && (decide (0 ≤ p0.2.2) && decide (p0.2.2 ≤ (r07_Top p0.2.1))))))] a ∧ Stw ⟨Y, [], w0⟩ [(b1, [.int .i64 p0.1, .int .i64 p0.2.1, .int .i64 p0.2.2])] [] w) ?_ ?_
  ·
   refine reg_quiet hW MO (by kernel_rfl) ?_
   refine qs hF rfl ((y_fieldAddr u77_ rfl rfl rfl T3 hF rfl 1 rfl).q) (fun a hF => ?_)
   refine qs hF rfl ((y_load (v := Value.int .i64 p0.2.1) 0 hF rfl rfl T3 rfl).q) (fun a hF => ?_)
   refine qs hF rfl ((y_geq hF rfl rfl).q) (fun a hF => ?_)
   refine qs hF rfl ((y_move hF rfl).q) (fun a hF => ?_)
   rcases Bool.eq_false_or_eq_true (decide (0 ≤ p0.2.1)) with hb0 | hb0
   ·
    rw [hb0] at hF
    refine qs_w hF (wanted_y hF rfl rfl rfl rfl) rfl (Nat.le_of_ble_eq_true rfl) ((y_fieldAddr u77_ rfl rfl rfl T3 hF rfl 1 rfl).q) (fun a hF => ?_)
    refine qs_w hF (wanted_y hF rfl rfl rfl rfl) rfl (Nat.le_of_ble_eq_true rfl) ((y_load (v := Value.int .i64 p0.2.1) 0 hF rfl rfl T3 rfl).q) (fun a hF => ?_)
    refine qs_w hF (wanted_y hF rfl rfl rfl rfl) rfl (Nat.le_of_ble_eq_true rfl) ((y_leq hF rfl rfl).q) (fun a hF => ?_)
    refine qs hF rfl ((y_pick_t hF rfl rfl rfl).q) (fun a hF => ?_)
    refine qs hF rfl ((y_move hF rfl).q) (fun a hF => ?_)
    rcases Bool.eq_false_or_eq_true (decide (p0.2.1 ≤ 3)) with hb1 | hb1
    ·
     rw [hb1] at hF
     refine qs_w hF (wanted_y hF rfl rfl rfl rfl) rfl (Nat.le_of_ble_eq_true rfl) ((y_fieldAddr u77_ rfl rfl rfl T3 hF rfl 2 rfl).q) (fun a hF => ?_)
     refine qs_w hF (wanted_y hF rfl rfl rfl rfl) rfl (Nat.le_of_ble_eq_true rfl) ((y_load (v := Value.int .i64 p0.2.2) 0 hF rfl rfl T3 rfl).q) (fun a hF => ?_)
     refine qs_w hF (wanted_y hF rfl rfl rfl rfl) rfl (Nat.le_of_ble_eq_true rfl) ((y_geq hF rfl rfl).q) (fun a hF => ?_)
     refine qs hF rfl ((y_pick_t hF rfl rfl rfl).q) (fun a hF => ?_)
     refine qs hF rfl ((y_move hF rfl).q) (fun a hF => ?_)
     rcases Bool.eq_false_or_eq_true (decide (0 ≤ p0.2.2)) with hb2 | hb2
     ·
      rw [hb2] at hF
      refine qs_w hF (wanted_y hF rfl rfl rfl rfl) rfl (Nat.le_of_ble_eq_true rfl) ((y_fieldAddr u77_ rfl rfl rfl T3 hF rfl 2 rfl).q) (fun a hF => ?_)
      refine qs_w hF (wanted_y hF rfl rfl rfl rfl) rfl (Nat.le_of_ble_eq_true rfl) ((y_load (v := Value.int .i64 p0.2.2) 0 hF rfl rfl T3 rfl).q) (fun a hF => ?_)
      refine qs_w hF (wanted_y hF rfl rfl rfl rfl) rfl (Nat.le_of_ble_eq_true rfl) ((y_fieldAddr u77_ rfl rfl rfl T3 hF rfl 1 rfl).q) (fun a hF => ?_)
      refine qs_w hF (wanted_y hF rfl rfl rfl rfl) rfl (Nat.le_of_ble_eq_true rfl) ((y_load (v := Value.int .i64 p0.2.1) 0 hF rfl rfl T3 rfl).q) (fun a hF => ?_)
      refine qs_w hF (wanted_y hF rfl rfl rfl rfl) rfl (Nat.le_of_ble_eq_true rfl) (y_call (v := Value.int .i64 (r07_Top p0.2.1)) hF H60 rfl (fun w hW => r07_Top_c any w p0.2.1 _ rfl)) (fun a hF => ?_)
      refine qs_w hF (wanted_y hF rfl rfl rfl rfl) rfl (Nat.le_of_ble_eq_true rfl) ((y_leq hF rfl rfl).q) (fun a hF => ?_)
      refine qs hF rfl ((y_pick_t hF rfl rfl rfl).q) (fun a hF => ?_)
      refine qs hF rfl ((y_assign hF rfl).q) (fun a hF => ?_)
      refine quiet_end (fun w hW => ?_)
      refine c_then ?_
      exact ⟨hF.re ⟨rfl, rfl, (by show some (Value.bool (decide (p0.2.2 ≤ (r07_Top p0.2.1)))) = some (Value.bool (decide (0 ≤ p0.2.1) && (decide (p0.2.1 ≤ 3) && (decide (0 ≤ p0.2.2) && decide (p0.2.2 ≤ (r07_Top p0.2.1)))))); try rw [hb0]; try rw [hb1]; try rw [hb2]; all_goals simp only [Bool.not_true, Bool.not_false, Bool.true_and, Bool.false_and, Bool.true_or, Bool.false_or, Bool.and_true, Bool.or_false, cond_true, cond_false]), trivial⟩, hW⟩
     ·
      rw [hb2] at hF
      refine qs_skip hF (wanted_n hF rfl rfl rfl rfl rfl) rfl rfl (fun a hF => ?_)
      refine qs_skip hF (wanted_n hF rfl rfl rfl rfl rfl) rfl rfl (fun a hF => ?_)
      refine qs_skip hF (wanted_n hF rfl rfl rfl rfl rfl) rfl rfl (fun a hF => ?_)
      refine qs_skip hF (wanted_n hF rfl rfl rfl rfl rfl) rfl rfl (fun a hF => ?_)
      refine qs_skip hF (wanted_n hF rfl rfl rfl rfl rfl) rfl rfl (fun a hF => ?_)
      refine qs_skip hF (wanted_n hF rfl rfl rfl rfl rfl) rfl rfl (fun a hF => ?_)
      refine qs hF rfl ((y_pick_f hF rfl rfl rfl).q) (fun a hF => ?_)
      refine qs hF rfl ((y_assign hF rfl).q) (fun a hF => ?_)
      refine quiet_end (fun w hW => ?_)
      refine c_then ?_
      exact ⟨hF.re ⟨rfl, rfl, (by show some (Value.bool false) = some (Value.bool (decide (0 ≤ p0.2.1) && (decide (p0.2.1 ≤ 3) && (decide (0 ≤ p0.2.2) && decide (p0.2.2 ≤ (r07_Top p0.2.1)))))); try rw [hb0]; try rw [hb1]; try rw [hb2]; all_goals simp only [Bool.not_true, Bool.not_false, Bool.true_and, Bool.false_and, Bool.true_or, Bool.false_or, Bool.and_true, Bool.or_false, cond_true, cond_false]), trivial⟩, hW⟩
    ·
     rw [hb1] at hF
     refine qs_skip hF (wanted_n hF rfl rfl rfl rfl rfl) rfl rfl (fun a hF => ?_)
     refine qs_skip hF (wanted_n hF rfl rfl rfl rfl rfl) rfl rfl (fun a hF => ?_)
     refine qs_skip hF (wanted_n hF rfl rfl rfl rfl rfl) rfl rfl (fun a hF => ?_)
     refine qs hF rfl ((y_pick_f hF rfl rfl rfl).q) (fun a hF => ?_)
     refine qs hF rfl ((y_move hF rfl).q) (fun a hF => ?_)
     refine qs_skip hF (wanted_n hF rfl rfl rfl rfl rfl) rfl rfl (fun a hF => ?_)
     refine qs_skip hF (wanted_n hF rfl rfl rfl rfl rfl) rfl rfl (fun a hF => ?_)
     refine qs_skip hF (wanted_n hF rfl rfl rfl rfl rfl) rfl rfl (fun a hF => ?_)
     refine qs_skip hF (wanted_n hF rfl rfl rfl rfl rfl) rfl rfl (fun a hF => ?_)
     refine qs_skip hF (wanted_n hF rfl rfl rfl rfl rfl) rfl rfl (fun a hF => ?_)
     refine qs_skip hF (wanted_n hF rfl rfl rfl rfl rfl) rfl rfl (fun a hF => ?_)
     refine qs hF rfl ((y_pick_f hF rfl rfl rfl).q) (fun a hF => ?_)
     refine qs hF rfl ((y_assign hF rfl).q) (fun a hF => ?_)
     refine quiet_end (fun w hW => ?_)
     refine c_then ?_
     exact ⟨hF.re ⟨rfl, rfl, (by show some (Value.bool false) = some (Value.bool (decide (0 ≤ p0.2.1) && (decide (p0.2.1 ≤ 3) && (decide (0 ≤ p0.2.2) && decide (p0.2.2 ≤ (r07_Top p0.2.1)))))); try rw [hb0]; try rw [hb1]; all_goals simp only [Bool.not_true, Bool.not_false, Bool.true_and, Bool.false_and, Bool.true_or, Bool.false_or, Bool.and_true, Bool.or_false, cond_true, cond_false]), trivial⟩, hW⟩
   ·
    rw [hb0] at hF
    refine qs_skip hF (wanted_n hF rfl rfl rfl rfl rfl) rfl rfl (fun a hF => ?_)
    refine qs_skip hF (wanted_n hF rfl rfl rfl rfl rfl) rfl rfl (fun a hF => ?_)
    refine qs_skip hF (wanted_n hF rfl rfl rfl rfl rfl) rfl rfl (fun a hF => ?_)
    refine qs hF rfl ((y_pick_f hF rfl rfl rfl).q) (fun a hF => ?_)
    refine qs hF rfl ((y_move hF rfl).q) (fun a hF => ?_)
    refine qs_skip hF (wanted_n hF rfl rfl rfl rfl rfl) rfl rfl (fun a hF => ?_)
    refine qs_skip hF (wanted_n hF rfl rfl rfl rfl rfl) rfl rfl (fun a hF => ?_)
    refine qs_skip hF (wanted_n hF rfl rfl rfl rfl rfl) rfl rfl (fun a hF => ?_)
    refine qs hF rfl ((y_pick_f hF rfl rfl rfl).q) (fun a hF => ?_)
    refine qs hF rfl ((y_move hF rfl).q) (fun a hF => ?_)
    refine qs_skip hF (wanted_n hF rfl rfl rfl rfl rfl) rfl rfl (fun a hF => ?_)
    refine qs_skip hF (wanted_n hF rfl rfl rfl rfl rfl) rfl rfl (fun a hF => ?_)
    refine qs_skip hF (wanted_n hF rfl rfl rfl rfl rfl) rfl rfl (fun a hF => ?_)
    refine qs_skip hF (wanted_n hF rfl rfl rfl rfl rfl) rfl rfl (fun a hF => ?_)
    refine qs_skip hF (wanted_n hF rfl rfl rfl rfl rfl) rfl rfl (fun a hF => ?_)
    refine qs_skip hF (wanted_n hF rfl rfl rfl rfl rfl) rfl rfl (fun a hF => ?_)
    refine qs hF rfl ((y_pick_f hF rfl rfl rfl).q) (fun a hF => ?_)
    refine qs hF rfl ((y_assign hF rfl).q) (fun a hF => ?_)
    refine quiet_end (fun w hW => ?_)
    refine c_then ?_
    exact ⟨hF.re ⟨rfl, rfl, (by show some (Value.bool false) = some (Value.bool (decide (0 ≤ p0.2.1) && (decide (p0.2.1 ≤ 3) && (decide (0 ≤ p0.2.2) && decide (p0.2.2 ≤ (r07_Top p0.2.1)))))); try rw [hb0]; all_goals simp only [Bool.not_true, Bool.not_false, Bool.true_and, Bool.false_and, Bool.true_or, Bool.false_or, Bool.and_true, Bool.or_false, cond_true, cond_false]), trivial⟩, hW⟩
  rintro a w ⟨hF, hW⟩
  refine wp_ret ?_
  refine r_then ?_
  subst H
  refine post1 (.inl rfl) hF hW rfl (rv_tmp hF rfl) ?_
  exact ⟨rfl, hW.done⟩
 ·
  have H := iteF (of_decide_eq_false hb) H
  rw [hb] at hF
  clear hb
  refine wp_skip ?_
  refine c_then ?_
  refine c_seq ?_
  refine c_seq ?_
  refine reg_list ?_
  refine ls hF hW rfl ((y_fieldAddr u77_ rfl rfl rfl T3 hF rfl 0 rfl).q) (fun a w hF hW => ?_)
  refine ls hF hW rfl ((y_load (v := Value.int .i64 p0.1) 0 hF rfl rfl T3 rfl).q) (fun a w hF hW => ?_)
  refine ls hF hW rfl ((y_eql hF rfl rfl).q) (fun a w hF hW => ?_)
  refine ls_nil ?_
  refine c_then ?_
  refine c_cond hF rfl (fun hb => ?_) (fun hb => ?_)
  ·
   have H := iteT (of_decide_eq_true hb) H
   rw [hb] at hF
   clear hb
   refine c_seqJ (fun a w => Fr 59 [] [(1, .int .i64 p1), (2, .pointer (some ⟨b1, 0, none⟩)), (4, .bool (decide (p0.2.1 = 0) && decide (p0.2.2 = 0)))] a ∧ Stw ⟨Y, [], w0⟩ [(b1, [.int .i64 p0.1, .int .i64 p0.2.1, .int .i64 p0.2.2])] [] w) ?_ ?_
   ·
    refine reg_list ?_
    refine ls hF hW rfl ((y_fieldAddr u77_ rfl rfl rfl T3 hF rfl 1 rfl).q) (fun a w hF hW => ?_)
    refine ls hF hW rfl ((y_load (v := Value.int .i64 p0.2.1) 0 hF rfl rfl T3 rfl).q) (fun a w hF hW => ?_)
    refine ls hF hW rfl ((y_eql hF rfl rfl).q) (fun a w hF hW => ?_)
    refine ls hF hW rfl ((y_move hF rfl).q) (fun a w hF hW => ?_)
    rcases Bool.eq_false_or_eq_true (decide (p0.2.1 = 0)) with hb0 | hb0
    ·
     rw [hb0] at hF
     refine ls_w hF hW (wanted_y hF rfl rfl rfl rfl) rfl (Nat.le_of_ble_eq_true rfl) ((y_fieldAddr u77_ rfl rfl rfl T3 hF rfl 2 rfl).q) (fun a w hF hW => ?_)
     refine ls_w hF hW (wanted_y hF rfl rfl rfl rfl) rfl (Nat.le_of_ble_eq_true rfl) ((y_load (v := Value.int .i64 p0.2.2) 0 hF rfl rfl T3 rfl).q) (fun a w hF hW => ?_)
     refine ls_w hF hW (wanted_y hF rfl rfl rfl rfl) rfl (Nat.le_of_ble_eq_true rfl) ((y_eql hF rfl rfl).q) (fun a w hF hW => ?_)
     refine ls hF hW rfl ((y_pick_t hF rfl rfl rfl).q) (fun a w hF hW => ?_)
     refine ls hF hW rfl ((y_assign hF rfl).q) (fun a w hF hW => ?_)
     refine ls_nil ?_
     refine c_then ?_
     exact ⟨hF.re ⟨rfl, rfl, (by show some (Value.bool (decide (p0.2.2 = 0))) = some (Value.bool (decide (p0.2.1 = 0) && decide (p0.2.2 = 0))); try rw [hb0]; all_goals simp only [Bool.not_true, Bool.not_false, Bool.true_and, Bool.false_and, Bool.true_or, Bool.false_or, Bool.and_true, Bool.or_false, cond_true, cond_false]), trivial⟩, hW⟩
    ·
     rw [hb0] at hF
     refine lsn hF rfl rfl rfl rfl rfl rfl rfl (fun a hF => ?_)
     refine lsn hF rfl rfl rfl rfl rfl rfl rfl (fun a hF => ?_)
     refine lsn hF rfl rfl rfl rfl rfl rfl rfl (fun a hF => ?_)
     refine ls hF hW rfl ((y_pick_f hF rfl rfl rfl).q) (fun a w hF hW => ?_)
     refine ls hF hW rfl ((y_assign hF rfl).q) (fun a w hF hW => ?_)
     refine ls_nil ?_
     refine c_then ?_
     exact ⟨hF.re ⟨rfl, rfl, (by show some (Value.bool false) = some (Value.bool (decide (p0.2.1 = 0) && decide (p0.2.2 = 0))); try rw [hb0]; all_goals simp only [Bool.not_true, Bool.not_false, Bool.true_and, Bool.false_and, Bool.true_or, Bool.false_or, Bool.and_true, Bool.or_false, cond_true, cond_false]), trivial⟩, hW⟩
   rintro a w ⟨hF, hW⟩
   refine wp_ret ?_
   refine r_then ?_
   subst H
   refine post1 (.inl rfl) hF hW rfl (rv_tmp hF rfl) ?_
   exact ⟨rfl, hW.done⟩
  ·
   have H := iteF (of_decide_eq_false hb) H
   rw [hb] at hF
   clear hb
   refine wp_skip ?_
   refine c_then ?_
   refine c_seqJ (fun a w => Fr 59 [] [(4, .bool (decide (p0.1 = 2) && (decide (p0.2.1 = 0) && (decide (0 ≤ p0.2.2) && decide (p0.2.2 < p1)))))] a ∧ Stw ⟨Y, [], w0⟩ [(b1, [.int .i64 p0.1, .int .i64 p0.2.1, .int .i64 p0.2.2])] [] w) ?_ ?_
   ·
    refine reg_list ?_
    refine ls hF hW rfl ((y_fieldAddr u77_ rfl rfl rfl T3 hF rfl 0 rfl).q) (fun a w hF hW => ?_)
    refine ls hF hW rfl ((y_load (v := Value.int .i64 p0.1) 0 hF rfl rfl T3 rfl).q) (fun a w hF hW => ?_)
    refine ls hF hW rfl ((y_eql hF rfl rfl).q) (fun a w hF hW => ?_)
    refine ls hF hW rfl ((y_move hF rfl).q) (fun a w hF hW => ?_)
    rcases Bool.eq_false_or_eq_true (decide (p0.1 = 2)) with hb0 | hb0
    ·
     rw [hb0] at hF
     refine ls_w hF hW (wanted_y hF rfl rfl rfl rfl) rfl (Nat.le_of_ble_eq_true rfl) ((y_fieldAddr u77_ rfl rfl rfl T3 hF rfl 1 rfl).q) (fun a w hF hW => ?_)
     refine ls_w hF hW (wanted_y hF rfl rfl rfl rfl) rfl (Nat.le_of_ble_eq_true rfl) ((y_load (v := Value.int .i64 p0.2.1) 0 hF rfl rfl T3 rfl).q) (fun a w hF hW => ?_)
     refine ls_w hF hW (wanted_y hF rfl rfl rfl rfl) rfl (Nat.le_of_ble_eq_true rfl) ((y_eql hF rfl rfl).q) (fun a w hF hW => ?_)
     refine ls hF hW rfl ((y_pick_t hF rfl rfl rfl).q) (fun a w hF hW => ?_)
     refine ls hF hW rfl ((y_move hF rfl).q) (fun a w hF hW => ?_)
     rcases Bool.eq_false_or_eq_true (decide (p0.2.1 = 0)) with hb1 | hb1
     ·
      rw [hb1] at hF
      refine ls_w hF hW (wanted_y hF rfl rfl rfl rfl) rfl (Nat.le_of_ble_eq_true rfl) ((y_fieldAddr u77_ rfl rfl rfl T3 hF rfl 2 rfl).q) (fun a w hF hW => ?_)
      refine ls_w hF hW (wanted_y hF rfl rfl rfl rfl) rfl (Nat.le_of_ble_eq_true rfl) ((y_load (v := Value.int .i64 p0.2.2) 0 hF rfl rfl T3 rfl).q) (fun a w hF hW => ?_)
      refine ls_w hF hW (wanted_y hF rfl rfl rfl rfl) rfl (Nat.le_of_ble_eq_true rfl) ((y_geq hF rfl rfl).q) (fun a w hF hW => ?_)
      refine ls hF hW rfl ((y_pick_t hF rfl rfl rfl).q) (fun a w hF hW => ?_)
      refine ls hF hW rfl ((y_move hF rfl).q) (fun a w hF hW => ?_)
      rcases Bool.eq_false_or_eq_true (decide (0 ≤ p0.2.2)) with hb2 | hb2
      ·
       rw [hb2] at hF
       refine ls_w hF hW (wanted_y hF rfl rfl rfl rfl) rfl (Nat.le_of_ble_eq_true rfl) ((y_fieldAddr u77_ rfl rfl rfl T3 hF rfl 2 rfl).q) (fun a w hF hW => ?_)
       refine ls_w hF hW (wanted_y hF rfl rfl rfl rfl) rfl (Nat.le_of_ble_eq_true rfl) ((y_load (v := Value.int .i64 p0.2.2) 0 hF rfl rfl T3 rfl).q) (fun a w hF hW => ?_)
       refine ls_w hF hW (wanted_y hF rfl rfl rfl rfl) rfl (Nat.le_of_ble_eq_true rfl) ((y_move hF rfl).q) (fun a w hF hW => ?_)
       refine ls_w hF hW (wanted_y hF rfl rfl rfl rfl) rfl (Nat.le_of_ble_eq_true rfl) ((y_lss hF rfl rfl).q) (fun a w hF hW => ?_)
       refine ls hF hW rfl ((y_pick_t hF rfl rfl rfl).q) (fun a w hF hW => ?_)
       refine ls hF hW rfl ((y_assign hF rfl).q) (fun a w hF hW => ?_)
       refine ls_nil ?_
       refine c_then ?_
       exact ⟨hF.re ⟨(by show some (Value.bool (decide (p0.2.2 < p1))) = some (Value.bool (decide (p0.1 = 2) && (decide (p0.2.1 = 0) && (decide (0 ≤ p0.2.2) && decide (p0.2.2 < p1))))); try rw [hb1]; try rw [hb2]; try rw [hb0]; all_goals simp only [Bool.not_true, Bool.not_false, Bool.true_and, Bool.false_and, Bool.true_or, Bool.false_or, Bool.and_true, Bool.or_false, cond_true, cond_false]), trivial⟩, hW⟩
      ·
       rw [hb2] at hF
       refine lsn hF rfl rfl rfl rfl rfl rfl rfl (fun a hF => ?_)
       refine lsn hF rfl rfl rfl rfl rfl rfl rfl (fun a hF => ?_)
       refine lsn hF rfl rfl rfl rfl rfl rfl rfl (fun a hF => ?_)
       refine lsn hF rfl rfl rfl rfl rfl rfl rfl (fun a hF => ?_)
       refine ls hF hW rfl ((y_pick_f hF rfl rfl rfl).q) (fun a w hF hW => ?_)
       refine ls hF hW rfl ((y_assign hF rfl).q) (fun a w hF hW => ?_)
       refine ls_nil ?_
       refine c_then ?_
       exact ⟨hF.re ⟨(by show some (Value.bool false) = some (Value.bool (decide (p0.1 = 2) && (decide (p0.2.1 = 0) && (decide (0 ≤ p0.2.2) && decide (p0.2.2 < p1))))); try rw [hb1]; try rw [hb2]; try rw [hb0]; all_goals simp only [Bool.not_true, Bool.not_false, Bool.true_and, Bool.false_and, Bool.true_or, Bool.false_or, Bool.and_true, Bool.or_false, cond_true, cond_false]), trivial⟩, hW⟩
     ·
      rw [hb1] at hF
      refine lsn hF rfl rfl rfl rfl rfl rfl rfl (fun a hF => ?_)
      refine lsn hF rfl rfl rfl rfl rfl rfl rfl (fun a hF => ?_)
      refine lsn hF rfl rfl rfl rfl rfl rfl rfl (fun a hF => ?_)
      refine ls hF hW rfl ((y_pick_f hF rfl rfl rfl).q) (fun a w hF hW => ?_)
      refine ls hF hW rfl ((y_move hF rfl).q) (fun a w hF hW => ?_)
      refine lsn hF rfl rfl rfl rfl rfl rfl rfl (fun a hF => ?_)
      refine lsn hF rfl rfl rfl rfl rfl rfl rfl (fun a hF => ?_)
      refine lsn hF rfl rfl rfl rfl rfl rfl rfl (fun a hF => ?_)
      refine lsn hF rfl rfl rfl rfl rfl rfl rfl (fun a hF => ?_)
      refine ls hF hW rfl ((y_pick_f hF rfl rfl rfl).q) (fun a w hF hW => ?_)
      refine ls hF hW rfl ((y_assign hF rfl).q) (fun a w hF hW => ?_)
      refine ls_nil ?_
      refine c_then ?_
      exact ⟨hF.re ⟨(by show some (Value.bool false) = some (Value.bool (decide (p0.1 = 2) && (decide (p0.2.1 = 0) && (decide (0 ≤ p0.2.2) && decide (p0.2.2 < p1))))); try rw [hb1]; try rw [hb0]; all_goals simp only [Bool.not_true, Bool.not_false, Bool.true_and, Bool.false_and, Bool.true_or, Bool.false_or, Bool.and_true, Bool.or_false, cond_true, cond_false]), trivial⟩, hW⟩
    ·
     rw [hb0] at hF
     refine lsn hF rfl rfl rfl rfl rfl rfl rfl (fun a hF => ?_)
     refine lsn hF rfl rfl rfl rfl rfl rfl rfl (fun a hF => ?_)
     refine lsn hF rfl rfl rfl rfl rfl rfl rfl (fun a hF => ?_)
     refine ls hF hW rfl ((y_pick_f hF rfl rfl rfl).q) (fun a w hF hW => ?_)
     refine ls hF hW rfl ((y_move hF rfl).q) (fun a w hF hW => ?_)
     refine lsn hF rfl rfl rfl rfl rfl rfl rfl (fun a hF => ?_)
     refine lsn hF rfl rfl rfl rfl rfl rfl rfl (fun a hF => ?_)
     refine lsn hF rfl rfl rfl rfl rfl rfl rfl (fun a hF => ?_)
     refine ls hF hW rfl ((y_pick_f hF rfl rfl rfl).q) (fun a w hF hW => ?_)
     refine ls hF hW rfl ((y_move hF rfl).q) (fun a w hF hW => ?_)
     refine lsn hF rfl rfl rfl rfl rfl rfl rfl (fun a hF => ?_)
     refine lsn hF rfl rfl rfl rfl rfl rfl rfl (fun a hF => ?_)
     refine lsn hF rfl rfl rfl rfl rfl rfl rfl (fun a hF => ?_)
     refine lsn hF rfl rfl rfl rfl rfl rfl rfl (fun a hF => ?_)
     refine ls hF hW rfl ((y_pick_f hF rfl rfl rfl).q) (fun a w hF hW => ?_)
     refine ls hF hW rfl ((y_assign hF rfl).q) (fun a w hF hW => ?_)
     refine ls_nil ?_
     refine c_then ?_
     exact ⟨hF.re ⟨(by show some (Value.bool false) = some (Value.bool (decide (p0.1 = 2) && (decide (p0.2.1 = 0) && (decide (0 ≤ p0.2.2) && decide (p0.2.2 < p1))))); try rw [hb0]; all_goals simp only [Bool.not_true, Bool.not_false, Bool.true_and, Bool.false_and, Bool.true_or, Bool.false_or, Bool.and_true, Bool.or_false, cond_true, cond_false]), trivial⟩, hW⟩
   rintro a w ⟨hF, hW⟩
   refine wp_ret ?_
   subst H
   refine post1 (.inl rfl) hF hW rfl (rv_tmp hF rfl) ?_
   exact ⟨rfl, hW.done⟩

theorem H62 : Has Try.prog 62 := ⟨fun args w => run_callFunc_body Try.func62 rfl (by decide) args w⟩
noncomputable def r09_Right_l1 (p0 : List (Int × Int × Int)) (p1 : Int) : Int → Option (Int ⊕ (Unit ⊕ Bool))
  | x1 => (if x1 < (p0.length : Int) then (ix p0 x1).bind fun x2 => (if (!(r09_One x2 p1)) = true then some (.inr (.inr false)) else some (.inl (w64 (x1 + 1)))) else some (.inr (.inl ())))
noncomputable def r09_Right (p0 : List (Int × Int × Int)) (p1 : Int) : Option Bool := orR (loopW (r09_Right_l1 p0 p1) 0) fun _ => some (decide ((p0.length : Int) ≤ 16))
theorem r09_Right_c (Y : Nat → Prop) (w0 : World) (v1 : Value) (p0 : List (Int × Int × Int)) (p1 : Int) (r : Bool) (H : r09_Right p0 p1 = some r) (h_v1 : Sl w0 (NX []) R77 v1 p0) :
    Calls Try.prog 43 #[v1, .int .i64 p1] w0 fun e w' => e = .returned (.bool r) ∧ Below w0.heap.size w0 w' := by
 refine enter Try.func43 rfl Try.ntmps43 rfl (fun a hF => ?_)
 have hW := Stw.start Y w0
 unfold r09_Right at H
 refine c_seq ?_
 refine reg_list ?_
 refine ls hF hW rfl ((y_assign hF rfl).q) (fun a w hF hW => ?_)
 refine ls_nil ?_
 refine c_then ?_
 obtain ⟨o1, G1, K1, L1⟩ := orE H
 refine c_seqJ (fun a w => some (Sum.inl ()) = some o1 ∧ Fr 22 [] [(0, v1), (4, .bool false)] a ∧ Stw ⟨Y, [], w0⟩ [] [] w) ?_ ?_
 ·
  have H := G1
  clear G1 K1
  refine c_seq ?_
  refine reg_list ?_
  refine ls hF hW rfl ((y_assign hF rfl).q) (fun a w hF hW => ?_)
  refine ls_nil ?_
  refine c_then ?_
  refine wp_block ?_
  refine c_loopW H (fun s a w => Fr 22 [] [(0, v1), (1, .int .i64 p1), (4, .bool false), (5, .int .i64 s)] a ∧ Stw ⟨Y, [], w0⟩ [] [] w) ⟨hF.re ⟨rfl, rfl, rfl, rfl, trivial⟩, hW⟩ (fun s o a w H L2 hR => ?_)
  obtain ⟨x1, rfl⟩ : ∃ x, x = s := ⟨s, rfl⟩
  obtain ⟨hF, hW⟩ := hR
  have hF : Fr 22 [] [(0, v1), (1, .int .i64 p1), (4, .bool false), (5, .int .i64 x1)] a := hF
  have hW : Stw ⟨Y, [], w0⟩ [] [] w := hW
  rw [r09_Right_l1] at H
  refine c_seq ?_
  refine c_seq ?_
  refine reg_list ?_
  refine ls hF hW rfl ((y_move hF rfl).q) (fun a w hF hW => ?_)
  refine ls hF hW rfl ((y_move hF rfl).q) (fun a w hF hW => ?_)
  refine ls hF hW rfl ((y_len (r := R77) (l := p0) u38_ rfl hF rfl (rdc_ro h_v1)).q) (fun a w hF hW => ?_)
  refine ls hF hW rfl ((y_lss hF rfl rfl).q) (fun a w hF hW => ?_)
  refine ls_nil ?_
  refine c_then ?_
  refine c_cond hF rfl (fun hb => ?_) (fun hb => ?_)
  ·
   have H := iteT (of_decide_eq_true hb) H
   rw [hb] at hF
   clear hb
   refine wp_skip ?_
   refine c_then ?_
   refine c_seq ?_
   refine wp_block ?_
   refine c_seq ?_
   refine reg_list ?_
   refine ls hF hW rfl ((y_move hF rfl).q) (fun a w hF hW => ?_)
   refine ls hF hW rfl ((y_move hF rfl).q) (fun a w hF hW => ?_)
   obtain ⟨x2, h1, H⟩ := bindE H
   refine ls hF hW rfl ((y_index (r := R77) L38 hF rfl rfl (rdc_ro h_v1) h1).q) (fun a w hF hW => ?_)
   refine ls hF hW rfl ((y_load_el (y := Value.agg #[.int .i64 x2.1, .int .i64 x2.2.1, .int .i64 x2.2.2]) (j := 0) (i := x1) hF rfl rfl (rdc_ro h_v1) h1 F77.to T77 rfl).q) (fun a w hF hW => ?_)
   refine ls hF hW rfl ((y_move hF rfl).q) (fun a w hF hW => ?_)
   refine ls hF hW rfl (y_call (v := Value.bool (r09_One x2 p1)) hF H62 rfl (fun w hW => r09_One_c any w x2 p1 _ rfl)) (fun a w hF hW => ?_)
   refine ls hF hW rfl ((y_not hF rfl).q) (fun a w hF hW => ?_)
   refine ls_nil ?_
   refine c_then ?_
   refine c_cond hF rfl (fun hb => ?_) (fun hb => ?_)
   ·
    have H := iteT hb H
    rw [hb] at hF
    clear hb
    refine c_seq ?_
    refine reg_list ?_
    refine ls hF hW rfl ((y_assign hF rfl).q) (fun a w hF hW => ?_)
    refine ls_nil ?_
    refine c_then ?_
    refine wp_ret ?_
    refine r_block ?_
    refine r_then ?_
    refine r_then ?_
    refine r_block ?_
    refine r_then ?_
    have H := L2 _ H
    have H := L1 _ H
    have H := Option.some.inj H
    subst H
    refine post1 (.inl rfl) hF hW rfl (rv_tmp hF rfl) ?_
    exact ⟨rfl, hW.done⟩
   ·
    have H := iteF (by rw [hb]; decide) H
    rw [hb] at hF
    clear hb
    refine wp_skip ?_
    refine b_normal ?_
    refine c_then ?_
    refine reg_list ?_
    refine ls hF hW rfl ((y_move hF rfl).q) (fun a w hF hW => ?_)
    refine ls hF hW rfl ((y_add hF rfl rfl rfl).q) (fun a w hF hW => ?_)
    refine ls hF hW rfl ((y_assign hF rfl).q) (fun a w hF hW => ?_)
    refine ls_nil ?_
    refine c_then ?_
    exact ⟨_, H, hF.re ⟨rfl, rfl, rfl, rfl, trivial⟩, hW⟩
  ·
   have H := iteF (of_decide_eq_false hb) H
   rw [hb] at hF
   clear hb
   refine wp_exit ?_
   refine e_then ?_
   refine e_then ?_
   refine e_block ?_
   refine c_then ?_
   have H := L2 _ H
   exact ⟨H, hF.re ⟨rfl, rfl, trivial⟩, hW⟩
 rintro a w ⟨hj, hF, hW⟩
 have H := K1 _ hj
 clear hj G1 K1 L1
 refine c_seq ?_
 refine reg_list ?_
 refine ls hF hW rfl ((y_move hF rfl).q) (fun a w hF hW => ?_)
 refine ls hF hW rfl ((y_len (r := R77) (l := p0) u38_ rfl hF rfl (rdc_ro h_v1)).q) (fun a w hF hW => ?_)
 refine ls hF hW rfl ((y_leq hF rfl rfl).q) (fun a w hF hW => ?_)
 refine ls hF hW rfl ((y_assign hF rfl).q) (fun a w hF hW => ?_)
 refine ls_nil ?_
 refine c_then ?_
 refine wp_ret ?_
 have H := Option.some.inj H
 subst H
 refine post1 (.inl rfl) hF hW rfl (rv_tmp hF rfl) ?_
 exact ⟨rfl, hW.done⟩

theorem H43 : Has Try.prog 43 := ⟨fun args w => run_callFunc_body Try.func43 rfl (by decide) args w⟩
noncomputable def r10_Right (p0 : Int × (Int × (Int × Int × Int × Int) × (Int × Int × Int × Int)) × (List (Int × Int × Int))) (p1 : Int) : Option Bool := (if 0 ≤ p0.1 then (if p0.1 ≤ 65535 then (r08_Right p0.2.1).bind fun x2 => (if x2 = true then (r09_Right p0.2.2 p1).bind fun x3 => some x3 else some false) else some false) else some false).bind fun x1 => some x1
theorem r10_Right_c (Y : Nat → Prop) (w0 : World) (v1 : Value) (p0 : Int × (Int × (Int × Int × Int × Int) × (Int × Int × Int × Int)) × (List (Int × Int × Int))) (p1 : Int) (r : Bool) (H : r10_Right p0 p1 = some r) (h_v1 : Sl w0 (NX []) R77 v1 p0.2.2) :
    Calls Try.prog 22 #[.agg #[.int .i64 p0.1, .int .i64 p0.2.1.1, .int .i64 p0.2.1.2.1.1, .int .i64 p0.2.1.2.1.2.1, .int .i64 p0.2.1.2.1.2.2.1, .int .i64 p0.2.1.2.1.2.2.2, .int .i64 p0.2.1.2.2.1, .int .i64 p0.2.1.2.2.2.1, .int .i64 p0.2.1.2.2.2.2.1, .int .i64 p0.2.1.2.2.2.2.2, v1], .int .i64 p1] w0 fun e w' => e = .returned (.bool r) ∧ Below w0.heap.size w0 w' := by
 refine enter Try.func22 rfl Try.ntmps22 rfl (fun a hF => ?_)
 have hW := Stw.start Y w0
 unfold r10_Right at H
 refine c_seq ?_
 refine reg_list ?_
 refine l_box (cs := [.int .i64 p0.1, .int .i64 p0.2.1.1, .int .i64 p0.2.1.2.1.1, .int .i64 p0.2.1.2.1.2.1, .int .i64 p0.2.1.2.1.2.2.1, .int .i64 p0.2.1.2.1.2.2.2, .int .i64 p0.2.1.2.2.1, .int .i64 p0.2.1.2.2.2.1, .int .i64 p0.2.1.2.2.2.2.1, .int .i64 p0.2.1.2.2.2.2.2, v1]) hF hW rfl rfl rfl (fun b1 a w hF hW => ?_)
 refine ls hF hW rfl ((y_assign hF rfl).q) (fun a w hF hW => ?_)
 refine ls_nil ?_
 refine c_then ?_
 obtain ⟨o1, G1, K1⟩ := bindE H
 refine c_seqJ (fun a w => ∃ x1 : Bool, some (x1) = some o1 ∧ Fr 24 [] [(4, .bool x1)] a ∧ Stw ⟨Y, [], w0⟩ [(b1, [.int .i64 p0.1, .int .i64 p0.2.1.1, .int .i64 p0.2.1.2.1.1, .int .i64 p0.2.1.2.1.2.1, .int .i64 p0.2.1.2.1.2.2.1, .int .i64 p0.2.1.2.1.2.2.2, .int .i64 p0.2.1.2.2.1, .int .i64 p0.2.1.2.2.2.1, .int .i64 p0.2.1.2.2.2.2.1, .int .i64 p0.2.1.2.2.2.2.2, v1])] [] w) ?_ ?_
 ·
  have H := G1
  clear G1 K1
  refine reg_list ?_
  refine ls hF hW rfl ((y_fieldAddr u40_ rfl rfl rfl T3 hF rfl 0 rfl).q) (fun a w hF hW => ?_)
  refine ls hF hW rfl ((y_load (v := Value.int .i64 p0.1) 0 hF rfl rfl T3 rfl).q) (fun a w hF hW => ?_)
  refine ls hF hW rfl ((y_geq hF rfl rfl).q) (fun a w hF hW => ?_)
  refine ls hF hW rfl ((y_move hF rfl).q) (fun a w hF hW => ?_)
  rcases Bool.eq_false_or_eq_true (decide (0 ≤ p0.1)) with hb | hb
  ·
   have H := iteT (of_decide_eq_true hb) H
   rw [hb] at hF
   clear hb
   refine ls_w hF hW (wanted_y hF rfl rfl rfl rfl) rfl (Nat.le_of_ble_eq_true rfl) ((y_fieldAddr u40_ rfl rfl rfl T3 hF rfl 0 rfl).q) (fun a w hF hW => ?_)
   refine ls_w hF hW (wanted_y hF rfl rfl rfl rfl) rfl (Nat.le_of_ble_eq_true rfl) ((y_load (v := Value.int .i64 p0.1) 0 hF rfl rfl T3 rfl).q) (fun a w hF hW => ?_)
   refine ls_w hF hW (wanted_y hF rfl rfl rfl rfl) rfl (Nat.le_of_ble_eq_true rfl) ((y_leq hF rfl rfl).q) (fun a w hF hW => ?_)
   refine ls hF hW rfl ((y_pick_t hF rfl rfl rfl).q) (fun a w hF hW => ?_)
   refine ls hF hW rfl ((y_move hF rfl).q) (fun a w hF hW => ?_)
   rcases Bool.eq_false_or_eq_true (decide (p0.1 ≤ 65535)) with hb | hb
   ·
    have H := iteT (of_decide_eq_true hb) H
    rw [hb] at hF
    clear hb
    refine ls_w hF hW (wanted_y hF rfl rfl rfl rfl) rfl (Nat.le_of_ble_eq_true rfl) ((y_fieldAddr u40_ rfl rfl rfl T37 hF rfl 1 rfl).q) (fun a w hF hW => ?_)
    refine ls_w hF hW (wanted_y hF rfl rfl rfl rfl) rfl (Nat.le_of_ble_eq_true rfl) ((y_load (v := Value.agg #[.int .i64 p0.2.1.1, .int .i64 p0.2.1.2.1.1, .int .i64 p0.2.1.2.1.2.1, .int .i64 p0.2.1.2.1.2.2.1, .int .i64 p0.2.1.2.1.2.2.2, .int .i64 p0.2.1.2.2.1, .int .i64 p0.2.1.2.2.2.1, .int .i64 p0.2.1.2.2.2.2.1, .int .i64 p0.2.1.2.2.2.2.2]) 0 hF rfl rfl T37 rfl).q) (fun a w hF hW => ?_)
    refine ls_g (wanted_y hF rfl rfl rfl rfl) ?_
    obtain ⟨x2, h1, H⟩ := bindE H
    refine ls hF hW rfl (y_call (v := Value.bool x2) hF H42 rfl (fun w hW => r08_Right_c any w p0.2.1 _ h1)) (fun a w hF hW => ?_)
    refine ls hF hW rfl ((y_pick_t hF rfl rfl rfl).q) (fun a w hF hW => ?_)
    refine ls hF hW rfl ((y_move hF rfl).q) (fun a w hF hW => ?_)
    rcases Bool.eq_false_or_eq_true x2 with hb | hb
    ·
     have H := iteT hb H
     rw [hb] at hF
     clear hb
     refine ls_w hF hW (wanted_y hF rfl rfl rfl rfl) rfl (Nat.le_of_ble_eq_true rfl) ((y_fieldAddr u40_ rfl rfl rfl T38 hF rfl 10 rfl).q) (fun a w hF hW => ?_)
     refine ls_w hF hW (wanted_y hF rfl rfl rfl rfl) rfl (Nat.le_of_ble_eq_true rfl) ((y_load (v := v1) 0 hF rfl rfl T38 rfl).q) (fun a w hF hW => ?_)
     refine ls_w hF hW (wanted_y hF rfl rfl rfl rfl) rfl (Nat.le_of_ble_eq_true rfl) ((y_move hF rfl).q) (fun a w hF hW => ?_)
     refine ls_g (wanted_y hF rfl rfl rfl rfl) ?_
     obtain ⟨x3, h2, H⟩ := bindE H
     refine ls hF hW rfl (y_call (v := Value.bool x3) hF H43 rfl (fun w hW => r09_Right_c any w (v1) p0.2.2 p1 _ h2 (((rdc_ro h_v1) : Rdc _ _ _ _ _ _) w hW).nx)) (fun a w hF hW => ?_)
     refine ls hF hW rfl ((y_pick_t hF rfl rfl rfl).q) (fun a w hF hW => ?_)
     refine ls hF hW rfl ((y_assign hF rfl).q) (fun a w hF hW => ?_)
     refine ls_nil ?_
     refine c_then ?_
     exact ⟨_, H, hF.re ⟨rfl, trivial⟩, hW⟩
    ·
     have H := iteF (by rw [hb]; decide) H
     rw [hb] at hF
     clear hb
     refine lsn hF rfl rfl rfl rfl rfl rfl rfl (fun a hF => ?_)
     refine lsn hF rfl rfl rfl rfl rfl rfl rfl (fun a hF => ?_)
     refine lsn hF rfl rfl rfl rfl rfl rfl rfl (fun a hF => ?_)
     refine lsn hF rfl rfl rfl rfl rfl rfl rfl (fun a hF => ?_)
     refine ls hF hW rfl ((y_pick_f hF rfl rfl rfl).q) (fun a w hF hW => ?_)
     refine ls hF hW rfl ((y_assign hF rfl).q) (fun a w hF hW => ?_)
     refine ls_nil ?_
     refine c_then ?_
     exact ⟨_, H, hF.re ⟨rfl, trivial⟩, hW⟩
   ·
    have H := iteF (of_decide_eq_false hb) H
    rw [hb] at hF
    clear hb
    refine lsn hF rfl rfl rfl rfl rfl rfl rfl (fun a hF => ?_)
    refine lsn hF rfl rfl rfl rfl rfl rfl rfl (fun a hF => ?_)
    refine lsn hF rfl rfl rfl rfl rfl rfl rfl (fun a hF => ?_)
    refine ls hF hW rfl ((y_pick_f hF rfl rfl rfl).q) (fun a w hF hW => ?_)
    refine ls hF hW rfl ((y_move hF rfl).q) (fun a w hF hW => ?_)
    refine lsn hF rfl rfl rfl rfl rfl rfl rfl (fun a hF => ?_)
    refine lsn hF rfl rfl rfl rfl rfl rfl rfl (fun a hF => ?_)
    refine lsn hF rfl rfl rfl rfl rfl rfl rfl (fun a hF => ?_)
    refine lsn hF rfl rfl rfl rfl rfl rfl rfl (fun a hF => ?_)
    refine ls hF hW rfl ((y_pick_f hF rfl rfl rfl).q) (fun a w hF hW => ?_)
    refine ls hF hW rfl ((y_assign hF rfl).q) (fun a w hF hW => ?_)
    refine ls_nil ?_
    refine c_then ?_
    exact ⟨_, H, hF.re ⟨rfl, trivial⟩, hW⟩
  ·
   have H := iteF (of_decide_eq_false hb) H
   rw [hb] at hF
   clear hb
   refine lsn hF rfl rfl rfl rfl rfl rfl rfl (fun a hF => ?_)
   refine lsn hF rfl rfl rfl rfl rfl rfl rfl (fun a hF => ?_)
   refine lsn hF rfl rfl rfl rfl rfl rfl rfl (fun a hF => ?_)
   refine ls hF hW rfl ((y_pick_f hF rfl rfl rfl).q) (fun a w hF hW => ?_)
   refine ls hF hW rfl ((y_move hF rfl).q) (fun a w hF hW => ?_)
   refine lsn hF rfl rfl rfl rfl rfl rfl rfl (fun a hF => ?_)
   refine lsn hF rfl rfl rfl rfl rfl rfl rfl (fun a hF => ?_)
   refine lsn hF rfl rfl rfl rfl rfl rfl rfl (fun a hF => ?_)
   refine ls hF hW rfl ((y_pick_f hF rfl rfl rfl).q) (fun a w hF hW => ?_)
   refine ls hF hW rfl ((y_move hF rfl).q) (fun a w hF hW => ?_)
   refine lsn hF rfl rfl rfl rfl rfl rfl rfl (fun a hF => ?_)
   refine lsn hF rfl rfl rfl rfl rfl rfl rfl (fun a hF => ?_)
   refine lsn hF rfl rfl rfl rfl rfl rfl rfl (fun a hF => ?_)
   refine lsn hF rfl rfl rfl rfl rfl rfl rfl (fun a hF => ?_)
   refine ls hF hW rfl ((y_pick_f hF rfl rfl rfl).q) (fun a w hF hW => ?_)
   refine ls hF hW rfl ((y_assign hF rfl).q) (fun a w hF hW => ?_)
   refine ls_nil ?_
   refine c_then ?_
   exact ⟨_, H, hF.re ⟨rfl, trivial⟩, hW⟩
 rintro a w ⟨x1, hj, hF, hW⟩
 have hj := Option.some.inj hj
 subst hj
 have H := K1
 clear G1 K1
 refine wp_ret ?_
 have H := Option.some.inj H
 subst H
 refine post1 (.inl rfl) hF hW rfl (rv_tmp hF rfl) ?_
 exact ⟨rfl, hW.done⟩

end Go.Proofs.Ytnlllglfmipllaa
