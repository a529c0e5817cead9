/- The functions of layer 36, lifted. Conditions: none. -/
import Derived.Test.YtdllfdmdfdfilaaDoorA1
namespace Go.Proofs.YtdllfdmdfdfilaaDoor
open Go Go.RowKit
set_option linter.unusedVariables false
set_option linter.unusedSimpArgs false
set_option maxRecDepth 20000
theorem H32 : Has Tryd.prog 32 := ⟨fun args w => run_callFunc_body Tryd.func32 rfl (by decide) args w⟩
noncomputable def r36_may (p0 : Int × Int × Bool × Int × Int × Int × Bool × Bool × Int) (p1 : Int × Int × Int × Int) : Option Bool := (if p1.1 = 1 then some (!p0.2.2.1 && (decide (p0.2.2.2.2.2.2.2.2 = 0) && (decide ((w64 (p1.2.1 - 1)) = p0.1) && (decide (0 ≤ p1.2.2.1) && (decide (p1.2.2.1 ≤ 15) && (decide (0 ≤ p1.2.2.2) && decide (p1.2.2.2 ≤ 1125899906842624))))))) else (if (decide (p1.2.1 ≠ p0.1) || (decide (p1.2.2.2 ≠ 0) || (decide (p1.1 < 1) || decide (7 < p1.1)))) = true then some false else (if p1.1 = 7 then (if (!p0.2.2.1) = true then (if 0 ≤ p1.2.2.1 then (if p1.2.2.1 ≤ 7 then (if 0 < p0.2.2.2.2.2.2.2.2 then (r36_bit p0.2.2.2.2.2.2.2.2 p1.2.2.1).bind fun x2 => some (decide (x2 = 1)) else some false) else some false) else some false) else some false).bind fun x1 => some x1 else (if (!p0.2.2.1) = true then some false else (if p1.1 = 2 then some (!p0.2.2.2.2.2.2.1 && (!p0.2.2.2.2.2.2.2.1 && (decide (p1.2.2.1 = p0.2.2.2.2.2.1) && (decide (p0.2.2.2.2.2.1 < 8) && decide (0 ≤ p0.2.2.2.2.2.1))))) else (if p1.1 = 6 then some (p0.2.2.2.2.2.2.2.1 && (decide (0 ≤ p1.2.2.1) && decide (p1.2.2.1 ≤ 255))) else (if p1.2.2.1 ≠ 0 then some false else (if p1.1 = 3 then some (!p0.2.2.2.2.2.2.1 && (!p0.2.2.2.2.2.2.2.1 && decide (0 < p0.2.2.2.2.2.1))) else (if p1.1 = 4 then some (!p0.2.2.2.2.2.2.2.1) else some (p0.2.2.2.2.2.2.1 && !p0.2.2.2.2.2.2.2.1))))))))))
theorem r36_may_c (Y : Nat → Prop) (w0 : World)  (p0 : Int × Int × Bool × Int × Int × Int × Bool × Bool × Int) (p1 : Int × Int × Int × Int) (r : Bool) (H : r36_may p0 p1 = some r)  :
    Calls Tryd.prog 22 #[.agg #[.int .i64 p0.1, .int .i64 p0.2.1, .bool p0.2.2.1, .int .i64 p0.2.2.2.1, .int .i64 p0.2.2.2.2.1, .int .i64 p0.2.2.2.2.2.1, .bool p0.2.2.2.2.2.2.1, .bool p0.2.2.2.2.2.2.2.1, .int .i64 p0.2.2.2.2.2.2.2.2], .agg #[.int .i64 p1.1, .int .i64 p1.2.1, .int .i64 p1.2.2.1, .int .i64 p1.2.2.2]] w0 fun e w' => e = .returned (.bool r) ∧ Below w0.heap.size w0 w' := by
  refine enter Tryd.func22 rfl Tryd.ntmps22 rfl (fun a hF => ?_)
  have hW := Stw.start Y w0
  unfold r36_may at H
  refine c_seq ?_
  refine reg_list ?_
  refine l_box (cs := [.int .i64 p0.1, .int .i64 p0.2.1, .bool p0.2.2.1, .int .i64 p0.2.2.2.1, .int .i64 p0.2.2.2.2.1, .int .i64 p0.2.2.2.2.2.1, .bool p0.2.2.2.2.2.2.1, .bool p0.2.2.2.2.2.2.2.1, .int .i64 p0.2.2.2.2.2.2.2.2]) hF hW rfl rfl rfl (fun b1 a w hF hW => ?_)
  refine l_box (cs := [.int .i64 p1.1, .int .i64 p1.2.1, .int .i64 p1.2.2.1, .int .i64 p1.2.2.2]) hF hW rfl rfl rfl (fun b2 a w hF hW => ?_)
  refine ls hF hW rfl ((y_assign hF rfl).q) (fun a w hF hW => ?_)
  refine ls_nil ?_
  refine c_then ?_
  refine c_seq ?_
  refine c_seq ?_
  refine reg_list ?_
  refine ls hF hW rfl ((y_fieldAddr Tryd.underlying37 rfl rfl rfl T3 hF rfl 0 rfl).q) (fun a w hF hW => ?_)
  refine ls hF hW rfl ((y_load (v := Value.int .i64 p1.1) 0 hF rfl rfl T3 rfl).q) (fun a w hF hW => ?_)
  refine ls hF hW rfl ((y_eql hF rfl rfl).q) (fun a w hF hW => ?_)
  refine ls_nil ?_
  refine c_then ?_
  refine c_cond hF rfl (fun hb => ?_) (fun hb => ?_)
  ·
    have H := iteT (of_decide_eq_true hb) H
    rw [hb] at hF
    clear hb
    refine c_seqJ (fun a w => Fr 171 [] [(2, .pointer (some ⟨b1, 0, none⟩)), (3, .pointer (some ⟨b2, 0, none⟩)), (4, .bool (!p0.2.2.1 && (decide (p0.2.2.2.2.2.2.2.2 = 0) && (decide ((w64 (p1.2.1 - 1)) = p0.1) && (decide (0 ≤ p1.2.2.1) && (decide (p1.2.2.1 ≤ 15) && (decide (0 ≤ p1.2.2.2) && decide (p1.2.2.2 ≤ 1125899906842624))))))))] a ∧ Stw ⟨Y, [], w0⟩ [(b2, [.int .i64 p1.1, .int .i64 p1.2.1, .int .i64 p1.2.2.1, .int .i64 p1.2.2.2]), (b1, [.int .i64 p0.1, .int .i64 p0.2.1, .bool p0.2.2.1, .int .i64 p0.2.2.2.1, .int .i64 p0.2.2.2.2.1, .int .i64 p0.2.2.2.2.2.1, .bool p0.2.2.2.2.2.2.1, .bool p0.2.2.2.2.2.2.2.1, .int .i64 p0.2.2.2.2.2.2.2.2])] [] w) ?_ ?_
    ·
      refine reg_list ?_
      refine ls hF hW rfl ((y_fieldAddr Tryd.underlying27 rfl rfl rfl T4 hF rfl 2 rfl).q) (fun a w hF hW => ?_)
      refine ls hF hW rfl ((y_load (v := Value.bool p0.2.2.1) 1 hF rfl rfl T4 rfl).q) (fun a w hF hW => ?_)
      refine ls hF hW rfl ((y_not hF rfl).q) (fun a w hF hW => ?_)
      refine ls hF hW rfl ((y_move hF rfl).q) (fun a w hF hW => ?_)
      rcases Bool.eq_false_or_eq_true (!p0.2.2.1) with hb0 | hb0
      ·
        rw [hb0] at hF
        refine ls_w hF hW (wanted_y hF rfl rfl rfl rfl) rfl (Nat.le_of_ble_eq_true rfl) ((y_fieldAddr Tryd.underlying27 rfl rfl rfl T3 hF rfl 8 rfl).q) (fun a w hF hW => ?_)
        refine ls_w hF hW (wanted_y hF rfl rfl rfl rfl) rfl (Nat.le_of_ble_eq_true rfl) ((y_load (v := Value.int .i64 p0.2.2.2.2.2.2.2.2) 1 hF rfl rfl T3 rfl).q) (fun a w hF hW => ?_)
        refine ls_w hF hW (wanted_y hF rfl rfl rfl rfl) rfl (Nat.le_of_ble_eq_true rfl) ((y_eql hF rfl rfl).q) (fun a w hF hW => ?_)
        refine ls hF hW rfl ((y_pick_t hF rfl rfl rfl).q) (fun a w hF hW => ?_)
        refine ls hF hW rfl ((y_move hF rfl).q) (fun a w hF hW => ?_)
        rcases Bool.eq_false_or_eq_true (decide (p0.2.2.2.2.2.2.2.2 = 0)) with hb1 | hb1
        ·
          rw [hb1] at hF
          refine ls_w hF hW (wanted_y hF rfl rfl rfl rfl) rfl (Nat.le_of_ble_eq_true rfl) ((y_fieldAddr Tryd.underlying37 rfl rfl rfl T3 hF rfl 1 rfl).q) (fun a w hF hW => ?_)
          refine ls_w hF hW (wanted_y hF rfl rfl rfl rfl) rfl (Nat.le_of_ble_eq_true rfl) ((y_load (v := Value.int .i64 p1.2.1) 0 hF rfl rfl T3 rfl).q) (fun a w hF hW => ?_)
          refine ls_w hF hW (wanted_y hF rfl rfl rfl rfl) rfl (Nat.le_of_ble_eq_true rfl) ((y_sub hF rfl rfl rfl).q) (fun a w hF hW => ?_)
          refine ls_w hF hW (wanted_y hF rfl rfl rfl rfl) rfl (Nat.le_of_ble_eq_true rfl) ((y_fieldAddr Tryd.underlying27 rfl rfl rfl T3 hF rfl 0 rfl).q) (fun a w hF hW => ?_)
          refine ls_w hF hW (wanted_y hF rfl rfl rfl rfl) rfl (Nat.le_of_ble_eq_true rfl) ((y_load (v := Value.int .i64 p0.1) 1 hF rfl rfl T3 rfl).q) (fun a w hF hW => ?_)
          refine ls_w hF hW (wanted_y hF rfl rfl rfl rfl) rfl (Nat.le_of_ble_eq_true rfl) ((y_eql hF rfl rfl).q) (fun a w hF hW => ?_)
          refine ls hF hW rfl ((y_pick_t hF rfl rfl rfl).q) (fun a w hF hW => ?_)
          refine ls hF hW rfl ((y_move hF rfl).q) (fun a w hF hW => ?_)
          rcases Bool.eq_false_or_eq_true (decide ((w64 (p1.2.1 - 1)) = p0.1)) with hb2 | hb2
          ·
            rw [hb2] at hF
            refine ls_w hF hW (wanted_y hF rfl rfl rfl rfl) rfl (Nat.le_of_ble_eq_true rfl) ((y_fieldAddr Tryd.underlying37 rfl rfl rfl T3 hF rfl 2 rfl).q) (fun a w hF hW => ?_)
            refine ls_w hF hW (wanted_y hF rfl rfl rfl rfl) rfl (Nat.le_of_ble_eq_true rfl) ((y_load (v := Value.int .i64 p1.2.2.1) 0 hF rfl rfl T3 rfl).q) (fun a w hF hW => ?_)
            refine ls_w hF hW (wanted_y hF rfl rfl rfl rfl) rfl (Nat.le_of_ble_eq_true rfl) ((y_geq hF rfl rfl).q) (fun a w hF hW => ?_)
            refine ls hF hW rfl ((y_pick_t hF rfl rfl rfl).q) (fun a w hF hW => ?_)
            refine ls hF hW rfl ((y_move hF rfl).q) (fun a w hF hW => ?_)
            rcases Bool.eq_false_or_eq_true (decide (0 ≤ p1.2.2.1)) with hb3 | hb3
            ·
              rw [hb3] at hF
              refine ls_w hF hW (wanted_y hF rfl rfl rfl rfl) rfl (Nat.le_of_ble_eq_true rfl) ((y_fieldAddr Tryd.underlying37 rfl rfl rfl T3 hF rfl 2 rfl).q) (fun a w hF hW => ?_)
              refine ls_w hF hW (wanted_y hF rfl rfl rfl rfl) rfl (Nat.le_of_ble_eq_true rfl) ((y_load (v := Value.int .i64 p1.2.2.1) 0 hF rfl rfl T3 rfl).q) (fun a w hF hW => ?_)
              refine ls_w hF hW (wanted_y hF rfl rfl rfl rfl) rfl (Nat.le_of_ble_eq_true rfl) ((y_leq hF rfl rfl).q) (fun a w hF hW => ?_)
              refine ls hF hW rfl ((y_pick_t hF rfl rfl rfl).q) (fun a w hF hW => ?_)
              refine ls hF hW rfl ((y_move hF rfl).q) (fun a w hF hW => ?_)
              rcases Bool.eq_false_or_eq_true (decide (p1.2.2.1 ≤ 15)) with hb4 | hb4
              ·
                rw [hb4] at hF
                refine ls_w hF hW (wanted_y hF rfl rfl rfl rfl) rfl (Nat.le_of_ble_eq_true rfl) ((y_fieldAddr Tryd.underlying37 rfl rfl rfl T3 hF rfl 3 rfl).q) (fun a w hF hW => ?_)
                refine ls_w hF hW (wanted_y hF rfl rfl rfl rfl) rfl (Nat.le_of_ble_eq_true rfl) ((y_load (v := Value.int .i64 p1.2.2.2) 0 hF rfl rfl T3 rfl).q) (fun a w hF hW => ?_)
                refine ls_w hF hW (wanted_y hF rfl rfl rfl rfl) rfl (Nat.le_of_ble_eq_true rfl) ((y_geq hF rfl rfl).q) (fun a w hF hW => ?_)
                refine ls hF hW rfl ((y_pick_t hF rfl rfl rfl).q) (fun a w hF hW => ?_)
                refine ls hF hW rfl ((y_move hF rfl).q) (fun a w hF hW => ?_)
                rcases Bool.eq_false_or_eq_true (decide (0 ≤ p1.2.2.2)) with hb5 | hb5
                ·
                  rw [hb5] at hF
                  refine ls_w hF hW (wanted_y hF rfl rfl rfl rfl) rfl (Nat.le_of_ble_eq_true rfl) ((y_fieldAddr Tryd.underlying37 rfl rfl rfl T3 hF rfl 3 rfl).q) (fun a w hF hW => ?_)
                  refine ls_w hF hW (wanted_y hF rfl rfl rfl rfl) rfl (Nat.le_of_ble_eq_true rfl) ((y_load (v := Value.int .i64 p1.2.2.2) 0 hF rfl rfl T3 rfl).q) (fun a w hF hW => ?_)
                  refine ls_w hF hW (wanted_y hF rfl rfl rfl rfl) rfl (Nat.le_of_ble_eq_true rfl) ((y_leq hF rfl rfl).q) (fun a w hF hW => ?_)
                  refine ls hF hW rfl ((y_pick_t hF rfl rfl rfl).q) (fun a w hF hW => ?_)
                  refine ls hF hW rfl ((y_assign hF rfl).q) (fun a w hF hW => ?_)
                  refine ls_nil ?_
                  refine c_then ?_
                  exact ⟨hF.re ⟨rfl, rfl, (by show some (Value.bool (decide (p1.2.2.2 ≤ 1125899906842624))) = some (Value.bool (!p0.2.2.1 && (decide (p0.2.2.2.2.2.2.2.2 = 0) && (decide ((w64 (p1.2.1 - 1)) = p0.1) && (decide (0 ≤ p1.2.2.1) && (decide (p1.2.2.1 ≤ 15) && (decide (0 ≤ p1.2.2.2) && decide (p1.2.2.2 ≤ 1125899906842624)))))))); try rw [hb2]; try rw [hb1]; try rw [hb4]; try rw [hb3]; try rw [hb5]; try rw [hb0]; all_goals simp only [Bool.not_true, Bool.not_false, Bool.true_and, Bool.false_and, Bool.true_or, Bool.false_or, Bool.and_true, Bool.or_false, cond_true, cond_false]), trivial⟩, hW⟩
                ·
                  rw [hb5] at hF
                  refine ls_skip hF (wanted_n hF rfl rfl rfl rfl rfl) rfl rfl (fun a hF => ?_)
                  refine ls_skip hF (wanted_n hF rfl rfl rfl rfl rfl) rfl rfl (fun a hF => ?_)
                  refine ls_skip hF (wanted_n hF rfl rfl rfl rfl rfl) rfl rfl (fun a hF => ?_)
                  refine ls hF hW rfl ((y_pick_f hF rfl rfl rfl).q) (fun a w hF hW => ?_)
                  refine ls hF hW rfl ((y_assign hF rfl).q) (fun a w hF hW => ?_)
                  refine ls_nil ?_
                  refine c_then ?_
                  exact ⟨hF.re ⟨rfl, rfl, (by show some (Value.bool false) = some (Value.bool (!p0.2.2.1 && (decide (p0.2.2.2.2.2.2.2.2 = 0) && (decide ((w64 (p1.2.1 - 1)) = p0.1) && (decide (0 ≤ p1.2.2.1) && (decide (p1.2.2.1 ≤ 15) && (decide (0 ≤ p1.2.2.2) && decide (p1.2.2.2 ≤ 1125899906842624)))))))); try rw [hb2]; try rw [hb1]; try rw [hb4]; try rw [hb3]; try rw [hb5]; try rw [hb0]; all_goals simp only [Bool.not_true, Bool.not_false, Bool.true_and, Bool.false_and, Bool.true_or, Bool.false_or, Bool.and_true, Bool.or_false, cond_true, cond_false]), trivial⟩, hW⟩
              ·
                rw [hb4] at hF
                refine ls_skip hF (wanted_n hF rfl rfl rfl rfl rfl) rfl rfl (fun a hF => ?_)
                refine ls_skip hF (wanted_n hF rfl rfl rfl rfl rfl) rfl rfl (fun a hF => ?_)
                refine ls_skip hF (wanted_n hF rfl rfl rfl rfl rfl) rfl rfl (fun a hF => ?_)
                refine ls hF hW rfl ((y_pick_f hF rfl rfl rfl).q) (fun a w hF hW => ?_)
                refine ls hF hW rfl ((y_move hF rfl).q) (fun a w hF hW => ?_)
                refine ls_skip hF (wanted_n hF rfl rfl rfl rfl rfl) rfl rfl (fun a hF => ?_)
                refine ls_skip hF (wanted_n hF rfl rfl rfl rfl rfl) rfl rfl (fun a hF => ?_)
                refine ls_skip hF (wanted_n hF rfl rfl rfl rfl rfl) rfl rfl (fun a hF => ?_)
                refine ls hF hW rfl ((y_pick_f hF rfl rfl rfl).q) (fun a w hF hW => ?_)
                refine ls hF hW rfl ((y_assign hF rfl).q) (fun a w hF hW => ?_)
                refine ls_nil ?_
                refine c_then ?_
                exact ⟨hF.re ⟨rfl, rfl, (by show some (Value.bool false) = some (Value.bool (!p0.2.2.1 && (decide (p0.2.2.2.2.2.2.2.2 = 0) && (decide ((w64 (p1.2.1 - 1)) = p0.1) && (decide (0 ≤ p1.2.2.1) && (decide (p1.2.2.1 ≤ 15) && (decide (0 ≤ p1.2.2.2) && decide (p1.2.2.2 ≤ 1125899906842624)))))))); try rw [hb2]; try rw [hb1]; try rw [hb4]; try rw [hb3]; try rw [hb0]; all_goals simp only [Bool.not_true, Bool.not_false, Bool.true_and, Bool.false_and, Bool.true_or, Bool.false_or, Bool.and_true, Bool.or_false, cond_true, cond_false]), trivial⟩, hW⟩
            ·
              rw [hb3] at hF
              refine ls_skip hF (wanted_n hF rfl rfl rfl rfl rfl) rfl rfl (fun a hF => ?_)
              refine ls_skip hF (wanted_n hF rfl rfl rfl rfl rfl) rfl rfl (fun a hF => ?_)
              refine ls_skip hF (wanted_n hF rfl rfl rfl rfl rfl) rfl rfl (fun a hF => ?_)
              refine ls hF hW rfl ((y_pick_f hF rfl rfl rfl).q) (fun a w hF hW => ?_)
              refine ls hF hW rfl ((y_move hF rfl).q) (fun a w hF hW => ?_)
              refine ls_skip hF (wanted_n hF rfl rfl rfl rfl rfl) rfl rfl (fun a hF => ?_)
              refine ls_skip hF (wanted_n hF rfl rfl rfl rfl rfl) rfl rfl (fun a hF => ?_)
              refine ls_skip hF (wanted_n hF rfl rfl rfl rfl rfl) rfl rfl (fun a hF => ?_)
              refine ls hF hW rfl ((y_pick_f hF rfl rfl rfl).q) (fun a w hF hW => ?_)
              refine ls hF hW rfl ((y_move hF rfl).q) (fun a w hF hW => ?_)
              refine ls_skip hF (wanted_n hF rfl rfl rfl rfl rfl) rfl rfl (fun a hF => ?_)
              refine ls_skip hF (wanted_n hF rfl rfl rfl rfl rfl) rfl rfl (fun a hF => ?_)
              refine ls_skip hF (wanted_n hF rfl rfl rfl rfl rfl) rfl rfl (fun a hF => ?_)
              refine ls hF hW rfl ((y_pick_f hF rfl rfl rfl).q) (fun a w hF hW => ?_)
              refine ls hF hW rfl ((y_assign hF rfl).q) (fun a w hF hW => ?_)
              refine ls_nil ?_
              refine c_then ?_
              exact ⟨hF.re ⟨rfl, rfl, (by show some (Value.bool false) = some (Value.bool (!p0.2.2.1 && (decide (p0.2.2.2.2.2.2.2.2 = 0) && (decide ((w64 (p1.2.1 - 1)) = p0.1) && (decide (0 ≤ p1.2.2.1) && (decide (p1.2.2.1 ≤ 15) && (decide (0 ≤ p1.2.2.2) && decide (p1.2.2.2 ≤ 1125899906842624)))))))); try rw [hb2]; try rw [hb1]; try rw [hb3]; try rw [hb0]; all_goals simp only [Bool.not_true, Bool.not_false, Bool.true_and, Bool.false_and, Bool.true_or, Bool.false_or, Bool.and_true, Bool.or_false, cond_true, cond_false]), trivial⟩, hW⟩
          ·
            rw [hb2] at hF
            refine ls_skip hF (wanted_n hF rfl rfl rfl rfl rfl) rfl rfl (fun a hF => ?_)
            refine ls_skip hF (wanted_n hF rfl rfl rfl rfl rfl) rfl rfl (fun a hF => ?_)
            refine ls_skip hF (wanted_n hF rfl rfl rfl rfl rfl) rfl rfl (fun a hF => ?_)
            refine ls hF hW rfl ((y_pick_f hF rfl rfl rfl).q) (fun a w hF hW => ?_)
            refine ls hF hW rfl ((y_move hF rfl).q) (fun a w hF hW => ?_)
            refine ls_skip hF (wanted_n hF rfl rfl rfl rfl rfl) rfl rfl (fun a hF => ?_)
            refine ls_skip hF (wanted_n hF rfl rfl rfl rfl rfl) rfl rfl (fun a hF => ?_)
            refine ls_skip hF (wanted_n hF rfl rfl rfl rfl rfl) rfl rfl (fun a hF => ?_)
            refine ls hF hW rfl ((y_pick_f hF rfl rfl rfl).q) (fun a w hF hW => ?_)
            refine ls hF hW rfl ((y_move hF rfl).q) (fun a w hF hW => ?_)
            refine ls_skip hF (wanted_n hF rfl rfl rfl rfl rfl) rfl rfl (fun a hF => ?_)
            refine ls_skip hF (wanted_n hF rfl rfl rfl rfl rfl) rfl rfl (fun a hF => ?_)
            refine ls_skip hF (wanted_n hF rfl rfl rfl rfl rfl) rfl rfl (fun a hF => ?_)
            refine ls hF hW rfl ((y_pick_f hF rfl rfl rfl).q) (fun a w hF hW => ?_)
            refine ls hF hW rfl ((y_move hF rfl).q) (fun a w hF hW => ?_)
            refine ls_skip hF (wanted_n hF rfl rfl rfl rfl rfl) rfl rfl (fun a hF => ?_)
            refine ls_skip hF (wanted_n hF rfl rfl rfl rfl rfl) rfl rfl (fun a hF => ?_)
            refine ls_skip hF (wanted_n hF rfl rfl rfl rfl rfl) rfl rfl (fun a hF => ?_)
            refine ls hF hW rfl ((y_pick_f hF rfl rfl rfl).q) (fun a w hF hW => ?_)
            refine ls hF hW rfl ((y_assign hF rfl).q) (fun a w hF hW => ?_)
            refine ls_nil ?_
            refine c_then ?_
            exact ⟨hF.re ⟨rfl, rfl, (by show some (Value.bool false) = some (Value.bool (!p0.2.2.1 && (decide (p0.2.2.2.2.2.2.2.2 = 0) && (decide ((w64 (p1.2.1 - 1)) = p0.1) && (decide (0 ≤ p1.2.2.1) && (decide (p1.2.2.1 ≤ 15) && (decide (0 ≤ p1.2.2.2) && decide (p1.2.2.2 ≤ 1125899906842624)))))))); try rw [hb2]; try rw [hb1]; try rw [hb0]; all_goals simp only [Bool.not_true, Bool.not_false, Bool.true_and, Bool.false_and, Bool.true_or, Bool.false_or, Bool.and_true, Bool.or_false, cond_true, cond_false]), trivial⟩, hW⟩
        ·
          rw [hb1] at hF
          refine ls_skip hF (wanted_n hF rfl rfl rfl rfl rfl) rfl rfl (fun a hF => ?_)
          refine ls_skip hF (wanted_n hF rfl rfl rfl rfl rfl) rfl rfl (fun a hF => ?_)
          refine ls_skip hF (wanted_n hF rfl rfl rfl rfl rfl) rfl rfl (fun a hF => ?_)
          refine ls_skip hF (wanted_n hF rfl rfl rfl rfl rfl) rfl rfl (fun a hF => ?_)
          refine ls_skip hF (wanted_n hF rfl rfl rfl rfl rfl) rfl rfl (fun a hF => ?_)
          refine ls_skip hF (wanted_n hF rfl rfl rfl rfl rfl) rfl rfl (fun a hF => ?_)
          refine ls hF hW rfl ((y_pick_f hF rfl rfl rfl).q) (fun a w hF hW => ?_)
          refine ls hF hW rfl ((y_move hF rfl).q) (fun a w hF hW => ?_)
          refine ls_skip hF (wanted_n hF rfl rfl rfl rfl rfl) rfl rfl (fun a hF => ?_)
          refine ls_skip hF (wanted_n hF rfl rfl rfl rfl rfl) rfl rfl (fun a hF => ?_)
          refine ls_skip hF (wanted_n hF rfl rfl rfl rfl rfl) rfl rfl (fun a hF => ?_)
          refine ls hF hW rfl ((y_pick_f hF rfl rfl rfl).q) (fun a w hF hW => ?_)
          refine ls hF hW rfl ((y_move hF rfl).q) (fun a w hF hW => ?_)
          refine ls_skip hF (wanted_n hF rfl rfl rfl rfl rfl) rfl rfl (fun a hF => ?_)
          refine ls_skip hF (wanted_n hF rfl rfl rfl rfl rfl) rfl rfl (fun a hF => ?_)
          refine ls_skip hF (wanted_n hF rfl rfl rfl rfl rfl) rfl rfl (fun a hF => ?_)
          refine ls hF hW rfl ((y_pick_f hF rfl rfl rfl).q) (fun a w hF hW => ?_)
          refine ls hF hW rfl ((y_move hF rfl).q) (fun a w hF hW => ?_)
          refine ls_skip hF (wanted_n hF rfl rfl rfl rfl rfl) rfl rfl (fun a hF => ?_)
          refine ls_skip hF (wanted_n hF rfl rfl rfl rfl rfl) rfl rfl (fun a hF => ?_)
          refine ls_skip hF (wanted_n hF rfl rfl rfl rfl rfl) rfl rfl (fun a hF => ?_)
          refine ls hF hW rfl ((y_pick_f hF rfl rfl rfl).q) (fun a w hF hW => ?_)
          refine ls hF hW rfl ((y_move hF rfl).q) (fun a w hF hW => ?_)
          refine ls_skip hF (wanted_n hF rfl rfl rfl rfl rfl) rfl rfl (fun a hF => ?_)
          refine ls_skip hF (wanted_n hF rfl rfl rfl rfl rfl) rfl rfl (fun a hF => ?_)
          refine ls_skip hF (wanted_n hF rfl rfl rfl rfl rfl) rfl rfl (fun a hF => ?_)
          refine ls hF hW rfl ((y_pick_f hF rfl rfl rfl).q) (fun a w hF hW => ?_)
          refine ls hF hW rfl ((y_assign hF rfl).q) (fun a w hF hW => ?_)
          refine ls_nil ?_
          refine c_then ?_
          exact ⟨hF.re ⟨rfl, rfl, (by show some (Value.bool false) = some (Value.bool (!p0.2.2.1 && (decide (p0.2.2.2.2.2.2.2.2 = 0) && (decide ((w64 (p1.2.1 - 1)) = p0.1) && (decide (0 ≤ p1.2.2.1) && (decide (p1.2.2.1 ≤ 15) && (decide (0 ≤ p1.2.2.2) && decide (p1.2.2.2 ≤ 1125899906842624)))))))); try rw [hb1]; try rw [hb0]; all_goals simp only [Bool.not_true, Bool.not_false, Bool.true_and, Bool.false_and, Bool.true_or, Bool.false_or, Bool.and_true, Bool.or_false, cond_true, cond_false]), trivial⟩, hW⟩
      ·
        rw [hb0] at hF
        refine ls_skip hF (wanted_n hF rfl rfl rfl rfl rfl) rfl rfl (fun a hF => ?_)
        refine ls_skip hF (wanted_n hF rfl rfl rfl rfl rfl) rfl rfl (fun a hF => ?_)
        refine ls_skip hF (wanted_n hF rfl rfl rfl rfl rfl) rfl rfl (fun a hF => ?_)
        refine ls hF hW rfl ((y_pick_f hF rfl rfl rfl).q) (fun a w hF hW => ?_)
        refine ls hF hW rfl ((y_move hF rfl).q) (fun a w hF hW => ?_)
        refine ls_skip hF (wanted_n hF rfl rfl rfl rfl rfl) rfl rfl (fun a hF => ?_)
        refine ls_skip hF (wanted_n hF rfl rfl rfl rfl rfl) rfl rfl (fun a hF => ?_)
        refine ls_skip hF (wanted_n hF rfl rfl rfl rfl rfl) rfl rfl (fun a hF => ?_)
        refine ls_skip hF (wanted_n hF rfl rfl rfl rfl rfl) rfl rfl (fun a hF => ?_)
        refine ls_skip hF (wanted_n hF rfl rfl rfl rfl rfl) rfl rfl (fun a hF => ?_)
        refine ls_skip hF (wanted_n hF rfl rfl rfl rfl rfl) rfl rfl (fun a hF => ?_)
        refine ls hF hW rfl ((y_pick_f hF rfl rfl rfl).q) (fun a w hF hW => ?_)
        refine ls hF hW rfl ((y_move hF rfl).q) (fun a w hF hW => ?_)
        refine ls_skip hF (wanted_n hF rfl rfl rfl rfl rfl) rfl rfl (fun a hF => ?_)
        refine ls_skip hF (wanted_n hF rfl rfl rfl rfl rfl) rfl rfl (fun a hF => ?_)
        refine ls_skip hF (wanted_n hF rfl rfl rfl rfl rfl) rfl rfl (fun a hF => ?_)
        refine ls hF hW rfl ((y_pick_f hF rfl rfl rfl).q) (fun a w hF hW => ?_)
        refine ls hF hW rfl ((y_move hF rfl).q) (fun a w hF hW => ?_)
        refine ls_skip hF (wanted_n hF rfl rfl rfl rfl rfl) rfl rfl (fun a hF => ?_)
        refine ls_skip hF (wanted_n hF rfl rfl rfl rfl rfl) rfl rfl (fun a hF => ?_)
        refine ls_skip hF (wanted_n hF rfl rfl rfl rfl rfl) rfl rfl (fun a hF => ?_)
        refine ls hF hW rfl ((y_pick_f hF rfl rfl rfl).q) (fun a w hF hW => ?_)
        refine ls hF hW rfl ((y_move hF rfl).q) (fun a w hF hW => ?_)
        refine ls_skip hF (wanted_n hF rfl rfl rfl rfl rfl) rfl rfl (fun a hF => ?_)
        refine ls_skip hF (wanted_n hF rfl rfl rfl rfl rfl) rfl rfl (fun a hF => ?_)
        refine ls_skip hF (wanted_n hF rfl rfl rfl rfl rfl) rfl rfl (fun a hF => ?_)
        refine ls hF hW rfl ((y_pick_f hF rfl rfl rfl).q) (fun a w hF hW => ?_)
        refine ls hF hW rfl ((y_move hF rfl).q) (fun a w hF hW => ?_)
        refine ls_skip hF (wanted_n hF rfl rfl rfl rfl rfl) rfl rfl (fun a hF => ?_)
        refine ls_skip hF (wanted_n hF rfl rfl rfl rfl rfl) rfl rfl (fun a hF => ?_)
        refine ls_skip hF (wanted_n hF rfl rfl rfl rfl rfl) rfl rfl (fun a hF => ?_)
        refine ls hF hW rfl ((y_pick_f hF rfl rfl rfl).q) (fun a w hF hW => ?_)
        refine ls hF hW rfl ((y_assign hF rfl).q) (fun a w hF hW => ?_)
        refine ls_nil ?_
        refine c_then ?_
        exact ⟨hF.re ⟨rfl, rfl, (by show some (Value.bool false) = some (Value.bool (!p0.2.2.1 && (decide (p0.2.2.2.2.2.2.2.2 = 0) && (decide ((w64 (p1.2.1 - 1)) = p0.1) && (decide (0 ≤ p1.2.2.1) && (decide (p1.2.2.1 ≤ 15) && (decide (0 ≤ p1.2.2.2) && decide (p1.2.2.2 ≤ 1125899906842624)))))))); try rw [hb0]; all_goals simp only [Bool.not_true, Bool.not_false, Bool.true_and, Bool.false_and, Bool.true_or, Bool.false_or, Bool.and_true, Bool.or_false, cond_true, cond_false]), trivial⟩, hW⟩
    rintro a w ⟨hF, hW⟩
    refine wp_ret ?_
    refine r_then ?_
    have H := Option.some.inj H
    subst H
    refine post1 (.inl rfl) hF hW rfl (rv_tmp hF rfl) ?_
    exact ⟨rfl, hW.done⟩
  ·
    have H := iteF (of_decide_eq_false hb) H
    rw [hb] at hF
    clear hb
    refine wp_skip ?_
    refine c_then ?_
    refine c_seq ?_
    refine c_seqJ (fun a w => Fr 171 [] [(2, .pointer (some ⟨b1, 0, none⟩)), (3, .pointer (some ⟨b2, 0, none⟩)), (4, .bool false), (63, .bool (decide (p1.2.1 ≠ p0.1) || (decide (p1.2.2.2 ≠ 0) || (decide (p1.1 < 1) || decide (7 < p1.1)))))] a ∧ Stw ⟨Y, [], w0⟩ [(b2, [.int .i64 p1.1, .int .i64 p1.2.1, .int .i64 p1.2.2.1, .int .i64 p1.2.2.2]), (b1, [.int .i64 p0.1, .int .i64 p0.2.1, .bool p0.2.2.1, .int .i64 p0.2.2.2.1, .int .i64 p0.2.2.2.2.1, .int .i64 p0.2.2.2.2.2.1, .bool p0.2.2.2.2.2.2.1, .bool p0.2.2.2.2.2.2.2.1, .int .i64 p0.2.2.2.2.2.2.2.2])] [] w) ?_ ?_
    ·
      refine reg_list ?_
      refine ls hF hW rfl ((y_fieldAddr Tryd.underlying37 rfl rfl rfl T3 hF rfl 1 rfl).q) (fun a w hF hW => ?_)
      refine ls hF hW rfl ((y_load (v := Value.int .i64 p1.2.1) 0 hF rfl rfl T3 rfl).q) (fun a w hF hW => ?_)
      refine ls hF hW rfl ((y_fieldAddr Tryd.underlying27 rfl rfl rfl T3 hF rfl 0 rfl).q) (fun a w hF hW => ?_)
      refine ls hF hW rfl ((y_load (v := Value.int .i64 p0.1) 1 hF rfl rfl T3 rfl).q) (fun a w hF hW => ?_)
      refine ls hF hW rfl ((y_neq hF rfl rfl).q) (fun a w hF hW => ?_)
      refine ls hF hW rfl ((y_move hF rfl).q) (fun a w hF hW => ?_)
      rcases Bool.eq_false_or_eq_true (decide (p1.2.1 ≠ p0.1)) with hb0 | hb0
      ·
        rw [hb0] at hF
        refine ls_skip hF (wanted_n hF rfl rfl rfl rfl rfl) rfl rfl (fun a hF => ?_)
        refine ls_skip hF (wanted_n hF rfl rfl rfl rfl rfl) rfl rfl (fun a hF => ?_)
        refine ls_skip hF (wanted_n hF rfl rfl rfl rfl rfl) rfl rfl (fun a hF => ?_)
        refine ls hF hW rfl ((y_pick_t hF rfl rfl rfl).q) (fun a w hF hW => ?_)
        refine ls hF hW rfl ((y_move hF rfl).q) (fun a w hF hW => ?_)
        refine ls_skip hF (wanted_n hF rfl rfl rfl rfl rfl) rfl rfl (fun a hF => ?_)
        refine ls_skip hF (wanted_n hF rfl rfl rfl rfl rfl) rfl rfl (fun a hF => ?_)
        refine ls_skip hF (wanted_n hF rfl rfl rfl rfl rfl) rfl rfl (fun a hF => ?_)
        refine ls hF hW rfl ((y_pick_t hF rfl rfl rfl).q) (fun a w hF hW => ?_)
        refine ls hF hW rfl ((y_move hF rfl).q) (fun a w hF hW => ?_)
        refine ls_skip hF (wanted_n hF rfl rfl rfl rfl rfl) rfl rfl (fun a hF => ?_)
        refine ls_skip hF (wanted_n hF rfl rfl rfl rfl rfl) rfl rfl (fun a hF => ?_)
        refine ls_skip hF (wanted_n hF rfl rfl rfl rfl rfl) rfl rfl (fun a hF => ?_)
        refine ls hF hW rfl ((y_pick_t hF rfl rfl rfl).q) (fun a w hF hW => ?_)
        refine ls_nil ?_
        refine c_then ?_
        exact ⟨hF.re ⟨rfl, rfl, rfl, (by show some (Value.bool true) = some (Value.bool (decide (p1.2.1 ≠ p0.1) || (decide (p1.2.2.2 ≠ 0) || (decide (p1.1 < 1) || decide (7 < p1.1))))); try rw [hb0]; all_goals simp only [Bool.not_true, Bool.not_false, Bool.true_and, Bool.false_and, Bool.true_or, Bool.false_or, Bool.and_true, Bool.or_false, cond_true, cond_false]), trivial⟩, hW⟩
      ·
        rw [hb0] at hF
        refine ls_w hF hW (wanted_y hF rfl rfl rfl rfl) rfl (Nat.le_of_ble_eq_true rfl) ((y_fieldAddr Tryd.underlying37 rfl rfl rfl T3 hF rfl 3 rfl).q) (fun a w hF hW => ?_)
        refine ls_w hF hW (wanted_y hF rfl rfl rfl rfl) rfl (Nat.le_of_ble_eq_true rfl) ((y_load (v := Value.int .i64 p1.2.2.2) 0 hF rfl rfl T3 rfl).q) (fun a w hF hW => ?_)
        refine ls_w hF hW (wanted_y hF rfl rfl rfl rfl) rfl (Nat.le_of_ble_eq_true rfl) ((y_neq hF rfl rfl).q) (fun a w hF hW => ?_)
        refine ls hF hW rfl ((y_pick_f hF rfl rfl rfl).q) (fun a w hF hW => ?_)
        refine ls hF hW rfl ((y_move hF rfl).q) (fun a w hF hW => ?_)
        rcases Bool.eq_false_or_eq_true (decide (p1.2.2.2 ≠ 0)) with hb1 | hb1
        ·
          rw [hb1] at hF
          refine ls_skip hF (wanted_n hF rfl rfl rfl rfl rfl) rfl rfl (fun a hF => ?_)
          refine ls_skip hF (wanted_n hF rfl rfl rfl rfl rfl) rfl rfl (fun a hF => ?_)
          refine ls_skip hF (wanted_n hF rfl rfl rfl rfl rfl) rfl rfl (fun a hF => ?_)
          refine ls hF hW rfl ((y_pick_t hF rfl rfl rfl).q) (fun a w hF hW => ?_)
          refine ls hF hW rfl ((y_move hF rfl).q) (fun a w hF hW => ?_)
          refine ls_skip hF (wanted_n hF rfl rfl rfl rfl rfl) rfl rfl (fun a hF => ?_)
          refine ls_skip hF (wanted_n hF rfl rfl rfl rfl rfl) rfl rfl (fun a hF => ?_)
          refine ls_skip hF (wanted_n hF rfl rfl rfl rfl rfl) rfl rfl (fun a hF => ?_)
          refine ls hF hW rfl ((y_pick_t hF rfl rfl rfl).q) (fun a w hF hW => ?_)
          refine ls_nil ?_
          refine c_then ?_
          exact ⟨hF.re ⟨rfl, rfl, rfl, (by show some (Value.bool true) = some (Value.bool (decide (p1.2.1 ≠ p0.1) || (decide (p1.2.2.2 ≠ 0) || (decide (p1.1 < 1) || decide (7 < p1.1))))); try rw [hb0]; try rw [hb1]; all_goals simp only [Bool.not_true, Bool.not_false, Bool.true_and, Bool.false_and, Bool.true_or, Bool.false_or, Bool.and_true, Bool.or_false, cond_true, cond_false]), trivial⟩, hW⟩
        ·
          rw [hb1] at hF
          refine ls_w hF hW (wanted_y hF rfl rfl rfl rfl) rfl (Nat.le_of_ble_eq_true rfl) ((y_fieldAddr Tryd.underlying37 rfl rfl rfl T3 hF rfl 0 rfl).q) (fun a w hF hW => ?_)
          refine ls_w hF hW (wanted_y hF rfl rfl rfl rfl) rfl (Nat.le_of_ble_eq_true rfl) ((y_load (v := Value.int .i64 p1.1) 0 hF rfl rfl T3 rfl).q) (fun a w hF hW => ?_)
          refine ls_w hF hW (wanted_y hF rfl rfl rfl rfl) rfl (Nat.le_of_ble_eq_true rfl) ((y_lss hF rfl rfl).q) (fun a w hF hW => ?_)
          refine ls hF hW rfl ((y_pick_f hF rfl rfl rfl).q) (fun a w hF hW => ?_)
          refine ls hF hW rfl ((y_move hF rfl).q) (fun a w hF hW => ?_)
          rcases Bool.eq_false_or_eq_true (decide (p1.1 < 1)) with hb2 | hb2
          ·
            rw [hb2] at hF
            refine ls_skip hF (wanted_n hF rfl rfl rfl rfl rfl) rfl rfl (fun a hF => ?_)
            refine ls_skip hF (wanted_n hF rfl rfl rfl rfl rfl) rfl rfl (fun a hF => ?_)
            refine ls_skip hF (wanted_n hF rfl rfl rfl rfl rfl) rfl rfl (fun a hF => ?_)
            refine ls hF hW rfl ((y_pick_t hF rfl rfl rfl).q) (fun a w hF hW => ?_)
            refine ls_nil ?_
            refine c_then ?_
            exact ⟨hF.re ⟨rfl, rfl, rfl, (by show some (Value.bool true) = some (Value.bool (decide (p1.2.1 ≠ p0.1) || (decide (p1.2.2.2 ≠ 0) || (decide (p1.1 < 1) || decide (7 < p1.1))))); try rw [hb0]; try rw [hb1]; try rw [hb2]; all_goals simp only [Bool.not_true, Bool.not_false, Bool.true_and, Bool.false_and, Bool.true_or, Bool.false_or, Bool.and_true, Bool.or_false, cond_true, cond_false]), trivial⟩, hW⟩
          ·
            rw [hb2] at hF
            refine ls_w hF hW (wanted_y hF rfl rfl rfl rfl) rfl (Nat.le_of_ble_eq_true rfl) ((y_fieldAddr Tryd.underlying37 rfl rfl rfl T3 hF rfl 0 rfl).q) (fun a w hF hW => ?_)
            refine ls_w hF hW (wanted_y hF rfl rfl rfl rfl) rfl (Nat.le_of_ble_eq_true rfl) ((y_load (v := Value.int .i64 p1.1) 0 hF rfl rfl T3 rfl).q) (fun a w hF hW => ?_)
            refine ls_w hF hW (wanted_y hF rfl rfl rfl rfl) rfl (Nat.le_of_ble_eq_true rfl) ((y_gtr hF rfl rfl).q) (fun a w hF hW => ?_)
            refine ls hF hW rfl ((y_pick_f hF rfl rfl rfl).q) (fun a w hF hW => ?_)
            refine ls_nil ?_
            refine c_then ?_
            exact ⟨hF.re ⟨rfl, rfl, rfl, (by show some (Value.bool (decide (7 < p1.1))) = some (Value.bool (decide (p1.2.1 ≠ p0.1) || (decide (p1.2.2.2 ≠ 0) || (decide (p1.1 < 1) || decide (7 < p1.1))))); try rw [hb0]; try rw [hb1]; try rw [hb2]; all_goals simp only [Bool.not_true, Bool.not_false, Bool.true_and, Bool.false_and, Bool.true_or, Bool.false_or, Bool.and_true, Bool.or_false, cond_true, cond_false]), trivial⟩, hW⟩
    rintro a w ⟨hF, hW⟩
    refine c_cond hF rfl (fun hb => ?_) (fun hb => ?_)
    ·
      have H := iteT hb H
      rw [hb] at hF
      clear hb
      refine c_seq ?_
      refine reg_list ?_
      refine ls hF hW rfl ((y_assign hF rfl).q) (fun a w hF hW => ?_)
      refine ls_nil ?_
      refine c_then ?_
      refine wp_ret ?_
      refine r_then ?_
      have H := Option.some.inj H
      subst H
      refine post1 (.inl rfl) hF hW rfl (rv_tmp hF rfl) ?_
      exact ⟨rfl, hW.done⟩
    ·
      have H := iteF (by rw [hb]; decide) H
      rw [hb] at hF
      clear hb
      refine wp_skip ?_
      refine c_then ?_
      refine c_seq ?_
      refine c_seq ?_
      refine reg_list ?_
      refine ls hF hW rfl ((y_fieldAddr Tryd.underlying37 rfl rfl rfl T3 hF rfl 0 rfl).q) (fun a w hF hW => ?_)
      refine ls hF hW rfl ((y_load (v := Value.int .i64 p1.1) 0 hF rfl rfl T3 rfl).q) (fun a w hF hW => ?_)
      refine ls hF hW rfl ((y_eql hF rfl rfl).q) (fun a w hF hW => ?_)
      refine ls_nil ?_
      refine c_then ?_
      refine c_cond hF rfl (fun hb => ?_) (fun hb => ?_)
      ·
        have H := iteT (of_decide_eq_true hb) H
        rw [hb] at hF
        clear hb
        obtain ⟨o1, G1, K1⟩ := bindE H
        refine c_seqJ (fun a w => ∃ x1 : Bool, some (x1) = some o1 ∧ Fr 171 [] [(2, .pointer (some ⟨b1, 0, none⟩)), (3, .pointer (some ⟨b2, 0, none⟩)), (4, .bool x1)] a ∧ Stw ⟨Y, [], w0⟩ [(b2, [.int .i64 p1.1, .int .i64 p1.2.1, .int .i64 p1.2.2.1, .int .i64 p1.2.2.2]), (b1, [.int .i64 p0.1, .int .i64 p0.2.1, .bool p0.2.2.1, .int .i64 p0.2.2.2.1, .int .i64 p0.2.2.2.2.1, .int .i64 p0.2.2.2.2.2.1, .bool p0.2.2.2.2.2.2.1, .bool p0.2.2.2.2.2.2.2.1, .int .i64 p0.2.2.2.2.2.2.2.2])] [] w) ?_ ?_
        ·
          have H := G1
          clear G1 K1
          refine reg_list ?_
          refine ls hF hW rfl ((y_fieldAddr Tryd.underlying27 rfl rfl rfl T4 hF rfl 2 rfl).q) (fun a w hF hW => ?_)
          refine ls hF hW rfl ((y_load (v := Value.bool p0.2.2.1) 1 hF rfl rfl T4 rfl).q) (fun a w hF hW => ?_)
          refine ls hF hW rfl ((y_not hF rfl).q) (fun a w hF hW => ?_)
          refine ls hF hW rfl ((y_move hF rfl).q) (fun a w hF hW => ?_)
          rcases Bool.eq_false_or_eq_true (!p0.2.2.1) with hb | hb
          ·
            have H := iteT hb H
            rw [hb] at hF
            clear hb
            refine ls_w hF hW (wanted_y hF rfl rfl rfl rfl) rfl (Nat.le_of_ble_eq_true rfl) ((y_fieldAddr Tryd.underlying37 rfl rfl rfl T3 hF rfl 2 rfl).q) (fun a w hF hW => ?_)
            refine ls_w hF hW (wanted_y hF rfl rfl rfl rfl) rfl (Nat.le_of_ble_eq_true rfl) ((y_load (v := Value.int .i64 p1.2.2.1) 0 hF rfl rfl T3 rfl).q) (fun a w hF hW => ?_)
            refine ls_w hF hW (wanted_y hF rfl rfl rfl rfl) rfl (Nat.le_of_ble_eq_true rfl) ((y_geq hF rfl rfl).q) (fun a w hF hW => ?_)
            refine ls hF hW rfl ((y_pick_t hF rfl rfl rfl).q) (fun a w hF hW => ?_)
            refine ls hF hW rfl ((y_move hF rfl).q) (fun a w hF hW => ?_)
            rcases Bool.eq_false_or_eq_true (decide (0 ≤ p1.2.2.1)) with hb | hb
            ·
              have H := iteT (of_decide_eq_true hb) H
              rw [hb] at hF
              clear hb
              refine ls_w hF hW (wanted_y hF rfl rfl rfl rfl) rfl (Nat.le_of_ble_eq_true rfl) ((y_fieldAddr Tryd.underlying37 rfl rfl rfl T3 hF rfl 2 rfl).q) (fun a w hF hW => ?_)
              refine ls_w hF hW (wanted_y hF rfl rfl rfl rfl) rfl (Nat.le_of_ble_eq_true rfl) ((y_load (v := Value.int .i64 p1.2.2.1) 0 hF rfl rfl T3 rfl).q) (fun a w hF hW => ?_)
              refine ls_w hF hW (wanted_y hF rfl rfl rfl rfl) rfl (Nat.le_of_ble_eq_true rfl) ((y_leq hF rfl rfl).q) (fun a w hF hW => ?_)
              refine ls hF hW rfl ((y_pick_t hF rfl rfl rfl).q) (fun a w hF hW => ?_)
              refine ls hF hW rfl ((y_move hF rfl).q) (fun a w hF hW => ?_)
              rcases Bool.eq_false_or_eq_true (decide (p1.2.2.1 ≤ 7)) with hb | hb
              ·
                have H := iteT (of_decide_eq_true hb) H
                rw [hb] at hF
                clear hb
                refine ls_w hF hW (wanted_y hF rfl rfl rfl rfl) rfl (Nat.le_of_ble_eq_true rfl) ((y_fieldAddr Tryd.underlying27 rfl rfl rfl T3 hF rfl 8 rfl).q) (fun a w hF hW => ?_)
                refine ls_w hF hW (wanted_y hF rfl rfl rfl rfl) rfl (Nat.le_of_ble_eq_true rfl) ((y_load (v := Value.int .i64 p0.2.2.2.2.2.2.2.2) 1 hF rfl rfl T3 rfl).q) (fun a w hF hW => ?_)
                refine ls_w hF hW (wanted_y hF rfl rfl rfl rfl) rfl (Nat.le_of_ble_eq_true rfl) ((y_gtr hF rfl rfl).q) (fun a w hF hW => ?_)
                refine ls hF hW rfl ((y_pick_t hF rfl rfl rfl).q) (fun a w hF hW => ?_)
                refine ls hF hW rfl ((y_move hF rfl).q) (fun a w hF hW => ?_)
                rcases Bool.eq_false_or_eq_true (decide (0 < p0.2.2.2.2.2.2.2.2)) with hb | hb
                ·
                  have H := iteT (of_decide_eq_true hb) H
                  rw [hb] at hF
                  clear hb
                  refine ls_w hF hW (wanted_y hF rfl rfl rfl rfl) rfl (Nat.le_of_ble_eq_true rfl) ((y_fieldAddr Tryd.underlying27 rfl rfl rfl T3 hF rfl 8 rfl).q) (fun a w hF hW => ?_)
                  refine ls_w hF hW (wanted_y hF rfl rfl rfl rfl) rfl (Nat.le_of_ble_eq_true rfl) ((y_load (v := Value.int .i64 p0.2.2.2.2.2.2.2.2) 1 hF rfl rfl T3 rfl).q) (fun a w hF hW => ?_)
                  refine ls_w hF hW (wanted_y hF rfl rfl rfl rfl) rfl (Nat.le_of_ble_eq_true rfl) ((y_fieldAddr Tryd.underlying37 rfl rfl rfl T3 hF rfl 2 rfl).q) (fun a w hF hW => ?_)
                  refine ls_w hF hW (wanted_y hF rfl rfl rfl rfl) rfl (Nat.le_of_ble_eq_true rfl) ((y_load (v := Value.int .i64 p1.2.2.1) 0 hF rfl rfl T3 rfl).q) (fun a w hF hW => ?_)
                  refine ls_g (wanted_y hF rfl rfl rfl rfl) ?_
                  obtain ⟨x2, h1, H⟩ := bindE H
                  refine ls hF hW rfl (y_call (v := Value.int .i64 x2) hF H32 rfl (fun w hW => r36_bit_c any w p0.2.2.2.2.2.2.2.2 p1.2.2.1 _ h1)) (fun a w hF hW => ?_)
                  refine ls_w hF hW (wanted_y hF rfl rfl rfl rfl) rfl (Nat.le_of_ble_eq_true rfl) ((y_eql hF rfl rfl).q) (fun a w hF hW => ?_)
                  refine ls hF hW rfl ((y_pick_t hF rfl rfl rfl).q) (fun a w hF hW => ?_)
                  refine ls hF hW rfl ((y_assign hF rfl).q) (fun a w hF hW => ?_)
                  refine ls_nil ?_
                  refine c_then ?_
                  have hW := hW.frontM (i := 1) rfl rfl
                  have hW := hW.frontM (i := 1) rfl rfl
                  exact ⟨_, H, hF.re ⟨rfl, rfl, rfl, trivial⟩, hW⟩
                ·
                  have H := iteF (of_decide_eq_false hb) H
                  rw [hb] at hF
                  clear hb
                  refine ls_skip hF (wanted_n hF rfl rfl rfl rfl rfl) rfl rfl (fun a hF => ?_)
                  refine ls_skip hF (wanted_n hF rfl rfl rfl rfl rfl) rfl rfl (fun a hF => ?_)
                  refine ls_skip hF (wanted_n hF rfl rfl rfl rfl rfl) rfl rfl (fun a hF => ?_)
                  refine ls_skip hF (wanted_n hF rfl rfl rfl rfl rfl) rfl rfl (fun a hF => ?_)
                  refine ls_skip hF (wanted_n hF rfl rfl rfl rfl rfl) rfl rfl (fun a hF => ?_)
                  refine ls_skip hF (wanted_n hF rfl rfl rfl rfl rfl) rfl rfl (fun a hF => ?_)
                  refine ls hF hW rfl ((y_pick_f hF rfl rfl rfl).q) (fun a w hF hW => ?_)
                  refine ls hF hW rfl ((y_assign hF rfl).q) (fun a w hF hW => ?_)
                  refine ls_nil ?_
                  refine c_then ?_
                  have hW := hW.frontM (i := 1) rfl rfl
                  have hW := hW.frontM (i := 1) rfl rfl
                  exact ⟨_, H, hF.re ⟨rfl, rfl, rfl, trivial⟩, hW⟩
              ·
                have H := iteF (of_decide_eq_false hb) H
                rw [hb] at hF
                clear hb
                refine ls_skip hF (wanted_n hF rfl rfl rfl rfl rfl) rfl rfl (fun a hF => ?_)
                refine ls_skip hF (wanted_n hF rfl rfl rfl rfl rfl) rfl rfl (fun a hF => ?_)
                refine ls_skip hF (wanted_n hF rfl rfl rfl rfl rfl) rfl rfl (fun a hF => ?_)
                refine ls hF hW rfl ((y_pick_f hF rfl rfl rfl).q) (fun a w hF hW => ?_)
                refine ls hF hW rfl ((y_move hF rfl).q) (fun a w hF hW => ?_)
                refine ls_skip hF (wanted_n hF rfl rfl rfl rfl rfl) rfl rfl (fun a hF => ?_)
                refine ls_skip hF (wanted_n hF rfl rfl rfl rfl rfl) rfl rfl (fun a hF => ?_)
                refine ls_skip hF (wanted_n hF rfl rfl rfl rfl rfl) rfl rfl (fun a hF => ?_)
                refine ls_skip hF (wanted_n hF rfl rfl rfl rfl rfl) rfl rfl (fun a hF => ?_)
                refine ls_skip hF (wanted_n hF rfl rfl rfl rfl rfl) rfl rfl (fun a hF => ?_)
                refine ls_skip hF (wanted_n hF rfl rfl rfl rfl rfl) rfl rfl (fun a hF => ?_)
                refine ls hF hW rfl ((y_pick_f hF rfl rfl rfl).q) (fun a w hF hW => ?_)
                refine ls hF hW rfl ((y_assign hF rfl).q) (fun a w hF hW => ?_)
                refine ls_nil ?_
                refine c_then ?_
                have hW := hW.frontM (i := 1) rfl rfl
                have hW := hW.frontM (i := 1) rfl rfl
                exact ⟨_, H, hF.re ⟨rfl, rfl, rfl, trivial⟩, hW⟩
            ·
              have H := iteF (of_decide_eq_false hb) H
              rw [hb] at hF
              clear hb
              refine ls_skip hF (wanted_n hF rfl rfl rfl rfl rfl) rfl rfl (fun a hF => ?_)
              refine ls_skip hF (wanted_n hF rfl rfl rfl rfl rfl) rfl rfl (fun a hF => ?_)
              refine ls_skip hF (wanted_n hF rfl rfl rfl rfl rfl) rfl rfl (fun a hF => ?_)
              refine ls hF hW rfl ((y_pick_f hF rfl rfl rfl).q) (fun a w hF hW => ?_)
              refine ls hF hW rfl ((y_move hF rfl).q) (fun a w hF hW => ?_)
              refine ls_skip hF (wanted_n hF rfl rfl rfl rfl rfl) rfl rfl (fun a hF => ?_)
              refine ls_skip hF (wanted_n hF rfl rfl rfl rfl rfl) rfl rfl (fun a hF => ?_)
              refine ls_skip hF (wanted_n hF rfl rfl rfl rfl rfl) rfl rfl (fun a hF => ?_)
              refine ls hF hW rfl ((y_pick_f hF rfl rfl rfl).q) (fun a w hF hW => ?_)
              refine ls hF hW rfl ((y_move hF rfl).q) (fun a w hF hW => ?_)
              refine ls_skip hF (wanted_n hF rfl rfl rfl rfl rfl) rfl rfl (fun a hF => ?_)
              refine ls_skip hF (wanted_n hF rfl rfl rfl rfl rfl) rfl rfl (fun a hF => ?_)
              refine ls_skip hF (wanted_n hF rfl rfl rfl rfl rfl) rfl rfl (fun a hF => ?_)
              refine ls_skip hF (wanted_n hF rfl rfl rfl rfl rfl) rfl rfl (fun a hF => ?_)
              refine ls_skip hF (wanted_n hF rfl rfl rfl rfl rfl) rfl rfl (fun a hF => ?_)
              refine ls_skip hF (wanted_n hF rfl rfl rfl rfl rfl) rfl rfl (fun a hF => ?_)
              refine ls hF hW rfl ((y_pick_f hF rfl rfl rfl).q) (fun a w hF hW => ?_)
              refine ls hF hW rfl ((y_assign hF rfl).q) (fun a w hF hW => ?_)
              refine ls_nil ?_
              refine c_then ?_
              have hW := hW.frontM (i := 1) rfl rfl
              have hW := hW.frontM (i := 1) rfl rfl
              exact ⟨_, H, hF.re ⟨rfl, rfl, rfl, trivial⟩, hW⟩
          ·
            have H := iteF (by rw [hb]; decide) H
            rw [hb] at hF
            clear hb
            refine ls_skip hF (wanted_n hF rfl rfl rfl rfl rfl) rfl rfl (fun a hF => ?_)
            refine ls_skip hF (wanted_n hF rfl rfl rfl rfl rfl) rfl rfl (fun a hF => ?_)
            refine ls_skip hF (wanted_n hF rfl rfl rfl rfl rfl) rfl rfl (fun a hF => ?_)
            refine ls hF hW rfl ((y_pick_f hF rfl rfl rfl).q) (fun a w hF hW => ?_)
            refine ls hF hW rfl ((y_move hF rfl).q) (fun a w hF hW => ?_)
            refine ls_skip hF (wanted_n hF rfl rfl rfl rfl rfl) rfl rfl (fun a hF => ?_)
            refine ls_skip hF (wanted_n hF rfl rfl rfl rfl rfl) rfl rfl (fun a hF => ?_)
            refine ls_skip hF (wanted_n hF rfl rfl rfl rfl rfl) rfl rfl (fun a hF => ?_)
            refine ls hF hW rfl ((y_pick_f hF rfl rfl rfl).q) (fun a w hF hW => ?_)
            refine ls hF hW rfl ((y_move hF rfl).q) (fun a w hF hW => ?_)
            refine ls_skip hF (wanted_n hF rfl rfl rfl rfl rfl) rfl rfl (fun a hF => ?_)
            refine ls_skip hF (wanted_n hF rfl rfl rfl rfl rfl) rfl rfl (fun a hF => ?_)
            refine ls_skip hF (wanted_n hF rfl rfl rfl rfl rfl) rfl rfl (fun a hF => ?_)
            refine ls hF hW rfl ((y_pick_f hF rfl rfl rfl).q) (fun a w hF hW => ?_)
            refine ls hF hW rfl ((y_move hF rfl).q) (fun a w hF hW => ?_)
            refine ls_skip hF (wanted_n hF rfl rfl rfl rfl rfl) rfl rfl (fun a hF => ?_)
            refine ls_skip hF (wanted_n hF rfl rfl rfl rfl rfl) rfl rfl (fun a hF => ?_)
            refine ls_skip hF (wanted_n hF rfl rfl rfl rfl rfl) rfl rfl (fun a hF => ?_)
            refine ls_skip hF (wanted_n hF rfl rfl rfl rfl rfl) rfl rfl (fun a hF => ?_)
            refine ls_skip hF (wanted_n hF rfl rfl rfl rfl rfl) rfl rfl (fun a hF => ?_)
            refine ls_skip hF (wanted_n hF rfl rfl rfl rfl rfl) rfl rfl (fun a hF => ?_)
            refine ls hF hW rfl ((y_pick_f hF rfl rfl rfl).q) (fun a w hF hW => ?_)
            refine ls hF hW rfl ((y_assign hF rfl).q) (fun a w hF hW => ?_)
            refine ls_nil ?_
            refine c_then ?_
            have hW := hW.frontM (i := 1) rfl rfl
            have hW := hW.frontM (i := 1) rfl rfl
            exact ⟨_, H, hF.re ⟨rfl, rfl, rfl, trivial⟩, hW⟩
        rintro a w ⟨x1, hj, hF, hW⟩
        have hj := Option.some.inj hj
        subst hj
        have H := K1
        clear G1 K1
        refine wp_ret ?_
        refine r_then ?_
        have H := Option.some.inj H
        subst H
        refine post1 (.inl rfl) hF hW rfl (rv_tmp hF rfl) ?_
        exact ⟨rfl, hW.done⟩
      ·
        have H := iteF (of_decide_eq_false hb) H
        rw [hb] at hF
        clear hb
        refine wp_skip ?_
        refine c_then ?_
        refine c_seq ?_
        refine c_seq ?_
        refine reg_list ?_
        refine ls hF hW rfl ((y_fieldAddr Tryd.underlying27 rfl rfl rfl T4 hF rfl 2 rfl).q) (fun a w hF hW => ?_)
        refine ls hF hW rfl ((y_load (v := Value.bool p0.2.2.1) 1 hF rfl rfl T4 rfl).q) (fun a w hF hW => ?_)
        refine ls hF hW rfl ((y_not hF rfl).q) (fun a w hF hW => ?_)
        refine ls_nil ?_
        refine c_then ?_
        refine c_cond hF rfl (fun hb => ?_) (fun hb => ?_)
        ·
          have H := iteT hb H
          rw [hb] at hF
          clear hb
          refine c_seq ?_
          refine reg_list ?_
          refine ls hF hW rfl ((y_assign hF rfl).q) (fun a w hF hW => ?_)
          refine ls_nil ?_
          refine c_then ?_
          refine wp_ret ?_
          refine r_then ?_
          have H := Option.some.inj H
          subst H
          refine post1 (.inl rfl) hF hW rfl (rv_tmp hF rfl) ?_
          exact ⟨rfl, hW.done⟩
        ·
          have H := iteF (by rw [hb]; decide) H
          rw [hb] at hF
          clear hb
          refine wp_skip ?_
          refine c_then ?_
          refine c_seq ?_
          refine c_seq ?_
          refine reg_list ?_
          refine ls hF hW rfl ((y_fieldAddr Tryd.underlying37 rfl rfl rfl T3 hF rfl 0 rfl).q) (fun a w hF hW => ?_)
          refine ls hF hW rfl ((y_load (v := Value.int .i64 p1.1) 0 hF rfl rfl T3 rfl).q) (fun a w hF hW => ?_)
          refine ls hF hW rfl ((y_eql hF rfl rfl).q) (fun a w hF hW => ?_)
          refine ls_nil ?_
          refine c_then ?_
          refine c_cond hF rfl (fun hb => ?_) (fun hb => ?_)
          ·
            have H := iteT (of_decide_eq_true hb) H
            rw [hb] at hF
            clear hb
            refine c_seqJ (fun a w => Fr 171 [] [(2, .pointer (some ⟨b1, 0, none⟩)), (3, .pointer (some ⟨b2, 0, none⟩)), (4, .bool (!p0.2.2.2.2.2.2.1 && (!p0.2.2.2.2.2.2.2.1 && (decide (p1.2.2.1 = p0.2.2.2.2.2.1) && (decide (p0.2.2.2.2.2.1 < 8) && decide (0 ≤ p0.2.2.2.2.2.1))))))] a ∧ Stw ⟨Y, [], w0⟩ [(b2, [.int .i64 p1.1, .int .i64 p1.2.1, .int .i64 p1.2.2.1, .int .i64 p1.2.2.2]), (b1, [.int .i64 p0.1, .int .i64 p0.2.1, .bool p0.2.2.1, .int .i64 p0.2.2.2.1, .int .i64 p0.2.2.2.2.1, .int .i64 p0.2.2.2.2.2.1, .bool p0.2.2.2.2.2.2.1, .bool p0.2.2.2.2.2.2.2.1, .int .i64 p0.2.2.2.2.2.2.2.2])] [] w) ?_ ?_
            ·
              refine reg_list ?_
              refine ls hF hW rfl ((y_fieldAddr Tryd.underlying27 rfl rfl rfl T4 hF rfl 6 rfl).q) (fun a w hF hW => ?_)
              refine ls hF hW rfl ((y_load (v := Value.bool p0.2.2.2.2.2.2.1) 1 hF rfl rfl T4 rfl).q) (fun a w hF hW => ?_)
              refine ls hF hW rfl ((y_not hF rfl).q) (fun a w hF hW => ?_)
              refine ls hF hW rfl ((y_move hF rfl).q) (fun a w hF hW => ?_)
              rcases Bool.eq_false_or_eq_true (!p0.2.2.2.2.2.2.1) with hb0 | hb0
              ·
                rw [hb0] at hF
                refine ls_w hF hW (wanted_y hF rfl rfl rfl rfl) rfl (Nat.le_of_ble_eq_true rfl) ((y_fieldAddr Tryd.underlying27 rfl rfl rfl T4 hF rfl 7 rfl).q) (fun a w hF hW => ?_)
                refine ls_w hF hW (wanted_y hF rfl rfl rfl rfl) rfl (Nat.le_of_ble_eq_true rfl) ((y_load (v := Value.bool p0.2.2.2.2.2.2.2.1) 1 hF rfl rfl T4 rfl).q) (fun a w hF hW => ?_)
                refine ls_w hF hW (wanted_y hF rfl rfl rfl rfl) rfl (Nat.le_of_ble_eq_true rfl) ((y_not hF rfl).q) (fun a w hF hW => ?_)
                refine ls hF hW rfl ((y_pick_t hF rfl rfl rfl).q) (fun a w hF hW => ?_)
                refine ls hF hW rfl ((y_move hF rfl).q) (fun a w hF hW => ?_)
                rcases Bool.eq_false_or_eq_true (!p0.2.2.2.2.2.2.2.1) with hb1 | hb1
                ·
                  rw [hb1] at hF
                  refine ls_w hF hW (wanted_y hF rfl rfl rfl rfl) rfl (Nat.le_of_ble_eq_true rfl) ((y_fieldAddr Tryd.underlying37 rfl rfl rfl T3 hF rfl 2 rfl).q) (fun a w hF hW => ?_)
                  refine ls_w hF hW (wanted_y hF rfl rfl rfl rfl) rfl (Nat.le_of_ble_eq_true rfl) ((y_load (v := Value.int .i64 p1.2.2.1) 0 hF rfl rfl T3 rfl).q) (fun a w hF hW => ?_)
                  refine ls_w hF hW (wanted_y hF rfl rfl rfl rfl) rfl (Nat.le_of_ble_eq_true rfl) ((y_fieldAddr Tryd.underlying27 rfl rfl rfl T3 hF rfl 5 rfl).q) (fun a w hF hW => ?_)
                  refine ls_w hF hW (wanted_y hF rfl rfl rfl rfl) rfl (Nat.le_of_ble_eq_true rfl) ((y_load (v := Value.int .i64 p0.2.2.2.2.2.1) 1 hF rfl rfl T3 rfl).q) (fun a w hF hW => ?_)
                  refine ls_w hF hW (wanted_y hF rfl rfl rfl rfl) rfl (Nat.le_of_ble_eq_true rfl) ((y_eql hF rfl rfl).q) (fun a w hF hW => ?_)
                  refine ls hF hW rfl ((y_pick_t hF rfl rfl rfl).q) (fun a w hF hW => ?_)
                  refine ls hF hW rfl ((y_move hF rfl).q) (fun a w hF hW => ?_)
                  rcases Bool.eq_false_or_eq_true (decide (p1.2.2.1 = p0.2.2.2.2.2.1)) with hb2 | hb2
                  ·
                    rw [hb2] at hF
                    refine ls_w hF hW (wanted_y hF rfl rfl rfl rfl) rfl (Nat.le_of_ble_eq_true rfl) ((y_fieldAddr Tryd.underlying27 rfl rfl rfl T3 hF rfl 5 rfl).q) (fun a w hF hW => ?_)
                    refine ls_w hF hW (wanted_y hF rfl rfl rfl rfl) rfl (Nat.le_of_ble_eq_true rfl) ((y_load (v := Value.int .i64 p0.2.2.2.2.2.1) 1 hF rfl rfl T3 rfl).q) (fun a w hF hW => ?_)
                    refine ls_w hF hW (wanted_y hF rfl rfl rfl rfl) rfl (Nat.le_of_ble_eq_true rfl) ((y_lss hF rfl rfl).q) (fun a w hF hW => ?_)
                    refine ls hF hW rfl ((y_pick_t hF rfl rfl rfl).q) (fun a w hF hW => ?_)
                    refine ls hF hW rfl ((y_move hF rfl).q) (fun a w hF hW => ?_)
                    rcases Bool.eq_false_or_eq_true (decide (p0.2.2.2.2.2.1 < 8)) with hb3 | hb3
                    ·
                      rw [hb3] at hF
                      refine ls_w hF hW (wanted_y hF rfl rfl rfl rfl) rfl (Nat.le_of_ble_eq_true rfl) ((y_fieldAddr Tryd.underlying27 rfl rfl rfl T3 hF rfl 5 rfl).q) (fun a w hF hW => ?_)
                      refine ls_w hF hW (wanted_y hF rfl rfl rfl rfl) rfl (Nat.le_of_ble_eq_true rfl) ((y_load (v := Value.int .i64 p0.2.2.2.2.2.1) 1 hF rfl rfl T3 rfl).q) (fun a w hF hW => ?_)
                      refine ls_w hF hW (wanted_y hF rfl rfl rfl rfl) rfl (Nat.le_of_ble_eq_true rfl) ((y_geq hF rfl rfl).q) (fun a w hF hW => ?_)
                      refine ls hF hW rfl ((y_pick_t hF rfl rfl rfl).q) (fun a w hF hW => ?_)
                      refine ls hF hW rfl ((y_assign hF rfl).q) (fun a w hF hW => ?_)
                      refine ls_nil ?_
                      refine c_then ?_
                      exact ⟨hF.re ⟨rfl, rfl, (by show some (Value.bool (decide (0 ≤ p0.2.2.2.2.2.1))) = some (Value.bool (!p0.2.2.2.2.2.2.1 && (!p0.2.2.2.2.2.2.2.1 && (decide (p1.2.2.1 = p0.2.2.2.2.2.1) && (decide (p0.2.2.2.2.2.1 < 8) && decide (0 ≤ p0.2.2.2.2.2.1)))))); try rw [hb2]; try rw [hb3]; try rw [hb1]; try rw [hb0]; all_goals simp only [Bool.not_true, Bool.not_false, Bool.true_and, Bool.false_and, Bool.true_or, Bool.false_or, Bool.and_true, Bool.or_false, cond_true, cond_false]), trivial⟩, hW⟩
                    ·
                      rw [hb3] at hF
                      refine ls_skip hF (wanted_n hF rfl rfl rfl rfl rfl) rfl rfl (fun a hF => ?_)
                      refine ls_skip hF (wanted_n hF rfl rfl rfl rfl rfl) rfl rfl (fun a hF => ?_)
                      refine ls_skip hF (wanted_n hF rfl rfl rfl rfl rfl) rfl rfl (fun a hF => ?_)
                      refine ls hF hW rfl ((y_pick_f hF rfl rfl rfl).q) (fun a w hF hW => ?_)
                      refine ls hF hW rfl ((y_assign hF rfl).q) (fun a w hF hW => ?_)
                      refine ls_nil ?_
                      refine c_then ?_
                      exact ⟨hF.re ⟨rfl, rfl, (by show some (Value.bool false) = some (Value.bool (!p0.2.2.2.2.2.2.1 && (!p0.2.2.2.2.2.2.2.1 && (decide (p1.2.2.1 = p0.2.2.2.2.2.1) && (decide (p0.2.2.2.2.2.1 < 8) && decide (0 ≤ p0.2.2.2.2.2.1)))))); try rw [hb2]; try rw [hb3]; try rw [hb1]; try rw [hb0]; all_goals simp only [Bool.not_true, Bool.not_false, Bool.true_and, Bool.false_and, Bool.true_or, Bool.false_or, Bool.and_true, Bool.or_false, cond_true, cond_false]), trivial⟩, hW⟩
                  ·
                    rw [hb2] at hF
                    refine ls_skip hF (wanted_n hF rfl rfl rfl rfl rfl) rfl rfl (fun a hF => ?_)
                    refine ls_skip hF (wanted_n hF rfl rfl rfl rfl rfl) rfl rfl (fun a hF => ?_)
                    refine ls_skip hF (wanted_n hF rfl rfl rfl rfl rfl) rfl rfl (fun a hF => ?_)
                    refine ls hF hW rfl ((y_pick_f hF rfl rfl rfl).q) (fun a w hF hW => ?_)
                    refine ls hF hW rfl ((y_move hF rfl).q) (fun a w hF hW => ?_)
                    refine ls_skip hF (wanted_n hF rfl rfl rfl rfl rfl) rfl rfl (fun a hF => ?_)
                    refine ls_skip hF (wanted_n hF rfl rfl rfl rfl rfl) rfl rfl (fun a hF => ?_)
                    refine ls_skip hF (wanted_n hF rfl rfl rfl rfl rfl) rfl rfl (fun a hF => ?_)
                    refine ls hF hW rfl ((y_pick_f hF rfl rfl rfl).q) (fun a w hF hW => ?_)
                    refine ls hF hW rfl ((y_assign hF rfl).q) (fun a w hF hW => ?_)
                    refine ls_nil ?_
                    refine c_then ?_
                    exact ⟨hF.re ⟨rfl, rfl, (by show some (Value.bool false) = some (Value.bool (!p0.2.2.2.2.2.2.1 && (!p0.2.2.2.2.2.2.2.1 && (decide (p1.2.2.1 = p0.2.2.2.2.2.1) && (decide (p0.2.2.2.2.2.1 < 8) && decide (0 ≤ p0.2.2.2.2.2.1)))))); try rw [hb2]; try rw [hb1]; try rw [hb0]; all_goals simp only [Bool.not_true, Bool.not_false, Bool.true_and, Bool.false_and, Bool.true_or, Bool.false_or, Bool.and_true, Bool.or_false, cond_true, cond_false]), trivial⟩, hW⟩
                ·
                  rw [hb1] at hF
                  refine ls_skip hF (wanted_n hF rfl rfl rfl rfl rfl) rfl rfl (fun a hF => ?_)
                  refine ls_skip hF (wanted_n hF rfl rfl rfl rfl rfl) rfl rfl (fun a hF => ?_)
                  refine ls_skip hF (wanted_n hF rfl rfl rfl rfl rfl) rfl rfl (fun a hF => ?_)
                  refine ls_skip hF (wanted_n hF rfl rfl rfl rfl rfl) rfl rfl (fun a hF => ?_)
                  refine ls_skip hF (wanted_n hF rfl rfl rfl rfl rfl) rfl rfl (fun a hF => ?_)
                  refine ls hF hW rfl ((y_pick_f hF rfl rfl rfl).q) (fun a w hF hW => ?_)
                  refine ls hF hW rfl ((y_move hF rfl).q) (fun a w hF hW => ?_)
                  refine ls_skip hF (wanted_n hF rfl rfl rfl rfl rfl) rfl rfl (fun a hF => ?_)
                  refine ls_skip hF (wanted_n hF rfl rfl rfl rfl rfl) rfl rfl (fun a hF => ?_)
                  refine ls_skip hF (wanted_n hF rfl rfl rfl rfl rfl) rfl rfl (fun a hF => ?_)
                  refine ls hF hW rfl ((y_pick_f hF rfl rfl rfl).q) (fun a w hF hW => ?_)
                  refine ls hF hW rfl ((y_move hF rfl).q) (fun a w hF hW => ?_)
                  refine ls_skip hF (wanted_n hF rfl rfl rfl rfl rfl) rfl rfl (fun a hF => ?_)
                  refine ls_skip hF (wanted_n hF rfl rfl rfl rfl rfl) rfl rfl (fun a hF => ?_)
                  refine ls_skip hF (wanted_n hF rfl rfl rfl rfl rfl) rfl rfl (fun a hF => ?_)
                  refine ls hF hW rfl ((y_pick_f hF rfl rfl rfl).q) (fun a w hF hW => ?_)
                  refine ls hF hW rfl ((y_assign hF rfl).q) (fun a w hF hW => ?_)
                  refine ls_nil ?_
                  refine c_then ?_
                  exact ⟨hF.re ⟨rfl, rfl, (by show some (Value.bool false) = some (Value.bool (!p0.2.2.2.2.2.2.1 && (!p0.2.2.2.2.2.2.2.1 && (decide (p1.2.2.1 = p0.2.2.2.2.2.1) && (decide (p0.2.2.2.2.2.1 < 8) && decide (0 ≤ p0.2.2.2.2.2.1)))))); try rw [hb1]; try rw [hb0]; all_goals simp only [Bool.not_true, Bool.not_false, Bool.true_and, Bool.false_and, Bool.true_or, Bool.false_or, Bool.and_true, Bool.or_false, cond_true, cond_false]), trivial⟩, hW⟩
              ·
                rw [hb0] at hF
                refine ls_skip hF (wanted_n hF rfl rfl rfl rfl rfl) rfl rfl (fun a hF => ?_)
                refine ls_skip hF (wanted_n hF rfl rfl rfl rfl rfl) rfl rfl (fun a hF => ?_)
                refine ls_skip hF (wanted_n hF rfl rfl rfl rfl rfl) rfl rfl (fun a hF => ?_)
                refine ls hF hW rfl ((y_pick_f hF rfl rfl rfl).q) (fun a w hF hW => ?_)
                refine ls hF hW rfl ((y_move hF rfl).q) (fun a w hF hW => ?_)
                refine ls_skip hF (wanted_n hF rfl rfl rfl rfl rfl) rfl rfl (fun a hF => ?_)
                refine ls_skip hF (wanted_n hF rfl rfl rfl rfl rfl) rfl rfl (fun a hF => ?_)
                refine ls_skip hF (wanted_n hF rfl rfl rfl rfl rfl) rfl rfl (fun a hF => ?_)
                refine ls_skip hF (wanted_n hF rfl rfl rfl rfl rfl) rfl rfl (fun a hF => ?_)
                refine ls_skip hF (wanted_n hF rfl rfl rfl rfl rfl) rfl rfl (fun a hF => ?_)
                refine ls hF hW rfl ((y_pick_f hF rfl rfl rfl).q) (fun a w hF hW => ?_)
                refine ls hF hW rfl ((y_move hF rfl).q) (fun a w hF hW => ?_)
                refine ls_skip hF (wanted_n hF rfl rfl rfl rfl rfl) rfl rfl (fun a hF => ?_)
                refine ls_skip hF (wanted_n hF rfl rfl rfl rfl rfl) rfl rfl (fun a hF => ?_)
                refine ls_skip hF (wanted_n hF rfl rfl rfl rfl rfl) rfl rfl (fun a hF => ?_)
                refine ls hF hW rfl ((y_pick_f hF rfl rfl rfl).q) (fun a w hF hW => ?_)
                refine ls hF hW rfl ((y_move hF rfl).q) (fun a w hF hW => ?_)
                refine ls_skip hF (wanted_n hF rfl rfl rfl rfl rfl) rfl rfl (fun a hF => ?_)
                refine ls_skip hF (wanted_n hF rfl rfl rfl rfl rfl) rfl rfl (fun a hF => ?_)
                refine ls_skip hF (wanted_n hF rfl rfl rfl rfl rfl) rfl rfl (fun a hF => ?_)
                refine ls hF hW rfl ((y_pick_f hF rfl rfl rfl).q) (fun a w hF hW => ?_)
                refine ls hF hW rfl ((y_assign hF rfl).q) (fun a w hF hW => ?_)
                refine ls_nil ?_
                refine c_then ?_
                exact ⟨hF.re ⟨rfl, rfl, (by show some (Value.bool false) = some (Value.bool (!p0.2.2.2.2.2.2.1 && (!p0.2.2.2.2.2.2.2.1 && (decide (p1.2.2.1 = p0.2.2.2.2.2.1) && (decide (p0.2.2.2.2.2.1 < 8) && decide (0 ≤ p0.2.2.2.2.2.1)))))); try rw [hb0]; all_goals simp only [Bool.not_true, Bool.not_false, Bool.true_and, Bool.false_and, Bool.true_or, Bool.false_or, Bool.and_true, Bool.or_false, cond_true, cond_false]), trivial⟩, hW⟩
            rintro a w ⟨hF, hW⟩
            refine wp_ret ?_
            refine r_then ?_
            have H := Option.some.inj H
            subst H
            refine post1 (.inl rfl) hF hW rfl (rv_tmp hF rfl) ?_
            exact ⟨rfl, hW.done⟩
          ·
            have H := iteF (of_decide_eq_false hb) H
            rw [hb] at hF
            clear hb
            refine wp_skip ?_
            refine c_then ?_
            refine c_seq ?_
            refine c_seq ?_
            refine reg_list ?_
            refine ls hF hW rfl ((y_fieldAddr Tryd.underlying37 rfl rfl rfl T3 hF rfl 0 rfl).q) (fun a w hF hW => ?_)
            refine ls hF hW rfl ((y_load (v := Value.int .i64 p1.1) 0 hF rfl rfl T3 rfl).q) (fun a w hF hW => ?_)
            refine ls hF hW rfl ((y_eql hF rfl rfl).q) (fun a w hF hW => ?_)
            refine ls_nil ?_
            refine c_then ?_
            refine c_cond hF rfl (fun hb => ?_) (fun hb => ?_)
            ·
              have H := iteT (of_decide_eq_true hb) H
              rw [hb] at hF
              clear hb
              refine c_seqJ (fun a w => Fr 171 [] [(2, .pointer (some ⟨b1, 0, none⟩)), (3, .pointer (some ⟨b2, 0, none⟩)), (4, .bool (p0.2.2.2.2.2.2.2.1 && (decide (0 ≤ p1.2.2.1) && decide (p1.2.2.1 ≤ 255))))] a ∧ Stw ⟨Y, [], w0⟩ [(b2, [.int .i64 p1.1, .int .i64 p1.2.1, .int .i64 p1.2.2.1, .int .i64 p1.2.2.2]), (b1, [.int .i64 p0.1, .int .i64 p0.2.1, .bool p0.2.2.1, .int .i64 p0.2.2.2.1, .int .i64 p0.2.2.2.2.1, .int .i64 p0.2.2.2.2.2.1, .bool p0.2.2.2.2.2.2.1, .bool p0.2.2.2.2.2.2.2.1, .int .i64 p0.2.2.2.2.2.2.2.2])] [] w) ?_ ?_
              ·
                refine reg_list ?_
                refine ls hF hW rfl ((y_fieldAddr Tryd.underlying27 rfl rfl rfl T4 hF rfl 7 rfl).q) (fun a w hF hW => ?_)
                refine ls hF hW rfl ((y_load (v := Value.bool p0.2.2.2.2.2.2.2.1) 1 hF rfl rfl T4 rfl).q) (fun a w hF hW => ?_)
                refine ls hF hW rfl ((y_move hF rfl).q) (fun a w hF hW => ?_)
                rcases Bool.eq_false_or_eq_true p0.2.2.2.2.2.2.2.1 with hb0 | hb0
                ·
                  rw [hb0] at hF
                  refine ls_w hF hW (wanted_y hF rfl rfl rfl rfl) rfl (Nat.le_of_ble_eq_true rfl) ((y_fieldAddr Tryd.underlying37 rfl rfl rfl T3 hF rfl 2 rfl).q) (fun a w hF hW => ?_)
                  refine ls_w hF hW (wanted_y hF rfl rfl rfl rfl) rfl (Nat.le_of_ble_eq_true rfl) ((y_load (v := Value.int .i64 p1.2.2.1) 0 hF rfl rfl T3 rfl).q) (fun a w hF hW => ?_)
                  refine ls_w hF hW (wanted_y hF rfl rfl rfl rfl) rfl (Nat.le_of_ble_eq_true rfl) ((y_geq hF rfl rfl).q) (fun a w hF hW => ?_)
                  refine ls hF hW rfl ((y_pick_t hF rfl rfl rfl).q) (fun a w hF hW => ?_)
                  refine ls hF hW rfl ((y_move hF rfl).q) (fun a w hF hW => ?_)
                  rcases Bool.eq_false_or_eq_true (decide (0 ≤ p1.2.2.1)) with hb1 | hb1
                  ·
                    rw [hb1] at hF
                    refine ls_w hF hW (wanted_y hF rfl rfl rfl rfl) rfl (Nat.le_of_ble_eq_true rfl) ((y_fieldAddr Tryd.underlying37 rfl rfl rfl T3 hF rfl 2 rfl).q) (fun a w hF hW => ?_)
                    refine ls_w hF hW (wanted_y hF rfl rfl rfl rfl) rfl (Nat.le_of_ble_eq_true rfl) ((y_load (v := Value.int .i64 p1.2.2.1) 0 hF rfl rfl T3 rfl).q) (fun a w hF hW => ?_)
                    refine ls_w hF hW (wanted_y hF rfl rfl rfl rfl) rfl (Nat.le_of_ble_eq_true rfl) ((y_leq hF rfl rfl).q) (fun a w hF hW => ?_)
                    refine ls hF hW rfl ((y_pick_t hF rfl rfl rfl).q) (fun a w hF hW => ?_)
                    refine ls hF hW rfl ((y_assign hF rfl).q) (fun a w hF hW => ?_)
                    refine ls_nil ?_
                    refine c_then ?_
                    exact ⟨hF.re ⟨rfl, rfl, (by show some (Value.bool (decide (p1.2.2.1 ≤ 255))) = some (Value.bool (p0.2.2.2.2.2.2.2.1 && (decide (0 ≤ p1.2.2.1) && decide (p1.2.2.1 ≤ 255)))); try rw [hb1]; try rw [hb0]; all_goals simp only [Bool.not_true, Bool.not_false, Bool.true_and, Bool.false_and, Bool.true_or, Bool.false_or, Bool.and_true, Bool.or_false, cond_true, cond_false]), trivial⟩, hW⟩
                  ·
                    rw [hb1] at hF
                    refine ls_skip hF (wanted_n hF rfl rfl rfl rfl rfl) rfl rfl (fun a hF => ?_)
                    refine ls_skip hF (wanted_n hF rfl rfl rfl rfl rfl) rfl rfl (fun a hF => ?_)
                    refine ls_skip hF (wanted_n hF rfl rfl rfl rfl rfl) rfl rfl (fun a hF => ?_)
                    refine ls hF hW rfl ((y_pick_f hF rfl rfl rfl).q) (fun a w hF hW => ?_)
                    refine ls hF hW rfl ((y_assign hF rfl).q) (fun a w hF hW => ?_)
                    refine ls_nil ?_
                    refine c_then ?_
                    exact ⟨hF.re ⟨rfl, rfl, (by show some (Value.bool false) = some (Value.bool (p0.2.2.2.2.2.2.2.1 && (decide (0 ≤ p1.2.2.1) && decide (p1.2.2.1 ≤ 255)))); try rw [hb1]; try rw [hb0]; all_goals simp only [Bool.not_true, Bool.not_false, Bool.true_and, Bool.false_and, Bool.true_or, Bool.false_or, Bool.and_true, Bool.or_false, cond_true, cond_false]), trivial⟩, hW⟩
                ·
                  rw [hb0] at hF
                  refine ls_skip hF (wanted_n hF rfl rfl rfl rfl rfl) rfl rfl (fun a hF => ?_)
                  refine ls_skip hF (wanted_n hF rfl rfl rfl rfl rfl) rfl rfl (fun a hF => ?_)
                  refine ls_skip hF (wanted_n hF rfl rfl rfl rfl rfl) rfl rfl (fun a hF => ?_)
                  refine ls hF hW rfl ((y_pick_f hF rfl rfl rfl).q) (fun a w hF hW => ?_)
                  refine ls hF hW rfl ((y_move hF rfl).q) (fun a w hF hW => ?_)
                  refine ls_skip hF (wanted_n hF rfl rfl rfl rfl rfl) rfl rfl (fun a hF => ?_)
                  refine ls_skip hF (wanted_n hF rfl rfl rfl rfl rfl) rfl rfl (fun a hF => ?_)
                  refine ls_skip hF (wanted_n hF rfl rfl rfl rfl rfl) rfl rfl (fun a hF => ?_)
                  refine ls hF hW rfl ((y_pick_f hF rfl rfl rfl).q) (fun a w hF hW => ?_)
                  refine ls hF hW rfl ((y_assign hF rfl).q) (fun a w hF hW => ?_)
                  refine ls_nil ?_
                  refine c_then ?_
                  exact ⟨hF.re ⟨rfl, rfl, (by show some (Value.bool false) = some (Value.bool (p0.2.2.2.2.2.2.2.1 && (decide (0 ≤ p1.2.2.1) && decide (p1.2.2.1 ≤ 255)))); try rw [hb0]; all_goals simp only [Bool.not_true, Bool.not_false, Bool.true_and, Bool.false_and, Bool.true_or, Bool.false_or, Bool.and_true, Bool.or_false, cond_true, cond_false]), trivial⟩, hW⟩
              rintro a w ⟨hF, hW⟩
              refine wp_ret ?_
              refine r_then ?_
              have H := Option.some.inj H
              subst H
              refine post1 (.inl rfl) hF hW rfl (rv_tmp hF rfl) ?_
              exact ⟨rfl, hW.done⟩
            ·
              have H := iteF (of_decide_eq_false hb) H
              rw [hb] at hF
              clear hb
              refine wp_skip ?_
              refine c_then ?_
              refine c_seq ?_
              refine c_seq ?_
              refine reg_list ?_
              refine ls hF hW rfl ((y_fieldAddr Tryd.underlying37 rfl rfl rfl T3 hF rfl 2 rfl).q) (fun a w hF hW => ?_)
              refine ls hF hW rfl ((y_load (v := Value.int .i64 p1.2.2.1) 0 hF rfl rfl T3 rfl).q) (fun a w hF hW => ?_)
              refine ls hF hW rfl ((y_neq hF rfl rfl).q) (fun a w hF hW => ?_)
              refine ls_nil ?_
              refine c_then ?_
              refine c_cond hF rfl (fun hb => ?_) (fun hb => ?_)
              ·
                have H := iteT (of_decide_eq_true hb) H
                rw [hb] at hF
                clear hb
                refine c_seq ?_
                refine reg_list ?_
                refine ls hF hW rfl ((y_assign hF rfl).q) (fun a w hF hW => ?_)
                refine ls_nil ?_
                refine c_then ?_
                refine wp_ret ?_
                refine r_then ?_
                have H := Option.some.inj H
                subst H
                refine post1 (.inl rfl) hF hW rfl (rv_tmp hF rfl) ?_
                exact ⟨rfl, hW.done⟩
              ·
                have H := iteF (of_decide_eq_false hb) H
                rw [hb] at hF
                clear hb
                refine wp_skip ?_
                refine c_then ?_
                refine c_seq ?_
                refine c_seq ?_
                refine reg_list ?_
                refine ls hF hW rfl ((y_fieldAddr Tryd.underlying37 rfl rfl rfl T3 hF rfl 0 rfl).q) (fun a w hF hW => ?_)
                refine ls hF hW rfl ((y_load (v := Value.int .i64 p1.1) 0 hF rfl rfl T3 rfl).q) (fun a w hF hW => ?_)
                refine ls hF hW rfl ((y_eql hF rfl rfl).q) (fun a w hF hW => ?_)
                refine ls_nil ?_
                refine c_then ?_
                refine c_cond hF rfl (fun hb => ?_) (fun hb => ?_)
                ·
                  have H := iteT (of_decide_eq_true hb) H
                  rw [hb] at hF
                  clear hb
                  refine c_seqJ (fun a w => Fr 171 [] [(2, .pointer (some ⟨b1, 0, none⟩)), (3, .pointer (some ⟨b2, 0, none⟩)), (4, .bool (!p0.2.2.2.2.2.2.1 && (!p0.2.2.2.2.2.2.2.1 && decide (0 < p0.2.2.2.2.2.1))))] a ∧ Stw ⟨Y, [], w0⟩ [(b2, [.int .i64 p1.1, .int .i64 p1.2.1, .int .i64 p1.2.2.1, .int .i64 p1.2.2.2]), (b1, [.int .i64 p0.1, .int .i64 p0.2.1, .bool p0.2.2.1, .int .i64 p0.2.2.2.1, .int .i64 p0.2.2.2.2.1, .int .i64 p0.2.2.2.2.2.1, .bool p0.2.2.2.2.2.2.1, .bool p0.2.2.2.2.2.2.2.1, .int .i64 p0.2.2.2.2.2.2.2.2])] [] w) ?_ ?_
                  ·
                    refine reg_list ?_
                    refine ls hF hW rfl ((y_fieldAddr Tryd.underlying27 rfl rfl rfl T4 hF rfl 6 rfl).q) (fun a w hF hW => ?_)
                    refine ls hF hW rfl ((y_load (v := Value.bool p0.2.2.2.2.2.2.1) 1 hF rfl rfl T4 rfl).q) (fun a w hF hW => ?_)
                    refine ls hF hW rfl ((y_not hF rfl).q) (fun a w hF hW => ?_)
                    refine ls hF hW rfl ((y_move hF rfl).q) (fun a w hF hW => ?_)
                    rcases Bool.eq_false_or_eq_true (!p0.2.2.2.2.2.2.1) with hb0 | hb0
                    ·
                      rw [hb0] at hF
                      refine ls_w hF hW (wanted_y hF rfl rfl rfl rfl) rfl (Nat.le_of_ble_eq_true rfl) ((y_fieldAddr Tryd.underlying27 rfl rfl rfl T4 hF rfl 7 rfl).q) (fun a w hF hW => ?_)
                      refine ls_w hF hW (wanted_y hF rfl rfl rfl rfl) rfl (Nat.le_of_ble_eq_true rfl) ((y_load (v := Value.bool p0.2.2.2.2.2.2.2.1) 1 hF rfl rfl T4 rfl).q) (fun a w hF hW => ?_)
                      refine ls_w hF hW (wanted_y hF rfl rfl rfl rfl) rfl (Nat.le_of_ble_eq_true rfl) ((y_not hF rfl).q) (fun a w hF hW => ?_)
                      refine ls hF hW rfl ((y_pick_t hF rfl rfl rfl).q) (fun a w hF hW => ?_)
                      refine ls hF hW rfl ((y_move hF rfl).q) (fun a w hF hW => ?_)
                      rcases Bool.eq_false_or_eq_true (!p0.2.2.2.2.2.2.2.1) with hb1 | hb1
                      ·
                        rw [hb1] at hF
                        refine ls_w hF hW (wanted_y hF rfl rfl rfl rfl) rfl (Nat.le_of_ble_eq_true rfl) ((y_fieldAddr Tryd.underlying27 rfl rfl rfl T3 hF rfl 5 rfl).q) (fun a w hF hW => ?_)
                        refine ls_w hF hW (wanted_y hF rfl rfl rfl rfl) rfl (Nat.le_of_ble_eq_true rfl) ((y_load (v := Value.int .i64 p0.2.2.2.2.2.1) 1 hF rfl rfl T3 rfl).q) (fun a w hF hW => ?_)
                        refine ls_w hF hW (wanted_y hF rfl rfl rfl rfl) rfl (Nat.le_of_ble_eq_true rfl) ((y_gtr hF rfl rfl).q) (fun a w hF hW => ?_)
                        refine ls hF hW rfl ((y_pick_t hF rfl rfl rfl).q) (fun a w hF hW => ?_)
                        refine ls hF hW rfl ((y_assign hF rfl).q) (fun a w hF hW => ?_)
                        refine ls_nil ?_
                        refine c_then ?_
                        exact ⟨hF.re ⟨rfl, rfl, (by show some (Value.bool (decide (0 < p0.2.2.2.2.2.1))) = some (Value.bool (!p0.2.2.2.2.2.2.1 && (!p0.2.2.2.2.2.2.2.1 && decide (0 < p0.2.2.2.2.2.1)))); try rw [hb1]; try rw [hb0]; all_goals simp only [Bool.not_true, Bool.not_false, Bool.true_and, Bool.false_and, Bool.true_or, Bool.false_or, Bool.and_true, Bool.or_false, cond_true, cond_false]), trivial⟩, hW⟩
                      ·
                        rw [hb1] at hF
                        refine ls_skip hF (wanted_n hF rfl rfl rfl rfl rfl) rfl rfl (fun a hF => ?_)
                        refine ls_skip hF (wanted_n hF rfl rfl rfl rfl rfl) rfl rfl (fun a hF => ?_)
                        refine ls_skip hF (wanted_n hF rfl rfl rfl rfl rfl) rfl rfl (fun a hF => ?_)
                        refine ls hF hW rfl ((y_pick_f hF rfl rfl rfl).q) (fun a w hF hW => ?_)
                        refine ls hF hW rfl ((y_assign hF rfl).q) (fun a w hF hW => ?_)
                        refine ls_nil ?_
                        refine c_then ?_
                        exact ⟨hF.re ⟨rfl, rfl, (by show some (Value.bool false) = some (Value.bool (!p0.2.2.2.2.2.2.1 && (!p0.2.2.2.2.2.2.2.1 && decide (0 < p0.2.2.2.2.2.1)))); try rw [hb1]; try rw [hb0]; all_goals simp only [Bool.not_true, Bool.not_false, Bool.true_and, Bool.false_and, Bool.true_or, Bool.false_or, Bool.and_true, Bool.or_false, cond_true, cond_false]), trivial⟩, hW⟩
                    ·
                      rw [hb0] at hF
                      refine ls_skip hF (wanted_n hF rfl rfl rfl rfl rfl) rfl rfl (fun a hF => ?_)
                      refine ls_skip hF (wanted_n hF rfl rfl rfl rfl rfl) rfl rfl (fun a hF => ?_)
                      refine ls_skip hF (wanted_n hF rfl rfl rfl rfl rfl) rfl rfl (fun a hF => ?_)
                      refine ls hF hW rfl ((y_pick_f hF rfl rfl rfl).q) (fun a w hF hW => ?_)
                      refine ls hF hW rfl ((y_move hF rfl).q) (fun a w hF hW => ?_)
                      refine ls_skip hF (wanted_n hF rfl rfl rfl rfl rfl) rfl rfl (fun a hF => ?_)
                      refine ls_skip hF (wanted_n hF rfl rfl rfl rfl rfl) rfl rfl (fun a hF => ?_)
                      refine ls_skip hF (wanted_n hF rfl rfl rfl rfl rfl) rfl rfl (fun a hF => ?_)
                      refine ls hF hW rfl ((y_pick_f hF rfl rfl rfl).q) (fun a w hF hW => ?_)
                      refine ls hF hW rfl ((y_assign hF rfl).q) (fun a w hF hW => ?_)
                      refine ls_nil ?_
                      refine c_then ?_
                      exact ⟨hF.re ⟨rfl, rfl, (by show some (Value.bool false) = some (Value.bool (!p0.2.2.2.2.2.2.1 && (!p0.2.2.2.2.2.2.2.1 && decide (0 < p0.2.2.2.2.2.1)))); try rw [hb0]; all_goals simp only [Bool.not_true, Bool.not_false, Bool.true_and, Bool.false_and, Bool.true_or, Bool.false_or, Bool.and_true, Bool.or_false, cond_true, cond_false]), trivial⟩, hW⟩
                  rintro a w ⟨hF, hW⟩
                  refine wp_ret ?_
                  refine r_then ?_
                  have H := Option.some.inj H
                  subst H
                  refine post1 (.inl rfl) hF hW rfl (rv_tmp hF rfl) ?_
                  exact ⟨rfl, hW.done⟩
                ·
                  have H := iteF (of_decide_eq_false hb) H
                  rw [hb] at hF
                  clear hb
                  refine wp_skip ?_
                  refine c_then ?_
                  refine c_seq ?_
                  refine c_seq ?_
                  refine reg_list ?_
                  refine ls hF hW rfl ((y_fieldAddr Tryd.underlying37 rfl rfl rfl T3 hF rfl 0 rfl).q) (fun a w hF hW => ?_)
                  refine ls hF hW rfl ((y_load (v := Value.int .i64 p1.1) 0 hF rfl rfl T3 rfl).q) (fun a w hF hW => ?_)
                  refine ls hF hW rfl ((y_eql hF rfl rfl).q) (fun a w hF hW => ?_)
                  refine ls_nil ?_
                  refine c_then ?_
                  refine c_cond hF rfl (fun hb => ?_) (fun hb => ?_)
                  ·
                    have H := iteT (of_decide_eq_true hb) H
                    rw [hb] at hF
                    clear hb
                    refine c_seq ?_
                    refine reg_list ?_
                    refine ls hF hW rfl ((y_fieldAddr Tryd.underlying27 rfl rfl rfl T4 hF rfl 7 rfl).q) (fun a w hF hW => ?_)
                    refine ls hF hW rfl ((y_load (v := Value.bool p0.2.2.2.2.2.2.2.1) 1 hF rfl rfl T4 rfl).q) (fun a w hF hW => ?_)
                    refine ls hF hW rfl ((y_not hF rfl).q) (fun a w hF hW => ?_)
                    refine ls hF hW rfl ((y_assign hF rfl).q) (fun a w hF hW => ?_)
                    refine ls_nil ?_
                    refine c_then ?_
                    refine wp_ret ?_
                    refine r_then ?_
                    have H := Option.some.inj H
                    subst H
                    refine post1 (.inl rfl) hF hW rfl (rv_tmp hF rfl) ?_
                    exact ⟨rfl, hW.done⟩
                  ·
                    have H := iteF (of_decide_eq_false hb) H
                    rw [hb] at hF
                    clear hb
                    refine wp_skip ?_
                    refine c_then ?_
                    refine c_seqJ (fun a w => Fr 171 [] [(4, .bool (p0.2.2.2.2.2.2.1 && !p0.2.2.2.2.2.2.2.1))] a ∧ Stw ⟨Y, [], w0⟩ [(b2, [.int .i64 p1.1, .int .i64 p1.2.1, .int .i64 p1.2.2.1, .int .i64 p1.2.2.2]), (b1, [.int .i64 p0.1, .int .i64 p0.2.1, .bool p0.2.2.1, .int .i64 p0.2.2.2.1, .int .i64 p0.2.2.2.2.1, .int .i64 p0.2.2.2.2.2.1, .bool p0.2.2.2.2.2.2.1, .bool p0.2.2.2.2.2.2.2.1, .int .i64 p0.2.2.2.2.2.2.2.2])] [] w) ?_ ?_
                    ·
                      refine reg_list ?_
                      refine ls hF hW rfl ((y_fieldAddr Tryd.underlying27 rfl rfl rfl T4 hF rfl 6 rfl).q) (fun a w hF hW => ?_)
                      refine ls hF hW rfl ((y_load (v := Value.bool p0.2.2.2.2.2.2.1) 1 hF rfl rfl T4 rfl).q) (fun a w hF hW => ?_)
                      refine ls hF hW rfl ((y_move hF rfl).q) (fun a w hF hW => ?_)
                      rcases Bool.eq_false_or_eq_true p0.2.2.2.2.2.2.1 with hb0 | hb0
                      ·
                        rw [hb0] at hF
                        refine ls_w hF hW (wanted_y hF rfl rfl rfl rfl) rfl (Nat.le_of_ble_eq_true rfl) ((y_fieldAddr Tryd.underlying27 rfl rfl rfl T4 hF rfl 7 rfl).q) (fun a w hF hW => ?_)
                        refine ls_w hF hW (wanted_y hF rfl rfl rfl rfl) rfl (Nat.le_of_ble_eq_true rfl) ((y_load (v := Value.bool p0.2.2.2.2.2.2.2.1) 1 hF rfl rfl T4 rfl).q) (fun a w hF hW => ?_)
                        refine ls_w hF hW (wanted_y hF rfl rfl rfl rfl) rfl (Nat.le_of_ble_eq_true rfl) ((y_not hF rfl).q) (fun a w hF hW => ?_)
                        refine ls hF hW rfl ((y_pick_t hF rfl rfl rfl).q) (fun a w hF hW => ?_)
                        refine ls hF hW rfl ((y_assign hF rfl).q) (fun a w hF hW => ?_)
                        refine ls_nil ?_
                        refine c_then ?_
                        exact ⟨hF.re ⟨(by show some (Value.bool (!p0.2.2.2.2.2.2.2.1)) = some (Value.bool (p0.2.2.2.2.2.2.1 && !p0.2.2.2.2.2.2.2.1)); try rw [hb0]; all_goals simp only [Bool.not_true, Bool.not_false, Bool.true_and, Bool.false_and, Bool.true_or, Bool.false_or, Bool.and_true, Bool.or_false, cond_true, cond_false]), trivial⟩, hW⟩
                      ·
                        rw [hb0] at hF
                        refine ls_skip hF (wanted_n hF rfl rfl rfl rfl rfl) rfl rfl (fun a hF => ?_)
                        refine ls_skip hF (wanted_n hF rfl rfl rfl rfl rfl) rfl rfl (fun a hF => ?_)
                        refine ls_skip hF (wanted_n hF rfl rfl rfl rfl rfl) rfl rfl (fun a hF => ?_)
                        refine ls hF hW rfl ((y_pick_f hF rfl rfl rfl).q) (fun a w hF hW => ?_)
                        refine ls hF hW rfl ((y_assign hF rfl).q) (fun a w hF hW => ?_)
                        refine ls_nil ?_
                        refine c_then ?_
                        exact ⟨hF.re ⟨(by show some (Value.bool false) = some (Value.bool (p0.2.2.2.2.2.2.1 && !p0.2.2.2.2.2.2.2.1)); try rw [hb0]; all_goals simp only [Bool.not_true, Bool.not_false, Bool.true_and, Bool.false_and, Bool.true_or, Bool.false_or, Bool.and_true, Bool.or_false, cond_true, cond_false]), trivial⟩, hW⟩
                    rintro a w ⟨hF, hW⟩
                    refine wp_ret ?_
                    have H := Option.some.inj H
                    subst H
                    refine post1 (.inl rfl) hF hW rfl (rv_tmp hF rfl) ?_
                    exact ⟨rfl, hW.done⟩

theorem H22 : Has Tryd.prog 22 := ⟨fun args w => run_callFunc_body Tryd.func22 rfl (by decide) args w⟩
noncomputable def r36_power_l1 (p0 : Int) : (Int × Int) → Option ((Int × Int) ⊕ Int)
  | (x2, x3) => (if x3 < p0 then some (.inl (w64 (x2 * 2), w64 (x3 + 1))) else some (.inr x2))
noncomputable def r36_power (p0 : Int) : Option Int := (loopW (r36_power_l1 p0) (1, 0)).bind fun x1 => some x1
theorem r36_power_c (Y : Nat → Prop) (w0 : World)  (p0 : Int) (r : Int) (H : r36_power p0 = some r)  :
    Calls Tryd.prog 23 #[.int .i64 p0] w0 fun e w' => e = .returned (.int .i64 r) ∧ Below w0.heap.size w0 w' := by
  refine enter Tryd.func23 rfl Tryd.ntmps23 rfl (fun a hF => ?_)
  have hW := Stw.start Y w0
  unfold r36_power at H
  refine c_seq ?_
  refine reg_list ?_
  refine ls hF hW rfl ((y_assign hF rfl).q) (fun a w hF hW => ?_)
  refine ls_nil ?_
  refine c_then ?_
  refine c_seq ?_
  refine reg_list ?_
  refine ls hF hW rfl ((y_assign hF rfl).q) (fun a w hF hW => ?_)
  refine ls_nil ?_
  refine c_then ?_
  obtain ⟨o1, G1, K1⟩ := bindE H
  refine c_seqJ (fun a w => ∃ x1 : Int, some (x1) = some o1 ∧ Fr 13 [] [(2, .int .i64 0), (3, .int .i64 x1)] a ∧ Stw ⟨Y, [], w0⟩ [] [] w) ?_ ?_
  ·
    have H := G1
    clear G1 K1
    refine c_seq ?_
    refine reg_list ?_
    refine ls hF hW rfl ((y_assign hF rfl).q) (fun a w hF hW => ?_)
    refine ls_nil ?_
    refine c_then ?_
    refine wp_block ?_
    refine c_loopW H (fun s a w => Fr 13 [] [(0, .int .i64 p0), (2, .int .i64 0), (3, .int .i64 s.1), (4, .int .i64 s.2)] a ∧ Stw ⟨Y, [], w0⟩ [] [] w) ⟨hF.re ⟨rfl, rfl, rfl, rfl, trivial⟩, hW⟩ (fun s o a w H L2 hR => ?_)
    obtain ⟨x2, x3⟩ := s
    obtain ⟨hF, hW⟩ := hR
    have hF : Fr 13 [] [(0, .int .i64 p0), (2, .int .i64 0), (3, .int .i64 x2), (4, .int .i64 x3)] a := hF
    have hW : Stw ⟨Y, [], w0⟩ [] [] w := hW
    rw [r36_power_l1] at H
    refine c_seq ?_
    refine c_seq ?_
    refine reg_list ?_
    refine ls hF hW rfl ((y_move hF rfl).q) (fun a w hF hW => ?_)
    refine ls hF hW rfl ((y_move hF rfl).q) (fun a w hF hW => ?_)
    refine ls hF hW rfl ((y_lss hF rfl rfl).q) (fun a w hF hW => ?_)
    refine ls_nil ?_
    refine c_then ?_
    refine c_cond hF rfl (fun hb => ?_) (fun hb => ?_)
    ·
      have H := iteT (of_decide_eq_true hb) H
      rw [hb] at hF
      clear hb
      refine wp_skip ?_
      refine c_then ?_
      refine c_seq ?_
      refine wp_block ?_
      refine reg_list ?_
      refine ls hF hW rfl ((y_move hF rfl).q) (fun a w hF hW => ?_)
      refine ls hF hW rfl ((y_mul hF rfl rfl rfl).q) (fun a w hF hW => ?_)
      refine ls hF hW rfl ((y_assign hF rfl).q) (fun a w hF hW => ?_)
      refine ls_nil ?_
      refine b_normal ?_
      refine c_then ?_
      refine reg_list ?_
      refine ls hF hW rfl ((y_move hF rfl).q) (fun a w hF hW => ?_)
      refine ls hF hW rfl ((y_add hF rfl rfl rfl).q) (fun a w hF hW => ?_)
      refine ls hF hW rfl ((y_assign hF rfl).q) (fun a w hF hW => ?_)
      refine ls_nil ?_
      refine c_then ?_
      exact ⟨_, H, hF.re ⟨rfl, rfl, rfl, rfl, trivial⟩, hW⟩
    ·
      have H := iteF (of_decide_eq_false hb) H
      rw [hb] at hF
      clear hb
      refine wp_exit ?_
      refine e_then ?_
      refine e_then ?_
      refine e_block ?_
      refine c_then ?_
      have H := L2 _ H
      exact ⟨_, H, hF.re ⟨rfl, rfl, trivial⟩, hW⟩
  rintro a w ⟨x1, hj, hF, hW⟩
  have hj := Option.some.inj hj
  subst hj
  have H := K1
  clear G1 K1
  refine c_seq ?_
  refine reg_list ?_
  refine ls hF hW rfl ((y_move hF rfl).q) (fun a w hF hW => ?_)
  refine ls hF hW rfl ((y_assign hF rfl).q) (fun a w hF hW => ?_)
  refine ls_nil ?_
  refine c_then ?_
  refine wp_ret ?_
  have H := Option.some.inj H
  subst H
  refine post1 (.inl rfl) hF hW rfl (rv_tmp hF rfl) ?_
  exact ⟨rfl, hW.done⟩

theorem H23 : Has Tryd.prog 23 := ⟨fun args w => run_callFunc_body Tryd.func23 rfl (by decide) args w⟩
noncomputable def r36_Next (p0 : Int × Int × Bool × Int × Int × Int × Bool × Bool × Int) (p1 : Int × Int × Int × Int) : Option ((Int × Int × Bool × Int × Int × Int × Bool × Bool × Int) × Int) := (r36_may p0 p1).bind fun x1 => (if (!x1) = true then some (p0, 5) else orR (if p1.1 = 1 then some (.inr ((p1.2.1, p0.2.1, true, p1.2.2.1, p1.2.2.2, 0, false, false, 0), 0)) else (if p1.1 = 2 then some (.inl (w64 (p0.2.2.2.2.2.1 + 1), p0.2.2.2.2.2.2.1, p0.2.2.2.2.2.2.2.1, p0.2.2.2.2.2.2.2.2)) else (if p1.1 = 3 then some (.inl (p0.2.2.2.2.2.1, true, p0.2.2.2.2.2.2.2.1, p0.2.2.2.2.2.2.2.2)) else (if p1.1 = 4 then some (.inl (p0.2.2.2.2.2.1, p0.2.2.2.2.2.2.1, true, p0.2.2.2.2.2.2.2.2)) else (if p1.1 = 5 then some (.inr ((p0.1, p0.2.2.2.1, false, 0, 0, 0, false, false, p0.2.2.2.2.2.2.2.2), 0)) else (if p1.1 = 6 then some (.inr ((p0.1, p0.2.1, false, 0, 0, 0, false, false, p1.2.2.1), 0)) else (if p1.1 = 7 then (r36_power p1.2.2.1).bind fun x6 => some (.inl (p0.2.2.2.2.2.1, p0.2.2.2.2.2.2.1, p0.2.2.2.2.2.2.2.1, w64 (p0.2.2.2.2.2.2.2.2 - x6))) else some (.inl (p0.2.2.2.2.2.1, p0.2.2.2.2.2.2.1, p0.2.2.2.2.2.2.2.1, p0.2.2.2.2.2.2.2.2))))))))) fun (x2, x3, x4, x5) => some ((p0.1, p0.2.1, p0.2.2.1, p0.2.2.2.1, p0.2.2.2.2.1, x2, x3, x4, x5), 0))
theorem r36_Next_c (Y : Nat → Prop) (w0 : World)  (p0 : Int × Int × Bool × Int × Int × Int × Bool × Bool × Int) (p1 : Int × Int × Int × Int) (r : (Int × Int × Bool × Int × Int × Int × Bool × Bool × Int) × Int) (H : r36_Next p0 p1 = some r)  :
    Calls Tryd.prog 10 #[.agg #[.int .i64 p0.1, .int .i64 p0.2.1, .bool p0.2.2.1, .int .i64 p0.2.2.2.1, .int .i64 p0.2.2.2.2.1, .int .i64 p0.2.2.2.2.2.1, .bool p0.2.2.2.2.2.2.1, .bool p0.2.2.2.2.2.2.2.1, .int .i64 p0.2.2.2.2.2.2.2.2], .agg #[.int .i64 p1.1, .int .i64 p1.2.1, .int .i64 p1.2.2.1, .int .i64 p1.2.2.2]] w0 fun e w' => e = .returned (.tuple #[.agg #[.int .i64 r.1.1, .int .i64 r.1.2.1, .bool r.1.2.2.1, .int .i64 r.1.2.2.2.1, .int .i64 r.1.2.2.2.2.1, .int .i64 r.1.2.2.2.2.2.1, .bool r.1.2.2.2.2.2.2.1, .bool r.1.2.2.2.2.2.2.2.1, .int .i64 r.1.2.2.2.2.2.2.2.2], .int .i64 r.2]) ∧ Below w0.heap.size w0 w' := by
  refine enter Tryd.func10 rfl Tryd.ntmps10 rfl (fun a hF => ?_)
  have hW := Stw.start Y w0
  unfold r36_Next at H
  refine c_seq ?_
  refine reg_list ?_
  refine l_box (cs := [.int .i64 p0.1, .int .i64 p0.2.1, .bool p0.2.2.1, .int .i64 p0.2.2.2.1, .int .i64 p0.2.2.2.2.1, .int .i64 p0.2.2.2.2.2.1, .bool p0.2.2.2.2.2.2.1, .bool p0.2.2.2.2.2.2.2.1, .int .i64 p0.2.2.2.2.2.2.2.2]) hF hW rfl rfl rfl (fun b1 a w hF hW => ?_)
  refine l_box (cs := [.int .i64 p1.1, .int .i64 p1.2.1, .int .i64 p1.2.2.1, .int .i64 p1.2.2.2]) hF hW rfl rfl rfl (fun b2 a w hF hW => ?_)
  refine l_alloc (cs := [.int .i64 0, .int .i64 0, .bool false, .int .i64 0, .int .i64 0, .int .i64 0, .bool false, .bool false, .int .i64 0]) hF hW rfl Z27 rfl (fun b3 a w hF hW => ?_)
  refine ls hF hW rfl ((y_assign hF rfl).q) (fun a w hF hW => ?_)
  refine ls_nil ?_
  refine c_then ?_
  refine c_seq ?_
  refine c_seq ?_
  refine reg_list ?_
  refine ls hF hW rfl ((y_load (v := Value.agg #[.int .i64 p0.1, .int .i64 p0.2.1, .bool p0.2.2.1, .int .i64 p0.2.2.2.1, .int .i64 p0.2.2.2.2.1, .int .i64 p0.2.2.2.2.2.1, .bool p0.2.2.2.2.2.2.1, .bool p0.2.2.2.2.2.2.2.1, .int .i64 p0.2.2.2.2.2.2.2.2]) 2 hF rfl rfl T27 rfl).q) (fun a w hF hW => ?_)
  refine ls hF hW rfl ((y_load (v := Value.agg #[.int .i64 p1.1, .int .i64 p1.2.1, .int .i64 p1.2.2.1, .int .i64 p1.2.2.2]) 1 hF rfl rfl T37 rfl).q) (fun a w hF hW => ?_)
  obtain ⟨x1, h1, H⟩ := bindE H
  refine ls hF hW rfl (y_call (v := Value.bool x1) hF H22 rfl (fun w hW => r36_may_c any w p0 p1 _ h1)) (fun a w hF hW => ?_)
  refine ls hF hW rfl ((y_not hF rfl).q) (fun a w hF hW => ?_)
  refine ls_nil ?_
  refine c_then ?_
  refine c_cond hF rfl (fun hb => ?_) (fun hb => ?_)
  ·
    have H := iteT hb H
    rw [hb] at hF
    clear hb
    refine c_seq ?_
    refine reg_list ?_
    refine ls hF hW rfl ((y_load (v := Value.agg #[.int .i64 p0.1, .int .i64 p0.2.1, .bool p0.2.2.1, .int .i64 p0.2.2.2.1, .int .i64 p0.2.2.2.2.1, .int .i64 p0.2.2.2.2.2.1, .bool p0.2.2.2.2.2.2.1, .bool p0.2.2.2.2.2.2.2.1, .int .i64 p0.2.2.2.2.2.2.2.2]) 2 hF rfl rfl T27 rfl).q) (fun a w hF hW => ?_)
    refine l_store (vs := [.int .i64 p0.1, .int .i64 p0.2.1, .bool p0.2.2.1, .int .i64 p0.2.2.2.1, .int .i64 p0.2.2.2.2.1, .int .i64 p0.2.2.2.2.2.1, .bool p0.2.2.2.2.2.2.1, .bool p0.2.2.2.2.2.2.2.1, .int .i64 p0.2.2.2.2.2.2.2.2]) (M' := [(b3, [.int .i64 p0.1, .int .i64 p0.2.1, .bool p0.2.2.1, .int .i64 p0.2.2.2.1, .int .i64 p0.2.2.2.2.1, .int .i64 p0.2.2.2.2.2.1, .bool p0.2.2.2.2.2.2.1, .bool p0.2.2.2.2.2.2.2.1, .int .i64 p0.2.2.2.2.2.2.2.2]), (b2, [.int .i64 p1.1, .int .i64 p1.2.1, .int .i64 p1.2.2.1, .int .i64 p1.2.2.2]), (b1, [.int .i64 p0.1, .int .i64 p0.2.1, .bool p0.2.2.1, .int .i64 p0.2.2.2.1, .int .i64 p0.2.2.2.2.1, .int .i64 p0.2.2.2.2.2.1, .bool p0.2.2.2.2.2.2.1, .bool p0.2.2.2.2.2.2.2.1, .int .i64 p0.2.2.2.2.2.2.2.2])]) 0 hF hW rfl rfl rfl T27 rfl rfl rfl rfl rfl (fun w hW => ?_)
    refine ls hF hW rfl ((y_assign hF rfl).q) (fun a w hF hW => ?_)
    refine ls_nil ?_
    refine c_then ?_
    refine wp_ret ?_
    refine r_then ?_
    have H := Option.some.inj H
    subst H
    refine post2 (.inl rfl) hF hW rfl (rv_cell 0 hF rfl rfl T27 rfl) (rv_tmp hF rfl) ?_
    exact ⟨rfl, hW.done⟩
  ·
    have H := iteF (by rw [hb]; decide) H
    rw [hb] at hF
    clear hb
    refine wp_skip ?_
    refine c_then ?_
    obtain ⟨o1, G1, K1, L1⟩ := orE H
    refine c_seqJ (fun a w => ∃ x2 : Int, ∃ x3 : Bool, ∃ x4 : Bool, ∃ x5 : Int, some (Sum.inl (x2, x3, x4, x5)) = some o1 ∧ Fr 64 [] [(2, .pointer (some ⟨b1, 0, none⟩)), (4, .pointer (some ⟨b3, 0, none⟩)), (5, .int .i64 0)] a ∧ Stw ⟨Y, [], w0⟩ [(b3, [.int .i64 0, .int .i64 0, .bool false, .int .i64 0, .int .i64 0, .int .i64 0, .bool false, .bool false, .int .i64 0]), (b2, [.int .i64 p1.1, .int .i64 p1.2.1, .int .i64 p1.2.2.1, .int .i64 p1.2.2.2]), (b1, [.int .i64 p0.1, .int .i64 p0.2.1, .bool p0.2.2.1, .int .i64 p0.2.2.2.1, .int .i64 p0.2.2.2.2.1, .int .i64 x2, .bool x3, .bool x4, .int .i64 x5])] [] w) ?_ ?_
    ·
      have H := G1
      clear G1 K1
      refine c_seq ?_
      refine reg_list ?_
      refine ls hF hW rfl ((y_fieldAddr Tryd.underlying37 rfl rfl rfl T3 hF rfl 0 rfl).q) (fun a w hF hW => ?_)
      refine ls hF hW rfl ((y_load (v := Value.int .i64 p1.1) 1 hF rfl rfl T3 rfl).q) (fun a w hF hW => ?_)
      refine ls_nil ?_
      refine c_then ?_
      refine wp_block ?_
      refine c_seq ?_
      refine reg_list ?_
      refine ls hF hW rfl ((y_eql hF rfl rfl).q) (fun a w hF hW => ?_)
      refine ls hF hW rfl ((y_assign hF rfl).q) (fun a w hF hW => ?_)
      refine ls_nil ?_
      refine c_then ?_
      refine c_cond hF rfl (fun hb => ?_) (fun hb => ?_)
      ·
        have H := iteT (of_decide_eq_true hb) H
        rw [hb] at hF
        clear hb
        refine c_seq ?_
        refine reg_list ?_
        refine ls hF hW rfl ((y_fieldAddr Tryd.underlying37 rfl rfl rfl T3 hF rfl 1 rfl).q) (fun a w hF hW => ?_)
        refine ls hF hW rfl ((y_load (v := Value.int .i64 p1.2.1) 1 hF rfl rfl T3 rfl).q) (fun a w hF hW => ?_)
        refine ls hF hW rfl ((y_fieldAddr Tryd.underlying27 rfl rfl rfl T3 hF rfl 1 rfl).q) (fun a w hF hW => ?_)
        refine ls hF hW rfl ((y_load (v := Value.int .i64 p0.2.1) 2 hF rfl rfl T3 rfl).q) (fun a w hF hW => ?_)
        refine ls hF hW rfl ((y_fieldAddr Tryd.underlying37 rfl rfl rfl T3 hF rfl 2 rfl).q) (fun a w hF hW => ?_)
        refine ls hF hW rfl ((y_load (v := Value.int .i64 p1.2.2.1) 1 hF rfl rfl T3 rfl).q) (fun a w hF hW => ?_)
        refine ls hF hW rfl ((y_fieldAddr Tryd.underlying37 rfl rfl rfl T3 hF rfl 3 rfl).q) (fun a w hF hW => ?_)
        refine ls hF hW rfl ((y_load (v := Value.int .i64 p1.2.2.2) 1 hF rfl rfl T3 rfl).q) (fun a w hF hW => ?_)
        refine ls hF hW rfl ((y_build (v := Value.agg #[.int .i64 p1.2.1, .int .i64 p0.2.1, .bool true, .int .i64 p1.2.2.1, .int .i64 p1.2.2.2, .int .i64 0, .bool false, .bool false, .int .i64 0]) B27 hF rfl rfl rfl).q) (fun a w hF hW => ?_)
        refine l_store (vs := [.int .i64 p1.2.1, .int .i64 p0.2.1, .bool true, .int .i64 p1.2.2.1, .int .i64 p1.2.2.2, .int .i64 0, .bool false, .bool false, .int .i64 0]) (M' := [(b3, [.int .i64 p1.2.1, .int .i64 p0.2.1, .bool true, .int .i64 p1.2.2.1, .int .i64 p1.2.2.2, .int .i64 0, .bool false, .bool false, .int .i64 0]), (b2, [.int .i64 p1.1, .int .i64 p1.2.1, .int .i64 p1.2.2.1, .int .i64 p1.2.2.2]), (b1, [.int .i64 p0.1, .int .i64 p0.2.1, .bool p0.2.2.1, .int .i64 p0.2.2.2.1, .int .i64 p0.2.2.2.2.1, .int .i64 p0.2.2.2.2.2.1, .bool p0.2.2.2.2.2.2.1, .bool p0.2.2.2.2.2.2.2.1, .int .i64 p0.2.2.2.2.2.2.2.2])]) 0 hF hW rfl rfl rfl T27 rfl rfl rfl rfl rfl (fun w hW => ?_)
        refine ls hF hW rfl ((y_assign hF rfl).q) (fun a w hF hW => ?_)
        refine ls_nil ?_
        refine c_then ?_
        refine wp_ret ?_
        refine r_block ?_
        refine r_then ?_
        have H := L1 _ H
        have H := Option.some.inj H
        subst H
        refine post2 (.inl rfl) hF hW rfl (rv_cell 0 hF rfl rfl T27 rfl) (rv_tmp hF rfl) ?_
        exact ⟨rfl, hW.done⟩
      ·
        have H := iteF (of_decide_eq_false hb) H
        rw [hb] at hF
        clear hb
        refine c_seq ?_
        refine reg_list ?_
        refine ls hF hW rfl ((y_eql hF rfl rfl).q) (fun a w hF hW => ?_)
        refine ls hF hW rfl ((y_assign hF rfl).q) (fun a w hF hW => ?_)
        refine ls_nil ?_
        refine c_then ?_
        refine c_cond hF rfl (fun hb => ?_) (fun hb => ?_)
        ·
          have H := iteT (of_decide_eq_true hb) H
          rw [hb] at hF
          clear hb
          refine reg_list ?_
          refine ls hF hW rfl ((y_fieldAddr Tryd.underlying27 rfl rfl rfl T3 hF rfl 5 rfl).q) (fun a w hF hW => ?_)
          refine ls hF hW rfl ((y_load (v := Value.int .i64 p0.2.2.2.2.2.1) 2 hF rfl rfl T3 rfl).q) (fun a w hF hW => ?_)
          refine ls hF hW rfl ((y_add hF rfl rfl rfl).q) (fun a w hF hW => ?_)
          refine ls hF hW rfl ((y_fieldAddr Tryd.underlying27 rfl rfl rfl T3 hF rfl 5 rfl).q) (fun a w hF hW => ?_)
          refine l_store (vs := [.int .i64 (w64 (p0.2.2.2.2.2.1 + 1))]) (M' := [(b3, [.int .i64 0, .int .i64 0, .bool false, .int .i64 0, .int .i64 0, .int .i64 0, .bool false, .bool false, .int .i64 0]), (b2, [.int .i64 p1.1, .int .i64 p1.2.1, .int .i64 p1.2.2.1, .int .i64 p1.2.2.2]), (b1, [.int .i64 p0.1, .int .i64 p0.2.1, .bool p0.2.2.1, .int .i64 p0.2.2.2.1, .int .i64 p0.2.2.2.2.1, .int .i64 (w64 (p0.2.2.2.2.2.1 + 1)), .bool p0.2.2.2.2.2.2.1, .bool p0.2.2.2.2.2.2.2.1, .int .i64 p0.2.2.2.2.2.2.2.2])]) 2 hF hW rfl rfl rfl T3 rfl rfl rfl rfl rfl (fun w hW => ?_)
          refine ls_nil ?_
          refine b_normal ?_
          refine c_then ?_
          have hW := hW.frontM (i := 2) rfl rfl
          have hW := hW.frontM (i := 2) rfl rfl
          have hW := hW.frontM (i := 2) rfl rfl
          exact ⟨_, _, _, _, H, hF.re ⟨rfl, rfl, rfl, trivial⟩, hW⟩
        ·
          have H := iteF (of_decide_eq_false hb) H
          rw [hb] at hF
          clear hb
          refine c_seq ?_
          refine reg_list ?_
          refine ls hF hW rfl ((y_eql hF rfl rfl).q) (fun a w hF hW => ?_)
          refine ls hF hW rfl ((y_assign hF rfl).q) (fun a w hF hW => ?_)
          refine ls_nil ?_
          refine c_then ?_
          refine c_cond hF rfl (fun hb => ?_) (fun hb => ?_)
          ·
            have H := iteT (of_decide_eq_true hb) H
            rw [hb] at hF
            clear hb
            refine reg_list ?_
            refine ls hF hW rfl ((y_fieldAddr Tryd.underlying27 rfl rfl rfl T4 hF rfl 6 rfl).q) (fun a w hF hW => ?_)
            refine l_store (vs := [.bool true]) (M' := [(b3, [.int .i64 0, .int .i64 0, .bool false, .int .i64 0, .int .i64 0, .int .i64 0, .bool false, .bool false, .int .i64 0]), (b2, [.int .i64 p1.1, .int .i64 p1.2.1, .int .i64 p1.2.2.1, .int .i64 p1.2.2.2]), (b1, [.int .i64 p0.1, .int .i64 p0.2.1, .bool p0.2.2.1, .int .i64 p0.2.2.2.1, .int .i64 p0.2.2.2.2.1, .int .i64 p0.2.2.2.2.2.1, .bool true, .bool p0.2.2.2.2.2.2.2.1, .int .i64 p0.2.2.2.2.2.2.2.2])]) 2 hF hW rfl rfl rfl T4 rfl rfl rfl rfl rfl (fun w hW => ?_)
            refine ls_nil ?_
            refine b_normal ?_
            refine c_then ?_
            have hW := hW.frontM (i := 2) rfl rfl
            have hW := hW.frontM (i := 2) rfl rfl
            have hW := hW.frontM (i := 2) rfl rfl
            exact ⟨_, _, _, _, H, hF.re ⟨rfl, rfl, rfl, trivial⟩, hW⟩
          ·
            have H := iteF (of_decide_eq_false hb) H
            rw [hb] at hF
            clear hb
            refine c_seq ?_
            refine reg_list ?_
            refine ls hF hW rfl ((y_eql hF rfl rfl).q) (fun a w hF hW => ?_)
            refine ls hF hW rfl ((y_assign hF rfl).q) (fun a w hF hW => ?_)
            refine ls_nil ?_
            refine c_then ?_
            refine c_cond hF rfl (fun hb => ?_) (fun hb => ?_)
            ·
              have H := iteT (of_decide_eq_true hb) H
              rw [hb] at hF
              clear hb
              refine reg_list ?_
              refine ls hF hW rfl ((y_fieldAddr Tryd.underlying27 rfl rfl rfl T4 hF rfl 7 rfl).q) (fun a w hF hW => ?_)
              refine l_store (vs := [.bool true]) (M' := [(b3, [.int .i64 0, .int .i64 0, .bool false, .int .i64 0, .int .i64 0, .int .i64 0, .bool false, .bool false, .int .i64 0]), (b2, [.int .i64 p1.1, .int .i64 p1.2.1, .int .i64 p1.2.2.1, .int .i64 p1.2.2.2]), (b1, [.int .i64 p0.1, .int .i64 p0.2.1, .bool p0.2.2.1, .int .i64 p0.2.2.2.1, .int .i64 p0.2.2.2.2.1, .int .i64 p0.2.2.2.2.2.1, .bool p0.2.2.2.2.2.2.1, .bool true, .int .i64 p0.2.2.2.2.2.2.2.2])]) 2 hF hW rfl rfl rfl T4 rfl rfl rfl rfl rfl (fun w hW => ?_)
              refine ls_nil ?_
              refine b_normal ?_
              refine c_then ?_
              have hW := hW.frontM (i := 2) rfl rfl
              have hW := hW.frontM (i := 2) rfl rfl
              have hW := hW.frontM (i := 2) rfl rfl
              exact ⟨_, _, _, _, H, hF.re ⟨rfl, rfl, rfl, trivial⟩, hW⟩
            ·
              have H := iteF (of_decide_eq_false hb) H
              rw [hb] at hF
              clear hb
              refine c_seq ?_
              refine reg_list ?_
              refine ls hF hW rfl ((y_eql hF rfl rfl).q) (fun a w hF hW => ?_)
              refine ls hF hW rfl ((y_assign hF rfl).q) (fun a w hF hW => ?_)
              refine ls_nil ?_
              refine c_then ?_
              refine c_cond hF rfl (fun hb => ?_) (fun hb => ?_)
              ·
                have H := iteT (of_decide_eq_true hb) H
                rw [hb] at hF
                clear hb
                refine c_seq ?_
                refine reg_list ?_
                refine ls hF hW rfl ((y_fieldAddr Tryd.underlying27 rfl rfl rfl T3 hF rfl 0 rfl).q) (fun a w hF hW => ?_)
                refine ls hF hW rfl ((y_load (v := Value.int .i64 p0.1) 2 hF rfl rfl T3 rfl).q) (fun a w hF hW => ?_)
                refine ls hF hW rfl ((y_fieldAddr Tryd.underlying27 rfl rfl rfl T3 hF rfl 3 rfl).q) (fun a w hF hW => ?_)
                refine ls hF hW rfl ((y_load (v := Value.int .i64 p0.2.2.2.1) 2 hF rfl rfl T3 rfl).q) (fun a w hF hW => ?_)
                refine ls hF hW rfl ((y_fieldAddr Tryd.underlying27 rfl rfl rfl T3 hF rfl 8 rfl).q) (fun a w hF hW => ?_)
                refine ls hF hW rfl ((y_load (v := Value.int .i64 p0.2.2.2.2.2.2.2.2) 2 hF rfl rfl T3 rfl).q) (fun a w hF hW => ?_)
                refine ls hF hW rfl ((y_build (v := Value.agg #[.int .i64 p0.1, .int .i64 p0.2.2.2.1, .bool false, .int .i64 0, .int .i64 0, .int .i64 0, .bool false, .bool false, .int .i64 p0.2.2.2.2.2.2.2.2]) B27 hF rfl rfl rfl).q) (fun a w hF hW => ?_)
                refine l_store (vs := [.int .i64 p0.1, .int .i64 p0.2.2.2.1, .bool false, .int .i64 0, .int .i64 0, .int .i64 0, .bool false, .bool false, .int .i64 p0.2.2.2.2.2.2.2.2]) (M' := [(b3, [.int .i64 p0.1, .int .i64 p0.2.2.2.1, .bool false, .int .i64 0, .int .i64 0, .int .i64 0, .bool false, .bool false, .int .i64 p0.2.2.2.2.2.2.2.2]), (b2, [.int .i64 p1.1, .int .i64 p1.2.1, .int .i64 p1.2.2.1, .int .i64 p1.2.2.2]), (b1, [.int .i64 p0.1, .int .i64 p0.2.1, .bool p0.2.2.1, .int .i64 p0.2.2.2.1, .int .i64 p0.2.2.2.2.1, .int .i64 p0.2.2.2.2.2.1, .bool p0.2.2.2.2.2.2.1, .bool p0.2.2.2.2.2.2.2.1, .int .i64 p0.2.2.2.2.2.2.2.2])]) 0 hF hW rfl rfl rfl T27 rfl rfl rfl rfl rfl (fun w hW => ?_)
                refine ls hF hW rfl ((y_assign hF rfl).q) (fun a w hF hW => ?_)
                refine ls_nil ?_
                refine c_then ?_
                refine wp_ret ?_
                refine r_block ?_
                refine r_then ?_
                have H := L1 _ H
                have H := Option.some.inj H
                subst H
                refine post2 (.inl rfl) hF hW rfl (rv_cell 0 hF rfl rfl T27 rfl) (rv_tmp hF rfl) ?_
                exact ⟨rfl, hW.done⟩
              ·
                have H := iteF (of_decide_eq_false hb) H
                rw [hb] at hF
                clear hb
                refine c_seq ?_
                refine reg_list ?_
                refine ls hF hW rfl ((y_eql hF rfl rfl).q) (fun a w hF hW => ?_)
                refine ls hF hW rfl ((y_assign hF rfl).q) (fun a w hF hW => ?_)
                refine ls_nil ?_
                refine c_then ?_
                refine c_cond hF rfl (fun hb => ?_) (fun hb => ?_)
                ·
                  have H := iteT (of_decide_eq_true hb) H
                  rw [hb] at hF
                  clear hb
                  refine c_seq ?_
                  refine reg_list ?_
                  refine ls hF hW rfl ((y_fieldAddr Tryd.underlying27 rfl rfl rfl T3 hF rfl 0 rfl).q) (fun a w hF hW => ?_)
                  refine ls hF hW rfl ((y_load (v := Value.int .i64 p0.1) 2 hF rfl rfl T3 rfl).q) (fun a w hF hW => ?_)
                  refine ls hF hW rfl ((y_fieldAddr Tryd.underlying27 rfl rfl rfl T3 hF rfl 1 rfl).q) (fun a w hF hW => ?_)
                  refine ls hF hW rfl ((y_load (v := Value.int .i64 p0.2.1) 2 hF rfl rfl T3 rfl).q) (fun a w hF hW => ?_)
                  refine ls hF hW rfl ((y_fieldAddr Tryd.underlying37 rfl rfl rfl T3 hF rfl 2 rfl).q) (fun a w hF hW => ?_)
                  refine ls hF hW rfl ((y_load (v := Value.int .i64 p1.2.2.1) 1 hF rfl rfl T3 rfl).q) (fun a w hF hW => ?_)
                  refine ls hF hW rfl ((y_build (v := Value.agg #[.int .i64 p0.1, .int .i64 p0.2.1, .bool false, .int .i64 0, .int .i64 0, .int .i64 0, .bool false, .bool false, .int .i64 p1.2.2.1]) B27 hF rfl rfl rfl).q) (fun a w hF hW => ?_)
                  refine l_store (vs := [.int .i64 p0.1, .int .i64 p0.2.1, .bool false, .int .i64 0, .int .i64 0, .int .i64 0, .bool false, .bool false, .int .i64 p1.2.2.1]) (M' := [(b3, [.int .i64 p0.1, .int .i64 p0.2.1, .bool false, .int .i64 0, .int .i64 0, .int .i64 0, .bool false, .bool false, .int .i64 p1.2.2.1]), (b2, [.int .i64 p1.1, .int .i64 p1.2.1, .int .i64 p1.2.2.1, .int .i64 p1.2.2.2]), (b1, [.int .i64 p0.1, .int .i64 p0.2.1, .bool p0.2.2.1, .int .i64 p0.2.2.2.1, .int .i64 p0.2.2.2.2.1, .int .i64 p0.2.2.2.2.2.1, .bool p0.2.2.2.2.2.2.1, .bool p0.2.2.2.2.2.2.2.1, .int .i64 p0.2.2.2.2.2.2.2.2])]) 0 hF hW rfl rfl rfl T27 rfl rfl rfl rfl rfl (fun w hW => ?_)
                  refine ls hF hW rfl ((y_assign hF rfl).q) (fun a w hF hW => ?_)
                  refine ls_nil ?_
                  refine c_then ?_
                  refine wp_ret ?_
                  refine r_block ?_
                  refine r_then ?_
                  have H := L1 _ H
                  have H := Option.some.inj H
                  subst H
                  refine post2 (.inl rfl) hF hW rfl (rv_cell 0 hF rfl rfl T27 rfl) (rv_tmp hF rfl) ?_
                  exact ⟨rfl, hW.done⟩
                ·
                  have H := iteF (of_decide_eq_false hb) H
                  rw [hb] at hF
                  clear hb
                  refine c_seq ?_
                  refine reg_list ?_
                  refine ls hF hW rfl ((y_eql hF rfl rfl).q) (fun a w hF hW => ?_)
                  refine ls hF hW rfl ((y_assign hF rfl).q) (fun a w hF hW => ?_)
                  refine ls_nil ?_
                  refine c_then ?_
                  refine c_cond hF rfl (fun hb => ?_) (fun hb => ?_)
                  ·
                    have H := iteT (of_decide_eq_true hb) H
                    rw [hb] at hF
                    clear hb
                    refine reg_tail 7 hW MO (by kernel_rfl) ?_
                    refine qs hF rfl ((y_fieldAddr Tryd.underlying27 rfl rfl rfl T3 hF rfl 8 rfl).q) (fun a hF => ?_)
                    refine qs hF rfl ((y_load (v := Value.int .i64 p0.2.2.2.2.2.2.2.2) 2 hF rfl rfl T3 rfl).q) (fun a hF => ?_)
                    refine qs hF rfl ((y_fieldAddr Tryd.underlying37 rfl rfl rfl T3 hF rfl 2 rfl).q) (fun a hF => ?_)
                    refine qs hF rfl ((y_load (v := Value.int .i64 p1.2.2.1) 1 hF rfl rfl T3 rfl).q) (fun a hF => ?_)
                    obtain ⟨x6, h2, H⟩ := bindE H
                    refine qs hF rfl (y_call (v := Value.int .i64 x6) hF H23 rfl (fun w hW => r36_power_c any w p1.2.2.1 _ h2)) (fun a hF => ?_)
                    refine qs hF rfl ((y_sub hF rfl rfl rfl).q) (fun a hF => ?_)
                    refine qs hF rfl ((y_fieldAddr Tryd.underlying27 rfl rfl rfl T3 hF rfl 8 rfl).q) (fun a hF => ?_)
                    refine quiet_end (fun w hW => ?_)
                    refine l_store (vs := [.int .i64 (w64 (p0.2.2.2.2.2.2.2.2 - x6))]) (M' := [(b3, [.int .i64 0, .int .i64 0, .bool false, .int .i64 0, .int .i64 0, .int .i64 0, .bool false, .bool false, .int .i64 0]), (b2, [.int .i64 p1.1, .int .i64 p1.2.1, .int .i64 p1.2.2.1, .int .i64 p1.2.2.2]), (b1, [.int .i64 p0.1, .int .i64 p0.2.1, .bool p0.2.2.1, .int .i64 p0.2.2.2.1, .int .i64 p0.2.2.2.2.1, .int .i64 p0.2.2.2.2.2.1, .bool p0.2.2.2.2.2.2.1, .bool p0.2.2.2.2.2.2.2.1, .int .i64 (w64 (p0.2.2.2.2.2.2.2.2 - x6))])]) 2 hF hW rfl rfl rfl T3 rfl rfl rfl rfl rfl (fun w hW => ?_)
                    refine ls_nil ?_
                    refine b_normal ?_
                    refine c_then ?_
                    have hW := hW.frontM (i := 2) rfl rfl
                    have hW := hW.frontM (i := 2) rfl rfl
                    have hW := hW.frontM (i := 2) rfl rfl
                    exact ⟨_, _, _, _, H, hF.re ⟨rfl, rfl, rfl, trivial⟩, hW⟩
                  ·
                    have H := iteF (of_decide_eq_false hb) H
                    rw [hb] at hF
                    clear hb
                    refine wp_skip ?_
                    refine b_normal ?_
                    refine c_then ?_
                    have hW := hW.frontM (i := 2) rfl rfl
                    have hW := hW.frontM (i := 2) rfl rfl
                    have hW := hW.frontM (i := 2) rfl rfl
                    exact ⟨_, _, _, _, H, hF.re ⟨rfl, rfl, rfl, trivial⟩, hW⟩
    rintro a w ⟨x2, x3, x4, x5, hj, hF, hW⟩
    have H := K1 _ hj
    clear hj G1 K1 L1
    refine c_seq ?_
    refine reg_list ?_
    refine ls hF hW rfl ((y_load (v := Value.agg #[.int .i64 p0.1, .int .i64 p0.2.1, .bool p0.2.2.1, .int .i64 p0.2.2.2.1, .int .i64 p0.2.2.2.2.1, .int .i64 x2, .bool x3, .bool x4, .int .i64 x5]) 2 hF rfl rfl T27 rfl).q) (fun a w hF hW => ?_)
    refine l_store (vs := [.int .i64 p0.1, .int .i64 p0.2.1, .bool p0.2.2.1, .int .i64 p0.2.2.2.1, .int .i64 p0.2.2.2.2.1, .int .i64 x2, .bool x3, .bool x4, .int .i64 x5]) (M' := [(b3, [.int .i64 p0.1, .int .i64 p0.2.1, .bool p0.2.2.1, .int .i64 p0.2.2.2.1, .int .i64 p0.2.2.2.2.1, .int .i64 x2, .bool x3, .bool x4, .int .i64 x5]), (b2, [.int .i64 p1.1, .int .i64 p1.2.1, .int .i64 p1.2.2.1, .int .i64 p1.2.2.2]), (b1, [.int .i64 p0.1, .int .i64 p0.2.1, .bool p0.2.2.1, .int .i64 p0.2.2.2.1, .int .i64 p0.2.2.2.2.1, .int .i64 x2, .bool x3, .bool x4, .int .i64 x5])]) 0 hF hW rfl rfl rfl T27 rfl rfl rfl rfl rfl (fun w hW => ?_)
    refine ls hF hW rfl ((y_assign hF rfl).q) (fun a w hF hW => ?_)
    refine ls_nil ?_
    refine c_then ?_
    refine wp_ret ?_
    have H := Option.some.inj H
    subst H
    refine post2 (.inl rfl) hF hW rfl (rv_cell 0 hF rfl rfl T27 rfl) (rv_tmp hF rfl) ?_
    exact ⟨rfl, hW.done⟩

end Go.Proofs.YtdllfdmdfdfilaaDoor
