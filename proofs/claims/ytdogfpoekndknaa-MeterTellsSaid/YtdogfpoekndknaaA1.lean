/- The functions of layer 43, lifted. Conditions: none. -/
import Derived.Test.YtdogfpoekndknaaA0
namespace Go.Proofs.Ytdogfpoekndknaa
open Go Go.RowKit
set_option linter.unusedVariables false
set_option linter.unusedSimpArgs false
set_option maxRecDepth 20000
theorem H26 : Has Try.prog 26 := ⟨fun args w => run_callFunc_body Try.func26 rfl (by decide) args w⟩
theorem L44 : Et Try.prog 44 50 2 16 := Et.of Try.underlying44 (by kernel_rfl) (by kernel_rfl) (by kernel_rfl) (by decide)
def E50 (a : Int × Int) : List Value := [.int .i64 a.1, .int .i64 a.2]
theorem F50 : Fl R50 E50 := (Fl.pair Fl.int Fl.int)
def r43_Meter_Count (p0 : Int × Int × Int × Int) (p1 : Int) : (Int × Int × Int × Int) := (if (decide ((-1125899906842624) ≤ p1) && (decide (p1 ≤ 1125899906842624) && (decide (0 ≤ (w64 (p0.2.2.1 + p1))) && decide ((w64 (p0.2.2.1 + p1)) ≤ 1125899906842624)))) = true then (p0.1, p0.2.1, w64 (p0.2.2.1 + p1), p0.2.2.2) else p0)
theorem r43_Meter_Count_c (Y : Nat → Prop) (X : List Nat) (w0 : World) (q_p0 : Nat) (p0 : Int × Int × Int × Int) (p1 : Int) (r : (Int × Int × Int × Int)) (H : r43_Meter_Count p0 p1 = r) (hL : Stw ⟨Y, X, w0⟩ [(q_p0, [.int .u64 p0.1, .int .u64 p0.2.1, .int .i64 p0.2.2.1, .int .i64 p0.2.2.2])] [] w0) :
    Calls Try.prog 28 #[.pointer (some ⟨q_p0, 0, none⟩), .int .i64 p1] w0 fun e w' => ∃ x : Unit, e = .returned (.tuple #[]) ∧ Stw ⟨Y, X, w0⟩ [(q_p0, [.int .u64 r.1, .int .u64 r.2.1, .int .i64 r.2.2.1, .int .i64 r.2.2.2])] [] w' := by
  refine enter Try.func28 rfl Try.ntmps28 rfl (fun a hF => ?_)
  have hW := hL
  unfold r43_Meter_Count at H
  refine c_seq ?_
  refine reg_list ?_
  refine ls hF hW rfl ((y_assign hF rfl).q) (fun a w hF hW => ?_)
  refine ls_nil ?_
  refine c_then ?_
  refine c_seqJ (fun a w => Fr 42 [] [(0, .pointer (some ⟨q_p0, 0, none⟩)), (1, .int .i64 p1), (32, .bool (decide ((-1125899906842624) ≤ p1) && (decide (p1 ≤ 1125899906842624) && (decide (0 ≤ (w64 (p0.2.2.1 + p1))) && decide ((w64 (p0.2.2.1 + p1)) ≤ 1125899906842624)))))] a ∧ Stw ⟨Y, X, w0⟩ [(q_p0, [.int .u64 p0.1, .int .u64 p0.2.1, .int .i64 p0.2.2.1, .int .i64 p0.2.2.2])] [] w) ?_ ?_
  ·
    refine reg_list ?_
    refine ls hF hW rfl ((y_move hF rfl).q) (fun a w hF hW => ?_)
    refine ls hF hW rfl ((y_move hF rfl).q) (fun a w hF hW => ?_)
    refine ls hF hW rfl ((y_sub hF rfl rfl (r := (-1125899906842624)) (by decide)).q) (fun a w hF hW => ?_)
    refine ls hF hW rfl ((y_geq hF rfl rfl).q) (fun a w hF hW => ?_)
    refine ls hF hW rfl ((y_move hF rfl).q) (fun a w hF hW => ?_)
    rcases Bool.eq_false_or_eq_true (decide ((-1125899906842624) ≤ p1)) with hb0 | hb0
    ·
      rw [hb0] at hF
      refine ls_w hF hW (wanted_y hF rfl rfl rfl rfl) rfl (Nat.le_of_ble_eq_true rfl) ((y_move hF rfl).q) (fun a w hF hW => ?_)
      refine ls_w hF hW (wanted_y hF rfl rfl rfl rfl) rfl (Nat.le_of_ble_eq_true rfl) ((y_move hF rfl).q) (fun a w hF hW => ?_)
      refine ls_w hF hW (wanted_y hF rfl rfl rfl rfl) rfl (Nat.le_of_ble_eq_true rfl) ((y_leq hF rfl rfl).q) (fun a w hF hW => ?_)
      refine ls hF hW rfl ((y_pick_t hF rfl rfl rfl).q) (fun a w hF hW => ?_)
      refine ls hF hW rfl ((y_move hF rfl).q) (fun a w hF hW => ?_)
      rcases Bool.eq_false_or_eq_true (decide (p1 ≤ 1125899906842624)) with hb1 | hb1
      ·
        rw [hb1] at hF
        refine ls_w hF hW (wanted_y hF rfl rfl rfl rfl) rfl (Nat.le_of_ble_eq_true rfl) ((y_move hF rfl).q) (fun a w hF hW => ?_)
        refine ls_w hF hW (wanted_y hF rfl rfl rfl rfl) rfl (Nat.le_of_ble_eq_true rfl) ((y_nilCheck hF rfl).q) (fun a w hF hW => ?_)
        refine ls_w hF hW (wanted_y hF rfl rfl rfl rfl) rfl (Nat.le_of_ble_eq_true rfl) ((y_fieldAddr Try.underlying54 rfl rfl rfl T3 hF rfl 2 rfl).q) (fun a w hF hW => ?_)
        refine ls_w hF hW (wanted_y hF rfl rfl rfl rfl) rfl (Nat.le_of_ble_eq_true rfl) ((y_load (v := Value.int .i64 p0.2.2.1) 0 hF rfl rfl T3 rfl).q) (fun a w hF hW => ?_)
        refine ls_w hF hW (wanted_y hF rfl rfl rfl rfl) rfl (Nat.le_of_ble_eq_true rfl) ((y_move hF rfl).q) (fun a w hF hW => ?_)
        refine ls_w hF hW (wanted_y hF rfl rfl rfl rfl) rfl (Nat.le_of_ble_eq_true rfl) ((y_add hF rfl rfl rfl).q) (fun a w hF hW => ?_)
        refine ls_w hF hW (wanted_y hF rfl rfl rfl rfl) rfl (Nat.le_of_ble_eq_true rfl) ((y_geq hF rfl rfl).q) (fun a w hF hW => ?_)
        refine ls hF hW rfl ((y_pick_t hF rfl rfl rfl).q) (fun a w hF hW => ?_)
        refine ls hF hW rfl ((y_move hF rfl).q) (fun a w hF hW => ?_)
        rcases Bool.eq_false_or_eq_true (decide (0 ≤ (w64 (p0.2.2.1 + p1)))) with hb2 | hb2
        ·
          rw [hb2] at hF
          refine ls_w hF hW (wanted_y hF rfl rfl rfl rfl) rfl (Nat.le_of_ble_eq_true rfl) ((y_move hF rfl).q) (fun a w hF hW => ?_)
          refine ls_w hF hW (wanted_y hF rfl rfl rfl rfl) rfl (Nat.le_of_ble_eq_true rfl) ((y_nilCheck hF rfl).q) (fun a w hF hW => ?_)
          refine ls_w hF hW (wanted_y hF rfl rfl rfl rfl) rfl (Nat.le_of_ble_eq_true rfl) ((y_fieldAddr Try.underlying54 rfl rfl rfl T3 hF rfl 2 rfl).q) (fun a w hF hW => ?_)
          refine ls_w hF hW (wanted_y hF rfl rfl rfl rfl) rfl (Nat.le_of_ble_eq_true rfl) ((y_load (v := Value.int .i64 p0.2.2.1) 0 hF rfl rfl T3 rfl).q) (fun a w hF hW => ?_)
          refine ls_w hF hW (wanted_y hF rfl rfl rfl rfl) rfl (Nat.le_of_ble_eq_true rfl) ((y_move hF rfl).q) (fun a w hF hW => ?_)
          refine ls_w hF hW (wanted_y hF rfl rfl rfl rfl) rfl (Nat.le_of_ble_eq_true rfl) ((y_add hF rfl rfl rfl).q) (fun a w hF hW => ?_)
          refine ls_w hF hW (wanted_y hF rfl rfl rfl rfl) rfl (Nat.le_of_ble_eq_true rfl) ((y_move hF rfl).q) (fun a w hF hW => ?_)
          refine ls_w hF hW (wanted_y hF rfl rfl rfl rfl) rfl (Nat.le_of_ble_eq_true rfl) ((y_leq hF rfl rfl).q) (fun a w hF hW => ?_)
          refine ls hF hW rfl ((y_pick_t hF rfl rfl rfl).q) (fun a w hF hW => ?_)
          refine ls_nil ?_
          refine c_then ?_
          exact ⟨hF.re ⟨rfl, rfl, (by show some (Value.bool (decide ((w64 (p0.2.2.1 + p1)) ≤ 1125899906842624))) = some (Value.bool (decide ((-1125899906842624) ≤ p1) && (decide (p1 ≤ 1125899906842624) && (decide (0 ≤ (w64 (p0.2.2.1 + p1))) && decide ((w64 (p0.2.2.1 + p1)) ≤ 1125899906842624))))); try rw [hb2]; try rw [hb0]; try rw [hb1]; all_goals simp only [Bool.not_true, Bool.not_false, Bool.true_and, Bool.false_and, Bool.true_or, Bool.false_or, Bool.and_true, Bool.or_false, cond_true, cond_false]), trivial⟩, hW⟩
        ·
          rw [hb2] at hF
          refine ls_skip hF (wanted_n hF rfl rfl rfl rfl rfl) rfl rfl (fun a hF => ?_)
          refine ls_skip hF (wanted_n hF rfl rfl rfl rfl rfl) rfl rfl (fun a hF => ?_)
          refine ls_skip hF (wanted_n hF rfl rfl rfl rfl rfl) rfl rfl (fun a hF => ?_)
          refine ls_skip hF (wanted_n hF rfl rfl rfl rfl rfl) rfl rfl (fun a hF => ?_)
          refine ls_skip hF (wanted_n hF rfl rfl rfl rfl rfl) rfl rfl (fun a hF => ?_)
          refine ls_skip hF (wanted_n hF rfl rfl rfl rfl rfl) rfl rfl (fun a hF => ?_)
          refine ls_skip hF (wanted_n hF rfl rfl rfl rfl rfl) rfl rfl (fun a hF => ?_)
          refine ls_skip hF (wanted_n hF rfl rfl rfl rfl rfl) rfl rfl (fun a hF => ?_)
          refine ls hF hW rfl ((y_pick_f hF rfl rfl rfl).q) (fun a w hF hW => ?_)
          refine ls_nil ?_
          refine c_then ?_
          exact ⟨hF.re ⟨rfl, rfl, (by show some (Value.bool false) = some (Value.bool (decide ((-1125899906842624) ≤ p1) && (decide (p1 ≤ 1125899906842624) && (decide (0 ≤ (w64 (p0.2.2.1 + p1))) && decide ((w64 (p0.2.2.1 + p1)) ≤ 1125899906842624))))); try rw [hb2]; try rw [hb0]; try rw [hb1]; all_goals simp only [Bool.not_true, Bool.not_false, Bool.true_and, Bool.false_and, Bool.true_or, Bool.false_or, Bool.and_true, Bool.or_false, cond_true, cond_false]), trivial⟩, hW⟩
      ·
        rw [hb1] at hF
        refine ls_skip hF (wanted_n hF rfl rfl rfl rfl rfl) rfl rfl (fun a hF => ?_)
        refine ls_skip hF (wanted_n hF rfl rfl rfl rfl rfl) rfl rfl (fun a hF => ?_)
        refine ls_skip hF (wanted_n hF rfl rfl rfl rfl rfl) rfl rfl (fun a hF => ?_)
        refine ls_skip hF (wanted_n hF rfl rfl rfl rfl rfl) rfl rfl (fun a hF => ?_)
        refine ls_skip hF (wanted_n hF rfl rfl rfl rfl rfl) rfl rfl (fun a hF => ?_)
        refine ls_skip hF (wanted_n hF rfl rfl rfl rfl rfl) rfl rfl (fun a hF => ?_)
        refine ls_skip hF (wanted_n hF rfl rfl rfl rfl rfl) rfl rfl (fun a hF => ?_)
        refine ls hF hW rfl ((y_pick_f hF rfl rfl rfl).q) (fun a w hF hW => ?_)
        refine ls hF hW rfl ((y_move hF rfl).q) (fun a w hF hW => ?_)
        refine ls_skip hF (wanted_n hF rfl rfl rfl rfl rfl) rfl rfl (fun a hF => ?_)
        refine ls_skip hF (wanted_n hF rfl rfl rfl rfl rfl) rfl rfl (fun a hF => ?_)
        refine ls_skip hF (wanted_n hF rfl rfl rfl rfl rfl) rfl rfl (fun a hF => ?_)
        refine ls_skip hF (wanted_n hF rfl rfl rfl rfl rfl) rfl rfl (fun a hF => ?_)
        refine ls_skip hF (wanted_n hF rfl rfl rfl rfl rfl) rfl rfl (fun a hF => ?_)
        refine ls_skip hF (wanted_n hF rfl rfl rfl rfl rfl) rfl rfl (fun a hF => ?_)
        refine ls_skip hF (wanted_n hF rfl rfl rfl rfl rfl) rfl rfl (fun a hF => ?_)
        refine ls_skip hF (wanted_n hF rfl rfl rfl rfl rfl) rfl rfl (fun a hF => ?_)
        refine ls hF hW rfl ((y_pick_f hF rfl rfl rfl).q) (fun a w hF hW => ?_)
        refine ls_nil ?_
        refine c_then ?_
        exact ⟨hF.re ⟨rfl, rfl, (by show some (Value.bool false) = some (Value.bool (decide ((-1125899906842624) ≤ p1) && (decide (p1 ≤ 1125899906842624) && (decide (0 ≤ (w64 (p0.2.2.1 + p1))) && decide ((w64 (p0.2.2.1 + p1)) ≤ 1125899906842624))))); try rw [hb0]; try rw [hb1]; all_goals simp only [Bool.not_true, Bool.not_false, Bool.true_and, Bool.false_and, Bool.true_or, Bool.false_or, Bool.and_true, Bool.or_false, cond_true, cond_false]), trivial⟩, hW⟩
    ·
      rw [hb0] at hF
      refine ls_skip hF (wanted_n hF rfl rfl rfl rfl rfl) rfl rfl (fun a hF => ?_)
      refine ls_skip hF (wanted_n hF rfl rfl rfl rfl rfl) rfl rfl (fun a hF => ?_)
      refine ls_skip hF (wanted_n hF rfl rfl rfl rfl rfl) rfl rfl (fun a hF => ?_)
      refine ls hF hW rfl ((y_pick_f hF rfl rfl rfl).q) (fun a w hF hW => ?_)
      refine ls hF hW rfl ((y_move hF rfl).q) (fun a w hF hW => ?_)
      refine ls_skip hF (wanted_n hF rfl rfl rfl rfl rfl) rfl rfl (fun a hF => ?_)
      refine ls_skip hF (wanted_n hF rfl rfl rfl rfl rfl) rfl rfl (fun a hF => ?_)
      refine ls_skip hF (wanted_n hF rfl rfl rfl rfl rfl) rfl rfl (fun a hF => ?_)
      refine ls_skip hF (wanted_n hF rfl rfl rfl rfl rfl) rfl rfl (fun a hF => ?_)
      refine ls_skip hF (wanted_n hF rfl rfl rfl rfl rfl) rfl rfl (fun a hF => ?_)
      refine ls_skip hF (wanted_n hF rfl rfl rfl rfl rfl) rfl rfl (fun a hF => ?_)
      refine ls_skip hF (wanted_n hF rfl rfl rfl rfl rfl) rfl rfl (fun a hF => ?_)
      refine ls hF hW rfl ((y_pick_f hF rfl rfl rfl).q) (fun a w hF hW => ?_)
      refine ls hF hW rfl ((y_move hF rfl).q) (fun a w hF hW => ?_)
      refine ls_skip hF (wanted_n hF rfl rfl rfl rfl rfl) rfl rfl (fun a hF => ?_)
      refine ls_skip hF (wanted_n hF rfl rfl rfl rfl rfl) rfl rfl (fun a hF => ?_)
      refine ls_skip hF (wanted_n hF rfl rfl rfl rfl rfl) rfl rfl (fun a hF => ?_)
      refine ls_skip hF (wanted_n hF rfl rfl rfl rfl rfl) rfl rfl (fun a hF => ?_)
      refine ls_skip hF (wanted_n hF rfl rfl rfl rfl rfl) rfl rfl (fun a hF => ?_)
      refine ls_skip hF (wanted_n hF rfl rfl rfl rfl rfl) rfl rfl (fun a hF => ?_)
      refine ls_skip hF (wanted_n hF rfl rfl rfl rfl rfl) rfl rfl (fun a hF => ?_)
      refine ls_skip hF (wanted_n hF rfl rfl rfl rfl rfl) rfl rfl (fun a hF => ?_)
      refine ls hF hW rfl ((y_pick_f hF rfl rfl rfl).q) (fun a w hF hW => ?_)
      refine ls_nil ?_
      refine c_then ?_
      exact ⟨hF.re ⟨rfl, rfl, (by show some (Value.bool false) = some (Value.bool (decide ((-1125899906842624) ≤ p1) && (decide (p1 ≤ 1125899906842624) && (decide (0 ≤ (w64 (p0.2.2.1 + p1))) && decide ((w64 (p0.2.2.1 + p1)) ≤ 1125899906842624))))); try rw [hb0]; all_goals simp only [Bool.not_true, Bool.not_false, Bool.true_and, Bool.false_and, Bool.true_or, Bool.false_or, Bool.and_true, Bool.or_false, cond_true, cond_false]), trivial⟩, hW⟩
  rintro a w ⟨hF, hW⟩
  refine c_cond hF rfl (fun hb => ?_) (fun hb => ?_)
  ·
    have H := iteT hb H
    rw [hb] at hF
    clear hb
    refine reg_list ?_
    refine ls hF hW rfl ((y_move hF rfl).q) (fun a w hF hW => ?_)
    refine ls hF hW rfl ((y_move hF rfl).q) (fun a w hF hW => ?_)
    refine ls hF hW rfl ((y_nilCheck hF rfl).q) (fun a w hF hW => ?_)
    refine ls hF hW rfl ((y_fieldAddr Try.underlying54 rfl rfl rfl T3 hF rfl 2 rfl).q) (fun a w hF hW => ?_)
    refine ls hF hW rfl ((y_load (v := Value.int .i64 p0.2.2.1) 0 hF rfl rfl T3 rfl).q) (fun a w hF hW => ?_)
    refine ls hF hW rfl ((y_move hF rfl).q) (fun a w hF hW => ?_)
    refine ls hF hW rfl ((y_add hF rfl rfl rfl).q) (fun a w hF hW => ?_)
    refine ls hF hW rfl ((y_nilCheck hF rfl).q) (fun a w hF hW => ?_)
    refine ls hF hW rfl ((y_fieldAddr Try.underlying54 rfl rfl rfl T3 hF rfl 2 rfl).q) (fun a w hF hW => ?_)
    refine l_store (vs := [.int .i64 (w64 (p0.2.2.1 + p1))]) (M' := [(q_p0, [.int .u64 p0.1, .int .u64 p0.2.1, .int .i64 (w64 (p0.2.2.1 + p1)), .int .i64 p0.2.2.2])]) 0 hF hW rfl rfl rfl T3 rfl rfl rfl rfl rfl (fun w hW => ?_)
    refine ls_nil ?_
    subst H
    refine post0 (.inr rfl) hF rfl ?_
    exact ⟨(), rfl, hW⟩
  ·
    have H := iteF (by rw [hb]; decide) H
    rw [hb] at hF
    clear hb
    refine wp_skip ?_
    subst H
    refine post0 (.inr rfl) hF rfl ?_
    exact ⟨(), rfl, hW⟩

theorem H28 : Has Try.prog 28 := ⟨fun args w => run_callFunc_body Try.func28 rfl (by decide) args w⟩
theorem T22 : Ty Try.prog 22 false 1 := ⟨by kernel_rfl, by kernel_rfl⟩
def r43_Meter_Close (p0 : Int × Int × Int × Int) (p1 : Int) : (Int × Int × Int × Int) := (if (decide (p0.2.2.2 < p1) && decide (p1 ≤ 1125899906842624)) = true then (p0.1, (r43_Mix p0.2.1 (r43_Rate p0.2.2.1 (w64 (p1 - p0.2.2.2))) p0.1), 0, p1) else p0)
theorem r43_Meter_Close_c (Y : Nat → Prop) (X : List Nat) (w0 : World) (q_p0 : Nat) (p0 : Int × Int × Int × Int) (p1 : Int) (r : (Int × Int × Int × Int)) (H : r43_Meter_Close p0 p1 = r) (hL : Stw ⟨Y, X, w0⟩ [(q_p0, [.int .u64 p0.1, .int .u64 p0.2.1, .int .i64 p0.2.2.1, .int .i64 p0.2.2.2])] [] w0) :
    Calls Try.prog 30 #[.pointer (some ⟨q_p0, 0, none⟩), .int .i64 p1] w0 fun e w' => ∃ x : Unit, e = .returned (.tuple #[]) ∧ Stw ⟨Y, X, w0⟩ [(q_p0, [.int .u64 r.1, .int .u64 r.2.1, .int .i64 r.2.2.1, .int .i64 r.2.2.2])] [] w' := by
  refine enter Try.func30 rfl Try.ntmps30 rfl (fun a hF => ?_)
  have hW := hL
  unfold r43_Meter_Close at H
  refine c_seqJ (fun a w => Fr 44 [] [(0, .pointer (some ⟨q_p0, 0, none⟩)), (1, .int .i64 p1), (13, .bool (decide (p0.2.2.2 < p1) && decide (p1 ≤ 1125899906842624)))] a ∧ Stw ⟨Y, X, w0⟩ [(q_p0, [.int .u64 p0.1, .int .u64 p0.2.1, .int .i64 p0.2.2.1, .int .i64 p0.2.2.2])] [] w) ?_ ?_
  ·
    refine reg_list ?_
    refine ls hF hW rfl ((y_move hF rfl).q) (fun a w hF hW => ?_)
    refine ls hF hW rfl ((y_move hF rfl).q) (fun a w hF hW => ?_)
    refine ls hF hW rfl ((y_nilCheck hF rfl).q) (fun a w hF hW => ?_)
    refine ls hF hW rfl ((y_fieldAddr Try.underlying54 rfl rfl rfl T3 hF rfl 3 rfl).q) (fun a w hF hW => ?_)
    refine ls hF hW rfl ((y_load (v := Value.int .i64 p0.2.2.2) 0 hF rfl rfl T3 rfl).q) (fun a w hF hW => ?_)
    refine ls hF hW rfl ((y_gtr hF rfl rfl).q) (fun a w hF hW => ?_)
    refine ls hF hW rfl ((y_move hF rfl).q) (fun a w hF hW => ?_)
    rcases Bool.eq_false_or_eq_true (decide (p0.2.2.2 < p1)) with hb0 | hb0
    ·
      rw [hb0] at hF
      refine ls_w hF hW (wanted_y hF rfl rfl rfl rfl) rfl (Nat.le_of_ble_eq_true rfl) ((y_move hF rfl).q) (fun a w hF hW => ?_)
      refine ls_w hF hW (wanted_y hF rfl rfl rfl rfl) rfl (Nat.le_of_ble_eq_true rfl) ((y_leq hF rfl rfl).q) (fun a w hF hW => ?_)
      refine ls hF hW rfl ((y_pick_t hF rfl rfl rfl).q) (fun a w hF hW => ?_)
      refine ls_nil ?_
      refine c_then ?_
      exact ⟨hF.re ⟨rfl, rfl, (by show some (Value.bool (decide (p1 ≤ 1125899906842624))) = some (Value.bool (decide (p0.2.2.2 < p1) && decide (p1 ≤ 1125899906842624))); try rw [hb0]; all_goals simp only [Bool.not_true, Bool.not_false, Bool.true_and, Bool.false_and, Bool.true_or, Bool.false_or, Bool.and_true, Bool.or_false, cond_true, cond_false]), trivial⟩, hW⟩
    ·
      rw [hb0] at hF
      refine ls_skip hF (wanted_n hF rfl rfl rfl rfl rfl) rfl rfl (fun a hF => ?_)
      refine ls_skip hF (wanted_n hF rfl rfl rfl rfl rfl) rfl rfl (fun a hF => ?_)
      refine ls hF hW rfl ((y_pick_f hF rfl rfl rfl).q) (fun a w hF hW => ?_)
      refine ls_nil ?_
      refine c_then ?_
      exact ⟨hF.re ⟨rfl, rfl, (by show some (Value.bool false) = some (Value.bool (decide (p0.2.2.2 < p1) && decide (p1 ≤ 1125899906842624))); try rw [hb0]; all_goals simp only [Bool.not_true, Bool.not_false, Bool.true_and, Bool.false_and, Bool.true_or, Bool.false_or, Bool.and_true, Bool.or_false, cond_true, cond_false]), trivial⟩, hW⟩
  rintro a w ⟨hF, hW⟩
  refine c_cond hF rfl (fun hb => ?_) (fun hb => ?_)
  ·
    have H := iteT hb H
    rw [hb] at hF
    clear hb
    refine c_seq ?_
    refine reg_tail 23 hW MO (by kernel_rfl) ?_
    refine qs hF rfl ((y_move hF rfl).q) (fun a hF => ?_)
    refine qs hF rfl ((y_move hF rfl).q) (fun a hF => ?_)
    refine qs hF rfl ((y_nilCheck hF rfl).q) (fun a hF => ?_)
    refine qs hF rfl ((y_fieldAddr Try.underlying54 rfl rfl rfl T22 hF rfl 1 rfl).q) (fun a hF => ?_)
    refine qs hF rfl ((y_load (v := Value.int .u64 p0.2.1) 0 hF rfl rfl T22 rfl).q) (fun a hF => ?_)
    refine qs hF rfl ((y_move hF rfl).q) (fun a hF => ?_)
    refine qs hF rfl ((y_nilCheck hF rfl).q) (fun a hF => ?_)
    refine qs hF rfl ((y_fieldAddr Try.underlying54 rfl rfl rfl T3 hF rfl 2 rfl).q) (fun a hF => ?_)
    refine qs hF rfl ((y_load (v := Value.int .i64 p0.2.2.1) 0 hF rfl rfl T3 rfl).q) (fun a hF => ?_)
    refine qs hF rfl ((y_move hF rfl).q) (fun a hF => ?_)
    refine qs hF rfl ((y_move hF rfl).q) (fun a hF => ?_)
    refine qs hF rfl ((y_nilCheck hF rfl).q) (fun a hF => ?_)
    refine qs hF rfl ((y_fieldAddr Try.underlying54 rfl rfl rfl T3 hF rfl 3 rfl).q) (fun a hF => ?_)
    refine qs hF rfl ((y_load (v := Value.int .i64 p0.2.2.2) 0 hF rfl rfl T3 rfl).q) (fun a hF => ?_)
    refine qs hF rfl ((y_sub hF rfl rfl rfl).q) (fun a hF => ?_)
    refine qs hF rfl (y_call (v := Value.int .u64 (r43_Rate p0.2.2.1 (w64 (p1 - p0.2.2.2)))) hF H10 rfl (fun w hW => r43_Rate_c any w p0.2.2.1 (w64 (p1 - p0.2.2.2)) _ rfl)) (fun a hF => ?_)
    refine qs hF rfl ((y_move hF rfl).q) (fun a hF => ?_)
    refine qs hF rfl ((y_nilCheck hF rfl).q) (fun a hF => ?_)
    refine qs hF rfl ((y_fieldAddr Try.underlying54 rfl rfl rfl T22 hF rfl 0 rfl).q) (fun a hF => ?_)
    refine qs hF rfl ((y_load (v := Value.int .u64 p0.1) 0 hF rfl rfl T22 rfl).q) (fun a hF => ?_)
    refine qs hF rfl (y_call (v := Value.int .u64 (r43_Mix p0.2.1 (r43_Rate p0.2.2.1 (w64 (p1 - p0.2.2.2))) p0.1)) hF H14 rfl (fun w hW => r43_Mix_c any w p0.2.1 (r43_Rate p0.2.2.1 (w64 (p1 - p0.2.2.2))) p0.1 _ rfl)) (fun a hF => ?_)
    refine qs hF rfl ((y_nilCheck hF rfl).q) (fun a hF => ?_)
    refine qs hF rfl ((y_fieldAddr Try.underlying54 rfl rfl rfl T22 hF rfl 1 rfl).q) (fun a hF => ?_)
    refine quiet_end (fun w hW => ?_)
    refine l_store (vs := [.int .u64 (r43_Mix p0.2.1 (r43_Rate p0.2.2.1 (w64 (p1 - p0.2.2.2))) p0.1)]) (M' := [(q_p0, [.int .u64 p0.1, .int .u64 (r43_Mix p0.2.1 (r43_Rate p0.2.2.1 (w64 (p1 - p0.2.2.2))) p0.1), .int .i64 p0.2.2.1, .int .i64 p0.2.2.2])]) 0 hF hW rfl rfl rfl T22 rfl rfl rfl rfl rfl (fun w hW => ?_)
    refine ls_nil ?_
    refine c_then ?_
    refine c_seq ?_
    refine reg_list ?_
    refine ls hF hW rfl ((y_move hF rfl).q) (fun a w hF hW => ?_)
    refine ls hF hW rfl ((y_nilCheck hF rfl).q) (fun a w hF hW => ?_)
    refine ls hF hW rfl ((y_fieldAddr Try.underlying54 rfl rfl rfl T3 hF rfl 2 rfl).q) (fun a w hF hW => ?_)
    refine l_store (vs := [.int .i64 0]) (M' := [(q_p0, [.int .u64 p0.1, .int .u64 (r43_Mix p0.2.1 (r43_Rate p0.2.2.1 (w64 (p1 - p0.2.2.2))) p0.1), .int .i64 0, .int .i64 p0.2.2.2])]) 0 hF hW rfl rfl rfl T3 rfl rfl rfl rfl rfl (fun w hW => ?_)
    refine ls_nil ?_
    refine c_then ?_
    refine reg_list ?_
    refine ls hF hW rfl ((y_move hF rfl).q) (fun a w hF hW => ?_)
    refine ls hF hW rfl ((y_move hF rfl).q) (fun a w hF hW => ?_)
    refine ls hF hW rfl ((y_nilCheck hF rfl).q) (fun a w hF hW => ?_)
    refine ls hF hW rfl ((y_fieldAddr Try.underlying54 rfl rfl rfl T3 hF rfl 3 rfl).q) (fun a w hF hW => ?_)
    refine l_store (vs := [.int .i64 p1]) (M' := [(q_p0, [.int .u64 p0.1, .int .u64 (r43_Mix p0.2.1 (r43_Rate p0.2.2.1 (w64 (p1 - p0.2.2.2))) p0.1), .int .i64 0, .int .i64 p1])]) 0 hF hW rfl rfl rfl T3 rfl rfl rfl rfl rfl (fun w hW => ?_)
    refine ls_nil ?_
    subst H
    refine post0 (.inr rfl) hF rfl ?_
    exact ⟨(), rfl, hW⟩
  ·
    have H := iteF (by rw [hb]; decide) H
    rw [hb] at hF
    clear hb
    refine wp_skip ?_
    subst H
    refine post0 (.inr rfl) hF rfl ?_
    exact ⟨(), rfl, hW⟩

theorem H30 : Has Try.prog 30 := ⟨fun args w => run_callFunc_body Try.func30 rfl (by decide) args w⟩
def meter_Meter_Counted (p0 : Nat × Nat × Int × Int) : Int := p0.2.2.1
theorem meter_Meter_Counted_c (Y : Nat → Prop) (w0 : World) (q_p0 : Nat) (p0 : Nat × Nat × Int × Int) (r : Int) (H : meter_Meter_Counted p0 = r) (a_q_p0 : At ⟨Y, [], w0⟩ q_p0 0 [.float .f64 p0.1, .float .f64 p0.2.1, .int .i64 p0.2.2.1, .int .i64 p0.2.2.2]) :
    Calls Try.prog 32 #[.pointer (some ⟨q_p0, 0, none⟩)] w0 fun e w' => e = .returned (.int .i64 r) ∧ Below w0.heap.size w0 w' := by
  refine enter Try.func32 rfl Try.ntmps32 rfl (fun a hF => ?_)
  have hW := Stw.start Y w0
  unfold meter_Meter_Counted at H
  refine c_seq ?_
  refine reg_list ?_
  refine ls hF hW rfl ((y_assign hF rfl).q) (fun a w hF hW => ?_)
  refine ls_nil ?_
  refine c_then ?_
  refine c_seq ?_
  refine c_seq ?_
  refine reg_list ?_
  refine ls hF hW rfl ((y_move hF rfl).q) (fun a w hF hW => ?_)
  refine ls hF hW rfl ((y_peq_some_nil Try.underlying45 hF rfl rfl).q) (fun a w hF hW => ?_)
  refine ls_nil ?_
  refine c_then ?_
  refine c_cond_f hF rfl ?_
  refine wp_skip ?_
  refine c_then ?_
  refine c_seq ?_
  refine reg_list ?_
  refine ls hF hW rfl ((y_move hF rfl).q) (fun a w hF hW => ?_)
  refine ls hF hW rfl ((y_nilCheck hF rfl).q) (fun a w hF hW => ?_)
  refine ls hF hW rfl ((y_fieldAddr Try.underlying67 rfl rfl rfl T3 hF rfl 2 rfl).q) (fun a w hF hW => ?_)
  refine ls hF hW rfl ((y_load_at (y := Value.int .i64 p0.2.2.1) (j := 2) hF rfl (Nat.zero_add _).symm a_q_p0 T3 rfl).q) (fun a w hF hW => ?_)
  refine ls hF hW rfl ((y_assign hF rfl).q) (fun a w hF hW => ?_)
  refine ls_nil ?_
  refine c_then ?_
  refine wp_ret ?_
  subst H
  refine post1 (.inl rfl) hF hW rfl (rv_tmp hF rfl) ?_
  exact ⟨rfl, hW.done⟩

theorem H32 : Has Try.prog 32 := ⟨fun args w => run_callFunc_body Try.func32 rfl (by decide) args w⟩
def float_Cost (p0 : Nat) : Bool := (fGt p0 0 || fEq p0 0)
theorem float_Cost_c (Y : Nat → Prop) (w0 : World)  (p0 : Nat) (r : Bool) (H : float_Cost p0 = r)  :
    Calls Try.prog 34 #[.float .f64 p0] w0 fun e w' => e = .returned (.bool r) ∧ Below w0.heap.size w0 w' := by
  refine enter Try.func34 rfl Try.ntmps34 rfl (fun a hF => ?_)
  have hW := Stw.start Y w0
  unfold float_Cost at H
  refine c_seq ?_
  refine reg_list ?_
  refine ls hF hW rfl ((y_assign hF rfl).q) (fun a w hF hW => ?_)
  refine ls_nil ?_
  refine c_then ?_
  refine c_seq ?_
  refine reg_list ?_
  refine ls hF hW rfl ((y_move hF rfl).q) (fun a w hF hW => ?_)
  refine ls hF hW rfl ((y_fgeq hF rfl rfl).q) (fun a w hF hW => ?_)
  refine ls hF hW rfl ((y_assign hF rfl).q) (fun a w hF hW => ?_)
  refine ls_nil ?_
  refine c_then ?_
  refine wp_ret ?_
  subst H
  refine post1 (.inl rfl) hF hW rfl (rv_tmp hF rfl) ?_
  exact ⟨rfl, hW.done⟩

theorem H34 : Has Try.prog 34 := ⟨fun args w => run_callFunc_body Try.func34 rfl (by decide) args w⟩
def meter_Meter_Count_2 (p1 : Int) : Unit := ()
theorem meter_Meter_Count_2_c (Y : Nat → Prop) (w0 : World)  (p1 : Int) (r : Unit) (H : meter_Meter_Count_2 p1 = r)  :
    Calls Try.prog 27 #[.pointer none, .int .i64 p1] w0 fun e w' => e = .returned (.tuple #[]) ∧ Below w0.heap.size w0 w' := by
  refine enter Try.func27 rfl Try.ntmps27 rfl (fun a hF => ?_)
  have hW := Stw.start Y w0
  unfold meter_Meter_Count_2 at H
  refine c_seq ?_
  refine reg_list ?_
  refine ls hF hW rfl ((y_move hF rfl).q) (fun a w hF hW => ?_)
  refine ls hF hW rfl ((y_pne_nil_nil Try.underlying45 hF rfl rfl).q) (fun a w hF hW => ?_)
  refine ls hF hW rfl ((y_move hF rfl).q) (fun a w hF hW => ?_)
  refine ls_skip hF (wanted_n hF rfl rfl rfl rfl rfl) rfl rfl (fun a hF => ?_)
  refine ls_skip hF (wanted_n hF rfl rfl rfl rfl rfl) rfl rfl (fun a hF => ?_)
  refine ls_skip hF (wanted_n hF rfl rfl rfl rfl rfl) rfl rfl (fun a hF => ?_)
  refine ls_skip hF (wanted_n hF rfl rfl rfl rfl rfl) rfl rfl (fun a hF => ?_)
  refine ls_skip hF (wanted_n hF rfl rfl rfl rfl rfl) rfl rfl (fun a hF => ?_)
  refine ls_skip hF (wanted_n hF rfl rfl rfl rfl rfl) rfl rfl (fun a hF => ?_)
  refine ls_skip hF (wanted_n hF rfl rfl rfl rfl rfl) rfl rfl (fun a hF => ?_)
  refine ls hF hW rfl ((y_pick_f hF rfl rfl rfl).q) (fun a w hF hW => ?_)
  refine ls hF hW rfl ((y_move hF rfl).q) (fun a w hF hW => ?_)
  refine ls_skip hF (wanted_n hF rfl rfl rfl rfl rfl) rfl rfl (fun a hF => ?_)
  refine ls_skip hF (wanted_n hF rfl rfl rfl rfl rfl) rfl rfl (fun a hF => ?_)
  refine ls_skip hF (wanted_n hF rfl rfl rfl rfl rfl) rfl rfl (fun a hF => ?_)
  refine ls_skip hF (wanted_n hF rfl rfl rfl rfl rfl) rfl rfl (fun a hF => ?_)
  refine ls_skip hF (wanted_n hF rfl rfl rfl rfl rfl) rfl rfl (fun a hF => ?_)
  refine ls_skip hF (wanted_n hF rfl rfl rfl rfl rfl) rfl rfl (fun a hF => ?_)
  refine ls_skip hF (wanted_n hF rfl rfl rfl rfl rfl) rfl rfl (fun a hF => ?_)
  refine ls hF hW rfl ((y_pick_f hF rfl rfl rfl).q) (fun a w hF hW => ?_)
  refine ls_nil ?_
  refine c_then ?_
  refine c_cond_f hF rfl ?_
  refine wp_skip ?_
  subst H
  refine post0 (.inr rfl) hF rfl ?_
  exact ⟨rfl, hW.done⟩

def meter_Meter_Close_2 (p1 : Int) : Unit := ()
theorem meter_Meter_Close_2_c (Y : Nat → Prop) (w0 : World)  (p1 : Int) (r : Unit) (H : meter_Meter_Close_2 p1 = r)  :
    Calls Try.prog 29 #[.pointer none, .int .i64 p1] w0 fun e w' => e = .returned (.tuple #[]) ∧ Below w0.heap.size w0 w' := by
  refine enter Try.func29 rfl Try.ntmps29 rfl (fun a hF => ?_)
  have hW := Stw.start Y w0
  unfold meter_Meter_Close_2 at H
  refine c_seq ?_
  refine c_seq ?_
  refine reg_list ?_
  refine ls hF hW rfl ((y_move hF rfl).q) (fun a w hF hW => ?_)
  refine ls hF hW rfl ((y_peq_nil_nil Try.underlying45 hF rfl rfl).q) (fun a w hF hW => ?_)
  refine ls hF hW rfl ((y_move hF rfl).q) (fun a w hF hW => ?_)
  refine ls_skip hF (wanted_n hF rfl rfl rfl rfl rfl) rfl rfl (fun a hF => ?_)
  refine ls_skip hF (wanted_n hF rfl rfl rfl rfl rfl) rfl rfl (fun a hF => ?_)
  refine ls_skip hF (wanted_n hF rfl rfl rfl rfl rfl) rfl rfl (fun a hF => ?_)
  refine ls_skip hF (wanted_n hF rfl rfl rfl rfl rfl) rfl rfl (fun a hF => ?_)
  refine ls_skip hF (wanted_n hF rfl rfl rfl rfl rfl) rfl rfl (fun a hF => ?_)
  refine ls_skip hF (wanted_n hF rfl rfl rfl rfl rfl) rfl rfl (fun a hF => ?_)
  refine ls hF hW rfl ((y_pick_t hF rfl rfl rfl).q) (fun a w hF hW => ?_)
  refine ls hF hW rfl ((y_move hF rfl).q) (fun a w hF hW => ?_)
  refine ls_skip hF (wanted_n hF rfl rfl rfl rfl rfl) rfl rfl (fun a hF => ?_)
  refine ls_skip hF (wanted_n hF rfl rfl rfl rfl rfl) rfl rfl (fun a hF => ?_)
  refine ls hF hW rfl ((y_pick_t hF rfl rfl rfl).q) (fun a w hF hW => ?_)
  refine ls_nil ?_
  refine c_then ?_
  refine c_cond_t hF rfl ?_
  refine wp_ret ?_
  refine r_then ?_
  subst H
  refine post0 (.inl rfl) hF rfl ?_
  exact ⟨rfl, hW.done⟩

def meter_Meter_Value_2  : Nat := (float_Clean math_NaN)
theorem meter_Meter_Value_2_c (Y : Nat → Prop) (w0 : World)   (r : Nat) (H : meter_Meter_Value_2  = r)  :
    Calls Try.prog 31 #[.pointer none] w0 fun e w' => e = .returned (.float .f64 r) ∧ Below w0.heap.size w0 w' := by
  refine enter Try.func31 rfl Try.ntmps31 rfl (fun a hF => ?_)
  have hW := Stw.start Y w0
  unfold meter_Meter_Value_2 at H
  refine c_seq ?_
  refine reg_list ?_
  refine ls hF hW rfl ((y_assign hF rfl).q) (fun a w hF hW => ?_)
  refine ls_nil ?_
  refine c_then ?_
  refine c_seq ?_
  refine c_seq ?_
  refine reg_list ?_
  refine ls hF hW rfl ((y_move hF rfl).q) (fun a w hF hW => ?_)
  refine ls hF hW rfl ((y_peq_nil_nil Try.underlying45 hF rfl rfl).q) (fun a w hF hW => ?_)
  refine ls_nil ?_
  refine c_then ?_
  refine c_cond_t hF rfl ?_
  refine c_seq ?_
  refine reg_list ?_
  refine ls hF hW rfl (y_call (v := Value.float .f64 math_NaN) hF H50 rfl (fun w hW => math_NaN_c any w _ rfl)) (fun a w hF hW => ?_)
  refine ls hF hW rfl (y_call (v := Value.float .f64 (float_Clean math_NaN)) hF H39 rfl (fun w hW => float_Clean_c any w math_NaN _ rfl)) (fun a w hF hW => ?_)
  refine ls hF hW rfl ((y_assign hF rfl).q) (fun a w hF hW => ?_)
  refine ls_nil ?_
  refine c_then ?_
  refine wp_ret ?_
  refine r_then ?_
  subst H
  refine post1 (.inl rfl) hF hW rfl (rv_tmp hF rfl) ?_
  exact ⟨rfl, hW.done⟩

def meter_Meter_Counted_2  : Unit := ()
theorem meter_Meter_Counted_2_c (Y : Nat → Prop) (w0 : World)   (r : Unit) (H : meter_Meter_Counted_2  = r)  :
    Calls Try.prog 32 #[.pointer none] w0 fun e w' => e = .returned (.int .i64 0) ∧ Below w0.heap.size w0 w' := by
  refine enter Try.func32 rfl Try.ntmps32 rfl (fun a hF => ?_)
  have hW := Stw.start Y w0
  unfold meter_Meter_Counted_2 at H
  refine c_seq ?_
  refine reg_list ?_
  refine ls hF hW rfl ((y_assign hF rfl).q) (fun a w hF hW => ?_)
  refine ls_nil ?_
  refine c_then ?_
  refine c_seq ?_
  refine c_seq ?_
  refine reg_list ?_
  refine ls hF hW rfl ((y_move hF rfl).q) (fun a w hF hW => ?_)
  refine ls hF hW rfl ((y_peq_nil_nil Try.underlying45 hF rfl rfl).q) (fun a w hF hW => ?_)
  refine ls_nil ?_
  refine c_then ?_
  refine c_cond_t hF rfl ?_
  refine c_seq ?_
  refine reg_list ?_
  refine ls hF hW rfl ((y_assign hF rfl).q) (fun a w hF hW => ?_)
  refine ls_nil ?_
  refine c_then ?_
  refine wp_ret ?_
  refine r_then ?_
  subst H
  refine post1 (.inl rfl) hF hW rfl (rv_tmp hF rfl) ?_
  exact ⟨rfl, hW.done⟩

def meter_Meter_Since_2  : Unit := ()
theorem meter_Meter_Since_2_c (Y : Nat → Prop) (w0 : World)   (r : Unit) (H : meter_Meter_Since_2  = r)  :
    Calls Try.prog 33 #[.pointer none] w0 fun e w' => e = .returned (.int .i64 0) ∧ Below w0.heap.size w0 w' := by
  refine enter Try.func33 rfl Try.ntmps33 rfl (fun a hF => ?_)
  have hW := Stw.start Y w0
  unfold meter_Meter_Since_2 at H
  refine c_seq ?_
  refine reg_list ?_
  refine ls hF hW rfl ((y_assign hF rfl).q) (fun a w hF hW => ?_)
  refine ls_nil ?_
  refine c_then ?_
  refine c_seq ?_
  refine c_seq ?_
  refine reg_list ?_
  refine ls hF hW rfl ((y_move hF rfl).q) (fun a w hF hW => ?_)
  refine ls hF hW rfl ((y_peq_nil_nil Try.underlying45 hF rfl rfl).q) (fun a w hF hW => ?_)
  refine ls_nil ?_
  refine c_then ?_
  refine c_cond_t hF rfl ?_
  refine c_seq ?_
  refine reg_list ?_
  refine ls hF hW rfl ((y_assign hF rfl).q) (fun a w hF hW => ?_)
  refine ls_nil ?_
  refine c_then ?_
  refine wp_ret ?_
  refine r_then ?_
  subst H
  refine post1 (.inl rfl) hF hW rfl (rv_tmp hF rfl) ?_
  exact ⟨rfl, hW.done⟩

noncomputable def L43_MeterPlays_l1 (p1 : List (Int × Int)) : (Int × Int × Int × Int × Int × Nat × Nat × Int × Int) → Option ((Int × Int × Int × Int × Int × Nat × Nat × Int × Int) ⊕ ((Int × Int × Int × Int × Nat × Nat × Int × Int) ⊕ Bool))
  | (x9, x10, x11, x12, x13, x14, x15, x16, x17) => (if (decide (x9 < (p1.length : Int)) && decide (x9 < 60)) = true then ((ix p1 x9).bind fun x26 => (if x26.1 = 0 then some true else (if x26.1 = 1 then some true else some (decide (x26.1 = 2)))).bind fun x27 => (if x27 = true then (ix p1 x9).bind fun x28 => (ix p1 x9).bind fun x29 => some ((r43_Meter_Count (x10, x11, x12, x13) x29.2).1, (r43_Meter_Count (x10, x11, x12, x13) x29.2).2.1, (r43_Meter_Count (x10, x11, x12, x13) x29.2).2.2.1, (r43_Meter_Count (x10, x11, x12, x13) x29.2).2.2.2, (meter_Meter_Count (x14, x15, x16, x17) x28.2).1, (meter_Meter_Count (x14, x15, x16, x17) x28.2).2.1, (meter_Meter_Count (x14, x15, x16, x17) x28.2).2.2.1, (meter_Meter_Count (x14, x15, x16, x17) x28.2).2.2.2) else (if x26.1 = 3 then some true else some (decide (x26.1 = 4))).bind fun x30 => (if x30 = true then (ix p1 x9).bind fun x31 => (meter_Meter_Close (x14, x15, x16, x17) x31.2).bind fun x32 => (ix p1 x9).bind fun x33 => some ((r43_Meter_Close (x10, x11, x12, x13) x33.2).1, (r43_Meter_Close (x10, x11, x12, x13) x33.2).2.1, (r43_Meter_Close (x10, x11, x12, x13) x33.2).2.2.1, (r43_Meter_Close (x10, x11, x12, x13) x33.2).2.2.2, x32.1, x32.2.1, x32.2.2.1, x32.2.2.2) else some (x10, x11, x12, x13, x14, x15, x16, x17)))).bind fun (x18, x19, x20, x21, x22, x23, x24, x25) => (if (decide ((float_Bits (meter_Meter_Value (x22, x23, x24, x25))) ≠ x19) || (decide ((meter_Meter_Counted (x22, x23, x24, x25)) ≠ x20) || (decide ((meter_Meter_Since (x22, x23, x24, x25)) ≠ x21) || (decide (0 < (meter_Meter_Since (x22, x23, x24, x25))) && !(float_Cost (meter_Meter_Value (x22, x23, x24, x25))))))) = true then some (.inr (.inr false)) else some (.inl (w64 (x9 + 1), x18, x19, x20, x21, x22, x23, x24, x25))) else some (.inr (.inl (x10, x11, x12, x13, x14, x15, x16, x17))))
noncomputable def L43_MeterPlays (p0 : Int) (p1 : List (Int × Int)) : Option Bool := orR (loopW (L43_MeterPlays_l1 p1) (0, (r43_New p0).1, (r43_New p0).2.1, (r43_New p0).2.2.1, (r43_New p0).2.2.2, (meter_New (L43_raw p0)).1, (meter_New (L43_raw p0)).2.1, (meter_New (L43_raw p0)).2.2.1, (meter_New (L43_raw p0)).2.2.2)) fun (x1, x2, x3, x4, x5, x6, x7, x8) => (if (float_Bits meter_Meter_Value_2) = 9221120237041090561 then (L43_awake).bind fun x35 => some x35 else some false).bind fun x34 => some x34
theorem L43_MeterPlays_c (Y : Nat → Prop) (w0 : World) (v1 : Value) (p0 : Int) (p1 : List (Int × Int)) (r : Bool) (H : L43_MeterPlays p0 p1 = some r) (h_v1 : Sl w0 (NX []) R50 v1 p1) :
    Calls Try.prog 5 #[.int .u64 p0, v1] w0 fun e w' => e = .returned (.bool r) ∧ Below w0.heap.size w0 w' := by
  refine enter Try.func5 rfl Try.ntmps5 rfl (fun a hF => ?_)
  have hW := Stw.start Y w0
  unfold L43_MeterPlays at H
  refine c_seq ?_
  refine reg_list ?_
  refine ls hF hW rfl ((y_assign hF rfl).q) (fun a w hF hW => ?_)
  refine ls_nil ?_
  refine c_then ?_
  refine c_seq ?_
  refine reg_list ?_
  refine ls hF hW rfl ((y_move hF rfl).q) (fun a w hF hW => ?_)
  refine ls hF hW rfl (y_call (v := Value.float .f64 (L43_raw p0)) hF H12 rfl (fun w hW => L43_raw_c any w p0 _ rfl)) (fun a w hF hW => ?_)
  refine l_callG (Ml := []) (Zl := []) (M := []) (Z := []) (β := Nat) (rv := fun x => .pointer (some ⟨x, 0, none⟩)) (MM := fun x => [(x, [.float .f64 ((meter_New (L43_raw p0)).1), .float .f64 ((meter_New (L43_raw p0)).2.1), .int .i64 ((meter_New (L43_raw p0)).2.2.1), .int .i64 ((meter_New (L43_raw p0)).2.2.2)])]) (ZZ := fun x => []) hF hW H25 rfl rfl (fun hL => meter_New_c _ w (L43_raw p0) _ rfl) (fun x a w hF hW => ?_)
  obtain ⟨b1, rfl⟩ : ∃ y, y = x := ⟨x, rfl⟩
  have hW : Stw ⟨Y, [], w0⟩ [(b1, [.float .f64 ((meter_New (L43_raw p0)).1), .float .f64 ((meter_New (L43_raw p0)).2.1), .int .i64 ((meter_New (L43_raw p0)).2.2.1), .int .i64 ((meter_New (L43_raw p0)).2.2.2)])] [] w := hW
  refine ls hF hW rfl ((y_move hF rfl).q) (fun a w hF hW => ?_)
  refine l_callG (Ml := []) (Zl := []) (M := [(b1, [.float .f64 ((meter_New (L43_raw p0)).1), .float .f64 ((meter_New (L43_raw p0)).2.1), .int .i64 ((meter_New (L43_raw p0)).2.2.1), .int .i64 ((meter_New (L43_raw p0)).2.2.2)])]) (Z := []) (β := Nat) (rv := fun x => .pointer (some ⟨x, 0, none⟩)) (MM := fun x => [(x, [.int .u64 ((r43_New p0).1), .int .u64 ((r43_New p0).2.1), .int .i64 ((r43_New p0).2.2.1), .int .i64 ((r43_New p0).2.2.2)])]) (ZZ := fun x => []) hF hW H26 rfl rfl (fun hL => r43_New_c _ w p0 _ rfl) (fun x a w hF hW => ?_)
  obtain ⟨b2, rfl⟩ : ∃ y, y = x := ⟨x, rfl⟩
  have hW : Stw ⟨Y, [], w0⟩ [(b2, [.int .u64 ((r43_New p0).1), .int .u64 ((r43_New p0).2.1), .int .i64 ((r43_New p0).2.2.1), .int .i64 ((r43_New p0).2.2.2)]), (b1, [.float .f64 ((meter_New (L43_raw p0)).1), .float .f64 ((meter_New (L43_raw p0)).2.1), .int .i64 ((meter_New (L43_raw p0)).2.2.1), .int .i64 ((meter_New (L43_raw p0)).2.2.2)])] [] w := hW
  refine ls hF hW rfl ((y_assign hF rfl).q) (fun a w hF hW => ?_)
  refine ls hF hW rfl ((y_assign hF rfl).q) (fun a w hF hW => ?_)
  refine ls_nil ?_
  refine c_then ?_
  obtain ⟨o1, G1, K1, L1⟩ := orE H
  refine c_seqJ (fun a w => ∃ x1 : Int, ∃ x2 : Int, ∃ x3 : Int, ∃ x4 : Int, ∃ x5 : Nat, ∃ x6 : Nat, ∃ x7 : Int, ∃ x8 : Int, some (Sum.inl (x1, x2, x3, x4, x5, x6, x7, x8)) = some o1 ∧ Fr 120 [] [(4, .bool false)] a ∧ Stw ⟨Y, [], w0⟩ [(b2, [.int .u64 x1, .int .u64 x2, .int .i64 x3, .int .i64 x4]), (b1, [.float .f64 x5, .float .f64 x6, .int .i64 x7, .int .i64 x8])] [] w) ?_ ?_
  ·
    have H := G1
    clear G1 K1
    refine c_seq ?_
    refine reg_list ?_
    refine ls hF hW rfl ((y_assign hF rfl).q) (fun a w hF hW => ?_)
    refine ls_nil ?_
    refine c_then ?_
    refine wp_block ?_
    have hW := hW.frontM (i := 1) rfl rfl
    have hW := hW.frontM (i := 1) rfl rfl
    refine c_loopW H (fun s a w => Fr 120 [] [(1, v1), (4, .bool false), (5, .pointer (some ⟨b1, 0, none⟩)), (6, .pointer (some ⟨b2, 0, none⟩)), (7, .int .i64 s.1)] a ∧ Stw ⟨Y, [], w0⟩ [(b2, [.int .u64 s.2.1, .int .u64 s.2.2.1, .int .i64 s.2.2.2.1, .int .i64 s.2.2.2.2.1]), (b1, [.float .f64 s.2.2.2.2.2.1, .float .f64 s.2.2.2.2.2.2.1, .int .i64 s.2.2.2.2.2.2.2.1, .int .i64 s.2.2.2.2.2.2.2.2])] [] w) ⟨hF.re ⟨rfl, rfl, rfl, rfl, rfl, trivial⟩, hW⟩ (fun s o a w H L2 hR => ?_)
    obtain ⟨x9, x10, x11, x12, x13, x14, x15, x16, x17⟩ := s
    obtain ⟨hF, hW⟩ := hR
    have hF : Fr 120 [] [(1, v1), (4, .bool false), (5, .pointer (some ⟨b1, 0, none⟩)), (6, .pointer (some ⟨b2, 0, none⟩)), (7, .int .i64 x9)] a := hF
    have hW : Stw ⟨Y, [], w0⟩ [(b2, [.int .u64 x10, .int .u64 x11, .int .i64 x12, .int .i64 x13]), (b1, [.float .f64 x14, .float .f64 x15, .int .i64 x16, .int .i64 x17])] [] w := hW
    rw [L43_MeterPlays_l1] at H
    refine c_seq ?_
    refine c_seqJ (fun a w => Fr 120 [] [(1, v1), (4, .bool false), (5, .pointer (some ⟨b1, 0, none⟩)), (6, .pointer (some ⟨b2, 0, none⟩)), (7, .int .i64 x9), (21, .bool (decide (x9 < (p1.length : Int)) && decide (x9 < 60)))] a ∧ Stw ⟨Y, [], w0⟩ [(b2, [.int .u64 x10, .int .u64 x11, .int .i64 x12, .int .i64 x13]), (b1, [.float .f64 x14, .float .f64 x15, .int .i64 x16, .int .i64 x17])] [] w) ?_ ?_
    ·
      refine reg_list ?_
      refine ls hF hW rfl ((y_move hF rfl).q) (fun a w hF hW => ?_)
      refine ls hF hW rfl ((y_move hF rfl).q) (fun a w hF hW => ?_)
      refine ls hF hW rfl ((y_len (r := R50) (l := p1) Try.underlying44 rfl hF rfl (rdc_ro h_v1)).q) (fun a w hF hW => ?_)
      refine ls hF hW rfl ((y_lss hF rfl rfl).q) (fun a w hF hW => ?_)
      refine ls hF hW rfl ((y_move hF rfl).q) (fun a w hF hW => ?_)
      rcases Bool.eq_false_or_eq_true (decide (x9 < (p1.length : Int))) with hb0 | hb0
      ·
        rw [hb0] at hF
        refine ls_w hF hW (wanted_y hF rfl rfl rfl rfl) rfl (Nat.le_of_ble_eq_true rfl) ((y_move hF rfl).q) (fun a w hF hW => ?_)
        refine ls_w hF hW (wanted_y hF rfl rfl rfl rfl) rfl (Nat.le_of_ble_eq_true rfl) ((y_lss hF rfl rfl).q) (fun a w hF hW => ?_)
        refine ls hF hW rfl ((y_pick_t hF rfl rfl rfl).q) (fun a w hF hW => ?_)
        refine ls_nil ?_
        refine c_then ?_
        exact ⟨hF.re ⟨rfl, rfl, rfl, rfl, rfl, (by show some (Value.bool (decide (x9 < 60))) = some (Value.bool (decide (x9 < (p1.length : Int)) && decide (x9 < 60))); try rw [hb0]; all_goals simp only [Bool.not_true, Bool.not_false, Bool.true_and, Bool.false_and, Bool.true_or, Bool.false_or, Bool.and_true, Bool.or_false, cond_true, cond_false]), trivial⟩, hW⟩
      ·
        rw [hb0] at hF
        refine ls_skip hF (wanted_n hF rfl rfl rfl rfl rfl) rfl rfl (fun a hF => ?_)
        refine ls_skip hF (wanted_n hF rfl rfl rfl rfl rfl) rfl rfl (fun a hF => ?_)
        refine ls hF hW rfl ((y_pick_f hF rfl rfl rfl).q) (fun a w hF hW => ?_)
        refine ls_nil ?_
        refine c_then ?_
        exact ⟨hF.re ⟨rfl, rfl, rfl, rfl, rfl, (by show some (Value.bool false) = some (Value.bool (decide (x9 < (p1.length : Int)) && decide (x9 < 60))); try rw [hb0]; all_goals simp only [Bool.not_true, Bool.not_false, Bool.true_and, Bool.false_and, Bool.true_or, Bool.false_or, Bool.and_true, Bool.or_false, cond_true, cond_false]), trivial⟩, hW⟩
    rintro a w ⟨hF, hW⟩
    refine c_cond hF rfl (fun hb => ?_) (fun hb => ?_)
    ·
      have H := iteT hb H
      rw [hb] at hF
      clear hb
      refine wp_skip ?_
      refine c_then ?_
      refine c_seq ?_
      refine wp_block ?_
      obtain ⟨o3, G3, K3⟩ := bindE H
      refine c_seqJ (fun a w => ∃ x18 : Int, ∃ x19 : Int, ∃ x20 : Int, ∃ x21 : Int, ∃ x22 : Nat, ∃ x23 : Nat, ∃ x24 : Int, ∃ x25 : Int, some ((x18, x19, x20, x21, x22, x23, x24, x25)) = some o3 ∧ Fr 120 [] [(1, v1), (4, .bool false), (5, .pointer (some ⟨b1, 0, none⟩)), (6, .pointer (some ⟨b2, 0, none⟩)), (7, .int .i64 x9)] a ∧ Stw ⟨Y, [], w0⟩ [(b2, [.int .u64 x18, .int .u64 x19, .int .i64 x20, .int .i64 x21]), (b1, [.float .f64 x22, .float .f64 x23, .int .i64 x24, .int .i64 x25])] [] w) ?_ ?_
      ·
        have H := G3
        clear G3 K3
        refine c_seq ?_
        refine reg_list ?_
        refine ls hF hW rfl ((y_move hF rfl).q) (fun a w hF hW => ?_)
        refine ls hF hW rfl ((y_move hF rfl).q) (fun a w hF hW => ?_)
        obtain ⟨x26, h1, H⟩ := bindE H
        refine ls hF hW rfl ((y_index (r := R50) L44 hF rfl rfl (rdc_ro h_v1) h1).q) (fun a w hF hW => ?_)
        refine ls hF hW rfl ((y_fieldAddr Try.underlying50 rfl rfl rfl T3 hF rfl (voff v1 + (x9).toNat * 2) rfl).q) (fun a w hF hW => ?_)
        refine ls hF hW rfl ((y_load_el (y := Value.int .i64 x26.1) (j := 0) (i := x9) hF rfl rfl (rdc_ro h_v1) h1 F50.to T3 rfl).q) (fun a w hF hW => ?_)
        refine ls_nil ?_
        refine c_then ?_
        refine wp_block ?_
        obtain ⟨o4, G4, K4⟩ := bindE H
        refine c_seqJ (fun a w => ∃ x27 : Bool, some (x27) = some o4 ∧ Fr 120 [] [(1, v1), (4, .bool false), (5, .pointer (some ⟨b1, 0, none⟩)), (6, .pointer (some ⟨b2, 0, none⟩)), (7, .int .i64 x9), (28, .int .i64 x26.1), (29, .bool x27)] a ∧ Stw ⟨Y, [], w0⟩ [(b2, [.int .u64 x10, .int .u64 x11, .int .i64 x12, .int .i64 x13]), (b1, [.float .f64 x14, .float .f64 x15, .int .i64 x16, .int .i64 x17])] [] w) ?_ ?_
        ·
          have H := G4
          clear G4 K4
          refine c_seq ?_
          refine reg_list ?_
          refine ls hF hW rfl ((y_eql hF rfl rfl).q) (fun a w hF hW => ?_)
          refine ls hF hW rfl ((y_assign hF rfl).q) (fun a w hF hW => ?_)
          refine ls_nil ?_
          refine c_then ?_
          refine c_cond hF rfl (fun hb => ?_) (fun hb => ?_)
          ·
            have H := iteT (of_decide_eq_true hb) H
            rw [hb] at hF
            clear hb
            refine wp_skip ?_
            refine c_then ?_
            have hW := hW.frontM (i := 1) rfl rfl
            have hW := hW.frontM (i := 1) rfl rfl
            exact ⟨_, H, hF.re ⟨rfl, rfl, rfl, rfl, rfl, rfl, rfl, trivial⟩, hW⟩
          ·
            have H := iteF (of_decide_eq_false hb) H
            rw [hb] at hF
            clear hb
            refine c_seq ?_
            refine reg_list ?_
            refine ls hF hW rfl ((y_eql hF rfl rfl).q) (fun a w hF hW => ?_)
            refine ls hF hW rfl ((y_assign hF rfl).q) (fun a w hF hW => ?_)
            refine ls_nil ?_
            refine c_then ?_
            refine c_cond hF rfl (fun hb => ?_) (fun hb => ?_)
            ·
              have H := iteT (of_decide_eq_true hb) H
              rw [hb] at hF
              clear hb
              refine wp_skip ?_
              refine c_then ?_
              have hW := hW.frontM (i := 1) rfl rfl
              have hW := hW.frontM (i := 1) rfl rfl
              exact ⟨_, H, hF.re ⟨rfl, rfl, rfl, rfl, rfl, rfl, rfl, trivial⟩, hW⟩
            ·
              have H := iteF (of_decide_eq_false hb) H
              rw [hb] at hF
              clear hb
              refine reg_list ?_
              refine ls hF hW rfl ((y_eql hF rfl rfl).q) (fun a w hF hW => ?_)
              refine ls hF hW rfl ((y_assign hF rfl).q) (fun a w hF hW => ?_)
              refine ls_nil ?_
              refine c_then ?_
              have hW := hW.frontM (i := 1) rfl rfl
              have hW := hW.frontM (i := 1) rfl rfl
              exact ⟨_, H, hF.re ⟨rfl, rfl, rfl, rfl, rfl, rfl, rfl, trivial⟩, hW⟩
        rintro a w ⟨x27, hj, hF, hW⟩
        have hj := Option.some.inj hj
        subst hj
        have H := K4
        clear G4 K4
        refine c_cond hF rfl (fun hb => ?_) (fun hb => ?_)
        ·
          have H := iteT hb H
          rw [hb] at hF
          clear hb
          refine c_seq ?_
          refine reg_list ?_
          refine ls hF hW rfl ((y_move hF rfl).q) (fun a w hF hW => ?_)
          refine ls hF hW rfl ((y_move hF rfl).q) (fun a w hF hW => ?_)
          refine ls hF hW rfl ((y_move hF rfl).q) (fun a w hF hW => ?_)
          obtain ⟨x28, h2, H⟩ := bindE H
          refine ls hF hW rfl ((y_index (r := R50) L44 hF rfl rfl (rdc_ro h_v1) h2).q) (fun a w hF hW => ?_)
          refine ls hF hW rfl ((y_fieldAddr Try.underlying50 rfl rfl rfl T3 hF rfl (voff v1 + (x9).toNat * 2 + 1) rfl).q) (fun a w hF hW => ?_)
          refine ls hF hW rfl ((y_load_el (y := Value.int .i64 x28.2) (j := 1) (i := x9) hF rfl rfl (rdc_ro h_v1) h2 F50.to T3 rfl).q) (fun a w hF hW => ?_)
          have hW := hW.frontM (i := 1) rfl rfl
          refine l_callG (Ml := [(b1, [.float .f64 x14, .float .f64 x15, .int .i64 x16, .int .i64 x17])]) (Zl := []) (M := [(b2, [.int .u64 x10, .int .u64 x11, .int .i64 x12, .int .i64 x13])]) (Z := []) (β := Unit) (rv := fun x => .tuple #[]) (MM := fun x => [(b1, [.float .f64 ((meter_Meter_Count (x14, x15, x16, x17) x28.2).1), .float .f64 ((meter_Meter_Count (x14, x15, x16, x17) x28.2).2.1), .int .i64 ((meter_Meter_Count (x14, x15, x16, x17) x28.2).2.2.1), .int .i64 ((meter_Meter_Count (x14, x15, x16, x17) x28.2).2.2.2)])]) (ZZ := fun x => []) hF hW H27 rfl rfl (fun hL => meter_Meter_Count_c _ _ w b1 (x14, x15, x16, x17) x28.2 _ rfl hL) (fun x a w hF hW => ?_)
          have hW : Stw ⟨Y, [], w0⟩ [(b1, [.float .f64 ((meter_Meter_Count (x14, x15, x16, x17) x28.2).1), .float .f64 ((meter_Meter_Count (x14, x15, x16, x17) x28.2).2.1), .int .i64 ((meter_Meter_Count (x14, x15, x16, x17) x28.2).2.2.1), .int .i64 ((meter_Meter_Count (x14, x15, x16, x17) x28.2).2.2.2)]), (b2, [.int .u64 x10, .int .u64 x11, .int .i64 x12, .int .i64 x13])] [] w := hW
          refine ls_nil ?_
          refine c_then ?_
          refine reg_list ?_
          refine ls hF hW rfl ((y_move hF rfl).q) (fun a w hF hW => ?_)
          refine ls hF hW rfl ((y_move hF rfl).q) (fun a w hF hW => ?_)
          refine ls hF hW rfl ((y_move hF rfl).q) (fun a w hF hW => ?_)
          obtain ⟨x29, h3, H⟩ := bindE H
          refine ls hF hW rfl ((y_index (r := R50) L44 hF rfl rfl (rdc_ro h_v1) h3).q) (fun a w hF hW => ?_)
          refine ls hF hW rfl ((y_fieldAddr Try.underlying50 rfl rfl rfl T3 hF rfl (voff v1 + (x9).toNat * 2 + 1) rfl).q) (fun a w hF hW => ?_)
          refine ls hF hW rfl ((y_load_el (y := Value.int .i64 x29.2) (j := 1) (i := x9) hF rfl rfl (rdc_ro h_v1) h3 F50.to T3 rfl).q) (fun a w hF hW => ?_)
          have hW := hW.frontM (i := 1) rfl rfl
          refine l_callG (Ml := [(b2, [.int .u64 x10, .int .u64 x11, .int .i64 x12, .int .i64 x13])]) (Zl := []) (M := [(b1, [.float .f64 ((meter_Meter_Count (x14, x15, x16, x17) x28.2).1), .float .f64 ((meter_Meter_Count (x14, x15, x16, x17) x28.2).2.1), .int .i64 ((meter_Meter_Count (x14, x15, x16, x17) x28.2).2.2.1), .int .i64 ((meter_Meter_Count (x14, x15, x16, x17) x28.2).2.2.2)])]) (Z := []) (β := Unit) (rv := fun x => .tuple #[]) (MM := fun x => [(b2, [.int .u64 ((r43_Meter_Count (x10, x11, x12, x13) x29.2).1), .int .u64 ((r43_Meter_Count (x10, x11, x12, x13) x29.2).2.1), .int .i64 ((r43_Meter_Count (x10, x11, x12, x13) x29.2).2.2.1), .int .i64 ((r43_Meter_Count (x10, x11, x12, x13) x29.2).2.2.2)])]) (ZZ := fun x => []) hF hW H28 rfl rfl (fun hL => r43_Meter_Count_c _ _ w b2 (x10, x11, x12, x13) x29.2 _ rfl hL) (fun x a w hF hW => ?_)
          have hW : Stw ⟨Y, [], w0⟩ [(b2, [.int .u64 ((r43_Meter_Count (x10, x11, x12, x13) x29.2).1), .int .u64 ((r43_Meter_Count (x10, x11, x12, x13) x29.2).2.1), .int .i64 ((r43_Meter_Count (x10, x11, x12, x13) x29.2).2.2.1), .int .i64 ((r43_Meter_Count (x10, x11, x12, x13) x29.2).2.2.2)]), (b1, [.float .f64 ((meter_Meter_Count (x14, x15, x16, x17) x28.2).1), .float .f64 ((meter_Meter_Count (x14, x15, x16, x17) x28.2).2.1), .int .i64 ((meter_Meter_Count (x14, x15, x16, x17) x28.2).2.2.1), .int .i64 ((meter_Meter_Count (x14, x15, x16, x17) x28.2).2.2.2)])] [] w := hW
          refine ls_nil ?_
          refine b_normal ?_
          refine c_then ?_
          have hW := hW.frontM (i := 1) rfl rfl
          have hW := hW.frontM (i := 1) rfl rfl
          exact ⟨_, _, _, _, _, _, _, _, H, hF.re ⟨rfl, rfl, rfl, rfl, rfl, trivial⟩, hW⟩
        ·
          have H := iteF (by rw [hb]; decide) H
          rw [hb] at hF
          clear hb
          obtain ⟨o5, G5, K5⟩ := bindE H
          refine c_seqJ (fun a w => ∃ x30 : Bool, some (x30) = some o5 ∧ Fr 120 [] [(1, v1), (4, .bool false), (5, .pointer (some ⟨b1, 0, none⟩)), (6, .pointer (some ⟨b2, 0, none⟩)), (7, .int .i64 x9), (47, .bool x30)] a ∧ Stw ⟨Y, [], w0⟩ [(b2, [.int .u64 x10, .int .u64 x11, .int .i64 x12, .int .i64 x13]), (b1, [.float .f64 x14, .float .f64 x15, .int .i64 x16, .int .i64 x17])] [] w) ?_ ?_
          ·
            have H := G5
            clear G5 K5
            refine c_seq ?_
            refine reg_list ?_
            refine ls hF hW rfl ((y_eql hF rfl rfl).q) (fun a w hF hW => ?_)
            refine ls hF hW rfl ((y_assign hF rfl).q) (fun a w hF hW => ?_)
            refine ls_nil ?_
            refine c_then ?_
            refine c_cond hF rfl (fun hb => ?_) (fun hb => ?_)
            ·
              have H := iteT (of_decide_eq_true hb) H
              rw [hb] at hF
              clear hb
              refine wp_skip ?_
              refine c_then ?_
              have hW := hW.frontM (i := 1) rfl rfl
              have hW := hW.frontM (i := 1) rfl rfl
              exact ⟨_, H, hF.re ⟨rfl, rfl, rfl, rfl, rfl, rfl, trivial⟩, hW⟩
            ·
              have H := iteF (of_decide_eq_false hb) H
              rw [hb] at hF
              clear hb
              refine reg_list ?_
              refine ls hF hW rfl ((y_eql hF rfl rfl).q) (fun a w hF hW => ?_)
              refine ls hF hW rfl ((y_assign hF rfl).q) (fun a w hF hW => ?_)
              refine ls_nil ?_
              refine c_then ?_
              have hW := hW.frontM (i := 1) rfl rfl
              have hW := hW.frontM (i := 1) rfl rfl
              exact ⟨_, H, hF.re ⟨rfl, rfl, rfl, rfl, rfl, rfl, trivial⟩, hW⟩
          rintro a w ⟨x30, hj, hF, hW⟩
          have hj := Option.some.inj hj
          subst hj
          have H := K5
          clear G5 K5
          refine c_cond hF rfl (fun hb => ?_) (fun hb => ?_)
          ·
            have H := iteT hb H
            rw [hb] at hF
            clear hb
            refine c_seq ?_
            refine reg_list ?_
            refine ls hF hW rfl ((y_move hF rfl).q) (fun a w hF hW => ?_)
            refine ls hF hW rfl ((y_move hF rfl).q) (fun a w hF hW => ?_)
            refine ls hF hW rfl ((y_move hF rfl).q) (fun a w hF hW => ?_)
            obtain ⟨x31, h4, H⟩ := bindE H
            refine ls hF hW rfl ((y_index (r := R50) L44 hF rfl rfl (rdc_ro h_v1) h4).q) (fun a w hF hW => ?_)
            refine ls hF hW rfl ((y_fieldAddr Try.underlying50 rfl rfl rfl T3 hF rfl (voff v1 + (x9).toNat * 2 + 1) rfl).q) (fun a w hF hW => ?_)
            refine ls hF hW rfl ((y_load_el (y := Value.int .i64 x31.2) (j := 1) (i := x9) hF rfl rfl (rdc_ro h_v1) h4 F50.to T3 rfl).q) (fun a w hF hW => ?_)
            obtain ⟨x32, h5, H⟩ := bindE H
            have hW := hW.frontM (i := 1) rfl rfl
            refine l_callG (Ml := [(b1, [.float .f64 x14, .float .f64 x15, .int .i64 x16, .int .i64 x17])]) (Zl := []) (M := [(b2, [.int .u64 x10, .int .u64 x11, .int .i64 x12, .int .i64 x13])]) (Z := []) (β := Unit) (rv := fun x => .tuple #[]) (MM := fun x => [(b1, [.float .f64 x32.1, .float .f64 x32.2.1, .int .i64 x32.2.2.1, .int .i64 x32.2.2.2])]) (ZZ := fun x => []) hF hW H29 rfl rfl (fun hL => meter_Meter_Close_c _ _ w b1 (x14, x15, x16, x17) x31.2 _ h5 hL) (fun x a w hF hW => ?_)
            have hW : Stw ⟨Y, [], w0⟩ [(b1, [.float .f64 x32.1, .float .f64 x32.2.1, .int .i64 x32.2.2.1, .int .i64 x32.2.2.2]), (b2, [.int .u64 x10, .int .u64 x11, .int .i64 x12, .int .i64 x13])] [] w := hW
            refine ls_nil ?_
            refine c_then ?_
            refine reg_list ?_
            refine ls hF hW rfl ((y_move hF rfl).q) (fun a w hF hW => ?_)
            refine ls hF hW rfl ((y_move hF rfl).q) (fun a w hF hW => ?_)
            refine ls hF hW rfl ((y_move hF rfl).q) (fun a w hF hW => ?_)
            obtain ⟨x33, h6, H⟩ := bindE H
            refine ls hF hW rfl ((y_index (r := R50) L44 hF rfl rfl (rdc_ro h_v1) h6).q) (fun a w hF hW => ?_)
            refine ls hF hW rfl ((y_fieldAddr Try.underlying50 rfl rfl rfl T3 hF rfl (voff v1 + (x9).toNat * 2 + 1) rfl).q) (fun a w hF hW => ?_)
            refine ls hF hW rfl ((y_load_el (y := Value.int .i64 x33.2) (j := 1) (i := x9) hF rfl rfl (rdc_ro h_v1) h6 F50.to T3 rfl).q) (fun a w hF hW => ?_)
            have hW := hW.frontM (i := 1) rfl rfl
            refine l_callG (Ml := [(b2, [.int .u64 x10, .int .u64 x11, .int .i64 x12, .int .i64 x13])]) (Zl := []) (M := [(b1, [.float .f64 x32.1, .float .f64 x32.2.1, .int .i64 x32.2.2.1, .int .i64 x32.2.2.2])]) (Z := []) (β := Unit) (rv := fun x => .tuple #[]) (MM := fun x => [(b2, [.int .u64 ((r43_Meter_Close (x10, x11, x12, x13) x33.2).1), .int .u64 ((r43_Meter_Close (x10, x11, x12, x13) x33.2).2.1), .int .i64 ((r43_Meter_Close (x10, x11, x12, x13) x33.2).2.2.1), .int .i64 ((r43_Meter_Close (x10, x11, x12, x13) x33.2).2.2.2)])]) (ZZ := fun x => []) hF hW H30 rfl rfl (fun hL => r43_Meter_Close_c _ _ w b2 (x10, x11, x12, x13) x33.2 _ rfl hL) (fun x a w hF hW => ?_)
            have hW : Stw ⟨Y, [], w0⟩ [(b2, [.int .u64 ((r43_Meter_Close (x10, x11, x12, x13) x33.2).1), .int .u64 ((r43_Meter_Close (x10, x11, x12, x13) x33.2).2.1), .int .i64 ((r43_Meter_Close (x10, x11, x12, x13) x33.2).2.2.1), .int .i64 ((r43_Meter_Close (x10, x11, x12, x13) x33.2).2.2.2)]), (b1, [.float .f64 x32.1, .float .f64 x32.2.1, .int .i64 x32.2.2.1, .int .i64 x32.2.2.2])] [] w := hW
            refine ls_nil ?_
            refine b_normal ?_
            refine c_then ?_
            have hW := hW.frontM (i := 1) rfl rfl
            have hW := hW.frontM (i := 1) rfl rfl
            exact ⟨_, _, _, _, _, _, _, _, H, hF.re ⟨rfl, rfl, rfl, rfl, rfl, trivial⟩, hW⟩
          ·
            have H := iteF (by rw [hb]; decide) H
            rw [hb] at hF
            clear hb
            refine wp_skip ?_
            refine b_normal ?_
            refine c_then ?_
            have hW := hW.frontM (i := 1) rfl rfl
            have hW := hW.frontM (i := 1) rfl rfl
            exact ⟨_, _, _, _, _, _, _, _, H, hF.re ⟨rfl, rfl, rfl, rfl, rfl, trivial⟩, hW⟩
      rintro a w ⟨x18, x19, x20, x21, x22, x23, x24, x25, hj, hF, hW⟩
      have hj := Option.some.inj hj
      subst hj
      have H := K3
      clear G3 K3
      refine c_seqJ (fun a w => Fr 120 [] [(1, v1), (4, .bool false), (5, .pointer (some ⟨b1, 0, none⟩)), (6, .pointer (some ⟨b2, 0, none⟩)), (7, .int .i64 x9), (100, .bool (decide ((float_Bits (meter_Meter_Value (x22, x23, x24, x25))) ≠ x19) || (decide ((meter_Meter_Counted (x22, x23, x24, x25)) ≠ x20) || (decide ((meter_Meter_Since (x22, x23, x24, x25)) ≠ x21) || (decide (0 < (meter_Meter_Since (x22, x23, x24, x25))) && !(float_Cost (meter_Meter_Value (x22, x23, x24, x25))))))))] a ∧ Stw ⟨Y, [], w0⟩ [(b2, [.int .u64 x18, .int .u64 x19, .int .i64 x20, .int .i64 x21]), (b1, [.float .f64 x22, .float .f64 x23, .int .i64 x24, .int .i64 x25])] [] w) ?_ ?_
      ·
        refine reg_quiet hW MO (by kernel_rfl) ?_
        refine qs hF rfl ((y_move hF rfl).q) (fun a hF => ?_)
        refine qs hF rfl (y_call (v := Value.float .f64 (meter_Meter_Value (x22, x23, x24, x25))) hF H31 rfl (fun w hW => meter_Meter_Value_c any w b1 (x22, x23, x24, x25) _ rfl (at_M hW 1 rfl))) (fun a hF => ?_)
        refine qs hF rfl (y_call (v := Value.int .u64 (float_Bits (meter_Meter_Value (x22, x23, x24, x25)))) hF H8 rfl (fun w hW => float_Bits_c any w (meter_Meter_Value (x22, x23, x24, x25)) _ rfl)) (fun a hF => ?_)
        refine qs hF rfl ((y_move hF rfl).q) (fun a hF => ?_)
        refine qs hF rfl ((y_nilCheck hF rfl).q) (fun a hF => ?_)
        refine qs hF rfl ((y_fieldAddr Try.underlying54 rfl rfl rfl T22 hF rfl 1 rfl).q) (fun a hF => ?_)
        refine qs hF rfl ((y_load (v := Value.int .u64 x19) 0 hF rfl rfl T22 rfl).q) (fun a hF => ?_)
        refine qs hF rfl ((y_neq hF rfl rfl).q) (fun a hF => ?_)
        refine qs hF rfl ((y_move hF rfl).q) (fun a hF => ?_)
        rcases Bool.eq_false_or_eq_true (decide ((float_Bits (meter_Meter_Value (x22, x23, x24, x25))) ≠ x19)) with hb0 | hb0
        ·
          rw [hb0] at hF
          refine qs_skip hF (wanted_n hF rfl rfl rfl rfl rfl) rfl rfl (fun a hF => ?_)
          refine qs_skip hF (wanted_n hF rfl rfl rfl rfl rfl) rfl rfl (fun a hF => ?_)
          refine qs_skip hF (wanted_n hF rfl rfl rfl rfl rfl) rfl rfl (fun a hF => ?_)
          refine qs_skip hF (wanted_n hF rfl rfl rfl rfl rfl) rfl rfl (fun a hF => ?_)
          refine qs_skip hF (wanted_n hF rfl rfl rfl rfl rfl) rfl rfl (fun a hF => ?_)
          refine qs_skip hF (wanted_n hF rfl rfl rfl rfl rfl) rfl rfl (fun a hF => ?_)
          refine qs_skip hF (wanted_n hF rfl rfl rfl rfl rfl) rfl rfl (fun a hF => ?_)
          refine qs hF rfl ((y_pick_t hF rfl rfl rfl).q) (fun a hF => ?_)
          refine qs hF rfl ((y_move hF rfl).q) (fun a hF => ?_)
          refine qs_skip hF (wanted_n hF rfl rfl rfl rfl rfl) rfl rfl (fun a hF => ?_)
          refine qs_skip hF (wanted_n hF rfl rfl rfl rfl rfl) rfl rfl (fun a hF => ?_)
          refine qs_skip hF (wanted_n hF rfl rfl rfl rfl rfl) rfl rfl (fun a hF => ?_)
          refine qs_skip hF (wanted_n hF rfl rfl rfl rfl rfl) rfl rfl (fun a hF => ?_)
          refine qs_skip hF (wanted_n hF rfl rfl rfl rfl rfl) rfl rfl (fun a hF => ?_)
          refine qs_skip hF (wanted_n hF rfl rfl rfl rfl rfl) rfl rfl (fun a hF => ?_)
          refine qs_skip hF (wanted_n hF rfl rfl rfl rfl rfl) rfl rfl (fun a hF => ?_)
          refine qs hF rfl ((y_pick_t hF rfl rfl rfl).q) (fun a hF => ?_)
          refine qs hF rfl ((y_move hF rfl).q) (fun a hF => ?_)
          refine qs_skip hF (wanted_n hF rfl rfl rfl rfl rfl) rfl rfl (fun a hF => ?_)
          refine qs_skip hF (wanted_n hF rfl rfl rfl rfl rfl) rfl rfl (fun a hF => ?_)
          refine qs_skip hF (wanted_n hF rfl rfl rfl rfl rfl) rfl rfl (fun a hF => ?_)
          refine qs_skip hF (wanted_n hF rfl rfl rfl rfl rfl) rfl rfl (fun a hF => ?_)
          refine qs_skip hF (wanted_undef hF rfl rfl rfl rfl) rfl rfl (fun a hF => ?_)
          refine qs_skip hF (wanted_undef hF rfl rfl rfl rfl) rfl rfl (fun a hF => ?_)
          refine qs_skip hF (wanted_undef hF rfl rfl rfl rfl) rfl rfl (fun a hF => ?_)
          refine qs_skip hF (wanted_undef hF rfl rfl rfl rfl) rfl rfl (fun a hF => ?_)
          refine qs_skip hF (wanted_n hF rfl rfl rfl rfl rfl) rfl rfl (fun a hF => ?_)
          refine qs hF rfl ((y_pick_t hF rfl rfl rfl).q) (fun a hF => ?_)
          refine quiet_end (fun w hW => ?_)
          refine c_then ?_
          exact ⟨hF.re ⟨rfl, rfl, rfl, rfl, rfl, (by show some (Value.bool true) = some (Value.bool (decide ((float_Bits (meter_Meter_Value (x22, x23, x24, x25))) ≠ x19) || (decide ((meter_Meter_Counted (x22, x23, x24, x25)) ≠ x20) || (decide ((meter_Meter_Since (x22, x23, x24, x25)) ≠ x21) || (decide (0 < (meter_Meter_Since (x22, x23, x24, x25))) && !(float_Cost (meter_Meter_Value (x22, x23, x24, x25)))))))); try rw [hb0]; all_goals simp only [Bool.not_true, Bool.not_false, Bool.true_and, Bool.false_and, Bool.true_or, Bool.false_or, Bool.and_true, Bool.or_false, cond_true, cond_false]), trivial⟩, hW⟩
        ·
          rw [hb0] at hF
          refine qs_w hF (wanted_y hF rfl rfl rfl rfl) rfl (Nat.le_of_ble_eq_true rfl) ((y_move hF rfl).q) (fun a hF => ?_)
          refine qs_w hF (wanted_y hF rfl rfl rfl rfl) rfl (Nat.le_of_ble_eq_true rfl) (y_call (v := Value.int .i64 (meter_Meter_Counted (x22, x23, x24, x25))) hF H32 rfl (fun w hW => meter_Meter_Counted_c any w b1 (x22, x23, x24, x25) _ rfl (at_M hW 1 rfl))) (fun a hF => ?_)
          refine qs_w hF (wanted_y hF rfl rfl rfl rfl) rfl (Nat.le_of_ble_eq_true rfl) ((y_move hF rfl).q) (fun a hF => ?_)
          refine qs_w hF (wanted_y hF rfl rfl rfl rfl) rfl (Nat.le_of_ble_eq_true rfl) ((y_nilCheck hF rfl).q) (fun a hF => ?_)
          refine qs_w hF (wanted_y hF rfl rfl rfl rfl) rfl (Nat.le_of_ble_eq_true rfl) ((y_fieldAddr Try.underlying54 rfl rfl rfl T3 hF rfl 2 rfl).q) (fun a hF => ?_)
          refine qs_w hF (wanted_y hF rfl rfl rfl rfl) rfl (Nat.le_of_ble_eq_true rfl) ((y_load (v := Value.int .i64 x20) 0 hF rfl rfl T3 rfl).q) (fun a hF => ?_)
          refine qs_w hF (wanted_y hF rfl rfl rfl rfl) rfl (Nat.le_of_ble_eq_true rfl) ((y_neq hF rfl rfl).q) (fun a hF => ?_)
          refine qs hF rfl ((y_pick_f hF rfl rfl rfl).q) (fun a hF => ?_)
          refine qs hF rfl ((y_move hF rfl).q) (fun a hF => ?_)
          rcases Bool.eq_false_or_eq_true (decide ((meter_Meter_Counted (x22, x23, x24, x25)) ≠ x20)) with hb1 | hb1
          ·
            rw [hb1] at hF
            refine qs_skip hF (wanted_n hF rfl rfl rfl rfl rfl) rfl rfl (fun a hF => ?_)
            refine qs_skip hF (wanted_n hF rfl rfl rfl rfl rfl) rfl rfl (fun a hF => ?_)
            refine qs_skip hF (wanted_n hF rfl rfl rfl rfl rfl) rfl rfl (fun a hF => ?_)
            refine qs_skip hF (wanted_n hF rfl rfl rfl rfl rfl) rfl rfl (fun a hF => ?_)
            refine qs_skip hF (wanted_n hF rfl rfl rfl rfl rfl) rfl rfl (fun a hF => ?_)
            refine qs_skip hF (wanted_n hF rfl rfl rfl rfl rfl) rfl rfl (fun a hF => ?_)
            refine qs_skip hF (wanted_n hF rfl rfl rfl rfl rfl) rfl rfl (fun a hF => ?_)
            refine qs hF rfl ((y_pick_t hF rfl rfl rfl).q) (fun a hF => ?_)
            refine qs hF rfl ((y_move hF rfl).q) (fun a hF => ?_)
            refine qs_skip hF (wanted_n hF rfl rfl rfl rfl rfl) rfl rfl (fun a hF => ?_)
            refine qs_skip hF (wanted_n hF rfl rfl rfl rfl rfl) rfl rfl (fun a hF => ?_)
            refine qs_skip hF (wanted_n hF rfl rfl rfl rfl rfl) rfl rfl (fun a hF => ?_)
            refine qs_skip hF (wanted_n hF rfl rfl rfl rfl rfl) rfl rfl (fun a hF => ?_)
            refine qs_skip hF (wanted_undef hF rfl rfl rfl rfl) rfl rfl (fun a hF => ?_)
            refine qs_skip hF (wanted_undef hF rfl rfl rfl rfl) rfl rfl (fun a hF => ?_)
            refine qs_skip hF (wanted_undef hF rfl rfl rfl rfl) rfl rfl (fun a hF => ?_)
            refine qs_skip hF (wanted_undef hF rfl rfl rfl rfl) rfl rfl (fun a hF => ?_)
            refine qs_skip hF (wanted_n hF rfl rfl rfl rfl rfl) rfl rfl (fun a hF => ?_)
            refine qs hF rfl ((y_pick_t hF rfl rfl rfl).q) (fun a hF => ?_)
            refine quiet_end (fun w hW => ?_)
            refine c_then ?_
            exact ⟨hF.re ⟨rfl, rfl, rfl, rfl, rfl, (by show some (Value.bool true) = some (Value.bool (decide ((float_Bits (meter_Meter_Value (x22, x23, x24, x25))) ≠ x19) || (decide ((meter_Meter_Counted (x22, x23, x24, x25)) ≠ x20) || (decide ((meter_Meter_Since (x22, x23, x24, x25)) ≠ x21) || (decide (0 < (meter_Meter_Since (x22, x23, x24, x25))) && !(float_Cost (meter_Meter_Value (x22, x23, x24, x25)))))))); try rw [hb0]; try rw [hb1]; all_goals simp only [Bool.not_true, Bool.not_false, Bool.true_and, Bool.false_and, Bool.true_or, Bool.false_or, Bool.and_true, Bool.or_false, cond_true, cond_false]), trivial⟩, hW⟩
          ·
            rw [hb1] at hF
            refine qs_w hF (wanted_y hF rfl rfl rfl rfl) rfl (Nat.le_of_ble_eq_true rfl) ((y_move hF rfl).q) (fun a hF => ?_)
            refine qs_w hF (wanted_y hF rfl rfl rfl rfl) rfl (Nat.le_of_ble_eq_true rfl) (y_call (v := Value.int .i64 (meter_Meter_Since (x22, x23, x24, x25))) hF H33 rfl (fun w hW => meter_Meter_Since_c any w b1 (x22, x23, x24, x25) _ rfl (at_M hW 1 rfl))) (fun a hF => ?_)
            refine qs_w hF (wanted_y hF rfl rfl rfl rfl) rfl (Nat.le_of_ble_eq_true rfl) ((y_move hF rfl).q) (fun a hF => ?_)
            refine qs_w hF (wanted_y hF rfl rfl rfl rfl) rfl (Nat.le_of_ble_eq_true rfl) ((y_nilCheck hF rfl).q) (fun a hF => ?_)
            refine qs_w hF (wanted_y hF rfl rfl rfl rfl) rfl (Nat.le_of_ble_eq_true rfl) ((y_fieldAddr Try.underlying54 rfl rfl rfl T3 hF rfl 3 rfl).q) (fun a hF => ?_)
            refine qs_w hF (wanted_y hF rfl rfl rfl rfl) rfl (Nat.le_of_ble_eq_true rfl) ((y_load (v := Value.int .i64 x21) 0 hF rfl rfl T3 rfl).q) (fun a hF => ?_)
            refine qs_w hF (wanted_y hF rfl rfl rfl rfl) rfl (Nat.le_of_ble_eq_true rfl) ((y_neq hF rfl rfl).q) (fun a hF => ?_)
            refine qs hF rfl ((y_pick_f hF rfl rfl rfl).q) (fun a hF => ?_)
            refine qs hF rfl ((y_move hF rfl).q) (fun a hF => ?_)
            rcases Bool.eq_false_or_eq_true (decide ((meter_Meter_Since (x22, x23, x24, x25)) ≠ x21)) with hb2 | hb2
            ·
              rw [hb2] at hF
              refine qs_skip hF (wanted_n hF rfl rfl rfl rfl rfl) rfl rfl (fun a hF => ?_)
              refine qs_skip hF (wanted_n hF rfl rfl rfl rfl rfl) rfl rfl (fun a hF => ?_)
              refine qs_skip hF (wanted_n hF rfl rfl rfl rfl rfl) rfl rfl (fun a hF => ?_)
              refine qs_skip hF (wanted_n hF rfl rfl rfl rfl rfl) rfl rfl (fun a hF => ?_)
              refine qs_skip hF (wanted_undef hF rfl rfl rfl rfl) rfl rfl (fun a hF => ?_)
              refine qs_skip hF (wanted_undef hF rfl rfl rfl rfl) rfl rfl (fun a hF => ?_)
              refine qs_skip hF (wanted_undef hF rfl rfl rfl rfl) rfl rfl (fun a hF => ?_)
              refine qs_skip hF (wanted_undef hF rfl rfl rfl rfl) rfl rfl (fun a hF => ?_)
              refine qs_skip hF (wanted_n hF rfl rfl rfl rfl rfl) rfl rfl (fun a hF => ?_)
              refine qs hF rfl ((y_pick_t hF rfl rfl rfl).q) (fun a hF => ?_)
              refine quiet_end (fun w hW => ?_)
              refine c_then ?_
              exact ⟨hF.re ⟨rfl, rfl, rfl, rfl, rfl, (by show some (Value.bool true) = some (Value.bool (decide ((float_Bits (meter_Meter_Value (x22, x23, x24, x25))) ≠ x19) || (decide ((meter_Meter_Counted (x22, x23, x24, x25)) ≠ x20) || (decide ((meter_Meter_Since (x22, x23, x24, x25)) ≠ x21) || (decide (0 < (meter_Meter_Since (x22, x23, x24, x25))) && !(float_Cost (meter_Meter_Value (x22, x23, x24, x25)))))))); try rw [hb0]; try rw [hb1]; try rw [hb2]; all_goals simp only [Bool.not_true, Bool.not_false, Bool.true_and, Bool.false_and, Bool.true_or, Bool.false_or, Bool.and_true, Bool.or_false, cond_true, cond_false]), trivial⟩, hW⟩
            ·
              rw [hb2] at hF
              refine qs_w hF (wanted_y hF rfl rfl rfl rfl) rfl (Nat.le_of_ble_eq_true rfl) ((y_move hF rfl).q) (fun a hF => ?_)
              refine qs_w hF (wanted_y hF rfl rfl rfl rfl) rfl (Nat.le_of_ble_eq_true rfl) (y_call (v := Value.int .i64 (meter_Meter_Since (x22, x23, x24, x25))) hF H33 rfl (fun w hW => meter_Meter_Since_c any w b1 (x22, x23, x24, x25) _ rfl (at_M hW 1 rfl))) (fun a hF => ?_)
              refine qs_w hF (wanted_y hF rfl rfl rfl rfl) rfl (Nat.le_of_ble_eq_true rfl) ((y_gtr hF rfl rfl).q) (fun a hF => ?_)
              refine qs_w hF (wanted_y hF rfl rfl rfl rfl) rfl (Nat.le_of_ble_eq_true rfl) ((y_move hF rfl).q) (fun a hF => ?_)
              rcases Bool.eq_false_or_eq_true (decide (0 < (meter_Meter_Since (x22, x23, x24, x25)))) with hb3 | hb3
              ·
                rw [hb3] at hF
                refine qs_w hF (wanted_y hF rfl rfl rfl rfl) rfl (Nat.le_of_ble_eq_true rfl) ((y_move hF rfl).q) (fun a hF => ?_)
                refine qs_w hF (wanted_y hF rfl rfl rfl rfl) rfl (Nat.le_of_ble_eq_true rfl) (y_call (v := Value.float .f64 (meter_Meter_Value (x22, x23, x24, x25))) hF H31 rfl (fun w hW => meter_Meter_Value_c any w b1 (x22, x23, x24, x25) _ rfl (at_M hW 1 rfl))) (fun a hF => ?_)
                refine qs_w hF (wanted_y hF rfl rfl rfl rfl) rfl (Nat.le_of_ble_eq_true rfl) (y_call (v := Value.bool (float_Cost (meter_Meter_Value (x22, x23, x24, x25)))) hF H34 rfl (fun w hW => float_Cost_c any w (meter_Meter_Value (x22, x23, x24, x25)) _ rfl)) (fun a hF => ?_)
                refine qs_w hF (wanted_y hF rfl rfl rfl rfl) rfl (Nat.le_of_ble_eq_true rfl) ((y_not hF rfl).q) (fun a hF => ?_)
                refine qs_w hF (wanted_y hF rfl rfl rfl rfl) rfl (Nat.le_of_ble_eq_true rfl) ((y_pick_t hF rfl rfl rfl).q) (fun a hF => ?_)
                refine qs hF rfl ((y_pick_f hF rfl rfl rfl).q) (fun a hF => ?_)
                refine quiet_end (fun w hW => ?_)
                refine c_then ?_
                exact ⟨hF.re ⟨rfl, rfl, rfl, rfl, rfl, (by show some (Value.bool (!(float_Cost (meter_Meter_Value (x22, x23, x24, x25))))) = some (Value.bool (decide ((float_Bits (meter_Meter_Value (x22, x23, x24, x25))) ≠ x19) || (decide ((meter_Meter_Counted (x22, x23, x24, x25)) ≠ x20) || (decide ((meter_Meter_Since (x22, x23, x24, x25)) ≠ x21) || (decide (0 < (meter_Meter_Since (x22, x23, x24, x25))) && !(float_Cost (meter_Meter_Value (x22, x23, x24, x25)))))))); try rw [hb0]; try rw [hb1]; try rw [hb2]; try rw [hb3]; all_goals simp only [Bool.not_true, Bool.not_false, Bool.true_and, Bool.false_and, Bool.true_or, Bool.false_or, Bool.and_true, Bool.or_false, cond_true, cond_false]), trivial⟩, hW⟩
              ·
                rw [hb3] at hF
                refine qs_skip hF (wanted_n hF rfl rfl rfl rfl rfl) rfl rfl (fun a hF => ?_)
                refine qs_skip hF (wanted_n hF rfl rfl rfl rfl rfl) rfl rfl (fun a hF => ?_)
                refine qs_skip hF (wanted_n hF rfl rfl rfl rfl rfl) rfl rfl (fun a hF => ?_)
                refine qs_skip hF (wanted_n hF rfl rfl rfl rfl rfl) rfl rfl (fun a hF => ?_)
                refine qs_w hF (wanted_y hF rfl rfl rfl rfl) rfl (Nat.le_of_ble_eq_true rfl) ((y_pick_f hF rfl rfl rfl).q) (fun a hF => ?_)
                refine qs hF rfl ((y_pick_f hF rfl rfl rfl).q) (fun a hF => ?_)
                refine quiet_end (fun w hW => ?_)
                refine c_then ?_
                exact ⟨hF.re ⟨rfl, rfl, rfl, rfl, rfl, (by show some (Value.bool false) = some (Value.bool (decide ((float_Bits (meter_Meter_Value (x22, x23, x24, x25))) ≠ x19) || (decide ((meter_Meter_Counted (x22, x23, x24, x25)) ≠ x20) || (decide ((meter_Meter_Since (x22, x23, x24, x25)) ≠ x21) || (decide (0 < (meter_Meter_Since (x22, x23, x24, x25))) && !(float_Cost (meter_Meter_Value (x22, x23, x24, x25)))))))); try rw [hb0]; try rw [hb1]; try rw [hb2]; try rw [hb3]; all_goals simp only [Bool.not_true, Bool.not_false, Bool.true_and, Bool.false_and, Bool.true_or, Bool.false_or, Bool.and_true, Bool.or_false, cond_true, cond_false]), trivial⟩, hW⟩
      rintro a w ⟨hF, hW⟩
      refine c_cond hF rfl (fun hb => ?_) (fun hb => ?_)
      ·
        have H := iteT hb H
        rw [hb] at hF
        clear hb
        refine c_seq ?_
        refine reg_list ?_
        refine ls hF hW rfl ((y_assign hF rfl).q) (fun a w hF hW => ?_)
        refine ls_nil ?_
        refine c_then ?_
        refine wp_ret ?_
        refine r_block ?_
        refine r_then ?_
        refine r_then ?_
        refine r_block ?_
        refine r_then ?_
        have H := L2 _ H
        have H := L1 _ H
        have H := Option.some.inj H
        subst H
        refine post1 (.inl rfl) hF hW rfl (rv_tmp hF rfl) ?_
        exact ⟨rfl, hW.done⟩
      ·
        have H := iteF (by rw [hb]; decide) H
        rw [hb] at hF
        clear hb
        refine wp_skip ?_
        refine b_normal ?_
        refine c_then ?_
        refine reg_list ?_
        refine ls hF hW rfl ((y_move hF rfl).q) (fun a w hF hW => ?_)
        refine ls hF hW rfl ((y_add hF rfl rfl rfl).q) (fun a w hF hW => ?_)
        refine ls hF hW rfl ((y_assign hF rfl).q) (fun a w hF hW => ?_)
        refine ls_nil ?_
        refine c_then ?_
        have hW := hW.frontM (i := 1) rfl rfl
        have hW := hW.frontM (i := 1) rfl rfl
        exact ⟨_, H, hF.re ⟨rfl, rfl, rfl, rfl, rfl, trivial⟩, hW⟩
    ·
      have H := iteF (by rw [hb]; decide) H
      rw [hb] at hF
      clear hb
      refine wp_exit ?_
      refine e_then ?_
      refine e_then ?_
      refine e_block ?_
      refine c_then ?_
      have hW := hW.frontM (i := 1) rfl rfl
      have hW := hW.frontM (i := 1) rfl rfl
      have H := L2 _ H
      exact ⟨_, _, _, _, _, _, _, _, H, hF.re ⟨rfl, trivial⟩, hW⟩
  rintro a w ⟨x1, x2, x3, x4, x5, x6, x7, x8, hj, hF, hW⟩
  have H := K1 _ hj
  clear hj G1 K1 L1
  refine c_seq ?_
  refine reg_list ?_
  refine ls hF hW rfl ((y_assign hF rfl).q) (fun a w hF hW => ?_)
  refine ls_nil ?_
  refine c_then ?_
  refine c_seq ?_
  refine reg_list ?_
  refine ls hF hW rfl ((y_move hF rfl).q) (fun a w hF hW => ?_)
  refine ls hF hW rfl (y_call (v := Value.tuple #[]) hF H27 rfl (fun w hW => meter_Meter_Count_2_c any w 1 _ rfl)) (fun a w hF hW => ?_)
  refine ls_nil ?_
  refine c_then ?_
  refine c_seq ?_
  refine reg_list ?_
  refine ls hF hW rfl ((y_move hF rfl).q) (fun a w hF hW => ?_)
  refine ls hF hW rfl (y_call (v := Value.tuple #[]) hF H29 rfl (fun w hW => meter_Meter_Close_2_c any w 9 _ rfl)) (fun a w hF hW => ?_)
  refine ls_nil ?_
  refine c_then ?_
  obtain ⟨o6, G6, K6⟩ := bindE H
  refine c_seqJ (fun a w => ∃ x34 : Bool, some (x34) = some o6 ∧ Fr 120 [] [(4, .bool x34)] a ∧ Stw ⟨Y, [], w0⟩ [(b2, [.int .u64 x1, .int .u64 x2, .int .i64 x3, .int .i64 x4]), (b1, [.float .f64 x5, .float .f64 x6, .int .i64 x7, .int .i64 x8])] [] w) ?_ ?_
  ·
    have H := G6
    clear G6 K6
    refine reg_list ?_
    refine ls hF hW rfl ((y_move hF rfl).q) (fun a w hF hW => ?_)
    refine ls hF hW rfl (y_call (v := Value.float .f64 meter_Meter_Value_2) hF H31 rfl (fun w hW => meter_Meter_Value_2_c any w _ rfl)) (fun a w hF hW => ?_)
    refine ls hF hW rfl (y_call (v := Value.int .u64 (float_Bits meter_Meter_Value_2)) hF H8 rfl (fun w hW => float_Bits_c any w meter_Meter_Value_2 _ rfl)) (fun a w hF hW => ?_)
    refine ls hF hW rfl ((y_eql hF rfl rfl).q) (fun a w hF hW => ?_)
    refine ls hF hW rfl ((y_move hF rfl).q) (fun a w hF hW => ?_)
    rcases Bool.eq_false_or_eq_true (decide ((float_Bits meter_Meter_Value_2) = 9221120237041090561)) with hb | hb
    ·
      have H := iteT (of_decide_eq_true hb) H
      rw [hb] at hF
      clear hb
      refine ls_w hF hW (wanted_y hF rfl rfl rfl rfl) rfl (Nat.le_of_ble_eq_true rfl) ((y_move hF rfl).q) (fun a w hF hW => ?_)
      refine ls_g (wanted_y hF rfl rfl rfl rfl) ?_
      refine ls hF hW rfl (y_call (v := Value.int .i64 0) hF H32 rfl (fun w hW => meter_Meter_Counted_2_c any w _ rfl)) (fun a w hF hW => ?_)
      refine ls_w hF hW (wanted_y hF rfl rfl rfl rfl) rfl (Nat.le_of_ble_eq_true rfl) ((y_move hF rfl).q) (fun a w hF hW => ?_)
      refine ls_g (wanted_y hF rfl rfl rfl rfl) ?_
      refine ls hF hW rfl (y_call (v := Value.int .i64 0) hF H33 rfl (fun w hW => meter_Meter_Since_2_c any w _ rfl)) (fun a w hF hW => ?_)
      refine ls_w hF hW (wanted_y hF rfl rfl rfl rfl) rfl (Nat.le_of_ble_eq_true rfl) ((y_add hF rfl rfl (r := 0) (by decide)).q) (fun a w hF hW => ?_)
      refine ls_w hF hW (wanted_y hF rfl rfl rfl rfl) rfl (Nat.le_of_ble_eq_true rfl) ((y_eql hF rfl rfl).q) (fun a w hF hW => ?_)
      rw [show decide ((0 : Int) = 0) = true from by decide] at hF
      refine ls hF hW rfl ((y_pick_t hF rfl rfl rfl).q) (fun a w hF hW => ?_)
      refine ls hF hW rfl ((y_move hF rfl).q) (fun a w hF hW => ?_)
      refine ls_g (wanted_y hF rfl rfl rfl rfl) ?_
      obtain ⟨x35, h7, H⟩ := bindE H
      refine ls hF hW rfl (y_call (v := Value.bool x35) hF H7 rfl (fun w hW => L43_awake_c any w _ h7)) (fun a w hF hW => ?_)
      refine ls hF hW rfl ((y_pick_t hF rfl rfl rfl).q) (fun a w hF hW => ?_)
      refine ls hF hW rfl ((y_assign hF rfl).q) (fun a w hF hW => ?_)
      refine ls_nil ?_
      refine c_then ?_
      have hW := hW.frontM (i := 1) rfl rfl
      have hW := hW.frontM (i := 1) rfl rfl
      exact ⟨_, H, hF.re ⟨rfl, trivial⟩, hW⟩
    ·
      have H := iteF (of_decide_eq_false hb) H
      rw [hb] at hF
      clear hb
      refine ls_skip hF (wanted_n hF rfl rfl rfl rfl rfl) rfl rfl (fun a hF => ?_)
      refine ls_skip hF (wanted_n hF rfl rfl rfl rfl rfl) rfl rfl (fun a hF => ?_)
      refine ls_skip hF (wanted_n hF rfl rfl rfl rfl rfl) rfl rfl (fun a hF => ?_)
      refine ls_skip hF (wanted_n hF rfl rfl rfl rfl rfl) rfl rfl (fun a hF => ?_)
      refine ls_skip hF (wanted_n hF rfl rfl rfl rfl rfl) rfl rfl (fun a hF => ?_)
      refine ls_skip hF (wanted_n hF rfl rfl rfl rfl rfl) rfl rfl (fun a hF => ?_)
      refine ls hF hW rfl ((y_pick_f hF rfl rfl rfl).q) (fun a w hF hW => ?_)
      refine ls hF hW rfl ((y_move hF rfl).q) (fun a w hF hW => ?_)
      refine ls_skip hF (wanted_n hF rfl rfl rfl rfl rfl) rfl rfl (fun a hF => ?_)
      refine ls hF hW rfl ((y_pick_f hF rfl rfl rfl).q) (fun a w hF hW => ?_)
      refine ls hF hW rfl ((y_assign hF rfl).q) (fun a w hF hW => ?_)
      refine ls_nil ?_
      refine c_then ?_
      have hW := hW.frontM (i := 1) rfl rfl
      have hW := hW.frontM (i := 1) rfl rfl
      exact ⟨_, H, hF.re ⟨rfl, trivial⟩, hW⟩
  rintro a w ⟨x34, hj, hF, hW⟩
  have hj := Option.some.inj hj
  subst hj
  have H := K6
  clear G6 K6
  refine wp_ret ?_
  have H := Option.some.inj H
  subst H
  refine post1 (.inl rfl) hF hW rfl (rv_tmp hF rfl) ?_
  exact ⟨rfl, hW.done⟩

end Go.Proofs.Ytdogfpoekndknaa
