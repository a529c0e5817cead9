/- The functions of layer 36, lifted. Conditions: none. -/
import Derived.Test.YtdllfdmdfdfilaaDoorRows
import Derived.Test.YtdllfdmdfdfilaaDoorOB
import Derived.Test.YtdllfdmdfdfilaaDoorOG
import Derived.Test.YtdllfdmdfdfilaaDoorOT
import Derived.Test.YtdllfdmdfdfilaaDoorOD
import Derived.Test.YtdllfdmdfdfilaaDoorOC
import Derived.Test.YtdllfdmdfdfilaaDoorXL
import Derived.Test.YtdllfdmdfdfilaaDoorOX
namespace Go.Proofs.YtdllfdmdfdfilaaDoor
open Go Go.RowKit
set_option linter.unusedVariables false
set_option linter.unusedSimpArgs false
set_option maxRecDepth 20000
theorem u24_ : type_of% Tryd.underlying24 := Tryd.underlying24
theorem u28_ : type_of% Tryd.underlying28 := Tryd.underlying28
theorem u34_ : type_of% Tryd.underlying34 := Tryd.underlying34
abbrev R37 : Rp (Int × Int × Int × Int) := (Rp.pair (Rp.int .i64) (Rp.pair (Rp.int .i64) (Rp.pair (Rp.int .i64) (Rp.int .i64))))
theorem B34 : Bt Tryd.prog 34 [.int .i64 0, .int .i64 0, .int .i64 0, .int .i64 0] [(0, 1), (1, 1), (2, 1), (3, 1)] := ⟨⟨.agg #[.int .i64 0, .int .i64 0, .int .i64 0, .int .i64 0], by kernel_rfl, rfl⟩, ⟨_, u34_, fun w => by kernel_rfl⟩⟩
theorem Z34 : (Tryd.prog.info? 34).bind (·.zero) = some (.agg #[.int .i64 0, .int .i64 0, .int .i64 0, .int .i64 0]) := by kernel_rfl
abbrev R34 : Rp (Int × Int × Int × Int) := (Rp.pair (Rp.int .i64) (Rp.pair (Rp.int .i64) (Rp.pair (Rp.int .i64) (Rp.int .i64))))
def E34 (a : Int × Int × Int × Int) : List Value := [.int .i64 a.1, .int .i64 a.2.1, .int .i64 a.2.2.1, .int .i64 a.2.2.2]
theorem F34 : Fl R34 E34 := (Fl.pair Fl.int (Fl.pair Fl.int (Fl.pair Fl.int Fl.int)))
theorem L24 : Et Tryd.prog 24 34 4 32 := Et.of u24_ (by kernel_rfl) (by kernel_rfl) (by kernel_rfl) (by decide)
theorem Z28 : (Tryd.prog.info? 28).bind (·.zero) = some (.agg #[.int .i64 0, .int .i64 0, .bool false, .int .i64 0, .int .i64 0, .int .i64 0, .bool false, .bool false, .int .i64 0]) := by kernel_rfl
theorem B28 : Bt Tryd.prog 28 [.int .i64 0, .int .i64 0, .bool false, .int .i64 0, .int .i64 0, .int .i64 0, .bool false, .bool false, .int .i64 0] [(0, 1), (1, 1), (2, 1), (3, 1), (4, 1), (5, 1), (6, 1), (7, 1), (8, 1)] := ⟨⟨.agg #[.int .i64 0, .int .i64 0, .bool false, .int .i64 0, .int .i64 0, .int .i64 0, .bool false, .bool false, .int .i64 0], by kernel_rfl, rfl⟩, ⟨_, u28_, fun w => by kernel_rfl⟩⟩
theorem T28 : Ty Tryd.prog 28 true 9 := ⟨by kernel_rfl, by kernel_rfl⟩
theorem T34 : Ty Tryd.prog 34 true 4 := ⟨by kernel_rfl, by kernel_rfl⟩
theorem T3 : Ty Tryd.prog 3 false 1 := ⟨by kernel_rfl, by kernel_rfl⟩
theorem T4 : Ty Tryd.prog 4 false 1 := ⟨by kernel_rfl, by kernel_rfl⟩
def journal_within (p0 : Int) (p1 : Int) : Bool := (decide (0 ≤ p0) && decide (p0 ≤ p1))
theorem journal_within_c (Y : Nat → Prop) (w0 : World)  (p0 : Int) (p1 : Int) (r : Bool) (H : journal_within p0 p1 = r)  :
    Calls Tryd.prog 31 #[.int .i64 p0, .int .i64 p1] w0 fun e w' => e = .returned (.bool r) ∧ Below w0.heap.size w0 w' := by
 refine enter Tryd.func31 rfl Tryd.ntmps31 rfl (fun a hF => ?_)
 have hW := Stw.start Y w0
 unfold journal_within at H
 refine c_seq (reg_list ?_)
 refine ls hF hW rfl ((y_assign hF rfl).q) (fun a w hF hW => ?_)
 refine ls_nil (c_then ?_)
 refine c_seqJ (fun a w => Fr 12 [] [(4, .bool (decide (0 ≤ p0) && decide (p0 ≤ p1)))] a ∧ Stw ⟨Y, [], w0⟩ [] [] w) ?_ ?_
 ·
  refine reg_list ?_
  refine ls hF hW rfl ((y_move hF rfl).q) (fun a w hF hW => ?_)
  refine ls hF hW rfl ((y_geq hF rfl rfl).q) (fun a w hF hW => ?_)
  refine ls hF hW rfl ((y_move hF rfl).q) (fun a w hF hW => ?_)
  rcases Bool.eq_false_or_eq_true (decide (0 ≤ p0)) with hb0 | hb0
  ·
   rw [hb0] at hF
   iterate 2 refine ls_w hF hW (wanted_y hF rfl rfl rfl rfl) rfl (Nat.le_of_ble_eq_true rfl) ((y_move hF rfl).q) (fun a w hF hW => ?_)
   refine ls_w hF hW (wanted_y hF rfl rfl rfl rfl) rfl (Nat.le_of_ble_eq_true rfl) ((y_leq hF rfl rfl).q) (fun a w hF hW => ?_)
   refine ls hF hW rfl ((y_pick_t hF rfl rfl rfl).q) (fun a w hF hW => ?_)
   refine ls hF hW rfl ((y_assign hF rfl).q) (fun a w hF hW => ?_)
   refine ls_nil (c_then ?_)
   exact ⟨hF.re ⟨(by show some (Value.bool (decide (p0 ≤ p1))) = some (Value.bool (decide (0 ≤ p0) && decide (p0 ≤ p1))); try rw [hb0]; all_goals simp only [Bool.not_true, Bool.not_false, Bool.true_and, Bool.false_and, Bool.true_or, Bool.false_or, Bool.and_true, Bool.or_false, cond_true, cond_false]), trivial⟩, hW⟩
  ·
   rw [hb0] at hF
   iterate 3 refine lsn hF rfl rfl rfl rfl rfl rfl rfl (fun a hF => ?_)
   refine ls hF hW rfl ((y_pick_f hF rfl rfl rfl).q) (fun a w hF hW => ?_)
   refine ls hF hW rfl ((y_assign hF rfl).q) (fun a w hF hW => ?_)
   refine ls_nil (c_then ?_)
   exact ⟨hF.re ⟨(by show some (Value.bool false) = some (Value.bool (decide (0 ≤ p0) && decide (p0 ≤ p1))); try rw [hb0]; all_goals simp only [Bool.not_true, Bool.not_false, Bool.true_and, Bool.false_and, Bool.true_or, Bool.false_or, Bool.and_true, Bool.or_false, cond_true, cond_false]), trivial⟩, hW⟩
 rintro a w ⟨hF, hW⟩
 refine wr_ret ?_
 subst H
 refine post1 (.inl rfl) hF hW rfl (rv_tmp hF rfl) ?_
 exact ⟨rfl, hW.done⟩

theorem u4_ : type_of% Tryd.underlying4 := Tryd.underlying4
theorem H31 : Has Tryd.prog 31 := ⟨fun args w => run_callFunc_body Tryd.func31 rfl (by decide) args w⟩
noncomputable def journal_allowed (p0 : Int × Int × Bool × Int × Int × Int × Bool × Bool × Int) (p1 : Int × Int × Int × Int) : Option Bool := (if p1.1 = 1 then some (!p0.2.2.1 && (decide (p0.2.2.2.2.2.2.2.2 = 0) && (decide (p1.2.1 = (w64 (p0.1 + 1))) && ((journal_within p1.2.2.1 15) && (journal_within p1.2.2.2 1125899906842624))))) else (if (decide (p1.2.1 ≠ p0.1) || (decide (p1.2.2.2 ≠ 0) || decide (p0.2.2.1 = (decide (p1.1 = 7))))) = true then some false else (if p1.1 = 2 then some ((!p0.2.2.2.2.2.2.1 && !p0.2.2.2.2.2.2.2.1) && (decide (p1.2.2.1 = p0.2.2.2.2.2.1) && decide (p1.2.2.1 < 8))) else (if p1.1 = 3 then some ((!p0.2.2.2.2.2.2.1 && !p0.2.2.2.2.2.2.2.1) && (decide (0 < p0.2.2.2.2.2.1) && decide (p1.2.2.1 = 0))) else (if p1.1 = 4 then some (!p0.2.2.2.2.2.2.2.1 && decide (p1.2.2.1 = 0)) else (if p1.1 = 5 then some (p0.2.2.2.2.2.2.1 && (!p0.2.2.2.2.2.2.2.1 && decide (p1.2.2.1 = 0))) else (if p1.1 = 6 then some (p0.2.2.2.2.2.2.2.1 && (journal_within p1.2.2.1 255)) else (if p1.1 = 7 then (if (journal_within p1.2.2.1 7) = true then (shN (shrI .i64 p0.2.2.2.2.2.2.2.2 p1.2.2.1) p1.2.2.1).bind fun x2 => some (decide ((andI .i64 x2 1) = 1)) else some false).bind fun x1 => some x1 else some false))))))))
theorem journal_allowed_c (Y : Nat → Prop) (w0 : World)  (p0 : Int × Int × Bool × Int × Int × Int × Bool × Bool × Int) (p1 : Int × Int × Int × Int) (r : Bool) (H : journal_allowed p0 p1 = some r)  :
    Calls Tryd.prog 21 #[.agg #[.int .i64 p0.1, .int .i64 p0.2.1, .bool p0.2.2.1, .int .i64 p0.2.2.2.1, .int .i64 p0.2.2.2.2.1, .int .i64 p0.2.2.2.2.2.1, .bool p0.2.2.2.2.2.2.1, .bool p0.2.2.2.2.2.2.2.1, .int .i64 p0.2.2.2.2.2.2.2.2], .agg #[.int .i64 p1.1, .int .i64 p1.2.1, .int .i64 p1.2.2.1, .int .i64 p1.2.2.2]] w0 fun e w' => e = .returned (.bool r) ∧ Below w0.heap.size w0 w' := by
 refine enter Tryd.func21 rfl Tryd.ntmps21 rfl (fun a hF => ?_)
 have hW := Stw.start Y w0
 unfold journal_allowed at H
 refine c_seq (reg_list ?_)
 refine l_box (cs := [.int .i64 p0.1, .int .i64 p0.2.1, .bool p0.2.2.1, .int .i64 p0.2.2.2.1, .int .i64 p0.2.2.2.2.1, .int .i64 p0.2.2.2.2.2.1, .bool p0.2.2.2.2.2.2.1, .bool p0.2.2.2.2.2.2.2.1, .int .i64 p0.2.2.2.2.2.2.2.2]) hF hW rfl rfl rfl (fun b1 a w hF hW => ?_)
 refine l_box (cs := [.int .i64 p1.1, .int .i64 p1.2.1, .int .i64 p1.2.2.1, .int .i64 p1.2.2.2]) hF hW rfl rfl rfl (fun b2 a w hF hW => ?_)
 refine ls hF hW rfl ((y_assign hF rfl).q) (fun a w hF hW => ?_)
 refine ls_nil (c_then ?_)
 refine c_seq ?_
 refine c_seq (reg_list ?_)
 refine ls hF hW rfl ((y_fieldAddr u34_ rfl rfl rfl T3 hF rfl 0 rfl).q) (fun a w hF hW => ?_)
 refine ls hF hW rfl ((y_load (v := Value.int .i64 p1.1) 0 hF rfl rfl T3 rfl).q) (fun a w hF hW => ?_)
 refine ls hF hW rfl ((y_eql hF rfl rfl).q) (fun a w hF hW => ?_)
 refine ls_nil (c_then ?_)
 refine c_cond hF rfl (fun hb => ?_) (fun hb => ?_)
 ·
  have H := iteT (of_decide_eq_true hb) H
  rw [hb] at hF
  clear hb
  refine c_seqJ (fun a w => Fr 138 [] [(2, .pointer (some ⟨b1, 0, none⟩)), (3, .pointer (some ⟨b2, 0, none⟩)), (4, .bool (!p0.2.2.1 && (decide (p0.2.2.2.2.2.2.2.2 = 0) && (decide (p1.2.1 = (w64 (p0.1 + 1))) && ((journal_within p1.2.2.1 15) && (journal_within p1.2.2.2 1125899906842624))))))] a ∧ Stw ⟨Y, [], w0⟩ [(b2, [.int .i64 p1.1, .int .i64 p1.2.1, .int .i64 p1.2.2.1, .int .i64 p1.2.2.2]), (b1, [.int .i64 p0.1, .int .i64 p0.2.1, .bool p0.2.2.1, .int .i64 p0.2.2.2.1, .int .i64 p0.2.2.2.2.1, .int .i64 p0.2.2.2.2.2.1, .bool p0.2.2.2.2.2.2.1, .bool p0.2.2.2.2.2.2.2.1, .int .i64 p0.2.2.2.2.2.2.2.2])] [] w) ?_ ?_
  ·
   refine reg_list ?_
   refine ls hF hW rfl ((y_fieldAddr u28_ rfl rfl rfl T4 hF rfl 2 rfl).q) (fun a w hF hW => ?_)
   refine ls hF hW rfl ((y_load (v := Value.bool p0.2.2.1) 1 hF rfl rfl T4 rfl).q) (fun a w hF hW => ?_)
   refine ls hF hW rfl ((y_not hF rfl).q) (fun a w hF hW => ?_)
   refine ls hF hW rfl ((y_move hF rfl).q) (fun a w hF hW => ?_)
   rcases Bool.eq_false_or_eq_true (!p0.2.2.1) with hb0 | hb0
   ·
    rw [hb0] at hF
    refine ls_w hF hW (wanted_y hF rfl rfl rfl rfl) rfl (Nat.le_of_ble_eq_true rfl) ((y_fieldAddr u28_ rfl rfl rfl T3 hF rfl 8 rfl).q) (fun a w hF hW => ?_)
    refine ls_w hF hW (wanted_y hF rfl rfl rfl rfl) rfl (Nat.le_of_ble_eq_true rfl) ((y_load (v := Value.int .i64 p0.2.2.2.2.2.2.2.2) 1 hF rfl rfl T3 rfl).q) (fun a w hF hW => ?_)
    refine ls_w hF hW (wanted_y hF rfl rfl rfl rfl) rfl (Nat.le_of_ble_eq_true rfl) ((y_eql hF rfl rfl).q) (fun a w hF hW => ?_)
    refine ls hF hW rfl ((y_pick_t hF rfl rfl rfl).q) (fun a w hF hW => ?_)
    refine ls hF hW rfl ((y_move hF rfl).q) (fun a w hF hW => ?_)
    rcases Bool.eq_false_or_eq_true (decide (p0.2.2.2.2.2.2.2.2 = 0)) with hb1 | hb1
    ·
     rw [hb1] at hF
     refine ls_w hF hW (wanted_y hF rfl rfl rfl rfl) rfl (Nat.le_of_ble_eq_true rfl) ((y_fieldAddr u34_ rfl rfl rfl T3 hF rfl 1 rfl).q) (fun a w hF hW => ?_)
     refine ls_w hF hW (wanted_y hF rfl rfl rfl rfl) rfl (Nat.le_of_ble_eq_true rfl) ((y_load (v := Value.int .i64 p1.2.1) 0 hF rfl rfl T3 rfl).q) (fun a w hF hW => ?_)
     refine ls_w hF hW (wanted_y hF rfl rfl rfl rfl) rfl (Nat.le_of_ble_eq_true rfl) ((y_fieldAddr u28_ rfl rfl rfl T3 hF rfl 0 rfl).q) (fun a w hF hW => ?_)
     refine ls_w hF hW (wanted_y hF rfl rfl rfl rfl) rfl (Nat.le_of_ble_eq_true rfl) ((y_load (v := Value.int .i64 p0.1) 1 hF rfl rfl T3 rfl).q) (fun a w hF hW => ?_)
     refine ls_w hF hW (wanted_y hF rfl rfl rfl rfl) rfl (Nat.le_of_ble_eq_true rfl) ((y_add hF rfl rfl rfl).q) (fun a w hF hW => ?_)
     refine ls_w hF hW (wanted_y hF rfl rfl rfl rfl) rfl (Nat.le_of_ble_eq_true rfl) ((y_eql hF rfl rfl).q) (fun a w hF hW => ?_)
     refine ls hF hW rfl ((y_pick_t hF rfl rfl rfl).q) (fun a w hF hW => ?_)
     refine ls hF hW rfl ((y_move hF rfl).q) (fun a w hF hW => ?_)
     rcases Bool.eq_false_or_eq_true (decide (p1.2.1 = (w64 (p0.1 + 1)))) with hb2 | hb2
     ·
      rw [hb2] at hF
      refine ls_w hF hW (wanted_y hF rfl rfl rfl rfl) rfl (Nat.le_of_ble_eq_true rfl) ((y_fieldAddr u34_ rfl rfl rfl T3 hF rfl 2 rfl).q) (fun a w hF hW => ?_)
      refine ls_w hF hW (wanted_y hF rfl rfl rfl rfl) rfl (Nat.le_of_ble_eq_true rfl) ((y_load (v := Value.int .i64 p1.2.2.1) 0 hF rfl rfl T3 rfl).q) (fun a w hF hW => ?_)
      refine ls_g (wanted_y hF rfl rfl rfl rfl) ?_
      refine ls hF hW rfl (y_call (v := Value.bool (journal_within p1.2.2.1 15)) hF H31 rfl (fun w hW => journal_within_c any w p1.2.2.1 15 _ rfl)) (fun a w hF hW => ?_)
      refine ls hF hW rfl ((y_pick_t hF rfl rfl rfl).q) (fun a w hF hW => ?_)
      refine ls hF hW rfl ((y_move hF rfl).q) (fun a w hF hW => ?_)
      rcases Bool.eq_false_or_eq_true (journal_within p1.2.2.1 15) with hb3 | hb3
      ·
       rw [hb3] at hF
       refine ls_w hF hW (wanted_y hF rfl rfl rfl rfl) rfl (Nat.le_of_ble_eq_true rfl) ((y_fieldAddr u34_ rfl rfl rfl T3 hF rfl 3 rfl).q) (fun a w hF hW => ?_)
       refine ls_w hF hW (wanted_y hF rfl rfl rfl rfl) rfl (Nat.le_of_ble_eq_true rfl) ((y_load (v := Value.int .i64 p1.2.2.2) 0 hF rfl rfl T3 rfl).q) (fun a w hF hW => ?_)
       refine ls_g (wanted_y hF rfl rfl rfl rfl) ?_
       refine ls hF hW rfl (y_call (v := Value.bool (journal_within p1.2.2.2 1125899906842624)) hF H31 rfl (fun w hW => journal_within_c any w p1.2.2.2 1125899906842624 _ rfl)) (fun a w hF hW => ?_)
       refine ls hF hW rfl ((y_pick_t hF rfl rfl rfl).q) (fun a w hF hW => ?_)
       refine ls hF hW rfl ((y_assign hF rfl).q) (fun a w hF hW => ?_)
       refine ls_nil (c_then ?_)
       exact ⟨hF.re ⟨rfl, rfl, (by show some (Value.bool (journal_within p1.2.2.2 1125899906842624)) = some (Value.bool (!p0.2.2.1 && (decide (p0.2.2.2.2.2.2.2.2 = 0) && (decide (p1.2.1 = (w64 (p0.1 + 1))) && ((journal_within p1.2.2.1 15) && (journal_within p1.2.2.2 1125899906842624)))))); try rw [hb2]; try rw [hb1]; try rw [hb3]; try rw [hb0]; all_goals simp only [Bool.not_true, Bool.not_false, Bool.true_and, Bool.false_and, Bool.true_or, Bool.false_or, Bool.and_true, Bool.or_false, cond_true, cond_false]), trivial⟩, hW⟩
      ·
       rw [hb3] at hF
       iterate 3 refine lsn hF rfl rfl rfl rfl rfl rfl rfl (fun a hF => ?_)
       refine ls hF hW rfl ((y_pick_f hF rfl rfl rfl).q) (fun a w hF hW => ?_)
       refine ls hF hW rfl ((y_assign hF rfl).q) (fun a w hF hW => ?_)
       refine ls_nil (c_then ?_)
       exact ⟨hF.re ⟨rfl, rfl, (by show some (Value.bool false) = some (Value.bool (!p0.2.2.1 && (decide (p0.2.2.2.2.2.2.2.2 = 0) && (decide (p1.2.1 = (w64 (p0.1 + 1))) && ((journal_within p1.2.2.1 15) && (journal_within p1.2.2.2 1125899906842624)))))); try rw [hb2]; try rw [hb1]; try rw [hb3]; try rw [hb0]; all_goals simp only [Bool.not_true, Bool.not_false, Bool.true_and, Bool.false_and, Bool.true_or, Bool.false_or, Bool.and_true, Bool.or_false, cond_true, cond_false]), trivial⟩, hW⟩
     ·
      rw [hb2] at hF
      iterate 3 refine lsn hF rfl rfl rfl rfl rfl rfl rfl (fun a hF => ?_)
      refine ls hF hW rfl ((y_pick_f hF rfl rfl rfl).q) (fun a w hF hW => ?_)
      refine ls hF hW rfl ((y_move hF rfl).q) (fun a w hF hW => ?_)
      iterate 3 refine lsn hF rfl rfl rfl rfl rfl rfl rfl (fun a hF => ?_)
      refine ls hF hW rfl ((y_pick_f hF rfl rfl rfl).q) (fun a w hF hW => ?_)
      refine ls hF hW rfl ((y_assign hF rfl).q) (fun a w hF hW => ?_)
      refine ls_nil (c_then ?_)
      exact ⟨hF.re ⟨rfl, rfl, (by show some (Value.bool false) = some (Value.bool (!p0.2.2.1 && (decide (p0.2.2.2.2.2.2.2.2 = 0) && (decide (p1.2.1 = (w64 (p0.1 + 1))) && ((journal_within p1.2.2.1 15) && (journal_within p1.2.2.2 1125899906842624)))))); try rw [hb2]; try rw [hb1]; try rw [hb0]; all_goals simp only [Bool.not_true, Bool.not_false, Bool.true_and, Bool.false_and, Bool.true_or, Bool.false_or, Bool.and_true, Bool.or_false, cond_true, cond_false]), trivial⟩, hW⟩
    ·
     rw [hb1] at hF
     iterate 6 refine lsn hF rfl rfl rfl rfl rfl rfl rfl (fun a hF => ?_)
     refine ls hF hW rfl ((y_pick_f hF rfl rfl rfl).q) (fun a w hF hW => ?_)
     refine ls hF hW rfl ((y_move hF rfl).q) (fun a w hF hW => ?_)
     iterate 3 refine lsn hF rfl rfl rfl rfl rfl rfl rfl (fun a hF => ?_)
     refine ls hF hW rfl ((y_pick_f hF rfl rfl rfl).q) (fun a w hF hW => ?_)
     refine ls hF hW rfl ((y_move hF rfl).q) (fun a w hF hW => ?_)
     iterate 3 refine lsn hF rfl rfl rfl rfl rfl rfl rfl (fun a hF => ?_)
     refine ls hF hW rfl ((y_pick_f hF rfl rfl rfl).q) (fun a w hF hW => ?_)
     refine ls hF hW rfl ((y_assign hF rfl).q) (fun a w hF hW => ?_)
     refine ls_nil (c_then ?_)
     exact ⟨hF.re ⟨rfl, rfl, (by show some (Value.bool false) = some (Value.bool (!p0.2.2.1 && (decide (p0.2.2.2.2.2.2.2.2 = 0) && (decide (p1.2.1 = (w64 (p0.1 + 1))) && ((journal_within p1.2.2.1 15) && (journal_within p1.2.2.2 1125899906842624)))))); try rw [hb1]; try rw [hb0]; all_goals simp only [Bool.not_true, Bool.not_false, Bool.true_and, Bool.false_and, Bool.true_or, Bool.false_or, Bool.and_true, Bool.or_false, cond_true, cond_false]), trivial⟩, hW⟩
   ·
    rw [hb0] at hF
    iterate 3 refine lsn hF rfl rfl rfl rfl rfl rfl rfl (fun a hF => ?_)
    refine ls hF hW rfl ((y_pick_f hF rfl rfl rfl).q) (fun a w hF hW => ?_)
    refine ls hF hW rfl ((y_move hF rfl).q) (fun a w hF hW => ?_)
    iterate 6 refine lsn hF rfl rfl rfl rfl rfl rfl rfl (fun a hF => ?_)
    refine ls hF hW rfl ((y_pick_f hF rfl rfl rfl).q) (fun a w hF hW => ?_)
    refine ls hF hW rfl ((y_move hF rfl).q) (fun a w hF hW => ?_)
    iterate 3 refine lsn hF rfl rfl rfl rfl rfl rfl rfl (fun a hF => ?_)
    refine ls hF hW rfl ((y_pick_f hF rfl rfl rfl).q) (fun a w hF hW => ?_)
    refine ls hF hW rfl ((y_move hF rfl).q) (fun a w hF hW => ?_)
    iterate 3 refine lsn hF rfl rfl rfl rfl rfl rfl rfl (fun a hF => ?_)
    refine ls hF hW rfl ((y_pick_f hF rfl rfl rfl).q) (fun a w hF hW => ?_)
    refine ls hF hW rfl ((y_assign hF rfl).q) (fun a w hF hW => ?_)
    refine ls_nil (c_then ?_)
    exact ⟨hF.re ⟨rfl, rfl, (by show some (Value.bool false) = some (Value.bool (!p0.2.2.1 && (decide (p0.2.2.2.2.2.2.2.2 = 0) && (decide (p1.2.1 = (w64 (p0.1 + 1))) && ((journal_within p1.2.2.1 15) && (journal_within p1.2.2.2 1125899906842624)))))); try rw [hb0]; all_goals simp only [Bool.not_true, Bool.not_false, Bool.true_and, Bool.false_and, Bool.true_or, Bool.false_or, Bool.and_true, Bool.or_false, cond_true, cond_false]), trivial⟩, hW⟩
  rintro a w ⟨hF, hW⟩
  refine wr_ret ?_
  refine r_then ?_
  have H := Option.some.inj H
  subst H
  refine post1 (.inl rfl) hF hW rfl (rv_tmp hF rfl) ?_
  exact ⟨rfl, hW.done⟩
 ·
  have H := iteF (of_decide_eq_false hb) H
  rw [hb] at hF
  clear hb
  refine wr_skip ?_
  refine c_then ?_
  refine c_seq ?_
  refine c_seqJ (fun a w => Fr 138 [] [(2, .pointer (some ⟨b1, 0, none⟩)), (3, .pointer (some ⟨b2, 0, none⟩)), (4, .bool false), (52, .bool (decide (p1.2.1 ≠ p0.1) || (decide (p1.2.2.2 ≠ 0) || decide (p0.2.2.1 = (decide (p1.1 = 7))))))] a ∧ Stw ⟨Y, [], w0⟩ [(b2, [.int .i64 p1.1, .int .i64 p1.2.1, .int .i64 p1.2.2.1, .int .i64 p1.2.2.2]), (b1, [.int .i64 p0.1, .int .i64 p0.2.1, .bool p0.2.2.1, .int .i64 p0.2.2.2.1, .int .i64 p0.2.2.2.2.1, .int .i64 p0.2.2.2.2.2.1, .bool p0.2.2.2.2.2.2.1, .bool p0.2.2.2.2.2.2.2.1, .int .i64 p0.2.2.2.2.2.2.2.2])] [] w) ?_ ?_
  ·
   refine reg_list ?_
   refine ls hF hW rfl ((y_fieldAddr u34_ rfl rfl rfl T3 hF rfl 1 rfl).q) (fun a w hF hW => ?_)
   refine ls hF hW rfl ((y_load (v := Value.int .i64 p1.2.1) 0 hF rfl rfl T3 rfl).q) (fun a w hF hW => ?_)
   refine ls hF hW rfl ((y_fieldAddr u28_ rfl rfl rfl T3 hF rfl 0 rfl).q) (fun a w hF hW => ?_)
   refine ls hF hW rfl ((y_load (v := Value.int .i64 p0.1) 1 hF rfl rfl T3 rfl).q) (fun a w hF hW => ?_)
   refine ls hF hW rfl ((y_neq hF rfl rfl).q) (fun a w hF hW => ?_)
   refine ls hF hW rfl ((y_move hF rfl).q) (fun a w hF hW => ?_)
   rcases Bool.eq_false_or_eq_true (decide (p1.2.1 ≠ p0.1)) with hb0 | hb0
   ·
    rw [hb0] at hF
    iterate 3 refine lsn hF rfl rfl rfl rfl rfl rfl rfl (fun a hF => ?_)
    refine ls hF hW rfl ((y_pick_t hF rfl rfl rfl).q) (fun a w hF hW => ?_)
    refine ls hF hW rfl ((y_move hF rfl).q) (fun a w hF hW => ?_)
    iterate 6 refine lsn hF rfl rfl rfl rfl rfl rfl rfl (fun a hF => ?_)
    refine ls hF hW rfl ((y_pick_t hF rfl rfl rfl).q) (fun a w hF hW => ?_)
    refine ls_nil (c_then ?_)
    exact ⟨hF.re ⟨rfl, rfl, rfl, (by show some (Value.bool true) = some (Value.bool (decide (p1.2.1 ≠ p0.1) || (decide (p1.2.2.2 ≠ 0) || decide (p0.2.2.1 = (decide (p1.1 = 7)))))); try rw [hb0]; all_goals simp only [Bool.not_true, Bool.not_false, Bool.true_and, Bool.false_and, Bool.true_or, Bool.false_or, Bool.and_true, Bool.or_false, cond_true, cond_false]), trivial⟩, hW⟩
   ·
    rw [hb0] at hF
    refine ls_w hF hW (wanted_y hF rfl rfl rfl rfl) rfl (Nat.le_of_ble_eq_true rfl) ((y_fieldAddr u34_ rfl rfl rfl T3 hF rfl 3 rfl).q) (fun a w hF hW => ?_)
    refine ls_w hF hW (wanted_y hF rfl rfl rfl rfl) rfl (Nat.le_of_ble_eq_true rfl) ((y_load (v := Value.int .i64 p1.2.2.2) 0 hF rfl rfl T3 rfl).q) (fun a w hF hW => ?_)
    refine ls_w hF hW (wanted_y hF rfl rfl rfl rfl) rfl (Nat.le_of_ble_eq_true rfl) ((y_neq hF rfl rfl).q) (fun a w hF hW => ?_)
    refine ls hF hW rfl ((y_pick_f hF rfl rfl rfl).q) (fun a w hF hW => ?_)
    refine ls hF hW rfl ((y_move hF rfl).q) (fun a w hF hW => ?_)
    rcases Bool.eq_false_or_eq_true (decide (p1.2.2.2 ≠ 0)) with hb1 | hb1
    ·
     rw [hb1] at hF
     iterate 6 refine lsn hF rfl rfl rfl rfl rfl rfl rfl (fun a hF => ?_)
     refine ls hF hW rfl ((y_pick_t hF rfl rfl rfl).q) (fun a w hF hW => ?_)
     refine ls_nil (c_then ?_)
     exact ⟨hF.re ⟨rfl, rfl, rfl, (by show some (Value.bool true) = some (Value.bool (decide (p1.2.1 ≠ p0.1) || (decide (p1.2.2.2 ≠ 0) || decide (p0.2.2.1 = (decide (p1.1 = 7)))))); try rw [hb0]; try rw [hb1]; all_goals simp only [Bool.not_true, Bool.not_false, Bool.true_and, Bool.false_and, Bool.true_or, Bool.false_or, Bool.and_true, Bool.or_false, cond_true, cond_false]), trivial⟩, hW⟩
    ·
     rw [hb1] at hF
     refine ls_w hF hW (wanted_y hF rfl rfl rfl rfl) rfl (Nat.le_of_ble_eq_true rfl) ((y_fieldAddr u28_ rfl rfl rfl T4 hF rfl 2 rfl).q) (fun a w hF hW => ?_)
     refine ls_w hF hW (wanted_y hF rfl rfl rfl rfl) rfl (Nat.le_of_ble_eq_true rfl) ((y_load (v := Value.bool p0.2.2.1) 1 hF rfl rfl T4 rfl).q) (fun a w hF hW => ?_)
     refine ls_w hF hW (wanted_y hF rfl rfl rfl rfl) rfl (Nat.le_of_ble_eq_true rfl) ((y_fieldAddr u34_ rfl rfl rfl T3 hF rfl 0 rfl).q) (fun a w hF hW => ?_)
     refine ls_w hF hW (wanted_y hF rfl rfl rfl rfl) rfl (Nat.le_of_ble_eq_true rfl) ((y_load (v := Value.int .i64 p1.1) 0 hF rfl rfl T3 rfl).q) (fun a w hF hW => ?_)
     refine ls_w hF hW (wanted_y hF rfl rfl rfl rfl) rfl (Nat.le_of_ble_eq_true rfl) ((y_eql hF rfl rfl).q) (fun a w hF hW => ?_)
     refine ls_w hF hW (wanted_y hF rfl rfl rfl rfl) rfl (Nat.le_of_ble_eq_true rfl) ((y_eqb u4_ hF rfl rfl).q) (fun a w hF hW => ?_)
     refine ls hF hW rfl ((y_pick_f hF rfl rfl rfl).q) (fun a w hF hW => ?_)
     refine ls_nil (c_then ?_)
     exact ⟨hF.re ⟨rfl, rfl, rfl, (by show some (Value.bool (decide (p0.2.2.1 = (decide (p1.1 = 7))))) = some (Value.bool (decide (p1.2.1 ≠ p0.1) || (decide (p1.2.2.2 ≠ 0) || decide (p0.2.2.1 = (decide (p1.1 = 7)))))); try rw [hb0]; try rw [hb1]; all_goals simp only [Bool.not_true, Bool.not_false, Bool.true_and, Bool.false_and, Bool.true_or, Bool.false_or, Bool.and_true, Bool.or_false, cond_true, cond_false]), trivial⟩, hW⟩
  rintro a w ⟨hF, hW⟩
  refine c_cond hF rfl (fun hb => ?_) (fun hb => ?_)
  ·
   have H := iteT hb H
   rw [hb] at hF
   clear hb
   refine c_seq (reg_list ?_)
   refine ls hF hW rfl ((y_assign hF rfl).q) (fun a w hF hW => ?_)
   refine ls_nil (c_then ?_)
   refine wr_ret ?_
   refine r_then ?_
   have H := Option.some.inj H
   subst H
   refine post1 (.inl rfl) hF hW rfl (rv_tmp hF rfl) ?_
   exact ⟨rfl, hW.done⟩
  ·
   have H := iteF (by rw [hb]; decide) H
   rw [hb] at hF
   clear hb
   refine wr_skip ?_
   refine c_then ?_
   refine c_seqJ (fun a w => Fr 138 [] [(2, .pointer (some ⟨b1, 0, none⟩)), (3, .pointer (some ⟨b2, 0, none⟩)), (4, .bool false), (5, .bool (!p0.2.2.2.2.2.2.1 && !p0.2.2.2.2.2.2.2.1))] a ∧ Stw ⟨Y, [], w0⟩ [(b2, [.int .i64 p1.1, .int .i64 p1.2.1, .int .i64 p1.2.2.1, .int .i64 p1.2.2.2]), (b1, [.int .i64 p0.1, .int .i64 p0.2.1, .bool p0.2.2.1, .int .i64 p0.2.2.2.1, .int .i64 p0.2.2.2.2.1, .int .i64 p0.2.2.2.2.2.1, .bool p0.2.2.2.2.2.2.1, .bool p0.2.2.2.2.2.2.2.1, .int .i64 p0.2.2.2.2.2.2.2.2])] [] w) ?_ ?_
   ·
    refine reg_list ?_
    refine ls hF hW rfl ((y_fieldAddr u28_ rfl rfl rfl T4 hF rfl 6 rfl).q) (fun a w hF hW => ?_)
    refine ls hF hW rfl ((y_load (v := Value.bool p0.2.2.2.2.2.2.1) 1 hF rfl rfl T4 rfl).q) (fun a w hF hW => ?_)
    refine ls hF hW rfl ((y_not hF rfl).q) (fun a w hF hW => ?_)
    refine ls hF hW rfl ((y_move hF rfl).q) (fun a w hF hW => ?_)
    rcases Bool.eq_false_or_eq_true (!p0.2.2.2.2.2.2.1) with hb0 | hb0
    ·
     rw [hb0] at hF
     refine ls_w hF hW (wanted_y hF rfl rfl rfl rfl) rfl (Nat.le_of_ble_eq_true rfl) ((y_fieldAddr u28_ rfl rfl rfl T4 hF rfl 7 rfl).q) (fun a w hF hW => ?_)
     refine ls_w hF hW (wanted_y hF rfl rfl rfl rfl) rfl (Nat.le_of_ble_eq_true rfl) ((y_load (v := Value.bool p0.2.2.2.2.2.2.2.1) 1 hF rfl rfl T4 rfl).q) (fun a w hF hW => ?_)
     refine ls_w hF hW (wanted_y hF rfl rfl rfl rfl) rfl (Nat.le_of_ble_eq_true rfl) ((y_not hF rfl).q) (fun a w hF hW => ?_)
     refine ls hF hW rfl ((y_pick_t hF rfl rfl rfl).q) (fun a w hF hW => ?_)
     refine ls hF hW rfl ((y_assign hF rfl).q) (fun a w hF hW => ?_)
     refine ls_nil (c_then ?_)
     exact ⟨hF.re ⟨rfl, rfl, rfl, (by show some (Value.bool (!p0.2.2.2.2.2.2.2.1)) = some (Value.bool (!p0.2.2.2.2.2.2.1 && !p0.2.2.2.2.2.2.2.1)); try rw [hb0]; all_goals simp only [Bool.not_true, Bool.not_false, Bool.true_and, Bool.false_and, Bool.true_or, Bool.false_or, Bool.and_true, Bool.or_false, cond_true, cond_false]), trivial⟩, hW⟩
    ·
     rw [hb0] at hF
     iterate 3 refine lsn hF rfl rfl rfl rfl rfl rfl rfl (fun a hF => ?_)
     refine ls hF hW rfl ((y_pick_f hF rfl rfl rfl).q) (fun a w hF hW => ?_)
     refine ls hF hW rfl ((y_assign hF rfl).q) (fun a w hF hW => ?_)
     refine ls_nil (c_then ?_)
     exact ⟨hF.re ⟨rfl, rfl, rfl, (by show some (Value.bool false) = some (Value.bool (!p0.2.2.2.2.2.2.1 && !p0.2.2.2.2.2.2.2.1)); try rw [hb0]; all_goals simp only [Bool.not_true, Bool.not_false, Bool.true_and, Bool.false_and, Bool.true_or, Bool.false_or, Bool.and_true, Bool.or_false, cond_true, cond_false]), trivial⟩, hW⟩
   rintro a w ⟨hF, hW⟩
   refine c_seq ?_
   refine c_seq (reg_list ?_)
   refine ls hF hW rfl ((y_fieldAddr u34_ rfl rfl rfl T3 hF rfl 0 rfl).q) (fun a w hF hW => ?_)
   refine ls hF hW rfl ((y_load (v := Value.int .i64 p1.1) 0 hF rfl rfl T3 rfl).q) (fun a w hF hW => ?_)
   refine ls_nil (c_then ?_)
   refine wr_block ?_
   refine c_seq (reg_list ?_)
   refine ls hF hW rfl ((y_eql hF rfl rfl).q) (fun a w hF hW => ?_)
   refine ls hF hW rfl ((y_assign hF rfl).q) (fun a w hF hW => ?_)
   refine ls_nil (c_then ?_)
   refine c_cond hF rfl (fun hb => ?_) (fun hb => ?_)
   ·
    have H := iteT (of_decide_eq_true hb) H
    rw [hb] at hF
    clear hb
    refine c_seqJ (fun a w => Fr 138 [] [(4, .bool ((!p0.2.2.2.2.2.2.1 && !p0.2.2.2.2.2.2.2.1) && (decide (p1.2.2.1 = p0.2.2.2.2.2.1) && decide (p1.2.2.1 < 8))))] a ∧ Stw ⟨Y, [], w0⟩ [(b2, [.int .i64 p1.1, .int .i64 p1.2.1, .int .i64 p1.2.2.1, .int .i64 p1.2.2.2]), (b1, [.int .i64 p0.1, .int .i64 p0.2.1, .bool p0.2.2.1, .int .i64 p0.2.2.2.1, .int .i64 p0.2.2.2.2.1, .int .i64 p0.2.2.2.2.2.1, .bool p0.2.2.2.2.2.2.1, .bool p0.2.2.2.2.2.2.2.1, .int .i64 p0.2.2.2.2.2.2.2.2])] [] w) ?_ ?_
    ·
     refine reg_list ?_
     iterate 2 refine ls hF hW rfl ((y_move hF rfl).q) (fun a w hF hW => ?_)
     rcases Bool.eq_false_or_eq_true (!p0.2.2.2.2.2.2.1 && !p0.2.2.2.2.2.2.2.1) with hb0 | hb0
     ·
      rw [hb0] at hF
      refine ls_w hF hW (wanted_y hF rfl rfl rfl rfl) rfl (Nat.le_of_ble_eq_true rfl) ((y_fieldAddr u34_ rfl rfl rfl T3 hF rfl 2 rfl).q) (fun a w hF hW => ?_)
      refine ls_w hF hW (wanted_y hF rfl rfl rfl rfl) rfl (Nat.le_of_ble_eq_true rfl) ((y_load (v := Value.int .i64 p1.2.2.1) 0 hF rfl rfl T3 rfl).q) (fun a w hF hW => ?_)
      refine ls_w hF hW (wanted_y hF rfl rfl rfl rfl) rfl (Nat.le_of_ble_eq_true rfl) ((y_fieldAddr u28_ rfl rfl rfl T3 hF rfl 5 rfl).q) (fun a w hF hW => ?_)
      refine ls_w hF hW (wanted_y hF rfl rfl rfl rfl) rfl (Nat.le_of_ble_eq_true rfl) ((y_load (v := Value.int .i64 p0.2.2.2.2.2.1) 1 hF rfl rfl T3 rfl).q) (fun a w hF hW => ?_)
      refine ls_w hF hW (wanted_y hF rfl rfl rfl rfl) rfl (Nat.le_of_ble_eq_true rfl) ((y_eql hF rfl rfl).q) (fun a w hF hW => ?_)
      refine ls hF hW rfl ((y_pick_t hF rfl rfl rfl).q) (fun a w hF hW => ?_)
      refine ls hF hW rfl ((y_move hF rfl).q) (fun a w hF hW => ?_)
      rcases Bool.eq_false_or_eq_true (decide (p1.2.2.1 = p0.2.2.2.2.2.1)) with hb1 | hb1
      ·
       rw [hb1] at hF
       refine ls_w hF hW (wanted_y hF rfl rfl rfl rfl) rfl (Nat.le_of_ble_eq_true rfl) ((y_fieldAddr u34_ rfl rfl rfl T3 hF rfl 2 rfl).q) (fun a w hF hW => ?_)
       refine ls_w hF hW (wanted_y hF rfl rfl rfl rfl) rfl (Nat.le_of_ble_eq_true rfl) ((y_load (v := Value.int .i64 p1.2.2.1) 0 hF rfl rfl T3 rfl).q) (fun a w hF hW => ?_)
       refine ls_w hF hW (wanted_y hF rfl rfl rfl rfl) rfl (Nat.le_of_ble_eq_true rfl) ((y_lss hF rfl rfl).q) (fun a w hF hW => ?_)
       refine ls hF hW rfl ((y_pick_t hF rfl rfl rfl).q) (fun a w hF hW => ?_)
       refine ls hF hW rfl ((y_assign hF rfl).q) (fun a w hF hW => ?_)
       refine ls_nil (c_then ?_)
       exact ⟨hF.re ⟨(by show some (Value.bool (decide (p1.2.2.1 < 8))) = some (Value.bool ((!p0.2.2.2.2.2.2.1 && !p0.2.2.2.2.2.2.2.1) && (decide (p1.2.2.1 = p0.2.2.2.2.2.1) && decide (p1.2.2.1 < 8)))); try rw [hb0]; try rw [hb1]; all_goals simp only [Bool.not_true, Bool.not_false, Bool.true_and, Bool.false_and, Bool.true_or, Bool.false_or, Bool.and_true, Bool.or_false, cond_true, cond_false]), trivial⟩, hW⟩
      ·
       rw [hb1] at hF
       iterate 3 refine lsn hF rfl rfl rfl rfl rfl rfl rfl (fun a hF => ?_)
       refine ls hF hW rfl ((y_pick_f hF rfl rfl rfl).q) (fun a w hF hW => ?_)
       refine ls hF hW rfl ((y_assign hF rfl).q) (fun a w hF hW => ?_)
       refine ls_nil (c_then ?_)
       exact ⟨hF.re ⟨(by show some (Value.bool false) = some (Value.bool ((!p0.2.2.2.2.2.2.1 && !p0.2.2.2.2.2.2.2.1) && (decide (p1.2.2.1 = p0.2.2.2.2.2.1) && decide (p1.2.2.1 < 8)))); try rw [hb0]; try rw [hb1]; all_goals simp only [Bool.not_true, Bool.not_false, Bool.true_and, Bool.false_and, Bool.true_or, Bool.false_or, Bool.and_true, Bool.or_false, cond_true, cond_false]), trivial⟩, hW⟩
     ·
      rw [hb0] at hF
      iterate 5 refine lsn hF rfl rfl rfl rfl rfl rfl rfl (fun a hF => ?_)
      refine ls hF hW rfl ((y_pick_f hF rfl rfl rfl).q) (fun a w hF hW => ?_)
      refine ls hF hW rfl ((y_move hF rfl).q) (fun a w hF hW => ?_)
      iterate 3 refine lsn hF rfl rfl rfl rfl rfl rfl rfl (fun a hF => ?_)
      refine ls hF hW rfl ((y_pick_f hF rfl rfl rfl).q) (fun a w hF hW => ?_)
      refine ls hF hW rfl ((y_assign hF rfl).q) (fun a w hF hW => ?_)
      refine ls_nil (c_then ?_)
      exact ⟨hF.re ⟨(by show some (Value.bool false) = some (Value.bool ((!p0.2.2.2.2.2.2.1 && !p0.2.2.2.2.2.2.2.1) && (decide (p1.2.2.1 = p0.2.2.2.2.2.1) && decide (p1.2.2.1 < 8)))); try rw [hb0]; all_goals simp only [Bool.not_true, Bool.not_false, Bool.true_and, Bool.false_and, Bool.true_or, Bool.false_or, Bool.and_true, Bool.or_false, cond_true, cond_false]), trivial⟩, hW⟩
    rintro a w ⟨hF, hW⟩
    refine wr_ret ?_
    refine r_block ?_
    refine r_then ?_
    have H := Option.some.inj H
    subst H
    refine post1 (.inl rfl) hF hW rfl (rv_tmp hF rfl) ?_
    exact ⟨rfl, hW.done⟩
   ·
    have H := iteF (of_decide_eq_false hb) H
    rw [hb] at hF
    clear hb
    refine c_seq (reg_list ?_)
    refine ls hF hW rfl ((y_eql hF rfl rfl).q) (fun a w hF hW => ?_)
    refine ls hF hW rfl ((y_assign hF rfl).q) (fun a w hF hW => ?_)
    refine ls_nil (c_then ?_)
    refine c_cond hF rfl (fun hb => ?_) (fun hb => ?_)
    ·
     have H := iteT (of_decide_eq_true hb) H
     rw [hb] at hF
     clear hb
     refine c_seqJ (fun a w => Fr 138 [] [(4, .bool ((!p0.2.2.2.2.2.2.1 && !p0.2.2.2.2.2.2.2.1) && (decide (0 < p0.2.2.2.2.2.1) && decide (p1.2.2.1 = 0))))] a ∧ Stw ⟨Y, [], w0⟩ [(b2, [.int .i64 p1.1, .int .i64 p1.2.1, .int .i64 p1.2.2.1, .int .i64 p1.2.2.2]), (b1, [.int .i64 p0.1, .int .i64 p0.2.1, .bool p0.2.2.1, .int .i64 p0.2.2.2.1, .int .i64 p0.2.2.2.2.1, .int .i64 p0.2.2.2.2.2.1, .bool p0.2.2.2.2.2.2.1, .bool p0.2.2.2.2.2.2.2.1, .int .i64 p0.2.2.2.2.2.2.2.2])] [] w) ?_ ?_
     ·
      refine reg_list ?_
      iterate 2 refine ls hF hW rfl ((y_move hF rfl).q) (fun a w hF hW => ?_)
      rcases Bool.eq_false_or_eq_true (!p0.2.2.2.2.2.2.1 && !p0.2.2.2.2.2.2.2.1) with hb0 | hb0
      ·
       rw [hb0] at hF
       refine ls_w hF hW (wanted_y hF rfl rfl rfl rfl) rfl (Nat.le_of_ble_eq_true rfl) ((y_fieldAddr u28_ rfl rfl rfl T3 hF rfl 5 rfl).q) (fun a w hF hW => ?_)
       refine ls_w hF hW (wanted_y hF rfl rfl rfl rfl) rfl (Nat.le_of_ble_eq_true rfl) ((y_load (v := Value.int .i64 p0.2.2.2.2.2.1) 1 hF rfl rfl T3 rfl).q) (fun a w hF hW => ?_)
       refine ls_w hF hW (wanted_y hF rfl rfl rfl rfl) rfl (Nat.le_of_ble_eq_true rfl) ((y_gtr hF rfl rfl).q) (fun a w hF hW => ?_)
       refine ls hF hW rfl ((y_pick_t hF rfl rfl rfl).q) (fun a w hF hW => ?_)
       refine ls hF hW rfl ((y_move hF rfl).q) (fun a w hF hW => ?_)
       rcases Bool.eq_false_or_eq_true (decide (0 < p0.2.2.2.2.2.1)) with hb1 | hb1
       ·
        rw [hb1] at hF
        refine ls_w hF hW (wanted_y hF rfl rfl rfl rfl) rfl (Nat.le_of_ble_eq_true rfl) ((y_fieldAddr u34_ rfl rfl rfl T3 hF rfl 2 rfl).q) (fun a w hF hW => ?_)
        refine ls_w hF hW (wanted_y hF rfl rfl rfl rfl) rfl (Nat.le_of_ble_eq_true rfl) ((y_load (v := Value.int .i64 p1.2.2.1) 0 hF rfl rfl T3 rfl).q) (fun a w hF hW => ?_)
        refine ls_w hF hW (wanted_y hF rfl rfl rfl rfl) rfl (Nat.le_of_ble_eq_true rfl) ((y_eql hF rfl rfl).q) (fun a w hF hW => ?_)
        refine ls hF hW rfl ((y_pick_t hF rfl rfl rfl).q) (fun a w hF hW => ?_)
        refine ls hF hW rfl ((y_assign hF rfl).q) (fun a w hF hW => ?_)
        refine ls_nil (c_then ?_)
        exact ⟨hF.re ⟨(by show some (Value.bool (decide (p1.2.2.1 = 0))) = some (Value.bool ((!p0.2.2.2.2.2.2.1 && !p0.2.2.2.2.2.2.2.1) && (decide (0 < p0.2.2.2.2.2.1) && decide (p1.2.2.1 = 0)))); try rw [hb0]; try rw [hb1]; all_goals simp only [Bool.not_true, Bool.not_false, Bool.true_and, Bool.false_and, Bool.true_or, Bool.false_or, Bool.and_true, Bool.or_false, cond_true, cond_false]), trivial⟩, hW⟩
       ·
        rw [hb1] at hF
        iterate 3 refine lsn hF rfl rfl rfl rfl rfl rfl rfl (fun a hF => ?_)
        refine ls hF hW rfl ((y_pick_f hF rfl rfl rfl).q) (fun a w hF hW => ?_)
        refine ls hF hW rfl ((y_assign hF rfl).q) (fun a w hF hW => ?_)
        refine ls_nil (c_then ?_)
        exact ⟨hF.re ⟨(by show some (Value.bool false) = some (Value.bool ((!p0.2.2.2.2.2.2.1 && !p0.2.2.2.2.2.2.2.1) && (decide (0 < p0.2.2.2.2.2.1) && decide (p1.2.2.1 = 0)))); try rw [hb0]; try rw [hb1]; all_goals simp only [Bool.not_true, Bool.not_false, Bool.true_and, Bool.false_and, Bool.true_or, Bool.false_or, Bool.and_true, Bool.or_false, cond_true, cond_false]), trivial⟩, hW⟩
      ·
       rw [hb0] at hF
       iterate 3 refine lsn hF rfl rfl rfl rfl rfl rfl rfl (fun a hF => ?_)
       refine ls hF hW rfl ((y_pick_f hF rfl rfl rfl).q) (fun a w hF hW => ?_)
       refine ls hF hW rfl ((y_move hF rfl).q) (fun a w hF hW => ?_)
       iterate 3 refine lsn hF rfl rfl rfl rfl rfl rfl rfl (fun a hF => ?_)
       refine ls hF hW rfl ((y_pick_f hF rfl rfl rfl).q) (fun a w hF hW => ?_)
       refine ls hF hW rfl ((y_assign hF rfl).q) (fun a w hF hW => ?_)
       refine ls_nil (c_then ?_)
       exact ⟨hF.re ⟨(by show some (Value.bool false) = some (Value.bool ((!p0.2.2.2.2.2.2.1 && !p0.2.2.2.2.2.2.2.1) && (decide (0 < p0.2.2.2.2.2.1) && decide (p1.2.2.1 = 0)))); try rw [hb0]; all_goals simp only [Bool.not_true, Bool.not_false, Bool.true_and, Bool.false_and, Bool.true_or, Bool.false_or, Bool.and_true, Bool.or_false, cond_true, cond_false]), trivial⟩, hW⟩
     rintro a w ⟨hF, hW⟩
     refine wr_ret ?_
     refine r_block ?_
     refine r_then ?_
     have H := Option.some.inj H
     subst H
     refine post1 (.inl rfl) hF hW rfl (rv_tmp hF rfl) ?_
     exact ⟨rfl, hW.done⟩
    ·
     have H := iteF (of_decide_eq_false hb) H
     rw [hb] at hF
     clear hb
     refine c_seq (reg_list ?_)
     refine ls hF hW rfl ((y_eql hF rfl rfl).q) (fun a w hF hW => ?_)
     refine ls hF hW rfl ((y_assign hF rfl).q) (fun a w hF hW => ?_)
     refine ls_nil (c_then ?_)
     refine c_cond hF rfl (fun hb => ?_) (fun hb => ?_)
     ·
      have H := iteT (of_decide_eq_true hb) H
      rw [hb] at hF
      clear hb
      refine c_seqJ (fun a w => Fr 138 [] [(4, .bool (!p0.2.2.2.2.2.2.2.1 && decide (p1.2.2.1 = 0)))] a ∧ Stw ⟨Y, [], w0⟩ [(b2, [.int .i64 p1.1, .int .i64 p1.2.1, .int .i64 p1.2.2.1, .int .i64 p1.2.2.2]), (b1, [.int .i64 p0.1, .int .i64 p0.2.1, .bool p0.2.2.1, .int .i64 p0.2.2.2.1, .int .i64 p0.2.2.2.2.1, .int .i64 p0.2.2.2.2.2.1, .bool p0.2.2.2.2.2.2.1, .bool p0.2.2.2.2.2.2.2.1, .int .i64 p0.2.2.2.2.2.2.2.2])] [] w) ?_ ?_
      ·
       refine reg_list ?_
       refine ls hF hW rfl ((y_fieldAddr u28_ rfl rfl rfl T4 hF rfl 7 rfl).q) (fun a w hF hW => ?_)
       refine ls hF hW rfl ((y_load (v := Value.bool p0.2.2.2.2.2.2.2.1) 1 hF rfl rfl T4 rfl).q) (fun a w hF hW => ?_)
       refine ls hF hW rfl ((y_not hF rfl).q) (fun a w hF hW => ?_)
       refine ls hF hW rfl ((y_move hF rfl).q) (fun a w hF hW => ?_)
       rcases Bool.eq_false_or_eq_true (!p0.2.2.2.2.2.2.2.1) with hb0 | hb0
       ·
        rw [hb0] at hF
        refine ls_w hF hW (wanted_y hF rfl rfl rfl rfl) rfl (Nat.le_of_ble_eq_true rfl) ((y_fieldAddr u34_ rfl rfl rfl T3 hF rfl 2 rfl).q) (fun a w hF hW => ?_)
        refine ls_w hF hW (wanted_y hF rfl rfl rfl rfl) rfl (Nat.le_of_ble_eq_true rfl) ((y_load (v := Value.int .i64 p1.2.2.1) 0 hF rfl rfl T3 rfl).q) (fun a w hF hW => ?_)
        refine ls_w hF hW (wanted_y hF rfl rfl rfl rfl) rfl (Nat.le_of_ble_eq_true rfl) ((y_eql hF rfl rfl).q) (fun a w hF hW => ?_)
        refine ls hF hW rfl ((y_pick_t hF rfl rfl rfl).q) (fun a w hF hW => ?_)
        refine ls hF hW rfl ((y_assign hF rfl).q) (fun a w hF hW => ?_)
        refine ls_nil (c_then ?_)
        exact ⟨hF.re ⟨(by show some (Value.bool (decide (p1.2.2.1 = 0))) = some (Value.bool (!p0.2.2.2.2.2.2.2.1 && decide (p1.2.2.1 = 0))); try rw [hb0]; all_goals simp only [Bool.not_true, Bool.not_false, Bool.true_and, Bool.false_and, Bool.true_or, Bool.false_or, Bool.and_true, Bool.or_false, cond_true, cond_false]), trivial⟩, hW⟩
       ·
        rw [hb0] at hF
        iterate 3 refine lsn hF rfl rfl rfl rfl rfl rfl rfl (fun a hF => ?_)
        refine ls hF hW rfl ((y_pick_f hF rfl rfl rfl).q) (fun a w hF hW => ?_)
        refine ls hF hW rfl ((y_assign hF rfl).q) (fun a w hF hW => ?_)
        refine ls_nil (c_then ?_)
        exact ⟨hF.re ⟨(by show some (Value.bool false) = some (Value.bool (!p0.2.2.2.2.2.2.2.1 && decide (p1.2.2.1 = 0))); try rw [hb0]; all_goals simp only [Bool.not_true, Bool.not_false, Bool.true_and, Bool.false_and, Bool.true_or, Bool.false_or, Bool.and_true, Bool.or_false, cond_true, cond_false]), trivial⟩, hW⟩
      rintro a w ⟨hF, hW⟩
      refine wr_ret ?_
      refine r_block ?_
      refine r_then ?_
      have H := Option.some.inj H
      subst H
      refine post1 (.inl rfl) hF hW rfl (rv_tmp hF rfl) ?_
      exact ⟨rfl, hW.done⟩
     ·
      have H := iteF (of_decide_eq_false hb) H
      rw [hb] at hF
      clear hb
      refine c_seq (reg_list ?_)
      refine ls hF hW rfl ((y_eql hF rfl rfl).q) (fun a w hF hW => ?_)
      refine ls hF hW rfl ((y_assign hF rfl).q) (fun a w hF hW => ?_)
      refine ls_nil (c_then ?_)
      refine c_cond hF rfl (fun hb => ?_) (fun hb => ?_)
      ·
       have H := iteT (of_decide_eq_true hb) H
       rw [hb] at hF
       clear hb
       refine c_seqJ (fun a w => Fr 138 [] [(4, .bool (p0.2.2.2.2.2.2.1 && (!p0.2.2.2.2.2.2.2.1 && decide (p1.2.2.1 = 0))))] a ∧ Stw ⟨Y, [], w0⟩ [(b2, [.int .i64 p1.1, .int .i64 p1.2.1, .int .i64 p1.2.2.1, .int .i64 p1.2.2.2]), (b1, [.int .i64 p0.1, .int .i64 p0.2.1, .bool p0.2.2.1, .int .i64 p0.2.2.2.1, .int .i64 p0.2.2.2.2.1, .int .i64 p0.2.2.2.2.2.1, .bool p0.2.2.2.2.2.2.1, .bool p0.2.2.2.2.2.2.2.1, .int .i64 p0.2.2.2.2.2.2.2.2])] [] w) ?_ ?_
       ·
        refine reg_list ?_
        refine ls hF hW rfl ((y_fieldAddr u28_ rfl rfl rfl T4 hF rfl 6 rfl).q) (fun a w hF hW => ?_)
        refine ls hF hW rfl ((y_load (v := Value.bool p0.2.2.2.2.2.2.1) 1 hF rfl rfl T4 rfl).q) (fun a w hF hW => ?_)
        refine ls hF hW rfl ((y_move hF rfl).q) (fun a w hF hW => ?_)
        rcases Bool.eq_false_or_eq_true p0.2.2.2.2.2.2.1 with hb0 | hb0
        ·
         rw [hb0] at hF
         refine ls_w hF hW (wanted_y hF rfl rfl rfl rfl) rfl (Nat.le_of_ble_eq_true rfl) ((y_fieldAddr u28_ rfl rfl rfl T4 hF rfl 7 rfl).q) (fun a w hF hW => ?_)
         refine ls_w hF hW (wanted_y hF rfl rfl rfl rfl) rfl (Nat.le_of_ble_eq_true rfl) ((y_load (v := Value.bool p0.2.2.2.2.2.2.2.1) 1 hF rfl rfl T4 rfl).q) (fun a w hF hW => ?_)
         refine ls_w hF hW (wanted_y hF rfl rfl rfl rfl) rfl (Nat.le_of_ble_eq_true rfl) ((y_not hF rfl).q) (fun a w hF hW => ?_)
         refine ls hF hW rfl ((y_pick_t hF rfl rfl rfl).q) (fun a w hF hW => ?_)
         refine ls hF hW rfl ((y_move hF rfl).q) (fun a w hF hW => ?_)
         rcases Bool.eq_false_or_eq_true (!p0.2.2.2.2.2.2.2.1) with hb1 | hb1
         ·
          rw [hb1] at hF
          refine ls_w hF hW (wanted_y hF rfl rfl rfl rfl) rfl (Nat.le_of_ble_eq_true rfl) ((y_fieldAddr u34_ rfl rfl rfl T3 hF rfl 2 rfl).q) (fun a w hF hW => ?_)
          refine ls_w hF hW (wanted_y hF rfl rfl rfl rfl) rfl (Nat.le_of_ble_eq_true rfl) ((y_load (v := Value.int .i64 p1.2.2.1) 0 hF rfl rfl T3 rfl).q) (fun a w hF hW => ?_)
          refine ls_w hF hW (wanted_y hF rfl rfl rfl rfl) rfl (Nat.le_of_ble_eq_true rfl) ((y_eql hF rfl rfl).q) (fun a w hF hW => ?_)
          refine ls hF hW rfl ((y_pick_t hF rfl rfl rfl).q) (fun a w hF hW => ?_)
          refine ls hF hW rfl ((y_assign hF rfl).q) (fun a w hF hW => ?_)
          refine ls_nil (c_then ?_)
          exact ⟨hF.re ⟨(by show some (Value.bool (decide (p1.2.2.1 = 0))) = some (Value.bool (p0.2.2.2.2.2.2.1 && (!p0.2.2.2.2.2.2.2.1 && decide (p1.2.2.1 = 0)))); try rw [hb1]; try rw [hb0]; all_goals simp only [Bool.not_true, Bool.not_false, Bool.true_and, Bool.false_and, Bool.true_or, Bool.false_or, Bool.and_true, Bool.or_false, cond_true, cond_false]), trivial⟩, hW⟩
         ·
          rw [hb1] at hF
          iterate 3 refine lsn hF rfl rfl rfl rfl rfl rfl rfl (fun a hF => ?_)
          refine ls hF hW rfl ((y_pick_f hF rfl rfl rfl).q) (fun a w hF hW => ?_)
          refine ls hF hW rfl ((y_assign hF rfl).q) (fun a w hF hW => ?_)
          refine ls_nil (c_then ?_)
          exact ⟨hF.re ⟨(by show some (Value.bool false) = some (Value.bool (p0.2.2.2.2.2.2.1 && (!p0.2.2.2.2.2.2.2.1 && decide (p1.2.2.1 = 0)))); try rw [hb1]; try rw [hb0]; all_goals simp only [Bool.not_true, Bool.not_false, Bool.true_and, Bool.false_and, Bool.true_or, Bool.false_or, Bool.and_true, Bool.or_false, cond_true, cond_false]), trivial⟩, hW⟩
        ·
         rw [hb0] at hF
         iterate 3 refine lsn hF rfl rfl rfl rfl rfl rfl rfl (fun a hF => ?_)
         refine ls hF hW rfl ((y_pick_f hF rfl rfl rfl).q) (fun a w hF hW => ?_)
         refine ls hF hW rfl ((y_move hF rfl).q) (fun a w hF hW => ?_)
         iterate 3 refine lsn hF rfl rfl rfl rfl rfl rfl rfl (fun a hF => ?_)
         refine ls hF hW rfl ((y_pick_f hF rfl rfl rfl).q) (fun a w hF hW => ?_)
         refine ls hF hW rfl ((y_assign hF rfl).q) (fun a w hF hW => ?_)
         refine ls_nil (c_then ?_)
         exact ⟨hF.re ⟨(by show some (Value.bool false) = some (Value.bool (p0.2.2.2.2.2.2.1 && (!p0.2.2.2.2.2.2.2.1 && decide (p1.2.2.1 = 0)))); try rw [hb0]; all_goals simp only [Bool.not_true, Bool.not_false, Bool.true_and, Bool.false_and, Bool.true_or, Bool.false_or, Bool.and_true, Bool.or_false, cond_true, cond_false]), trivial⟩, hW⟩
       rintro a w ⟨hF, hW⟩
       refine wr_ret ?_
       refine r_block ?_
       refine r_then ?_
       have H := Option.some.inj H
       subst H
       refine post1 (.inl rfl) hF hW rfl (rv_tmp hF rfl) ?_
       exact ⟨rfl, hW.done⟩
      ·
       have H := iteF (of_decide_eq_false hb) H
       rw [hb] at hF
       clear hb
       refine c_seq (reg_list ?_)
       refine ls hF hW rfl ((y_eql hF rfl rfl).q) (fun a w hF hW => ?_)
       refine ls hF hW rfl ((y_assign hF rfl).q) (fun a w hF hW => ?_)
       refine ls_nil (c_then ?_)
       refine c_cond hF rfl (fun hb => ?_) (fun hb => ?_)
       ·
        have H := iteT (of_decide_eq_true hb) H
        rw [hb] at hF
        clear hb
        refine c_seqJ (fun a w => Fr 138 [] [(4, .bool (p0.2.2.2.2.2.2.2.1 && (journal_within p1.2.2.1 255)))] a ∧ Stw ⟨Y, [], w0⟩ [(b2, [.int .i64 p1.1, .int .i64 p1.2.1, .int .i64 p1.2.2.1, .int .i64 p1.2.2.2]), (b1, [.int .i64 p0.1, .int .i64 p0.2.1, .bool p0.2.2.1, .int .i64 p0.2.2.2.1, .int .i64 p0.2.2.2.2.1, .int .i64 p0.2.2.2.2.2.1, .bool p0.2.2.2.2.2.2.1, .bool p0.2.2.2.2.2.2.2.1, .int .i64 p0.2.2.2.2.2.2.2.2])] [] w) ?_ ?_
        ·
         refine reg_list ?_
         refine ls hF hW rfl ((y_fieldAddr u28_ rfl rfl rfl T4 hF rfl 7 rfl).q) (fun a w hF hW => ?_)
         refine ls hF hW rfl ((y_load (v := Value.bool p0.2.2.2.2.2.2.2.1) 1 hF rfl rfl T4 rfl).q) (fun a w hF hW => ?_)
         refine ls hF hW rfl ((y_move hF rfl).q) (fun a w hF hW => ?_)
         rcases Bool.eq_false_or_eq_true p0.2.2.2.2.2.2.2.1 with hb0 | hb0
         ·
          rw [hb0] at hF
          refine ls_w hF hW (wanted_y hF rfl rfl rfl rfl) rfl (Nat.le_of_ble_eq_true rfl) ((y_fieldAddr u34_ rfl rfl rfl T3 hF rfl 2 rfl).q) (fun a w hF hW => ?_)
          refine ls_w hF hW (wanted_y hF rfl rfl rfl rfl) rfl (Nat.le_of_ble_eq_true rfl) ((y_load (v := Value.int .i64 p1.2.2.1) 0 hF rfl rfl T3 rfl).q) (fun a w hF hW => ?_)
          refine ls_g (wanted_y hF rfl rfl rfl rfl) ?_
          refine ls hF hW rfl (y_call (v := Value.bool (journal_within p1.2.2.1 255)) hF H31 rfl (fun w hW => journal_within_c any w p1.2.2.1 255 _ rfl)) (fun a w hF hW => ?_)
          refine ls hF hW rfl ((y_pick_t hF rfl rfl rfl).q) (fun a w hF hW => ?_)
          refine ls hF hW rfl ((y_assign hF rfl).q) (fun a w hF hW => ?_)
          refine ls_nil (c_then ?_)
          exact ⟨hF.re ⟨(by show some (Value.bool (journal_within p1.2.2.1 255)) = some (Value.bool (p0.2.2.2.2.2.2.2.1 && (journal_within p1.2.2.1 255))); try rw [hb0]; all_goals simp only [Bool.not_true, Bool.not_false, Bool.true_and, Bool.false_and, Bool.true_or, Bool.false_or, Bool.and_true, Bool.or_false, cond_true, cond_false]), trivial⟩, hW⟩
         ·
          rw [hb0] at hF
          iterate 3 refine lsn hF rfl rfl rfl rfl rfl rfl rfl (fun a hF => ?_)
          refine ls hF hW rfl ((y_pick_f hF rfl rfl rfl).q) (fun a w hF hW => ?_)
          refine ls hF hW rfl ((y_assign hF rfl).q) (fun a w hF hW => ?_)
          refine ls_nil (c_then ?_)
          exact ⟨hF.re ⟨(by show some (Value.bool false) = some (Value.bool (p0.2.2.2.2.2.2.2.1 && (journal_within p1.2.2.1 255))); try rw [hb0]; all_goals simp only [Bool.not_true, Bool.not_false, Bool.true_and, Bool.false_and, Bool.true_or, Bool.false_or, Bool.and_true, Bool.or_false, cond_true, cond_false]), trivial⟩, hW⟩
        rintro a w ⟨hF, hW⟩
        refine wr_ret ?_
        refine r_block ?_
        refine r_then ?_
        have H := Option.some.inj H
        subst H
        refine post1 (.inl rfl) hF hW rfl (rv_tmp hF rfl) ?_
        exact ⟨rfl, hW.done⟩
       ·
        have H := iteF (of_decide_eq_false hb) H
        rw [hb] at hF
        clear hb
        refine c_seq (reg_list ?_)
        refine ls hF hW rfl ((y_eql hF rfl rfl).q) (fun a w hF hW => ?_)
        refine ls hF hW rfl ((y_assign hF rfl).q) (fun a w hF hW => ?_)
        refine ls_nil (c_then ?_)
        refine c_cond hF rfl (fun hb => ?_) (fun hb => ?_)
        ·
         have H := iteT (of_decide_eq_true hb) H
         rw [hb] at hF
         clear hb
         obtain ⟨o1, G1, K1⟩ := bindE H
         refine c_seqJ (fun a w => ∃ x1 : Bool, some (x1) = some o1 ∧ Fr 138 [] [(4, .bool x1)] a ∧ Stw ⟨Y, [], w0⟩ [(b2, [.int .i64 p1.1, .int .i64 p1.2.1, .int .i64 p1.2.2.1, .int .i64 p1.2.2.2]), (b1, [.int .i64 p0.1, .int .i64 p0.2.1, .bool p0.2.2.1, .int .i64 p0.2.2.2.1, .int .i64 p0.2.2.2.2.1, .int .i64 p0.2.2.2.2.2.1, .bool p0.2.2.2.2.2.2.1, .bool p0.2.2.2.2.2.2.2.1, .int .i64 p0.2.2.2.2.2.2.2.2])] [] w) ?_ ?_
         ·
          have H := G1
          clear G1 K1
          refine reg_list ?_
          refine ls hF hW rfl ((y_fieldAddr u34_ rfl rfl rfl T3 hF rfl 2 rfl).q) (fun a w hF hW => ?_)
          refine ls hF hW rfl ((y_load (v := Value.int .i64 p1.2.2.1) 0 hF rfl rfl T3 rfl).q) (fun a w hF hW => ?_)
          refine ls hF hW rfl (y_call (v := Value.bool (journal_within p1.2.2.1 7)) hF H31 rfl (fun w hW => journal_within_c any w p1.2.2.1 7 _ rfl)) (fun a w hF hW => ?_)
          refine ls hF hW rfl ((y_move hF rfl).q) (fun a w hF hW => ?_)
          rcases Bool.eq_false_or_eq_true (journal_within p1.2.2.1 7) with hb | hb
          ·
           have H := iteT hb H
           rw [hb] at hF
           clear hb
           refine ls_w hF hW (wanted_y hF rfl rfl rfl rfl) rfl (Nat.le_of_ble_eq_true rfl) ((y_fieldAddr u28_ rfl rfl rfl T3 hF rfl 8 rfl).q) (fun a w hF hW => ?_)
           refine ls_w hF hW (wanted_y hF rfl rfl rfl rfl) rfl (Nat.le_of_ble_eq_true rfl) ((y_load (v := Value.int .i64 p0.2.2.2.2.2.2.2.2) 1 hF rfl rfl T3 rfl).q) (fun a w hF hW => ?_)
           refine ls_w hF hW (wanted_y hF rfl rfl rfl rfl) rfl (Nat.le_of_ble_eq_true rfl) ((y_fieldAddr u34_ rfl rfl rfl T3 hF rfl 2 rfl).q) (fun a w hF hW => ?_)
           refine ls_w hF hW (wanted_y hF rfl rfl rfl rfl) rfl (Nat.le_of_ble_eq_true rfl) ((y_load (v := Value.int .i64 p1.2.2.1) 0 hF rfl rfl T3 rfl).q) (fun a w hF hW => ?_)
           obtain ⟨x2, h1, H⟩ := bindE H
           refine ls_w hF hW (wanted_y hF rfl rfl rfl rfl) rfl (Nat.le_of_ble_eq_true rfl) ((y_shc (shN_some h1).2 (y_shr hF rfl rfl (shN_some h1).1)).q) (fun a w hF hW => ?_)
           refine ls_w hF hW (wanted_y hF rfl rfl rfl rfl) rfl (Nat.le_of_ble_eq_true rfl) ((y_and hF rfl rfl).q) (fun a w hF hW => ?_)
           refine ls_w hF hW (wanted_y hF rfl rfl rfl rfl) rfl (Nat.le_of_ble_eq_true rfl) ((y_eql hF rfl rfl).q) (fun a w hF hW => ?_)
           refine ls hF hW rfl ((y_pick_t hF rfl rfl rfl).q) (fun a w hF hW => ?_)
           refine ls hF hW rfl ((y_assign hF rfl).q) (fun a w hF hW => ?_)
           refine ls_nil (c_then ?_)
           have hW := hW.frontM (i := 1) rfl rfl
           have hW := hW.frontM (i := 1) rfl rfl
           exact ⟨_, H, hF.re ⟨rfl, trivial⟩, hW⟩
          ·
           have H := iteF (by rw [hb]; decide) H
           rw [hb] at hF
           clear hb
           iterate 7 refine lsn hF rfl rfl rfl rfl rfl rfl rfl (fun a hF => ?_)
           refine ls hF hW rfl ((y_pick_f hF rfl rfl rfl).q) (fun a w hF hW => ?_)
           refine ls hF hW rfl ((y_assign hF rfl).q) (fun a w hF hW => ?_)
           refine ls_nil (c_then ?_)
           have hW := hW.frontM (i := 1) rfl rfl
           have hW := hW.frontM (i := 1) rfl rfl
           exact ⟨_, H, hF.re ⟨rfl, trivial⟩, hW⟩
         rintro a w ⟨x1, hj, hF, hW⟩
         have hj := Option.some.inj hj
         subst hj
         have H := K1
         clear G1 K1
         refine wr_ret ?_
         refine r_block ?_
         refine r_then ?_
         have H := Option.some.inj H
         subst H
         refine post1 (.inl rfl) hF hW rfl (rv_tmp hF rfl) ?_
         exact ⟨rfl, hW.done⟩
        ·
         have H := iteF (of_decide_eq_false hb) H
         rw [hb] at hF
         clear hb
         refine wr_skip ?_
         refine b_normal ?_
         refine c_then ?_
         refine c_seq (reg_list ?_)
         refine ls hF hW rfl ((y_assign hF rfl).q) (fun a w hF hW => ?_)
         refine ls_nil (c_then ?_)
         refine wr_ret ?_
         have H := Option.some.inj H
         subst H
         refine post1 (.inl rfl) hF hW rfl (rv_tmp hF rfl) ?_
         exact ⟨rfl, hW.done⟩

theorem H21 : Has Tryd.prog 21 := ⟨fun args w => run_callFunc_body Tryd.func21 rfl (by decide) args w⟩
theorem MO : Tryd.prog.follows .mixedOrders = true := by kernel_rfl
noncomputable def journal_Next (p0 : Int × Int × Bool × Int × Int × Int × Bool × Bool × Int) (p1 : Int × Int × Int × Int) : Option ((Int × Int × Bool × Int × Int × Int × Bool × Bool × Int) × Int) := (journal_allowed p0 p1).bind fun x1 => (if (!x1) = true then some (p0, 5) else orR (if p1.1 = 1 then some (.inr ((p1.2.1, p0.2.1, true, p1.2.2.1, p1.2.2.2, 0, false, false, 0), 0)) else (if p1.1 = 2 then some (.inl (w64 (p0.2.2.2.2.2.1 + 1), p0.2.2.2.2.2.2.1, p0.2.2.2.2.2.2.2.1, p0.2.2.2.2.2.2.2.2)) else (if p1.1 = 3 then some (.inl (p0.2.2.2.2.2.1, true, p0.2.2.2.2.2.2.2.1, p0.2.2.2.2.2.2.2.2)) else (if p1.1 = 4 then some (.inl (p0.2.2.2.2.2.1, p0.2.2.2.2.2.2.1, true, p0.2.2.2.2.2.2.2.2)) else (if p1.1 = 5 then some (.inr ((p0.1, p0.2.2.2.1, false, 0, 0, 0, false, false, 0), 0)) else (if p1.1 = 6 then some (.inr ((p0.1, p0.2.1, false, 0, 0, 0, false, false, p1.2.2.1), 0)) else (if p1.1 = 7 then (shN (shlI .i64 1 p1.2.2.1) p1.2.2.1).bind fun x6 => some (.inl (p0.2.2.2.2.2.1, p0.2.2.2.2.2.2.1, p0.2.2.2.2.2.2.2.1, andNotI .i64 p0.2.2.2.2.2.2.2.2 x6)) else some (.inl (p0.2.2.2.2.2.1, p0.2.2.2.2.2.2.1, p0.2.2.2.2.2.2.2.1, p0.2.2.2.2.2.2.2.2))))))))) fun (x2, x3, x4, x5) => some ((p0.1, p0.2.1, p0.2.2.1, p0.2.2.2.1, p0.2.2.2.2.1, x2, x3, x4, x5), 0))
theorem journal_Next_c (Y : Nat → Prop) (w0 : World)  (p0 : Int × Int × Bool × Int × Int × Int × Bool × Bool × Int) (p1 : Int × Int × Int × Int) (r : (Int × Int × Bool × Int × Int × Int × Bool × Bool × Int) × Int) (H : journal_Next p0 p1 = some r)  :
    Calls Tryd.prog 8 #[.agg #[.int .i64 p0.1, .int .i64 p0.2.1, .bool p0.2.2.1, .int .i64 p0.2.2.2.1, .int .i64 p0.2.2.2.2.1, .int .i64 p0.2.2.2.2.2.1, .bool p0.2.2.2.2.2.2.1, .bool p0.2.2.2.2.2.2.2.1, .int .i64 p0.2.2.2.2.2.2.2.2], .agg #[.int .i64 p1.1, .int .i64 p1.2.1, .int .i64 p1.2.2.1, .int .i64 p1.2.2.2]] w0 fun e w' => e = .returned (.tuple #[.agg #[.int .i64 r.1.1, .int .i64 r.1.2.1, .bool r.1.2.2.1, .int .i64 r.1.2.2.2.1, .int .i64 r.1.2.2.2.2.1, .int .i64 r.1.2.2.2.2.2.1, .bool r.1.2.2.2.2.2.2.1, .bool r.1.2.2.2.2.2.2.2.1, .int .i64 r.1.2.2.2.2.2.2.2.2], .int .i64 r.2]) ∧ Below w0.heap.size w0 w' := by
 refine enter Tryd.func8 rfl Tryd.ntmps8 rfl (fun a hF => ?_)
 have hW := Stw.start Y w0
 unfold journal_Next at H
 refine c_seq (reg_list ?_)
 refine l_box (cs := [.int .i64 p0.1, .int .i64 p0.2.1, .bool p0.2.2.1, .int .i64 p0.2.2.2.1, .int .i64 p0.2.2.2.2.1, .int .i64 p0.2.2.2.2.2.1, .bool p0.2.2.2.2.2.2.1, .bool p0.2.2.2.2.2.2.2.1, .int .i64 p0.2.2.2.2.2.2.2.2]) hF hW rfl rfl rfl (fun b1 a w hF hW => ?_)
 refine l_box (cs := [.int .i64 p1.1, .int .i64 p1.2.1, .int .i64 p1.2.2.1, .int .i64 p1.2.2.2]) hF hW rfl rfl rfl (fun b2 a w hF hW => ?_)
 refine l_alloc (cs := [.int .i64 0, .int .i64 0, .bool false, .int .i64 0, .int .i64 0, .int .i64 0, .bool false, .bool false, .int .i64 0]) hF hW rfl Z28 rfl (fun b3 a w hF hW => ?_)
 refine ls hF hW rfl ((y_assign hF rfl).q) (fun a w hF hW => ?_)
 refine ls_nil (c_then ?_)
 refine c_seq ?_
 refine c_seq (reg_list ?_)
 refine ls hF hW rfl ((y_load (v := Value.agg #[.int .i64 p0.1, .int .i64 p0.2.1, .bool p0.2.2.1, .int .i64 p0.2.2.2.1, .int .i64 p0.2.2.2.2.1, .int .i64 p0.2.2.2.2.2.1, .bool p0.2.2.2.2.2.2.1, .bool p0.2.2.2.2.2.2.2.1, .int .i64 p0.2.2.2.2.2.2.2.2]) 2 hF rfl rfl T28 rfl).q) (fun a w hF hW => ?_)
 refine ls hF hW rfl ((y_load (v := Value.agg #[.int .i64 p1.1, .int .i64 p1.2.1, .int .i64 p1.2.2.1, .int .i64 p1.2.2.2]) 1 hF rfl rfl T34 rfl).q) (fun a w hF hW => ?_)
 obtain ⟨x1, h1, H⟩ := bindE H
 refine ls hF hW rfl (y_call (v := Value.bool x1) hF H21 rfl (fun w hW => journal_allowed_c any w p0 p1 _ h1)) (fun a w hF hW => ?_)
 refine ls hF hW rfl ((y_not hF rfl).q) (fun a w hF hW => ?_)
 refine ls_nil (c_then ?_)
 refine c_cond hF rfl (fun hb => ?_) (fun hb => ?_)
 ·
  have H := iteT hb H
  rw [hb] at hF
  clear hb
  refine c_seq (reg_list ?_)
  refine ls hF hW rfl ((y_load (v := Value.agg #[.int .i64 p0.1, .int .i64 p0.2.1, .bool p0.2.2.1, .int .i64 p0.2.2.2.1, .int .i64 p0.2.2.2.2.1, .int .i64 p0.2.2.2.2.2.1, .bool p0.2.2.2.2.2.2.1, .bool p0.2.2.2.2.2.2.2.1, .int .i64 p0.2.2.2.2.2.2.2.2]) 2 hF rfl rfl T28 rfl).q) (fun a w hF hW => ?_)
  refine l_store (vs := [.int .i64 p0.1, .int .i64 p0.2.1, .bool p0.2.2.1, .int .i64 p0.2.2.2.1, .int .i64 p0.2.2.2.2.1, .int .i64 p0.2.2.2.2.2.1, .bool p0.2.2.2.2.2.2.1, .bool p0.2.2.2.2.2.2.2.1, .int .i64 p0.2.2.2.2.2.2.2.2]) (M' := [(b3, [.int .i64 p0.1, .int .i64 p0.2.1, .bool p0.2.2.1, .int .i64 p0.2.2.2.1, .int .i64 p0.2.2.2.2.1, .int .i64 p0.2.2.2.2.2.1, .bool p0.2.2.2.2.2.2.1, .bool p0.2.2.2.2.2.2.2.1, .int .i64 p0.2.2.2.2.2.2.2.2]), (b2, [.int .i64 p1.1, .int .i64 p1.2.1, .int .i64 p1.2.2.1, .int .i64 p1.2.2.2]), (b1, [.int .i64 p0.1, .int .i64 p0.2.1, .bool p0.2.2.1, .int .i64 p0.2.2.2.1, .int .i64 p0.2.2.2.2.1, .int .i64 p0.2.2.2.2.2.1, .bool p0.2.2.2.2.2.2.1, .bool p0.2.2.2.2.2.2.2.1, .int .i64 p0.2.2.2.2.2.2.2.2])]) 0 hF hW rfl rfl rfl T28 rfl rfl rfl rfl rfl (fun w hW => ?_)
  refine ls hF hW rfl ((y_assign hF rfl).q) (fun a w hF hW => ?_)
  refine ls_nil (c_then ?_)
  refine wr_ret ?_
  refine r_then ?_
  have H := Option.some.inj H
  subst H
  refine post2 (.inl rfl) hF hW rfl (rv_cell 0 hF rfl rfl T28 rfl) (rv_tmp hF rfl) ?_
  exact ⟨rfl, hW.done⟩
 ·
  have H := iteF (by rw [hb]; decide) H
  rw [hb] at hF
  clear hb
  refine wr_skip ?_
  refine c_then ?_
  obtain ⟨o1, G1, K1, L1⟩ := orE H
  refine c_seqJ (fun a w => ∃ x2 : Int, ∃ x3 : Bool, ∃ x4 : Bool, ∃ x5 : Int, some (Sum.inl (x2, x3, x4, x5)) = some o1 ∧ Fr 62 [] [(2, .pointer (some ⟨b1, 0, none⟩)), (4, .pointer (some ⟨b3, 0, none⟩)), (5, .int .i64 0)] a ∧ Stw ⟨Y, [], w0⟩ [(b3, [.int .i64 0, .int .i64 0, .bool false, .int .i64 0, .int .i64 0, .int .i64 0, .bool false, .bool false, .int .i64 0]), (b2, [.int .i64 p1.1, .int .i64 p1.2.1, .int .i64 p1.2.2.1, .int .i64 p1.2.2.2]), (b1, [.int .i64 p0.1, .int .i64 p0.2.1, .bool p0.2.2.1, .int .i64 p0.2.2.2.1, .int .i64 p0.2.2.2.2.1, .int .i64 x2, .bool x3, .bool x4, .int .i64 x5])] [] w) ?_ ?_
  ·
   have H := G1
   clear G1 K1
   refine c_seq (reg_list ?_)
   refine ls hF hW rfl ((y_fieldAddr u34_ rfl rfl rfl T3 hF rfl 0 rfl).q) (fun a w hF hW => ?_)
   refine ls hF hW rfl ((y_load (v := Value.int .i64 p1.1) 1 hF rfl rfl T3 rfl).q) (fun a w hF hW => ?_)
   refine ls_nil (c_then ?_)
   refine wr_block ?_
   refine c_seq (reg_list ?_)
   refine ls hF hW rfl ((y_eql hF rfl rfl).q) (fun a w hF hW => ?_)
   refine ls hF hW rfl ((y_assign hF rfl).q) (fun a w hF hW => ?_)
   refine ls_nil (c_then ?_)
   refine c_cond hF rfl (fun hb => ?_) (fun hb => ?_)
   ·
    have H := iteT (of_decide_eq_true hb) H
    rw [hb] at hF
    clear hb
    refine c_seq (reg_list ?_)
    refine ls hF hW rfl ((y_fieldAddr u34_ rfl rfl rfl T3 hF rfl 1 rfl).q) (fun a w hF hW => ?_)
    refine ls hF hW rfl ((y_load (v := Value.int .i64 p1.2.1) 1 hF rfl rfl T3 rfl).q) (fun a w hF hW => ?_)
    refine ls hF hW rfl ((y_fieldAddr u28_ rfl rfl rfl T3 hF rfl 1 rfl).q) (fun a w hF hW => ?_)
    refine ls hF hW rfl ((y_load (v := Value.int .i64 p0.2.1) 2 hF rfl rfl T3 rfl).q) (fun a w hF hW => ?_)
    refine ls hF hW rfl ((y_fieldAddr u34_ rfl rfl rfl T3 hF rfl 2 rfl).q) (fun a w hF hW => ?_)
    refine ls hF hW rfl ((y_load (v := Value.int .i64 p1.2.2.1) 1 hF rfl rfl T3 rfl).q) (fun a w hF hW => ?_)
    refine ls hF hW rfl ((y_fieldAddr u34_ rfl rfl rfl T3 hF rfl 3 rfl).q) (fun a w hF hW => ?_)
    refine ls hF hW rfl ((y_load (v := Value.int .i64 p1.2.2.2) 1 hF rfl rfl T3 rfl).q) (fun a w hF hW => ?_)
    refine ls hF hW rfl ((y_build (v := Value.agg #[.int .i64 p1.2.1, .int .i64 p0.2.1, .bool true, .int .i64 p1.2.2.1, .int .i64 p1.2.2.2, .int .i64 0, .bool false, .bool false, .int .i64 0]) B28 hF rfl rfl rfl).q) (fun a w hF hW => ?_)
    refine l_store (vs := [.int .i64 p1.2.1, .int .i64 p0.2.1, .bool true, .int .i64 p1.2.2.1, .int .i64 p1.2.2.2, .int .i64 0, .bool false, .bool false, .int .i64 0]) (M' := [(b3, [.int .i64 p1.2.1, .int .i64 p0.2.1, .bool true, .int .i64 p1.2.2.1, .int .i64 p1.2.2.2, .int .i64 0, .bool false, .bool false, .int .i64 0]), (b2, [.int .i64 p1.1, .int .i64 p1.2.1, .int .i64 p1.2.2.1, .int .i64 p1.2.2.2]), (b1, [.int .i64 p0.1, .int .i64 p0.2.1, .bool p0.2.2.1, .int .i64 p0.2.2.2.1, .int .i64 p0.2.2.2.2.1, .int .i64 p0.2.2.2.2.2.1, .bool p0.2.2.2.2.2.2.1, .bool p0.2.2.2.2.2.2.2.1, .int .i64 p0.2.2.2.2.2.2.2.2])]) 0 hF hW rfl rfl rfl T28 rfl rfl rfl rfl rfl (fun w hW => ?_)
    refine ls hF hW rfl ((y_assign hF rfl).q) (fun a w hF hW => ?_)
    refine ls_nil (c_then ?_)
    refine wr_ret ?_
    refine r_block ?_
    refine r_then ?_
    have H := L1 _ H
    have H := Option.some.inj H
    subst H
    refine post2 (.inl rfl) hF hW rfl (rv_cell 0 hF rfl rfl T28 rfl) (rv_tmp hF rfl) ?_
    exact ⟨rfl, hW.done⟩
   ·
    have H := iteF (of_decide_eq_false hb) H
    rw [hb] at hF
    clear hb
    refine c_seq (reg_list ?_)
    refine ls hF hW rfl ((y_eql hF rfl rfl).q) (fun a w hF hW => ?_)
    refine ls hF hW rfl ((y_assign hF rfl).q) (fun a w hF hW => ?_)
    refine ls_nil (c_then ?_)
    refine c_cond hF rfl (fun hb => ?_) (fun hb => ?_)
    ·
     have H := iteT (of_decide_eq_true hb) H
     rw [hb] at hF
     clear hb
     refine reg_list ?_
     refine ls hF hW rfl ((y_fieldAddr u28_ rfl rfl rfl T3 hF rfl 5 rfl).q) (fun a w hF hW => ?_)
     refine ls hF hW rfl ((y_load (v := Value.int .i64 p0.2.2.2.2.2.1) 2 hF rfl rfl T3 rfl).q) (fun a w hF hW => ?_)
     refine ls hF hW rfl ((y_add hF rfl rfl rfl).q) (fun a w hF hW => ?_)
     refine ls hF hW rfl ((y_fieldAddr u28_ rfl rfl rfl T3 hF rfl 5 rfl).q) (fun a w hF hW => ?_)
     refine l_store (vs := [.int .i64 (w64 (p0.2.2.2.2.2.1 + 1))]) (M' := [(b3, [.int .i64 0, .int .i64 0, .bool false, .int .i64 0, .int .i64 0, .int .i64 0, .bool false, .bool false, .int .i64 0]), (b2, [.int .i64 p1.1, .int .i64 p1.2.1, .int .i64 p1.2.2.1, .int .i64 p1.2.2.2]), (b1, [.int .i64 p0.1, .int .i64 p0.2.1, .bool p0.2.2.1, .int .i64 p0.2.2.2.1, .int .i64 p0.2.2.2.2.1, .int .i64 (w64 (p0.2.2.2.2.2.1 + 1)), .bool p0.2.2.2.2.2.2.1, .bool p0.2.2.2.2.2.2.2.1, .int .i64 p0.2.2.2.2.2.2.2.2])]) 2 hF hW rfl rfl rfl T3 rfl rfl rfl rfl rfl (fun w hW => ?_)
     refine ls_nil ?_
     refine b_normal ?_
     refine c_then ?_
     have hW := hW.frontM (i := 2) rfl rfl
     have hW := hW.frontM (i := 2) rfl rfl
     have hW := hW.frontM (i := 2) rfl rfl
     exact ⟨_, _, _, _, H, hF.re ⟨rfl, rfl, rfl, trivial⟩, hW⟩
    ·
     have H := iteF (of_decide_eq_false hb) H
     rw [hb] at hF
     clear hb
     refine c_seq (reg_list ?_)
     refine ls hF hW rfl ((y_eql hF rfl rfl).q) (fun a w hF hW => ?_)
     refine ls hF hW rfl ((y_assign hF rfl).q) (fun a w hF hW => ?_)
     refine ls_nil (c_then ?_)
     refine c_cond hF rfl (fun hb => ?_) (fun hb => ?_)
     ·
      have H := iteT (of_decide_eq_true hb) H
      rw [hb] at hF
      clear hb
      refine reg_list ?_
      refine ls hF hW rfl ((y_fieldAddr u28_ rfl rfl rfl T4 hF rfl 6 rfl).q) (fun a w hF hW => ?_)
      refine l_store (vs := [.bool true]) (M' := [(b3, [.int .i64 0, .int .i64 0, .bool false, .int .i64 0, .int .i64 0, .int .i64 0, .bool false, .bool false, .int .i64 0]), (b2, [.int .i64 p1.1, .int .i64 p1.2.1, .int .i64 p1.2.2.1, .int .i64 p1.2.2.2]), (b1, [.int .i64 p0.1, .int .i64 p0.2.1, .bool p0.2.2.1, .int .i64 p0.2.2.2.1, .int .i64 p0.2.2.2.2.1, .int .i64 p0.2.2.2.2.2.1, .bool true, .bool p0.2.2.2.2.2.2.2.1, .int .i64 p0.2.2.2.2.2.2.2.2])]) 2 hF hW rfl rfl rfl T4 rfl rfl rfl rfl rfl (fun w hW => ?_)
      refine ls_nil ?_
      refine b_normal ?_
      refine c_then ?_
      have hW := hW.frontM (i := 2) rfl rfl
      have hW := hW.frontM (i := 2) rfl rfl
      have hW := hW.frontM (i := 2) rfl rfl
      exact ⟨_, _, _, _, H, hF.re ⟨rfl, rfl, rfl, trivial⟩, hW⟩
     ·
      have H := iteF (of_decide_eq_false hb) H
      rw [hb] at hF
      clear hb
      refine c_seq (reg_list ?_)
      refine ls hF hW rfl ((y_eql hF rfl rfl).q) (fun a w hF hW => ?_)
      refine ls hF hW rfl ((y_assign hF rfl).q) (fun a w hF hW => ?_)
      refine ls_nil (c_then ?_)
      refine c_cond hF rfl (fun hb => ?_) (fun hb => ?_)
      ·
       have H := iteT (of_decide_eq_true hb) H
       rw [hb] at hF
       clear hb
       refine reg_list ?_
       refine ls hF hW rfl ((y_fieldAddr u28_ rfl rfl rfl T4 hF rfl 7 rfl).q) (fun a w hF hW => ?_)
       refine l_store (vs := [.bool true]) (M' := [(b3, [.int .i64 0, .int .i64 0, .bool false, .int .i64 0, .int .i64 0, .int .i64 0, .bool false, .bool false, .int .i64 0]), (b2, [.int .i64 p1.1, .int .i64 p1.2.1, .int .i64 p1.2.2.1, .int .i64 p1.2.2.2]), (b1, [.int .i64 p0.1, .int .i64 p0.2.1, .bool p0.2.2.1, .int .i64 p0.2.2.2.1, .int .i64 p0.2.2.2.2.1, .int .i64 p0.2.2.2.2.2.1, .bool p0.2.2.2.2.2.2.1, .bool true, .int .i64 p0.2.2.2.2.2.2.2.2])]) 2 hF hW rfl rfl rfl T4 rfl rfl rfl rfl rfl (fun w hW => ?_)
       refine ls_nil ?_
       refine b_normal ?_
       refine c_then ?_
       have hW := hW.frontM (i := 2) rfl rfl
       have hW := hW.frontM (i := 2) rfl rfl
       have hW := hW.frontM (i := 2) rfl rfl
       exact ⟨_, _, _, _, H, hF.re ⟨rfl, rfl, rfl, trivial⟩, hW⟩
      ·
       have H := iteF (of_decide_eq_false hb) H
       rw [hb] at hF
       clear hb
       refine c_seq (reg_list ?_)
       refine ls hF hW rfl ((y_eql hF rfl rfl).q) (fun a w hF hW => ?_)
       refine ls hF hW rfl ((y_assign hF rfl).q) (fun a w hF hW => ?_)
       refine ls_nil (c_then ?_)
       refine c_cond hF rfl (fun hb => ?_) (fun hb => ?_)
       ·
        have H := iteT (of_decide_eq_true hb) H
        rw [hb] at hF
        clear hb
        refine c_seq (reg_list ?_)
        refine ls hF hW rfl ((y_fieldAddr u28_ rfl rfl rfl T3 hF rfl 0 rfl).q) (fun a w hF hW => ?_)
        refine ls hF hW rfl ((y_load (v := Value.int .i64 p0.1) 2 hF rfl rfl T3 rfl).q) (fun a w hF hW => ?_)
        refine ls hF hW rfl ((y_fieldAddr u28_ rfl rfl rfl T3 hF rfl 3 rfl).q) (fun a w hF hW => ?_)
        refine ls hF hW rfl ((y_load (v := Value.int .i64 p0.2.2.2.1) 2 hF rfl rfl T3 rfl).q) (fun a w hF hW => ?_)
        refine ls hF hW rfl ((y_build (v := Value.agg #[.int .i64 p0.1, .int .i64 p0.2.2.2.1, .bool false, .int .i64 0, .int .i64 0, .int .i64 0, .bool false, .bool false, .int .i64 0]) B28 hF rfl rfl rfl).q) (fun a w hF hW => ?_)
        refine l_store (vs := [.int .i64 p0.1, .int .i64 p0.2.2.2.1, .bool false, .int .i64 0, .int .i64 0, .int .i64 0, .bool false, .bool false, .int .i64 0]) (M' := [(b3, [.int .i64 p0.1, .int .i64 p0.2.2.2.1, .bool false, .int .i64 0, .int .i64 0, .int .i64 0, .bool false, .bool false, .int .i64 0]), (b2, [.int .i64 p1.1, .int .i64 p1.2.1, .int .i64 p1.2.2.1, .int .i64 p1.2.2.2]), (b1, [.int .i64 p0.1, .int .i64 p0.2.1, .bool p0.2.2.1, .int .i64 p0.2.2.2.1, .int .i64 p0.2.2.2.2.1, .int .i64 p0.2.2.2.2.2.1, .bool p0.2.2.2.2.2.2.1, .bool p0.2.2.2.2.2.2.2.1, .int .i64 p0.2.2.2.2.2.2.2.2])]) 0 hF hW rfl rfl rfl T28 rfl rfl rfl rfl rfl (fun w hW => ?_)
        refine ls hF hW rfl ((y_assign hF rfl).q) (fun a w hF hW => ?_)
        refine ls_nil (c_then ?_)
        refine wr_ret ?_
        refine r_block ?_
        refine r_then ?_
        have H := L1 _ H
        have H := Option.some.inj H
        subst H
        refine post2 (.inl rfl) hF hW rfl (rv_cell 0 hF rfl rfl T28 rfl) (rv_tmp hF rfl) ?_
        exact ⟨rfl, hW.done⟩
       ·
        have H := iteF (of_decide_eq_false hb) H
        rw [hb] at hF
        clear hb
        refine c_seq (reg_list ?_)
        refine ls hF hW rfl ((y_eql hF rfl rfl).q) (fun a w hF hW => ?_)
        refine ls hF hW rfl ((y_assign hF rfl).q) (fun a w hF hW => ?_)
        refine ls_nil (c_then ?_)
        refine c_cond hF rfl (fun hb => ?_) (fun hb => ?_)
        ·
         have H := iteT (of_decide_eq_true hb) H
         rw [hb] at hF
         clear hb
         refine c_seq (reg_list ?_)
         refine ls hF hW rfl ((y_fieldAddr u28_ rfl rfl rfl T3 hF rfl 0 rfl).q) (fun a w hF hW => ?_)
         refine ls hF hW rfl ((y_load (v := Value.int .i64 p0.1) 2 hF rfl rfl T3 rfl).q) (fun a w hF hW => ?_)
         refine ls hF hW rfl ((y_fieldAddr u28_ rfl rfl rfl T3 hF rfl 1 rfl).q) (fun a w hF hW => ?_)
         refine ls hF hW rfl ((y_load (v := Value.int .i64 p0.2.1) 2 hF rfl rfl T3 rfl).q) (fun a w hF hW => ?_)
         refine ls hF hW rfl ((y_fieldAddr u34_ rfl rfl rfl T3 hF rfl 2 rfl).q) (fun a w hF hW => ?_)
         refine ls hF hW rfl ((y_load (v := Value.int .i64 p1.2.2.1) 1 hF rfl rfl T3 rfl).q) (fun a w hF hW => ?_)
         refine ls hF hW rfl ((y_build (v := Value.agg #[.int .i64 p0.1, .int .i64 p0.2.1, .bool false, .int .i64 0, .int .i64 0, .int .i64 0, .bool false, .bool false, .int .i64 p1.2.2.1]) B28 hF rfl rfl rfl).q) (fun a w hF hW => ?_)
         refine l_store (vs := [.int .i64 p0.1, .int .i64 p0.2.1, .bool false, .int .i64 0, .int .i64 0, .int .i64 0, .bool false, .bool false, .int .i64 p1.2.2.1]) (M' := [(b3, [.int .i64 p0.1, .int .i64 p0.2.1, .bool false, .int .i64 0, .int .i64 0, .int .i64 0, .bool false, .bool false, .int .i64 p1.2.2.1]), (b2, [.int .i64 p1.1, .int .i64 p1.2.1, .int .i64 p1.2.2.1, .int .i64 p1.2.2.2]), (b1, [.int .i64 p0.1, .int .i64 p0.2.1, .bool p0.2.2.1, .int .i64 p0.2.2.2.1, .int .i64 p0.2.2.2.2.1, .int .i64 p0.2.2.2.2.2.1, .bool p0.2.2.2.2.2.2.1, .bool p0.2.2.2.2.2.2.2.1, .int .i64 p0.2.2.2.2.2.2.2.2])]) 0 hF hW rfl rfl rfl T28 rfl rfl rfl rfl rfl (fun w hW => ?_)
         refine ls hF hW rfl ((y_assign hF rfl).q) (fun a w hF hW => ?_)
         refine ls_nil (c_then ?_)
         refine wr_ret ?_
         refine r_block ?_
         refine r_then ?_
         have H := L1 _ H
         have H := Option.some.inj H
         subst H
         refine post2 (.inl rfl) hF hW rfl (rv_cell 0 hF rfl rfl T28 rfl) (rv_tmp hF rfl) ?_
         exact ⟨rfl, hW.done⟩
        ·
         have H := iteF (of_decide_eq_false hb) H
         rw [hb] at hF
         clear hb
         refine c_seq (reg_list ?_)
         refine ls hF hW rfl ((y_eql hF rfl rfl).q) (fun a w hF hW => ?_)
         refine ls hF hW rfl ((y_assign hF rfl).q) (fun a w hF hW => ?_)
         refine ls_nil (c_then ?_)
         refine c_cond hF rfl (fun hb => ?_) (fun hb => ?_)
         ·
          have H := iteT (of_decide_eq_true hb) H
          rw [hb] at hF
          clear hb
          refine reg_tail 7 hW MO (by kernel_rfl) ?_
          refine qs hF rfl ((y_fieldAddr u28_ rfl rfl rfl T3 hF rfl 8 rfl).q) (fun a hF => ?_)
          refine qs hF rfl ((y_load (v := Value.int .i64 p0.2.2.2.2.2.2.2.2) 2 hF rfl rfl T3 rfl).q) (fun a hF => ?_)
          refine qs hF rfl ((y_fieldAddr u34_ rfl rfl rfl T3 hF rfl 2 rfl).q) (fun a hF => ?_)
          refine qs hF rfl ((y_load (v := Value.int .i64 p1.2.2.1) 1 hF rfl rfl T3 rfl).q) (fun a hF => ?_)
          obtain ⟨x6, h2, H⟩ := bindE H
          refine qs hF rfl ((y_shc (shN_some h2).2 (y_shl hF rfl rfl (shN_some h2).1)).q) (fun a hF => ?_)
          refine qs hF rfl ((y_andNot hF rfl rfl).q) (fun a hF => ?_)
          refine qs hF rfl ((y_fieldAddr u28_ rfl rfl rfl T3 hF rfl 8 rfl).q) (fun a hF => ?_)
          refine quiet_end (fun w hW => ?_)
          refine l_store (vs := [.int .i64 (andNotI .i64 p0.2.2.2.2.2.2.2.2 x6)]) (M' := [(b3, [.int .i64 0, .int .i64 0, .bool false, .int .i64 0, .int .i64 0, .int .i64 0, .bool false, .bool false, .int .i64 0]), (b2, [.int .i64 p1.1, .int .i64 p1.2.1, .int .i64 p1.2.2.1, .int .i64 p1.2.2.2]), (b1, [.int .i64 p0.1, .int .i64 p0.2.1, .bool p0.2.2.1, .int .i64 p0.2.2.2.1, .int .i64 p0.2.2.2.2.1, .int .i64 p0.2.2.2.2.2.1, .bool p0.2.2.2.2.2.2.1, .bool p0.2.2.2.2.2.2.2.1, .int .i64 (andNotI .i64 p0.2.2.2.2.2.2.2.2 x6)])]) 2 hF hW rfl rfl rfl T3 rfl rfl rfl rfl rfl (fun w hW => ?_)
          refine ls_nil ?_
          refine b_normal ?_
          refine c_then ?_
          have hW := hW.frontM (i := 2) rfl rfl
          have hW := hW.frontM (i := 2) rfl rfl
          have hW := hW.frontM (i := 2) rfl rfl
          exact ⟨_, _, _, _, H, hF.re ⟨rfl, rfl, rfl, trivial⟩, hW⟩
         ·
          have H := iteF (of_decide_eq_false hb) H
          rw [hb] at hF
          clear hb
          refine wr_skip ?_
          refine b_normal ?_
          refine c_then ?_
          have hW := hW.frontM (i := 2) rfl rfl
          have hW := hW.frontM (i := 2) rfl rfl
          have hW := hW.frontM (i := 2) rfl rfl
          exact ⟨_, _, _, _, H, hF.re ⟨rfl, rfl, rfl, trivial⟩, hW⟩
  rintro a w ⟨x2, x3, x4, x5, hj, hF, hW⟩
  have H := K1 _ hj
  clear hj G1 K1 L1
  refine c_seq (reg_list ?_)
  refine ls hF hW rfl ((y_load (v := Value.agg #[.int .i64 p0.1, .int .i64 p0.2.1, .bool p0.2.2.1, .int .i64 p0.2.2.2.1, .int .i64 p0.2.2.2.2.1, .int .i64 x2, .bool x3, .bool x4, .int .i64 x5]) 2 hF rfl rfl T28 rfl).q) (fun a w hF hW => ?_)
  refine l_store (vs := [.int .i64 p0.1, .int .i64 p0.2.1, .bool p0.2.2.1, .int .i64 p0.2.2.2.1, .int .i64 p0.2.2.2.2.1, .int .i64 x2, .bool x3, .bool x4, .int .i64 x5]) (M' := [(b3, [.int .i64 p0.1, .int .i64 p0.2.1, .bool p0.2.2.1, .int .i64 p0.2.2.2.1, .int .i64 p0.2.2.2.2.1, .int .i64 x2, .bool x3, .bool x4, .int .i64 x5]), (b2, [.int .i64 p1.1, .int .i64 p1.2.1, .int .i64 p1.2.2.1, .int .i64 p1.2.2.2]), (b1, [.int .i64 p0.1, .int .i64 p0.2.1, .bool p0.2.2.1, .int .i64 p0.2.2.2.1, .int .i64 p0.2.2.2.2.1, .int .i64 x2, .bool x3, .bool x4, .int .i64 x5])]) 0 hF hW rfl rfl rfl T28 rfl rfl rfl rfl rfl (fun w hW => ?_)
  refine ls hF hW rfl ((y_assign hF rfl).q) (fun a w hF hW => ?_)
  refine ls_nil (c_then ?_)
  refine wr_ret ?_
  have H := Option.some.inj H
  subst H
  refine post2 (.inl rfl) hF hW rfl (rv_cell 0 hF rfl rfl T28 rfl) (rv_tmp hF rfl) ?_
  exact ⟨rfl, hW.done⟩

theorem H8 : Has Tryd.prog 8 := ⟨fun args w => run_callFunc_body Tryd.func8 rfl (by decide) args w⟩
noncomputable def journal_Replay_l1 (p0 : List (Int × Int × Int × Int)) : (Int × Int × Int × Bool × Int × Int × Int × Bool × Bool × Int) → Option ((Int × Int × Int × Bool × Int × Int × Int × Bool × Bool × Int) ⊕ ((Int × Int × Bool × Int × Int × Int × Bool × Bool × Int) ⊕ ((Int × Int × Bool × Int × Int × Int × Bool × Bool × Int) × Int × Int)))
  | (x10, x11, x12, x13, x14, x15, x16, x17, x18, x19) => (if x10 < (p0.length : Int) then (ix p0 x10).bind fun x20 => (journal_Next (x11, x12, x13, x14, x15, x16, x17, x18, x19) x20).bind fun x21 => (if x21.2 ≠ 0 then some (.inr (.inr ((x11, x12, x13, x14, x15, x16, x17, x18, x19), x10, x21.2))) else some (.inl (w64 (x10 + 1), x21.1.1, x21.1.2.1, x21.1.2.2.1, x21.1.2.2.2.1, x21.1.2.2.2.2.1, x21.1.2.2.2.2.2.1, x21.1.2.2.2.2.2.2.1, x21.1.2.2.2.2.2.2.2.1, x21.1.2.2.2.2.2.2.2.2))) else some (.inr (.inl (x11, x12, x13, x14, x15, x16, x17, x18, x19))))
noncomputable def journal_Replay (p0 : List (Int × Int × Int × Int)) : Option ((Int × Int × Bool × Int × Int × Int × Bool × Bool × Int) × Int × Int) := orR (loopW (journal_Replay_l1 p0) (0, 0, 0, false, 0, 0, 0, false, false, 0)) fun (x1, x2, x3, x4, x5, x6, x7, x8, x9) => some ((x1, x2, x3, x4, x5, x6, x7, x8, x9), (p0.length : Int), 0)
theorem journal_Replay_c (Y : Nat → Prop) (w0 : World) (v1 : Value) (p0 : List (Int × Int × Int × Int)) (r : (Int × Int × Bool × Int × Int × Int × Bool × Bool × Int) × Int × Int) (H : journal_Replay p0 = some r) (h_v1 : Sl w0 (NX []) R34 v1 p0) :
    Calls Tryd.prog 11 #[v1] w0 fun e w' => e = .returned (.tuple #[.agg #[.int .i64 r.1.1, .int .i64 r.1.2.1, .bool r.1.2.2.1, .int .i64 r.1.2.2.2.1, .int .i64 r.1.2.2.2.2.1, .int .i64 r.1.2.2.2.2.2.1, .bool r.1.2.2.2.2.2.2.1, .bool r.1.2.2.2.2.2.2.2.1, .int .i64 r.1.2.2.2.2.2.2.2.2], .int .i64 r.2.1, .int .i64 r.2.2]) ∧ Below w0.heap.size w0 w' := by
 refine enter Tryd.func11 rfl Tryd.ntmps11 rfl (fun a hF => ?_)
 have hW := Stw.start Y w0
 unfold journal_Replay at H
 refine c_seq (reg_list ?_)
 refine l_alloc (cs := [.int .i64 0, .int .i64 0, .bool false, .int .i64 0, .int .i64 0, .int .i64 0, .bool false, .bool false, .int .i64 0]) hF hW rfl Z28 rfl (fun b1 a w hF hW => ?_)
 iterate 2 refine ls hF hW rfl ((y_assign hF rfl).q) (fun a w hF hW => ?_)
 refine ls_nil (c_then ?_)
 refine c_seq (reg_list ?_)
 refine ls hF hW rfl ((y_build (v := Value.agg #[.int .i64 0, .int .i64 0, .bool false, .int .i64 0, .int .i64 0, .int .i64 0, .bool false, .bool false, .int .i64 0]) B28 hF rfl rfl rfl).q) (fun a w hF hW => ?_)
 refine l_alloc (cs := [.int .i64 0, .int .i64 0, .bool false, .int .i64 0, .int .i64 0, .int .i64 0, .bool false, .bool false, .int .i64 0]) hF hW rfl Z28 rfl (fun b2 a w hF hW => ?_)
 refine l_store (vs := [.int .i64 0, .int .i64 0, .bool false, .int .i64 0, .int .i64 0, .int .i64 0, .bool false, .bool false, .int .i64 0]) (M' := [(b2, [.int .i64 0, .int .i64 0, .bool false, .int .i64 0, .int .i64 0, .int .i64 0, .bool false, .bool false, .int .i64 0]), (b1, [.int .i64 0, .int .i64 0, .bool false, .int .i64 0, .int .i64 0, .int .i64 0, .bool false, .bool false, .int .i64 0])]) 0 hF hW rfl rfl rfl T28 rfl rfl rfl rfl rfl (fun w hW => ?_)
 refine ls_nil (c_then ?_)
 obtain ⟨o1, G1, K1, L1⟩ := orE H
 refine c_seqJ (fun a w => ∃ x1 : Int, ∃ x2 : Int, ∃ x3 : Bool, ∃ x4 : Int, ∃ x5 : Int, ∃ x6 : Int, ∃ x7 : Bool, ∃ x8 : Bool, ∃ x9 : Int, some (Sum.inl (x1, x2, x3, x4, x5, x6, x7, x8, x9)) = some o1 ∧ Fr 34 [] [(0, v1), (2, .pointer (some ⟨b1, 0, none⟩)), (3, .int .i64 0), (4, .int .i64 0), (5, .pointer (some ⟨b2, 0, none⟩))] a ∧ Stw ⟨Y, [], w0⟩ [(b2, [.int .i64 x1, .int .i64 x2, .bool x3, .int .i64 x4, .int .i64 x5, .int .i64 x6, .bool x7, .bool x8, .int .i64 x9]), (b1, [.int .i64 0, .int .i64 0, .bool false, .int .i64 0, .int .i64 0, .int .i64 0, .bool false, .bool false, .int .i64 0])] [] w) ?_ ?_
 ·
  have H := G1
  clear G1 K1
  refine c_seq (reg_list ?_)
  refine ls hF hW rfl ((y_move hF rfl).q) (fun a w hF hW => ?_)
  refine ls hF hW rfl ((y_len (r := R34) (l := p0) u24_ rfl hF rfl (rdc_ro h_v1)).q) (fun a w hF hW => ?_)
  refine ls hF hW rfl ((y_move hF rfl).q) (fun a w hF hW => ?_)
  refine ls_nil (c_then ?_)
  refine wr_block ?_
  have hW := hW.frontM (i := 1) rfl rfl
  have hW := hW.frontM (i := 1) rfl rfl
  refine c_loopW H (fun s a w => Fr 34 [] [(0, v1), (2, .pointer (some ⟨b1, 0, none⟩)), (3, .int .i64 0), (4, .int .i64 0), (5, .pointer (some ⟨b2, 0, none⟩)), (11, v1), (12, .int .i64 (p0.length : Int)), (13, .int .i64 s.1)] a ∧ Stw ⟨Y, [], w0⟩ [(b2, [.int .i64 s.2.1, .int .i64 s.2.2.1, .bool s.2.2.2.1, .int .i64 s.2.2.2.2.1, .int .i64 s.2.2.2.2.2.1, .int .i64 s.2.2.2.2.2.2.1, .bool s.2.2.2.2.2.2.2.1, .bool s.2.2.2.2.2.2.2.2.1, .int .i64 s.2.2.2.2.2.2.2.2.2]), (b1, [.int .i64 0, .int .i64 0, .bool false, .int .i64 0, .int .i64 0, .int .i64 0, .bool false, .bool false, .int .i64 0])] [] w) ⟨hF.re ⟨rfl, rfl, rfl, rfl, rfl, rfl, rfl, rfl, trivial⟩, hW⟩ (fun s o a w H L2 hR => ?_)
  obtain ⟨x10, x11, x12, x13, x14, x15, x16, x17, x18, x19⟩ := s
  obtain ⟨hF, hW⟩ := hR
  have hF : Fr 34 [] [(0, v1), (2, .pointer (some ⟨b1, 0, none⟩)), (3, .int .i64 0), (4, .int .i64 0), (5, .pointer (some ⟨b2, 0, none⟩)), (11, v1), (12, .int .i64 (p0.length : Int)), (13, .int .i64 x10)] a := hF
  have hW : Stw ⟨Y, [], w0⟩ [(b2, [.int .i64 x11, .int .i64 x12, .bool x13, .int .i64 x14, .int .i64 x15, .int .i64 x16, .bool x17, .bool x18, .int .i64 x19]), (b1, [.int .i64 0, .int .i64 0, .bool false, .int .i64 0, .int .i64 0, .int .i64 0, .bool false, .bool false, .int .i64 0])] [] w := hW
  rw [journal_Replay_l1] at H
  refine c_seq (reg_list ?_)
  refine ls hF hW rfl ((y_lss hF rfl rfl).q) (fun a w hF hW => ?_)
  refine ls_nil (c_then ?_)
  refine c_seq ?_
  refine c_cond hF rfl (fun hb => ?_) (fun hb => ?_)
  ·
   have H := iteT (of_decide_eq_true hb) H
   rw [hb] at hF
   clear hb
   refine wr_skip ?_
   refine c_then ?_
   refine c_seq ?_
   refine wr_block ?_
   refine c_seq (reg_list ?_)
   refine ls hF hW rfl ((y_move hF rfl).q) (fun a w hF hW => ?_)
   obtain ⟨x20, h1, H⟩ := bindE H
   refine ls hF hW rfl ((y_index (r := R34) L24 hF rfl rfl (rdc_ro h_v1) h1).q) (fun a w hF hW => ?_)
   refine ls hF hW rfl ((y_load_el (y := Value.agg #[.int .i64 x20.1, .int .i64 x20.2.1, .int .i64 x20.2.2.1, .int .i64 x20.2.2.2]) (j := 0) (i := x10) hF rfl rfl (rdc_ro h_v1) h1 F34.to T34 rfl).q) (fun a w hF hW => ?_)
   refine l_alloc (cs := [.int .i64 0, .int .i64 0, .int .i64 0, .int .i64 0]) hF hW rfl Z34 rfl (fun b3 a w hF hW => ?_)
   refine ls hF hW rfl ((y_assign hF rfl).q) (fun a w hF hW => ?_)
   refine l_store (vs := [.int .i64 x20.1, .int .i64 x20.2.1, .int .i64 x20.2.2.1, .int .i64 x20.2.2.2]) (M' := [(b3, [.int .i64 x20.1, .int .i64 x20.2.1, .int .i64 x20.2.2.1, .int .i64 x20.2.2.2]), (b2, [.int .i64 x11, .int .i64 x12, .bool x13, .int .i64 x14, .int .i64 x15, .int .i64 x16, .bool x17, .bool x18, .int .i64 x19]), (b1, [.int .i64 0, .int .i64 0, .bool false, .int .i64 0, .int .i64 0, .int .i64 0, .bool false, .bool false, .int .i64 0])]) 0 hF hW rfl rfl rfl T34 rfl rfl rfl rfl rfl (fun w hW => ?_)
   refine ls_nil (c_then ?_)
   refine c_seq (reg_list ?_)
   refine ls hF hW rfl ((y_load (v := Value.agg #[.int .i64 x11, .int .i64 x12, .bool x13, .int .i64 x14, .int .i64 x15, .int .i64 x16, .bool x17, .bool x18, .int .i64 x19]) 1 hF rfl rfl T28 rfl).q) (fun a w hF hW => ?_)
   refine ls hF hW rfl ((y_load (v := Value.agg #[.int .i64 x20.1, .int .i64 x20.2.1, .int .i64 x20.2.2.1, .int .i64 x20.2.2.2]) 0 hF rfl rfl T34 rfl).q) (fun a w hF hW => ?_)
   obtain ⟨x21, h2, H⟩ := bindE H
   refine ls hF hW rfl (y_call (v := Value.tuple #[.agg #[.int .i64 x21.1.1, .int .i64 x21.1.2.1, .bool x21.1.2.2.1, .int .i64 x21.1.2.2.2.1, .int .i64 x21.1.2.2.2.2.1, .int .i64 x21.1.2.2.2.2.2.1, .bool x21.1.2.2.2.2.2.2.1, .bool x21.1.2.2.2.2.2.2.2.1, .int .i64 x21.1.2.2.2.2.2.2.2.2], .int .i64 x21.2]) hF H8 rfl (fun w hW => journal_Next_c any w (x11, x12, x13, x14, x15, x16, x17, x18, x19) x20 _ h2)) (fun a w hF hW => ?_)
   refine ls hF hW rfl ((y_move hF rfl).q) (fun a w hF hW => ?_)
   refine ls hF hW rfl ((y_extract (v := Value.agg #[.int .i64 x21.1.1, .int .i64 x21.1.2.1, .bool x21.1.2.2.1, .int .i64 x21.1.2.2.2.1, .int .i64 x21.1.2.2.2.2.1, .int .i64 x21.1.2.2.2.2.2.1, .bool x21.1.2.2.2.2.2.2.1, .bool x21.1.2.2.2.2.2.2.2.1, .int .i64 x21.1.2.2.2.2.2.2.2.2]) hF rfl rfl).q) (fun a w hF hW => ?_)
   refine ls hF hW rfl ((y_extract (v := Value.int .i64 x21.2) hF rfl rfl).q) (fun a w hF hW => ?_)
   refine l_alloc (cs := [.int .i64 0, .int .i64 0, .bool false, .int .i64 0, .int .i64 0, .int .i64 0, .bool false, .bool false, .int .i64 0]) hF hW rfl Z28 rfl (fun b4 a w hF hW => ?_)
   refine l_store (vs := [.int .i64 x21.1.1, .int .i64 x21.1.2.1, .bool x21.1.2.2.1, .int .i64 x21.1.2.2.2.1, .int .i64 x21.1.2.2.2.2.1, .int .i64 x21.1.2.2.2.2.2.1, .bool x21.1.2.2.2.2.2.2.1, .bool x21.1.2.2.2.2.2.2.2.1, .int .i64 x21.1.2.2.2.2.2.2.2.2]) (M' := [(b4, [.int .i64 x21.1.1, .int .i64 x21.1.2.1, .bool x21.1.2.2.1, .int .i64 x21.1.2.2.2.1, .int .i64 x21.1.2.2.2.2.1, .int .i64 x21.1.2.2.2.2.2.1, .bool x21.1.2.2.2.2.2.2.1, .bool x21.1.2.2.2.2.2.2.2.1, .int .i64 x21.1.2.2.2.2.2.2.2.2]), (b3, [.int .i64 x20.1, .int .i64 x20.2.1, .int .i64 x20.2.2.1, .int .i64 x20.2.2.2]), (b2, [.int .i64 x11, .int .i64 x12, .bool x13, .int .i64 x14, .int .i64 x15, .int .i64 x16, .bool x17, .bool x18, .int .i64 x19]), (b1, [.int .i64 0, .int .i64 0, .bool false, .int .i64 0, .int .i64 0, .int .i64 0, .bool false, .bool false, .int .i64 0])]) 0 hF hW rfl rfl rfl T28 rfl rfl rfl rfl rfl (fun w hW => ?_)
   refine ls hF hW rfl ((y_assign hF rfl).q) (fun a w hF hW => ?_)
   refine ls_nil (c_then ?_)
   refine c_seq ?_
   refine c_seq (reg_list ?_)
   refine ls hF hW rfl ((y_move hF rfl).q) (fun a w hF hW => ?_)
   refine ls hF hW rfl ((y_neq hF rfl rfl).q) (fun a w hF hW => ?_)
   refine ls_nil (c_then ?_)
   refine c_cond hF rfl (fun hb => ?_) (fun hb => ?_)
   ·
    have H := iteT (of_decide_eq_true hb) H
    rw [hb] at hF
    clear hb
    refine c_seq (reg_list ?_)
    refine ls hF hW rfl ((y_load (v := Value.agg #[.int .i64 x11, .int .i64 x12, .bool x13, .int .i64 x14, .int .i64 x15, .int .i64 x16, .bool x17, .bool x18, .int .i64 x19]) 2 hF rfl rfl T28 rfl).q) (fun a w hF hW => ?_)
    iterate 2 refine ls hF hW rfl ((y_move hF rfl).q) (fun a w hF hW => ?_)
    refine l_store (vs := [.int .i64 x11, .int .i64 x12, .bool x13, .int .i64 x14, .int .i64 x15, .int .i64 x16, .bool x17, .bool x18, .int .i64 x19]) (M' := [(b4, [.int .i64 x21.1.1, .int .i64 x21.1.2.1, .bool x21.1.2.2.1, .int .i64 x21.1.2.2.2.1, .int .i64 x21.1.2.2.2.2.1, .int .i64 x21.1.2.2.2.2.2.1, .bool x21.1.2.2.2.2.2.2.1, .bool x21.1.2.2.2.2.2.2.2.1, .int .i64 x21.1.2.2.2.2.2.2.2.2]), (b3, [.int .i64 x20.1, .int .i64 x20.2.1, .int .i64 x20.2.2.1, .int .i64 x20.2.2.2]), (b2, [.int .i64 x11, .int .i64 x12, .bool x13, .int .i64 x14, .int .i64 x15, .int .i64 x16, .bool x17, .bool x18, .int .i64 x19]), (b1, [.int .i64 x11, .int .i64 x12, .bool x13, .int .i64 x14, .int .i64 x15, .int .i64 x16, .bool x17, .bool x18, .int .i64 x19])]) 3 hF hW rfl rfl rfl T28 rfl rfl rfl rfl rfl (fun w hW => ?_)
    iterate 2 refine ls hF hW rfl ((y_assign hF rfl).q) (fun a w hF hW => ?_)
    refine ls_nil (c_then ?_)
    refine wr_ret ?_
    refine r_then ?_
    refine r_block ?_
    iterate 2 refine r_then ?_
    refine r_block ?_
    refine r_then ?_
    have H := L2 _ H
    have H := L1 _ H
    have H := Option.some.inj H
    subst H
    refine post3 (.inl rfl) hF hW rfl (rv_cell 3 hF rfl rfl T28 rfl) (rv_tmp hF rfl) (rv_tmp hF rfl) ?_
    exact ⟨rfl, hW.done⟩
   ·
    have H := iteF (of_decide_eq_false hb) H
    rw [hb] at hF
    clear hb
    refine wr_skip ?_
    refine c_then ?_
    refine reg_list ?_
    refine ls hF hW rfl ((y_load (v := Value.agg #[.int .i64 x21.1.1, .int .i64 x21.1.2.1, .bool x21.1.2.2.1, .int .i64 x21.1.2.2.2.1, .int .i64 x21.1.2.2.2.2.1, .int .i64 x21.1.2.2.2.2.2.1, .bool x21.1.2.2.2.2.2.2.1, .bool x21.1.2.2.2.2.2.2.2.1, .int .i64 x21.1.2.2.2.2.2.2.2.2]) 0 hF rfl rfl T28 rfl).q) (fun a w hF hW => ?_)
    refine l_store (vs := [.int .i64 x21.1.1, .int .i64 x21.1.2.1, .bool x21.1.2.2.1, .int .i64 x21.1.2.2.2.1, .int .i64 x21.1.2.2.2.2.1, .int .i64 x21.1.2.2.2.2.2.1, .bool x21.1.2.2.2.2.2.2.1, .bool x21.1.2.2.2.2.2.2.2.1, .int .i64 x21.1.2.2.2.2.2.2.2.2]) (M' := [(b4, [.int .i64 x21.1.1, .int .i64 x21.1.2.1, .bool x21.1.2.2.1, .int .i64 x21.1.2.2.2.1, .int .i64 x21.1.2.2.2.2.1, .int .i64 x21.1.2.2.2.2.2.1, .bool x21.1.2.2.2.2.2.2.1, .bool x21.1.2.2.2.2.2.2.2.1, .int .i64 x21.1.2.2.2.2.2.2.2.2]), (b3, [.int .i64 x20.1, .int .i64 x20.2.1, .int .i64 x20.2.2.1, .int .i64 x20.2.2.2]), (b2, [.int .i64 x21.1.1, .int .i64 x21.1.2.1, .bool x21.1.2.2.1, .int .i64 x21.1.2.2.2.1, .int .i64 x21.1.2.2.2.2.1, .int .i64 x21.1.2.2.2.2.2.1, .bool x21.1.2.2.2.2.2.2.1, .bool x21.1.2.2.2.2.2.2.2.1, .int .i64 x21.1.2.2.2.2.2.2.2.2]), (b1, [.int .i64 0, .int .i64 0, .bool false, .int .i64 0, .int .i64 0, .int .i64 0, .bool false, .bool false, .int .i64 0])]) 2 hF hW rfl rfl rfl T28 rfl rfl rfl rfl rfl (fun w hW => ?_)
    refine ls_nil ?_
    refine b_normal ?_
    refine c_then ?_
    refine reg_list ?_
    refine ls hF hW rfl ((y_add hF rfl rfl rfl).q) (fun a w hF hW => ?_)
    refine ls hF hW rfl ((y_move hF rfl).q) (fun a w hF hW => ?_)
    refine ls_nil (c_then ?_)
    have hW := hW.frontM (i := 3) rfl rfl
    have hW := hW.frontM (i := 3) rfl rfl
    have hW := hW.sub (M' := [(b2, [.int .i64 x21.1.1, .int .i64 x21.1.2.1, .bool x21.1.2.2.1, .int .i64 x21.1.2.2.2.1, .int .i64 x21.1.2.2.2.2.1, .int .i64 x21.1.2.2.2.2.2.1, .bool x21.1.2.2.2.2.2.2.1, .bool x21.1.2.2.2.2.2.2.2.1, .int .i64 x21.1.2.2.2.2.2.2.2.2]), (b1, [.int .i64 0, .int .i64 0, .bool false, .int .i64 0, .int .i64 0, .int .i64 0, .bool false, .bool false, .int .i64 0])]) (Z' := []) (List.Sublist.cons_cons _ (List.Sublist.cons_cons _ (List.nil_sublist _))) (List.Sublist.refl _)
    exact ⟨_, H, hF.re ⟨rfl, rfl, rfl, rfl, rfl, rfl, rfl, rfl, trivial⟩, hW⟩
  ·
   have H := iteF (of_decide_eq_false hb) H
   rw [hb] at hF
   clear hb
   refine wr_exit ?_
   iterate 2 refine e_then ?_
   refine e_block ?_
   refine c_then ?_
   have hW := hW.frontM (i := 1) rfl rfl
   have hW := hW.frontM (i := 1) rfl rfl
   have H := L2 _ H
   exact ⟨_, _, _, _, _, _, _, _, _, H, hF.re ⟨rfl, rfl, rfl, rfl, rfl, trivial⟩, hW⟩
 rintro a w ⟨x1, x2, x3, x4, x5, x6, x7, x8, x9, hj, hF, hW⟩
 have H := K1 _ hj
 clear hj G1 K1 L1
 refine c_seq (reg_list ?_)
 refine ls hF hW rfl ((y_load (v := Value.agg #[.int .i64 x1, .int .i64 x2, .bool x3, .int .i64 x4, .int .i64 x5, .int .i64 x6, .bool x7, .bool x8, .int .i64 x9]) 0 hF rfl rfl T28 rfl).q) (fun a w hF hW => ?_)
 refine ls hF hW rfl ((y_move hF rfl).q) (fun a w hF hW => ?_)
 refine ls hF hW rfl ((y_len (r := R34) (l := p0) u24_ rfl hF rfl (rdc_ro h_v1)).q) (fun a w hF hW => ?_)
 refine l_store (vs := [.int .i64 x1, .int .i64 x2, .bool x3, .int .i64 x4, .int .i64 x5, .int .i64 x6, .bool x7, .bool x8, .int .i64 x9]) (M' := [(b2, [.int .i64 x1, .int .i64 x2, .bool x3, .int .i64 x4, .int .i64 x5, .int .i64 x6, .bool x7, .bool x8, .int .i64 x9]), (b1, [.int .i64 x1, .int .i64 x2, .bool x3, .int .i64 x4, .int .i64 x5, .int .i64 x6, .bool x7, .bool x8, .int .i64 x9])]) 1 hF hW rfl rfl rfl T28 rfl rfl rfl rfl rfl (fun w hW => ?_)
 iterate 2 refine ls hF hW rfl ((y_assign hF rfl).q) (fun a w hF hW => ?_)
 refine ls_nil (c_then ?_)
 refine wr_ret ?_
 have H := Option.some.inj H
 subst H
 refine post3 (.inl rfl) hF hW rfl (rv_cell 1 hF rfl rfl T28 rfl) (rv_tmp hF rfl) (rv_tmp hF rfl) ?_
 exact ⟨rfl, hW.done⟩

theorem u3_ : type_of% Tryd.underlying3 := Tryd.underlying3
theorem u58_ : type_of% Tryd.underlying58 := Tryd.underlying58
theorem H11 : Has Tryd.prog 11 := ⟨fun args w => run_callFunc_body Tryd.func11 rfl (by decide) args w⟩
theorem QD28 (dd : Nat) (x0 : Int) (x1 : Int) (x2 : Bool) (x3 : Int) (x4 : Int) (x5 : Int) (x6 : Bool) (x7 : Bool) (x8 : Int) (y0 : Int) (y1 : Int) (y2 : Bool) (y3 : Int) (y4 : Int) (y5 : Int) (y6 : Bool) (y7 : Bool) (y8 : Int) (w : World) : (Op.equalIn (dd + 2) 28 (.agg #[.int .i64 x0, .int .i64 x1, .bool x2, .int .i64 x3, .int .i64 x4, .int .i64 x5, .bool x6, .bool x7, .int .i64 x8]) (.agg #[.int .i64 y0, .int .i64 y1, .bool y2, .int .i64 y3, .int .i64 y4, .int .i64 y5, .bool y6, .bool y7, .int .i64 y8])).run Tryd.prog w = .ok (decide (x0 = y0 ∧ x1 = y1 ∧ x2 = y2 ∧ x3 = y3 ∧ x4 = y4 ∧ x5 = y5 ∧ x6 = y6 ∧ x7 = y7 ∧ x8 = y8)) w :=
  eq_struct (d := dd + 1) (rs := [decide (x0 = y0), decide (x1 = y1), decide (x2 = y2), decide (x3 = y3), decide (x4 = y4), decide (x5 = y5), decide (x6 = y6), decide (x7 = y7), decide (x8 = y8)]) u28_ (by kernel_rfl) ⟨rfl, fld_int (d := dd + 0) rfl rfl u3_ T3 rfl rfl, rfl, fld_int (d := dd + 0) rfl rfl u3_ T3 rfl rfl, rfl, fld_bool (d := dd + 0) rfl rfl u4_ T4 rfl rfl, rfl, fld_int (d := dd + 0) rfl rfl u3_ T3 rfl rfl, rfl, fld_int (d := dd + 0) rfl rfl u3_ T3 rfl rfl, rfl, fld_int (d := dd + 0) rfl rfl u3_ T3 rfl rfl, rfl, fld_bool (d := dd + 0) rfl rfl u4_ T4 rfl rfl, rfl, fld_bool (d := dd + 0) rfl rfl u4_ T4 rfl rfl, rfl, fld_int (d := dd + 0) rfl rfl u3_ T3 rfl rfl, trivial⟩ (by simp) w
theorem G28 : Tryd.prog.eqGuardType Tryd.prog.depth 28 = false := by kernel_rfl
theorem Q28 (x0 : Int) (x1 : Int) (x2 : Bool) (x3 : Int) (x4 : Int) (x5 : Int) (x6 : Bool) (x7 : Bool) (x8 : Int) (y0 : Int) (y1 : Int) (y2 : Bool) (y3 : Int) (y4 : Int) (y5 : Int) (y6 : Bool) (y7 : Bool) (y8 : Int) (w : World) : (Op.equalIn 10000 28 (.agg #[.int .i64 x0, .int .i64 x1, .bool x2, .int .i64 x3, .int .i64 x4, .int .i64 x5, .bool x6, .bool x7, .int .i64 x8]) (.agg #[.int .i64 y0, .int .i64 y1, .bool y2, .int .i64 y3, .int .i64 y4, .int .i64 y5, .bool y6, .bool y7, .int .i64 y8])).run Tryd.prog w = .ok (decide (x0 = y0 ∧ x1 = y1 ∧ x2 = y2 ∧ x3 = y3 ∧ x4 = y4 ∧ x5 = y5 ∧ x6 = y6 ∧ x7 = y7 ∧ x8 = y8)) w := QD28 9998 x0 x1 x2 x3 x4 x5 x6 x7 x8 y0 y1 y2 y3 y4 y5 y6 y7 y8 w
theorem Z58 : (Tryd.prog.info? 58).bind (·.zero) = some (.agg #[.bool false, .bool false, .bool false, .bool false, .bool false, .bool false, .bool false, .bool false]) := by kernel_rfl
theorem Ar58 : Ar Tryd.prog 58 8 4 1 := ⟨u58_, by kernel_rfl⟩
noncomputable def journal_Fate_l1 (p0 : List (Int × Int × Int × Int)) (p1 : Int) : (Int × Bool × Bool × Bool × Bool × Bool × Bool × Bool × Bool) → Option ((Int × Bool × Bool × Bool × Bool × Bool × Bool × Bool × Bool) ⊕ (Bool × Bool × Bool × Bool × Bool × Bool × Bool × Bool))
  | (x9, x10, x11, x12, x13, x14, x15, x16, x17) => (if x9 < (p0.length : Int) then ((ix p0 x9).bind fun x26 => (if (decide (x26.2.1 = p1) && (decide (1 ≤ x26.1) && decide (x26.1 ≤ 7))) = true then (ix ([x10, x11, x12, x13, x14, x15, x16, x17] : List Bool) x26.1).bind fun x27 => some ((if x26.1 = 0 then true else x10), (if x26.1 = 1 then true else x11), (if x26.1 = 2 then true else x12), (if x26.1 = 3 then true else x13), (if x26.1 = 4 then true else x14), (if x26.1 = 5 then true else x15), (if x26.1 = 6 then true else x16), (if x26.1 = 7 then true else x17)) else some (x10, x11, x12, x13, x14, x15, x16, x17))).bind fun (x18, x19, x20, x21, x22, x23, x24, x25) => some (.inl (w64 (x9 + 1), x18, x19, x20, x21, x22, x23, x24, x25)) else some (.inr (x10, x11, x12, x13, x14, x15, x16, x17)))
noncomputable def journal_Fate (p0 : List (Int × Int × Int × Int)) (p1 : Int) : Option Int := (loopW (journal_Fate_l1 p0 p1) (0, false, false, false, false, false, false, false, false)).bind fun (x1, x2, x3, x4, x5, x6, x7, x8) => (if (!x2) = true then some 0 else (if x6 = true then some 2 else (if x7 = true then some 3 else some 1)))
theorem journal_Fate_c (Y : Nat → Prop) (w0 : World) (v1 : Value) (p0 : List (Int × Int × Int × Int)) (p1 : Int) (r : Int) (H : journal_Fate p0 p1 = some r) (h_v1 : Sl w0 (NX []) R34 v1 p0) :
    Calls Tryd.prog 13 #[v1, .int .i64 p1] w0 fun e w' => e = .returned (.int .i64 r) ∧ Below w0.heap.size w0 w' := by
 refine enter Tryd.func13 rfl Tryd.ntmps13 rfl (fun a hF => ?_)
 have hW := Stw.start Y w0
 unfold journal_Fate at H
 refine c_seq (reg_list ?_)
 refine ls hF hW rfl ((y_assign hF rfl).q) (fun a w hF hW => ?_)
 refine ls_nil (c_then ?_)
 refine c_seq (reg_list ?_)
 refine l_alloc (cs := [.bool false, .bool false, .bool false, .bool false, .bool false, .bool false, .bool false, .bool false]) hF hW rfl Z58 rfl (fun b1 a w hF hW => ?_)
 refine ls_nil (c_then ?_)
 obtain ⟨o1, G1, K1⟩ := bindE H
 refine c_seqJ (fun a w => ∃ x1 : Bool, ∃ x2 : Bool, ∃ x3 : Bool, ∃ x4 : Bool, ∃ x5 : Bool, ∃ x6 : Bool, ∃ x7 : Bool, ∃ x8 : Bool, some ((x1, x2, x3, x4, x5, x6, x7, x8)) = some o1 ∧ Fr 42 [] [(4, .int .i64 0), (5, .pointer (some ⟨b1, 0, none⟩))] a ∧ Stw ⟨Y, [], w0⟩ [(b1, [.bool x1, .bool x2, .bool x3, .bool x4, .bool x5, .bool x6, .bool x7, .bool x8])] [] w) ?_ ?_
 ·
  have H := G1
  clear G1 K1
  refine c_seq (reg_list ?_)
  refine ls hF hW rfl ((y_move hF rfl).q) (fun a w hF hW => ?_)
  refine ls hF hW rfl ((y_len (r := R34) (l := p0) u24_ rfl hF rfl (rdc_ro h_v1)).q) (fun a w hF hW => ?_)
  refine ls hF hW rfl ((y_move hF rfl).q) (fun a w hF hW => ?_)
  refine ls_nil (c_then ?_)
  refine wr_block ?_
  refine c_loopW H (fun s a w => Fr 42 [] [(1, .int .i64 p1), (4, .int .i64 0), (5, .pointer (some ⟨b1, 0, none⟩)), (8, v1), (9, .int .i64 (p0.length : Int)), (10, .int .i64 s.1)] a ∧ Stw ⟨Y, [], w0⟩ [(b1, [.bool s.2.1, .bool s.2.2.1, .bool s.2.2.2.1, .bool s.2.2.2.2.1, .bool s.2.2.2.2.2.1, .bool s.2.2.2.2.2.2.1, .bool s.2.2.2.2.2.2.2.1, .bool s.2.2.2.2.2.2.2.2])] [] w) ⟨hF.re ⟨rfl, rfl, rfl, rfl, rfl, rfl, trivial⟩, hW⟩ (fun s o a w H L2 hR => ?_)
  obtain ⟨x9, x10, x11, x12, x13, x14, x15, x16, x17⟩ := s
  obtain ⟨hF, hW⟩ := hR
  have hF : Fr 42 [] [(1, .int .i64 p1), (4, .int .i64 0), (5, .pointer (some ⟨b1, 0, none⟩)), (8, v1), (9, .int .i64 (p0.length : Int)), (10, .int .i64 x9)] a := hF
  have hW : Stw ⟨Y, [], w0⟩ [(b1, [.bool x10, .bool x11, .bool x12, .bool x13, .bool x14, .bool x15, .bool x16, .bool x17])] [] w := hW
  rw [journal_Fate_l1] at H
  refine c_seq (reg_list ?_)
  refine ls hF hW rfl ((y_lss hF rfl rfl).q) (fun a w hF hW => ?_)
  refine ls_nil (c_then ?_)
  refine c_seq ?_
  refine c_cond hF rfl (fun hb => ?_) (fun hb => ?_)
  ·
   have H := iteT (of_decide_eq_true hb) H
   rw [hb] at hF
   clear hb
   refine wr_skip ?_
   refine c_then ?_
   obtain ⟨o3, G3, K3⟩ := bindE H
   refine c_seqJ (fun a w => ∃ x18 : Bool, ∃ x19 : Bool, ∃ x20 : Bool, ∃ x21 : Bool, ∃ x22 : Bool, ∃ x23 : Bool, ∃ x24 : Bool, ∃ x25 : Bool, some ((x18, x19, x20, x21, x22, x23, x24, x25)) = some o3 ∧ Fr 42 [] [(1, .int .i64 p1), (4, .int .i64 0), (5, .pointer (some ⟨b1, 0, none⟩)), (8, v1), (9, .int .i64 (p0.length : Int)), (10, .int .i64 x9)] a ∧ Stw ⟨Y, [], w0⟩ [(b1, [.bool x18, .bool x19, .bool x20, .bool x21, .bool x22, .bool x23, .bool x24, .bool x25])] [] w) ?_ ?_
   ·
    have H := G3
    clear G3 K3
    refine wr_block ?_
    refine c_seq (reg_list ?_)
    obtain ⟨x26, h1, H⟩ := bindE H
    refine ls hF hW rfl ((y_index (r := R34) L24 hF rfl rfl (rdc_ro h_v1) h1).q) (fun a w hF hW => ?_)
    refine ls hF hW rfl ((y_load_el (y := Value.agg #[.int .i64 x26.1, .int .i64 x26.2.1, .int .i64 x26.2.2.1, .int .i64 x26.2.2.2]) (j := 0) (i := x9) hF rfl rfl (rdc_ro h_v1) h1 F34.to T34 rfl).q) (fun a w hF hW => ?_)
    refine l_alloc (cs := [.int .i64 0, .int .i64 0, .int .i64 0, .int .i64 0]) hF hW rfl Z34 rfl (fun b2 a w hF hW => ?_)
    refine l_store (vs := [.int .i64 x26.1, .int .i64 x26.2.1, .int .i64 x26.2.2.1, .int .i64 x26.2.2.2]) (M' := [(b2, [.int .i64 x26.1, .int .i64 x26.2.1, .int .i64 x26.2.2.1, .int .i64 x26.2.2.2]), (b1, [.bool x10, .bool x11, .bool x12, .bool x13, .bool x14, .bool x15, .bool x16, .bool x17])]) 0 hF hW rfl rfl rfl T34 rfl rfl rfl rfl rfl (fun w hW => ?_)
    refine ls_nil (c_then ?_)
    refine c_seqJ (fun a w => Fr 42 [] [(1, .int .i64 p1), (4, .int .i64 0), (5, .pointer (some ⟨b1, 0, none⟩)), (7, .pointer (some ⟨b2, 0, none⟩)), (8, v1), (9, .int .i64 (p0.length : Int)), (10, .int .i64 x9), (27, .bool (decide (x26.2.1 = p1) && (decide (1 ≤ x26.1) && decide (x26.1 ≤ 7))))] a ∧ Stw ⟨Y, [], w0⟩ [(b2, [.int .i64 x26.1, .int .i64 x26.2.1, .int .i64 x26.2.2.1, .int .i64 x26.2.2.2]), (b1, [.bool x10, .bool x11, .bool x12, .bool x13, .bool x14, .bool x15, .bool x16, .bool x17])] [] w) ?_ ?_
    ·
     refine reg_list ?_
     refine ls hF hW rfl ((y_fieldAddr u34_ rfl rfl rfl T3 hF rfl 1 rfl).q) (fun a w hF hW => ?_)
     refine ls hF hW rfl ((y_load (v := Value.int .i64 x26.2.1) 0 hF rfl rfl T3 rfl).q) (fun a w hF hW => ?_)
     refine ls hF hW rfl ((y_move hF rfl).q) (fun a w hF hW => ?_)
     refine ls hF hW rfl ((y_eql hF rfl rfl).q) (fun a w hF hW => ?_)
     refine ls hF hW rfl ((y_move hF rfl).q) (fun a w hF hW => ?_)
     rcases Bool.eq_false_or_eq_true (decide (x26.2.1 = p1)) with hb0 | hb0
     ·
      rw [hb0] at hF
      refine ls_w hF hW (wanted_y hF rfl rfl rfl rfl) rfl (Nat.le_of_ble_eq_true rfl) ((y_fieldAddr u34_ rfl rfl rfl T3 hF rfl 0 rfl).q) (fun a w hF hW => ?_)
      refine ls_w hF hW (wanted_y hF rfl rfl rfl rfl) rfl (Nat.le_of_ble_eq_true rfl) ((y_load (v := Value.int .i64 x26.1) 0 hF rfl rfl T3 rfl).q) (fun a w hF hW => ?_)
      refine ls_w hF hW (wanted_y hF rfl rfl rfl rfl) rfl (Nat.le_of_ble_eq_true rfl) ((y_geq hF rfl rfl).q) (fun a w hF hW => ?_)
      refine ls hF hW rfl ((y_pick_t hF rfl rfl rfl).q) (fun a w hF hW => ?_)
      refine ls hF hW rfl ((y_move hF rfl).q) (fun a w hF hW => ?_)
      rcases Bool.eq_false_or_eq_true (decide (1 ≤ x26.1)) with hb1 | hb1
      ·
       rw [hb1] at hF
       refine ls_w hF hW (wanted_y hF rfl rfl rfl rfl) rfl (Nat.le_of_ble_eq_true rfl) ((y_fieldAddr u34_ rfl rfl rfl T3 hF rfl 0 rfl).q) (fun a w hF hW => ?_)
       refine ls_w hF hW (wanted_y hF rfl rfl rfl rfl) rfl (Nat.le_of_ble_eq_true rfl) ((y_load (v := Value.int .i64 x26.1) 0 hF rfl rfl T3 rfl).q) (fun a w hF hW => ?_)
       refine ls_w hF hW (wanted_y hF rfl rfl rfl rfl) rfl (Nat.le_of_ble_eq_true rfl) ((y_leq hF rfl rfl).q) (fun a w hF hW => ?_)
       refine ls hF hW rfl ((y_pick_t hF rfl rfl rfl).q) (fun a w hF hW => ?_)
       refine ls_nil (c_then ?_)
       exact ⟨hF.re ⟨rfl, rfl, rfl, rfl, rfl, rfl, rfl, (by show some (Value.bool (decide (x26.1 ≤ 7))) = some (Value.bool (decide (x26.2.1 = p1) && (decide (1 ≤ x26.1) && decide (x26.1 ≤ 7)))); try rw [hb0]; try rw [hb1]; all_goals simp only [Bool.not_true, Bool.not_false, Bool.true_and, Bool.false_and, Bool.true_or, Bool.false_or, Bool.and_true, Bool.or_false, cond_true, cond_false]), trivial⟩, hW⟩
      ·
       rw [hb1] at hF
       iterate 3 refine lsn hF rfl rfl rfl rfl rfl rfl rfl (fun a hF => ?_)
       refine ls hF hW rfl ((y_pick_f hF rfl rfl rfl).q) (fun a w hF hW => ?_)
       refine ls_nil (c_then ?_)
       exact ⟨hF.re ⟨rfl, rfl, rfl, rfl, rfl, rfl, rfl, (by show some (Value.bool false) = some (Value.bool (decide (x26.2.1 = p1) && (decide (1 ≤ x26.1) && decide (x26.1 ≤ 7)))); try rw [hb0]; try rw [hb1]; all_goals simp only [Bool.not_true, Bool.not_false, Bool.true_and, Bool.false_and, Bool.true_or, Bool.false_or, Bool.and_true, Bool.or_false, cond_true, cond_false]), trivial⟩, hW⟩
     ·
      rw [hb0] at hF
      iterate 3 refine lsn hF rfl rfl rfl rfl rfl rfl rfl (fun a hF => ?_)
      refine ls hF hW rfl ((y_pick_f hF rfl rfl rfl).q) (fun a w hF hW => ?_)
      refine ls hF hW rfl ((y_move hF rfl).q) (fun a w hF hW => ?_)
      iterate 3 refine lsn hF rfl rfl rfl rfl rfl rfl rfl (fun a hF => ?_)
      refine ls hF hW rfl ((y_pick_f hF rfl rfl rfl).q) (fun a w hF hW => ?_)
      refine ls_nil (c_then ?_)
      exact ⟨hF.re ⟨rfl, rfl, rfl, rfl, rfl, rfl, rfl, (by show some (Value.bool false) = some (Value.bool (decide (x26.2.1 = p1) && (decide (1 ≤ x26.1) && decide (x26.1 ≤ 7)))); try rw [hb0]; all_goals simp only [Bool.not_true, Bool.not_false, Bool.true_and, Bool.false_and, Bool.true_or, Bool.false_or, Bool.and_true, Bool.or_false, cond_true, cond_false]), trivial⟩, hW⟩
    rintro a w ⟨hF, hW⟩
    refine c_cond hF rfl (fun hb => ?_) (fun hb => ?_)
    ·
     have H := iteT hb H
     rw [hb] at hF
     clear hb
     refine reg_list ?_
     refine ls hF hW rfl ((y_fieldAddr u34_ rfl rfl rfl T3 hF rfl 0 rfl).q) (fun a w hF hW => ?_)
     refine ls hF hW rfl ((y_load (v := Value.int .i64 x26.1) 0 hF rfl rfl T3 rfl).q) (fun a w hF hW => ?_)
     obtain ⟨x27, h2, H⟩ := bindE H
     refine ls hF hW rfl ((y_indexP (0 + (x26.1).toNat * 1) Ar58 hF rfl rfl rfl h2 rfl).q) (fun a w hF hW => ?_)
     refine l_store_dyn (o := 0) (m := 8) (i := x26.1) (l := ([x10, x11, x12, x13, x14, x15, x16, x17] : List Bool)) (x := x27) (cs := [.bool x10, .bool x11, .bool x12, .bool x13, .bool x14, .bool x15, .bool x16, .bool x17]) (cs' := [.bool (if x26.1 = 0 then true else x10), .bool (if x26.1 = 1 then true else x11), .bool (if x26.1 = 2 then true else x12), .bool (if x26.1 = 3 then true else x13), .bool (if x26.1 = 4 then true else x14), .bool (if x26.1 = 5 then true else x15), .bool (if x26.1 = 6 then true else x16), .bool (if x26.1 = 7 then true else x17)]) 1 hF hW rfl rfl rfl T4 rfl rfl rfl rfl h2 (by intro k hk hn; rw [hk]; match k, hn with | 0, _ => rfl | 1, _ => rfl | 2, _ => rfl | 3, _ => rfl | 4, _ => rfl | 5, _ => rfl | 6, _ => rfl | 7, _ => rfl | (z + 8), h => exact absurd h (by omega)) (fun w hW => ?_)
     have hW : Stw ⟨Y, [], w0⟩ [(b2, [.int .i64 x26.1, .int .i64 x26.2.1, .int .i64 x26.2.2.1, .int .i64 x26.2.2.2]), (b1, [.bool (if x26.1 = 0 then true else x10), .bool (if x26.1 = 1 then true else x11), .bool (if x26.1 = 2 then true else x12), .bool (if x26.1 = 3 then true else x13), .bool (if x26.1 = 4 then true else x14), .bool (if x26.1 = 5 then true else x15), .bool (if x26.1 = 6 then true else x16), .bool (if x26.1 = 7 then true else x17)])] [] w := hW
     refine ls_nil ?_
     refine b_normal ?_
     refine c_then ?_
     have hW := hW.frontM (i := 1) rfl rfl
     have hW := hW.sub (M' := [(b1, [.bool (if x26.1 = 0 then true else x10), .bool (if x26.1 = 1 then true else x11), .bool (if x26.1 = 2 then true else x12), .bool (if x26.1 = 3 then true else x13), .bool (if x26.1 = 4 then true else x14), .bool (if x26.1 = 5 then true else x15), .bool (if x26.1 = 6 then true else x16), .bool (if x26.1 = 7 then true else x17)])]) (Z' := []) (List.Sublist.cons_cons _ (List.nil_sublist _)) (List.Sublist.refl _)
     exact ⟨_, _, _, _, _, _, _, _, H, hF.re ⟨rfl, rfl, rfl, rfl, rfl, rfl, trivial⟩, hW⟩
    ·
     have H := iteF (by rw [hb]; decide) H
     rw [hb] at hF
     clear hb
     refine wr_skip ?_
     refine b_normal ?_
     refine c_then ?_
     have hW := hW.frontM (i := 1) rfl rfl
     have hW := hW.sub (M' := [(b1, [.bool x10, .bool x11, .bool x12, .bool x13, .bool x14, .bool x15, .bool x16, .bool x17])]) (Z' := []) (List.Sublist.cons_cons _ (List.nil_sublist _)) (List.Sublist.refl _)
     exact ⟨_, _, _, _, _, _, _, _, H, hF.re ⟨rfl, rfl, rfl, rfl, rfl, rfl, trivial⟩, hW⟩
   rintro a w ⟨x18, x19, x20, x21, x22, x23, x24, x25, hj, hF, hW⟩
   have hj := Option.some.inj hj
   subst hj
   have H := K3
   clear G3 K3
   refine reg_list ?_
   refine ls hF hW rfl ((y_add hF rfl rfl rfl).q) (fun a w hF hW => ?_)
   refine ls hF hW rfl ((y_move hF rfl).q) (fun a w hF hW => ?_)
   refine ls_nil (c_then ?_)
   exact ⟨_, H, hF.re ⟨rfl, rfl, rfl, rfl, rfl, rfl, trivial⟩, hW⟩
  ·
   have H := iteF (of_decide_eq_false hb) H
   rw [hb] at hF
   clear hb
   refine wr_exit ?_
   iterate 2 refine e_then ?_
   refine e_block ?_
   refine c_then ?_
   have H := L2 _ H
   exact ⟨_, _, _, _, _, _, _, _, H, hF.re ⟨rfl, rfl, trivial⟩, hW⟩
 rintro a w ⟨x1, x2, x3, x4, x5, x6, x7, x8, hj, hF, hW⟩
 have hj := Option.some.inj hj
 subst hj
 have H := K1
 clear G1 K1
 refine c_seq ?_
 refine wr_block ?_
 refine c_seq (reg_list ?_)
 refine ls hF hW rfl ((y_indexP (l := [(), (), (), (), (), (), (), ()]) (i := 1) 1 Ar58 hF rfl rfl rfl rfl rfl).q) (fun a w hF hW => ?_)
 refine ls hF hW rfl ((y_load (v := Value.bool x2) 0 hF rfl rfl T4 rfl).q) (fun a w hF hW => ?_)
 refine ls hF hW rfl ((y_not hF rfl).q) (fun a w hF hW => ?_)
 refine ls hF hW rfl ((y_assign hF rfl).q) (fun a w hF hW => ?_)
 refine ls_nil (c_then ?_)
 refine c_cond hF rfl (fun hb => ?_) (fun hb => ?_)
 ·
  have H := iteT hb H
  rw [hb] at hF
  clear hb
  refine c_seq (reg_list ?_)
  refine ls hF hW rfl ((y_assign hF rfl).q) (fun a w hF hW => ?_)
  refine ls_nil (c_then ?_)
  refine wr_ret ?_
  refine r_block ?_
  refine r_then ?_
  have H := Option.some.inj H
  subst H
  refine post1 (.inl rfl) hF hW rfl (rv_tmp hF rfl) ?_
  exact ⟨rfl, hW.done⟩
 ·
  have H := iteF (by rw [hb]; decide) H
  rw [hb] at hF
  clear hb
  refine c_seq (reg_list ?_)
  refine ls hF hW rfl ((y_indexP (l := [(), (), (), (), (), (), (), ()]) (i := 5) 5 Ar58 hF rfl rfl rfl rfl rfl).q) (fun a w hF hW => ?_)
  refine ls hF hW rfl ((y_load (v := Value.bool x6) 0 hF rfl rfl T4 rfl).q) (fun a w hF hW => ?_)
  refine ls hF hW rfl ((y_assign hF rfl).q) (fun a w hF hW => ?_)
  refine ls_nil (c_then ?_)
  refine c_cond hF rfl (fun hb => ?_) (fun hb => ?_)
  ·
   have H := iteT hb H
   rw [hb] at hF
   rw [hb] at hW
   clear hb
   refine c_seq (reg_list ?_)
   refine ls hF hW rfl ((y_assign hF rfl).q) (fun a w hF hW => ?_)
   refine ls_nil (c_then ?_)
   refine wr_ret ?_
   refine r_block ?_
   refine r_then ?_
   have H := Option.some.inj H
   subst H
   refine post1 (.inl rfl) hF hW rfl (rv_tmp hF rfl) ?_
   exact ⟨rfl, hW.done⟩
  ·
   have H := iteF (by rw [hb]; decide) H
   rw [hb] at hF
   rw [hb] at hW
   clear hb
   refine c_seq (reg_list ?_)
   refine ls hF hW rfl ((y_indexP (l := [(), (), (), (), (), (), (), ()]) (i := 6) 6 Ar58 hF rfl rfl rfl rfl rfl).q) (fun a w hF hW => ?_)
   refine ls hF hW rfl ((y_load (v := Value.bool x7) 0 hF rfl rfl T4 rfl).q) (fun a w hF hW => ?_)
   refine ls hF hW rfl ((y_assign hF rfl).q) (fun a w hF hW => ?_)
   refine ls_nil (c_then ?_)
   refine c_cond hF rfl (fun hb => ?_) (fun hb => ?_)
   ·
    have H := iteT hb H
    rw [hb] at hF
    rw [hb] at hW
    clear hb
    refine c_seq (reg_list ?_)
    refine ls hF hW rfl ((y_assign hF rfl).q) (fun a w hF hW => ?_)
    refine ls_nil (c_then ?_)
    refine wr_ret ?_
    refine r_block ?_
    refine r_then ?_
    have H := Option.some.inj H
    subst H
    refine post1 (.inl rfl) hF hW rfl (rv_tmp hF rfl) ?_
    exact ⟨rfl, hW.done⟩
   ·
    have H := iteF (by rw [hb]; decide) H
    rw [hb] at hF
    rw [hb] at hW
    clear hb
    refine wr_skip ?_
    refine b_normal ?_
    refine c_then ?_
    refine c_seq (reg_list ?_)
    refine ls hF hW rfl ((y_assign hF rfl).q) (fun a w hF hW => ?_)
    refine ls_nil (c_then ?_)
    refine wr_ret ?_
    have H := Option.some.inj H
    subst H
    refine post1 (.inl rfl) hF hW rfl (rv_tmp hF rfl) ?_
    exact ⟨rfl, hW.done⟩

theorem H13 : Has Tryd.prog 13 := ⟨fun args w => run_callFunc_body Tryd.func13 rfl (by decide) args w⟩
def journal_word (p0 : Int) : List UInt8 := (if p0 = 1 then ([98, 101, 103, 105, 110] : List UInt8) else (if p0 = 2 then ([97, 114, 109] : List UInt8) else (if p0 = 3 then ([115, 117, 114, 101] : List UInt8) else (if p0 = 4 then ([99, 97, 110, 99, 101, 108] : List UInt8) else (if p0 = 5 then ([99, 111, 109, 109, 105, 116] : List UInt8) else (if p0 = 6 then ([99, 108, 111, 115, 101] : List UInt8) else (if p0 = 7 then ([114, 101, 108, 101, 97, 115, 101] : List UInt8) else ([63] : List UInt8))))))))
theorem journal_word_c (Y : Nat → Prop) (w0 : World)  (p0 : Int) (r : List UInt8) (H : journal_word p0 = r)  :
    Calls Tryd.prog 40 #[.int .i64 p0] w0 fun e w' => e = .returned (.string (bs r)) ∧ Below w0.heap.size w0 w' := by
 refine enter Tryd.func40 rfl Tryd.ntmps40 rfl (fun a hF => ?_)
 have hW := Stw.start Y w0
 unfold journal_word at H
 refine c_seq (reg_list ?_)
 refine ls hF hW rfl ((y_assign (v := Value.string (bs ([] : List UInt8))) hF rfl).q) (fun a w hF hW => ?_)
 refine ls_nil (c_then ?_)
 refine c_seq ?_
 refine c_seq (reg_list ?_)
 refine ls hF hW rfl ((y_move hF rfl).q) (fun a w hF hW => ?_)
 refine ls_nil (c_then ?_)
 refine wr_block ?_
 refine c_seq (reg_list ?_)
 refine ls hF hW rfl ((y_eql hF rfl rfl).q) (fun a w hF hW => ?_)
 refine ls hF hW rfl ((y_assign hF rfl).q) (fun a w hF hW => ?_)
 refine ls_nil (c_then ?_)
 refine c_cond hF rfl (fun hb => ?_) (fun hb => ?_)
 ·
  have H := iteT (of_decide_eq_true hb) H
  rw [hb] at hF
  clear hb
  refine c_seq (reg_list ?_)
  refine ls hF hW rfl ((y_assign (v := Value.string (bs ([98, 101, 103, 105, 110] : List UInt8))) hF rfl).q) (fun a w hF hW => ?_)
  refine ls_nil (c_then ?_)
  refine wr_ret ?_
  refine r_block ?_
  refine r_then ?_
  subst H
  refine post1 (.inl rfl) hF hW rfl (rv_tmp hF rfl) ?_
  exact ⟨rfl, hW.done⟩
 ·
  have H := iteF (of_decide_eq_false hb) H
  rw [hb] at hF
  clear hb
  refine c_seq (reg_list ?_)
  refine ls hF hW rfl ((y_eql hF rfl rfl).q) (fun a w hF hW => ?_)
  refine ls hF hW rfl ((y_assign hF rfl).q) (fun a w hF hW => ?_)
  refine ls_nil (c_then ?_)
  refine c_cond hF rfl (fun hb => ?_) (fun hb => ?_)
  ·
   have H := iteT (of_decide_eq_true hb) H
   rw [hb] at hF
   clear hb
   refine c_seq (reg_list ?_)
   refine ls hF hW rfl ((y_assign (v := Value.string (bs ([97, 114, 109] : List UInt8))) hF rfl).q) (fun a w hF hW => ?_)
   refine ls_nil (c_then ?_)
   refine wr_ret ?_
   refine r_block ?_
   refine r_then ?_
   subst H
   refine post1 (.inl rfl) hF hW rfl (rv_tmp hF rfl) ?_
   exact ⟨rfl, hW.done⟩
  ·
   have H := iteF (of_decide_eq_false hb) H
   rw [hb] at hF
   clear hb
   refine c_seq (reg_list ?_)
   refine ls hF hW rfl ((y_eql hF rfl rfl).q) (fun a w hF hW => ?_)
   refine ls hF hW rfl ((y_assign hF rfl).q) (fun a w hF hW => ?_)
   refine ls_nil (c_then ?_)
   refine c_cond hF rfl (fun hb => ?_) (fun hb => ?_)
   ·
    have H := iteT (of_decide_eq_true hb) H
    rw [hb] at hF
    clear hb
    refine c_seq (reg_list ?_)
    refine ls hF hW rfl ((y_assign (v := Value.string (bs ([115, 117, 114, 101] : List UInt8))) hF rfl).q) (fun a w hF hW => ?_)
    refine ls_nil (c_then ?_)
    refine wr_ret ?_
    refine r_block ?_
    refine r_then ?_
    subst H
    refine post1 (.inl rfl) hF hW rfl (rv_tmp hF rfl) ?_
    exact ⟨rfl, hW.done⟩
   ·
    have H := iteF (of_decide_eq_false hb) H
    rw [hb] at hF
    clear hb
    refine c_seq (reg_list ?_)
    refine ls hF hW rfl ((y_eql hF rfl rfl).q) (fun a w hF hW => ?_)
    refine ls hF hW rfl ((y_assign hF rfl).q) (fun a w hF hW => ?_)
    refine ls_nil (c_then ?_)
    refine c_cond hF rfl (fun hb => ?_) (fun hb => ?_)
    ·
     have H := iteT (of_decide_eq_true hb) H
     rw [hb] at hF
     clear hb
     refine c_seq (reg_list ?_)
     refine ls hF hW rfl ((y_assign (v := Value.string (bs ([99, 97, 110, 99, 101, 108] : List UInt8))) hF rfl).q) (fun a w hF hW => ?_)
     refine ls_nil (c_then ?_)
     refine wr_ret ?_
     refine r_block ?_
     refine r_then ?_
     subst H
     refine post1 (.inl rfl) hF hW rfl (rv_tmp hF rfl) ?_
     exact ⟨rfl, hW.done⟩
    ·
     have H := iteF (of_decide_eq_false hb) H
     rw [hb] at hF
     clear hb
     refine c_seq (reg_list ?_)
     refine ls hF hW rfl ((y_eql hF rfl rfl).q) (fun a w hF hW => ?_)
     refine ls hF hW rfl ((y_assign hF rfl).q) (fun a w hF hW => ?_)
     refine ls_nil (c_then ?_)
     refine c_cond hF rfl (fun hb => ?_) (fun hb => ?_)
     ·
      have H := iteT (of_decide_eq_true hb) H
      rw [hb] at hF
      clear hb
      refine c_seq (reg_list ?_)
      refine ls hF hW rfl ((y_assign (v := Value.string (bs ([99, 111, 109, 109, 105, 116] : List UInt8))) hF rfl).q) (fun a w hF hW => ?_)
      refine ls_nil (c_then ?_)
      refine wr_ret ?_
      refine r_block ?_
      refine r_then ?_
      subst H
      refine post1 (.inl rfl) hF hW rfl (rv_tmp hF rfl) ?_
      exact ⟨rfl, hW.done⟩
     ·
      have H := iteF (of_decide_eq_false hb) H
      rw [hb] at hF
      clear hb
      refine c_seq (reg_list ?_)
      refine ls hF hW rfl ((y_eql hF rfl rfl).q) (fun a w hF hW => ?_)
      refine ls hF hW rfl ((y_assign hF rfl).q) (fun a w hF hW => ?_)
      refine ls_nil (c_then ?_)
      refine c_cond hF rfl (fun hb => ?_) (fun hb => ?_)
      ·
       have H := iteT (of_decide_eq_true hb) H
       rw [hb] at hF
       clear hb
       refine c_seq (reg_list ?_)
       refine ls hF hW rfl ((y_assign (v := Value.string (bs ([99, 108, 111, 115, 101] : List UInt8))) hF rfl).q) (fun a w hF hW => ?_)
       refine ls_nil (c_then ?_)
       refine wr_ret ?_
       refine r_block ?_
       refine r_then ?_
       subst H
       refine post1 (.inl rfl) hF hW rfl (rv_tmp hF rfl) ?_
       exact ⟨rfl, hW.done⟩
      ·
       have H := iteF (of_decide_eq_false hb) H
       rw [hb] at hF
       clear hb
       refine c_seq (reg_list ?_)
       refine ls hF hW rfl ((y_eql hF rfl rfl).q) (fun a w hF hW => ?_)
       refine ls hF hW rfl ((y_assign hF rfl).q) (fun a w hF hW => ?_)
       refine ls_nil (c_then ?_)
       refine c_cond hF rfl (fun hb => ?_) (fun hb => ?_)
       ·
        have H := iteT (of_decide_eq_true hb) H
        rw [hb] at hF
        clear hb
        refine c_seq (reg_list ?_)
        refine ls hF hW rfl ((y_assign (v := Value.string (bs ([114, 101, 108, 101, 97, 115, 101] : List UInt8))) hF rfl).q) (fun a w hF hW => ?_)
        refine ls_nil (c_then ?_)
        refine wr_ret ?_
        refine r_block ?_
        refine r_then ?_
        subst H
        refine post1 (.inl rfl) hF hW rfl (rv_tmp hF rfl) ?_
        exact ⟨rfl, hW.done⟩
       ·
        have H := iteF (of_decide_eq_false hb) H
        rw [hb] at hF
        clear hb
        refine wr_skip ?_
        refine b_normal ?_
        refine c_then ?_
        refine c_seq (reg_list ?_)
        refine ls hF hW rfl ((y_assign (v := Value.string (bs ([63] : List UInt8))) hF rfl).q) (fun a w hF hW => ?_)
        refine ls_nil (c_then ?_)
        refine wr_ret ?_
        subst H
        refine post1 (.inl rfl) hF hW rfl (rv_tmp hF rfl) ?_
        exact ⟨rfl, hW.done⟩

theorem H40 : Has Tryd.prog 40 := ⟨fun args w => run_callFunc_body Tryd.func40 rfl (by decide) args w⟩
theorem H41 : Has Tryd.prog 41 := ⟨fun args w => run_callFunc_body Tryd.func41 rfl (by decide) args w⟩
noncomputable def journal_line (p0 : Int × Int × Int × Int) : Option (List UInt8) := (app (journal_word p0.1) ([32] : List UInt8)).bind fun x1 => (itoaP p0.2.1).bind fun x2 => (app x1 x2).bind fun x3 => (app x3 ([32] : List UInt8)).bind fun x4 => (itoaP p0.2.2.1).bind fun x5 => (app x4 x5).bind fun x6 => (app x6 ([32] : List UInt8)).bind fun x7 => (itoaP p0.2.2.2).bind fun x8 => (app x7 x8).bind fun x9 => some x9
theorem journal_line_c (Y : Nat → Prop) (w0 : World)  (p0 : Int × Int × Int × Int) (r : List UInt8) (H : journal_line p0 = some r) (hG : Gk [] w0) :
    Calls Tryd.prog 28 #[.agg #[.int .i64 p0.1, .int .i64 p0.2.1, .int .i64 p0.2.2.1, .int .i64 p0.2.2.2]] w0 fun e w' => e = .returned (.string (bs r)) ∧ Below w0.heap.size w0 w' := by
 refine enter Tryd.func28 rfl Tryd.ntmps28 rfl (fun a hF => ?_)
 have hW := Stw.start Y w0
 unfold journal_line at H
 refine c_seq (reg_list ?_)
 refine l_box (cs := [.int .i64 p0.1, .int .i64 p0.2.1, .int .i64 p0.2.2.1, .int .i64 p0.2.2.2]) hF hW rfl rfl rfl (fun b1 a w hF hW => ?_)
 refine ls hF hW rfl ((y_assign (v := Value.string (bs ([] : List UInt8))) hF rfl).q) (fun a w hF hW => ?_)
 refine ls_nil (c_then ?_)
 refine c_seq ?_
 refine reg_quiet hW MO (by kernel_rfl) ?_
 refine qs hF rfl ((y_fieldAddr u34_ rfl rfl rfl T3 hF rfl 0 rfl).q) (fun a hF => ?_)
 refine qs hF rfl ((y_load (v := Value.int .i64 p0.1) 0 hF rfl rfl T3 rfl).q) (fun a hF => ?_)
 refine qs hF rfl (y_call (v := Value.string (bs (journal_word p0.1))) hF H40 rfl (fun w hW => journal_word_c any w p0.1 _ rfl)) (fun a hF => ?_)
 obtain ⟨x1, h1, H⟩ := bindE H
 refine qs hF rfl ((y_sadd (l := (journal_word p0.1)) (m := ([32] : List UInt8)) hF rfl rfl h1).q) (fun a hF => ?_)
 refine qs hF rfl ((y_fieldAddr u34_ rfl rfl rfl T3 hF rfl 1 rfl).q) (fun a hF => ?_)
 refine qs hF rfl ((y_load (v := Value.int .i64 p0.2.1) 0 hF rfl rfl T3 rfl).q) (fun a hF => ?_)
 obtain ⟨x2, h2, H⟩ := bindE H
 refine qs hF rfl (y_call (v := Value.string (bs x2)) hF H41 rfl (fun w hW => itoa_c any w p0.2.1 _ h2 (hG.go0 hW))) (fun a hF => ?_)
 obtain ⟨x3, h3, H⟩ := bindE H
 refine qs hF rfl ((y_sadd (l := x1) (m := x2) hF rfl rfl h3).q) (fun a hF => ?_)
 obtain ⟨x4, h4, H⟩ := bindE H
 refine qs hF rfl ((y_sadd (l := x3) (m := ([32] : List UInt8)) hF rfl rfl h4).q) (fun a hF => ?_)
 refine qs hF rfl ((y_fieldAddr u34_ rfl rfl rfl T3 hF rfl 2 rfl).q) (fun a hF => ?_)
 refine qs hF rfl ((y_load (v := Value.int .i64 p0.2.2.1) 0 hF rfl rfl T3 rfl).q) (fun a hF => ?_)
 obtain ⟨x5, h5, H⟩ := bindE H
 refine qs hF rfl (y_call (v := Value.string (bs x5)) hF H41 rfl (fun w hW => itoa_c any w p0.2.2.1 _ h5 (hG.go0 hW))) (fun a hF => ?_)
 obtain ⟨x6, h6, H⟩ := bindE H
 refine qs hF rfl ((y_sadd (l := x4) (m := x5) hF rfl rfl h6).q) (fun a hF => ?_)
 obtain ⟨x7, h7, H⟩ := bindE H
 refine qs hF rfl ((y_sadd (l := x6) (m := ([32] : List UInt8)) hF rfl rfl h7).q) (fun a hF => ?_)
 refine qs hF rfl ((y_fieldAddr u34_ rfl rfl rfl T3 hF rfl 3 rfl).q) (fun a hF => ?_)
 refine qs hF rfl ((y_load (v := Value.int .i64 p0.2.2.2) 0 hF rfl rfl T3 rfl).q) (fun a hF => ?_)
 obtain ⟨x8, h8, H⟩ := bindE H
 refine qs hF rfl (y_call (v := Value.string (bs x8)) hF H41 rfl (fun w hW => itoa_c any w p0.2.2.2 _ h8 (hG.go0 hW))) (fun a hF => ?_)
 obtain ⟨x9, h9, H⟩ := bindE H
 refine qs hF rfl ((y_sadd (l := x7) (m := x8) hF rfl rfl h9).q) (fun a hF => ?_)
 refine qs hF rfl ((y_assign hF rfl).q) (fun a hF => ?_)
 refine quiet_end (fun w hW => ?_)
 refine c_then ?_
 refine wr_ret ?_
 have H := Option.some.inj H
 subst H
 refine post1 (.inl rfl) hF hW rfl (rv_tmp hF rfl) ?_
 exact ⟨rfl, hW.done⟩

end Go.Proofs.YtdllfdmdfdfilaaDoor
