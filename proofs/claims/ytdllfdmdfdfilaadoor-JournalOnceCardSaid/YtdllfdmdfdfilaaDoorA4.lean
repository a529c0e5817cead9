/- The functions of layer 36, lifted. Conditions: none. -/
import Derived.Test.YtdllfdmdfdfilaaDoorA3
namespace Go.Proofs.YtdllfdmdfdfilaaDoor
open Go Go.RowKit
set_option linter.unusedVariables false
set_option linter.unusedSimpArgs false
set_option maxRecDepth 20000
noncomputable def L36_JournalOnce (p0 : List (Int × Int × Int × Int)) (p1 : Int) (p2 : Int) : Option Bool := (L36_Mine p0).bind fun x1 => (journal_Replay x1).bind fun x2 => (if (decide (100 < (p0.length : Int)) || (decide (x2.2.2 ≠ 0) || (decide (p2 < 0) || decide ((p0.length : Int) < p2)))) = true then (L36_awake).bind fun x3 => some x3 else (subl p0 0 p2).bind fun x4 => (L36_Mine x4).bind fun x5 => (journal_Replay x5).bind fun x6 => (if x6.2.2 ≠ 0 then some true else (if x6.2.1 ≠ p2 then some true else (r36_Count p0 p1 1).bind fun x8 => (if 1 < x8 then some true else (r36_Count p0 p1 5).bind fun x9 => (r36_Count p0 p1 6).bind fun x10 => (r36_Count p0 p1 1).bind fun x11 => (if x11 < (w64 (x9 + x10)) then some true else (r36_Count p0 p1 3).bind fun x12 => (if 1 < x12 then some true else (r36_Count p0 p1 4).bind fun x13 => some (decide (1 < x13))))))).bind fun x7 => (if x7 = true then some false else (L36_Mine p0).bind fun x14 => (journal_Fate x14 p1).bind fun x15 => (if x15 ≠ 1 then (if x15 ≠ 0 then (L36_awake).bind fun x18 => some (x18, x2.1.2.2.1) else (if p1 < 1 then (L36_awake).bind fun x19 => some (x19, x2.1.2.2.1) else (if x2.1.1 < p1 then (L36_awake).bind fun x20 => some (x20, x2.1.2.2.1) else some (false, x2.1.2.2.1)))) else (if x2.1.2.2.1 = true then (if x2.1.1 = p1 then (if x15 ≠ 0 then (L36_awake).bind fun x21 => some (x21, true) else (if p1 < 1 then (L36_awake).bind fun x22 => some (x22, true) else (if x2.1.1 < p1 then (L36_awake).bind fun x23 => some (x23, true) else some (false, true)))) else some (false, true)) else some (false, false))).bind fun (x16, x17) => some x16))
theorem L36_JournalOnce_c (Y : Nat → Prop) (w0 : World) (v1 : Value) (p0 : List (Int × Int × Int × Int)) (p1 : Int) (p2 : Int) (r : Bool) (H : L36_JournalOnce p0 p1 p2 = some r) (h_v1 : Sl w0 (NX []) R37 v1 p0) (hG : Gk [] w0) :
    Calls Tryd.prog 4 #[v1, .int .i64 p1, .int .i64 p2] w0 fun e w' => e = .returned (.bool r) ∧ Below w0.heap.size w0 w' := by
 refine enter Tryd.func4 rfl Tryd.ntmps4 rfl (fun a hF => ?_)
 have hW := Stw.start Y w0
 unfold L36_JournalOnce at H
 refine c_seq (reg_list ?_)
 refine ls hF hW rfl ((y_assign hF rfl).q) (fun a w hF hW => ?_)
 refine ls_nil (c_then ?_)
 refine c_seq (reg_list ?_)
 refine ls hF hW rfl ((y_move hF rfl).q) (fun a w hF hW => ?_)
 obtain ⟨x1, h1, H⟩ := bindE H
 refine l_callG (Ml := []) (Zl := []) (M := []) (Z := []) (β := Value) (rv := fun x => x) (MM := fun x => []) (ZZ := fun x => [row x 34 R34 x1]) hF hW H7 rfl rfl (fun hL => L36_Mine_c _ w (v1) p0 _ h1 ((rdc_ro h_v1) w hW).nx) (fun x a w hF hW => ?_)
 obtain ⟨v2, rfl⟩ : ∃ y, y = x := ⟨x, rfl⟩
 have hW : Stw ⟨Y, [], w0⟩ [] [row v2 34 R34 x1] w := hW
 obtain ⟨x2, h2, H⟩ := bindE H
 refine ls hF hW rfl (y_call (v := Value.tuple #[.agg #[.int .i64 x2.1.1, .int .i64 x2.1.2.1, .bool x2.1.2.2.1, .int .i64 x2.1.2.2.2.1, .int .i64 x2.1.2.2.2.2.1, .int .i64 x2.1.2.2.2.2.2.1, .bool x2.1.2.2.2.2.2.2.1, .bool x2.1.2.2.2.2.2.2.2.1, .int .i64 x2.1.2.2.2.2.2.2.2.2], .int .i64 x2.2.1, .int .i64 x2.2.2]) hF H11 rfl (fun w hW => journal_Replay_c any w (v2) x1 _ h2 (((rdc_row 0 rfl) : Rdc _ _ _ _ _ _) w hW).nx)) (fun a w hF hW => ?_)
 refine ls hF hW rfl ((y_move hF rfl).q) (fun a w hF hW => ?_)
 refine ls hF hW rfl ((y_extract (v := Value.agg #[.int .i64 x2.1.1, .int .i64 x2.1.2.1, .bool x2.1.2.2.1, .int .i64 x2.1.2.2.2.1, .int .i64 x2.1.2.2.2.2.1, .int .i64 x2.1.2.2.2.2.2.1, .bool x2.1.2.2.2.2.2.2.1, .bool x2.1.2.2.2.2.2.2.2.1, .int .i64 x2.1.2.2.2.2.2.2.2.2]) hF rfl rfl).q) (fun a w hF hW => ?_)
 refine ls hF hW rfl ((y_extract (v := Value.int .i64 x2.2.1) hF rfl rfl).q) (fun a w hF hW => ?_)
 refine ls hF hW rfl ((y_extract (v := Value.int .i64 x2.2.2) hF rfl rfl).q) (fun a w hF hW => ?_)
 refine l_alloc (cs := [.int .i64 0, .int .i64 0, .bool false, .int .i64 0, .int .i64 0, .int .i64 0, .bool false, .bool false, .int .i64 0]) hF hW rfl Z28 rfl (fun b1 a w hF hW => ?_)
 refine l_store (vs := [.int .i64 x2.1.1, .int .i64 x2.1.2.1, .bool x2.1.2.2.1, .int .i64 x2.1.2.2.2.1, .int .i64 x2.1.2.2.2.2.1, .int .i64 x2.1.2.2.2.2.2.1, .bool x2.1.2.2.2.2.2.2.1, .bool x2.1.2.2.2.2.2.2.2.1, .int .i64 x2.1.2.2.2.2.2.2.2.2]) (M' := [(b1, [.int .i64 x2.1.1, .int .i64 x2.1.2.1, .bool x2.1.2.2.1, .int .i64 x2.1.2.2.2.1, .int .i64 x2.1.2.2.2.2.1, .int .i64 x2.1.2.2.2.2.2.1, .bool x2.1.2.2.2.2.2.2.1, .bool x2.1.2.2.2.2.2.2.2.1, .int .i64 x2.1.2.2.2.2.2.2.2.2])]) 0 hF hW rfl rfl rfl T28 rfl rfl rfl rfl rfl (fun w hW => ?_)
 iterate 2 refine ls hF hW rfl ((y_assign hF rfl).q) (fun a w hF hW => ?_)
 refine ls_nil (c_then ?_)
 refine c_seq ?_
 refine c_seqJ (fun a w => Fr 119 [] [(0, v1), (1, .int .i64 p1), (2, .int .i64 p2), (6, .bool false), (7, .pointer (some ⟨b1, 0, none⟩)), (37, .bool (decide (100 < (p0.length : Int)) || (decide (x2.2.2 ≠ 0) || (decide (p2 < 0) || decide ((p0.length : Int) < p2)))))] a ∧ Stw ⟨Y, [], w0⟩ [(b1, [.int .i64 x2.1.1, .int .i64 x2.1.2.1, .bool x2.1.2.2.1, .int .i64 x2.1.2.2.2.1, .int .i64 x2.1.2.2.2.2.1, .int .i64 x2.1.2.2.2.2.2.1, .bool x2.1.2.2.2.2.2.2.1, .bool x2.1.2.2.2.2.2.2.2.1, .int .i64 x2.1.2.2.2.2.2.2.2.2])] [row v2 34 R34 x1] w) ?_ ?_
 ·
  refine reg_list ?_
  refine ls hF hW rfl ((y_move hF rfl).q) (fun a w hF hW => ?_)
  refine ls hF hW rfl ((y_len (r := R37) (l := p0) u22_ rfl hF rfl (rdc_ro h_v1)).q) (fun a w hF hW => ?_)
  refine ls hF hW rfl ((y_gtr hF rfl rfl).q) (fun a w hF hW => ?_)
  refine ls hF hW rfl ((y_move hF rfl).q) (fun a w hF hW => ?_)
  rcases Bool.eq_false_or_eq_true (decide (100 < (p0.length : Int))) with hb0 | hb0
  ·
   rw [hb0] at hF
   iterate 2 refine lsn hF rfl rfl rfl rfl rfl rfl rfl (fun a hF => ?_)
   refine ls hF hW rfl ((y_pick_t hF rfl rfl rfl).q) (fun a w hF hW => ?_)
   refine ls hF hW rfl ((y_move hF rfl).q) (fun a w hF hW => ?_)
   iterate 2 refine lsn hF rfl rfl rfl rfl rfl rfl rfl (fun a hF => ?_)
   refine ls hF hW rfl ((y_pick_t hF rfl rfl rfl).q) (fun a w hF hW => ?_)
   refine ls hF hW rfl ((y_move hF rfl).q) (fun a w hF hW => ?_)
   iterate 4 refine lsn hF rfl rfl rfl rfl rfl rfl rfl (fun a hF => ?_)
   refine ls hF hW rfl ((y_pick_t hF rfl rfl rfl).q) (fun a w hF hW => ?_)
   refine ls_nil (c_then ?_)
   exact ⟨hF.re ⟨rfl, rfl, rfl, rfl, rfl, (by show some (Value.bool true) = some (Value.bool (decide (100 < (p0.length : Int)) || (decide (x2.2.2 ≠ 0) || (decide (p2 < 0) || decide ((p0.length : Int) < p2))))); try rw [hb0]; all_goals simp only [Bool.not_true, Bool.not_false, Bool.true_and, Bool.false_and, Bool.true_or, Bool.false_or, Bool.and_true, Bool.or_false, cond_true, cond_false]), trivial⟩, hW⟩
  ·
   rw [hb0] at hF
   refine ls_w hF hW (wanted_y hF rfl rfl rfl rfl) rfl (Nat.le_of_ble_eq_true rfl) ((y_move hF rfl).q) (fun a w hF hW => ?_)
   refine ls_w hF hW (wanted_y hF rfl rfl rfl rfl) rfl (Nat.le_of_ble_eq_true rfl) ((y_neq hF rfl rfl).q) (fun a w hF hW => ?_)
   refine ls hF hW rfl ((y_pick_f hF rfl rfl rfl).q) (fun a w hF hW => ?_)
   refine ls hF hW rfl ((y_move hF rfl).q) (fun a w hF hW => ?_)
   rcases Bool.eq_false_or_eq_true (decide (x2.2.2 ≠ 0)) with hb1 | hb1
   ·
    rw [hb1] at hF
    iterate 2 refine lsn hF rfl rfl rfl rfl rfl rfl rfl (fun a hF => ?_)
    refine ls hF hW rfl ((y_pick_t hF rfl rfl rfl).q) (fun a w hF hW => ?_)
    refine ls hF hW rfl ((y_move hF rfl).q) (fun a w hF hW => ?_)
    iterate 4 refine lsn hF rfl rfl rfl rfl rfl rfl rfl (fun a hF => ?_)
    refine ls hF hW rfl ((y_pick_t hF rfl rfl rfl).q) (fun a w hF hW => ?_)
    refine ls_nil (c_then ?_)
    exact ⟨hF.re ⟨rfl, rfl, rfl, rfl, rfl, (by show some (Value.bool true) = some (Value.bool (decide (100 < (p0.length : Int)) || (decide (x2.2.2 ≠ 0) || (decide (p2 < 0) || decide ((p0.length : Int) < p2))))); try rw [hb0]; try rw [hb1]; all_goals simp only [Bool.not_true, Bool.not_false, Bool.true_and, Bool.false_and, Bool.true_or, Bool.false_or, Bool.and_true, Bool.or_false, cond_true, cond_false]), trivial⟩, hW⟩
   ·
    rw [hb1] at hF
    refine ls_w hF hW (wanted_y hF rfl rfl rfl rfl) rfl (Nat.le_of_ble_eq_true rfl) ((y_move hF rfl).q) (fun a w hF hW => ?_)
    refine ls_w hF hW (wanted_y hF rfl rfl rfl rfl) rfl (Nat.le_of_ble_eq_true rfl) ((y_lss hF rfl rfl).q) (fun a w hF hW => ?_)
    refine ls hF hW rfl ((y_pick_f hF rfl rfl rfl).q) (fun a w hF hW => ?_)
    refine ls hF hW rfl ((y_move hF rfl).q) (fun a w hF hW => ?_)
    rcases Bool.eq_false_or_eq_true (decide (p2 < 0)) with hb2 | hb2
    ·
     rw [hb2] at hF
     iterate 4 refine lsn hF rfl rfl rfl rfl rfl rfl rfl (fun a hF => ?_)
     refine ls hF hW rfl ((y_pick_t hF rfl rfl rfl).q) (fun a w hF hW => ?_)
     refine ls_nil (c_then ?_)
     exact ⟨hF.re ⟨rfl, rfl, rfl, rfl, rfl, (by show some (Value.bool true) = some (Value.bool (decide (100 < (p0.length : Int)) || (decide (x2.2.2 ≠ 0) || (decide (p2 < 0) || decide ((p0.length : Int) < p2))))); try rw [hb0]; try rw [hb1]; try rw [hb2]; all_goals simp only [Bool.not_true, Bool.not_false, Bool.true_and, Bool.false_and, Bool.true_or, Bool.false_or, Bool.and_true, Bool.or_false, cond_true, cond_false]), trivial⟩, hW⟩
    ·
     rw [hb2] at hF
     iterate 2 refine ls_w hF hW (wanted_y hF rfl rfl rfl rfl) rfl (Nat.le_of_ble_eq_true rfl) ((y_move hF rfl).q) (fun a w hF hW => ?_)
     refine ls_w hF hW (wanted_y hF rfl rfl rfl rfl) rfl (Nat.le_of_ble_eq_true rfl) ((y_len (r := R37) (l := p0) u22_ rfl hF rfl (rdc_ro h_v1)).q) (fun a w hF hW => ?_)
     refine ls_w hF hW (wanted_y hF rfl rfl rfl rfl) rfl (Nat.le_of_ble_eq_true rfl) ((y_gtr hF rfl rfl).q) (fun a w hF hW => ?_)
     refine ls hF hW rfl ((y_pick_f hF rfl rfl rfl).q) (fun a w hF hW => ?_)
     refine ls_nil (c_then ?_)
     exact ⟨hF.re ⟨rfl, rfl, rfl, rfl, rfl, (by show some (Value.bool (decide ((p0.length : Int) < p2))) = some (Value.bool (decide (100 < (p0.length : Int)) || (decide (x2.2.2 ≠ 0) || (decide (p2 < 0) || decide ((p0.length : Int) < p2))))); try rw [hb0]; try rw [hb1]; try rw [hb2]; all_goals simp only [Bool.not_true, Bool.not_false, Bool.true_and, Bool.false_and, Bool.true_or, Bool.false_or, Bool.and_true, Bool.or_false, cond_true, cond_false]), trivial⟩, hW⟩
 rintro a w ⟨hF, hW⟩
 refine c_cond hF rfl (fun hb => ?_) (fun hb => ?_)
 ·
  have H := iteT hb H
  rw [hb] at hF
  clear hb
  refine c_seq (reg_list ?_)
  obtain ⟨x3, h3, H⟩ := bindE H
  refine ls hF hW rfl (y_call (v := Value.bool x3) hF H6 rfl (fun w hW => L36_awake_c any w _ h3 (hG.go0 hW))) (fun a w hF hW => ?_)
  refine ls hF hW rfl ((y_assign hF rfl).q) (fun a w hF hW => ?_)
  refine ls_nil (c_then ?_)
  refine wr_ret ?_
  refine r_then ?_
  have H := Option.some.inj H
  subst H
  refine post1 (.inl rfl) hF hW rfl (rv_tmp hF rfl) ?_
  exact ⟨rfl, hW.done⟩
 ·
  have H := iteF (by rw [hb]; decide) H
  rw [hb] at hF
  clear hb
  refine wr_skip ?_
  refine c_then ?_
  refine c_seq (reg_list ?_)
  iterate 2 refine ls hF hW rfl ((y_move hF rfl).q) (fun a w hF hW => ?_)
  obtain ⟨x4, h4, H⟩ := bindE H
  refine ls hF hW rfl ((y_slice (r := R37) L22 hF rfl rfl rfl (rdc_ro h_v1) h4).q) (fun a w hF hW => ?_)
  obtain ⟨x5, h5, H⟩ := bindE H
  refine l_callG (Ml := []) (Zl := []) (M := [(b1, [.int .i64 x2.1.1, .int .i64 x2.1.2.1, .bool x2.1.2.2.1, .int .i64 x2.1.2.2.2.1, .int .i64 x2.1.2.2.2.2.1, .int .i64 x2.1.2.2.2.2.2.1, .bool x2.1.2.2.2.2.2.2.1, .bool x2.1.2.2.2.2.2.2.2.1, .int .i64 x2.1.2.2.2.2.2.2.2.2])]) (Z := [row v2 34 R34 x1]) (β := Value) (rv := fun x => x) (MM := fun x => []) (ZZ := fun x => [row x 34 R34 x5]) hF hW H7 rfl rfl (fun hL => L36_Mine_c _ w ((slSub v1 (0 : Int) p2 4)) x4 _ h5 ((rdc_sub (rdc_ro h_v1) h4) w hW).nx) (fun x a w hF hW => ?_)
  obtain ⟨v3, rfl⟩ : ∃ y, y = x := ⟨x, rfl⟩
  have hW : Stw ⟨Y, [], w0⟩ [(b1, [.int .i64 x2.1.1, .int .i64 x2.1.2.1, .bool x2.1.2.2.1, .int .i64 x2.1.2.2.2.1, .int .i64 x2.1.2.2.2.2.1, .int .i64 x2.1.2.2.2.2.2.1, .bool x2.1.2.2.2.2.2.2.1, .bool x2.1.2.2.2.2.2.2.2.1, .int .i64 x2.1.2.2.2.2.2.2.2.2])] [row v3 34 R34 x5, row v2 34 R34 x1] w := hW
  obtain ⟨x6, h6, H⟩ := bindE H
  refine ls hF hW rfl (y_call (v := Value.tuple #[.agg #[.int .i64 x6.1.1, .int .i64 x6.1.2.1, .bool x6.1.2.2.1, .int .i64 x6.1.2.2.2.1, .int .i64 x6.1.2.2.2.2.1, .int .i64 x6.1.2.2.2.2.2.1, .bool x6.1.2.2.2.2.2.2.1, .bool x6.1.2.2.2.2.2.2.2.1, .int .i64 x6.1.2.2.2.2.2.2.2.2], .int .i64 x6.2.1, .int .i64 x6.2.2]) hF H11 rfl (fun w hW => journal_Replay_c any w (v3) x5 _ h6 (((rdc_row 0 rfl) : Rdc _ _ _ _ _ _) w hW).nx)) (fun a w hF hW => ?_)
  refine ls hF hW rfl ((y_move hF rfl).q) (fun a w hF hW => ?_)
  refine ls hF hW rfl ((y_extract (v := Value.agg #[.int .i64 x6.1.1, .int .i64 x6.1.2.1, .bool x6.1.2.2.1, .int .i64 x6.1.2.2.2.1, .int .i64 x6.1.2.2.2.2.1, .int .i64 x6.1.2.2.2.2.2.1, .bool x6.1.2.2.2.2.2.2.1, .bool x6.1.2.2.2.2.2.2.2.1, .int .i64 x6.1.2.2.2.2.2.2.2.2]) hF rfl rfl).q) (fun a w hF hW => ?_)
  refine ls hF hW rfl ((y_extract (v := Value.int .i64 x6.2.1) hF rfl rfl).q) (fun a w hF hW => ?_)
  refine ls hF hW rfl ((y_extract (v := Value.int .i64 x6.2.2) hF rfl rfl).q) (fun a w hF hW => ?_)
  refine l_alloc (cs := [.int .i64 0, .int .i64 0, .bool false, .int .i64 0, .int .i64 0, .int .i64 0, .bool false, .bool false, .int .i64 0]) hF hW rfl Z28 rfl (fun b2 a w hF hW => ?_)
  refine l_store (vs := [.int .i64 x6.1.1, .int .i64 x6.1.2.1, .bool x6.1.2.2.1, .int .i64 x6.1.2.2.2.1, .int .i64 x6.1.2.2.2.2.1, .int .i64 x6.1.2.2.2.2.2.1, .bool x6.1.2.2.2.2.2.2.1, .bool x6.1.2.2.2.2.2.2.2.1, .int .i64 x6.1.2.2.2.2.2.2.2.2]) (M' := [(b2, [.int .i64 x6.1.1, .int .i64 x6.1.2.1, .bool x6.1.2.2.1, .int .i64 x6.1.2.2.2.1, .int .i64 x6.1.2.2.2.2.1, .int .i64 x6.1.2.2.2.2.2.1, .bool x6.1.2.2.2.2.2.2.1, .bool x6.1.2.2.2.2.2.2.2.1, .int .i64 x6.1.2.2.2.2.2.2.2.2]), (b1, [.int .i64 x2.1.1, .int .i64 x2.1.2.1, .bool x2.1.2.2.1, .int .i64 x2.1.2.2.2.1, .int .i64 x2.1.2.2.2.2.1, .int .i64 x2.1.2.2.2.2.2.1, .bool x2.1.2.2.2.2.2.2.1, .bool x2.1.2.2.2.2.2.2.2.1, .int .i64 x2.1.2.2.2.2.2.2.2.2])]) 0 hF hW rfl rfl rfl T28 rfl rfl rfl rfl rfl (fun w hW => ?_)
  iterate 2 refine ls hF hW rfl ((y_assign hF rfl).q) (fun a w hF hW => ?_)
  refine ls_nil (c_then ?_)
  refine c_seq ?_
  obtain ⟨o1, G1, K1⟩ := bindE H
  refine c_seqJ (fun a w => ∃ x7 : Bool, some (x7) = some o1 ∧ Fr 119 [] [(0, v1), (1, .int .i64 p1), (6, .bool false), (7, .pointer (some ⟨b1, 0, none⟩)), (85, .bool x7)] a ∧ Stw ⟨Y, [], w0⟩ [(b2, [.int .i64 x6.1.1, .int .i64 x6.1.2.1, .bool x6.1.2.2.1, .int .i64 x6.1.2.2.2.1, .int .i64 x6.1.2.2.2.2.1, .int .i64 x6.1.2.2.2.2.2.1, .bool x6.1.2.2.2.2.2.2.1, .bool x6.1.2.2.2.2.2.2.2.1, .int .i64 x6.1.2.2.2.2.2.2.2.2]), (b1, [.int .i64 x2.1.1, .int .i64 x2.1.2.1, .bool x2.1.2.2.1, .int .i64 x2.1.2.2.2.1, .int .i64 x2.1.2.2.2.2.1, .int .i64 x2.1.2.2.2.2.2.1, .bool x2.1.2.2.2.2.2.2.1, .bool x2.1.2.2.2.2.2.2.2.1, .int .i64 x2.1.2.2.2.2.2.2.2.2])] [] w) ?_ ?_
  ·
   have H := G1
   clear G1 K1
   refine reg_list ?_
   refine ls hF hW rfl ((y_move hF rfl).q) (fun a w hF hW => ?_)
   refine ls hF hW rfl ((y_neq hF rfl rfl).q) (fun a w hF hW => ?_)
   refine ls hF hW rfl ((y_move hF rfl).q) (fun a w hF hW => ?_)
   rcases Bool.eq_false_or_eq_true (decide (x6.2.2 ≠ 0)) with hb | hb
   ·
    have H := iteT (of_decide_eq_true hb) H
    rw [hb] at hF
    clear hb
    iterate 3 refine lsn hF rfl rfl rfl rfl rfl rfl rfl (fun a hF => ?_)
    refine ls hF hW rfl ((y_pick_t hF rfl rfl rfl).q) (fun a w hF hW => ?_)
    refine ls hF hW rfl ((y_move hF rfl).q) (fun a w hF hW => ?_)
    iterate 4 refine lsn hF rfl rfl rfl rfl rfl rfl rfl (fun a hF => ?_)
    refine ls hF hW rfl ((y_pick_t hF rfl rfl rfl).q) (fun a w hF hW => ?_)
    refine ls hF hW rfl ((y_move hF rfl).q) (fun a w hF hW => ?_)
    iterate 11 refine lsn hF rfl rfl rfl rfl rfl rfl rfl (fun a hF => ?_)
    refine ls hF hW rfl ((y_pick_t hF rfl rfl rfl).q) (fun a w hF hW => ?_)
    refine ls hF hW rfl ((y_move hF rfl).q) (fun a w hF hW => ?_)
    iterate 4 refine lsn hF rfl rfl rfl rfl rfl rfl rfl (fun a hF => ?_)
    refine ls hF hW rfl ((y_pick_t hF rfl rfl rfl).q) (fun a w hF hW => ?_)
    refine ls hF hW rfl ((y_move hF rfl).q) (fun a w hF hW => ?_)
    iterate 4 refine lsn hF rfl rfl rfl rfl rfl rfl rfl (fun a hF => ?_)
    refine ls hF hW rfl ((y_pick_t hF rfl rfl rfl).q) (fun a w hF hW => ?_)
    refine ls_nil (c_then ?_)
    have hW := hW.frontM (i := 1) rfl rfl
    have hW := hW.frontM (i := 1) rfl rfl
    have hW := hW.sub (M' := [(b2, [.int .i64 x6.1.1, .int .i64 x6.1.2.1, .bool x6.1.2.2.1, .int .i64 x6.1.2.2.2.1, .int .i64 x6.1.2.2.2.2.1, .int .i64 x6.1.2.2.2.2.2.1, .bool x6.1.2.2.2.2.2.2.1, .bool x6.1.2.2.2.2.2.2.2.1, .int .i64 x6.1.2.2.2.2.2.2.2.2]), (b1, [.int .i64 x2.1.1, .int .i64 x2.1.2.1, .bool x2.1.2.2.1, .int .i64 x2.1.2.2.2.1, .int .i64 x2.1.2.2.2.2.1, .int .i64 x2.1.2.2.2.2.2.1, .bool x2.1.2.2.2.2.2.2.1, .bool x2.1.2.2.2.2.2.2.2.1, .int .i64 x2.1.2.2.2.2.2.2.2.2])]) (Z' := []) (List.Sublist.refl _) (List.nil_sublist _)
    exact ⟨_, H, hF.re ⟨rfl, rfl, rfl, rfl, rfl, trivial⟩, hW⟩
   ·
    have H := iteF (of_decide_eq_false hb) H
    rw [hb] at hF
    clear hb
    iterate 2 refine ls_w hF hW (wanted_y hF rfl rfl rfl rfl) rfl (Nat.le_of_ble_eq_true rfl) ((y_move hF rfl).q) (fun a w hF hW => ?_)
    refine ls_w hF hW (wanted_y hF rfl rfl rfl rfl) rfl (Nat.le_of_ble_eq_true rfl) ((y_neq hF rfl rfl).q) (fun a w hF hW => ?_)
    refine ls hF hW rfl ((y_pick_f hF rfl rfl rfl).q) (fun a w hF hW => ?_)
    refine ls hF hW rfl ((y_move hF rfl).q) (fun a w hF hW => ?_)
    rcases Bool.eq_false_or_eq_true (decide (x6.2.1 ≠ p2)) with hb | hb
    ·
     have H := iteT (of_decide_eq_true hb) H
     rw [hb] at hF
     clear hb
     iterate 4 refine lsn hF rfl rfl rfl rfl rfl rfl rfl (fun a hF => ?_)
     refine ls hF hW rfl ((y_pick_t hF rfl rfl rfl).q) (fun a w hF hW => ?_)
     refine ls hF hW rfl ((y_move hF rfl).q) (fun a w hF hW => ?_)
     iterate 11 refine lsn hF rfl rfl rfl rfl rfl rfl rfl (fun a hF => ?_)
     refine ls hF hW rfl ((y_pick_t hF rfl rfl rfl).q) (fun a w hF hW => ?_)
     refine ls hF hW rfl ((y_move hF rfl).q) (fun a w hF hW => ?_)
     iterate 4 refine lsn hF rfl rfl rfl rfl rfl rfl rfl (fun a hF => ?_)
     refine ls hF hW rfl ((y_pick_t hF rfl rfl rfl).q) (fun a w hF hW => ?_)
     refine ls hF hW rfl ((y_move hF rfl).q) (fun a w hF hW => ?_)
     iterate 4 refine lsn hF rfl rfl rfl rfl rfl rfl rfl (fun a hF => ?_)
     refine ls hF hW rfl ((y_pick_t hF rfl rfl rfl).q) (fun a w hF hW => ?_)
     refine ls_nil (c_then ?_)
     have hW := hW.frontM (i := 1) rfl rfl
     have hW := hW.frontM (i := 1) rfl rfl
     have hW := hW.sub (M' := [(b2, [.int .i64 x6.1.1, .int .i64 x6.1.2.1, .bool x6.1.2.2.1, .int .i64 x6.1.2.2.2.1, .int .i64 x6.1.2.2.2.2.1, .int .i64 x6.1.2.2.2.2.2.1, .bool x6.1.2.2.2.2.2.2.1, .bool x6.1.2.2.2.2.2.2.2.1, .int .i64 x6.1.2.2.2.2.2.2.2.2]), (b1, [.int .i64 x2.1.1, .int .i64 x2.1.2.1, .bool x2.1.2.2.1, .int .i64 x2.1.2.2.2.1, .int .i64 x2.1.2.2.2.2.1, .int .i64 x2.1.2.2.2.2.2.1, .bool x2.1.2.2.2.2.2.2.1, .bool x2.1.2.2.2.2.2.2.2.1, .int .i64 x2.1.2.2.2.2.2.2.2.2])]) (Z' := []) (List.Sublist.refl _) (List.nil_sublist _)
     exact ⟨_, H, hF.re ⟨rfl, rfl, rfl, rfl, rfl, trivial⟩, hW⟩
    ·
     have H := iteF (of_decide_eq_false hb) H
     rw [hb] at hF
     clear hb
     iterate 2 refine ls_w hF hW (wanted_y hF rfl rfl rfl rfl) rfl (Nat.le_of_ble_eq_true rfl) ((y_move hF rfl).q) (fun a w hF hW => ?_)
     refine ls_g (wanted_y hF rfl rfl rfl rfl) ?_
     obtain ⟨x8, h7, H⟩ := bindE H
     refine ls hF hW rfl (y_call (v := Value.int .i64 x8) hF H15 rfl (fun w hW => r36_Count_c any w (v1) p0 p1 1 _ h7 (((rdc_ro h_v1) : Rdc _ _ _ _ _ _) w hW).nx)) (fun a w hF hW => ?_)
     refine ls_w hF hW (wanted_y hF rfl rfl rfl rfl) rfl (Nat.le_of_ble_eq_true rfl) ((y_gtr hF rfl rfl).q) (fun a w hF hW => ?_)
     refine ls hF hW rfl ((y_pick_f hF rfl rfl rfl).q) (fun a w hF hW => ?_)
     refine ls hF hW rfl ((y_move hF rfl).q) (fun a w hF hW => ?_)
     rcases Bool.eq_false_or_eq_true (decide (1 < x8)) with hb | hb
     ·
      have H := iteT (of_decide_eq_true hb) H
      rw [hb] at hF
      clear hb
      iterate 11 refine lsn hF rfl rfl rfl rfl rfl rfl rfl (fun a hF => ?_)
      refine ls hF hW rfl ((y_pick_t hF rfl rfl rfl).q) (fun a w hF hW => ?_)
      refine ls hF hW rfl ((y_move hF rfl).q) (fun a w hF hW => ?_)
      iterate 4 refine lsn hF rfl rfl rfl rfl rfl rfl rfl (fun a hF => ?_)
      refine ls hF hW rfl ((y_pick_t hF rfl rfl rfl).q) (fun a w hF hW => ?_)
      refine ls hF hW rfl ((y_move hF rfl).q) (fun a w hF hW => ?_)
      iterate 4 refine lsn hF rfl rfl rfl rfl rfl rfl rfl (fun a hF => ?_)
      refine ls hF hW rfl ((y_pick_t hF rfl rfl rfl).q) (fun a w hF hW => ?_)
      refine ls_nil (c_then ?_)
      have hW := hW.frontM (i := 1) rfl rfl
      have hW := hW.frontM (i := 1) rfl rfl
      have hW := hW.sub (M' := [(b2, [.int .i64 x6.1.1, .int .i64 x6.1.2.1, .bool x6.1.2.2.1, .int .i64 x6.1.2.2.2.1, .int .i64 x6.1.2.2.2.2.1, .int .i64 x6.1.2.2.2.2.2.1, .bool x6.1.2.2.2.2.2.2.1, .bool x6.1.2.2.2.2.2.2.2.1, .int .i64 x6.1.2.2.2.2.2.2.2.2]), (b1, [.int .i64 x2.1.1, .int .i64 x2.1.2.1, .bool x2.1.2.2.1, .int .i64 x2.1.2.2.2.1, .int .i64 x2.1.2.2.2.2.1, .int .i64 x2.1.2.2.2.2.2.1, .bool x2.1.2.2.2.2.2.2.1, .bool x2.1.2.2.2.2.2.2.2.1, .int .i64 x2.1.2.2.2.2.2.2.2.2])]) (Z' := []) (List.Sublist.refl _) (List.nil_sublist _)
      exact ⟨_, H, hF.re ⟨rfl, rfl, rfl, rfl, rfl, trivial⟩, hW⟩
     ·
      have H := iteF (of_decide_eq_false hb) H
      rw [hb] at hF
      clear hb
      iterate 2 refine ls_w hF hW (wanted_y hF rfl rfl rfl rfl) rfl (Nat.le_of_ble_eq_true rfl) ((y_move hF rfl).q) (fun a w hF hW => ?_)
      refine ls_g (wanted_y hF rfl rfl rfl rfl) ?_
      obtain ⟨x9, h8, H⟩ := bindE H
      refine ls hF hW rfl (y_call (v := Value.int .i64 x9) hF H15 rfl (fun w hW => r36_Count_c any w (v1) p0 p1 5 _ h8 (((rdc_ro h_v1) : Rdc _ _ _ _ _ _) w hW).nx)) (fun a w hF hW => ?_)
      iterate 2 refine ls_w hF hW (wanted_y hF rfl rfl rfl rfl) rfl (Nat.le_of_ble_eq_true rfl) ((y_move hF rfl).q) (fun a w hF hW => ?_)
      refine ls_g (wanted_y hF rfl rfl rfl rfl) ?_
      obtain ⟨x10, h9, H⟩ := bindE H
      refine ls hF hW rfl (y_call (v := Value.int .i64 x10) hF H15 rfl (fun w hW => r36_Count_c any w (v1) p0 p1 6 _ h9 (((rdc_ro h_v1) : Rdc _ _ _ _ _ _) w hW).nx)) (fun a w hF hW => ?_)
      refine ls_w hF hW (wanted_y hF rfl rfl rfl rfl) rfl (Nat.le_of_ble_eq_true rfl) ((y_add hF rfl rfl rfl).q) (fun a w hF hW => ?_)
      iterate 2 refine ls_w hF hW (wanted_y hF rfl rfl rfl rfl) rfl (Nat.le_of_ble_eq_true rfl) ((y_move hF rfl).q) (fun a w hF hW => ?_)
      refine ls_g (wanted_y hF rfl rfl rfl rfl) ?_
      obtain ⟨x11, h10, H⟩ := bindE H
      refine ls hF hW rfl (y_call (v := Value.int .i64 x11) hF H15 rfl (fun w hW => r36_Count_c any w (v1) p0 p1 1 _ h10 (((rdc_ro h_v1) : Rdc _ _ _ _ _ _) w hW).nx)) (fun a w hF hW => ?_)
      refine ls_w hF hW (wanted_y hF rfl rfl rfl rfl) rfl (Nat.le_of_ble_eq_true rfl) ((y_gtr hF rfl rfl).q) (fun a w hF hW => ?_)
      refine ls hF hW rfl ((y_pick_f hF rfl rfl rfl).q) (fun a w hF hW => ?_)
      refine ls hF hW rfl ((y_move hF rfl).q) (fun a w hF hW => ?_)
      rcases Bool.eq_false_or_eq_true (decide (x11 < (w64 (x9 + x10)))) with hb | hb
      ·
       have H := iteT (of_decide_eq_true hb) H
       rw [hb] at hF
       clear hb
       iterate 4 refine lsn hF rfl rfl rfl rfl rfl rfl rfl (fun a hF => ?_)
       refine ls hF hW rfl ((y_pick_t hF rfl rfl rfl).q) (fun a w hF hW => ?_)
       refine ls hF hW rfl ((y_move hF rfl).q) (fun a w hF hW => ?_)
       iterate 4 refine lsn hF rfl rfl rfl rfl rfl rfl rfl (fun a hF => ?_)
       refine ls hF hW rfl ((y_pick_t hF rfl rfl rfl).q) (fun a w hF hW => ?_)
       refine ls_nil (c_then ?_)
       have hW := hW.frontM (i := 1) rfl rfl
       have hW := hW.frontM (i := 1) rfl rfl
       have hW := hW.sub (M' := [(b2, [.int .i64 x6.1.1, .int .i64 x6.1.2.1, .bool x6.1.2.2.1, .int .i64 x6.1.2.2.2.1, .int .i64 x6.1.2.2.2.2.1, .int .i64 x6.1.2.2.2.2.2.1, .bool x6.1.2.2.2.2.2.2.1, .bool x6.1.2.2.2.2.2.2.2.1, .int .i64 x6.1.2.2.2.2.2.2.2.2]), (b1, [.int .i64 x2.1.1, .int .i64 x2.1.2.1, .bool x2.1.2.2.1, .int .i64 x2.1.2.2.2.1, .int .i64 x2.1.2.2.2.2.1, .int .i64 x2.1.2.2.2.2.2.1, .bool x2.1.2.2.2.2.2.2.1, .bool x2.1.2.2.2.2.2.2.2.1, .int .i64 x2.1.2.2.2.2.2.2.2.2])]) (Z' := []) (List.Sublist.refl _) (List.nil_sublist _)
       exact ⟨_, H, hF.re ⟨rfl, rfl, rfl, rfl, rfl, trivial⟩, hW⟩
      ·
       have H := iteF (of_decide_eq_false hb) H
       rw [hb] at hF
       clear hb
       iterate 2 refine ls_w hF hW (wanted_y hF rfl rfl rfl rfl) rfl (Nat.le_of_ble_eq_true rfl) ((y_move hF rfl).q) (fun a w hF hW => ?_)
       refine ls_g (wanted_y hF rfl rfl rfl rfl) ?_
       obtain ⟨x12, h11, H⟩ := bindE H
       refine ls hF hW rfl (y_call (v := Value.int .i64 x12) hF H15 rfl (fun w hW => r36_Count_c any w (v1) p0 p1 3 _ h11 (((rdc_ro h_v1) : Rdc _ _ _ _ _ _) w hW).nx)) (fun a w hF hW => ?_)
       refine ls_w hF hW (wanted_y hF rfl rfl rfl rfl) rfl (Nat.le_of_ble_eq_true rfl) ((y_gtr hF rfl rfl).q) (fun a w hF hW => ?_)
       refine ls hF hW rfl ((y_pick_f hF rfl rfl rfl).q) (fun a w hF hW => ?_)
       refine ls hF hW rfl ((y_move hF rfl).q) (fun a w hF hW => ?_)
       rcases Bool.eq_false_or_eq_true (decide (1 < x12)) with hb | hb
       ·
        have H := iteT (of_decide_eq_true hb) H
        rw [hb] at hF
        clear hb
        iterate 4 refine lsn hF rfl rfl rfl rfl rfl rfl rfl (fun a hF => ?_)
        refine ls hF hW rfl ((y_pick_t hF rfl rfl rfl).q) (fun a w hF hW => ?_)
        refine ls_nil (c_then ?_)
        have hW := hW.frontM (i := 1) rfl rfl
        have hW := hW.frontM (i := 1) rfl rfl
        have hW := hW.sub (M' := [(b2, [.int .i64 x6.1.1, .int .i64 x6.1.2.1, .bool x6.1.2.2.1, .int .i64 x6.1.2.2.2.1, .int .i64 x6.1.2.2.2.2.1, .int .i64 x6.1.2.2.2.2.2.1, .bool x6.1.2.2.2.2.2.2.1, .bool x6.1.2.2.2.2.2.2.2.1, .int .i64 x6.1.2.2.2.2.2.2.2.2]), (b1, [.int .i64 x2.1.1, .int .i64 x2.1.2.1, .bool x2.1.2.2.1, .int .i64 x2.1.2.2.2.1, .int .i64 x2.1.2.2.2.2.1, .int .i64 x2.1.2.2.2.2.2.1, .bool x2.1.2.2.2.2.2.2.1, .bool x2.1.2.2.2.2.2.2.2.1, .int .i64 x2.1.2.2.2.2.2.2.2.2])]) (Z' := []) (List.Sublist.refl _) (List.nil_sublist _)
        exact ⟨_, H, hF.re ⟨rfl, rfl, rfl, rfl, rfl, trivial⟩, hW⟩
       ·
        have H := iteF (of_decide_eq_false hb) H
        rw [hb] at hF
        clear hb
        iterate 2 refine ls_w hF hW (wanted_y hF rfl rfl rfl rfl) rfl (Nat.le_of_ble_eq_true rfl) ((y_move hF rfl).q) (fun a w hF hW => ?_)
        refine ls_g (wanted_y hF rfl rfl rfl rfl) ?_
        obtain ⟨x13, h12, H⟩ := bindE H
        refine ls hF hW rfl (y_call (v := Value.int .i64 x13) hF H15 rfl (fun w hW => r36_Count_c any w (v1) p0 p1 4 _ h12 (((rdc_ro h_v1) : Rdc _ _ _ _ _ _) w hW).nx)) (fun a w hF hW => ?_)
        refine ls_w hF hW (wanted_y hF rfl rfl rfl rfl) rfl (Nat.le_of_ble_eq_true rfl) ((y_gtr hF rfl rfl).q) (fun a w hF hW => ?_)
        refine ls hF hW rfl ((y_pick_f hF rfl rfl rfl).q) (fun a w hF hW => ?_)
        refine ls_nil (c_then ?_)
        have hW := hW.frontM (i := 1) rfl rfl
        have hW := hW.frontM (i := 1) rfl rfl
        have hW := hW.sub (M' := [(b2, [.int .i64 x6.1.1, .int .i64 x6.1.2.1, .bool x6.1.2.2.1, .int .i64 x6.1.2.2.2.1, .int .i64 x6.1.2.2.2.2.1, .int .i64 x6.1.2.2.2.2.2.1, .bool x6.1.2.2.2.2.2.2.1, .bool x6.1.2.2.2.2.2.2.2.1, .int .i64 x6.1.2.2.2.2.2.2.2.2]), (b1, [.int .i64 x2.1.1, .int .i64 x2.1.2.1, .bool x2.1.2.2.1, .int .i64 x2.1.2.2.2.1, .int .i64 x2.1.2.2.2.2.1, .int .i64 x2.1.2.2.2.2.2.1, .bool x2.1.2.2.2.2.2.2.1, .bool x2.1.2.2.2.2.2.2.2.1, .int .i64 x2.1.2.2.2.2.2.2.2.2])]) (Z' := []) (List.Sublist.refl _) (List.nil_sublist _)
        exact ⟨_, H, hF.re ⟨rfl, rfl, rfl, rfl, rfl, trivial⟩, hW⟩
  rintro a w ⟨x7, hj, hF, hW⟩
  have hj := Option.some.inj hj
  subst hj
  have H := K1
  clear G1 K1
  refine c_cond hF rfl (fun hb => ?_) (fun hb => ?_)
  ·
   have H := iteT hb H
   rw [hb] at hF
   clear hb
   refine c_seq (reg_list ?_)
   refine ls hF hW rfl ((y_assign hF rfl).q) (fun a w hF hW => ?_)
   refine ls_nil (c_then ?_)
   refine wr_ret ?_
   refine r_then ?_
   have H := Option.some.inj H
   subst H
   refine post1 (.inl rfl) hF hW rfl (rv_tmp hF rfl) ?_
   exact ⟨rfl, hW.done⟩
  ·
   have H := iteF (by rw [hb]; decide) H
   rw [hb] at hF
   clear hb
   refine wr_skip ?_
   refine c_then ?_
   refine c_seq (reg_list ?_)
   refine ls hF hW rfl ((y_move hF rfl).q) (fun a w hF hW => ?_)
   obtain ⟨x14, h13, H⟩ := bindE H
   refine l_callG (Ml := []) (Zl := []) (M := [(b2, [.int .i64 x6.1.1, .int .i64 x6.1.2.1, .bool x6.1.2.2.1, .int .i64 x6.1.2.2.2.1, .int .i64 x6.1.2.2.2.2.1, .int .i64 x6.1.2.2.2.2.2.1, .bool x6.1.2.2.2.2.2.2.1, .bool x6.1.2.2.2.2.2.2.2.1, .int .i64 x6.1.2.2.2.2.2.2.2.2]), (b1, [.int .i64 x2.1.1, .int .i64 x2.1.2.1, .bool x2.1.2.2.1, .int .i64 x2.1.2.2.2.1, .int .i64 x2.1.2.2.2.2.1, .int .i64 x2.1.2.2.2.2.2.1, .bool x2.1.2.2.2.2.2.2.1, .bool x2.1.2.2.2.2.2.2.2.1, .int .i64 x2.1.2.2.2.2.2.2.2.2])]) (Z := []) (β := Value) (rv := fun x => x) (MM := fun x => []) (ZZ := fun x => [row x 34 R34 x14]) hF hW H7 rfl rfl (fun hL => L36_Mine_c _ w (v1) p0 _ h13 ((rdc_ro h_v1) w hW).nx) (fun x a w hF hW => ?_)
   obtain ⟨v4, rfl⟩ : ∃ y, y = x := ⟨x, rfl⟩
   have hW : Stw ⟨Y, [], w0⟩ [(b2, [.int .i64 x6.1.1, .int .i64 x6.1.2.1, .bool x6.1.2.2.1, .int .i64 x6.1.2.2.2.1, .int .i64 x6.1.2.2.2.2.1, .int .i64 x6.1.2.2.2.2.2.1, .bool x6.1.2.2.2.2.2.2.1, .bool x6.1.2.2.2.2.2.2.2.1, .int .i64 x6.1.2.2.2.2.2.2.2.2]), (b1, [.int .i64 x2.1.1, .int .i64 x2.1.2.1, .bool x2.1.2.2.1, .int .i64 x2.1.2.2.2.1, .int .i64 x2.1.2.2.2.2.1, .int .i64 x2.1.2.2.2.2.2.1, .bool x2.1.2.2.2.2.2.2.1, .bool x2.1.2.2.2.2.2.2.2.1, .int .i64 x2.1.2.2.2.2.2.2.2.2])] [row v4 34 R34 x14] w := hW
   refine ls hF hW rfl ((y_move hF rfl).q) (fun a w hF hW => ?_)
   obtain ⟨x15, h14, H⟩ := bindE H
   refine ls hF hW rfl (y_call (v := Value.int .i64 x15) hF H13 rfl (fun w hW => journal_Fate_c any w (v4) x14 p1 _ h14 (((rdc_row 0 rfl) : Rdc _ _ _ _ _ _) w hW).nx)) (fun a w hF hW => ?_)
   refine ls hF hW rfl ((y_assign hF rfl).q) (fun a w hF hW => ?_)
   refine ls_nil (c_then ?_)
   obtain ⟨o2, G2, K2⟩ := bindE H
   refine c_seqJ (fun a w => ∃ x16 : Bool, ∃ x17 : Bool, some ((x16, x17)) = some o2 ∧ Fr 119 [] [(6, .bool x16)] a ∧ Stw ⟨Y, [], w0⟩ [(b2, [.int .i64 x6.1.1, .int .i64 x6.1.2.1, .bool x6.1.2.2.1, .int .i64 x6.1.2.2.2.1, .int .i64 x6.1.2.2.2.2.1, .int .i64 x6.1.2.2.2.2.2.1, .bool x6.1.2.2.2.2.2.2.1, .bool x6.1.2.2.2.2.2.2.2.1, .int .i64 x6.1.2.2.2.2.2.2.2.2]), (b1, [.int .i64 x2.1.1, .int .i64 x2.1.2.1, .bool x17, .int .i64 x2.1.2.2.2.1, .int .i64 x2.1.2.2.2.2.1, .int .i64 x2.1.2.2.2.2.2.1, .bool x2.1.2.2.2.2.2.2.1, .bool x2.1.2.2.2.2.2.2.2.1, .int .i64 x2.1.2.2.2.2.2.2.2.2])] [] w) ?_ ?_
   ·
    have H := G2
    clear G2 K2
    refine reg_list ?_
    refine ls hF hW rfl ((y_move hF rfl).q) (fun a w hF hW => ?_)
    refine ls hF hW rfl ((y_neq hF rfl rfl).q) (fun a w hF hW => ?_)
    refine ls hF hW rfl ((y_move hF rfl).q) (fun a w hF hW => ?_)
    rcases Bool.eq_false_or_eq_true (decide (x15 ≠ 1)) with hb | hb
    ·
     have H := iteT (of_decide_eq_true hb) H
     rw [hb] at hF
     clear hb
     iterate 3 refine lsn hF rfl rfl rfl rfl rfl rfl rfl (fun a hF => ?_)
     iterate 4 refine lsu hF rfl rfl rfl rfl rfl rfl (fun a hF => ?_)
     refine lsn hF rfl rfl rfl rfl rfl rfl rfl (fun a hF => ?_)
     refine ls hF hW rfl ((y_pick_t hF rfl rfl rfl).q) (fun a w hF hW => ?_)
     refine ls hF hW rfl ((y_move hF rfl).q) (fun a w hF hW => ?_)
     refine ls_w hF hW (wanted_y hF rfl rfl rfl rfl) rfl (Nat.le_of_ble_eq_true rfl) ((y_move hF rfl).q) (fun a w hF hW => ?_)
     refine ls_w hF hW (wanted_y hF rfl rfl rfl rfl) rfl (Nat.le_of_ble_eq_true rfl) ((y_neq hF rfl rfl).q) (fun a w hF hW => ?_)
     refine ls_w hF hW (wanted_y hF rfl rfl rfl rfl) rfl (Nat.le_of_ble_eq_true rfl) ((y_move hF rfl).q) (fun a w hF hW => ?_)
     rcases Bool.eq_false_or_eq_true (decide (x15 ≠ 0)) with hb | hb
     ·
      have H := iteT (of_decide_eq_true hb) H
      rw [hb] at hF
      clear hb
      iterate 2 refine lsn hF rfl rfl rfl rfl rfl rfl rfl (fun a hF => ?_)
      refine ls_w hF hW (wanted_y hF rfl rfl rfl rfl) rfl (Nat.le_of_ble_eq_true rfl) ((y_pick_t hF rfl rfl rfl).q) (fun a w hF hW => ?_)
      refine ls_w hF hW (wanted_y hF rfl rfl rfl rfl) rfl (Nat.le_of_ble_eq_true rfl) ((y_move hF rfl).q) (fun a w hF hW => ?_)
      iterate 4 refine lsn hF rfl rfl rfl rfl rfl rfl rfl (fun a hF => ?_)
      refine ls_w hF hW (wanted_y hF rfl rfl rfl rfl) rfl (Nat.le_of_ble_eq_true rfl) ((y_pick_t hF rfl rfl rfl).q) (fun a w hF hW => ?_)
      refine ls hF hW rfl ((y_pick_t hF rfl rfl rfl).q) (fun a w hF hW => ?_)
      refine ls hF hW rfl ((y_move hF rfl).q) (fun a w hF hW => ?_)
      refine ls_g (wanted_y hF rfl rfl rfl rfl) ?_
      obtain ⟨x18, h15, H⟩ := bindE H
      refine ls hF hW rfl (y_call (v := Value.bool x18) hF H6 rfl (fun w hW => L36_awake_c any w _ h15 (hG.go0 hW))) (fun a w hF hW => ?_)
      refine ls hF hW rfl ((y_pick_t hF rfl rfl rfl).q) (fun a w hF hW => ?_)
      refine ls hF hW rfl ((y_assign hF rfl).q) (fun a w hF hW => ?_)
      refine ls_nil (c_then ?_)
      have hW := hW.frontM (i := 1) rfl rfl
      have hW := hW.frontM (i := 1) rfl rfl
      have hW := hW.sub (M' := [(b2, [.int .i64 x6.1.1, .int .i64 x6.1.2.1, .bool x6.1.2.2.1, .int .i64 x6.1.2.2.2.1, .int .i64 x6.1.2.2.2.2.1, .int .i64 x6.1.2.2.2.2.2.1, .bool x6.1.2.2.2.2.2.2.1, .bool x6.1.2.2.2.2.2.2.2.1, .int .i64 x6.1.2.2.2.2.2.2.2.2]), (b1, [.int .i64 x2.1.1, .int .i64 x2.1.2.1, .bool x2.1.2.2.1, .int .i64 x2.1.2.2.2.1, .int .i64 x2.1.2.2.2.2.1, .int .i64 x2.1.2.2.2.2.2.1, .bool x2.1.2.2.2.2.2.2.1, .bool x2.1.2.2.2.2.2.2.2.1, .int .i64 x2.1.2.2.2.2.2.2.2.2])]) (Z' := []) (List.Sublist.refl _) (List.nil_sublist _)
      exact ⟨_, _, H, hF.re ⟨rfl, trivial⟩, hW⟩
     ·
      have H := iteF (of_decide_eq_false hb) H
      rw [hb] at hF
      clear hb
      refine ls_w hF hW (wanted_y hF rfl rfl rfl rfl) rfl (Nat.le_of_ble_eq_true rfl) ((y_move hF rfl).q) (fun a w hF hW => ?_)
      refine ls_w hF hW (wanted_y hF rfl rfl rfl rfl) rfl (Nat.le_of_ble_eq_true rfl) ((y_lss hF rfl rfl).q) (fun a w hF hW => ?_)
      refine ls_w hF hW (wanted_y hF rfl rfl rfl rfl) rfl (Nat.le_of_ble_eq_true rfl) ((y_pick_f hF rfl rfl rfl).q) (fun a w hF hW => ?_)
      refine ls_w hF hW (wanted_y hF rfl rfl rfl rfl) rfl (Nat.le_of_ble_eq_true rfl) ((y_move hF rfl).q) (fun a w hF hW => ?_)
      rcases Bool.eq_false_or_eq_true (decide (p1 < 1)) with hb | hb
      ·
       have H := iteT (of_decide_eq_true hb) H
       rw [hb] at hF
       clear hb
       iterate 4 refine lsn hF rfl rfl rfl rfl rfl rfl rfl (fun a hF => ?_)
       refine ls_w hF hW (wanted_y hF rfl rfl rfl rfl) rfl (Nat.le_of_ble_eq_true rfl) ((y_pick_t hF rfl rfl rfl).q) (fun a w hF hW => ?_)
       refine ls hF hW rfl ((y_pick_t hF rfl rfl rfl).q) (fun a w hF hW => ?_)
       refine ls hF hW rfl ((y_move hF rfl).q) (fun a w hF hW => ?_)
       refine ls_g (wanted_y hF rfl rfl rfl rfl) ?_
       obtain ⟨x19, h16, H⟩ := bindE H
       refine ls hF hW rfl (y_call (v := Value.bool x19) hF H6 rfl (fun w hW => L36_awake_c any w _ h16 (hG.go0 hW))) (fun a w hF hW => ?_)
       refine ls hF hW rfl ((y_pick_t hF rfl rfl rfl).q) (fun a w hF hW => ?_)
       refine ls hF hW rfl ((y_assign hF rfl).q) (fun a w hF hW => ?_)
       refine ls_nil (c_then ?_)
       have hW := hW.frontM (i := 1) rfl rfl
       have hW := hW.frontM (i := 1) rfl rfl
       have hW := hW.sub (M' := [(b2, [.int .i64 x6.1.1, .int .i64 x6.1.2.1, .bool x6.1.2.2.1, .int .i64 x6.1.2.2.2.1, .int .i64 x6.1.2.2.2.2.1, .int .i64 x6.1.2.2.2.2.2.1, .bool x6.1.2.2.2.2.2.2.1, .bool x6.1.2.2.2.2.2.2.2.1, .int .i64 x6.1.2.2.2.2.2.2.2.2]), (b1, [.int .i64 x2.1.1, .int .i64 x2.1.2.1, .bool x2.1.2.2.1, .int .i64 x2.1.2.2.2.1, .int .i64 x2.1.2.2.2.2.1, .int .i64 x2.1.2.2.2.2.2.1, .bool x2.1.2.2.2.2.2.2.1, .bool x2.1.2.2.2.2.2.2.2.1, .int .i64 x2.1.2.2.2.2.2.2.2.2])]) (Z' := []) (List.Sublist.refl _) (List.nil_sublist _)
       exact ⟨_, _, H, hF.re ⟨rfl, trivial⟩, hW⟩
      ·
       have H := iteF (of_decide_eq_false hb) H
       rw [hb] at hF
       clear hb
       refine ls_w hF hW (wanted_y hF rfl rfl rfl rfl) rfl (Nat.le_of_ble_eq_true rfl) ((y_move hF rfl).q) (fun a w hF hW => ?_)
       refine ls_w hF hW (wanted_y hF rfl rfl rfl rfl) rfl (Nat.le_of_ble_eq_true rfl) ((y_fieldAddr u28_ rfl rfl rfl T3 hF rfl 0 rfl).q) (fun a w hF hW => ?_)
       refine ls_w hF hW (wanted_y hF rfl rfl rfl rfl) rfl (Nat.le_of_ble_eq_true rfl) ((y_load (v := Value.int .i64 x2.1.1) 1 hF rfl rfl T3 rfl).q) (fun a w hF hW => ?_)
       refine ls_w hF hW (wanted_y hF rfl rfl rfl rfl) rfl (Nat.le_of_ble_eq_true rfl) ((y_gtr hF rfl rfl).q) (fun a w hF hW => ?_)
       refine ls_w hF hW (wanted_y hF rfl rfl rfl rfl) rfl (Nat.le_of_ble_eq_true rfl) ((y_pick_f hF rfl rfl rfl).q) (fun a w hF hW => ?_)
       refine ls hF hW rfl ((y_pick_t hF rfl rfl rfl).q) (fun a w hF hW => ?_)
       refine ls hF hW rfl ((y_move hF rfl).q) (fun a w hF hW => ?_)
       rcases Bool.eq_false_or_eq_true (decide (x2.1.1 < p1)) with hb | hb
       ·
        have H := iteT (of_decide_eq_true hb) H
        rw [hb] at hF
        clear hb
        refine ls_g (wanted_y hF rfl rfl rfl rfl) ?_
        obtain ⟨x20, h17, H⟩ := bindE H
        refine ls hF hW rfl (y_call (v := Value.bool x20) hF H6 rfl (fun w hW => L36_awake_c any w _ h17 (hG.go0 hW))) (fun a w hF hW => ?_)
        refine ls hF hW rfl ((y_pick_t hF rfl rfl rfl).q) (fun a w hF hW => ?_)
        refine ls hF hW rfl ((y_assign hF rfl).q) (fun a w hF hW => ?_)
        refine ls_nil (c_then ?_)
        have hW := hW.frontM (i := 1) rfl rfl
        have hW := hW.frontM (i := 1) rfl rfl
        have hW := hW.sub (M' := [(b2, [.int .i64 x6.1.1, .int .i64 x6.1.2.1, .bool x6.1.2.2.1, .int .i64 x6.1.2.2.2.1, .int .i64 x6.1.2.2.2.2.1, .int .i64 x6.1.2.2.2.2.2.1, .bool x6.1.2.2.2.2.2.2.1, .bool x6.1.2.2.2.2.2.2.2.1, .int .i64 x6.1.2.2.2.2.2.2.2.2]), (b1, [.int .i64 x2.1.1, .int .i64 x2.1.2.1, .bool x2.1.2.2.1, .int .i64 x2.1.2.2.2.1, .int .i64 x2.1.2.2.2.2.1, .int .i64 x2.1.2.2.2.2.2.1, .bool x2.1.2.2.2.2.2.2.1, .bool x2.1.2.2.2.2.2.2.2.1, .int .i64 x2.1.2.2.2.2.2.2.2.2])]) (Z' := []) (List.Sublist.refl _) (List.nil_sublist _)
        exact ⟨_, _, H, hF.re ⟨rfl, trivial⟩, hW⟩
       ·
        have H := iteF (of_decide_eq_false hb) H
        rw [hb] at hF
        clear hb
        refine lsn hF rfl rfl rfl rfl rfl rfl rfl (fun a hF => ?_)
        refine ls hF hW rfl ((y_pick_f hF rfl rfl rfl).q) (fun a w hF hW => ?_)
        refine ls hF hW rfl ((y_assign hF rfl).q) (fun a w hF hW => ?_)
        refine ls_nil (c_then ?_)
        have hW := hW.frontM (i := 1) rfl rfl
        have hW := hW.frontM (i := 1) rfl rfl
        have hW := hW.sub (M' := [(b2, [.int .i64 x6.1.1, .int .i64 x6.1.2.1, .bool x6.1.2.2.1, .int .i64 x6.1.2.2.2.1, .int .i64 x6.1.2.2.2.2.1, .int .i64 x6.1.2.2.2.2.2.1, .bool x6.1.2.2.2.2.2.2.1, .bool x6.1.2.2.2.2.2.2.2.1, .int .i64 x6.1.2.2.2.2.2.2.2.2]), (b1, [.int .i64 x2.1.1, .int .i64 x2.1.2.1, .bool x2.1.2.2.1, .int .i64 x2.1.2.2.2.1, .int .i64 x2.1.2.2.2.2.1, .int .i64 x2.1.2.2.2.2.2.1, .bool x2.1.2.2.2.2.2.2.1, .bool x2.1.2.2.2.2.2.2.2.1, .int .i64 x2.1.2.2.2.2.2.2.2.2])]) (Z' := []) (List.Sublist.refl _) (List.nil_sublist _)
        exact ⟨_, _, H, hF.re ⟨rfl, trivial⟩, hW⟩
    ·
     have H := iteF (of_decide_eq_false hb) H
     rw [hb] at hF
     clear hb
     refine ls_w hF hW (wanted_y hF rfl rfl rfl rfl) rfl (Nat.le_of_ble_eq_true rfl) ((y_fieldAddr u28_ rfl rfl rfl T4 hF rfl 2 rfl).q) (fun a w hF hW => ?_)
     refine ls_w hF hW (wanted_y hF rfl rfl rfl rfl) rfl (Nat.le_of_ble_eq_true rfl) ((y_load (v := Value.bool x2.1.2.2.1) 1 hF rfl rfl T4 rfl).q) (fun a w hF hW => ?_)
     refine ls_w hF hW (wanted_y hF rfl rfl rfl rfl) rfl (Nat.le_of_ble_eq_true rfl) ((y_move hF rfl).q) (fun a w hF hW => ?_)
     rcases Bool.eq_false_or_eq_true x2.1.2.2.1 with hb | hb
     ·
      have H := iteT hb H
      rw [hb] at hF
      rw [hb] at hW
      clear hb
      refine ls_w hF hW (wanted_y hF rfl rfl rfl rfl) rfl (Nat.le_of_ble_eq_true rfl) ((y_fieldAddr u28_ rfl rfl rfl T3 hF rfl 0 rfl).q) (fun a w hF hW => ?_)
      refine ls_w hF hW (wanted_y hF rfl rfl rfl rfl) rfl (Nat.le_of_ble_eq_true rfl) ((y_load (v := Value.int .i64 x2.1.1) 1 hF rfl rfl T3 rfl).q) (fun a w hF hW => ?_)
      refine ls_w hF hW (wanted_y hF rfl rfl rfl rfl) rfl (Nat.le_of_ble_eq_true rfl) ((y_move hF rfl).q) (fun a w hF hW => ?_)
      refine ls_w hF hW (wanted_y hF rfl rfl rfl rfl) rfl (Nat.le_of_ble_eq_true rfl) ((y_eql hF rfl rfl).q) (fun a w hF hW => ?_)
      refine ls_w hF hW (wanted_y hF rfl rfl rfl rfl) rfl (Nat.le_of_ble_eq_true rfl) ((y_pick_t hF rfl rfl rfl).q) (fun a w hF hW => ?_)
      refine ls hF hW rfl ((y_pick_f hF rfl rfl rfl).q) (fun a w hF hW => ?_)
      refine ls hF hW rfl ((y_move hF rfl).q) (fun a w hF hW => ?_)
      rcases Bool.eq_false_or_eq_true (decide (x2.1.1 = p1)) with hb | hb
      ·
       have H := iteT (of_decide_eq_true hb) H
       rw [hb] at hF
       clear hb
       refine ls_w hF hW (wanted_y hF rfl rfl rfl rfl) rfl (Nat.le_of_ble_eq_true rfl) ((y_move hF rfl).q) (fun a w hF hW => ?_)
       refine ls_w hF hW (wanted_y hF rfl rfl rfl rfl) rfl (Nat.le_of_ble_eq_true rfl) ((y_neq hF rfl rfl).q) (fun a w hF hW => ?_)
       refine ls_w hF hW (wanted_y hF rfl rfl rfl rfl) rfl (Nat.le_of_ble_eq_true rfl) ((y_move hF rfl).q) (fun a w hF hW => ?_)
       rcases Bool.eq_false_or_eq_true (decide (x15 ≠ 0)) with hb | hb
       ·
        have H := iteT (of_decide_eq_true hb) H
        rw [hb] at hF
        clear hb
        iterate 2 refine lsn hF rfl rfl rfl rfl rfl rfl rfl (fun a hF => ?_)
        refine ls_w hF hW (wanted_y hF rfl rfl rfl rfl) rfl (Nat.le_of_ble_eq_true rfl) ((y_pick_t hF rfl rfl rfl).q) (fun a w hF hW => ?_)
        refine ls_w hF hW (wanted_y hF rfl rfl rfl rfl) rfl (Nat.le_of_ble_eq_true rfl) ((y_move hF rfl).q) (fun a w hF hW => ?_)
        iterate 4 refine lsn hF rfl rfl rfl rfl rfl rfl rfl (fun a hF => ?_)
        refine ls_w hF hW (wanted_y hF rfl rfl rfl rfl) rfl (Nat.le_of_ble_eq_true rfl) ((y_pick_t hF rfl rfl rfl).q) (fun a w hF hW => ?_)
        refine ls hF hW rfl ((y_pick_t hF rfl rfl rfl).q) (fun a w hF hW => ?_)
        refine ls hF hW rfl ((y_move hF rfl).q) (fun a w hF hW => ?_)
        refine ls_g (wanted_y hF rfl rfl rfl rfl) ?_
        obtain ⟨x21, h18, H⟩ := bindE H
        refine ls hF hW rfl (y_call (v := Value.bool x21) hF H6 rfl (fun w hW => L36_awake_c any w _ h18 (hG.go0 hW))) (fun a w hF hW => ?_)
        refine ls hF hW rfl ((y_pick_t hF rfl rfl rfl).q) (fun a w hF hW => ?_)
        refine ls hF hW rfl ((y_assign hF rfl).q) (fun a w hF hW => ?_)
        refine ls_nil (c_then ?_)
        have hW := hW.frontM (i := 1) rfl rfl
        have hW := hW.frontM (i := 1) rfl rfl
        have hW := hW.sub (M' := [(b2, [.int .i64 x6.1.1, .int .i64 x6.1.2.1, .bool x6.1.2.2.1, .int .i64 x6.1.2.2.2.1, .int .i64 x6.1.2.2.2.2.1, .int .i64 x6.1.2.2.2.2.2.1, .bool x6.1.2.2.2.2.2.2.1, .bool x6.1.2.2.2.2.2.2.2.1, .int .i64 x6.1.2.2.2.2.2.2.2.2]), (b1, [.int .i64 x2.1.1, .int .i64 x2.1.2.1, .bool true, .int .i64 x2.1.2.2.2.1, .int .i64 x2.1.2.2.2.2.1, .int .i64 x2.1.2.2.2.2.2.1, .bool x2.1.2.2.2.2.2.2.1, .bool x2.1.2.2.2.2.2.2.2.1, .int .i64 x2.1.2.2.2.2.2.2.2.2])]) (Z' := []) (List.Sublist.refl _) (List.nil_sublist _)
        exact ⟨_, _, H, hF.re ⟨rfl, trivial⟩, hW⟩
       ·
        have H := iteF (of_decide_eq_false hb) H
        rw [hb] at hF
        clear hb
        refine ls_w hF hW (wanted_y hF rfl rfl rfl rfl) rfl (Nat.le_of_ble_eq_true rfl) ((y_move hF rfl).q) (fun a w hF hW => ?_)
        refine ls_w hF hW (wanted_y hF rfl rfl rfl rfl) rfl (Nat.le_of_ble_eq_true rfl) ((y_lss hF rfl rfl).q) (fun a w hF hW => ?_)
        refine ls_w hF hW (wanted_y hF rfl rfl rfl rfl) rfl (Nat.le_of_ble_eq_true rfl) ((y_pick_f hF rfl rfl rfl).q) (fun a w hF hW => ?_)
        refine ls_w hF hW (wanted_y hF rfl rfl rfl rfl) rfl (Nat.le_of_ble_eq_true rfl) ((y_move hF rfl).q) (fun a w hF hW => ?_)
        rcases Bool.eq_false_or_eq_true (decide (p1 < 1)) with hb | hb
        ·
         have H := iteT (of_decide_eq_true hb) H
         rw [hb] at hF
         clear hb
         iterate 4 refine lsn hF rfl rfl rfl rfl rfl rfl rfl (fun a hF => ?_)
         refine ls_w hF hW (wanted_y hF rfl rfl rfl rfl) rfl (Nat.le_of_ble_eq_true rfl) ((y_pick_t hF rfl rfl rfl).q) (fun a w hF hW => ?_)
         refine ls hF hW rfl ((y_pick_t hF rfl rfl rfl).q) (fun a w hF hW => ?_)
         refine ls hF hW rfl ((y_move hF rfl).q) (fun a w hF hW => ?_)
         refine ls_g (wanted_y hF rfl rfl rfl rfl) ?_
         obtain ⟨x22, h19, H⟩ := bindE H
         refine ls hF hW rfl (y_call (v := Value.bool x22) hF H6 rfl (fun w hW => L36_awake_c any w _ h19 (hG.go0 hW))) (fun a w hF hW => ?_)
         refine ls hF hW rfl ((y_pick_t hF rfl rfl rfl).q) (fun a w hF hW => ?_)
         refine ls hF hW rfl ((y_assign hF rfl).q) (fun a w hF hW => ?_)
         refine ls_nil (c_then ?_)
         have hW := hW.frontM (i := 1) rfl rfl
         have hW := hW.frontM (i := 1) rfl rfl
         have hW := hW.sub (M' := [(b2, [.int .i64 x6.1.1, .int .i64 x6.1.2.1, .bool x6.1.2.2.1, .int .i64 x6.1.2.2.2.1, .int .i64 x6.1.2.2.2.2.1, .int .i64 x6.1.2.2.2.2.2.1, .bool x6.1.2.2.2.2.2.2.1, .bool x6.1.2.2.2.2.2.2.2.1, .int .i64 x6.1.2.2.2.2.2.2.2.2]), (b1, [.int .i64 x2.1.1, .int .i64 x2.1.2.1, .bool true, .int .i64 x2.1.2.2.2.1, .int .i64 x2.1.2.2.2.2.1, .int .i64 x2.1.2.2.2.2.2.1, .bool x2.1.2.2.2.2.2.2.1, .bool x2.1.2.2.2.2.2.2.2.1, .int .i64 x2.1.2.2.2.2.2.2.2.2])]) (Z' := []) (List.Sublist.refl _) (List.nil_sublist _)
         exact ⟨_, _, H, hF.re ⟨rfl, trivial⟩, hW⟩
        ·
         have H := iteF (of_decide_eq_false hb) H
         rw [hb] at hF
         clear hb
         refine ls_w hF hW (wanted_y hF rfl rfl rfl rfl) rfl (Nat.le_of_ble_eq_true rfl) ((y_move hF rfl).q) (fun a w hF hW => ?_)
         refine ls_w hF hW (wanted_y hF rfl rfl rfl rfl) rfl (Nat.le_of_ble_eq_true rfl) ((y_fieldAddr u28_ rfl rfl rfl T3 hF rfl 0 rfl).q) (fun a w hF hW => ?_)
         refine ls_w hF hW (wanted_y hF rfl rfl rfl rfl) rfl (Nat.le_of_ble_eq_true rfl) ((y_load (v := Value.int .i64 x2.1.1) 1 hF rfl rfl T3 rfl).q) (fun a w hF hW => ?_)
         refine ls_w hF hW (wanted_y hF rfl rfl rfl rfl) rfl (Nat.le_of_ble_eq_true rfl) ((y_gtr hF rfl rfl).q) (fun a w hF hW => ?_)
         refine ls_w hF hW (wanted_y hF rfl rfl rfl rfl) rfl (Nat.le_of_ble_eq_true rfl) ((y_pick_f hF rfl rfl rfl).q) (fun a w hF hW => ?_)
         refine ls hF hW rfl ((y_pick_t hF rfl rfl rfl).q) (fun a w hF hW => ?_)
         refine ls hF hW rfl ((y_move hF rfl).q) (fun a w hF hW => ?_)
         rcases Bool.eq_false_or_eq_true (decide (x2.1.1 < p1)) with hb | hb
         ·
          have H := iteT (of_decide_eq_true hb) H
          rw [hb] at hF
          clear hb
          refine ls_g (wanted_y hF rfl rfl rfl rfl) ?_
          obtain ⟨x23, h20, H⟩ := bindE H
          refine ls hF hW rfl (y_call (v := Value.bool x23) hF H6 rfl (fun w hW => L36_awake_c any w _ h20 (hG.go0 hW))) (fun a w hF hW => ?_)
          refine ls hF hW rfl ((y_pick_t hF rfl rfl rfl).q) (fun a w hF hW => ?_)
          refine ls hF hW rfl ((y_assign hF rfl).q) (fun a w hF hW => ?_)
          refine ls_nil (c_then ?_)
          have hW := hW.frontM (i := 1) rfl rfl
          have hW := hW.frontM (i := 1) rfl rfl
          have hW := hW.sub (M' := [(b2, [.int .i64 x6.1.1, .int .i64 x6.1.2.1, .bool x6.1.2.2.1, .int .i64 x6.1.2.2.2.1, .int .i64 x6.1.2.2.2.2.1, .int .i64 x6.1.2.2.2.2.2.1, .bool x6.1.2.2.2.2.2.2.1, .bool x6.1.2.2.2.2.2.2.2.1, .int .i64 x6.1.2.2.2.2.2.2.2.2]), (b1, [.int .i64 x2.1.1, .int .i64 x2.1.2.1, .bool true, .int .i64 x2.1.2.2.2.1, .int .i64 x2.1.2.2.2.2.1, .int .i64 x2.1.2.2.2.2.2.1, .bool x2.1.2.2.2.2.2.2.1, .bool x2.1.2.2.2.2.2.2.2.1, .int .i64 x2.1.2.2.2.2.2.2.2.2])]) (Z' := []) (List.Sublist.refl _) (List.nil_sublist _)
          exact ⟨_, _, H, hF.re ⟨rfl, trivial⟩, hW⟩
         ·
          have H := iteF (of_decide_eq_false hb) H
          rw [hb] at hF
          clear hb
          refine lsn hF rfl rfl rfl rfl rfl rfl rfl (fun a hF => ?_)
          refine ls hF hW rfl ((y_pick_f hF rfl rfl rfl).q) (fun a w hF hW => ?_)
          refine ls hF hW rfl ((y_assign hF rfl).q) (fun a w hF hW => ?_)
          refine ls_nil (c_then ?_)
          have hW := hW.frontM (i := 1) rfl rfl
          have hW := hW.frontM (i := 1) rfl rfl
          have hW := hW.sub (M' := [(b2, [.int .i64 x6.1.1, .int .i64 x6.1.2.1, .bool x6.1.2.2.1, .int .i64 x6.1.2.2.2.1, .int .i64 x6.1.2.2.2.2.1, .int .i64 x6.1.2.2.2.2.2.1, .bool x6.1.2.2.2.2.2.2.1, .bool x6.1.2.2.2.2.2.2.2.1, .int .i64 x6.1.2.2.2.2.2.2.2.2]), (b1, [.int .i64 x2.1.1, .int .i64 x2.1.2.1, .bool true, .int .i64 x2.1.2.2.2.1, .int .i64 x2.1.2.2.2.2.1, .int .i64 x2.1.2.2.2.2.2.1, .bool x2.1.2.2.2.2.2.2.1, .bool x2.1.2.2.2.2.2.2.2.1, .int .i64 x2.1.2.2.2.2.2.2.2.2])]) (Z' := []) (List.Sublist.refl _) (List.nil_sublist _)
          exact ⟨_, _, H, hF.re ⟨rfl, trivial⟩, hW⟩
      ·
       have H := iteF (of_decide_eq_false hb) H
       rw [hb] at hF
       clear hb
       iterate 3 refine lsn hF rfl rfl rfl rfl rfl rfl rfl (fun a hF => ?_)
       iterate 2 refine lsu hF rfl rfl rfl rfl rfl rfl (fun a hF => ?_)
       iterate 2 refine lsn hF rfl rfl rfl rfl rfl rfl rfl (fun a hF => ?_)
       iterate 4 refine lsu hF rfl rfl rfl rfl rfl rfl (fun a hF => ?_)
       refine lsn hF rfl rfl rfl rfl rfl rfl rfl (fun a hF => ?_)
       refine ls hF hW rfl ((y_pick_f hF rfl rfl rfl).q) (fun a w hF hW => ?_)
       refine ls hF hW rfl ((y_move hF rfl).q) (fun a w hF hW => ?_)
       refine lsn hF rfl rfl rfl rfl rfl rfl rfl (fun a hF => ?_)
       refine ls hF hW rfl ((y_pick_f hF rfl rfl rfl).q) (fun a w hF hW => ?_)
       refine ls hF hW rfl ((y_assign hF rfl).q) (fun a w hF hW => ?_)
       refine ls_nil (c_then ?_)
       have hW := hW.frontM (i := 1) rfl rfl
       have hW := hW.frontM (i := 1) rfl rfl
       have hW := hW.sub (M' := [(b2, [.int .i64 x6.1.1, .int .i64 x6.1.2.1, .bool x6.1.2.2.1, .int .i64 x6.1.2.2.2.1, .int .i64 x6.1.2.2.2.2.1, .int .i64 x6.1.2.2.2.2.2.1, .bool x6.1.2.2.2.2.2.2.1, .bool x6.1.2.2.2.2.2.2.2.1, .int .i64 x6.1.2.2.2.2.2.2.2.2]), (b1, [.int .i64 x2.1.1, .int .i64 x2.1.2.1, .bool true, .int .i64 x2.1.2.2.2.1, .int .i64 x2.1.2.2.2.2.1, .int .i64 x2.1.2.2.2.2.2.1, .bool x2.1.2.2.2.2.2.2.1, .bool x2.1.2.2.2.2.2.2.2.1, .int .i64 x2.1.2.2.2.2.2.2.2.2])]) (Z' := []) (List.Sublist.refl _) (List.nil_sublist _)
       exact ⟨_, _, H, hF.re ⟨rfl, trivial⟩, hW⟩
     ·
      have H := iteF (by rw [hb]; decide) H
      rw [hb] at hF
      rw [hb] at hW
      clear hb
      iterate 4 refine lsn hF rfl rfl rfl rfl rfl rfl rfl (fun a hF => ?_)
      refine ls_w hF hW (wanted_y hF rfl rfl rfl rfl) rfl (Nat.le_of_ble_eq_true rfl) ((y_pick_f hF rfl rfl rfl).q) (fun a w hF hW => ?_)
      refine ls hF hW rfl ((y_pick_f hF rfl rfl rfl).q) (fun a w hF hW => ?_)
      refine ls hF hW rfl ((y_move hF rfl).q) (fun a w hF hW => ?_)
      iterate 3 refine lsn hF rfl rfl rfl rfl rfl rfl rfl (fun a hF => ?_)
      iterate 2 refine lsu hF rfl rfl rfl rfl rfl rfl (fun a hF => ?_)
      iterate 2 refine lsn hF rfl rfl rfl rfl rfl rfl rfl (fun a hF => ?_)
      iterate 4 refine lsu hF rfl rfl rfl rfl rfl rfl (fun a hF => ?_)
      refine lsn hF rfl rfl rfl rfl rfl rfl rfl (fun a hF => ?_)
      refine ls hF hW rfl ((y_pick_f hF rfl rfl rfl).q) (fun a w hF hW => ?_)
      refine ls hF hW rfl ((y_move hF rfl).q) (fun a w hF hW => ?_)
      refine lsn hF rfl rfl rfl rfl rfl rfl rfl (fun a hF => ?_)
      refine ls hF hW rfl ((y_pick_f hF rfl rfl rfl).q) (fun a w hF hW => ?_)
      refine ls hF hW rfl ((y_assign hF rfl).q) (fun a w hF hW => ?_)
      refine ls_nil (c_then ?_)
      have hW := hW.frontM (i := 1) rfl rfl
      have hW := hW.frontM (i := 1) rfl rfl
      have hW := hW.sub (M' := [(b2, [.int .i64 x6.1.1, .int .i64 x6.1.2.1, .bool x6.1.2.2.1, .int .i64 x6.1.2.2.2.1, .int .i64 x6.1.2.2.2.2.1, .int .i64 x6.1.2.2.2.2.2.1, .bool x6.1.2.2.2.2.2.2.1, .bool x6.1.2.2.2.2.2.2.2.1, .int .i64 x6.1.2.2.2.2.2.2.2.2]), (b1, [.int .i64 x2.1.1, .int .i64 x2.1.2.1, .bool false, .int .i64 x2.1.2.2.2.1, .int .i64 x2.1.2.2.2.2.1, .int .i64 x2.1.2.2.2.2.2.1, .bool x2.1.2.2.2.2.2.2.1, .bool x2.1.2.2.2.2.2.2.2.1, .int .i64 x2.1.2.2.2.2.2.2.2.2])]) (Z' := []) (List.Sublist.refl _) (List.nil_sublist _)
      exact ⟨_, _, H, hF.re ⟨rfl, trivial⟩, hW⟩
   rintro a w ⟨x16, x17, hj, hF, hW⟩
   have hj := Option.some.inj hj
   subst hj
   have H := K2
   clear G2 K2
   refine wr_ret ?_
   have H := Option.some.inj H
   subst H
   refine post1 (.inl rfl) hF hW rfl (rv_tmp hF rfl) ?_
   exact ⟨rfl, hW.done⟩

end Go.Proofs.YtdllfdmdfdfilaaDoor
