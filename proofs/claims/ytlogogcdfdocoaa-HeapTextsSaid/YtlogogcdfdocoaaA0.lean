/- The functions of layer 13, lifted. Conditions: none. -/
import Derived.Test.YtlogogcdfdocoaaRows
import Derived.Test.YtlogogcdfdocoaaQT
import Derived.Test.YtlogogcdfdocoaaOT
import Derived.Test.YtlogogcdfdocoaaOD
import Derived.Test.YtlogogcdfdocoaaOC
namespace Go.Proofs.Ytlogogcdfdocoaa
open Go Go.RowKit
set_option linter.unusedVariables false
set_option linter.unusedSimpArgs false
set_option maxRecDepth 20000
abbrev R27 : Rp (Int × Int) := (Rp.pair (Rp.int .i64) (Rp.int .i64))
theorem B55 : Bt Try.prog 55 [.slice none 0 0] [(0, 1)] := ⟨⟨.agg #[.slice none 0 0], by kernel_rfl, rfl⟩, ⟨_, Try.underlying55, fun w => by kernel_rfl⟩⟩
def heap_New_int  : List Int := ([] : List Int)
theorem heap_New_int_c (Y : Nat → Prop) (w0 : World)   (r : List Int) (H : heap_New_int  = r)  :
    Calls Try.prog 6 #[] w0 fun e w' => ∃ x : Nat × Value, e = .returned (.pointer (some ⟨x.1, 0, none⟩)) ∧ Stw ⟨Y, [], w0⟩ [(x.1, [x.2])] [row (x.2) 3 (Rp.int .i64) r] w' := by
  refine enter Try.func6 rfl Try.ntmps6 rfl (fun a hF => ?_)
  have hW := Stw.start Y w0
  unfold heap_New_int at H
  refine c_seq ?_
  refine reg_list ?_
  refine ls hF hW rfl ((y_assign hF rfl).q) (fun a w hF hW => ?_)
  refine ls_nil ?_
  refine c_then ?_
  refine c_seq ?_
  refine reg_list ?_
  refine ls hF hW rfl ((y_build (v := Value.agg #[.slice none 0 0]) B55 hF rfl rfl rfl).q) (fun a w hF hW => ?_)
  refine l_box (cs := [.slice none 0 0]) hF hW rfl rfl rfl (fun b1 a w hF hW => ?_)
  refine ls hF hW rfl ((y_assign hF rfl).q) (fun a w hF hW => ?_)
  refine ls_nil ?_
  refine c_then ?_
  refine wp_ret ?_
  subst H
  refine post1 (.inl rfl) hF hW rfl (rv_tmp hF rfl) ?_
  have hW := hW.nilRow 3 (Rp.int .i64)
  exact ⟨(b1, (Value.slice none 0 0)), rfl, hW⟩

theorem H6 : Has Try.prog 6 := ⟨fun args w => run_callFunc_body Try.func6 rfl (by decide) args w⟩
theorem L22 : Et Try.prog 22 27 2 16 := Et.of Try.underlying22 (by kernel_rfl) (by kernel_rfl) (by kernel_rfl) (by decide)
theorem T3 : Ty Try.prog 3 false 1 := ⟨by kernel_rfl, by kernel_rfl⟩
def E27 (a : Int × Int) : List Value := [.int .i64 a.1, .int .i64 a.2]
theorem F27 : Fl R27 E27 := (Fl.pair Fl.int Fl.int)
theorem T25 : Ty Try.prog 25 false 1 := ⟨by kernel_rfl, by kernel_rfl⟩
theorem Z3 : (Try.prog.info? 3).bind (·.zero) = some (.int .i64 0) := by kernel_rfl
theorem L25 : Et Try.prog 25 3 1 8 := Et.of Try.underlying25 (by kernel_rfl) (by kernel_rfl) (by kernel_rfl) (by decide)
theorem MO : Try.prog.follows .mixedOrders = true := by kernel_rfl
def cmp_isNaN_int (p0 : Int) : Bool := decide (p0 ≠ p0)
theorem cmp_isNaN_int_c (Y : Nat → Prop) (w0 : World)  (p0 : Int) (r : Bool) (H : cmp_isNaN_int p0 = r)  :
    Calls Try.prog 40 #[.int .i64 p0] w0 fun e w' => e = .returned (.bool r) ∧ Below w0.heap.size w0 w' := by
  refine enter Try.func40 rfl Try.ntmps40 rfl (fun a hF => ?_)
  have hW := Stw.start Y w0
  unfold cmp_isNaN_int at H
  refine c_seq ?_
  refine reg_list ?_
  refine ls hF hW rfl ((y_assign hF rfl).q) (fun a w hF hW => ?_)
  refine ls_nil ?_
  refine c_then ?_
  refine c_seq ?_
  refine reg_list ?_
  refine ls hF hW rfl ((y_move hF rfl).q) (fun a w hF hW => ?_)
  refine ls hF hW rfl ((y_move hF rfl).q) (fun a w hF hW => ?_)
  refine ls hF hW rfl ((y_neq hF rfl rfl).q) (fun a w hF hW => ?_)
  refine ls hF hW rfl ((y_assign hF rfl).q) (fun a w hF hW => ?_)
  refine ls_nil ?_
  refine c_then ?_
  refine wp_ret ?_
  subst H
  refine post1 (.inl rfl) hF hW rfl (rv_tmp hF rfl) ?_
  exact ⟨rfl, hW.done⟩

theorem H40 : Has Try.prog 40 := ⟨fun args w => run_callFunc_body Try.func40 rfl (by decide) args w⟩
def cmp_Less_int (p0 : Int) (p1 : Int) : Bool := (bif (cmp_isNaN_int p0) then (!(cmp_isNaN_int p1) || decide (p0 < p1)) else decide (p0 < p1))
theorem cmp_Less_int_c (Y : Nat → Prop) (w0 : World)  (p0 : Int) (p1 : Int) (r : Bool) (H : cmp_Less_int p0 p1 = r)  :
    Calls Try.prog 27 #[.int .i64 p0, .int .i64 p1] w0 fun e w' => e = .returned (.bool r) ∧ Below w0.heap.size w0 w' := by
  refine enter Try.func27 rfl Try.ntmps27 rfl (fun a hF => ?_)
  have hW := Stw.start Y w0
  unfold cmp_Less_int at H
  refine c_seq ?_
  refine reg_list ?_
  refine ls hF hW rfl ((y_assign hF rfl).q) (fun a w hF hW => ?_)
  refine ls_nil ?_
  refine c_then ?_
  refine c_seqJ (fun a w => Fr 17 [] [(4, .bool (bif (cmp_isNaN_int p0) then (!(cmp_isNaN_int p1) || decide (p0 < p1)) else decide (p0 < p1)))] a ∧ Stw ⟨Y, [], w0⟩ [] [] w) ?_ ?_
  ·
    refine reg_list ?_
    refine ls hF hW rfl ((y_move hF rfl).q) (fun a w hF hW => ?_)
    refine ls hF hW rfl (y_call (v := Value.bool (cmp_isNaN_int p0)) hF H40 rfl (fun w hW => cmp_isNaN_int_c any w p0 _ rfl)) (fun a w hF hW => ?_)
    refine ls hF hW rfl ((y_move hF rfl).q) (fun a w hF hW => ?_)
    rcases Bool.eq_false_or_eq_true (cmp_isNaN_int p0) with hb0 | hb0
    ·
      rw [hb0] at hF
      refine ls_w hF hW (wanted_y hF rfl rfl rfl rfl) rfl (Nat.le_of_ble_eq_true rfl) ((y_move hF rfl).q) (fun a w hF hW => ?_)
      refine ls_g (wanted_y hF rfl rfl rfl rfl) ?_
      refine ls hF hW rfl (y_call (v := Value.bool (cmp_isNaN_int p1)) hF H40 rfl (fun w hW => cmp_isNaN_int_c any w p1 _ rfl)) (fun a w hF hW => ?_)
      refine ls_w hF hW (wanted_y hF rfl rfl rfl rfl) rfl (Nat.le_of_ble_eq_true rfl) ((y_not hF rfl).q) (fun a w hF hW => ?_)
      refine ls hF hW rfl ((y_pick_t hF rfl rfl rfl).q) (fun a w hF hW => ?_)
      refine ls hF hW rfl ((y_move hF rfl).q) (fun a w hF hW => ?_)
      rcases Bool.eq_false_or_eq_true (!(cmp_isNaN_int p1)) with hb1 | hb1
      ·
        rw [hb1] at hF
        refine ls_skip hF (wanted_n hF rfl rfl rfl rfl rfl) rfl rfl (fun a hF => ?_)
        refine ls_skip hF (wanted_n hF rfl rfl rfl rfl rfl) rfl rfl (fun a hF => ?_)
        refine ls_skip hF (wanted_n hF rfl rfl rfl rfl rfl) rfl rfl (fun a hF => ?_)
        refine ls hF hW rfl ((y_pick_t hF rfl rfl rfl).q) (fun a w hF hW => ?_)
        refine ls hF hW rfl ((y_assign hF rfl).q) (fun a w hF hW => ?_)
        refine ls_nil ?_
        refine c_then ?_
        exact ⟨hF.re ⟨(by show some (Value.bool true) = some (Value.bool (bif (cmp_isNaN_int p0) then (!(cmp_isNaN_int p1) || decide (p0 < p1)) else decide (p0 < p1))); try rw [hb1]; try rw [hb0]; all_goals simp only [Bool.not_true, Bool.not_false, Bool.true_and, Bool.false_and, Bool.true_or, Bool.false_or, Bool.and_true, Bool.or_false, cond_true, cond_false]), trivial⟩, hW⟩
      ·
        rw [hb1] at hF
        refine ls_w hF hW (wanted_y hF rfl rfl rfl rfl) rfl (Nat.le_of_ble_eq_true rfl) ((y_move hF rfl).q) (fun a w hF hW => ?_)
        refine ls_w hF hW (wanted_y hF rfl rfl rfl rfl) rfl (Nat.le_of_ble_eq_true rfl) ((y_move hF rfl).q) (fun a w hF hW => ?_)
        refine ls_w hF hW (wanted_y hF rfl rfl rfl rfl) rfl (Nat.le_of_ble_eq_true rfl) ((y_lss hF rfl rfl).q) (fun a w hF hW => ?_)
        refine ls hF hW rfl ((y_pick_f hF rfl rfl rfl).q) (fun a w hF hW => ?_)
        refine ls hF hW rfl ((y_assign hF rfl).q) (fun a w hF hW => ?_)
        refine ls_nil ?_
        refine c_then ?_
        exact ⟨hF.re ⟨(by show some (Value.bool (decide (p0 < p1))) = some (Value.bool (bif (cmp_isNaN_int p0) then (!(cmp_isNaN_int p1) || decide (p0 < p1)) else decide (p0 < p1))); try rw [hb1]; try rw [hb0]; all_goals simp only [Bool.not_true, Bool.not_false, Bool.true_and, Bool.false_and, Bool.true_or, Bool.false_or, Bool.and_true, Bool.or_false, cond_true, cond_false]), trivial⟩, hW⟩
    ·
      rw [hb0] at hF
      refine ls_skip hF (wanted_n hF rfl rfl rfl rfl rfl) rfl rfl (fun a hF => ?_)
      refine ls_skip hF (wanted_n hF rfl rfl rfl rfl rfl) rfl rfl (fun a hF => ?_)
      refine ls_skip hF (wanted_n hF rfl rfl rfl rfl rfl) rfl rfl (fun a hF => ?_)
      refine ls hF hW rfl ((y_pick_f hF rfl rfl rfl).q) (fun a w hF hW => ?_)
      refine ls hF hW rfl ((y_move hF rfl).q) (fun a w hF hW => ?_)
      refine ls_w hF hW (wanted_y hF rfl rfl rfl rfl) rfl (Nat.le_of_ble_eq_true rfl) ((y_move hF rfl).q) (fun a w hF hW => ?_)
      refine ls_w hF hW (wanted_y hF rfl rfl rfl rfl) rfl (Nat.le_of_ble_eq_true rfl) ((y_move hF rfl).q) (fun a w hF hW => ?_)
      refine ls_w hF hW (wanted_y hF rfl rfl rfl rfl) rfl (Nat.le_of_ble_eq_true rfl) ((y_lss hF rfl rfl).q) (fun a w hF hW => ?_)
      refine ls hF hW rfl ((y_pick_f hF rfl rfl rfl).q) (fun a w hF hW => ?_)
      refine ls hF hW rfl ((y_assign hF rfl).q) (fun a w hF hW => ?_)
      refine ls_nil ?_
      refine c_then ?_
      exact ⟨hF.re ⟨(by show some (Value.bool (decide (p0 < p1))) = some (Value.bool (bif (cmp_isNaN_int p0) then (!(cmp_isNaN_int p1) || decide (p0 < p1)) else decide (p0 < p1))); try rw [hb0]; all_goals simp only [Bool.not_true, Bool.not_false, Bool.true_and, Bool.false_and, Bool.true_or, Bool.false_or, Bool.and_true, Bool.or_false, cond_true, cond_false]), trivial⟩, hW⟩
  rintro a w ⟨hF, hW⟩
  refine wp_ret ?_
  subst H
  refine post1 (.inl rfl) hF hW rfl (rv_tmp hF rfl) ?_
  exact ⟨rfl, hW.done⟩

theorem H27 : Has Try.prog 27 := ⟨fun args w => run_callFunc_body Try.func27 rfl (by decide) args w⟩
noncomputable def heap_Queue_int_up_l1  : (Int × List Int) → Option ((Int × List Int) ⊕ (List Int))
  | (x1, x2) => (if 0 < x1 then (ix x2 x1).bind fun x3 => (ix x2 (w64 (Int.tdiv (w64 (x1 - 1)) 2))).bind fun x4 => (if (!(cmp_Less_int x3 x4)) = true then some (.inr x2) else (ix x2 (w64 (Int.tdiv (w64 (x1 - 1)) 2))).bind fun x5 => (ix x2 x1).bind fun x6 => (ix x2 x1).bind fun x7 => (ix (setAt x2 x1 x5) (w64 (Int.tdiv (w64 (x1 - 1)) 2))).bind fun x8 => some (.inl (w64 (Int.tdiv (w64 (x1 - 1)) 2), (setAt (setAt x2 x1 x5) (w64 (Int.tdiv (w64 (x1 - 1)) 2)) x6)))) else some (.inr x2))
noncomputable def heap_Queue_int_up (p0 : List Int) (p1 : Int) : Option (List Int) := loopW (heap_Queue_int_up_l1) (p1, p0)
theorem heap_Queue_int_up_c (Y : Nat → Prop) (X : List Nat) (w0 : World) (q_p0 : Nat) (v1 : Value) (p0 : List Int) (p1 : Int) (r : List Int) (H : heap_Queue_int_up p0 p1 = some r) (hL : Stw ⟨Y, X, w0⟩ [(q_p0, [v1])] [row v1 3 (Rp.int .i64) p0] w0) :
    Calls Try.prog 25 #[.pointer (some ⟨q_p0, 0, none⟩), .int .i64 p1] w0 fun e w' => ∃ x : Value, e = .returned (.tuple #[]) ∧ Stw ⟨Y, X, w0⟩ [(q_p0, [x])] [row (x) 3 (Rp.int .i64) r] w' := by
  refine enter Try.func25 rfl Try.ntmps25 rfl (fun a hF => ?_)
  have hW := hL
  unfold heap_Queue_int_up at H
  refine wp_block ?_
  refine c_loopW H (fun s a w => Fr 53 [] [(0, .pointer (some ⟨q_p0, 0, none⟩)), (1, .int .i64 s.1)] a ∧ Stw ⟨Y, X, w0⟩ [(q_p0, [v1])] [row v1 3 (Rp.int .i64) s.2] w) ⟨hF.re ⟨rfl, rfl, trivial⟩, hW⟩ (fun s o a w H L1 hR => ?_)
  obtain ⟨x1, x2⟩ := s
  obtain ⟨hF, hW⟩ := hR
  have hF : Fr 53 [] [(0, .pointer (some ⟨q_p0, 0, none⟩)), (1, .int .i64 x1)] a := hF
  have hW : Stw ⟨Y, X, w0⟩ [(q_p0, [v1])] [row v1 3 (Rp.int .i64) x2] w := hW
  rw [heap_Queue_int_up_l1] at H
  refine c_seq ?_
  refine c_seq ?_
  refine reg_list ?_
  refine ls hF hW rfl ((y_move hF rfl).q) (fun a w hF hW => ?_)
  refine ls hF hW rfl ((y_gtr hF rfl rfl).q) (fun a w hF hW => ?_)
  refine ls_nil ?_
  refine c_then ?_
  refine c_cond hF rfl (fun hb => ?_) (fun hb => ?_)
  ·
    have H := iteT (of_decide_eq_true hb) H
    rw [hb] at hF
    clear hb
    refine wp_skip ?_
    refine c_then ?_
    refine wp_block ?_
    refine c_seq ?_
    refine reg_list ?_
    refine ls hF hW rfl ((y_move hF rfl).q) (fun a w hF hW => ?_)
    refine ls hF hW rfl ((y_sub hF rfl rfl rfl).q) (fun a w hF hW => ?_)
    refine ls hF hW rfl ((y_quo hF rfl rfl (by decide) rfl).q) (fun a w hF hW => ?_)
    refine ls hF hW rfl ((y_assign hF rfl).q) (fun a w hF hW => ?_)
    refine ls_nil ?_
    refine c_then ?_
    refine c_seq ?_
    refine c_seq ?_
    refine reg_quiet hW MO (by kernel_rfl) ?_
    refine qs hF rfl ((y_move hF rfl).q) (fun a hF => ?_)
    refine qs hF rfl ((y_nilCheck hF rfl).q) (fun a hF => ?_)
    refine qs hF rfl ((y_fieldAddr Try.underlying55 rfl rfl rfl T25 hF rfl 0 rfl).q) (fun a hF => ?_)
    refine qs hF rfl ((y_load (v := v1) 0 hF rfl rfl T25 rfl).q) (fun a hF => ?_)
    refine qs hF rfl ((y_move hF rfl).q) (fun a hF => ?_)
    obtain ⟨x3, h1, H⟩ := bindE H
    refine qs hF rfl ((y_index (r := (Rp.int .i64)) L25 hF rfl rfl (rdc_row 0 rfl) h1).q) (fun a hF => ?_)
    refine qs hF rfl ((y_load_el (y := Value.int .i64 x3) (j := 0) (i := x1) hF rfl rfl (rdc_row 0 rfl) h1 Fl.int.to T3 rfl).q) (fun a hF => ?_)
    refine qs hF rfl ((y_move hF rfl).q) (fun a hF => ?_)
    refine qs hF rfl ((y_nilCheck hF rfl).q) (fun a hF => ?_)
    refine qs hF rfl ((y_fieldAddr Try.underlying55 rfl rfl rfl T25 hF rfl 0 rfl).q) (fun a hF => ?_)
    refine qs hF rfl ((y_load (v := v1) 0 hF rfl rfl T25 rfl).q) (fun a hF => ?_)
    refine qs hF rfl ((y_move hF rfl).q) (fun a hF => ?_)
    obtain ⟨x4, h2, H⟩ := bindE H
    refine qs hF rfl ((y_index (r := (Rp.int .i64)) L25 hF rfl rfl (rdc_row 0 rfl) h2).q) (fun a hF => ?_)
    refine qs hF rfl ((y_load_el (y := Value.int .i64 x4) (j := 0) (i := w64 (Int.tdiv (w64 (x1 - 1)) 2)) hF rfl rfl (rdc_row 0 rfl) h2 Fl.int.to T3 rfl).q) (fun a hF => ?_)
    refine qs hF rfl (y_call (v := Value.bool (cmp_Less_int x3 x4)) hF H27 rfl (fun w hW => cmp_Less_int_c any w x3 x4 _ rfl)) (fun a hF => ?_)
    refine qs hF rfl ((y_not hF rfl).q) (fun a hF => ?_)
    refine quiet_end (fun w hW => ?_)
    refine c_then ?_
    refine c_cond hF rfl (fun hb => ?_) (fun hb => ?_)
    ·
      have H := iteT hb H
      rw [hb] at hF
      clear hb
      refine wp_ret ?_
      refine r_then ?_
      refine r_block ?_
      refine r_then ?_
      refine r_block ?_
      have H := L1 _ H
      have H := Option.some.inj H
      subst H
      refine post0 (.inl rfl) hF rfl ?_
      exact ⟨(v1), rfl, hW⟩
    ·
      have H := iteF (by rw [hb]; decide) H
      rw [hb] at hF
      clear hb
      refine wp_skip ?_
      refine c_then ?_
      refine c_seq ?_
      refine reg_ord 25 [9] [0, 1, 2, 3, 4, 5, 6, 7, 8, 10, 11, 12, 13, 14, 15, 16, 17, 18, 19, 20, 21, 22, 23, 24] (fun ch a d v w h => by cases d <;> exact h) hW MO (by kernel_rfl) ?_
      refine hm hF rfl rfl rfl (fun a hF => ?_)
      refine hm_end ?_
      refine hs hF rfl rfl rfl ((y_move hF rfl).q) (fun a hF => ?_)
      refine hs hF rfl rfl rfl ((y_nilCheck hF rfl).q) (fun a hF => ?_)
      refine hs hF rfl rfl rfl ((y_fieldAddr Try.underlying55 rfl rfl rfl T25 hF rfl 0 rfl).q) (fun a hF => ?_)
      refine hs hF rfl rfl rfl ((y_load (v := v1) 0 hF rfl rfl T25 rfl).q) (fun a hF => ?_)
      refine hs hF rfl rfl rfl ((y_move hF rfl).q) (fun a hF => ?_)
      refine hs hF rfl rfl rfl ((y_move hF rfl).q) (fun a hF => ?_)
      refine hs hF rfl rfl rfl ((y_nilCheck hF rfl).q) (fun a hF => ?_)
      refine hs hF rfl rfl rfl ((y_fieldAddr Try.underlying55 rfl rfl rfl T25 hF rfl 0 rfl).q) (fun a hF => ?_)
      refine hs hF rfl rfl rfl ((y_load (v := v1) 0 hF rfl rfl T25 rfl).q) (fun a hF => ?_)
      refine hs hF rfl rfl rfl ((y_move hF rfl).q) (fun a hF => ?_)
      refine hs hF rfl rfl rfl ((y_nilCheck hF rfl).q) (fun a hF => ?_)
      refine hs hF rfl rfl rfl ((y_fieldAddr Try.underlying55 rfl rfl rfl T25 hF rfl 0 rfl).q) (fun a hF => ?_)
      refine hs hF rfl rfl rfl ((y_load (v := v1) 0 hF rfl rfl T25 rfl).q) (fun a hF => ?_)
      refine hs hF rfl rfl rfl ((y_move hF rfl).q) (fun a hF => ?_)
      obtain ⟨x5, h3, H⟩ := bindE H
      refine hs hF rfl rfl rfl ((y_index (r := (Rp.int .i64)) L25 hF rfl rfl (rdc_row 0 rfl) h3).q) (fun a hF => ?_)
      refine hs hF rfl rfl rfl ((y_load_el (y := Value.int .i64 x5) (j := 0) (i := w64 (Int.tdiv (w64 (x1 - 1)) 2)) hF rfl rfl (rdc_row 0 rfl) h3 Fl.int.to T3 rfl).q) (fun a hF => ?_)
      refine hs hF rfl rfl rfl ((y_move hF rfl).q) (fun a hF => ?_)
      refine hs hF rfl rfl rfl ((y_nilCheck hF rfl).q) (fun a hF => ?_)
      refine hs hF rfl rfl rfl ((y_fieldAddr Try.underlying55 rfl rfl rfl T25 hF rfl 0 rfl).q) (fun a hF => ?_)
      refine hs hF rfl rfl rfl ((y_load (v := v1) 0 hF rfl rfl T25 rfl).q) (fun a hF => ?_)
      refine hs hF rfl rfl rfl ((y_move hF rfl).q) (fun a hF => ?_)
      obtain ⟨x6, h4, H⟩ := bindE H
      refine hs hF rfl rfl rfl ((y_index (r := (Rp.int .i64)) L25 hF rfl rfl (rdc_row 0 rfl) h4).q) (fun a hF => ?_)
      refine hs hF rfl rfl rfl ((y_load_el (y := Value.int .i64 x6) (j := 0) (i := x1) hF rfl rfl (rdc_row 0 rfl) h4 Fl.int.to T3 rfl).q) (fun a hF => ?_)
      obtain ⟨x7, h5, H⟩ := bindE H
      refine hs hF rfl rfl rfl ((y_index (r := (Rp.int .i64)) L25 hF rfl rfl (rdc_row 0 rfl) h5).q) (fun a hF => ?_)
      refine h_end (fun w hW => ?_)
      have hW : Stw ⟨Y, X, w0⟩ [(q_p0, [v1])] [row v1 3 (Rp.int .i64) x2] w := hW
      refine l_store_el (i := x1) (j := 0) (vs := [.int .i64 x5]) (x' := x5) hF hW rfl rfl rfl (k := 0) rfl rfl h5 T3 rfl rfl rfl rfl (fun A cs _ => Fl.int.sto (by rfl) _ _ _) (fun w hW => ?_)
      obtain ⟨x8, h6, H⟩ := bindE H
      refine ls hF hW rfl ((y_index (r := (Rp.int .i64)) L25 hF rfl rfl (rdc_row 0 rfl) h6).q) (fun a w hF hW => ?_)
      refine l_store_el (i := w64 (Int.tdiv (w64 (x1 - 1)) 2)) (j := 0) (vs := [.int .i64 x6]) (x' := x6) hF hW rfl rfl rfl (k := 0) rfl rfl h6 T3 rfl rfl rfl rfl (fun A cs _ => Fl.int.sto (by rfl) _ _ _) (fun w hW => ?_)
      refine ls_nil ?_
      refine c_then ?_
      refine reg_list ?_
      refine ls hF hW rfl ((y_move hF rfl).q) (fun a w hF hW => ?_)
      refine ls hF hW rfl ((y_assign hF rfl).q) (fun a w hF hW => ?_)
      refine ls_nil ?_
      refine b_normal ?_
      refine c_then ?_
      exact ⟨_, H, hF.re ⟨rfl, rfl, trivial⟩, hW⟩
  ·
    have H := iteF (of_decide_eq_false hb) H
    rw [hb] at hF
    clear hb
    refine wp_exit ?_
    refine e_then ?_
    refine e_then ?_
    refine e_block ?_
    have H := L1 _ H
    have H := Option.some.inj H
    subst H
    refine post0 (.inr rfl) hF rfl ?_
    exact ⟨(v1), rfl, hW⟩

theorem H25 : Has Try.prog 25 := ⟨fun args w => run_callFunc_body Try.func25 rfl (by decide) args w⟩
noncomputable def heap_Queue_int_Push (p0 : List Int) (p1 : Int) : Option (List Int) := (app p0 ([p1] : List Int)).bind fun x1 => (heap_Queue_int_up x1 (w64 ((x1.length : Int) - 1))).bind fun x2 => some x2
theorem heap_Queue_int_Push_c (Y : Nat → Prop) (X : List Nat) (w0 : World) (q_p0 : Nat) (v1 : Value) (p0 : List Int) (p1 : Int) (r : List Int) (H : heap_Queue_int_Push p0 p1 = some r) (hL : Stw ⟨Y, X, w0⟩ [(q_p0, [v1])] [row v1 3 (Rp.int .i64) p0] w0) :
    Calls Try.prog 7 #[.pointer (some ⟨q_p0, 0, none⟩), .int .i64 p1] w0 fun e w' => ∃ x : Value, e = .returned (.tuple #[]) ∧ Stw ⟨Y, X, w0⟩ [(q_p0, [x])] [row (x) 3 (Rp.int .i64) r] w' := by
  refine enter Try.func7 rfl Try.ntmps7 rfl (fun a hF => ?_)
  have hW := hL
  unfold heap_Queue_int_Push at H
  refine c_seq ?_
  refine c_seq ?_
  refine reg_list ?_
  refine ls hF hW rfl ((y_move hF rfl).q) (fun a w hF hW => ?_)
  refine ls hF hW rfl ((y_peq_some_nil Try.underlying23 hF rfl rfl).q) (fun a w hF hW => ?_)
  refine ls_nil ?_
  refine c_then ?_
  refine c_cond_f hF rfl ?_
  refine wp_skip ?_
  refine c_then ?_
  refine c_seq ?_
  refine reg_list ?_
  refine ls hF hW rfl ((y_move hF rfl).q) (fun a w hF hW => ?_)
  refine ls hF hW rfl ((y_move hF rfl).q) (fun a w hF hW => ?_)
  refine ls hF hW rfl ((y_nilCheck hF rfl).q) (fun a w hF hW => ?_)
  refine ls hF hW rfl ((y_fieldAddr Try.underlying55 rfl rfl rfl T25 hF rfl 0 rfl).q) (fun a w hF hW => ?_)
  refine ls hF hW rfl ((y_load (v := v1) 0 hF rfl rfl T25 rfl).q) (fun a w hF hW => ?_)
  refine ls hF hW rfl ((y_move hF rfl).q) (fun a w hF hW => ?_)
  refine l_lit (z := Value.int .i64 0) (cs := [.int .i64 p1]) (Rp.int .i64) ([p1] : List Int) hF hW rfl L25 Z3 rfl rfl rfl rfl rfl rfl (Fl.int.repL _ _ ([p1] : List Int)) (fun v2 a w hF hW => ?_)
  obtain ⟨x1, h1, H⟩ := bindE H
  refine l_append (r := (Rp.int .i64)) (i := 1) hF hW rfl L25 rfl rfl rfl rfl (src_row hW 0 rfl) h1 rfl (fun v3 a w hF hW => ?_)
  have hW : Stw ⟨Y, X, w0⟩ [(q_p0, [v1])] [row v3 3 (Rp.int .i64) x1, row v2 3 (Rp.int .i64) ([p1] : List Int)] w := hW
  refine ls hF hW rfl ((y_nilCheck hF rfl).q) (fun a w hF hW => ?_)
  refine ls hF hW rfl ((y_fieldAddr Try.underlying55 rfl rfl rfl T25 hF rfl 0 rfl).q) (fun a w hF hW => ?_)
  refine l_store1 (M' := [(q_p0, [v3])]) 0 hF hW rfl rfl rfl T25 (hW.one (k := 0) rfl) rfl rfl (fun w hW => ?_)
  refine ls_nil ?_
  refine c_then ?_
  refine reg_list ?_
  refine ls hF hW rfl ((y_move hF rfl).q) (fun a w hF hW => ?_)
  refine ls hF hW rfl ((y_move hF rfl).q) (fun a w hF hW => ?_)
  refine ls hF hW rfl ((y_nilCheck hF rfl).q) (fun a w hF hW => ?_)
  refine ls hF hW rfl ((y_fieldAddr Try.underlying55 rfl rfl rfl T25 hF rfl 0 rfl).q) (fun a w hF hW => ?_)
  refine ls hF hW rfl ((y_load (v := v3) 0 hF rfl rfl T25 rfl).q) (fun a w hF hW => ?_)
  refine ls hF hW rfl ((y_len (r := (Rp.int .i64)) (l := x1) Try.underlying25 rfl hF rfl (rdc_row 0 rfl)).q) (fun a w hF hW => ?_)
  refine ls hF hW rfl ((y_sub hF rfl rfl rfl).q) (fun a w hF hW => ?_)
  obtain ⟨x2, h2, H⟩ := bindE H
  refine l_callG (Ml := [(q_p0, [v3])]) (Zl := [row v3 3 (Rp.int .i64) x1]) (M := []) (Z := [row v2 3 (Rp.int .i64) ([p1] : List Int)]) (β := Value) (rv := fun x => .tuple #[]) (MM := fun x => [(q_p0, [x])]) (ZZ := fun x => [row x 3 (Rp.int .i64) x2]) hF hW H25 rfl rfl (fun hL => heap_Queue_int_up_c _ _ w q_p0 (v3) x1 (w64 ((x1.length : Int) - 1)) _ h2 hL) (fun x a w hF hW => ?_)
  obtain ⟨v4, rfl⟩ : ∃ y, y = x := ⟨x, rfl⟩
  have hW : Stw ⟨Y, X, w0⟩ [(q_p0, [v4])] [row v4 3 (Rp.int .i64) x2, row v2 3 (Rp.int .i64) ([p1] : List Int)] w := hW
  refine ls_nil ?_
  have H := Option.some.inj H
  subst H
  refine post0 (.inr rfl) hF rfl ?_
  have hW := hW.sub (M' := [(q_p0, [v4])]) (Z' := [row v4 3 (Rp.int .i64) x2]) (List.Sublist.refl _) (List.Sublist.cons_cons _ (List.nil_sublist _))
  exact ⟨(v4), rfl, hW⟩

theorem H7 : Has Try.prog 7 := ⟨fun args w => run_callFunc_body Try.func7 rfl (by decide) args w⟩
noncomputable def r13_Push_l1 (p0 : List Int) (p1 : Int) : (List Int × Bool × Int) → Option ((List Int × Bool × Int) ⊕ (List Int × Bool))
  | (x3, x4, x5) => (if x5 < (p0.length : Int) then ((if (!x4) = true then (ix p0 x5).bind fun x9 => some (decide (p1 < x9)) else some false).bind fun x8 => (if x8 = true then (app x3 ([p1] : List Int)).bind fun x10 => some (x10, true) else some (x3, x4))).bind fun (x6, x7) => (ix p0 x5).bind fun x11 => (app x6 ([x11] : List Int)).bind fun x12 => some (.inl (x12, x7, w64 (x5 + 1))) else some (.inr (x3, x4)))
noncomputable def r13_Push (p0 : List Int) (p1 : Int) : Option (List Int) := (loopW (r13_Push_l1 p0 p1) ([], false, 0)).bind fun (x1, x2) => (if (!x2) = true then (app x1 ([p1] : List Int)).bind fun x14 => some x14 else some x1).bind fun x13 => some x13
theorem r13_Push_c (Y : Nat → Prop) (w0 : World) (v1 : Value) (p0 : List Int) (p1 : Int) (r : List Int) (H : r13_Push p0 p1 = some r) (h_v1 : Sl w0 (NX []) (Rp.int .i64) v1 p0) :
    Calls Try.prog 8 #[v1, .int .i64 p1] w0 fun e w' => ∃ x : Value, e = .returned (x) ∧ Stw ⟨Y, [], w0⟩ [] [row (x) 3 (Rp.int .i64) r] w' := by
  refine enter Try.func8 rfl Try.ntmps8 rfl (fun a hF => ?_)
  have hW := Stw.start Y w0
  unfold r13_Push at H
  refine c_seq ?_
  refine reg_list ?_
  refine ls hF hW rfl ((y_assign hF rfl).q) (fun a w hF hW => ?_)
  refine ls_nil ?_
  refine c_then ?_
  refine c_seq ?_
  refine reg_list ?_
  refine ls hF hW rfl ((y_assign hF rfl).q) (fun a w hF hW => ?_)
  refine ls_nil ?_
  refine c_then ?_
  refine c_seq ?_
  refine reg_list ?_
  refine ls hF hW rfl ((y_assign hF rfl).q) (fun a w hF hW => ?_)
  refine ls_nil ?_
  refine c_then ?_
  obtain ⟨o1, G1, K1⟩ := bindE H
  refine c_seqJ (fun a w => ∃ x1 : List Int, ∃ x2 : Bool, ∃ v2 : Value, some ((x1, x2)) = some o1 ∧ Fr 42 [] [(1, .int .i64 p1), (4, .slice none 0 0), (5, v2), (6, .bool x2)] a ∧ Stw ⟨Y, [], w0⟩ [] [row v2 3 (Rp.int .i64) x1] w) ?_ ?_
  ·
    have H := G1
    clear G1 K1
    refine c_seq ?_
    refine reg_list ?_
    refine ls hF hW rfl ((y_assign hF rfl).q) (fun a w hF hW => ?_)
    refine ls_nil ?_
    refine c_then ?_
    refine wp_block ?_
    have hW := hW.nilRow 3 (Rp.int .i64)
    refine c_loopW H (fun s a w => ∃ v3 : Value, Fr 42 [] [(0, v1), (1, .int .i64 p1), (4, .slice none 0 0), (5, v3), (6, .bool s.2.1), (7, .int .i64 s.2.2)] a ∧ Stw ⟨Y, [], w0⟩ [] [row v3 3 (Rp.int .i64) s.1] w) ⟨(Value.slice none 0 0), hF.re ⟨rfl, rfl, rfl, rfl, rfl, rfl, trivial⟩, hW⟩ (fun s o a w H L2 hR => ?_)
    obtain ⟨x3, x4, x5⟩ := s
    obtain ⟨v3, hF, hW⟩ := hR
    have hF : Fr 42 [] [(0, v1), (1, .int .i64 p1), (4, .slice none 0 0), (5, v3), (6, .bool x4), (7, .int .i64 x5)] a := hF
    have hW : Stw ⟨Y, [], w0⟩ [] [row v3 3 (Rp.int .i64) x3] w := hW
    rw [r13_Push_l1] at H
    refine c_seq ?_
    refine c_seq ?_
    refine reg_list ?_
    refine ls hF hW rfl ((y_move hF rfl).q) (fun a w hF hW => ?_)
    refine ls hF hW rfl ((y_move hF rfl).q) (fun a w hF hW => ?_)
    refine ls hF hW rfl ((y_len (r := (Rp.int .i64)) (l := p0) Try.underlying25 rfl hF rfl (rdc_ro h_v1)).q) (fun a w hF hW => ?_)
    refine ls hF hW rfl ((y_lss hF rfl rfl).q) (fun a w hF hW => ?_)
    refine ls_nil ?_
    refine c_then ?_
    refine c_cond hF rfl (fun hb => ?_) (fun hb => ?_)
    ·
      have H := iteT (of_decide_eq_true hb) H
      rw [hb] at hF
      clear hb
      refine wp_skip ?_
      refine c_then ?_
      refine c_seq ?_
      refine wp_block ?_
      obtain ⟨o3, G3, K3⟩ := bindE H
      refine c_seqJ (fun a w => ∃ x6 : List Int, ∃ x7 : Bool, ∃ v4 : Value, some ((x6, x7)) = some o3 ∧ Fr 42 [] [(0, v1), (1, .int .i64 p1), (4, .slice none 0 0), (5, v4), (6, .bool x7), (7, .int .i64 x5)] a ∧ Stw ⟨Y, [], w0⟩ [] [row v4 3 (Rp.int .i64) x6] w) ?_ ?_
      ·
        have H := G3
        clear G3 K3
        obtain ⟨o4, G4, K4⟩ := bindE H
        refine c_seqJ (fun a w => ∃ x8 : Bool, some (x8) = some o4 ∧ Fr 42 [] [(0, v1), (1, .int .i64 p1), (4, .slice none 0 0), (5, v3), (6, .bool x4), (7, .int .i64 x5), (23, .bool x8)] a ∧ Stw ⟨Y, [], w0⟩ [] [row v3 3 (Rp.int .i64) x3] w) ?_ ?_
        ·
          have H := G4
          clear G4 K4
          refine reg_list ?_
          refine ls hF hW rfl ((y_move hF rfl).q) (fun a w hF hW => ?_)
          refine ls hF hW rfl ((y_not hF rfl).q) (fun a w hF hW => ?_)
          refine ls hF hW rfl ((y_move hF rfl).q) (fun a w hF hW => ?_)
          rcases Bool.eq_false_or_eq_true (!x4) with hb | hb
          ·
            have H := iteT hb H
            rw [hb] at hF
            clear hb
            refine ls_w hF hW (wanted_y hF rfl rfl rfl rfl) rfl (Nat.le_of_ble_eq_true rfl) ((y_move hF rfl).q) (fun a w hF hW => ?_)
            refine ls_w hF hW (wanted_y hF rfl rfl rfl rfl) rfl (Nat.le_of_ble_eq_true rfl) ((y_move hF rfl).q) (fun a w hF hW => ?_)
            refine ls_w hF hW (wanted_y hF rfl rfl rfl rfl) rfl (Nat.le_of_ble_eq_true rfl) ((y_move hF rfl).q) (fun a w hF hW => ?_)
            obtain ⟨x9, h1, H⟩ := bindE H
            refine ls_w hF hW (wanted_y hF rfl rfl rfl rfl) rfl (Nat.le_of_ble_eq_true rfl) ((y_index (r := (Rp.int .i64)) L25 hF rfl rfl (rdc_ro h_v1) h1).q) (fun a w hF hW => ?_)
            refine ls_w hF hW (wanted_y hF rfl rfl rfl rfl) rfl (Nat.le_of_ble_eq_true rfl) ((y_load_el (y := Value.int .i64 x9) (j := 0) (i := x5) hF rfl rfl (rdc_ro h_v1) h1 Fl.int.to T3 rfl).q) (fun a w hF hW => ?_)
            refine ls_w hF hW (wanted_y hF rfl rfl rfl rfl) rfl (Nat.le_of_ble_eq_true rfl) ((y_lss hF rfl rfl).q) (fun a w hF hW => ?_)
            refine ls hF hW rfl ((y_pick_t hF rfl rfl rfl).q) (fun a w hF hW => ?_)
            refine ls_nil ?_
            refine c_then ?_
            exact ⟨_, H, hF.re ⟨rfl, rfl, rfl, rfl, rfl, rfl, rfl, trivial⟩, hW⟩
          ·
            have H := iteF (by rw [hb]; decide) H
            rw [hb] at hF
            clear hb
            refine ls_skip hF (wanted_n hF rfl rfl rfl rfl rfl) rfl rfl (fun a hF => ?_)
            refine ls_skip hF (wanted_n hF rfl rfl rfl rfl rfl) rfl rfl (fun a hF => ?_)
            refine ls_skip hF (wanted_n hF rfl rfl rfl rfl rfl) rfl rfl (fun a hF => ?_)
            refine ls_skip hF (wanted_n hF rfl rfl rfl rfl rfl) rfl rfl (fun a hF => ?_)
            refine ls_skip hF (wanted_n hF rfl rfl rfl rfl rfl) rfl rfl (fun a hF => ?_)
            refine ls_skip hF (wanted_n hF rfl rfl rfl rfl rfl) rfl rfl (fun a hF => ?_)
            refine ls hF hW rfl ((y_pick_f hF rfl rfl rfl).q) (fun a w hF hW => ?_)
            refine ls_nil ?_
            refine c_then ?_
            exact ⟨_, H, hF.re ⟨rfl, rfl, rfl, rfl, rfl, rfl, rfl, trivial⟩, hW⟩
        rintro a w ⟨x8, hj, hF, hW⟩
        have hj := Option.some.inj hj
        subst hj
        have H := K4
        clear G4 K4
        refine c_cond hF rfl (fun hb => ?_) (fun hb => ?_)
        ·
          have H := iteT hb H
          rw [hb] at hF
          clear hb
          refine c_seq ?_
          refine reg_list ?_
          refine ls hF hW rfl ((y_move hF rfl).q) (fun a w hF hW => ?_)
          refine ls hF hW rfl ((y_move hF rfl).q) (fun a w hF hW => ?_)
          refine l_lit (z := Value.int .i64 0) (cs := [.int .i64 p1]) (Rp.int .i64) ([p1] : List Int) hF hW rfl L25 Z3 rfl rfl rfl rfl rfl rfl (Fl.int.repL _ _ ([p1] : List Int)) (fun v5 a w hF hW => ?_)
          obtain ⟨x10, h2, H⟩ := bindE H
          refine l_append (r := (Rp.int .i64)) (i := 1) hF hW rfl L25 rfl rfl rfl rfl (src_row hW 0 rfl) h2 rfl (fun v6 a w hF hW => ?_)
          have hW : Stw ⟨Y, [], w0⟩ [] [row v6 3 (Rp.int .i64) x10, row v5 3 (Rp.int .i64) ([p1] : List Int)] w := hW
          refine ls hF hW rfl ((y_assign hF rfl).q) (fun a w hF hW => ?_)
          refine ls_nil ?_
          refine c_then ?_
          refine reg_list ?_
          refine ls hF hW rfl ((y_assign hF rfl).q) (fun a w hF hW => ?_)
          refine ls_nil ?_
          refine c_then ?_
          have hW := hW.sub (M' := []) (Z' := [row v6 3 (Rp.int .i64) x10]) (List.Sublist.refl _) (List.Sublist.cons_cons _ (List.nil_sublist _))
          exact ⟨_, _, (v6), H, hF.re ⟨rfl, rfl, rfl, rfl, rfl, rfl, trivial⟩, hW⟩
        ·
          have H := iteF (by rw [hb]; decide) H
          rw [hb] at hF
          clear hb
          refine wp_skip ?_
          refine c_then ?_
          exact ⟨_, _, (v3), H, hF.re ⟨rfl, rfl, rfl, rfl, rfl, rfl, trivial⟩, hW⟩
      rintro a w ⟨x6, x7, v4, hj, hF, hW⟩
      have hj := Option.some.inj hj
      subst hj
      have H := K3
      clear G3 K3
      refine reg_list ?_
      refine ls hF hW rfl ((y_move hF rfl).q) (fun a w hF hW => ?_)
      refine ls hF hW rfl ((y_move hF rfl).q) (fun a w hF hW => ?_)
      refine ls hF hW rfl ((y_move hF rfl).q) (fun a w hF hW => ?_)
      obtain ⟨x11, h3, H⟩ := bindE H
      refine ls hF hW rfl ((y_index (r := (Rp.int .i64)) L25 hF rfl rfl (rdc_ro h_v1) h3).q) (fun a w hF hW => ?_)
      refine ls hF hW rfl ((y_load_el (y := Value.int .i64 x11) (j := 0) (i := x5) hF rfl rfl (rdc_ro h_v1) h3 Fl.int.to T3 rfl).q) (fun a w hF hW => ?_)
      refine l_lit (z := Value.int .i64 0) (cs := [.int .i64 x11]) (Rp.int .i64) ([x11] : List Int) hF hW rfl L25 Z3 rfl rfl rfl rfl rfl rfl (Fl.int.repL _ _ ([x11] : List Int)) (fun v7 a w hF hW => ?_)
      obtain ⟨x12, h4, H⟩ := bindE H
      refine l_append (r := (Rp.int .i64)) (i := 1) hF hW rfl L25 rfl rfl rfl rfl (src_row hW 0 rfl) h4 rfl (fun v8 a w hF hW => ?_)
      have hW : Stw ⟨Y, [], w0⟩ [] [row v8 3 (Rp.int .i64) x12, row v7 3 (Rp.int .i64) ([x11] : List Int)] w := hW
      refine ls hF hW rfl ((y_assign hF rfl).q) (fun a w hF hW => ?_)
      refine ls_nil ?_
      refine b_normal ?_
      refine c_then ?_
      refine reg_list ?_
      refine ls hF hW rfl ((y_move hF rfl).q) (fun a w hF hW => ?_)
      refine ls hF hW rfl ((y_add hF rfl rfl rfl).q) (fun a w hF hW => ?_)
      refine ls hF hW rfl ((y_assign hF rfl).q) (fun a w hF hW => ?_)
      refine ls_nil ?_
      refine c_then ?_
      have hW := hW.sub (M' := []) (Z' := [row v8 3 (Rp.int .i64) x12]) (List.Sublist.refl _) (List.Sublist.cons_cons _ (List.nil_sublist _))
      exact ⟨_, H, (v8), hF.re ⟨rfl, rfl, rfl, rfl, rfl, rfl, trivial⟩, hW⟩
    ·
      have H := iteF (of_decide_eq_false hb) H
      rw [hb] at hF
      clear hb
      refine wp_exit ?_
      refine e_then ?_
      refine e_then ?_
      refine e_block ?_
      refine c_then ?_
      have H := L2 _ H
      exact ⟨_, _, (v3), H, hF.re ⟨rfl, rfl, rfl, rfl, trivial⟩, hW⟩
  rintro a w ⟨x1, x2, v2, hj, hF, hW⟩
  have hj := Option.some.inj hj
  subst hj
  have H := K1
  clear G1 K1
  obtain ⟨o5, G5, K5⟩ := bindE H
  refine c_seqJ (fun a w => ∃ x13 : List Int, ∃ v9 : Value, some (x13) = some o5 ∧ Fr 42 [] [(4, .slice none 0 0), (5, v9)] a ∧ Stw ⟨Y, [], w0⟩ [] [row v9 3 (Rp.int .i64) x13] w) ?_ ?_
  ·
    have H := G5
    clear G5 K5
    refine c_seq ?_
    refine reg_list ?_
    refine ls hF hW rfl ((y_move hF rfl).q) (fun a w hF hW => ?_)
    refine ls hF hW rfl ((y_not hF rfl).q) (fun a w hF hW => ?_)
    refine ls_nil ?_
    refine c_then ?_
    refine c_cond hF rfl (fun hb => ?_) (fun hb => ?_)
    ·
      have H := iteT hb H
      rw [hb] at hF
      clear hb
      refine reg_list ?_
      refine ls hF hW rfl ((y_move hF rfl).q) (fun a w hF hW => ?_)
      refine ls hF hW rfl ((y_move hF rfl).q) (fun a w hF hW => ?_)
      refine l_lit (z := Value.int .i64 0) (cs := [.int .i64 p1]) (Rp.int .i64) ([p1] : List Int) hF hW rfl L25 Z3 rfl rfl rfl rfl rfl rfl (Fl.int.repL _ _ ([p1] : List Int)) (fun v10 a w hF hW => ?_)
      obtain ⟨x14, h5, H⟩ := bindE H
      refine l_append (r := (Rp.int .i64)) (i := 1) hF hW rfl L25 rfl rfl rfl rfl (src_row hW 0 rfl) h5 rfl (fun v11 a w hF hW => ?_)
      have hW : Stw ⟨Y, [], w0⟩ [] [row v11 3 (Rp.int .i64) x14, row v10 3 (Rp.int .i64) ([p1] : List Int)] w := hW
      refine ls hF hW rfl ((y_assign hF rfl).q) (fun a w hF hW => ?_)
      refine ls_nil ?_
      refine c_then ?_
      have hW := hW.sub (M' := []) (Z' := [row v11 3 (Rp.int .i64) x14]) (List.Sublist.refl _) (List.Sublist.cons_cons _ (List.nil_sublist _))
      exact ⟨_, (v11), H, hF.re ⟨rfl, rfl, trivial⟩, hW⟩
    ·
      have H := iteF (by rw [hb]; decide) H
      rw [hb] at hF
      clear hb
      refine wp_skip ?_
      refine c_then ?_
      exact ⟨_, (v2), H, hF.re ⟨rfl, rfl, trivial⟩, hW⟩
  rintro a w ⟨x13, v9, hj, hF, hW⟩
  have hj := Option.some.inj hj
  subst hj
  have H := K5
  clear G5 K5
  refine c_seq ?_
  refine reg_list ?_
  refine ls hF hW rfl ((y_move hF rfl).q) (fun a w hF hW => ?_)
  refine ls hF hW rfl ((y_assign hF rfl).q) (fun a w hF hW => ?_)
  refine ls_nil ?_
  refine c_then ?_
  refine wp_ret ?_
  have H := Option.some.inj H
  subst H
  refine post1 (.inl rfl) hF hW rfl (rv_tmp hF rfl) ?_
  exact ⟨(v9), rfl, hW⟩

theorem H8 : Has Try.prog 8 := ⟨fun args w => run_callFunc_body Try.func8 rfl (by decide) args w⟩
def heap_Queue_int_Len (p0 : List Int) : Int := (p0.length : Int)
theorem heap_Queue_int_Len_c (Y : Nat → Prop) (w0 : World) (q_p0 : Nat) (v1 : Value) (p0 : List Int) (r : Int) (H : heap_Queue_int_Len p0 = r) (h_v1 : Sl w0 (NX []) (Rp.int .i64) v1 p0) (a_q_p0 : At ⟨Y, [], w0⟩ q_p0 0 [v1]) :
    Calls Try.prog 17 #[.pointer (some ⟨q_p0, 0, none⟩)] w0 fun e w' => e = .returned (.int .i64 r) ∧ Below w0.heap.size w0 w' := by
  refine enter Try.func17 rfl Try.ntmps17 rfl (fun a hF => ?_)
  have hW := Stw.start Y w0
  unfold heap_Queue_int_Len at H
  refine c_seq ?_
  refine reg_list ?_
  refine ls hF hW rfl ((y_assign hF rfl).q) (fun a w hF hW => ?_)
  refine ls_nil ?_
  refine c_then ?_
  refine c_seq ?_
  refine c_seq ?_
  refine reg_list ?_
  refine ls hF hW rfl ((y_move hF rfl).q) (fun a w hF hW => ?_)
  refine ls hF hW rfl ((y_peq_some_nil Try.underlying23 hF rfl rfl).q) (fun a w hF hW => ?_)
  refine ls_nil ?_
  refine c_then ?_
  refine c_cond_f hF rfl ?_
  refine wp_skip ?_
  refine c_then ?_
  refine c_seq ?_
  refine reg_list ?_
  refine ls hF hW rfl ((y_move hF rfl).q) (fun a w hF hW => ?_)
  refine ls hF hW rfl ((y_nilCheck hF rfl).q) (fun a w hF hW => ?_)
  refine ls hF hW rfl ((y_fieldAddr Try.underlying55 rfl rfl rfl T25 hF rfl 0 rfl).q) (fun a w hF hW => ?_)
  refine ls hF hW rfl ((y_load_at (y := v1) (j := 0) hF rfl (Nat.zero_add _).symm a_q_p0 T25 rfl).q) (fun a w hF hW => ?_)
  refine ls hF hW rfl ((y_len (r := (Rp.int .i64)) (l := p0) Try.underlying25 rfl hF rfl (rdc_ro h_v1)).q) (fun a w hF hW => ?_)
  refine ls hF hW rfl ((y_assign hF rfl).q) (fun a w hF hW => ?_)
  refine ls_nil ?_
  refine c_then ?_
  refine wp_ret ?_
  subst H
  refine post1 (.inl rfl) hF hW rfl (rv_tmp hF rfl) ?_
  exact ⟨rfl, hW.done⟩

theorem H17 : Has Try.prog 17 := ⟨fun args w => run_callFunc_body Try.func17 rfl (by decide) args w⟩
noncomputable def heap_Queue_int_Peek (p0 : List Int) : Option (Int × Bool) := (if (heap_Queue_int_Len p0) = 0 then some (0, false) else (ix p0 0).bind fun x1 => some (x1, true))
theorem heap_Queue_int_Peek_c (Y : Nat → Prop) (w0 : World) (q_p0 : Nat) (v1 : Value) (p0 : List Int) (r : Int × Bool) (H : heap_Queue_int_Peek p0 = some r) (h_v1 : Sl w0 (NX []) (Rp.int .i64) v1 p0) (a_q_p0 : At ⟨Y, [], w0⟩ q_p0 0 [v1]) :
    Calls Try.prog 16 #[.pointer (some ⟨q_p0, 0, none⟩)] w0 fun e w' => e = .returned (.tuple #[.int .i64 r.1, .bool r.2]) ∧ Below w0.heap.size w0 w' := by
  refine enter Try.func16 rfl Try.ntmps16 rfl (fun a hF => ?_)
  have hW := Stw.start Y w0
  unfold heap_Queue_int_Peek at H
  refine c_seq ?_
  refine reg_list ?_
  refine ls hF hW rfl ((y_assign hF rfl).q) (fun a w hF hW => ?_)
  refine ls hF hW rfl ((y_assign hF rfl).q) (fun a w hF hW => ?_)
  refine ls_nil ?_
  refine c_then ?_
  refine c_seq ?_
  refine c_seq ?_
  refine reg_list ?_
  refine ls hF hW rfl ((y_move hF rfl).q) (fun a w hF hW => ?_)
  refine ls hF hW rfl (y_call (v := Value.int .i64 (heap_Queue_int_Len p0)) hF H17 rfl (fun w hW => heap_Queue_int_Len_c any w q_p0 (v1) p0 _ rfl (((rdc_ro h_v1) : Rdc _ _ _ _ _ _) w hW).nx (At.re a_q_p0 hW))) (fun a w hF hW => ?_)
  refine ls hF hW rfl ((y_eql hF rfl rfl).q) (fun a w hF hW => ?_)
  refine ls_nil ?_
  refine c_then ?_
  refine c_cond hF rfl (fun hb => ?_) (fun hb => ?_)
  ·
    have H := iteT (of_decide_eq_true hb) H
    rw [hb] at hF
    clear hb
    refine c_seq ?_
    refine reg_list ?_
    refine ls hF hW rfl ((y_assign hF rfl).q) (fun a w hF hW => ?_)
    refine ls_nil ?_
    refine c_then ?_
    refine c_seq ?_
    refine reg_list ?_
    refine ls hF hW rfl ((y_move hF rfl).q) (fun a w hF hW => ?_)
    refine ls hF hW rfl ((y_assign hF rfl).q) (fun a w hF hW => ?_)
    refine ls hF hW rfl ((y_assign hF rfl).q) (fun a w hF hW => ?_)
    refine ls_nil ?_
    refine c_then ?_
    refine wp_ret ?_
    refine r_then ?_
    have H := Option.some.inj H
    subst H
    refine post2 (.inl rfl) hF hW rfl (rv_tmp hF rfl) (rv_tmp hF rfl) ?_
    exact ⟨rfl, hW.done⟩
  ·
    have H := iteF (of_decide_eq_false hb) H
    rw [hb] at hF
    clear hb
    refine wp_skip ?_
    refine c_then ?_
    refine c_seq ?_
    refine reg_list ?_
    refine ls hF hW rfl ((y_move hF rfl).q) (fun a w hF hW => ?_)
    refine ls hF hW rfl ((y_nilCheck hF rfl).q) (fun a w hF hW => ?_)
    refine ls hF hW rfl ((y_fieldAddr Try.underlying55 rfl rfl rfl T25 hF rfl 0 rfl).q) (fun a w hF hW => ?_)
    refine ls hF hW rfl ((y_load_at (y := v1) (j := 0) hF rfl (Nat.zero_add _).symm a_q_p0 T25 rfl).q) (fun a w hF hW => ?_)
    obtain ⟨x1, h1, H⟩ := bindE H
    refine ls hF hW rfl ((y_index (r := (Rp.int .i64)) L25 hF rfl rfl (rdc_ro h_v1) h1).q) (fun a w hF hW => ?_)
    refine ls hF hW rfl ((y_load_el (y := Value.int .i64 x1) (j := 0) (i := 0) hF rfl rfl (rdc_ro h_v1) h1 Fl.int.to T3 rfl).q) (fun a w hF hW => ?_)
    refine ls hF hW rfl ((y_assign hF rfl).q) (fun a w hF hW => ?_)
    refine ls hF hW rfl ((y_assign hF rfl).q) (fun a w hF hW => ?_)
    refine ls_nil ?_
    refine c_then ?_
    refine wp_ret ?_
    have H := Option.some.inj H
    subst H
    refine post2 (.inl rfl) hF hW rfl (rv_tmp hF rfl) (rv_tmp hF rfl) ?_
    exact ⟨rfl, hW.done⟩

theorem H16 : Has Try.prog 16 := ⟨fun args w => run_callFunc_body Try.func16 rfl (by decide) args w⟩
noncomputable def slices_Delete_int_int (p0 : List Int) (p1 : Int) (p2 : Int) : Option (List Int) := (subl p0 p1 p2).bind fun x1 => (if p1 = p2 then some p0 else (subl p0 0 p1).bind fun x2 => (subl p0 p2 (p0.length : Int)).bind fun x3 => (spl p0 (x2.length : Int) x3).bind fun x4 => (subl x4 0 ((x2.length : Int) + (x3.length : Int))).bind fun x5 => (subl x4 (x5.length : Int) (p0.length : Int)).bind fun x6 => (spl x4 (x5.length : Int) (List.replicate (x6.length) (0 : Int))).bind fun x7 => some x5)
theorem slices_Delete_int_int_c (Y : Nat → Prop) (X : List Nat) (w0 : World) (v1 : Value) (p0 : List Int) (p1 : Int) (p2 : Int) (r : List Int) (H : slices_Delete_int_int p0 p1 p2 = some r) (hL : Stw ⟨Y, X, w0⟩ [] [row v1 3 (Rp.int .i64) p0] w0) :
    Calls Try.prog 38 #[v1, .int .i64 p1, .int .i64 p2] w0 fun e w' => ∃ x : Value, e = .returned (x) ∧ Stw ⟨Y, X, w0⟩ [] [row (x) 3 (Rp.int .i64) r] w' := by
  refine enter Try.func38 rfl Try.ntmps38 rfl (fun a hF => ?_)
  have hW := hL
  unfold slices_Delete_int_int at H
  refine c_seq ?_
  refine reg_list ?_
  refine ls hF hW rfl ((y_assign hF rfl).q) (fun a w hF hW => ?_)
  refine ls_nil ?_
  refine c_then ?_
  refine c_seq ?_
  refine reg_list ?_
  refine ls hF hW rfl ((y_move hF rfl).q) (fun a w hF hW => ?_)
  refine ls hF hW rfl ((y_move hF rfl).q) (fun a w hF hW => ?_)
  refine ls hF hW rfl ((y_move hF rfl).q) (fun a w hF hW => ?_)
  refine ls hF hW rfl ((y_move hF rfl).q) (fun a w hF hW => ?_)
  refine ls hF hW rfl ((y_len (r := (Rp.int .i64)) (l := p0) Try.underlying25 rfl hF rfl (rdc_row 0 rfl)).q) (fun a w hF hW => ?_)
  obtain ⟨x1, h1, H⟩ := bindE H
  refine ls hF hW rfl ((y_slice3 (r := (Rp.int .i64)) L25 hF rfl rfl rfl rfl rfl (rdc_row 0 rfl) h1).q) (fun a w hF hW => ?_)
  refine ls_nil ?_
  refine c_then ?_
  refine c_seq ?_
  refine c_seq ?_
  refine reg_list ?_
  refine ls hF hW rfl ((y_move hF rfl).q) (fun a w hF hW => ?_)
  refine ls hF hW rfl ((y_move hF rfl).q) (fun a w hF hW => ?_)
  refine ls hF hW rfl ((y_eql hF rfl rfl).q) (fun a w hF hW => ?_)
  refine ls_nil ?_
  refine c_then ?_
  refine c_cond hF rfl (fun hb => ?_) (fun hb => ?_)
  ·
    have H := iteT (of_decide_eq_true hb) H
    rw [hb] at hF
    clear hb
    refine c_seq ?_
    refine reg_list ?_
    refine ls hF hW rfl ((y_move hF rfl).q) (fun a w hF hW => ?_)
    refine ls hF hW rfl ((y_assign hF rfl).q) (fun a w hF hW => ?_)
    refine ls_nil ?_
    refine c_then ?_
    refine wp_ret ?_
    refine r_then ?_
    have H := Option.some.inj H
    subst H
    refine post1 (.inl rfl) hF hW rfl (rv_tmp hF rfl) ?_
    exact ⟨(v1), rfl, hW⟩
  ·
    have H := iteF (of_decide_eq_false hb) H
    rw [hb] at hF
    clear hb
    refine wp_skip ?_
    refine c_then ?_
    refine c_seq ?_
    refine reg_list ?_
    refine ls hF hW rfl ((y_move hF rfl).q) (fun a w hF hW => ?_)
    refine ls hF hW rfl ((y_len (r := (Rp.int .i64)) (l := p0) Try.underlying25 rfl hF rfl (rdc_row 0 rfl)).q) (fun a w hF hW => ?_)
    refine ls hF hW rfl ((y_assign hF rfl).q) (fun a w hF hW => ?_)
    refine ls_nil ?_
    refine c_then ?_
    refine c_seq ?_
    refine reg_tail 6 hW MO (by kernel_rfl) ?_
    refine qs hF rfl ((y_move hF rfl).q) (fun a hF => ?_)
    refine qs hF rfl ((y_move hF rfl).q) (fun a hF => ?_)
    obtain ⟨x2, h2, H⟩ := bindE H
    refine qs hF rfl ((y_slice (r := (Rp.int .i64)) L25 hF rfl rfl rfl (rdc_row 0 rfl) h2).q) (fun a hF => ?_)
    refine qs hF rfl ((y_move hF rfl).q) (fun a hF => ?_)
    refine qs hF rfl ((y_move hF rfl).q) (fun a hF => ?_)
    obtain ⟨x3, h3, H⟩ := bindE H
    refine qs hF rfl ((y_slice (r := (Rp.int .i64)) L25 hF rfl rfl rfl (rdc_row 0 rfl) h3).q) (fun a hF => ?_)
    refine quiet_end (fun w hW => ?_)
    obtain ⟨x4, h4, H⟩ := bindE H
    obtain ⟨x5, h5, H⟩ := bindE H
    refine l_append_in (r := (Rp.int .i64)) (v := v1) (k := 0) hF hW rfl L25 rfl rfl rfl rfl h2 (Src.sub (src_row hW 0 rfl) h3) h4 (fun a w hF hW => ?_)
    have hW : Stw ⟨Y, X, w0⟩ [] [row v1 3 (Rp.int .i64) x4] w := hW
    refine ls hF hW rfl ((y_assign hF rfl).q) (fun a w hF hW => ?_)
    refine ls_nil ?_
    refine c_then ?_
    refine c_seq ?_
    refine reg_list ?_
    refine ls hF hW rfl ((y_move hF rfl).q) (fun a w hF hW => ?_)
    refine ls hF hW rfl ((y_move hF rfl).q) (fun a w hF hW => ?_)
    refine ls hF hW rfl ((y_len (r := (Rp.int .i64)) (l := x5) Try.underlying25 rfl hF rfl (rdc_sub (rdc_row 0 rfl) h5)).q) (fun a w hF hW => ?_)
    refine ls hF hW rfl ((y_move hF rfl).q) (fun a w hF hW => ?_)
    obtain ⟨x6, h6, H⟩ := bindE H
    refine ls hF hW rfl ((y_slice_ext (r := (Rp.int .i64)) L25 hF rfl rfl rfl (rdc_row 0 rfl) h6).q) (fun a w hF hW => ?_)
    obtain ⟨x7, h7, H⟩ := bindE H
    refine l_clear (r := (Rp.int .i64)) (v := v1) (k := 0) (0 : Int) hF hW L25 Z3 rfl rfl rfl h6 (fun w A => Fl.int.mk' w A (0 : Int)) h7 (fun w hW => ?_)
    have h8 := spl_pre h7 (Int.le_of_eq (sub0_len h5).symm) h5
    have hW : Stw ⟨Y, X, w0⟩ [] [row v1 3 (Rp.int .i64) x7] w := hW
    refine ls_nil ?_
    refine c_then ?_
    refine c_seq ?_
    refine reg_list ?_
    refine ls hF hW rfl ((y_move hF rfl).q) (fun a w hF hW => ?_)
    refine ls hF hW rfl ((y_assign hF rfl).q) (fun a w hF hW => ?_)
    refine ls_nil ?_
    refine c_then ?_
    refine wp_ret ?_
    have H := Option.some.inj H
    subst H
    refine post1 (.inl rfl) hF hW rfl (rv_tmp hF rfl) ?_
    have hW := hW.subRow (k := 0) rfl rfl h8
    exact ⟨((slSub v1 (0 : Int) ((x2.length : Int) + (x3.length : Int)) 1)), rfl, hW⟩

theorem H38 : Has Try.prog 38 := ⟨fun args w => run_callFunc_body Try.func38 rfl (by decide) args w⟩
noncomputable def heap_Queue_int_down_l2 (x1 : Int) (x2 : List Int) : (Int × Int) → Option ((Int × Int) ⊕ Int)
  | (x4, x5) => (if (decide (x5 ≤ (w64 ((w64 (2 * x1)) + 2))) && decide (x5 < (x2.length : Int))) = true then ((ix x2 x5).bind fun x7 => (ix x2 x4).bind fun x8 => (if (cmp_Less_int x7 x8) = true then some x5 else some x4)).bind fun x6 => some (.inl (x6, w64 (x5 + 1))) else some (.inr x4))
noncomputable def heap_Queue_int_down_l1  : (Int × List Int) → Option ((Int × List Int) ⊕ (List Int))
  | (x1, x2) => (loopW (heap_Queue_int_down_l2 x1 x2) (x1, w64 ((w64 (2 * x1)) + 1))).bind fun x3 => (if x3 = x1 then some (.inr x2) else (ix x2 x3).bind fun x9 => (ix x2 x1).bind fun x10 => (ix x2 x1).bind fun x11 => (ix (setAt x2 x1 x9) x3).bind fun x12 => some (.inl (x3, (setAt (setAt x2 x1 x9) x3 x10))))
noncomputable def heap_Queue_int_down (p0 : List Int) (p1 : Int) : Option (List Int) := loopW (heap_Queue_int_down_l1) (p1, p0)
theorem heap_Queue_int_down_c (Y : Nat → Prop) (X : List Nat) (w0 : World) (q_p0 : Nat) (v1 : Value) (p0 : List Int) (p1 : Int) (r : List Int) (H : heap_Queue_int_down p0 p1 = some r) (hL : Stw ⟨Y, X, w0⟩ [(q_p0, [v1])] [row v1 3 (Rp.int .i64) p0] w0) :
    Calls Try.prog 39 #[.pointer (some ⟨q_p0, 0, none⟩), .int .i64 p1] w0 fun e w' => ∃ x : Value, e = .returned (.tuple #[]) ∧ Stw ⟨Y, X, w0⟩ [(q_p0, [x])] [row (x) 3 (Rp.int .i64) r] w' := by
  refine enter Try.func39 rfl Try.ntmps39 rfl (fun a hF => ?_)
  have hW := hL
  unfold heap_Queue_int_down at H
  refine wp_block ?_
  refine c_loopW H (fun s a w => Fr 72 [] [(0, .pointer (some ⟨q_p0, 0, none⟩)), (1, .int .i64 s.1)] a ∧ Stw ⟨Y, X, w0⟩ [(q_p0, [v1])] [row v1 3 (Rp.int .i64) s.2] w) ⟨hF.re ⟨rfl, rfl, trivial⟩, hW⟩ (fun s o a w H L1 hR => ?_)
  obtain ⟨x1, x2⟩ := s
  obtain ⟨hF, hW⟩ := hR
  have hF : Fr 72 [] [(0, .pointer (some ⟨q_p0, 0, none⟩)), (1, .int .i64 x1)] a := hF
  have hW : Stw ⟨Y, X, w0⟩ [(q_p0, [v1])] [row v1 3 (Rp.int .i64) x2] w := hW
  rw [heap_Queue_int_down_l1] at H
  refine wp_block ?_
  refine c_seq ?_
  refine reg_list ?_
  refine ls hF hW rfl ((y_move hF rfl).q) (fun a w hF hW => ?_)
  refine ls hF hW rfl ((y_assign hF rfl).q) (fun a w hF hW => ?_)
  refine ls_nil ?_
  refine c_then ?_
  obtain ⟨o2, G2, K2⟩ := bindE H
  refine c_seqJ (fun a w => ∃ x3 : Int, some (x3) = some o2 ∧ Fr 72 [] [(0, .pointer (some ⟨q_p0, 0, none⟩)), (1, .int .i64 x1), (4, .int .i64 x3)] a ∧ Stw ⟨Y, X, w0⟩ [(q_p0, [v1])] [row v1 3 (Rp.int .i64) x2] w) ?_ ?_
  ·
    have H := G2
    clear G2 K2
    refine c_seq ?_
    refine reg_list ?_
    refine ls hF hW rfl ((y_move hF rfl).q) (fun a w hF hW => ?_)
    refine ls hF hW rfl ((y_mul hF rfl rfl rfl).q) (fun a w hF hW => ?_)
    refine ls hF hW rfl ((y_add hF rfl rfl rfl).q) (fun a w hF hW => ?_)
    refine ls hF hW rfl ((y_assign hF rfl).q) (fun a w hF hW => ?_)
    refine ls_nil ?_
    refine c_then ?_
    refine wp_block ?_
    refine c_loopW H (fun s a w => Fr 72 [] [(0, .pointer (some ⟨q_p0, 0, none⟩)), (1, .int .i64 x1), (4, .int .i64 s.1), (5, .int .i64 s.2)] a ∧ Stw ⟨Y, X, w0⟩ [(q_p0, [v1])] [row v1 3 (Rp.int .i64) x2] w) ⟨hF.re ⟨rfl, rfl, rfl, rfl, trivial⟩, hW⟩ (fun s o a w H L3 hR => ?_)
    obtain ⟨x4, x5⟩ := s
    obtain ⟨hF, hW⟩ := hR
    have hF : Fr 72 [] [(0, .pointer (some ⟨q_p0, 0, none⟩)), (1, .int .i64 x1), (4, .int .i64 x4), (5, .int .i64 x5)] a := hF
    have hW : Stw ⟨Y, X, w0⟩ [(q_p0, [v1])] [row v1 3 (Rp.int .i64) x2] w := hW
    rw [heap_Queue_int_down_l2] at H
    refine c_seq ?_
    refine c_seqJ (fun a w => Fr 72 [] [(0, .pointer (some ⟨q_p0, 0, none⟩)), (1, .int .i64 x1), (4, .int .i64 x4), (5, .int .i64 x5), (23, .bool (decide (x5 ≤ (w64 ((w64 (2 * x1)) + 2))) && decide (x5 < (x2.length : Int))))] a ∧ Stw ⟨Y, X, w0⟩ [(q_p0, [v1])] [row v1 3 (Rp.int .i64) x2] w) ?_ ?_
    ·
      refine reg_list ?_
      refine ls hF hW rfl ((y_move hF rfl).q) (fun a w hF hW => ?_)
      refine ls hF hW rfl ((y_move hF rfl).q) (fun a w hF hW => ?_)
      refine ls hF hW rfl ((y_mul hF rfl rfl rfl).q) (fun a w hF hW => ?_)
      refine ls hF hW rfl ((y_add hF rfl rfl rfl).q) (fun a w hF hW => ?_)
      refine ls hF hW rfl ((y_leq hF rfl rfl).q) (fun a w hF hW => ?_)
      refine ls hF hW rfl ((y_move hF rfl).q) (fun a w hF hW => ?_)
      rcases Bool.eq_false_or_eq_true (decide (x5 ≤ (w64 ((w64 (2 * x1)) + 2)))) with hb0 | hb0
      ·
        rw [hb0] at hF
        refine ls_w hF hW (wanted_y hF rfl rfl rfl rfl) rfl (Nat.le_of_ble_eq_true rfl) ((y_move hF rfl).q) (fun a w hF hW => ?_)
        refine ls_w hF hW (wanted_y hF rfl rfl rfl rfl) rfl (Nat.le_of_ble_eq_true rfl) ((y_move hF rfl).q) (fun a w hF hW => ?_)
        refine ls_w hF hW (wanted_y hF rfl rfl rfl rfl) rfl (Nat.le_of_ble_eq_true rfl) ((y_nilCheck hF rfl).q) (fun a w hF hW => ?_)
        refine ls_w hF hW (wanted_y hF rfl rfl rfl rfl) rfl (Nat.le_of_ble_eq_true rfl) ((y_fieldAddr Try.underlying55 rfl rfl rfl T25 hF rfl 0 rfl).q) (fun a w hF hW => ?_)
        refine ls_w hF hW (wanted_y hF rfl rfl rfl rfl) rfl (Nat.le_of_ble_eq_true rfl) ((y_load (v := v1) 0 hF rfl rfl T25 rfl).q) (fun a w hF hW => ?_)
        refine ls_w hF hW (wanted_y hF rfl rfl rfl rfl) rfl (Nat.le_of_ble_eq_true rfl) ((y_len (r := (Rp.int .i64)) (l := x2) Try.underlying25 rfl hF rfl (rdc_row 0 rfl)).q) (fun a w hF hW => ?_)
        refine ls_w hF hW (wanted_y hF rfl rfl rfl rfl) rfl (Nat.le_of_ble_eq_true rfl) ((y_lss hF rfl rfl).q) (fun a w hF hW => ?_)
        refine ls hF hW rfl ((y_pick_t hF rfl rfl rfl).q) (fun a w hF hW => ?_)
        refine ls_nil ?_
        refine c_then ?_
        exact ⟨hF.re ⟨rfl, rfl, rfl, rfl, (by show some (Value.bool (decide (x5 < (x2.length : Int)))) = some (Value.bool (decide (x5 ≤ (w64 ((w64 (2 * x1)) + 2))) && decide (x5 < (x2.length : Int)))); try rw [hb0]; all_goals simp only [Bool.not_true, Bool.not_false, Bool.true_and, Bool.false_and, Bool.true_or, Bool.false_or, Bool.and_true, Bool.or_false, cond_true, cond_false]), trivial⟩, hW⟩
      ·
        rw [hb0] at hF
        refine ls_skip hF (wanted_n hF rfl rfl rfl rfl rfl) rfl rfl (fun a hF => ?_)
        refine ls_skip hF (wanted_n hF rfl rfl rfl rfl rfl) rfl rfl (fun a hF => ?_)
        refine ls_skip hF (wanted_n hF rfl rfl rfl rfl rfl) rfl rfl (fun a hF => ?_)
        refine ls_skip hF (wanted_n hF rfl rfl rfl rfl rfl) rfl rfl (fun a hF => ?_)
        refine ls_skip hF (wanted_n hF rfl rfl rfl rfl rfl) rfl rfl (fun a hF => ?_)
        refine ls_skip hF (wanted_n hF rfl rfl rfl rfl rfl) rfl rfl (fun a hF => ?_)
        refine ls_skip hF (wanted_n hF rfl rfl rfl rfl rfl) rfl rfl (fun a hF => ?_)
        refine ls hF hW rfl ((y_pick_f hF rfl rfl rfl).q) (fun a w hF hW => ?_)
        refine ls_nil ?_
        refine c_then ?_
        exact ⟨hF.re ⟨rfl, rfl, rfl, rfl, (by show some (Value.bool false) = some (Value.bool (decide (x5 ≤ (w64 ((w64 (2 * x1)) + 2))) && decide (x5 < (x2.length : Int)))); try rw [hb0]; all_goals simp only [Bool.not_true, Bool.not_false, Bool.true_and, Bool.false_and, Bool.true_or, Bool.false_or, Bool.and_true, Bool.or_false, cond_true, cond_false]), trivial⟩, hW⟩
    rintro a w ⟨hF, hW⟩
    refine c_cond hF rfl (fun hb => ?_) (fun hb => ?_)
    ·
      have H := iteT hb H
      rw [hb] at hF
      clear hb
      refine wp_skip ?_
      refine c_then ?_
      obtain ⟨o4, G4, K4⟩ := bindE H
      refine c_seqJ (fun a w => ∃ x6 : Int, some (x6) = some o4 ∧ Fr 72 [] [(0, .pointer (some ⟨q_p0, 0, none⟩)), (1, .int .i64 x1), (4, .int .i64 x6), (5, .int .i64 x5)] a ∧ Stw ⟨Y, X, w0⟩ [(q_p0, [v1])] [row v1 3 (Rp.int .i64) x2] w) ?_ ?_
      ·
        have H := G4
        clear G4 K4
        refine wp_block ?_
        refine c_seq ?_
        refine reg_quiet hW MO (by kernel_rfl) ?_
        refine qs hF rfl ((y_move hF rfl).q) (fun a hF => ?_)
        refine qs hF rfl ((y_nilCheck hF rfl).q) (fun a hF => ?_)
        refine qs hF rfl ((y_fieldAddr Try.underlying55 rfl rfl rfl T25 hF rfl 0 rfl).q) (fun a hF => ?_)
        refine qs hF rfl ((y_load (v := v1) 0 hF rfl rfl T25 rfl).q) (fun a hF => ?_)
        refine qs hF rfl ((y_move hF rfl).q) (fun a hF => ?_)
        obtain ⟨x7, h1, H⟩ := bindE H
        refine qs hF rfl ((y_index (r := (Rp.int .i64)) L25 hF rfl rfl (rdc_row 0 rfl) h1).q) (fun a hF => ?_)
        refine qs hF rfl ((y_load_el (y := Value.int .i64 x7) (j := 0) (i := x5) hF rfl rfl (rdc_row 0 rfl) h1 Fl.int.to T3 rfl).q) (fun a hF => ?_)
        refine qs hF rfl ((y_move hF rfl).q) (fun a hF => ?_)
        refine qs hF rfl ((y_nilCheck hF rfl).q) (fun a hF => ?_)
        refine qs hF rfl ((y_fieldAddr Try.underlying55 rfl rfl rfl T25 hF rfl 0 rfl).q) (fun a hF => ?_)
        refine qs hF rfl ((y_load (v := v1) 0 hF rfl rfl T25 rfl).q) (fun a hF => ?_)
        refine qs hF rfl ((y_move hF rfl).q) (fun a hF => ?_)
        obtain ⟨x8, h2, H⟩ := bindE H
        refine qs hF rfl ((y_index (r := (Rp.int .i64)) L25 hF rfl rfl (rdc_row 0 rfl) h2).q) (fun a hF => ?_)
        refine qs hF rfl ((y_load_el (y := Value.int .i64 x8) (j := 0) (i := x4) hF rfl rfl (rdc_row 0 rfl) h2 Fl.int.to T3 rfl).q) (fun a hF => ?_)
        refine qs hF rfl (y_call (v := Value.bool (cmp_Less_int x7 x8)) hF H27 rfl (fun w hW => cmp_Less_int_c any w x7 x8 _ rfl)) (fun a hF => ?_)
        refine quiet_end (fun w hW => ?_)
        refine c_then ?_
        refine c_cond hF rfl (fun hb => ?_) (fun hb => ?_)
        ·
          have H := iteT hb H
          rw [hb] at hF
          clear hb
          refine reg_list ?_
          refine ls hF hW rfl ((y_move hF rfl).q) (fun a w hF hW => ?_)
          refine ls hF hW rfl ((y_assign hF rfl).q) (fun a w hF hW => ?_)
          refine ls_nil ?_
          refine b_normal ?_
          refine c_then ?_
          exact ⟨_, H, hF.re ⟨rfl, rfl, rfl, rfl, trivial⟩, hW⟩
        ·
          have H := iteF (by rw [hb]; decide) H
          rw [hb] at hF
          clear hb
          refine wp_skip ?_
          refine b_normal ?_
          refine c_then ?_
          exact ⟨_, H, hF.re ⟨rfl, rfl, rfl, rfl, trivial⟩, hW⟩
      rintro a w ⟨x6, hj, hF, hW⟩
      have hj := Option.some.inj hj
      subst hj
      have H := K4
      clear G4 K4
      refine reg_list ?_
      refine ls hF hW rfl ((y_move hF rfl).q) (fun a w hF hW => ?_)
      refine ls hF hW rfl ((y_add hF rfl rfl rfl).q) (fun a w hF hW => ?_)
      refine ls hF hW rfl ((y_assign hF rfl).q) (fun a w hF hW => ?_)
      refine ls_nil ?_
      refine c_then ?_
      exact ⟨_, H, hF.re ⟨rfl, rfl, rfl, rfl, trivial⟩, hW⟩
    ·
      have H := iteF (by rw [hb]; decide) H
      rw [hb] at hF
      clear hb
      refine wp_exit ?_
      refine e_then ?_
      refine e_then ?_
      refine e_block ?_
      refine c_then ?_
      have H := L3 _ H
      exact ⟨_, H, hF.re ⟨rfl, rfl, rfl, trivial⟩, hW⟩
  rintro a w ⟨x3, hj, hF, hW⟩
  have hj := Option.some.inj hj
  subst hj
  have H := K2
  clear G2 K2
  refine c_seq ?_
  refine c_seq ?_
  refine reg_list ?_
  refine ls hF hW rfl ((y_move hF rfl).q) (fun a w hF hW => ?_)
  refine ls hF hW rfl ((y_move hF rfl).q) (fun a w hF hW => ?_)
  refine ls hF hW rfl ((y_eql hF rfl rfl).q) (fun a w hF hW => ?_)
  refine ls_nil ?_
  refine c_then ?_
  refine c_cond hF rfl (fun hb => ?_) (fun hb => ?_)
  ·
    have H := iteT (of_decide_eq_true hb) H
    rw [hb] at hF
    clear hb
    refine wp_ret ?_
    refine r_then ?_
    refine r_block ?_
    refine r_then ?_
    refine r_block ?_
    have H := L1 _ H
    have H := Option.some.inj H
    subst H
    refine post0 (.inl rfl) hF rfl ?_
    exact ⟨(v1), rfl, hW⟩
  ·
    have H := iteF (of_decide_eq_false hb) H
    rw [hb] at hF
    clear hb
    refine wp_skip ?_
    refine c_then ?_
    refine c_seq ?_
    refine reg_ord 25 [9] [0, 1, 2, 3, 4, 5, 6, 7, 8, 10, 11, 12, 13, 14, 15, 16, 17, 18, 19, 20, 21, 22, 23, 24] (fun ch a d v w h => by cases d <;> exact h) hW MO (by kernel_rfl) ?_
    refine hm hF rfl rfl rfl (fun a hF => ?_)
    refine hm_end ?_
    refine hs hF rfl rfl rfl ((y_move hF rfl).q) (fun a hF => ?_)
    refine hs hF rfl rfl rfl ((y_nilCheck hF rfl).q) (fun a hF => ?_)
    refine hs hF rfl rfl rfl ((y_fieldAddr Try.underlying55 rfl rfl rfl T25 hF rfl 0 rfl).q) (fun a hF => ?_)
    refine hs hF rfl rfl rfl ((y_load (v := v1) 0 hF rfl rfl T25 rfl).q) (fun a hF => ?_)
    refine hs hF rfl rfl rfl ((y_move hF rfl).q) (fun a hF => ?_)
    refine hs hF rfl rfl rfl ((y_move hF rfl).q) (fun a hF => ?_)
    refine hs hF rfl rfl rfl ((y_nilCheck hF rfl).q) (fun a hF => ?_)
    refine hs hF rfl rfl rfl ((y_fieldAddr Try.underlying55 rfl rfl rfl T25 hF rfl 0 rfl).q) (fun a hF => ?_)
    refine hs hF rfl rfl rfl ((y_load (v := v1) 0 hF rfl rfl T25 rfl).q) (fun a hF => ?_)
    refine hs hF rfl rfl rfl ((y_move hF rfl).q) (fun a hF => ?_)
    refine hs hF rfl rfl rfl ((y_nilCheck hF rfl).q) (fun a hF => ?_)
    refine hs hF rfl rfl rfl ((y_fieldAddr Try.underlying55 rfl rfl rfl T25 hF rfl 0 rfl).q) (fun a hF => ?_)
    refine hs hF rfl rfl rfl ((y_load (v := v1) 0 hF rfl rfl T25 rfl).q) (fun a hF => ?_)
    refine hs hF rfl rfl rfl ((y_move hF rfl).q) (fun a hF => ?_)
    obtain ⟨x9, h3, H⟩ := bindE H
    refine hs hF rfl rfl rfl ((y_index (r := (Rp.int .i64)) L25 hF rfl rfl (rdc_row 0 rfl) h3).q) (fun a hF => ?_)
    refine hs hF rfl rfl rfl ((y_load_el (y := Value.int .i64 x9) (j := 0) (i := x3) hF rfl rfl (rdc_row 0 rfl) h3 Fl.int.to T3 rfl).q) (fun a hF => ?_)
    refine hs hF rfl rfl rfl ((y_move hF rfl).q) (fun a hF => ?_)
    refine hs hF rfl rfl rfl ((y_nilCheck hF rfl).q) (fun a hF => ?_)
    refine hs hF rfl rfl rfl ((y_fieldAddr Try.underlying55 rfl rfl rfl T25 hF rfl 0 rfl).q) (fun a hF => ?_)
    refine hs hF rfl rfl rfl ((y_load (v := v1) 0 hF rfl rfl T25 rfl).q) (fun a hF => ?_)
    refine hs hF rfl rfl rfl ((y_move hF rfl).q) (fun a hF => ?_)
    obtain ⟨x10, h4, H⟩ := bindE H
    refine hs hF rfl rfl rfl ((y_index (r := (Rp.int .i64)) L25 hF rfl rfl (rdc_row 0 rfl) h4).q) (fun a hF => ?_)
    refine hs hF rfl rfl rfl ((y_load_el (y := Value.int .i64 x10) (j := 0) (i := x1) hF rfl rfl (rdc_row 0 rfl) h4 Fl.int.to T3 rfl).q) (fun a hF => ?_)
    obtain ⟨x11, h5, H⟩ := bindE H
    refine hs hF rfl rfl rfl ((y_index (r := (Rp.int .i64)) L25 hF rfl rfl (rdc_row 0 rfl) h5).q) (fun a hF => ?_)
    refine h_end (fun w hW => ?_)
    have hW : Stw ⟨Y, X, w0⟩ [(q_p0, [v1])] [row v1 3 (Rp.int .i64) x2] w := hW
    refine l_store_el (i := x1) (j := 0) (vs := [.int .i64 x9]) (x' := x9) hF hW rfl rfl rfl (k := 0) rfl rfl h5 T3 rfl rfl rfl rfl (fun A cs _ => Fl.int.sto (by rfl) _ _ _) (fun w hW => ?_)
    obtain ⟨x12, h6, H⟩ := bindE H
    refine ls hF hW rfl ((y_index (r := (Rp.int .i64)) L25 hF rfl rfl (rdc_row 0 rfl) h6).q) (fun a w hF hW => ?_)
    refine l_store_el (i := x3) (j := 0) (vs := [.int .i64 x10]) (x' := x10) hF hW rfl rfl rfl (k := 0) rfl rfl h6 T3 rfl rfl rfl rfl (fun A cs _ => Fl.int.sto (by rfl) _ _ _) (fun w hW => ?_)
    refine ls_nil ?_
    refine c_then ?_
    refine reg_list ?_
    refine ls hF hW rfl ((y_move hF rfl).q) (fun a w hF hW => ?_)
    refine ls hF hW rfl ((y_assign hF rfl).q) (fun a w hF hW => ?_)
    refine ls_nil ?_
    refine b_normal ?_
    refine c_then ?_
    exact ⟨_, H, hF.re ⟨rfl, rfl, trivial⟩, hW⟩

theorem H39 : Has Try.prog 39 := ⟨fun args w => run_callFunc_body Try.func39 rfl (by decide) args w⟩
noncomputable def heap_Queue_int_remove (p0 : List Int) (p1 : Int) : Option (List Int) := (ix p0 (w64 ((p0.length : Int) - 1))).bind fun x1 => (ix p0 p1).bind fun x2 => (slices_Delete_int_int (setAt p0 p1 x1) (w64 ((p0.length : Int) - 1)) (w64 ((w64 ((p0.length : Int) - 1)) + 1))).bind fun x3 => (if p1 < (w64 ((p0.length : Int) - 1)) then (heap_Queue_int_down x3 p1).bind fun x4 => (heap_Queue_int_up x4 p1).bind fun x5 => some x5 else some x3)
theorem heap_Queue_int_remove_c (Y : Nat → Prop) (X : List Nat) (w0 : World) (q_p0 : Nat) (v1 : Value) (p0 : List Int) (p1 : Int) (r : List Int) (H : heap_Queue_int_remove p0 p1 = some r) (hL : Stw ⟨Y, X, w0⟩ [(q_p0, [v1])] [row v1 3 (Rp.int .i64) p0] w0) :
    Calls Try.prog 26 #[.pointer (some ⟨q_p0, 0, none⟩), .int .i64 p1] w0 fun e w' => ∃ x : Value, e = .returned (.tuple #[]) ∧ Stw ⟨Y, X, w0⟩ [(q_p0, [x])] [row (x) 3 (Rp.int .i64) r] w' := by
  refine enter Try.func26 rfl Try.ntmps26 rfl (fun a hF => ?_)
  have hW := hL
  unfold heap_Queue_int_remove at H
  refine c_seq ?_
  refine reg_list ?_
  refine ls hF hW rfl ((y_move hF rfl).q) (fun a w hF hW => ?_)
  refine ls hF hW rfl ((y_nilCheck hF rfl).q) (fun a w hF hW => ?_)
  refine ls hF hW rfl ((y_fieldAddr Try.underlying55 rfl rfl rfl T25 hF rfl 0 rfl).q) (fun a w hF hW => ?_)
  refine ls hF hW rfl ((y_load (v := v1) 0 hF rfl rfl T25 rfl).q) (fun a w hF hW => ?_)
  refine ls hF hW rfl ((y_len (r := (Rp.int .i64)) (l := p0) Try.underlying25 rfl hF rfl (rdc_row 0 rfl)).q) (fun a w hF hW => ?_)
  refine ls hF hW rfl ((y_sub hF rfl rfl rfl).q) (fun a w hF hW => ?_)
  refine ls hF hW rfl ((y_assign hF rfl).q) (fun a w hF hW => ?_)
  refine ls_nil ?_
  refine c_then ?_
  refine c_seq ?_
  refine reg_tail 13 hW MO (by kernel_rfl) ?_
  refine qs hF rfl ((y_move hF rfl).q) (fun a hF => ?_)
  refine qs hF rfl ((y_nilCheck hF rfl).q) (fun a hF => ?_)
  refine qs hF rfl ((y_fieldAddr Try.underlying55 rfl rfl rfl T25 hF rfl 0 rfl).q) (fun a hF => ?_)
  refine qs hF rfl ((y_load (v := v1) 0 hF rfl rfl T25 rfl).q) (fun a hF => ?_)
  refine qs hF rfl ((y_move hF rfl).q) (fun a hF => ?_)
  refine qs hF rfl ((y_move hF rfl).q) (fun a hF => ?_)
  refine qs hF rfl ((y_nilCheck hF rfl).q) (fun a hF => ?_)
  refine qs hF rfl ((y_fieldAddr Try.underlying55 rfl rfl rfl T25 hF rfl 0 rfl).q) (fun a hF => ?_)
  refine qs hF rfl ((y_load (v := v1) 0 hF rfl rfl T25 rfl).q) (fun a hF => ?_)
  refine qs hF rfl ((y_move hF rfl).q) (fun a hF => ?_)
  obtain ⟨x1, h1, H⟩ := bindE H
  refine qs hF rfl ((y_index (r := (Rp.int .i64)) L25 hF rfl rfl (rdc_row 0 rfl) h1).q) (fun a hF => ?_)
  refine qs hF rfl ((y_load_el (y := Value.int .i64 x1) (j := 0) (i := w64 ((p0.length : Int) - 1)) hF rfl rfl (rdc_row 0 rfl) h1 Fl.int.to T3 rfl).q) (fun a hF => ?_)
  obtain ⟨x2, h2, H⟩ := bindE H
  refine qs hF rfl ((y_index (r := (Rp.int .i64)) L25 hF rfl rfl (rdc_row 0 rfl) h2).q) (fun a hF => ?_)
  refine quiet_end (fun w hW => ?_)
  refine l_store_el (i := p1) (j := 0) (vs := [.int .i64 x1]) (x' := x1) hF hW rfl rfl rfl (k := 0) rfl rfl h2 T3 rfl rfl rfl rfl (fun A cs _ => Fl.int.sto (by rfl) _ _ _) (fun w hW => ?_)
  refine ls_nil ?_
  refine c_then ?_
  refine c_seq ?_
  refine reg_list ?_
  refine ls hF hW rfl ((y_move hF rfl).q) (fun a w hF hW => ?_)
  refine ls hF hW rfl ((y_move hF rfl).q) (fun a w hF hW => ?_)
  refine ls hF hW rfl ((y_nilCheck hF rfl).q) (fun a w hF hW => ?_)
  refine ls hF hW rfl ((y_fieldAddr Try.underlying55 rfl rfl rfl T25 hF rfl 0 rfl).q) (fun a w hF hW => ?_)
  refine ls hF hW rfl ((y_load (v := v1) 0 hF rfl rfl T25 rfl).q) (fun a w hF hW => ?_)
  refine ls hF hW rfl ((y_move hF rfl).q) (fun a w hF hW => ?_)
  refine ls hF hW rfl ((y_move hF rfl).q) (fun a w hF hW => ?_)
  refine ls hF hW rfl ((y_add hF rfl rfl rfl).q) (fun a w hF hW => ?_)
  obtain ⟨x3, h3, H⟩ := bindE H
  refine l_callG (Ml := []) (Zl := [row v1 3 (Rp.int .i64) (setAt p0 p1 x1)]) (M := [(q_p0, [v1])]) (Z := []) (β := Value) (rv := fun x => x) (MM := fun x => []) (ZZ := fun x => [row x 3 (Rp.int .i64) x3]) hF hW H38 rfl rfl (fun hL => slices_Delete_int_int_c _ _ w (v1) (setAt p0 p1 x1) (w64 ((p0.length : Int) - 1)) (w64 ((w64 ((p0.length : Int) - 1)) + 1)) _ h3 hL) (fun x a w hF hW => ?_)
  obtain ⟨v2, rfl⟩ : ∃ y, y = x := ⟨x, rfl⟩
  have hW : Stw ⟨Y, X, w0⟩ [(q_p0, [v1])] [row v2 3 (Rp.int .i64) x3] w := hW
  refine ls hF hW rfl ((y_nilCheck hF rfl).q) (fun a w hF hW => ?_)
  refine ls hF hW rfl ((y_fieldAddr Try.underlying55 rfl rfl rfl T25 hF rfl 0 rfl).q) (fun a w hF hW => ?_)
  refine l_store1 (M' := [(q_p0, [v2])]) 0 hF hW rfl rfl rfl T25 (hW.one (k := 0) rfl) rfl rfl (fun w hW => ?_)
  refine ls_nil ?_
  refine c_then ?_
  refine c_seq ?_
  refine reg_list ?_
  refine ls hF hW rfl ((y_move hF rfl).q) (fun a w hF hW => ?_)
  refine ls hF hW rfl ((y_move hF rfl).q) (fun a w hF hW => ?_)
  refine ls hF hW rfl ((y_lss hF rfl rfl).q) (fun a w hF hW => ?_)
  refine ls_nil ?_
  refine c_then ?_
  refine c_cond hF rfl (fun hb => ?_) (fun hb => ?_)
  ·
    have H := iteT (of_decide_eq_true hb) H
    rw [hb] at hF
    clear hb
    refine c_seq ?_
    refine reg_list ?_
    refine ls hF hW rfl ((y_move hF rfl).q) (fun a w hF hW => ?_)
    refine ls hF hW rfl ((y_move hF rfl).q) (fun a w hF hW => ?_)
    obtain ⟨x4, h4, H⟩ := bindE H
    refine l_callG (Ml := [(q_p0, [v2])]) (Zl := [row v2 3 (Rp.int .i64) x3]) (M := []) (Z := []) (β := Value) (rv := fun x => .tuple #[]) (MM := fun x => [(q_p0, [x])]) (ZZ := fun x => [row x 3 (Rp.int .i64) x4]) hF hW H39 rfl rfl (fun hL => heap_Queue_int_down_c _ _ w q_p0 (v2) x3 p1 _ h4 hL) (fun x a w hF hW => ?_)
    obtain ⟨v3, rfl⟩ : ∃ y, y = x := ⟨x, rfl⟩
    have hW : Stw ⟨Y, X, w0⟩ [(q_p0, [v3])] [row v3 3 (Rp.int .i64) x4] w := hW
    refine ls_nil ?_
    refine c_then ?_
    refine reg_list ?_
    refine ls hF hW rfl ((y_move hF rfl).q) (fun a w hF hW => ?_)
    refine ls hF hW rfl ((y_move hF rfl).q) (fun a w hF hW => ?_)
    obtain ⟨x5, h5, H⟩ := bindE H
    refine l_callG (Ml := [(q_p0, [v3])]) (Zl := [row v3 3 (Rp.int .i64) x4]) (M := []) (Z := []) (β := Value) (rv := fun x => .tuple #[]) (MM := fun x => [(q_p0, [x])]) (ZZ := fun x => [row x 3 (Rp.int .i64) x5]) hF hW H25 rfl rfl (fun hL => heap_Queue_int_up_c _ _ w q_p0 (v3) x4 p1 _ h5 hL) (fun x a w hF hW => ?_)
    obtain ⟨v4, rfl⟩ : ∃ y, y = x := ⟨x, rfl⟩
    have hW : Stw ⟨Y, X, w0⟩ [(q_p0, [v4])] [row v4 3 (Rp.int .i64) x5] w := hW
    refine ls_nil ?_
    have H := Option.some.inj H
    subst H
    refine post0 (.inr rfl) hF rfl ?_
    exact ⟨(v4), rfl, hW⟩
  ·
    have H := iteF (of_decide_eq_false hb) H
    rw [hb] at hF
    clear hb
    refine wp_skip ?_
    have H := Option.some.inj H
    subst H
    refine post0 (.inr rfl) hF rfl ?_
    exact ⟨(v2), rfl, hW⟩

theorem H26 : Has Try.prog 26 := ⟨fun args w => run_callFunc_body Try.func26 rfl (by decide) args w⟩
noncomputable def heap_Queue_int_Pop (p0 : List Int) : Option (Int × Bool × List Int) := (heap_Queue_int_Peek p0).bind fun x1 => (if x1.2 = true then (heap_Queue_int_remove p0 0).bind fun x4 => some (true, x4) else some (false, p0)).bind fun (x2, x3) => some (x1.1, x2, x3)
theorem heap_Queue_int_Pop_c (Y : Nat → Prop) (X : List Nat) (w0 : World) (q_p0 : Nat) (v1 : Value) (p0 : List Int) (r : Int × Bool × List Int) (H : heap_Queue_int_Pop p0 = some r) (hL : Stw ⟨Y, X, w0⟩ [(q_p0, [v1])] [row v1 3 (Rp.int .i64) p0] w0) :
    Calls Try.prog 9 #[.pointer (some ⟨q_p0, 0, none⟩)] w0 fun e w' => ∃ x : Value, e = .returned (.tuple #[.int .i64 r.1, .bool r.2.1]) ∧ Stw ⟨Y, X, w0⟩ [(q_p0, [x])] [row (x) 3 (Rp.int .i64) r.2.2] w' := by
  refine enter Try.func9 rfl Try.ntmps9 rfl (fun a hF => ?_)
  have hW := hL
  unfold heap_Queue_int_Pop at H
  refine c_seq ?_
  refine reg_list ?_
  refine ls hF hW rfl ((y_assign hF rfl).q) (fun a w hF hW => ?_)
  refine ls hF hW rfl ((y_assign hF rfl).q) (fun a w hF hW => ?_)
  refine ls_nil ?_
  refine c_then ?_
  refine c_seq ?_
  refine reg_list ?_
  refine ls hF hW rfl ((y_move hF rfl).q) (fun a w hF hW => ?_)
  obtain ⟨x1, h1, H⟩ := bindE H
  refine ls hF hW rfl (y_call (v := Value.tuple #[.int .i64 x1.1, .bool x1.2]) hF H16 rfl (fun w hW => heap_Queue_int_Peek_c any w q_p0 (v1) p0 _ h1 (((rdc_row 0 rfl) : Rdc _ _ _ _ _ _) w hW).nx (at_M hW 0 rfl))) (fun a w hF hW => ?_)
  refine ls hF hW rfl ((y_move hF rfl).q) (fun a w hF hW => ?_)
  refine ls hF hW rfl ((y_extract (v := Value.int .i64 x1.1) hF rfl rfl).q) (fun a w hF hW => ?_)
  refine ls hF hW rfl ((y_extract (v := Value.bool x1.2) hF rfl rfl).q) (fun a w hF hW => ?_)
  refine ls hF hW rfl ((y_assign hF rfl).q) (fun a w hF hW => ?_)
  refine ls hF hW rfl ((y_assign hF rfl).q) (fun a w hF hW => ?_)
  refine ls_nil ?_
  refine c_then ?_
  obtain ⟨o1, G1, K1⟩ := bindE H
  refine c_seqJ (fun a w => ∃ x2 : Bool, ∃ x3 : List Int, ∃ v2 : Value, some ((x2, x3)) = some o1 ∧ Fr 16 [] [(2, .int .i64 0), (3, .bool false), (4, .int .i64 x1.1), (5, .bool x2)] a ∧ Stw ⟨Y, X, w0⟩ [(q_p0, [v2])] [row v2 3 (Rp.int .i64) x3] w) ?_ ?_
  ·
    have H := G1
    clear G1 K1
    refine c_seq ?_
    refine reg_list ?_
    refine ls hF hW rfl ((y_move hF rfl).q) (fun a w hF hW => ?_)
    refine ls_nil ?_
    refine c_then ?_
    refine c_cond hF rfl (fun hb => ?_) (fun hb => ?_)
    ·
      have H := iteT hb H
      rw [hb] at hF
      clear hb
      refine reg_list ?_
      refine ls hF hW rfl ((y_move hF rfl).q) (fun a w hF hW => ?_)
      obtain ⟨x4, h2, H⟩ := bindE H
      refine l_callG (Ml := [(q_p0, [v1])]) (Zl := [row v1 3 (Rp.int .i64) p0]) (M := []) (Z := []) (β := Value) (rv := fun x => .tuple #[]) (MM := fun x => [(q_p0, [x])]) (ZZ := fun x => [row x 3 (Rp.int .i64) x4]) hF hW H26 rfl rfl (fun hL => heap_Queue_int_remove_c _ _ w q_p0 (v1) p0 0 _ h2 hL) (fun x a w hF hW => ?_)
      obtain ⟨v3, rfl⟩ : ∃ y, y = x := ⟨x, rfl⟩
      have hW : Stw ⟨Y, X, w0⟩ [(q_p0, [v3])] [row v3 3 (Rp.int .i64) x4] w := hW
      refine ls_nil ?_
      refine c_then ?_
      exact ⟨_, _, (v3), H, hF.re ⟨rfl, rfl, rfl, rfl, trivial⟩, hW⟩
    ·
      have H := iteF (by rw [hb]; decide) H
      rw [hb] at hF
      clear hb
      refine wp_skip ?_
      refine c_then ?_
      exact ⟨_, _, (v1), H, hF.re ⟨rfl, rfl, rfl, rfl, trivial⟩, hW⟩
  rintro a w ⟨x2, x3, v2, hj, hF, hW⟩
  have hj := Option.some.inj hj
  subst hj
  have H := K1
  clear G1 K1
  refine c_seq ?_
  refine reg_list ?_
  refine ls hF hW rfl ((y_move hF rfl).q) (fun a w hF hW => ?_)
  refine ls hF hW rfl ((y_move hF rfl).q) (fun a w hF hW => ?_)
  refine ls hF hW rfl ((y_assign hF rfl).q) (fun a w hF hW => ?_)
  refine ls hF hW rfl ((y_assign hF rfl).q) (fun a w hF hW => ?_)
  refine ls_nil ?_
  refine c_then ?_
  refine wp_ret ?_
  have H := Option.some.inj H
  subst H
  refine post2 (.inl rfl) hF hW rfl (rv_tmp hF rfl) (rv_tmp hF rfl) ?_
  exact ⟨(v2), rfl, hW⟩

theorem H9 : Has Try.prog 9 := ⟨fun args w => run_callFunc_body Try.func9 rfl (by decide) args w⟩
noncomputable def r13_Pop (p0 : List Int) : Option (Int × List Int × Bool) := (if (p0.length : Int) = 0 then some (0, ([] : List Int), false) else (ix p0 0).bind fun x1 => (subl p0 1 (p0.length : Int)).bind fun x2 => some (x1, x2, true))
theorem r13_Pop_c (Y : Nat → Prop) (w0 : World) (v1 : Value) (p0 : List Int) (r : Int × List Int × Bool) (H : r13_Pop p0 = some r) (s_v1 : Sl w0 Y (Rp.int .i64) v1 p0) :
    Calls Try.prog 10 #[v1] w0 fun e w' => ∃ x : Value, e = .returned (.tuple #[.int .i64 r.1, x, .bool r.2.2]) ∧ Stw ⟨Y, [], w0⟩ [] [frz (x) (Rp.int .i64) r.2.1] w' := by
  refine enter Try.func10 rfl Try.ntmps10 rfl (fun a hF => ?_)
  have hW := Stw.start Y w0
  have h_v1 := hW.nx s_v1
  unfold r13_Pop at H
  refine c_seq ?_
  refine reg_list ?_
  refine ls hF hW rfl ((y_assign hF rfl).q) (fun a w hF hW => ?_)
  refine ls hF hW rfl ((y_assign hF rfl).q) (fun a w hF hW => ?_)
  refine ls hF hW rfl ((y_assign hF rfl).q) (fun a w hF hW => ?_)
  refine ls_nil ?_
  refine c_then ?_
  refine c_seq ?_
  refine c_seq ?_
  refine reg_list ?_
  refine ls hF hW rfl ((y_move hF rfl).q) (fun a w hF hW => ?_)
  refine ls hF hW rfl ((y_len (r := (Rp.int .i64)) (l := p0) Try.underlying25 rfl hF rfl (rdc_ro h_v1)).q) (fun a w hF hW => ?_)
  refine ls hF hW rfl ((y_eql hF rfl rfl).q) (fun a w hF hW => ?_)
  refine ls_nil ?_
  refine c_then ?_
  refine c_cond hF rfl (fun hb => ?_) (fun hb => ?_)
  ·
    have H := iteT (of_decide_eq_true hb) H
    rw [hb] at hF
    clear hb
    refine c_seq ?_
    refine reg_list ?_
    refine ls hF hW rfl ((y_assign hF rfl).q) (fun a w hF hW => ?_)
    refine ls hF hW rfl ((y_assign hF rfl).q) (fun a w hF hW => ?_)
    refine ls hF hW rfl ((y_assign hF rfl).q) (fun a w hF hW => ?_)
    refine ls_nil ?_
    refine c_then ?_
    refine wp_ret ?_
    refine r_then ?_
    have H := Option.some.inj H
    subst H
    refine post3 (.inl rfl) hF hW rfl (rv_tmp hF rfl) (rv_tmp hF rfl) (rv_tmp hF rfl) ?_
    have hW := hW.note (Sl.nil (r := (Rp.int .i64)))
    exact ⟨(Value.slice none 0 0), rfl, hW⟩
  ·
    have H := iteF (of_decide_eq_false hb) H
    rw [hb] at hF
    clear hb
    refine wp_skip ?_
    refine c_then ?_
    refine c_seq ?_
    refine reg_quiet hW MO (by kernel_rfl) ?_
    refine qs hF rfl ((y_move hF rfl).q) (fun a hF => ?_)
    obtain ⟨x1, h1, H⟩ := bindE H
    refine qs hF rfl ((y_index (r := (Rp.int .i64)) L25 hF rfl rfl (rdc_ro h_v1) h1).q) (fun a hF => ?_)
    refine qs hF rfl ((y_load_el (y := Value.int .i64 x1) (j := 0) (i := 0) hF rfl rfl (rdc_ro h_v1) h1 Fl.int.to T3 rfl).q) (fun a hF => ?_)
    refine qs hF rfl ((y_move hF rfl).q) (fun a hF => ?_)
    obtain ⟨x2, h2, H⟩ := bindE H
    refine qs hF rfl ((y_slice (r := (Rp.int .i64)) L25 hF rfl rfl rfl (rdc_ro h_v1) h2).q) (fun a hF => ?_)
    refine qs hF rfl ((y_assign hF rfl).q) (fun a hF => ?_)
    refine qs hF rfl ((y_assign hF rfl).q) (fun a hF => ?_)
    refine qs hF rfl ((y_assign hF rfl).q) (fun a hF => ?_)
    refine quiet_end (fun w hW => ?_)
    refine c_then ?_
    refine wp_ret ?_
    have H := Option.some.inj H
    subst H
    refine post3 (.inl rfl) hF hW rfl (rv_tmp hF rfl) (rv_tmp hF rfl) (rv_tmp hF rfl) ?_
    have hW := hW.note (Sl.sub (hW.old s_v1) h2)
    exact ⟨((slSub v1 (1 : Int) (p0.length : Int) 1)), rfl, hW⟩

theorem H10 : Has Try.prog 10 := ⟨fun args w => run_callFunc_body Try.func10 rfl (by decide) args w⟩
noncomputable def r13_Drain_l1 (p0 : List Int) (p1 : Int) : Int → Option (Int ⊕ Int)
  | x2 => (if x2 < (p0.length : Int) then (ix p0 x2).bind fun x4 => some (decide (x4 ≤ p1)) else some false).bind fun x3 => (if x3 = true then some (.inl (w64 (x2 + 1))) else some (.inr x2))
noncomputable def r13_Drain (p0 : List Int) (p1 : Int) : Option (List Int × List Int) := (loopW (r13_Drain_l1 p0 p1) 0).bind fun x1 => (subl p0 0 x1).bind fun x5 => (subl p0 x1 (p0.length : Int)).bind fun x6 => some (x5, x6)
theorem r13_Drain_c (Y : Nat → Prop) (w0 : World) (v1 : Value) (p0 : List Int) (p1 : Int) (r : List Int × List Int) (H : r13_Drain p0 p1 = some r) (s_v1 : Sl w0 Y (Rp.int .i64) v1 p0) :
    Calls Try.prog 11 #[v1, .int .i64 p1] w0 fun e w' => ∃ x : Value × Value, e = .returned (.tuple #[x.1, x.2]) ∧ Stw ⟨Y, [], w0⟩ [] [frz (x.1) (Rp.int .i64) r.1, frz (x.2) (Rp.int .i64) r.2] w' := by
  refine enter Try.func11 rfl Try.ntmps11 rfl (fun a hF => ?_)
  have hW := Stw.start Y w0
  have h_v1 := hW.nx s_v1
  unfold r13_Drain at H
  refine c_seq ?_
  refine reg_list ?_
  refine ls hF hW rfl ((y_assign hF rfl).q) (fun a w hF hW => ?_)
  refine ls hF hW rfl ((y_assign hF rfl).q) (fun a w hF hW => ?_)
  refine ls_nil ?_
  refine c_then ?_
  refine c_seq ?_
  refine reg_list ?_
  refine ls hF hW rfl ((y_assign hF rfl).q) (fun a w hF hW => ?_)
  refine ls_nil ?_
  refine c_then ?_
  obtain ⟨o1, G1, K1⟩ := bindE H
  refine c_seqJ (fun a w => ∃ x1 : Int, some (x1) = some o1 ∧ Fr 27 [] [(0, v1), (4, .slice none 0 0), (5, .slice none 0 0), (6, .int .i64 x1)] a ∧ Stw ⟨Y, [], w0⟩ [] [] w) ?_ ?_
  ·
    have H := G1
    clear G1 K1
    refine wp_block ?_
    refine c_loopW H (fun s a w => Fr 27 [] [(0, v1), (1, .int .i64 p1), (4, .slice none 0 0), (5, .slice none 0 0), (6, .int .i64 s)] a ∧ Stw ⟨Y, [], w0⟩ [] [] w) ⟨hF.re ⟨rfl, rfl, rfl, rfl, rfl, trivial⟩, hW⟩ (fun s o a w H L2 hR => ?_)
    obtain ⟨x2, rfl⟩ : ∃ x, x = s := ⟨s, rfl⟩
    obtain ⟨hF, hW⟩ := hR
    have hF : Fr 27 [] [(0, v1), (1, .int .i64 p1), (4, .slice none 0 0), (5, .slice none 0 0), (6, .int .i64 x2)] a := hF
    have hW : Stw ⟨Y, [], w0⟩ [] [] w := hW
    rw [r13_Drain_l1] at H
    refine c_seq ?_
    obtain ⟨o3, G3, K3⟩ := bindE H
    refine c_seqJ (fun a w => ∃ x3 : Bool, some (x3) = some o3 ∧ Fr 27 [] [(0, v1), (1, .int .i64 p1), (4, .slice none 0 0), (5, .slice none 0 0), (6, .int .i64 x2), (18, .bool x3)] a ∧ Stw ⟨Y, [], w0⟩ [] [] w) ?_ ?_
    ·
      have H := G3
      clear G3 K3
      refine reg_list ?_
      refine ls hF hW rfl ((y_move hF rfl).q) (fun a w hF hW => ?_)
      refine ls hF hW rfl ((y_move hF rfl).q) (fun a w hF hW => ?_)
      refine ls hF hW rfl ((y_len (r := (Rp.int .i64)) (l := p0) Try.underlying25 rfl hF rfl (rdc_ro h_v1)).q) (fun a w hF hW => ?_)
      refine ls hF hW rfl ((y_lss hF rfl rfl).q) (fun a w hF hW => ?_)
      refine ls hF hW rfl ((y_move hF rfl).q) (fun a w hF hW => ?_)
      rcases Bool.eq_false_or_eq_true (decide (x2 < (p0.length : Int))) with hb | hb
      ·
        have H := iteT (of_decide_eq_true hb) H
        rw [hb] at hF
        clear hb
        refine ls_w hF hW (wanted_y hF rfl rfl rfl rfl) rfl (Nat.le_of_ble_eq_true rfl) ((y_move hF rfl).q) (fun a w hF hW => ?_)
        refine ls_w hF hW (wanted_y hF rfl rfl rfl rfl) rfl (Nat.le_of_ble_eq_true rfl) ((y_move hF rfl).q) (fun a w hF hW => ?_)
        obtain ⟨x4, h1, H⟩ := bindE H
        refine ls_w hF hW (wanted_y hF rfl rfl rfl rfl) rfl (Nat.le_of_ble_eq_true rfl) ((y_index (r := (Rp.int .i64)) L25 hF rfl rfl (rdc_ro h_v1) h1).q) (fun a w hF hW => ?_)
        refine ls_w hF hW (wanted_y hF rfl rfl rfl rfl) rfl (Nat.le_of_ble_eq_true rfl) ((y_load_el (y := Value.int .i64 x4) (j := 0) (i := x2) hF rfl rfl (rdc_ro h_v1) h1 Fl.int.to T3 rfl).q) (fun a w hF hW => ?_)
        refine ls_w hF hW (wanted_y hF rfl rfl rfl rfl) rfl (Nat.le_of_ble_eq_true rfl) ((y_move hF rfl).q) (fun a w hF hW => ?_)
        refine ls_w hF hW (wanted_y hF rfl rfl rfl rfl) rfl (Nat.le_of_ble_eq_true rfl) ((y_leq hF rfl rfl).q) (fun a w hF hW => ?_)
        refine ls hF hW rfl ((y_pick_t hF rfl rfl rfl).q) (fun a w hF hW => ?_)
        refine ls_nil ?_
        refine c_then ?_
        exact ⟨_, H, hF.re ⟨rfl, rfl, rfl, rfl, rfl, rfl, trivial⟩, hW⟩
      ·
        have H := iteF (of_decide_eq_false hb) H
        rw [hb] at hF
        clear hb
        refine ls_skip hF (wanted_n hF rfl rfl rfl rfl rfl) rfl rfl (fun a hF => ?_)
        refine ls_skip hF (wanted_n hF rfl rfl rfl rfl rfl) rfl rfl (fun a hF => ?_)
        refine ls_skip hF (wanted_n hF rfl rfl rfl rfl rfl) rfl rfl (fun a hF => ?_)
        refine ls_skip hF (wanted_n hF rfl rfl rfl rfl rfl) rfl rfl (fun a hF => ?_)
        refine ls_skip hF (wanted_n hF rfl rfl rfl rfl rfl) rfl rfl (fun a hF => ?_)
        refine ls_skip hF (wanted_n hF rfl rfl rfl rfl rfl) rfl rfl (fun a hF => ?_)
        refine ls hF hW rfl ((y_pick_f hF rfl rfl rfl).q) (fun a w hF hW => ?_)
        refine ls_nil ?_
        refine c_then ?_
        exact ⟨_, H, hF.re ⟨rfl, rfl, rfl, rfl, rfl, rfl, trivial⟩, hW⟩
    rintro a w ⟨x3, hj, hF, hW⟩
    have hj := Option.some.inj hj
    subst hj
    have H := K3
    clear G3 K3
    refine c_cond hF rfl (fun hb => ?_) (fun hb => ?_)
    ·
      have H := iteT hb H
      rw [hb] at hF
      clear hb
      refine wp_skip ?_
      refine c_then ?_
      refine wp_block ?_
      refine reg_list ?_
      refine ls hF hW rfl ((y_move hF rfl).q) (fun a w hF hW => ?_)
      refine ls hF hW rfl ((y_add hF rfl rfl rfl).q) (fun a w hF hW => ?_)
      refine ls hF hW rfl ((y_assign hF rfl).q) (fun a w hF hW => ?_)
      refine ls_nil ?_
      refine b_normal ?_
      refine c_then ?_
      exact ⟨_, H, hF.re ⟨rfl, rfl, rfl, rfl, rfl, trivial⟩, hW⟩
    ·
      have H := iteF (by rw [hb]; decide) H
      rw [hb] at hF
      clear hb
      refine wp_exit ?_
      refine e_then ?_
      refine e_then ?_
      refine e_block ?_
      refine c_then ?_
      have H := L2 _ H
      exact ⟨_, H, hF.re ⟨rfl, rfl, rfl, rfl, trivial⟩, hW⟩
  rintro a w ⟨x1, hj, hF, hW⟩
  have hj := Option.some.inj hj
  subst hj
  have H := K1
  clear G1 K1
  refine c_seq ?_
  refine reg_quiet hW MO (by kernel_rfl) ?_
  refine qs hF rfl ((y_move hF rfl).q) (fun a hF => ?_)
  refine qs hF rfl ((y_move hF rfl).q) (fun a hF => ?_)
  obtain ⟨x5, h2, H⟩ := bindE H
  refine qs hF rfl ((y_slice (r := (Rp.int .i64)) L25 hF rfl rfl rfl (rdc_ro h_v1) h2).q) (fun a hF => ?_)
  refine qs hF rfl ((y_move hF rfl).q) (fun a hF => ?_)
  refine qs hF rfl ((y_move hF rfl).q) (fun a hF => ?_)
  obtain ⟨x6, h3, H⟩ := bindE H
  refine qs hF rfl ((y_slice (r := (Rp.int .i64)) L25 hF rfl rfl rfl (rdc_ro h_v1) h3).q) (fun a hF => ?_)
  refine qs hF rfl ((y_assign hF rfl).q) (fun a hF => ?_)
  refine qs hF rfl ((y_assign hF rfl).q) (fun a hF => ?_)
  refine quiet_end (fun w hW => ?_)
  refine c_then ?_
  refine wp_ret ?_
  have H := Option.some.inj H
  subst H
  refine post2 (.inl rfl) hF hW rfl (rv_tmp hF rfl) (rv_tmp hF rfl) ?_
  have hW := hW.note (Sl.sub (hW.old s_v1) h2)
  have hW := hW.note (Sl.sub (hW.old s_v1) h3)
  have hW := hW.frontZ (i := 1) rfl rfl
  exact ⟨(((slSub v1 (0 : Int) x1 1)), ((slSub v1 x1 (p0.length : Int) 1))), rfl, hW⟩

theorem H11 : Has Try.prog 11 := ⟨fun args w => run_callFunc_body Try.func11 rfl (by decide) args w⟩
noncomputable def heap_Queue_int_Drain_l1 (p1 : Int) : (List Int × List Int) → Option ((List Int × List Int) ⊕ (List Int × List Int))
  | (x1, x2) => (heap_Queue_int_Peek x2).bind fun x3 => (if (!x3.2 || (cmp_Less_int p1 x3.1)) = true then some (.inr (x1, x2)) else (app x1 ([x3.1] : List Int)).bind fun x4 => (heap_Queue_int_remove x2 0).bind fun x5 => some (.inl (x4, x5)))
noncomputable def heap_Queue_int_Drain (p0 : List Int) (p1 : Int) : Option (List Int × List Int) := loopW (heap_Queue_int_Drain_l1 p1) ([], p0)
theorem heap_Queue_int_Drain_c (Y : Nat → Prop) (X : List Nat) (w0 : World) (q_p0 : Nat) (v1 : Value) (p0 : List Int) (p1 : Int) (r : List Int × List Int) (H : heap_Queue_int_Drain p0 p1 = some r) (hL : Stw ⟨Y, X, w0⟩ [(q_p0, [v1])] [row v1 3 (Rp.int .i64) p0] w0) :
    Calls Try.prog 13 #[.pointer (some ⟨q_p0, 0, none⟩), .int .i64 p1] w0 fun e w' => ∃ x : Value × Value, e = .returned (x.1) ∧ Stw ⟨Y, X, w0⟩ [(q_p0, [x.2])] [row (x.2) 3 (Rp.int .i64) r.2, row (x.1) 3 (Rp.int .i64) r.1] w' := by
  refine enter Try.func13 rfl Try.ntmps13 rfl (fun a hF => ?_)
  have hW := hL
  unfold heap_Queue_int_Drain at H
  refine c_seq ?_
  refine reg_list ?_
  refine ls hF hW rfl ((y_assign hF rfl).q) (fun a w hF hW => ?_)
  refine ls_nil ?_
  refine c_then ?_
  refine c_seq ?_
  refine reg_list ?_
  refine ls hF hW rfl ((y_assign hF rfl).q) (fun a w hF hW => ?_)
  refine ls_nil ?_
  refine c_then ?_
  refine wp_block ?_
  have hW := hW.nilRow 3 (Rp.int .i64)
  have hW := hW.frontZ (i := 1) rfl rfl
  have hW := hW.frontZ (i := 1) rfl rfl
  refine c_loopW H (fun s a w => ∃ v2 : Value, ∃ v3 : Value, Fr 27 [] [(0, .pointer (some ⟨q_p0, 0, none⟩)), (1, .int .i64 p1), (4, .slice none 0 0), (5, v2)] a ∧ Stw ⟨Y, X, w0⟩ [(q_p0, [v3])] [row v2 3 (Rp.int .i64) s.1, row v3 3 (Rp.int .i64) s.2] w) ⟨(Value.slice none 0 0), (v1), hF.re ⟨rfl, rfl, rfl, rfl, trivial⟩, hW⟩ (fun s o a w H L1 hR => ?_)
  obtain ⟨x1, x2⟩ := s
  obtain ⟨v2, v3, hF, hW⟩ := hR
  have hF : Fr 27 [] [(0, .pointer (some ⟨q_p0, 0, none⟩)), (1, .int .i64 p1), (4, .slice none 0 0), (5, v2)] a := hF
  have hW : Stw ⟨Y, X, w0⟩ [(q_p0, [v3])] [row v2 3 (Rp.int .i64) x1, row v3 3 (Rp.int .i64) x2] w := hW
  rw [heap_Queue_int_Drain_l1] at H
  refine wp_block ?_
  refine c_seq ?_
  refine reg_list ?_
  refine ls hF hW rfl ((y_move hF rfl).q) (fun a w hF hW => ?_)
  obtain ⟨x3, h1, H⟩ := bindE H
  refine ls hF hW rfl (y_call (v := Value.tuple #[.int .i64 x3.1, .bool x3.2]) hF H16 rfl (fun w hW => heap_Queue_int_Peek_c any w q_p0 (v3) x2 _ h1 (((rdc_row 1 rfl) : Rdc _ _ _ _ _ _) w hW).nx (at_M hW 0 rfl))) (fun a w hF hW => ?_)
  refine ls hF hW rfl ((y_move hF rfl).q) (fun a w hF hW => ?_)
  refine ls hF hW rfl ((y_extract (v := Value.int .i64 x3.1) hF rfl rfl).q) (fun a w hF hW => ?_)
  refine ls hF hW rfl ((y_extract (v := Value.bool x3.2) hF rfl rfl).q) (fun a w hF hW => ?_)
  refine ls hF hW rfl ((y_assign hF rfl).q) (fun a w hF hW => ?_)
  refine ls hF hW rfl ((y_assign hF rfl).q) (fun a w hF hW => ?_)
  refine ls_nil ?_
  refine c_then ?_
  refine c_seq ?_
  refine c_seqJ (fun a w => Fr 27 [] [(0, .pointer (some ⟨q_p0, 0, none⟩)), (1, .int .i64 p1), (4, .slice none 0 0), (5, v2), (6, .int .i64 x3.1), (19, .bool (!x3.2 || (cmp_Less_int p1 x3.1)))] a ∧ Stw ⟨Y, X, w0⟩ [(q_p0, [v3])] [row v2 3 (Rp.int .i64) x1, row v3 3 (Rp.int .i64) x2] w) ?_ ?_
  ·
    refine reg_list ?_
    refine ls hF hW rfl ((y_move hF rfl).q) (fun a w hF hW => ?_)
    refine ls hF hW rfl ((y_not hF rfl).q) (fun a w hF hW => ?_)
    refine ls hF hW rfl ((y_move hF rfl).q) (fun a w hF hW => ?_)
    rcases Bool.eq_false_or_eq_true (!x3.2) with hb0 | hb0
    ·
      rw [hb0] at hF
      refine ls_skip hF (wanted_n hF rfl rfl rfl rfl rfl) rfl rfl (fun a hF => ?_)
      refine ls_skip hF (wanted_n hF rfl rfl rfl rfl rfl) rfl rfl (fun a hF => ?_)
      refine ls_skip hF (wanted_n hF rfl rfl rfl rfl rfl) rfl rfl (fun a hF => ?_)
      refine ls hF hW rfl ((y_pick_t hF rfl rfl rfl).q) (fun a w hF hW => ?_)
      refine ls_nil ?_
      refine c_then ?_
      exact ⟨hF.re ⟨rfl, rfl, rfl, rfl, rfl, (by show some (Value.bool true) = some (Value.bool (!x3.2 || (cmp_Less_int p1 x3.1))); try rw [hb0]; all_goals simp only [Bool.not_true, Bool.not_false, Bool.true_and, Bool.false_and, Bool.true_or, Bool.false_or, Bool.and_true, Bool.or_false, cond_true, cond_false]), trivial⟩, hW⟩
    ·
      rw [hb0] at hF
      refine ls_w hF hW (wanted_y hF rfl rfl rfl rfl) rfl (Nat.le_of_ble_eq_true rfl) ((y_move hF rfl).q) (fun a w hF hW => ?_)
      refine ls_w hF hW (wanted_y hF rfl rfl rfl rfl) rfl (Nat.le_of_ble_eq_true rfl) ((y_move hF rfl).q) (fun a w hF hW => ?_)
      refine ls_g (wanted_y hF rfl rfl rfl rfl) ?_
      refine ls hF hW rfl (y_call (v := Value.bool (cmp_Less_int p1 x3.1)) hF H27 rfl (fun w hW => cmp_Less_int_c any w p1 x3.1 _ rfl)) (fun a w hF hW => ?_)
      refine ls hF hW rfl ((y_pick_f hF rfl rfl rfl).q) (fun a w hF hW => ?_)
      refine ls_nil ?_
      refine c_then ?_
      exact ⟨hF.re ⟨rfl, rfl, rfl, rfl, rfl, (by show some (Value.bool (cmp_Less_int p1 x3.1)) = some (Value.bool (!x3.2 || (cmp_Less_int p1 x3.1))); try rw [hb0]; all_goals simp only [Bool.not_true, Bool.not_false, Bool.true_and, Bool.false_and, Bool.true_or, Bool.false_or, Bool.and_true, Bool.or_false, cond_true, cond_false]), trivial⟩, hW⟩
  rintro a w ⟨hF, hW⟩
  refine c_cond hF rfl (fun hb => ?_) (fun hb => ?_)
  ·
    have H := iteT hb H
    rw [hb] at hF
    clear hb
    refine c_seq ?_
    refine reg_list ?_
    refine ls hF hW rfl ((y_move hF rfl).q) (fun a w hF hW => ?_)
    refine ls hF hW rfl ((y_assign hF rfl).q) (fun a w hF hW => ?_)
    refine ls_nil ?_
    refine c_then ?_
    refine wp_ret ?_
    refine r_then ?_
    refine r_block ?_
    refine r_then ?_
    refine r_block ?_
    have H := L1 _ H
    have H := Option.some.inj H
    subst H
    refine post1 (.inl rfl) hF hW rfl (rv_tmp hF rfl) ?_
    have hW := hW.frontZ (i := 1) rfl rfl
    exact ⟨((v2), (v3)), rfl, hW⟩
  ·
    have H := iteF (by rw [hb]; decide) H
    rw [hb] at hF
    clear hb
    refine wp_skip ?_
    refine c_then ?_
    refine c_seq ?_
    refine reg_list ?_
    refine ls hF hW rfl ((y_move hF rfl).q) (fun a w hF hW => ?_)
    refine ls hF hW rfl ((y_move hF rfl).q) (fun a w hF hW => ?_)
    refine l_lit (z := Value.int .i64 0) (cs := [.int .i64 x3.1]) (Rp.int .i64) ([x3.1] : List Int) hF hW rfl L25 Z3 rfl rfl rfl rfl rfl rfl (Fl.int.repL _ _ ([x3.1] : List Int)) (fun v4 a w hF hW => ?_)
    obtain ⟨x4, h2, H⟩ := bindE H
    refine l_append (r := (Rp.int .i64)) (i := 1) hF hW rfl L25 rfl rfl rfl rfl (src_row hW 0 rfl) h2 rfl (fun v5 a w hF hW => ?_)
    have hW : Stw ⟨Y, X, w0⟩ [(q_p0, [v3])] [row v5 3 (Rp.int .i64) x4, row v4 3 (Rp.int .i64) ([x3.1] : List Int), row v3 3 (Rp.int .i64) x2] w := hW
    refine ls hF hW rfl ((y_assign hF rfl).q) (fun a w hF hW => ?_)
    refine ls_nil ?_
    refine c_then ?_
    refine reg_list ?_
    refine ls hF hW rfl ((y_move hF rfl).q) (fun a w hF hW => ?_)
    obtain ⟨x5, h3, H⟩ := bindE H
    have hW := hW.frontZ (i := 2) rfl rfl
    refine l_callG (Ml := [(q_p0, [v3])]) (Zl := [row v3 3 (Rp.int .i64) x2]) (M := []) (Z := [row v5 3 (Rp.int .i64) x4, row v4 3 (Rp.int .i64) ([x3.1] : List Int)]) (β := Value) (rv := fun x => .tuple #[]) (MM := fun x => [(q_p0, [x])]) (ZZ := fun x => [row x 3 (Rp.int .i64) x5]) hF hW H26 rfl rfl (fun hL => heap_Queue_int_remove_c _ _ w q_p0 (v3) x2 0 _ h3 hL) (fun x a w hF hW => ?_)
    obtain ⟨v6, rfl⟩ : ∃ y, y = x := ⟨x, rfl⟩
    have hW : Stw ⟨Y, X, w0⟩ [(q_p0, [v6])] [row v6 3 (Rp.int .i64) x5, row v5 3 (Rp.int .i64) x4, row v4 3 (Rp.int .i64) ([x3.1] : List Int)] w := hW
    refine ls_nil ?_
    refine b_normal ?_
    refine c_then ?_
    have hW := hW.frontZ (i := 1) rfl rfl
    have hW := hW.sub (M' := [(q_p0, [v6])]) (Z' := [row v5 3 (Rp.int .i64) x4, row v6 3 (Rp.int .i64) x5]) (List.Sublist.refl _) (List.Sublist.cons_cons _ (List.Sublist.cons_cons _ (List.nil_sublist _)))
    exact ⟨_, H, (v5), (v6), hF.re ⟨rfl, rfl, rfl, rfl, trivial⟩, hW⟩

theorem H13 : Has Try.prog 13 := ⟨fun args w => run_callFunc_body Try.func13 rfl (by decide) args w⟩
noncomputable def r13_Same_l1 (p0 : List Int) (p1 : List Int) : Int → Option (Int ⊕ (Unit ⊕ Bool))
  | x1 => (if x1 < (p0.length : Int) then (ix p0 x1).bind fun x2 => (ix p1 x1).bind fun x3 => (if x2 ≠ x3 then some (.inr (.inr false)) else some (.inl (w64 (x1 + 1)))) else some (.inr (.inl ())))
noncomputable def r13_Same (p0 : List Int) (p1 : List Int) : Option Bool := (if (p0.length : Int) ≠ (p1.length : Int) then some false else orR (loopW (r13_Same_l1 p0 p1) 0) fun _ => some true)
theorem r13_Same_c (Y : Nat → Prop) (w0 : World) (v1 : Value) (v2 : Value) (p0 : List Int) (p1 : List Int) (r : Bool) (H : r13_Same p0 p1 = some r) (h_v1 : Sl w0 (NX []) (Rp.int .i64) v1 p0) (h_v2 : Sl w0 (NX []) (Rp.int .i64) v2 p1) :
    Calls Try.prog 12 #[v1, v2] w0 fun e w' => e = .returned (.bool r) ∧ Below w0.heap.size w0 w' := by
  refine enter Try.func12 rfl Try.ntmps12 rfl (fun a hF => ?_)
  have hW := Stw.start Y w0
  unfold r13_Same at H
  refine c_seq ?_
  refine reg_list ?_
  refine ls hF hW rfl ((y_assign hF rfl).q) (fun a w hF hW => ?_)
  refine ls_nil ?_
  refine c_then ?_
  refine c_seq ?_
  refine c_seq ?_
  refine reg_list ?_
  refine ls hF hW rfl ((y_move hF rfl).q) (fun a w hF hW => ?_)
  refine ls hF hW rfl ((y_len (r := (Rp.int .i64)) (l := p0) Try.underlying25 rfl hF rfl (rdc_ro h_v1)).q) (fun a w hF hW => ?_)
  refine ls hF hW rfl ((y_move hF rfl).q) (fun a w hF hW => ?_)
  refine ls hF hW rfl ((y_len (r := (Rp.int .i64)) (l := p1) Try.underlying25 rfl hF rfl (rdc_ro h_v2)).q) (fun a w hF hW => ?_)
  refine ls hF hW rfl ((y_neq hF rfl rfl).q) (fun a w hF hW => ?_)
  refine ls_nil ?_
  refine c_then ?_
  refine c_cond hF rfl (fun hb => ?_) (fun hb => ?_)
  ·
    have H := iteT (of_decide_eq_true hb) H
    rw [hb] at hF
    clear hb
    refine c_seq ?_
    refine reg_list ?_
    refine ls hF hW rfl ((y_assign hF rfl).q) (fun a w hF hW => ?_)
    refine ls_nil ?_
    refine c_then ?_
    refine wp_ret ?_
    refine r_then ?_
    have H := Option.some.inj H
    subst H
    refine post1 (.inl rfl) hF hW rfl (rv_tmp hF rfl) ?_
    exact ⟨rfl, hW.done⟩
  ·
    have H := iteF (of_decide_eq_false hb) H
    rw [hb] at hF
    clear hb
    refine wp_skip ?_
    refine c_then ?_
    obtain ⟨o1, G1, K1, L1⟩ := orE H
    refine c_seqJ (fun a w => some (Sum.inl ()) = some o1 ∧ Fr 26 [] [(4, .bool false)] a ∧ Stw ⟨Y, [], w0⟩ [] [] w) ?_ ?_
    ·
      have H := G1
      clear G1 K1
      refine c_seq ?_
      refine reg_list ?_
      refine ls hF hW rfl ((y_assign hF rfl).q) (fun a w hF hW => ?_)
      refine ls_nil ?_
      refine c_then ?_
      refine wp_block ?_
      refine c_loopW H (fun s a w => Fr 26 [] [(0, v1), (1, v2), (4, .bool false), (5, .int .i64 s)] a ∧ Stw ⟨Y, [], w0⟩ [] [] w) ⟨hF.re ⟨rfl, rfl, rfl, rfl, trivial⟩, hW⟩ (fun s o a w H L2 hR => ?_)
      obtain ⟨x1, rfl⟩ : ∃ x, x = s := ⟨s, rfl⟩
      obtain ⟨hF, hW⟩ := hR
      have hF : Fr 26 [] [(0, v1), (1, v2), (4, .bool false), (5, .int .i64 x1)] a := hF
      have hW : Stw ⟨Y, [], w0⟩ [] [] w := hW
      rw [r13_Same_l1] at H
      refine c_seq ?_
      refine c_seq ?_
      refine reg_list ?_
      refine ls hF hW rfl ((y_move hF rfl).q) (fun a w hF hW => ?_)
      refine ls hF hW rfl ((y_move hF rfl).q) (fun a w hF hW => ?_)
      refine ls hF hW rfl ((y_len (r := (Rp.int .i64)) (l := p0) Try.underlying25 rfl hF rfl (rdc_ro h_v1)).q) (fun a w hF hW => ?_)
      refine ls hF hW rfl ((y_lss hF rfl rfl).q) (fun a w hF hW => ?_)
      refine ls_nil ?_
      refine c_then ?_
      refine c_cond hF rfl (fun hb => ?_) (fun hb => ?_)
      ·
        have H := iteT (of_decide_eq_true hb) H
        rw [hb] at hF
        clear hb
        refine wp_skip ?_
        refine c_then ?_
        refine c_seq ?_
        refine wp_block ?_
        refine c_seq ?_
        refine reg_quiet hW MO (by kernel_rfl) ?_
        refine qs hF rfl ((y_move hF rfl).q) (fun a hF => ?_)
        refine qs hF rfl ((y_move hF rfl).q) (fun a hF => ?_)
        obtain ⟨x2, h1, H⟩ := bindE H
        refine qs hF rfl ((y_index (r := (Rp.int .i64)) L25 hF rfl rfl (rdc_ro h_v1) h1).q) (fun a hF => ?_)
        refine qs hF rfl ((y_load_el (y := Value.int .i64 x2) (j := 0) (i := x1) hF rfl rfl (rdc_ro h_v1) h1 Fl.int.to T3 rfl).q) (fun a hF => ?_)
        refine qs hF rfl ((y_move hF rfl).q) (fun a hF => ?_)
        refine qs hF rfl ((y_move hF rfl).q) (fun a hF => ?_)
        obtain ⟨x3, h2, H⟩ := bindE H
        refine qs hF rfl ((y_index (r := (Rp.int .i64)) L25 hF rfl rfl (rdc_ro h_v2) h2).q) (fun a hF => ?_)
        refine qs hF rfl ((y_load_el (y := Value.int .i64 x3) (j := 0) (i := x1) hF rfl rfl (rdc_ro h_v2) h2 Fl.int.to T3 rfl).q) (fun a hF => ?_)
        refine qs hF rfl ((y_neq hF rfl rfl).q) (fun a hF => ?_)
        refine quiet_end (fun w hW => ?_)
        refine c_then ?_
        refine c_cond hF rfl (fun hb => ?_) (fun hb => ?_)
        ·
          have H := iteT (of_decide_eq_true hb) H
          rw [hb] at hF
          clear hb
          refine c_seq ?_
          refine reg_list ?_
          refine ls hF hW rfl ((y_assign hF rfl).q) (fun a w hF hW => ?_)
          refine ls_nil ?_
          refine c_then ?_
          refine wp_ret ?_
          refine r_block ?_
          refine r_then ?_
          refine r_then ?_
          refine r_block ?_
          refine r_then ?_
          have H := L2 _ H
          have H := L1 _ H
          have H := Option.some.inj H
          subst H
          refine post1 (.inl rfl) hF hW rfl (rv_tmp hF rfl) ?_
          exact ⟨rfl, hW.done⟩
        ·
          have H := iteF (of_decide_eq_false hb) H
          rw [hb] at hF
          clear hb
          refine wp_skip ?_
          refine b_normal ?_
          refine c_then ?_
          refine reg_list ?_
          refine ls hF hW rfl ((y_move hF rfl).q) (fun a w hF hW => ?_)
          refine ls hF hW rfl ((y_add hF rfl rfl rfl).q) (fun a w hF hW => ?_)
          refine ls hF hW rfl ((y_assign hF rfl).q) (fun a w hF hW => ?_)
          refine ls_nil ?_
          refine c_then ?_
          exact ⟨_, H, hF.re ⟨rfl, rfl, rfl, rfl, trivial⟩, hW⟩
      ·
        have H := iteF (of_decide_eq_false hb) H
        rw [hb] at hF
        clear hb
        refine wp_exit ?_
        refine e_then ?_
        refine e_then ?_
        refine e_block ?_
        refine c_then ?_
        have H := L2 _ H
        exact ⟨H, hF.re ⟨rfl, trivial⟩, hW⟩
    rintro a w ⟨hj, hF, hW⟩
    have H := K1 _ hj
    clear hj G1 K1 L1
    refine c_seq ?_
    refine reg_list ?_
    refine ls hF hW rfl ((y_assign hF rfl).q) (fun a w hF hW => ?_)
    refine ls_nil ?_
    refine c_then ?_
    refine wp_ret ?_
    have H := Option.some.inj H
    subst H
    refine post1 (.inl rfl) hF hW rfl (rv_tmp hF rfl) ?_
    exact ⟨rfl, hW.done⟩

theorem H12 : Has Try.prog 12 := ⟨fun args w => run_callFunc_body Try.func12 rfl (by decide) args w⟩
noncomputable def r13_Drop_l1 (p0 : List Int) (p1 : Int) : (List Int × Bool × Int) → Option ((List Int × Bool × Int) ⊕ (List Int × Bool))
  | (x3, x4, x5) => (if x5 < (p0.length : Int) then ((if (!x4) = true then (ix p0 x5).bind fun x9 => some (decide (x9 = p1)) else some false).bind fun x8 => (if x8 = true then some (x3, true) else (ix p0 x5).bind fun x10 => (app x3 ([x10] : List Int)).bind fun x11 => some (x11, x4))).bind fun (x6, x7) => some (.inl (x6, x7, w64 (x5 + 1))) else some (.inr (x3, x4)))
noncomputable def r13_Drop (p0 : List Int) (p1 : Int) : Option (List Int × Bool) := (loopW (r13_Drop_l1 p0 p1) ([], false, 0)).bind fun (x1, x2) => some (x1, x2)
theorem r13_Drop_c (Y : Nat → Prop) (w0 : World) (v1 : Value) (p0 : List Int) (p1 : Int) (r : List Int × Bool) (H : r13_Drop p0 p1 = some r) (h_v1 : Sl w0 (NX []) (Rp.int .i64) v1 p0) :
    Calls Try.prog 14 #[v1, .int .i64 p1] w0 fun e w' => ∃ x : Value, e = .returned (.tuple #[x, .bool r.2]) ∧ Stw ⟨Y, [], w0⟩ [] [row (x) 3 (Rp.int .i64) r.1] w' := by
  refine enter Try.func14 rfl Try.ntmps14 rfl (fun a hF => ?_)
  have hW := Stw.start Y w0
  unfold r13_Drop at H
  refine c_seq ?_
  refine reg_list ?_
  refine ls hF hW rfl ((y_assign hF rfl).q) (fun a w hF hW => ?_)
  refine ls hF hW rfl ((y_assign hF rfl).q) (fun a w hF hW => ?_)
  refine ls_nil ?_
  refine c_then ?_
  refine c_seq ?_
  refine reg_list ?_
  refine ls hF hW rfl ((y_assign hF rfl).q) (fun a w hF hW => ?_)
  refine ls_nil ?_
  refine c_then ?_
  refine c_seq ?_
  refine reg_list ?_
  refine ls hF hW rfl ((y_assign hF rfl).q) (fun a w hF hW => ?_)
  refine ls_nil ?_
  refine c_then ?_
  obtain ⟨o1, G1, K1⟩ := bindE H
  refine c_seqJ (fun a w => ∃ x1 : List Int, ∃ x2 : Bool, ∃ v2 : Value, some ((x1, x2)) = some o1 ∧ Fr 34 [] [(4, .slice none 0 0), (5, .bool false), (6, v2), (7, .bool x2)] a ∧ Stw ⟨Y, [], w0⟩ [] [row v2 3 (Rp.int .i64) x1] w) ?_ ?_
  ·
    have H := G1
    clear G1 K1
    refine c_seq ?_
    refine reg_list ?_
    refine ls hF hW rfl ((y_assign hF rfl).q) (fun a w hF hW => ?_)
    refine ls_nil ?_
    refine c_then ?_
    refine wp_block ?_
    have hW := hW.nilRow 3 (Rp.int .i64)
    refine c_loopW H (fun s a w => ∃ v3 : Value, Fr 34 [] [(0, v1), (1, .int .i64 p1), (4, .slice none 0 0), (5, .bool false), (6, v3), (7, .bool s.2.1), (8, .int .i64 s.2.2)] a ∧ Stw ⟨Y, [], w0⟩ [] [row v3 3 (Rp.int .i64) s.1] w) ⟨(Value.slice none 0 0), hF.re ⟨rfl, rfl, rfl, rfl, rfl, rfl, rfl, trivial⟩, hW⟩ (fun s o a w H L2 hR => ?_)
    obtain ⟨x3, x4, x5⟩ := s
    obtain ⟨v3, hF, hW⟩ := hR
    have hF : Fr 34 [] [(0, v1), (1, .int .i64 p1), (4, .slice none 0 0), (5, .bool false), (6, v3), (7, .bool x4), (8, .int .i64 x5)] a := hF
    have hW : Stw ⟨Y, [], w0⟩ [] [row v3 3 (Rp.int .i64) x3] w := hW
    rw [r13_Drop_l1] at H
    refine c_seq ?_
    refine c_seq ?_
    refine reg_list ?_
    refine ls hF hW rfl ((y_move hF rfl).q) (fun a w hF hW => ?_)
    refine ls hF hW rfl ((y_move hF rfl).q) (fun a w hF hW => ?_)
    refine ls hF hW rfl ((y_len (r := (Rp.int .i64)) (l := p0) Try.underlying25 rfl hF rfl (rdc_ro h_v1)).q) (fun a w hF hW => ?_)
    refine ls hF hW rfl ((y_lss hF rfl rfl).q) (fun a w hF hW => ?_)
    refine ls_nil ?_
    refine c_then ?_
    refine c_cond hF rfl (fun hb => ?_) (fun hb => ?_)
    ·
      have H := iteT (of_decide_eq_true hb) H
      rw [hb] at hF
      clear hb
      refine wp_skip ?_
      refine c_then ?_
      obtain ⟨o3, G3, K3⟩ := bindE H
      refine c_seqJ (fun a w => ∃ x6 : List Int, ∃ x7 : Bool, ∃ v4 : Value, some ((x6, x7)) = some o3 ∧ Fr 34 [] [(0, v1), (1, .int .i64 p1), (4, .slice none 0 0), (5, .bool false), (6, v4), (7, .bool x7), (8, .int .i64 x5)] a ∧ Stw ⟨Y, [], w0⟩ [] [row v4 3 (Rp.int .i64) x6] w) ?_ ?_
      ·
        have H := G3
        clear G3 K3
        refine wp_block ?_
        refine c_seq ?_
        obtain ⟨o4, G4, K4⟩ := bindE H
        refine c_seqJ (fun a w => ∃ x8 : Bool, some (x8) = some o4 ∧ Fr 34 [] [(0, v1), (1, .int .i64 p1), (4, .slice none 0 0), (5, .bool false), (6, v3), (7, .bool x4), (8, .int .i64 x5), (24, .bool x8)] a ∧ Stw ⟨Y, [], w0⟩ [] [row v3 3 (Rp.int .i64) x3] w) ?_ ?_
        ·
          have H := G4
          clear G4 K4
          refine reg_list ?_
          refine ls hF hW rfl ((y_move hF rfl).q) (fun a w hF hW => ?_)
          refine ls hF hW rfl ((y_not hF rfl).q) (fun a w hF hW => ?_)
          refine ls hF hW rfl ((y_move hF rfl).q) (fun a w hF hW => ?_)
          rcases Bool.eq_false_or_eq_true (!x4) with hb | hb
          ·
            have H := iteT hb H
            rw [hb] at hF
            clear hb
            refine ls_w hF hW (wanted_y hF rfl rfl rfl rfl) rfl (Nat.le_of_ble_eq_true rfl) ((y_move hF rfl).q) (fun a w hF hW => ?_)
            refine ls_w hF hW (wanted_y hF rfl rfl rfl rfl) rfl (Nat.le_of_ble_eq_true rfl) ((y_move hF rfl).q) (fun a w hF hW => ?_)
            obtain ⟨x9, h1, H⟩ := bindE H
            refine ls_w hF hW (wanted_y hF rfl rfl rfl rfl) rfl (Nat.le_of_ble_eq_true rfl) ((y_index (r := (Rp.int .i64)) L25 hF rfl rfl (rdc_ro h_v1) h1).q) (fun a w hF hW => ?_)
            refine ls_w hF hW (wanted_y hF rfl rfl rfl rfl) rfl (Nat.le_of_ble_eq_true rfl) ((y_load_el (y := Value.int .i64 x9) (j := 0) (i := x5) hF rfl rfl (rdc_ro h_v1) h1 Fl.int.to T3 rfl).q) (fun a w hF hW => ?_)
            refine ls_w hF hW (wanted_y hF rfl rfl rfl rfl) rfl (Nat.le_of_ble_eq_true rfl) ((y_move hF rfl).q) (fun a w hF hW => ?_)
            refine ls_w hF hW (wanted_y hF rfl rfl rfl rfl) rfl (Nat.le_of_ble_eq_true rfl) ((y_eql hF rfl rfl).q) (fun a w hF hW => ?_)
            refine ls hF hW rfl ((y_pick_t hF rfl rfl rfl).q) (fun a w hF hW => ?_)
            refine ls_nil ?_
            refine c_then ?_
            exact ⟨_, H, hF.re ⟨rfl, rfl, rfl, rfl, rfl, rfl, rfl, rfl, trivial⟩, hW⟩
          ·
            have H := iteF (by rw [hb]; decide) H
            rw [hb] at hF
            clear hb
            refine ls_skip hF (wanted_n hF rfl rfl rfl rfl rfl) rfl rfl (fun a hF => ?_)
            refine ls_skip hF (wanted_n hF rfl rfl rfl rfl rfl) rfl rfl (fun a hF => ?_)
            refine ls_skip hF (wanted_n hF rfl rfl rfl rfl rfl) rfl rfl (fun a hF => ?_)
            refine ls_skip hF (wanted_n hF rfl rfl rfl rfl rfl) rfl rfl (fun a hF => ?_)
            refine ls_skip hF (wanted_n hF rfl rfl rfl rfl rfl) rfl rfl (fun a hF => ?_)
            refine ls_skip hF (wanted_n hF rfl rfl rfl rfl rfl) rfl rfl (fun a hF => ?_)
            refine ls hF hW rfl ((y_pick_f hF rfl rfl rfl).q) (fun a w hF hW => ?_)
            refine ls_nil ?_
            refine c_then ?_
            exact ⟨_, H, hF.re ⟨rfl, rfl, rfl, rfl, rfl, rfl, rfl, rfl, trivial⟩, hW⟩
        rintro a w ⟨x8, hj, hF, hW⟩
        have hj := Option.some.inj hj
        subst hj
        have H := K4
        clear G4 K4
        refine c_cond hF rfl (fun hb => ?_) (fun hb => ?_)
        ·
          have H := iteT hb H
          rw [hb] at hF
          clear hb
          refine c_seq ?_
          refine reg_list ?_
          refine ls hF hW rfl ((y_assign hF rfl).q) (fun a w hF hW => ?_)
          refine ls_nil ?_
          refine c_then ?_
          refine wp_exit ?_
          refine e_then ?_
          refine e_block ?_
          refine c_then ?_
          exact ⟨_, _, (v3), H, hF.re ⟨rfl, rfl, rfl, rfl, rfl, rfl, rfl, trivial⟩, hW⟩
        ·
          have H := iteF (by rw [hb]; decide) H
          rw [hb] at hF
          clear hb
          refine wp_skip ?_
          refine c_then ?_
          refine reg_list ?_
          refine ls hF hW rfl ((y_move hF rfl).q) (fun a w hF hW => ?_)
          refine ls hF hW rfl ((y_move hF rfl).q) (fun a w hF hW => ?_)
          refine ls hF hW rfl ((y_move hF rfl).q) (fun a w hF hW => ?_)
          obtain ⟨x10, h2, H⟩ := bindE H
          refine ls hF hW rfl ((y_index (r := (Rp.int .i64)) L25 hF rfl rfl (rdc_ro h_v1) h2).q) (fun a w hF hW => ?_)
          refine ls hF hW rfl ((y_load_el (y := Value.int .i64 x10) (j := 0) (i := x5) hF rfl rfl (rdc_ro h_v1) h2 Fl.int.to T3 rfl).q) (fun a w hF hW => ?_)
          refine l_lit (z := Value.int .i64 0) (cs := [.int .i64 x10]) (Rp.int .i64) ([x10] : List Int) hF hW rfl L25 Z3 rfl rfl rfl rfl rfl rfl (Fl.int.repL _ _ ([x10] : List Int)) (fun v5 a w hF hW => ?_)
          obtain ⟨x11, h3, H⟩ := bindE H
          refine l_append (r := (Rp.int .i64)) (i := 1) hF hW rfl L25 rfl rfl rfl rfl (src_row hW 0 rfl) h3 rfl (fun v6 a w hF hW => ?_)
          have hW : Stw ⟨Y, [], w0⟩ [] [row v6 3 (Rp.int .i64) x11, row v5 3 (Rp.int .i64) ([x10] : List Int)] w := hW
          refine ls hF hW rfl ((y_assign hF rfl).q) (fun a w hF hW => ?_)
          refine ls_nil ?_
          refine b_normal ?_
          refine c_then ?_
          have hW := hW.sub (M' := []) (Z' := [row v6 3 (Rp.int .i64) x11]) (List.Sublist.refl _) (List.Sublist.cons_cons _ (List.nil_sublist _))
          exact ⟨_, _, (v6), H, hF.re ⟨rfl, rfl, rfl, rfl, rfl, rfl, rfl, trivial⟩, hW⟩
      rintro a w ⟨x6, x7, v4, hj, hF, hW⟩
      have hj := Option.some.inj hj
      subst hj
      have H := K3
      clear G3 K3
      refine reg_list ?_
      refine ls hF hW rfl ((y_move hF rfl).q) (fun a w hF hW => ?_)
      refine ls hF hW rfl ((y_add hF rfl rfl rfl).q) (fun a w hF hW => ?_)
      refine ls hF hW rfl ((y_assign hF rfl).q) (fun a w hF hW => ?_)
      refine ls_nil ?_
      refine c_then ?_
      exact ⟨_, H, (v4), hF.re ⟨rfl, rfl, rfl, rfl, rfl, rfl, rfl, trivial⟩, hW⟩
    ·
      have H := iteF (of_decide_eq_false hb) H
      rw [hb] at hF
      clear hb
      refine wp_exit ?_
      refine e_then ?_
      refine e_then ?_
      refine e_block ?_
      refine c_then ?_
      have H := L2 _ H
      exact ⟨_, _, (v3), H, hF.re ⟨rfl, rfl, rfl, rfl, trivial⟩, hW⟩
  rintro a w ⟨x1, x2, v2, hj, hF, hW⟩
  have hj := Option.some.inj hj
  subst hj
  have H := K1
  clear G1 K1
  refine c_seq ?_
  refine reg_list ?_
  refine ls hF hW rfl ((y_move hF rfl).q) (fun a w hF hW => ?_)
  refine ls hF hW rfl ((y_move hF rfl).q) (fun a w hF hW => ?_)
  refine ls hF hW rfl ((y_assign hF rfl).q) (fun a w hF hW => ?_)
  refine ls hF hW rfl ((y_assign hF rfl).q) (fun a w hF hW => ?_)
  refine ls_nil ?_
  refine c_then ?_
  refine wp_ret ?_
  have H := Option.some.inj H
  subst H
  refine post2 (.inl rfl) hF hW rfl (rv_tmp hF rfl) (rv_tmp hF rfl) ?_
  exact ⟨(v2), rfl, hW⟩

theorem H14 : Has Try.prog 14 := ⟨fun args w => run_callFunc_body Try.func14 rfl (by decide) args w⟩
def cmp_Compare_int (p0 : Int) (p1 : Int) : Int := (if (cmp_isNaN_int p0) = true then (if (cmp_isNaN_int p1) = true then 0 else (-1)) else (if (cmp_isNaN_int p1) = true then 1 else (if p0 < p1 then (-1) else (if p1 < p0 then 1 else 0))))
theorem cmp_Compare_int_c (Y : Nat → Prop) (w0 : World)  (p0 : Int) (p1 : Int) (r : Int) (H : cmp_Compare_int p0 p1 = r)  :
    Calls Try.prog 30 #[.int .i64 p0, .int .i64 p1] w0 fun e w' => e = .returned (.int .i64 r) ∧ Below w0.heap.size w0 w' := by
  refine enter Try.func30 rfl Try.ntmps30 rfl (fun a hF => ?_)
  have hW := Stw.start Y w0
  unfold cmp_Compare_int at H
  refine c_seq ?_
  refine reg_list ?_
  refine ls hF hW rfl ((y_assign hF rfl).q) (fun a w hF hW => ?_)
  refine ls_nil ?_
  refine c_then ?_
  refine c_seq ?_
  refine reg_list ?_
  refine ls hF hW rfl ((y_move hF rfl).q) (fun a w hF hW => ?_)
  refine ls hF hW rfl (y_call (v := Value.bool (cmp_isNaN_int p0)) hF H40 rfl (fun w hW => cmp_isNaN_int_c any w p0 _ rfl)) (fun a w hF hW => ?_)
  refine ls hF hW rfl ((y_assign hF rfl).q) (fun a w hF hW => ?_)
  refine ls_nil ?_
  refine c_then ?_
  refine c_seq ?_
  refine reg_list ?_
  refine ls hF hW rfl ((y_move hF rfl).q) (fun a w hF hW => ?_)
  refine ls hF hW rfl (y_call (v := Value.bool (cmp_isNaN_int p1)) hF H40 rfl (fun w hW => cmp_isNaN_int_c any w p1 _ rfl)) (fun a w hF hW => ?_)
  refine ls hF hW rfl ((y_assign hF rfl).q) (fun a w hF hW => ?_)
  refine ls_nil ?_
  refine c_then ?_
  refine c_seq ?_
  refine c_seq ?_
  refine reg_list ?_
  refine ls hF hW rfl ((y_move hF rfl).q) (fun a w hF hW => ?_)
  refine ls_nil ?_
  refine c_then ?_
  refine c_cond hF rfl (fun hb => ?_) (fun hb => ?_)
  ·
    have H := iteT hb H
    rw [hb] at hF
    clear hb
    refine c_seq ?_
    refine c_seq ?_
    refine reg_list ?_
    refine ls hF hW rfl ((y_move hF rfl).q) (fun a w hF hW => ?_)
    refine ls_nil ?_
    refine c_then ?_
    refine c_cond hF rfl (fun hb => ?_) (fun hb => ?_)
    ·
      have H := iteT hb H
      rw [hb] at hF
      clear hb
      refine c_seq ?_
      refine reg_list ?_
      refine ls hF hW rfl ((y_assign hF rfl).q) (fun a w hF hW => ?_)
      refine ls_nil ?_
      refine c_then ?_
      refine wp_ret ?_
      refine r_then ?_
      refine r_then ?_
      subst H
      refine post1 (.inl rfl) hF hW rfl (rv_tmp hF rfl) ?_
      exact ⟨rfl, hW.done⟩
    ·
      have H := iteF (by rw [hb]; decide) H
      rw [hb] at hF
      clear hb
      refine wp_skip ?_
      refine c_then ?_
      refine c_seq ?_
      refine reg_list ?_
      refine ls hF hW rfl ((y_assign hF rfl).q) (fun a w hF hW => ?_)
      refine ls_nil ?_
      refine c_then ?_
      refine wp_ret ?_
      refine r_then ?_
      subst H
      refine post1 (.inl rfl) hF hW rfl (rv_tmp hF rfl) ?_
      exact ⟨rfl, hW.done⟩
  ·
    have H := iteF (by rw [hb]; decide) H
    rw [hb] at hF
    clear hb
    refine wp_skip ?_
    refine c_then ?_
    refine c_seq ?_
    refine c_seq ?_
    refine reg_list ?_
    refine ls hF hW rfl ((y_move hF rfl).q) (fun a w hF hW => ?_)
    refine ls_nil ?_
    refine c_then ?_
    refine c_cond hF rfl (fun hb => ?_) (fun hb => ?_)
    ·
      have H := iteT hb H
      rw [hb] at hF
      clear hb
      refine c_seq ?_
      refine reg_list ?_
      refine ls hF hW rfl ((y_assign hF rfl).q) (fun a w hF hW => ?_)
      refine ls_nil ?_
      refine c_then ?_
      refine wp_ret ?_
      refine r_then ?_
      subst H
      refine post1 (.inl rfl) hF hW rfl (rv_tmp hF rfl) ?_
      exact ⟨rfl, hW.done⟩
    ·
      have H := iteF (by rw [hb]; decide) H
      rw [hb] at hF
      clear hb
      refine wp_skip ?_
      refine c_then ?_
      refine c_seq ?_
      refine c_seq ?_
      refine reg_list ?_
      refine ls hF hW rfl ((y_move hF rfl).q) (fun a w hF hW => ?_)
      refine ls hF hW rfl ((y_move hF rfl).q) (fun a w hF hW => ?_)
      refine ls hF hW rfl ((y_lss hF rfl rfl).q) (fun a w hF hW => ?_)
      refine ls_nil ?_
      refine c_then ?_
      refine c_cond hF rfl (fun hb => ?_) (fun hb => ?_)
      ·
        have H := iteT (of_decide_eq_true hb) H
        rw [hb] at hF
        clear hb
        refine c_seq ?_
        refine reg_list ?_
        refine ls hF hW rfl ((y_assign hF rfl).q) (fun a w hF hW => ?_)
        refine ls_nil ?_
        refine c_then ?_
        refine wp_ret ?_
        refine r_then ?_
        subst H
        refine post1 (.inl rfl) hF hW rfl (rv_tmp hF rfl) ?_
        exact ⟨rfl, hW.done⟩
      ·
        have H := iteF (of_decide_eq_false hb) H
        rw [hb] at hF
        clear hb
        refine wp_skip ?_
        refine c_then ?_
        refine c_seq ?_
        refine c_seq ?_
        refine reg_list ?_
        refine ls hF hW rfl ((y_move hF rfl).q) (fun a w hF hW => ?_)
        refine ls hF hW rfl ((y_move hF rfl).q) (fun a w hF hW => ?_)
        refine ls hF hW rfl ((y_gtr hF rfl rfl).q) (fun a w hF hW => ?_)
        refine ls_nil ?_
        refine c_then ?_
        refine c_cond hF rfl (fun hb => ?_) (fun hb => ?_)
        ·
          have H := iteT (of_decide_eq_true hb) H
          rw [hb] at hF
          clear hb
          refine c_seq ?_
          refine reg_list ?_
          refine ls hF hW rfl ((y_assign hF rfl).q) (fun a w hF hW => ?_)
          refine ls_nil ?_
          refine c_then ?_
          refine wp_ret ?_
          refine r_then ?_
          subst H
          refine post1 (.inl rfl) hF hW rfl (rv_tmp hF rfl) ?_
          exact ⟨rfl, hW.done⟩
        ·
          have H := iteF (of_decide_eq_false hb) H
          rw [hb] at hF
          clear hb
          refine wp_skip ?_
          refine c_then ?_
          refine c_seq ?_
          refine reg_list ?_
          refine ls hF hW rfl ((y_assign hF rfl).q) (fun a w hF hW => ?_)
          refine ls_nil ?_
          refine c_then ?_
          refine wp_ret ?_
          subst H
          refine post1 (.inl rfl) hF hW rfl (rv_tmp hF rfl) ?_
          exact ⟨rfl, hW.done⟩

theorem H30 : Has Try.prog 30 := ⟨fun args w => run_callFunc_body Try.func30 rfl (by decide) args w⟩
def heap_Queue_int_Drop_1 (p0 : Int) (p1 : Int) : Bool := decide ((cmp_Compare_int p1 p0) = 0)
theorem heap_Queue_int_Drop_1_c (Y : Nat → Prop) (w0 : World) (q_p1 : Nat) (p0 : Int) (p1 : Int) (r : Bool) (H : heap_Queue_int_Drop_1 p0 p1 = r) (a_q_p1 : At ⟨Y, [], w0⟩ q_p1 0 [.int .i64 p1]) :
    Calls Try.prog 29 #[.int .i64 p0, .pointer (some ⟨q_p1, 0, none⟩)] w0 fun e w' => e = .returned (.bool r) ∧ Below w0.heap.size w0 w' := by
  refine enter Try.func29 rfl Try.ntmps29 rfl (fun a hF => ?_)
  have hW := Stw.start Y w0
  unfold heap_Queue_int_Drop_1 at H
  refine c_seq ?_
  refine reg_list ?_
  refine ls hF hW rfl ((y_assign hF rfl).q) (fun a w hF hW => ?_)
  refine ls_nil ?_
  refine c_then ?_
  refine c_seq ?_
  refine reg_list ?_
  refine ls hF hW rfl ((y_load_at (y := Value.int .i64 p1) (j := 0) hF rfl (Nat.zero_add _).symm a_q_p1 T3 rfl).q) (fun a w hF hW => ?_)
  refine ls hF hW rfl ((y_move hF rfl).q) (fun a w hF hW => ?_)
  refine ls hF hW rfl (y_call (v := Value.int .i64 (cmp_Compare_int p1 p0)) hF H30 rfl (fun w hW => cmp_Compare_int_c any w p1 p0 _ rfl)) (fun a w hF hW => ?_)
  refine ls hF hW rfl ((y_eql hF rfl rfl).q) (fun a w hF hW => ?_)
  refine ls hF hW rfl ((y_assign hF rfl).q) (fun a w hF hW => ?_)
  refine ls_nil ?_
  refine c_then ?_
  refine wp_ret ?_
  subst H
  refine post1 (.inl rfl) hF hW rfl (rv_tmp hF rfl) ?_
  exact ⟨rfl, hW.done⟩

end Go.Proofs.Ytlogogcdfdocoaa
