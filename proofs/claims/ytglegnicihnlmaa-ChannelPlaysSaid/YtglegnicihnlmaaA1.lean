/- The functions of layer 34, lifted. Conditions: none. -/
import Derived.Test.YtglegnicihnlmaaA0
namespace Go.Proofs.Ytglegnicihnlmaa
open Go Go.RowKit
set_option linter.unusedVariables false
set_option linter.unusedSimpArgs false
set_option maxRecDepth 20000
theorem H5 : Has Try.prog 5 := ⟨fun args w => run_callFunc_body Try.func5 rfl (by decide) args w⟩
theorem T32 : Ty Try.prog 32 true 5 := ⟨by kernel_rfl, by kernel_rfl⟩
def L34_mine (p0 : Int × Bool × List UInt8) : (Int × Bool × List UInt8) := p0
theorem L34_mine_c (Y : Nat → Prop) (w0 : World)  (p0 : Int × Bool × List UInt8) (r : (Int × Bool × List UInt8)) (H : L34_mine p0 = r)  :
    Calls Try.prog 14 #[.agg #[.int .i64 p0.1, .bool p0.2.1, .string (bs p0.2.2)]] w0 fun e w' => e = .returned (.agg #[.int .i64 r.1, .bool r.2.1, .string (bs r.2.2)]) ∧ Below w0.heap.size w0 w' := by
  refine enter Try.func14 rfl Try.ntmps14 rfl (fun a hF => ?_)
  have hW := Stw.start Y w0
  unfold L34_mine at H
  refine c_seq ?_
  refine reg_list ?_
  refine l_box (cs := [.int .i64 p0.1, .bool p0.2.1, .string (bs p0.2.2)]) hF hW rfl rfl rfl (fun b1 a w hF hW => ?_)
  refine l_alloc (cs := [.int .i64 0, .bool false, .string (bs ([] : List UInt8))]) hF hW rfl Z38 rfl (fun b2 a w hF hW => ?_)
  refine ls_nil ?_
  refine c_then ?_
  refine c_seq ?_
  refine reg_list ?_
  refine ls hF hW rfl ((y_fieldAddr Try.underlying30 rfl rfl rfl T3 hF rfl 0 rfl).q) (fun a w hF hW => ?_)
  refine ls hF hW rfl ((y_load (v := Value.int .i64 p0.1) 1 hF rfl rfl T3 rfl).q) (fun a w hF hW => ?_)
  refine ls hF hW rfl ((y_fieldAddr Try.underlying30 rfl rfl rfl T4 hF rfl 1 rfl).q) (fun a w hF hW => ?_)
  refine ls hF hW rfl ((y_load (v := Value.bool p0.2.1) 1 hF rfl rfl T4 rfl).q) (fun a w hF hW => ?_)
  refine ls hF hW rfl ((y_fieldAddr Try.underlying30 rfl rfl rfl T9 hF rfl 2 rfl).q) (fun a w hF hW => ?_)
  refine ls hF hW rfl ((y_load (v := Value.string (bs p0.2.2)) 1 hF rfl rfl T9 rfl).q) (fun a w hF hW => ?_)
  refine ls hF hW rfl ((y_build (v := Value.agg #[.int .i64 p0.1, .bool p0.2.1, .string (bs p0.2.2)]) B38 hF rfl rfl rfl).q) (fun a w hF hW => ?_)
  refine l_store (vs := [.int .i64 p0.1, .bool p0.2.1, .string (bs p0.2.2)]) (M' := [(b2, [.int .i64 p0.1, .bool p0.2.1, .string (bs p0.2.2)]), (b1, [.int .i64 p0.1, .bool p0.2.1, .string (bs p0.2.2)])]) 0 hF hW rfl rfl rfl T38 rfl rfl rfl rfl rfl (fun w hW => ?_)
  refine ls_nil ?_
  refine c_then ?_
  refine wp_ret ?_
  subst H
  refine post1 (.inl rfl) hF hW rfl (rv_cell 0 hF rfl rfl T38 rfl) ?_
  exact ⟨rfl, hW.done⟩

theorem H14 : Has Try.prog 14 := ⟨fun args w => run_callFunc_body Try.func14 rfl (by decide) args w⟩
theorem T26 : Ty Try.prog 26 false 1 := ⟨by kernel_rfl, by kernel_rfl⟩
theorem Z30 : (Try.prog.info? 30).bind (·.zero) = some (.agg #[.int .i64 0, .bool false, .string (bs ([] : List UInt8))]) := by kernel_rfl
theorem L26 : Et Try.prog 26 30 3 32 := Et.of Try.underlying26 (by kernel_rfl) (by kernel_rfl) (by kernel_rfl) (by decide)
noncomputable def r34_Channel_Send (p0 : (List (Int × Bool × List UInt8)) × Int) (p1 : Int × Bool × List UInt8) : Option (Int × ((List (Int × Bool × List UInt8)) × Int)) := (if 255 < (p0.1.length : Int) then some (6, (p0.1, w64 (p0.2 + 1))) else (app p0.1 ([p1] : List (Int × Bool × List UInt8))).bind fun x1 => some (0, (x1, p0.2)))
theorem r34_Channel_Send_c (Y : Nat → Prop) (X : List Nat) (w0 : World) (q_p0 : Nat) (v1 : Value) (p0 : (List (Int × Bool × List UInt8)) × Int) (p1 : Int × Bool × List UInt8) (r : Int × ((List (Int × Bool × List UInt8)) × Int)) (H : r34_Channel_Send p0 p1 = some r) (hL : Stw ⟨Y, X, w0⟩ [(q_p0, [v1, .int .i64 p0.2])] [row v1 30 R30 p0.1] w0) :
    Calls Try.prog 17 #[.pointer (some ⟨q_p0, 0, none⟩), .agg #[.int .i64 p1.1, .bool p1.2.1, .string (bs p1.2.2)]] w0 fun e w' => ∃ x : Value, e = .returned (.int .i64 r.1) ∧ Stw ⟨Y, X, w0⟩ [(q_p0, [x, .int .i64 r.2.2])] [row (x) 30 R30 r.2.1] w' := by
  refine enter Try.func17 rfl Try.ntmps17 rfl (fun a hF => ?_)
  have hW := hL
  unfold r34_Channel_Send at H
  refine c_seq ?_
  refine reg_list ?_
  refine l_box (cs := [.int .i64 p1.1, .bool p1.2.1, .string (bs p1.2.2)]) hF hW rfl rfl rfl (fun b1 a w hF hW => ?_)
  refine ls hF hW rfl ((y_assign hF rfl).q) (fun a w hF hW => ?_)
  refine ls_nil ?_
  refine c_then ?_
  refine c_seq ?_
  refine c_seq ?_
  refine reg_list ?_
  refine ls hF hW rfl ((y_move hF rfl).q) (fun a w hF hW => ?_)
  refine ls hF hW rfl ((y_nilCheck hF rfl).q) (fun a w hF hW => ?_)
  refine ls hF hW rfl ((y_fieldAddr Try.underlying28 rfl rfl rfl T26 hF rfl 0 rfl).q) (fun a w hF hW => ?_)
  refine ls hF hW rfl ((y_load (v := v1) 1 hF rfl rfl T26 rfl).q) (fun a w hF hW => ?_)
  refine ls hF hW rfl ((y_len (r := R30) (l := p0.1) Try.underlying26 rfl hF rfl (rdc_row 0 rfl)).q) (fun a w hF hW => ?_)
  refine ls hF hW rfl ((y_gtr hF rfl rfl).q) (fun a w hF hW => ?_)
  refine ls_nil ?_
  refine c_then ?_
  refine c_cond hF rfl (fun hb => ?_) (fun hb => ?_)
  ·
    have H := iteT (of_decide_eq_true hb) H
    rw [hb] at hF
    clear hb
    refine c_seq ?_
    refine reg_list ?_
    refine ls hF hW rfl ((y_move hF rfl).q) (fun a w hF hW => ?_)
    refine ls hF hW rfl ((y_move hF rfl).q) (fun a w hF hW => ?_)
    refine ls hF hW rfl ((y_nilCheck hF rfl).q) (fun a w hF hW => ?_)
    refine ls hF hW rfl ((y_fieldAddr Try.underlying28 rfl rfl rfl T3 hF rfl 1 rfl).q) (fun a w hF hW => ?_)
    refine ls hF hW rfl ((y_load (v := Value.int .i64 p0.2) 1 hF rfl rfl T3 rfl).q) (fun a w hF hW => ?_)
    refine ls hF hW rfl ((y_add hF rfl rfl rfl).q) (fun a w hF hW => ?_)
    refine ls hF hW rfl ((y_nilCheck hF rfl).q) (fun a w hF hW => ?_)
    refine ls hF hW rfl ((y_fieldAddr Try.underlying28 rfl rfl rfl T3 hF rfl 1 rfl).q) (fun a w hF hW => ?_)
    refine l_store (vs := [.int .i64 (w64 (p0.2 + 1))]) (M' := [(b1, [.int .i64 p1.1, .bool p1.2.1, .string (bs p1.2.2)]), (q_p0, [v1, .int .i64 (w64 (p0.2 + 1))])]) 1 hF hW rfl rfl rfl T3 rfl rfl rfl rfl rfl (fun w hW => ?_)
    refine ls_nil ?_
    refine c_then ?_
    refine c_seq ?_
    refine reg_list ?_
    refine ls hF hW rfl ((y_assign hF rfl).q) (fun a w hF hW => ?_)
    refine ls_nil ?_
    refine c_then ?_
    refine wp_ret ?_
    refine r_then ?_
    have H := Option.some.inj H
    subst H
    refine post1 (.inl rfl) hF hW rfl (rv_tmp hF rfl) ?_
    have hW := hW.frontM (i := 1) rfl rfl
    have hW := hW.sub (M' := [(q_p0, [v1, .int .i64 (w64 (p0.2 + 1))])]) (Z' := [row v1 30 R30 p0.1]) (List.Sublist.cons_cons _ (List.nil_sublist _)) (List.Sublist.refl _)
    exact ⟨(v1), rfl, hW⟩
  ·
    have H := iteF (of_decide_eq_false hb) H
    rw [hb] at hF
    clear hb
    refine wp_skip ?_
    refine c_then ?_
    refine c_seq ?_
    refine reg_plan [(true, 0), (true, 1), (true, 2), (true, 3), (true, 4), (true, 5), (false, 6), (false, 7), (true, 8), (true, 9), (false, 10)] (CN ⟨Y, X, w0⟩ [(some 7, q_p0, [v1, .int .i64 p0.2]), (some 6, b1, [.int .i64 p1.1, .bool p1.2.1, .string (bs p1.2.2)])] []) (fun ch a d v w h => by cases d <;> exact h) MO (by kernel_rfl) hW (fun w hW => ⟨_, _, hW, (all_cons (fun _ => (.tail _ (.head _))) (all_cons (fun _ => (.head _)) all_nil)), all_nil⟩) (fun w hW => ?_)
    refine pl_t (R := []) hF rfl rfl (yC fun M Z hN hZ => y_move hF rfl) rfl rfl (fun a hF => ?_)
    refine pl_t (R := []) hF rfl rfl (yC fun M Z hN hZ => y_move hF rfl) rfl rfl (fun a hF => ?_)
    refine pl_t (R := []) hF rfl rfl (yC fun M Z hN hZ => y_nilCheck hF rfl) rfl rfl (fun a hF => ?_)
    refine pl_t (R := []) hF rfl rfl (yC fun M Z hN hZ => y_fieldAddr Try.underlying28 rfl rfl rfl T26 hF rfl 0 rfl) rfl rfl (fun a hF => ?_)
    refine pl_t (R := [7]) hF rfl rfl (yC fun M Z hN hZ => y_load_m (cs := [v1, .int .i64 p0.2]) (v := v1) hF rfl (hN ((some 7), q_p0, [v1, .int .i64 p0.2]) (.head _) rfl) T26 rfl) (by kernel_rfl) rfl (fun a hF => ?_)
    refine pl_t (R := [6]) hF rfl rfl (yC fun M Z hN hZ => y_load_m (cs := [.int .i64 p1.1, .bool p1.2.1, .string (bs p1.2.2)]) (v := Value.agg #[.int .i64 p1.1, .bool p1.2.1, .string (bs p1.2.2)]) hF rfl (hN ((some 6), b1, [.int .i64 p1.1, .bool p1.2.1, .string (bs p1.2.2)]) (.tail _ (.head _)) rfl) T30 rfl) (by kernel_rfl) rfl (fun a hF => ?_)
    refine pl_f rfl ?_
    refine l_lit (z := Value.agg #[.int .i64 0, .bool false, .string (bs ([] : List UInt8))]) (cs := [.int .i64 p1.1, .bool p1.2.1, .string (bs p1.2.2)]) R30 ([p1] : List (Int × Bool × List UInt8)) hF hW rfl L26 Z30 rfl rfl rfl rfl rfl rfl (F30.repL _ _ ([p1] : List (Int × Bool × List UInt8))) (fun v2 a w hF hW => ?_)
    refine pl_next (N2 := []) (NZ2 := []) (N3 := [(some 7, q_p0, [v1, .int .i64 p0.2]), (some 6, b1, [.int .i64 p1.1, .bool p1.2.1, .string (bs p1.2.2)])]) (NZ3 := []) hW rfl rfl (all_cons (fun _ => (.tail _ (.head _))) (all_cons (fun h => rel_dead (by kernel_rfl) h) all_nil)) all_nil ?_
    refine pl_f rfl ?_
    obtain ⟨x1, h1, H⟩ := bindE H
    refine l_append (r := R30) (i := 1) hF hW rfl L26 rfl rfl rfl rfl (src_row hW 0 rfl) h1 rfl (fun v3 a w hF hW => ?_)
    have hW : Stw ⟨Y, X, w0⟩ [(b1, [.int .i64 p1.1, .bool p1.2.1, .string (bs p1.2.2)]), (q_p0, [v1, .int .i64 p0.2])] [row v3 30 R30 x1, row v2 30 R30 ([p1] : List (Int × Bool × List UInt8))] w := hW
    refine pl_next (N2 := []) (NZ2 := []) (N3 := [(some 7, q_p0, [v1, .int .i64 p0.2]), (some 6, b1, [.int .i64 p1.1, .bool p1.2.1, .string (bs p1.2.2)])]) (NZ3 := []) hW rfl rfl (all_cons (fun h => rel_dead (by kernel_rfl) h) (all_cons (fun h => rel_dead (by kernel_rfl) h) all_nil)) all_nil ?_
    refine pl_t (R := []) hF rfl rfl (yC fun M Z hN hZ => y_nilCheck hF rfl) rfl rfl (fun a hF => ?_)
    refine pl_t (R := []) hF rfl rfl (yC fun M Z hN hZ => y_fieldAddr Try.underlying28 rfl rfl rfl T26 hF rfl 0 rfl) rfl rfl (fun a hF => ?_)
    refine pl_f rfl ?_
    refine l_store1 (M' := [(b1, [.int .i64 p1.1, .bool p1.2.1, .string (bs p1.2.2)]), (q_p0, [v3, .int .i64 p0.2])]) 1 hF hW rfl rfl rfl T26 (hW.one (k := 0) rfl) rfl rfl (fun w hW => ?_)
    refine pl_next (N2 := []) (NZ2 := []) (N3 := [(some 7, q_p0, [v1, .int .i64 p0.2]), (some 6, b1, [.int .i64 p1.1, .bool p1.2.1, .string (bs p1.2.2)])]) (NZ3 := []) hW rfl rfl (all_cons (fun h => rel_dead (by kernel_rfl) h) (all_cons (fun h => rel_dead (by kernel_rfl) h) all_nil)) all_nil ?_
    refine pl_end ?_
    refine c_then ?_
    refine c_seq ?_
    refine reg_list ?_
    refine ls hF hW rfl ((y_assign hF rfl).q) (fun a w hF hW => ?_)
    refine ls_nil ?_
    refine c_then ?_
    refine wp_ret ?_
    have H := Option.some.inj H
    subst H
    refine post1 (.inl rfl) hF hW rfl (rv_tmp hF rfl) ?_
    have hW := hW.frontM (i := 1) rfl rfl
    have hW := hW.sub (M' := [(q_p0, [v3, .int .i64 p0.2])]) (Z' := [row v3 30 R30 x1]) (List.Sublist.cons_cons _ (List.nil_sublist _)) (List.Sublist.cons_cons _ (List.nil_sublist _))
    exact ⟨(v3), rfl, hW⟩

theorem H17 : Has Try.prog 17 := ⟨fun args w => run_callFunc_body Try.func17 rfl (by decide) args w⟩
theorem B30 : Bt Try.prog 30 [.int .i64 0, .bool false, .string (bs ([] : List UInt8))] [(0, 1), (1, 1), (2, 1)] := ⟨⟨.agg #[.int .i64 0, .bool false, .string (bs ([] : List UInt8))], by kernel_rfl, rfl⟩, ⟨_, Try.underlying30, fun w => by kernel_rfl⟩⟩
noncomputable def r34_Channel_Look (p0 : (List (Int × Bool × List UInt8)) × Int) (p1 : Int) : Option ((Int × Bool × List UInt8) × Int) := (if (decide (0 ≤ p1) && decide (p1 < (p0.1.length : Int))) = true then (ix p0.1 p1).bind fun x1 => some (x1, 0) else some ((0, false, ([] : List UInt8)), 7))
theorem r34_Channel_Look_c (Y : Nat → Prop) (w0 : World) (q_p0 : Nat) (v1 : Value) (p0 : (List (Int × Bool × List UInt8)) × Int) (p1 : Int) (r : (Int × Bool × List UInt8) × Int) (H : r34_Channel_Look p0 p1 = some r) (h_v1 : Sl w0 (NX []) R30 v1 p0.1) (a_q_p0 : At ⟨Y, [], w0⟩ q_p0 0 [v1, .int .i64 p0.2]) :
    Calls Try.prog 21 #[.pointer (some ⟨q_p0, 0, none⟩), .int .i64 p1] w0 fun e w' => e = .returned (.tuple #[.agg #[.int .i64 r.1.1, .bool r.1.2.1, .string (bs r.1.2.2)], .int .i64 r.2]) ∧ Below w0.heap.size w0 w' := by
  refine enter Try.func21 rfl Try.ntmps21 rfl (fun a hF => ?_)
  have hW := Stw.start Y w0
  unfold r34_Channel_Look at H
  refine c_seq ?_
  refine reg_list ?_
  refine l_alloc (cs := [.int .i64 0, .bool false, .string (bs ([] : List UInt8))]) hF hW rfl Z30 rfl (fun b1 a w hF hW => ?_)
  refine ls hF hW rfl ((y_assign hF rfl).q) (fun a w hF hW => ?_)
  refine ls_nil ?_
  refine c_then ?_
  refine c_seq ?_
  refine c_seqJ (fun a w => Fr 25 [] [(0, .pointer (some ⟨q_p0, 0, none⟩)), (1, .int .i64 p1), (4, .pointer (some ⟨b1, 0, none⟩)), (5, .int .i64 0), (16, .bool (decide (0 ≤ p1) && decide (p1 < (p0.1.length : Int))))] a ∧ Stw ⟨Y, [], w0⟩ [(b1, [.int .i64 0, .bool false, .string (bs ([] : List UInt8))])] [] w) ?_ ?_
  ·
    refine reg_list ?_
    refine ls hF hW rfl ((y_move hF rfl).q) (fun a w hF hW => ?_)
    refine ls hF hW rfl ((y_geq hF rfl rfl).q) (fun a w hF hW => ?_)
    refine ls hF hW rfl ((y_move hF rfl).q) (fun a w hF hW => ?_)
    rcases Bool.eq_false_or_eq_true (decide (0 ≤ p1)) with hb0 | hb0
    ·
      rw [hb0] at hF
      refine ls_w hF hW (wanted_y hF rfl rfl rfl rfl) rfl (Nat.le_of_ble_eq_true rfl) ((y_move hF rfl).q) (fun a w hF hW => ?_)
      refine ls_w hF hW (wanted_y hF rfl rfl rfl rfl) rfl (Nat.le_of_ble_eq_true rfl) ((y_move hF rfl).q) (fun a w hF hW => ?_)
      refine ls_w hF hW (wanted_y hF rfl rfl rfl rfl) rfl (Nat.le_of_ble_eq_true rfl) ((y_nilCheck hF rfl).q) (fun a w hF hW => ?_)
      refine ls_w hF hW (wanted_y hF rfl rfl rfl rfl) rfl (Nat.le_of_ble_eq_true rfl) ((y_fieldAddr Try.underlying28 rfl rfl rfl T26 hF rfl 0 rfl).q) (fun a w hF hW => ?_)
      refine ls_w hF hW (wanted_y hF rfl rfl rfl rfl) rfl (Nat.le_of_ble_eq_true rfl) ((y_load_at (y := v1) (j := 0) hF rfl (Nat.zero_add _).symm a_q_p0 T26 rfl).q) (fun a w hF hW => ?_)
      refine ls_w hF hW (wanted_y hF rfl rfl rfl rfl) rfl (Nat.le_of_ble_eq_true rfl) ((y_len (r := R30) (l := p0.1) Try.underlying26 rfl hF rfl (rdc_ro h_v1)).q) (fun a w hF hW => ?_)
      refine ls_w hF hW (wanted_y hF rfl rfl rfl rfl) rfl (Nat.le_of_ble_eq_true rfl) ((y_lss hF rfl rfl).q) (fun a w hF hW => ?_)
      refine ls hF hW rfl ((y_pick_t hF rfl rfl rfl).q) (fun a w hF hW => ?_)
      refine ls_nil ?_
      refine c_then ?_
      exact ⟨hF.re ⟨rfl, rfl, rfl, rfl, (by show some (Value.bool (decide (p1 < (p0.1.length : Int)))) = some (Value.bool (decide (0 ≤ p1) && decide (p1 < (p0.1.length : Int)))); try rw [hb0]; all_goals simp only [Bool.not_true, Bool.not_false, Bool.true_and, Bool.false_and, Bool.true_or, Bool.false_or, Bool.and_true, Bool.or_false, cond_true, cond_false]), trivial⟩, hW⟩
    ·
      rw [hb0] at hF
      refine ls_skip hF (wanted_n hF rfl rfl rfl rfl rfl) rfl rfl (fun a hF => ?_)
      refine ls_skip hF (wanted_n hF rfl rfl rfl rfl rfl) rfl rfl (fun a hF => ?_)
      refine ls_skip hF (wanted_n hF rfl rfl rfl rfl rfl) rfl rfl (fun a hF => ?_)
      refine ls_skip hF (wanted_n hF rfl rfl rfl rfl rfl) rfl rfl (fun a hF => ?_)
      refine ls_skip hF (wanted_n hF rfl rfl rfl rfl rfl) rfl rfl (fun a hF => ?_)
      refine ls_skip hF (wanted_n hF rfl rfl rfl rfl rfl) rfl rfl (fun a hF => ?_)
      refine ls_skip hF (wanted_n hF rfl rfl rfl rfl rfl) rfl rfl (fun a hF => ?_)
      refine ls hF hW rfl ((y_pick_f hF rfl rfl rfl).q) (fun a w hF hW => ?_)
      refine ls_nil ?_
      refine c_then ?_
      exact ⟨hF.re ⟨rfl, rfl, rfl, rfl, (by show some (Value.bool false) = some (Value.bool (decide (0 ≤ p1) && decide (p1 < (p0.1.length : Int)))); try rw [hb0]; all_goals simp only [Bool.not_true, Bool.not_false, Bool.true_and, Bool.false_and, Bool.true_or, Bool.false_or, Bool.and_true, Bool.or_false, cond_true, cond_false]), trivial⟩, hW⟩
  rintro a w ⟨hF, hW⟩
  refine c_cond hF rfl (fun hb => ?_) (fun hb => ?_)
  ·
    have H := iteT hb H
    rw [hb] at hF
    clear hb
    refine c_seq ?_
    refine reg_list ?_
    refine ls hF hW rfl ((y_move hF rfl).q) (fun a w hF hW => ?_)
    refine ls hF hW rfl ((y_nilCheck hF rfl).q) (fun a w hF hW => ?_)
    refine ls hF hW rfl ((y_fieldAddr Try.underlying28 rfl rfl rfl T26 hF rfl 0 rfl).q) (fun a w hF hW => ?_)
    refine ls hF hW rfl ((y_load_at (y := v1) (j := 0) hF rfl (Nat.zero_add _).symm a_q_p0 T26 rfl).q) (fun a w hF hW => ?_)
    refine ls hF hW rfl ((y_move hF rfl).q) (fun a w hF hW => ?_)
    obtain ⟨x1, h1, H⟩ := bindE H
    refine ls hF hW rfl ((y_index (r := R30) L26 hF rfl rfl (rdc_ro h_v1) h1).q) (fun a w hF hW => ?_)
    refine ls hF hW rfl ((y_load_el (y := Value.agg #[.int .i64 x1.1, .bool x1.2.1, .string (bs x1.2.2)]) (j := 0) (i := p1) hF rfl rfl (rdc_ro h_v1) h1 F30.to T30 rfl).q) (fun a w hF hW => ?_)
    refine l_store (vs := [.int .i64 x1.1, .bool x1.2.1, .string (bs x1.2.2)]) (M' := [(b1, [.int .i64 x1.1, .bool x1.2.1, .string (bs x1.2.2)])]) 0 hF hW rfl rfl rfl T30 rfl rfl rfl rfl rfl (fun w hW => ?_)
    refine ls hF hW rfl ((y_assign hF rfl).q) (fun a w hF hW => ?_)
    refine ls_nil ?_
    refine c_then ?_
    refine wp_ret ?_
    refine r_then ?_
    have H := Option.some.inj H
    subst H
    refine post2 (.inl rfl) hF hW rfl (rv_cell 0 hF rfl rfl T30 rfl) (rv_tmp hF rfl) ?_
    exact ⟨rfl, hW.done⟩
  ·
    have H := iteF (by rw [hb]; decide) H
    rw [hb] at hF
    clear hb
    refine wp_skip ?_
    refine c_then ?_
    refine c_seq ?_
    refine reg_list ?_
    refine ls hF hW rfl ((y_build (v := Value.agg #[.int .i64 0, .bool false, .string (bs ([] : List UInt8))]) B30 hF rfl rfl rfl).q) (fun a w hF hW => ?_)
    refine l_store (vs := [.int .i64 0, .bool false, .string (bs ([] : List UInt8))]) (M' := [(b1, [.int .i64 0, .bool false, .string (bs ([] : List UInt8))])]) 0 hF hW rfl rfl rfl T30 rfl rfl rfl rfl rfl (fun w hW => ?_)
    refine ls hF hW rfl ((y_assign hF rfl).q) (fun a w hF hW => ?_)
    refine ls_nil ?_
    refine c_then ?_
    refine wp_ret ?_
    have H := Option.some.inj H
    subst H
    refine post2 (.inl rfl) hF hW rfl (rv_cell 0 hF rfl rfl T30 rfl) (rv_tmp hF rfl) ?_
    exact ⟨rfl, hW.done⟩

theorem H21 : Has Try.prog 21 := ⟨fun args w => run_callFunc_body Try.func21 rfl (by decide) args w⟩
noncomputable def r34_Channel_Take_l1 (p0 : (List (Int × Bool × List UInt8)) × Int) (p1 : Int) : ((List (Int × Bool × List UInt8)) × Int) → Option (((List (Int × Bool × List UInt8)) × Int) ⊕ (List (Int × Bool × List UInt8)))
  | (x3, x4) => (if x4 < (p0.1.length : Int) then (if x4 ≠ p1 then (ix p0.1 x4).bind fun x6 => (app x3 ([x6] : List (Int × Bool × List UInt8))).bind fun x7 => some x7 else some x3).bind fun x5 => some (.inl (x5, w64 (x4 + 1))) else some (.inr x3))
noncomputable def r34_Channel_Take (p0 : (List (Int × Bool × List UInt8)) × Int) (p1 : Int) : Option ((Int × Bool × List UInt8) × Int × ((List (Int × Bool × List UInt8)) × Int)) := (r34_Channel_Look p0 p1).bind fun x1 => (loopW (r34_Channel_Take_l1 p0 p1) ([], 0)).bind fun x2 => some (x1.1, x1.2, (x2, p0.2))
theorem r34_Channel_Take_c (Y : Nat → Prop) (X : List Nat) (w0 : World) (q_p0 : Nat) (v1 : Value) (p0 : (List (Int × Bool × List UInt8)) × Int) (p1 : Int) (r : (Int × Bool × List UInt8) × Int × ((List (Int × Bool × List UInt8)) × Int)) (H : r34_Channel_Take p0 p1 = some r) (hL : Stw ⟨Y, X, w0⟩ [(q_p0, [v1, .int .i64 p0.2])] [row v1 30 R30 p0.1] w0) :
    Calls Try.prog 18 #[.pointer (some ⟨q_p0, 0, none⟩), .int .i64 p1] w0 fun e w' => ∃ x : Value, e = .returned (.tuple #[.agg #[.int .i64 r.1.1, .bool r.1.2.1, .string (bs r.1.2.2)], .int .i64 r.2.1]) ∧ Stw ⟨Y, X, w0⟩ [(q_p0, [x, .int .i64 r.2.2.2])] [row (x) 30 R30 r.2.2.1] w' := by
  refine enter Try.func18 rfl Try.ntmps18 rfl (fun a hF => ?_)
  have hW := hL
  unfold r34_Channel_Take at H
  refine c_seq ?_
  refine reg_list ?_
  refine l_alloc (cs := [.int .i64 0, .bool false, .string (bs ([] : List UInt8))]) hF hW rfl Z30 rfl (fun b1 a w hF hW => ?_)
  refine ls hF hW rfl ((y_assign hF rfl).q) (fun a w hF hW => ?_)
  refine ls_nil ?_
  refine c_then ?_
  refine c_seq ?_
  refine reg_list ?_
  refine ls hF hW rfl ((y_move hF rfl).q) (fun a w hF hW => ?_)
  refine ls hF hW rfl ((y_move hF rfl).q) (fun a w hF hW => ?_)
  obtain ⟨x1, h1, H⟩ := bindE H
  refine ls hF hW rfl (y_call (v := Value.tuple #[.agg #[.int .i64 x1.1.1, .bool x1.1.2.1, .string (bs x1.1.2.2)], .int .i64 x1.2]) hF H21 rfl (fun w hW => r34_Channel_Look_c any w q_p0 (v1) p0 p1 _ h1 (((rdc_row 0 rfl) : Rdc _ _ _ _ _ _) w hW).nx (at_M hW 1 rfl))) (fun a w hF hW => ?_)
  refine ls hF hW rfl ((y_move hF rfl).q) (fun a w hF hW => ?_)
  refine ls hF hW rfl ((y_extract (v := Value.agg #[.int .i64 x1.1.1, .bool x1.1.2.1, .string (bs x1.1.2.2)]) hF rfl rfl).q) (fun a w hF hW => ?_)
  refine ls hF hW rfl ((y_extract (v := Value.int .i64 x1.2) hF rfl rfl).q) (fun a w hF hW => ?_)
  refine l_alloc (cs := [.int .i64 0, .bool false, .string (bs ([] : List UInt8))]) hF hW rfl Z30 rfl (fun b2 a w hF hW => ?_)
  refine l_store (vs := [.int .i64 x1.1.1, .bool x1.1.2.1, .string (bs x1.1.2.2)]) (M' := [(b2, [.int .i64 x1.1.1, .bool x1.1.2.1, .string (bs x1.1.2.2)]), (b1, [.int .i64 0, .bool false, .string (bs ([] : List UInt8))]), (q_p0, [v1, .int .i64 p0.2])]) 0 hF hW rfl rfl rfl T30 rfl rfl rfl rfl rfl (fun w hW => ?_)
  refine ls hF hW rfl ((y_assign hF rfl).q) (fun a w hF hW => ?_)
  refine ls_nil ?_
  refine c_then ?_
  refine c_seq ?_
  refine reg_list ?_
  refine ls hF hW rfl ((y_assign hF rfl).q) (fun a w hF hW => ?_)
  refine ls_nil ?_
  refine c_then ?_
  obtain ⟨o1, G1, K1⟩ := bindE H
  refine c_seqJ (fun a w => ∃ x2 : List (Int × Bool × List UInt8), ∃ v2 : Value, some (x2) = some o1 ∧ Fr 44 [] [(0, .pointer (some ⟨q_p0, 0, none⟩)), (4, .pointer (some ⟨b1, 0, none⟩)), (5, .int .i64 0), (6, .pointer (some ⟨b2, 0, none⟩)), (7, .int .i64 x1.2), (8, v2)] a ∧ Stw ⟨Y, X, w0⟩ [(b2, [.int .i64 x1.1.1, .bool x1.1.2.1, .string (bs x1.1.2.2)]), (b1, [.int .i64 0, .bool false, .string (bs ([] : List UInt8))]), (q_p0, [v1, .int .i64 p0.2])] [row v2 30 R30 x2, row v1 30 R30 p0.1] w) ?_ ?_
  ·
    have H := G1
    clear G1 K1
    refine c_seq ?_
    refine reg_list ?_
    refine ls hF hW rfl ((y_assign hF rfl).q) (fun a w hF hW => ?_)
    refine ls_nil ?_
    refine c_then ?_
    refine wp_block ?_
    have hW := hW.nilRow 30 R30
    have hW := hW.frontZ (i := 1) rfl rfl
    have hW := hW.frontZ (i := 1) rfl rfl
    have hW := hW.frontM (i := 2) rfl rfl
    have hW := hW.frontM (i := 2) rfl rfl
    have hW := hW.frontM (i := 2) rfl rfl
    refine c_loopW H (fun s a w => ∃ v3 : Value, Fr 44 [] [(0, .pointer (some ⟨q_p0, 0, none⟩)), (1, .int .i64 p1), (4, .pointer (some ⟨b1, 0, none⟩)), (5, .int .i64 0), (6, .pointer (some ⟨b2, 0, none⟩)), (7, .int .i64 x1.2), (8, v3), (9, .int .i64 s.2)] a ∧ Stw ⟨Y, X, w0⟩ [(b2, [.int .i64 x1.1.1, .bool x1.1.2.1, .string (bs x1.1.2.2)]), (b1, [.int .i64 0, .bool false, .string (bs ([] : List UInt8))]), (q_p0, [v1, .int .i64 p0.2])] [row v3 30 R30 s.1, row v1 30 R30 p0.1] w) ⟨(Value.slice none 0 0), hF.re ⟨rfl, rfl, rfl, rfl, rfl, rfl, rfl, rfl, trivial⟩, hW⟩ (fun s o a w H L2 hR => ?_)
    obtain ⟨x3, x4⟩ := s
    obtain ⟨v3, hF, hW⟩ := hR
    have hF : Fr 44 [] [(0, .pointer (some ⟨q_p0, 0, none⟩)), (1, .int .i64 p1), (4, .pointer (some ⟨b1, 0, none⟩)), (5, .int .i64 0), (6, .pointer (some ⟨b2, 0, none⟩)), (7, .int .i64 x1.2), (8, v3), (9, .int .i64 x4)] a := hF
    have hW : Stw ⟨Y, X, w0⟩ [(b2, [.int .i64 x1.1.1, .bool x1.1.2.1, .string (bs x1.1.2.2)]), (b1, [.int .i64 0, .bool false, .string (bs ([] : List UInt8))]), (q_p0, [v1, .int .i64 p0.2])] [row v3 30 R30 x3, row v1 30 R30 p0.1] w := hW
    rw [r34_Channel_Take_l1] at H
    refine c_seq ?_
    refine c_seq ?_
    refine reg_list ?_
    refine ls hF hW rfl ((y_move hF rfl).q) (fun a w hF hW => ?_)
    refine ls hF hW rfl ((y_move hF rfl).q) (fun a w hF hW => ?_)
    refine ls hF hW rfl ((y_nilCheck hF rfl).q) (fun a w hF hW => ?_)
    refine ls hF hW rfl ((y_fieldAddr Try.underlying28 rfl rfl rfl T26 hF rfl 0 rfl).q) (fun a w hF hW => ?_)
    refine ls hF hW rfl ((y_load (v := v1) 2 hF rfl rfl T26 rfl).q) (fun a w hF hW => ?_)
    refine ls hF hW rfl ((y_len (r := R30) (l := p0.1) Try.underlying26 rfl hF rfl (rdc_row 1 rfl)).q) (fun a w hF hW => ?_)
    refine ls hF hW rfl ((y_lss hF rfl rfl).q) (fun a w hF hW => ?_)
    refine ls_nil ?_
    refine c_then ?_
    refine c_cond hF rfl (fun hb => ?_) (fun hb => ?_)
    ·
      have H := iteT (of_decide_eq_true hb) H
      rw [hb] at hF
      clear hb
      refine wp_skip ?_
      refine c_then ?_
      obtain ⟨o3, G3, K3⟩ := bindE H
      refine c_seqJ (fun a w => ∃ x5 : List (Int × Bool × List UInt8), ∃ v4 : Value, some (x5) = some o3 ∧ Fr 44 [] [(0, .pointer (some ⟨q_p0, 0, none⟩)), (1, .int .i64 p1), (4, .pointer (some ⟨b1, 0, none⟩)), (5, .int .i64 0), (6, .pointer (some ⟨b2, 0, none⟩)), (7, .int .i64 x1.2), (8, v4), (9, .int .i64 x4)] a ∧ Stw ⟨Y, X, w0⟩ [(b2, [.int .i64 x1.1.1, .bool x1.1.2.1, .string (bs x1.1.2.2)]), (b1, [.int .i64 0, .bool false, .string (bs ([] : List UInt8))]), (q_p0, [v1, .int .i64 p0.2])] [row v4 30 R30 x5, row v1 30 R30 p0.1] w) ?_ ?_
      ·
        have H := G3
        clear G3 K3
        refine wp_block ?_
        refine c_seq ?_
        refine reg_list ?_
        refine ls hF hW rfl ((y_move hF rfl).q) (fun a w hF hW => ?_)
        refine ls hF hW rfl ((y_move hF rfl).q) (fun a w hF hW => ?_)
        refine ls hF hW rfl ((y_neq hF rfl rfl).q) (fun a w hF hW => ?_)
        refine ls_nil ?_
        refine c_then ?_
        refine c_cond hF rfl (fun hb => ?_) (fun hb => ?_)
        ·
          have H := iteT (of_decide_eq_true hb) H
          rw [hb] at hF
          clear hb
          refine reg_list ?_
          refine ls hF hW rfl ((y_move hF rfl).q) (fun a w hF hW => ?_)
          refine ls hF hW rfl ((y_move hF rfl).q) (fun a w hF hW => ?_)
          refine ls hF hW rfl ((y_nilCheck hF rfl).q) (fun a w hF hW => ?_)
          refine ls hF hW rfl ((y_fieldAddr Try.underlying28 rfl rfl rfl T26 hF rfl 0 rfl).q) (fun a w hF hW => ?_)
          refine ls hF hW rfl ((y_load (v := v1) 2 hF rfl rfl T26 rfl).q) (fun a w hF hW => ?_)
          refine ls hF hW rfl ((y_move hF rfl).q) (fun a w hF hW => ?_)
          obtain ⟨x6, h2, H⟩ := bindE H
          refine ls hF hW rfl ((y_index (r := R30) L26 hF rfl rfl (rdc_row 1 rfl) h2).q) (fun a w hF hW => ?_)
          refine ls hF hW rfl ((y_load_el (y := Value.agg #[.int .i64 x6.1, .bool x6.2.1, .string (bs x6.2.2)]) (j := 0) (i := x4) hF rfl rfl (rdc_row 1 rfl) h2 F30.to T30 rfl).q) (fun a w hF hW => ?_)
          refine l_lit (z := Value.agg #[.int .i64 0, .bool false, .string (bs ([] : List UInt8))]) (cs := [.int .i64 x6.1, .bool x6.2.1, .string (bs x6.2.2)]) R30 ([x6] : List (Int × Bool × List UInt8)) hF hW rfl L26 Z30 rfl rfl rfl rfl rfl rfl (F30.repL _ _ ([x6] : List (Int × Bool × List UInt8))) (fun v5 a w hF hW => ?_)
          obtain ⟨x7, h3, H⟩ := bindE H
          refine l_append (r := R30) (i := 1) hF hW rfl L26 rfl rfl rfl rfl (src_row hW 0 rfl) h3 rfl (fun v6 a w hF hW => ?_)
          have hW : Stw ⟨Y, X, w0⟩ [(b2, [.int .i64 x1.1.1, .bool x1.1.2.1, .string (bs x1.1.2.2)]), (b1, [.int .i64 0, .bool false, .string (bs ([] : List UInt8))]), (q_p0, [v1, .int .i64 p0.2])] [row v6 30 R30 x7, row v5 30 R30 ([x6] : List (Int × Bool × List UInt8)), row v1 30 R30 p0.1] w := hW
          refine ls hF hW rfl ((y_assign hF rfl).q) (fun a w hF hW => ?_)
          refine ls_nil ?_
          refine b_normal ?_
          refine c_then ?_
          have hW := hW.frontZ (i := 2) rfl rfl
          have hW := hW.frontZ (i := 1) rfl rfl
          have hW := hW.frontM (i := 2) rfl rfl
          have hW := hW.frontM (i := 2) rfl rfl
          have hW := hW.frontM (i := 2) rfl rfl
          have hW := hW.sub (M' := [(b2, [.int .i64 x1.1.1, .bool x1.1.2.1, .string (bs x1.1.2.2)]), (b1, [.int .i64 0, .bool false, .string (bs ([] : List UInt8))]), (q_p0, [v1, .int .i64 p0.2])]) (Z' := [row v6 30 R30 x7, row v1 30 R30 p0.1]) (List.Sublist.refl _) (List.Sublist.cons_cons _ (List.Sublist.cons_cons _ (List.nil_sublist _)))
          exact ⟨_, (v6), H, hF.re ⟨rfl, rfl, rfl, rfl, rfl, rfl, rfl, rfl, trivial⟩, hW⟩
        ·
          have H := iteF (of_decide_eq_false hb) H
          rw [hb] at hF
          clear hb
          refine wp_skip ?_
          refine b_normal ?_
          refine c_then ?_
          have hW := hW.frontZ (i := 1) rfl rfl
          have hW := hW.frontZ (i := 1) rfl rfl
          have hW := hW.frontM (i := 2) rfl rfl
          have hW := hW.frontM (i := 2) rfl rfl
          have hW := hW.frontM (i := 2) rfl rfl
          exact ⟨_, (v3), H, hF.re ⟨rfl, rfl, rfl, rfl, rfl, rfl, rfl, rfl, trivial⟩, hW⟩
      rintro a w ⟨x5, v4, hj, hF, hW⟩
      have hj := Option.some.inj hj
      subst hj
      have H := K3
      clear G3 K3
      refine reg_list ?_
      refine ls hF hW rfl ((y_move hF rfl).q) (fun a w hF hW => ?_)
      refine ls hF hW rfl ((y_add hF rfl rfl rfl).q) (fun a w hF hW => ?_)
      refine ls hF hW rfl ((y_assign hF rfl).q) (fun a w hF hW => ?_)
      refine ls_nil ?_
      refine c_then ?_
      have hW := hW.frontZ (i := 1) rfl rfl
      have hW := hW.frontZ (i := 1) rfl rfl
      have hW := hW.frontM (i := 2) rfl rfl
      have hW := hW.frontM (i := 2) rfl rfl
      have hW := hW.frontM (i := 2) rfl rfl
      exact ⟨_, H, (v4), hF.re ⟨rfl, rfl, rfl, rfl, rfl, rfl, rfl, rfl, trivial⟩, hW⟩
    ·
      have H := iteF (of_decide_eq_false hb) H
      rw [hb] at hF
      clear hb
      refine wp_exit ?_
      refine e_then ?_
      refine e_then ?_
      refine e_block ?_
      refine c_then ?_
      have hW := hW.frontZ (i := 1) rfl rfl
      have hW := hW.frontZ (i := 1) rfl rfl
      have hW := hW.frontM (i := 2) rfl rfl
      have hW := hW.frontM (i := 2) rfl rfl
      have hW := hW.frontM (i := 2) rfl rfl
      have H := L2 _ H
      exact ⟨_, (v3), H, hF.re ⟨rfl, rfl, rfl, rfl, rfl, rfl, trivial⟩, hW⟩
  rintro a w ⟨x2, v2, hj, hF, hW⟩
  have hj := Option.some.inj hj
  subst hj
  have H := K1
  clear G1 K1
  refine c_seq ?_
  refine reg_list ?_
  refine ls hF hW rfl ((y_move hF rfl).q) (fun a w hF hW => ?_)
  refine ls hF hW rfl ((y_move hF rfl).q) (fun a w hF hW => ?_)
  refine ls hF hW rfl ((y_nilCheck hF rfl).q) (fun a w hF hW => ?_)
  refine ls hF hW rfl ((y_fieldAddr Try.underlying28 rfl rfl rfl T26 hF rfl 0 rfl).q) (fun a w hF hW => ?_)
  refine l_store1 (M' := [(b2, [.int .i64 x1.1.1, .bool x1.1.2.1, .string (bs x1.1.2.2)]), (b1, [.int .i64 0, .bool false, .string (bs ([] : List UInt8))]), (q_p0, [v2, .int .i64 p0.2])]) 2 hF hW rfl rfl rfl T26 (hW.one (k := 0) rfl) rfl rfl (fun w hW => ?_)
  refine ls_nil ?_
  refine c_then ?_
  refine c_seq ?_
  refine reg_list ?_
  refine ls hF hW rfl ((y_load (v := Value.agg #[.int .i64 x1.1.1, .bool x1.1.2.1, .string (bs x1.1.2.2)]) 0 hF rfl rfl T30 rfl).q) (fun a w hF hW => ?_)
  refine ls hF hW rfl ((y_move hF rfl).q) (fun a w hF hW => ?_)
  refine l_store (vs := [.int .i64 x1.1.1, .bool x1.1.2.1, .string (bs x1.1.2.2)]) (M' := [(b2, [.int .i64 x1.1.1, .bool x1.1.2.1, .string (bs x1.1.2.2)]), (b1, [.int .i64 x1.1.1, .bool x1.1.2.1, .string (bs x1.1.2.2)]), (q_p0, [v2, .int .i64 p0.2])]) 1 hF hW rfl rfl rfl T30 rfl rfl rfl rfl rfl (fun w hW => ?_)
  refine ls hF hW rfl ((y_assign hF rfl).q) (fun a w hF hW => ?_)
  refine ls_nil ?_
  refine c_then ?_
  refine wp_ret ?_
  have H := Option.some.inj H
  subst H
  refine post2 (.inl rfl) hF hW rfl (rv_cell 1 hF rfl rfl T30 rfl) (rv_tmp hF rfl) ?_
  have hW := hW.frontM (i := 2) rfl rfl
  have hW := hW.sub (M' := [(q_p0, [v2, .int .i64 p0.2])]) (Z' := [row v2 30 R30 x2]) (List.Sublist.cons_cons _ (List.nil_sublist _)) (List.Sublist.cons_cons _ (List.nil_sublist _))
  exact ⟨(v2), rfl, hW⟩

theorem H18 : Has Try.prog 18 := ⟨fun args w => run_callFunc_body Try.func18 rfl (by decide) args w⟩
theorem QD38 (dd : Nat) (x0 : Int) (x1 : Bool) (x2 : List UInt8) (y0 : Int) (y1 : Bool) (y2 : List UInt8) (w : World) : (Op.equalIn (dd + 2) 38 (.agg #[.int .i64 x0, .bool x1, .string (bs x2)]) (.agg #[.int .i64 y0, .bool y1, .string (bs y2)])).run Try.prog w = .ok (decide (x0 = y0 ∧ x1 = y1 ∧ x2 = y2)) w :=
  eq_struct (d := dd + 1) (rs := [decide (x0 = y0), decide (x1 = y1), decide (x2 = y2)]) Try.underlying38 (by kernel_rfl) ⟨rfl, fld_int (d := dd + 0) rfl rfl Try.underlying3 T3 rfl rfl, rfl, fld_bool (d := dd + 0) rfl rfl Try.underlying4 T4 rfl rfl, rfl, fld_str (d := dd + 0) rfl rfl Try.underlying9 T9 rfl rfl, trivial⟩ (by simp) w
theorem G38 : Try.prog.eqGuardType Try.prog.depth 38 = false := by kernel_rfl
theorem Q38 (x0 : Int) (x1 : Bool) (x2 : List UInt8) (y0 : Int) (y1 : Bool) (y2 : List UInt8) (w : World) : (Op.equalIn 10000 38 (.agg #[.int .i64 x0, .bool x1, .string (bs x2)]) (.agg #[.int .i64 y0, .bool y1, .string (bs y2)])).run Try.prog w = .ok (decide (x0 = y0 ∧ x1 = y1 ∧ x2 = y2)) w := QD38 9998 x0 x1 x2 y0 y1 y2 w
noncomputable def channel_Channel_Twice (p0 : (List (Int × Bool × List UInt8)) × Int) (p1 : Int) : Option (Int × ((List (Int × Bool × List UInt8)) × Int)) := (channel_Channel_Look p0 p1).bind fun x1 => (if x1.2 ≠ 0 then some (x1.2, p0) else (channel_Channel_Send p0 x1.1).bind fun x2 => some (x2.1, x2.2))
theorem channel_Channel_Twice_c (Y : Nat → Prop) (X : List Nat) (w0 : World) (q_p0 : Nat) (v1 : Value) (p0 : (List (Int × Bool × List UInt8)) × Int) (p1 : Int) (r : Int × ((List (Int × Bool × List UInt8)) × Int)) (H : channel_Channel_Twice p0 p1 = some r) (hL : Stw ⟨Y, X, w0⟩ [(q_p0, [v1, .int .i64 p0.2])] [row v1 38 R38 p0.1] w0) :
    Calls Try.prog 19 #[.pointer (some ⟨q_p0, 0, none⟩), .int .i64 p1] w0 fun e w' => ∃ x : Value, e = .returned (.int .i64 r.1) ∧ Stw ⟨Y, X, w0⟩ [(q_p0, [x, .int .i64 r.2.2])] [row (x) 38 R38 r.2.1] w' := by
  refine enter Try.func19 rfl Try.ntmps19 rfl (fun a hF => ?_)
  have hW := hL
  unfold channel_Channel_Twice at H
  refine c_seq ?_
  refine reg_list ?_
  refine ls hF hW rfl ((y_assign hF rfl).q) (fun a w hF hW => ?_)
  refine ls_nil ?_
  refine c_then ?_
  refine c_seq ?_
  refine reg_list ?_
  refine ls hF hW rfl ((y_move hF rfl).q) (fun a w hF hW => ?_)
  refine ls hF hW rfl ((y_move hF rfl).q) (fun a w hF hW => ?_)
  obtain ⟨x1, h1, H⟩ := bindE H
  refine ls hF hW rfl (y_call (v := Value.tuple #[.agg #[.int .i64 x1.1.1, .bool x1.1.2.1, .string (bs x1.1.2.2)], .int .i64 x1.2]) hF H13 rfl (fun w hW => channel_Channel_Look_c any w q_p0 (v1) p0 p1 _ h1 (((rdc_row 0 rfl) : Rdc _ _ _ _ _ _) w hW).nx (at_M hW 0 rfl))) (fun a w hF hW => ?_)
  refine ls hF hW rfl ((y_move hF rfl).q) (fun a w hF hW => ?_)
  refine ls hF hW rfl ((y_extract (v := Value.agg #[.int .i64 x1.1.1, .bool x1.1.2.1, .string (bs x1.1.2.2)]) hF rfl rfl).q) (fun a w hF hW => ?_)
  refine ls hF hW rfl ((y_extract (v := Value.int .i64 x1.2) hF rfl rfl).q) (fun a w hF hW => ?_)
  refine l_alloc (cs := [.int .i64 0, .bool false, .string (bs ([] : List UInt8))]) hF hW rfl Z38 rfl (fun b1 a w hF hW => ?_)
  refine l_store (vs := [.int .i64 x1.1.1, .bool x1.1.2.1, .string (bs x1.1.2.2)]) (M' := [(b1, [.int .i64 x1.1.1, .bool x1.1.2.1, .string (bs x1.1.2.2)]), (q_p0, [v1, .int .i64 p0.2])]) 0 hF hW rfl rfl rfl T38 rfl rfl rfl rfl rfl (fun w hW => ?_)
  refine ls hF hW rfl ((y_assign hF rfl).q) (fun a w hF hW => ?_)
  refine ls_nil ?_
  refine c_then ?_
  refine c_seq ?_
  refine c_seq ?_
  refine reg_list ?_
  refine ls hF hW rfl ((y_move hF rfl).q) (fun a w hF hW => ?_)
  refine ls hF hW rfl ((y_neq hF rfl rfl).q) (fun a w hF hW => ?_)
  refine ls_nil ?_
  refine c_then ?_
  refine c_cond hF rfl (fun hb => ?_) (fun hb => ?_)
  ·
    have H := iteT (of_decide_eq_true hb) H
    rw [hb] at hF
    clear hb
    refine c_seq ?_
    refine reg_list ?_
    refine ls hF hW rfl ((y_move hF rfl).q) (fun a w hF hW => ?_)
    refine ls hF hW rfl ((y_assign hF rfl).q) (fun a w hF hW => ?_)
    refine ls_nil ?_
    refine c_then ?_
    refine wp_ret ?_
    refine r_then ?_
    have H := Option.some.inj H
    subst H
    refine post1 (.inl rfl) hF hW rfl (rv_tmp hF rfl) ?_
    have hW := hW.frontM (i := 1) rfl rfl
    have hW := hW.sub (M' := [(q_p0, [v1, .int .i64 p0.2])]) (Z' := [row v1 38 R38 p0.1]) (List.Sublist.cons_cons _ (List.nil_sublist _)) (List.Sublist.refl _)
    exact ⟨(v1), rfl, hW⟩
  ·
    have H := iteF (of_decide_eq_false hb) H
    rw [hb] at hF
    clear hb
    refine wp_skip ?_
    refine c_then ?_
    refine c_seq ?_
    refine reg_list ?_
    refine ls hF hW rfl ((y_move hF rfl).q) (fun a w hF hW => ?_)
    refine ls hF hW rfl ((y_load (v := Value.agg #[.int .i64 x1.1.1, .bool x1.1.2.1, .string (bs x1.1.2.2)]) 0 hF rfl rfl T38 rfl).q) (fun a w hF hW => ?_)
    obtain ⟨x2, h2, H⟩ := bindE H
    have hW := hW.frontM (i := 1) rfl rfl
    refine l_callG (Ml := [(q_p0, [v1, .int .i64 p0.2])]) (Zl := [row v1 38 R38 p0.1]) (M := [(b1, [.int .i64 x1.1.1, .bool x1.1.2.1, .string (bs x1.1.2.2)])]) (Z := []) (β := Value) (rv := fun x => .int .i64 x2.1) (MM := fun x => [(q_p0, [x, .int .i64 x2.2.2])]) (ZZ := fun x => [row x 38 R38 x2.2.1]) hF hW H15 rfl rfl (fun hL => channel_Channel_Send_c _ _ w q_p0 (v1) p0 x1.1 _ h2 hL) (fun x a w hF hW => ?_)
    obtain ⟨v2, rfl⟩ : ∃ y, y = x := ⟨x, rfl⟩
    have hW : Stw ⟨Y, X, w0⟩ [(q_p0, [v2, .int .i64 x2.2.2]), (b1, [.int .i64 x1.1.1, .bool x1.1.2.1, .string (bs x1.1.2.2)])] [row v2 38 R38 x2.2.1] w := hW
    refine ls hF hW rfl ((y_assign hF rfl).q) (fun a w hF hW => ?_)
    refine ls_nil ?_
    refine c_then ?_
    refine wp_ret ?_
    have H := Option.some.inj H
    subst H
    refine post1 (.inl rfl) hF hW rfl (rv_tmp hF rfl) ?_
    have hW := hW.sub (M' := [(q_p0, [v2, .int .i64 x2.2.2])]) (Z' := [row v2 38 R38 x2.2.1]) (List.Sublist.cons_cons _ (List.nil_sublist _)) (List.Sublist.refl _)
    exact ⟨(v2), rfl, hW⟩

theorem H19 : Has Try.prog 19 := ⟨fun args w => run_callFunc_body Try.func19 rfl (by decide) args w⟩
noncomputable def r34_Channel_Twice (p0 : (List (Int × Bool × List UInt8)) × Int) (p1 : Int) : Option (Int × ((List (Int × Bool × List UInt8)) × Int)) := (r34_Channel_Look p0 p1).bind fun x1 => (if x1.2 ≠ 0 then some (x1.2, p0) else (r34_Channel_Send p0 x1.1).bind fun x2 => some (x2.1, x2.2))
theorem r34_Channel_Twice_c (Y : Nat → Prop) (X : List Nat) (w0 : World) (q_p0 : Nat) (v1 : Value) (p0 : (List (Int × Bool × List UInt8)) × Int) (p1 : Int) (r : Int × ((List (Int × Bool × List UInt8)) × Int)) (H : r34_Channel_Twice p0 p1 = some r) (hL : Stw ⟨Y, X, w0⟩ [(q_p0, [v1, .int .i64 p0.2])] [row v1 30 R30 p0.1] w0) :
    Calls Try.prog 20 #[.pointer (some ⟨q_p0, 0, none⟩), .int .i64 p1] w0 fun e w' => ∃ x : Value, e = .returned (.int .i64 r.1) ∧ Stw ⟨Y, X, w0⟩ [(q_p0, [x, .int .i64 r.2.2])] [row (x) 30 R30 r.2.1] w' := by
  refine enter Try.func20 rfl Try.ntmps20 rfl (fun a hF => ?_)
  have hW := hL
  unfold r34_Channel_Twice at H
  refine c_seq ?_
  refine reg_list ?_
  refine ls hF hW rfl ((y_assign hF rfl).q) (fun a w hF hW => ?_)
  refine ls_nil ?_
  refine c_then ?_
  refine c_seq ?_
  refine reg_list ?_
  refine ls hF hW rfl ((y_move hF rfl).q) (fun a w hF hW => ?_)
  refine ls hF hW rfl ((y_move hF rfl).q) (fun a w hF hW => ?_)
  obtain ⟨x1, h1, H⟩ := bindE H
  refine ls hF hW rfl (y_call (v := Value.tuple #[.agg #[.int .i64 x1.1.1, .bool x1.1.2.1, .string (bs x1.1.2.2)], .int .i64 x1.2]) hF H21 rfl (fun w hW => r34_Channel_Look_c any w q_p0 (v1) p0 p1 _ h1 (((rdc_row 0 rfl) : Rdc _ _ _ _ _ _) w hW).nx (at_M hW 0 rfl))) (fun a w hF hW => ?_)
  refine ls hF hW rfl ((y_move hF rfl).q) (fun a w hF hW => ?_)
  refine ls hF hW rfl ((y_extract (v := Value.agg #[.int .i64 x1.1.1, .bool x1.1.2.1, .string (bs x1.1.2.2)]) hF rfl rfl).q) (fun a w hF hW => ?_)
  refine ls hF hW rfl ((y_extract (v := Value.int .i64 x1.2) hF rfl rfl).q) (fun a w hF hW => ?_)
  refine l_alloc (cs := [.int .i64 0, .bool false, .string (bs ([] : List UInt8))]) hF hW rfl Z30 rfl (fun b1 a w hF hW => ?_)
  refine l_store (vs := [.int .i64 x1.1.1, .bool x1.1.2.1, .string (bs x1.1.2.2)]) (M' := [(b1, [.int .i64 x1.1.1, .bool x1.1.2.1, .string (bs x1.1.2.2)]), (q_p0, [v1, .int .i64 p0.2])]) 0 hF hW rfl rfl rfl T30 rfl rfl rfl rfl rfl (fun w hW => ?_)
  refine ls hF hW rfl ((y_assign hF rfl).q) (fun a w hF hW => ?_)
  refine ls_nil ?_
  refine c_then ?_
  refine c_seq ?_
  refine c_seq ?_
  refine reg_list ?_
  refine ls hF hW rfl ((y_move hF rfl).q) (fun a w hF hW => ?_)
  refine ls hF hW rfl ((y_neq hF rfl rfl).q) (fun a w hF hW => ?_)
  refine ls_nil ?_
  refine c_then ?_
  refine c_cond hF rfl (fun hb => ?_) (fun hb => ?_)
  ·
    have H := iteT (of_decide_eq_true hb) H
    rw [hb] at hF
    clear hb
    refine c_seq ?_
    refine reg_list ?_
    refine ls hF hW rfl ((y_move hF rfl).q) (fun a w hF hW => ?_)
    refine ls hF hW rfl ((y_assign hF rfl).q) (fun a w hF hW => ?_)
    refine ls_nil ?_
    refine c_then ?_
    refine wp_ret ?_
    refine r_then ?_
    have H := Option.some.inj H
    subst H
    refine post1 (.inl rfl) hF hW rfl (rv_tmp hF rfl) ?_
    have hW := hW.frontM (i := 1) rfl rfl
    have hW := hW.sub (M' := [(q_p0, [v1, .int .i64 p0.2])]) (Z' := [row v1 30 R30 p0.1]) (List.Sublist.cons_cons _ (List.nil_sublist _)) (List.Sublist.refl _)
    exact ⟨(v1), rfl, hW⟩
  ·
    have H := iteF (of_decide_eq_false hb) H
    rw [hb] at hF
    clear hb
    refine wp_skip ?_
    refine c_then ?_
    refine c_seq ?_
    refine reg_list ?_
    refine ls hF hW rfl ((y_move hF rfl).q) (fun a w hF hW => ?_)
    refine ls hF hW rfl ((y_load (v := Value.agg #[.int .i64 x1.1.1, .bool x1.1.2.1, .string (bs x1.1.2.2)]) 0 hF rfl rfl T30 rfl).q) (fun a w hF hW => ?_)
    obtain ⟨x2, h2, H⟩ := bindE H
    have hW := hW.frontM (i := 1) rfl rfl
    refine l_callG (Ml := [(q_p0, [v1, .int .i64 p0.2])]) (Zl := [row v1 30 R30 p0.1]) (M := [(b1, [.int .i64 x1.1.1, .bool x1.1.2.1, .string (bs x1.1.2.2)])]) (Z := []) (β := Value) (rv := fun x => .int .i64 x2.1) (MM := fun x => [(q_p0, [x, .int .i64 x2.2.2])]) (ZZ := fun x => [row x 30 R30 x2.2.1]) hF hW H17 rfl rfl (fun hL => r34_Channel_Send_c _ _ w q_p0 (v1) p0 x1.1 _ h2 hL) (fun x a w hF hW => ?_)
    obtain ⟨v2, rfl⟩ : ∃ y, y = x := ⟨x, rfl⟩
    have hW : Stw ⟨Y, X, w0⟩ [(q_p0, [v2, .int .i64 x2.2.2]), (b1, [.int .i64 x1.1.1, .bool x1.1.2.1, .string (bs x1.1.2.2)])] [row v2 30 R30 x2.2.1] w := hW
    refine ls hF hW rfl ((y_assign hF rfl).q) (fun a w hF hW => ?_)
    refine ls_nil ?_
    refine c_then ?_
    refine wp_ret ?_
    have H := Option.some.inj H
    subst H
    refine post1 (.inl rfl) hF hW rfl (rv_tmp hF rfl) ?_
    have hW := hW.sub (M' := [(q_p0, [v2, .int .i64 x2.2.2])]) (Z' := [row v2 30 R30 x2.2.1]) (List.Sublist.cons_cons _ (List.nil_sublist _)) (List.Sublist.refl _)
    exact ⟨(v2), rfl, hW⟩

theorem H20 : Has Try.prog 20 := ⟨fun args w => run_callFunc_body Try.func20 rfl (by decide) args w⟩
noncomputable def L34_does (p0 : (List (Int × Bool × List UInt8)) × Int) (p1 : (List (Int × Bool × List UInt8)) × Int) (p2 : Int × Int × (Int × Bool × List UInt8)) : Option (Bool × ((List (Int × Bool × List UInt8)) × Int) × ((List (Int × Bool × List UInt8)) × Int)) := (if p2.1 = 0 then some true else (if p2.1 = 1 then some true else some (decide (p2.1 = 2)))).bind fun x1 => (if x1 = true then (channel_Channel_Send p0 (L34_mine p2.2.2)).bind fun x2 => (r34_Channel_Send p1 p2.2.2).bind fun x3 => some (decide (x2.1 = x3.1), x2.2, x3.2) else (if p2.1 = 3 then (channel_Channel_Take p0 p2.2.1).bind fun x4 => (r34_Channel_Take p1 p2.2.1).bind fun x5 => some ((decide (x4.1.1 = ((L34_mine x5.1).1) ∧ x4.1.2.1 = ((L34_mine x5.1).2.1) ∧ x4.1.2.2 = ((L34_mine x5.1).2.2)) && decide (x4.2.1 = x5.2.1)), x4.2.2, x5.2.2) else (if p2.1 = 4 then (channel_Channel_Twice p0 p2.2.1).bind fun x6 => (r34_Channel_Twice p1 p2.2.1).bind fun x7 => some (decide (x6.1 = x7.1), x6.2, x7.2) else (if p2.1 = 5 then (channel_Channel_Look p0 p2.2.1).bind fun x8 => (r34_Channel_Look p1 p2.2.1).bind fun x9 => some ((decide (x8.1.1 = ((L34_mine x9.1).1) ∧ x8.1.2.1 = ((L34_mine x9.1).2.1) ∧ x8.1.2.2 = ((L34_mine x9.1).2.2)) && decide (x8.2 = x9.2)), p0, p1) else some (true, p0, p1)))))
theorem L34_does_c (Y : Nat → Prop) (X : List Nat) (w0 : World) (q_p0 : Nat) (v1 : Value) (q_p1 : Nat) (v2 : Value) (p0 : (List (Int × Bool × List UInt8)) × Int) (p1 : (List (Int × Bool × List UInt8)) × Int) (p2 : Int × Int × (Int × Bool × List UInt8)) (r : Bool × ((List (Int × Bool × List UInt8)) × Int) × ((List (Int × Bool × List UInt8)) × Int)) (H : L34_does p0 p1 p2 = some r) (hL : Stw ⟨Y, X, w0⟩ [(q_p0, [v1, .int .i64 p0.2]), (q_p1, [v2, .int .i64 p1.2])] [row v1 38 R38 p0.1, row v2 30 R30 p1.1] w0) :
    Calls Try.prog 6 #[.pointer (some ⟨q_p0, 0, none⟩), .pointer (some ⟨q_p1, 0, none⟩), .agg #[.int .i64 p2.1, .int .i64 p2.2.1, .int .i64 p2.2.2.1, .bool p2.2.2.2.1, .string (bs p2.2.2.2.2)]] w0 fun e w' => ∃ x : Value × Value, e = .returned (.bool r.1) ∧ Stw ⟨Y, X, w0⟩ [(q_p0, [x.1, .int .i64 r.2.1.2]), (q_p1, [x.2, .int .i64 r.2.2.2])] [row (x.1) 38 R38 r.2.1.1, row (x.2) 30 R30 r.2.2.1] w' := by
  refine enter Try.func6 rfl Try.ntmps6 rfl (fun a hF => ?_)
  have hW := hL
  unfold L34_does at H
  refine c_seq ?_
  refine reg_list ?_
  refine l_box (cs := [.int .i64 p2.1, .int .i64 p2.2.1, .int .i64 p2.2.2.1, .bool p2.2.2.2.1, .string (bs p2.2.2.2.2)]) hF hW rfl rfl rfl (fun b1 a w hF hW => ?_)
  refine ls hF hW rfl ((y_assign hF rfl).q) (fun a w hF hW => ?_)
  refine ls_nil ?_
  refine c_then ?_
  refine c_seq ?_
  refine reg_list ?_
  refine ls hF hW rfl ((y_fieldAddr Try.underlying32 rfl rfl rfl T3 hF rfl 0 rfl).q) (fun a w hF hW => ?_)
  refine ls hF hW rfl ((y_load (v := Value.int .i64 p2.1) 0 hF rfl rfl T3 rfl).q) (fun a w hF hW => ?_)
  refine ls_nil ?_
  refine c_then ?_
  refine wp_block ?_
  obtain ⟨o1, G1, K1⟩ := bindE H
  refine c_seqJ (fun a w => ∃ x1 : Bool, some (x1) = some o1 ∧ Fr 92 [] [(0, .pointer (some ⟨q_p0, 0, none⟩)), (1, .pointer (some ⟨q_p1, 0, none⟩)), (5, .pointer (some ⟨b1, 0, none⟩)), (6, .bool false), (16, .int .i64 p2.1), (17, .bool x1)] a ∧ Stw ⟨Y, X, w0⟩ [(b1, [.int .i64 p2.1, .int .i64 p2.2.1, .int .i64 p2.2.2.1, .bool p2.2.2.2.1, .string (bs p2.2.2.2.2)]), (q_p0, [v1, .int .i64 p0.2]), (q_p1, [v2, .int .i64 p1.2])] [row v1 38 R38 p0.1, row v2 30 R30 p1.1] w) ?_ ?_
  ·
    have H := G1
    clear G1 K1
    refine c_seq ?_
    refine reg_list ?_
    refine ls hF hW rfl ((y_eql hF rfl rfl).q) (fun a w hF hW => ?_)
    refine ls hF hW rfl ((y_assign hF rfl).q) (fun a w hF hW => ?_)
    refine ls_nil ?_
    refine c_then ?_
    refine c_cond hF rfl (fun hb => ?_) (fun hb => ?_)
    ·
      have H := iteT (of_decide_eq_true hb) H
      rw [hb] at hF
      clear hb
      refine wp_skip ?_
      refine c_then ?_
      have hW := hW.frontZ (i := 1) rfl rfl
      have hW := hW.frontZ (i := 1) rfl rfl
      have hW := hW.frontM (i := 2) rfl rfl
      have hW := hW.frontM (i := 2) rfl rfl
      have hW := hW.frontM (i := 2) rfl rfl
      exact ⟨_, H, hF.re ⟨rfl, rfl, rfl, rfl, rfl, rfl, trivial⟩, hW⟩
    ·
      have H := iteF (of_decide_eq_false hb) H
      rw [hb] at hF
      clear hb
      refine c_seq ?_
      refine reg_list ?_
      refine ls hF hW rfl ((y_eql hF rfl rfl).q) (fun a w hF hW => ?_)
      refine ls hF hW rfl ((y_assign hF rfl).q) (fun a w hF hW => ?_)
      refine ls_nil ?_
      refine c_then ?_
      refine c_cond hF rfl (fun hb => ?_) (fun hb => ?_)
      ·
        have H := iteT (of_decide_eq_true hb) H
        rw [hb] at hF
        clear hb
        refine wp_skip ?_
        refine c_then ?_
        have hW := hW.frontZ (i := 1) rfl rfl
        have hW := hW.frontZ (i := 1) rfl rfl
        have hW := hW.frontM (i := 2) rfl rfl
        have hW := hW.frontM (i := 2) rfl rfl
        have hW := hW.frontM (i := 2) rfl rfl
        exact ⟨_, H, hF.re ⟨rfl, rfl, rfl, rfl, rfl, rfl, trivial⟩, hW⟩
      ·
        have H := iteF (of_decide_eq_false hb) H
        rw [hb] at hF
        clear hb
        refine reg_list ?_
        refine ls hF hW rfl ((y_eql hF rfl rfl).q) (fun a w hF hW => ?_)
        refine ls hF hW rfl ((y_assign hF rfl).q) (fun a w hF hW => ?_)
        refine ls_nil ?_
        refine c_then ?_
        have hW := hW.frontZ (i := 1) rfl rfl
        have hW := hW.frontZ (i := 1) rfl rfl
        have hW := hW.frontM (i := 2) rfl rfl
        have hW := hW.frontM (i := 2) rfl rfl
        have hW := hW.frontM (i := 2) rfl rfl
        exact ⟨_, H, hF.re ⟨rfl, rfl, rfl, rfl, rfl, rfl, trivial⟩, hW⟩
  rintro a w ⟨x1, hj, hF, hW⟩
  have hj := Option.some.inj hj
  subst hj
  have H := K1
  clear G1 K1
  refine c_cond hF rfl (fun hb => ?_) (fun hb => ?_)
  ·
    have H := iteT hb H
    rw [hb] at hF
    clear hb
    refine c_seq ?_
    refine reg_plan [(true, 0), (true, 1), (true, 2), (true, 5), (true, 6), (true, 7), (false, 3), (false, 4), (false, 8), (true, 9), (false, 10)] (CN ⟨Y, X, w0⟩ [(some 3, b1, [.int .i64 p2.1, .int .i64 p2.2.1, .int .i64 p2.2.2.1, .bool p2.2.2.2.1, .string (bs p2.2.2.2.2)]), (some 8, b1, [.int .i64 p2.1, .int .i64 p2.2.1, .int .i64 p2.2.2.1, .bool p2.2.2.2.1, .string (bs p2.2.2.2.2)])] []) (fun ch a d v w h => by cases d <;> exact h) MO (by kernel_rfl) hW (fun w hW => ⟨_, _, hW, (all_cons (fun _ => (.head _)) (all_cons (fun _ => (.head _)) all_nil)), all_nil⟩) (fun w hW => ?_)
    refine pl_t (R := []) hF rfl rfl (yC fun M Z hN hZ => y_move hF rfl) rfl rfl (fun a hF => ?_)
    refine pl_t (R := []) hF rfl rfl (yC fun M Z hN hZ => y_fieldAddr Try.underlying32 rfl rfl rfl T30 hF rfl 2 rfl) rfl rfl (fun a hF => ?_)
    refine pl_t (R := [3]) hF rfl rfl (yC fun M Z hN hZ => y_load_m (cs := [.int .i64 p2.1, .int .i64 p2.2.1, .int .i64 p2.2.2.1, .bool p2.2.2.2.1, .string (bs p2.2.2.2.2)]) (v := Value.agg #[.int .i64 p2.2.2.1, .bool p2.2.2.2.1, .string (bs p2.2.2.2.2)]) hF rfl (hN ((some 3), b1, [.int .i64 p2.1, .int .i64 p2.2.1, .int .i64 p2.2.2.1, .bool p2.2.2.2.1, .string (bs p2.2.2.2.2)]) (.head _) rfl) T30 rfl) (by kernel_rfl) rfl (fun a hF => ?_)
    refine pl_t (R := []) hF rfl rfl (yC fun M Z hN hZ => y_move hF rfl) rfl rfl (fun a hF => ?_)
    refine pl_t (R := []) hF rfl rfl (yC fun M Z hN hZ => y_fieldAddr Try.underlying32 rfl rfl rfl T30 hF rfl 2 rfl) rfl rfl (fun a hF => ?_)
    refine pl_t (R := [8]) hF rfl rfl (yC fun M Z hN hZ => y_load_m (cs := [.int .i64 p2.1, .int .i64 p2.2.1, .int .i64 p2.2.2.1, .bool p2.2.2.2.1, .string (bs p2.2.2.2.2)]) (v := Value.agg #[.int .i64 p2.2.2.1, .bool p2.2.2.2.1, .string (bs p2.2.2.2.2)]) hF rfl (hN ((some 8), b1, [.int .i64 p2.1, .int .i64 p2.2.1, .int .i64 p2.2.2.1, .bool p2.2.2.2.1, .string (bs p2.2.2.2.2)]) (.tail _ (.head _)) rfl) T30 rfl) (by kernel_rfl) rfl (fun a hF => ?_)
    refine pl_f rfl ?_
    refine ls hF hW rfl (y_call (v := Value.agg #[.int .i64 ((L34_mine p2.2.2).1), .bool ((L34_mine p2.2.2).2.1), .string (bs ((L34_mine p2.2.2).2.2))]) hF H14 rfl (fun w hW => L34_mine_c any w p2.2.2 _ rfl)) (fun a w hF hW => ?_)
    refine pl_next (N2 := []) (NZ2 := []) (N3 := [(some 3, b1, [.int .i64 p2.1, .int .i64 p2.2.1, .int .i64 p2.2.2.1, .bool p2.2.2.2.1, .string (bs p2.2.2.2.2)]), (some 8, b1, [.int .i64 p2.1, .int .i64 p2.2.1, .int .i64 p2.2.2.1, .bool p2.2.2.2.1, .string (bs p2.2.2.2.2)])]) (NZ3 := []) hW rfl rfl (all_cons (fun h => rel_dead (by kernel_rfl) h) (all_cons (fun _ => (.head _)) all_nil)) all_nil ?_
    refine pl_f rfl ?_
    obtain ⟨x2, h1, H⟩ := bindE H
    have hW := hW.frontM (i := 1) rfl rfl
    refine l_callG (Ml := [(q_p0, [v1, .int .i64 p0.2])]) (Zl := [row v1 38 R38 p0.1]) (M := [(b1, [.int .i64 p2.1, .int .i64 p2.2.1, .int .i64 p2.2.2.1, .bool p2.2.2.2.1, .string (bs p2.2.2.2.2)]), (q_p1, [v2, .int .i64 p1.2])]) (Z := [row v2 30 R30 p1.1]) (β := Value) (rv := fun x => .int .i64 x2.1) (MM := fun x => [(q_p0, [x, .int .i64 x2.2.2])]) (ZZ := fun x => [row x 38 R38 x2.2.1]) hF hW H15 rfl rfl (fun hL => channel_Channel_Send_c _ _ w q_p0 (v1) p0 (L34_mine p2.2.2) _ h1 hL) (fun x a w hF hW => ?_)
    obtain ⟨v3, rfl⟩ : ∃ y, y = x := ⟨x, rfl⟩
    have hW : Stw ⟨Y, X, w0⟩ [(q_p0, [v3, .int .i64 x2.2.2]), (b1, [.int .i64 p2.1, .int .i64 p2.2.1, .int .i64 p2.2.2.1, .bool p2.2.2.2.1, .string (bs p2.2.2.2.2)]), (q_p1, [v2, .int .i64 p1.2])] [row v3 38 R38 x2.2.1, row v2 30 R30 p1.1] w := hW
    refine pl_next (N2 := []) (NZ2 := []) (N3 := [(some 3, b1, [.int .i64 p2.1, .int .i64 p2.2.1, .int .i64 p2.2.2.1, .bool p2.2.2.2.1, .string (bs p2.2.2.2.2)]), (some 8, b1, [.int .i64 p2.1, .int .i64 p2.2.1, .int .i64 p2.2.2.1, .bool p2.2.2.2.1, .string (bs p2.2.2.2.2)])]) (NZ3 := []) hW rfl rfl (all_cons (fun h => rel_dead (by kernel_rfl) h) (all_cons (fun _ => (.tail _ (.head _))) all_nil)) all_nil ?_
    refine pl_f rfl ?_
    obtain ⟨x3, h2, H⟩ := bindE H
    have hW := hW.frontZ (i := 1) rfl rfl
    have hW := hW.frontM (i := 2) rfl rfl
    refine l_callG (Ml := [(q_p1, [v2, .int .i64 p1.2])]) (Zl := [row v2 30 R30 p1.1]) (M := [(q_p0, [v3, .int .i64 x2.2.2]), (b1, [.int .i64 p2.1, .int .i64 p2.2.1, .int .i64 p2.2.2.1, .bool p2.2.2.2.1, .string (bs p2.2.2.2.2)])]) (Z := [row v3 38 R38 x2.2.1]) (β := Value) (rv := fun x => .int .i64 x3.1) (MM := fun x => [(q_p1, [x, .int .i64 x3.2.2])]) (ZZ := fun x => [row x 30 R30 x3.2.1]) hF hW H17 rfl rfl (fun hL => r34_Channel_Send_c _ _ w q_p1 (v2) p1 p2.2.2 _ h2 hL) (fun x a w hF hW => ?_)
    obtain ⟨v4, rfl⟩ : ∃ y, y = x := ⟨x, rfl⟩
    have hW : Stw ⟨Y, X, w0⟩ [(q_p1, [v4, .int .i64 x3.2.2]), (q_p0, [v3, .int .i64 x2.2.2]), (b1, [.int .i64 p2.1, .int .i64 p2.2.1, .int .i64 p2.2.2.1, .bool p2.2.2.2.1, .string (bs p2.2.2.2.2)])] [row v4 30 R30 x3.2.1, row v3 38 R38 x2.2.1] w := hW
    refine pl_next (N2 := []) (NZ2 := []) (N3 := [(some 3, b1, [.int .i64 p2.1, .int .i64 p2.2.1, .int .i64 p2.2.2.1, .bool p2.2.2.2.1, .string (bs p2.2.2.2.2)]), (some 8, b1, [.int .i64 p2.1, .int .i64 p2.2.1, .int .i64 p2.2.2.1, .bool p2.2.2.2.1, .string (bs p2.2.2.2.2)])]) (NZ3 := []) hW rfl rfl (all_cons (fun h => rel_dead (by kernel_rfl) h) (all_cons (fun h => rel_dead (by kernel_rfl) h) all_nil)) all_nil ?_
    refine pl_t (R := []) hF rfl rfl (yC fun M Z hN hZ => y_eql hF rfl rfl) rfl rfl (fun a hF => ?_)
    refine pl_f rfl ?_
    refine ls hF hW rfl ((y_assign hF rfl).q) (fun a w hF hW => ?_)
    refine pl_next (N2 := []) (NZ2 := []) (N3 := [(some 3, b1, [.int .i64 p2.1, .int .i64 p2.2.1, .int .i64 p2.2.2.1, .bool p2.2.2.2.1, .string (bs p2.2.2.2.2)]), (some 8, b1, [.int .i64 p2.1, .int .i64 p2.2.1, .int .i64 p2.2.2.1, .bool p2.2.2.2.1, .string (bs p2.2.2.2.2)])]) (NZ3 := []) hW rfl rfl (all_cons (fun h => rel_dead (by kernel_rfl) h) (all_cons (fun h => rel_dead (by kernel_rfl) h) all_nil)) all_nil ?_
    refine pl_end ?_
    refine c_then ?_
    refine wp_ret ?_
    refine r_block ?_
    have H := Option.some.inj H
    subst H
    refine post1 (.inl rfl) hF hW rfl (rv_tmp hF rfl) ?_
    have hW := hW.frontZ (i := 1) rfl rfl
    have hW := hW.frontM (i := 1) rfl rfl
    have hW := hW.sub (M' := [(q_p0, [v3, .int .i64 x2.2.2]), (q_p1, [v4, .int .i64 x3.2.2])]) (Z' := [row v3 38 R38 x2.2.1, row v4 30 R30 x3.2.1]) (List.Sublist.cons_cons _ (List.Sublist.cons_cons _ (List.nil_sublist _))) (List.Sublist.refl _)
    exact ⟨((v3), (v4)), rfl, hW⟩
  ·
    have H := iteF (by rw [hb]; decide) H
    rw [hb] at hF
    clear hb
    refine c_seq ?_
    refine reg_list ?_
    refine ls hF hW rfl ((y_eql hF rfl rfl).q) (fun a w hF hW => ?_)
    refine ls hF hW rfl ((y_assign hF rfl).q) (fun a w hF hW => ?_)
    refine ls_nil ?_
    refine c_then ?_
    refine c_cond hF rfl (fun hb => ?_) (fun hb => ?_)
    ·
      have H := iteT (of_decide_eq_true hb) H
      rw [hb] at hF
      clear hb
      refine c_seq ?_
      refine reg_list ?_
      refine ls hF hW rfl ((y_move hF rfl).q) (fun a w hF hW => ?_)
      refine ls hF hW rfl ((y_fieldAddr Try.underlying32 rfl rfl rfl T3 hF rfl 1 rfl).q) (fun a w hF hW => ?_)
      refine ls hF hW rfl ((y_load (v := Value.int .i64 p2.2.1) 0 hF rfl rfl T3 rfl).q) (fun a w hF hW => ?_)
      obtain ⟨x4, h3, H⟩ := bindE H
      have hW := hW.frontM (i := 1) rfl rfl
      refine l_callG (Ml := [(q_p0, [v1, .int .i64 p0.2])]) (Zl := [row v1 38 R38 p0.1]) (M := [(b1, [.int .i64 p2.1, .int .i64 p2.2.1, .int .i64 p2.2.2.1, .bool p2.2.2.2.1, .string (bs p2.2.2.2.2)]), (q_p1, [v2, .int .i64 p1.2])]) (Z := [row v2 30 R30 p1.1]) (β := Value) (rv := fun x => .tuple #[.agg #[.int .i64 x4.1.1, .bool x4.1.2.1, .string (bs x4.1.2.2)], .int .i64 x4.2.1]) (MM := fun x => [(q_p0, [x, .int .i64 x4.2.2.2])]) (ZZ := fun x => [row x 38 R38 x4.2.2.1]) hF hW H16 rfl rfl (fun hL => channel_Channel_Take_c _ _ w q_p0 (v1) p0 p2.2.1 _ h3 hL) (fun x a w hF hW => ?_)
      obtain ⟨v5, rfl⟩ : ∃ y, y = x := ⟨x, rfl⟩
      have hW : Stw ⟨Y, X, w0⟩ [(q_p0, [v5, .int .i64 x4.2.2.2]), (b1, [.int .i64 p2.1, .int .i64 p2.2.1, .int .i64 p2.2.2.1, .bool p2.2.2.2.1, .string (bs p2.2.2.2.2)]), (q_p1, [v2, .int .i64 p1.2])] [row v5 38 R38 x4.2.2.1, row v2 30 R30 p1.1] w := hW
      refine ls hF hW rfl ((y_move hF rfl).q) (fun a w hF hW => ?_)
      refine ls hF hW rfl ((y_extract (v := Value.agg #[.int .i64 x4.1.1, .bool x4.1.2.1, .string (bs x4.1.2.2)]) hF rfl rfl).q) (fun a w hF hW => ?_)
      refine ls hF hW rfl ((y_extract (v := Value.int .i64 x4.2.1) hF rfl rfl).q) (fun a w hF hW => ?_)
      refine l_alloc (cs := [.int .i64 0, .bool false, .string (bs ([] : List UInt8))]) hF hW rfl Z38 rfl (fun b2 a w hF hW => ?_)
      refine l_store (vs := [.int .i64 x4.1.1, .bool x4.1.2.1, .string (bs x4.1.2.2)]) (M' := [(b2, [.int .i64 x4.1.1, .bool x4.1.2.1, .string (bs x4.1.2.2)]), (q_p0, [v5, .int .i64 x4.2.2.2]), (b1, [.int .i64 p2.1, .int .i64 p2.2.1, .int .i64 p2.2.2.1, .bool p2.2.2.2.1, .string (bs p2.2.2.2.2)]), (q_p1, [v2, .int .i64 p1.2])]) 0 hF hW rfl rfl rfl T38 rfl rfl rfl rfl rfl (fun w hW => ?_)
      refine ls hF hW rfl ((y_assign hF rfl).q) (fun a w hF hW => ?_)
      refine ls_nil ?_
      refine c_then ?_
      refine c_seq ?_
      refine reg_list ?_
      refine ls hF hW rfl ((y_move hF rfl).q) (fun a w hF hW => ?_)
      refine ls hF hW rfl ((y_fieldAddr Try.underlying32 rfl rfl rfl T3 hF rfl 1 rfl).q) (fun a w hF hW => ?_)
      refine ls hF hW rfl ((y_load (v := Value.int .i64 p2.2.1) 2 hF rfl rfl T3 rfl).q) (fun a w hF hW => ?_)
      obtain ⟨x5, h4, H⟩ := bindE H
      have hW := hW.frontZ (i := 1) rfl rfl
      have hW := hW.frontM (i := 3) rfl rfl
      refine l_callG (Ml := [(q_p1, [v2, .int .i64 p1.2])]) (Zl := [row v2 30 R30 p1.1]) (M := [(b2, [.int .i64 x4.1.1, .bool x4.1.2.1, .string (bs x4.1.2.2)]), (q_p0, [v5, .int .i64 x4.2.2.2]), (b1, [.int .i64 p2.1, .int .i64 p2.2.1, .int .i64 p2.2.2.1, .bool p2.2.2.2.1, .string (bs p2.2.2.2.2)])]) (Z := [row v5 38 R38 x4.2.2.1]) (β := Value) (rv := fun x => .tuple #[.agg #[.int .i64 x5.1.1, .bool x5.1.2.1, .string (bs x5.1.2.2)], .int .i64 x5.2.1]) (MM := fun x => [(q_p1, [x, .int .i64 x5.2.2.2])]) (ZZ := fun x => [row x 30 R30 x5.2.2.1]) hF hW H18 rfl rfl (fun hL => r34_Channel_Take_c _ _ w q_p1 (v2) p1 p2.2.1 _ h4 hL) (fun x a w hF hW => ?_)
      obtain ⟨v6, rfl⟩ : ∃ y, y = x := ⟨x, rfl⟩
      have hW : Stw ⟨Y, X, w0⟩ [(q_p1, [v6, .int .i64 x5.2.2.2]), (b2, [.int .i64 x4.1.1, .bool x4.1.2.1, .string (bs x4.1.2.2)]), (q_p0, [v5, .int .i64 x4.2.2.2]), (b1, [.int .i64 p2.1, .int .i64 p2.2.1, .int .i64 p2.2.2.1, .bool p2.2.2.2.1, .string (bs p2.2.2.2.2)])] [row v6 30 R30 x5.2.2.1, row v5 38 R38 x4.2.2.1] w := hW
      refine ls hF hW rfl ((y_move hF rfl).q) (fun a w hF hW => ?_)
      refine ls hF hW rfl ((y_extract (v := Value.agg #[.int .i64 x5.1.1, .bool x5.1.2.1, .string (bs x5.1.2.2)]) hF rfl rfl).q) (fun a w hF hW => ?_)
      refine ls hF hW rfl ((y_extract (v := Value.int .i64 x5.2.1) hF rfl rfl).q) (fun a w hF hW => ?_)
      refine l_alloc (cs := [.int .i64 0, .bool false, .string (bs ([] : List UInt8))]) hF hW rfl Z30 rfl (fun b3 a w hF hW => ?_)
      refine l_store (vs := [.int .i64 x5.1.1, .bool x5.1.2.1, .string (bs x5.1.2.2)]) (M' := [(b3, [.int .i64 x5.1.1, .bool x5.1.2.1, .string (bs x5.1.2.2)]), (q_p1, [v6, .int .i64 x5.2.2.2]), (b2, [.int .i64 x4.1.1, .bool x4.1.2.1, .string (bs x4.1.2.2)]), (q_p0, [v5, .int .i64 x4.2.2.2]), (b1, [.int .i64 p2.1, .int .i64 p2.2.1, .int .i64 p2.2.2.1, .bool p2.2.2.2.1, .string (bs p2.2.2.2.2)])]) 0 hF hW rfl rfl rfl T30 rfl rfl rfl rfl rfl (fun w hW => ?_)
      refine ls hF hW rfl ((y_assign hF rfl).q) (fun a w hF hW => ?_)
      refine ls_nil ?_
      refine c_then ?_
      refine c_seqJ (fun a w => Fr 92 [] [(6, .bool (decide (x4.1.1 = ((L34_mine x5.1).1) ∧ x4.1.2.1 = ((L34_mine x5.1).2.1) ∧ x4.1.2.2 = ((L34_mine x5.1).2.2)) && decide (x4.2.1 = x5.2.1)))] a ∧ Stw ⟨Y, X, w0⟩ [(b3, [.int .i64 x5.1.1, .bool x5.1.2.1, .string (bs x5.1.2.2)]), (q_p1, [v6, .int .i64 x5.2.2.2]), (b2, [.int .i64 x4.1.1, .bool x4.1.2.1, .string (bs x4.1.2.2)]), (q_p0, [v5, .int .i64 x4.2.2.2]), (b1, [.int .i64 p2.1, .int .i64 p2.2.1, .int .i64 p2.2.2.1, .bool p2.2.2.2.1, .string (bs p2.2.2.2.2)])] [row v6 30 R30 x5.2.2.1, row v5 38 R38 x4.2.2.1] w) ?_ ?_
      ·
        refine reg_quiet hW MO (by kernel_rfl) ?_
        refine qs hF rfl ((y_load (v := Value.agg #[.int .i64 x4.1.1, .bool x4.1.2.1, .string (bs x4.1.2.2)]) 2 hF rfl rfl T38 rfl).q) (fun a hF => ?_)
        refine qs hF rfl ((y_load (v := Value.agg #[.int .i64 x5.1.1, .bool x5.1.2.1, .string (bs x5.1.2.2)]) 0 hF rfl rfl T30 rfl).q) (fun a hF => ?_)
        refine qs hF rfl (y_call (v := Value.agg #[.int .i64 ((L34_mine x5.1).1), .bool ((L34_mine x5.1).2.1), .string (bs ((L34_mine x5.1).2.2))]) hF H14 rfl (fun w hW => L34_mine_c any w x5.1 _ rfl)) (fun a hF => ?_)
        refine qs hF rfl ((y_eqa (t := decide (x4.1.1 = ((L34_mine x5.1).1) ∧ x4.1.2.1 = ((L34_mine x5.1).2.1) ∧ x4.1.2.2 = ((L34_mine x5.1).2.2))) G38 (Q38 _ _ _ _ _ _) hF rfl rfl).q) (fun a hF => ?_)
        refine qs hF rfl ((y_move hF rfl).q) (fun a hF => ?_)
        rcases Bool.eq_false_or_eq_true (decide (x4.1.1 = ((L34_mine x5.1).1) ∧ x4.1.2.1 = ((L34_mine x5.1).2.1) ∧ x4.1.2.2 = ((L34_mine x5.1).2.2))) with hb0 | hb0
        ·
          rw [hb0] at hF
          refine qs_w hF (wanted_y hF rfl rfl rfl rfl) rfl (Nat.le_of_ble_eq_true rfl) ((y_move hF rfl).q) (fun a hF => ?_)
          refine qs_w hF (wanted_y hF rfl rfl rfl rfl) rfl (Nat.le_of_ble_eq_true rfl) ((y_move hF rfl).q) (fun a hF => ?_)
          refine qs_w hF (wanted_y hF rfl rfl rfl rfl) rfl (Nat.le_of_ble_eq_true rfl) ((y_eql hF rfl rfl).q) (fun a hF => ?_)
          refine qs hF rfl ((y_pick_t hF rfl rfl rfl).q) (fun a hF => ?_)
          refine qs hF rfl ((y_assign hF rfl).q) (fun a hF => ?_)
          refine quiet_end (fun w hW => ?_)
          refine c_then ?_
          exact ⟨hF.re ⟨(by show some (Value.bool (decide (x4.2.1 = x5.2.1))) = some (Value.bool (decide (x4.1.1 = ((L34_mine x5.1).1) ∧ x4.1.2.1 = ((L34_mine x5.1).2.1) ∧ x4.1.2.2 = ((L34_mine x5.1).2.2)) && decide (x4.2.1 = x5.2.1))); try rw [hb0]; all_goals simp only [Bool.not_true, Bool.not_false, Bool.true_and, Bool.false_and, Bool.true_or, Bool.false_or, Bool.and_true, Bool.or_false, cond_true, cond_false]), trivial⟩, hW⟩
        ·
          rw [hb0] at hF
          refine qs_skip hF (wanted_n hF rfl rfl rfl rfl rfl) rfl rfl (fun a hF => ?_)
          refine qs_skip hF (wanted_n hF rfl rfl rfl rfl rfl) rfl rfl (fun a hF => ?_)
          refine qs_skip hF (wanted_n hF rfl rfl rfl rfl rfl) rfl rfl (fun a hF => ?_)
          refine qs hF rfl ((y_pick_f hF rfl rfl rfl).q) (fun a hF => ?_)
          refine qs hF rfl ((y_assign hF rfl).q) (fun a hF => ?_)
          refine quiet_end (fun w hW => ?_)
          refine c_then ?_
          exact ⟨hF.re ⟨(by show some (Value.bool false) = some (Value.bool (decide (x4.1.1 = ((L34_mine x5.1).1) ∧ x4.1.2.1 = ((L34_mine x5.1).2.1) ∧ x4.1.2.2 = ((L34_mine x5.1).2.2)) && decide (x4.2.1 = x5.2.1))); try rw [hb0]; all_goals simp only [Bool.not_true, Bool.not_false, Bool.true_and, Bool.false_and, Bool.true_or, Bool.false_or, Bool.and_true, Bool.or_false, cond_true, cond_false]), trivial⟩, hW⟩
      rintro a w ⟨hF, hW⟩
      refine wp_ret ?_
      refine r_block ?_
      have H := Option.some.inj H
      subst H
      refine post1 (.inl rfl) hF hW rfl (rv_tmp hF rfl) ?_
      have hW := hW.frontZ (i := 1) rfl rfl
      have hW := hW.frontM (i := 1) rfl rfl
      have hW := hW.frontM (i := 3) rfl rfl
      have hW := hW.sub (M' := [(q_p0, [v5, .int .i64 x4.2.2.2]), (q_p1, [v6, .int .i64 x5.2.2.2])]) (Z' := [row v5 38 R38 x4.2.2.1, row v6 30 R30 x5.2.2.1]) (List.Sublist.cons_cons _ (List.Sublist.cons_cons _ (List.nil_sublist _))) (List.Sublist.refl _)
      exact ⟨((v5), (v6)), rfl, hW⟩
    ·
      have H := iteF (of_decide_eq_false hb) H
      rw [hb] at hF
      clear hb
      refine c_seq ?_
      refine reg_list ?_
      refine ls hF hW rfl ((y_eql hF rfl rfl).q) (fun a w hF hW => ?_)
      refine ls hF hW rfl ((y_assign hF rfl).q) (fun a w hF hW => ?_)
      refine ls_nil ?_
      refine c_then ?_
      refine c_cond hF rfl (fun hb => ?_) (fun hb => ?_)
      ·
        have H := iteT (of_decide_eq_true hb) H
        rw [hb] at hF
        clear hb
        refine c_seq ?_
        refine reg_plan [(true, 0), (true, 1), (true, 2), (true, 4), (true, 5), (true, 6), (false, 3), (false, 7), (true, 8), (false, 9)] (CN ⟨Y, X, w0⟩ [(some 3, b1, [.int .i64 p2.1, .int .i64 p2.2.1, .int .i64 p2.2.2.1, .bool p2.2.2.2.1, .string (bs p2.2.2.2.2)]), (some 7, b1, [.int .i64 p2.1, .int .i64 p2.2.1, .int .i64 p2.2.2.1, .bool p2.2.2.2.1, .string (bs p2.2.2.2.2)])] []) (fun ch a d v w h => by cases d <;> exact h) MO (by kernel_rfl) hW (fun w hW => ⟨_, _, hW, (all_cons (fun _ => (.head _)) (all_cons (fun _ => (.head _)) all_nil)), all_nil⟩) (fun w hW => ?_)
        refine pl_t (R := []) hF rfl rfl (yC fun M Z hN hZ => y_move hF rfl) rfl rfl (fun a hF => ?_)
        refine pl_t (R := []) hF rfl rfl (yC fun M Z hN hZ => y_fieldAddr Try.underlying32 rfl rfl rfl T3 hF rfl 1 rfl) rfl rfl (fun a hF => ?_)
        refine pl_t (R := [3]) hF rfl rfl (yC fun M Z hN hZ => y_load_m (cs := [.int .i64 p2.1, .int .i64 p2.2.1, .int .i64 p2.2.2.1, .bool p2.2.2.2.1, .string (bs p2.2.2.2.2)]) (v := Value.int .i64 p2.2.1) hF rfl (hN ((some 3), b1, [.int .i64 p2.1, .int .i64 p2.2.1, .int .i64 p2.2.2.1, .bool p2.2.2.2.1, .string (bs p2.2.2.2.2)]) (.head _) rfl) T3 rfl) (by kernel_rfl) rfl (fun a hF => ?_)
        refine pl_t (R := []) hF rfl rfl (yC fun M Z hN hZ => y_move hF rfl) rfl rfl (fun a hF => ?_)
        refine pl_t (R := []) hF rfl rfl (yC fun M Z hN hZ => y_fieldAddr Try.underlying32 rfl rfl rfl T3 hF rfl 1 rfl) rfl rfl (fun a hF => ?_)
        refine pl_t (R := [7]) hF rfl rfl (yC fun M Z hN hZ => y_load_m (cs := [.int .i64 p2.1, .int .i64 p2.2.1, .int .i64 p2.2.2.1, .bool p2.2.2.2.1, .string (bs p2.2.2.2.2)]) (v := Value.int .i64 p2.2.1) hF rfl (hN ((some 7), b1, [.int .i64 p2.1, .int .i64 p2.2.1, .int .i64 p2.2.2.1, .bool p2.2.2.2.1, .string (bs p2.2.2.2.2)]) (.tail _ (.head _)) rfl) T3 rfl) (by kernel_rfl) rfl (fun a hF => ?_)
        refine pl_f rfl ?_
        obtain ⟨x6, h5, H⟩ := bindE H
        have hW := hW.frontM (i := 1) rfl rfl
        refine l_callG (Ml := [(q_p0, [v1, .int .i64 p0.2])]) (Zl := [row v1 38 R38 p0.1]) (M := [(b1, [.int .i64 p2.1, .int .i64 p2.2.1, .int .i64 p2.2.2.1, .bool p2.2.2.2.1, .string (bs p2.2.2.2.2)]), (q_p1, [v2, .int .i64 p1.2])]) (Z := [row v2 30 R30 p1.1]) (β := Value) (rv := fun x => .int .i64 x6.1) (MM := fun x => [(q_p0, [x, .int .i64 x6.2.2])]) (ZZ := fun x => [row x 38 R38 x6.2.1]) hF hW H19 rfl rfl (fun hL => channel_Channel_Twice_c _ _ w q_p0 (v1) p0 p2.2.1 _ h5 hL) (fun x a w hF hW => ?_)
        obtain ⟨v7, rfl⟩ : ∃ y, y = x := ⟨x, rfl⟩
        have hW : Stw ⟨Y, X, w0⟩ [(q_p0, [v7, .int .i64 x6.2.2]), (b1, [.int .i64 p2.1, .int .i64 p2.2.1, .int .i64 p2.2.2.1, .bool p2.2.2.2.1, .string (bs p2.2.2.2.2)]), (q_p1, [v2, .int .i64 p1.2])] [row v7 38 R38 x6.2.1, row v2 30 R30 p1.1] w := hW
        refine pl_next (N2 := []) (NZ2 := []) (N3 := [(some 3, b1, [.int .i64 p2.1, .int .i64 p2.2.1, .int .i64 p2.2.2.1, .bool p2.2.2.2.1, .string (bs p2.2.2.2.2)]), (some 7, b1, [.int .i64 p2.1, .int .i64 p2.2.1, .int .i64 p2.2.2.1, .bool p2.2.2.2.1, .string (bs p2.2.2.2.2)])]) (NZ3 := []) hW rfl rfl (all_cons (fun h => rel_dead (by kernel_rfl) h) (all_cons (fun _ => (.tail _ (.head _))) all_nil)) all_nil ?_
        refine pl_f rfl ?_
        obtain ⟨x7, h6, H⟩ := bindE H
        have hW := hW.frontZ (i := 1) rfl rfl
        have hW := hW.frontM (i := 2) rfl rfl
        refine l_callG (Ml := [(q_p1, [v2, .int .i64 p1.2])]) (Zl := [row v2 30 R30 p1.1]) (M := [(q_p0, [v7, .int .i64 x6.2.2]), (b1, [.int .i64 p2.1, .int .i64 p2.2.1, .int .i64 p2.2.2.1, .bool p2.2.2.2.1, .string (bs p2.2.2.2.2)])]) (Z := [row v7 38 R38 x6.2.1]) (β := Value) (rv := fun x => .int .i64 x7.1) (MM := fun x => [(q_p1, [x, .int .i64 x7.2.2])]) (ZZ := fun x => [row x 30 R30 x7.2.1]) hF hW H20 rfl rfl (fun hL => r34_Channel_Twice_c _ _ w q_p1 (v2) p1 p2.2.1 _ h6 hL) (fun x a w hF hW => ?_)
        obtain ⟨v8, rfl⟩ : ∃ y, y = x := ⟨x, rfl⟩
        have hW : Stw ⟨Y, X, w0⟩ [(q_p1, [v8, .int .i64 x7.2.2]), (q_p0, [v7, .int .i64 x6.2.2]), (b1, [.int .i64 p2.1, .int .i64 p2.2.1, .int .i64 p2.2.2.1, .bool p2.2.2.2.1, .string (bs p2.2.2.2.2)])] [row v8 30 R30 x7.2.1, row v7 38 R38 x6.2.1] w := hW
        refine pl_next (N2 := []) (NZ2 := []) (N3 := [(some 3, b1, [.int .i64 p2.1, .int .i64 p2.2.1, .int .i64 p2.2.2.1, .bool p2.2.2.2.1, .string (bs p2.2.2.2.2)]), (some 7, b1, [.int .i64 p2.1, .int .i64 p2.2.1, .int .i64 p2.2.2.1, .bool p2.2.2.2.1, .string (bs p2.2.2.2.2)])]) (NZ3 := []) hW rfl rfl (all_cons (fun h => rel_dead (by kernel_rfl) h) (all_cons (fun h => rel_dead (by kernel_rfl) h) all_nil)) all_nil ?_
        refine pl_t (R := []) hF rfl rfl (yC fun M Z hN hZ => y_eql hF rfl rfl) rfl rfl (fun a hF => ?_)
        refine pl_f rfl ?_
        refine ls hF hW rfl ((y_assign hF rfl).q) (fun a w hF hW => ?_)
        refine pl_next (N2 := []) (NZ2 := []) (N3 := [(some 3, b1, [.int .i64 p2.1, .int .i64 p2.2.1, .int .i64 p2.2.2.1, .bool p2.2.2.2.1, .string (bs p2.2.2.2.2)]), (some 7, b1, [.int .i64 p2.1, .int .i64 p2.2.1, .int .i64 p2.2.2.1, .bool p2.2.2.2.1, .string (bs p2.2.2.2.2)])]) (NZ3 := []) hW rfl rfl (all_cons (fun h => rel_dead (by kernel_rfl) h) (all_cons (fun h => rel_dead (by kernel_rfl) h) all_nil)) all_nil ?_
        refine pl_end ?_
        refine c_then ?_
        refine wp_ret ?_
        refine r_block ?_
        have H := Option.some.inj H
        subst H
        refine post1 (.inl rfl) hF hW rfl (rv_tmp hF rfl) ?_
        have hW := hW.frontZ (i := 1) rfl rfl
        have hW := hW.frontM (i := 1) rfl rfl
        have hW := hW.sub (M' := [(q_p0, [v7, .int .i64 x6.2.2]), (q_p1, [v8, .int .i64 x7.2.2])]) (Z' := [row v7 38 R38 x6.2.1, row v8 30 R30 x7.2.1]) (List.Sublist.cons_cons _ (List.Sublist.cons_cons _ (List.nil_sublist _))) (List.Sublist.refl _)
        exact ⟨((v7), (v8)), rfl, hW⟩
      ·
        have H := iteF (of_decide_eq_false hb) H
        rw [hb] at hF
        clear hb
        refine c_seq ?_
        refine reg_list ?_
        refine ls hF hW rfl ((y_eql hF rfl rfl).q) (fun a w hF hW => ?_)
        refine ls hF hW rfl ((y_assign hF rfl).q) (fun a w hF hW => ?_)
        refine ls_nil ?_
        refine c_then ?_
        refine c_cond hF rfl (fun hb => ?_) (fun hb => ?_)
        ·
          have H := iteT (of_decide_eq_true hb) H
          rw [hb] at hF
          clear hb
          refine c_seq ?_
          refine reg_list ?_
          refine ls hF hW rfl ((y_move hF rfl).q) (fun a w hF hW => ?_)
          refine ls hF hW rfl ((y_fieldAddr Try.underlying32 rfl rfl rfl T3 hF rfl 1 rfl).q) (fun a w hF hW => ?_)
          refine ls hF hW rfl ((y_load (v := Value.int .i64 p2.2.1) 0 hF rfl rfl T3 rfl).q) (fun a w hF hW => ?_)
          obtain ⟨x8, h7, H⟩ := bindE H
          refine ls hF hW rfl (y_call (v := Value.tuple #[.agg #[.int .i64 x8.1.1, .bool x8.1.2.1, .string (bs x8.1.2.2)], .int .i64 x8.2]) hF H13 rfl (fun w hW => channel_Channel_Look_c any w q_p0 (v1) p0 p2.2.1 _ h7 (((rdc_row 0 rfl) : Rdc _ _ _ _ _ _) w hW).nx (at_M hW 1 rfl))) (fun a w hF hW => ?_)
          refine ls hF hW rfl ((y_move hF rfl).q) (fun a w hF hW => ?_)
          refine ls hF hW rfl ((y_extract (v := Value.agg #[.int .i64 x8.1.1, .bool x8.1.2.1, .string (bs x8.1.2.2)]) hF rfl rfl).q) (fun a w hF hW => ?_)
          refine ls hF hW rfl ((y_extract (v := Value.int .i64 x8.2) hF rfl rfl).q) (fun a w hF hW => ?_)
          refine l_alloc (cs := [.int .i64 0, .bool false, .string (bs ([] : List UInt8))]) hF hW rfl Z38 rfl (fun b4 a w hF hW => ?_)
          refine l_store (vs := [.int .i64 x8.1.1, .bool x8.1.2.1, .string (bs x8.1.2.2)]) (M' := [(b4, [.int .i64 x8.1.1, .bool x8.1.2.1, .string (bs x8.1.2.2)]), (b1, [.int .i64 p2.1, .int .i64 p2.2.1, .int .i64 p2.2.2.1, .bool p2.2.2.2.1, .string (bs p2.2.2.2.2)]), (q_p0, [v1, .int .i64 p0.2]), (q_p1, [v2, .int .i64 p1.2])]) 0 hF hW rfl rfl rfl T38 rfl rfl rfl rfl rfl (fun w hW => ?_)
          refine ls hF hW rfl ((y_assign hF rfl).q) (fun a w hF hW => ?_)
          refine ls_nil ?_
          refine c_then ?_
          refine c_seq ?_
          refine reg_list ?_
          refine ls hF hW rfl ((y_move hF rfl).q) (fun a w hF hW => ?_)
          refine ls hF hW rfl ((y_fieldAddr Try.underlying32 rfl rfl rfl T3 hF rfl 1 rfl).q) (fun a w hF hW => ?_)
          refine ls hF hW rfl ((y_load (v := Value.int .i64 p2.2.1) 1 hF rfl rfl T3 rfl).q) (fun a w hF hW => ?_)
          obtain ⟨x9, h8, H⟩ := bindE H
          refine ls hF hW rfl (y_call (v := Value.tuple #[.agg #[.int .i64 x9.1.1, .bool x9.1.2.1, .string (bs x9.1.2.2)], .int .i64 x9.2]) hF H21 rfl (fun w hW => r34_Channel_Look_c any w q_p1 (v2) p1 p2.2.1 _ h8 (((rdc_row 1 rfl) : Rdc _ _ _ _ _ _) w hW).nx (at_M hW 3 rfl))) (fun a w hF hW => ?_)
          refine ls hF hW rfl ((y_move hF rfl).q) (fun a w hF hW => ?_)
          refine ls hF hW rfl ((y_extract (v := Value.agg #[.int .i64 x9.1.1, .bool x9.1.2.1, .string (bs x9.1.2.2)]) hF rfl rfl).q) (fun a w hF hW => ?_)
          refine ls hF hW rfl ((y_extract (v := Value.int .i64 x9.2) hF rfl rfl).q) (fun a w hF hW => ?_)
          refine l_alloc (cs := [.int .i64 0, .bool false, .string (bs ([] : List UInt8))]) hF hW rfl Z30 rfl (fun b5 a w hF hW => ?_)
          refine l_store (vs := [.int .i64 x9.1.1, .bool x9.1.2.1, .string (bs x9.1.2.2)]) (M' := [(b5, [.int .i64 x9.1.1, .bool x9.1.2.1, .string (bs x9.1.2.2)]), (b4, [.int .i64 x8.1.1, .bool x8.1.2.1, .string (bs x8.1.2.2)]), (b1, [.int .i64 p2.1, .int .i64 p2.2.1, .int .i64 p2.2.2.1, .bool p2.2.2.2.1, .string (bs p2.2.2.2.2)]), (q_p0, [v1, .int .i64 p0.2]), (q_p1, [v2, .int .i64 p1.2])]) 0 hF hW rfl rfl rfl T30 rfl rfl rfl rfl rfl (fun w hW => ?_)
          refine ls hF hW rfl ((y_assign hF rfl).q) (fun a w hF hW => ?_)
          refine ls_nil ?_
          refine c_then ?_
          refine c_seqJ (fun a w => Fr 92 [] [(6, .bool (decide (x8.1.1 = ((L34_mine x9.1).1) ∧ x8.1.2.1 = ((L34_mine x9.1).2.1) ∧ x8.1.2.2 = ((L34_mine x9.1).2.2)) && decide (x8.2 = x9.2)))] a ∧ Stw ⟨Y, X, w0⟩ [(b5, [.int .i64 x9.1.1, .bool x9.1.2.1, .string (bs x9.1.2.2)]), (b4, [.int .i64 x8.1.1, .bool x8.1.2.1, .string (bs x8.1.2.2)]), (b1, [.int .i64 p2.1, .int .i64 p2.2.1, .int .i64 p2.2.2.1, .bool p2.2.2.2.1, .string (bs p2.2.2.2.2)]), (q_p0, [v1, .int .i64 p0.2]), (q_p1, [v2, .int .i64 p1.2])] [row v1 38 R38 p0.1, row v2 30 R30 p1.1] w) ?_ ?_
          ·
            refine reg_quiet hW MO (by kernel_rfl) ?_
            refine qs hF rfl ((y_load (v := Value.agg #[.int .i64 x8.1.1, .bool x8.1.2.1, .string (bs x8.1.2.2)]) 1 hF rfl rfl T38 rfl).q) (fun a hF => ?_)
            refine qs hF rfl ((y_load (v := Value.agg #[.int .i64 x9.1.1, .bool x9.1.2.1, .string (bs x9.1.2.2)]) 0 hF rfl rfl T30 rfl).q) (fun a hF => ?_)
            refine qs hF rfl (y_call (v := Value.agg #[.int .i64 ((L34_mine x9.1).1), .bool ((L34_mine x9.1).2.1), .string (bs ((L34_mine x9.1).2.2))]) hF H14 rfl (fun w hW => L34_mine_c any w x9.1 _ rfl)) (fun a hF => ?_)
            refine qs hF rfl ((y_eqa (t := decide (x8.1.1 = ((L34_mine x9.1).1) ∧ x8.1.2.1 = ((L34_mine x9.1).2.1) ∧ x8.1.2.2 = ((L34_mine x9.1).2.2))) G38 (Q38 _ _ _ _ _ _) hF rfl rfl).q) (fun a hF => ?_)
            refine qs hF rfl ((y_move hF rfl).q) (fun a hF => ?_)
            rcases Bool.eq_false_or_eq_true (decide (x8.1.1 = ((L34_mine x9.1).1) ∧ x8.1.2.1 = ((L34_mine x9.1).2.1) ∧ x8.1.2.2 = ((L34_mine x9.1).2.2))) with hb0 | hb0
            ·
              rw [hb0] at hF
              refine qs_w hF (wanted_y hF rfl rfl rfl rfl) rfl (Nat.le_of_ble_eq_true rfl) ((y_move hF rfl).q) (fun a hF => ?_)
              refine qs_w hF (wanted_y hF rfl rfl rfl rfl) rfl (Nat.le_of_ble_eq_true rfl) ((y_move hF rfl).q) (fun a hF => ?_)
              refine qs_w hF (wanted_y hF rfl rfl rfl rfl) rfl (Nat.le_of_ble_eq_true rfl) ((y_eql hF rfl rfl).q) (fun a hF => ?_)
              refine qs hF rfl ((y_pick_t hF rfl rfl rfl).q) (fun a hF => ?_)
              refine qs hF rfl ((y_assign hF rfl).q) (fun a hF => ?_)
              refine quiet_end (fun w hW => ?_)
              refine c_then ?_
              exact ⟨hF.re ⟨(by show some (Value.bool (decide (x8.2 = x9.2))) = some (Value.bool (decide (x8.1.1 = ((L34_mine x9.1).1) ∧ x8.1.2.1 = ((L34_mine x9.1).2.1) ∧ x8.1.2.2 = ((L34_mine x9.1).2.2)) && decide (x8.2 = x9.2))); try rw [hb0]; all_goals simp only [Bool.not_true, Bool.not_false, Bool.true_and, Bool.false_and, Bool.true_or, Bool.false_or, Bool.and_true, Bool.or_false, cond_true, cond_false]), trivial⟩, hW⟩
            ·
              rw [hb0] at hF
              refine qs_skip hF (wanted_n hF rfl rfl rfl rfl rfl) rfl rfl (fun a hF => ?_)
              refine qs_skip hF (wanted_n hF rfl rfl rfl rfl rfl) rfl rfl (fun a hF => ?_)
              refine qs_skip hF (wanted_n hF rfl rfl rfl rfl rfl) rfl rfl (fun a hF => ?_)
              refine qs hF rfl ((y_pick_f hF rfl rfl rfl).q) (fun a hF => ?_)
              refine qs hF rfl ((y_assign hF rfl).q) (fun a hF => ?_)
              refine quiet_end (fun w hW => ?_)
              refine c_then ?_
              exact ⟨hF.re ⟨(by show some (Value.bool false) = some (Value.bool (decide (x8.1.1 = ((L34_mine x9.1).1) ∧ x8.1.2.1 = ((L34_mine x9.1).2.1) ∧ x8.1.2.2 = ((L34_mine x9.1).2.2)) && decide (x8.2 = x9.2))); try rw [hb0]; all_goals simp only [Bool.not_true, Bool.not_false, Bool.true_and, Bool.false_and, Bool.true_or, Bool.false_or, Bool.and_true, Bool.or_false, cond_true, cond_false]), trivial⟩, hW⟩
          rintro a w ⟨hF, hW⟩
          refine wp_ret ?_
          refine r_block ?_
          have H := Option.some.inj H
          subst H
          refine post1 (.inl rfl) hF hW rfl (rv_tmp hF rfl) ?_
          have hW := hW.frontZ (i := 1) rfl rfl
          have hW := hW.frontZ (i := 1) rfl rfl
          have hW := hW.frontM (i := 4) rfl rfl
          have hW := hW.frontM (i := 4) rfl rfl
          have hW := hW.sub (M' := [(q_p0, [v1, .int .i64 p0.2]), (q_p1, [v2, .int .i64 p1.2])]) (Z' := [row v1 38 R38 p0.1, row v2 30 R30 p1.1]) (List.Sublist.cons_cons _ (List.Sublist.cons_cons _ (List.nil_sublist _))) (List.Sublist.refl _)
          exact ⟨((v1), (v2)), rfl, hW⟩
        ·
          have H := iteF (of_decide_eq_false hb) H
          rw [hb] at hF
          clear hb
          refine c_seq ?_
          refine reg_list ?_
          refine ls hF hW rfl ((y_assign hF rfl).q) (fun a w hF hW => ?_)
          refine ls_nil ?_
          refine c_then ?_
          refine wp_ret ?_
          refine r_block ?_
          have H := Option.some.inj H
          subst H
          refine post1 (.inl rfl) hF hW rfl (rv_tmp hF rfl) ?_
          have hW := hW.frontZ (i := 1) rfl rfl
          have hW := hW.frontZ (i := 1) rfl rfl
          have hW := hW.frontM (i := 2) rfl rfl
          have hW := hW.frontM (i := 2) rfl rfl
          have hW := hW.sub (M' := [(q_p0, [v1, .int .i64 p0.2]), (q_p1, [v2, .int .i64 p1.2])]) (Z' := [row v1 38 R38 p0.1, row v2 30 R30 p1.1]) (List.Sublist.cons_cons _ (List.Sublist.cons_cons _ (List.nil_sublist _))) (List.Sublist.refl _)
          exact ⟨((v1), (v2)), rfl, hW⟩

theorem H6 : Has Try.prog 6 := ⟨fun args w => run_callFunc_body Try.func6 rfl (by decide) args w⟩
def channel_Channel_Lost (p0 : (List (Int × Bool × List UInt8)) × Int) : Int := p0.2
theorem channel_Channel_Lost_c (Y : Nat → Prop) (w0 : World) (q_p0 : Nat) (v1 : Value) (p0 : (List (Int × Bool × List UInt8)) × Int) (r : Int) (H : channel_Channel_Lost p0 = r) (h_v1 : Sl w0 (NX []) R38 v1 p0.1) (a_q_p0 : At ⟨Y, [], w0⟩ q_p0 0 [v1, .int .i64 p0.2]) :
    Calls Try.prog 8 #[.pointer (some ⟨q_p0, 0, none⟩)] w0 fun e w' => e = .returned (.int .i64 r) ∧ Below w0.heap.size w0 w' := by
  refine enter Try.func8 rfl Try.ntmps8 rfl (fun a hF => ?_)
  have hW := Stw.start Y w0
  unfold channel_Channel_Lost at H
  refine c_seq ?_
  refine reg_list ?_
  refine ls hF hW rfl ((y_assign hF rfl).q) (fun a w hF hW => ?_)
  refine ls_nil ?_
  refine c_then ?_
  refine c_seq ?_
  refine c_seq ?_
  refine reg_list ?_
  refine ls hF hW rfl ((y_move hF rfl).q) (fun a w hF hW => ?_)
  refine ls hF hW rfl ((y_peq_some_nil Try.underlying23 hF rfl rfl).q) (fun a w hF hW => ?_)
  refine ls_nil ?_
  refine c_then ?_
  refine c_cond_f hF rfl ?_
  refine wp_skip ?_
  refine c_then ?_
  refine c_seq ?_
  refine reg_list ?_
  refine ls hF hW rfl ((y_move hF rfl).q) (fun a w hF hW => ?_)
  refine ls hF hW rfl ((y_nilCheck hF rfl).q) (fun a w hF hW => ?_)
  refine ls hF hW rfl ((y_fieldAddr Try.underlying46 rfl rfl rfl T3 hF rfl 1 rfl).q) (fun a w hF hW => ?_)
  refine ls hF hW rfl ((y_load_at (y := Value.int .i64 p0.2) (j := 1) hF rfl (Nat.zero_add _).symm a_q_p0 T3 rfl).q) (fun a w hF hW => ?_)
  refine ls hF hW rfl ((y_assign hF rfl).q) (fun a w hF hW => ?_)
  refine ls_nil ?_
  refine c_then ?_
  refine wp_ret ?_
  subst H
  refine post1 (.inl rfl) hF hW rfl (rv_tmp hF rfl) ?_
  exact ⟨rfl, hW.done⟩

theorem H8 : Has Try.prog 8 := ⟨fun args w => run_callFunc_body Try.func8 rfl (by decide) args w⟩
noncomputable def r34_Channel_Of_l1 (p0 : (List (Int × Bool × List UInt8)) × Int) (p1 : Int) : (Int × Int) → Option ((Int × Int) ⊕ Int)
  | (x2, x3) => (if x3 < (p0.1.length : Int) then ((ix p0.1 x3).bind fun x5 => (if x5.1 = p1 then some (w64 (x2 + 1)) else some x2)).bind fun x4 => some (.inl (x4, w64 (x3 + 1))) else some (.inr x2))
noncomputable def r34_Channel_Of (p0 : (List (Int × Bool × List UInt8)) × Int) (p1 : Int) : Option Int := (loopW (r34_Channel_Of_l1 p0 p1) (0, 0)).bind fun x1 => some x1
theorem r34_Channel_Of_c (Y : Nat → Prop) (w0 : World) (q_p0 : Nat) (v1 : Value) (p0 : (List (Int × Bool × List UInt8)) × Int) (p1 : Int) (r : Int) (H : r34_Channel_Of p0 p1 = some r) (h_v1 : Sl w0 (NX []) R30 v1 p0.1) (a_q_p0 : At ⟨Y, [], w0⟩ q_p0 0 [v1, .int .i64 p0.2]) :
    Calls Try.prog 10 #[.pointer (some ⟨q_p0, 0, none⟩), .int .i64 p1] w0 fun e w' => e = .returned (.int .i64 r) ∧ Below w0.heap.size w0 w' := by
  refine enter Try.func10 rfl Try.ntmps10 rfl (fun a hF => ?_)
  have hW := Stw.start Y w0
  unfold r34_Channel_Of at H
  refine c_seq ?_
  refine reg_list ?_
  refine ls hF hW rfl ((y_assign hF rfl).q) (fun a w hF hW => ?_)
  refine ls_nil ?_
  refine c_then ?_
  refine c_seq ?_
  refine reg_list ?_
  refine ls hF hW rfl ((y_assign hF rfl).q) (fun a w hF hW => ?_)
  refine ls_nil ?_
  refine c_then ?_
  obtain ⟨o1, G1, K1⟩ := bindE H
  refine c_seqJ (fun a w => ∃ x1 : Int, some (x1) = some o1 ∧ Fr 29 [] [(4, .int .i64 0), (5, .int .i64 x1)] a ∧ Stw ⟨Y, [], w0⟩ [] [] w) ?_ ?_
  ·
    have H := G1
    clear G1 K1
    refine c_seq ?_
    refine reg_list ?_
    refine ls hF hW rfl ((y_assign hF rfl).q) (fun a w hF hW => ?_)
    refine ls_nil ?_
    refine c_then ?_
    refine wp_block ?_
    refine c_loopW H (fun s a w => Fr 29 [] [(0, .pointer (some ⟨q_p0, 0, none⟩)), (1, .int .i64 p1), (4, .int .i64 0), (5, .int .i64 s.1), (6, .int .i64 s.2)] a ∧ Stw ⟨Y, [], w0⟩ [] [] w) ⟨hF.re ⟨rfl, rfl, rfl, rfl, rfl, trivial⟩, hW⟩ (fun s o a w H L2 hR => ?_)
    obtain ⟨x2, x3⟩ := s
    obtain ⟨hF, hW⟩ := hR
    have hF : Fr 29 [] [(0, .pointer (some ⟨q_p0, 0, none⟩)), (1, .int .i64 p1), (4, .int .i64 0), (5, .int .i64 x2), (6, .int .i64 x3)] a := hF
    have hW : Stw ⟨Y, [], w0⟩ [] [] w := hW
    rw [r34_Channel_Of_l1] at H
    refine c_seq ?_
    refine c_seq ?_
    refine reg_list ?_
    refine ls hF hW rfl ((y_move hF rfl).q) (fun a w hF hW => ?_)
    refine ls hF hW rfl ((y_move hF rfl).q) (fun a w hF hW => ?_)
    refine ls hF hW rfl ((y_nilCheck hF rfl).q) (fun a w hF hW => ?_)
    refine ls hF hW rfl ((y_fieldAddr Try.underlying28 rfl rfl rfl T26 hF rfl 0 rfl).q) (fun a w hF hW => ?_)
    refine ls hF hW rfl ((y_load_at (y := v1) (j := 0) hF rfl (Nat.zero_add _).symm a_q_p0 T26 rfl).q) (fun a w hF hW => ?_)
    refine ls hF hW rfl ((y_len (r := R30) (l := p0.1) Try.underlying26 rfl hF rfl (rdc_ro h_v1)).q) (fun a w hF hW => ?_)
    refine ls hF hW rfl ((y_lss hF rfl rfl).q) (fun a w hF hW => ?_)
    refine ls_nil ?_
    refine c_then ?_
    refine c_cond hF rfl (fun hb => ?_) (fun hb => ?_)
    ·
      have H := iteT (of_decide_eq_true hb) H
      rw [hb] at hF
      clear hb
      refine wp_skip ?_
      refine c_then ?_
      obtain ⟨o3, G3, K3⟩ := bindE H
      refine c_seqJ (fun a w => ∃ x4 : Int, some (x4) = some o3 ∧ Fr 29 [] [(0, .pointer (some ⟨q_p0, 0, none⟩)), (1, .int .i64 p1), (4, .int .i64 0), (5, .int .i64 x4), (6, .int .i64 x3)] a ∧ Stw ⟨Y, [], w0⟩ [] [] w) ?_ ?_
      ·
        have H := G3
        clear G3 K3
        refine wp_block ?_
        refine c_seq ?_
        refine reg_list ?_
        refine ls hF hW rfl ((y_move hF rfl).q) (fun a w hF hW => ?_)
        refine ls hF hW rfl ((y_nilCheck hF rfl).q) (fun a w hF hW => ?_)
        refine ls hF hW rfl ((y_fieldAddr Try.underlying28 rfl rfl rfl T26 hF rfl 0 rfl).q) (fun a w hF hW => ?_)
        refine ls hF hW rfl ((y_load_at (y := v1) (j := 0) hF rfl (Nat.zero_add _).symm a_q_p0 T26 rfl).q) (fun a w hF hW => ?_)
        refine ls hF hW rfl ((y_move hF rfl).q) (fun a w hF hW => ?_)
        obtain ⟨x5, h1, H⟩ := bindE H
        refine ls hF hW rfl ((y_index (r := R30) L26 hF rfl rfl (rdc_ro h_v1) h1).q) (fun a w hF hW => ?_)
        refine ls hF hW rfl ((y_fieldAddr Try.underlying30 rfl rfl rfl T3 hF rfl (voff v1 + (x3).toNat * 3) rfl).q) (fun a w hF hW => ?_)
        refine ls hF hW rfl ((y_load_el (y := Value.int .i64 x5.1) (j := 0) (i := x3) hF rfl rfl (rdc_ro h_v1) h1 F30.to T3 rfl).q) (fun a w hF hW => ?_)
        refine ls hF hW rfl ((y_move hF rfl).q) (fun a w hF hW => ?_)
        refine ls hF hW rfl ((y_eql hF rfl rfl).q) (fun a w hF hW => ?_)
        refine ls_nil ?_
        refine c_then ?_
        refine c_cond hF rfl (fun hb => ?_) (fun hb => ?_)
        ·
          have H := iteT (of_decide_eq_true hb) H
          rw [hb] at hF
          clear hb
          refine reg_list ?_
          refine ls hF hW rfl ((y_move hF rfl).q) (fun a w hF hW => ?_)
          refine ls hF hW rfl ((y_add hF rfl rfl rfl).q) (fun a w hF hW => ?_)
          refine ls hF hW rfl ((y_assign hF rfl).q) (fun a w hF hW => ?_)
          refine ls_nil ?_
          refine b_normal ?_
          refine c_then ?_
          exact ⟨_, H, hF.re ⟨rfl, rfl, rfl, rfl, rfl, trivial⟩, hW⟩
        ·
          have H := iteF (of_decide_eq_false hb) H
          rw [hb] at hF
          clear hb
          refine wp_skip ?_
          refine b_normal ?_
          refine c_then ?_
          exact ⟨_, H, hF.re ⟨rfl, rfl, rfl, rfl, rfl, trivial⟩, hW⟩
      rintro a w ⟨x4, hj, hF, hW⟩
      have hj := Option.some.inj hj
      subst hj
      have H := K3
      clear G3 K3
      refine reg_list ?_
      refine ls hF hW rfl ((y_move hF rfl).q) (fun a w hF hW => ?_)
      refine ls hF hW rfl ((y_add hF rfl rfl rfl).q) (fun a w hF hW => ?_)
      refine ls hF hW rfl ((y_assign hF rfl).q) (fun a w hF hW => ?_)
      refine ls_nil ?_
      refine c_then ?_
      exact ⟨_, H, hF.re ⟨rfl, rfl, rfl, rfl, rfl, trivial⟩, hW⟩
    ·
      have H := iteF (of_decide_eq_false hb) H
      rw [hb] at hF
      clear hb
      refine wp_exit ?_
      refine e_then ?_
      refine e_then ?_
      refine e_block ?_
      refine c_then ?_
      have H := L2 _ H
      exact ⟨_, H, hF.re ⟨rfl, rfl, trivial⟩, hW⟩
  rintro a w ⟨x1, hj, hF, hW⟩
  have hj := Option.some.inj hj
  subst hj
  have H := K1
  clear G1 K1
  refine c_seq ?_
  refine reg_list ?_
  refine ls hF hW rfl ((y_move hF rfl).q) (fun a w hF hW => ?_)
  refine ls hF hW rfl ((y_assign hF rfl).q) (fun a w hF hW => ?_)
  refine ls_nil ?_
  refine c_then ?_
  refine wp_ret ?_
  have H := Option.some.inj H
  subst H
  refine post1 (.inl rfl) hF hW rfl (rv_tmp hF rfl) ?_
  exact ⟨rfl, hW.done⟩

theorem H10 : Has Try.prog 10 := ⟨fun args w => run_callFunc_body Try.func10 rfl (by decide) args w⟩
noncomputable def r34_Channel_Next_l1 (p0 : (List (Int × Bool × List UInt8)) × Int) (p1 : Int) (p2 : Bool) : Int → Option (Int ⊕ (Unit ⊕ Int))
  | x1 => (if x1 < (p0.1.length : Int) then ((ix p0.1 x1).bind fun x3 => (if x3.1 = p1 then (ix p0.1 x1).bind fun x4 => some (decide (x4.2.1 = p2)) else some false)).bind fun x2 => (if x2 = true then some (.inr (.inr x1)) else some (.inl (w64 (x1 + 1)))) else some (.inr (.inl ())))
noncomputable def r34_Channel_Next (p0 : (List (Int × Bool × List UInt8)) × Int) (p1 : Int) (p2 : Bool) : Option Int := orR (loopW (r34_Channel_Next_l1 p0 p1 p2) 0) fun _ => some (-1)
theorem r34_Channel_Next_c (Y : Nat → Prop) (w0 : World) (q_p0 : Nat) (v1 : Value) (p0 : (List (Int × Bool × List UInt8)) × Int) (p1 : Int) (p2 : Bool) (r : Int) (H : r34_Channel_Next p0 p1 p2 = some r) (h_v1 : Sl w0 (NX []) R30 v1 p0.1) (a_q_p0 : At ⟨Y, [], w0⟩ q_p0 0 [v1, .int .i64 p0.2]) :
    Calls Try.prog 12 #[.pointer (some ⟨q_p0, 0, none⟩), .int .i64 p1, .bool p2] w0 fun e w' => e = .returned (.int .i64 r) ∧ Below w0.heap.size w0 w' := by
  refine enter Try.func12 rfl Try.ntmps12 rfl (fun a hF => ?_)
  have hW := Stw.start Y w0
  unfold r34_Channel_Next at H
  refine c_seq ?_
  refine reg_list ?_
  refine ls hF hW rfl ((y_assign hF rfl).q) (fun a w hF hW => ?_)
  refine ls_nil ?_
  refine c_then ?_
  obtain ⟨o1, G1, K1, L1⟩ := orE H
  refine c_seqJ (fun a w => some (Sum.inl ()) = some o1 ∧ Fr 40 [] [(6, .int .i64 0)] a ∧ Stw ⟨Y, [], w0⟩ [] [] w) ?_ ?_
  ·
    have H := G1
    clear G1 K1
    refine c_seq ?_
    refine reg_list ?_
    refine ls hF hW rfl ((y_assign hF rfl).q) (fun a w hF hW => ?_)
    refine ls_nil ?_
    refine c_then ?_
    refine wp_block ?_
    refine c_loopW H (fun s a w => Fr 40 [] [(0, .pointer (some ⟨q_p0, 0, none⟩)), (1, .int .i64 p1), (2, .bool p2), (6, .int .i64 0), (7, .int .i64 s)] a ∧ Stw ⟨Y, [], w0⟩ [] [] w) ⟨hF.re ⟨rfl, rfl, rfl, rfl, rfl, trivial⟩, hW⟩ (fun s o a w H L2 hR => ?_)
    obtain ⟨x1, rfl⟩ : ∃ x, x = s := ⟨s, rfl⟩
    obtain ⟨hF, hW⟩ := hR
    have hF : Fr 40 [] [(0, .pointer (some ⟨q_p0, 0, none⟩)), (1, .int .i64 p1), (2, .bool p2), (6, .int .i64 0), (7, .int .i64 x1)] a := hF
    have hW : Stw ⟨Y, [], w0⟩ [] [] w := hW
    rw [r34_Channel_Next_l1] at H
    refine c_seq ?_
    refine c_seq ?_
    refine reg_list ?_
    refine ls hF hW rfl ((y_move hF rfl).q) (fun a w hF hW => ?_)
    refine ls hF hW rfl ((y_move hF rfl).q) (fun a w hF hW => ?_)
    refine ls hF hW rfl ((y_nilCheck hF rfl).q) (fun a w hF hW => ?_)
    refine ls hF hW rfl ((y_fieldAddr Try.underlying28 rfl rfl rfl T26 hF rfl 0 rfl).q) (fun a w hF hW => ?_)
    refine ls hF hW rfl ((y_load_at (y := v1) (j := 0) hF rfl (Nat.zero_add _).symm a_q_p0 T26 rfl).q) (fun a w hF hW => ?_)
    refine ls hF hW rfl ((y_len (r := R30) (l := p0.1) Try.underlying26 rfl hF rfl (rdc_ro h_v1)).q) (fun a w hF hW => ?_)
    refine ls hF hW rfl ((y_lss hF rfl rfl).q) (fun a w hF hW => ?_)
    refine ls_nil ?_
    refine c_then ?_
    refine c_cond hF rfl (fun hb => ?_) (fun hb => ?_)
    ·
      have H := iteT (of_decide_eq_true hb) H
      rw [hb] at hF
      clear hb
      refine wp_skip ?_
      refine c_then ?_
      refine c_seq ?_
      refine wp_block ?_
      obtain ⟨o3, G3, K3⟩ := bindE H
      refine c_seqJ (fun a w => ∃ x2 : Bool, some (x2) = some o3 ∧ Fr 40 [] [(0, .pointer (some ⟨q_p0, 0, none⟩)), (1, .int .i64 p1), (2, .bool p2), (6, .int .i64 0), (7, .int .i64 x1), (38, .bool x2)] a ∧ Stw ⟨Y, [], w0⟩ [] [] w) ?_ ?_
      ·
        have H := G3
        clear G3 K3
        refine reg_list ?_
        refine ls hF hW rfl ((y_move hF rfl).q) (fun a w hF hW => ?_)
        refine ls hF hW rfl ((y_nilCheck hF rfl).q) (fun a w hF hW => ?_)
        refine ls hF hW rfl ((y_fieldAddr Try.underlying28 rfl rfl rfl T26 hF rfl 0 rfl).q) (fun a w hF hW => ?_)
        refine ls hF hW rfl ((y_load_at (y := v1) (j := 0) hF rfl (Nat.zero_add _).symm a_q_p0 T26 rfl).q) (fun a w hF hW => ?_)
        refine ls hF hW rfl ((y_move hF rfl).q) (fun a w hF hW => ?_)
        obtain ⟨x3, h1, H⟩ := bindE H
        refine ls hF hW rfl ((y_index (r := R30) L26 hF rfl rfl (rdc_ro h_v1) h1).q) (fun a w hF hW => ?_)
        refine ls hF hW rfl ((y_fieldAddr Try.underlying30 rfl rfl rfl T3 hF rfl (voff v1 + (x1).toNat * 3) rfl).q) (fun a w hF hW => ?_)
        refine ls hF hW rfl ((y_load_el (y := Value.int .i64 x3.1) (j := 0) (i := x1) hF rfl rfl (rdc_ro h_v1) h1 F30.to T3 rfl).q) (fun a w hF hW => ?_)
        refine ls hF hW rfl ((y_move hF rfl).q) (fun a w hF hW => ?_)
        refine ls hF hW rfl ((y_eql hF rfl rfl).q) (fun a w hF hW => ?_)
        refine ls hF hW rfl ((y_move hF rfl).q) (fun a w hF hW => ?_)
        rcases Bool.eq_false_or_eq_true (decide (x3.1 = p1)) with hb | hb
        ·
          have H := iteT (of_decide_eq_true hb) H
          rw [hb] at hF
          clear hb
          refine ls_w hF hW (wanted_y hF rfl rfl rfl rfl) rfl (Nat.le_of_ble_eq_true rfl) ((y_move hF rfl).q) (fun a w hF hW => ?_)
          refine ls_w hF hW (wanted_y hF rfl rfl rfl rfl) rfl (Nat.le_of_ble_eq_true rfl) ((y_nilCheck hF rfl).q) (fun a w hF hW => ?_)
          refine ls_w hF hW (wanted_y hF rfl rfl rfl rfl) rfl (Nat.le_of_ble_eq_true rfl) ((y_fieldAddr Try.underlying28 rfl rfl rfl T26 hF rfl 0 rfl).q) (fun a w hF hW => ?_)
          refine ls_w hF hW (wanted_y hF rfl rfl rfl rfl) rfl (Nat.le_of_ble_eq_true rfl) ((y_load_at (y := v1) (j := 0) hF rfl (Nat.zero_add _).symm a_q_p0 T26 rfl).q) (fun a w hF hW => ?_)
          refine ls_w hF hW (wanted_y hF rfl rfl rfl rfl) rfl (Nat.le_of_ble_eq_true rfl) ((y_move hF rfl).q) (fun a w hF hW => ?_)
          obtain ⟨x4, h2, H⟩ := bindE H
          refine ls_w hF hW (wanted_y hF rfl rfl rfl rfl) rfl (Nat.le_of_ble_eq_true rfl) ((y_index (r := R30) L26 hF rfl rfl (rdc_ro h_v1) h2).q) (fun a w hF hW => ?_)
          refine ls_w hF hW (wanted_y hF rfl rfl rfl rfl) rfl (Nat.le_of_ble_eq_true rfl) ((y_fieldAddr Try.underlying30 rfl rfl rfl T4 hF rfl (voff v1 + (x1).toNat * 3 + 1) rfl).q) (fun a w hF hW => ?_)
          refine ls_w hF hW (wanted_y hF rfl rfl rfl rfl) rfl (Nat.le_of_ble_eq_true rfl) ((y_load_el (y := Value.bool x4.2.1) (j := 1) (i := x1) hF rfl rfl (rdc_ro h_v1) h2 F30.to T4 rfl).q) (fun a w hF hW => ?_)
          refine ls_w hF hW (wanted_y hF rfl rfl rfl rfl) rfl (Nat.le_of_ble_eq_true rfl) ((y_move hF rfl).q) (fun a w hF hW => ?_)
          refine ls_w hF hW (wanted_y hF rfl rfl rfl rfl) rfl (Nat.le_of_ble_eq_true rfl) ((y_eqb Try.underlying4 hF rfl rfl).q) (fun a w hF hW => ?_)
          refine ls hF hW rfl ((y_pick_t hF rfl rfl rfl).q) (fun a w hF hW => ?_)
          refine ls_nil ?_
          refine c_then ?_
          exact ⟨_, H, hF.re ⟨rfl, rfl, rfl, rfl, rfl, rfl, trivial⟩, hW⟩
        ·
          have H := iteF (of_decide_eq_false hb) H
          rw [hb] at hF
          clear hb
          refine ls_skip hF (wanted_n hF rfl rfl rfl rfl rfl) rfl rfl (fun a hF => ?_)
          refine ls_skip hF (wanted_n hF rfl rfl rfl rfl rfl) rfl rfl (fun a hF => ?_)
          refine ls_skip hF (wanted_n hF rfl rfl rfl rfl rfl) rfl rfl (fun a hF => ?_)
          refine ls_skip hF (wanted_n hF rfl rfl rfl rfl rfl) rfl rfl (fun a hF => ?_)
          refine ls_skip hF (wanted_n hF rfl rfl rfl rfl rfl) rfl rfl (fun a hF => ?_)
          refine ls_skip hF (wanted_n hF rfl rfl rfl rfl rfl) rfl rfl (fun a hF => ?_)
          refine ls_skip hF (wanted_n hF rfl rfl rfl rfl rfl) rfl rfl (fun a hF => ?_)
          refine ls_skip hF (wanted_n hF rfl rfl rfl rfl rfl) rfl rfl (fun a hF => ?_)
          refine ls_skip hF (wanted_n hF rfl rfl rfl rfl rfl) rfl rfl (fun a hF => ?_)
          refine ls_skip hF (wanted_n hF rfl rfl rfl rfl rfl) rfl rfl (fun a hF => ?_)
          refine ls hF hW rfl ((y_pick_f hF rfl rfl rfl).q) (fun a w hF hW => ?_)
          refine ls_nil ?_
          refine c_then ?_
          exact ⟨_, H, hF.re ⟨rfl, rfl, rfl, rfl, rfl, rfl, trivial⟩, hW⟩
      rintro a w ⟨x2, hj, hF, hW⟩
      have hj := Option.some.inj hj
      subst hj
      have H := K3
      clear G3 K3
      refine c_cond hF rfl (fun hb => ?_) (fun hb => ?_)
      ·
        have H := iteT hb H
        rw [hb] at hF
        clear hb
        refine c_seq ?_
        refine reg_list ?_
        refine ls hF hW rfl ((y_move hF rfl).q) (fun a w hF hW => ?_)
        refine ls hF hW rfl ((y_assign hF rfl).q) (fun a w hF hW => ?_)
        refine ls_nil ?_
        refine c_then ?_
        refine wp_ret ?_
        refine r_block ?_
        refine r_then ?_
        refine r_then ?_
        refine r_block ?_
        refine r_then ?_
        have H := L2 _ H
        have H := L1 _ H
        have H := Option.some.inj H
        subst H
        refine post1 (.inl rfl) hF hW rfl (rv_tmp hF rfl) ?_
        exact ⟨rfl, hW.done⟩
      ·
        have H := iteF (by rw [hb]; decide) H
        rw [hb] at hF
        clear hb
        refine wp_skip ?_
        refine b_normal ?_
        refine c_then ?_
        refine reg_list ?_
        refine ls hF hW rfl ((y_move hF rfl).q) (fun a w hF hW => ?_)
        refine ls hF hW rfl ((y_add hF rfl rfl rfl).q) (fun a w hF hW => ?_)
        refine ls hF hW rfl ((y_assign hF rfl).q) (fun a w hF hW => ?_)
        refine ls_nil ?_
        refine c_then ?_
        exact ⟨_, H, hF.re ⟨rfl, rfl, rfl, rfl, rfl, trivial⟩, hW⟩
    ·
      have H := iteF (of_decide_eq_false hb) H
      rw [hb] at hF
      clear hb
      refine wp_exit ?_
      refine e_then ?_
      refine e_then ?_
      refine e_block ?_
      refine c_then ?_
      have H := L2 _ H
      exact ⟨H, hF.re ⟨rfl, trivial⟩, hW⟩
  rintro a w ⟨hj, hF, hW⟩
  have H := K1 _ hj
  clear hj G1 K1 L1
  refine c_seq ?_
  refine reg_list ?_
  refine ls hF hW rfl ((y_assign hF rfl).q) (fun a w hF hW => ?_)
  refine ls_nil ?_
  refine c_then ?_
  refine wp_ret ?_
  have H := Option.some.inj H
  subst H
  refine post1 (.inl rfl) hF hW rfl (rv_tmp hF rfl) ?_
  exact ⟨rfl, hW.done⟩

end Go.Proofs.Ytglegnicihnlmaa
