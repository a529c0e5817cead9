/- The functions of layer 14, lifted. Conditions: none. -/
import Derived.Test.YthmpfhjdodfchaaA0
namespace Go.Proofs.Ythmpfhjdodfchaa
open Go Go.RowKit
set_option linter.unusedVariables false
set_option linter.unusedSimpArgs false
set_option maxRecDepth 20000
theorem H19 : Has Try.prog 19 := ⟨fun args w => run_callFunc_body Try.func19 rfl (by decide) args w⟩
noncomputable def r14_Clocks_Read (p0 : Int × Int × (List (Int × Int × (Nat × List (Int × Int))))) (p1 : Int) : Option Int := (if (!(r14_Clocks_Is p0 p1)) = true then some 0 else (r14_Clocks_Apart p0 p1).bind fun x1 => some (w64 (p0.1 + x1)))
theorem r14_Clocks_Read_c (Y : Nat → Prop) (X : List Nat) (w0 : World) (q_p0 : Nat) (v1 : Value) (p0 : Int × Int × (List (Int × Int × (Nat × List (Int × Int))))) (p1 : Int) (d_v1 : {x : List (Int × Int × (Value × Nat × List (Int × Int))) // x.map ERD53 = p0.2.2}) (r : Int) (H : r14_Clocks_Read p0 p1 = some r) (hL : Stw ⟨Y, X, w0⟩ [(q_p0, [.int .i64 p0.1, .int .i64 p0.2.1, v1])] [drow v1 53 DP53 d_v1.1] w0) :
    Calls Try.prog 15 #[.pointer (some ⟨q_p0, 0, none⟩), .int .i64 p1] w0 fun e w' => ∃ x : Unit, e = .returned (.int .i64 r) ∧ Stw ⟨Y, X, w0⟩ [(q_p0, [.int .i64 p0.1, .int .i64 p0.2.1, v1])] [drow v1 53 DP53 d_v1.1] w' := by
 refine enter Try.func15 rfl Try.ntmps15 rfl (fun a hF => ?_)
 have hW := hL
 unfold r14_Clocks_Read at H
 refine c_seq (reg_list ?_)
 refine ls hF hW rfl ((y_assign hF rfl).q) (fun a w hF hW => ?_)
 refine ls_nil (c_then ?_)
 refine c_seq ?_
 refine c_seq (reg_list ?_)
 iterate 2 refine ls hF hW rfl ((y_move hF rfl).q) (fun a w hF hW => ?_)
 refine l_callG (Ml := [(q_p0, [.int .i64 p0.1, .int .i64 p0.2.1, v1])]) (Zl := [drow v1 53 DP53 d_v1.1]) (M := []) (Z := []) (β := Unit) (rv := fun x => .bool (r14_Clocks_Is p0 p1)) (MM := fun x => [(q_p0, [.int .i64 p0.1, .int .i64 p0.2.1, v1])]) (ZZ := fun x => [drow v1 53 DP53 d_v1.1]) hF hW H17 rfl rfl (fun hL => r14_Clocks_Is_c _ _ w q_p0 (v1) p0 p1 ⟨d_v1.1, d_v1.2⟩ _ rfl hL) (fun x a w hF hW => ?_)
 have hW : Stw ⟨Y, X, w0⟩ [(q_p0, [.int .i64 p0.1, .int .i64 p0.2.1, v1])] [drow v1 53 DP53 d_v1.1] w := hW
 refine ls hF hW rfl ((y_not hF rfl).q) (fun a w hF hW => ?_)
 refine ls_nil (c_then ?_)
 refine c_cond hF rfl (fun hb => ?_) (fun hb => ?_)
 ·
  have H := iteT hb H
  rw [hb] at hF
  clear hb
  refine c_seq (reg_list ?_)
  refine ls hF hW rfl ((y_assign hF rfl).q) (fun a w hF hW => ?_)
  refine ls_nil (c_then ?_)
  refine wr_ret ?_
  refine r_then ?_
  have H := Option.some.inj H
  subst H
  refine post1 (.inl rfl) hF hW rfl (rv_tmp hF rfl) ?_
  exact ⟨(), rfl, hW⟩
 ·
  have H := iteF (by rw [hb]; decide) H
  rw [hb] at hF
  clear hb
  refine wr_skip ?_
  refine c_then ?_
  refine c_seq ?_
  refine reg_plan [(true, 0), (true, 1), (true, 2), (true, 3), (true, 4), (true, 5), (false, 6), (true, 7), (false, 8)] (CN ⟨Y, X, w0⟩ [(some 8, q_p0, [.int .i64 p0.1, .int .i64 p0.2.1, v1])] []) (fun ch a d v w h => by cases d <;> exact h) MO (by kernel_rfl) hW (fun w hW => ⟨_, _, hW, (all_cons (fun _ => (.head _)) all_nil), all_nil⟩) (fun w hW => ?_)
  refine pl_t (R := []) hF rfl rfl (yC fun M Z hN hZ => y_move hF rfl) rfl rfl (fun a hF => ?_)
  refine pl_t (R := []) hF rfl rfl (yC fun M Z hN hZ => y_nilCheck hF rfl) rfl rfl (fun a hF => ?_)
  refine pl_t (R := []) hF rfl rfl (yC fun M Z hN hZ => y_fieldAddr u40_ rfl rfl rfl T3 hF rfl 0 rfl) rfl rfl (fun a hF => ?_)
  refine pl_t (R := [8]) hF rfl rfl (yC fun M Z hN hZ => y_load_m (cs := [.int .i64 p0.1, .int .i64 p0.2.1, v1]) (v := Value.int .i64 p0.1) hF rfl (hN ((some 8), q_p0, [.int .i64 p0.1, .int .i64 p0.2.1, v1]) (.head _) rfl) T3 rfl) (by kernel_rfl) rfl (fun a hF => ?_)
  iterate 2 refine pl_t (R := []) hF rfl rfl (yC fun M Z hN hZ => y_move hF rfl) rfl rfl (fun a hF => ?_)
  refine pl_f rfl ?_
  obtain ⟨x1, h1, H⟩ := bindE H
  refine l_callG (Ml := [(q_p0, [.int .i64 p0.1, .int .i64 p0.2.1, v1])]) (Zl := [drow v1 53 DP53 d_v1.1]) (M := []) (Z := []) (β := Unit) (rv := fun x => .int .i64 x1) (MM := fun x => [(q_p0, [.int .i64 p0.1, .int .i64 p0.2.1, v1])]) (ZZ := fun x => [drow v1 53 DP53 d_v1.1]) hF hW H19 rfl rfl (fun hL => r14_Clocks_Apart_c _ _ w q_p0 (v1) p0 p1 ⟨d_v1.1, d_v1.2⟩ _ h1 hL) (fun x a w hF hW => ?_)
  have hW : Stw ⟨Y, X, w0⟩ [(q_p0, [.int .i64 p0.1, .int .i64 p0.2.1, v1])] [drow v1 53 DP53 d_v1.1] w := hW
  refine pl_next (N2 := []) (NZ2 := []) (N3 := [(some 8, q_p0, [.int .i64 p0.1, .int .i64 p0.2.1, v1])]) (NZ3 := []) hW rfl rfl (all_cons (fun _ => (.head _)) all_nil) all_nil ?_
  refine pl_t (R := []) hF rfl rfl (yC fun M Z hN hZ => y_add hF rfl rfl rfl) rfl rfl (fun a hF => ?_)
  refine pl_f rfl ?_
  refine ls hF hW rfl ((y_assign hF rfl).q) (fun a w hF hW => ?_)
  refine pl_next (N2 := []) (NZ2 := []) (N3 := [(some 8, q_p0, [.int .i64 p0.1, .int .i64 p0.2.1, v1])]) (NZ3 := []) hW rfl rfl (all_cons (fun h => rel_dead (by kernel_rfl) h) all_nil) all_nil ?_
  refine pl_end ?_
  refine c_then ?_
  refine wr_ret ?_
  have H := Option.some.inj H
  subst H
  refine post1 (.inl rfl) hF hW rfl (rv_tmp hF rfl) ?_
  exact ⟨(), rfl, hW⟩

theorem H15 : Has Try.prog 15 := ⟨fun args w => run_callFunc_body Try.func15 rfl (by decide) args w⟩
def clock_Clocks_Real (p0 : Int × Int × (List (Int × Int × Int))) : Int := p0.1
theorem clock_Clocks_Real_c (Y : Nat → Prop) (w0 : World) (q_p0 : Nat) (v1 : Value) (p0 : Int × Int × (List (Int × Int × Int))) (r : Int) (H : clock_Clocks_Real p0 = r) (h_v1 : Sl w0 (NX []) R50 v1 p0.2.2) (a_q_p0 : At ⟨Y, [], w0⟩ q_p0 0 [.int .i64 p0.1, .int .i64 p0.2.1, v1]) :
    Calls Try.prog 16 #[.pointer (some ⟨q_p0, 0, none⟩)] w0 fun e w' => e = .returned (.int .i64 r) ∧ Below w0.heap.size w0 w' := by
 refine enter Try.func16 rfl Try.ntmps16 rfl (fun a hF => ?_)
 have hW := Stw.start Y w0
 unfold clock_Clocks_Real at H
 refine c_seq (reg_list ?_)
 refine ls hF hW rfl ((y_assign hF rfl).q) (fun a w hF hW => ?_)
 refine ls_nil (c_then ?_)
 refine c_seq ?_
 refine c_seq (reg_list ?_)
 refine ls hF hW rfl ((y_move hF rfl).q) (fun a w hF hW => ?_)
 refine ls hF hW rfl ((y_peq_some_nil u24_ hF rfl rfl).q) (fun a w hF hW => ?_)
 refine ls_nil (c_then ?_)
 refine c_cond_f hF rfl ?_
 refine wr_skip ?_
 refine c_then ?_
 refine c_seq (reg_list ?_)
 refine ls hF hW rfl ((y_move hF rfl).q) (fun a w hF hW => ?_)
 refine ls hF hW rfl ((y_nilCheck hF rfl).q) (fun a w hF hW => ?_)
 refine ls hF hW rfl ((y_fieldAddr u48_ rfl rfl rfl T3 hF rfl 0 rfl).q) (fun a w hF hW => ?_)
 refine ls hF hW rfl ((y_load_at (y := Value.int .i64 p0.1) (j := 0) hF rfl (Nat.zero_add _).symm a_q_p0 T3 rfl).q) (fun a w hF hW => ?_)
 refine ls hF hW rfl ((y_assign hF rfl).q) (fun a w hF hW => ?_)
 refine ls_nil (c_then ?_)
 refine wr_ret ?_
 subst H
 refine post1 (.inl rfl) hF hW rfl (rv_tmp hF rfl) ?_
 exact ⟨rfl, hW.done⟩

theorem H16 : Has Try.prog 16 := ⟨fun args w => run_callFunc_body Try.func16 rfl (by decide) args w⟩
noncomputable def clock_Drift (p0 : Int) (p1 : Int) : Option Int := (clock_floorThousandth (w64 ((w64 (0 - (min (max p1 0) 1000))) * (min (max p0 0) 1099511627776)))).bind fun x1 => some (w64 (0 - x1))
theorem clock_Drift_c (Y : Nat → Prop) (w0 : World)  (p0 : Int) (p1 : Int) (r : Int) (H : clock_Drift p0 p1 = some r)  :
    Calls Try.prog 20 #[.int .i64 p0, .int .i64 p1] w0 fun e w' => e = .returned (.int .i64 r) ∧ Below w0.heap.size w0 w' := by
 refine enter Try.func20 rfl Try.ntmps20 rfl (fun a hF => ?_)
 have hW := Stw.start Y w0
 unfold clock_Drift at H
 refine c_seq (reg_list ?_)
 refine ls hF hW rfl ((y_assign hF rfl).q) (fun a w hF hW => ?_)
 refine ls_nil (c_then ?_)
 refine c_seq (reg_list ?_)
 refine ls hF hW rfl ((y_move hF rfl).q) (fun a w hF hW => ?_)
 refine ls hF hW rfl ((y_max hF rfl rfl).q) (fun a w hF hW => ?_)
 refine ls hF hW rfl ((y_min hF rfl rfl).q) (fun a w hF hW => ?_)
 refine ls hF hW rfl ((y_assign hF rfl).q) (fun a w hF hW => ?_)
 refine ls_nil (c_then ?_)
 refine c_seq (reg_list ?_)
 refine ls hF hW rfl ((y_move hF rfl).q) (fun a w hF hW => ?_)
 refine ls hF hW rfl ((y_max hF rfl rfl).q) (fun a w hF hW => ?_)
 refine ls hF hW rfl ((y_min hF rfl rfl).q) (fun a w hF hW => ?_)
 refine ls hF hW rfl ((y_assign hF rfl).q) (fun a w hF hW => ?_)
 refine ls_nil (c_then ?_)
 refine c_seq (reg_list ?_)
 refine ls hF hW rfl ((y_move hF rfl).q) (fun a w hF hW => ?_)
 refine ls hF hW rfl ((y_neg hF rfl rfl).q) (fun a w hF hW => ?_)
 refine ls hF hW rfl ((y_move hF rfl).q) (fun a w hF hW => ?_)
 refine ls hF hW rfl ((y_mul hF rfl rfl rfl).q) (fun a w hF hW => ?_)
 obtain ⟨x1, h1, H⟩ := bindE H
 refine ls hF hW rfl (y_call (v := Value.int .i64 x1) hF H23 rfl (fun w hW => clock_floorThousandth_c any w (w64 ((w64 (0 - (min (max p1 0) 1000))) * (min (max p0 0) 1099511627776))) _ h1)) (fun a w hF hW => ?_)
 refine ls hF hW rfl ((y_neg hF rfl rfl).q) (fun a w hF hW => ?_)
 refine ls hF hW rfl ((y_assign hF rfl).q) (fun a w hF hW => ?_)
 refine ls_nil (c_then ?_)
 refine wr_ret ?_
 have H := Option.some.inj H
 subst H
 refine post1 (.inl rfl) hF hW rfl (rv_tmp hF rfl) ?_
 exact ⟨rfl, hW.done⟩

theorem H20 : Has Try.prog 20 := ⟨fun args w => run_callFunc_body Try.func20 rfl (by decide) args w⟩
noncomputable def r14_Drift (p0 : Int) (p1 : Int) : Option Int := (if (decide (p0 < 0) || decide (p1 < 0)) = true then some 0 else (if 1099511627776 < p0 then some 1099511627776 else some p0).bind fun x1 => (if 1000 < p1 then some 1000 else some p1).bind fun x2 => (r01_Floor (w64 (0 - (w64 (x1 * x2)))) 1000).bind fun x3 => some (w64 (0 - x3)))
theorem r14_Drift_c (Y : Nat → Prop) (w0 : World)  (p0 : Int) (p1 : Int) (r : Int) (H : r14_Drift p0 p1 = some r)  :
    Calls Try.prog 21 #[.int .i64 p0, .int .i64 p1] w0 fun e w' => e = .returned (.int .i64 r) ∧ Below w0.heap.size w0 w' := by
 refine enter Try.func21 rfl Try.ntmps21 rfl (fun a hF => ?_)
 have hW := Stw.start Y w0
 unfold r14_Drift at H
 refine c_seq (reg_list ?_)
 refine ls hF hW rfl ((y_assign hF rfl).q) (fun a w hF hW => ?_)
 refine ls_nil (c_then ?_)
 refine c_seq ?_
 refine c_seqJ (fun a w => Fr 21 [] [(0, .int .i64 p0), (1, .int .i64 p1), (4, .int .i64 0), (10, .bool (decide (p0 < 0) || decide (p1 < 0)))] a ∧ Stw ⟨Y, [], w0⟩ [] [] w) ?_ ?_
 ·
  refine reg_list ?_
  refine ls hF hW rfl ((y_move hF rfl).q) (fun a w hF hW => ?_)
  refine ls hF hW rfl ((y_lss hF rfl rfl).q) (fun a w hF hW => ?_)
  refine ls hF hW rfl ((y_move hF rfl).q) (fun a w hF hW => ?_)
  rcases Bool.eq_false_or_eq_true (decide (p0 < 0)) with hb0 | hb0
  ·
   rw [hb0] at hF
   iterate 2 refine lsn hF rfl rfl rfl rfl rfl rfl rfl (fun a hF => ?_)
   refine ls hF hW rfl ((y_pick_t hF rfl rfl rfl).q) (fun a w hF hW => ?_)
   refine ls_nil (c_then ?_)
   exact ⟨hF.re ⟨rfl, rfl, rfl, (by show some (Value.bool true) = some (Value.bool (decide (p0 < 0) || decide (p1 < 0))); try rw [hb0]; all_goals simp only [Bool.not_true, Bool.not_false, Bool.true_and, Bool.false_and, Bool.true_or, Bool.false_or, Bool.and_true, Bool.or_false, cond_true, cond_false]), trivial⟩, hW⟩
  ·
   rw [hb0] at hF
   refine ls_w hF hW (wanted_y hF rfl rfl rfl rfl) rfl (Nat.le_of_ble_eq_true rfl) ((y_move hF rfl).q) (fun a w hF hW => ?_)
   refine ls_w hF hW (wanted_y hF rfl rfl rfl rfl) rfl (Nat.le_of_ble_eq_true rfl) ((y_lss hF rfl rfl).q) (fun a w hF hW => ?_)
   refine ls hF hW rfl ((y_pick_f hF rfl rfl rfl).q) (fun a w hF hW => ?_)
   refine ls_nil (c_then ?_)
   exact ⟨hF.re ⟨rfl, rfl, rfl, (by show some (Value.bool (decide (p1 < 0))) = some (Value.bool (decide (p0 < 0) || decide (p1 < 0))); try rw [hb0]; all_goals simp only [Bool.not_true, Bool.not_false, Bool.true_and, Bool.false_and, Bool.true_or, Bool.false_or, Bool.and_true, Bool.or_false, cond_true, cond_false]), trivial⟩, hW⟩
 rintro a w ⟨hF, hW⟩
 refine c_cond hF rfl (fun hb => ?_) (fun hb => ?_)
 ·
  have H := iteT hb H
  rw [hb] at hF
  clear hb
  refine c_seq (reg_list ?_)
  refine ls hF hW rfl ((y_assign hF rfl).q) (fun a w hF hW => ?_)
  refine ls_nil (c_then ?_)
  refine wr_ret ?_
  refine r_then ?_
  have H := Option.some.inj H
  subst H
  refine post1 (.inl rfl) hF hW rfl (rv_tmp hF rfl) ?_
  exact ⟨rfl, hW.done⟩
 ·
  have H := iteF (by rw [hb]; decide) H
  rw [hb] at hF
  clear hb
  refine wr_skip ?_
  refine c_then ?_
  obtain ⟨o1, G1, K1⟩ := bindE H
  refine c_seqJ (fun a w => ∃ x1 : Int, some (x1) = some o1 ∧ Fr 21 [] [(0, .int .i64 x1), (1, .int .i64 p1), (4, .int .i64 0)] a ∧ Stw ⟨Y, [], w0⟩ [] [] w) ?_ ?_
  ·
   have H := G1
   clear G1 K1
   refine c_seq (reg_list ?_)
   refine ls hF hW rfl ((y_move hF rfl).q) (fun a w hF hW => ?_)
   refine ls hF hW rfl ((y_gtr hF rfl rfl).q) (fun a w hF hW => ?_)
   refine ls_nil (c_then ?_)
   refine c_cond hF rfl (fun hb => ?_) (fun hb => ?_)
   ·
    have H := iteT (of_decide_eq_true hb) H
    rw [hb] at hF
    clear hb
    refine reg_list ?_
    refine ls hF hW rfl ((y_assign hF rfl).q) (fun a w hF hW => ?_)
    refine ls_nil (c_then ?_)
    exact ⟨_, H, hF.re ⟨rfl, rfl, rfl, trivial⟩, hW⟩
   ·
    have H := iteF (of_decide_eq_false hb) H
    rw [hb] at hF
    clear hb
    refine wr_skip ?_
    refine c_then ?_
    exact ⟨_, H, hF.re ⟨rfl, rfl, rfl, trivial⟩, hW⟩
  rintro a w ⟨x1, hj, hF, hW⟩
  have hj := Option.some.inj hj
  subst hj
  have H := K1
  clear G1 K1
  obtain ⟨o2, G2, K2⟩ := bindE H
  refine c_seqJ (fun a w => ∃ x2 : Int, some (x2) = some o2 ∧ Fr 21 [] [(0, .int .i64 x1), (1, .int .i64 x2), (4, .int .i64 0)] a ∧ Stw ⟨Y, [], w0⟩ [] [] w) ?_ ?_
  ·
   have H := G2
   clear G2 K2
   refine c_seq (reg_list ?_)
   refine ls hF hW rfl ((y_move hF rfl).q) (fun a w hF hW => ?_)
   refine ls hF hW rfl ((y_gtr hF rfl rfl).q) (fun a w hF hW => ?_)
   refine ls_nil (c_then ?_)
   refine c_cond hF rfl (fun hb => ?_) (fun hb => ?_)
   ·
    have H := iteT (of_decide_eq_true hb) H
    rw [hb] at hF
    clear hb
    refine reg_list ?_
    refine ls hF hW rfl ((y_assign hF rfl).q) (fun a w hF hW => ?_)
    refine ls_nil (c_then ?_)
    exact ⟨_, H, hF.re ⟨rfl, rfl, rfl, trivial⟩, hW⟩
   ·
    have H := iteF (of_decide_eq_false hb) H
    rw [hb] at hF
    clear hb
    refine wr_skip ?_
    refine c_then ?_
    exact ⟨_, H, hF.re ⟨rfl, rfl, rfl, trivial⟩, hW⟩
  rintro a w ⟨x2, hj, hF, hW⟩
  have hj := Option.some.inj hj
  subst hj
  have H := K2
  clear G2 K2
  refine c_seq (reg_list ?_)
  iterate 2 refine ls hF hW rfl ((y_move hF rfl).q) (fun a w hF hW => ?_)
  refine ls hF hW rfl ((y_mul hF rfl rfl rfl).q) (fun a w hF hW => ?_)
  refine ls hF hW rfl ((y_sub hF rfl rfl rfl).q) (fun a w hF hW => ?_)
  obtain ⟨x3, h1, H⟩ := bindE H
  refine ls hF hW rfl (y_call (v := Value.int .i64 x3) hF H24 rfl (fun w hW => r01_Floor_c any w (w64 (0 - (w64 (x1 * x2)))) 1000 _ h1)) (fun a w hF hW => ?_)
  refine ls hF hW rfl ((y_sub hF rfl rfl rfl).q) (fun a w hF hW => ?_)
  refine ls hF hW rfl ((y_assign hF rfl).q) (fun a w hF hW => ?_)
  refine ls_nil (c_then ?_)
  refine wr_ret ?_
  have H := Option.some.inj H
  subst H
  refine post1 (.inl rfl) hF hW rfl (rv_tmp hF rfl) ?_
  exact ⟨rfl, hW.done⟩

theorem H21 : Has Try.prog 21 := ⟨fun args w => run_callFunc_body Try.func21 rfl (by decide) args w⟩
theorem Z3 : (Try.prog.info? 3).bind (·.zero) = some (.int .i64 0) := by kernel_rfl
def clock_Clocks_has_2 (p1 : Int) : Unit := ()
theorem clock_Clocks_has_2_c (Y : Nat → Prop) (w0 : World)  (p1 : Int) (r : Unit) (H : clock_Clocks_has_2 p1 = r)  :
    Calls Try.prog 22 #[.pointer none, .int .i64 p1] w0 fun e w' => e = .returned (.bool false) ∧ Below w0.heap.size w0 w' := by
 refine enter Try.func22 rfl Try.ntmps22 rfl (fun a hF => ?_)
 have hW := Stw.start Y w0
 unfold clock_Clocks_has_2 at H
 refine c_seq (reg_list ?_)
 refine ls hF hW rfl ((y_assign hF rfl).q) (fun a w hF hW => ?_)
 refine ls_nil (c_then ?_)
 refine c_seq (reg_list ?_)
 refine ls hF hW rfl ((y_move hF rfl).q) (fun a w hF hW => ?_)
 refine ls hF hW rfl ((y_pne_nil_nil u24_ hF rfl rfl).q) (fun a w hF hW => ?_)
 refine ls hF hW rfl ((y_move hF rfl).q) (fun a w hF hW => ?_)
 iterate 2 refine lsn hF rfl rfl rfl rfl rfl rfl rfl (fun a hF => ?_)
 refine ls hF hW rfl ((y_pick_f hF rfl rfl rfl).q) (fun a w hF hW => ?_)
 refine ls hF hW rfl ((y_move hF rfl).q) (fun a w hF hW => ?_)
 iterate 7 refine lsn hF rfl rfl rfl rfl rfl rfl rfl (fun a hF => ?_)
 refine ls hF hW rfl ((y_pick_f hF rfl rfl rfl).q) (fun a w hF hW => ?_)
 refine ls hF hW rfl ((y_assign hF rfl).q) (fun a w hF hW => ?_)
 refine ls_nil (c_then ?_)
 refine wr_ret ?_
 subst H
 refine post1 (.inl rfl) hF hW rfl (rv_tmp hF rfl) ?_
 exact ⟨rfl, hW.done⟩

def clock_Clocks_Rate_2 (p1 : Int) (p2 : Int) : Unit := ()
theorem clock_Clocks_Rate_2_c (Y : Nat → Prop) (w0 : World)  (p1 : Int) (p2 : Int) (r : Unit) (H : clock_Clocks_Rate_2 p1 p2 = r)  :
    Calls Try.prog 12 #[.pointer none, .int .i64 p1, .int .i64 p2] w0 fun e w' => e = .returned (.int .i64 7) ∧ Below w0.heap.size w0 w' := by
 refine enter Try.func12 rfl Try.ntmps12 rfl (fun a hF => ?_)
 have hW := Stw.start Y w0
 unfold clock_Clocks_Rate_2 at H
 refine c_seq (reg_list ?_)
 refine ls hF hW rfl ((y_assign hF rfl).q) (fun a w hF hW => ?_)
 refine ls_nil (c_then ?_)
 refine c_seq ?_
 refine c_seq (reg_list ?_)
 iterate 2 refine ls hF hW rfl ((y_move hF rfl).q) (fun a w hF hW => ?_)
 refine ls hF hW rfl (y_call (v := Value.bool false) hF H22 rfl (fun w hW => clock_Clocks_has_2_c any w p1 _ rfl)) (fun a w hF hW => ?_)
 refine ls hF hW rfl ((y_not hF rfl).q) (fun a w hF hW => ?_)
 refine ls_nil (c_then ?_)
 refine c_cond_t hF rfl ?_
 refine c_seq (reg_list ?_)
 refine ls hF hW rfl ((y_assign hF rfl).q) (fun a w hF hW => ?_)
 refine ls_nil (c_then ?_)
 refine wr_ret ?_
 refine r_then ?_
 subst H
 refine post1 (.inl rfl) hF hW rfl (rv_tmp hF rfl) ?_
 exact ⟨rfl, hW.done⟩

def clock_Clocks_Tick_2 (p1 : Int) : Unit := ()
theorem clock_Clocks_Tick_2_c (Y : Nat → Prop) (w0 : World)  (p1 : Int) (r : Unit) (H : clock_Clocks_Tick_2 p1 = r)  :
    Calls Try.prog 10 #[.pointer none, .int .i64 p1] w0 fun e w' => e = .returned (.tuple #[]) ∧ Below w0.heap.size w0 w' := by
 refine enter Try.func10 rfl Try.ntmps10 rfl (fun a hF => ?_)
 have hW := Stw.start Y w0
 unfold clock_Clocks_Tick_2 at H
 refine c_seq ?_
 refine c_seq (reg_list ?_)
 refine ls hF hW rfl ((y_move hF rfl).q) (fun a w hF hW => ?_)
 refine ls hF hW rfl ((y_peq_nil_nil u24_ hF rfl rfl).q) (fun a w hF hW => ?_)
 refine ls hF hW rfl ((y_move hF rfl).q) (fun a w hF hW => ?_)
 iterate 2 refine lsn hF rfl rfl rfl rfl rfl rfl rfl (fun a hF => ?_)
 refine ls hF hW rfl ((y_pick_t hF rfl rfl rfl).q) (fun a w hF hW => ?_)
 refine ls_nil (c_then ?_)
 refine c_cond_t hF rfl ?_
 refine wr_ret ?_
 refine r_then ?_
 subst H
 refine post0 (.inl rfl) hF rfl ?_
 exact ⟨rfl, hW.done⟩

noncomputable def L14_awake  : Option Bool := (clock_New ([7] : List Int) 500).bind fun x1 => altS x1 (fun x2 => (clock_Clocks_Rate x2 0 (-500)).bind fun x4 => (clock_Clocks_Tick x4.2 3).bind fun x5 => (if x4.1 = 0 then (clock_Clocks_Apart x5 0).bind fun x7 => (if x7 = 5 then (clock_Clocks_Read x5 0).bind fun x8 => (if x8 = 8 then (if (clock_Clocks_Real x5) = 3 then (clock_Drift 3 500).bind fun x9 => some (decide (x9 = 2)) else some false) else some false) else some false) else some false).bind fun x6 => some x6) (fun x3 => some false)
theorem L14_awake_c (Y : Nat → Prop) (w0 : World)   (r : Bool) (H : L14_awake  = some r)  :
    Calls Try.prog 9 #[] w0 fun e w' => e = .returned (.bool r) ∧ Below w0.heap.size w0 w' := by
 refine enter Try.func9 rfl Try.ntmps9 rfl (fun a hF => ?_)
 have hW := Stw.start Y w0
 unfold L14_awake at H
 refine c_seq (reg_list ?_)
 refine ls hF hW rfl ((y_assign hF rfl).q) (fun a w hF hW => ?_)
 refine ls_nil (c_then ?_)
 refine c_seq (reg_list ?_)
 refine l_lit (z := Value.int .i64 0) (cs := [.int .i64 7]) (Rp.int .i64) ([7] : List Int) hF hW rfl L22 Z3 rfl rfl rfl rfl rfl rfl (Fl.int.repL _ _ ([7] : List Int)) (fun v1 a w hF hW => ?_)
 obtain ⟨x1, h1, H⟩ := bindE H
 rcases x1 with x2 | x3
 ·
  have H := altL H
  refine l_callG (Ml := []) (Zl := []) (M := []) (Z := [row v1 3 (Rp.int .i64) ([7] : List Int)]) (β := Nat × Value) (rv := fun x => .tuple #[.pointer (some ⟨x.1, 0, none⟩), .int .i64 0]) (MM := fun x => [(x.1, [.int .i64 x2.1, .int .i64 x2.2.1, x.2])]) (ZZ := fun x => [row x.2 50 R50 x2.2.2]) hF hW H7 rfl rfl (fun hL => clock_New_c _ w (v1) ([7] : List Int) 500 _ h1 ((rdc_row 0 rfl) w hW).nx) (fun x a w hF hW => ?_)
  obtain ⟨b1, v2⟩ := x
  have hW : Stw ⟨Y, [], w0⟩ [(b1, [.int .i64 x2.1, .int .i64 x2.2.1, v2])] [row v2 50 R50 x2.2.2, row v1 3 (Rp.int .i64) ([7] : List Int)] w := hW
  refine ls hF hW rfl ((y_move hF rfl).q) (fun a w hF hW => ?_)
  refine ls hF hW rfl ((y_extract (v := Value.pointer (some ⟨b1, 0, none⟩)) hF rfl rfl).q) (fun a w hF hW => ?_)
  refine ls hF hW rfl ((y_extract (v := Value.int .i64 0) hF rfl rfl).q) (fun a w hF hW => ?_)
  iterate 2 refine ls hF hW rfl ((y_assign hF rfl).q) (fun a w hF hW => ?_)
  refine ls_nil (c_then ?_)
  refine c_seq (reg_list ?_)
  refine ls hF hW rfl ((y_move hF rfl).q) (fun a w hF hW => ?_)
  obtain ⟨x4, h2, H⟩ := bindE H
  refine l_callG (Ml := [(b1, [.int .i64 x2.1, .int .i64 x2.2.1, v2])]) (Zl := [row v2 50 R50 x2.2.2]) (M := []) (Z := [row v1 3 (Rp.int .i64) ([7] : List Int)]) (β := Value) (rv := fun x => .int .i64 x4.1) (MM := fun x => [(b1, [.int .i64 x4.2.1, .int .i64 x4.2.2.1, x])]) (ZZ := fun x => [row x 50 R50 x4.2.2.2]) hF hW H12 rfl rfl (fun hL => clock_Clocks_Rate_c _ _ w b1 (v2) x2 0 (-500) _ h2 hL) (fun x a w hF hW => ?_)
  obtain ⟨v3, rfl⟩ : ∃ y, y = x := ⟨x, rfl⟩
  have hW : Stw ⟨Y, [], w0⟩ [(b1, [.int .i64 x4.2.1, .int .i64 x4.2.2.1, v3])] [row v3 50 R50 x4.2.2.2, row v1 3 (Rp.int .i64) ([7] : List Int)] w := hW
  refine ls hF hW rfl ((y_assign hF rfl).q) (fun a w hF hW => ?_)
  refine ls_nil (c_then ?_)
  refine c_seq (reg_list ?_)
  refine ls hF hW rfl ((y_move hF rfl).q) (fun a w hF hW => ?_)
  obtain ⟨x5, h3, H⟩ := bindE H
  refine l_callG (Ml := [(b1, [.int .i64 x4.2.1, .int .i64 x4.2.2.1, v3])]) (Zl := [row v3 50 R50 x4.2.2.2]) (M := []) (Z := [row v1 3 (Rp.int .i64) ([7] : List Int)]) (β := Value) (rv := fun x => .tuple #[]) (MM := fun x => [(b1, [.int .i64 x5.1, .int .i64 x5.2.1, x])]) (ZZ := fun x => [row x 50 R50 x5.2.2]) hF hW H10 rfl rfl (fun hL => clock_Clocks_Tick_c _ _ w b1 (v3) x4.2 3 _ h3 hL) (fun x a w hF hW => ?_)
  obtain ⟨v4, rfl⟩ : ∃ y, y = x := ⟨x, rfl⟩
  have hW : Stw ⟨Y, [], w0⟩ [(b1, [.int .i64 x5.1, .int .i64 x5.2.1, v4])] [row v4 50 R50 x5.2.2, row v1 3 (Rp.int .i64) ([7] : List Int)] w := hW
  refine ls_nil (c_then ?_)
  obtain ⟨o1, G1, K1⟩ := bindE H
  refine c_seqJ (fun a w => ∃ x6 : Bool, some (x6) = some o1 ∧ Fr 38 [] [(0, .bool x6)] a ∧ Stw ⟨Y, [], w0⟩ [(b1, [.int .i64 x5.1, .int .i64 x5.2.1, v4])] [row v4 50 R50 x5.2.2] w) ?_ ?_
  ·
   have H := G1
   clear G1 K1
   refine reg_list ?_
   refine ls hF hW rfl ((y_move hF rfl).q) (fun a w hF hW => ?_)
   refine ls hF hW rfl ((y_eql hF rfl rfl).q) (fun a w hF hW => ?_)
   rw [show decide ((0 : Int) = 0) = true from by decide] at hF
   refine ls hF hW rfl ((y_move hF rfl).q) (fun a w hF hW => ?_)
   refine ls_w hF hW (wanted_y hF rfl rfl rfl rfl) rfl (Nat.le_of_ble_eq_true rfl) ((y_move hF rfl).q) (fun a w hF hW => ?_)
   refine ls_w hF hW (wanted_y hF rfl rfl rfl rfl) rfl (Nat.le_of_ble_eq_true rfl) ((y_eql hF rfl rfl).q) (fun a w hF hW => ?_)
   refine ls hF hW rfl ((y_pick_t hF rfl rfl rfl).q) (fun a w hF hW => ?_)
   refine ls hF hW rfl ((y_move hF rfl).q) (fun a w hF hW => ?_)
   rcases Bool.eq_false_or_eq_true (decide (x4.1 = 0)) with hb | hb
   ·
    have H := iteT (of_decide_eq_true hb) H
    rw [hb] at hF
    clear hb
    refine ls_w hF hW (wanted_y hF rfl rfl rfl rfl) rfl (Nat.le_of_ble_eq_true rfl) ((y_move hF rfl).q) (fun a w hF hW => ?_)
    refine ls_g (wanted_y hF rfl rfl rfl rfl) ?_
    obtain ⟨x7, h4, H⟩ := bindE H
    refine ls hF hW rfl (y_call (v := Value.int .i64 x7) hF H18 rfl (fun w hW => clock_Clocks_Apart_c any w b1 (v4) x5 0 _ h4 (((rdc_row 0 rfl) : Rdc _ _ _ _ _ _) w hW).nx (at_M hW 0 rfl))) (fun a w hF hW => ?_)
    refine ls_w hF hW (wanted_y hF rfl rfl rfl rfl) rfl (Nat.le_of_ble_eq_true rfl) ((y_eql hF rfl rfl).q) (fun a w hF hW => ?_)
    refine ls hF hW rfl ((y_pick_t hF rfl rfl rfl).q) (fun a w hF hW => ?_)
    refine ls hF hW rfl ((y_move hF rfl).q) (fun a w hF hW => ?_)
    rcases Bool.eq_false_or_eq_true (decide (x7 = 5)) with hb | hb
    ·
     have H := iteT (of_decide_eq_true hb) H
     rw [hb] at hF
     clear hb
     refine ls_w hF hW (wanted_y hF rfl rfl rfl rfl) rfl (Nat.le_of_ble_eq_true rfl) ((y_move hF rfl).q) (fun a w hF hW => ?_)
     refine ls_g (wanted_y hF rfl rfl rfl rfl) ?_
     obtain ⟨x8, h5, H⟩ := bindE H
     refine ls hF hW rfl (y_call (v := Value.int .i64 x8) hF H14 rfl (fun w hW => clock_Clocks_Read_c any w b1 (v4) x5 0 _ h5 (((rdc_row 0 rfl) : Rdc _ _ _ _ _ _) w hW).nx (at_M hW 0 rfl))) (fun a w hF hW => ?_)
     refine ls_w hF hW (wanted_y hF rfl rfl rfl rfl) rfl (Nat.le_of_ble_eq_true rfl) ((y_eql hF rfl rfl).q) (fun a w hF hW => ?_)
     refine ls hF hW rfl ((y_pick_t hF rfl rfl rfl).q) (fun a w hF hW => ?_)
     refine ls hF hW rfl ((y_move hF rfl).q) (fun a w hF hW => ?_)
     rcases Bool.eq_false_or_eq_true (decide (x8 = 8)) with hb | hb
     ·
      have H := iteT (of_decide_eq_true hb) H
      rw [hb] at hF
      clear hb
      refine ls_w hF hW (wanted_y hF rfl rfl rfl rfl) rfl (Nat.le_of_ble_eq_true rfl) ((y_move hF rfl).q) (fun a w hF hW => ?_)
      refine ls_g (wanted_y hF rfl rfl rfl rfl) ?_
      refine ls hF hW rfl (y_call (v := Value.int .i64 (clock_Clocks_Real x5)) hF H16 rfl (fun w hW => clock_Clocks_Real_c any w b1 (v4) x5 _ rfl (((rdc_row 0 rfl) : Rdc _ _ _ _ _ _) w hW).nx (at_M hW 0 rfl))) (fun a w hF hW => ?_)
      refine ls_w hF hW (wanted_y hF rfl rfl rfl rfl) rfl (Nat.le_of_ble_eq_true rfl) ((y_eql hF rfl rfl).q) (fun a w hF hW => ?_)
      refine ls hF hW rfl ((y_pick_t hF rfl rfl rfl).q) (fun a w hF hW => ?_)
      refine ls hF hW rfl ((y_move hF rfl).q) (fun a w hF hW => ?_)
      rcases Bool.eq_false_or_eq_true (decide ((clock_Clocks_Real x5) = 3)) with hb | hb
      ·
       have H := iteT (of_decide_eq_true hb) H
       rw [hb] at hF
       clear hb
       refine ls_g (wanted_y hF rfl rfl rfl rfl) ?_
       obtain ⟨x9, h6, H⟩ := bindE H
       refine ls hF hW rfl (y_call (v := Value.int .i64 x9) hF H20 rfl (fun w hW => clock_Drift_c any w 3 500 _ h6)) (fun a w hF hW => ?_)
       refine ls_w hF hW (wanted_y hF rfl rfl rfl rfl) rfl (Nat.le_of_ble_eq_true rfl) ((y_eql hF rfl rfl).q) (fun a w hF hW => ?_)
       refine ls hF hW rfl ((y_pick_t hF rfl rfl rfl).q) (fun a w hF hW => ?_)
       refine ls hF hW rfl ((y_assign hF rfl).q) (fun a w hF hW => ?_)
       refine ls_nil (c_then ?_)
       have hW := hW.sub (M' := [(b1, [.int .i64 x5.1, .int .i64 x5.2.1, v4])]) (Z' := [row v4 50 R50 x5.2.2]) (List.Sublist.refl _) (List.Sublist.cons_cons _ (List.nil_sublist _))
       exact ⟨_, H, hF.re ⟨rfl, trivial⟩, hW⟩
      ·
       have H := iteF (of_decide_eq_false hb) H
       rw [hb] at hF
       clear hb
       iterate 2 refine lsn hF rfl rfl rfl rfl rfl rfl rfl (fun a hF => ?_)
       refine ls hF hW rfl ((y_pick_f hF rfl rfl rfl).q) (fun a w hF hW => ?_)
       refine ls hF hW rfl ((y_assign hF rfl).q) (fun a w hF hW => ?_)
       refine ls_nil (c_then ?_)
       have hW := hW.sub (M' := [(b1, [.int .i64 x5.1, .int .i64 x5.2.1, v4])]) (Z' := [row v4 50 R50 x5.2.2]) (List.Sublist.refl _) (List.Sublist.cons_cons _ (List.nil_sublist _))
       exact ⟨_, H, hF.re ⟨rfl, trivial⟩, hW⟩
     ·
      have H := iteF (of_decide_eq_false hb) H
      rw [hb] at hF
      clear hb
      iterate 3 refine lsn hF rfl rfl rfl rfl rfl rfl rfl (fun a hF => ?_)
      refine ls hF hW rfl ((y_pick_f hF rfl rfl rfl).q) (fun a w hF hW => ?_)
      refine ls hF hW rfl ((y_move hF rfl).q) (fun a w hF hW => ?_)
      iterate 2 refine lsn hF rfl rfl rfl rfl rfl rfl rfl (fun a hF => ?_)
      refine ls hF hW rfl ((y_pick_f hF rfl rfl rfl).q) (fun a w hF hW => ?_)
      refine ls hF hW rfl ((y_assign hF rfl).q) (fun a w hF hW => ?_)
      refine ls_nil (c_then ?_)
      have hW := hW.sub (M' := [(b1, [.int .i64 x5.1, .int .i64 x5.2.1, v4])]) (Z' := [row v4 50 R50 x5.2.2]) (List.Sublist.refl _) (List.Sublist.cons_cons _ (List.nil_sublist _))
      exact ⟨_, H, hF.re ⟨rfl, trivial⟩, hW⟩
    ·
     have H := iteF (of_decide_eq_false hb) H
     rw [hb] at hF
     clear hb
     iterate 3 refine lsn hF rfl rfl rfl rfl rfl rfl rfl (fun a hF => ?_)
     refine ls hF hW rfl ((y_pick_f hF rfl rfl rfl).q) (fun a w hF hW => ?_)
     refine ls hF hW rfl ((y_move hF rfl).q) (fun a w hF hW => ?_)
     iterate 3 refine lsn hF rfl rfl rfl rfl rfl rfl rfl (fun a hF => ?_)
     refine ls hF hW rfl ((y_pick_f hF rfl rfl rfl).q) (fun a w hF hW => ?_)
     refine ls hF hW rfl ((y_move hF rfl).q) (fun a w hF hW => ?_)
     iterate 2 refine lsn hF rfl rfl rfl rfl rfl rfl rfl (fun a hF => ?_)
     refine ls hF hW rfl ((y_pick_f hF rfl rfl rfl).q) (fun a w hF hW => ?_)
     refine ls hF hW rfl ((y_assign hF rfl).q) (fun a w hF hW => ?_)
     refine ls_nil (c_then ?_)
     have hW := hW.sub (M' := [(b1, [.int .i64 x5.1, .int .i64 x5.2.1, v4])]) (Z' := [row v4 50 R50 x5.2.2]) (List.Sublist.refl _) (List.Sublist.cons_cons _ (List.nil_sublist _))
     exact ⟨_, H, hF.re ⟨rfl, trivial⟩, hW⟩
   ·
    have H := iteF (of_decide_eq_false hb) H
    rw [hb] at hF
    clear hb
    iterate 3 refine lsn hF rfl rfl rfl rfl rfl rfl rfl (fun a hF => ?_)
    refine ls hF hW rfl ((y_pick_f hF rfl rfl rfl).q) (fun a w hF hW => ?_)
    refine ls hF hW rfl ((y_move hF rfl).q) (fun a w hF hW => ?_)
    iterate 3 refine lsn hF rfl rfl rfl rfl rfl rfl rfl (fun a hF => ?_)
    refine ls hF hW rfl ((y_pick_f hF rfl rfl rfl).q) (fun a w hF hW => ?_)
    refine ls hF hW rfl ((y_move hF rfl).q) (fun a w hF hW => ?_)
    iterate 3 refine lsn hF rfl rfl rfl rfl rfl rfl rfl (fun a hF => ?_)
    refine ls hF hW rfl ((y_pick_f hF rfl rfl rfl).q) (fun a w hF hW => ?_)
    refine ls hF hW rfl ((y_move hF rfl).q) (fun a w hF hW => ?_)
    iterate 2 refine lsn hF rfl rfl rfl rfl rfl rfl rfl (fun a hF => ?_)
    refine ls hF hW rfl ((y_pick_f hF rfl rfl rfl).q) (fun a w hF hW => ?_)
    refine ls hF hW rfl ((y_assign hF rfl).q) (fun a w hF hW => ?_)
    refine ls_nil (c_then ?_)
    have hW := hW.sub (M' := [(b1, [.int .i64 x5.1, .int .i64 x5.2.1, v4])]) (Z' := [row v4 50 R50 x5.2.2]) (List.Sublist.refl _) (List.Sublist.cons_cons _ (List.nil_sublist _))
    exact ⟨_, H, hF.re ⟨rfl, trivial⟩, hW⟩
  rintro a w ⟨x6, hj, hF, hW⟩
  have hj := Option.some.inj hj
  subst hj
  have H := K1
  clear G1 K1
  refine wr_ret ?_
  have H := Option.some.inj H
  subst H
  refine post1 (.inl rfl) hF hW rfl (rv_tmp hF rfl) ?_
  exact ⟨rfl, hW.done⟩
 ·
  have H := altR H
  refine l_callG (Ml := []) (Zl := []) (M := []) (Z := [row v1 3 (Rp.int .i64) ([7] : List Int)]) (β := Unit) (rv := fun x => .tuple #[.pointer none, .int .i64 2]) (MM := fun x => []) (ZZ := fun x => []) hF hW H7 rfl rfl (fun hL => clock_New_c _ w (v1) ([7] : List Int) 500 _ h1 ((rdc_row 0 rfl) w hW).nx) (fun x a w hF hW => ?_)
  have hW : Stw ⟨Y, [], w0⟩ [] [row v1 3 (Rp.int .i64) ([7] : List Int)] w := hW
  refine ls hF hW rfl ((y_move hF rfl).q) (fun a w hF hW => ?_)
  refine ls hF hW rfl ((y_extract (v := Value.pointer none) hF rfl rfl).q) (fun a w hF hW => ?_)
  refine ls hF hW rfl ((y_extract (v := Value.int .i64 2) hF rfl rfl).q) (fun a w hF hW => ?_)
  iterate 2 refine ls hF hW rfl ((y_assign hF rfl).q) (fun a w hF hW => ?_)
  refine ls_nil (c_then ?_)
  refine c_seq (reg_list ?_)
  refine ls hF hW rfl ((y_move hF rfl).q) (fun a w hF hW => ?_)
  refine ls hF hW rfl (y_call (v := Value.int .i64 7) hF H12 rfl (fun w hW => clock_Clocks_Rate_2_c any w 0 (-500) _ rfl)) (fun a w hF hW => ?_)
  refine ls hF hW rfl ((y_assign hF rfl).q) (fun a w hF hW => ?_)
  refine ls_nil (c_then ?_)
  refine c_seq (reg_list ?_)
  refine ls hF hW rfl ((y_move hF rfl).q) (fun a w hF hW => ?_)
  refine ls hF hW rfl (y_call (v := Value.tuple #[]) hF H10 rfl (fun w hW => clock_Clocks_Tick_2_c any w 3 _ rfl)) (fun a w hF hW => ?_)
  refine ls_nil (c_then ?_)
  refine c_seq (reg_list ?_)
  refine ls hF hW rfl ((y_move hF rfl).q) (fun a w hF hW => ?_)
  refine ls hF hW rfl ((y_eql hF rfl rfl).q) (fun a w hF hW => ?_)
  rw [show decide ((2 : Int) = 0) = false from by decide] at hF
  refine ls hF hW rfl ((y_move hF rfl).q) (fun a w hF hW => ?_)
  iterate 2 refine lsn hF rfl rfl rfl rfl rfl rfl rfl (fun a hF => ?_)
  refine ls hF hW rfl ((y_pick_f hF rfl rfl rfl).q) (fun a w hF hW => ?_)
  refine ls hF hW rfl ((y_move hF rfl).q) (fun a w hF hW => ?_)
  iterate 3 refine lsn hF rfl rfl rfl rfl rfl rfl rfl (fun a hF => ?_)
  refine ls hF hW rfl ((y_pick_f hF rfl rfl rfl).q) (fun a w hF hW => ?_)
  refine ls hF hW rfl ((y_move hF rfl).q) (fun a w hF hW => ?_)
  iterate 3 refine lsn hF rfl rfl rfl rfl rfl rfl rfl (fun a hF => ?_)
  refine ls hF hW rfl ((y_pick_f hF rfl rfl rfl).q) (fun a w hF hW => ?_)
  refine ls hF hW rfl ((y_move hF rfl).q) (fun a w hF hW => ?_)
  iterate 3 refine lsn hF rfl rfl rfl rfl rfl rfl rfl (fun a hF => ?_)
  refine ls hF hW rfl ((y_pick_f hF rfl rfl rfl).q) (fun a w hF hW => ?_)
  refine ls hF hW rfl ((y_move hF rfl).q) (fun a w hF hW => ?_)
  iterate 2 refine lsn hF rfl rfl rfl rfl rfl rfl rfl (fun a hF => ?_)
  refine ls hF hW rfl ((y_pick_f hF rfl rfl rfl).q) (fun a w hF hW => ?_)
  refine ls hF hW rfl ((y_assign hF rfl).q) (fun a w hF hW => ?_)
  refine ls_nil (c_then ?_)
  refine wr_ret ?_
  have H := Option.some.inj H
  subst H
  refine post1 (.inl rfl) hF hW rfl (rv_tmp hF rfl) ?_
  exact ⟨rfl, hW.done⟩

theorem u28_ : type_of% Try.underlying28 := Try.underlying28
theorem u32_ : type_of% Try.underlying32 := Try.underlying32
theorem H9 : Has Try.prog 9 := ⟨fun args w => run_callFunc_body Try.func9 rfl (by decide) args w⟩
noncomputable def L14_ClockPlays_l1 (p2 : List (Int × Int × Int)) : (Int × Int × Int × (List (Int × Int × (Nat × List (Int × Int)))) × Int × Int × (List (Int × Int × Int))) → Option ((Int × Int × Int × (List (Int × Int × (Nat × List (Int × Int)))) × Int × Int × (List (Int × Int × Int))) ⊕ ((Int × Int × (List (Int × Int × (Nat × List (Int × Int)))) × Int × Int × (List (Int × Int × Int))) ⊕ Bool))
  | (x13, x14, x15, x16, x17, x18, x19) => (if (decide (x13 < (p2.length : Int)) && decide (x13 < 60)) = true then orR ((ix p2 x13).bind fun x26 => (if x26.1 = 0 then some (true, x16) else (if x26.1 = 1 then some (true, x16) else some (decide (x26.1 = 2), x16))).bind fun (x27, x28) => (if x27 = true then (ix p2 x13).bind fun x29 => (clock_Clocks_Tick (x17, x18, x19) x29.2.2).bind fun x30 => (ix p2 x13).bind fun x31 => (r14_Clocks_Tick (x14, x15, x28) x31.2.2).bind fun x32 => some (.inl (x32.1, x32.2.1, x32.2.2, x30.1, x30.2.1, x30.2.2)) else (if x26.1 = 3 then (ix p2 x13).bind fun x33 => (ix p2 x13).bind fun x34 => (ix p2 x13).bind fun x35 => (ix p2 x13).bind fun x36 => (clock_Clocks_Rate (x17, x18, x19) x33.2.1 x34.2.2).bind fun x37 => (r14_Clocks_Rate (x14, x15, x28) x35.2.1 x36.2.2).bind fun x38 => (if x37.1 ≠ x38.1 then some (.inr (.inr (.inr false))) else some (.inl (x38.2.1, x38.2.2.1, x38.2.2.2, x37.2.1, x37.2.2.1, x37.2.2.2))) else some (.inl (x14, x15, x28, x17, x18, x19))))) fun (x20, x21, x22, x23, x24, x25) => ((ix p2 x13).bind fun x41 => (ix p2 x13).bind fun x42 => (clock_Clocks_Read (x23, x24, x25) x41.2.1).bind fun x43 => (r14_Clocks_Read (x20, x21, x22) x42.2.1).bind fun x44 => (if x43 ≠ x44 then some (true, (x20, x21, x22).2.2) else (if (clock_Clocks_Real (x23, x24, x25)) ≠ ((x20, x21, x22).1) then some (true, (x20, x21, x22).2.2) else (ix p2 x13).bind fun x45 => (if (r14_Clocks_Is (x20, x21, x22) x45.2.1) = true then (ix p2 x13).bind fun x46 => (ix p2 x13).bind fun x47 => (clock_Clocks_Apart (x23, x24, x25) x46.2.1).bind fun x48 => (r14_Clocks_Apart (x20, x21, x22) x47.2.1).bind fun x49 => (if x48 ≠ x49 then some (true, (x20, x21, x22).2.2) else (ix p2 x13).bind fun x50 => (if (!(r14_Clocks_Is (x20, x21, x22) x50.2.1)) = true then (ix p2 x13).bind fun x51 => (clock_Clocks_Apart (x23, x24, x25) x51.2.1).bind fun x52 => some (decide (x52 ≠ 0), (x20, x21, x22).2.2) else some (false, (x20, x21, x22).2.2))) else (ix p2 x13).bind fun x53 => (if (!(r14_Clocks_Is (x20, x21, x22) x53.2.1)) = true then (ix p2 x13).bind fun x54 => (clock_Clocks_Apart (x23, x24, x25) x54.2.1).bind fun x55 => some (decide (x55 ≠ 0), (x20, x21, x22).2.2) else some (false, (x20, x21, x22).2.2)))))).bind fun (x39, x40) => (if x39 = true then some (.inr (.inr false)) else some (.inl (w64 (x13 + 1), (x20, x21, x22).1, (x20, x21, x22).2.1, x40, x23, x24, x25))) else some (.inr (.inl (x14, x15, x16, x17, x18, x19))))
noncomputable def L14_ClockPlays (p0 : List Int) (p1 : Int) (p2 : List (Int × Int × Int)) : Option Bool := (clock_New p0 p1).bind fun x1 => altS x1 (fun x2 => (r14_New p0 p1).bind fun x4 => altS x4 (fun x5 => orR (loopW (L14_ClockPlays_l1 p2) (0, x5.1, x5.2.1, x5.2.2, x2.1, x2.2.1, x2.2.2)) fun (x7, x8, x9, x10, x11, x12) => ((clock_Drift p1 (p2.length : Int)).bind fun x58 => (r14_Drift p1 (p2.length : Int)).bind fun x59 => (if x58 = x59 then (L14_awake).bind fun x60 => some (x60, x9) else some (false, x9))).bind fun (x56, x57) => some x56) (fun x6 => some false)) (fun x3 => (r14_New p0 p1).bind fun x61 => altS x61 (fun x62 => some false) (fun x63 => (L14_awake).bind fun x64 => some x64))
theorem L14_ClockPlays_c (Y : Nat → Prop) (w0 : World) (v1 : Value) (v2 : Value) (p0 : List Int) (p1 : Int) (p2 : List (Int × Int × Int)) (r : Bool) (H : L14_ClockPlays p0 p1 p2 = some r) (h_v1 : Sl w0 (NX []) (Rp.int .i64) v1 p0) (h_v2 : Sl w0 (NX []) R32 v2 p2) :
    Calls Try.prog 3 #[v1, .int .i64 p1, v2] w0 fun e w' => e = .returned (.bool r) ∧ Below w0.heap.size w0 w' := by
 refine enter Try.func3 rfl Try.ntmps3 rfl (fun a hF => ?_)
 have hW := Stw.start Y w0
 unfold L14_ClockPlays at H
 refine c_seq (reg_list ?_)
 refine ls hF hW rfl ((y_assign hF rfl).q) (fun a w hF hW => ?_)
 refine ls_nil (c_then ?_)
 refine c_seq (reg_list ?_)
 iterate 2 refine ls hF hW rfl ((y_move hF rfl).q) (fun a w hF hW => ?_)
 obtain ⟨x1, h1, H⟩ := bindE H
 rcases x1 with x2 | x3
 ·
  have H := altL H
  refine l_callG (Ml := []) (Zl := []) (M := []) (Z := []) (β := Nat × Value) (rv := fun x => .tuple #[.pointer (some ⟨x.1, 0, none⟩), .int .i64 0]) (MM := fun x => [(x.1, [.int .i64 x2.1, .int .i64 x2.2.1, x.2])]) (ZZ := fun x => [row x.2 50 R50 x2.2.2]) hF hW H7 rfl rfl (fun hL => clock_New_c _ w (v1) p0 p1 _ h1 ((rdc_ro h_v1) w hW).nx) (fun x a w hF hW => ?_)
  obtain ⟨b1, v3⟩ := x
  have hW : Stw ⟨Y, [], w0⟩ [(b1, [.int .i64 x2.1, .int .i64 x2.2.1, v3])] [row v3 50 R50 x2.2.2] w := hW
  refine ls hF hW rfl ((y_move hF rfl).q) (fun a w hF hW => ?_)
  refine ls hF hW rfl ((y_extract (v := Value.pointer (some ⟨b1, 0, none⟩)) hF rfl rfl).q) (fun a w hF hW => ?_)
  refine ls hF hW rfl ((y_extract (v := Value.int .i64 0) hF rfl rfl).q) (fun a w hF hW => ?_)
  iterate 2 refine ls hF hW rfl ((y_assign hF rfl).q) (fun a w hF hW => ?_)
  refine ls_nil (c_then ?_)
  refine c_seq (reg_list ?_)
  iterate 2 refine ls hF hW rfl ((y_move hF rfl).q) (fun a w hF hW => ?_)
  obtain ⟨x4, h2, H⟩ := bindE H
  rcases x4 with x5 | x6
  ·
   have H := altL H
   refine l_callG (Ml := []) (Zl := []) (M := [(b1, [.int .i64 x2.1, .int .i64 x2.2.1, v3])]) (Z := [row v3 50 R50 x2.2.2]) (β := Nat × Value × ({x : List (Int × Int × (Value × Nat × List (Int × Int))) // x.map ERD53 = x5.2.2})) (rv := fun x => .pointer (some ⟨x.1, 0, none⟩)) (MM := fun x => [(x.1, [.int .i64 x5.1, .int .i64 x5.2.1, x.2.1])]) (ZZ := fun x => [drow x.2.1 53 DP53 x.2.2.1]) hF hW H8 rfl rfl (fun hL => r14_New_c _ w (v1) p0 p1 _ h2 ((rdc_ro h_v1) w hW).nx) (fun x a w hF hW => ?_)
   obtain ⟨b2, v4, v5⟩ := x
   have hW : Stw ⟨Y, [], w0⟩ [(b2, [.int .i64 x5.1, .int .i64 x5.2.1, v4]), (b1, [.int .i64 x2.1, .int .i64 x2.2.1, v3])] [drow v4 53 DP53 v5.1, row v3 50 R50 x2.2.2] w := hW
   refine ls hF hW rfl ((y_assign hF rfl).q) (fun a w hF hW => ?_)
   refine ls_nil (c_then ?_)
   refine c_seq ?_
   refine c_seq (reg_list ?_)
   refine ls hF hW rfl ((y_move hF rfl).q) (fun a w hF hW => ?_)
   refine ls hF hW rfl ((y_peq_some_nil u28_ hF rfl rfl).q) (fun a w hF hW => ?_)
   refine ls_nil (c_then ?_)
   refine c_cond_f hF rfl ?_
   refine wr_skip ?_
   refine c_then ?_
   refine c_seq ?_
   refine c_seq (reg_list ?_)
   refine ls hF hW rfl ((y_move hF rfl).q) (fun a w hF hW => ?_)
   refine ls hF hW rfl ((y_neq hF rfl rfl).q) (fun a w hF hW => ?_)
   rw [show decide ((0 : Int) ≠ 0) = false from by decide] at hF
   refine ls_nil (c_then ?_)
   refine c_cond_f hF rfl ?_
   refine wr_skip ?_
   refine c_then ?_
   obtain ⟨o1, G1, K1, L1⟩ := orE H
   refine c_seqJ (fun a w => ∃ x7 : Int, ∃ x8 : Int, ∃ x9 : List (Int × Int × (Nat × List (Int × Int))), ∃ x10 : Int, ∃ x11 : Int, ∃ x12 : List (Int × Int × Int), ∃ v6 : Value, ∃ g_x9 : {x : List (Int × Int × (Value × Nat × List (Int × Int))) // x.map ERD53 = x9}, ∃ v7 : Value, some (Sum.inl (x7, x8, x9, x10, x11, x12)) = some o1 ∧ Fr 175 [] [(1, .int .i64 p1), (2, v2), (6, .bool false)] a ∧ Stw ⟨Y, [], w0⟩ [(b2, [.int .i64 x7, .int .i64 x8, v6]), (b1, [.int .i64 x10, .int .i64 x11, v7])] [drow v6 53 DP53 g_x9.1, row v7 50 R50 x12] w) ?_ ?_
   ·
    have H := G1
    clear G1 K1
    refine c_seq (reg_list ?_)
    refine ls hF hW rfl ((y_assign hF rfl).q) (fun a w hF hW => ?_)
    refine ls_nil (c_then ?_)
    refine wr_block ?_
    have hW := hW.frontZ (i := 1) rfl rfl
    have hW := hW.frontZ (i := 1) rfl rfl
    have hW := hW.frontM (i := 1) rfl rfl
    have hW := hW.frontM (i := 1) rfl rfl
    refine c_loopW H (fun s a w => ∃ v8 : Value, ∃ g_x16 : {x : List (Int × Int × (Value × Nat × List (Int × Int))) // x.map ERD53 = s.2.2.2.1}, ∃ v9 : Value, Fr 175 [] [(1, .int .i64 p1), (2, v2), (6, .bool false), (7, .pointer (some ⟨b1, 0, none⟩)), (9, .pointer (some ⟨b2, 0, none⟩)), (10, .int .i64 s.1)] a ∧ Stw ⟨Y, [], w0⟩ [(b2, [.int .i64 s.2.1, .int .i64 s.2.2.1, v8]), (b1, [.int .i64 s.2.2.2.2.1, .int .i64 s.2.2.2.2.2.1, v9])] [drow v8 53 DP53 g_x16.1, row v9 50 R50 s.2.2.2.2.2.2] w) ⟨(v4), ⟨v5.1, v5.2⟩, (v3), hF.re ⟨rfl, rfl, rfl, rfl, rfl, rfl, trivial⟩, hW⟩ (fun s o a w H L2 hR => ?_)
    obtain ⟨x13, x14, x15, x16, x17, x18, x19⟩ := s
    obtain ⟨v8, g_x16, v9, hF, hW⟩ := hR
    have hF : Fr 175 [] [(1, .int .i64 p1), (2, v2), (6, .bool false), (7, .pointer (some ⟨b1, 0, none⟩)), (9, .pointer (some ⟨b2, 0, none⟩)), (10, .int .i64 x13)] a := hF
    have hW : Stw ⟨Y, [], w0⟩ [(b2, [.int .i64 x14, .int .i64 x15, v8]), (b1, [.int .i64 x17, .int .i64 x18, v9])] [drow v8 53 DP53 g_x16.1, row v9 50 R50 x19] w := hW
    rw [L14_ClockPlays_l1] at H
    refine c_seq ?_
    refine c_seqJ (fun a w => Fr 175 [] [(1, .int .i64 p1), (2, v2), (6, .bool false), (7, .pointer (some ⟨b1, 0, none⟩)), (9, .pointer (some ⟨b2, 0, none⟩)), (10, .int .i64 x13), (40, .bool (decide (x13 < (p2.length : Int)) && decide (x13 < 60)))] a ∧ Stw ⟨Y, [], w0⟩ [(b2, [.int .i64 x14, .int .i64 x15, v8]), (b1, [.int .i64 x17, .int .i64 x18, v9])] [drow v8 53 DP53 g_x16.1, row v9 50 R50 x19] w) ?_ ?_
    ·
     refine reg_list ?_
     iterate 2 refine ls hF hW rfl ((y_move hF rfl).q) (fun a w hF hW => ?_)
     refine ls hF hW rfl ((y_len (r := R32) (l := p2) u23_ rfl hF rfl (rdc_ro h_v2)).q) (fun a w hF hW => ?_)
     refine ls hF hW rfl ((y_lss hF rfl rfl).q) (fun a w hF hW => ?_)
     refine ls hF hW rfl ((y_move hF rfl).q) (fun a w hF hW => ?_)
     rcases Bool.eq_false_or_eq_true (decide (x13 < (p2.length : Int))) with hb0 | hb0
     ·
      rw [hb0] at hF
      refine ls_w hF hW (wanted_y hF rfl rfl rfl rfl) rfl (Nat.le_of_ble_eq_true rfl) ((y_move hF rfl).q) (fun a w hF hW => ?_)
      refine ls_w hF hW (wanted_y hF rfl rfl rfl rfl) rfl (Nat.le_of_ble_eq_true rfl) ((y_lss hF rfl rfl).q) (fun a w hF hW => ?_)
      refine ls hF hW rfl ((y_pick_t hF rfl rfl rfl).q) (fun a w hF hW => ?_)
      refine ls_nil (c_then ?_)
      exact ⟨hF.re ⟨rfl, rfl, rfl, rfl, rfl, rfl, (by show some (Value.bool (decide (x13 < 60))) = some (Value.bool (decide (x13 < (p2.length : Int)) && decide (x13 < 60))); try rw [hb0]; all_goals simp only [Bool.not_true, Bool.not_false, Bool.true_and, Bool.false_and, Bool.true_or, Bool.false_or, Bool.and_true, Bool.or_false, cond_true, cond_false]), trivial⟩, hW⟩
     ·
      rw [hb0] at hF
      iterate 2 refine lsn hF rfl rfl rfl rfl rfl rfl rfl (fun a hF => ?_)
      refine ls hF hW rfl ((y_pick_f hF rfl rfl rfl).q) (fun a w hF hW => ?_)
      refine ls_nil (c_then ?_)
      exact ⟨hF.re ⟨rfl, rfl, rfl, rfl, rfl, rfl, (by show some (Value.bool false) = some (Value.bool (decide (x13 < (p2.length : Int)) && decide (x13 < 60))); try rw [hb0]; all_goals simp only [Bool.not_true, Bool.not_false, Bool.true_and, Bool.false_and, Bool.true_or, Bool.false_or, Bool.and_true, Bool.or_false, cond_true, cond_false]), trivial⟩, hW⟩
    rintro a w ⟨hF, hW⟩
    refine c_cond hF rfl (fun hb => ?_) (fun hb => ?_)
    ·
     have H := iteT hb H
     rw [hb] at hF
     clear hb
     refine wr_skip ?_
     refine c_then ?_
     refine c_seq ?_
     refine wr_block ?_
     obtain ⟨o3, G3, K3, L3⟩ := orE H
     refine c_seqJ (fun a w => ∃ x20 : Int, ∃ x21 : Int, ∃ x22 : List (Int × Int × (Nat × List (Int × Int))), ∃ x23 : Int, ∃ x24 : Int, ∃ x25 : List (Int × Int × Int), ∃ v10 : Value, ∃ g_x22 : {x : List (Int × Int × (Value × Nat × List (Int × Int))) // x.map ERD53 = x22}, ∃ v11 : Value, some (Sum.inl (x20, x21, x22, x23, x24, x25)) = some o3 ∧ Fr 175 [] [(1, .int .i64 p1), (2, v2), (6, .bool false), (7, .pointer (some ⟨b1, 0, none⟩)), (9, .pointer (some ⟨b2, 0, none⟩)), (10, .int .i64 x13)] a ∧ Stw ⟨Y, [], w0⟩ [(b2, [.int .i64 x20, .int .i64 x21, v10]), (b1, [.int .i64 x23, .int .i64 x24, v11])] [drow v10 53 DP53 g_x22.1, row v11 50 R50 x25] w) ?_ ?_
     ·
      have H := G3
      clear G3 K3
      refine c_seq (reg_list ?_)
      iterate 2 refine ls hF hW rfl ((y_move hF rfl).q) (fun a w hF hW => ?_)
      obtain ⟨x26, h3, H⟩ := bindE H
      refine ls hF hW rfl ((y_index (r := R32) L23 hF rfl rfl (rdc_ro h_v2) h3).q) (fun a w hF hW => ?_)
      refine ls hF hW rfl ((y_fieldAddr u32_ rfl rfl rfl T3 hF rfl (voff v2 + (x13).toNat * 3) rfl).q) (fun a w hF hW => ?_)
      refine ls hF hW rfl ((y_load_el (y := Value.int .i64 x26.1) (j := 0) (i := x13) hF rfl rfl (rdc_ro h_v2) h3 F32.to T3 rfl).q) (fun a w hF hW => ?_)
      refine ls_nil (c_then ?_)
      refine wr_block ?_
      obtain ⟨o4, G4, K4⟩ := bindE H
      refine c_seqJ (fun a w => ∃ x27 : Bool, ∃ x28 : List (Int × Int × (Nat × List (Int × Int))), ∃ g_x28 : {x : List (Int × Int × (Value × Nat × List (Int × Int))) // x.map ERD53 = x28}, some ((x27, x28)) = some o4 ∧ Fr 175 [] [(1, .int .i64 p1), (2, v2), (6, .bool false), (7, .pointer (some ⟨b1, 0, none⟩)), (9, .pointer (some ⟨b2, 0, none⟩)), (10, .int .i64 x13), (47, .int .i64 x26.1), (48, .bool x27)] a ∧ Stw ⟨Y, [], w0⟩ [(b2, [.int .i64 x14, .int .i64 x15, v8]), (b1, [.int .i64 x17, .int .i64 x18, v9])] [drow v8 53 DP53 g_x28.1, row v9 50 R50 x19] w) ?_ ?_
      ·
       have H := G4
       clear G4 K4
       refine c_seq (reg_list ?_)
       refine ls hF hW rfl ((y_eql hF rfl rfl).q) (fun a w hF hW => ?_)
       refine ls hF hW rfl ((y_assign hF rfl).q) (fun a w hF hW => ?_)
       refine ls_nil (c_then ?_)
       refine c_cond hF rfl (fun hb => ?_) (fun hb => ?_)
       ·
        have H := iteT (of_decide_eq_true hb) H
        rw [hb] at hF
        clear hb
        refine wr_skip ?_
        refine c_then ?_
        have hW := hW.frontZ (i := 1) rfl rfl
        have hW := hW.frontZ (i := 1) rfl rfl
        have hW := hW.frontM (i := 1) rfl rfl
        have hW := hW.frontM (i := 1) rfl rfl
        exact ⟨_, _, ⟨g_x16.1, g_x16.2⟩, H, hF.re ⟨rfl, rfl, rfl, rfl, rfl, rfl, rfl, rfl, trivial⟩, hW⟩
       ·
        have H := iteF (of_decide_eq_false hb) H
        rw [hb] at hF
        clear hb
        refine c_seq (reg_list ?_)
        refine ls hF hW rfl ((y_eql hF rfl rfl).q) (fun a w hF hW => ?_)
        refine ls hF hW rfl ((y_assign hF rfl).q) (fun a w hF hW => ?_)
        refine ls_nil (c_then ?_)
        refine c_cond hF rfl (fun hb => ?_) (fun hb => ?_)
        ·
         have H := iteT (of_decide_eq_true hb) H
         rw [hb] at hF
         clear hb
         refine wr_skip ?_
         refine c_then ?_
         have hW := hW.frontZ (i := 1) rfl rfl
         have hW := hW.frontZ (i := 1) rfl rfl
         have hW := hW.frontM (i := 1) rfl rfl
         have hW := hW.frontM (i := 1) rfl rfl
         exact ⟨_, _, ⟨g_x16.1, g_x16.2⟩, H, hF.re ⟨rfl, rfl, rfl, rfl, rfl, rfl, rfl, rfl, trivial⟩, hW⟩
        ·
         have H := iteF (of_decide_eq_false hb) H
         rw [hb] at hF
         clear hb
         refine reg_list ?_
         refine ls hF hW rfl ((y_eql hF rfl rfl).q) (fun a w hF hW => ?_)
         refine ls hF hW rfl ((y_assign hF rfl).q) (fun a w hF hW => ?_)
         refine ls_nil (c_then ?_)
         have hW := hW.frontZ (i := 1) rfl rfl
         have hW := hW.frontZ (i := 1) rfl rfl
         have hW := hW.frontM (i := 1) rfl rfl
         have hW := hW.frontM (i := 1) rfl rfl
         exact ⟨_, _, ⟨g_x16.1, g_x16.2⟩, H, hF.re ⟨rfl, rfl, rfl, rfl, rfl, rfl, rfl, rfl, trivial⟩, hW⟩
      rintro a w ⟨x27, x28, g_x28, hj, hF, hW⟩
      have hj := Option.some.inj hj
      subst hj
      have H := K4
      clear G4 K4
      refine c_cond hF rfl (fun hb => ?_) (fun hb => ?_)
      ·
       have H := iteT hb H
       rw [hb] at hF
       clear hb
       refine c_seq (reg_list ?_)
       iterate 3 refine ls hF hW rfl ((y_move hF rfl).q) (fun a w hF hW => ?_)
       obtain ⟨x29, h4, H⟩ := bindE H
       refine ls hF hW rfl ((y_index (r := R32) L23 hF rfl rfl (rdc_ro h_v2) h4).q) (fun a w hF hW => ?_)
       refine ls hF hW rfl ((y_fieldAddr u32_ rfl rfl rfl T3 hF rfl (voff v2 + (x13).toNat * 3 + 2) rfl).q) (fun a w hF hW => ?_)
       refine ls hF hW rfl ((y_load_el (y := Value.int .i64 x29.2.2) (j := 2) (i := x13) hF rfl rfl (rdc_ro h_v2) h4 F32.to T3 rfl).q) (fun a w hF hW => ?_)
       obtain ⟨x30, h5, H⟩ := bindE H
       have hW := hW.frontZ (i := 1) rfl rfl
       have hW := hW.frontM (i := 1) rfl rfl
       refine l_callG (Ml := [(b1, [.int .i64 x17, .int .i64 x18, v9])]) (Zl := [row v9 50 R50 x19]) (M := [(b2, [.int .i64 x14, .int .i64 x15, v8])]) (Z := [drow v8 53 DP53 g_x28.1]) (β := Value) (rv := fun x => .tuple #[]) (MM := fun x => [(b1, [.int .i64 x30.1, .int .i64 x30.2.1, x])]) (ZZ := fun x => [row x 50 R50 x30.2.2]) hF hW H10 rfl rfl (fun hL => clock_Clocks_Tick_c _ _ w b1 (v9) (x17, x18, x19) x29.2.2 _ h5 hL) (fun x a w hF hW => ?_)
       obtain ⟨v12, rfl⟩ : ∃ y, y = x := ⟨x, rfl⟩
       have hW : Stw ⟨Y, [], w0⟩ [(b1, [.int .i64 x30.1, .int .i64 x30.2.1, v12]), (b2, [.int .i64 x14, .int .i64 x15, v8])] [row v12 50 R50 x30.2.2, drow v8 53 DP53 g_x28.1] w := hW
       refine ls_nil (c_then ?_)
       refine reg_list ?_
       iterate 3 refine ls hF hW rfl ((y_move hF rfl).q) (fun a w hF hW => ?_)
       obtain ⟨x31, h6, H⟩ := bindE H
       refine ls hF hW rfl ((y_index (r := R32) L23 hF rfl rfl (rdc_ro h_v2) h6).q) (fun a w hF hW => ?_)
       refine ls hF hW rfl ((y_fieldAddr u32_ rfl rfl rfl T3 hF rfl (voff v2 + (x13).toNat * 3 + 2) rfl).q) (fun a w hF hW => ?_)
       refine ls hF hW rfl ((y_load_el (y := Value.int .i64 x31.2.2) (j := 2) (i := x13) hF rfl rfl (rdc_ro h_v2) h6 F32.to T3 rfl).q) (fun a w hF hW => ?_)
       obtain ⟨x32, h7, H⟩ := bindE H
       have hW := hW.frontZ (i := 1) rfl rfl
       have hW := hW.frontM (i := 1) rfl rfl
       refine l_callG (Ml := [(b2, [.int .i64 x14, .int .i64 x15, v8])]) (Zl := [drow v8 53 DP53 g_x28.1]) (M := [(b1, [.int .i64 x30.1, .int .i64 x30.2.1, v12])]) (Z := [row v12 50 R50 x30.2.2]) (β := Value × ({x : List (Int × Int × (Value × Nat × List (Int × Int))) // x.map ERD53 = x32.2.2})) (rv := fun x => .tuple #[]) (MM := fun x => [(b2, [.int .i64 x32.1, .int .i64 x32.2.1, x.1])]) (ZZ := fun x => [drow x.1 53 DP53 x.2.1]) hF hW H11 rfl rfl (fun hL => r14_Clocks_Tick_c _ _ w b2 (v8) (x14, x15, x28) x31.2.2 ⟨g_x28.1, g_x28.2⟩ _ h7 hL) (fun x a w hF hW => ?_)
       obtain ⟨v13, v14⟩ := x
       have hW : Stw ⟨Y, [], w0⟩ [(b2, [.int .i64 x32.1, .int .i64 x32.2.1, v13]), (b1, [.int .i64 x30.1, .int .i64 x30.2.1, v12])] [drow v13 53 DP53 v14.1, row v12 50 R50 x30.2.2] w := hW
       refine ls_nil ?_
       refine b_normal ?_
       refine c_then ?_
       have hW := hW.frontZ (i := 1) rfl rfl
       have hW := hW.frontZ (i := 1) rfl rfl
       have hW := hW.frontM (i := 1) rfl rfl
       have hW := hW.frontM (i := 1) rfl rfl
       exact ⟨_, _, _, _, _, _, (v13), ⟨v14.1, v14.2⟩, (v12), H, hF.re ⟨rfl, rfl, rfl, rfl, rfl, rfl, trivial⟩, hW⟩
      ·
       have H := iteF (by rw [hb]; decide) H
       rw [hb] at hF
       clear hb
       refine c_seq (reg_list ?_)
       refine ls hF hW rfl ((y_eql hF rfl rfl).q) (fun a w hF hW => ?_)
       refine ls hF hW rfl ((y_assign hF rfl).q) (fun a w hF hW => ?_)
       refine ls_nil (c_then ?_)
       refine c_cond hF rfl (fun hb => ?_) (fun hb => ?_)
       ·
        have H := iteT (of_decide_eq_true hb) H
        rw [hb] at hF
        clear hb
        refine c_seq ?_
        refine reg_plan [(true, 0), (true, 1), (true, 2), (true, 3), (true, 4), (true, 5), (true, 6), (true, 7), (true, 8), (true, 9), (true, 10), (true, 12), (true, 13), (true, 14), (true, 15), (true, 16), (true, 17), (true, 18), (true, 19), (true, 20), (true, 21), (true, 22), (false, 11), (false, 23), (true, 24)] (CN ⟨Y, [], w0⟩ [] []) (fun ch a d v w h => by cases d <;> exact h) MO (by kernel_rfl) hW (fun w hW => ⟨_, _, hW, all_nil, all_nil⟩) (fun w hW => ?_)
        iterate 3 refine pl_t (R := []) hF rfl rfl (yC fun M Z hN hZ => y_move hF rfl) rfl rfl (fun a hF => ?_)
        obtain ⟨x33, h8, H⟩ := bindE H
        refine pl_t (R := []) hF rfl rfl (yC fun M Z hN hZ => y_index (r := R32) L23 hF rfl rfl (rdc_ro h_v2) h8) rfl rfl (fun a hF => ?_)
        refine pl_t (R := []) hF rfl rfl (yC fun M Z hN hZ => y_fieldAddr u32_ rfl rfl rfl T3 hF rfl (voff v2 + (x13).toNat * 3 + 1) rfl) rfl rfl (fun a hF => ?_)
        refine pl_t (R := []) hF rfl rfl (yC fun M Z hN hZ => y_load_el (y := Value.int .i64 x33.2.1) (j := 1) (i := x13) hF rfl rfl (rdc_ro h_v2) h8 F32.to T3 rfl) rfl rfl (fun a hF => ?_)
        iterate 2 refine pl_t (R := []) hF rfl rfl (yC fun M Z hN hZ => y_move hF rfl) rfl rfl (fun a hF => ?_)
        obtain ⟨x34, h9, H⟩ := bindE H
        refine pl_t (R := []) hF rfl rfl (yC fun M Z hN hZ => y_index (r := R32) L23 hF rfl rfl (rdc_ro h_v2) h9) rfl rfl (fun a hF => ?_)
        refine pl_t (R := []) hF rfl rfl (yC fun M Z hN hZ => y_fieldAddr u32_ rfl rfl rfl T3 hF rfl (voff v2 + (x13).toNat * 3 + 2) rfl) rfl rfl (fun a hF => ?_)
        refine pl_t (R := []) hF rfl rfl (yC fun M Z hN hZ => y_load_el (y := Value.int .i64 x34.2.2) (j := 2) (i := x13) hF rfl rfl (rdc_ro h_v2) h9 F32.to T3 rfl) rfl rfl (fun a hF => ?_)
        iterate 3 refine pl_t (R := []) hF rfl rfl (yC fun M Z hN hZ => y_move hF rfl) rfl rfl (fun a hF => ?_)
        obtain ⟨x35, h10, H⟩ := bindE H
        refine pl_t (R := []) hF rfl rfl (yC fun M Z hN hZ => y_index (r := R32) L23 hF rfl rfl (rdc_ro h_v2) h10) rfl rfl (fun a hF => ?_)
        refine pl_t (R := []) hF rfl rfl (yC fun M Z hN hZ => y_fieldAddr u32_ rfl rfl rfl T3 hF rfl (voff v2 + (x13).toNat * 3 + 1) rfl) rfl rfl (fun a hF => ?_)
        refine pl_t (R := []) hF rfl rfl (yC fun M Z hN hZ => y_load_el (y := Value.int .i64 x35.2.1) (j := 1) (i := x13) hF rfl rfl (rdc_ro h_v2) h10 F32.to T3 rfl) rfl rfl (fun a hF => ?_)
        iterate 2 refine pl_t (R := []) hF rfl rfl (yC fun M Z hN hZ => y_move hF rfl) rfl rfl (fun a hF => ?_)
        obtain ⟨x36, h11, H⟩ := bindE H
        refine pl_t (R := []) hF rfl rfl (yC fun M Z hN hZ => y_index (r := R32) L23 hF rfl rfl (rdc_ro h_v2) h11) rfl rfl (fun a hF => ?_)
        refine pl_t (R := []) hF rfl rfl (yC fun M Z hN hZ => y_fieldAddr u32_ rfl rfl rfl T3 hF rfl (voff v2 + (x13).toNat * 3 + 2) rfl) rfl rfl (fun a hF => ?_)
        refine pl_t (R := []) hF rfl rfl (yC fun M Z hN hZ => y_load_el (y := Value.int .i64 x36.2.2) (j := 2) (i := x13) hF rfl rfl (rdc_ro h_v2) h11 F32.to T3 rfl) rfl rfl (fun a hF => ?_)
        refine pl_f rfl ?_
        obtain ⟨x37, h12, H⟩ := bindE H
        have hW := hW.frontZ (i := 1) rfl rfl
        have hW := hW.frontM (i := 1) rfl rfl
        refine l_callG (Ml := [(b1, [.int .i64 x17, .int .i64 x18, v9])]) (Zl := [row v9 50 R50 x19]) (M := [(b2, [.int .i64 x14, .int .i64 x15, v8])]) (Z := [drow v8 53 DP53 g_x28.1]) (β := Value) (rv := fun x => .int .i64 x37.1) (MM := fun x => [(b1, [.int .i64 x37.2.1, .int .i64 x37.2.2.1, x])]) (ZZ := fun x => [row x 50 R50 x37.2.2.2]) hF hW H12 rfl rfl (fun hL => clock_Clocks_Rate_c _ _ w b1 (v9) (x17, x18, x19) x33.2.1 x34.2.2 _ h12 hL) (fun x a w hF hW => ?_)
        obtain ⟨v15, rfl⟩ : ∃ y, y = x := ⟨x, rfl⟩
        have hW : Stw ⟨Y, [], w0⟩ [(b1, [.int .i64 x37.2.1, .int .i64 x37.2.2.1, v15]), (b2, [.int .i64 x14, .int .i64 x15, v8])] [row v15 50 R50 x37.2.2.2, drow v8 53 DP53 g_x28.1] w := hW
        refine pl_next (N2 := []) (NZ2 := []) (N3 := []) (NZ3 := []) hW rfl rfl all_nil all_nil ?_
        refine pl_f rfl ?_
        obtain ⟨x38, h13, H⟩ := bindE H
        have hW := hW.frontZ (i := 1) rfl rfl
        have hW := hW.frontM (i := 1) rfl rfl
        refine l_callG (Ml := [(b2, [.int .i64 x14, .int .i64 x15, v8])]) (Zl := [drow v8 53 DP53 g_x28.1]) (M := [(b1, [.int .i64 x37.2.1, .int .i64 x37.2.2.1, v15])]) (Z := [row v15 50 R50 x37.2.2.2]) (β := Value × ({x : List (Int × Int × (Value × Nat × List (Int × Int))) // x.map ERD53 = x38.2.2.2})) (rv := fun x => .int .i64 x38.1) (MM := fun x => [(b2, [.int .i64 x38.2.1, .int .i64 x38.2.2.1, x.1])]) (ZZ := fun x => [drow x.1 53 DP53 x.2.1]) hF hW H13 rfl rfl (fun hL => r14_Clocks_Rate_c _ _ w b2 (v8) (x14, x15, x28) x35.2.1 x36.2.2 ⟨g_x28.1, g_x28.2⟩ _ h13 hL) (fun x a w hF hW => ?_)
        obtain ⟨v16, v17⟩ := x
        have hW : Stw ⟨Y, [], w0⟩ [(b2, [.int .i64 x38.2.1, .int .i64 x38.2.2.1, v16]), (b1, [.int .i64 x37.2.1, .int .i64 x37.2.2.1, v15])] [drow v16 53 DP53 v17.1, row v15 50 R50 x37.2.2.2] w := hW
        refine pl_next (N2 := []) (NZ2 := []) (N3 := []) (NZ3 := []) hW rfl rfl all_nil all_nil ?_
        refine pl_t (R := []) hF rfl rfl (yC fun M Z hN hZ => y_neq hF rfl rfl) rfl rfl (fun a hF => ?_)
        refine pl_end ?_
        refine c_then ?_
        refine c_cond hF rfl (fun hb => ?_) (fun hb => ?_)
        ·
         have H := iteT (of_decide_eq_true hb) H
         rw [hb] at hF
         clear hb
         refine c_seq (reg_list ?_)
         refine ls hF hW rfl ((y_assign hF rfl).q) (fun a w hF hW => ?_)
         refine ls_nil (c_then ?_)
         refine wr_ret ?_
         refine r_block ?_
         refine r_then ?_
         refine r_block ?_
         iterate 2 refine r_then ?_
         refine r_block ?_
         refine r_then ?_
         have H := L3 _ H
         have H := L2 _ H
         have H := L1 _ H
         have H := Option.some.inj H
         subst H
         refine post1 (.inl rfl) hF hW rfl (rv_tmp hF rfl) ?_
         exact ⟨rfl, hW.done⟩
        ·
         have H := iteF (of_decide_eq_false hb) H
         rw [hb] at hF
         clear hb
         refine wr_skip ?_
         refine b_normal ?_
         refine c_then ?_
         have hW := hW.frontZ (i := 1) rfl rfl
         have hW := hW.frontZ (i := 1) rfl rfl
         have hW := hW.frontM (i := 1) rfl rfl
         have hW := hW.frontM (i := 1) rfl rfl
         exact ⟨_, _, _, _, _, _, (v16), ⟨v17.1, v17.2⟩, (v15), H, hF.re ⟨rfl, rfl, rfl, rfl, rfl, rfl, trivial⟩, hW⟩
       ·
        have H := iteF (of_decide_eq_false hb) H
        rw [hb] at hF
        clear hb
        refine wr_skip ?_
        refine b_normal ?_
        refine c_then ?_
        have hW := hW.frontZ (i := 1) rfl rfl
        have hW := hW.frontZ (i := 1) rfl rfl
        have hW := hW.frontM (i := 1) rfl rfl
        have hW := hW.frontM (i := 1) rfl rfl
        exact ⟨_, _, _, _, _, _, (v8), ⟨g_x28.1, g_x28.2⟩, (v9), H, hF.re ⟨rfl, rfl, rfl, rfl, rfl, rfl, trivial⟩, hW⟩
     rintro a w ⟨x20, x21, x22, x23, x24, x25, v10, g_x22, v11, hj, hF, hW⟩
     have H := K3 _ hj
     clear hj G3 K3 L3
     obtain ⟨o5, G5, K5⟩ := bindE H
     refine c_seqJ (fun a w => ∃ x39 : Bool, ∃ x40 : List (Int × Int × (Nat × List (Int × Int))), ∃ g_x40 : {x : List (Int × Int × (Value × Nat × List (Int × Int))) // x.map ERD53 = x40}, some ((x39, x40)) = some o5 ∧ Fr 175 [] [(1, .int .i64 p1), (2, v2), (6, .bool false), (7, .pointer (some ⟨b1, 0, none⟩)), (9, .pointer (some ⟨b2, 0, none⟩)), (10, .int .i64 x13), (162, .bool x39)] a ∧ Stw ⟨Y, [], w0⟩ [(b2, [.int .i64 ((x20, x21, x22).1), .int .i64 ((x20, x21, x22).2.1), v10]), (b1, [.int .i64 x23, .int .i64 x24, v11])] [drow v10 53 DP53 g_x40.1, row v11 50 R50 x25] w) ?_ ?_
     ·
      have H := G5
      clear G5 K5
      refine reg_plan [(true, 0), (true, 1), (true, 2), (true, 3), (true, 4), (true, 5), (true, 7), (true, 8), (true, 9), (true, 10), (true, 11), (true, 12), (false, 6), (false, 13), (true, 14), (true, 15), (true, 16), (true, 18), (true, 19), (true, 20), (true, 21), (false, 17), (true, 22), (true, 23), (true, 24), (true, 25), (true, 26), (true, 27), (true, 28), (true, 29), (true, 30), (false, 31), (true, 32), (true, 33), (true, 34), (true, 35), (true, 36), (true, 37), (true, 38), (true, 40), (true, 41), (true, 42), (true, 43), (true, 44), (true, 45), (false, 39), (false, 46), (true, 47), (true, 48), (true, 49), (true, 50), (true, 51), (true, 52), (true, 53), (true, 54), (true, 55), (true, 56), (false, 57), (true, 58), (true, 59), (true, 60), (true, 61), (true, 62), (true, 63), (true, 64), (true, 65), (false, 66), (true, 67), (true, 68), (true, 69)] (CN ⟨Y, [], w0⟩ [] []) (fun ch a d v w h => by cases d <;> exact h) MO (by kernel_rfl) hW (fun w hW => ⟨_, _, hW, all_nil, all_nil⟩) (fun w hW => ?_)
      iterate 3 refine pl_t (R := []) hF rfl rfl (yC fun M Z hN hZ => y_move hF rfl) rfl rfl (fun a hF => ?_)
      obtain ⟨x41, h14, H⟩ := bindE H
      refine pl_t (R := []) hF rfl rfl (yC fun M Z hN hZ => y_index (r := R32) L23 hF rfl rfl (rdc_ro h_v2) h14) rfl rfl (fun a hF => ?_)
      refine pl_t (R := []) hF rfl rfl (yC fun M Z hN hZ => y_fieldAddr u32_ rfl rfl rfl T3 hF rfl (voff v2 + (x13).toNat * 3 + 1) rfl) rfl rfl (fun a hF => ?_)
      refine pl_t (R := []) hF rfl rfl (yC fun M Z hN hZ => y_load_el (y := Value.int .i64 x41.2.1) (j := 1) (i := x13) hF rfl rfl (rdc_ro h_v2) h14 F32.to T3 rfl) rfl rfl (fun a hF => ?_)
      iterate 3 refine pl_t (R := []) hF rfl rfl (yC fun M Z hN hZ => y_move hF rfl) rfl rfl (fun a hF => ?_)
      obtain ⟨x42, h15, H⟩ := bindE H
      refine pl_t (R := []) hF rfl rfl (yC fun M Z hN hZ => y_index (r := R32) L23 hF rfl rfl (rdc_ro h_v2) h15) rfl rfl (fun a hF => ?_)
      refine pl_t (R := []) hF rfl rfl (yC fun M Z hN hZ => y_fieldAddr u32_ rfl rfl rfl T3 hF rfl (voff v2 + (x13).toNat * 3 + 1) rfl) rfl rfl (fun a hF => ?_)
      refine pl_t (R := []) hF rfl rfl (yC fun M Z hN hZ => y_load_el (y := Value.int .i64 x42.2.1) (j := 1) (i := x13) hF rfl rfl (rdc_ro h_v2) h15 F32.to T3 rfl) rfl rfl (fun a hF => ?_)
      refine pl_f rfl ?_
      obtain ⟨x43, h16, H⟩ := bindE H
      refine ls hF hW rfl (y_call (v := Value.int .i64 x43) hF H14 rfl (fun w hW => clock_Clocks_Read_c any w b1 (v11) (x23, x24, x25) x41.2.1 _ h16 (((rdc_row 1 rfl) : Rdc _ _ _ _ _ _) w hW).nx (at_M hW 1 rfl))) (fun a w hF hW => ?_)
      refine pl_next (N2 := []) (NZ2 := []) (N3 := []) (NZ3 := []) hW rfl rfl all_nil all_nil ?_
      refine pl_f rfl ?_
      obtain ⟨x44, h17, H⟩ := bindE H
      refine l_callG (Ml := [(b2, [.int .i64 x20, .int .i64 x21, v10])]) (Zl := [drow v10 53 DP53 g_x22.1]) (M := [(b1, [.int .i64 x23, .int .i64 x24, v11])]) (Z := [row v11 50 R50 x25]) (β := Unit) (rv := fun x => .int .i64 x44) (MM := fun x => [(b2, [.int .i64 ((x20, x21, x22).1), .int .i64 ((x20, x21, x22).2.1), v10])]) (ZZ := fun x => [drow v10 53 DP53 g_x22.1]) hF hW H15 rfl rfl (fun hL => r14_Clocks_Read_c _ _ w b2 (v10) (x20, x21, x22) x42.2.1 ⟨g_x22.1, g_x22.2⟩ _ h17 hL) (fun x a w hF hW => ?_)
      have hW : Stw ⟨Y, [], w0⟩ [(b2, [.int .i64 ((x20, x21, x22).1), .int .i64 ((x20, x21, x22).2.1), v10]), (b1, [.int .i64 x23, .int .i64 x24, v11])] [drow v10 53 DP53 g_x22.1, row v11 50 R50 x25] w := hW
      refine pl_next (N2 := [(some 31, b2, [.int .i64 ((x20, x21, x22).1), .int .i64 ((x20, x21, x22).2.1), v10])]) (NZ2 := []) (N3 := [(some 31, b2, [.int .i64 ((x20, x21, x22).1), .int .i64 ((x20, x21, x22).2.1), v10])]) (NZ3 := []) hW rfl rfl (all_cons (fun _ => (.head _)) all_nil) all_nil ?_
      refine pl_t (R := []) hF rfl rfl (yC fun M Z hN hZ => y_neq hF rfl rfl) rfl rfl (fun a hF => ?_)
      refine pl_t (R := []) hF rfl rfl (yC fun M Z hN hZ => y_move hF rfl) rfl rfl (fun a hF => ?_)
      rcases Bool.eq_false_or_eq_true (decide (x43 ≠ x44)) with hb | hb
      ·
       have H := iteT (of_decide_eq_true hb) H
       rw [hb] at hF
       clear hb
       iterate 5 refine pl_skip hF rfl (wanted_n hF rfl rfl rfl rfl rfl) rfl rfl rfl (fun a hF => ?_)
       refine pl_f rfl ?_
       refine lsn hF rfl rfl rfl rfl rfl rfl rfl (fun a hF => ?_)
       refine pl_next (N2 := []) (NZ2 := []) (N3 := [(some 31, b2, [.int .i64 ((x20, x21, x22).1), .int .i64 ((x20, x21, x22).2.1), v10])]) (NZ3 := []) hW rfl rfl (all_cons (fun _ => (.head _)) all_nil) all_nil ?_
       refine pl_skip hF rfl (wanted_n hF rfl rfl rfl rfl rfl) rfl rfl rfl (fun a hF => ?_)
       refine pl_t (R := []) hF rfl rfl (yC fun M Z hN hZ => y_pick_t hF rfl rfl rfl) rfl rfl (fun a hF => ?_)
       refine pl_t (R := []) hF rfl rfl (yC fun M Z hN hZ => y_move hF rfl) rfl rfl (fun a hF => ?_)
       iterate 6 refine pl_skip hF rfl (wanted_n hF rfl rfl rfl rfl rfl) rfl rfl rfl (fun a hF => ?_)
       refine pl_f rfl ?_
       refine lsn hF rfl rfl rfl rfl rfl rfl rfl (fun a hF => ?_)
       refine pl_next (N2 := []) (NZ2 := []) (N3 := [(some 31, b2, [.int .i64 ((x20, x21, x22).1), .int .i64 ((x20, x21, x22).2.1), v10])]) (NZ3 := []) hW rfl rfl (all_cons (fun h => rel_dead (by kernel_rfl) h) all_nil) all_nil ?_
       refine pl_skip hF rfl (wanted_n hF rfl rfl rfl rfl rfl) rfl rfl rfl (fun a hF => ?_)
       iterate 12 refine pl_skip hF rfl (wanted_undef hF rfl rfl rfl rfl) rfl rfl rfl (fun a hF => ?_)
       refine pl_f rfl ?_
       refine lsu hF rfl rfl rfl rfl rfl rfl (fun a hF => ?_)
       refine pl_next (N2 := []) (NZ2 := []) (N3 := [(some 31, b2, [.int .i64 ((x20, x21, x22).1), .int .i64 ((x20, x21, x22).2.1), v10])]) (NZ3 := []) hW rfl rfl (all_cons (fun h => rel_dead (by kernel_rfl) h) all_nil) all_nil ?_
       refine pl_f rfl ?_
       refine lsu hF rfl rfl rfl rfl rfl rfl (fun a hF => ?_)
       refine pl_next (N2 := []) (NZ2 := []) (N3 := [(some 31, b2, [.int .i64 ((x20, x21, x22).1), .int .i64 ((x20, x21, x22).2.1), v10])]) (NZ3 := []) hW rfl rfl (all_cons (fun h => rel_dead (by kernel_rfl) h) all_nil) all_nil ?_
       refine pl_skip hF rfl (wanted_undef hF rfl rfl rfl rfl) rfl rfl rfl (fun a hF => ?_)
       refine pl_skip hF rfl (wanted_n hF rfl rfl rfl rfl rfl) rfl rfl rfl (fun a hF => ?_)
       refine pl_t (R := []) hF rfl rfl (yC fun M Z hN hZ => y_pick_t hF rfl rfl rfl) rfl rfl (fun a hF => ?_)
       refine pl_t (R := []) hF rfl rfl (yC fun M Z hN hZ => y_move hF rfl) rfl rfl (fun a hF => ?_)
       iterate 6 refine pl_skip hF rfl (wanted_n hF rfl rfl rfl rfl rfl) rfl rfl rfl (fun a hF => ?_)
       refine pl_f rfl ?_
       refine lsn hF rfl rfl rfl rfl rfl rfl rfl (fun a hF => ?_)
       refine pl_next (N2 := []) (NZ2 := []) (N3 := [(some 31, b2, [.int .i64 ((x20, x21, x22).1), .int .i64 ((x20, x21, x22).2.1), v10])]) (NZ3 := []) hW rfl rfl (all_cons (fun h => rel_dead (by kernel_rfl) h) all_nil) all_nil ?_
       iterate 2 refine pl_skip hF rfl (wanted_n hF rfl rfl rfl rfl rfl) rfl rfl rfl (fun a hF => ?_)
       iterate 6 refine pl_skip hF rfl (wanted_undef hF rfl rfl rfl rfl) rfl rfl rfl (fun a hF => ?_)
       refine pl_f rfl ?_
       refine lsu hF rfl rfl rfl rfl rfl rfl (fun a hF => ?_)
       refine pl_next (N2 := []) (NZ2 := []) (N3 := [(some 31, b2, [.int .i64 ((x20, x21, x22).1), .int .i64 ((x20, x21, x22).2.1), v10])]) (NZ3 := []) hW rfl rfl (all_cons (fun h => rel_dead (by kernel_rfl) h) all_nil) all_nil ?_
       refine pl_skip hF rfl (wanted_undef hF rfl rfl rfl rfl) rfl rfl rfl (fun a hF => ?_)
       refine pl_skip hF rfl (wanted_n hF rfl rfl rfl rfl rfl) rfl rfl rfl (fun a hF => ?_)
       refine pl_t (R := []) hF rfl rfl (yC fun M Z hN hZ => y_pick_t hF rfl rfl rfl) rfl rfl (fun a hF => ?_)
       refine pl_end ?_
       refine c_then ?_
       have hW := hW.frontZ (i := 1) rfl rfl
       have hW := hW.frontZ (i := 1) rfl rfl
       have hW := hW.frontM (i := 1) rfl rfl
       have hW := hW.frontM (i := 1) rfl rfl
       exact ⟨_, _, ⟨g_x22.1, g_x22.2⟩, H, hF.re ⟨rfl, rfl, rfl, rfl, rfl, rfl, rfl, trivial⟩, hW⟩
      ·
       have H := iteF (of_decide_eq_false hb) H
       rw [hb] at hF
       clear hb
       iterate 2 refine pl_w (R := []) hF rfl (wanted_y hF rfl rfl rfl rfl) rfl rfl (yC fun M Z hN hZ => y_move hF rfl) rfl rfl (fun a hF => ?_)
       refine pl_w (R := []) hF rfl (wanted_y hF rfl rfl rfl rfl) rfl rfl (yC fun M Z hN hZ => y_nilCheck hF rfl) rfl rfl (fun a hF => ?_)
       refine pl_w (R := []) hF rfl (wanted_y hF rfl rfl rfl rfl) rfl rfl (yC fun M Z hN hZ => y_fieldAddr u40_ rfl rfl rfl T3 hF rfl 0 rfl) rfl rfl (fun a hF => ?_)
       refine pl_w (R := [31, 24, 23, 22]) hF rfl (wanted_y hF rfl rfl rfl rfl) rfl rfl (yC fun M Z hN hZ => y_load_m (cs := [.int .i64 ((x20, x21, x22).1), .int .i64 ((x20, x21, x22).2.1), v10]) (v := Value.int .i64 ((x20, x21, x22).1)) hF rfl (hN ((some 31), b2, [.int .i64 ((x20, x21, x22).1), .int .i64 ((x20, x21, x22).2.1), v10]) (.head _) rfl) T3 rfl) (by kernel_rfl) rfl (fun a hF => ?_)
       refine pl_f rfl ?_
       refine ls_g (wanted_y hF rfl rfl rfl rfl) ?_
       refine ls hF hW rfl (y_call (v := Value.int .i64 (clock_Clocks_Real (x23, x24, x25))) hF H16 rfl (fun w hW => clock_Clocks_Real_c any w b1 (v11) (x23, x24, x25) _ rfl (((rdc_row 1 rfl) : Rdc _ _ _ _ _ _) w hW).nx (at_M hW 1 rfl))) (fun a w hF hW => ?_)
       refine pl_next (N2 := []) (NZ2 := []) (N3 := [(some 31, b2, [.int .i64 ((x20, x21, x22).1), .int .i64 ((x20, x21, x22).2.1), v10])]) (NZ3 := []) hW rfl rfl (all_cons (fun _ => (.head _)) all_nil) all_nil ?_
       refine pl_w (R := []) hF rfl (wanted_y hF rfl rfl rfl rfl) rfl rfl (yC fun M Z hN hZ => y_neq hF rfl rfl) rfl rfl (fun a hF => ?_)
       refine pl_t (R := []) hF rfl rfl (yC fun M Z hN hZ => y_pick_f hF rfl rfl rfl) rfl rfl (fun a hF => ?_)
       refine pl_t (R := []) hF rfl rfl (yC fun M Z hN hZ => y_move hF rfl) rfl rfl (fun a hF => ?_)
       rcases Bool.eq_false_or_eq_true (decide ((clock_Clocks_Real (x23, x24, x25)) ≠ ((x20, x21, x22).1))) with hb | hb
       ·
        have H := iteT (of_decide_eq_true hb) H
        rw [hb] at hF
        clear hb
        iterate 6 refine pl_skip hF rfl (wanted_n hF rfl rfl rfl rfl rfl) rfl rfl rfl (fun a hF => ?_)
        refine pl_f rfl ?_
        refine lsn hF rfl rfl rfl rfl rfl rfl rfl (fun a hF => ?_)
        refine pl_next (N2 := []) (NZ2 := []) (N3 := [(some 31, b2, [.int .i64 ((x20, x21, x22).1), .int .i64 ((x20, x21, x22).2.1), v10])]) (NZ3 := []) hW rfl rfl (all_cons (fun h => rel_dead (by kernel_rfl) h) all_nil) all_nil ?_
        refine pl_skip hF rfl (wanted_n hF rfl rfl rfl rfl rfl) rfl rfl rfl (fun a hF => ?_)
        iterate 12 refine pl_skip hF rfl (wanted_undef hF rfl rfl rfl rfl) rfl rfl rfl (fun a hF => ?_)
        refine pl_f rfl ?_
        refine lsu hF rfl rfl rfl rfl rfl rfl (fun a hF => ?_)
        refine pl_next (N2 := []) (NZ2 := []) (N3 := [(some 31, b2, [.int .i64 ((x20, x21, x22).1), .int .i64 ((x20, x21, x22).2.1), v10])]) (NZ3 := []) hW rfl rfl (all_cons (fun h => rel_dead (by kernel_rfl) h) all_nil) all_nil ?_
        refine pl_f rfl ?_
        refine lsu hF rfl rfl rfl rfl rfl rfl (fun a hF => ?_)
        refine pl_next (N2 := []) (NZ2 := []) (N3 := [(some 31, b2, [.int .i64 ((x20, x21, x22).1), .int .i64 ((x20, x21, x22).2.1), v10])]) (NZ3 := []) hW rfl rfl (all_cons (fun h => rel_dead (by kernel_rfl) h) all_nil) all_nil ?_
        refine pl_skip hF rfl (wanted_undef hF rfl rfl rfl rfl) rfl rfl rfl (fun a hF => ?_)
        refine pl_skip hF rfl (wanted_n hF rfl rfl rfl rfl rfl) rfl rfl rfl (fun a hF => ?_)
        refine pl_t (R := []) hF rfl rfl (yC fun M Z hN hZ => y_pick_t hF rfl rfl rfl) rfl rfl (fun a hF => ?_)
        refine pl_t (R := []) hF rfl rfl (yC fun M Z hN hZ => y_move hF rfl) rfl rfl (fun a hF => ?_)
        iterate 6 refine pl_skip hF rfl (wanted_n hF rfl rfl rfl rfl rfl) rfl rfl rfl (fun a hF => ?_)
        refine pl_f rfl ?_
        refine lsn hF rfl rfl rfl rfl rfl rfl rfl (fun a hF => ?_)
        refine pl_next (N2 := []) (NZ2 := []) (N3 := [(some 31, b2, [.int .i64 ((x20, x21, x22).1), .int .i64 ((x20, x21, x22).2.1), v10])]) (NZ3 := []) hW rfl rfl (all_cons (fun h => rel_dead (by kernel_rfl) h) all_nil) all_nil ?_
        iterate 2 refine pl_skip hF rfl (wanted_n hF rfl rfl rfl rfl rfl) rfl rfl rfl (fun a hF => ?_)
        iterate 6 refine pl_skip hF rfl (wanted_undef hF rfl rfl rfl rfl) rfl rfl rfl (fun a hF => ?_)
        refine pl_f rfl ?_
        refine lsu hF rfl rfl rfl rfl rfl rfl (fun a hF => ?_)
        refine pl_next (N2 := []) (NZ2 := []) (N3 := [(some 31, b2, [.int .i64 ((x20, x21, x22).1), .int .i64 ((x20, x21, x22).2.1), v10])]) (NZ3 := []) hW rfl rfl (all_cons (fun h => rel_dead (by kernel_rfl) h) all_nil) all_nil ?_
        refine pl_skip hF rfl (wanted_undef hF rfl rfl rfl rfl) rfl rfl rfl (fun a hF => ?_)
        refine pl_skip hF rfl (wanted_n hF rfl rfl rfl rfl rfl) rfl rfl rfl (fun a hF => ?_)
        refine pl_t (R := []) hF rfl rfl (yC fun M Z hN hZ => y_pick_t hF rfl rfl rfl) rfl rfl (fun a hF => ?_)
        refine pl_end ?_
        refine c_then ?_
        have hW := hW.frontZ (i := 1) rfl rfl
        have hW := hW.frontZ (i := 1) rfl rfl
        have hW := hW.frontM (i := 1) rfl rfl
        have hW := hW.frontM (i := 1) rfl rfl
        exact ⟨_, _, ⟨g_x22.1, g_x22.2⟩, H, hF.re ⟨rfl, rfl, rfl, rfl, rfl, rfl, rfl, trivial⟩, hW⟩
       ·
        have H := iteF (of_decide_eq_false hb) H
        rw [hb] at hF
        clear hb
        iterate 3 refine pl_w (R := []) hF rfl (wanted_y hF rfl rfl rfl rfl) rfl rfl (yC fun M Z hN hZ => y_move hF rfl) rfl rfl (fun a hF => ?_)
        obtain ⟨x45, h18, H⟩ := bindE H
        refine pl_w (R := []) hF rfl (wanted_y hF rfl rfl rfl rfl) rfl rfl (yC fun M Z hN hZ => y_index (r := R32) L23 hF rfl rfl (rdc_ro h_v2) h18) rfl rfl (fun a hF => ?_)
        refine pl_w (R := []) hF rfl (wanted_y hF rfl rfl rfl rfl) rfl rfl (yC fun M Z hN hZ => y_fieldAddr u32_ rfl rfl rfl T3 hF rfl (voff v2 + (x13).toNat * 3 + 1) rfl) rfl rfl (fun a hF => ?_)
        refine pl_w (R := []) hF rfl (wanted_y hF rfl rfl rfl rfl) rfl rfl (yC fun M Z hN hZ => y_load_el (y := Value.int .i64 x45.2.1) (j := 1) (i := x13) hF rfl rfl (rdc_ro h_v2) h18 F32.to T3 rfl) rfl rfl (fun a hF => ?_)
        refine pl_f rfl ?_
        refine ls_g (wanted_y hF rfl rfl rfl rfl) ?_
        refine l_callG (Ml := [(b2, [.int .i64 ((x20, x21, x22).1), .int .i64 ((x20, x21, x22).2.1), v10])]) (Zl := [drow v10 53 DP53 g_x22.1]) (M := [(b1, [.int .i64 x23, .int .i64 x24, v11])]) (Z := [row v11 50 R50 x25]) (β := Unit) (rv := fun x => .bool (r14_Clocks_Is (x20, x21, x22) x45.2.1)) (MM := fun x => [(b2, [.int .i64 ((x20, x21, x22).1), .int .i64 ((x20, x21, x22).2.1), v10])]) (ZZ := fun x => [drow v10 53 DP53 g_x22.1]) hF hW H17 rfl rfl (fun hL => r14_Clocks_Is_c _ _ w b2 (v10) (x20, x21, x22) x45.2.1 ⟨g_x22.1, g_x22.2⟩ _ rfl hL) (fun x a w hF hW => ?_)
        have hW : Stw ⟨Y, [], w0⟩ [(b2, [.int .i64 ((x20, x21, x22).1), .int .i64 ((x20, x21, x22).2.1), v10]), (b1, [.int .i64 x23, .int .i64 x24, v11])] [drow v10 53 DP53 g_x22.1, row v11 50 R50 x25] w := hW
        refine pl_next (N2 := []) (NZ2 := []) (N3 := [(some 31, b2, [.int .i64 ((x20, x21, x22).1), .int .i64 ((x20, x21, x22).2.1), v10])]) (NZ3 := []) hW rfl rfl (all_cons (fun h => rel_dead (by kernel_rfl) h) all_nil) all_nil ?_
        refine pl_w (R := []) hF rfl (wanted_y hF rfl rfl rfl rfl) rfl rfl (yC fun M Z hN hZ => y_move hF rfl) rfl rfl (fun a hF => ?_)
        rcases Bool.eq_false_or_eq_true (r14_Clocks_Is (x20, x21, x22) x45.2.1) with hb | hb
        ·
         have H := iteT hb H
         rw [hb] at hF
         clear hb
         iterate 3 refine pl_w (R := []) hF rfl (wanted_y hF rfl rfl rfl rfl) rfl rfl (yC fun M Z hN hZ => y_move hF rfl) rfl rfl (fun a hF => ?_)
         obtain ⟨x46, h19, H⟩ := bindE H
         refine pl_w (R := []) hF rfl (wanted_y hF rfl rfl rfl rfl) rfl rfl (yC fun M Z hN hZ => y_index (r := R32) L23 hF rfl rfl (rdc_ro h_v2) h19) rfl rfl (fun a hF => ?_)
         refine pl_w (R := []) hF rfl (wanted_y hF rfl rfl rfl rfl) rfl rfl (yC fun M Z hN hZ => y_fieldAddr u32_ rfl rfl rfl T3 hF rfl (voff v2 + (x13).toNat * 3 + 1) rfl) rfl rfl (fun a hF => ?_)
         refine pl_w (R := []) hF rfl (wanted_y hF rfl rfl rfl rfl) rfl rfl (yC fun M Z hN hZ => y_load_el (y := Value.int .i64 x46.2.1) (j := 1) (i := x13) hF rfl rfl (rdc_ro h_v2) h19 F32.to T3 rfl) rfl rfl (fun a hF => ?_)
         iterate 3 refine pl_w (R := []) hF rfl (wanted_y hF rfl rfl rfl rfl) rfl rfl (yC fun M Z hN hZ => y_move hF rfl) rfl rfl (fun a hF => ?_)
         obtain ⟨x47, h20, H⟩ := bindE H
         refine pl_w (R := []) hF rfl (wanted_y hF rfl rfl rfl rfl) rfl rfl (yC fun M Z hN hZ => y_index (r := R32) L23 hF rfl rfl (rdc_ro h_v2) h20) rfl rfl (fun a hF => ?_)
         refine pl_w (R := []) hF rfl (wanted_y hF rfl rfl rfl rfl) rfl rfl (yC fun M Z hN hZ => y_fieldAddr u32_ rfl rfl rfl T3 hF rfl (voff v2 + (x13).toNat * 3 + 1) rfl) rfl rfl (fun a hF => ?_)
         refine pl_w (R := []) hF rfl (wanted_y hF rfl rfl rfl rfl) rfl rfl (yC fun M Z hN hZ => y_load_el (y := Value.int .i64 x47.2.1) (j := 1) (i := x13) hF rfl rfl (rdc_ro h_v2) h20 F32.to T3 rfl) rfl rfl (fun a hF => ?_)
         refine pl_f rfl ?_
         refine ls_g (wanted_y hF rfl rfl rfl rfl) ?_
         obtain ⟨x48, h21, H⟩ := bindE H
         refine ls hF hW rfl (y_call (v := Value.int .i64 x48) hF H18 rfl (fun w hW => clock_Clocks_Apart_c any w b1 (v11) (x23, x24, x25) x46.2.1 _ h21 (((rdc_row 1 rfl) : Rdc _ _ _ _ _ _) w hW).nx (at_M hW 1 rfl))) (fun a w hF hW => ?_)
         refine pl_next (N2 := []) (NZ2 := []) (N3 := [(some 31, b2, [.int .i64 ((x20, x21, x22).1), .int .i64 ((x20, x21, x22).2.1), v10])]) (NZ3 := []) hW rfl rfl (all_cons (fun h => rel_dead (by kernel_rfl) h) all_nil) all_nil ?_
         refine pl_f rfl ?_
         refine ls_g (wanted_y hF rfl rfl rfl rfl) ?_
         obtain ⟨x49, h22, H⟩ := bindE H
         refine l_callG (Ml := [(b2, [.int .i64 ((x20, x21, x22).1), .int .i64 ((x20, x21, x22).2.1), v10])]) (Zl := [drow v10 53 DP53 g_x22.1]) (M := [(b1, [.int .i64 x23, .int .i64 x24, v11])]) (Z := [row v11 50 R50 x25]) (β := Unit) (rv := fun x => .int .i64 x49) (MM := fun x => [(b2, [.int .i64 ((x20, x21, x22).1), .int .i64 ((x20, x21, x22).2.1), v10])]) (ZZ := fun x => [drow v10 53 DP53 g_x22.1]) hF hW H19 rfl rfl (fun hL => r14_Clocks_Apart_c _ _ w b2 (v10) (x20, x21, x22) x47.2.1 ⟨g_x22.1, g_x22.2⟩ _ h22 hL) (fun x a w hF hW => ?_)
         have hW : Stw ⟨Y, [], w0⟩ [(b2, [.int .i64 ((x20, x21, x22).1), .int .i64 ((x20, x21, x22).2.1), v10]), (b1, [.int .i64 x23, .int .i64 x24, v11])] [drow v10 53 DP53 g_x22.1, row v11 50 R50 x25] w := hW
         refine pl_next (N2 := []) (NZ2 := []) (N3 := [(some 31, b2, [.int .i64 ((x20, x21, x22).1), .int .i64 ((x20, x21, x22).2.1), v10])]) (NZ3 := []) hW rfl rfl (all_cons (fun h => rel_dead (by kernel_rfl) h) all_nil) all_nil ?_
         refine pl_w (R := []) hF rfl (wanted_y hF rfl rfl rfl rfl) rfl rfl (yC fun M Z hN hZ => y_neq hF rfl rfl) rfl rfl (fun a hF => ?_)
         refine pl_w (R := []) hF rfl (wanted_y hF rfl rfl rfl rfl) rfl rfl (yC fun M Z hN hZ => y_pick_t hF rfl rfl rfl) rfl rfl (fun a hF => ?_)
         refine pl_t (R := []) hF rfl rfl (yC fun M Z hN hZ => y_pick_f hF rfl rfl rfl) rfl rfl (fun a hF => ?_)
         refine pl_t (R := []) hF rfl rfl (yC fun M Z hN hZ => y_move hF rfl) rfl rfl (fun a hF => ?_)
         rcases Bool.eq_false_or_eq_true (decide (x48 ≠ x49)) with hb | hb
         ·
          have H := iteT (of_decide_eq_true hb) H
          rw [hb] at hF
          clear hb
          iterate 6 refine pl_skip hF rfl (wanted_n hF rfl rfl rfl rfl rfl) rfl rfl rfl (fun a hF => ?_)
          refine pl_f rfl ?_
          refine lsn hF rfl rfl rfl rfl rfl rfl rfl (fun a hF => ?_)
          refine pl_next (N2 := []) (NZ2 := []) (N3 := [(some 31, b2, [.int .i64 ((x20, x21, x22).1), .int .i64 ((x20, x21, x22).2.1), v10])]) (NZ3 := []) hW rfl rfl (all_cons (fun h => rel_dead (by kernel_rfl) h) all_nil) all_nil ?_
          iterate 2 refine pl_skip hF rfl (wanted_n hF rfl rfl rfl rfl rfl) rfl rfl rfl (fun a hF => ?_)
          iterate 6 refine pl_skip hF rfl (wanted_undef hF rfl rfl rfl rfl) rfl rfl rfl (fun a hF => ?_)
          refine pl_f rfl ?_
          refine lsu hF rfl rfl rfl rfl rfl rfl (fun a hF => ?_)
          refine pl_next (N2 := []) (NZ2 := []) (N3 := [(some 31, b2, [.int .i64 ((x20, x21, x22).1), .int .i64 ((x20, x21, x22).2.1), v10])]) (NZ3 := []) hW rfl rfl (all_cons (fun h => rel_dead (by kernel_rfl) h) all_nil) all_nil ?_
          refine pl_skip hF rfl (wanted_undef hF rfl rfl rfl rfl) rfl rfl rfl (fun a hF => ?_)
          refine pl_skip hF rfl (wanted_n hF rfl rfl rfl rfl rfl) rfl rfl rfl (fun a hF => ?_)
          refine pl_t (R := []) hF rfl rfl (yC fun M Z hN hZ => y_pick_t hF rfl rfl rfl) rfl rfl (fun a hF => ?_)
          refine pl_end ?_
          refine c_then ?_
          have hW := hW.frontZ (i := 1) rfl rfl
          have hW := hW.frontZ (i := 1) rfl rfl
          have hW := hW.frontM (i := 1) rfl rfl
          have hW := hW.frontM (i := 1) rfl rfl
          exact ⟨_, _, ⟨g_x22.1, g_x22.2⟩, H, hF.re ⟨rfl, rfl, rfl, rfl, rfl, rfl, rfl, trivial⟩, hW⟩
         ·
          have H := iteF (of_decide_eq_false hb) H
          rw [hb] at hF
          clear hb
          iterate 3 refine pl_w (R := []) hF rfl (wanted_y hF rfl rfl rfl rfl) rfl rfl (yC fun M Z hN hZ => y_move hF rfl) rfl rfl (fun a hF => ?_)
          obtain ⟨x50, h23, H⟩ := bindE H
          refine pl_w (R := []) hF rfl (wanted_y hF rfl rfl rfl rfl) rfl rfl (yC fun M Z hN hZ => y_index (r := R32) L23 hF rfl rfl (rdc_ro h_v2) h23) rfl rfl (fun a hF => ?_)
          refine pl_w (R := []) hF rfl (wanted_y hF rfl rfl rfl rfl) rfl rfl (yC fun M Z hN hZ => y_fieldAddr u32_ rfl rfl rfl T3 hF rfl (voff v2 + (x13).toNat * 3 + 1) rfl) rfl rfl (fun a hF => ?_)
          refine pl_w (R := []) hF rfl (wanted_y hF rfl rfl rfl rfl) rfl rfl (yC fun M Z hN hZ => y_load_el (y := Value.int .i64 x50.2.1) (j := 1) (i := x13) hF rfl rfl (rdc_ro h_v2) h23 F32.to T3 rfl) rfl rfl (fun a hF => ?_)
          refine pl_f rfl ?_
          refine ls_g (wanted_y hF rfl rfl rfl rfl) ?_
          refine l_callG (Ml := [(b2, [.int .i64 ((x20, x21, x22).1), .int .i64 ((x20, x21, x22).2.1), v10])]) (Zl := [drow v10 53 DP53 g_x22.1]) (M := [(b1, [.int .i64 x23, .int .i64 x24, v11])]) (Z := [row v11 50 R50 x25]) (β := Unit) (rv := fun x => .bool (r14_Clocks_Is (x20, x21, x22) x50.2.1)) (MM := fun x => [(b2, [.int .i64 ((x20, x21, x22).1), .int .i64 ((x20, x21, x22).2.1), v10])]) (ZZ := fun x => [drow v10 53 DP53 g_x22.1]) hF hW H17 rfl rfl (fun hL => r14_Clocks_Is_c _ _ w b2 (v10) (x20, x21, x22) x50.2.1 ⟨g_x22.1, g_x22.2⟩ _ rfl hL) (fun x a w hF hW => ?_)
          have hW : Stw ⟨Y, [], w0⟩ [(b2, [.int .i64 ((x20, x21, x22).1), .int .i64 ((x20, x21, x22).2.1), v10]), (b1, [.int .i64 x23, .int .i64 x24, v11])] [drow v10 53 DP53 g_x22.1, row v11 50 R50 x25] w := hW
          refine pl_next (N2 := []) (NZ2 := []) (N3 := [(some 31, b2, [.int .i64 ((x20, x21, x22).1), .int .i64 ((x20, x21, x22).2.1), v10])]) (NZ3 := []) hW rfl rfl (all_cons (fun h => rel_dead (by kernel_rfl) h) all_nil) all_nil ?_
          refine pl_w (R := []) hF rfl (wanted_y hF rfl rfl rfl rfl) rfl rfl (yC fun M Z hN hZ => y_not hF rfl) rfl rfl (fun a hF => ?_)
          refine pl_w (R := []) hF rfl (wanted_y hF rfl rfl rfl rfl) rfl rfl (yC fun M Z hN hZ => y_move hF rfl) rfl rfl (fun a hF => ?_)
          rcases Bool.eq_false_or_eq_true (!(r14_Clocks_Is (x20, x21, x22) x50.2.1)) with hb | hb
          ·
           have H := iteT hb H
           rw [hb] at hF
           clear hb
           iterate 3 refine pl_w (R := []) hF rfl (wanted_y hF rfl rfl rfl rfl) rfl rfl (yC fun M Z hN hZ => y_move hF rfl) rfl rfl (fun a hF => ?_)
           obtain ⟨x51, h24, H⟩ := bindE H
           refine pl_w (R := []) hF rfl (wanted_y hF rfl rfl rfl rfl) rfl rfl (yC fun M Z hN hZ => y_index (r := R32) L23 hF rfl rfl (rdc_ro h_v2) h24) rfl rfl (fun a hF => ?_)
           refine pl_w (R := []) hF rfl (wanted_y hF rfl rfl rfl rfl) rfl rfl (yC fun M Z hN hZ => y_fieldAddr u32_ rfl rfl rfl T3 hF rfl (voff v2 + (x13).toNat * 3 + 1) rfl) rfl rfl (fun a hF => ?_)
           refine pl_w (R := []) hF rfl (wanted_y hF rfl rfl rfl rfl) rfl rfl (yC fun M Z hN hZ => y_load_el (y := Value.int .i64 x51.2.1) (j := 1) (i := x13) hF rfl rfl (rdc_ro h_v2) h24 F32.to T3 rfl) rfl rfl (fun a hF => ?_)
           refine pl_f rfl ?_
           refine ls_g (wanted_y hF rfl rfl rfl rfl) ?_
           obtain ⟨x52, h25, H⟩ := bindE H
           refine ls hF hW rfl (y_call (v := Value.int .i64 x52) hF H18 rfl (fun w hW => clock_Clocks_Apart_c any w b1 (v11) (x23, x24, x25) x51.2.1 _ h25 (((rdc_row 1 rfl) : Rdc _ _ _ _ _ _) w hW).nx (at_M hW 1 rfl))) (fun a w hF hW => ?_)
           refine pl_next (N2 := []) (NZ2 := []) (N3 := [(some 31, b2, [.int .i64 ((x20, x21, x22).1), .int .i64 ((x20, x21, x22).2.1), v10])]) (NZ3 := []) hW rfl rfl (all_cons (fun h => rel_dead (by kernel_rfl) h) all_nil) all_nil ?_
           refine pl_w (R := []) hF rfl (wanted_y hF rfl rfl rfl rfl) rfl rfl (yC fun M Z hN hZ => y_neq hF rfl rfl) rfl rfl (fun a hF => ?_)
           refine pl_w (R := []) hF rfl (wanted_y hF rfl rfl rfl rfl) rfl rfl (yC fun M Z hN hZ => y_pick_t hF rfl rfl rfl) rfl rfl (fun a hF => ?_)
           refine pl_t (R := []) hF rfl rfl (yC fun M Z hN hZ => y_pick_f hF rfl rfl rfl) rfl rfl (fun a hF => ?_)
           refine pl_end ?_
           refine c_then ?_
           have hW := hW.frontZ (i := 1) rfl rfl
           have hW := hW.frontZ (i := 1) rfl rfl
           have hW := hW.frontM (i := 1) rfl rfl
           have hW := hW.frontM (i := 1) rfl rfl
           exact ⟨_, _, ⟨g_x22.1, g_x22.2⟩, H, hF.re ⟨rfl, rfl, rfl, rfl, rfl, rfl, rfl, trivial⟩, hW⟩
          ·
           have H := iteF (by rw [hb]; decide) H
           rw [hb] at hF
           clear hb
           iterate 6 refine pl_skip hF rfl (wanted_n hF rfl rfl rfl rfl rfl) rfl rfl rfl (fun a hF => ?_)
           refine pl_f rfl ?_
           refine lsn hF rfl rfl rfl rfl rfl rfl rfl (fun a hF => ?_)
           refine pl_next (N2 := []) (NZ2 := []) (N3 := [(some 31, b2, [.int .i64 ((x20, x21, x22).1), .int .i64 ((x20, x21, x22).2.1), v10])]) (NZ3 := []) hW rfl rfl (all_cons (fun h => rel_dead (by kernel_rfl) h) all_nil) all_nil ?_
           refine pl_skip hF rfl (wanted_n hF rfl rfl rfl rfl rfl) rfl rfl rfl (fun a hF => ?_)
           refine pl_w (R := []) hF rfl (wanted_y hF rfl rfl rfl rfl) rfl rfl (yC fun M Z hN hZ => y_pick_f hF rfl rfl rfl) rfl rfl (fun a hF => ?_)
           refine pl_t (R := []) hF rfl rfl (yC fun M Z hN hZ => y_pick_f hF rfl rfl rfl) rfl rfl (fun a hF => ?_)
           refine pl_end ?_
           refine c_then ?_
           have hW := hW.frontZ (i := 1) rfl rfl
           have hW := hW.frontZ (i := 1) rfl rfl
           have hW := hW.frontM (i := 1) rfl rfl
           have hW := hW.frontM (i := 1) rfl rfl
           exact ⟨_, _, ⟨g_x22.1, g_x22.2⟩, H, hF.re ⟨rfl, rfl, rfl, rfl, rfl, rfl, rfl, trivial⟩, hW⟩
        ·
         have H := iteF (by rw [hb]; decide) H
         rw [hb] at hF
         clear hb
         iterate 12 refine pl_skip hF rfl (wanted_n hF rfl rfl rfl rfl rfl) rfl rfl rfl (fun a hF => ?_)
         refine pl_f rfl ?_
         refine lsn hF rfl rfl rfl rfl rfl rfl rfl (fun a hF => ?_)
         refine pl_next (N2 := []) (NZ2 := []) (N3 := [(some 31, b2, [.int .i64 ((x20, x21, x22).1), .int .i64 ((x20, x21, x22).2.1), v10])]) (NZ3 := []) hW rfl rfl (all_cons (fun h => rel_dead (by kernel_rfl) h) all_nil) all_nil ?_
         refine pl_f rfl ?_
         refine lsn hF rfl rfl rfl rfl rfl rfl rfl (fun a hF => ?_)
         refine pl_next (N2 := []) (NZ2 := []) (N3 := [(some 31, b2, [.int .i64 ((x20, x21, x22).1), .int .i64 ((x20, x21, x22).2.1), v10])]) (NZ3 := []) hW rfl rfl (all_cons (fun h => rel_dead (by kernel_rfl) h) all_nil) all_nil ?_
         refine pl_skip hF rfl (wanted_n hF rfl rfl rfl rfl rfl) rfl rfl rfl (fun a hF => ?_)
         refine pl_w (R := []) hF rfl (wanted_y hF rfl rfl rfl rfl) rfl rfl (yC fun M Z hN hZ => y_pick_f hF rfl rfl rfl) rfl rfl (fun a hF => ?_)
         refine pl_t (R := []) hF rfl rfl (yC fun M Z hN hZ => y_pick_f hF rfl rfl rfl) rfl rfl (fun a hF => ?_)
         refine pl_t (R := []) hF rfl rfl (yC fun M Z hN hZ => y_move hF rfl) rfl rfl (fun a hF => ?_)
         iterate 3 refine pl_w (R := []) hF rfl (wanted_y hF rfl rfl rfl rfl) rfl rfl (yC fun M Z hN hZ => y_move hF rfl) rfl rfl (fun a hF => ?_)
         obtain ⟨x53, h26, H⟩ := bindE H
         refine pl_w (R := []) hF rfl (wanted_y hF rfl rfl rfl rfl) rfl rfl (yC fun M Z hN hZ => y_index (r := R32) L23 hF rfl rfl (rdc_ro h_v2) h26) rfl rfl (fun a hF => ?_)
         refine pl_w (R := []) hF rfl (wanted_y hF rfl rfl rfl rfl) rfl rfl (yC fun M Z hN hZ => y_fieldAddr u32_ rfl rfl rfl T3 hF rfl (voff v2 + (x13).toNat * 3 + 1) rfl) rfl rfl (fun a hF => ?_)
         refine pl_w (R := []) hF rfl (wanted_y hF rfl rfl rfl rfl) rfl rfl (yC fun M Z hN hZ => y_load_el (y := Value.int .i64 x53.2.1) (j := 1) (i := x13) hF rfl rfl (rdc_ro h_v2) h26 F32.to T3 rfl) rfl rfl (fun a hF => ?_)
         refine pl_f rfl ?_
         refine ls_g (wanted_y hF rfl rfl rfl rfl) ?_
         refine l_callG (Ml := [(b2, [.int .i64 ((x20, x21, x22).1), .int .i64 ((x20, x21, x22).2.1), v10])]) (Zl := [drow v10 53 DP53 g_x22.1]) (M := [(b1, [.int .i64 x23, .int .i64 x24, v11])]) (Z := [row v11 50 R50 x25]) (β := Unit) (rv := fun x => .bool (r14_Clocks_Is (x20, x21, x22) x53.2.1)) (MM := fun x => [(b2, [.int .i64 ((x20, x21, x22).1), .int .i64 ((x20, x21, x22).2.1), v10])]) (ZZ := fun x => [drow v10 53 DP53 g_x22.1]) hF hW H17 rfl rfl (fun hL => r14_Clocks_Is_c _ _ w b2 (v10) (x20, x21, x22) x53.2.1 ⟨g_x22.1, g_x22.2⟩ _ rfl hL) (fun x a w hF hW => ?_)
         have hW : Stw ⟨Y, [], w0⟩ [(b2, [.int .i64 ((x20, x21, x22).1), .int .i64 ((x20, x21, x22).2.1), v10]), (b1, [.int .i64 x23, .int .i64 x24, v11])] [drow v10 53 DP53 g_x22.1, row v11 50 R50 x25] w := hW
         refine pl_next (N2 := []) (NZ2 := []) (N3 := [(some 31, b2, [.int .i64 ((x20, x21, x22).1), .int .i64 ((x20, x21, x22).2.1), v10])]) (NZ3 := []) hW rfl rfl (all_cons (fun h => rel_dead (by kernel_rfl) h) all_nil) all_nil ?_
         refine pl_w (R := []) hF rfl (wanted_y hF rfl rfl rfl rfl) rfl rfl (yC fun M Z hN hZ => y_not hF rfl) rfl rfl (fun a hF => ?_)
         refine pl_w (R := []) hF rfl (wanted_y hF rfl rfl rfl rfl) rfl rfl (yC fun M Z hN hZ => y_move hF rfl) rfl rfl (fun a hF => ?_)
         rcases Bool.eq_false_or_eq_true (!(r14_Clocks_Is (x20, x21, x22) x53.2.1)) with hb | hb
         ·
          have H := iteT hb H
          rw [hb] at hF
          clear hb
          iterate 3 refine pl_w (R := []) hF rfl (wanted_y hF rfl rfl rfl rfl) rfl rfl (yC fun M Z hN hZ => y_move hF rfl) rfl rfl (fun a hF => ?_)
          obtain ⟨x54, h27, H⟩ := bindE H
          refine pl_w (R := []) hF rfl (wanted_y hF rfl rfl rfl rfl) rfl rfl (yC fun M Z hN hZ => y_index (r := R32) L23 hF rfl rfl (rdc_ro h_v2) h27) rfl rfl (fun a hF => ?_)
          refine pl_w (R := []) hF rfl (wanted_y hF rfl rfl rfl rfl) rfl rfl (yC fun M Z hN hZ => y_fieldAddr u32_ rfl rfl rfl T3 hF rfl (voff v2 + (x13).toNat * 3 + 1) rfl) rfl rfl (fun a hF => ?_)
          refine pl_w (R := []) hF rfl (wanted_y hF rfl rfl rfl rfl) rfl rfl (yC fun M Z hN hZ => y_load_el (y := Value.int .i64 x54.2.1) (j := 1) (i := x13) hF rfl rfl (rdc_ro h_v2) h27 F32.to T3 rfl) rfl rfl (fun a hF => ?_)
          refine pl_f rfl ?_
          refine ls_g (wanted_y hF rfl rfl rfl rfl) ?_
          obtain ⟨x55, h28, H⟩ := bindE H
          refine ls hF hW rfl (y_call (v := Value.int .i64 x55) hF H18 rfl (fun w hW => clock_Clocks_Apart_c any w b1 (v11) (x23, x24, x25) x54.2.1 _ h28 (((rdc_row 1 rfl) : Rdc _ _ _ _ _ _) w hW).nx (at_M hW 1 rfl))) (fun a w hF hW => ?_)
          refine pl_next (N2 := []) (NZ2 := []) (N3 := [(some 31, b2, [.int .i64 ((x20, x21, x22).1), .int .i64 ((x20, x21, x22).2.1), v10])]) (NZ3 := []) hW rfl rfl (all_cons (fun h => rel_dead (by kernel_rfl) h) all_nil) all_nil ?_
          refine pl_w (R := []) hF rfl (wanted_y hF rfl rfl rfl rfl) rfl rfl (yC fun M Z hN hZ => y_neq hF rfl rfl) rfl rfl (fun a hF => ?_)
          refine pl_w (R := []) hF rfl (wanted_y hF rfl rfl rfl rfl) rfl rfl (yC fun M Z hN hZ => y_pick_t hF rfl rfl rfl) rfl rfl (fun a hF => ?_)
          refine pl_t (R := []) hF rfl rfl (yC fun M Z hN hZ => y_pick_f hF rfl rfl rfl) rfl rfl (fun a hF => ?_)
          refine pl_end ?_
          refine c_then ?_
          have hW := hW.frontZ (i := 1) rfl rfl
          have hW := hW.frontZ (i := 1) rfl rfl
          have hW := hW.frontM (i := 1) rfl rfl
          have hW := hW.frontM (i := 1) rfl rfl
          exact ⟨_, _, ⟨g_x22.1, g_x22.2⟩, H, hF.re ⟨rfl, rfl, rfl, rfl, rfl, rfl, rfl, trivial⟩, hW⟩
         ·
          have H := iteF (by rw [hb]; decide) H
          rw [hb] at hF
          clear hb
          iterate 6 refine pl_skip hF rfl (wanted_n hF rfl rfl rfl rfl rfl) rfl rfl rfl (fun a hF => ?_)
          refine pl_f rfl ?_
          refine lsn hF rfl rfl rfl rfl rfl rfl rfl (fun a hF => ?_)
          refine pl_next (N2 := []) (NZ2 := []) (N3 := [(some 31, b2, [.int .i64 ((x20, x21, x22).1), .int .i64 ((x20, x21, x22).2.1), v10])]) (NZ3 := []) hW rfl rfl (all_cons (fun h => rel_dead (by kernel_rfl) h) all_nil) all_nil ?_
          refine pl_skip hF rfl (wanted_n hF rfl rfl rfl rfl rfl) rfl rfl rfl (fun a hF => ?_)
          refine pl_w (R := []) hF rfl (wanted_y hF rfl rfl rfl rfl) rfl rfl (yC fun M Z hN hZ => y_pick_f hF rfl rfl rfl) rfl rfl (fun a hF => ?_)
          refine pl_t (R := []) hF rfl rfl (yC fun M Z hN hZ => y_pick_f hF rfl rfl rfl) rfl rfl (fun a hF => ?_)
          refine pl_end ?_
          refine c_then ?_
          have hW := hW.frontZ (i := 1) rfl rfl
          have hW := hW.frontZ (i := 1) rfl rfl
          have hW := hW.frontM (i := 1) rfl rfl
          have hW := hW.frontM (i := 1) rfl rfl
          exact ⟨_, _, ⟨g_x22.1, g_x22.2⟩, H, hF.re ⟨rfl, rfl, rfl, rfl, rfl, rfl, rfl, trivial⟩, hW⟩
     rintro a w ⟨x39, x40, g_x40, hj, hF, hW⟩
     have hj := Option.some.inj hj
     subst hj
     have H := K5
     clear G5 K5
     refine c_cond hF rfl (fun hb => ?_) (fun hb => ?_)
     ·
      have H := iteT hb H
      rw [hb] at hF
      clear hb
      refine c_seq (reg_list ?_)
      refine ls hF hW rfl ((y_assign hF rfl).q) (fun a w hF hW => ?_)
      refine ls_nil (c_then ?_)
      refine wr_ret ?_
      refine r_block ?_
      iterate 2 refine r_then ?_
      refine r_block ?_
      refine r_then ?_
      have H := L2 _ H
      have H := L1 _ H
      have H := Option.some.inj H
      subst H
      refine post1 (.inl rfl) hF hW rfl (rv_tmp hF rfl) ?_
      exact ⟨rfl, hW.done⟩
     ·
      have H := iteF (by rw [hb]; decide) H
      rw [hb] at hF
      clear hb
      refine wr_skip ?_
      refine b_normal ?_
      refine c_then ?_
      refine reg_list ?_
      refine ls hF hW rfl ((y_move hF rfl).q) (fun a w hF hW => ?_)
      refine ls hF hW rfl ((y_add hF rfl rfl rfl).q) (fun a w hF hW => ?_)
      refine ls hF hW rfl ((y_assign hF rfl).q) (fun a w hF hW => ?_)
      refine ls_nil (c_then ?_)
      have hW := hW.frontZ (i := 1) rfl rfl
      have hW := hW.frontZ (i := 1) rfl rfl
      have hW := hW.frontM (i := 1) rfl rfl
      have hW := hW.frontM (i := 1) rfl rfl
      exact ⟨_, H, (v10), ⟨g_x40.1, g_x40.2⟩, (v11), hF.re ⟨rfl, rfl, rfl, rfl, rfl, rfl, trivial⟩, hW⟩
    ·
     have H := iteF (by rw [hb]; decide) H
     rw [hb] at hF
     clear hb
     refine wr_exit ?_
     iterate 2 refine e_then ?_
     refine e_block ?_
     refine c_then ?_
     have hW := hW.frontZ (i := 1) rfl rfl
     have hW := hW.frontZ (i := 1) rfl rfl
     have hW := hW.frontM (i := 1) rfl rfl
     have hW := hW.frontM (i := 1) rfl rfl
     have H := L2 _ H
     exact ⟨_, _, _, _, _, _, (v8), ⟨g_x16.1, g_x16.2⟩, (v9), H, hF.re ⟨rfl, rfl, rfl, trivial⟩, hW⟩
   rintro a w ⟨x7, x8, x9, x10, x11, x12, v6, g_x9, v7, hj, hF, hW⟩
   have H := K1 _ hj
   clear hj G1 K1 L1
   obtain ⟨o6, G6, K6⟩ := bindE H
   refine c_seqJ (fun a w => ∃ x56 : Bool, ∃ x57 : List (Int × Int × (Nat × List (Int × Int))), ∃ g_x57 : {x : List (Int × Int × (Value × Nat × List (Int × Int))) // x.map ERD53 = x57}, some ((x56, x57)) = some o6 ∧ Fr 175 [] [(6, .bool x56)] a ∧ Stw ⟨Y, [], w0⟩ [(b2, [.int .i64 x7, .int .i64 x8, v6]), (b1, [.int .i64 x10, .int .i64 x11, v7])] [drow v6 53 DP53 g_x57.1, row v7 50 R50 x12] w) ?_ ?_
   ·
    have H := G6
    clear G6 K6
    refine reg_list ?_
    iterate 2 refine ls hF hW rfl ((y_move hF rfl).q) (fun a w hF hW => ?_)
    refine ls hF hW rfl ((y_len (r := R32) (l := p2) u23_ rfl hF rfl (rdc_ro h_v2)).q) (fun a w hF hW => ?_)
    obtain ⟨x58, h29, H⟩ := bindE H
    refine ls hF hW rfl (y_call (v := Value.int .i64 x58) hF H20 rfl (fun w hW => clock_Drift_c any w p1 (p2.length : Int) _ h29)) (fun a w hF hW => ?_)
    iterate 2 refine ls hF hW rfl ((y_move hF rfl).q) (fun a w hF hW => ?_)
    refine ls hF hW rfl ((y_len (r := R32) (l := p2) u23_ rfl hF rfl (rdc_ro h_v2)).q) (fun a w hF hW => ?_)
    obtain ⟨x59, h30, H⟩ := bindE H
    refine ls hF hW rfl (y_call (v := Value.int .i64 x59) hF H21 rfl (fun w hW => r14_Drift_c any w p1 (p2.length : Int) _ h30)) (fun a w hF hW => ?_)
    refine ls hF hW rfl ((y_eql hF rfl rfl).q) (fun a w hF hW => ?_)
    refine ls hF hW rfl ((y_move hF rfl).q) (fun a w hF hW => ?_)
    rcases Bool.eq_false_or_eq_true (decide (x58 = x59)) with hb | hb
    ·
     have H := iteT (of_decide_eq_true hb) H
     rw [hb] at hF
     clear hb
     refine ls_g (wanted_y hF rfl rfl rfl rfl) ?_
     obtain ⟨x60, h31, H⟩ := bindE H
     refine ls hF hW rfl (y_call (v := Value.bool x60) hF H9 rfl (fun w hW => L14_awake_c any w _ h31)) (fun a w hF hW => ?_)
     refine ls hF hW rfl ((y_pick_t hF rfl rfl rfl).q) (fun a w hF hW => ?_)
     refine ls hF hW rfl ((y_assign hF rfl).q) (fun a w hF hW => ?_)
     refine ls_nil (c_then ?_)
     have hW := hW.frontZ (i := 1) rfl rfl
     have hW := hW.frontZ (i := 1) rfl rfl
     have hW := hW.frontM (i := 1) rfl rfl
     have hW := hW.frontM (i := 1) rfl rfl
     exact ⟨_, _, ⟨g_x9.1, g_x9.2⟩, H, hF.re ⟨rfl, trivial⟩, hW⟩
    ·
     have H := iteF (of_decide_eq_false hb) H
     rw [hb] at hF
     clear hb
     refine lsn hF rfl rfl rfl rfl rfl rfl rfl (fun a hF => ?_)
     refine ls hF hW rfl ((y_pick_f hF rfl rfl rfl).q) (fun a w hF hW => ?_)
     refine ls hF hW rfl ((y_assign hF rfl).q) (fun a w hF hW => ?_)
     refine ls_nil (c_then ?_)
     have hW := hW.frontZ (i := 1) rfl rfl
     have hW := hW.frontZ (i := 1) rfl rfl
     have hW := hW.frontM (i := 1) rfl rfl
     have hW := hW.frontM (i := 1) rfl rfl
     exact ⟨_, _, ⟨g_x9.1, g_x9.2⟩, H, hF.re ⟨rfl, trivial⟩, hW⟩
   rintro a w ⟨x56, x57, g_x57, hj, hF, hW⟩
   have hj := Option.some.inj hj
   subst hj
   have H := K6
   clear G6 K6
   refine wr_ret ?_
   have H := Option.some.inj H
   subst H
   refine post1 (.inl rfl) hF hW rfl (rv_tmp hF rfl) ?_
   exact ⟨rfl, hW.done⟩
  ·
   have H := altR H
   refine l_callG (Ml := []) (Zl := []) (M := [(b1, [.int .i64 x2.1, .int .i64 x2.2.1, v3])]) (Z := [row v3 50 R50 x2.2.2]) (β := Unit) (rv := fun x => .pointer none) (MM := fun x => []) (ZZ := fun x => []) hF hW H8 rfl rfl (fun hL => r14_New_c _ w (v1) p0 p1 _ h2 ((rdc_ro h_v1) w hW).nx) (fun x a w hF hW => ?_)
   have hW : Stw ⟨Y, [], w0⟩ [(b1, [.int .i64 x2.1, .int .i64 x2.2.1, v3])] [row v3 50 R50 x2.2.2] w := hW
   refine ls hF hW rfl ((y_assign hF rfl).q) (fun a w hF hW => ?_)
   refine ls_nil (c_then ?_)
   refine c_seq ?_
   refine c_seq (reg_list ?_)
   refine ls hF hW rfl ((y_move hF rfl).q) (fun a w hF hW => ?_)
   refine ls hF hW rfl ((y_peq_nil_nil u28_ hF rfl rfl).q) (fun a w hF hW => ?_)
   refine ls_nil (c_then ?_)
   refine c_cond_t hF rfl ?_
   refine c_seq (reg_list ?_)
   refine ls hF hW rfl ((y_move hF rfl).q) (fun a w hF hW => ?_)
   refine ls hF hW rfl ((y_peq_some_nil u24_ hF rfl rfl).q) (fun a w hF hW => ?_)
   refine ls hF hW rfl ((y_move hF rfl).q) (fun a w hF hW => ?_)
   iterate 2 refine lsn hF rfl rfl rfl rfl rfl rfl rfl (fun a hF => ?_)
   refine ls hF hW rfl ((y_pick_f hF rfl rfl rfl).q) (fun a w hF hW => ?_)
   refine ls hF hW rfl ((y_move hF rfl).q) (fun a w hF hW => ?_)
   refine lsn hF rfl rfl rfl rfl rfl rfl rfl (fun a hF => ?_)
   refine ls hF hW rfl ((y_pick_f hF rfl rfl rfl).q) (fun a w hF hW => ?_)
   refine ls hF hW rfl ((y_assign hF rfl).q) (fun a w hF hW => ?_)
   refine ls_nil (c_then ?_)
   refine wr_ret ?_
   refine r_then ?_
   have H := Option.some.inj H
   subst H
   refine post1 (.inl rfl) hF hW rfl (rv_tmp hF rfl) ?_
   exact ⟨rfl, hW.done⟩
 ·
  have H := altR H
  refine l_callG (Ml := []) (Zl := []) (M := []) (Z := []) (β := Unit) (rv := fun x => .tuple #[.pointer none, .int .i64 2]) (MM := fun x => []) (ZZ := fun x => []) hF hW H7 rfl rfl (fun hL => clock_New_c _ w (v1) p0 p1 _ h1 ((rdc_ro h_v1) w hW).nx) (fun x a w hF hW => ?_)
  have hW : Stw ⟨Y, [], w0⟩ [] [] w := hW
  refine ls hF hW rfl ((y_move hF rfl).q) (fun a w hF hW => ?_)
  refine ls hF hW rfl ((y_extract (v := Value.pointer none) hF rfl rfl).q) (fun a w hF hW => ?_)
  refine ls hF hW rfl ((y_extract (v := Value.int .i64 2) hF rfl rfl).q) (fun a w hF hW => ?_)
  iterate 2 refine ls hF hW rfl ((y_assign hF rfl).q) (fun a w hF hW => ?_)
  refine ls_nil (c_then ?_)
  refine c_seq (reg_list ?_)
  iterate 2 refine ls hF hW rfl ((y_move hF rfl).q) (fun a w hF hW => ?_)
  obtain ⟨x61, h32, H⟩ := bindE H
  rcases x61 with x62 | x63
  ·
   have H := altL H
   refine l_callG (Ml := []) (Zl := []) (M := []) (Z := []) (β := Nat × Value × ({x : List (Int × Int × (Value × Nat × List (Int × Int))) // x.map ERD53 = x62.2.2})) (rv := fun x => .pointer (some ⟨x.1, 0, none⟩)) (MM := fun x => [(x.1, [.int .i64 x62.1, .int .i64 x62.2.1, x.2.1])]) (ZZ := fun x => [drow x.2.1 53 DP53 x.2.2.1]) hF hW H8 rfl rfl (fun hL => r14_New_c _ w (v1) p0 p1 _ h32 ((rdc_ro h_v1) w hW).nx) (fun x a w hF hW => ?_)
   obtain ⟨b3, v18, v19⟩ := x
   have hW : Stw ⟨Y, [], w0⟩ [(b3, [.int .i64 x62.1, .int .i64 x62.2.1, v18])] [drow v18 53 DP53 v19.1] w := hW
   refine ls hF hW rfl ((y_assign hF rfl).q) (fun a w hF hW => ?_)
   refine ls_nil (c_then ?_)
   refine c_seq ?_
   refine c_seq (reg_list ?_)
   refine ls hF hW rfl ((y_move hF rfl).q) (fun a w hF hW => ?_)
   refine ls hF hW rfl ((y_peq_some_nil u28_ hF rfl rfl).q) (fun a w hF hW => ?_)
   refine ls_nil (c_then ?_)
   refine c_cond_f hF rfl ?_
   refine wr_skip ?_
   refine c_then ?_
   refine c_seq ?_
   refine c_seq (reg_list ?_)
   refine ls hF hW rfl ((y_move hF rfl).q) (fun a w hF hW => ?_)
   refine ls hF hW rfl ((y_neq hF rfl rfl).q) (fun a w hF hW => ?_)
   rw [show decide ((2 : Int) ≠ 0) = true from by decide] at hF
   refine ls_nil (c_then ?_)
   refine c_cond_t hF rfl ?_
   refine c_seq (reg_list ?_)
   refine ls hF hW rfl ((y_assign hF rfl).q) (fun a w hF hW => ?_)
   refine ls_nil (c_then ?_)
   refine wr_ret ?_
   refine r_then ?_
   have H := Option.some.inj H
   subst H
   refine post1 (.inl rfl) hF hW rfl (rv_tmp hF rfl) ?_
   exact ⟨rfl, hW.done⟩
  ·
   have H := altR H
   refine l_callG (Ml := []) (Zl := []) (M := []) (Z := []) (β := Unit) (rv := fun x => .pointer none) (MM := fun x => []) (ZZ := fun x => []) hF hW H8 rfl rfl (fun hL => r14_New_c _ w (v1) p0 p1 _ h32 ((rdc_ro h_v1) w hW).nx) (fun x a w hF hW => ?_)
   have hW : Stw ⟨Y, [], w0⟩ [] [] w := hW
   refine ls hF hW rfl ((y_assign hF rfl).q) (fun a w hF hW => ?_)
   refine ls_nil (c_then ?_)
   refine c_seq ?_
   refine c_seq (reg_list ?_)
   refine ls hF hW rfl ((y_move hF rfl).q) (fun a w hF hW => ?_)
   refine ls hF hW rfl ((y_peq_nil_nil u28_ hF rfl rfl).q) (fun a w hF hW => ?_)
   refine ls_nil (c_then ?_)
   refine c_cond_t hF rfl ?_
   refine c_seq (reg_list ?_)
   refine ls hF hW rfl ((y_move hF rfl).q) (fun a w hF hW => ?_)
   refine ls hF hW rfl ((y_peq_nil_nil u24_ hF rfl rfl).q) (fun a w hF hW => ?_)
   refine ls hF hW rfl ((y_move hF rfl).q) (fun a w hF hW => ?_)
   refine ls_w hF hW (wanted_y hF rfl rfl rfl rfl) rfl (Nat.le_of_ble_eq_true rfl) ((y_move hF rfl).q) (fun a w hF hW => ?_)
   refine ls_w hF hW (wanted_y hF rfl rfl rfl rfl) rfl (Nat.le_of_ble_eq_true rfl) ((y_eql hF rfl rfl).q) (fun a w hF hW => ?_)
   rw [show decide ((2 : Int) = 2) = true from by decide] at hF
   refine ls hF hW rfl ((y_pick_t hF rfl rfl rfl).q) (fun a w hF hW => ?_)
   refine ls hF hW rfl ((y_move hF rfl).q) (fun a w hF hW => ?_)
   refine ls_g (wanted_y hF rfl rfl rfl rfl) ?_
   obtain ⟨x64, h33, H⟩ := bindE H
   refine ls hF hW rfl (y_call (v := Value.bool x64) hF H9 rfl (fun w hW => L14_awake_c any w _ h33)) (fun a w hF hW => ?_)
   refine ls hF hW rfl ((y_pick_t hF rfl rfl rfl).q) (fun a w hF hW => ?_)
   refine ls hF hW rfl ((y_assign hF rfl).q) (fun a w hF hW => ?_)
   refine ls_nil (c_then ?_)
   refine wr_ret ?_
   refine r_then ?_
   have H := Option.some.inj H
   subst H
   refine post1 (.inl rfl) hF hW rfl (rv_tmp hF rfl) ?_
   exact ⟨rfl, hW.done⟩

end Go.Proofs.Ythmpfhjdodfchaa
