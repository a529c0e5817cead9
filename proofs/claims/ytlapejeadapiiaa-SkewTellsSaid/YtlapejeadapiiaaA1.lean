/- The functions of layer 15, lifted. Conditions: none. -/
import Derived.Test.YtlapejeadapiiaaA0
namespace Go.Proofs.Ytlapejeadapiiaa
open Go Go.RowKit
set_option linter.unusedVariables false
set_option linter.unusedSimpArgs false
set_option maxRecDepth 20000
theorem H31 : Has Try.prog 31 := ⟨fun args w => run_callFunc_body Try.func31 rfl (by decide) args w⟩
def r02_Clean (p0 : Int × Int) : (Int × Int) := (if (r02_Near p0.2) < (r02_Near p0.1) then (1, 0) else ((r02_Near p0.1), (r02_Near p0.2)))
theorem r02_Clean_c (Y : Nat → Prop) (w0 : World)  (p0 : Int × Int) (r : (Int × Int)) (H : r02_Clean p0 = r)  :
    Calls Try.prog 41 #[.agg #[.int .i64 p0.1, .int .i64 p0.2]] w0 fun e w' => e = .returned (.agg #[.int .i64 r.1, .int .i64 r.2]) ∧ Below w0.heap.size w0 w' := by
  refine enter Try.func41 rfl Try.ntmps41 rfl (fun a hF => ?_)
  have hW := Stw.start Y w0
  unfold r02_Clean at H
  refine c_seq ?_
  refine reg_list ?_
  refine l_box (cs := [.int .i64 p0.1, .int .i64 p0.2]) hF hW rfl rfl rfl (fun b1 a w hF hW => ?_)
  refine l_alloc (cs := [.int .i64 0, .int .i64 0]) hF hW rfl Z23 rfl (fun b2 a w hF hW => ?_)
  refine ls_nil ?_
  refine c_then ?_
  refine c_seq ?_
  refine reg_quiet hW MO (by kernel_rfl) ?_
  refine qs hF rfl ((y_fieldAddr Try.underlying23 rfl rfl rfl T3 hF rfl 0 rfl).q) (fun a hF => ?_)
  refine qs hF rfl ((y_load (v := Value.int .i64 p0.1) 1 hF rfl rfl T3 rfl).q) (fun a hF => ?_)
  refine qs hF rfl (y_call (v := Value.int .i64 (r02_Near p0.1)) hF H47 rfl (fun w hW => r02_Near_c any w p0.1 _ rfl)) (fun a hF => ?_)
  refine qs hF rfl ((y_fieldAddr Try.underlying23 rfl rfl rfl T3 hF rfl 1 rfl).q) (fun a hF => ?_)
  refine qs hF rfl ((y_load (v := Value.int .i64 p0.2) 1 hF rfl rfl T3 rfl).q) (fun a hF => ?_)
  refine qs hF rfl (y_call (v := Value.int .i64 (r02_Near p0.2)) hF H47 rfl (fun w hW => r02_Near_c any w p0.2 _ rfl)) (fun a hF => ?_)
  refine qs hF rfl ((y_assign hF rfl).q) (fun a hF => ?_)
  refine qs hF rfl ((y_assign hF rfl).q) (fun a hF => ?_)
  refine quiet_end (fun w hW => ?_)
  refine c_then ?_
  refine c_seq ?_
  refine c_seq ?_
  refine reg_list ?_
  refine ls hF hW rfl ((y_move hF rfl).q) (fun a w hF hW => ?_)
  refine ls hF hW rfl ((y_move hF rfl).q) (fun a w hF hW => ?_)
  refine ls hF hW rfl ((y_gtr hF rfl rfl).q) (fun a w hF hW => ?_)
  refine ls_nil ?_
  refine c_then ?_
  refine c_cond hF rfl (fun hb => ?_) (fun hb => ?_)
  ·
    have H := iteT (of_decide_eq_true hb) H
    rw [hb] at hF
    clear hb
    refine c_seq ?_
    refine reg_list ?_
    refine ls hF hW rfl ((y_build (v := Value.agg #[.int .i64 1, .int .i64 0]) B23 hF rfl rfl rfl).q) (fun a w hF hW => ?_)
    refine l_store (vs := [.int .i64 1, .int .i64 0]) (M' := [(b2, [.int .i64 1, .int .i64 0]), (b1, [.int .i64 p0.1, .int .i64 p0.2])]) 0 hF hW rfl rfl rfl T23 rfl rfl rfl rfl rfl (fun w hW => ?_)
    refine ls_nil ?_
    refine c_then ?_
    refine wp_ret ?_
    refine r_then ?_
    subst H
    refine post1 (.inl rfl) hF hW rfl (rv_cell 0 hF rfl rfl T23 rfl) ?_
    exact ⟨rfl, hW.done⟩
  ·
    have H := iteF (of_decide_eq_false hb) H
    rw [hb] at hF
    clear hb
    refine wp_skip ?_
    refine c_then ?_
    refine c_seq ?_
    refine reg_list ?_
    refine ls hF hW rfl ((y_move hF rfl).q) (fun a w hF hW => ?_)
    refine ls hF hW rfl ((y_move hF rfl).q) (fun a w hF hW => ?_)
    refine ls hF hW rfl ((y_build (v := Value.agg #[.int .i64 (r02_Near p0.1), .int .i64 (r02_Near p0.2)]) B23 hF rfl rfl rfl).q) (fun a w hF hW => ?_)
    refine l_store (vs := [.int .i64 (r02_Near p0.1), .int .i64 (r02_Near p0.2)]) (M' := [(b2, [.int .i64 (r02_Near p0.1), .int .i64 (r02_Near p0.2)]), (b1, [.int .i64 p0.1, .int .i64 p0.2])]) 0 hF hW rfl rfl rfl T23 rfl rfl rfl rfl rfl (fun w hW => ?_)
    refine ls_nil ?_
    refine c_then ?_
    refine wp_ret ?_
    subst H
    refine post1 (.inl rfl) hF hW rfl (rv_cell 0 hF rfl rfl T23 rfl) ?_
    exact ⟨rfl, hW.done⟩

theorem H41 : Has Try.prog 41 := ⟨fun args w => run_callFunc_body Try.func41 rfl (by decide) args w⟩
def r02_Moved (p0 : Int × Int) (p1 : Int) (p2 : Int) : (Int × Int) := (if (r02_Empty p0) = true then (r02_Clean p0) else (r02_Clean (w64 (((r02_Clean p0).1) + (r02_Near p1)), w64 (((r02_Clean p0).2) + (r02_Near p2)))))
theorem r02_Moved_c (Y : Nat → Prop) (w0 : World)  (p0 : Int × Int) (p1 : Int) (p2 : Int) (r : (Int × Int)) (H : r02_Moved p0 p1 p2 = r)  :
    Calls Try.prog 49 #[.agg #[.int .i64 p0.1, .int .i64 p0.2], .int .i64 p1, .int .i64 p2] w0 fun e w' => e = .returned (.agg #[.int .i64 r.1, .int .i64 r.2]) ∧ Below w0.heap.size w0 w' := by
  refine enter Try.func49 rfl Try.ntmps49 rfl (fun a hF => ?_)
  have hW := Stw.start Y w0
  unfold r02_Moved at H
  refine c_seq ?_
  refine reg_list ?_
  refine l_box (cs := [.int .i64 p0.1, .int .i64 p0.2]) hF hW rfl rfl rfl (fun b1 a w hF hW => ?_)
  refine l_alloc (cs := [.int .i64 0, .int .i64 0]) hF hW rfl Z23 rfl (fun b2 a w hF hW => ?_)
  refine ls_nil ?_
  refine c_then ?_
  refine c_seq ?_
  refine c_seq ?_
  refine reg_list ?_
  refine ls hF hW rfl ((y_load (v := Value.agg #[.int .i64 p0.1, .int .i64 p0.2]) 1 hF rfl rfl T23 rfl).q) (fun a w hF hW => ?_)
  refine ls hF hW rfl (y_call (v := Value.bool (r02_Empty p0)) hF H31 rfl (fun w hW => r02_Empty_c any w p0 _ rfl)) (fun a w hF hW => ?_)
  refine ls_nil ?_
  refine c_then ?_
  refine c_cond hF rfl (fun hb => ?_) (fun hb => ?_)
  ·
    have H := iteT hb H
    rw [hb] at hF
    clear hb
    refine c_seq ?_
    refine reg_list ?_
    refine ls hF hW rfl ((y_load (v := Value.agg #[.int .i64 p0.1, .int .i64 p0.2]) 1 hF rfl rfl T23 rfl).q) (fun a w hF hW => ?_)
    refine ls hF hW rfl (y_call (v := Value.agg #[.int .i64 ((r02_Clean p0).1), .int .i64 ((r02_Clean p0).2)]) hF H41 rfl (fun w hW => r02_Clean_c any w p0 _ rfl)) (fun a w hF hW => ?_)
    refine l_store (vs := [.int .i64 ((r02_Clean p0).1), .int .i64 ((r02_Clean p0).2)]) (M' := [(b2, [.int .i64 ((r02_Clean p0).1), .int .i64 ((r02_Clean p0).2)]), (b1, [.int .i64 p0.1, .int .i64 p0.2])]) 0 hF hW rfl rfl rfl T23 rfl rfl rfl rfl rfl (fun w hW => ?_)
    refine ls_nil ?_
    refine c_then ?_
    refine wp_ret ?_
    refine r_then ?_
    subst H
    refine post1 (.inl rfl) hF hW rfl (rv_cell 0 hF rfl rfl T23 rfl) ?_
    exact ⟨rfl, hW.done⟩
  ·
    have H := iteF (by rw [hb]; decide) H
    rw [hb] at hF
    clear hb
    refine wp_skip ?_
    refine c_then ?_
    refine c_seq ?_
    refine reg_list ?_
    refine ls hF hW rfl ((y_load (v := Value.agg #[.int .i64 p0.1, .int .i64 p0.2]) 1 hF rfl rfl T23 rfl).q) (fun a w hF hW => ?_)
    refine ls hF hW rfl (y_call (v := Value.agg #[.int .i64 ((r02_Clean p0).1), .int .i64 ((r02_Clean p0).2)]) hF H41 rfl (fun w hW => r02_Clean_c any w p0 _ rfl)) (fun a w hF hW => ?_)
    refine l_alloc (cs := [.int .i64 0, .int .i64 0]) hF hW rfl Z23 rfl (fun b3 a w hF hW => ?_)
    refine l_store (vs := [.int .i64 ((r02_Clean p0).1), .int .i64 ((r02_Clean p0).2)]) (M' := [(b3, [.int .i64 ((r02_Clean p0).1), .int .i64 ((r02_Clean p0).2)]), (b2, [.int .i64 0, .int .i64 0]), (b1, [.int .i64 p0.1, .int .i64 p0.2])]) 0 hF hW rfl rfl rfl T23 rfl rfl rfl rfl rfl (fun w hW => ?_)
    refine ls_nil ?_
    refine c_then ?_
    refine c_seq ?_
    refine reg_tail 12 hW MO (by kernel_rfl) ?_
    refine qs hF rfl ((y_fieldAddr Try.underlying23 rfl rfl rfl T3 hF rfl 0 rfl).q) (fun a hF => ?_)
    refine qs hF rfl ((y_load (v := Value.int .i64 ((r02_Clean p0).1)) 0 hF rfl rfl T3 rfl).q) (fun a hF => ?_)
    refine qs hF rfl ((y_move hF rfl).q) (fun a hF => ?_)
    refine qs hF rfl (y_call (v := Value.int .i64 (r02_Near p1)) hF H47 rfl (fun w hW => r02_Near_c any w p1 _ rfl)) (fun a hF => ?_)
    refine qs hF rfl ((y_add hF rfl rfl rfl).q) (fun a hF => ?_)
    refine qs hF rfl ((y_fieldAddr Try.underlying23 rfl rfl rfl T3 hF rfl 1 rfl).q) (fun a hF => ?_)
    refine qs hF rfl ((y_load (v := Value.int .i64 ((r02_Clean p0).2)) 0 hF rfl rfl T3 rfl).q) (fun a hF => ?_)
    refine qs hF rfl ((y_move hF rfl).q) (fun a hF => ?_)
    refine qs hF rfl (y_call (v := Value.int .i64 (r02_Near p2)) hF H47 rfl (fun w hW => r02_Near_c any w p2 _ rfl)) (fun a hF => ?_)
    refine qs hF rfl ((y_add hF rfl rfl rfl).q) (fun a hF => ?_)
    refine qs hF rfl ((y_build (v := Value.agg #[.int .i64 (w64 (((r02_Clean p0).1) + (r02_Near p1))), .int .i64 (w64 (((r02_Clean p0).2) + (r02_Near p2)))]) B23 hF rfl rfl rfl).q) (fun a hF => ?_)
    refine qs hF rfl (y_call (v := Value.agg #[.int .i64 ((r02_Clean (w64 (((r02_Clean p0).1) + (r02_Near p1)), w64 (((r02_Clean p0).2) + (r02_Near p2)))).1), .int .i64 ((r02_Clean (w64 (((r02_Clean p0).1) + (r02_Near p1)), w64 (((r02_Clean p0).2) + (r02_Near p2)))).2)]) hF H41 rfl (fun w hW => r02_Clean_c any w (w64 (((r02_Clean p0).1) + (r02_Near p1)), w64 (((r02_Clean p0).2) + (r02_Near p2))) _ rfl)) (fun a hF => ?_)
    refine quiet_end (fun w hW => ?_)
    refine l_store (vs := [.int .i64 ((r02_Clean (w64 (((r02_Clean p0).1) + (r02_Near p1)), w64 (((r02_Clean p0).2) + (r02_Near p2)))).1), .int .i64 ((r02_Clean (w64 (((r02_Clean p0).1) + (r02_Near p1)), w64 (((r02_Clean p0).2) + (r02_Near p2)))).2)]) (M' := [(b3, [.int .i64 ((r02_Clean p0).1), .int .i64 ((r02_Clean p0).2)]), (b2, [.int .i64 ((r02_Clean (w64 (((r02_Clean p0).1) + (r02_Near p1)), w64 (((r02_Clean p0).2) + (r02_Near p2)))).1), .int .i64 ((r02_Clean (w64 (((r02_Clean p0).1) + (r02_Near p1)), w64 (((r02_Clean p0).2) + (r02_Near p2)))).2)]), (b1, [.int .i64 p0.1, .int .i64 p0.2])]) 1 hF hW rfl rfl rfl T23 rfl rfl rfl rfl rfl (fun w hW => ?_)
    refine ls_nil ?_
    refine c_then ?_
    refine wp_ret ?_
    subst H
    refine post1 (.inl rfl) hF hW rfl (rv_cell 1 hF rfl rfl T23 rfl) ?_
    exact ⟨rfl, hW.done⟩

theorem H49 : Has Try.prog 49 := ⟨fun args w => run_callFunc_body Try.func49 rfl (by decide) args w⟩
noncomputable def r02_Widen (p0 : Int × Int) (p1 : Int) : Option (Int × Int) := (if (r02_Near p1) < 0 then some 0 else some (r02_Near p1)).bind fun x1 => some (r02_Moved p0 (w64 (0 - x1)) x1)
theorem r02_Widen_c (Y : Nat → Prop) (w0 : World)  (p0 : Int × Int) (p1 : Int) (r : (Int × Int)) (H : r02_Widen p0 p1 = some r)  :
    Calls Try.prog 36 #[.agg #[.int .i64 p0.1, .int .i64 p0.2], .int .i64 p1] w0 fun e w' => e = .returned (.agg #[.int .i64 r.1, .int .i64 r.2]) ∧ Below w0.heap.size w0 w' := by
  refine enter Try.func36 rfl Try.ntmps36 rfl (fun a hF => ?_)
  have hW := Stw.start Y w0
  unfold r02_Widen at H
  refine c_seq ?_
  refine reg_list ?_
  refine l_box (cs := [.int .i64 p0.1, .int .i64 p0.2]) hF hW rfl rfl rfl (fun b1 a w hF hW => ?_)
  refine l_alloc (cs := [.int .i64 0, .int .i64 0]) hF hW rfl Z23 rfl (fun b2 a w hF hW => ?_)
  refine ls_nil ?_
  refine c_then ?_
  refine c_seq ?_
  refine reg_list ?_
  refine ls hF hW rfl ((y_move hF rfl).q) (fun a w hF hW => ?_)
  refine ls hF hW rfl (y_call (v := Value.int .i64 (r02_Near p1)) hF H47 rfl (fun w hW => r02_Near_c any w p1 _ rfl)) (fun a w hF hW => ?_)
  refine ls hF hW rfl ((y_assign hF rfl).q) (fun a w hF hW => ?_)
  refine ls_nil ?_
  refine c_then ?_
  obtain ⟨o1, G1, K1⟩ := bindE H
  refine c_seqJ (fun a w => ∃ x1 : Int, some (x1) = some o1 ∧ Fr 14 [] [(1, .int .i64 x1), (2, .pointer (some ⟨b1, 0, none⟩)), (4, .pointer (some ⟨b2, 0, none⟩))] a ∧ Stw ⟨Y, [], w0⟩ [(b2, [.int .i64 0, .int .i64 0]), (b1, [.int .i64 p0.1, .int .i64 p0.2])] [] w) ?_ ?_
  ·
    have H := G1
    clear G1 K1
    refine c_seq ?_
    refine reg_list ?_
    refine ls hF hW rfl ((y_move hF rfl).q) (fun a w hF hW => ?_)
    refine ls hF hW rfl ((y_lss hF rfl rfl).q) (fun a w hF hW => ?_)
    refine ls_nil ?_
    refine c_then ?_
    refine c_cond hF rfl (fun hb => ?_) (fun hb => ?_)
    ·
      have H := iteT (of_decide_eq_true hb) H
      rw [hb] at hF
      clear hb
      refine reg_list ?_
      refine ls hF hW rfl ((y_assign hF rfl).q) (fun a w hF hW => ?_)
      refine ls_nil ?_
      refine c_then ?_
      have hW := hW.frontM (i := 1) rfl rfl
      have hW := hW.frontM (i := 1) rfl rfl
      exact ⟨_, H, hF.re ⟨rfl, rfl, rfl, trivial⟩, hW⟩
    ·
      have H := iteF (of_decide_eq_false hb) H
      rw [hb] at hF
      clear hb
      refine wp_skip ?_
      refine c_then ?_
      have hW := hW.frontM (i := 1) rfl rfl
      have hW := hW.frontM (i := 1) rfl rfl
      exact ⟨_, H, hF.re ⟨rfl, rfl, rfl, trivial⟩, hW⟩
  rintro a w ⟨x1, hj, hF, hW⟩
  have hj := Option.some.inj hj
  subst hj
  have H := K1
  clear G1 K1
  refine c_seq ?_
  refine reg_list ?_
  refine ls hF hW rfl ((y_load (v := Value.agg #[.int .i64 p0.1, .int .i64 p0.2]) 1 hF rfl rfl T23 rfl).q) (fun a w hF hW => ?_)
  refine ls hF hW rfl ((y_move hF rfl).q) (fun a w hF hW => ?_)
  refine ls hF hW rfl ((y_sub hF rfl rfl rfl).q) (fun a w hF hW => ?_)
  refine ls hF hW rfl ((y_move hF rfl).q) (fun a w hF hW => ?_)
  refine ls hF hW rfl (y_call (v := Value.agg #[.int .i64 ((r02_Moved p0 (w64 (0 - x1)) x1).1), .int .i64 ((r02_Moved p0 (w64 (0 - x1)) x1).2)]) hF H49 rfl (fun w hW => r02_Moved_c any w p0 (w64 (0 - x1)) x1 _ rfl)) (fun a w hF hW => ?_)
  refine l_store (vs := [.int .i64 ((r02_Moved p0 (w64 (0 - x1)) x1).1), .int .i64 ((r02_Moved p0 (w64 (0 - x1)) x1).2)]) (M' := [(b2, [.int .i64 ((r02_Moved p0 (w64 (0 - x1)) x1).1), .int .i64 ((r02_Moved p0 (w64 (0 - x1)) x1).2)]), (b1, [.int .i64 p0.1, .int .i64 p0.2])]) 0 hF hW rfl rfl rfl T23 rfl rfl rfl rfl rfl (fun w hW => ?_)
  refine ls_nil ?_
  refine c_then ?_
  refine wp_ret ?_
  have H := Option.some.inj H
  subst H
  refine post1 (.inl rfl) hF hW rfl (rv_cell 0 hF rfl rfl T23 rfl) ?_
  exact ⟨rfl, hW.done⟩

theorem H36 : Has Try.prog 36 := ⟨fun args w => run_callFunc_body Try.func36 rfl (by decide) args w⟩
noncomputable def r15_Fresh (p0 : Int) (p1 : Int) (p2 : Int) (p3 : Int) : Option (Int × Int) := (r14_Drift (w64 (p2 - p0)) p3).bind fun x1 => (r02_Widen (w64 (p1 - p2), w64 (p1 - p0)) x1).bind fun x2 => some x2
theorem r15_Fresh_c (Y : Nat → Prop) (w0 : World)  (p0 : Int) (p1 : Int) (p2 : Int) (p3 : Int) (r : (Int × Int)) (H : r15_Fresh p0 p1 p2 p3 = some r)  :
    Calls Try.prog 15 #[.int .i64 p0, .int .i64 p1, .int .i64 p2, .int .i64 p3] w0 fun e w' => e = .returned (.agg #[.int .i64 r.1, .int .i64 r.2]) ∧ Below w0.heap.size w0 w' := by
  refine enter Try.func15 rfl Try.ntmps15 rfl (fun a hF => ?_)
  have hW := Stw.start Y w0
  unfold r15_Fresh at H
  refine c_seq ?_
  refine reg_list ?_
  refine l_alloc (cs := [.int .i64 0, .int .i64 0]) hF hW rfl Z23 rfl (fun b1 a w hF hW => ?_)
  refine ls_nil ?_
  refine c_then ?_
  refine c_seq ?_
  refine reg_list ?_
  refine ls hF hW rfl ((y_move hF rfl).q) (fun a w hF hW => ?_)
  refine ls hF hW rfl ((y_move hF rfl).q) (fun a w hF hW => ?_)
  refine ls hF hW rfl ((y_sub hF rfl rfl rfl).q) (fun a w hF hW => ?_)
  refine ls hF hW rfl ((y_move hF rfl).q) (fun a w hF hW => ?_)
  obtain ⟨x1, h1, H⟩ := bindE H
  refine ls hF hW rfl (y_call (v := Value.int .i64 x1) hF H37 rfl (fun w hW => r14_Drift_c any w (w64 (p2 - p0)) p3 _ h1)) (fun a w hF hW => ?_)
  refine ls hF hW rfl ((y_assign hF rfl).q) (fun a w hF hW => ?_)
  refine ls_nil ?_
  refine c_then ?_
  refine c_seq ?_
  refine reg_list ?_
  refine ls hF hW rfl ((y_move hF rfl).q) (fun a w hF hW => ?_)
  refine ls hF hW rfl ((y_move hF rfl).q) (fun a w hF hW => ?_)
  refine ls hF hW rfl ((y_sub hF rfl rfl rfl).q) (fun a w hF hW => ?_)
  refine ls hF hW rfl ((y_move hF rfl).q) (fun a w hF hW => ?_)
  refine ls hF hW rfl ((y_move hF rfl).q) (fun a w hF hW => ?_)
  refine ls hF hW rfl ((y_sub hF rfl rfl rfl).q) (fun a w hF hW => ?_)
  refine ls hF hW rfl ((y_build (v := Value.agg #[.int .i64 (w64 (p1 - p2)), .int .i64 (w64 (p1 - p0))]) B23 hF rfl rfl rfl).q) (fun a w hF hW => ?_)
  refine ls hF hW rfl ((y_move hF rfl).q) (fun a w hF hW => ?_)
  obtain ⟨x2, h2, H⟩ := bindE H
  refine ls hF hW rfl (y_call (v := Value.agg #[.int .i64 x2.1, .int .i64 x2.2]) hF H36 rfl (fun w hW => r02_Widen_c any w (w64 (p1 - p2), w64 (p1 - p0)) x1 _ h2)) (fun a w hF hW => ?_)
  refine l_store (vs := [.int .i64 x2.1, .int .i64 x2.2]) (M' := [(b1, [.int .i64 x2.1, .int .i64 x2.2])]) 0 hF hW rfl rfl rfl T23 rfl rfl rfl rfl rfl (fun w hW => ?_)
  refine ls_nil ?_
  refine c_then ?_
  refine wp_ret ?_
  have H := Option.some.inj H
  subst H
  refine post1 (.inl rfl) hF hW rfl (rv_cell 0 hF rfl rfl T23 rfl) ?_
  exact ⟨rfl, hW.done⟩

theorem H15 : Has Try.prog 15 := ⟨fun args w => run_callFunc_body Try.func15 rfl (by decide) args w⟩
noncomputable def r15_On (p0 : Bool × (Int × Int) × Int) (p1 : Int) (p2 : Int) : Option (Int × Int) := (if (!p0.1) = true then some (1, 0) else (if (w64 (p1 - p0.2.2)) < 0 then some (w64 (0 - (w64 (p1 - p0.2.2)))) else some (w64 (p1 - p0.2.2))).bind fun x1 => (r14_Drift x1 p2).bind fun x2 => (r02_Widen p0.2.1 x2).bind fun x3 => some x3)
theorem r15_On_c (Y : Nat → Prop) (w0 : World)  (p0 : Bool × (Int × Int) × Int) (p1 : Int) (p2 : Int) (r : (Int × Int)) (H : r15_On p0 p1 p2 = some r)  :
    Calls Try.prog 13 #[.agg #[.bool p0.1, .int .i64 p0.2.1.1, .int .i64 p0.2.1.2, .int .i64 p0.2.2], .int .i64 p1, .int .i64 p2] w0 fun e w' => e = .returned (.agg #[.int .i64 r.1, .int .i64 r.2]) ∧ Below w0.heap.size w0 w' := by
  refine enter Try.func13 rfl Try.ntmps13 rfl (fun a hF => ?_)
  have hW := Stw.start Y w0
  unfold r15_On at H
  refine c_seq ?_
  refine reg_list ?_
  refine l_box (cs := [.bool p0.1, .int .i64 p0.2.1.1, .int .i64 p0.2.1.2, .int .i64 p0.2.2]) hF hW rfl rfl rfl (fun b1 a w hF hW => ?_)
  refine l_alloc (cs := [.int .i64 0, .int .i64 0]) hF hW rfl Z23 rfl (fun b2 a w hF hW => ?_)
  refine ls_nil ?_
  refine c_then ?_
  refine c_seq ?_
  refine c_seq ?_
  refine reg_list ?_
  refine ls hF hW rfl ((y_fieldAddr Try.underlying25 rfl rfl rfl T4 hF rfl 0 rfl).q) (fun a w hF hW => ?_)
  refine ls hF hW rfl ((y_load (v := Value.bool p0.1) 1 hF rfl rfl T4 rfl).q) (fun a w hF hW => ?_)
  refine ls hF hW rfl ((y_not hF rfl).q) (fun a w hF hW => ?_)
  refine ls_nil ?_
  refine c_then ?_
  refine c_cond hF rfl (fun hb => ?_) (fun hb => ?_)
  ·
    have H := iteT hb H
    rw [hb] at hF
    clear hb
    refine c_seq ?_
    refine reg_list ?_
    refine ls hF hW rfl ((y_build (v := Value.agg #[.int .i64 1, .int .i64 0]) B23 hF rfl rfl rfl).q) (fun a w hF hW => ?_)
    refine l_store (vs := [.int .i64 1, .int .i64 0]) (M' := [(b2, [.int .i64 1, .int .i64 0]), (b1, [.bool p0.1, .int .i64 p0.2.1.1, .int .i64 p0.2.1.2, .int .i64 p0.2.2])]) 0 hF hW rfl rfl rfl T23 rfl rfl rfl rfl rfl (fun w hW => ?_)
    refine ls_nil ?_
    refine c_then ?_
    refine wp_ret ?_
    refine r_then ?_
    have H := Option.some.inj H
    subst H
    refine post1 (.inl rfl) hF hW rfl (rv_cell 0 hF rfl rfl T23 rfl) ?_
    exact ⟨rfl, hW.done⟩
  ·
    have H := iteF (by rw [hb]; decide) H
    rw [hb] at hF
    clear hb
    refine wp_skip ?_
    refine c_then ?_
    refine c_seq ?_
    refine reg_list ?_
    refine ls hF hW rfl ((y_move hF rfl).q) (fun a w hF hW => ?_)
    refine ls hF hW rfl ((y_fieldAddr Try.underlying25 rfl rfl rfl T3 hF rfl 3 rfl).q) (fun a w hF hW => ?_)
    refine ls hF hW rfl ((y_load (v := Value.int .i64 p0.2.2) 1 hF rfl rfl T3 rfl).q) (fun a w hF hW => ?_)
    refine ls hF hW rfl ((y_sub hF rfl rfl rfl).q) (fun a w hF hW => ?_)
    refine ls hF hW rfl ((y_assign hF rfl).q) (fun a w hF hW => ?_)
    refine ls_nil ?_
    refine c_then ?_
    obtain ⟨o1, G1, K1⟩ := bindE H
    refine c_seqJ (fun a w => ∃ x1 : Int, some (x1) = some o1 ∧ Fr 26 [] [(2, .int .i64 p2), (3, .pointer (some ⟨b1, 0, none⟩)), (6, .pointer (some ⟨b2, 0, none⟩)), (7, .int .i64 x1)] a ∧ Stw ⟨Y, [], w0⟩ [(b2, [.int .i64 0, .int .i64 0]), (b1, [.bool p0.1, .int .i64 p0.2.1.1, .int .i64 p0.2.1.2, .int .i64 p0.2.2])] [] w) ?_ ?_
    ·
      have H := G1
      clear G1 K1
      refine c_seq ?_
      refine reg_list ?_
      refine ls hF hW rfl ((y_move hF rfl).q) (fun a w hF hW => ?_)
      refine ls hF hW rfl ((y_lss hF rfl rfl).q) (fun a w hF hW => ?_)
      refine ls_nil ?_
      refine c_then ?_
      refine c_cond hF rfl (fun hb => ?_) (fun hb => ?_)
      ·
        have H := iteT (of_decide_eq_true hb) H
        rw [hb] at hF
        clear hb
        refine reg_list ?_
        refine ls hF hW rfl ((y_move hF rfl).q) (fun a w hF hW => ?_)
        refine ls hF hW rfl ((y_sub hF rfl rfl rfl).q) (fun a w hF hW => ?_)
        refine ls hF hW rfl ((y_assign hF rfl).q) (fun a w hF hW => ?_)
        refine ls_nil ?_
        refine c_then ?_
        have hW := hW.frontM (i := 1) rfl rfl
        have hW := hW.frontM (i := 1) rfl rfl
        exact ⟨_, H, hF.re ⟨rfl, rfl, rfl, rfl, trivial⟩, hW⟩
      ·
        have H := iteF (of_decide_eq_false hb) H
        rw [hb] at hF
        clear hb
        refine wp_skip ?_
        refine c_then ?_
        have hW := hW.frontM (i := 1) rfl rfl
        have hW := hW.frontM (i := 1) rfl rfl
        exact ⟨_, H, hF.re ⟨rfl, rfl, rfl, rfl, trivial⟩, hW⟩
    rintro a w ⟨x1, hj, hF, hW⟩
    have hj := Option.some.inj hj
    subst hj
    have H := K1
    clear G1 K1
    refine c_seq ?_
    refine reg_tail 6 hW MO (by kernel_rfl) ?_
    refine qs hF rfl ((y_fieldAddr Try.underlying25 rfl rfl rfl T23 hF rfl 1 rfl).q) (fun a hF => ?_)
    refine qs hF rfl ((y_load (v := Value.agg #[.int .i64 p0.2.1.1, .int .i64 p0.2.1.2]) 1 hF rfl rfl T23 rfl).q) (fun a hF => ?_)
    refine qs hF rfl ((y_move hF rfl).q) (fun a hF => ?_)
    refine qs hF rfl ((y_move hF rfl).q) (fun a hF => ?_)
    obtain ⟨x2, h1, H⟩ := bindE H
    refine qs hF rfl (y_call (v := Value.int .i64 x2) hF H37 rfl (fun w hW => r14_Drift_c any w x1 p2 _ h1)) (fun a hF => ?_)
    obtain ⟨x3, h2, H⟩ := bindE H
    refine qs hF rfl (y_call (v := Value.agg #[.int .i64 x3.1, .int .i64 x3.2]) hF H36 rfl (fun w hW => r02_Widen_c any w p0.2.1 x2 _ h2)) (fun a hF => ?_)
    refine quiet_end (fun w hW => ?_)
    refine l_store (vs := [.int .i64 x3.1, .int .i64 x3.2]) (M' := [(b2, [.int .i64 x3.1, .int .i64 x3.2]), (b1, [.bool p0.1, .int .i64 p0.2.1.1, .int .i64 p0.2.1.2, .int .i64 p0.2.2])]) 0 hF hW rfl rfl rfl T23 rfl rfl rfl rfl rfl (fun w hW => ?_)
    refine ls_nil ?_
    refine c_then ?_
    refine wp_ret ?_
    have H := Option.some.inj H
    subst H
    refine post1 (.inl rfl) hF hW rfl (rv_cell 0 hF rfl rfl T23 rfl) ?_
    exact ⟨rfl, hW.done⟩

theorem H13 : Has Try.prog 13 := ⟨fun args w => run_callFunc_body Try.func13 rfl (by decide) args w⟩
noncomputable def r02_Meet (p0 : Int × Int) (p1 : Int × Int) : Option (Int × Int) := (if ((r02_Clean p0).1) < ((r02_Clean p1).1) then some ((r02_Clean p1).1) else some ((r02_Clean p0).1)).bind fun x1 => (if ((r02_Clean p1).2) < ((r02_Clean p0).2) then some ((r02_Clean p1).2) else some ((r02_Clean p0).2)).bind fun x2 => some (r02_Clean (x1, x2))
theorem r02_Meet_c (Y : Nat → Prop) (w0 : World)  (p0 : Int × Int) (p1 : Int × Int) (r : (Int × Int)) (H : r02_Meet p0 p1 = some r)  :
    Calls Try.prog 30 #[.agg #[.int .i64 p0.1, .int .i64 p0.2], .agg #[.int .i64 p1.1, .int .i64 p1.2]] w0 fun e w' => e = .returned (.agg #[.int .i64 r.1, .int .i64 r.2]) ∧ Below w0.heap.size w0 w' := by
  refine enter Try.func30 rfl Try.ntmps30 rfl (fun a hF => ?_)
  have hW := Stw.start Y w0
  unfold r02_Meet at H
  refine c_seq ?_
  refine reg_list ?_
  refine l_box (cs := [.int .i64 p0.1, .int .i64 p0.2]) hF hW rfl rfl rfl (fun b1 a w hF hW => ?_)
  refine l_box (cs := [.int .i64 p1.1, .int .i64 p1.2]) hF hW rfl rfl rfl (fun b2 a w hF hW => ?_)
  refine l_alloc (cs := [.int .i64 0, .int .i64 0]) hF hW rfl Z23 rfl (fun b3 a w hF hW => ?_)
  refine ls_nil ?_
  refine c_then ?_
  refine c_seq ?_
  refine reg_list ?_
  refine ls hF hW rfl ((y_load (v := Value.agg #[.int .i64 p0.1, .int .i64 p0.2]) 2 hF rfl rfl T23 rfl).q) (fun a w hF hW => ?_)
  refine ls hF hW rfl (y_call (v := Value.agg #[.int .i64 ((r02_Clean p0).1), .int .i64 ((r02_Clean p0).2)]) hF H41 rfl (fun w hW => r02_Clean_c any w p0 _ rfl)) (fun a w hF hW => ?_)
  refine l_store (vs := [.int .i64 ((r02_Clean p0).1), .int .i64 ((r02_Clean p0).2)]) (M' := [(b3, [.int .i64 0, .int .i64 0]), (b2, [.int .i64 p1.1, .int .i64 p1.2]), (b1, [.int .i64 ((r02_Clean p0).1), .int .i64 ((r02_Clean p0).2)])]) 2 hF hW rfl rfl rfl T23 rfl rfl rfl rfl rfl (fun w hW => ?_)
  refine ls_nil ?_
  refine c_then ?_
  refine c_seq ?_
  refine reg_list ?_
  refine ls hF hW rfl ((y_load (v := Value.agg #[.int .i64 p1.1, .int .i64 p1.2]) 1 hF rfl rfl T23 rfl).q) (fun a w hF hW => ?_)
  refine ls hF hW rfl (y_call (v := Value.agg #[.int .i64 ((r02_Clean p1).1), .int .i64 ((r02_Clean p1).2)]) hF H41 rfl (fun w hW => r02_Clean_c any w p1 _ rfl)) (fun a w hF hW => ?_)
  refine l_store (vs := [.int .i64 ((r02_Clean p1).1), .int .i64 ((r02_Clean p1).2)]) (M' := [(b3, [.int .i64 0, .int .i64 0]), (b2, [.int .i64 ((r02_Clean p1).1), .int .i64 ((r02_Clean p1).2)]), (b1, [.int .i64 ((r02_Clean p0).1), .int .i64 ((r02_Clean p0).2)])]) 1 hF hW rfl rfl rfl T23 rfl rfl rfl rfl rfl (fun w hW => ?_)
  refine ls_nil ?_
  refine c_then ?_
  refine c_seq ?_
  refine reg_list ?_
  refine ls hF hW rfl ((y_load (v := Value.agg #[.int .i64 ((r02_Clean p0).1), .int .i64 ((r02_Clean p0).2)]) 2 hF rfl rfl T23 rfl).q) (fun a w hF hW => ?_)
  refine l_alloc (cs := [.int .i64 0, .int .i64 0]) hF hW rfl Z23 rfl (fun b4 a w hF hW => ?_)
  refine l_store (vs := [.int .i64 ((r02_Clean p0).1), .int .i64 ((r02_Clean p0).2)]) (M' := [(b4, [.int .i64 ((r02_Clean p0).1), .int .i64 ((r02_Clean p0).2)]), (b3, [.int .i64 0, .int .i64 0]), (b2, [.int .i64 ((r02_Clean p1).1), .int .i64 ((r02_Clean p1).2)]), (b1, [.int .i64 ((r02_Clean p0).1), .int .i64 ((r02_Clean p0).2)])]) 0 hF hW rfl rfl rfl T23 rfl rfl rfl rfl rfl (fun w hW => ?_)
  refine ls_nil ?_
  refine c_then ?_
  obtain ⟨o1, G1, K1⟩ := bindE H
  refine c_seqJ (fun a w => ∃ x1 : Int, some (x1) = some o1 ∧ Fr 29 [] [(3, .pointer (some ⟨b2, 0, none⟩)), (4, .pointer (some ⟨b3, 0, none⟩)), (5, .pointer (some ⟨b4, 0, none⟩))] a ∧ Stw ⟨Y, [], w0⟩ [(b4, [.int .i64 x1, .int .i64 ((r02_Clean p0).2)]), (b3, [.int .i64 0, .int .i64 0]), (b2, [.int .i64 ((r02_Clean p1).1), .int .i64 ((r02_Clean p1).2)]), (b1, [.int .i64 ((r02_Clean p0).1), .int .i64 ((r02_Clean p0).2)])] [] w) ?_ ?_
  ·
    have H := G1
    clear G1 K1
    refine c_seq ?_
    refine reg_list ?_
    refine ls hF hW rfl ((y_fieldAddr Try.underlying23 rfl rfl rfl T3 hF rfl 0 rfl).q) (fun a w hF hW => ?_)
    refine ls hF hW rfl ((y_load (v := Value.int .i64 ((r02_Clean p1).1)) 2 hF rfl rfl T3 rfl).q) (fun a w hF hW => ?_)
    refine ls hF hW rfl ((y_fieldAddr Try.underlying23 rfl rfl rfl T3 hF rfl 0 rfl).q) (fun a w hF hW => ?_)
    refine ls hF hW rfl ((y_load (v := Value.int .i64 ((r02_Clean p0).1)) 0 hF rfl rfl T3 rfl).q) (fun a w hF hW => ?_)
    refine ls hF hW rfl ((y_gtr hF rfl rfl).q) (fun a w hF hW => ?_)
    refine ls_nil ?_
    refine c_then ?_
    refine c_cond hF rfl (fun hb => ?_) (fun hb => ?_)
    ·
      have H := iteT (of_decide_eq_true hb) H
      rw [hb] at hF
      clear hb
      refine reg_list ?_
      refine ls hF hW rfl ((y_fieldAddr Try.underlying23 rfl rfl rfl T3 hF rfl 0 rfl).q) (fun a w hF hW => ?_)
      refine ls hF hW rfl ((y_load (v := Value.int .i64 ((r02_Clean p1).1)) 2 hF rfl rfl T3 rfl).q) (fun a w hF hW => ?_)
      refine ls hF hW rfl ((y_fieldAddr Try.underlying23 rfl rfl rfl T3 hF rfl 0 rfl).q) (fun a w hF hW => ?_)
      refine l_store (vs := [.int .i64 ((r02_Clean p1).1)]) (M' := [(b4, [.int .i64 ((r02_Clean p1).1), .int .i64 ((r02_Clean p0).2)]), (b3, [.int .i64 0, .int .i64 0]), (b2, [.int .i64 ((r02_Clean p1).1), .int .i64 ((r02_Clean p1).2)]), (b1, [.int .i64 ((r02_Clean p0).1), .int .i64 ((r02_Clean p0).2)])]) 0 hF hW rfl rfl rfl T3 rfl rfl rfl rfl rfl (fun w hW => ?_)
      refine ls_nil ?_
      refine c_then ?_
      have hW := hW.frontM (i := 3) rfl rfl
      have hW := hW.frontM (i := 3) rfl rfl
      have hW := hW.frontM (i := 3) rfl rfl
      have hW := hW.frontM (i := 3) rfl rfl
      exact ⟨_, H, hF.re ⟨rfl, rfl, rfl, trivial⟩, hW⟩
    ·
      have H := iteF (of_decide_eq_false hb) H
      rw [hb] at hF
      clear hb
      refine wp_skip ?_
      refine c_then ?_
      have hW := hW.frontM (i := 3) rfl rfl
      have hW := hW.frontM (i := 3) rfl rfl
      have hW := hW.frontM (i := 3) rfl rfl
      have hW := hW.frontM (i := 3) rfl rfl
      exact ⟨_, H, hF.re ⟨rfl, rfl, rfl, trivial⟩, hW⟩
  rintro a w ⟨x1, hj, hF, hW⟩
  have hj := Option.some.inj hj
  subst hj
  have H := K1
  clear G1 K1
  obtain ⟨o2, G2, K2⟩ := bindE H
  refine c_seqJ (fun a w => ∃ x2 : Int, some (x2) = some o2 ∧ Fr 29 [] [(4, .pointer (some ⟨b3, 0, none⟩)), (5, .pointer (some ⟨b4, 0, none⟩))] a ∧ Stw ⟨Y, [], w0⟩ [(b4, [.int .i64 x1, .int .i64 x2]), (b3, [.int .i64 0, .int .i64 0]), (b2, [.int .i64 ((r02_Clean p1).1), .int .i64 ((r02_Clean p1).2)]), (b1, [.int .i64 ((r02_Clean p0).1), .int .i64 ((r02_Clean p0).2)])] [] w) ?_ ?_
  ·
    have H := G2
    clear G2 K2
    refine c_seq ?_
    refine reg_list ?_
    refine ls hF hW rfl ((y_fieldAddr Try.underlying23 rfl rfl rfl T3 hF rfl 1 rfl).q) (fun a w hF hW => ?_)
    refine ls hF hW rfl ((y_load (v := Value.int .i64 ((r02_Clean p1).2)) 2 hF rfl rfl T3 rfl).q) (fun a w hF hW => ?_)
    refine ls hF hW rfl ((y_fieldAddr Try.underlying23 rfl rfl rfl T3 hF rfl 1 rfl).q) (fun a w hF hW => ?_)
    refine ls hF hW rfl ((y_load (v := Value.int .i64 ((r02_Clean p0).2)) 0 hF rfl rfl T3 rfl).q) (fun a w hF hW => ?_)
    refine ls hF hW rfl ((y_lss hF rfl rfl).q) (fun a w hF hW => ?_)
    refine ls_nil ?_
    refine c_then ?_
    refine c_cond hF rfl (fun hb => ?_) (fun hb => ?_)
    ·
      have H := iteT (of_decide_eq_true hb) H
      rw [hb] at hF
      clear hb
      refine reg_list ?_
      refine ls hF hW rfl ((y_fieldAddr Try.underlying23 rfl rfl rfl T3 hF rfl 1 rfl).q) (fun a w hF hW => ?_)
      refine ls hF hW rfl ((y_load (v := Value.int .i64 ((r02_Clean p1).2)) 2 hF rfl rfl T3 rfl).q) (fun a w hF hW => ?_)
      refine ls hF hW rfl ((y_fieldAddr Try.underlying23 rfl rfl rfl T3 hF rfl 1 rfl).q) (fun a w hF hW => ?_)
      refine l_store (vs := [.int .i64 ((r02_Clean p1).2)]) (M' := [(b4, [.int .i64 x1, .int .i64 ((r02_Clean p1).2)]), (b3, [.int .i64 0, .int .i64 0]), (b2, [.int .i64 ((r02_Clean p1).1), .int .i64 ((r02_Clean p1).2)]), (b1, [.int .i64 ((r02_Clean p0).1), .int .i64 ((r02_Clean p0).2)])]) 0 hF hW rfl rfl rfl T3 rfl rfl rfl rfl rfl (fun w hW => ?_)
      refine ls_nil ?_
      refine c_then ?_
      have hW := hW.frontM (i := 3) rfl rfl
      have hW := hW.frontM (i := 3) rfl rfl
      have hW := hW.frontM (i := 3) rfl rfl
      have hW := hW.frontM (i := 3) rfl rfl
      exact ⟨_, H, hF.re ⟨rfl, rfl, trivial⟩, hW⟩
    ·
      have H := iteF (of_decide_eq_false hb) H
      rw [hb] at hF
      clear hb
      refine wp_skip ?_
      refine c_then ?_
      have hW := hW.frontM (i := 3) rfl rfl
      have hW := hW.frontM (i := 3) rfl rfl
      have hW := hW.frontM (i := 3) rfl rfl
      have hW := hW.frontM (i := 3) rfl rfl
      exact ⟨_, H, hF.re ⟨rfl, rfl, trivial⟩, hW⟩
  rintro a w ⟨x2, hj, hF, hW⟩
  have hj := Option.some.inj hj
  subst hj
  have H := K2
  clear G2 K2
  refine c_seq ?_
  refine reg_list ?_
  refine ls hF hW rfl ((y_load (v := Value.agg #[.int .i64 x1, .int .i64 x2]) 0 hF rfl rfl T23 rfl).q) (fun a w hF hW => ?_)
  refine ls hF hW rfl (y_call (v := Value.agg #[.int .i64 ((r02_Clean (x1, x2)).1), .int .i64 ((r02_Clean (x1, x2)).2)]) hF H41 rfl (fun w hW => r02_Clean_c any w (x1, x2) _ rfl)) (fun a w hF hW => ?_)
  refine l_store (vs := [.int .i64 ((r02_Clean (x1, x2)).1), .int .i64 ((r02_Clean (x1, x2)).2)]) (M' := [(b4, [.int .i64 x1, .int .i64 x2]), (b3, [.int .i64 ((r02_Clean (x1, x2)).1), .int .i64 ((r02_Clean (x1, x2)).2)]), (b2, [.int .i64 ((r02_Clean p1).1), .int .i64 ((r02_Clean p1).2)]), (b1, [.int .i64 ((r02_Clean p0).1), .int .i64 ((r02_Clean p0).2)])]) 1 hF hW rfl rfl rfl T23 rfl rfl rfl rfl rfl (fun w hW => ?_)
  refine ls_nil ?_
  refine c_then ?_
  refine wp_ret ?_
  have H := Option.some.inj H
  subst H
  refine post1 (.inl rfl) hF hW rfl (rv_cell 1 hF rfl rfl T23 rfl) ?_
  exact ⟨rfl, hW.done⟩

theorem H30 : Has Try.prog 30 := ⟨fun args w => run_callFunc_body Try.func30 rfl (by decide) args w⟩
theorem B25 : Bt Try.prog 25 [.bool false, .int .i64 0, .int .i64 0, .int .i64 0] [(0, 1), (1, 2), (3, 1)] := ⟨⟨.agg #[.bool false, .int .i64 0, .int .i64 0, .int .i64 0], by kernel_rfl, rfl⟩, ⟨_, Try.underlying25, fun w => by kernel_rfl⟩⟩
noncomputable def r15_Meet (p0 : Bool × (Int × Int) × Int) (p1 : Int) (p2 : Int) (p3 : Int) (p4 : Int) : Option ((Bool × (Int × Int) × Int) × Int) := (if (decide (p1 < 0) || (decide (p3 < p1) || (decide (1099511627776 < p3) || (decide (1125899906842624 < p2) || (decide (p2 < (-1125899906842624)) || (p0.1 && decide (p3 < p0.2.2))))))) = true then some (p0, 2) else (r15_Fresh p1 p2 p3 p4).bind fun x1 => (if p0.1 = true then (r15_On (true, p0.2.1, p0.2.2) p3 p4).bind fun x5 => (r02_Meet x5 x1).bind fun x6 => some (x6.1, x6.2, true) else some (x1.1, x1.2, false)).bind fun (x2, x3, x4) => (if (r02_Empty (x2, x3)) = true then some ((x4, p0.2.1, p0.2.2), 16) else some ((true, (x2, x3), p3), 0)))
theorem r15_Meet_c (Y : Nat → Prop) (w0 : World)  (p0 : Bool × (Int × Int) × Int) (p1 : Int) (p2 : Int) (p3 : Int) (p4 : Int) (r : (Bool × (Int × Int) × Int) × Int) (H : r15_Meet p0 p1 p2 p3 p4 = some r)  :
    Calls Try.prog 10 #[.agg #[.bool p0.1, .int .i64 p0.2.1.1, .int .i64 p0.2.1.2, .int .i64 p0.2.2], .int .i64 p1, .int .i64 p2, .int .i64 p3, .int .i64 p4] w0 fun e w' => e = .returned (.tuple #[.agg #[.bool r.1.1, .int .i64 r.1.2.1.1, .int .i64 r.1.2.1.2, .int .i64 r.1.2.2], .int .i64 r.2]) ∧ Below w0.heap.size w0 w' := by
  refine enter Try.func10 rfl Try.ntmps10 rfl (fun a hF => ?_)
  have hW := Stw.start Y w0
  unfold r15_Meet at H
  refine c_seq ?_
  refine reg_list ?_
  refine l_box (cs := [.bool p0.1, .int .i64 p0.2.1.1, .int .i64 p0.2.1.2, .int .i64 p0.2.2]) hF hW rfl rfl rfl (fun b1 a w hF hW => ?_)
  refine l_alloc (cs := [.bool false, .int .i64 0, .int .i64 0, .int .i64 0]) hF hW rfl Z25 rfl (fun b2 a w hF hW => ?_)
  refine ls hF hW rfl ((y_assign hF rfl).q) (fun a w hF hW => ?_)
  refine ls_nil ?_
  refine c_then ?_
  refine c_seq ?_
  refine c_seqJ (fun a w => Fr 62 [] [(1, .int .i64 p1), (2, .int .i64 p2), (3, .int .i64 p3), (4, .int .i64 p4), (5, .pointer (some ⟨b1, 0, none⟩)), (10, .pointer (some ⟨b2, 0, none⟩)), (11, .int .i64 0), (41, .bool (decide (p1 < 0) || (decide (p3 < p1) || (decide (1099511627776 < p3) || (decide (1125899906842624 < p2) || (decide (p2 < (-1125899906842624)) || (p0.1 && decide (p3 < p0.2.2))))))))] a ∧ Stw ⟨Y, [], w0⟩ [(b2, [.bool false, .int .i64 0, .int .i64 0, .int .i64 0]), (b1, [.bool p0.1, .int .i64 p0.2.1.1, .int .i64 p0.2.1.2, .int .i64 p0.2.2])] [] w) ?_ ?_
  ·
    refine reg_list ?_
    refine ls hF hW rfl ((y_move hF rfl).q) (fun a w hF hW => ?_)
    refine ls hF hW rfl ((y_lss hF rfl rfl).q) (fun a w hF hW => ?_)
    refine ls hF hW rfl ((y_move hF rfl).q) (fun a w hF hW => ?_)
    rcases Bool.eq_false_or_eq_true (decide (p1 < 0)) with hb0 | hb0
    ·
      rw [hb0] at hF
      refine ls_skip hF (wanted_n hF rfl rfl rfl rfl rfl) rfl rfl (fun a hF => ?_)
      refine ls_skip hF (wanted_n hF rfl rfl rfl rfl rfl) rfl rfl (fun a hF => ?_)
      refine ls_skip hF (wanted_n hF rfl rfl rfl rfl rfl) rfl rfl (fun a hF => ?_)
      refine ls hF hW rfl ((y_pick_t hF rfl rfl rfl).q) (fun a w hF hW => ?_)
      refine ls hF hW rfl ((y_move hF rfl).q) (fun a w hF hW => ?_)
      refine ls_skip hF (wanted_n hF rfl rfl rfl rfl rfl) rfl rfl (fun a hF => ?_)
      refine ls_skip hF (wanted_n hF rfl rfl rfl rfl rfl) rfl rfl (fun a hF => ?_)
      refine ls hF hW rfl ((y_pick_t hF rfl rfl rfl).q) (fun a w hF hW => ?_)
      refine ls hF hW rfl ((y_move hF rfl).q) (fun a w hF hW => ?_)
      refine ls_skip hF (wanted_n hF rfl rfl rfl rfl rfl) rfl rfl (fun a hF => ?_)
      refine ls_skip hF (wanted_n hF rfl rfl rfl rfl rfl) rfl rfl (fun a hF => ?_)
      refine ls hF hW rfl ((y_pick_t hF rfl rfl rfl).q) (fun a w hF hW => ?_)
      refine ls hF hW rfl ((y_move hF rfl).q) (fun a w hF hW => ?_)
      refine ls_skip hF (wanted_n hF rfl rfl rfl rfl rfl) rfl rfl (fun a hF => ?_)
      refine ls_skip hF (wanted_n hF rfl rfl rfl rfl rfl) rfl rfl (fun a hF => ?_)
      refine ls hF hW rfl ((y_pick_t hF rfl rfl rfl).q) (fun a w hF hW => ?_)
      refine ls hF hW rfl ((y_move hF rfl).q) (fun a w hF hW => ?_)
      refine ls_skip hF (wanted_n hF rfl rfl rfl rfl rfl) rfl rfl (fun a hF => ?_)
      refine ls_skip hF (wanted_n hF rfl rfl rfl rfl rfl) rfl rfl (fun a hF => ?_)
      refine ls_skip hF (wanted_n hF rfl rfl rfl rfl rfl) rfl rfl (fun a hF => ?_)
      refine ls_skip hF (wanted_undef hF rfl rfl rfl rfl) rfl rfl (fun a hF => ?_)
      refine ls_skip hF (wanted_undef hF rfl rfl rfl rfl) rfl rfl (fun a hF => ?_)
      refine ls_skip hF (wanted_undef hF rfl rfl rfl rfl) rfl rfl (fun a hF => ?_)
      refine ls_skip hF (wanted_undef hF rfl rfl rfl rfl) rfl rfl (fun a hF => ?_)
      refine ls_skip hF (wanted_n hF rfl rfl rfl rfl rfl) rfl rfl (fun a hF => ?_)
      refine ls hF hW rfl ((y_pick_t hF rfl rfl rfl).q) (fun a w hF hW => ?_)
      refine ls_nil ?_
      refine c_then ?_
      exact ⟨hF.re ⟨rfl, rfl, rfl, rfl, rfl, rfl, rfl, (by show some (Value.bool true) = some (Value.bool (decide (p1 < 0) || (decide (p3 < p1) || (decide (1099511627776 < p3) || (decide (1125899906842624 < p2) || (decide (p2 < (-1125899906842624)) || (p0.1 && decide (p3 < p0.2.2)))))))); try rw [hb0]; all_goals simp only [Bool.not_true, Bool.not_false, Bool.true_and, Bool.false_and, Bool.true_or, Bool.false_or, Bool.and_true, Bool.or_false, cond_true, cond_false]), trivial⟩, hW⟩
    ·
      rw [hb0] at hF
      refine ls_w hF hW (wanted_y hF rfl rfl rfl rfl) rfl (Nat.le_of_ble_eq_true rfl) ((y_move hF rfl).q) (fun a w hF hW => ?_)
      refine ls_w hF hW (wanted_y hF rfl rfl rfl rfl) rfl (Nat.le_of_ble_eq_true rfl) ((y_move hF rfl).q) (fun a w hF hW => ?_)
      refine ls_w hF hW (wanted_y hF rfl rfl rfl rfl) rfl (Nat.le_of_ble_eq_true rfl) ((y_gtr hF rfl rfl).q) (fun a w hF hW => ?_)
      refine ls hF hW rfl ((y_pick_f hF rfl rfl rfl).q) (fun a w hF hW => ?_)
      refine ls hF hW rfl ((y_move hF rfl).q) (fun a w hF hW => ?_)
      rcases Bool.eq_false_or_eq_true (decide (p3 < p1)) with hb1 | hb1
      ·
        rw [hb1] at hF
        refine ls_skip hF (wanted_n hF rfl rfl rfl rfl rfl) rfl rfl (fun a hF => ?_)
        refine ls_skip hF (wanted_n hF rfl rfl rfl rfl rfl) rfl rfl (fun a hF => ?_)
        refine ls hF hW rfl ((y_pick_t hF rfl rfl rfl).q) (fun a w hF hW => ?_)
        refine ls hF hW rfl ((y_move hF rfl).q) (fun a w hF hW => ?_)
        refine ls_skip hF (wanted_n hF rfl rfl rfl rfl rfl) rfl rfl (fun a hF => ?_)
        refine ls_skip hF (wanted_n hF rfl rfl rfl rfl rfl) rfl rfl (fun a hF => ?_)
        refine ls hF hW rfl ((y_pick_t hF rfl rfl rfl).q) (fun a w hF hW => ?_)
        refine ls hF hW rfl ((y_move hF rfl).q) (fun a w hF hW => ?_)
        refine ls_skip hF (wanted_n hF rfl rfl rfl rfl rfl) rfl rfl (fun a hF => ?_)
        refine ls_skip hF (wanted_n hF rfl rfl rfl rfl rfl) rfl rfl (fun a hF => ?_)
        refine ls hF hW rfl ((y_pick_t hF rfl rfl rfl).q) (fun a w hF hW => ?_)
        refine ls hF hW rfl ((y_move hF rfl).q) (fun a w hF hW => ?_)
        refine ls_skip hF (wanted_n hF rfl rfl rfl rfl rfl) rfl rfl (fun a hF => ?_)
        refine ls_skip hF (wanted_n hF rfl rfl rfl rfl rfl) rfl rfl (fun a hF => ?_)
        refine ls_skip hF (wanted_n hF rfl rfl rfl rfl rfl) rfl rfl (fun a hF => ?_)
        refine ls_skip hF (wanted_undef hF rfl rfl rfl rfl) rfl rfl (fun a hF => ?_)
        refine ls_skip hF (wanted_undef hF rfl rfl rfl rfl) rfl rfl (fun a hF => ?_)
        refine ls_skip hF (wanted_undef hF rfl rfl rfl rfl) rfl rfl (fun a hF => ?_)
        refine ls_skip hF (wanted_undef hF rfl rfl rfl rfl) rfl rfl (fun a hF => ?_)
        refine ls_skip hF (wanted_n hF rfl rfl rfl rfl rfl) rfl rfl (fun a hF => ?_)
        refine ls hF hW rfl ((y_pick_t hF rfl rfl rfl).q) (fun a w hF hW => ?_)
        refine ls_nil ?_
        refine c_then ?_
        exact ⟨hF.re ⟨rfl, rfl, rfl, rfl, rfl, rfl, rfl, (by show some (Value.bool true) = some (Value.bool (decide (p1 < 0) || (decide (p3 < p1) || (decide (1099511627776 < p3) || (decide (1125899906842624 < p2) || (decide (p2 < (-1125899906842624)) || (p0.1 && decide (p3 < p0.2.2)))))))); try rw [hb1]; try rw [hb0]; all_goals simp only [Bool.not_true, Bool.not_false, Bool.true_and, Bool.false_and, Bool.true_or, Bool.false_or, Bool.and_true, Bool.or_false, cond_true, cond_false]), trivial⟩, hW⟩
      ·
        rw [hb1] at hF
        refine ls_w hF hW (wanted_y hF rfl rfl rfl rfl) rfl (Nat.le_of_ble_eq_true rfl) ((y_move hF rfl).q) (fun a w hF hW => ?_)
        refine ls_w hF hW (wanted_y hF rfl rfl rfl rfl) rfl (Nat.le_of_ble_eq_true rfl) ((y_gtr hF rfl rfl).q) (fun a w hF hW => ?_)
        refine ls hF hW rfl ((y_pick_f hF rfl rfl rfl).q) (fun a w hF hW => ?_)
        refine ls hF hW rfl ((y_move hF rfl).q) (fun a w hF hW => ?_)
        rcases Bool.eq_false_or_eq_true (decide (1099511627776 < p3)) with hb2 | hb2
        ·
          rw [hb2] at hF
          refine ls_skip hF (wanted_n hF rfl rfl rfl rfl rfl) rfl rfl (fun a hF => ?_)
          refine ls_skip hF (wanted_n hF rfl rfl rfl rfl rfl) rfl rfl (fun a hF => ?_)
          refine ls hF hW rfl ((y_pick_t hF rfl rfl rfl).q) (fun a w hF hW => ?_)
          refine ls hF hW rfl ((y_move hF rfl).q) (fun a w hF hW => ?_)
          refine ls_skip hF (wanted_n hF rfl rfl rfl rfl rfl) rfl rfl (fun a hF => ?_)
          refine ls_skip hF (wanted_n hF rfl rfl rfl rfl rfl) rfl rfl (fun a hF => ?_)
          refine ls hF hW rfl ((y_pick_t hF rfl rfl rfl).q) (fun a w hF hW => ?_)
          refine ls hF hW rfl ((y_move hF rfl).q) (fun a w hF hW => ?_)
          refine ls_skip hF (wanted_n hF rfl rfl rfl rfl rfl) rfl rfl (fun a hF => ?_)
          refine ls_skip hF (wanted_n hF rfl rfl rfl rfl rfl) rfl rfl (fun a hF => ?_)
          refine ls_skip hF (wanted_n hF rfl rfl rfl rfl rfl) rfl rfl (fun a hF => ?_)
          refine ls_skip hF (wanted_undef hF rfl rfl rfl rfl) rfl rfl (fun a hF => ?_)
          refine ls_skip hF (wanted_undef hF rfl rfl rfl rfl) rfl rfl (fun a hF => ?_)
          refine ls_skip hF (wanted_undef hF rfl rfl rfl rfl) rfl rfl (fun a hF => ?_)
          refine ls_skip hF (wanted_undef hF rfl rfl rfl rfl) rfl rfl (fun a hF => ?_)
          refine ls_skip hF (wanted_n hF rfl rfl rfl rfl rfl) rfl rfl (fun a hF => ?_)
          refine ls hF hW rfl ((y_pick_t hF rfl rfl rfl).q) (fun a w hF hW => ?_)
          refine ls_nil ?_
          refine c_then ?_
          exact ⟨hF.re ⟨rfl, rfl, rfl, rfl, rfl, rfl, rfl, (by show some (Value.bool true) = some (Value.bool (decide (p1 < 0) || (decide (p3 < p1) || (decide (1099511627776 < p3) || (decide (1125899906842624 < p2) || (decide (p2 < (-1125899906842624)) || (p0.1 && decide (p3 < p0.2.2)))))))); try rw [hb2]; try rw [hb1]; try rw [hb0]; all_goals simp only [Bool.not_true, Bool.not_false, Bool.true_and, Bool.false_and, Bool.true_or, Bool.false_or, Bool.and_true, Bool.or_false, cond_true, cond_false]), trivial⟩, hW⟩
        ·
          rw [hb2] at hF
          refine ls_w hF hW (wanted_y hF rfl rfl rfl rfl) rfl (Nat.le_of_ble_eq_true rfl) ((y_move hF rfl).q) (fun a w hF hW => ?_)
          refine ls_w hF hW (wanted_y hF rfl rfl rfl rfl) rfl (Nat.le_of_ble_eq_true rfl) ((y_gtr hF rfl rfl).q) (fun a w hF hW => ?_)
          refine ls hF hW rfl ((y_pick_f hF rfl rfl rfl).q) (fun a w hF hW => ?_)
          refine ls hF hW rfl ((y_move hF rfl).q) (fun a w hF hW => ?_)
          rcases Bool.eq_false_or_eq_true (decide (1125899906842624 < p2)) with hb3 | hb3
          ·
            rw [hb3] at hF
            refine ls_skip hF (wanted_n hF rfl rfl rfl rfl rfl) rfl rfl (fun a hF => ?_)
            refine ls_skip hF (wanted_n hF rfl rfl rfl rfl rfl) rfl rfl (fun a hF => ?_)
            refine ls hF hW rfl ((y_pick_t hF rfl rfl rfl).q) (fun a w hF hW => ?_)
            refine ls hF hW rfl ((y_move hF rfl).q) (fun a w hF hW => ?_)
            refine ls_skip hF (wanted_n hF rfl rfl rfl rfl rfl) rfl rfl (fun a hF => ?_)
            refine ls_skip hF (wanted_n hF rfl rfl rfl rfl rfl) rfl rfl (fun a hF => ?_)
            refine ls_skip hF (wanted_n hF rfl rfl rfl rfl rfl) rfl rfl (fun a hF => ?_)
            refine ls_skip hF (wanted_undef hF rfl rfl rfl rfl) rfl rfl (fun a hF => ?_)
            refine ls_skip hF (wanted_undef hF rfl rfl rfl rfl) rfl rfl (fun a hF => ?_)
            refine ls_skip hF (wanted_undef hF rfl rfl rfl rfl) rfl rfl (fun a hF => ?_)
            refine ls_skip hF (wanted_undef hF rfl rfl rfl rfl) rfl rfl (fun a hF => ?_)
            refine ls_skip hF (wanted_n hF rfl rfl rfl rfl rfl) rfl rfl (fun a hF => ?_)
            refine ls hF hW rfl ((y_pick_t hF rfl rfl rfl).q) (fun a w hF hW => ?_)
            refine ls_nil ?_
            refine c_then ?_
            exact ⟨hF.re ⟨rfl, rfl, rfl, rfl, rfl, rfl, rfl, (by show some (Value.bool true) = some (Value.bool (decide (p1 < 0) || (decide (p3 < p1) || (decide (1099511627776 < p3) || (decide (1125899906842624 < p2) || (decide (p2 < (-1125899906842624)) || (p0.1 && decide (p3 < p0.2.2)))))))); try rw [hb3]; try rw [hb2]; try rw [hb1]; try rw [hb0]; all_goals simp only [Bool.not_true, Bool.not_false, Bool.true_and, Bool.false_and, Bool.true_or, Bool.false_or, Bool.and_true, Bool.or_false, cond_true, cond_false]), trivial⟩, hW⟩
          ·
            rw [hb3] at hF
            refine ls_w hF hW (wanted_y hF rfl rfl rfl rfl) rfl (Nat.le_of_ble_eq_true rfl) ((y_move hF rfl).q) (fun a w hF hW => ?_)
            refine ls_w hF hW (wanted_y hF rfl rfl rfl rfl) rfl (Nat.le_of_ble_eq_true rfl) ((y_lss hF rfl rfl).q) (fun a w hF hW => ?_)
            refine ls hF hW rfl ((y_pick_f hF rfl rfl rfl).q) (fun a w hF hW => ?_)
            refine ls hF hW rfl ((y_move hF rfl).q) (fun a w hF hW => ?_)
            rcases Bool.eq_false_or_eq_true (decide (p2 < (-1125899906842624))) with hb4 | hb4
            ·
              rw [hb4] at hF
              refine ls_skip hF (wanted_n hF rfl rfl rfl rfl rfl) rfl rfl (fun a hF => ?_)
              refine ls_skip hF (wanted_n hF rfl rfl rfl rfl rfl) rfl rfl (fun a hF => ?_)
              refine ls_skip hF (wanted_n hF rfl rfl rfl rfl rfl) rfl rfl (fun a hF => ?_)
              refine ls_skip hF (wanted_undef hF rfl rfl rfl rfl) rfl rfl (fun a hF => ?_)
              refine ls_skip hF (wanted_undef hF rfl rfl rfl rfl) rfl rfl (fun a hF => ?_)
              refine ls_skip hF (wanted_undef hF rfl rfl rfl rfl) rfl rfl (fun a hF => ?_)
              refine ls_skip hF (wanted_undef hF rfl rfl rfl rfl) rfl rfl (fun a hF => ?_)
              refine ls_skip hF (wanted_n hF rfl rfl rfl rfl rfl) rfl rfl (fun a hF => ?_)
              refine ls hF hW rfl ((y_pick_t hF rfl rfl rfl).q) (fun a w hF hW => ?_)
              refine ls_nil ?_
              refine c_then ?_
              exact ⟨hF.re ⟨rfl, rfl, rfl, rfl, rfl, rfl, rfl, (by show some (Value.bool true) = some (Value.bool (decide (p1 < 0) || (decide (p3 < p1) || (decide (1099511627776 < p3) || (decide (1125899906842624 < p2) || (decide (p2 < (-1125899906842624)) || (p0.1 && decide (p3 < p0.2.2)))))))); try rw [hb4]; try rw [hb3]; try rw [hb2]; try rw [hb1]; try rw [hb0]; all_goals simp only [Bool.not_true, Bool.not_false, Bool.true_and, Bool.false_and, Bool.true_or, Bool.false_or, Bool.and_true, Bool.or_false, cond_true, cond_false]), trivial⟩, hW⟩
            ·
              rw [hb4] at hF
              refine ls_w hF hW (wanted_y hF rfl rfl rfl rfl) rfl (Nat.le_of_ble_eq_true rfl) ((y_fieldAddr Try.underlying25 rfl rfl rfl T4 hF rfl 0 rfl).q) (fun a w hF hW => ?_)
              refine ls_w hF hW (wanted_y hF rfl rfl rfl rfl) rfl (Nat.le_of_ble_eq_true rfl) ((y_load (v := Value.bool p0.1) 1 hF rfl rfl T4 rfl).q) (fun a w hF hW => ?_)
              refine ls_w hF hW (wanted_y hF rfl rfl rfl rfl) rfl (Nat.le_of_ble_eq_true rfl) ((y_move hF rfl).q) (fun a w hF hW => ?_)
              rcases Bool.eq_false_or_eq_true p0.1 with hb5 | hb5
              ·
                rw [hb5] at hF
                refine ls_w hF hW (wanted_y hF rfl rfl rfl rfl) rfl (Nat.le_of_ble_eq_true rfl) ((y_fieldAddr Try.underlying25 rfl rfl rfl T3 hF rfl 3 rfl).q) (fun a w hF hW => ?_)
                refine ls_w hF hW (wanted_y hF rfl rfl rfl rfl) rfl (Nat.le_of_ble_eq_true rfl) ((y_load (v := Value.int .i64 p0.2.2) 1 hF rfl rfl T3 rfl).q) (fun a w hF hW => ?_)
                refine ls_w hF hW (wanted_y hF rfl rfl rfl rfl) rfl (Nat.le_of_ble_eq_true rfl) ((y_move hF rfl).q) (fun a w hF hW => ?_)
                refine ls_w hF hW (wanted_y hF rfl rfl rfl rfl) rfl (Nat.le_of_ble_eq_true rfl) ((y_gtr hF rfl rfl).q) (fun a w hF hW => ?_)
                refine ls_w hF hW (wanted_y hF rfl rfl rfl rfl) rfl (Nat.le_of_ble_eq_true rfl) ((y_pick_t hF rfl rfl rfl).q) (fun a w hF hW => ?_)
                refine ls hF hW rfl ((y_pick_f hF rfl rfl rfl).q) (fun a w hF hW => ?_)
                refine ls_nil ?_
                refine c_then ?_
                exact ⟨hF.re ⟨rfl, rfl, rfl, rfl, rfl, rfl, rfl, (by show some (Value.bool (decide (p3 < p0.2.2))) = some (Value.bool (decide (p1 < 0) || (decide (p3 < p1) || (decide (1099511627776 < p3) || (decide (1125899906842624 < p2) || (decide (p2 < (-1125899906842624)) || (p0.1 && decide (p3 < p0.2.2)))))))); try rw [hb4]; try rw [hb3]; try rw [hb2]; try rw [hb1]; try rw [hb0]; try rw [hb5]; all_goals simp only [Bool.not_true, Bool.not_false, Bool.true_and, Bool.false_and, Bool.true_or, Bool.false_or, Bool.and_true, Bool.or_false, cond_true, cond_false]), trivial⟩, hW⟩
              ·
                rw [hb5] at hF
                refine ls_skip hF (wanted_n hF rfl rfl rfl rfl rfl) rfl rfl (fun a hF => ?_)
                refine ls_skip hF (wanted_n hF rfl rfl rfl rfl rfl) rfl rfl (fun a hF => ?_)
                refine ls_skip hF (wanted_n hF rfl rfl rfl rfl rfl) rfl rfl (fun a hF => ?_)
                refine ls_skip hF (wanted_n hF rfl rfl rfl rfl rfl) rfl rfl (fun a hF => ?_)
                refine ls_w hF hW (wanted_y hF rfl rfl rfl rfl) rfl (Nat.le_of_ble_eq_true rfl) ((y_pick_f hF rfl rfl rfl).q) (fun a w hF hW => ?_)
                refine ls hF hW rfl ((y_pick_f hF rfl rfl rfl).q) (fun a w hF hW => ?_)
                refine ls_nil ?_
                refine c_then ?_
                exact ⟨hF.re ⟨rfl, rfl, rfl, rfl, rfl, rfl, rfl, (by show some (Value.bool false) = some (Value.bool (decide (p1 < 0) || (decide (p3 < p1) || (decide (1099511627776 < p3) || (decide (1125899906842624 < p2) || (decide (p2 < (-1125899906842624)) || (p0.1 && decide (p3 < p0.2.2)))))))); try rw [hb4]; try rw [hb3]; try rw [hb2]; try rw [hb1]; try rw [hb0]; try rw [hb5]; all_goals simp only [Bool.not_true, Bool.not_false, Bool.true_and, Bool.false_and, Bool.true_or, Bool.false_or, Bool.and_true, Bool.or_false, cond_true, cond_false]), trivial⟩, hW⟩
  rintro a w ⟨hF, hW⟩
  refine c_cond hF rfl (fun hb => ?_) (fun hb => ?_)
  ·
    have H := iteT hb H
    rw [hb] at hF
    clear hb
    refine c_seq ?_
    refine reg_list ?_
    refine ls hF hW rfl ((y_load (v := Value.agg #[.bool p0.1, .int .i64 p0.2.1.1, .int .i64 p0.2.1.2, .int .i64 p0.2.2]) 1 hF rfl rfl T25 rfl).q) (fun a w hF hW => ?_)
    refine l_store (vs := [.bool p0.1, .int .i64 p0.2.1.1, .int .i64 p0.2.1.2, .int .i64 p0.2.2]) (M' := [(b2, [.bool p0.1, .int .i64 p0.2.1.1, .int .i64 p0.2.1.2, .int .i64 p0.2.2]), (b1, [.bool p0.1, .int .i64 p0.2.1.1, .int .i64 p0.2.1.2, .int .i64 p0.2.2])]) 0 hF hW rfl rfl rfl T25 rfl rfl rfl rfl rfl (fun w hW => ?_)
    refine ls hF hW rfl ((y_assign hF rfl).q) (fun a w hF hW => ?_)
    refine ls_nil ?_
    refine c_then ?_
    refine wp_ret ?_
    refine r_then ?_
    have H := Option.some.inj H
    subst H
    refine post2 (.inl rfl) hF hW rfl (rv_cell 0 hF rfl rfl T25 rfl) (rv_tmp hF rfl) ?_
    exact ⟨rfl, hW.done⟩
  ·
    have H := iteF (by rw [hb]; decide) H
    rw [hb] at hF
    clear hb
    refine wp_skip ?_
    refine c_then ?_
    refine c_seq ?_
    refine reg_list ?_
    refine ls hF hW rfl ((y_move hF rfl).q) (fun a w hF hW => ?_)
    refine ls hF hW rfl ((y_move hF rfl).q) (fun a w hF hW => ?_)
    refine ls hF hW rfl ((y_move hF rfl).q) (fun a w hF hW => ?_)
    refine ls hF hW rfl ((y_move hF rfl).q) (fun a w hF hW => ?_)
    obtain ⟨x1, h1, H⟩ := bindE H
    refine ls hF hW rfl (y_call (v := Value.agg #[.int .i64 x1.1, .int .i64 x1.2]) hF H15 rfl (fun w hW => r15_Fresh_c any w p1 p2 p3 p4 _ h1)) (fun a w hF hW => ?_)
    refine l_alloc (cs := [.int .i64 0, .int .i64 0]) hF hW rfl Z23 rfl (fun b3 a w hF hW => ?_)
    refine l_store (vs := [.int .i64 x1.1, .int .i64 x1.2]) (M' := [(b3, [.int .i64 x1.1, .int .i64 x1.2]), (b2, [.bool false, .int .i64 0, .int .i64 0, .int .i64 0]), (b1, [.bool p0.1, .int .i64 p0.2.1.1, .int .i64 p0.2.1.2, .int .i64 p0.2.2])]) 0 hF hW rfl rfl rfl T23 rfl rfl rfl rfl rfl (fun w hW => ?_)
    refine ls_nil ?_
    refine c_then ?_
    obtain ⟨o1, G1, K1⟩ := bindE H
    refine c_seqJ (fun a w => ∃ x2 : Int, ∃ x3 : Int, ∃ x4 : Bool, some ((x2, x3, x4)) = some o1 ∧ Fr 62 [] [(3, .int .i64 p3), (5, .pointer (some ⟨b1, 0, none⟩)), (10, .pointer (some ⟨b2, 0, none⟩)), (11, .int .i64 0), (12, .pointer (some ⟨b3, 0, none⟩))] a ∧ Stw ⟨Y, [], w0⟩ [(b3, [.int .i64 x2, .int .i64 x3]), (b2, [.bool false, .int .i64 0, .int .i64 0, .int .i64 0]), (b1, [.bool x4, .int .i64 p0.2.1.1, .int .i64 p0.2.1.2, .int .i64 p0.2.2])] [] w) ?_ ?_
    ·
      have H := G1
      clear G1 K1
      refine c_seq ?_
      refine reg_list ?_
      refine ls hF hW rfl ((y_fieldAddr Try.underlying25 rfl rfl rfl T4 hF rfl 0 rfl).q) (fun a w hF hW => ?_)
      refine ls hF hW rfl ((y_load (v := Value.bool p0.1) 2 hF rfl rfl T4 rfl).q) (fun a w hF hW => ?_)
      refine ls_nil ?_
      refine c_then ?_
      refine c_cond hF rfl (fun hb => ?_) (fun hb => ?_)
      ·
        have H := iteT hb H
        rw [hb] at hF
        rw [hb] at hW
        clear hb
        refine reg_tail 6 hW MO (by kernel_rfl) ?_
        refine qs hF rfl ((y_load (v := Value.agg #[.bool true, .int .i64 p0.2.1.1, .int .i64 p0.2.1.2, .int .i64 p0.2.2]) 2 hF rfl rfl T25 rfl).q) (fun a hF => ?_)
        refine qs hF rfl ((y_move hF rfl).q) (fun a hF => ?_)
        refine qs hF rfl ((y_move hF rfl).q) (fun a hF => ?_)
        obtain ⟨x5, h2, H⟩ := bindE H
        refine qs hF rfl (y_call (v := Value.agg #[.int .i64 x5.1, .int .i64 x5.2]) hF H13 rfl (fun w hW => r15_On_c any w (true, p0.2.1, p0.2.2) p3 p4 _ h2)) (fun a hF => ?_)
        refine qs hF rfl ((y_load (v := Value.agg #[.int .i64 x1.1, .int .i64 x1.2]) 0 hF rfl rfl T23 rfl).q) (fun a hF => ?_)
        obtain ⟨x6, h3, H⟩ := bindE H
        refine qs hF rfl (y_call (v := Value.agg #[.int .i64 x6.1, .int .i64 x6.2]) hF H30 rfl (fun w hW => r02_Meet_c any w x5 x1 _ h3)) (fun a hF => ?_)
        refine quiet_end (fun w hW => ?_)
        refine l_store (vs := [.int .i64 x6.1, .int .i64 x6.2]) (M' := [(b3, [.int .i64 x6.1, .int .i64 x6.2]), (b2, [.bool false, .int .i64 0, .int .i64 0, .int .i64 0]), (b1, [.bool true, .int .i64 p0.2.1.1, .int .i64 p0.2.1.2, .int .i64 p0.2.2])]) 0 hF hW rfl rfl rfl T23 rfl rfl rfl rfl rfl (fun w hW => ?_)
        refine ls_nil ?_
        refine c_then ?_
        have hW := hW.frontM (i := 2) rfl rfl
        have hW := hW.frontM (i := 2) rfl rfl
        have hW := hW.frontM (i := 2) rfl rfl
        exact ⟨_, _, _, H, hF.re ⟨rfl, rfl, rfl, rfl, rfl, trivial⟩, hW⟩
      ·
        have H := iteF (by rw [hb]; decide) H
        rw [hb] at hF
        rw [hb] at hW
        clear hb
        refine wp_skip ?_
        refine c_then ?_
        have hW := hW.frontM (i := 2) rfl rfl
        have hW := hW.frontM (i := 2) rfl rfl
        have hW := hW.frontM (i := 2) rfl rfl
        exact ⟨_, _, _, H, hF.re ⟨rfl, rfl, rfl, rfl, rfl, trivial⟩, hW⟩
    rintro a w ⟨x2, x3, x4, hj, hF, hW⟩
    have hj := Option.some.inj hj
    subst hj
    have H := K1
    clear G1 K1
    refine c_seq ?_
    refine c_seq ?_
    refine reg_list ?_
    refine ls hF hW rfl ((y_load (v := Value.agg #[.int .i64 x2, .int .i64 x3]) 0 hF rfl rfl T23 rfl).q) (fun a w hF hW => ?_)
    refine ls hF hW rfl (y_call (v := Value.bool (r02_Empty (x2, x3))) hF H31 rfl (fun w hW => r02_Empty_c any w (x2, x3) _ rfl)) (fun a w hF hW => ?_)
    refine ls_nil ?_
    refine c_then ?_
    refine c_cond hF rfl (fun hb => ?_) (fun hb => ?_)
    ·
      have H := iteT hb H
      rw [hb] at hF
      clear hb
      refine c_seq ?_
      refine reg_list ?_
      refine ls hF hW rfl ((y_load (v := Value.agg #[.bool x4, .int .i64 p0.2.1.1, .int .i64 p0.2.1.2, .int .i64 p0.2.2]) 2 hF rfl rfl T25 rfl).q) (fun a w hF hW => ?_)
      refine l_store (vs := [.bool x4, .int .i64 p0.2.1.1, .int .i64 p0.2.1.2, .int .i64 p0.2.2]) (M' := [(b3, [.int .i64 x2, .int .i64 x3]), (b2, [.bool x4, .int .i64 p0.2.1.1, .int .i64 p0.2.1.2, .int .i64 p0.2.2]), (b1, [.bool x4, .int .i64 p0.2.1.1, .int .i64 p0.2.1.2, .int .i64 p0.2.2])]) 1 hF hW rfl rfl rfl T25 rfl rfl rfl rfl rfl (fun w hW => ?_)
      refine ls hF hW rfl ((y_assign hF rfl).q) (fun a w hF hW => ?_)
      refine ls_nil ?_
      refine c_then ?_
      refine wp_ret ?_
      refine r_then ?_
      have H := Option.some.inj H
      subst H
      refine post2 (.inl rfl) hF hW rfl (rv_cell 1 hF rfl rfl T25 rfl) (rv_tmp hF rfl) ?_
      exact ⟨rfl, hW.done⟩
    ·
      have H := iteF (by rw [hb]; decide) H
      rw [hb] at hF
      clear hb
      refine wp_skip ?_
      refine c_then ?_
      refine c_seq ?_
      refine reg_list ?_
      refine ls hF hW rfl ((y_load (v := Value.agg #[.int .i64 x2, .int .i64 x3]) 0 hF rfl rfl T23 rfl).q) (fun a w hF hW => ?_)
      refine ls hF hW rfl ((y_move hF rfl).q) (fun a w hF hW => ?_)
      refine ls hF hW rfl ((y_build (v := Value.agg #[.bool true, .int .i64 x2, .int .i64 x3, .int .i64 p3]) B25 hF rfl rfl rfl).q) (fun a w hF hW => ?_)
      refine l_store (vs := [.bool true, .int .i64 x2, .int .i64 x3, .int .i64 p3]) (M' := [(b3, [.int .i64 x2, .int .i64 x3]), (b2, [.bool true, .int .i64 x2, .int .i64 x3, .int .i64 p3]), (b1, [.bool x4, .int .i64 p0.2.1.1, .int .i64 p0.2.1.2, .int .i64 p0.2.2])]) 1 hF hW rfl rfl rfl T25 rfl rfl rfl rfl rfl (fun w hW => ?_)
      refine ls hF hW rfl ((y_assign hF rfl).q) (fun a w hF hW => ?_)
      refine ls_nil ?_
      refine c_then ?_
      refine wp_ret ?_
      have H := Option.some.inj H
      subst H
      refine post2 (.inl rfl) hF hW rfl (rv_cell 1 hF rfl rfl T25 rfl) (rv_tmp hF rfl) ?_
      exact ⟨rfl, hW.done⟩

theorem H10 : Has Try.prog 10 := ⟨fun args w => run_callFunc_body Try.func10 rfl (by decide) args w⟩
theorem QD30 (dd : Nat) (x0 : Bool) (x1 : Int) (x2 : Int) (x3 : Int) (y0 : Bool) (y1 : Int) (y2 : Int) (y3 : Int) (w : World) : (Op.equalIn (dd + 3) 30 (.agg #[.bool x0, .int .i64 x1, .int .i64 x2, .int .i64 x3]) (.agg #[.bool y0, .int .i64 y1, .int .i64 y2, .int .i64 y3])).run Try.prog w = .ok (decide (x0 = y0 ∧ x1 = y1 ∧ x2 = y2 ∧ x3 = y3)) w :=
  eq_struct (d := dd + 2) (rs := [decide (x0 = y0), decide (x1 = y1 ∧ x2 = y2), decide (x3 = y3)]) Try.underlying30 (by kernel_rfl) ⟨rfl, fld_bool (d := dd + 1) rfl rfl Try.underlying4 T4 rfl rfl, rfl, fld_agg (d := dd + 2) (sz := 2) (xs' := [.int .i64 x1, .int .i64 x2]) (ys' := [.int .i64 y1, .int .i64 y2]) rfl rfl T28 rfl rfl (fun w => QD28 (dd + 0) x1 x2 y1 y2 w), rfl, fld_int (d := dd + 1) rfl rfl Try.underlying3 T3 rfl rfl, trivial⟩ (by rw [Bool.eq_iff_iff]; simp [and_assoc]) w
theorem G30 : Try.prog.eqGuardType Try.prog.depth 30 = false := by kernel_rfl
theorem Q30 (x0 : Bool) (x1 : Int) (x2 : Int) (x3 : Int) (y0 : Bool) (y1 : Int) (y2 : Int) (y3 : Int) (w : World) : (Op.equalIn 10000 30 (.agg #[.bool x0, .int .i64 x1, .int .i64 x2, .int .i64 x3]) (.agg #[.bool y0, .int .i64 y1, .int .i64 y2, .int .i64 y3])).run Try.prog w = .ok (decide (x0 = y0 ∧ x1 = y1 ∧ x2 = y2 ∧ x3 = y3)) w := QD30 9997 x0 x1 x2 x3 y0 y1 y2 y3 w
def L15_like (p0 : Int × Int) (p1 : Int × Int) : Bool := (decide (p0.1 = p1.1) && decide (p0.2 = p1.2))
theorem L15_like_c (Y : Nat → Prop) (w0 : World)  (p0 : Int × Int) (p1 : Int × Int) (r : Bool) (H : L15_like p0 p1 = r)  :
    Calls Try.prog 11 #[.agg #[.int .i64 p0.1, .int .i64 p0.2], .agg #[.int .i64 p1.1, .int .i64 p1.2]] w0 fun e w' => e = .returned (.bool r) ∧ Below w0.heap.size w0 w' := by
  refine enter Try.func11 rfl Try.ntmps11 rfl (fun a hF => ?_)
  have hW := Stw.start Y w0
  unfold L15_like at H
  refine c_seq ?_
  refine reg_list ?_
  refine l_box (cs := [.int .i64 p0.1, .int .i64 p0.2]) hF hW rfl rfl rfl (fun b1 a w hF hW => ?_)
  refine l_box (cs := [.int .i64 p1.1, .int .i64 p1.2]) hF hW rfl rfl rfl (fun b2 a w hF hW => ?_)
  refine ls hF hW rfl ((y_assign hF rfl).q) (fun a w hF hW => ?_)
  refine ls_nil ?_
  refine c_then ?_
  refine c_seqJ (fun a w => Fr 17 [] [(4, .bool (decide (p0.1 = p1.1) && decide (p0.2 = p1.2)))] a ∧ Stw ⟨Y, [], w0⟩ [(b2, [.int .i64 p1.1, .int .i64 p1.2]), (b1, [.int .i64 p0.1, .int .i64 p0.2])] [] w) ?_ ?_
  ·
    refine reg_list ?_
    refine ls hF hW rfl ((y_fieldAddr Try.underlying28 rfl rfl rfl T3 hF rfl 0 rfl).q) (fun a w hF hW => ?_)
    refine ls hF hW rfl ((y_load (v := Value.int .i64 p0.1) 1 hF rfl rfl T3 rfl).q) (fun a w hF hW => ?_)
    refine ls hF hW rfl ((y_fieldAddr Try.underlying23 rfl rfl rfl T3 hF rfl 0 rfl).q) (fun a w hF hW => ?_)
    refine ls hF hW rfl ((y_load (v := Value.int .i64 p1.1) 0 hF rfl rfl T3 rfl).q) (fun a w hF hW => ?_)
    refine ls hF hW rfl ((y_eql hF rfl rfl).q) (fun a w hF hW => ?_)
    refine ls hF hW rfl ((y_move hF rfl).q) (fun a w hF hW => ?_)
    rcases Bool.eq_false_or_eq_true (decide (p0.1 = p1.1)) with hb0 | hb0
    ·
      rw [hb0] at hF
      refine ls_w hF hW (wanted_y hF rfl rfl rfl rfl) rfl (Nat.le_of_ble_eq_true rfl) ((y_fieldAddr Try.underlying28 rfl rfl rfl T3 hF rfl 1 rfl).q) (fun a w hF hW => ?_)
      refine ls_w hF hW (wanted_y hF rfl rfl rfl rfl) rfl (Nat.le_of_ble_eq_true rfl) ((y_load (v := Value.int .i64 p0.2) 1 hF rfl rfl T3 rfl).q) (fun a w hF hW => ?_)
      refine ls_w hF hW (wanted_y hF rfl rfl rfl rfl) rfl (Nat.le_of_ble_eq_true rfl) ((y_fieldAddr Try.underlying23 rfl rfl rfl T3 hF rfl 1 rfl).q) (fun a w hF hW => ?_)
      refine ls_w hF hW (wanted_y hF rfl rfl rfl rfl) rfl (Nat.le_of_ble_eq_true rfl) ((y_load (v := Value.int .i64 p1.2) 0 hF rfl rfl T3 rfl).q) (fun a w hF hW => ?_)
      refine ls_w hF hW (wanted_y hF rfl rfl rfl rfl) rfl (Nat.le_of_ble_eq_true rfl) ((y_eql hF rfl rfl).q) (fun a w hF hW => ?_)
      refine ls hF hW rfl ((y_pick_t hF rfl rfl rfl).q) (fun a w hF hW => ?_)
      refine ls hF hW rfl ((y_assign hF rfl).q) (fun a w hF hW => ?_)
      refine ls_nil ?_
      refine c_then ?_
      exact ⟨hF.re ⟨(by show some (Value.bool (decide (p0.2 = p1.2))) = some (Value.bool (decide (p0.1 = p1.1) && decide (p0.2 = p1.2))); try rw [hb0]; all_goals simp only [Bool.not_true, Bool.not_false, Bool.true_and, Bool.false_and, Bool.true_or, Bool.false_or, Bool.and_true, Bool.or_false, cond_true, cond_false]), trivial⟩, hW⟩
    ·
      rw [hb0] at hF
      refine ls_skip hF (wanted_n hF rfl rfl rfl rfl rfl) rfl rfl (fun a hF => ?_)
      refine ls_skip hF (wanted_n hF rfl rfl rfl rfl rfl) rfl rfl (fun a hF => ?_)
      refine ls_skip hF (wanted_n hF rfl rfl rfl rfl rfl) rfl rfl (fun a hF => ?_)
      refine ls_skip hF (wanted_n hF rfl rfl rfl rfl rfl) rfl rfl (fun a hF => ?_)
      refine ls_skip hF (wanted_n hF rfl rfl rfl rfl rfl) rfl rfl (fun a hF => ?_)
      refine ls hF hW rfl ((y_pick_f hF rfl rfl rfl).q) (fun a w hF hW => ?_)
      refine ls hF hW rfl ((y_assign hF rfl).q) (fun a w hF hW => ?_)
      refine ls_nil ?_
      refine c_then ?_
      exact ⟨hF.re ⟨(by show some (Value.bool false) = some (Value.bool (decide (p0.1 = p1.1) && decide (p0.2 = p1.2))); try rw [hb0]; all_goals simp only [Bool.not_true, Bool.not_false, Bool.true_and, Bool.false_and, Bool.true_or, Bool.false_or, Bool.and_true, Bool.or_false, cond_true, cond_false]), trivial⟩, hW⟩
  rintro a w ⟨hF, hW⟩
  refine wp_ret ?_
  subst H
  refine post1 (.inl rfl) hF hW rfl (rv_tmp hF rfl) ?_
  exact ⟨rfl, hW.done⟩

theorem H11 : Has Try.prog 11 := ⟨fun args w => run_callFunc_body Try.func11 rfl (by decide) args w⟩
noncomputable def r02_Mid (p0 : Int × Int) : Option Int := (if (r02_Empty p0) = true then some 0 else (if (w64 (((r02_Clean p0).1) + ((r02_Clean p0).2))) < (w64 ((w64 (Int.tdiv (w64 (((r02_Clean p0).1) + ((r02_Clean p0).2))) 2)) * 2)) then some (w64 ((w64 (Int.tdiv (w64 (((r02_Clean p0).1) + ((r02_Clean p0).2))) 2)) - 1)) else some (w64 (Int.tdiv (w64 (((r02_Clean p0).1) + ((r02_Clean p0).2))) 2))).bind fun x1 => some x1)
theorem r02_Mid_c (Y : Nat → Prop) (w0 : World)  (p0 : Int × Int) (r : Int) (H : r02_Mid p0 = some r)  :
    Calls Try.prog 40 #[.agg #[.int .i64 p0.1, .int .i64 p0.2]] w0 fun e w' => e = .returned (.int .i64 r) ∧ Below w0.heap.size w0 w' := by
  refine enter Try.func40 rfl Try.ntmps40 rfl (fun a hF => ?_)
  have hW := Stw.start Y w0
  unfold r02_Mid at H
  refine c_seq ?_
  refine reg_list ?_
  refine l_box (cs := [.int .i64 p0.1, .int .i64 p0.2]) hF hW rfl rfl rfl (fun b1 a w hF hW => ?_)
  refine ls hF hW rfl ((y_assign hF rfl).q) (fun a w hF hW => ?_)
  refine ls_nil ?_
  refine c_then ?_
  refine c_seq ?_
  refine c_seq ?_
  refine reg_list ?_
  refine ls hF hW rfl ((y_load (v := Value.agg #[.int .i64 p0.1, .int .i64 p0.2]) 0 hF rfl rfl T23 rfl).q) (fun a w hF hW => ?_)
  refine ls hF hW rfl (y_call (v := Value.bool (r02_Empty p0)) hF H31 rfl (fun w hW => r02_Empty_c any w p0 _ rfl)) (fun a w hF hW => ?_)
  refine ls_nil ?_
  refine c_then ?_
  refine c_cond hF rfl (fun hb => ?_) (fun hb => ?_)
  ·
    have H := iteT hb H
    rw [hb] at hF
    clear hb
    refine c_seq ?_
    refine reg_list ?_
    refine ls hF hW rfl ((y_assign hF rfl).q) (fun a w hF hW => ?_)
    refine ls_nil ?_
    refine c_then ?_
    refine wp_ret ?_
    refine r_then ?_
    have H := Option.some.inj H
    subst H
    refine post1 (.inl rfl) hF hW rfl (rv_tmp hF rfl) ?_
    exact ⟨rfl, hW.done⟩
  ·
    have H := iteF (by rw [hb]; decide) H
    rw [hb] at hF
    clear hb
    refine wp_skip ?_
    refine c_then ?_
    refine c_seq ?_
    refine reg_list ?_
    refine ls hF hW rfl ((y_load (v := Value.agg #[.int .i64 p0.1, .int .i64 p0.2]) 0 hF rfl rfl T23 rfl).q) (fun a w hF hW => ?_)
    refine ls hF hW rfl (y_call (v := Value.agg #[.int .i64 ((r02_Clean p0).1), .int .i64 ((r02_Clean p0).2)]) hF H41 rfl (fun w hW => r02_Clean_c any w p0 _ rfl)) (fun a w hF hW => ?_)
    refine l_alloc (cs := [.int .i64 0, .int .i64 0]) hF hW rfl Z23 rfl (fun b2 a w hF hW => ?_)
    refine l_store (vs := [.int .i64 ((r02_Clean p0).1), .int .i64 ((r02_Clean p0).2)]) (M' := [(b2, [.int .i64 ((r02_Clean p0).1), .int .i64 ((r02_Clean p0).2)]), (b1, [.int .i64 p0.1, .int .i64 p0.2])]) 0 hF hW rfl rfl rfl T23 rfl rfl rfl rfl rfl (fun w hW => ?_)
    refine ls_nil ?_
    refine c_then ?_
    refine c_seq ?_
    refine reg_list ?_
    refine ls hF hW rfl ((y_fieldAddr Try.underlying23 rfl rfl rfl T3 hF rfl 0 rfl).q) (fun a w hF hW => ?_)
    refine ls hF hW rfl ((y_load (v := Value.int .i64 ((r02_Clean p0).1)) 0 hF rfl rfl T3 rfl).q) (fun a w hF hW => ?_)
    refine ls hF hW rfl ((y_fieldAddr Try.underlying23 rfl rfl rfl T3 hF rfl 1 rfl).q) (fun a w hF hW => ?_)
    refine ls hF hW rfl ((y_load (v := Value.int .i64 ((r02_Clean p0).2)) 0 hF rfl rfl T3 rfl).q) (fun a w hF hW => ?_)
    refine ls hF hW rfl ((y_add hF rfl rfl rfl).q) (fun a w hF hW => ?_)
    refine ls hF hW rfl ((y_assign hF rfl).q) (fun a w hF hW => ?_)
    refine ls_nil ?_
    refine c_then ?_
    refine c_seq ?_
    refine reg_list ?_
    refine ls hF hW rfl ((y_move hF rfl).q) (fun a w hF hW => ?_)
    refine ls hF hW rfl ((y_quo hF rfl rfl (by decide) rfl).q) (fun a w hF hW => ?_)
    refine ls hF hW rfl ((y_assign hF rfl).q) (fun a w hF hW => ?_)
    refine ls_nil ?_
    refine c_then ?_
    obtain ⟨o1, G1, K1⟩ := bindE H
    refine c_seqJ (fun a w => ∃ x1 : Int, some (x1) = some o1 ∧ Fr 24 [] [(2, .int .i64 0), (5, .int .i64 x1)] a ∧ Stw ⟨Y, [], w0⟩ [(b2, [.int .i64 ((r02_Clean p0).1), .int .i64 ((r02_Clean p0).2)]), (b1, [.int .i64 p0.1, .int .i64 p0.2])] [] w) ?_ ?_
    ·
      have H := G1
      clear G1 K1
      refine c_seq ?_
      refine reg_list ?_
      refine ls hF hW rfl ((y_move hF rfl).q) (fun a w hF hW => ?_)
      refine ls hF hW rfl ((y_mul hF rfl rfl rfl).q) (fun a w hF hW => ?_)
      refine ls hF hW rfl ((y_move hF rfl).q) (fun a w hF hW => ?_)
      refine ls hF hW rfl ((y_gtr hF rfl rfl).q) (fun a w hF hW => ?_)
      refine ls_nil ?_
      refine c_then ?_
      refine c_cond hF rfl (fun hb => ?_) (fun hb => ?_)
      ·
        have H := iteT (of_decide_eq_true hb) H
        rw [hb] at hF
        clear hb
        refine reg_list ?_
        refine ls hF hW rfl ((y_move hF rfl).q) (fun a w hF hW => ?_)
        refine ls hF hW rfl ((y_sub hF rfl rfl rfl).q) (fun a w hF hW => ?_)
        refine ls hF hW rfl ((y_assign hF rfl).q) (fun a w hF hW => ?_)
        refine ls_nil ?_
        refine c_then ?_
        have hW := hW.frontM (i := 1) rfl rfl
        have hW := hW.frontM (i := 1) rfl rfl
        exact ⟨_, H, hF.re ⟨rfl, rfl, trivial⟩, hW⟩
      ·
        have H := iteF (of_decide_eq_false hb) H
        rw [hb] at hF
        clear hb
        refine wp_skip ?_
        refine c_then ?_
        have hW := hW.frontM (i := 1) rfl rfl
        have hW := hW.frontM (i := 1) rfl rfl
        exact ⟨_, H, hF.re ⟨rfl, rfl, trivial⟩, hW⟩
    rintro a w ⟨x1, hj, hF, hW⟩
    have hj := Option.some.inj hj
    subst hj
    have H := K1
    clear G1 K1
    refine c_seq ?_
    refine reg_list ?_
    refine ls hF hW rfl ((y_move hF rfl).q) (fun a w hF hW => ?_)
    refine ls hF hW rfl ((y_assign hF rfl).q) (fun a w hF hW => ?_)
    refine ls_nil ?_
    refine c_then ?_
    refine wp_ret ?_
    have H := Option.some.inj H
    subst H
    refine post1 (.inl rfl) hF hW rfl (rv_tmp hF rfl) ?_
    exact ⟨rfl, hW.done⟩

theorem H40 : Has Try.prog 40 := ⟨fun args w => run_callFunc_body Try.func40 rfl (by decide) args w⟩
noncomputable def r15_Aim (p0 : Bool × (Int × Int) × Int) (p1 : Int) (p2 : Int) : Option (Int × Int × Bool) := (if (!p0.1 || (decide (p1 < 0) || decide (1099511627776 < p1))) = true then some (0, 0, false) else (r15_On p0 p1 p2).bind fun x1 => (r02_Mid x1).bind fun x2 => (if (r02_Empty x1) = true then some (p1, 0, true) else some (w64 (p1 + x2), w64 (((r02_Clean x1).2) - x2), true)))
theorem r15_Aim_c (Y : Nat → Prop) (w0 : World)  (p0 : Bool × (Int × Int) × Int) (p1 : Int) (p2 : Int) (r : Int × Int × Bool) (H : r15_Aim p0 p1 p2 = some r)  :
    Calls Try.prog 17 #[.agg #[.bool p0.1, .int .i64 p0.2.1.1, .int .i64 p0.2.1.2, .int .i64 p0.2.2], .int .i64 p1, .int .i64 p2] w0 fun e w' => e = .returned (.tuple #[.int .i64 r.1, .int .i64 r.2.1, .bool r.2.2]) ∧ Below w0.heap.size w0 w' := by
  refine enter Try.func17 rfl Try.ntmps17 rfl (fun a hF => ?_)
  have hW := Stw.start Y w0
  unfold r15_Aim at H
  refine c_seq ?_
  refine reg_list ?_
  refine l_box (cs := [.bool p0.1, .int .i64 p0.2.1.1, .int .i64 p0.2.1.2, .int .i64 p0.2.2]) hF hW rfl rfl rfl (fun b1 a w hF hW => ?_)
  refine ls hF hW rfl ((y_assign hF rfl).q) (fun a w hF hW => ?_)
  refine ls hF hW rfl ((y_assign hF rfl).q) (fun a w hF hW => ?_)
  refine ls hF hW rfl ((y_assign hF rfl).q) (fun a w hF hW => ?_)
  refine ls_nil ?_
  refine c_then ?_
  refine c_seq ?_
  refine c_seqJ (fun a w => Fr 39 [] [(1, .int .i64 p1), (2, .int .i64 p2), (3, .pointer (some ⟨b1, 0, none⟩)), (6, .int .i64 0), (7, .int .i64 0), (8, .bool false), (21, .bool (!p0.1 || (decide (p1 < 0) || decide (1099511627776 < p1))))] a ∧ Stw ⟨Y, [], w0⟩ [(b1, [.bool p0.1, .int .i64 p0.2.1.1, .int .i64 p0.2.1.2, .int .i64 p0.2.2])] [] w) ?_ ?_
  ·
    refine reg_list ?_
    refine ls hF hW rfl ((y_fieldAddr Try.underlying25 rfl rfl rfl T4 hF rfl 0 rfl).q) (fun a w hF hW => ?_)
    refine ls hF hW rfl ((y_load (v := Value.bool p0.1) 0 hF rfl rfl T4 rfl).q) (fun a w hF hW => ?_)
    refine ls hF hW rfl ((y_not hF rfl).q) (fun a w hF hW => ?_)
    refine ls hF hW rfl ((y_move hF rfl).q) (fun a w hF hW => ?_)
    rcases Bool.eq_false_or_eq_true (!p0.1) with hb0 | hb0
    ·
      rw [hb0] at hF
      refine ls_skip hF (wanted_n hF rfl rfl rfl rfl rfl) rfl rfl (fun a hF => ?_)
      refine ls_skip hF (wanted_n hF rfl rfl rfl rfl rfl) rfl rfl (fun a hF => ?_)
      refine ls hF hW rfl ((y_pick_t hF rfl rfl rfl).q) (fun a w hF hW => ?_)
      refine ls hF hW rfl ((y_move hF rfl).q) (fun a w hF hW => ?_)
      refine ls_skip hF (wanted_n hF rfl rfl rfl rfl rfl) rfl rfl (fun a hF => ?_)
      refine ls_skip hF (wanted_n hF rfl rfl rfl rfl rfl) rfl rfl (fun a hF => ?_)
      refine ls hF hW rfl ((y_pick_t hF rfl rfl rfl).q) (fun a w hF hW => ?_)
      refine ls_nil ?_
      refine c_then ?_
      exact ⟨hF.re ⟨rfl, rfl, rfl, rfl, rfl, rfl, (by show some (Value.bool true) = some (Value.bool (!p0.1 || (decide (p1 < 0) || decide (1099511627776 < p1)))); try rw [hb0]; all_goals simp only [Bool.not_true, Bool.not_false, Bool.true_and, Bool.false_and, Bool.true_or, Bool.false_or, Bool.and_true, Bool.or_false, cond_true, cond_false]), trivial⟩, hW⟩
    ·
      rw [hb0] at hF
      refine ls_w hF hW (wanted_y hF rfl rfl rfl rfl) rfl (Nat.le_of_ble_eq_true rfl) ((y_move hF rfl).q) (fun a w hF hW => ?_)
      refine ls_w hF hW (wanted_y hF rfl rfl rfl rfl) rfl (Nat.le_of_ble_eq_true rfl) ((y_lss hF rfl rfl).q) (fun a w hF hW => ?_)
      refine ls hF hW rfl ((y_pick_f hF rfl rfl rfl).q) (fun a w hF hW => ?_)
      refine ls hF hW rfl ((y_move hF rfl).q) (fun a w hF hW => ?_)
      rcases Bool.eq_false_or_eq_true (decide (p1 < 0)) with hb1 | hb1
      ·
        rw [hb1] at hF
        refine ls_skip hF (wanted_n hF rfl rfl rfl rfl rfl) rfl rfl (fun a hF => ?_)
        refine ls_skip hF (wanted_n hF rfl rfl rfl rfl rfl) rfl rfl (fun a hF => ?_)
        refine ls hF hW rfl ((y_pick_t hF rfl rfl rfl).q) (fun a w hF hW => ?_)
        refine ls_nil ?_
        refine c_then ?_
        exact ⟨hF.re ⟨rfl, rfl, rfl, rfl, rfl, rfl, (by show some (Value.bool true) = some (Value.bool (!p0.1 || (decide (p1 < 0) || decide (1099511627776 < p1)))); try rw [hb1]; try rw [hb0]; all_goals simp only [Bool.not_true, Bool.not_false, Bool.true_and, Bool.false_and, Bool.true_or, Bool.false_or, Bool.and_true, Bool.or_false, cond_true, cond_false]), trivial⟩, hW⟩
      ·
        rw [hb1] at hF
        refine ls_w hF hW (wanted_y hF rfl rfl rfl rfl) rfl (Nat.le_of_ble_eq_true rfl) ((y_move hF rfl).q) (fun a w hF hW => ?_)
        refine ls_w hF hW (wanted_y hF rfl rfl rfl rfl) rfl (Nat.le_of_ble_eq_true rfl) ((y_gtr hF rfl rfl).q) (fun a w hF hW => ?_)
        refine ls hF hW rfl ((y_pick_f hF rfl rfl rfl).q) (fun a w hF hW => ?_)
        refine ls_nil ?_
        refine c_then ?_
        exact ⟨hF.re ⟨rfl, rfl, rfl, rfl, rfl, rfl, (by show some (Value.bool (decide (1099511627776 < p1))) = some (Value.bool (!p0.1 || (decide (p1 < 0) || decide (1099511627776 < p1)))); try rw [hb1]; try rw [hb0]; all_goals simp only [Bool.not_true, Bool.not_false, Bool.true_and, Bool.false_and, Bool.true_or, Bool.false_or, Bool.and_true, Bool.or_false, cond_true, cond_false]), trivial⟩, hW⟩
  rintro a w ⟨hF, hW⟩
  refine c_cond hF rfl (fun hb => ?_) (fun hb => ?_)
  ·
    have H := iteT hb H
    rw [hb] at hF
    clear hb
    refine c_seq ?_
    refine reg_list ?_
    refine ls hF hW rfl ((y_assign hF rfl).q) (fun a w hF hW => ?_)
    refine ls hF hW rfl ((y_assign hF rfl).q) (fun a w hF hW => ?_)
    refine ls hF hW rfl ((y_assign hF rfl).q) (fun a w hF hW => ?_)
    refine ls_nil ?_
    refine c_then ?_
    refine wp_ret ?_
    refine r_then ?_
    have H := Option.some.inj H
    subst H
    refine post3 (.inl rfl) hF hW rfl (rv_tmp hF rfl) (rv_tmp hF rfl) (rv_tmp hF rfl) ?_
    exact ⟨rfl, hW.done⟩
  ·
    have H := iteF (by rw [hb]; decide) H
    rw [hb] at hF
    clear hb
    refine wp_skip ?_
    refine c_then ?_
    refine c_seq ?_
    refine reg_list ?_
    refine ls hF hW rfl ((y_load (v := Value.agg #[.bool p0.1, .int .i64 p0.2.1.1, .int .i64 p0.2.1.2, .int .i64 p0.2.2]) 0 hF rfl rfl T25 rfl).q) (fun a w hF hW => ?_)
    refine ls hF hW rfl ((y_move hF rfl).q) (fun a w hF hW => ?_)
    refine ls hF hW rfl ((y_move hF rfl).q) (fun a w hF hW => ?_)
    obtain ⟨x1, h1, H⟩ := bindE H
    refine ls hF hW rfl (y_call (v := Value.agg #[.int .i64 x1.1, .int .i64 x1.2]) hF H13 rfl (fun w hW => r15_On_c any w p0 p1 p2 _ h1)) (fun a w hF hW => ?_)
    refine l_alloc (cs := [.int .i64 0, .int .i64 0]) hF hW rfl Z23 rfl (fun b2 a w hF hW => ?_)
    refine l_store (vs := [.int .i64 x1.1, .int .i64 x1.2]) (M' := [(b2, [.int .i64 x1.1, .int .i64 x1.2]), (b1, [.bool p0.1, .int .i64 p0.2.1.1, .int .i64 p0.2.1.2, .int .i64 p0.2.2])]) 0 hF hW rfl rfl rfl T23 rfl rfl rfl rfl rfl (fun w hW => ?_)
    refine ls_nil ?_
    refine c_then ?_
    refine c_seq ?_
    refine reg_list ?_
    refine ls hF hW rfl ((y_load (v := Value.agg #[.int .i64 x1.1, .int .i64 x1.2]) 0 hF rfl rfl T23 rfl).q) (fun a w hF hW => ?_)
    obtain ⟨x2, h2, H⟩ := bindE H
    refine ls hF hW rfl (y_call (v := Value.int .i64 x2) hF H40 rfl (fun w hW => r02_Mid_c any w x1 _ h2)) (fun a w hF hW => ?_)
    refine ls hF hW rfl ((y_assign hF rfl).q) (fun a w hF hW => ?_)
    refine ls_nil ?_
    refine c_then ?_
    refine c_seq ?_
    refine c_seq ?_
    refine reg_list ?_
    refine ls hF hW rfl ((y_load (v := Value.agg #[.int .i64 x1.1, .int .i64 x1.2]) 0 hF rfl rfl T23 rfl).q) (fun a w hF hW => ?_)
    refine ls hF hW rfl (y_call (v := Value.bool (r02_Empty x1)) hF H31 rfl (fun w hW => r02_Empty_c any w x1 _ rfl)) (fun a w hF hW => ?_)
    refine ls_nil ?_
    refine c_then ?_
    refine c_cond hF rfl (fun hb => ?_) (fun hb => ?_)
    ·
      have H := iteT hb H
      rw [hb] at hF
      clear hb
      refine c_seq ?_
      refine reg_list ?_
      refine ls hF hW rfl ((y_move hF rfl).q) (fun a w hF hW => ?_)
      refine ls hF hW rfl ((y_assign hF rfl).q) (fun a w hF hW => ?_)
      refine ls hF hW rfl ((y_assign hF rfl).q) (fun a w hF hW => ?_)
      refine ls hF hW rfl ((y_assign hF rfl).q) (fun a w hF hW => ?_)
      refine ls_nil ?_
      refine c_then ?_
      refine wp_ret ?_
      refine r_then ?_
      have H := Option.some.inj H
      subst H
      refine post3 (.inl rfl) hF hW rfl (rv_tmp hF rfl) (rv_tmp hF rfl) (rv_tmp hF rfl) ?_
      exact ⟨rfl, hW.done⟩
    ·
      have H := iteF (by rw [hb]; decide) H
      rw [hb] at hF
      clear hb
      refine wp_skip ?_
      refine c_then ?_
      refine c_seq ?_
      refine reg_list ?_
      refine ls hF hW rfl ((y_move hF rfl).q) (fun a w hF hW => ?_)
      refine ls hF hW rfl ((y_move hF rfl).q) (fun a w hF hW => ?_)
      refine ls hF hW rfl ((y_add hF rfl rfl rfl).q) (fun a w hF hW => ?_)
      refine ls hF hW rfl ((y_load (v := Value.agg #[.int .i64 x1.1, .int .i64 x1.2]) 0 hF rfl rfl T23 rfl).q) (fun a w hF hW => ?_)
      refine ls hF hW rfl (y_call (v := Value.agg #[.int .i64 ((r02_Clean x1).1), .int .i64 ((r02_Clean x1).2)]) hF H41 rfl (fun w hW => r02_Clean_c any w x1 _ rfl)) (fun a w hF hW => ?_)
      refine ls hF hW rfl ((y_field (v := Value.int .i64 ((r02_Clean x1).2)) Try.underlying23 rfl rfl rfl T3 hF rfl rfl).q) (fun a w hF hW => ?_)
      refine ls hF hW rfl ((y_move hF rfl).q) (fun a w hF hW => ?_)
      refine ls hF hW rfl ((y_sub hF rfl rfl rfl).q) (fun a w hF hW => ?_)
      refine ls hF hW rfl ((y_assign hF rfl).q) (fun a w hF hW => ?_)
      refine ls hF hW rfl ((y_assign hF rfl).q) (fun a w hF hW => ?_)
      refine ls hF hW rfl ((y_assign hF rfl).q) (fun a w hF hW => ?_)
      refine ls_nil ?_
      refine c_then ?_
      refine wp_ret ?_
      have H := Option.some.inj H
      subst H
      refine post3 (.inl rfl) hF hW rfl (rv_tmp hF rfl) (rv_tmp hF rfl) (rv_tmp hF rfl) ?_
      exact ⟨rfl, hW.done⟩

theorem H17 : Has Try.prog 17 := ⟨fun args w => run_callFunc_body Try.func17 rfl (by decide) args w⟩
noncomputable def r15_Miss (p0 : Int) : Option Int := (if p0 < 0 then some 0 else some p0).bind fun x1 => (if 1073741824 < x1 then some 1073741824 else some x1).bind fun x2 => some (w64 ((w64 (x2 + x2)) + 2))
theorem r15_Miss_c (Y : Nat → Prop) (w0 : World)  (p0 : Int) (r : Int) (H : r15_Miss p0 = some r)  :
    Calls Try.prog 19 #[.int .i64 p0] w0 fun e w' => e = .returned (.int .i64 r) ∧ Below w0.heap.size w0 w' := by
  refine enter Try.func19 rfl Try.ntmps19 rfl (fun a hF => ?_)
  have hW := Stw.start Y w0
  unfold r15_Miss at H
  refine c_seq ?_
  refine reg_list ?_
  refine ls hF hW rfl ((y_assign hF rfl).q) (fun a w hF hW => ?_)
  refine ls_nil ?_
  refine c_then ?_
  obtain ⟨o1, G1, K1⟩ := bindE H
  refine c_seqJ (fun a w => ∃ x1 : Int, some (x1) = some o1 ∧ Fr 11 [] [(0, .int .i64 x1), (2, .int .i64 0)] a ∧ Stw ⟨Y, [], w0⟩ [] [] w) ?_ ?_
  ·
    have H := G1
    clear G1 K1
    refine c_seq ?_
    refine reg_list ?_
    refine ls hF hW rfl ((y_move hF rfl).q) (fun a w hF hW => ?_)
    refine ls hF hW rfl ((y_lss hF rfl rfl).q) (fun a w hF hW => ?_)
    refine ls_nil ?_
    refine c_then ?_
    refine c_cond hF rfl (fun hb => ?_) (fun hb => ?_)
    ·
      have H := iteT (of_decide_eq_true hb) H
      rw [hb] at hF
      clear hb
      refine reg_list ?_
      refine ls hF hW rfl ((y_assign hF rfl).q) (fun a w hF hW => ?_)
      refine ls_nil ?_
      refine c_then ?_
      exact ⟨_, H, hF.re ⟨rfl, rfl, trivial⟩, hW⟩
    ·
      have H := iteF (of_decide_eq_false hb) H
      rw [hb] at hF
      clear hb
      refine wp_skip ?_
      refine c_then ?_
      exact ⟨_, H, hF.re ⟨rfl, rfl, trivial⟩, hW⟩
  rintro a w ⟨x1, hj, hF, hW⟩
  have hj := Option.some.inj hj
  subst hj
  have H := K1
  clear G1 K1
  obtain ⟨o2, G2, K2⟩ := bindE H
  refine c_seqJ (fun a w => ∃ x2 : Int, some (x2) = some o2 ∧ Fr 11 [] [(0, .int .i64 x2), (2, .int .i64 0)] a ∧ Stw ⟨Y, [], w0⟩ [] [] w) ?_ ?_
  ·
    have H := G2
    clear G2 K2
    refine c_seq ?_
    refine reg_list ?_
    refine ls hF hW rfl ((y_move hF rfl).q) (fun a w hF hW => ?_)
    refine ls hF hW rfl ((y_gtr hF rfl rfl).q) (fun a w hF hW => ?_)
    refine ls_nil ?_
    refine c_then ?_
    refine c_cond hF rfl (fun hb => ?_) (fun hb => ?_)
    ·
      have H := iteT (of_decide_eq_true hb) H
      rw [hb] at hF
      clear hb
      refine reg_list ?_
      refine ls hF hW rfl ((y_assign hF rfl).q) (fun a w hF hW => ?_)
      refine ls_nil ?_
      refine c_then ?_
      exact ⟨_, H, hF.re ⟨rfl, rfl, trivial⟩, hW⟩
    ·
      have H := iteF (of_decide_eq_false hb) H
      rw [hb] at hF
      clear hb
      refine wp_skip ?_
      refine c_then ?_
      exact ⟨_, H, hF.re ⟨rfl, rfl, trivial⟩, hW⟩
  rintro a w ⟨x2, hj, hF, hW⟩
  have hj := Option.some.inj hj
  subst hj
  have H := K2
  clear G2 K2
  refine c_seq ?_
  refine reg_list ?_
  refine ls hF hW rfl ((y_move hF rfl).q) (fun a w hF hW => ?_)
  refine ls hF hW rfl ((y_move hF rfl).q) (fun a w hF hW => ?_)
  refine ls hF hW rfl ((y_add hF rfl rfl rfl).q) (fun a w hF hW => ?_)
  refine ls hF hW rfl ((y_add hF rfl rfl rfl).q) (fun a w hF hW => ?_)
  refine ls hF hW rfl ((y_assign hF rfl).q) (fun a w hF hW => ?_)
  refine ls_nil ?_
  refine c_then ?_
  refine wp_ret ?_
  have H := Option.some.inj H
  subst H
  refine post1 (.inl rfl) hF hW rfl (rv_tmp hF rfl) ?_
  exact ⟨rfl, hW.done⟩

end Go.Proofs.Ytlapejeadapiiaa
