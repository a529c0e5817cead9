/- The walks of layer 1. -/
import Derived.Test.YtcnhmbjkippnnaaA3
namespace Go.Proofs.Ytcnhmbjkippnnaa
open Go Go.RowKit
set_option linter.unusedVariables false
theorem T42 : Ty Try.prog 42 true 2 := ⟨by kernel_rfl, by kernel_rfl⟩
theorem H64 : Has Try.prog 64 := ⟨fun args w => run_callFunc_body Try.func64 rfl (by decide) args w⟩
theorem H65 : Has Try.prog 65 := ⟨fun args w => run_callFunc_body Try.func65 rfl (by decide) args w⟩
theorem Z42 : (Try.prog.info? 42).bind (·.zero) = some (Value.agg #[Value.int IntKind.i64 0, Value.int IntKind.i64 0]) := by kernel_rfl
theorem Z73 : (Try.prog.info? 73).bind (·.zero) = some (Value.agg #[Value.slice none 0 0]) := by kernel_rfl
theorem L37 : Et Try.prog 37 42 2 16 := Et.of Try.underlying37 (by kernel_rfl) (by kernel_rfl) (by kernel_rfl) (by decide)
theorem eval_any (ov : Value) (ol : List (Int × Int)) (w : World) (hv : RdE w ov 2 encOp ol) (hmax : ol.length ≤ 1000000) :
    Calls Try.prog 24 #[ov] w fun e w' => e = .returned (Value.tuple #[Value.int IntKind.i64 ((evalT ol).1), Value.int IntKind.i64 ((evalT ol).2)]) ∧ Below w.heap.size w w' := by
  refine enterD Try.func24 rfl Try.ntmps24 rfl (fun a hF => ?_)
  have hW := Stw.start w
  refine c_seq ?_
  refine reg_list ?_
  refine l_alloc (cs := [Value.int IntKind.i64 0]) hF hW rfl Z3 rfl (fun b1 a w hF hW => ?_)
  refine l_alloc (cs := [Value.int IntKind.i64 0]) hF hW rfl Z22 rfl (fun b2 a w hF hW => ?_)
  refine ls_nil ?_
  refine c_then ?_
  refine c_seq ?_
  refine reg_list ?_
  refine ls hF hW rfl (y_makeFunc hF rfl rfl) (fun a w hF hW => ?_)
  refine l_defer hF rfl (fun a hF => ?_)
  refine ls_nil ?_
  refine c_then ?_
  refine c_seq ?_
  refine c_seq ?_
  refine reg_list ?_
  refine ls hF hW rfl (y_move hF rfl) (fun a w hF hW => ?_)
  refine ls hF hW rfl (y_len Try.underlying37 rfl hF rfl (fun w hW => hv.old hW)) (fun a w hF hW => ?_)
  refine ls hF hW rfl (y_gtr hF rfl rfl) (fun a w hF hW => ?_)
  refine ls_nil ?_
  refine c_then ?_
  refine c_cond hF rfl (fun hb => ?_) (fun hb => ?_)
  ·
    have c1 := of_decide_eq_true hb
    simp only [hb] at hF
    clear hb
    refine c_seq ?_
    refine reg_list ?_
    refine l_store (vs := [Value.int IntKind.i64 0]) (M' := [(b2, [Value.int IntKind.i64 0]), (b1, [Value.int IntKind.i64 0])]) 1 hF hW rfl rfl rfl T3 rfl rfl rfl rfl rfl (fun w hW => ?_)
    refine l_store (vs := [Value.int IntKind.i64 3]) (M' := [(b2, [Value.int IntKind.i64 3]), (b1, [Value.int IntKind.i64 0])]) 0 hF hW rfl rfl rfl T22 rfl rfl rfl rfl rfl (fun w hW => ?_)
    refine ls_nil ?_
    refine c_then ?_
    refine wp_ret ?_
    refine r_then ?_
    refine postD_ret (.inl rfl) hF ?_
    refine leaves_of H64 (by simp) (cEval_idle b1 b2 _ _ w hW) ?_
    rintro e u' w ⟨rfl, rfl, hW⟩
    refine leaves2 hW rfl (rv_cell (v := Value.int IntKind.i64 0) 1 hF rfl rfl T3 rfl) (rv_cell (v := Value.int IntKind.i64 3) 0 hF rfl rfl T22 rfl) ?_
    exact ⟨congrArg Ending.returned (vtuple (lcons (vint (show ((0 : Int)) = (evalT ol).1 by first | (exfalso; omega) | (rw [evalT, if_pos (by omega)]) | (rw [evalT, if_neg (by omega), i2, fold_err ol i l ec (by omega) hcs]) | (have hd : ol.drop i = [] := (by apply List.drop_eq_nil_of_le; omega); rw [evalT, if_neg (by omega), i2, hd]; simp only [foldP]; first | (rw [if_pos (by omega)]; try (rw [show l.length - 1 = 0 by omega])) | (rw [if_neg (by omega)])))) (lcons (vint (show ((3 : Int)) = (evalT ol).2 by first | (exfalso; omega) | (rw [evalT, if_pos (by omega)]) | (rw [evalT, if_neg (by omega), i2, fold_err ol i l ec (by omega) hcs]) | (have hd : ol.drop i = [] := (by apply List.drop_eq_nil_of_le; omega); rw [evalT, if_neg (by omega), i2, hd]; simp only [foldP]; first | (rw [if_pos (by omega)]; try (rw [show l.length - 1 = 0 by omega])) | (rw [if_neg (by omega)])))) rfl))), hW.frm.below⟩
  ·
    have c1 := of_decide_eq_false hb
    simp only [hb] at hF
    clear hb
    refine wp_skip ?_
    refine c_then ?_
    refine c_seq ?_
    refine reg_list ?_
    refine l_alloc (cs := [Value.slice none 0 0]) hF hW rfl Z73 rfl (fun b3 a w hF hW => ?_)
    have hW := hW.nilRow 3 encI 1
    refine ls_nil ?_
    refine c_then ?_
    refine c_seq ?_
    refine c_seq ?_
    refine reg_list ?_
    refine ls hF hW rfl (y_move hF rfl) (fun a w hF hW => ?_)
    refine ls hF hW rfl (y_len Try.underlying37 rfl hF rfl (fun w hW => hv.old hW)) (fun a w hF hW => ?_)
    refine ls hF hW rfl (y_move hF rfl) (fun a w hF hW => ?_)
    refine ls_nil ?_
    refine c_then ?_
    refine wp_block ?_
    have e0 : (0 : Nat) ≤ ol.length := by omega
    have e1 : ([] : List Int).length ≤ (0 : Nat) := by simp
    have e2 : foldP ol [] = foldP (ol.drop (0 : Nat)) ([] : List Int) := by simp
    refine c_loopz (σ := Nat × Value × List Int) (fun s => (s.1 ≤ ol.length) ∧ (s.2.2.length ≤ s.1) ∧ (foldP ol [] = foldP (ol.drop s.1) s.2.2)) (fun s => [(0, ov), (2, Value.pointer (some ⟨b1, 0, none⟩)), (3, Value.pointer (some ⟨b2, 0, none⟩)), (4, Value.pointer (some ⟨b3, 0, none⟩)), (7, Value.func (Fn.func 64) #[] #[Value.pointer (some ⟨b1, 0, none⟩), Value.pointer (some ⟨b2, 0, none⟩)]), (8, ov), (9, Value.int IntKind.i64 (ol.length : Int)), (10, Value.bool false), (11, ov), (12, Value.int IntKind.i64 (ol.length : Int)), (13, Value.int IntKind.i64 (s.1 : Int))]) (fun s => [(b3, [s.2.1]), (b2, [Value.int IntKind.i64 0]), (b1, [Value.int IntKind.i64 0])]) (fun s => [rowL s.2.1 3 1 encI s.2.2]) (fun s => ol.length - s.1) (0, Value.slice none 0 0, ([] : List Int)) ⟨e0, e1, e2⟩ (hF.re ⟨rfl, rfl, rfl, rfl, rfl, rfl, rfl, rfl, rfl, rfl, rfl, trivial⟩) hW (fun s a w hI hF hW => ?_)
    obtain ⟨i, v, l⟩ := s
    obtain ⟨i0, i1, i2⟩ : (i ≤ ol.length) ∧ (l.length ≤ i) ∧ (foldP ol [] = foldP (ol.drop i) l) := hI
    have hF : Fr _ _ [(0, ov), (2, Value.pointer (some ⟨b1, 0, none⟩)), (3, Value.pointer (some ⟨b2, 0, none⟩)), (4, Value.pointer (some ⟨b3, 0, none⟩)), (7, Value.func (Fn.func 64) #[] #[Value.pointer (some ⟨b1, 0, none⟩), Value.pointer (some ⟨b2, 0, none⟩)]), (8, ov), (9, Value.int IntKind.i64 (ol.length : Int)), (10, Value.bool false), (11, ov), (12, Value.int IntKind.i64 (ol.length : Int)), (13, Value.int IntKind.i64 (i : Int))] a := hF
    have hW : Stw _ _ [(b3, [v]), (b2, [Value.int IntKind.i64 0]), (b1, [Value.int IntKind.i64 0])] [rowL v 3 1 encI l] w := hW
    refine c_seq ?_
    refine reg_list ?_
    refine ls hF hW rfl (y_lss hF rfl rfl) (fun a w hF hW => ?_)
    refine ls_nil ?_
    refine c_then ?_
    refine c_seq ?_
    refine c_cond hF rfl (fun hb => ?_) (fun hb => ?_)
    ·
      have c2 := of_decide_eq_true hb
      simp only [hb] at hF
      clear hb
      refine wp_skip ?_
      refine c_then ?_
      refine c_seq ?_
      refine wp_block ?_
      refine c_seq ?_
      refine reg_list ?_
      refine ls hF hW rfl (y_index i L37 hF rfl rfl (fun w hW => hv.old hW) rfl (by first | omega | (simp only [List.length_append, List.length_cons, List.length_nil, List.length_take] at *; omega))) (fun a w hF hW => ?_)
      refine ls hF hW rfl (y_load_els (y := Value.agg #[Value.int IntKind.i64 ((ol.getD i ((0, 0) : Int × Int)).1), Value.int IntKind.i64 ((ol.getD i ((0, 0) : Int × Int)).2)]) (k := i) (j := 0) ((0, 0) : Int × Int) hF rfl rfl (fun w hW => hv.old hW) (by first | omega | (simp only [List.length_append, List.length_cons, List.length_nil, List.length_take] at *; omega)) rfl T42 rfl rfl) (fun a w hF hW => ?_)
      refine l_alloc (cs := [Value.int IntKind.i64 0, Value.int IntKind.i64 0]) hF hW rfl Z42 rfl (fun b4 a w hF hW => ?_)
      refine l_store (vs := [Value.int IntKind.i64 ((ol.getD i ((0, 0) : Int × Int)).1), Value.int IntKind.i64 ((ol.getD i ((0, 0) : Int × Int)).2)]) (M' := [(b4, [Value.int IntKind.i64 ((ol.getD i ((0, 0) : Int × Int)).1), Value.int IntKind.i64 ((ol.getD i ((0, 0) : Int × Int)).2)]), (b3, [v]), (b2, [Value.int IntKind.i64 0]), (b1, [Value.int IntKind.i64 0])]) 0 hF hW rfl rfl rfl T42 rfl rfl rfl rfl rfl (fun w hW => ?_)
      refine ls_nil ?_
      refine c_then ?_
      refine reg_list ?_
      refine ls hF hW rfl (y_load (v := Value.agg #[Value.int IntKind.i64 ((ol.getD i ((0, 0) : Int × Int)).1), Value.int IntKind.i64 ((ol.getD i ((0, 0) : Int × Int)).2)]) 0 hF rfl rfl T42 rfl) (fun a w hF hW => ?_)
      have hW := hW.frontM (i := 1) rfl rfl
      have hcall := perform_any b3 v l ((ol.getD i ((0, 0) : Int × Int)).1) ((ol.getD i ((0, 0) : Int × Int)).2) w hW (by first | omega | (simp only [List.length_append, List.length_cons, List.length_nil, List.length_take] at *; omega))
      cases hcs : pstep l ((ol.getD i ((0, 0) : Int × Int)).1) ((ol.getD i ((0, 0) : Int × Int)).2) with
      | ok l2 =>
        rw [hcs] at hcall
        refine l_call_fr hF H65 rfl rfl hcall (fun v1 a w hF hW => ?_)
        refine ls_nil ?_
        refine b_normal ?_
        refine c_then ?_
        refine reg_list ?_
        refine ls hF hW rfl (y_add hF rfl rfl (r := (i : Int) + 1) (IntWalk.i64_in _ (by omega))) (fun a w hF hW => ?_)
        refine ls hF hW rfl (y_move hF rfl) (fun a w hF hW => ?_)
        refine ls_nil ?_
        refine c_then ?_
        have j0 : (i + 1) ≤ ol.length := by omega
        have j1 : l2.length ≤ (i + 1) := by have := pstep_len _ _ _ _ hcs; omega
        have j2 : foldP ol [] = foldP (ol.drop (i + 1)) l2 := by rw [i2]; exact fold_ok ol i l l2 (by omega) hcs
        have jm : ol.length - (i + 1) < ol.length - i := by omega
        have hW := hW.frontM (i := 3) rfl rfl
        have hW := hW.frontM (i := 3) rfl rfl
        have hW := hW.frontM (i := 2) rfl rfl
        have hW := hW.subM (M' := [(b3, [v1]), (b2, [Value.int IntKind.i64 0]), (b1, [Value.int IntKind.i64 0])]) (List.Sublist.cons_cons _ (List.Sublist.cons_cons _ (List.Sublist.cons_cons _ (List.nil_sublist _))))
        exact ⟨(i + 1, v1, l2), ⟨j0, j1, j2⟩, jm, hF.re ⟨rfl, rfl, rfl, rfl, rfl, rfl, rfl, rfl, rfl, rfl, rfl, trivial⟩, hW⟩
      | error ec =>
        rw [hcs] at hcall
        refine l_call_fp hF H65 rfl hcall (fun w hW => ?_)
        refine p_block ?_
        refine p_then ?_
        refine p_then ?_
        refine p_block ?_
        refine p_then ?_
        have hW := hW.frontM (i := 2) rfl rfl
        have hW := hW.frontM (i := 2) rfl rfl
        refine postD_panic hF ?_
        refine leaves_of H64 (by simp) (cEval_catch b1 b2 _ _ ec w hW) ?_
        rintro e u' w ⟨rfl, rfl, hW⟩
        refine leaves2 hW rfl (rv_cell (v := Value.int IntKind.i64 0) 1 hF rfl rfl T3 rfl) (rv_cell (v := Value.int IntKind.i64 ec) 0 hF rfl rfl T22 rfl) ?_
        exact ⟨congrArg Ending.returned (vtuple (lcons (vint (show ((0 : Int)) = (evalT ol).1 by first | (exfalso; omega) | (rw [evalT, if_pos (by omega)]) | (rw [evalT, if_neg (by omega), i2, fold_err ol i l ec (by omega) hcs]) | (have hd : ol.drop i = [] := (by apply List.drop_eq_nil_of_le; omega); rw [evalT, if_neg (by omega), i2, hd]; simp only [foldP]; first | (rw [if_pos (by omega)]; try (rw [show l.length - 1 = 0 by omega])) | (rw [if_neg (by omega)])))) (lcons (vint (show (ec) = (evalT ol).2 by first | (exfalso; omega) | (rw [evalT, if_pos (by omega)]) | (rw [evalT, if_neg (by omega), i2, fold_err ol i l ec (by omega) hcs]) | (have hd : ol.drop i = [] := (by apply List.drop_eq_nil_of_le; omega); rw [evalT, if_neg (by omega), i2, hd]; simp only [foldP]; first | (rw [if_pos (by omega)]; try (rw [show l.length - 1 = 0 by omega])) | (rw [if_neg (by omega)])))) rfl))), hW.frm.below⟩
    ·
      have c2 := of_decide_eq_false hb
      simp only [hb] at hF
      clear hb
      refine wp_exit ?_
      refine e_then ?_
      refine e_then ?_
      refine e_block ?_
      refine c_then ?_
      refine c_seq ?_
      refine c_seq ?_
      refine reg_list ?_
      refine ls hF hW rfl (y_fieldAddr Try.underlying73 rfl rfl rfl T71 hF rfl 0 rfl) (fun a w hF hW => ?_)
      refine ls hF hW rfl (y_load (v := v) 0 hF rfl rfl T71 rfl) (fun a w hF hW => ?_)
      refine ls hF hW rfl (y_len Try.underlying71 rfl hF rfl (fun w hW => hW.rdRow 0 encI_len rfl)) (fun a w hF hW => ?_)
      refine ls hF hW rfl (y_neq hF rfl rfl) (fun a w hF hW => ?_)
      refine ls_nil ?_
      refine c_then ?_
      refine c_cond hF rfl (fun hb => ?_) (fun hb => ?_)
      ·
        have c3 := of_decide_eq_true hb
        simp only [hb] at hF
        clear hb
        refine c_seq ?_
        refine reg_list ?_
        refine l_store (vs := [Value.int IntKind.i64 0]) (M' := [(b3, [v]), (b2, [Value.int IntKind.i64 0]), (b1, [Value.int IntKind.i64 0])]) 2 hF hW rfl rfl rfl T3 rfl rfl rfl rfl rfl (fun w hW => ?_)
        refine l_store (vs := [Value.int IntKind.i64 2]) (M' := [(b3, [v]), (b2, [Value.int IntKind.i64 2]), (b1, [Value.int IntKind.i64 0])]) 1 hF hW rfl rfl rfl T22 rfl rfl rfl rfl rfl (fun w hW => ?_)
        refine ls_nil ?_
        refine c_then ?_
        refine wp_ret ?_
        refine r_then ?_
        have hW := hW.frontM (i := 2) rfl rfl
        have hW := hW.frontM (i := 2) rfl rfl
        refine postD_ret (.inl rfl) hF ?_
        refine leaves_of H64 (by simp) (cEval_idle b1 b2 _ _ w hW) ?_
        rintro e u' w ⟨rfl, rfl, hW⟩
        refine leaves2 hW rfl (rv_cell (v := Value.int IntKind.i64 0) 1 hF rfl rfl T3 rfl) (rv_cell (v := Value.int IntKind.i64 2) 0 hF rfl rfl T22 rfl) ?_
        exact ⟨congrArg Ending.returned (vtuple (lcons (vint (show ((0 : Int)) = (evalT ol).1 by first | (exfalso; omega) | (rw [evalT, if_pos (by omega)]) | (rw [evalT, if_neg (by omega), i2, fold_err ol i l ec (by omega) hcs]) | (have hd : ol.drop i = [] := (by apply List.drop_eq_nil_of_le; omega); rw [evalT, if_neg (by omega), i2, hd]; simp only [foldP]; first | (rw [if_pos (by omega)]; try (rw [show l.length - 1 = 0 by omega])) | (rw [if_neg (by omega)])))) (lcons (vint (show ((2 : Int)) = (evalT ol).2 by first | (exfalso; omega) | (rw [evalT, if_pos (by omega)]) | (rw [evalT, if_neg (by omega), i2, fold_err ol i l ec (by omega) hcs]) | (have hd : ol.drop i = [] := (by apply List.drop_eq_nil_of_le; omega); rw [evalT, if_neg (by omega), i2, hd]; simp only [foldP]; first | (rw [if_pos (by omega)]; try (rw [show l.length - 1 = 0 by omega])) | (rw [if_neg (by omega)])))) rfl))), hW.frm.below⟩
      ·
        have c3 := of_decide_eq_false hb
        simp only [hb] at hF
        clear hb
        refine wp_skip ?_
        refine c_then ?_
        refine c_seq ?_
        refine reg_list ?_
        by_cases c4 : 0 < l.length
        ·
          refine l_call_fr hF H66 rfl rfl (pop_ok b3 v l c4 w hW (by first | omega | (simp only [List.length_append, List.length_cons, List.length_nil, List.length_take] at *; omega))) (fun v2 a w hF hW => ?_)
          refine l_store (vs := [Value.int IntKind.i64 (l.getD (l.length - 1) 0)]) (M' := [(b3, [v2]), (b2, [Value.int IntKind.i64 0]), (b1, [Value.int IntKind.i64 (l.getD (l.length - 1) 0)])]) 2 hF hW rfl rfl rfl T3 rfl rfl rfl rfl rfl (fun w hW => ?_)
          refine l_store (vs := [Value.int IntKind.i64 0]) (M' := [(b3, [v2]), (b2, [Value.int IntKind.i64 0]), (b1, [Value.int IntKind.i64 (l.getD (l.length - 1) 0)])]) 1 hF hW rfl rfl rfl T22 rfl rfl rfl rfl rfl (fun w hW => ?_)
          refine ls_nil ?_
          refine c_then ?_
          refine wp_ret ?_
          have hW := hW.frontM (i := 2) rfl rfl
          have hW := hW.frontM (i := 2) rfl rfl
          refine postD_ret (.inl rfl) hF ?_
          refine leaves_of H64 (by simp) (cEval_idle b1 b2 _ _ w hW) ?_
          rintro e u' w ⟨rfl, rfl, hW⟩
          refine leaves2 hW rfl (rv_cell (v := Value.int IntKind.i64 (l.getD (l.length - 1) 0)) 1 hF rfl rfl T3 rfl) (rv_cell (v := Value.int IntKind.i64 0) 0 hF rfl rfl T22 rfl) ?_
          exact ⟨congrArg Ending.returned (vtuple (lcons (vint (show (l.getD (l.length - 1) 0) = (evalT ol).1 by first | (exfalso; omega) | (rw [evalT, if_pos (by omega)]) | (rw [evalT, if_neg (by omega), i2, fold_err ol i l ec (by omega) hcs]) | (have hd : ol.drop i = [] := (by apply List.drop_eq_nil_of_le; omega); rw [evalT, if_neg (by omega), i2, hd]; simp only [foldP]; first | (rw [if_pos (by omega)]; try (rw [show l.length - 1 = 0 by omega])) | (rw [if_neg (by omega)])))) (lcons (vint (show ((0 : Int)) = (evalT ol).2 by first | (exfalso; omega) | (rw [evalT, if_pos (by omega)]) | (rw [evalT, if_neg (by omega), i2, fold_err ol i l ec (by omega) hcs]) | (have hd : ol.drop i = [] := (by apply List.drop_eq_nil_of_le; omega); rw [evalT, if_neg (by omega), i2, hd]; simp only [foldP]; first | (rw [if_pos (by omega)]; try (rw [show l.length - 1 = 0 by omega])) | (rw [if_neg (by omega)])))) rfl))), hW.frm.below⟩
        ·
          refine l_call_fp hF H66 rfl (pop_no b3 v l (by omega) w hW (by first | omega | (simp only [List.length_append, List.length_cons, List.length_nil, List.length_take] at *; omega))) (fun w hW => ?_)
          refine p_then ?_
          refine postD_panic hF ?_
          refine leaves_of H64 (by simp) (cEval_catch b1 b2 _ _ 2 w hW) ?_
          rintro e u' w ⟨rfl, rfl, hW⟩
          refine leaves2 hW rfl (rv_cell (v := Value.int IntKind.i64 0) 1 hF rfl rfl T3 rfl) (rv_cell (v := Value.int IntKind.i64 2) 0 hF rfl rfl T22 rfl) ?_
          exact ⟨congrArg Ending.returned (vtuple (lcons (vint (show ((0 : Int)) = (evalT ol).1 by first | (exfalso; omega) | (rw [evalT, if_pos (by omega)]) | (rw [evalT, if_neg (by omega), i2, fold_err ol i l ec (by omega) hcs]) | (have hd : ol.drop i = [] := (by apply List.drop_eq_nil_of_le; omega); rw [evalT, if_neg (by omega), i2, hd]; simp only [foldP]; first | (rw [if_pos (by omega)]; try (rw [show l.length - 1 = 0 by omega])) | (rw [if_neg (by omega)])))) (lcons (vint (show ((2 : Int)) = (evalT ol).2 by first | (exfalso; omega) | (rw [evalT, if_pos (by omega)]) | (rw [evalT, if_neg (by omega), i2, fold_err ol i l ec (by omega) hcs]) | (have hd : ol.drop i = [] := (by apply List.drop_eq_nil_of_le; omega); rw [evalT, if_neg (by omega), i2, hd]; simp only [foldP]; first | (rw [if_pos (by omega)]; try (rw [show l.length - 1 = 0 by omega])) | (rw [if_neg (by omega)])))) rfl))), hW.frm.below⟩

theorem H11 : Has Try.prog 11 := ⟨fun args w => run_callFunc_body Try.func11 rfl (by decide) args w⟩
theorem H24 : Has Try.prog 24 := ⟨fun args w => run_callFunc_body Try.func24 rfl (by decide) args w⟩
theorem B42 : Bt Try.prog 42 [Value.int IntKind.i64 0, Value.int IntKind.i64 0] [(0, 1), (1, 1)] := ⟨⟨Value.agg #[Value.int IntKind.i64 0, Value.int IntKind.i64 0], by kernel_rfl, rfl⟩, ⟨_, Try.underlying42, fun w => by kernel_rfl⟩⟩
def awake1  : Bool := if ((evalT ([(1, 3), (1, 4), (4, 0), (7, 0)] : List (Int × Int))).1) = (-12) then if ((evalT ([(1, 3), (1, 4), (4, 0), (7, 0)] : List (Int × Int))).2) = 0 then if (tadd_0 1125899906842624 1) = 0 then decide ((tadd_1 1125899906842624 1) = 11) else false else false else false
theorem awake1_any  (w : World)  :
    Calls Try.prog 23 #[] w fun e w' => e = .returned (Value.bool awake1) ∧ Below w.heap.size w w' := by
  refine enter Try.func23 rfl Try.ntmps23 rfl (fun a hF => ?_)
  have hW := Stw.start w
  refine c_seq ?_
  refine reg_list ?_
  refine ls hF hW rfl (y_assign hF rfl) (fun a w hF hW => ?_)
  refine ls_nil ?_
  refine c_then ?_
  refine c_seq ?_
  refine reg_list ?_
  refine ls hF hW rfl (y_build (v := Value.agg #[Value.int IntKind.i64 1, Value.int IntKind.i64 3]) B42 hF rfl rfl rfl) (fun a w hF hW => ?_)
  refine ls hF hW rfl (y_build (v := Value.agg #[Value.int IntKind.i64 1, Value.int IntKind.i64 4]) B42 hF rfl rfl rfl) (fun a w hF hW => ?_)
  refine ls hF hW rfl (y_build (v := Value.agg #[Value.int IntKind.i64 4, Value.int IntKind.i64 0]) B42 hF rfl rfl rfl) (fun a w hF hW => ?_)
  refine ls hF hW rfl (y_build (v := Value.agg #[Value.int IntKind.i64 7, Value.int IntKind.i64 0]) B42 hF rfl rfl rfl) (fun a w hF hW => ?_)
  refine l_buildSlice (z := Value.agg #[Value.int IntKind.i64 0, Value.int IntKind.i64 0]) (cs := [Value.int IntKind.i64 1, Value.int IntKind.i64 3, Value.int IntKind.i64 1, Value.int IntKind.i64 4, Value.int IntKind.i64 4, Value.int IntKind.i64 0, Value.int IntKind.i64 7, Value.int IntKind.i64 0]) hF hW rfl L37 Z42 rfl rfl rfl rfl (fun b1 a w hF hW => ?_)
  refine ls hF hW rfl (y_call (v := Value.tuple #[Value.int IntKind.i64 ((evalT ([(1, 3), (1, 4), (4, 0), (7, 0)] : List (Int × Int))).1), Value.int IntKind.i64 ((evalT ([(1, 3), (1, 4), (4, 0), (7, 0)] : List (Int × Int))).2)]) hF H24 rfl (fun w hW => eval_any (Value.slice (some ⟨b1, 0, none⟩) 4 4) ([(1, 3), (1, 4), (4, 0), (7, 0)] : List (Int × Int)) w (hW.rdM (l := ([(1, 3), (1, 4), (4, 0), (7, 0)] : List (Int × Int))) (m := 4) 0 encOp_len rfl rfl rfl) (by first | decide | omega | (simp only [List.length_append, List.length_cons, List.length_nil, List.length_take] at *; omega)))) (fun a w hF hW => ?_)
  refine ls hF hW rfl (y_move hF rfl) (fun a w hF hW => ?_)
  refine ls hF hW rfl (y_extract (v := Value.int IntKind.i64 ((evalT ([(1, 3), (1, 4), (4, 0), (7, 0)] : List (Int × Int))).1)) hF rfl rfl) (fun a w hF hW => ?_)
  refine ls hF hW rfl (y_extract (v := Value.int IntKind.i64 ((evalT ([(1, 3), (1, 4), (4, 0), (7, 0)] : List (Int × Int))).2)) hF rfl rfl) (fun a w hF hW => ?_)
  refine ls hF hW rfl (y_assign hF rfl) (fun a w hF hW => ?_)
  refine ls hF hW rfl (y_assign hF rfl) (fun a w hF hW => ?_)
  refine ls_nil ?_
  refine c_then ?_
  refine c_seq ?_
  refine reg_list ?_
  refine ls hF hW rfl (y_call (v := Value.tuple #[Value.int IntKind.i64 (tadd_0 1125899906842624 1), Value.int IntKind.i64 (tadd_1 1125899906842624 1)]) hF H11 rfl (fun w _ => tadd_any 1125899906842624 1 w )) (fun a w hF hW => ?_)
  refine ls hF hW rfl (y_move hF rfl) (fun a w hF hW => ?_)
  refine ls hF hW rfl (y_extract (v := Value.int IntKind.i64 (tadd_0 1125899906842624 1)) hF rfl rfl) (fun a w hF hW => ?_)
  refine ls hF hW rfl (y_extract (v := Value.int IntKind.i64 (tadd_1 1125899906842624 1)) hF rfl rfl) (fun a w hF hW => ?_)
  refine ls hF hW rfl (y_assign hF rfl) (fun a w hF hW => ?_)
  refine ls hF hW rfl (y_assign hF rfl) (fun a w hF hW => ?_)
  refine ls_nil ?_
  refine c_then ?_
  refine c_seq ?_
  refine reg_list ?_
  refine ls hF hW rfl (y_move hF rfl) (fun a w hF hW => ?_)
  refine ls hF hW rfl (y_eql hF rfl rfl) (fun a w hF hW => ?_)
  refine ls hF hW rfl (y_move hF rfl) (fun a w hF hW => ?_)
  rcases Bool.eq_false_or_eq_true (decide (((evalT ([(1, 3), (1, 4), (4, 0), (7, 0)] : List (Int × Int))).1) = (-12))) with hb | hb
  ·
    have c1 := of_decide_eq_true hb
    simp only [hb] at hF
    clear hb
    refine ls_w hF hW (wanted_y hF rfl rfl rfl rfl) rfl (Nat.le_of_ble_eq_true rfl) (y_move hF rfl) (fun a w hF hW => ?_)
    refine ls_w hF hW (wanted_y hF rfl rfl rfl rfl) rfl (Nat.le_of_ble_eq_true rfl) (y_eql hF rfl rfl) (fun a w hF hW => ?_)
    refine ls hF hW rfl (y_pick_t hF rfl rfl rfl) (fun a w hF hW => ?_)
    refine ls hF hW rfl (y_move hF rfl) (fun a w hF hW => ?_)
    rcases Bool.eq_false_or_eq_true (decide (((evalT ([(1, 3), (1, 4), (4, 0), (7, 0)] : List (Int × Int))).2) = 0)) with hb | hb
    ·
      have c2 := of_decide_eq_true hb
      simp only [hb] at hF
      clear hb
      refine ls_w hF hW (wanted_y hF rfl rfl rfl rfl) rfl (Nat.le_of_ble_eq_true rfl) (y_move hF rfl) (fun a w hF hW => ?_)
      refine ls_w hF hW (wanted_y hF rfl rfl rfl rfl) rfl (Nat.le_of_ble_eq_true rfl) (y_eql hF rfl rfl) (fun a w hF hW => ?_)
      refine ls hF hW rfl (y_pick_t hF rfl rfl rfl) (fun a w hF hW => ?_)
      refine ls hF hW rfl (y_move hF rfl) (fun a w hF hW => ?_)
      rcases Bool.eq_false_or_eq_true (decide ((tadd_0 1125899906842624 1) = 0)) with hb | hb
      ·
        have c3 := of_decide_eq_true hb
        simp only [hb] at hF
        clear hb
        refine ls_w hF hW (wanted_y hF rfl rfl rfl rfl) rfl (Nat.le_of_ble_eq_true rfl) (y_move hF rfl) (fun a w hF hW => ?_)
        refine ls_w hF hW (wanted_y hF rfl rfl rfl rfl) rfl (Nat.le_of_ble_eq_true rfl) (y_eql hF rfl rfl) (fun a w hF hW => ?_)
        refine ls hF hW rfl (y_pick_t hF rfl rfl rfl) (fun a w hF hW => ?_)
        refine ls hF hW rfl (y_assign hF rfl) (fun a w hF hW => ?_)
        refine ls_nil ?_
        refine c_then ?_
        refine wp_ret ?_
        refine post1 (.inl rfl) hF hW rfl (rv_tmp hF rfl) ?_
        exact ⟨congrArg Ending.returned (vbool (show (decide ((tadd_1 1125899906842624 1) = 11)) = awake1 by rw [awake1, if_pos c1, if_pos c2, if_pos c3])), hW.frm.below⟩
      ·
        have c3 := of_decide_eq_false hb
        simp only [hb] at hF
        clear hb
        refine ls_skip hF (wanted_n hF rfl rfl rfl rfl rfl) rfl rfl (fun a hF => ?_)
        refine ls_skip hF (wanted_n hF rfl rfl rfl rfl rfl) rfl rfl (fun a hF => ?_)
        refine ls hF hW rfl (y_pick_f hF rfl rfl rfl) (fun a w hF hW => ?_)
        refine ls hF hW rfl (y_assign hF rfl) (fun a w hF hW => ?_)
        refine ls_nil ?_
        refine c_then ?_
        refine wp_ret ?_
        refine post1 (.inl rfl) hF hW rfl (rv_tmp hF rfl) ?_
        exact ⟨congrArg Ending.returned (vbool (show (false) = awake1 by rw [awake1, if_pos c1, if_pos c2, if_neg c3])), hW.frm.below⟩
    ·
      have c2 := of_decide_eq_false hb
      simp only [hb] at hF
      clear hb
      refine ls_skip hF (wanted_n hF rfl rfl rfl rfl rfl) rfl rfl (fun a hF => ?_)
      refine ls_skip hF (wanted_n hF rfl rfl rfl rfl rfl) rfl rfl (fun a hF => ?_)
      refine ls hF hW rfl (y_pick_f hF rfl rfl rfl) (fun a w hF hW => ?_)
      refine ls hF hW rfl (y_move hF rfl) (fun a w hF hW => ?_)
      refine ls_skip hF (wanted_n hF rfl rfl rfl rfl rfl) rfl rfl (fun a hF => ?_)
      refine ls_skip hF (wanted_n hF rfl rfl rfl rfl rfl) rfl rfl (fun a hF => ?_)
      refine ls hF hW rfl (y_pick_f hF rfl rfl rfl) (fun a w hF hW => ?_)
      refine ls hF hW rfl (y_assign hF rfl) (fun a w hF hW => ?_)
      refine ls_nil ?_
      refine c_then ?_
      refine wp_ret ?_
      refine post1 (.inl rfl) hF hW rfl (rv_tmp hF rfl) ?_
      exact ⟨congrArg Ending.returned (vbool (show (false) = awake1 by rw [awake1, if_pos c1, if_neg c2])), hW.frm.below⟩
  ·
    have c1 := of_decide_eq_false hb
    simp only [hb] at hF
    clear hb
    refine ls_skip hF (wanted_n hF rfl rfl rfl rfl rfl) rfl rfl (fun a hF => ?_)
    refine ls_skip hF (wanted_n hF rfl rfl rfl rfl rfl) rfl rfl (fun a hF => ?_)
    refine ls hF hW rfl (y_pick_f hF rfl rfl rfl) (fun a w hF hW => ?_)
    refine ls hF hW rfl (y_move hF rfl) (fun a w hF hW => ?_)
    refine ls_skip hF (wanted_n hF rfl rfl rfl rfl rfl) rfl rfl (fun a hF => ?_)
    refine ls_skip hF (wanted_n hF rfl rfl rfl rfl rfl) rfl rfl (fun a hF => ?_)
    refine ls hF hW rfl (y_pick_f hF rfl rfl rfl) (fun a w hF hW => ?_)
    refine ls hF hW rfl (y_move hF rfl) (fun a w hF hW => ?_)
    refine ls_skip hF (wanted_n hF rfl rfl rfl rfl rfl) rfl rfl (fun a hF => ?_)
    refine ls_skip hF (wanted_n hF rfl rfl rfl rfl rfl) rfl rfl (fun a hF => ?_)
    refine ls hF hW rfl (y_pick_f hF rfl rfl rfl) (fun a w hF hW => ?_)
    refine ls hF hW rfl (y_assign hF rfl) (fun a w hF hW => ?_)
    refine ls_nil ?_
    refine c_then ?_
    refine wp_ret ?_
    refine post1 (.inl rfl) hF hW rfl (rv_tmp hF rfl) ?_
    exact ⟨congrArg Ending.returned (vbool (show (false) = awake1 by rw [awake1, if_neg c1])), hW.frm.below⟩

theorem awake1_true : awake1 = true := by decide
end Go.Proofs.Ytcnhmbjkippnnaa
