/- The functions of layer 13, lifted. Conditions: none. -/
import Derived.Test.YtlogogcdfdocoaaA0
namespace Go.Proofs.Ytlogogcdfdocoaa
open Go Go.RowKit
set_option linter.unusedVariables false
set_option linter.unusedSimpArgs false
set_option maxRecDepth 20000
theorem H29 : Has Try.prog 29 := ⟨fun args w => run_callFunc_body Try.func29 rfl (by decide) args w⟩
noncomputable def slices_IndexFunc_int_int_l1 (p0 : List Int) (p1c0 : Int) : Int → Option (Int ⊕ (Unit ⊕ Int))
  | x1 => (if x1 < (p0.length : Int) then (ix p0 x1).bind fun x2 => (if (heap_Queue_int_Drop_1 x2 p1c0) = true then some (.inr (.inr x1)) else some (.inl (w64 (x1 + 1)))) else some (.inr (.inl ())))
noncomputable def slices_IndexFunc_int_int (p0 : List Int) (p1c0 : Int) : Option Int := orR (loopW (slices_IndexFunc_int_int_l1 p0 p1c0) 0) fun _ => some (-1)
theorem slices_IndexFunc_int_int_c (Y : Nat → Prop) (w0 : World) (v1 : Value) (q_p1c0 : Nat) (p0 : List Int) (p1c0 : Int) (r : Int) (H : slices_IndexFunc_int_int p0 p1c0 = some r) (h_v1 : Sl w0 (NX []) (Rp.int .i64) v1 p0) (a_q_p1c0 : At ⟨Y, [], w0⟩ q_p1c0 0 [.int .i64 p1c0]) :
    Calls Try.prog 28 #[v1, .func (.func 29) #[] #[.pointer (some ⟨q_p1c0, 0, none⟩)]] w0 fun e w' => e = .returned (.int .i64 r) ∧ Below w0.heap.size w0 w' := by
  refine enter Try.func28 rfl Try.ntmps28 rfl (fun a hF => ?_)
  have hW := Stw.start Y w0
  unfold slices_IndexFunc_int_int at H
  refine c_seq ?_
  refine reg_list ?_
  refine ls hF hW rfl ((y_assign hF rfl).q) (fun a w hF hW => ?_)
  refine ls_nil ?_
  refine c_then ?_
  obtain ⟨o1, G1, K1, L1⟩ := orE H
  refine c_seqJ (fun a w => some (Sum.inl ()) = some o1 ∧ Fr 19 [] [(4, .int .i64 0)] a ∧ Stw ⟨Y, [], w0⟩ [] [] w) ?_ ?_
  ·
    have H := G1
    clear G1 K1
    refine c_seq ?_
    refine reg_list ?_
    refine ls hF hW rfl ((y_move hF rfl).q) (fun a w hF hW => ?_)
    refine ls hF hW rfl ((y_len (r := (Rp.int .i64)) (l := p0) Try.underlying25 rfl hF rfl (rdc_ro h_v1)).q) (fun a w hF hW => ?_)
    refine ls hF hW rfl ((y_move hF rfl).q) (fun a w hF hW => ?_)
    refine ls_nil ?_
    refine c_then ?_
    refine wp_block ?_
    refine c_loopW H (fun s a w => Fr 19 [] [(0, v1), (1, .func (.func 29) #[] #[.pointer (some ⟨q_p1c0, 0, none⟩)]), (4, .int .i64 0), (7, .int .i64 (p0.length : Int)), (8, .int .i64 s)] a ∧ Stw ⟨Y, [], w0⟩ [] [] w) ⟨hF.re ⟨rfl, rfl, rfl, rfl, rfl, trivial⟩, hW⟩ (fun s o a w H L2 hR => ?_)
    obtain ⟨x1, rfl⟩ : ∃ x, x = s := ⟨s, rfl⟩
    obtain ⟨hF, hW⟩ := hR
    have hF : Fr 19 [] [(0, v1), (1, .func (.func 29) #[] #[.pointer (some ⟨q_p1c0, 0, none⟩)]), (4, .int .i64 0), (7, .int .i64 (p0.length : Int)), (8, .int .i64 x1)] a := hF
    have hW : Stw ⟨Y, [], w0⟩ [] [] w := hW
    rw [slices_IndexFunc_int_int_l1] at H
    refine c_seq ?_
    refine reg_list ?_
    refine ls hF hW rfl ((y_lss hF rfl rfl).q) (fun a w hF hW => ?_)
    refine ls_nil ?_
    refine c_then ?_
    refine c_seq ?_
    refine c_cond hF rfl (fun hb => ?_) (fun hb => ?_)
    ·
      have H := iteT (of_decide_eq_true hb) H
      rw [hb] at hF
      clear hb
      refine wp_skip ?_
      refine c_then ?_
      refine c_seq ?_
      refine wp_block ?_
      refine c_seq ?_
      refine reg_list ?_
      refine ls hF hW rfl ((y_move hF rfl).q) (fun a w hF hW => ?_)
      refine ls hF hW rfl ((y_assign hF rfl).q) (fun a w hF hW => ?_)
      refine ls_nil ?_
      refine c_then ?_
      refine c_seq ?_
      refine reg_list ?_
      refine ls hF hW rfl ((y_move hF rfl).q) (fun a w hF hW => ?_)
      refine ls hF hW rfl ((y_move hF rfl).q) (fun a w hF hW => ?_)
      refine ls hF hW rfl ((y_move hF rfl).q) (fun a w hF hW => ?_)
      obtain ⟨x2, h1, H⟩ := bindE H
      refine ls hF hW rfl ((y_index (r := (Rp.int .i64)) L25 hF rfl rfl (rdc_ro h_v1) h1).q) (fun a w hF hW => ?_)
      refine ls hF hW rfl ((y_load_el (y := Value.int .i64 x2) (j := 0) (i := x1) hF rfl rfl (rdc_ro h_v1) h1 Fl.int.to T3 rfl).q) (fun a w hF hW => ?_)
      refine ls hF hW rfl (y_callV (ws := [.int .i64 x2, .pointer (some ⟨q_p1c0, 0, none⟩)]) (v := Value.bool (heap_Queue_int_Drop_1 x2 p1c0)) hF H29 rfl (fun w hW => heap_Queue_int_Drop_1_c any w q_p1c0 x2 p1c0 _ rfl (At.re a_q_p1c0 hW))) (fun a w hF hW => ?_)
      refine ls_nil ?_
      refine c_then ?_
      refine c_cond hF rfl (fun hb => ?_) (fun hb => ?_)
      ·
        have H := iteT hb H
        rw [hb] at hF
        clear hb
        refine c_seq ?_
        refine reg_list ?_
        refine ls hF hW rfl ((y_move hF rfl).q) (fun a w hF hW => ?_)
        refine ls hF hW rfl ((y_assign hF rfl).q) (fun a w hF hW => ?_)
        refine ls_nil ?_
        refine c_then ?_
        refine wp_ret ?_
        refine r_block ?_
        refine r_then ?_
        refine r_then ?_
        refine r_block ?_
        refine r_then ?_
        have H := L2 _ H
        have H := L1 _ H
        have H := Option.some.inj H
        subst H
        refine post1 (.inl rfl) hF hW rfl (rv_tmp hF rfl) ?_
        exact ⟨rfl, hW.done⟩
      ·
        have H := iteF (by rw [hb]; decide) H
        rw [hb] at hF
        clear hb
        refine wp_skip ?_
        refine b_normal ?_
        refine c_then ?_
        refine reg_list ?_
        refine ls hF hW rfl ((y_add hF rfl rfl rfl).q) (fun a w hF hW => ?_)
        refine ls hF hW rfl ((y_move hF rfl).q) (fun a w hF hW => ?_)
        refine ls_nil ?_
        refine c_then ?_
        exact ⟨_, H, hF.re ⟨rfl, rfl, rfl, rfl, rfl, trivial⟩, hW⟩
    ·
      have H := iteF (of_decide_eq_false hb) H
      rw [hb] at hF
      clear hb
      refine wp_exit ?_
      refine e_then ?_
      refine e_then ?_
      refine e_block ?_
      refine c_then ?_
      have H := L2 _ H
      exact ⟨H, hF.re ⟨rfl, trivial⟩, hW⟩
  rintro a w ⟨hj, hF, hW⟩
  have H := K1 _ hj
  clear hj G1 K1 L1
  refine c_seq ?_
  refine reg_list ?_
  refine ls hF hW rfl ((y_assign hF rfl).q) (fun a w hF hW => ?_)
  refine ls_nil ?_
  refine c_then ?_
  refine wp_ret ?_
  have H := Option.some.inj H
  subst H
  refine post1 (.inl rfl) hF hW rfl (rv_tmp hF rfl) ?_
  exact ⟨rfl, hW.done⟩

theorem H28 : Has Try.prog 28 := ⟨fun args w => run_callFunc_body Try.func28 rfl (by decide) args w⟩
noncomputable def heap_Queue_int_Drop (p0 : List Int) (p1 : Int) : Option (Bool × List Int) := (slices_IndexFunc_int_int p0 p1).bind fun x1 => (if x1 < 0 then some (false, p0) else (heap_Queue_int_remove p0 x1).bind fun x2 => some (true, x2))
theorem heap_Queue_int_Drop_c (Y : Nat → Prop) (X : List Nat) (w0 : World) (q_p0 : Nat) (v1 : Value) (p0 : List Int) (p1 : Int) (r : Bool × List Int) (H : heap_Queue_int_Drop p0 p1 = some r) (hL : Stw ⟨Y, X, w0⟩ [(q_p0, [v1])] [row v1 3 (Rp.int .i64) p0] w0) :
    Calls Try.prog 15 #[.pointer (some ⟨q_p0, 0, none⟩), .int .i64 p1] w0 fun e w' => ∃ x : Value, e = .returned (.bool r.1) ∧ Stw ⟨Y, X, w0⟩ [(q_p0, [x])] [row (x) 3 (Rp.int .i64) r.2] w' := by
  refine enter Try.func15 rfl Try.ntmps15 rfl (fun a hF => ?_)
  have hW := hL
  unfold heap_Queue_int_Drop at H
  refine c_seq ?_
  refine reg_list ?_
  refine l_box (cs := [.int .i64 p1]) hF hW rfl rfl rfl (fun b1 a w hF hW => ?_)
  refine ls hF hW rfl ((y_assign hF rfl).q) (fun a w hF hW => ?_)
  refine ls_nil ?_
  refine c_then ?_
  refine c_seq ?_
  refine c_seq ?_
  refine reg_list ?_
  refine ls hF hW rfl ((y_move hF rfl).q) (fun a w hF hW => ?_)
  refine ls hF hW rfl ((y_peq_some_nil Try.underlying23 hF rfl rfl).q) (fun a w hF hW => ?_)
  refine ls_nil ?_
  refine c_then ?_
  refine c_cond_f hF rfl ?_
  refine wp_skip ?_
  refine c_then ?_
  refine c_seq ?_
  refine reg_list ?_
  refine ls hF hW rfl ((y_move hF rfl).q) (fun a w hF hW => ?_)
  refine ls hF hW rfl ((y_nilCheck hF rfl).q) (fun a w hF hW => ?_)
  refine ls hF hW rfl ((y_fieldAddr Try.underlying55 rfl rfl rfl T25 hF rfl 0 rfl).q) (fun a w hF hW => ?_)
  refine ls hF hW rfl ((y_load (v := v1) 1 hF rfl rfl T25 rfl).q) (fun a w hF hW => ?_)
  refine ls hF hW rfl ((y_makeFunc (us := []) (vs := [.pointer (some ⟨b1, 0, none⟩)]) hF rfl rfl).q) (fun a w hF hW => ?_)
  obtain ⟨x1, h1, H⟩ := bindE H
  refine ls hF hW rfl (y_call (v := Value.int .i64 x1) hF H28 rfl (fun w hW => slices_IndexFunc_int_int_c any w (v1) b1 p0 p1 _ h1 (((rdc_row 0 rfl) : Rdc _ _ _ _ _ _) w hW).nx (at_M hW 0 rfl))) (fun a w hF hW => ?_)
  refine ls hF hW rfl ((y_assign hF rfl).q) (fun a w hF hW => ?_)
  refine ls_nil ?_
  refine c_then ?_
  refine c_seq ?_
  refine c_seq ?_
  refine reg_list ?_
  refine ls hF hW rfl ((y_move hF rfl).q) (fun a w hF hW => ?_)
  refine ls hF hW rfl ((y_lss hF rfl rfl).q) (fun a w hF hW => ?_)
  refine ls_nil ?_
  refine c_then ?_
  refine c_cond hF rfl (fun hb => ?_) (fun hb => ?_)
  ·
    have H := iteT (of_decide_eq_true hb) H
    rw [hb] at hF
    clear hb
    refine c_seq ?_
    refine reg_list ?_
    refine ls hF hW rfl ((y_assign hF rfl).q) (fun a w hF hW => ?_)
    refine ls_nil ?_
    refine c_then ?_
    refine wp_ret ?_
    refine r_then ?_
    have H := Option.some.inj H
    subst H
    refine post1 (.inl rfl) hF hW rfl (rv_tmp hF rfl) ?_
    have hW := hW.frontM (i := 1) rfl rfl
    have hW := hW.sub (M' := [(q_p0, [v1])]) (Z' := [row v1 3 (Rp.int .i64) p0]) (List.Sublist.cons_cons _ (List.nil_sublist _)) (List.Sublist.refl _)
    exact ⟨(v1), rfl, hW⟩
  ·
    have H := iteF (of_decide_eq_false hb) H
    rw [hb] at hF
    clear hb
    refine wp_skip ?_
    refine c_then ?_
    refine c_seq ?_
    refine reg_list ?_
    refine ls hF hW rfl ((y_move hF rfl).q) (fun a w hF hW => ?_)
    refine ls hF hW rfl ((y_move hF rfl).q) (fun a w hF hW => ?_)
    obtain ⟨x2, h2, H⟩ := bindE H
    have hW := hW.frontM (i := 1) rfl rfl
    refine l_callG (Ml := [(q_p0, [v1])]) (Zl := [row v1 3 (Rp.int .i64) p0]) (M := [(b1, [.int .i64 p1])]) (Z := []) (β := Value) (rv := fun x => .tuple #[]) (MM := fun x => [(q_p0, [x])]) (ZZ := fun x => [row x 3 (Rp.int .i64) x2]) hF hW H26 rfl rfl (fun hL => heap_Queue_int_remove_c _ _ w q_p0 (v1) p0 x1 _ h2 hL) (fun x a w hF hW => ?_)
    obtain ⟨v2, rfl⟩ : ∃ y, y = x := ⟨x, rfl⟩
    have hW : Stw ⟨Y, X, w0⟩ [(q_p0, [v2]), (b1, [.int .i64 p1])] [row v2 3 (Rp.int .i64) x2] w := hW
    refine ls_nil ?_
    refine c_then ?_
    refine c_seq ?_
    refine reg_list ?_
    refine ls hF hW rfl ((y_assign hF rfl).q) (fun a w hF hW => ?_)
    refine ls_nil ?_
    refine c_then ?_
    refine wp_ret ?_
    have H := Option.some.inj H
    subst H
    refine post1 (.inl rfl) hF hW rfl (rv_tmp hF rfl) ?_
    have hW := hW.sub (M' := [(q_p0, [v2])]) (Z' := [row v2 3 (Rp.int .i64) x2]) (List.Sublist.cons_cons _ (List.nil_sublist _)) (List.Sublist.refl _)
    exact ⟨(v2), rfl, hW⟩

theorem H15 : Has Try.prog 15 := ⟨fun args w => run_callFunc_body Try.func15 rfl (by decide) args w⟩
noncomputable def L13_awake  : Option Bool := (heap_Queue_int_Push heap_New_int 3).bind fun x1 => (heap_Queue_int_Push x1 1).bind fun x2 => (heap_Queue_int_Push x2 2).bind fun x3 => (heap_Queue_int_Pop x3).bind fun x4 => (heap_Queue_int_Pop x4.2.2).bind fun x5 => (if (heap_Queue_int_Len x5.2.2) = 1 then (if x4.1 = 1 then (if x5.1 = 2 then (if x4.2.1 = true then (if x5.2.1 = true then (heap_Queue_int_Drain x5.2.2 9).bind fun x8 => (r13_Same x8.1 ([3] : List Int)).bind fun x9 => some (x9, x8.2) else some (false, x5.2.2)) else some (false, x5.2.2)) else some (false, x5.2.2)) else some (false, x5.2.2)) else some (false, x5.2.2)).bind fun (x6, x7) => some x6
theorem L13_awake_c (Y : Nat → Prop) (w0 : World)   (r : Bool) (H : L13_awake  = some r)  :
    Calls Try.prog 18 #[] w0 fun e w' => e = .returned (.bool r) ∧ Below w0.heap.size w0 w' := by
  refine enter Try.func18 rfl Try.ntmps18 rfl (fun a hF => ?_)
  have hW := Stw.start Y w0
  unfold L13_awake at H
  refine c_seq ?_
  refine reg_list ?_
  refine ls hF hW rfl ((y_assign hF rfl).q) (fun a w hF hW => ?_)
  refine ls_nil ?_
  refine c_then ?_
  refine c_seq ?_
  refine reg_list ?_
  refine l_callG (Ml := []) (Zl := []) (M := []) (Z := []) (β := Nat × Value) (rv := fun x => .pointer (some ⟨x.1, 0, none⟩)) (MM := fun x => [(x.1, [x.2])]) (ZZ := fun x => [row x.2 3 (Rp.int .i64) heap_New_int]) hF hW H6 rfl rfl (fun hL => heap_New_int_c _ w _ rfl) (fun x a w hF hW => ?_)
  obtain ⟨b1, v1⟩ := x
  have hW : Stw ⟨Y, [], w0⟩ [(b1, [v1])] [row v1 3 (Rp.int .i64) heap_New_int] w := hW
  refine ls hF hW rfl ((y_assign hF rfl).q) (fun a w hF hW => ?_)
  refine ls_nil ?_
  refine c_then ?_
  refine c_seq ?_
  refine reg_list ?_
  refine ls hF hW rfl ((y_move hF rfl).q) (fun a w hF hW => ?_)
  obtain ⟨x1, h1, H⟩ := bindE H
  refine l_callG (Ml := [(b1, [v1])]) (Zl := [row v1 3 (Rp.int .i64) heap_New_int]) (M := []) (Z := []) (β := Value) (rv := fun x => .tuple #[]) (MM := fun x => [(b1, [x])]) (ZZ := fun x => [row x 3 (Rp.int .i64) x1]) hF hW H7 rfl rfl (fun hL => heap_Queue_int_Push_c _ _ w b1 (v1) heap_New_int 3 _ h1 hL) (fun x a w hF hW => ?_)
  obtain ⟨v2, rfl⟩ : ∃ y, y = x := ⟨x, rfl⟩
  have hW : Stw ⟨Y, [], w0⟩ [(b1, [v2])] [row v2 3 (Rp.int .i64) x1] w := hW
  refine ls_nil ?_
  refine c_then ?_
  refine c_seq ?_
  refine reg_list ?_
  refine ls hF hW rfl ((y_move hF rfl).q) (fun a w hF hW => ?_)
  obtain ⟨x2, h2, H⟩ := bindE H
  refine l_callG (Ml := [(b1, [v2])]) (Zl := [row v2 3 (Rp.int .i64) x1]) (M := []) (Z := []) (β := Value) (rv := fun x => .tuple #[]) (MM := fun x => [(b1, [x])]) (ZZ := fun x => [row x 3 (Rp.int .i64) x2]) hF hW H7 rfl rfl (fun hL => heap_Queue_int_Push_c _ _ w b1 (v2) x1 1 _ h2 hL) (fun x a w hF hW => ?_)
  obtain ⟨v3, rfl⟩ : ∃ y, y = x := ⟨x, rfl⟩
  have hW : Stw ⟨Y, [], w0⟩ [(b1, [v3])] [row v3 3 (Rp.int .i64) x2] w := hW
  refine ls_nil ?_
  refine c_then ?_
  refine c_seq ?_
  refine reg_list ?_
  refine ls hF hW rfl ((y_move hF rfl).q) (fun a w hF hW => ?_)
  obtain ⟨x3, h3, H⟩ := bindE H
  refine l_callG (Ml := [(b1, [v3])]) (Zl := [row v3 3 (Rp.int .i64) x2]) (M := []) (Z := []) (β := Value) (rv := fun x => .tuple #[]) (MM := fun x => [(b1, [x])]) (ZZ := fun x => [row x 3 (Rp.int .i64) x3]) hF hW H7 rfl rfl (fun hL => heap_Queue_int_Push_c _ _ w b1 (v3) x2 2 _ h3 hL) (fun x a w hF hW => ?_)
  obtain ⟨v4, rfl⟩ : ∃ y, y = x := ⟨x, rfl⟩
  have hW : Stw ⟨Y, [], w0⟩ [(b1, [v4])] [row v4 3 (Rp.int .i64) x3] w := hW
  refine ls_nil ?_
  refine c_then ?_
  refine c_seq ?_
  refine reg_list ?_
  refine ls hF hW rfl ((y_move hF rfl).q) (fun a w hF hW => ?_)
  obtain ⟨x4, h4, H⟩ := bindE H
  refine l_callG (Ml := [(b1, [v4])]) (Zl := [row v4 3 (Rp.int .i64) x3]) (M := []) (Z := []) (β := Value) (rv := fun x => .tuple #[.int .i64 x4.1, .bool x4.2.1]) (MM := fun x => [(b1, [x])]) (ZZ := fun x => [row x 3 (Rp.int .i64) x4.2.2]) hF hW H9 rfl rfl (fun hL => heap_Queue_int_Pop_c _ _ w b1 (v4) x3 _ h4 hL) (fun x a w hF hW => ?_)
  obtain ⟨v5, rfl⟩ : ∃ y, y = x := ⟨x, rfl⟩
  have hW : Stw ⟨Y, [], w0⟩ [(b1, [v5])] [row v5 3 (Rp.int .i64) x4.2.2] w := hW
  refine ls hF hW rfl ((y_move hF rfl).q) (fun a w hF hW => ?_)
  refine ls hF hW rfl ((y_extract (v := Value.int .i64 x4.1) hF rfl rfl).q) (fun a w hF hW => ?_)
  refine ls hF hW rfl ((y_extract (v := Value.bool x4.2.1) hF rfl rfl).q) (fun a w hF hW => ?_)
  refine ls hF hW rfl ((y_assign hF rfl).q) (fun a w hF hW => ?_)
  refine ls hF hW rfl ((y_assign hF rfl).q) (fun a w hF hW => ?_)
  refine ls_nil ?_
  refine c_then ?_
  refine c_seq ?_
  refine reg_list ?_
  refine ls hF hW rfl ((y_move hF rfl).q) (fun a w hF hW => ?_)
  obtain ⟨x5, h5, H⟩ := bindE H
  refine l_callG (Ml := [(b1, [v5])]) (Zl := [row v5 3 (Rp.int .i64) x4.2.2]) (M := []) (Z := []) (β := Value) (rv := fun x => .tuple #[.int .i64 x5.1, .bool x5.2.1]) (MM := fun x => [(b1, [x])]) (ZZ := fun x => [row x 3 (Rp.int .i64) x5.2.2]) hF hW H9 rfl rfl (fun hL => heap_Queue_int_Pop_c _ _ w b1 (v5) x4.2.2 _ h5 hL) (fun x a w hF hW => ?_)
  obtain ⟨v6, rfl⟩ : ∃ y, y = x := ⟨x, rfl⟩
  have hW : Stw ⟨Y, [], w0⟩ [(b1, [v6])] [row v6 3 (Rp.int .i64) x5.2.2] w := hW
  refine ls hF hW rfl ((y_move hF rfl).q) (fun a w hF hW => ?_)
  refine ls hF hW rfl ((y_extract (v := Value.int .i64 x5.1) hF rfl rfl).q) (fun a w hF hW => ?_)
  refine ls hF hW rfl ((y_extract (v := Value.bool x5.2.1) hF rfl rfl).q) (fun a w hF hW => ?_)
  refine ls hF hW rfl ((y_assign hF rfl).q) (fun a w hF hW => ?_)
  refine ls hF hW rfl ((y_assign hF rfl).q) (fun a w hF hW => ?_)
  refine ls_nil ?_
  refine c_then ?_
  obtain ⟨o1, G1, K1⟩ := bindE H
  refine c_seqJ (fun a w => ∃ x6 : Bool, ∃ x7 : List Int, ∃ v7 : Value, some ((x6, x7)) = some o1 ∧ Fr 46 [] [(0, .bool x6)] a ∧ Stw ⟨Y, [], w0⟩ [(b1, [v7])] [row v7 3 (Rp.int .i64) x7] w) ?_ ?_
  ·
    have H := G1
    clear G1 K1
    refine reg_list ?_
    refine ls hF hW rfl ((y_move hF rfl).q) (fun a w hF hW => ?_)
    refine ls hF hW rfl (y_call (v := Value.int .i64 (heap_Queue_int_Len x5.2.2)) hF H17 rfl (fun w hW => heap_Queue_int_Len_c any w b1 (v6) x5.2.2 _ rfl (((rdc_row 0 rfl) : Rdc _ _ _ _ _ _) w hW).nx (at_M hW 0 rfl))) (fun a w hF hW => ?_)
    refine ls hF hW rfl ((y_eql hF rfl rfl).q) (fun a w hF hW => ?_)
    refine ls hF hW rfl ((y_move hF rfl).q) (fun a w hF hW => ?_)
    rcases Bool.eq_false_or_eq_true (decide ((heap_Queue_int_Len x5.2.2) = 1)) with hb | hb
    ·
      have H := iteT (of_decide_eq_true hb) H
      rw [hb] at hF
      clear hb
      refine ls_w hF hW (wanted_y hF rfl rfl rfl rfl) rfl (Nat.le_of_ble_eq_true rfl) ((y_move hF rfl).q) (fun a w hF hW => ?_)
      refine ls_w hF hW (wanted_y hF rfl rfl rfl rfl) rfl (Nat.le_of_ble_eq_true rfl) ((y_eql hF rfl rfl).q) (fun a w hF hW => ?_)
      refine ls hF hW rfl ((y_pick_t hF rfl rfl rfl).q) (fun a w hF hW => ?_)
      refine ls hF hW rfl ((y_move hF rfl).q) (fun a w hF hW => ?_)
      rcases Bool.eq_false_or_eq_true (decide (x4.1 = 1)) with hb | hb
      ·
        have H := iteT (of_decide_eq_true hb) H
        rw [hb] at hF
        clear hb
        refine ls_w hF hW (wanted_y hF rfl rfl rfl rfl) rfl (Nat.le_of_ble_eq_true rfl) ((y_move hF rfl).q) (fun a w hF hW => ?_)
        refine ls_w hF hW (wanted_y hF rfl rfl rfl rfl) rfl (Nat.le_of_ble_eq_true rfl) ((y_eql hF rfl rfl).q) (fun a w hF hW => ?_)
        refine ls hF hW rfl ((y_pick_t hF rfl rfl rfl).q) (fun a w hF hW => ?_)
        refine ls hF hW rfl ((y_move hF rfl).q) (fun a w hF hW => ?_)
        rcases Bool.eq_false_or_eq_true (decide (x5.1 = 2)) with hb | hb
        ·
          have H := iteT (of_decide_eq_true hb) H
          rw [hb] at hF
          clear hb
          refine ls_w hF hW (wanted_y hF rfl rfl rfl rfl) rfl (Nat.le_of_ble_eq_true rfl) ((y_move hF rfl).q) (fun a w hF hW => ?_)
          refine ls hF hW rfl ((y_pick_t hF rfl rfl rfl).q) (fun a w hF hW => ?_)
          refine ls hF hW rfl ((y_move hF rfl).q) (fun a w hF hW => ?_)
          rcases Bool.eq_false_or_eq_true x4.2.1 with hb | hb
          ·
            have H := iteT hb H
            rw [hb] at hF
            clear hb
            refine ls_w hF hW (wanted_y hF rfl rfl rfl rfl) rfl (Nat.le_of_ble_eq_true rfl) ((y_move hF rfl).q) (fun a w hF hW => ?_)
            refine ls hF hW rfl ((y_pick_t hF rfl rfl rfl).q) (fun a w hF hW => ?_)
            refine ls hF hW rfl ((y_move hF rfl).q) (fun a w hF hW => ?_)
            rcases Bool.eq_false_or_eq_true x5.2.1 with hb | hb
            ·
              have H := iteT hb H
              rw [hb] at hF
              clear hb
              refine ls_w hF hW (wanted_y hF rfl rfl rfl rfl) rfl (Nat.le_of_ble_eq_true rfl) ((y_move hF rfl).q) (fun a w hF hW => ?_)
              refine ls_g (wanted_y hF rfl rfl rfl rfl) ?_
              obtain ⟨x8, h6, H⟩ := bindE H
              refine l_callG (Ml := [(b1, [v6])]) (Zl := [row v6 3 (Rp.int .i64) x5.2.2]) (M := []) (Z := []) (β := Value × Value) (rv := fun x => x.1) (MM := fun x => [(b1, [x.2])]) (ZZ := fun x => [row x.2 3 (Rp.int .i64) x8.2, row x.1 3 (Rp.int .i64) x8.1]) hF hW H13 rfl rfl (fun hL => heap_Queue_int_Drain_c _ _ w b1 (v6) x5.2.2 9 _ h6 hL) (fun x a w hF hW => ?_)
              obtain ⟨v8, v9⟩ := x
              have hW : Stw ⟨Y, [], w0⟩ [(b1, [v9])] [row v9 3 (Rp.int .i64) x8.2, row v8 3 (Rp.int .i64) x8.1] w := hW
              refine ls_g (wanted_y hF rfl rfl rfl rfl) ?_
              refine l_lit (z := Value.int .i64 0) (cs := [.int .i64 3]) (Rp.int .i64) ([3] : List Int) hF hW rfl L25 Z3 rfl rfl rfl rfl rfl rfl (Fl.int.repL _ _ ([3] : List Int)) (fun v10 a w hF hW => ?_)
              refine ls_g (wanted_y hF rfl rfl rfl rfl) ?_
              obtain ⟨x9, h7, H⟩ := bindE H
              refine ls hF hW rfl (y_call (v := Value.bool x9) hF H12 rfl (fun w hW => r13_Same_c any w (v8) (v10) x8.1 ([3] : List Int) _ h7 (((rdc_row 2 rfl) : Rdc _ _ _ _ _ _) w hW).nx (((rdc_row 0 rfl) : Rdc _ _ _ _ _ _) w hW).nx)) (fun a w hF hW => ?_)
              refine ls hF hW rfl ((y_pick_t hF rfl rfl rfl).q) (fun a w hF hW => ?_)
              refine ls hF hW rfl ((y_assign hF rfl).q) (fun a w hF hW => ?_)
              refine ls_nil ?_
              refine c_then ?_
              have hW := hW.frontZ (i := 1) rfl rfl
              have hW := hW.sub (M' := [(b1, [v9])]) (Z' := [row v9 3 (Rp.int .i64) x8.2]) (List.Sublist.refl _) (List.Sublist.cons_cons _ (List.nil_sublist _))
              exact ⟨_, _, (v9), H, hF.re ⟨rfl, trivial⟩, hW⟩
            ·
              have H := iteF (by rw [hb]; decide) H
              rw [hb] at hF
              clear hb
              refine ls_skip hF (wanted_n hF rfl rfl rfl rfl rfl) rfl rfl (fun a hF => ?_)
              refine ls_skip hF (wanted_n hF rfl rfl rfl rfl rfl) rfl rfl (fun a hF => ?_)
              refine ls_skip hF (wanted_n hF rfl rfl rfl rfl rfl) rfl rfl (fun a hF => ?_)
              refine ls_skip hF (wanted_n hF rfl rfl rfl rfl rfl) rfl rfl (fun a hF => ?_)
              refine ls hF hW rfl ((y_pick_f hF rfl rfl rfl).q) (fun a w hF hW => ?_)
              refine ls hF hW rfl ((y_assign hF rfl).q) (fun a w hF hW => ?_)
              refine ls_nil ?_
              refine c_then ?_
              exact ⟨_, _, (v6), H, hF.re ⟨rfl, trivial⟩, hW⟩
          ·
            have H := iteF (by rw [hb]; decide) H
            rw [hb] at hF
            clear hb
            refine ls_skip hF (wanted_n hF rfl rfl rfl rfl rfl) rfl rfl (fun a hF => ?_)
            refine ls hF hW rfl ((y_pick_f hF rfl rfl rfl).q) (fun a w hF hW => ?_)
            refine ls hF hW rfl ((y_move hF rfl).q) (fun a w hF hW => ?_)
            refine ls_skip hF (wanted_n hF rfl rfl rfl rfl rfl) rfl rfl (fun a hF => ?_)
            refine ls_skip hF (wanted_n hF rfl rfl rfl rfl rfl) rfl rfl (fun a hF => ?_)
            refine ls_skip hF (wanted_n hF rfl rfl rfl rfl rfl) rfl rfl (fun a hF => ?_)
            refine ls_skip hF (wanted_n hF rfl rfl rfl rfl rfl) rfl rfl (fun a hF => ?_)
            refine ls hF hW rfl ((y_pick_f hF rfl rfl rfl).q) (fun a w hF hW => ?_)
            refine ls hF hW rfl ((y_assign hF rfl).q) (fun a w hF hW => ?_)
            refine ls_nil ?_
            refine c_then ?_
            exact ⟨_, _, (v6), H, hF.re ⟨rfl, trivial⟩, hW⟩
        ·
          have H := iteF (of_decide_eq_false hb) H
          rw [hb] at hF
          clear hb
          refine ls_skip hF (wanted_n hF rfl rfl rfl rfl rfl) rfl rfl (fun a hF => ?_)
          refine ls hF hW rfl ((y_pick_f hF rfl rfl rfl).q) (fun a w hF hW => ?_)
          refine ls hF hW rfl ((y_move hF rfl).q) (fun a w hF hW => ?_)
          refine ls_skip hF (wanted_n hF rfl rfl rfl rfl rfl) rfl rfl (fun a hF => ?_)
          refine ls hF hW rfl ((y_pick_f hF rfl rfl rfl).q) (fun a w hF hW => ?_)
          refine ls hF hW rfl ((y_move hF rfl).q) (fun a w hF hW => ?_)
          refine ls_skip hF (wanted_n hF rfl rfl rfl rfl rfl) rfl rfl (fun a hF => ?_)
          refine ls_skip hF (wanted_n hF rfl rfl rfl rfl rfl) rfl rfl (fun a hF => ?_)
          refine ls_skip hF (wanted_n hF rfl rfl rfl rfl rfl) rfl rfl (fun a hF => ?_)
          refine ls_skip hF (wanted_n hF rfl rfl rfl rfl rfl) rfl rfl (fun a hF => ?_)
          refine ls hF hW rfl ((y_pick_f hF rfl rfl rfl).q) (fun a w hF hW => ?_)
          refine ls hF hW rfl ((y_assign hF rfl).q) (fun a w hF hW => ?_)
          refine ls_nil ?_
          refine c_then ?_
          exact ⟨_, _, (v6), H, hF.re ⟨rfl, trivial⟩, hW⟩
      ·
        have H := iteF (of_decide_eq_false hb) H
        rw [hb] at hF
        clear hb
        refine ls_skip hF (wanted_n hF rfl rfl rfl rfl rfl) rfl rfl (fun a hF => ?_)
        refine ls_skip hF (wanted_n hF rfl rfl rfl rfl rfl) rfl rfl (fun a hF => ?_)
        refine ls hF hW rfl ((y_pick_f hF rfl rfl rfl).q) (fun a w hF hW => ?_)
        refine ls hF hW rfl ((y_move hF rfl).q) (fun a w hF hW => ?_)
        refine ls_skip hF (wanted_n hF rfl rfl rfl rfl rfl) rfl rfl (fun a hF => ?_)
        refine ls hF hW rfl ((y_pick_f hF rfl rfl rfl).q) (fun a w hF hW => ?_)
        refine ls hF hW rfl ((y_move hF rfl).q) (fun a w hF hW => ?_)
        refine ls_skip hF (wanted_n hF rfl rfl rfl rfl rfl) rfl rfl (fun a hF => ?_)
        refine ls hF hW rfl ((y_pick_f hF rfl rfl rfl).q) (fun a w hF hW => ?_)
        refine ls hF hW rfl ((y_move hF rfl).q) (fun a w hF hW => ?_)
        refine ls_skip hF (wanted_n hF rfl rfl rfl rfl rfl) rfl rfl (fun a hF => ?_)
        refine ls_skip hF (wanted_n hF rfl rfl rfl rfl rfl) rfl rfl (fun a hF => ?_)
        refine ls_skip hF (wanted_n hF rfl rfl rfl rfl rfl) rfl rfl (fun a hF => ?_)
        refine ls_skip hF (wanted_n hF rfl rfl rfl rfl rfl) rfl rfl (fun a hF => ?_)
        refine ls hF hW rfl ((y_pick_f hF rfl rfl rfl).q) (fun a w hF hW => ?_)
        refine ls hF hW rfl ((y_assign hF rfl).q) (fun a w hF hW => ?_)
        refine ls_nil ?_
        refine c_then ?_
        exact ⟨_, _, (v6), H, hF.re ⟨rfl, trivial⟩, hW⟩
    ·
      have H := iteF (of_decide_eq_false hb) H
      rw [hb] at hF
      clear hb
      refine ls_skip hF (wanted_n hF rfl rfl rfl rfl rfl) rfl rfl (fun a hF => ?_)
      refine ls_skip hF (wanted_n hF rfl rfl rfl rfl rfl) rfl rfl (fun a hF => ?_)
      refine ls hF hW rfl ((y_pick_f hF rfl rfl rfl).q) (fun a w hF hW => ?_)
      refine ls hF hW rfl ((y_move hF rfl).q) (fun a w hF hW => ?_)
      refine ls_skip hF (wanted_n hF rfl rfl rfl rfl rfl) rfl rfl (fun a hF => ?_)
      refine ls_skip hF (wanted_n hF rfl rfl rfl rfl rfl) rfl rfl (fun a hF => ?_)
      refine ls hF hW rfl ((y_pick_f hF rfl rfl rfl).q) (fun a w hF hW => ?_)
      refine ls hF hW rfl ((y_move hF rfl).q) (fun a w hF hW => ?_)
      refine ls_skip hF (wanted_n hF rfl rfl rfl rfl rfl) rfl rfl (fun a hF => ?_)
      refine ls hF hW rfl ((y_pick_f hF rfl rfl rfl).q) (fun a w hF hW => ?_)
      refine ls hF hW rfl ((y_move hF rfl).q) (fun a w hF hW => ?_)
      refine ls_skip hF (wanted_n hF rfl rfl rfl rfl rfl) rfl rfl (fun a hF => ?_)
      refine ls hF hW rfl ((y_pick_f hF rfl rfl rfl).q) (fun a w hF hW => ?_)
      refine ls hF hW rfl ((y_move hF rfl).q) (fun a w hF hW => ?_)
      refine ls_skip hF (wanted_n hF rfl rfl rfl rfl rfl) rfl rfl (fun a hF => ?_)
      refine ls_skip hF (wanted_n hF rfl rfl rfl rfl rfl) rfl rfl (fun a hF => ?_)
      refine ls_skip hF (wanted_n hF rfl rfl rfl rfl rfl) rfl rfl (fun a hF => ?_)
      refine ls_skip hF (wanted_n hF rfl rfl rfl rfl rfl) rfl rfl (fun a hF => ?_)
      refine ls hF hW rfl ((y_pick_f hF rfl rfl rfl).q) (fun a w hF hW => ?_)
      refine ls hF hW rfl ((y_assign hF rfl).q) (fun a w hF hW => ?_)
      refine ls_nil ?_
      refine c_then ?_
      exact ⟨_, _, (v6), H, hF.re ⟨rfl, trivial⟩, hW⟩
  rintro a w ⟨x6, x7, v7, hj, hF, hW⟩
  have hj := Option.some.inj hj
  subst hj
  have H := K1
  clear G1 K1
  refine wp_ret ?_
  have H := Option.some.inj H
  subst H
  refine post1 (.inl rfl) hF hW rfl (rv_tmp hF rfl) ?_
  exact ⟨rfl, hW.done⟩

theorem H18 : Has Try.prog 18 := ⟨fun args w => run_callFunc_body Try.func18 rfl (by decide) args w⟩
noncomputable def L13_HeapPlays_l1 (p0 : List (Int × Int)) : (List Int × Int × List Int) → Option ((List Int × Int × List Int) ⊕ ((List Int) ⊕ Bool))
  | (x2, x3, x4) => (if (decide (x3 < (p0.length : Int)) && decide (x3 < 80)) = true then orR ((ix p0 x3).bind fun x7 => (if x7.1 = 0 then some true else (if x7.1 = 1 then some true else some (decide (x7.1 = 2)))).bind fun x8 => (if x8 = true then (ix p0 x3).bind fun x9 => (heap_Queue_int_Push x4 x9.2).bind fun x10 => (ix p0 x3).bind fun x11 => (r13_Push x2 x11.2).bind fun x12 => some (.inl (x12, x10)) else (if x7.1 = 3 then some true else some (decide (x7.1 = 4))).bind fun x13 => (if x13 = true then (heap_Queue_int_Pop x4).bind fun x14 => (r13_Pop x2).bind fun x15 => (if (decide (x14.1 ≠ x15.1) || decide (x14.2.1 ≠ x15.2.2)) = true then some (.inr (.inr (.inr false))) else some (.inl (x15.2.1, x14.2.2))) else (if x7.1 = 5 then (ix p0 x3).bind fun x16 => (r13_Drain x2 x16.2).bind fun x17 => (ix p0 x3).bind fun x18 => (heap_Queue_int_Drain x4 x18.2).bind fun x19 => (r13_Same x19.1 x17.1).bind fun x20 => (if (!x20) = true then some (.inr (.inr (.inr false))) else some (.inl (x17.2, x19.2))) else (if x7.1 = 6 then (ix p0 x3).bind fun x21 => (r13_Drop x2 x21.2).bind fun x22 => (ix p0 x3).bind fun x23 => (heap_Queue_int_Drop x4 x23.2).bind fun x24 => (if x24.1 ≠ x22.2 then some (.inr (.inr (.inr false))) else some (.inl (x22.1, x24.2))) else (if x7.1 = 7 then (heap_Queue_int_Peek x4).bind fun x25 => (r13_Pop x2).bind fun x26 => (if (decide (x25.1 ≠ x26.1) || decide (x25.2 ≠ x26.2.2)) = true then some (.inr (.inr (.inr false))) else some (.inl (x2, x4))) else some (.inl (x2, x4)))))))) fun (x5, x6) => (if (heap_Queue_int_Len x6) ≠ (x5.length : Int) then some (.inr (.inr false)) else some (.inl (x5, w64 (x3 + 1), x6))) else some (.inr (.inl x4)))
noncomputable def L13_HeapPlays (p0 : List (Int × Int)) : Option Bool := orR (loopW (L13_HeapPlays_l1 p0) ([], 0, heap_New_int)) fun x1 => (L13_awake).bind fun x27 => some x27
theorem L13_HeapPlays_c (Y : Nat → Prop) (w0 : World) (v1 : Value) (p0 : List (Int × Int)) (r : Bool) (H : L13_HeapPlays p0 = some r) (h_v1 : Sl w0 (NX []) R27 v1 p0) :
    Calls Try.prog 3 #[v1] w0 fun e w' => e = .returned (.bool r) ∧ Below w0.heap.size w0 w' := by
  refine enter Try.func3 rfl Try.ntmps3 rfl (fun a hF => ?_)
  have hW := Stw.start Y w0
  unfold L13_HeapPlays at H
  refine c_seq ?_
  refine reg_list ?_
  refine ls hF hW rfl ((y_assign hF rfl).q) (fun a w hF hW => ?_)
  refine ls_nil ?_
  refine c_then ?_
  refine c_seq ?_
  refine reg_list ?_
  refine l_callG (Ml := []) (Zl := []) (M := []) (Z := []) (β := Nat × Value) (rv := fun x => .pointer (some ⟨x.1, 0, none⟩)) (MM := fun x => [(x.1, [x.2])]) (ZZ := fun x => [row x.2 3 (Rp.int .i64) heap_New_int]) hF hW H6 rfl rfl (fun hL => heap_New_int_c _ w _ rfl) (fun x a w hF hW => ?_)
  obtain ⟨b1, v2⟩ := x
  have hW : Stw ⟨Y, [], w0⟩ [(b1, [v2])] [row v2 3 (Rp.int .i64) heap_New_int] w := hW
  refine ls hF hW rfl ((y_assign hF rfl).q) (fun a w hF hW => ?_)
  refine ls_nil ?_
  refine c_then ?_
  refine c_seq ?_
  refine reg_list ?_
  refine ls hF hW rfl ((y_assign hF rfl).q) (fun a w hF hW => ?_)
  refine ls_nil ?_
  refine c_then ?_
  obtain ⟨o1, G1, K1, L1⟩ := orE H
  refine c_seqJ (fun a w => ∃ x1 : List Int, ∃ v3 : Value, some (Sum.inl x1) = some o1 ∧ Fr 149 [] [(2, .bool false)] a ∧ Stw ⟨Y, [], w0⟩ [(b1, [v3])] [row v3 3 (Rp.int .i64) x1] w) ?_ ?_
  ·
    have H := G1
    clear G1 K1
    refine c_seq ?_
    refine reg_list ?_
    refine ls hF hW rfl ((y_assign hF rfl).q) (fun a w hF hW => ?_)
    refine ls_nil ?_
    refine c_then ?_
    refine wp_block ?_
    have hW := hW.note (Sl.nil (r := (Rp.int .i64)))
    have hW := hW.frontZ (i := 1) rfl rfl
    have hW := hW.frontZ (i := 1) rfl rfl
    refine c_loopW H (fun s a w => ∃ v4 : Value, ∃ v5 : Value, Fr 149 [] [(0, v1), (2, .bool false), (3, .pointer (some ⟨b1, 0, none⟩)), (4, v4), (5, .int .i64 s.2.1)] a ∧ Stw ⟨Y, [], w0⟩ [(b1, [v5])] [frz v4 (Rp.int .i64) s.1, row v5 3 (Rp.int .i64) s.2.2] w) ⟨(Value.slice none 0 0), (v2), hF.re ⟨rfl, rfl, rfl, rfl, rfl, trivial⟩, hW⟩ (fun s o a w H L2 hR => ?_)
    obtain ⟨x2, x3, x4⟩ := s
    obtain ⟨v4, v5, hF, hW⟩ := hR
    have hF : Fr 149 [] [(0, v1), (2, .bool false), (3, .pointer (some ⟨b1, 0, none⟩)), (4, v4), (5, .int .i64 x3)] a := hF
    have hW : Stw ⟨Y, [], w0⟩ [(b1, [v5])] [frz v4 (Rp.int .i64) x2, row v5 3 (Rp.int .i64) x4] w := hW
    rw [L13_HeapPlays_l1] at H
    refine c_seq ?_
    refine c_seqJ (fun a w => Fr 149 [] [(0, v1), (2, .bool false), (3, .pointer (some ⟨b1, 0, none⟩)), (4, v4), (5, .int .i64 x3), (28, .bool (decide (x3 < (p0.length : Int)) && decide (x3 < 80)))] a ∧ Stw ⟨Y, [], w0⟩ [(b1, [v5])] [frz v4 (Rp.int .i64) x2, row v5 3 (Rp.int .i64) x4] w) ?_ ?_
    ·
      refine reg_list ?_
      refine ls hF hW rfl ((y_move hF rfl).q) (fun a w hF hW => ?_)
      refine ls hF hW rfl ((y_move hF rfl).q) (fun a w hF hW => ?_)
      refine ls hF hW rfl ((y_len (r := R27) (l := p0) Try.underlying22 rfl hF rfl (rdc_ro h_v1)).q) (fun a w hF hW => ?_)
      refine ls hF hW rfl ((y_lss hF rfl rfl).q) (fun a w hF hW => ?_)
      refine ls hF hW rfl ((y_move hF rfl).q) (fun a w hF hW => ?_)
      rcases Bool.eq_false_or_eq_true (decide (x3 < (p0.length : Int))) with hb0 | hb0
      ·
        rw [hb0] at hF
        refine ls_w hF hW (wanted_y hF rfl rfl rfl rfl) rfl (Nat.le_of_ble_eq_true rfl) ((y_move hF rfl).q) (fun a w hF hW => ?_)
        refine ls_w hF hW (wanted_y hF rfl rfl rfl rfl) rfl (Nat.le_of_ble_eq_true rfl) ((y_lss hF rfl rfl).q) (fun a w hF hW => ?_)
        refine ls hF hW rfl ((y_pick_t hF rfl rfl rfl).q) (fun a w hF hW => ?_)
        refine ls_nil ?_
        refine c_then ?_
        exact ⟨hF.re ⟨rfl, rfl, rfl, rfl, rfl, (by show some (Value.bool (decide (x3 < 80))) = some (Value.bool (decide (x3 < (p0.length : Int)) && decide (x3 < 80))); try rw [hb0]; all_goals simp only [Bool.not_true, Bool.not_false, Bool.true_and, Bool.false_and, Bool.true_or, Bool.false_or, Bool.and_true, Bool.or_false, cond_true, cond_false]), trivial⟩, hW⟩
      ·
        rw [hb0] at hF
        refine ls_skip hF (wanted_n hF rfl rfl rfl rfl rfl) rfl rfl (fun a hF => ?_)
        refine ls_skip hF (wanted_n hF rfl rfl rfl rfl rfl) rfl rfl (fun a hF => ?_)
        refine ls hF hW rfl ((y_pick_f hF rfl rfl rfl).q) (fun a w hF hW => ?_)
        refine ls_nil ?_
        refine c_then ?_
        exact ⟨hF.re ⟨rfl, rfl, rfl, rfl, rfl, (by show some (Value.bool false) = some (Value.bool (decide (x3 < (p0.length : Int)) && decide (x3 < 80))); try rw [hb0]; all_goals simp only [Bool.not_true, Bool.not_false, Bool.true_and, Bool.false_and, Bool.true_or, Bool.false_or, Bool.and_true, Bool.or_false, cond_true, cond_false]), trivial⟩, hW⟩
    rintro a w ⟨hF, hW⟩
    refine c_cond hF rfl (fun hb => ?_) (fun hb => ?_)
    ·
      have H := iteT hb H
      rw [hb] at hF
      clear hb
      refine wp_skip ?_
      refine c_then ?_
      refine c_seq ?_
      refine wp_block ?_
      obtain ⟨o3, G3, K3, L3⟩ := orE H
      refine c_seqJ (fun a w => ∃ x5 : List Int, ∃ x6 : List Int, ∃ v6 : Value, ∃ v7 : Value, some (Sum.inl (x5, x6)) = some o3 ∧ Fr 149 [] [(0, v1), (2, .bool false), (3, .pointer (some ⟨b1, 0, none⟩)), (4, v6), (5, .int .i64 x3)] a ∧ Stw ⟨Y, [], w0⟩ [(b1, [v7])] [frz v6 (Rp.int .i64) x5, row v7 3 (Rp.int .i64) x6] w) ?_ ?_
      ·
        have H := G3
        clear G3 K3
        refine c_seq ?_
        refine reg_list ?_
        refine ls hF hW rfl ((y_move hF rfl).q) (fun a w hF hW => ?_)
        refine ls hF hW rfl ((y_move hF rfl).q) (fun a w hF hW => ?_)
        obtain ⟨x7, h1, H⟩ := bindE H
        refine ls hF hW rfl ((y_index (r := R27) L22 hF rfl rfl (rdc_ro h_v1) h1).q) (fun a w hF hW => ?_)
        refine ls hF hW rfl ((y_fieldAddr Try.underlying27 rfl rfl rfl T3 hF rfl (voff v1 + (x3).toNat * 2) rfl).q) (fun a w hF hW => ?_)
        refine ls hF hW rfl ((y_load_el (y := Value.int .i64 x7.1) (j := 0) (i := x3) hF rfl rfl (rdc_ro h_v1) h1 F27.to T3 rfl).q) (fun a w hF hW => ?_)
        refine ls_nil ?_
        refine c_then ?_
        refine wp_block ?_
        obtain ⟨o4, G4, K4⟩ := bindE H
        refine c_seqJ (fun a w => ∃ x8 : Bool, some (x8) = some o4 ∧ Fr 149 [] [(0, v1), (2, .bool false), (3, .pointer (some ⟨b1, 0, none⟩)), (4, v4), (5, .int .i64 x3), (35, .int .i64 x7.1), (36, .bool x8)] a ∧ Stw ⟨Y, [], w0⟩ [(b1, [v5])] [frz v4 (Rp.int .i64) x2, row v5 3 (Rp.int .i64) x4] w) ?_ ?_
        ·
          have H := G4
          clear G4 K4
          refine c_seq ?_
          refine reg_list ?_
          refine ls hF hW rfl ((y_eql hF rfl rfl).q) (fun a w hF hW => ?_)
          refine ls hF hW rfl ((y_assign hF rfl).q) (fun a w hF hW => ?_)
          refine ls_nil ?_
          refine c_then ?_
          refine c_cond hF rfl (fun hb => ?_) (fun hb => ?_)
          ·
            have H := iteT (of_decide_eq_true hb) H
            rw [hb] at hF
            clear hb
            refine wp_skip ?_
            refine c_then ?_
            have hW := hW.frontZ (i := 1) rfl rfl
            have hW := hW.frontZ (i := 1) rfl rfl
            exact ⟨_, H, hF.re ⟨rfl, rfl, rfl, rfl, rfl, rfl, rfl, trivial⟩, hW⟩
          ·
            have H := iteF (of_decide_eq_false hb) H
            rw [hb] at hF
            clear hb
            refine c_seq ?_
            refine reg_list ?_
            refine ls hF hW rfl ((y_eql hF rfl rfl).q) (fun a w hF hW => ?_)
            refine ls hF hW rfl ((y_assign hF rfl).q) (fun a w hF hW => ?_)
            refine ls_nil ?_
            refine c_then ?_
            refine c_cond hF rfl (fun hb => ?_) (fun hb => ?_)
            ·
              have H := iteT (of_decide_eq_true hb) H
              rw [hb] at hF
              clear hb
              refine wp_skip ?_
              refine c_then ?_
              have hW := hW.frontZ (i := 1) rfl rfl
              have hW := hW.frontZ (i := 1) rfl rfl
              exact ⟨_, H, hF.re ⟨rfl, rfl, rfl, rfl, rfl, rfl, rfl, trivial⟩, hW⟩
            ·
              have H := iteF (of_decide_eq_false hb) H
              rw [hb] at hF
              clear hb
              refine reg_list ?_
              refine ls hF hW rfl ((y_eql hF rfl rfl).q) (fun a w hF hW => ?_)
              refine ls hF hW rfl ((y_assign hF rfl).q) (fun a w hF hW => ?_)
              refine ls_nil ?_
              refine c_then ?_
              have hW := hW.frontZ (i := 1) rfl rfl
              have hW := hW.frontZ (i := 1) rfl rfl
              exact ⟨_, H, hF.re ⟨rfl, rfl, rfl, rfl, rfl, rfl, rfl, trivial⟩, hW⟩
        rintro a w ⟨x8, hj, hF, hW⟩
        have hj := Option.some.inj hj
        subst hj
        have H := K4
        clear G4 K4
        refine c_cond hF rfl (fun hb => ?_) (fun hb => ?_)
        ·
          have H := iteT hb H
          rw [hb] at hF
          clear hb
          refine c_seq ?_
          refine reg_list ?_
          refine ls hF hW rfl ((y_move hF rfl).q) (fun a w hF hW => ?_)
          refine ls hF hW rfl ((y_move hF rfl).q) (fun a w hF hW => ?_)
          refine ls hF hW rfl ((y_move hF rfl).q) (fun a w hF hW => ?_)
          obtain ⟨x9, h2, H⟩ := bindE H
          refine ls hF hW rfl ((y_index (r := R27) L22 hF rfl rfl (rdc_ro h_v1) h2).q) (fun a w hF hW => ?_)
          refine ls hF hW rfl ((y_fieldAddr Try.underlying27 rfl rfl rfl T3 hF rfl (voff v1 + (x3).toNat * 2 + 1) rfl).q) (fun a w hF hW => ?_)
          refine ls hF hW rfl ((y_load_el (y := Value.int .i64 x9.2) (j := 1) (i := x3) hF rfl rfl (rdc_ro h_v1) h2 F27.to T3 rfl).q) (fun a w hF hW => ?_)
          obtain ⟨x10, h3, H⟩ := bindE H
          have hW := hW.frontZ (i := 1) rfl rfl
          refine l_callG (Ml := [(b1, [v5])]) (Zl := [row v5 3 (Rp.int .i64) x4]) (M := []) (Z := [frz v4 (Rp.int .i64) x2]) (β := Value) (rv := fun x => .tuple #[]) (MM := fun x => [(b1, [x])]) (ZZ := fun x => [row x 3 (Rp.int .i64) x10]) hF hW H7 rfl rfl (fun hL => heap_Queue_int_Push_c _ _ w b1 (v5) x4 x9.2 _ h3 hL) (fun x a w hF hW => ?_)
          obtain ⟨v8, rfl⟩ : ∃ y, y = x := ⟨x, rfl⟩
          have hW : Stw ⟨Y, [], w0⟩ [(b1, [v8])] [row v8 3 (Rp.int .i64) x10, frz v4 (Rp.int .i64) x2] w := hW
          refine ls_nil ?_
          refine c_then ?_
          refine reg_list ?_
          refine ls hF hW rfl ((y_move hF rfl).q) (fun a w hF hW => ?_)
          refine ls hF hW rfl ((y_move hF rfl).q) (fun a w hF hW => ?_)
          refine ls hF hW rfl ((y_move hF rfl).q) (fun a w hF hW => ?_)
          obtain ⟨x11, h4, H⟩ := bindE H
          refine ls hF hW rfl ((y_index (r := R27) L22 hF rfl rfl (rdc_ro h_v1) h4).q) (fun a w hF hW => ?_)
          refine ls hF hW rfl ((y_fieldAddr Try.underlying27 rfl rfl rfl T3 hF rfl (voff v1 + (x3).toNat * 2 + 1) rfl).q) (fun a w hF hW => ?_)
          refine ls hF hW rfl ((y_load_el (y := Value.int .i64 x11.2) (j := 1) (i := x3) hF rfl rfl (rdc_ro h_v1) h4 F27.to T3 rfl).q) (fun a w hF hW => ?_)
          obtain ⟨x12, h5, H⟩ := bindE H
          refine l_callG (Ml := []) (Zl := []) (M := [(b1, [v8])]) (Z := [row v8 3 (Rp.int .i64) x10, frz v4 (Rp.int .i64) x2]) (β := Value) (rv := fun x => x) (MM := fun x => []) (ZZ := fun x => [row x 3 (Rp.int .i64) x12]) hF hW H8 rfl rfl (fun hL => r13_Push_c _ w (v4) x2 x11.2 _ h5 ((rdc_frz 1 rfl) w hW).nx) (fun x a w hF hW => ?_)
          obtain ⟨v9, rfl⟩ : ∃ y, y = x := ⟨x, rfl⟩
          have hW : Stw ⟨Y, [], w0⟩ [(b1, [v8])] [row v9 3 (Rp.int .i64) x12, row v8 3 (Rp.int .i64) x10, frz v4 (Rp.int .i64) x2] w := hW
          refine ls hF hW rfl ((y_assign hF rfl).q) (fun a w hF hW => ?_)
          refine ls_nil ?_
          refine b_normal ?_
          refine c_then ?_
          have hW := hW.freeze
          have hW := hW.frontZ (i := 1) rfl rfl
          have hW := hW.frontZ (i := 1) rfl rfl
          have hW := hW.sub (M' := [(b1, [v8])]) (Z' := [frz v9 (Rp.int .i64) x12, row v8 3 (Rp.int .i64) x10]) (List.Sublist.refl _) (List.Sublist.cons_cons _ (List.Sublist.cons_cons _ (List.nil_sublist _)))
          exact ⟨_, _, (v9), (v8), H, hF.re ⟨rfl, rfl, rfl, rfl, rfl, trivial⟩, hW⟩
        ·
          have H := iteF (by rw [hb]; decide) H
          rw [hb] at hF
          clear hb
          obtain ⟨o5, G5, K5⟩ := bindE H
          refine c_seqJ (fun a w => ∃ x13 : Bool, some (x13) = some o5 ∧ Fr 149 [] [(0, v1), (2, .bool false), (3, .pointer (some ⟨b1, 0, none⟩)), (4, v4), (5, .int .i64 x3), (35, .int .i64 x7.1), (54, .bool x13)] a ∧ Stw ⟨Y, [], w0⟩ [(b1, [v5])] [frz v4 (Rp.int .i64) x2, row v5 3 (Rp.int .i64) x4] w) ?_ ?_
          ·
            have H := G5
            clear G5 K5
            refine c_seq ?_
            refine reg_list ?_
            refine ls hF hW rfl ((y_eql hF rfl rfl).q) (fun a w hF hW => ?_)
            refine ls hF hW rfl ((y_assign hF rfl).q) (fun a w hF hW => ?_)
            refine ls_nil ?_
            refine c_then ?_
            refine c_cond hF rfl (fun hb => ?_) (fun hb => ?_)
            ·
              have H := iteT (of_decide_eq_true hb) H
              rw [hb] at hF
              clear hb
              refine wp_skip ?_
              refine c_then ?_
              have hW := hW.frontZ (i := 1) rfl rfl
              have hW := hW.frontZ (i := 1) rfl rfl
              exact ⟨_, H, hF.re ⟨rfl, rfl, rfl, rfl, rfl, rfl, rfl, trivial⟩, hW⟩
            ·
              have H := iteF (of_decide_eq_false hb) H
              rw [hb] at hF
              clear hb
              refine reg_list ?_
              refine ls hF hW rfl ((y_eql hF rfl rfl).q) (fun a w hF hW => ?_)
              refine ls hF hW rfl ((y_assign hF rfl).q) (fun a w hF hW => ?_)
              refine ls_nil ?_
              refine c_then ?_
              have hW := hW.frontZ (i := 1) rfl rfl
              have hW := hW.frontZ (i := 1) rfl rfl
              exact ⟨_, H, hF.re ⟨rfl, rfl, rfl, rfl, rfl, rfl, rfl, trivial⟩, hW⟩
          rintro a w ⟨x13, hj, hF, hW⟩
          have hj := Option.some.inj hj
          subst hj
          have H := K5
          clear G5 K5
          refine c_cond hF rfl (fun hb => ?_) (fun hb => ?_)
          ·
            have H := iteT hb H
            rw [hb] at hF
            clear hb
            refine c_seq ?_
            refine reg_list ?_
            refine ls hF hW rfl ((y_move hF rfl).q) (fun a w hF hW => ?_)
            obtain ⟨x14, h6, H⟩ := bindE H
            have hW := hW.frontZ (i := 1) rfl rfl
            refine l_callG (Ml := [(b1, [v5])]) (Zl := [row v5 3 (Rp.int .i64) x4]) (M := []) (Z := [frz v4 (Rp.int .i64) x2]) (β := Value) (rv := fun x => .tuple #[.int .i64 x14.1, .bool x14.2.1]) (MM := fun x => [(b1, [x])]) (ZZ := fun x => [row x 3 (Rp.int .i64) x14.2.2]) hF hW H9 rfl rfl (fun hL => heap_Queue_int_Pop_c _ _ w b1 (v5) x4 _ h6 hL) (fun x a w hF hW => ?_)
            obtain ⟨v10, rfl⟩ : ∃ y, y = x := ⟨x, rfl⟩
            have hW : Stw ⟨Y, [], w0⟩ [(b1, [v10])] [row v10 3 (Rp.int .i64) x14.2.2, frz v4 (Rp.int .i64) x2] w := hW
            refine ls hF hW rfl ((y_move hF rfl).q) (fun a w hF hW => ?_)
            refine ls hF hW rfl ((y_extract (v := Value.int .i64 x14.1) hF rfl rfl).q) (fun a w hF hW => ?_)
            refine ls hF hW rfl ((y_extract (v := Value.bool x14.2.1) hF rfl rfl).q) (fun a w hF hW => ?_)
            refine ls hF hW rfl ((y_assign hF rfl).q) (fun a w hF hW => ?_)
            refine ls hF hW rfl ((y_assign hF rfl).q) (fun a w hF hW => ?_)
            refine ls_nil ?_
            refine c_then ?_
            refine c_seq ?_
            refine reg_list ?_
            refine ls hF hW rfl ((y_move hF rfl).q) (fun a w hF hW => ?_)
            obtain ⟨x15, h7, H⟩ := bindE H
            refine l_callG (Ml := []) (Zl := []) (M := [(b1, [v10])]) (Z := [row v10 3 (Rp.int .i64) x14.2.2, frz v4 (Rp.int .i64) x2]) (β := Value) (rv := fun x => .tuple #[.int .i64 x15.1, x, .bool x15.2.2]) (MM := fun x => []) (ZZ := fun x => [frz x (Rp.int .i64) x15.2.1]) hF hW H10 rfl rfl (fun hL => r13_Pop_c _ w (v4) x2 _ h7 (hW.item (i := 1) rfl)) (fun x a w hF hW => ?_)
            obtain ⟨v11, rfl⟩ : ∃ y, y = x := ⟨x, rfl⟩
            have hW : Stw ⟨Y, [], w0⟩ [(b1, [v10])] [frz v11 (Rp.int .i64) x15.2.1, row v10 3 (Rp.int .i64) x14.2.2, frz v4 (Rp.int .i64) x2] w := hW
            refine ls hF hW rfl ((y_move hF rfl).q) (fun a w hF hW => ?_)
            refine ls hF hW rfl ((y_extract (v := Value.int .i64 x15.1) hF rfl rfl).q) (fun a w hF hW => ?_)
            refine ls hF hW rfl ((y_extract (v := v11) hF rfl rfl).q) (fun a w hF hW => ?_)
            refine ls hF hW rfl ((y_extract (v := Value.bool x15.2.2) hF rfl rfl).q) (fun a w hF hW => ?_)
            refine ls hF hW rfl ((y_assign hF rfl).q) (fun a w hF hW => ?_)
            refine ls hF hW rfl ((y_assign hF rfl).q) (fun a w hF hW => ?_)
            refine ls hF hW rfl ((y_assign hF rfl).q) (fun a w hF hW => ?_)
            refine ls_nil ?_
            refine c_then ?_
            refine c_seq ?_
            refine reg_list ?_
            refine ls hF hW rfl ((y_move hF rfl).q) (fun a w hF hW => ?_)
            refine ls hF hW rfl ((y_assign hF rfl).q) (fun a w hF hW => ?_)
            refine ls_nil ?_
            refine c_then ?_
            refine c_seqJ (fun a w => Fr 149 [] [(0, v1), (2, .bool false), (3, .pointer (some ⟨b1, 0, none⟩)), (4, v11), (5, .int .i64 x3), (76, .bool (decide (x14.1 ≠ x15.1) || decide (x14.2.1 ≠ x15.2.2)))] a ∧ Stw ⟨Y, [], w0⟩ [(b1, [v10])] [frz v11 (Rp.int .i64) x15.2.1, row v10 3 (Rp.int .i64) x14.2.2, frz v4 (Rp.int .i64) x2] w) ?_ ?_
            ·
              refine reg_list ?_
              refine ls hF hW rfl ((y_move hF rfl).q) (fun a w hF hW => ?_)
              refine ls hF hW rfl ((y_move hF rfl).q) (fun a w hF hW => ?_)
              refine ls hF hW rfl ((y_neq hF rfl rfl).q) (fun a w hF hW => ?_)
              refine ls hF hW rfl ((y_move hF rfl).q) (fun a w hF hW => ?_)
              rcases Bool.eq_false_or_eq_true (decide (x14.1 ≠ x15.1)) with hb0 | hb0
              ·
                rw [hb0] at hF
                refine ls_skip hF (wanted_n hF rfl rfl rfl rfl rfl) rfl rfl (fun a hF => ?_)
                refine ls_skip hF (wanted_n hF rfl rfl rfl rfl rfl) rfl rfl (fun a hF => ?_)
                refine ls_skip hF (wanted_n hF rfl rfl rfl rfl rfl) rfl rfl (fun a hF => ?_)
                refine ls hF hW rfl ((y_pick_t hF rfl rfl rfl).q) (fun a w hF hW => ?_)
                refine ls_nil ?_
                refine c_then ?_
                exact ⟨hF.re ⟨rfl, rfl, rfl, rfl, rfl, (by show some (Value.bool true) = some (Value.bool (decide (x14.1 ≠ x15.1) || decide (x14.2.1 ≠ x15.2.2))); try rw [hb0]; all_goals simp only [Bool.not_true, Bool.not_false, Bool.true_and, Bool.false_and, Bool.true_or, Bool.false_or, Bool.and_true, Bool.or_false, cond_true, cond_false]), trivial⟩, hW⟩
              ·
                rw [hb0] at hF
                refine ls_w hF hW (wanted_y hF rfl rfl rfl rfl) rfl (Nat.le_of_ble_eq_true rfl) ((y_move hF rfl).q) (fun a w hF hW => ?_)
                refine ls_w hF hW (wanted_y hF rfl rfl rfl rfl) rfl (Nat.le_of_ble_eq_true rfl) ((y_move hF rfl).q) (fun a w hF hW => ?_)
                refine ls_w hF hW (wanted_y hF rfl rfl rfl rfl) rfl (Nat.le_of_ble_eq_true rfl) ((y_neb Try.underlying4 hF rfl rfl).q) (fun a w hF hW => ?_)
                refine ls hF hW rfl ((y_pick_f hF rfl rfl rfl).q) (fun a w hF hW => ?_)
                refine ls_nil ?_
                refine c_then ?_
                exact ⟨hF.re ⟨rfl, rfl, rfl, rfl, rfl, (by show some (Value.bool (decide (x14.2.1 ≠ x15.2.2))) = some (Value.bool (decide (x14.1 ≠ x15.1) || decide (x14.2.1 ≠ x15.2.2))); try rw [hb0]; all_goals simp only [Bool.not_true, Bool.not_false, Bool.true_and, Bool.false_and, Bool.true_or, Bool.false_or, Bool.and_true, Bool.or_false, cond_true, cond_false]), trivial⟩, hW⟩
            rintro a w ⟨hF, hW⟩
            refine c_cond hF rfl (fun hb => ?_) (fun hb => ?_)
            ·
              have H := iteT hb H
              rw [hb] at hF
              clear hb
              refine c_seq ?_
              refine reg_list ?_
              refine ls hF hW rfl ((y_assign hF rfl).q) (fun a w hF hW => ?_)
              refine ls_nil ?_
              refine c_then ?_
              refine wp_ret ?_
              refine r_block ?_
              refine r_then ?_
              refine r_block ?_
              refine r_then ?_
              refine r_then ?_
              refine r_block ?_
              refine r_then ?_
              have H := L3 _ H
              have H := L2 _ H
              have H := L1 _ H
              have H := Option.some.inj H
              subst H
              refine post1 (.inl rfl) hF hW rfl (rv_tmp hF rfl) ?_
              exact ⟨rfl, hW.done⟩
            ·
              have H := iteF (by rw [hb]; decide) H
              rw [hb] at hF
              clear hb
              refine wp_skip ?_
              refine b_normal ?_
              refine c_then ?_
              have hW := hW.frontZ (i := 1) rfl rfl
              have hW := hW.frontZ (i := 1) rfl rfl
              have hW := hW.sub (M' := [(b1, [v10])]) (Z' := [frz v11 (Rp.int .i64) x15.2.1, row v10 3 (Rp.int .i64) x14.2.2]) (List.Sublist.refl _) (List.Sublist.cons_cons _ (List.Sublist.cons_cons _ (List.nil_sublist _)))
              exact ⟨_, _, (v11), (v10), H, hF.re ⟨rfl, rfl, rfl, rfl, rfl, trivial⟩, hW⟩
          ·
            have H := iteF (by rw [hb]; decide) H
            rw [hb] at hF
            clear hb
            refine c_seq ?_
            refine reg_list ?_
            refine ls hF hW rfl ((y_eql hF rfl rfl).q) (fun a w hF hW => ?_)
            refine ls hF hW rfl ((y_assign hF rfl).q) (fun a w hF hW => ?_)
            refine ls_nil ?_
            refine c_then ?_
            refine c_cond hF rfl (fun hb => ?_) (fun hb => ?_)
            ·
              have H := iteT (of_decide_eq_true hb) H
              rw [hb] at hF
              clear hb
              refine c_seq ?_
              refine reg_list ?_
              refine ls hF hW rfl ((y_move hF rfl).q) (fun a w hF hW => ?_)
              refine ls hF hW rfl ((y_move hF rfl).q) (fun a w hF hW => ?_)
              refine ls hF hW rfl ((y_move hF rfl).q) (fun a w hF hW => ?_)
              obtain ⟨x16, h8, H⟩ := bindE H
              refine ls hF hW rfl ((y_index (r := R27) L22 hF rfl rfl (rdc_ro h_v1) h8).q) (fun a w hF hW => ?_)
              refine ls hF hW rfl ((y_fieldAddr Try.underlying27 rfl rfl rfl T3 hF rfl (voff v1 + (x3).toNat * 2 + 1) rfl).q) (fun a w hF hW => ?_)
              refine ls hF hW rfl ((y_load_el (y := Value.int .i64 x16.2) (j := 1) (i := x3) hF rfl rfl (rdc_ro h_v1) h8 F27.to T3 rfl).q) (fun a w hF hW => ?_)
              obtain ⟨x17, h9, H⟩ := bindE H
              refine l_callG (Ml := []) (Zl := []) (M := [(b1, [v5])]) (Z := [frz v4 (Rp.int .i64) x2, row v5 3 (Rp.int .i64) x4]) (β := Value × Value) (rv := fun x => .tuple #[x.1, x.2]) (MM := fun x => []) (ZZ := fun x => [frz x.1 (Rp.int .i64) x17.1, frz x.2 (Rp.int .i64) x17.2]) hF hW H11 rfl rfl (fun hL => r13_Drain_c _ w (v4) x2 x16.2 _ h9 (hW.item (i := 0) rfl)) (fun x a w hF hW => ?_)
              obtain ⟨v12, v13⟩ := x
              have hW : Stw ⟨Y, [], w0⟩ [(b1, [v5])] [frz v12 (Rp.int .i64) x17.1, frz v13 (Rp.int .i64) x17.2, frz v4 (Rp.int .i64) x2, row v5 3 (Rp.int .i64) x4] w := hW
              refine ls hF hW rfl ((y_move hF rfl).q) (fun a w hF hW => ?_)
              refine ls hF hW rfl ((y_extract (v := v12) hF rfl rfl).q) (fun a w hF hW => ?_)
              refine ls hF hW rfl ((y_extract (v := v13) hF rfl rfl).q) (fun a w hF hW => ?_)
              refine ls hF hW rfl ((y_assign hF rfl).q) (fun a w hF hW => ?_)
              refine ls hF hW rfl ((y_assign hF rfl).q) (fun a w hF hW => ?_)
              refine ls_nil ?_
              refine c_then ?_
              refine c_seq ?_
              refine reg_list ?_
              refine ls hF hW rfl ((y_move hF rfl).q) (fun a w hF hW => ?_)
              refine ls hF hW rfl ((y_assign hF rfl).q) (fun a w hF hW => ?_)
              refine ls_nil ?_
              refine c_then ?_
              refine c_seq ?_
              refine reg_list ?_
              refine ls hF hW rfl ((y_move hF rfl).q) (fun a w hF hW => ?_)
              refine ls hF hW rfl ((y_move hF rfl).q) (fun a w hF hW => ?_)
              refine ls hF hW rfl ((y_move hF rfl).q) (fun a w hF hW => ?_)
              obtain ⟨x18, h10, H⟩ := bindE H
              refine ls hF hW rfl ((y_index (r := R27) L22 hF rfl rfl (rdc_ro h_v1) h10).q) (fun a w hF hW => ?_)
              refine ls hF hW rfl ((y_fieldAddr Try.underlying27 rfl rfl rfl T3 hF rfl (voff v1 + (x3).toNat * 2 + 1) rfl).q) (fun a w hF hW => ?_)
              refine ls hF hW rfl ((y_load_el (y := Value.int .i64 x18.2) (j := 1) (i := x3) hF rfl rfl (rdc_ro h_v1) h10 F27.to T3 rfl).q) (fun a w hF hW => ?_)
              obtain ⟨x19, h11, H⟩ := bindE H
              have hW := hW.frontZ (i := 3) rfl rfl
              refine l_callG (Ml := [(b1, [v5])]) (Zl := [row v5 3 (Rp.int .i64) x4]) (M := []) (Z := [frz v12 (Rp.int .i64) x17.1, frz v13 (Rp.int .i64) x17.2, frz v4 (Rp.int .i64) x2]) (β := Value × Value) (rv := fun x => x.1) (MM := fun x => [(b1, [x.2])]) (ZZ := fun x => [row x.2 3 (Rp.int .i64) x19.2, row x.1 3 (Rp.int .i64) x19.1]) hF hW H13 rfl rfl (fun hL => heap_Queue_int_Drain_c _ _ w b1 (v5) x4 x18.2 _ h11 hL) (fun x a w hF hW => ?_)
              obtain ⟨v14, v15⟩ := x
              have hW : Stw ⟨Y, [], w0⟩ [(b1, [v15])] [row v15 3 (Rp.int .i64) x19.2, row v14 3 (Rp.int .i64) x19.1, frz v12 (Rp.int .i64) x17.1, frz v13 (Rp.int .i64) x17.2, frz v4 (Rp.int .i64) x2] w := hW
              refine ls hF hW rfl ((y_move hF rfl).q) (fun a w hF hW => ?_)
              obtain ⟨x20, h12, H⟩ := bindE H
              refine ls hF hW rfl (y_call (v := Value.bool x20) hF H12 rfl (fun w hW => r13_Same_c any w (v14) (v12) x19.1 x17.1 _ h12 (((rdc_row 1 rfl) : Rdc _ _ _ _ _ _) w hW).nx (((rdc_frz 2 rfl) : Rdc _ _ _ _ _ _) w hW).nx)) (fun a w hF hW => ?_)
              refine ls hF hW rfl ((y_not hF rfl).q) (fun a w hF hW => ?_)
              refine ls_nil ?_
              refine c_then ?_
              refine c_cond hF rfl (fun hb => ?_) (fun hb => ?_)
              ·
                have H := iteT hb H
                rw [hb] at hF
                clear hb
                refine c_seq ?_
                refine reg_list ?_
                refine ls hF hW rfl ((y_assign hF rfl).q) (fun a w hF hW => ?_)
                refine ls_nil ?_
                refine c_then ?_
                refine wp_ret ?_
                refine r_block ?_
                refine r_then ?_
                refine r_block ?_
                refine r_then ?_
                refine r_then ?_
                refine r_block ?_
                refine r_then ?_
                have H := L3 _ H
                have H := L2 _ H
                have H := L1 _ H
                have H := Option.some.inj H
                subst H
                refine post1 (.inl rfl) hF hW rfl (rv_tmp hF rfl) ?_
                exact ⟨rfl, hW.done⟩
              ·
                have H := iteF (by rw [hb]; decide) H
                rw [hb] at hF
                clear hb
                refine wp_skip ?_
                refine b_normal ?_
                refine c_then ?_
                have hW := hW.frontZ (i := 3) rfl rfl
                have hW := hW.sub (M' := [(b1, [v15])]) (Z' := [frz v13 (Rp.int .i64) x17.2, row v15 3 (Rp.int .i64) x19.2]) (List.Sublist.refl _) (List.Sublist.cons_cons _ (List.Sublist.cons_cons _ (List.nil_sublist _)))
                exact ⟨_, _, (v13), (v15), H, hF.re ⟨rfl, rfl, rfl, rfl, rfl, trivial⟩, hW⟩
            ·
              have H := iteF (of_decide_eq_false hb) H
              rw [hb] at hF
              clear hb
              refine c_seq ?_
              refine reg_list ?_
              refine ls hF hW rfl ((y_eql hF rfl rfl).q) (fun a w hF hW => ?_)
              refine ls hF hW rfl ((y_assign hF rfl).q) (fun a w hF hW => ?_)
              refine ls_nil ?_
              refine c_then ?_
              refine c_cond hF rfl (fun hb => ?_) (fun hb => ?_)
              ·
                have H := iteT (of_decide_eq_true hb) H
                rw [hb] at hF
                clear hb
                refine c_seq ?_
                refine reg_list ?_
                refine ls hF hW rfl ((y_move hF rfl).q) (fun a w hF hW => ?_)
                refine ls hF hW rfl ((y_move hF rfl).q) (fun a w hF hW => ?_)
                refine ls hF hW rfl ((y_move hF rfl).q) (fun a w hF hW => ?_)
                obtain ⟨x21, h13, H⟩ := bindE H
                refine ls hF hW rfl ((y_index (r := R27) L22 hF rfl rfl (rdc_ro h_v1) h13).q) (fun a w hF hW => ?_)
                refine ls hF hW rfl ((y_fieldAddr Try.underlying27 rfl rfl rfl T3 hF rfl (voff v1 + (x3).toNat * 2 + 1) rfl).q) (fun a w hF hW => ?_)
                refine ls hF hW rfl ((y_load_el (y := Value.int .i64 x21.2) (j := 1) (i := x3) hF rfl rfl (rdc_ro h_v1) h13 F27.to T3 rfl).q) (fun a w hF hW => ?_)
                obtain ⟨x22, h14, H⟩ := bindE H
                refine l_callG (Ml := []) (Zl := []) (M := [(b1, [v5])]) (Z := [frz v4 (Rp.int .i64) x2, row v5 3 (Rp.int .i64) x4]) (β := Value) (rv := fun x => .tuple #[x, .bool x22.2]) (MM := fun x => []) (ZZ := fun x => [row x 3 (Rp.int .i64) x22.1]) hF hW H14 rfl rfl (fun hL => r13_Drop_c _ w (v4) x2 x21.2 _ h14 ((rdc_frz 0 rfl) w hW).nx) (fun x a w hF hW => ?_)
                obtain ⟨v16, rfl⟩ : ∃ y, y = x := ⟨x, rfl⟩
                have hW : Stw ⟨Y, [], w0⟩ [(b1, [v5])] [row v16 3 (Rp.int .i64) x22.1, frz v4 (Rp.int .i64) x2, row v5 3 (Rp.int .i64) x4] w := hW
                refine ls hF hW rfl ((y_move hF rfl).q) (fun a w hF hW => ?_)
                refine ls hF hW rfl ((y_extract (v := v16) hF rfl rfl).q) (fun a w hF hW => ?_)
                refine ls hF hW rfl ((y_extract (v := Value.bool x22.2) hF rfl rfl).q) (fun a w hF hW => ?_)
                refine ls hF hW rfl ((y_assign hF rfl).q) (fun a w hF hW => ?_)
                refine ls hF hW rfl ((y_assign hF rfl).q) (fun a w hF hW => ?_)
                refine ls_nil ?_
                refine c_then ?_
                refine c_seq ?_
                refine reg_list ?_
                refine ls hF hW rfl ((y_move hF rfl).q) (fun a w hF hW => ?_)
                refine ls hF hW rfl ((y_assign hF rfl).q) (fun a w hF hW => ?_)
                refine ls_nil ?_
                refine c_then ?_
                refine c_seq ?_
                refine reg_list ?_
                refine ls hF hW rfl ((y_move hF rfl).q) (fun a w hF hW => ?_)
                refine ls hF hW rfl ((y_move hF rfl).q) (fun a w hF hW => ?_)
                refine ls hF hW rfl ((y_move hF rfl).q) (fun a w hF hW => ?_)
                obtain ⟨x23, h15, H⟩ := bindE H
                refine ls hF hW rfl ((y_index (r := R27) L22 hF rfl rfl (rdc_ro h_v1) h15).q) (fun a w hF hW => ?_)
                refine ls hF hW rfl ((y_fieldAddr Try.underlying27 rfl rfl rfl T3 hF rfl (voff v1 + (x3).toNat * 2 + 1) rfl).q) (fun a w hF hW => ?_)
                refine ls hF hW rfl ((y_load_el (y := Value.int .i64 x23.2) (j := 1) (i := x3) hF rfl rfl (rdc_ro h_v1) h15 F27.to T3 rfl).q) (fun a w hF hW => ?_)
                obtain ⟨x24, h16, H⟩ := bindE H
                have hW := hW.frontZ (i := 2) rfl rfl
                refine l_callG (Ml := [(b1, [v5])]) (Zl := [row v5 3 (Rp.int .i64) x4]) (M := []) (Z := [row v16 3 (Rp.int .i64) x22.1, frz v4 (Rp.int .i64) x2]) (β := Value) (rv := fun x => .bool x24.1) (MM := fun x => [(b1, [x])]) (ZZ := fun x => [row x 3 (Rp.int .i64) x24.2]) hF hW H15 rfl rfl (fun hL => heap_Queue_int_Drop_c _ _ w b1 (v5) x4 x23.2 _ h16 hL) (fun x a w hF hW => ?_)
                obtain ⟨v17, rfl⟩ : ∃ y, y = x := ⟨x, rfl⟩
                have hW : Stw ⟨Y, [], w0⟩ [(b1, [v17])] [row v17 3 (Rp.int .i64) x24.2, row v16 3 (Rp.int .i64) x22.1, frz v4 (Rp.int .i64) x2] w := hW
                refine ls hF hW rfl ((y_move hF rfl).q) (fun a w hF hW => ?_)
                refine ls hF hW rfl ((y_neb Try.underlying4 hF rfl rfl).q) (fun a w hF hW => ?_)
                refine ls_nil ?_
                refine c_then ?_
                refine c_cond hF rfl (fun hb => ?_) (fun hb => ?_)
                ·
                  have H := iteT (of_decide_eq_true hb) H
                  rw [hb] at hF
                  clear hb
                  refine c_seq ?_
                  refine reg_list ?_
                  refine ls hF hW rfl ((y_assign hF rfl).q) (fun a w hF hW => ?_)
                  refine ls_nil ?_
                  refine c_then ?_
                  refine wp_ret ?_
                  refine r_block ?_
                  refine r_then ?_
                  refine r_block ?_
                  refine r_then ?_
                  refine r_then ?_
                  refine r_block ?_
                  refine r_then ?_
                  have H := L3 _ H
                  have H := L2 _ H
                  have H := L1 _ H
                  have H := Option.some.inj H
                  subst H
                  refine post1 (.inl rfl) hF hW rfl (rv_tmp hF rfl) ?_
                  exact ⟨rfl, hW.done⟩
                ·
                  have H := iteF (of_decide_eq_false hb) H
                  rw [hb] at hF
                  clear hb
                  refine wp_skip ?_
                  refine b_normal ?_
                  refine c_then ?_
                  have hW := hW.frontZ (i := 1) rfl rfl
                  have hW := hW.freeze
                  have hW := hW.frontZ (i := 1) rfl rfl
                  have hW := hW.frontZ (i := 1) rfl rfl
                  have hW := hW.sub (M' := [(b1, [v17])]) (Z' := [frz v16 (Rp.int .i64) x22.1, row v17 3 (Rp.int .i64) x24.2]) (List.Sublist.refl _) (List.Sublist.cons_cons _ (List.Sublist.cons_cons _ (List.nil_sublist _)))
                  exact ⟨_, _, (v16), (v17), H, hF.re ⟨rfl, rfl, rfl, rfl, rfl, trivial⟩, hW⟩
              ·
                have H := iteF (of_decide_eq_false hb) H
                rw [hb] at hF
                clear hb
                refine c_seq ?_
                refine reg_list ?_
                refine ls hF hW rfl ((y_eql hF rfl rfl).q) (fun a w hF hW => ?_)
                refine ls hF hW rfl ((y_assign hF rfl).q) (fun a w hF hW => ?_)
                refine ls_nil ?_
                refine c_then ?_
                refine c_cond hF rfl (fun hb => ?_) (fun hb => ?_)
                ·
                  have H := iteT (of_decide_eq_true hb) H
                  rw [hb] at hF
                  clear hb
                  refine c_seq ?_
                  refine reg_list ?_
                  refine ls hF hW rfl ((y_move hF rfl).q) (fun a w hF hW => ?_)
                  obtain ⟨x25, h17, H⟩ := bindE H
                  refine ls hF hW rfl (y_call (v := Value.tuple #[.int .i64 x25.1, .bool x25.2]) hF H16 rfl (fun w hW => heap_Queue_int_Peek_c any w b1 (v5) x4 _ h17 (((rdc_row 1 rfl) : Rdc _ _ _ _ _ _) w hW).nx (at_M hW 0 rfl))) (fun a w hF hW => ?_)
                  refine ls hF hW rfl ((y_move hF rfl).q) (fun a w hF hW => ?_)
                  refine ls hF hW rfl ((y_extract (v := Value.int .i64 x25.1) hF rfl rfl).q) (fun a w hF hW => ?_)
                  refine ls hF hW rfl ((y_extract (v := Value.bool x25.2) hF rfl rfl).q) (fun a w hF hW => ?_)
                  refine ls hF hW rfl ((y_assign hF rfl).q) (fun a w hF hW => ?_)
                  refine ls hF hW rfl ((y_assign hF rfl).q) (fun a w hF hW => ?_)
                  refine ls_nil ?_
                  refine c_then ?_
                  refine c_seq ?_
                  refine reg_list ?_
                  refine ls hF hW rfl ((y_move hF rfl).q) (fun a w hF hW => ?_)
                  obtain ⟨x26, h18, H⟩ := bindE H
                  refine l_callG (Ml := []) (Zl := []) (M := [(b1, [v5])]) (Z := [frz v4 (Rp.int .i64) x2, row v5 3 (Rp.int .i64) x4]) (β := Value) (rv := fun x => .tuple #[.int .i64 x26.1, x, .bool x26.2.2]) (MM := fun x => []) (ZZ := fun x => [frz x (Rp.int .i64) x26.2.1]) hF hW H10 rfl rfl (fun hL => r13_Pop_c _ w (v4) x2 _ h18 (hW.item (i := 0) rfl)) (fun x a w hF hW => ?_)
                  obtain ⟨v18, rfl⟩ : ∃ y, y = x := ⟨x, rfl⟩
                  have hW : Stw ⟨Y, [], w0⟩ [(b1, [v5])] [frz v18 (Rp.int .i64) x26.2.1, frz v4 (Rp.int .i64) x2, row v5 3 (Rp.int .i64) x4] w := hW
                  refine ls hF hW rfl ((y_move hF rfl).q) (fun a w hF hW => ?_)
                  refine ls hF hW rfl ((y_extract (v := Value.int .i64 x26.1) hF rfl rfl).q) (fun a w hF hW => ?_)
                  refine ls hF hW rfl ((y_extract (v := v18) hF rfl rfl).q) (fun a w hF hW => ?_)
                  refine ls hF hW rfl ((y_extract (v := Value.bool x26.2.2) hF rfl rfl).q) (fun a w hF hW => ?_)
                  refine ls hF hW rfl ((y_assign hF rfl).q) (fun a w hF hW => ?_)
                  refine ls hF hW rfl ((y_assign hF rfl).q) (fun a w hF hW => ?_)
                  refine ls hF hW rfl ((y_assign hF rfl).q) (fun a w hF hW => ?_)
                  refine ls_nil ?_
                  refine c_then ?_
                  refine c_seqJ (fun a w => Fr 149 [] [(0, v1), (2, .bool false), (3, .pointer (some ⟨b1, 0, none⟩)), (4, v4), (5, .int .i64 x3), (142, .bool (decide (x25.1 ≠ x26.1) || decide (x25.2 ≠ x26.2.2)))] a ∧ Stw ⟨Y, [], w0⟩ [(b1, [v5])] [frz v18 (Rp.int .i64) x26.2.1, frz v4 (Rp.int .i64) x2, row v5 3 (Rp.int .i64) x4] w) ?_ ?_
                  ·
                    refine reg_list ?_
                    refine ls hF hW rfl ((y_move hF rfl).q) (fun a w hF hW => ?_)
                    refine ls hF hW rfl ((y_move hF rfl).q) (fun a w hF hW => ?_)
                    refine ls hF hW rfl ((y_neq hF rfl rfl).q) (fun a w hF hW => ?_)
                    refine ls hF hW rfl ((y_move hF rfl).q) (fun a w hF hW => ?_)
                    rcases Bool.eq_false_or_eq_true (decide (x25.1 ≠ x26.1)) with hb0 | hb0
                    ·
                      rw [hb0] at hF
                      refine ls_skip hF (wanted_n hF rfl rfl rfl rfl rfl) rfl rfl (fun a hF => ?_)
                      refine ls_skip hF (wanted_n hF rfl rfl rfl rfl rfl) rfl rfl (fun a hF => ?_)
                      refine ls_skip hF (wanted_n hF rfl rfl rfl rfl rfl) rfl rfl (fun a hF => ?_)
                      refine ls hF hW rfl ((y_pick_t hF rfl rfl rfl).q) (fun a w hF hW => ?_)
                      refine ls_nil ?_
                      refine c_then ?_
                      exact ⟨hF.re ⟨rfl, rfl, rfl, rfl, rfl, (by show some (Value.bool true) = some (Value.bool (decide (x25.1 ≠ x26.1) || decide (x25.2 ≠ x26.2.2))); try rw [hb0]; all_goals simp only [Bool.not_true, Bool.not_false, Bool.true_and, Bool.false_and, Bool.true_or, Bool.false_or, Bool.and_true, Bool.or_false, cond_true, cond_false]), trivial⟩, hW⟩
                    ·
                      rw [hb0] at hF
                      refine ls_w hF hW (wanted_y hF rfl rfl rfl rfl) rfl (Nat.le_of_ble_eq_true rfl) ((y_move hF rfl).q) (fun a w hF hW => ?_)
                      refine ls_w hF hW (wanted_y hF rfl rfl rfl rfl) rfl (Nat.le_of_ble_eq_true rfl) ((y_move hF rfl).q) (fun a w hF hW => ?_)
                      refine ls_w hF hW (wanted_y hF rfl rfl rfl rfl) rfl (Nat.le_of_ble_eq_true rfl) ((y_neb Try.underlying4 hF rfl rfl).q) (fun a w hF hW => ?_)
                      refine ls hF hW rfl ((y_pick_f hF rfl rfl rfl).q) (fun a w hF hW => ?_)
                      refine ls_nil ?_
                      refine c_then ?_
                      exact ⟨hF.re ⟨rfl, rfl, rfl, rfl, rfl, (by show some (Value.bool (decide (x25.2 ≠ x26.2.2))) = some (Value.bool (decide (x25.1 ≠ x26.1) || decide (x25.2 ≠ x26.2.2))); try rw [hb0]; all_goals simp only [Bool.not_true, Bool.not_false, Bool.true_and, Bool.false_and, Bool.true_or, Bool.false_or, Bool.and_true, Bool.or_false, cond_true, cond_false]), trivial⟩, hW⟩
                  rintro a w ⟨hF, hW⟩
                  refine c_cond hF rfl (fun hb => ?_) (fun hb => ?_)
                  ·
                    have H := iteT hb H
                    rw [hb] at hF
                    clear hb
                    refine c_seq ?_
                    refine reg_list ?_
                    refine ls hF hW rfl ((y_assign hF rfl).q) (fun a w hF hW => ?_)
                    refine ls_nil ?_
                    refine c_then ?_
                    refine wp_ret ?_
                    refine r_block ?_
                    refine r_then ?_
                    refine r_block ?_
                    refine r_then ?_
                    refine r_then ?_
                    refine r_block ?_
                    refine r_then ?_
                    have H := L3 _ H
                    have H := L2 _ H
                    have H := L1 _ H
                    have H := Option.some.inj H
                    subst H
                    refine post1 (.inl rfl) hF hW rfl (rv_tmp hF rfl) ?_
                    exact ⟨rfl, hW.done⟩
                  ·
                    have H := iteF (by rw [hb]; decide) H
                    rw [hb] at hF
                    clear hb
                    refine wp_skip ?_
                    refine b_normal ?_
                    refine c_then ?_
                    have hW := hW.frontZ (i := 2) rfl rfl
                    have hW := hW.frontZ (i := 2) rfl rfl
                    have hW := hW.sub (M' := [(b1, [v5])]) (Z' := [frz v4 (Rp.int .i64) x2, row v5 3 (Rp.int .i64) x4]) (List.Sublist.refl _) (List.Sublist.cons_cons _ (List.Sublist.cons_cons _ (List.nil_sublist _)))
                    exact ⟨_, _, (v4), (v5), H, hF.re ⟨rfl, rfl, rfl, rfl, rfl, trivial⟩, hW⟩
                ·
                  have H := iteF (of_decide_eq_false hb) H
                  rw [hb] at hF
                  clear hb
                  refine wp_skip ?_
                  refine b_normal ?_
                  refine c_then ?_
                  have hW := hW.frontZ (i := 1) rfl rfl
                  have hW := hW.frontZ (i := 1) rfl rfl
                  exact ⟨_, _, (v4), (v5), H, hF.re ⟨rfl, rfl, rfl, rfl, rfl, trivial⟩, hW⟩
      rintro a w ⟨x5, x6, v6, v7, hj, hF, hW⟩
      have H := K3 _ hj
      clear hj G3 K3 L3
      refine c_seq ?_
      refine reg_list ?_
      refine ls hF hW rfl ((y_move hF rfl).q) (fun a w hF hW => ?_)
      refine ls hF hW rfl (y_call (v := Value.int .i64 (heap_Queue_int_Len x6)) hF H17 rfl (fun w hW => heap_Queue_int_Len_c any w b1 (v7) x6 _ rfl (((rdc_row 1 rfl) : Rdc _ _ _ _ _ _) w hW).nx (at_M hW 0 rfl))) (fun a w hF hW => ?_)
      refine ls hF hW rfl ((y_move hF rfl).q) (fun a w hF hW => ?_)
      refine ls hF hW rfl ((y_len (r := (Rp.int .i64)) (l := x5) Try.underlying25 rfl hF rfl (rdc_frz 0 rfl)).q) (fun a w hF hW => ?_)
      refine ls hF hW rfl ((y_neq hF rfl rfl).q) (fun a w hF hW => ?_)
      refine ls_nil ?_
      refine c_then ?_
      refine c_cond hF rfl (fun hb => ?_) (fun hb => ?_)
      ·
        have H := iteT (of_decide_eq_true hb) H
        rw [hb] at hF
        clear hb
        refine c_seq ?_
        refine reg_list ?_
        refine ls hF hW rfl ((y_assign hF rfl).q) (fun a w hF hW => ?_)
        refine ls_nil ?_
        refine c_then ?_
        refine wp_ret ?_
        refine r_block ?_
        refine r_then ?_
        refine r_then ?_
        refine r_block ?_
        refine r_then ?_
        have H := L2 _ H
        have H := L1 _ H
        have H := Option.some.inj H
        subst H
        refine post1 (.inl rfl) hF hW rfl (rv_tmp hF rfl) ?_
        exact ⟨rfl, hW.done⟩
      ·
        have H := iteF (of_decide_eq_false hb) H
        rw [hb] at hF
        clear hb
        refine wp_skip ?_
        refine b_normal ?_
        refine c_then ?_
        refine reg_list ?_
        refine ls hF hW rfl ((y_move hF rfl).q) (fun a w hF hW => ?_)
        refine ls hF hW rfl ((y_add hF rfl rfl rfl).q) (fun a w hF hW => ?_)
        refine ls hF hW rfl ((y_assign hF rfl).q) (fun a w hF hW => ?_)
        refine ls_nil ?_
        refine c_then ?_
        have hW := hW.frontZ (i := 1) rfl rfl
        have hW := hW.frontZ (i := 1) rfl rfl
        exact ⟨_, H, (v6), (v7), hF.re ⟨rfl, rfl, rfl, rfl, rfl, trivial⟩, hW⟩
    ·
      have H := iteF (by rw [hb]; decide) H
      rw [hb] at hF
      clear hb
      refine wp_exit ?_
      refine e_then ?_
      refine e_then ?_
      refine e_block ?_
      refine c_then ?_
      have hW := hW.frontZ (i := 1) rfl rfl
      have hW := hW.sub (M' := [(b1, [v5])]) (Z' := [row v5 3 (Rp.int .i64) x4]) (List.Sublist.refl _) (List.Sublist.cons_cons _ (List.nil_sublist _))
      have H := L2 _ H
      exact ⟨_, (v5), H, hF.re ⟨rfl, trivial⟩, hW⟩
  rintro a w ⟨x1, v3, hj, hF, hW⟩
  have H := K1 _ hj
  clear hj G1 K1 L1
  refine c_seq ?_
  refine reg_list ?_
  obtain ⟨x27, h19, H⟩ := bindE H
  refine ls hF hW rfl (y_call (v := Value.bool x27) hF H18 rfl (fun w hW => L13_awake_c any w _ h19)) (fun a w hF hW => ?_)
  refine ls hF hW rfl ((y_assign hF rfl).q) (fun a w hF hW => ?_)
  refine ls_nil ?_
  refine c_then ?_
  refine wp_ret ?_
  have H := Option.some.inj H
  subst H
  refine post1 (.inl rfl) hF hW rfl (rv_tmp hF rfl) ?_
  exact ⟨rfl, hW.done⟩

noncomputable def L13_HeapSorts_l1 (p0 : List Int) (p1 : Int) : (Int × Int × List Int) → Option ((Int × Int × List Int) ⊕ (Int × List Int))
  | (x4, x5, x6) => (if x5 < (p0.length : Int) then ((ix p0 x5).bind fun x9 => (heap_Queue_int_Push x6 x9).bind fun x10 => (ix p0 x5).bind fun x11 => (if x11 = p1 then some (w64 (x4 + 1), x10) else some (x4, x10))).bind fun (x7, x8) => some (.inl (x7, w64 (x5 + 1), x8)) else some (.inr (x4, x6)))
noncomputable def L13_HeapSorts_l2 (p0 : List Int) (p1 : Int) : (Int × Int × Int × List Int) → Option ((Int × Int × Int × List Int) ⊕ ((Int × List Int) ⊕ Bool))
  | (x14, x15, x16, x17) => (if x16 < (p0.length : Int) then (heap_Queue_int_Pop x17).bind fun x18 => (if (!x18.2.1 || (decide (0 < x16) && decide (x18.1 < x15))) = true then some (.inr (.inr false)) else (if x18.1 = p1 then some (w64 (x14 + 1)) else some x14).bind fun x19 => some (.inl (x19, x18.1, w64 (x16 + 1), x18.2.2))) else some (.inr (.inl (x14, x17))))
noncomputable def L13_HeapSorts (p0 : List Int) (p1 : Int) : Option Bool := (if 100 < (p0.length : Int) then (L13_awake).bind fun x1 => some x1 else (loopW (L13_HeapSorts_l1 p0 p1) (0, 0, heap_New_int)).bind fun (x2, x3) => orR (loopW (L13_HeapSorts_l2 p0 p1) (0, 0, 0, x3)) fun (x12, x13) => (heap_Queue_int_Pop x13).bind fun x20 => (if (!x20.2.1) = true then (if x2 = x12 then (L13_awake).bind fun x22 => some x22 else some false) else some false).bind fun x21 => some x21)
theorem L13_HeapSorts_c (Y : Nat → Prop) (w0 : World) (v1 : Value) (p0 : List Int) (p1 : Int) (r : Bool) (H : L13_HeapSorts p0 p1 = some r) (h_v1 : Sl w0 (NX []) (Rp.int .i64) v1 p0) :
    Calls Try.prog 4 #[v1, .int .i64 p1] w0 fun e w' => e = .returned (.bool r) ∧ Below w0.heap.size w0 w' := by
  refine enter Try.func4 rfl Try.ntmps4 rfl (fun a hF => ?_)
  have hW := Stw.start Y w0
  unfold L13_HeapSorts at H
  refine c_seq ?_
  refine reg_list ?_
  refine ls hF hW rfl ((y_assign hF rfl).q) (fun a w hF hW => ?_)
  refine ls_nil ?_
  refine c_then ?_
  refine c_seq ?_
  refine c_seq ?_
  refine reg_list ?_
  refine ls hF hW rfl ((y_move hF rfl).q) (fun a w hF hW => ?_)
  refine ls hF hW rfl ((y_len (r := (Rp.int .i64)) (l := p0) Try.underlying25 rfl hF rfl (rdc_ro h_v1)).q) (fun a w hF hW => ?_)
  refine ls hF hW rfl ((y_gtr hF rfl rfl).q) (fun a w hF hW => ?_)
  refine ls_nil ?_
  refine c_then ?_
  refine c_cond hF rfl (fun hb => ?_) (fun hb => ?_)
  ·
    have H := iteT (of_decide_eq_true hb) H
    rw [hb] at hF
    clear hb
    refine c_seq ?_
    refine reg_list ?_
    obtain ⟨x1, h1, H⟩ := bindE H
    refine ls hF hW rfl (y_call (v := Value.bool x1) hF H18 rfl (fun w hW => L13_awake_c any w _ h1)) (fun a w hF hW => ?_)
    refine ls hF hW rfl ((y_assign hF rfl).q) (fun a w hF hW => ?_)
    refine ls_nil ?_
    refine c_then ?_
    refine wp_ret ?_
    refine r_then ?_
    have H := Option.some.inj H
    subst H
    refine post1 (.inl rfl) hF hW rfl (rv_tmp hF rfl) ?_
    exact ⟨rfl, hW.done⟩
  ·
    have H := iteF (of_decide_eq_false hb) H
    rw [hb] at hF
    clear hb
    refine wp_skip ?_
    refine c_then ?_
    refine c_seq ?_
    refine reg_list ?_
    refine l_callG (Ml := []) (Zl := []) (M := []) (Z := []) (β := Nat × Value) (rv := fun x => .pointer (some ⟨x.1, 0, none⟩)) (MM := fun x => [(x.1, [x.2])]) (ZZ := fun x => [row x.2 3 (Rp.int .i64) heap_New_int]) hF hW H6 rfl rfl (fun hL => heap_New_int_c _ w _ rfl) (fun x a w hF hW => ?_)
    obtain ⟨b1, v2⟩ := x
    have hW : Stw ⟨Y, [], w0⟩ [(b1, [v2])] [row v2 3 (Rp.int .i64) heap_New_int] w := hW
    refine ls hF hW rfl ((y_assign hF rfl).q) (fun a w hF hW => ?_)
    refine ls_nil ?_
    refine c_then ?_
    refine c_seq ?_
    refine reg_list ?_
    refine ls hF hW rfl ((y_assign hF rfl).q) (fun a w hF hW => ?_)
    refine ls hF hW rfl ((y_assign hF rfl).q) (fun a w hF hW => ?_)
    refine ls_nil ?_
    refine c_then ?_
    obtain ⟨o1, G1, K1⟩ := bindE H
    refine c_seqJ (fun a w => ∃ x2 : Int, ∃ x3 : List Int, ∃ v3 : Value, some ((x2, x3)) = some o1 ∧ Fr 83 [] [(0, v1), (1, .int .i64 p1), (4, .bool false), (5, .pointer (some ⟨b1, 0, none⟩)), (6, .int .i64 x2), (7, .int .i64 0)] a ∧ Stw ⟨Y, [], w0⟩ [(b1, [v3])] [row v3 3 (Rp.int .i64) x3] w) ?_ ?_
    ·
      have H := G1
      clear G1 K1
      refine c_seq ?_
      refine reg_list ?_
      refine ls hF hW rfl ((y_assign hF rfl).q) (fun a w hF hW => ?_)
      refine ls_nil ?_
      refine c_then ?_
      refine wp_block ?_
      refine c_loopW H (fun s a w => ∃ v4 : Value, Fr 83 [] [(0, v1), (1, .int .i64 p1), (4, .bool false), (5, .pointer (some ⟨b1, 0, none⟩)), (6, .int .i64 s.1), (7, .int .i64 0), (8, .int .i64 s.2.1)] a ∧ Stw ⟨Y, [], w0⟩ [(b1, [v4])] [row v4 3 (Rp.int .i64) s.2.2] w) ⟨(v2), hF.re ⟨rfl, rfl, rfl, rfl, rfl, rfl, rfl, trivial⟩, hW⟩ (fun s o a w H L2 hR => ?_)
      obtain ⟨x4, x5, x6⟩ := s
      obtain ⟨v4, hF, hW⟩ := hR
      have hF : Fr 83 [] [(0, v1), (1, .int .i64 p1), (4, .bool false), (5, .pointer (some ⟨b1, 0, none⟩)), (6, .int .i64 x4), (7, .int .i64 0), (8, .int .i64 x5)] a := hF
      have hW : Stw ⟨Y, [], w0⟩ [(b1, [v4])] [row v4 3 (Rp.int .i64) x6] w := hW
      rw [L13_HeapSorts_l1] at H
      refine c_seq ?_
      refine c_seq ?_
      refine reg_list ?_
      refine ls hF hW rfl ((y_move hF rfl).q) (fun a w hF hW => ?_)
      refine ls hF hW rfl ((y_move hF rfl).q) (fun a w hF hW => ?_)
      refine ls hF hW rfl ((y_len (r := (Rp.int .i64)) (l := p0) Try.underlying25 rfl hF rfl (rdc_ro h_v1)).q) (fun a w hF hW => ?_)
      refine ls hF hW rfl ((y_lss hF rfl rfl).q) (fun a w hF hW => ?_)
      refine ls_nil ?_
      refine c_then ?_
      refine c_cond hF rfl (fun hb => ?_) (fun hb => ?_)
      ·
        have H := iteT (of_decide_eq_true hb) H
        rw [hb] at hF
        clear hb
        refine wp_skip ?_
        refine c_then ?_
        obtain ⟨o3, G3, K3⟩ := bindE H
        refine c_seqJ (fun a w => ∃ x7 : Int, ∃ x8 : List Int, ∃ v5 : Value, some ((x7, x8)) = some o3 ∧ Fr 83 [] [(0, v1), (1, .int .i64 p1), (4, .bool false), (5, .pointer (some ⟨b1, 0, none⟩)), (6, .int .i64 x7), (7, .int .i64 0), (8, .int .i64 x5)] a ∧ Stw ⟨Y, [], w0⟩ [(b1, [v5])] [row v5 3 (Rp.int .i64) x8] w) ?_ ?_
        ·
          have H := G3
          clear G3 K3
          refine wp_block ?_
          refine c_seq ?_
          refine reg_list ?_
          refine ls hF hW rfl ((y_move hF rfl).q) (fun a w hF hW => ?_)
          refine ls hF hW rfl ((y_move hF rfl).q) (fun a w hF hW => ?_)
          refine ls hF hW rfl ((y_move hF rfl).q) (fun a w hF hW => ?_)
          obtain ⟨x9, h2, H⟩ := bindE H
          refine ls hF hW rfl ((y_index (r := (Rp.int .i64)) L25 hF rfl rfl (rdc_ro h_v1) h2).q) (fun a w hF hW => ?_)
          refine ls hF hW rfl ((y_load_el (y := Value.int .i64 x9) (j := 0) (i := x5) hF rfl rfl (rdc_ro h_v1) h2 Fl.int.to T3 rfl).q) (fun a w hF hW => ?_)
          obtain ⟨x10, h3, H⟩ := bindE H
          refine l_callG (Ml := [(b1, [v4])]) (Zl := [row v4 3 (Rp.int .i64) x6]) (M := []) (Z := []) (β := Value) (rv := fun x => .tuple #[]) (MM := fun x => [(b1, [x])]) (ZZ := fun x => [row x 3 (Rp.int .i64) x10]) hF hW H7 rfl rfl (fun hL => heap_Queue_int_Push_c _ _ w b1 (v4) x6 x9 _ h3 hL) (fun x a w hF hW => ?_)
          obtain ⟨v6, rfl⟩ : ∃ y, y = x := ⟨x, rfl⟩
          have hW : Stw ⟨Y, [], w0⟩ [(b1, [v6])] [row v6 3 (Rp.int .i64) x10] w := hW
          refine ls_nil ?_
          refine c_then ?_
          refine c_seq ?_
          refine reg_list ?_
          refine ls hF hW rfl ((y_move hF rfl).q) (fun a w hF hW => ?_)
          refine ls hF hW rfl ((y_move hF rfl).q) (fun a w hF hW => ?_)
          obtain ⟨x11, h4, H⟩ := bindE H
          refine ls hF hW rfl ((y_index (r := (Rp.int .i64)) L25 hF rfl rfl (rdc_ro h_v1) h4).q) (fun a w hF hW => ?_)
          refine ls hF hW rfl ((y_load_el (y := Value.int .i64 x11) (j := 0) (i := x5) hF rfl rfl (rdc_ro h_v1) h4 Fl.int.to T3 rfl).q) (fun a w hF hW => ?_)
          refine ls hF hW rfl ((y_move hF rfl).q) (fun a w hF hW => ?_)
          refine ls hF hW rfl ((y_eql hF rfl rfl).q) (fun a w hF hW => ?_)
          refine ls_nil ?_
          refine c_then ?_
          refine c_cond hF rfl (fun hb => ?_) (fun hb => ?_)
          ·
            have H := iteT (of_decide_eq_true hb) H
            rw [hb] at hF
            clear hb
            refine reg_list ?_
            refine ls hF hW rfl ((y_move hF rfl).q) (fun a w hF hW => ?_)
            refine ls hF hW rfl ((y_add hF rfl rfl rfl).q) (fun a w hF hW => ?_)
            refine ls hF hW rfl ((y_assign hF rfl).q) (fun a w hF hW => ?_)
            refine ls_nil ?_
            refine b_normal ?_
            refine c_then ?_
            exact ⟨_, _, (v6), H, hF.re ⟨rfl, rfl, rfl, rfl, rfl, rfl, rfl, trivial⟩, hW⟩
          ·
            have H := iteF (of_decide_eq_false hb) H
            rw [hb] at hF
            clear hb
            refine wp_skip ?_
            refine b_normal ?_
            refine c_then ?_
            exact ⟨_, _, (v6), H, hF.re ⟨rfl, rfl, rfl, rfl, rfl, rfl, rfl, trivial⟩, hW⟩
        rintro a w ⟨x7, x8, v5, hj, hF, hW⟩
        have hj := Option.some.inj hj
        subst hj
        have H := K3
        clear G3 K3
        refine reg_list ?_
        refine ls hF hW rfl ((y_move hF rfl).q) (fun a w hF hW => ?_)
        refine ls hF hW rfl ((y_add hF rfl rfl rfl).q) (fun a w hF hW => ?_)
        refine ls hF hW rfl ((y_assign hF rfl).q) (fun a w hF hW => ?_)
        refine ls_nil ?_
        refine c_then ?_
        exact ⟨_, H, (v5), hF.re ⟨rfl, rfl, rfl, rfl, rfl, rfl, rfl, trivial⟩, hW⟩
      ·
        have H := iteF (of_decide_eq_false hb) H
        rw [hb] at hF
        clear hb
        refine wp_exit ?_
        refine e_then ?_
        refine e_then ?_
        refine e_block ?_
        refine c_then ?_
        have H := L2 _ H
        exact ⟨_, _, (v4), H, hF.re ⟨rfl, rfl, rfl, rfl, rfl, rfl, trivial⟩, hW⟩
    rintro a w ⟨x2, x3, v3, hj, hF, hW⟩
    have hj := Option.some.inj hj
    subst hj
    have H := K1
    clear G1 K1
    refine c_seq ?_
    refine reg_list ?_
    refine ls hF hW rfl ((y_assign hF rfl).q) (fun a w hF hW => ?_)
    refine ls_nil ?_
    refine c_then ?_
    obtain ⟨o4, G4, K4, L4⟩ := orE H
    refine c_seqJ (fun a w => ∃ x12 : Int, ∃ x13 : List Int, ∃ v7 : Value, some (Sum.inl (x12, x13)) = some o4 ∧ Fr 83 [] [(4, .bool false), (5, .pointer (some ⟨b1, 0, none⟩)), (6, .int .i64 x2), (7, .int .i64 x12)] a ∧ Stw ⟨Y, [], w0⟩ [(b1, [v7])] [row v7 3 (Rp.int .i64) x13] w) ?_ ?_
    ·
      have H := G4
      clear G4 K4
      refine c_seq ?_
      refine reg_list ?_
      refine ls hF hW rfl ((y_assign hF rfl).q) (fun a w hF hW => ?_)
      refine ls_nil ?_
      refine c_then ?_
      refine wp_block ?_
      refine c_loopW H (fun s a w => ∃ v8 : Value, Fr 83 [] [(0, v1), (1, .int .i64 p1), (4, .bool false), (5, .pointer (some ⟨b1, 0, none⟩)), (6, .int .i64 x2), (7, .int .i64 s.1), (9, .int .i64 s.2.1), (10, .int .i64 s.2.2.1)] a ∧ Stw ⟨Y, [], w0⟩ [(b1, [v8])] [row v8 3 (Rp.int .i64) s.2.2.2] w) ⟨(v3), hF.re ⟨rfl, rfl, rfl, rfl, rfl, rfl, rfl, rfl, trivial⟩, hW⟩ (fun s o a w H L5 hR => ?_)
      obtain ⟨x14, x15, x16, x17⟩ := s
      obtain ⟨v8, hF, hW⟩ := hR
      have hF : Fr 83 [] [(0, v1), (1, .int .i64 p1), (4, .bool false), (5, .pointer (some ⟨b1, 0, none⟩)), (6, .int .i64 x2), (7, .int .i64 x14), (9, .int .i64 x15), (10, .int .i64 x16)] a := hF
      have hW : Stw ⟨Y, [], w0⟩ [(b1, [v8])] [row v8 3 (Rp.int .i64) x17] w := hW
      rw [L13_HeapSorts_l2] at H
      refine c_seq ?_
      refine c_seq ?_
      refine reg_list ?_
      refine ls hF hW rfl ((y_move hF rfl).q) (fun a w hF hW => ?_)
      refine ls hF hW rfl ((y_move hF rfl).q) (fun a w hF hW => ?_)
      refine ls hF hW rfl ((y_len (r := (Rp.int .i64)) (l := p0) Try.underlying25 rfl hF rfl (rdc_ro h_v1)).q) (fun a w hF hW => ?_)
      refine ls hF hW rfl ((y_lss hF rfl rfl).q) (fun a w hF hW => ?_)
      refine ls_nil ?_
      refine c_then ?_
      refine c_cond hF rfl (fun hb => ?_) (fun hb => ?_)
      ·
        have H := iteT (of_decide_eq_true hb) H
        rw [hb] at hF
        clear hb
        refine wp_skip ?_
        refine c_then ?_
        refine c_seq ?_
        refine wp_block ?_
        refine c_seq ?_
        refine reg_list ?_
        refine ls hF hW rfl ((y_move hF rfl).q) (fun a w hF hW => ?_)
        obtain ⟨x18, h5, H⟩ := bindE H
        refine l_callG (Ml := [(b1, [v8])]) (Zl := [row v8 3 (Rp.int .i64) x17]) (M := []) (Z := []) (β := Value) (rv := fun x => .tuple #[.int .i64 x18.1, .bool x18.2.1]) (MM := fun x => [(b1, [x])]) (ZZ := fun x => [row x 3 (Rp.int .i64) x18.2.2]) hF hW H9 rfl rfl (fun hL => heap_Queue_int_Pop_c _ _ w b1 (v8) x17 _ h5 hL) (fun x a w hF hW => ?_)
        obtain ⟨v9, rfl⟩ : ∃ y, y = x := ⟨x, rfl⟩
        have hW : Stw ⟨Y, [], w0⟩ [(b1, [v9])] [row v9 3 (Rp.int .i64) x18.2.2] w := hW
        refine ls hF hW rfl ((y_move hF rfl).q) (fun a w hF hW => ?_)
        refine ls hF hW rfl ((y_extract (v := Value.int .i64 x18.1) hF rfl rfl).q) (fun a w hF hW => ?_)
        refine ls hF hW rfl ((y_extract (v := Value.bool x18.2.1) hF rfl rfl).q) (fun a w hF hW => ?_)
        refine ls hF hW rfl ((y_assign hF rfl).q) (fun a w hF hW => ?_)
        refine ls hF hW rfl ((y_assign hF rfl).q) (fun a w hF hW => ?_)
        refine ls_nil ?_
        refine c_then ?_
        refine c_seq ?_
        refine c_seqJ (fun a w => Fr 83 [] [(0, v1), (1, .int .i64 p1), (4, .bool false), (5, .pointer (some ⟨b1, 0, none⟩)), (6, .int .i64 x2), (7, .int .i64 x14), (9, .int .i64 x15), (10, .int .i64 x16), (11, .int .i64 x18.1), (61, .bool (!x18.2.1 || (decide (0 < x16) && decide (x18.1 < x15))))] a ∧ Stw ⟨Y, [], w0⟩ [(b1, [v9])] [row v9 3 (Rp.int .i64) x18.2.2] w) ?_ ?_
        ·
          refine reg_list ?_
          refine ls hF hW rfl ((y_move hF rfl).q) (fun a w hF hW => ?_)
          refine ls hF hW rfl ((y_not hF rfl).q) (fun a w hF hW => ?_)
          refine ls hF hW rfl ((y_move hF rfl).q) (fun a w hF hW => ?_)
          rcases Bool.eq_false_or_eq_true (!x18.2.1) with hb0 | hb0
          ·
            rw [hb0] at hF
            refine ls_skip hF (wanted_n hF rfl rfl rfl rfl rfl) rfl rfl (fun a hF => ?_)
            refine ls_skip hF (wanted_n hF rfl rfl rfl rfl rfl) rfl rfl (fun a hF => ?_)
            refine ls_skip hF (wanted_n hF rfl rfl rfl rfl rfl) rfl rfl (fun a hF => ?_)
            refine ls_skip hF (wanted_undef hF rfl rfl rfl rfl) rfl rfl (fun a hF => ?_)
            refine ls_skip hF (wanted_undef hF rfl rfl rfl rfl) rfl rfl (fun a hF => ?_)
            refine ls_skip hF (wanted_undef hF rfl rfl rfl rfl) rfl rfl (fun a hF => ?_)
            refine ls_skip hF (wanted_n hF rfl rfl rfl rfl rfl) rfl rfl (fun a hF => ?_)
            refine ls hF hW rfl ((y_pick_t hF rfl rfl rfl).q) (fun a w hF hW => ?_)
            refine ls_nil ?_
            refine c_then ?_
            exact ⟨hF.re ⟨rfl, rfl, rfl, rfl, rfl, rfl, rfl, rfl, rfl, (by show some (Value.bool true) = some (Value.bool (!x18.2.1 || (decide (0 < x16) && decide (x18.1 < x15)))); try rw [hb0]; all_goals simp only [Bool.not_true, Bool.not_false, Bool.true_and, Bool.false_and, Bool.true_or, Bool.false_or, Bool.and_true, Bool.or_false, cond_true, cond_false]), trivial⟩, hW⟩
          ·
            rw [hb0] at hF
            refine ls_w hF hW (wanted_y hF rfl rfl rfl rfl) rfl (Nat.le_of_ble_eq_true rfl) ((y_move hF rfl).q) (fun a w hF hW => ?_)
            refine ls_w hF hW (wanted_y hF rfl rfl rfl rfl) rfl (Nat.le_of_ble_eq_true rfl) ((y_gtr hF rfl rfl).q) (fun a w hF hW => ?_)
            refine ls_w hF hW (wanted_y hF rfl rfl rfl rfl) rfl (Nat.le_of_ble_eq_true rfl) ((y_move hF rfl).q) (fun a w hF hW => ?_)
            rcases Bool.eq_false_or_eq_true (decide (0 < x16)) with hb1 | hb1
            ·
              rw [hb1] at hF
              refine ls_w hF hW (wanted_y hF rfl rfl rfl rfl) rfl (Nat.le_of_ble_eq_true rfl) ((y_move hF rfl).q) (fun a w hF hW => ?_)
              refine ls_w hF hW (wanted_y hF rfl rfl rfl rfl) rfl (Nat.le_of_ble_eq_true rfl) ((y_move hF rfl).q) (fun a w hF hW => ?_)
              refine ls_w hF hW (wanted_y hF rfl rfl rfl rfl) rfl (Nat.le_of_ble_eq_true rfl) ((y_lss hF rfl rfl).q) (fun a w hF hW => ?_)
              refine ls_w hF hW (wanted_y hF rfl rfl rfl rfl) rfl (Nat.le_of_ble_eq_true rfl) ((y_pick_t hF rfl rfl rfl).q) (fun a w hF hW => ?_)
              refine ls hF hW rfl ((y_pick_f hF rfl rfl rfl).q) (fun a w hF hW => ?_)
              refine ls_nil ?_
              refine c_then ?_
              exact ⟨hF.re ⟨rfl, rfl, rfl, rfl, rfl, rfl, rfl, rfl, rfl, (by show some (Value.bool (decide (x18.1 < x15))) = some (Value.bool (!x18.2.1 || (decide (0 < x16) && decide (x18.1 < x15)))); try rw [hb1]; try rw [hb0]; all_goals simp only [Bool.not_true, Bool.not_false, Bool.true_and, Bool.false_and, Bool.true_or, Bool.false_or, Bool.and_true, Bool.or_false, cond_true, cond_false]), trivial⟩, hW⟩
            ·
              rw [hb1] at hF
              refine ls_skip hF (wanted_n hF rfl rfl rfl rfl rfl) rfl rfl (fun a hF => ?_)
              refine ls_skip hF (wanted_n hF rfl rfl rfl rfl rfl) rfl rfl (fun a hF => ?_)
              refine ls_skip hF (wanted_n hF rfl rfl rfl rfl rfl) rfl rfl (fun a hF => ?_)
              refine ls_w hF hW (wanted_y hF rfl rfl rfl rfl) rfl (Nat.le_of_ble_eq_true rfl) ((y_pick_f hF rfl rfl rfl).q) (fun a w hF hW => ?_)
              refine ls hF hW rfl ((y_pick_f hF rfl rfl rfl).q) (fun a w hF hW => ?_)
              refine ls_nil ?_
              refine c_then ?_
              exact ⟨hF.re ⟨rfl, rfl, rfl, rfl, rfl, rfl, rfl, rfl, rfl, (by show some (Value.bool false) = some (Value.bool (!x18.2.1 || (decide (0 < x16) && decide (x18.1 < x15)))); try rw [hb1]; try rw [hb0]; all_goals simp only [Bool.not_true, Bool.not_false, Bool.true_and, Bool.false_and, Bool.true_or, Bool.false_or, Bool.and_true, Bool.or_false, cond_true, cond_false]), trivial⟩, hW⟩
        rintro a w ⟨hF, hW⟩
        refine c_cond hF rfl (fun hb => ?_) (fun hb => ?_)
        ·
          have H := iteT hb H
          rw [hb] at hF
          clear hb
          refine c_seq ?_
          refine reg_list ?_
          refine ls hF hW rfl ((y_assign hF rfl).q) (fun a w hF hW => ?_)
          refine ls_nil ?_
          refine c_then ?_
          refine wp_ret ?_
          refine r_then ?_
          refine r_block ?_
          refine r_then ?_
          refine r_then ?_
          refine r_block ?_
          refine r_then ?_
          have H := L5 _ H
          have H := L4 _ H
          have H := Option.some.inj H
          subst H
          refine post1 (.inl rfl) hF hW rfl (rv_tmp hF rfl) ?_
          exact ⟨rfl, hW.done⟩
        ·
          have H := iteF (by rw [hb]; decide) H
          rw [hb] at hF
          clear hb
          refine wp_skip ?_
          refine c_then ?_
          obtain ⟨o6, G6, K6⟩ := bindE H
          refine c_seqJ (fun a w => ∃ x19 : Int, some (x19) = some o6 ∧ Fr 83 [] [(0, v1), (1, .int .i64 p1), (4, .bool false), (5, .pointer (some ⟨b1, 0, none⟩)), (6, .int .i64 x2), (7, .int .i64 x19), (9, .int .i64 x15), (10, .int .i64 x16), (11, .int .i64 x18.1)] a ∧ Stw ⟨Y, [], w0⟩ [(b1, [v9])] [row v9 3 (Rp.int .i64) x18.2.2] w) ?_ ?_
          ·
            have H := G6
            clear G6 K6
            refine c_seq ?_
            refine reg_list ?_
            refine ls hF hW rfl ((y_move hF rfl).q) (fun a w hF hW => ?_)
            refine ls hF hW rfl ((y_move hF rfl).q) (fun a w hF hW => ?_)
            refine ls hF hW rfl ((y_eql hF rfl rfl).q) (fun a w hF hW => ?_)
            refine ls_nil ?_
            refine c_then ?_
            refine c_cond hF rfl (fun hb => ?_) (fun hb => ?_)
            ·
              have H := iteT (of_decide_eq_true hb) H
              rw [hb] at hF
              clear hb
              refine reg_list ?_
              refine ls hF hW rfl ((y_move hF rfl).q) (fun a w hF hW => ?_)
              refine ls hF hW rfl ((y_add hF rfl rfl rfl).q) (fun a w hF hW => ?_)
              refine ls hF hW rfl ((y_assign hF rfl).q) (fun a w hF hW => ?_)
              refine ls_nil ?_
              refine c_then ?_
              exact ⟨_, H, hF.re ⟨rfl, rfl, rfl, rfl, rfl, rfl, rfl, rfl, rfl, trivial⟩, hW⟩
            ·
              have H := iteF (of_decide_eq_false hb) H
              rw [hb] at hF
              clear hb
              refine wp_skip ?_
              refine c_then ?_
              exact ⟨_, H, hF.re ⟨rfl, rfl, rfl, rfl, rfl, rfl, rfl, rfl, rfl, trivial⟩, hW⟩
          rintro a w ⟨x19, hj, hF, hW⟩
          have hj := Option.some.inj hj
          subst hj
          have H := K6
          clear G6 K6
          refine reg_list ?_
          refine ls hF hW rfl ((y_move hF rfl).q) (fun a w hF hW => ?_)
          refine ls hF hW rfl ((y_assign hF rfl).q) (fun a w hF hW => ?_)
          refine ls_nil ?_
          refine b_normal ?_
          refine c_then ?_
          refine reg_list ?_
          refine ls hF hW rfl ((y_move hF rfl).q) (fun a w hF hW => ?_)
          refine ls hF hW rfl ((y_add hF rfl rfl rfl).q) (fun a w hF hW => ?_)
          refine ls hF hW rfl ((y_assign hF rfl).q) (fun a w hF hW => ?_)
          refine ls_nil ?_
          refine c_then ?_
          exact ⟨_, H, (v9), hF.re ⟨rfl, rfl, rfl, rfl, rfl, rfl, rfl, rfl, trivial⟩, hW⟩
      ·
        have H := iteF (of_decide_eq_false hb) H
        rw [hb] at hF
        clear hb
        refine wp_exit ?_
        refine e_then ?_
        refine e_then ?_
        refine e_block ?_
        refine c_then ?_
        have H := L5 _ H
        exact ⟨_, _, (v8), H, hF.re ⟨rfl, rfl, rfl, rfl, trivial⟩, hW⟩
    rintro a w ⟨x12, x13, v7, hj, hF, hW⟩
    have H := K4 _ hj
    clear hj G4 K4 L4
    refine c_seq ?_
    refine reg_list ?_
    refine ls hF hW rfl ((y_move hF rfl).q) (fun a w hF hW => ?_)
    obtain ⟨x20, h6, H⟩ := bindE H
    refine l_callG (Ml := [(b1, [v7])]) (Zl := [row v7 3 (Rp.int .i64) x13]) (M := []) (Z := []) (β := Value) (rv := fun x => .tuple #[.int .i64 x20.1, .bool x20.2.1]) (MM := fun x => [(b1, [x])]) (ZZ := fun x => [row x 3 (Rp.int .i64) x20.2.2]) hF hW H9 rfl rfl (fun hL => heap_Queue_int_Pop_c _ _ w b1 (v7) x13 _ h6 hL) (fun x a w hF hW => ?_)
    obtain ⟨v10, rfl⟩ : ∃ y, y = x := ⟨x, rfl⟩
    have hW : Stw ⟨Y, [], w0⟩ [(b1, [v10])] [row v10 3 (Rp.int .i64) x20.2.2] w := hW
    refine ls hF hW rfl ((y_move hF rfl).q) (fun a w hF hW => ?_)
    refine ls hF hW rfl ((y_extract (v := Value.int .i64 x20.1) hF rfl rfl).q) (fun a w hF hW => ?_)
    refine ls hF hW rfl ((y_extract (v := Value.bool x20.2.1) hF rfl rfl).q) (fun a w hF hW => ?_)
    refine ls hF hW rfl ((y_assign hF rfl).q) (fun a w hF hW => ?_)
    refine ls hF hW rfl ((y_assign hF rfl).q) (fun a w hF hW => ?_)
    refine ls_nil ?_
    refine c_then ?_
    obtain ⟨o7, G7, K7⟩ := bindE H
    refine c_seqJ (fun a w => ∃ x21 : Bool, some (x21) = some o7 ∧ Fr 83 [] [(4, .bool x21)] a ∧ Stw ⟨Y, [], w0⟩ [(b1, [v10])] [row v10 3 (Rp.int .i64) x20.2.2] w) ?_ ?_
    ·
      have H := G7
      clear G7 K7
      refine reg_list ?_
      refine ls hF hW rfl ((y_move hF rfl).q) (fun a w hF hW => ?_)
      refine ls hF hW rfl ((y_not hF rfl).q) (fun a w hF hW => ?_)
      refine ls hF hW rfl ((y_move hF rfl).q) (fun a w hF hW => ?_)
      rcases Bool.eq_false_or_eq_true (!x20.2.1) with hb | hb
      ·
        have H := iteT hb H
        rw [hb] at hF
        clear hb
        refine ls_w hF hW (wanted_y hF rfl rfl rfl rfl) rfl (Nat.le_of_ble_eq_true rfl) ((y_move hF rfl).q) (fun a w hF hW => ?_)
        refine ls_w hF hW (wanted_y hF rfl rfl rfl rfl) rfl (Nat.le_of_ble_eq_true rfl) ((y_move hF rfl).q) (fun a w hF hW => ?_)
        refine ls_w hF hW (wanted_y hF rfl rfl rfl rfl) rfl (Nat.le_of_ble_eq_true rfl) ((y_eql hF rfl rfl).q) (fun a w hF hW => ?_)
        refine ls hF hW rfl ((y_pick_t hF rfl rfl rfl).q) (fun a w hF hW => ?_)
        refine ls hF hW rfl ((y_move hF rfl).q) (fun a w hF hW => ?_)
        rcases Bool.eq_false_or_eq_true (decide (x2 = x12)) with hb | hb
        ·
          have H := iteT (of_decide_eq_true hb) H
          rw [hb] at hF
          clear hb
          refine ls_g (wanted_y hF rfl rfl rfl rfl) ?_
          obtain ⟨x22, h7, H⟩ := bindE H
          refine ls hF hW rfl (y_call (v := Value.bool x22) hF H18 rfl (fun w hW => L13_awake_c any w _ h7)) (fun a w hF hW => ?_)
          refine ls hF hW rfl ((y_pick_t hF rfl rfl rfl).q) (fun a w hF hW => ?_)
          refine ls hF hW rfl ((y_assign hF rfl).q) (fun a w hF hW => ?_)
          refine ls_nil ?_
          refine c_then ?_
          exact ⟨_, H, hF.re ⟨rfl, trivial⟩, hW⟩
        ·
          have H := iteF (of_decide_eq_false hb) H
          rw [hb] at hF
          clear hb
          refine ls_skip hF (wanted_n hF rfl rfl rfl rfl rfl) rfl rfl (fun a hF => ?_)
          refine ls hF hW rfl ((y_pick_f hF rfl rfl rfl).q) (fun a w hF hW => ?_)
          refine ls hF hW rfl ((y_assign hF rfl).q) (fun a w hF hW => ?_)
          refine ls_nil ?_
          refine c_then ?_
          exact ⟨_, H, hF.re ⟨rfl, trivial⟩, hW⟩
      ·
        have H := iteF (by rw [hb]; decide) H
        rw [hb] at hF
        clear hb
        refine ls_skip hF (wanted_n hF rfl rfl rfl rfl rfl) rfl rfl (fun a hF => ?_)
        refine ls_skip hF (wanted_n hF rfl rfl rfl rfl rfl) rfl rfl (fun a hF => ?_)
        refine ls_skip hF (wanted_n hF rfl rfl rfl rfl rfl) rfl rfl (fun a hF => ?_)
        refine ls hF hW rfl ((y_pick_f hF rfl rfl rfl).q) (fun a w hF hW => ?_)
        refine ls hF hW rfl ((y_move hF rfl).q) (fun a w hF hW => ?_)
        refine ls_skip hF (wanted_n hF rfl rfl rfl rfl rfl) rfl rfl (fun a hF => ?_)
        refine ls hF hW rfl ((y_pick_f hF rfl rfl rfl).q) (fun a w hF hW => ?_)
        refine ls hF hW rfl ((y_assign hF rfl).q) (fun a w hF hW => ?_)
        refine ls_nil ?_
        refine c_then ?_
        exact ⟨_, H, hF.re ⟨rfl, trivial⟩, hW⟩
    rintro a w ⟨x21, hj, hF, hW⟩
    have hj := Option.some.inj hj
    subst hj
    have H := K7
    clear G7 K7
    refine wp_ret ?_
    have H := Option.some.inj H
    subst H
    refine post1 (.inl rfl) hF hW rfl (rv_tmp hF rfl) ?_
    exact ⟨rfl, hW.done⟩

theorem B60 : Bt Try.prog 60 [.slice none 0 0] [(0, 1)] := ⟨⟨.agg #[.slice none 0 0], by kernel_rfl, rfl⟩, ⟨_, Try.underlying60, fun w => by kernel_rfl⟩⟩
def heap_New_string  : List (List UInt8) := ([] : List (List UInt8))
theorem heap_New_string_c (Y : Nat → Prop) (w0 : World)   (r : List (List UInt8)) (H : heap_New_string  = r)  :
    Calls Try.prog 19 #[] w0 fun e w' => ∃ x : Nat × Value, e = .returned (.pointer (some ⟨x.1, 0, none⟩)) ∧ Stw ⟨Y, [], w0⟩ [(x.1, [x.2])] [row (x.2) 9 Rp.str r] w' := by
  refine enter Try.func19 rfl Try.ntmps19 rfl (fun a hF => ?_)
  have hW := Stw.start Y w0
  unfold heap_New_string at H
  refine c_seq ?_
  refine reg_list ?_
  refine ls hF hW rfl ((y_assign hF rfl).q) (fun a w hF hW => ?_)
  refine ls_nil ?_
  refine c_then ?_
  refine c_seq ?_
  refine reg_list ?_
  refine ls hF hW rfl ((y_build (v := Value.agg #[.slice none 0 0]) B60 hF rfl rfl rfl).q) (fun a w hF hW => ?_)
  refine l_box (cs := [.slice none 0 0]) hF hW rfl rfl rfl (fun b1 a w hF hW => ?_)
  refine ls hF hW rfl ((y_assign hF rfl).q) (fun a w hF hW => ?_)
  refine ls_nil ?_
  refine c_then ?_
  refine wp_ret ?_
  subst H
  refine post1 (.inl rfl) hF hW rfl (rv_tmp hF rfl) ?_
  have hW := hW.nilRow 9 Rp.str
  exact ⟨(b1, (Value.slice none 0 0)), rfl, hW⟩

theorem H19 : Has Try.prog 19 := ⟨fun args w => run_callFunc_body Try.func19 rfl (by decide) args w⟩
theorem L45 : Et Try.prog 45 9 1 16 := Et.of Try.underlying45 (by kernel_rfl) (by kernel_rfl) (by kernel_rfl) (by decide)
theorem T9 : Ty Try.prog 9 false 1 := ⟨by kernel_rfl, by kernel_rfl⟩
theorem T45 : Ty Try.prog 45 false 1 := ⟨by kernel_rfl, by kernel_rfl⟩
theorem Z9 : (Try.prog.info? 9).bind (·.zero) = some (.string (bs ([] : List UInt8))) := by kernel_rfl
def cmp_isNaN_string (p0 : List UInt8) : Bool := decide (p0 ≠ p0)
theorem cmp_isNaN_string_c (Y : Nat → Prop) (w0 : World)  (p0 : List UInt8) (r : Bool) (H : cmp_isNaN_string p0 = r)  :
    Calls Try.prog 41 #[.string (bs p0)] w0 fun e w' => e = .returned (.bool r) ∧ Below w0.heap.size w0 w' := by
  refine enter Try.func41 rfl Try.ntmps41 rfl (fun a hF => ?_)
  have hW := Stw.start Y w0
  unfold cmp_isNaN_string at H
  refine c_seq ?_
  refine reg_list ?_
  refine ls hF hW rfl ((y_assign hF rfl).q) (fun a w hF hW => ?_)
  refine ls_nil ?_
  refine c_then ?_
  refine c_seq ?_
  refine reg_list ?_
  refine ls hF hW rfl ((y_move hF rfl).q) (fun a w hF hW => ?_)
  refine ls hF hW rfl ((y_move hF rfl).q) (fun a w hF hW => ?_)
  refine ls hF hW rfl ((y_sne (l := p0) (m := p0) hF rfl rfl).q) (fun a w hF hW => ?_)
  refine ls hF hW rfl ((y_assign hF rfl).q) (fun a w hF hW => ?_)
  refine ls_nil ?_
  refine c_then ?_
  refine wp_ret ?_
  subst H
  refine post1 (.inl rfl) hF hW rfl (rv_tmp hF rfl) ?_
  exact ⟨rfl, hW.done⟩

theorem H41 : Has Try.prog 41 := ⟨fun args w => run_callFunc_body Try.func41 rfl (by decide) args w⟩
def cmp_Less_string (p0 : List UInt8) (p1 : List UInt8) : Bool := (bif (cmp_isNaN_string p0) then (!(cmp_isNaN_string p1) || ltS p0 p1) else ltS p0 p1)
theorem cmp_Less_string_c (Y : Nat → Prop) (w0 : World)  (p0 : List UInt8) (p1 : List UInt8) (r : Bool) (H : cmp_Less_string p0 p1 = r)  :
    Calls Try.prog 33 #[.string (bs p0), .string (bs p1)] w0 fun e w' => e = .returned (.bool r) ∧ Below w0.heap.size w0 w' := by
  refine enter Try.func33 rfl Try.ntmps33 rfl (fun a hF => ?_)
  have hW := Stw.start Y w0
  unfold cmp_Less_string at H
  refine c_seq ?_
  refine reg_list ?_
  refine ls hF hW rfl ((y_assign hF rfl).q) (fun a w hF hW => ?_)
  refine ls_nil ?_
  refine c_then ?_
  refine c_seqJ (fun a w => Fr 17 [] [(4, .bool (bif (cmp_isNaN_string p0) then (!(cmp_isNaN_string p1) || ltS p0 p1) else ltS p0 p1))] a ∧ Stw ⟨Y, [], w0⟩ [] [] w) ?_ ?_
  ·
    refine reg_list ?_
    refine ls hF hW rfl ((y_move hF rfl).q) (fun a w hF hW => ?_)
    refine ls hF hW rfl (y_call (v := Value.bool (cmp_isNaN_string p0)) hF H41 rfl (fun w hW => cmp_isNaN_string_c any w p0 _ rfl)) (fun a w hF hW => ?_)
    refine ls hF hW rfl ((y_move hF rfl).q) (fun a w hF hW => ?_)
    rcases Bool.eq_false_or_eq_true (cmp_isNaN_string p0) with hb0 | hb0
    ·
      rw [hb0] at hF
      refine ls_w hF hW (wanted_y hF rfl rfl rfl rfl) rfl (Nat.le_of_ble_eq_true rfl) ((y_move hF rfl).q) (fun a w hF hW => ?_)
      refine ls_g (wanted_y hF rfl rfl rfl rfl) ?_
      refine ls hF hW rfl (y_call (v := Value.bool (cmp_isNaN_string p1)) hF H41 rfl (fun w hW => cmp_isNaN_string_c any w p1 _ rfl)) (fun a w hF hW => ?_)
      refine ls_w hF hW (wanted_y hF rfl rfl rfl rfl) rfl (Nat.le_of_ble_eq_true rfl) ((y_not hF rfl).q) (fun a w hF hW => ?_)
      refine ls hF hW rfl ((y_pick_t hF rfl rfl rfl).q) (fun a w hF hW => ?_)
      refine ls hF hW rfl ((y_move hF rfl).q) (fun a w hF hW => ?_)
      rcases Bool.eq_false_or_eq_true (!(cmp_isNaN_string p1)) with hb1 | hb1
      ·
        rw [hb1] at hF
        refine ls_skip hF (wanted_n hF rfl rfl rfl rfl rfl) rfl rfl (fun a hF => ?_)
        refine ls_skip hF (wanted_n hF rfl rfl rfl rfl rfl) rfl rfl (fun a hF => ?_)
        refine ls_skip hF (wanted_n hF rfl rfl rfl rfl rfl) rfl rfl (fun a hF => ?_)
        refine ls hF hW rfl ((y_pick_t hF rfl rfl rfl).q) (fun a w hF hW => ?_)
        refine ls hF hW rfl ((y_assign hF rfl).q) (fun a w hF hW => ?_)
        refine ls_nil ?_
        refine c_then ?_
        exact ⟨hF.re ⟨(by show some (Value.bool true) = some (Value.bool (bif (cmp_isNaN_string p0) then (!(cmp_isNaN_string p1) || ltS p0 p1) else ltS p0 p1)); try rw [hb1]; try rw [hb0]; all_goals simp only [Bool.not_true, Bool.not_false, Bool.true_and, Bool.false_and, Bool.true_or, Bool.false_or, Bool.and_true, Bool.or_false, cond_true, cond_false]), trivial⟩, hW⟩
      ·
        rw [hb1] at hF
        refine ls_w hF hW (wanted_y hF rfl rfl rfl rfl) rfl (Nat.le_of_ble_eq_true rfl) ((y_move hF rfl).q) (fun a w hF hW => ?_)
        refine ls_w hF hW (wanted_y hF rfl rfl rfl rfl) rfl (Nat.le_of_ble_eq_true rfl) ((y_move hF rfl).q) (fun a w hF hW => ?_)
        refine ls_w hF hW (wanted_y hF rfl rfl rfl rfl) rfl (Nat.le_of_ble_eq_true rfl) ((y_slt (l := p0) (m := p1) hF rfl rfl).q) (fun a w hF hW => ?_)
        refine ls hF hW rfl ((y_pick_f hF rfl rfl rfl).q) (fun a w hF hW => ?_)
        refine ls hF hW rfl ((y_assign hF rfl).q) (fun a w hF hW => ?_)
        refine ls_nil ?_
        refine c_then ?_
        exact ⟨hF.re ⟨(by show some (Value.bool (ltS p0 p1)) = some (Value.bool (bif (cmp_isNaN_string p0) then (!(cmp_isNaN_string p1) || ltS p0 p1) else ltS p0 p1)); try rw [hb1]; try rw [hb0]; all_goals simp only [Bool.not_true, Bool.not_false, Bool.true_and, Bool.false_and, Bool.true_or, Bool.false_or, Bool.and_true, Bool.or_false, cond_true, cond_false]), trivial⟩, hW⟩
    ·
      rw [hb0] at hF
      refine ls_skip hF (wanted_n hF rfl rfl rfl rfl rfl) rfl rfl (fun a hF => ?_)
      refine ls_skip hF (wanted_n hF rfl rfl rfl rfl rfl) rfl rfl (fun a hF => ?_)
      refine ls_skip hF (wanted_n hF rfl rfl rfl rfl rfl) rfl rfl (fun a hF => ?_)
      refine ls hF hW rfl ((y_pick_f hF rfl rfl rfl).q) (fun a w hF hW => ?_)
      refine ls hF hW rfl ((y_move hF rfl).q) (fun a w hF hW => ?_)
      refine ls_w hF hW (wanted_y hF rfl rfl rfl rfl) rfl (Nat.le_of_ble_eq_true rfl) ((y_move hF rfl).q) (fun a w hF hW => ?_)
      refine ls_w hF hW (wanted_y hF rfl rfl rfl rfl) rfl (Nat.le_of_ble_eq_true rfl) ((y_move hF rfl).q) (fun a w hF hW => ?_)
      refine ls_w hF hW (wanted_y hF rfl rfl rfl rfl) rfl (Nat.le_of_ble_eq_true rfl) ((y_slt (l := p0) (m := p1) hF rfl rfl).q) (fun a w hF hW => ?_)
      refine ls hF hW rfl ((y_pick_f hF rfl rfl rfl).q) (fun a w hF hW => ?_)
      refine ls hF hW rfl ((y_assign hF rfl).q) (fun a w hF hW => ?_)
      refine ls_nil ?_
      refine c_then ?_
      exact ⟨hF.re ⟨(by show some (Value.bool (ltS p0 p1)) = some (Value.bool (bif (cmp_isNaN_string p0) then (!(cmp_isNaN_string p1) || ltS p0 p1) else ltS p0 p1)); try rw [hb0]; all_goals simp only [Bool.not_true, Bool.not_false, Bool.true_and, Bool.false_and, Bool.true_or, Bool.false_or, Bool.and_true, Bool.or_false, cond_true, cond_false]), trivial⟩, hW⟩
  rintro a w ⟨hF, hW⟩
  refine wp_ret ?_
  subst H
  refine post1 (.inl rfl) hF hW rfl (rv_tmp hF rfl) ?_
  exact ⟨rfl, hW.done⟩

theorem H33 : Has Try.prog 33 := ⟨fun args w => run_callFunc_body Try.func33 rfl (by decide) args w⟩
noncomputable def heap_Queue_string_up_l1  : (Int × List (List UInt8)) → Option ((Int × List (List UInt8)) ⊕ (List (List UInt8)))
  | (x1, x2) => (if 0 < x1 then (ix x2 x1).bind fun x3 => (ix x2 (w64 (Int.tdiv (w64 (x1 - 1)) 2))).bind fun x4 => (if (!(cmp_Less_string x3 x4)) = true then some (.inr x2) else (ix x2 (w64 (Int.tdiv (w64 (x1 - 1)) 2))).bind fun x5 => (ix x2 x1).bind fun x6 => (ix x2 x1).bind fun x7 => (ix (setAt x2 x1 x5) (w64 (Int.tdiv (w64 (x1 - 1)) 2))).bind fun x8 => some (.inl (w64 (Int.tdiv (w64 (x1 - 1)) 2), (setAt (setAt x2 x1 x5) (w64 (Int.tdiv (w64 (x1 - 1)) 2)) x6)))) else some (.inr x2))
noncomputable def heap_Queue_string_up (p0 : List (List UInt8)) (p1 : Int) : Option (List (List UInt8)) := loopW (heap_Queue_string_up_l1) (p1, p0)
theorem heap_Queue_string_up_c (Y : Nat → Prop) (X : List Nat) (w0 : World) (q_p0 : Nat) (v1 : Value) (p0 : List (List UInt8)) (p1 : Int) (r : List (List UInt8)) (H : heap_Queue_string_up p0 p1 = some r) (hL : Stw ⟨Y, X, w0⟩ [(q_p0, [v1])] [row v1 9 Rp.str p0] w0) :
    Calls Try.prog 31 #[.pointer (some ⟨q_p0, 0, none⟩), .int .i64 p1] w0 fun e w' => ∃ x : Value, e = .returned (.tuple #[]) ∧ Stw ⟨Y, X, w0⟩ [(q_p0, [x])] [row (x) 9 Rp.str r] w' := by
  refine enter Try.func31 rfl Try.ntmps31 rfl (fun a hF => ?_)
  have hW := hL
  unfold heap_Queue_string_up at H
  refine wp_block ?_
  refine c_loopW H (fun s a w => Fr 53 [] [(0, .pointer (some ⟨q_p0, 0, none⟩)), (1, .int .i64 s.1)] a ∧ Stw ⟨Y, X, w0⟩ [(q_p0, [v1])] [row v1 9 Rp.str s.2] w) ⟨hF.re ⟨rfl, rfl, trivial⟩, hW⟩ (fun s o a w H L1 hR => ?_)
  obtain ⟨x1, x2⟩ := s
  obtain ⟨hF, hW⟩ := hR
  have hF : Fr 53 [] [(0, .pointer (some ⟨q_p0, 0, none⟩)), (1, .int .i64 x1)] a := hF
  have hW : Stw ⟨Y, X, w0⟩ [(q_p0, [v1])] [row v1 9 Rp.str x2] w := hW
  rw [heap_Queue_string_up_l1] at H
  refine c_seq ?_
  refine c_seq ?_
  refine reg_list ?_
  refine ls hF hW rfl ((y_move hF rfl).q) (fun a w hF hW => ?_)
  refine ls hF hW rfl ((y_gtr hF rfl rfl).q) (fun a w hF hW => ?_)
  refine ls_nil ?_
  refine c_then ?_
  refine c_cond hF rfl (fun hb => ?_) (fun hb => ?_)
  ·
    have H := iteT (of_decide_eq_true hb) H
    rw [hb] at hF
    clear hb
    refine wp_skip ?_
    refine c_then ?_
    refine wp_block ?_
    refine c_seq ?_
    refine reg_list ?_
    refine ls hF hW rfl ((y_move hF rfl).q) (fun a w hF hW => ?_)
    refine ls hF hW rfl ((y_sub hF rfl rfl rfl).q) (fun a w hF hW => ?_)
    refine ls hF hW rfl ((y_quo hF rfl rfl (by decide) rfl).q) (fun a w hF hW => ?_)
    refine ls hF hW rfl ((y_assign hF rfl).q) (fun a w hF hW => ?_)
    refine ls_nil ?_
    refine c_then ?_
    refine c_seq ?_
    refine c_seq ?_
    refine reg_quiet hW MO (by kernel_rfl) ?_
    refine qs hF rfl ((y_move hF rfl).q) (fun a hF => ?_)
    refine qs hF rfl ((y_nilCheck hF rfl).q) (fun a hF => ?_)
    refine qs hF rfl ((y_fieldAddr Try.underlying60 rfl rfl rfl T45 hF rfl 0 rfl).q) (fun a hF => ?_)
    refine qs hF rfl ((y_load (v := v1) 0 hF rfl rfl T45 rfl).q) (fun a hF => ?_)
    refine qs hF rfl ((y_move hF rfl).q) (fun a hF => ?_)
    obtain ⟨x3, h1, H⟩ := bindE H
    refine qs hF rfl ((y_index (r := Rp.str) L45 hF rfl rfl (rdc_row 0 rfl) h1).q) (fun a hF => ?_)
    refine qs hF rfl ((y_load_el (y := Value.string (bs x3)) (j := 0) (i := x1) hF rfl rfl (rdc_row 0 rfl) h1 Fl.str.to T9 rfl).q) (fun a hF => ?_)
    refine qs hF rfl ((y_move hF rfl).q) (fun a hF => ?_)
    refine qs hF rfl ((y_nilCheck hF rfl).q) (fun a hF => ?_)
    refine qs hF rfl ((y_fieldAddr Try.underlying60 rfl rfl rfl T45 hF rfl 0 rfl).q) (fun a hF => ?_)
    refine qs hF rfl ((y_load (v := v1) 0 hF rfl rfl T45 rfl).q) (fun a hF => ?_)
    refine qs hF rfl ((y_move hF rfl).q) (fun a hF => ?_)
    obtain ⟨x4, h2, H⟩ := bindE H
    refine qs hF rfl ((y_index (r := Rp.str) L45 hF rfl rfl (rdc_row 0 rfl) h2).q) (fun a hF => ?_)
    refine qs hF rfl ((y_load_el (y := Value.string (bs x4)) (j := 0) (i := w64 (Int.tdiv (w64 (x1 - 1)) 2)) hF rfl rfl (rdc_row 0 rfl) h2 Fl.str.to T9 rfl).q) (fun a hF => ?_)
    refine qs hF rfl (y_call (v := Value.bool (cmp_Less_string x3 x4)) hF H33 rfl (fun w hW => cmp_Less_string_c any w x3 x4 _ rfl)) (fun a hF => ?_)
    refine qs hF rfl ((y_not hF rfl).q) (fun a hF => ?_)
    refine quiet_end (fun w hW => ?_)
    refine c_then ?_
    refine c_cond hF rfl (fun hb => ?_) (fun hb => ?_)
    ·
      have H := iteT hb H
      rw [hb] at hF
      clear hb
      refine wp_ret ?_
      refine r_then ?_
      refine r_block ?_
      refine r_then ?_
      refine r_block ?_
      have H := L1 _ H
      have H := Option.some.inj H
      subst H
      refine post0 (.inl rfl) hF rfl ?_
      exact ⟨(v1), rfl, hW⟩
    ·
      have H := iteF (by rw [hb]; decide) H
      rw [hb] at hF
      clear hb
      refine wp_skip ?_
      refine c_then ?_
      refine c_seq ?_
      refine reg_ord 25 [9] [0, 1, 2, 3, 4, 5, 6, 7, 8, 10, 11, 12, 13, 14, 15, 16, 17, 18, 19, 20, 21, 22, 23, 24] (fun ch a d v w h => by cases d <;> exact h) hW MO (by kernel_rfl) ?_
      refine hm hF rfl rfl rfl (fun a hF => ?_)
      refine hm_end ?_
      refine hs hF rfl rfl rfl ((y_move hF rfl).q) (fun a hF => ?_)
      refine hs hF rfl rfl rfl ((y_nilCheck hF rfl).q) (fun a hF => ?_)
      refine hs hF rfl rfl rfl ((y_fieldAddr Try.underlying60 rfl rfl rfl T45 hF rfl 0 rfl).q) (fun a hF => ?_)
      refine hs hF rfl rfl rfl ((y_load (v := v1) 0 hF rfl rfl T45 rfl).q) (fun a hF => ?_)
      refine hs hF rfl rfl rfl ((y_move hF rfl).q) (fun a hF => ?_)
      refine hs hF rfl rfl rfl ((y_move hF rfl).q) (fun a hF => ?_)
      refine hs hF rfl rfl rfl ((y_nilCheck hF rfl).q) (fun a hF => ?_)
      refine hs hF rfl rfl rfl ((y_fieldAddr Try.underlying60 rfl rfl rfl T45 hF rfl 0 rfl).q) (fun a hF => ?_)
      refine hs hF rfl rfl rfl ((y_load (v := v1) 0 hF rfl rfl T45 rfl).q) (fun a hF => ?_)
      refine hs hF rfl rfl rfl ((y_move hF rfl).q) (fun a hF => ?_)
      refine hs hF rfl rfl rfl ((y_nilCheck hF rfl).q) (fun a hF => ?_)
      refine hs hF rfl rfl rfl ((y_fieldAddr Try.underlying60 rfl rfl rfl T45 hF rfl 0 rfl).q) (fun a hF => ?_)
      refine hs hF rfl rfl rfl ((y_load (v := v1) 0 hF rfl rfl T45 rfl).q) (fun a hF => ?_)
      refine hs hF rfl rfl rfl ((y_move hF rfl).q) (fun a hF => ?_)
      obtain ⟨x5, h3, H⟩ := bindE H
      refine hs hF rfl rfl rfl ((y_index (r := Rp.str) L45 hF rfl rfl (rdc_row 0 rfl) h3).q) (fun a hF => ?_)
      refine hs hF rfl rfl rfl ((y_load_el (y := Value.string (bs x5)) (j := 0) (i := w64 (Int.tdiv (w64 (x1 - 1)) 2)) hF rfl rfl (rdc_row 0 rfl) h3 Fl.str.to T9 rfl).q) (fun a hF => ?_)
      refine hs hF rfl rfl rfl ((y_move hF rfl).q) (fun a hF => ?_)
      refine hs hF rfl rfl rfl ((y_nilCheck hF rfl).q) (fun a hF => ?_)
      refine hs hF rfl rfl rfl ((y_fieldAddr Try.underlying60 rfl rfl rfl T45 hF rfl 0 rfl).q) (fun a hF => ?_)
      refine hs hF rfl rfl rfl ((y_load (v := v1) 0 hF rfl rfl T45 rfl).q) (fun a hF => ?_)
      refine hs hF rfl rfl rfl ((y_move hF rfl).q) (fun a hF => ?_)
      obtain ⟨x6, h4, H⟩ := bindE H
      refine hs hF rfl rfl rfl ((y_index (r := Rp.str) L45 hF rfl rfl (rdc_row 0 rfl) h4).q) (fun a hF => ?_)
      refine hs hF rfl rfl rfl ((y_load_el (y := Value.string (bs x6)) (j := 0) (i := x1) hF rfl rfl (rdc_row 0 rfl) h4 Fl.str.to T9 rfl).q) (fun a hF => ?_)
      obtain ⟨x7, h5, H⟩ := bindE H
      refine hs hF rfl rfl rfl ((y_index (r := Rp.str) L45 hF rfl rfl (rdc_row 0 rfl) h5).q) (fun a hF => ?_)
      refine h_end (fun w hW => ?_)
      have hW : Stw ⟨Y, X, w0⟩ [(q_p0, [v1])] [row v1 9 Rp.str x2] w := hW
      refine l_store_el (i := x1) (j := 0) (vs := [.string (bs x5)]) (x' := x5) hF hW rfl rfl rfl (k := 0) rfl rfl h5 T9 rfl rfl rfl rfl (fun A cs _ => Fl.str.sto (by rfl) _ _ _) (fun w hW => ?_)
      obtain ⟨x8, h6, H⟩ := bindE H
      refine ls hF hW rfl ((y_index (r := Rp.str) L45 hF rfl rfl (rdc_row 0 rfl) h6).q) (fun a w hF hW => ?_)
      refine l_store_el (i := w64 (Int.tdiv (w64 (x1 - 1)) 2)) (j := 0) (vs := [.string (bs x6)]) (x' := x6) hF hW rfl rfl rfl (k := 0) rfl rfl h6 T9 rfl rfl rfl rfl (fun A cs _ => Fl.str.sto (by rfl) _ _ _) (fun w hW => ?_)
      refine ls_nil ?_
      refine c_then ?_
      refine reg_list ?_
      refine ls hF hW rfl ((y_move hF rfl).q) (fun a w hF hW => ?_)
      refine ls hF hW rfl ((y_assign hF rfl).q) (fun a w hF hW => ?_)
      refine ls_nil ?_
      refine b_normal ?_
      refine c_then ?_
      exact ⟨_, H, hF.re ⟨rfl, rfl, trivial⟩, hW⟩
  ·
    have H := iteF (of_decide_eq_false hb) H
    rw [hb] at hF
    clear hb
    refine wp_exit ?_
    refine e_then ?_
    refine e_then ?_
    refine e_block ?_
    have H := L1 _ H
    have H := Option.some.inj H
    subst H
    refine post0 (.inr rfl) hF rfl ?_
    exact ⟨(v1), rfl, hW⟩

end Go.Proofs.Ytlogogcdfdocoaa
