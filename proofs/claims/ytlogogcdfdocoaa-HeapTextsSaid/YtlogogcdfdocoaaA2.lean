/- The functions of layer 13, lifted. Conditions: none. -/
import Derived.Test.YtlogogcdfdocoaaA1
namespace Go.Proofs.Ytlogogcdfdocoaa
open Go Go.RowKit
set_option linter.unusedVariables false
set_option linter.unusedSimpArgs false
set_option maxRecDepth 20000
theorem H31 : Has Try.prog 31 := ⟨fun args w => run_callFunc_body Try.func31 rfl (by decide) args w⟩
noncomputable def heap_Queue_string_Push (p0 : List (List UInt8)) (p1 : List UInt8) : Option (List (List UInt8)) := (app p0 ([p1] : List (List UInt8))).bind fun x1 => (heap_Queue_string_up x1 (w64 ((x1.length : Int) - 1))).bind fun x2 => some x2
theorem heap_Queue_string_Push_c (Y : Nat → Prop) (X : List Nat) (w0 : World) (q_p0 : Nat) (v1 : Value) (p0 : List (List UInt8)) (p1 : List UInt8) (r : List (List UInt8)) (H : heap_Queue_string_Push p0 p1 = some r) (hL : Stw ⟨Y, X, w0⟩ [(q_p0, [v1])] [row v1 9 Rp.str p0] w0) :
    Calls Try.prog 20 #[.pointer (some ⟨q_p0, 0, none⟩), .string (bs p1)] w0 fun e w' => ∃ x : Value, e = .returned (.tuple #[]) ∧ Stw ⟨Y, X, w0⟩ [(q_p0, [x])] [row (x) 9 Rp.str r] w' := by
  refine enter Try.func20 rfl Try.ntmps20 rfl (fun a hF => ?_)
  have hW := hL
  unfold heap_Queue_string_Push at H
  refine c_seq ?_
  refine c_seq ?_
  refine reg_list ?_
  refine ls hF hW rfl ((y_move hF rfl).q) (fun a w hF hW => ?_)
  refine ls hF hW rfl ((y_peq_some_nil Try.underlying46 hF rfl rfl).q) (fun a w hF hW => ?_)
  refine ls_nil ?_
  refine c_then ?_
  refine c_cond_f hF rfl ?_
  refine wp_skip ?_
  refine c_then ?_
  refine c_seq ?_
  refine reg_list ?_
  refine ls hF hW rfl ((y_move hF rfl).q) (fun a w hF hW => ?_)
  refine ls hF hW rfl ((y_move hF rfl).q) (fun a w hF hW => ?_)
  refine ls hF hW rfl ((y_nilCheck hF rfl).q) (fun a w hF hW => ?_)
  refine ls hF hW rfl ((y_fieldAddr Try.underlying60 rfl rfl rfl T45 hF rfl 0 rfl).q) (fun a w hF hW => ?_)
  refine ls hF hW rfl ((y_load (v := v1) 0 hF rfl rfl T45 rfl).q) (fun a w hF hW => ?_)
  refine ls hF hW rfl ((y_move hF rfl).q) (fun a w hF hW => ?_)
  refine l_lit (z := Value.string (bs ([] : List UInt8))) (cs := [.string (bs p1)]) Rp.str ([p1] : List (List UInt8)) hF hW rfl L45 Z9 rfl rfl rfl rfl rfl rfl (Fl.str.repL _ _ ([p1] : List (List UInt8))) (fun v2 a w hF hW => ?_)
  obtain ⟨x1, h1, H⟩ := bindE H
  refine l_append (r := Rp.str) (i := 1) hF hW rfl L45 rfl rfl rfl rfl (src_row hW 0 rfl) h1 rfl (fun v3 a w hF hW => ?_)
  have hW : Stw ⟨Y, X, w0⟩ [(q_p0, [v1])] [row v3 9 Rp.str x1, row v2 9 Rp.str ([p1] : List (List UInt8))] w := hW
  refine ls hF hW rfl ((y_nilCheck hF rfl).q) (fun a w hF hW => ?_)
  refine ls hF hW rfl ((y_fieldAddr Try.underlying60 rfl rfl rfl T45 hF rfl 0 rfl).q) (fun a w hF hW => ?_)
  refine l_store1 (M' := [(q_p0, [v3])]) 0 hF hW rfl rfl rfl T45 (hW.one (k := 0) rfl) rfl rfl (fun w hW => ?_)
  refine ls_nil ?_
  refine c_then ?_
  refine reg_list ?_
  refine ls hF hW rfl ((y_move hF rfl).q) (fun a w hF hW => ?_)
  refine ls hF hW rfl ((y_move hF rfl).q) (fun a w hF hW => ?_)
  refine ls hF hW rfl ((y_nilCheck hF rfl).q) (fun a w hF hW => ?_)
  refine ls hF hW rfl ((y_fieldAddr Try.underlying60 rfl rfl rfl T45 hF rfl 0 rfl).q) (fun a w hF hW => ?_)
  refine ls hF hW rfl ((y_load (v := v3) 0 hF rfl rfl T45 rfl).q) (fun a w hF hW => ?_)
  refine ls hF hW rfl ((y_len (r := Rp.str) (l := x1) Try.underlying45 rfl hF rfl (rdc_row 0 rfl)).q) (fun a w hF hW => ?_)
  refine ls hF hW rfl ((y_sub hF rfl rfl rfl).q) (fun a w hF hW => ?_)
  obtain ⟨x2, h2, H⟩ := bindE H
  refine l_callG (Ml := [(q_p0, [v3])]) (Zl := [row v3 9 Rp.str x1]) (M := []) (Z := [row v2 9 Rp.str ([p1] : List (List UInt8))]) (β := Value) (rv := fun x => .tuple #[]) (MM := fun x => [(q_p0, [x])]) (ZZ := fun x => [row x 9 Rp.str x2]) hF hW H31 rfl rfl (fun hL => heap_Queue_string_up_c _ _ w q_p0 (v3) x1 (w64 ((x1.length : Int) - 1)) _ h2 hL) (fun x a w hF hW => ?_)
  obtain ⟨v4, rfl⟩ : ∃ y, y = x := ⟨x, rfl⟩
  have hW : Stw ⟨Y, X, w0⟩ [(q_p0, [v4])] [row v4 9 Rp.str x2, row v2 9 Rp.str ([p1] : List (List UInt8))] w := hW
  refine ls_nil ?_
  have H := Option.some.inj H
  subst H
  refine post0 (.inr rfl) hF rfl ?_
  have hW := hW.sub (M' := [(q_p0, [v4])]) (Z' := [row v4 9 Rp.str x2]) (List.Sublist.refl _) (List.Sublist.cons_cons _ (List.nil_sublist _))
  exact ⟨(v4), rfl, hW⟩

theorem H20 : Has Try.prog 20 := ⟨fun args w => run_callFunc_body Try.func20 rfl (by decide) args w⟩
def heap_Queue_string_Len (p0 : List (List UInt8)) : Int := (p0.length : Int)
theorem heap_Queue_string_Len_c (Y : Nat → Prop) (w0 : World) (q_p0 : Nat) (v1 : Value) (p0 : List (List UInt8)) (r : Int) (H : heap_Queue_string_Len p0 = r) (h_v1 : Sl w0 (NX []) Rp.str v1 p0) (a_q_p0 : At ⟨Y, [], w0⟩ q_p0 0 [v1]) :
    Calls Try.prog 23 #[.pointer (some ⟨q_p0, 0, none⟩)] w0 fun e w' => e = .returned (.int .i64 r) ∧ Below w0.heap.size w0 w' := by
  refine enter Try.func23 rfl Try.ntmps23 rfl (fun a hF => ?_)
  have hW := Stw.start Y w0
  unfold heap_Queue_string_Len at H
  refine c_seq ?_
  refine reg_list ?_
  refine ls hF hW rfl ((y_assign hF rfl).q) (fun a w hF hW => ?_)
  refine ls_nil ?_
  refine c_then ?_
  refine c_seq ?_
  refine c_seq ?_
  refine reg_list ?_
  refine ls hF hW rfl ((y_move hF rfl).q) (fun a w hF hW => ?_)
  refine ls hF hW rfl ((y_peq_some_nil Try.underlying46 hF rfl rfl).q) (fun a w hF hW => ?_)
  refine ls_nil ?_
  refine c_then ?_
  refine c_cond_f hF rfl ?_
  refine wp_skip ?_
  refine c_then ?_
  refine c_seq ?_
  refine reg_list ?_
  refine ls hF hW rfl ((y_move hF rfl).q) (fun a w hF hW => ?_)
  refine ls hF hW rfl ((y_nilCheck hF rfl).q) (fun a w hF hW => ?_)
  refine ls hF hW rfl ((y_fieldAddr Try.underlying60 rfl rfl rfl T45 hF rfl 0 rfl).q) (fun a w hF hW => ?_)
  refine ls hF hW rfl ((y_load_at (y := v1) (j := 0) hF rfl (Nat.zero_add _).symm a_q_p0 T45 rfl).q) (fun a w hF hW => ?_)
  refine ls hF hW rfl ((y_len (r := Rp.str) (l := p0) Try.underlying45 rfl hF rfl (rdc_ro h_v1)).q) (fun a w hF hW => ?_)
  refine ls hF hW rfl ((y_assign hF rfl).q) (fun a w hF hW => ?_)
  refine ls_nil ?_
  refine c_then ?_
  refine wp_ret ?_
  subst H
  refine post1 (.inl rfl) hF hW rfl (rv_tmp hF rfl) ?_
  exact ⟨rfl, hW.done⟩

theorem H23 : Has Try.prog 23 := ⟨fun args w => run_callFunc_body Try.func23 rfl (by decide) args w⟩
noncomputable def heap_Queue_string_Peek (p0 : List (List UInt8)) : Option (List UInt8 × Bool) := (if (heap_Queue_string_Len p0) = 0 then some (([] : List UInt8), false) else (ix p0 0).bind fun x1 => some (x1, true))
theorem heap_Queue_string_Peek_c (Y : Nat → Prop) (w0 : World) (q_p0 : Nat) (v1 : Value) (p0 : List (List UInt8)) (r : List UInt8 × Bool) (H : heap_Queue_string_Peek p0 = some r) (h_v1 : Sl w0 (NX []) Rp.str v1 p0) (a_q_p0 : At ⟨Y, [], w0⟩ q_p0 0 [v1]) :
    Calls Try.prog 32 #[.pointer (some ⟨q_p0, 0, none⟩)] w0 fun e w' => e = .returned (.tuple #[.string (bs r.1), .bool r.2]) ∧ Below w0.heap.size w0 w' := by
  refine enter Try.func32 rfl Try.ntmps32 rfl (fun a hF => ?_)
  have hW := Stw.start Y w0
  unfold heap_Queue_string_Peek at H
  refine c_seq ?_
  refine reg_list ?_
  refine ls hF hW rfl ((y_assign (v := Value.string (bs ([] : List UInt8))) hF rfl).q) (fun a w hF hW => ?_)
  refine ls hF hW rfl ((y_assign hF rfl).q) (fun a w hF hW => ?_)
  refine ls_nil ?_
  refine c_then ?_
  refine c_seq ?_
  refine c_seq ?_
  refine reg_list ?_
  refine ls hF hW rfl ((y_move hF rfl).q) (fun a w hF hW => ?_)
  refine ls hF hW rfl (y_call (v := Value.int .i64 (heap_Queue_string_Len p0)) hF H23 rfl (fun w hW => heap_Queue_string_Len_c any w q_p0 (v1) p0 _ rfl (((rdc_ro h_v1) : Rdc _ _ _ _ _ _) w hW).nx (At.re a_q_p0 hW))) (fun a w hF hW => ?_)
  refine ls hF hW rfl ((y_eql hF rfl rfl).q) (fun a w hF hW => ?_)
  refine ls_nil ?_
  refine c_then ?_
  refine c_cond hF rfl (fun hb => ?_) (fun hb => ?_)
  ·
    have H := iteT (of_decide_eq_true hb) H
    rw [hb] at hF
    clear hb
    refine c_seq ?_
    refine reg_list ?_
    refine ls hF hW rfl ((y_assign (v := Value.string (bs ([] : List UInt8))) hF rfl).q) (fun a w hF hW => ?_)
    refine ls_nil ?_
    refine c_then ?_
    refine c_seq ?_
    refine reg_list ?_
    refine ls hF hW rfl ((y_move hF rfl).q) (fun a w hF hW => ?_)
    refine ls hF hW rfl ((y_assign hF rfl).q) (fun a w hF hW => ?_)
    refine ls hF hW rfl ((y_assign hF rfl).q) (fun a w hF hW => ?_)
    refine ls_nil ?_
    refine c_then ?_
    refine wp_ret ?_
    refine r_then ?_
    have H := Option.some.inj H
    subst H
    refine post2 (.inl rfl) hF hW rfl (rv_tmp hF rfl) (rv_tmp hF rfl) ?_
    exact ⟨rfl, hW.done⟩
  ·
    have H := iteF (of_decide_eq_false hb) H
    rw [hb] at hF
    clear hb
    refine wp_skip ?_
    refine c_then ?_
    refine c_seq ?_
    refine reg_list ?_
    refine ls hF hW rfl ((y_move hF rfl).q) (fun a w hF hW => ?_)
    refine ls hF hW rfl ((y_nilCheck hF rfl).q) (fun a w hF hW => ?_)
    refine ls hF hW rfl ((y_fieldAddr Try.underlying60 rfl rfl rfl T45 hF rfl 0 rfl).q) (fun a w hF hW => ?_)
    refine ls hF hW rfl ((y_load_at (y := v1) (j := 0) hF rfl (Nat.zero_add _).symm a_q_p0 T45 rfl).q) (fun a w hF hW => ?_)
    obtain ⟨x1, h1, H⟩ := bindE H
    refine ls hF hW rfl ((y_index (r := Rp.str) L45 hF rfl rfl (rdc_ro h_v1) h1).q) (fun a w hF hW => ?_)
    refine ls hF hW rfl ((y_load_el (y := Value.string (bs x1)) (j := 0) (i := 0) hF rfl rfl (rdc_ro h_v1) h1 Fl.str.to T9 rfl).q) (fun a w hF hW => ?_)
    refine ls hF hW rfl ((y_assign hF rfl).q) (fun a w hF hW => ?_)
    refine ls hF hW rfl ((y_assign hF rfl).q) (fun a w hF hW => ?_)
    refine ls_nil ?_
    refine c_then ?_
    refine wp_ret ?_
    have H := Option.some.inj H
    subst H
    refine post2 (.inl rfl) hF hW rfl (rv_tmp hF rfl) (rv_tmp hF rfl) ?_
    exact ⟨rfl, hW.done⟩

theorem H32 : Has Try.prog 32 := ⟨fun args w => run_callFunc_body Try.func32 rfl (by decide) args w⟩
noncomputable def slices_Delete_string_string (p0 : List (List UInt8)) (p1 : Int) (p2 : Int) : Option (List (List UInt8)) := (subl p0 p1 p2).bind fun x1 => (if p1 = p2 then some p0 else (subl p0 0 p1).bind fun x2 => (subl p0 p2 (p0.length : Int)).bind fun x3 => (spl p0 (x2.length : Int) x3).bind fun x4 => (subl x4 0 ((x2.length : Int) + (x3.length : Int))).bind fun x5 => (subl x4 (x5.length : Int) (p0.length : Int)).bind fun x6 => (spl x4 (x5.length : Int) (List.replicate (x6.length) (([] : List UInt8) : List UInt8))).bind fun x7 => some x5)
theorem slices_Delete_string_string_c (Y : Nat → Prop) (X : List Nat) (w0 : World) (v1 : Value) (p0 : List (List UInt8)) (p1 : Int) (p2 : Int) (r : List (List UInt8)) (H : slices_Delete_string_string p0 p1 p2 = some r) (hL : Stw ⟨Y, X, w0⟩ [] [row v1 9 Rp.str p0] w0) :
    Calls Try.prog 42 #[v1, .int .i64 p1, .int .i64 p2] w0 fun e w' => ∃ x : Value, e = .returned (x) ∧ Stw ⟨Y, X, w0⟩ [] [row (x) 9 Rp.str r] w' := by
  refine enter Try.func42 rfl Try.ntmps42 rfl (fun a hF => ?_)
  have hW := hL
  unfold slices_Delete_string_string at H
  refine c_seq ?_
  refine reg_list ?_
  refine ls hF hW rfl ((y_assign hF rfl).q) (fun a w hF hW => ?_)
  refine ls_nil ?_
  refine c_then ?_
  refine c_seq ?_
  refine reg_list ?_
  refine ls hF hW rfl ((y_move hF rfl).q) (fun a w hF hW => ?_)
  refine ls hF hW rfl ((y_move hF rfl).q) (fun a w hF hW => ?_)
  refine ls hF hW rfl ((y_move hF rfl).q) (fun a w hF hW => ?_)
  refine ls hF hW rfl ((y_move hF rfl).q) (fun a w hF hW => ?_)
  refine ls hF hW rfl ((y_len (r := Rp.str) (l := p0) Try.underlying45 rfl hF rfl (rdc_row 0 rfl)).q) (fun a w hF hW => ?_)
  obtain ⟨x1, h1, H⟩ := bindE H
  refine ls hF hW rfl ((y_slice3 (r := Rp.str) L45 hF rfl rfl rfl rfl rfl (rdc_row 0 rfl) h1).q) (fun a w hF hW => ?_)
  refine ls_nil ?_
  refine c_then ?_
  refine c_seq ?_
  refine c_seq ?_
  refine reg_list ?_
  refine ls hF hW rfl ((y_move hF rfl).q) (fun a w hF hW => ?_)
  refine ls hF hW rfl ((y_move hF rfl).q) (fun a w hF hW => ?_)
  refine ls hF hW rfl ((y_eql hF rfl rfl).q) (fun a w hF hW => ?_)
  refine ls_nil ?_
  refine c_then ?_
  refine c_cond hF rfl (fun hb => ?_) (fun hb => ?_)
  ·
    have H := iteT (of_decide_eq_true hb) H
    rw [hb] at hF
    clear hb
    refine c_seq ?_
    refine reg_list ?_
    refine ls hF hW rfl ((y_move hF rfl).q) (fun a w hF hW => ?_)
    refine ls hF hW rfl ((y_assign hF rfl).q) (fun a w hF hW => ?_)
    refine ls_nil ?_
    refine c_then ?_
    refine wp_ret ?_
    refine r_then ?_
    have H := Option.some.inj H
    subst H
    refine post1 (.inl rfl) hF hW rfl (rv_tmp hF rfl) ?_
    exact ⟨(v1), rfl, hW⟩
  ·
    have H := iteF (of_decide_eq_false hb) H
    rw [hb] at hF
    clear hb
    refine wp_skip ?_
    refine c_then ?_
    refine c_seq ?_
    refine reg_list ?_
    refine ls hF hW rfl ((y_move hF rfl).q) (fun a w hF hW => ?_)
    refine ls hF hW rfl ((y_len (r := Rp.str) (l := p0) Try.underlying45 rfl hF rfl (rdc_row 0 rfl)).q) (fun a w hF hW => ?_)
    refine ls hF hW rfl ((y_assign hF rfl).q) (fun a w hF hW => ?_)
    refine ls_nil ?_
    refine c_then ?_
    refine c_seq ?_
    refine reg_tail 6 hW MO (by kernel_rfl) ?_
    refine qs hF rfl ((y_move hF rfl).q) (fun a hF => ?_)
    refine qs hF rfl ((y_move hF rfl).q) (fun a hF => ?_)
    obtain ⟨x2, h2, H⟩ := bindE H
    refine qs hF rfl ((y_slice (r := Rp.str) L45 hF rfl rfl rfl (rdc_row 0 rfl) h2).q) (fun a hF => ?_)
    refine qs hF rfl ((y_move hF rfl).q) (fun a hF => ?_)
    refine qs hF rfl ((y_move hF rfl).q) (fun a hF => ?_)
    obtain ⟨x3, h3, H⟩ := bindE H
    refine qs hF rfl ((y_slice (r := Rp.str) L45 hF rfl rfl rfl (rdc_row 0 rfl) h3).q) (fun a hF => ?_)
    refine quiet_end (fun w hW => ?_)
    obtain ⟨x4, h4, H⟩ := bindE H
    obtain ⟨x5, h5, H⟩ := bindE H
    refine l_append_in (r := Rp.str) (v := v1) (k := 0) hF hW rfl L45 rfl rfl rfl rfl h2 (Src.sub (src_row hW 0 rfl) h3) h4 (fun a w hF hW => ?_)
    have hW : Stw ⟨Y, X, w0⟩ [] [row v1 9 Rp.str x4] w := hW
    refine ls hF hW rfl ((y_assign hF rfl).q) (fun a w hF hW => ?_)
    refine ls_nil ?_
    refine c_then ?_
    refine c_seq ?_
    refine reg_list ?_
    refine ls hF hW rfl ((y_move hF rfl).q) (fun a w hF hW => ?_)
    refine ls hF hW rfl ((y_move hF rfl).q) (fun a w hF hW => ?_)
    refine ls hF hW rfl ((y_len (r := Rp.str) (l := x5) Try.underlying45 rfl hF rfl (rdc_sub (rdc_row 0 rfl) h5)).q) (fun a w hF hW => ?_)
    refine ls hF hW rfl ((y_move hF rfl).q) (fun a w hF hW => ?_)
    obtain ⟨x6, h6, H⟩ := bindE H
    refine ls hF hW rfl ((y_slice_ext (r := Rp.str) L45 hF rfl rfl rfl (rdc_row 0 rfl) h6).q) (fun a w hF hW => ?_)
    obtain ⟨x7, h7, H⟩ := bindE H
    refine l_clear (r := Rp.str) (v := v1) (k := 0) (([] : List UInt8) : List UInt8) hF hW L45 Z9 rfl rfl rfl h6 (fun w A => Fl.str.mk' w A (([] : List UInt8) : List UInt8)) h7 (fun w hW => ?_)
    have h8 := spl_pre h7 (Int.le_of_eq (sub0_len h5).symm) h5
    have hW : Stw ⟨Y, X, w0⟩ [] [row v1 9 Rp.str x7] w := hW
    refine ls_nil ?_
    refine c_then ?_
    refine c_seq ?_
    refine reg_list ?_
    refine ls hF hW rfl ((y_move hF rfl).q) (fun a w hF hW => ?_)
    refine ls hF hW rfl ((y_assign hF rfl).q) (fun a w hF hW => ?_)
    refine ls_nil ?_
    refine c_then ?_
    refine wp_ret ?_
    have H := Option.some.inj H
    subst H
    refine post1 (.inl rfl) hF hW rfl (rv_tmp hF rfl) ?_
    have hW := hW.subRow (k := 0) rfl rfl h8
    exact ⟨((slSub v1 (0 : Int) ((x2.length : Int) + (x3.length : Int)) 1)), rfl, hW⟩

theorem H42 : Has Try.prog 42 := ⟨fun args w => run_callFunc_body Try.func42 rfl (by decide) args w⟩
noncomputable def heap_Queue_string_down_l2 (x1 : Int) (x2 : List (List UInt8)) : (Int × Int) → Option ((Int × Int) ⊕ Int)
  | (x4, x5) => (if (decide (x5 ≤ (w64 ((w64 (2 * x1)) + 2))) && decide (x5 < (x2.length : Int))) = true then ((ix x2 x5).bind fun x7 => (ix x2 x4).bind fun x8 => (if (cmp_Less_string x7 x8) = true then some x5 else some x4)).bind fun x6 => some (.inl (x6, w64 (x5 + 1))) else some (.inr x4))
noncomputable def heap_Queue_string_down_l1  : (Int × List (List UInt8)) → Option ((Int × List (List UInt8)) ⊕ (List (List UInt8)))
  | (x1, x2) => (loopW (heap_Queue_string_down_l2 x1 x2) (x1, w64 ((w64 (2 * x1)) + 1))).bind fun x3 => (if x3 = x1 then some (.inr x2) else (ix x2 x3).bind fun x9 => (ix x2 x1).bind fun x10 => (ix x2 x1).bind fun x11 => (ix (setAt x2 x1 x9) x3).bind fun x12 => some (.inl (x3, (setAt (setAt x2 x1 x9) x3 x10))))
noncomputable def heap_Queue_string_down (p0 : List (List UInt8)) (p1 : Int) : Option (List (List UInt8)) := loopW (heap_Queue_string_down_l1) (p1, p0)
theorem heap_Queue_string_down_c (Y : Nat → Prop) (X : List Nat) (w0 : World) (q_p0 : Nat) (v1 : Value) (p0 : List (List UInt8)) (p1 : Int) (r : List (List UInt8)) (H : heap_Queue_string_down p0 p1 = some r) (hL : Stw ⟨Y, X, w0⟩ [(q_p0, [v1])] [row v1 9 Rp.str p0] w0) :
    Calls Try.prog 43 #[.pointer (some ⟨q_p0, 0, none⟩), .int .i64 p1] w0 fun e w' => ∃ x : Value, e = .returned (.tuple #[]) ∧ Stw ⟨Y, X, w0⟩ [(q_p0, [x])] [row (x) 9 Rp.str r] w' := by
  refine enter Try.func43 rfl Try.ntmps43 rfl (fun a hF => ?_)
  have hW := hL
  unfold heap_Queue_string_down at H
  refine wp_block ?_
  refine c_loopW H (fun s a w => Fr 72 [] [(0, .pointer (some ⟨q_p0, 0, none⟩)), (1, .int .i64 s.1)] a ∧ Stw ⟨Y, X, w0⟩ [(q_p0, [v1])] [row v1 9 Rp.str s.2] w) ⟨hF.re ⟨rfl, rfl, trivial⟩, hW⟩ (fun s o a w H L1 hR => ?_)
  obtain ⟨x1, x2⟩ := s
  obtain ⟨hF, hW⟩ := hR
  have hF : Fr 72 [] [(0, .pointer (some ⟨q_p0, 0, none⟩)), (1, .int .i64 x1)] a := hF
  have hW : Stw ⟨Y, X, w0⟩ [(q_p0, [v1])] [row v1 9 Rp.str x2] w := hW
  rw [heap_Queue_string_down_l1] at H
  refine wp_block ?_
  refine c_seq ?_
  refine reg_list ?_
  refine ls hF hW rfl ((y_move hF rfl).q) (fun a w hF hW => ?_)
  refine ls hF hW rfl ((y_assign hF rfl).q) (fun a w hF hW => ?_)
  refine ls_nil ?_
  refine c_then ?_
  obtain ⟨o2, G2, K2⟩ := bindE H
  refine c_seqJ (fun a w => ∃ x3 : Int, some (x3) = some o2 ∧ Fr 72 [] [(0, .pointer (some ⟨q_p0, 0, none⟩)), (1, .int .i64 x1), (4, .int .i64 x3)] a ∧ Stw ⟨Y, X, w0⟩ [(q_p0, [v1])] [row v1 9 Rp.str x2] w) ?_ ?_
  ·
    have H := G2
    clear G2 K2
    refine c_seq ?_
    refine reg_list ?_
    refine ls hF hW rfl ((y_move hF rfl).q) (fun a w hF hW => ?_)
    refine ls hF hW rfl ((y_mul hF rfl rfl rfl).q) (fun a w hF hW => ?_)
    refine ls hF hW rfl ((y_add hF rfl rfl rfl).q) (fun a w hF hW => ?_)
    refine ls hF hW rfl ((y_assign hF rfl).q) (fun a w hF hW => ?_)
    refine ls_nil ?_
    refine c_then ?_
    refine wp_block ?_
    refine c_loopW H (fun s a w => Fr 72 [] [(0, .pointer (some ⟨q_p0, 0, none⟩)), (1, .int .i64 x1), (4, .int .i64 s.1), (5, .int .i64 s.2)] a ∧ Stw ⟨Y, X, w0⟩ [(q_p0, [v1])] [row v1 9 Rp.str x2] w) ⟨hF.re ⟨rfl, rfl, rfl, rfl, trivial⟩, hW⟩ (fun s o a w H L3 hR => ?_)
    obtain ⟨x4, x5⟩ := s
    obtain ⟨hF, hW⟩ := hR
    have hF : Fr 72 [] [(0, .pointer (some ⟨q_p0, 0, none⟩)), (1, .int .i64 x1), (4, .int .i64 x4), (5, .int .i64 x5)] a := hF
    have hW : Stw ⟨Y, X, w0⟩ [(q_p0, [v1])] [row v1 9 Rp.str x2] w := hW
    rw [heap_Queue_string_down_l2] at H
    refine c_seq ?_
    refine c_seqJ (fun a w => Fr 72 [] [(0, .pointer (some ⟨q_p0, 0, none⟩)), (1, .int .i64 x1), (4, .int .i64 x4), (5, .int .i64 x5), (23, .bool (decide (x5 ≤ (w64 ((w64 (2 * x1)) + 2))) && decide (x5 < (x2.length : Int))))] a ∧ Stw ⟨Y, X, w0⟩ [(q_p0, [v1])] [row v1 9 Rp.str x2] w) ?_ ?_
    ·
      refine reg_list ?_
      refine ls hF hW rfl ((y_move hF rfl).q) (fun a w hF hW => ?_)
      refine ls hF hW rfl ((y_move hF rfl).q) (fun a w hF hW => ?_)
      refine ls hF hW rfl ((y_mul hF rfl rfl rfl).q) (fun a w hF hW => ?_)
      refine ls hF hW rfl ((y_add hF rfl rfl rfl).q) (fun a w hF hW => ?_)
      refine ls hF hW rfl ((y_leq hF rfl rfl).q) (fun a w hF hW => ?_)
      refine ls hF hW rfl ((y_move hF rfl).q) (fun a w hF hW => ?_)
      rcases Bool.eq_false_or_eq_true (decide (x5 ≤ (w64 ((w64 (2 * x1)) + 2)))) with hb0 | hb0
      ·
        rw [hb0] at hF
        refine ls_w hF hW (wanted_y hF rfl rfl rfl rfl) rfl (Nat.le_of_ble_eq_true rfl) ((y_move hF rfl).q) (fun a w hF hW => ?_)
        refine ls_w hF hW (wanted_y hF rfl rfl rfl rfl) rfl (Nat.le_of_ble_eq_true rfl) ((y_move hF rfl).q) (fun a w hF hW => ?_)
        refine ls_w hF hW (wanted_y hF rfl rfl rfl rfl) rfl (Nat.le_of_ble_eq_true rfl) ((y_nilCheck hF rfl).q) (fun a w hF hW => ?_)
        refine ls_w hF hW (wanted_y hF rfl rfl rfl rfl) rfl (Nat.le_of_ble_eq_true rfl) ((y_fieldAddr Try.underlying60 rfl rfl rfl T45 hF rfl 0 rfl).q) (fun a w hF hW => ?_)
        refine ls_w hF hW (wanted_y hF rfl rfl rfl rfl) rfl (Nat.le_of_ble_eq_true rfl) ((y_load (v := v1) 0 hF rfl rfl T45 rfl).q) (fun a w hF hW => ?_)
        refine ls_w hF hW (wanted_y hF rfl rfl rfl rfl) rfl (Nat.le_of_ble_eq_true rfl) ((y_len (r := Rp.str) (l := x2) Try.underlying45 rfl hF rfl (rdc_row 0 rfl)).q) (fun a w hF hW => ?_)
        refine ls_w hF hW (wanted_y hF rfl rfl rfl rfl) rfl (Nat.le_of_ble_eq_true rfl) ((y_lss hF rfl rfl).q) (fun a w hF hW => ?_)
        refine ls hF hW rfl ((y_pick_t hF rfl rfl rfl).q) (fun a w hF hW => ?_)
        refine ls_nil ?_
        refine c_then ?_
        exact ⟨hF.re ⟨rfl, rfl, rfl, rfl, (by show some (Value.bool (decide (x5 < (x2.length : Int)))) = some (Value.bool (decide (x5 ≤ (w64 ((w64 (2 * x1)) + 2))) && decide (x5 < (x2.length : Int)))); try rw [hb0]; all_goals simp only [Bool.not_true, Bool.not_false, Bool.true_and, Bool.false_and, Bool.true_or, Bool.false_or, Bool.and_true, Bool.or_false, cond_true, cond_false]), trivial⟩, hW⟩
      ·
        rw [hb0] at hF
        refine ls_skip hF (wanted_n hF rfl rfl rfl rfl rfl) rfl rfl (fun a hF => ?_)
        refine ls_skip hF (wanted_n hF rfl rfl rfl rfl rfl) rfl rfl (fun a hF => ?_)
        refine ls_skip hF (wanted_n hF rfl rfl rfl rfl rfl) rfl rfl (fun a hF => ?_)
        refine ls_skip hF (wanted_n hF rfl rfl rfl rfl rfl) rfl rfl (fun a hF => ?_)
        refine ls_skip hF (wanted_n hF rfl rfl rfl rfl rfl) rfl rfl (fun a hF => ?_)
        refine ls_skip hF (wanted_n hF rfl rfl rfl rfl rfl) rfl rfl (fun a hF => ?_)
        refine ls_skip hF (wanted_n hF rfl rfl rfl rfl rfl) rfl rfl (fun a hF => ?_)
        refine ls hF hW rfl ((y_pick_f hF rfl rfl rfl).q) (fun a w hF hW => ?_)
        refine ls_nil ?_
        refine c_then ?_
        exact ⟨hF.re ⟨rfl, rfl, rfl, rfl, (by show some (Value.bool false) = some (Value.bool (decide (x5 ≤ (w64 ((w64 (2 * x1)) + 2))) && decide (x5 < (x2.length : Int)))); try rw [hb0]; all_goals simp only [Bool.not_true, Bool.not_false, Bool.true_and, Bool.false_and, Bool.true_or, Bool.false_or, Bool.and_true, Bool.or_false, cond_true, cond_false]), trivial⟩, hW⟩
    rintro a w ⟨hF, hW⟩
    refine c_cond hF rfl (fun hb => ?_) (fun hb => ?_)
    ·
      have H := iteT hb H
      rw [hb] at hF
      clear hb
      refine wp_skip ?_
      refine c_then ?_
      obtain ⟨o4, G4, K4⟩ := bindE H
      refine c_seqJ (fun a w => ∃ x6 : Int, some (x6) = some o4 ∧ Fr 72 [] [(0, .pointer (some ⟨q_p0, 0, none⟩)), (1, .int .i64 x1), (4, .int .i64 x6), (5, .int .i64 x5)] a ∧ Stw ⟨Y, X, w0⟩ [(q_p0, [v1])] [row v1 9 Rp.str x2] w) ?_ ?_
      ·
        have H := G4
        clear G4 K4
        refine wp_block ?_
        refine c_seq ?_
        refine reg_quiet hW MO (by kernel_rfl) ?_
        refine qs hF rfl ((y_move hF rfl).q) (fun a hF => ?_)
        refine qs hF rfl ((y_nilCheck hF rfl).q) (fun a hF => ?_)
        refine qs hF rfl ((y_fieldAddr Try.underlying60 rfl rfl rfl T45 hF rfl 0 rfl).q) (fun a hF => ?_)
        refine qs hF rfl ((y_load (v := v1) 0 hF rfl rfl T45 rfl).q) (fun a hF => ?_)
        refine qs hF rfl ((y_move hF rfl).q) (fun a hF => ?_)
        obtain ⟨x7, h1, H⟩ := bindE H
        refine qs hF rfl ((y_index (r := Rp.str) L45 hF rfl rfl (rdc_row 0 rfl) h1).q) (fun a hF => ?_)
        refine qs hF rfl ((y_load_el (y := Value.string (bs x7)) (j := 0) (i := x5) hF rfl rfl (rdc_row 0 rfl) h1 Fl.str.to T9 rfl).q) (fun a hF => ?_)
        refine qs hF rfl ((y_move hF rfl).q) (fun a hF => ?_)
        refine qs hF rfl ((y_nilCheck hF rfl).q) (fun a hF => ?_)
        refine qs hF rfl ((y_fieldAddr Try.underlying60 rfl rfl rfl T45 hF rfl 0 rfl).q) (fun a hF => ?_)
        refine qs hF rfl ((y_load (v := v1) 0 hF rfl rfl T45 rfl).q) (fun a hF => ?_)
        refine qs hF rfl ((y_move hF rfl).q) (fun a hF => ?_)
        obtain ⟨x8, h2, H⟩ := bindE H
        refine qs hF rfl ((y_index (r := Rp.str) L45 hF rfl rfl (rdc_row 0 rfl) h2).q) (fun a hF => ?_)
        refine qs hF rfl ((y_load_el (y := Value.string (bs x8)) (j := 0) (i := x4) hF rfl rfl (rdc_row 0 rfl) h2 Fl.str.to T9 rfl).q) (fun a hF => ?_)
        refine qs hF rfl (y_call (v := Value.bool (cmp_Less_string x7 x8)) hF H33 rfl (fun w hW => cmp_Less_string_c any w x7 x8 _ rfl)) (fun a hF => ?_)
        refine quiet_end (fun w hW => ?_)
        refine c_then ?_
        refine c_cond hF rfl (fun hb => ?_) (fun hb => ?_)
        ·
          have H := iteT hb H
          rw [hb] at hF
          clear hb
          refine reg_list ?_
          refine ls hF hW rfl ((y_move hF rfl).q) (fun a w hF hW => ?_)
          refine ls hF hW rfl ((y_assign hF rfl).q) (fun a w hF hW => ?_)
          refine ls_nil ?_
          refine b_normal ?_
          refine c_then ?_
          exact ⟨_, H, hF.re ⟨rfl, rfl, rfl, rfl, trivial⟩, hW⟩
        ·
          have H := iteF (by rw [hb]; decide) H
          rw [hb] at hF
          clear hb
          refine wp_skip ?_
          refine b_normal ?_
          refine c_then ?_
          exact ⟨_, H, hF.re ⟨rfl, rfl, rfl, rfl, trivial⟩, hW⟩
      rintro a w ⟨x6, hj, hF, hW⟩
      have hj := Option.some.inj hj
      subst hj
      have H := K4
      clear G4 K4
      refine reg_list ?_
      refine ls hF hW rfl ((y_move hF rfl).q) (fun a w hF hW => ?_)
      refine ls hF hW rfl ((y_add hF rfl rfl rfl).q) (fun a w hF hW => ?_)
      refine ls hF hW rfl ((y_assign hF rfl).q) (fun a w hF hW => ?_)
      refine ls_nil ?_
      refine c_then ?_
      exact ⟨_, H, hF.re ⟨rfl, rfl, rfl, rfl, trivial⟩, hW⟩
    ·
      have H := iteF (by rw [hb]; decide) H
      rw [hb] at hF
      clear hb
      refine wp_exit ?_
      refine e_then ?_
      refine e_then ?_
      refine e_block ?_
      refine c_then ?_
      have H := L3 _ H
      exact ⟨_, H, hF.re ⟨rfl, rfl, rfl, trivial⟩, hW⟩
  rintro a w ⟨x3, hj, hF, hW⟩
  have hj := Option.some.inj hj
  subst hj
  have H := K2
  clear G2 K2
  refine c_seq ?_
  refine c_seq ?_
  refine reg_list ?_
  refine ls hF hW rfl ((y_move hF rfl).q) (fun a w hF hW => ?_)
  refine ls hF hW rfl ((y_move hF rfl).q) (fun a w hF hW => ?_)
  refine ls hF hW rfl ((y_eql hF rfl rfl).q) (fun a w hF hW => ?_)
  refine ls_nil ?_
  refine c_then ?_
  refine c_cond hF rfl (fun hb => ?_) (fun hb => ?_)
  ·
    have H := iteT (of_decide_eq_true hb) H
    rw [hb] at hF
    clear hb
    refine wp_ret ?_
    refine r_then ?_
    refine r_block ?_
    refine r_then ?_
    refine r_block ?_
    have H := L1 _ H
    have H := Option.some.inj H
    subst H
    refine post0 (.inl rfl) hF rfl ?_
    exact ⟨(v1), rfl, hW⟩
  ·
    have H := iteF (of_decide_eq_false hb) H
    rw [hb] at hF
    clear hb
    refine wp_skip ?_
    refine c_then ?_
    refine c_seq ?_
    refine reg_ord 25 [9] [0, 1, 2, 3, 4, 5, 6, 7, 8, 10, 11, 12, 13, 14, 15, 16, 17, 18, 19, 20, 21, 22, 23, 24] (fun ch a d v w h => by cases d <;> exact h) hW MO (by kernel_rfl) ?_
    refine hm hF rfl rfl rfl (fun a hF => ?_)
    refine hm_end ?_
    refine hs hF rfl rfl rfl ((y_move hF rfl).q) (fun a hF => ?_)
    refine hs hF rfl rfl rfl ((y_nilCheck hF rfl).q) (fun a hF => ?_)
    refine hs hF rfl rfl rfl ((y_fieldAddr Try.underlying60 rfl rfl rfl T45 hF rfl 0 rfl).q) (fun a hF => ?_)
    refine hs hF rfl rfl rfl ((y_load (v := v1) 0 hF rfl rfl T45 rfl).q) (fun a hF => ?_)
    refine hs hF rfl rfl rfl ((y_move hF rfl).q) (fun a hF => ?_)
    refine hs hF rfl rfl rfl ((y_move hF rfl).q) (fun a hF => ?_)
    refine hs hF rfl rfl rfl ((y_nilCheck hF rfl).q) (fun a hF => ?_)
    refine hs hF rfl rfl rfl ((y_fieldAddr Try.underlying60 rfl rfl rfl T45 hF rfl 0 rfl).q) (fun a hF => ?_)
    refine hs hF rfl rfl rfl ((y_load (v := v1) 0 hF rfl rfl T45 rfl).q) (fun a hF => ?_)
    refine hs hF rfl rfl rfl ((y_move hF rfl).q) (fun a hF => ?_)
    refine hs hF rfl rfl rfl ((y_nilCheck hF rfl).q) (fun a hF => ?_)
    refine hs hF rfl rfl rfl ((y_fieldAddr Try.underlying60 rfl rfl rfl T45 hF rfl 0 rfl).q) (fun a hF => ?_)
    refine hs hF rfl rfl rfl ((y_load (v := v1) 0 hF rfl rfl T45 rfl).q) (fun a hF => ?_)
    refine hs hF rfl rfl rfl ((y_move hF rfl).q) (fun a hF => ?_)
    obtain ⟨x9, h3, H⟩ := bindE H
    refine hs hF rfl rfl rfl ((y_index (r := Rp.str) L45 hF rfl rfl (rdc_row 0 rfl) h3).q) (fun a hF => ?_)
    refine hs hF rfl rfl rfl ((y_load_el (y := Value.string (bs x9)) (j := 0) (i := x3) hF rfl rfl (rdc_row 0 rfl) h3 Fl.str.to T9 rfl).q) (fun a hF => ?_)
    refine hs hF rfl rfl rfl ((y_move hF rfl).q) (fun a hF => ?_)
    refine hs hF rfl rfl rfl ((y_nilCheck hF rfl).q) (fun a hF => ?_)
    refine hs hF rfl rfl rfl ((y_fieldAddr Try.underlying60 rfl rfl rfl T45 hF rfl 0 rfl).q) (fun a hF => ?_)
    refine hs hF rfl rfl rfl ((y_load (v := v1) 0 hF rfl rfl T45 rfl).q) (fun a hF => ?_)
    refine hs hF rfl rfl rfl ((y_move hF rfl).q) (fun a hF => ?_)
    obtain ⟨x10, h4, H⟩ := bindE H
    refine hs hF rfl rfl rfl ((y_index (r := Rp.str) L45 hF rfl rfl (rdc_row 0 rfl) h4).q) (fun a hF => ?_)
    refine hs hF rfl rfl rfl ((y_load_el (y := Value.string (bs x10)) (j := 0) (i := x1) hF rfl rfl (rdc_row 0 rfl) h4 Fl.str.to T9 rfl).q) (fun a hF => ?_)
    obtain ⟨x11, h5, H⟩ := bindE H
    refine hs hF rfl rfl rfl ((y_index (r := Rp.str) L45 hF rfl rfl (rdc_row 0 rfl) h5).q) (fun a hF => ?_)
    refine h_end (fun w hW => ?_)
    have hW : Stw ⟨Y, X, w0⟩ [(q_p0, [v1])] [row v1 9 Rp.str x2] w := hW
    refine l_store_el (i := x1) (j := 0) (vs := [.string (bs x9)]) (x' := x9) hF hW rfl rfl rfl (k := 0) rfl rfl h5 T9 rfl rfl rfl rfl (fun A cs _ => Fl.str.sto (by rfl) _ _ _) (fun w hW => ?_)
    obtain ⟨x12, h6, H⟩ := bindE H
    refine ls hF hW rfl ((y_index (r := Rp.str) L45 hF rfl rfl (rdc_row 0 rfl) h6).q) (fun a w hF hW => ?_)
    refine l_store_el (i := x3) (j := 0) (vs := [.string (bs x10)]) (x' := x10) hF hW rfl rfl rfl (k := 0) rfl rfl h6 T9 rfl rfl rfl rfl (fun A cs _ => Fl.str.sto (by rfl) _ _ _) (fun w hW => ?_)
    refine ls_nil ?_
    refine c_then ?_
    refine reg_list ?_
    refine ls hF hW rfl ((y_move hF rfl).q) (fun a w hF hW => ?_)
    refine ls hF hW rfl ((y_assign hF rfl).q) (fun a w hF hW => ?_)
    refine ls_nil ?_
    refine b_normal ?_
    refine c_then ?_
    exact ⟨_, H, hF.re ⟨rfl, rfl, trivial⟩, hW⟩

theorem H43 : Has Try.prog 43 := ⟨fun args w => run_callFunc_body Try.func43 rfl (by decide) args w⟩
noncomputable def heap_Queue_string_remove (p0 : List (List UInt8)) (p1 : Int) : Option (List (List UInt8)) := (ix p0 (w64 ((p0.length : Int) - 1))).bind fun x1 => (ix p0 p1).bind fun x2 => (slices_Delete_string_string (setAt p0 p1 x1) (w64 ((p0.length : Int) - 1)) (w64 ((w64 ((p0.length : Int) - 1)) + 1))).bind fun x3 => (if p1 < (w64 ((p0.length : Int) - 1)) then (heap_Queue_string_down x3 p1).bind fun x4 => (heap_Queue_string_up x4 p1).bind fun x5 => some x5 else some x3)
theorem heap_Queue_string_remove_c (Y : Nat → Prop) (X : List Nat) (w0 : World) (q_p0 : Nat) (v1 : Value) (p0 : List (List UInt8)) (p1 : Int) (r : List (List UInt8)) (H : heap_Queue_string_remove p0 p1 = some r) (hL : Stw ⟨Y, X, w0⟩ [(q_p0, [v1])] [row v1 9 Rp.str p0] w0) :
    Calls Try.prog 34 #[.pointer (some ⟨q_p0, 0, none⟩), .int .i64 p1] w0 fun e w' => ∃ x : Value, e = .returned (.tuple #[]) ∧ Stw ⟨Y, X, w0⟩ [(q_p0, [x])] [row (x) 9 Rp.str r] w' := by
  refine enter Try.func34 rfl Try.ntmps34 rfl (fun a hF => ?_)
  have hW := hL
  unfold heap_Queue_string_remove at H
  refine c_seq ?_
  refine reg_list ?_
  refine ls hF hW rfl ((y_move hF rfl).q) (fun a w hF hW => ?_)
  refine ls hF hW rfl ((y_nilCheck hF rfl).q) (fun a w hF hW => ?_)
  refine ls hF hW rfl ((y_fieldAddr Try.underlying60 rfl rfl rfl T45 hF rfl 0 rfl).q) (fun a w hF hW => ?_)
  refine ls hF hW rfl ((y_load (v := v1) 0 hF rfl rfl T45 rfl).q) (fun a w hF hW => ?_)
  refine ls hF hW rfl ((y_len (r := Rp.str) (l := p0) Try.underlying45 rfl hF rfl (rdc_row 0 rfl)).q) (fun a w hF hW => ?_)
  refine ls hF hW rfl ((y_sub hF rfl rfl rfl).q) (fun a w hF hW => ?_)
  refine ls hF hW rfl ((y_assign hF rfl).q) (fun a w hF hW => ?_)
  refine ls_nil ?_
  refine c_then ?_
  refine c_seq ?_
  refine reg_tail 13 hW MO (by kernel_rfl) ?_
  refine qs hF rfl ((y_move hF rfl).q) (fun a hF => ?_)
  refine qs hF rfl ((y_nilCheck hF rfl).q) (fun a hF => ?_)
  refine qs hF rfl ((y_fieldAddr Try.underlying60 rfl rfl rfl T45 hF rfl 0 rfl).q) (fun a hF => ?_)
  refine qs hF rfl ((y_load (v := v1) 0 hF rfl rfl T45 rfl).q) (fun a hF => ?_)
  refine qs hF rfl ((y_move hF rfl).q) (fun a hF => ?_)
  refine qs hF rfl ((y_move hF rfl).q) (fun a hF => ?_)
  refine qs hF rfl ((y_nilCheck hF rfl).q) (fun a hF => ?_)
  refine qs hF rfl ((y_fieldAddr Try.underlying60 rfl rfl rfl T45 hF rfl 0 rfl).q) (fun a hF => ?_)
  refine qs hF rfl ((y_load (v := v1) 0 hF rfl rfl T45 rfl).q) (fun a hF => ?_)
  refine qs hF rfl ((y_move hF rfl).q) (fun a hF => ?_)
  obtain ⟨x1, h1, H⟩ := bindE H
  refine qs hF rfl ((y_index (r := Rp.str) L45 hF rfl rfl (rdc_row 0 rfl) h1).q) (fun a hF => ?_)
  refine qs hF rfl ((y_load_el (y := Value.string (bs x1)) (j := 0) (i := w64 ((p0.length : Int) - 1)) hF rfl rfl (rdc_row 0 rfl) h1 Fl.str.to T9 rfl).q) (fun a hF => ?_)
  obtain ⟨x2, h2, H⟩ := bindE H
  refine qs hF rfl ((y_index (r := Rp.str) L45 hF rfl rfl (rdc_row 0 rfl) h2).q) (fun a hF => ?_)
  refine quiet_end (fun w hW => ?_)
  refine l_store_el (i := p1) (j := 0) (vs := [.string (bs x1)]) (x' := x1) hF hW rfl rfl rfl (k := 0) rfl rfl h2 T9 rfl rfl rfl rfl (fun A cs _ => Fl.str.sto (by rfl) _ _ _) (fun w hW => ?_)
  refine ls_nil ?_
  refine c_then ?_
  refine c_seq ?_
  refine reg_list ?_
  refine ls hF hW rfl ((y_move hF rfl).q) (fun a w hF hW => ?_)
  refine ls hF hW rfl ((y_move hF rfl).q) (fun a w hF hW => ?_)
  refine ls hF hW rfl ((y_nilCheck hF rfl).q) (fun a w hF hW => ?_)
  refine ls hF hW rfl ((y_fieldAddr Try.underlying60 rfl rfl rfl T45 hF rfl 0 rfl).q) (fun a w hF hW => ?_)
  refine ls hF hW rfl ((y_load (v := v1) 0 hF rfl rfl T45 rfl).q) (fun a w hF hW => ?_)
  refine ls hF hW rfl ((y_move hF rfl).q) (fun a w hF hW => ?_)
  refine ls hF hW rfl ((y_move hF rfl).q) (fun a w hF hW => ?_)
  refine ls hF hW rfl ((y_add hF rfl rfl rfl).q) (fun a w hF hW => ?_)
  obtain ⟨x3, h3, H⟩ := bindE H
  refine l_callG (Ml := []) (Zl := [row v1 9 Rp.str (setAt p0 p1 x1)]) (M := [(q_p0, [v1])]) (Z := []) (β := Value) (rv := fun x => x) (MM := fun x => []) (ZZ := fun x => [row x 9 Rp.str x3]) hF hW H42 rfl rfl (fun hL => slices_Delete_string_string_c _ _ w (v1) (setAt p0 p1 x1) (w64 ((p0.length : Int) - 1)) (w64 ((w64 ((p0.length : Int) - 1)) + 1)) _ h3 hL) (fun x a w hF hW => ?_)
  obtain ⟨v2, rfl⟩ : ∃ y, y = x := ⟨x, rfl⟩
  have hW : Stw ⟨Y, X, w0⟩ [(q_p0, [v1])] [row v2 9 Rp.str x3] w := hW
  refine ls hF hW rfl ((y_nilCheck hF rfl).q) (fun a w hF hW => ?_)
  refine ls hF hW rfl ((y_fieldAddr Try.underlying60 rfl rfl rfl T45 hF rfl 0 rfl).q) (fun a w hF hW => ?_)
  refine l_store1 (M' := [(q_p0, [v2])]) 0 hF hW rfl rfl rfl T45 (hW.one (k := 0) rfl) rfl rfl (fun w hW => ?_)
  refine ls_nil ?_
  refine c_then ?_
  refine c_seq ?_
  refine reg_list ?_
  refine ls hF hW rfl ((y_move hF rfl).q) (fun a w hF hW => ?_)
  refine ls hF hW rfl ((y_move hF rfl).q) (fun a w hF hW => ?_)
  refine ls hF hW rfl ((y_lss hF rfl rfl).q) (fun a w hF hW => ?_)
  refine ls_nil ?_
  refine c_then ?_
  refine c_cond hF rfl (fun hb => ?_) (fun hb => ?_)
  ·
    have H := iteT (of_decide_eq_true hb) H
    rw [hb] at hF
    clear hb
    refine c_seq ?_
    refine reg_list ?_
    refine ls hF hW rfl ((y_move hF rfl).q) (fun a w hF hW => ?_)
    refine ls hF hW rfl ((y_move hF rfl).q) (fun a w hF hW => ?_)
    obtain ⟨x4, h4, H⟩ := bindE H
    refine l_callG (Ml := [(q_p0, [v2])]) (Zl := [row v2 9 Rp.str x3]) (M := []) (Z := []) (β := Value) (rv := fun x => .tuple #[]) (MM := fun x => [(q_p0, [x])]) (ZZ := fun x => [row x 9 Rp.str x4]) hF hW H43 rfl rfl (fun hL => heap_Queue_string_down_c _ _ w q_p0 (v2) x3 p1 _ h4 hL) (fun x a w hF hW => ?_)
    obtain ⟨v3, rfl⟩ : ∃ y, y = x := ⟨x, rfl⟩
    have hW : Stw ⟨Y, X, w0⟩ [(q_p0, [v3])] [row v3 9 Rp.str x4] w := hW
    refine ls_nil ?_
    refine c_then ?_
    refine reg_list ?_
    refine ls hF hW rfl ((y_move hF rfl).q) (fun a w hF hW => ?_)
    refine ls hF hW rfl ((y_move hF rfl).q) (fun a w hF hW => ?_)
    obtain ⟨x5, h5, H⟩ := bindE H
    refine l_callG (Ml := [(q_p0, [v3])]) (Zl := [row v3 9 Rp.str x4]) (M := []) (Z := []) (β := Value) (rv := fun x => .tuple #[]) (MM := fun x => [(q_p0, [x])]) (ZZ := fun x => [row x 9 Rp.str x5]) hF hW H31 rfl rfl (fun hL => heap_Queue_string_up_c _ _ w q_p0 (v3) x4 p1 _ h5 hL) (fun x a w hF hW => ?_)
    obtain ⟨v4, rfl⟩ : ∃ y, y = x := ⟨x, rfl⟩
    have hW : Stw ⟨Y, X, w0⟩ [(q_p0, [v4])] [row v4 9 Rp.str x5] w := hW
    refine ls_nil ?_
    have H := Option.some.inj H
    subst H
    refine post0 (.inr rfl) hF rfl ?_
    exact ⟨(v4), rfl, hW⟩
  ·
    have H := iteF (of_decide_eq_false hb) H
    rw [hb] at hF
    clear hb
    refine wp_skip ?_
    have H := Option.some.inj H
    subst H
    refine post0 (.inr rfl) hF rfl ?_
    exact ⟨(v2), rfl, hW⟩

theorem H34 : Has Try.prog 34 := ⟨fun args w => run_callFunc_body Try.func34 rfl (by decide) args w⟩
noncomputable def heap_Queue_string_Drain_l1 (p1 : List UInt8) : (List (List UInt8) × List (List UInt8)) → Option ((List (List UInt8) × List (List UInt8)) ⊕ (List (List UInt8) × List (List UInt8)))
  | (x1, x2) => (heap_Queue_string_Peek x2).bind fun x3 => (if (!x3.2 || (cmp_Less_string p1 x3.1)) = true then some (.inr (x1, x2)) else (app x1 ([x3.1] : List (List UInt8))).bind fun x4 => (heap_Queue_string_remove x2 0).bind fun x5 => some (.inl (x4, x5)))
noncomputable def heap_Queue_string_Drain (p0 : List (List UInt8)) (p1 : List UInt8) : Option (List (List UInt8) × List (List UInt8)) := loopW (heap_Queue_string_Drain_l1 p1) ([], p0)
theorem heap_Queue_string_Drain_c (Y : Nat → Prop) (X : List Nat) (w0 : World) (q_p0 : Nat) (v1 : Value) (p0 : List (List UInt8)) (p1 : List UInt8) (r : List (List UInt8) × List (List UInt8)) (H : heap_Queue_string_Drain p0 p1 = some r) (hL : Stw ⟨Y, X, w0⟩ [(q_p0, [v1])] [row v1 9 Rp.str p0] w0) :
    Calls Try.prog 21 #[.pointer (some ⟨q_p0, 0, none⟩), .string (bs p1)] w0 fun e w' => ∃ x : Value × Value, e = .returned (x.1) ∧ Stw ⟨Y, X, w0⟩ [(q_p0, [x.2])] [row (x.2) 9 Rp.str r.2, row (x.1) 9 Rp.str r.1] w' := by
  refine enter Try.func21 rfl Try.ntmps21 rfl (fun a hF => ?_)
  have hW := hL
  unfold heap_Queue_string_Drain at H
  refine c_seq ?_
  refine reg_list ?_
  refine ls hF hW rfl ((y_assign hF rfl).q) (fun a w hF hW => ?_)
  refine ls_nil ?_
  refine c_then ?_
  refine c_seq ?_
  refine reg_list ?_
  refine ls hF hW rfl ((y_assign hF rfl).q) (fun a w hF hW => ?_)
  refine ls_nil ?_
  refine c_then ?_
  refine wp_block ?_
  have hW := hW.nilRow 9 Rp.str
  have hW := hW.frontZ (i := 1) rfl rfl
  have hW := hW.frontZ (i := 1) rfl rfl
  refine c_loopW H (fun s a w => ∃ v2 : Value, ∃ v3 : Value, Fr 27 [] [(0, .pointer (some ⟨q_p0, 0, none⟩)), (1, .string (bs p1)), (4, .slice none 0 0), (5, v2)] a ∧ Stw ⟨Y, X, w0⟩ [(q_p0, [v3])] [row v2 9 Rp.str s.1, row v3 9 Rp.str s.2] w) ⟨(Value.slice none 0 0), (v1), hF.re ⟨rfl, rfl, rfl, rfl, trivial⟩, hW⟩ (fun s o a w H L1 hR => ?_)
  obtain ⟨x1, x2⟩ := s
  obtain ⟨v2, v3, hF, hW⟩ := hR
  have hF : Fr 27 [] [(0, .pointer (some ⟨q_p0, 0, none⟩)), (1, .string (bs p1)), (4, .slice none 0 0), (5, v2)] a := hF
  have hW : Stw ⟨Y, X, w0⟩ [(q_p0, [v3])] [row v2 9 Rp.str x1, row v3 9 Rp.str x2] w := hW
  rw [heap_Queue_string_Drain_l1] at H
  refine wp_block ?_
  refine c_seq ?_
  refine reg_list ?_
  refine ls hF hW rfl ((y_move hF rfl).q) (fun a w hF hW => ?_)
  obtain ⟨x3, h1, H⟩ := bindE H
  refine ls hF hW rfl (y_call (v := Value.tuple #[.string (bs x3.1), .bool x3.2]) hF H32 rfl (fun w hW => heap_Queue_string_Peek_c any w q_p0 (v3) x2 _ h1 (((rdc_row 1 rfl) : Rdc _ _ _ _ _ _) w hW).nx (at_M hW 0 rfl))) (fun a w hF hW => ?_)
  refine ls hF hW rfl ((y_move hF rfl).q) (fun a w hF hW => ?_)
  refine ls hF hW rfl ((y_extract (v := Value.string (bs x3.1)) hF rfl rfl).q) (fun a w hF hW => ?_)
  refine ls hF hW rfl ((y_extract (v := Value.bool x3.2) hF rfl rfl).q) (fun a w hF hW => ?_)
  refine ls hF hW rfl ((y_assign hF rfl).q) (fun a w hF hW => ?_)
  refine ls hF hW rfl ((y_assign hF rfl).q) (fun a w hF hW => ?_)
  refine ls_nil ?_
  refine c_then ?_
  refine c_seq ?_
  refine c_seqJ (fun a w => Fr 27 [] [(0, .pointer (some ⟨q_p0, 0, none⟩)), (1, .string (bs p1)), (4, .slice none 0 0), (5, v2), (6, .string (bs x3.1)), (19, .bool (!x3.2 || (cmp_Less_string p1 x3.1)))] a ∧ Stw ⟨Y, X, w0⟩ [(q_p0, [v3])] [row v2 9 Rp.str x1, row v3 9 Rp.str x2] w) ?_ ?_
  ·
    refine reg_list ?_
    refine ls hF hW rfl ((y_move hF rfl).q) (fun a w hF hW => ?_)
    refine ls hF hW rfl ((y_not hF rfl).q) (fun a w hF hW => ?_)
    refine ls hF hW rfl ((y_move hF rfl).q) (fun a w hF hW => ?_)
    rcases Bool.eq_false_or_eq_true (!x3.2) with hb0 | hb0
    ·
      rw [hb0] at hF
      refine ls_skip hF (wanted_n hF rfl rfl rfl rfl rfl) rfl rfl (fun a hF => ?_)
      refine ls_skip hF (wanted_n hF rfl rfl rfl rfl rfl) rfl rfl (fun a hF => ?_)
      refine ls_skip hF (wanted_n hF rfl rfl rfl rfl rfl) rfl rfl (fun a hF => ?_)
      refine ls hF hW rfl ((y_pick_t hF rfl rfl rfl).q) (fun a w hF hW => ?_)
      refine ls_nil ?_
      refine c_then ?_
      exact ⟨hF.re ⟨rfl, rfl, rfl, rfl, rfl, (by show some (Value.bool true) = some (Value.bool (!x3.2 || (cmp_Less_string p1 x3.1))); try rw [hb0]; all_goals simp only [Bool.not_true, Bool.not_false, Bool.true_and, Bool.false_and, Bool.true_or, Bool.false_or, Bool.and_true, Bool.or_false, cond_true, cond_false]), trivial⟩, hW⟩
    ·
      rw [hb0] at hF
      refine ls_w hF hW (wanted_y hF rfl rfl rfl rfl) rfl (Nat.le_of_ble_eq_true rfl) ((y_move hF rfl).q) (fun a w hF hW => ?_)
      refine ls_w hF hW (wanted_y hF rfl rfl rfl rfl) rfl (Nat.le_of_ble_eq_true rfl) ((y_move hF rfl).q) (fun a w hF hW => ?_)
      refine ls_g (wanted_y hF rfl rfl rfl rfl) ?_
      refine ls hF hW rfl (y_call (v := Value.bool (cmp_Less_string p1 x3.1)) hF H33 rfl (fun w hW => cmp_Less_string_c any w p1 x3.1 _ rfl)) (fun a w hF hW => ?_)
      refine ls hF hW rfl ((y_pick_f hF rfl rfl rfl).q) (fun a w hF hW => ?_)
      refine ls_nil ?_
      refine c_then ?_
      exact ⟨hF.re ⟨rfl, rfl, rfl, rfl, rfl, (by show some (Value.bool (cmp_Less_string p1 x3.1)) = some (Value.bool (!x3.2 || (cmp_Less_string p1 x3.1))); try rw [hb0]; all_goals simp only [Bool.not_true, Bool.not_false, Bool.true_and, Bool.false_and, Bool.true_or, Bool.false_or, Bool.and_true, Bool.or_false, cond_true, cond_false]), trivial⟩, hW⟩
  rintro a w ⟨hF, hW⟩
  refine c_cond hF rfl (fun hb => ?_) (fun hb => ?_)
  ·
    have H := iteT hb H
    rw [hb] at hF
    clear hb
    refine c_seq ?_
    refine reg_list ?_
    refine ls hF hW rfl ((y_move hF rfl).q) (fun a w hF hW => ?_)
    refine ls hF hW rfl ((y_assign hF rfl).q) (fun a w hF hW => ?_)
    refine ls_nil ?_
    refine c_then ?_
    refine wp_ret ?_
    refine r_then ?_
    refine r_block ?_
    refine r_then ?_
    refine r_block ?_
    have H := L1 _ H
    have H := Option.some.inj H
    subst H
    refine post1 (.inl rfl) hF hW rfl (rv_tmp hF rfl) ?_
    have hW := hW.frontZ (i := 1) rfl rfl
    exact ⟨((v2), (v3)), rfl, hW⟩
  ·
    have H := iteF (by rw [hb]; decide) H
    rw [hb] at hF
    clear hb
    refine wp_skip ?_
    refine c_then ?_
    refine c_seq ?_
    refine reg_list ?_
    refine ls hF hW rfl ((y_move hF rfl).q) (fun a w hF hW => ?_)
    refine ls hF hW rfl ((y_move hF rfl).q) (fun a w hF hW => ?_)
    refine l_lit (z := Value.string (bs ([] : List UInt8))) (cs := [.string (bs x3.1)]) Rp.str ([x3.1] : List (List UInt8)) hF hW rfl L45 Z9 rfl rfl rfl rfl rfl rfl (Fl.str.repL _ _ ([x3.1] : List (List UInt8))) (fun v4 a w hF hW => ?_)
    obtain ⟨x4, h2, H⟩ := bindE H
    refine l_append (r := Rp.str) (i := 1) hF hW rfl L45 rfl rfl rfl rfl (src_row hW 0 rfl) h2 rfl (fun v5 a w hF hW => ?_)
    have hW : Stw ⟨Y, X, w0⟩ [(q_p0, [v3])] [row v5 9 Rp.str x4, row v4 9 Rp.str ([x3.1] : List (List UInt8)), row v3 9 Rp.str x2] w := hW
    refine ls hF hW rfl ((y_assign hF rfl).q) (fun a w hF hW => ?_)
    refine ls_nil ?_
    refine c_then ?_
    refine reg_list ?_
    refine ls hF hW rfl ((y_move hF rfl).q) (fun a w hF hW => ?_)
    obtain ⟨x5, h3, H⟩ := bindE H
    have hW := hW.frontZ (i := 2) rfl rfl
    refine l_callG (Ml := [(q_p0, [v3])]) (Zl := [row v3 9 Rp.str x2]) (M := []) (Z := [row v5 9 Rp.str x4, row v4 9 Rp.str ([x3.1] : List (List UInt8))]) (β := Value) (rv := fun x => .tuple #[]) (MM := fun x => [(q_p0, [x])]) (ZZ := fun x => [row x 9 Rp.str x5]) hF hW H34 rfl rfl (fun hL => heap_Queue_string_remove_c _ _ w q_p0 (v3) x2 0 _ h3 hL) (fun x a w hF hW => ?_)
    obtain ⟨v6, rfl⟩ : ∃ y, y = x := ⟨x, rfl⟩
    have hW : Stw ⟨Y, X, w0⟩ [(q_p0, [v6])] [row v6 9 Rp.str x5, row v5 9 Rp.str x4, row v4 9 Rp.str ([x3.1] : List (List UInt8))] w := hW
    refine ls_nil ?_
    refine b_normal ?_
    refine c_then ?_
    have hW := hW.frontZ (i := 1) rfl rfl
    have hW := hW.sub (M' := [(q_p0, [v6])]) (Z' := [row v5 9 Rp.str x4, row v6 9 Rp.str x5]) (List.Sublist.refl _) (List.Sublist.cons_cons _ (List.Sublist.cons_cons _ (List.nil_sublist _)))
    exact ⟨_, H, (v5), (v6), hF.re ⟨rfl, rfl, rfl, rfl, trivial⟩, hW⟩

theorem H21 : Has Try.prog 21 := ⟨fun args w => run_callFunc_body Try.func21 rfl (by decide) args w⟩
def heap_Queue_string_Push_2 (p1 : List UInt8) : Unit := ()
theorem heap_Queue_string_Push_2_c (Y : Nat → Prop) (w0 : World)  (p1 : List UInt8) (r : Unit) (H : heap_Queue_string_Push_2 p1 = r)  :
    Calls Try.prog 20 #[.pointer none, .string (bs p1)] w0 fun e w' => e = .returned (.tuple #[]) ∧ Below w0.heap.size w0 w' := by
  refine enter Try.func20 rfl Try.ntmps20 rfl (fun a hF => ?_)
  have hW := Stw.start Y w0
  unfold heap_Queue_string_Push_2 at H
  refine c_seq ?_
  refine c_seq ?_
  refine reg_list ?_
  refine ls hF hW rfl ((y_move hF rfl).q) (fun a w hF hW => ?_)
  refine ls hF hW rfl ((y_peq_nil_nil Try.underlying46 hF rfl rfl).q) (fun a w hF hW => ?_)
  refine ls_nil ?_
  refine c_then ?_
  refine c_cond_t hF rfl ?_
  refine wp_ret ?_
  refine r_then ?_
  subst H
  refine post0 (.inl rfl) hF rfl ?_
  exact ⟨rfl, hW.done⟩

def heap_Queue_string_Len_2  : Unit := ()
theorem heap_Queue_string_Len_2_c (Y : Nat → Prop) (w0 : World)   (r : Unit) (H : heap_Queue_string_Len_2  = r)  :
    Calls Try.prog 23 #[.pointer none] w0 fun e w' => e = .returned (.int .i64 0) ∧ Below w0.heap.size w0 w' := by
  refine enter Try.func23 rfl Try.ntmps23 rfl (fun a hF => ?_)
  have hW := Stw.start Y w0
  unfold heap_Queue_string_Len_2 at H
  refine c_seq ?_
  refine reg_list ?_
  refine ls hF hW rfl ((y_assign hF rfl).q) (fun a w hF hW => ?_)
  refine ls_nil ?_
  refine c_then ?_
  refine c_seq ?_
  refine c_seq ?_
  refine reg_list ?_
  refine ls hF hW rfl ((y_move hF rfl).q) (fun a w hF hW => ?_)
  refine ls hF hW rfl ((y_peq_nil_nil Try.underlying46 hF rfl rfl).q) (fun a w hF hW => ?_)
  refine ls_nil ?_
  refine c_then ?_
  refine c_cond_t hF rfl ?_
  refine c_seq ?_
  refine reg_list ?_
  refine ls hF hW rfl ((y_assign hF rfl).q) (fun a w hF hW => ?_)
  refine ls_nil ?_
  refine c_then ?_
  refine wp_ret ?_
  refine r_then ?_
  subst H
  refine post1 (.inl rfl) hF hW rfl (rv_tmp hF rfl) ?_
  exact ⟨rfl, hW.done⟩

def heap_Queue_string_Peek_2  : Unit := ()
theorem heap_Queue_string_Peek_2_c (Y : Nat → Prop) (w0 : World)   (r : Unit) (H : heap_Queue_string_Peek_2  = r)  :
    Calls Try.prog 32 #[.pointer none] w0 fun e w' => e = .returned (.tuple #[.string (bs ([] : List UInt8)), .bool false]) ∧ Below w0.heap.size w0 w' := by
  refine enter Try.func32 rfl Try.ntmps32 rfl (fun a hF => ?_)
  have hW := Stw.start Y w0
  unfold heap_Queue_string_Peek_2 at H
  refine c_seq ?_
  refine reg_list ?_
  refine ls hF hW rfl ((y_assign (v := Value.string (bs ([] : List UInt8))) hF rfl).q) (fun a w hF hW => ?_)
  refine ls hF hW rfl ((y_assign hF rfl).q) (fun a w hF hW => ?_)
  refine ls_nil ?_
  refine c_then ?_
  refine c_seq ?_
  refine c_seq ?_
  refine reg_list ?_
  refine ls hF hW rfl ((y_move hF rfl).q) (fun a w hF hW => ?_)
  refine ls hF hW rfl (y_call (v := Value.int .i64 0) hF H23 rfl (fun w hW => heap_Queue_string_Len_2_c any w _ rfl)) (fun a w hF hW => ?_)
  refine ls hF hW rfl ((y_eql hF rfl rfl).q) (fun a w hF hW => ?_)
  rw [show decide ((0 : Int) = 0) = true from by decide] at hF
  refine ls_nil ?_
  refine c_then ?_
  refine c_cond_t hF rfl ?_
  refine c_seq ?_
  refine reg_list ?_
  refine ls hF hW rfl ((y_assign (v := Value.string (bs ([] : List UInt8))) hF rfl).q) (fun a w hF hW => ?_)
  refine ls_nil ?_
  refine c_then ?_
  refine c_seq ?_
  refine reg_list ?_
  refine ls hF hW rfl ((y_move hF rfl).q) (fun a w hF hW => ?_)
  refine ls hF hW rfl ((y_assign hF rfl).q) (fun a w hF hW => ?_)
  refine ls hF hW rfl ((y_assign hF rfl).q) (fun a w hF hW => ?_)
  refine ls_nil ?_
  refine c_then ?_
  refine wp_ret ?_
  refine r_then ?_
  subst H
  refine post2 (.inl rfl) hF hW rfl (rv_tmp hF rfl) (rv_tmp hF rfl) ?_
  exact ⟨rfl, hW.done⟩

def heap_Queue_string_Pop  : Unit := ()
theorem heap_Queue_string_Pop_c (Y : Nat → Prop) (w0 : World)   (r : Unit) (H : heap_Queue_string_Pop  = r)  :
    Calls Try.prog 22 #[.pointer none] w0 fun e w' => e = .returned (.tuple #[.string (bs ([] : List UInt8)), .bool false]) ∧ Below w0.heap.size w0 w' := by
  refine enter Try.func22 rfl Try.ntmps22 rfl (fun a hF => ?_)
  have hW := Stw.start Y w0
  unfold heap_Queue_string_Pop at H
  refine c_seq ?_
  refine reg_list ?_
  refine ls hF hW rfl ((y_assign (v := Value.string (bs ([] : List UInt8))) hF rfl).q) (fun a w hF hW => ?_)
  refine ls hF hW rfl ((y_assign hF rfl).q) (fun a w hF hW => ?_)
  refine ls_nil ?_
  refine c_then ?_
  refine c_seq ?_
  refine reg_list ?_
  refine ls hF hW rfl ((y_move hF rfl).q) (fun a w hF hW => ?_)
  refine ls hF hW rfl (y_call (v := Value.tuple #[.string (bs ([] : List UInt8)), .bool false]) hF H32 rfl (fun w hW => heap_Queue_string_Peek_2_c any w _ rfl)) (fun a w hF hW => ?_)
  refine ls hF hW rfl ((y_move hF rfl).q) (fun a w hF hW => ?_)
  refine ls hF hW rfl ((y_extract (v := Value.string (bs ([] : List UInt8))) hF rfl rfl).q) (fun a w hF hW => ?_)
  refine ls hF hW rfl ((y_extract (v := Value.bool false) hF rfl rfl).q) (fun a w hF hW => ?_)
  refine ls hF hW rfl ((y_assign hF rfl).q) (fun a w hF hW => ?_)
  refine ls hF hW rfl ((y_assign hF rfl).q) (fun a w hF hW => ?_)
  refine ls_nil ?_
  refine c_then ?_
  refine c_seq ?_
  refine c_seq ?_
  refine reg_list ?_
  refine ls hF hW rfl ((y_move hF rfl).q) (fun a w hF hW => ?_)
  refine ls_nil ?_
  refine c_then ?_
  refine c_cond_f hF rfl ?_
  refine wp_skip ?_
  refine c_then ?_
  refine c_seq ?_
  refine reg_list ?_
  refine ls hF hW rfl ((y_move hF rfl).q) (fun a w hF hW => ?_)
  refine ls hF hW rfl ((y_move hF rfl).q) (fun a w hF hW => ?_)
  refine ls hF hW rfl ((y_assign hF rfl).q) (fun a w hF hW => ?_)
  refine ls hF hW rfl ((y_assign hF rfl).q) (fun a w hF hW => ?_)
  refine ls_nil ?_
  refine c_then ?_
  refine wp_ret ?_
  subst H
  refine post2 (.inl rfl) hF hW rfl (rv_tmp hF rfl) (rv_tmp hF rfl) ?_
  exact ⟨rfl, hW.done⟩

theorem H22 : Has Try.prog 22 := ⟨fun args w => run_callFunc_body Try.func22 rfl (by decide) args w⟩
def heap_Queue_string_Drop (p1 : List UInt8) : Unit := ()
theorem heap_Queue_string_Drop_c (Y : Nat → Prop) (w0 : World)  (p1 : List UInt8) (r : Unit) (H : heap_Queue_string_Drop p1 = r)  :
    Calls Try.prog 24 #[.pointer none, .string (bs p1)] w0 fun e w' => e = .returned (.bool false) ∧ Below w0.heap.size w0 w' := by
  refine enter Try.func24 rfl Try.ntmps24 rfl (fun a hF => ?_)
  have hW := Stw.start Y w0
  unfold heap_Queue_string_Drop at H
  refine c_seq ?_
  refine reg_list ?_
  refine l_box (cs := [.string (bs p1)]) hF hW rfl rfl rfl (fun b1 a w hF hW => ?_)
  refine ls hF hW rfl ((y_assign hF rfl).q) (fun a w hF hW => ?_)
  refine ls_nil ?_
  refine c_then ?_
  refine c_seq ?_
  refine c_seq ?_
  refine reg_list ?_
  refine ls hF hW rfl ((y_move hF rfl).q) (fun a w hF hW => ?_)
  refine ls hF hW rfl ((y_peq_nil_nil Try.underlying46 hF rfl rfl).q) (fun a w hF hW => ?_)
  refine ls_nil ?_
  refine c_then ?_
  refine c_cond_t hF rfl ?_
  refine c_seq ?_
  refine reg_list ?_
  refine ls hF hW rfl ((y_assign hF rfl).q) (fun a w hF hW => ?_)
  refine ls_nil ?_
  refine c_then ?_
  refine wp_ret ?_
  refine r_then ?_
  subst H
  refine post1 (.inl rfl) hF hW rfl (rv_tmp hF rfl) ?_
  exact ⟨rfl, hW.done⟩

theorem H24 : Has Try.prog 24 := ⟨fun args w => run_callFunc_body Try.func24 rfl (by decide) args w⟩
noncomputable def heap_Queue_string_Drain_2_l1  : Unit → Option (Unit ⊕ Unit)
  | _ => some (.inr ())
noncomputable def heap_Queue_string_Drain_2 (p1 : List UInt8) : Option Unit := loopW (heap_Queue_string_Drain_2_l1) ()
theorem heap_Queue_string_Drain_2_c (Y : Nat → Prop) (w0 : World)  (p1 : List UInt8) (r : Unit) (H : heap_Queue_string_Drain_2 p1 = some r)  :
    Calls Try.prog 21 #[.pointer none, .string (bs p1)] w0 fun e w' => e = .returned (.slice none 0 0) ∧ Below w0.heap.size w0 w' := by
  refine enter Try.func21 rfl Try.ntmps21 rfl (fun a hF => ?_)
  have hW := Stw.start Y w0
  unfold heap_Queue_string_Drain_2 at H
  refine c_seq ?_
  refine reg_list ?_
  refine ls hF hW rfl ((y_assign hF rfl).q) (fun a w hF hW => ?_)
  refine ls_nil ?_
  refine c_then ?_
  refine c_seq ?_
  refine reg_list ?_
  refine ls hF hW rfl ((y_assign hF rfl).q) (fun a w hF hW => ?_)
  refine ls_nil ?_
  refine c_then ?_
  refine wp_block ?_
  refine c_loopW H (fun s a w => Fr 27 [] [(0, .pointer none), (1, .string (bs p1)), (4, .slice none 0 0), (5, .slice none 0 0)] a ∧ Stw ⟨Y, [], w0⟩ [] [] w) ⟨hF.re ⟨rfl, rfl, rfl, rfl, trivial⟩, hW⟩ (fun s o a w H L1 hR => ?_)
  obtain ⟨hF, hW⟩ := hR
  have hF : Fr 27 [] [(0, .pointer none), (1, .string (bs p1)), (4, .slice none 0 0), (5, .slice none 0 0)] a := hF
  have hW : Stw ⟨Y, [], w0⟩ [] [] w := hW
  rw [heap_Queue_string_Drain_2_l1] at H
  refine wp_block ?_
  refine c_seq ?_
  refine reg_list ?_
  refine ls hF hW rfl ((y_move hF rfl).q) (fun a w hF hW => ?_)
  refine ls hF hW rfl (y_call (v := Value.tuple #[.string (bs ([] : List UInt8)), .bool false]) hF H32 rfl (fun w hW => heap_Queue_string_Peek_2_c any w _ rfl)) (fun a w hF hW => ?_)
  refine ls hF hW rfl ((y_move hF rfl).q) (fun a w hF hW => ?_)
  refine ls hF hW rfl ((y_extract (v := Value.string (bs ([] : List UInt8))) hF rfl rfl).q) (fun a w hF hW => ?_)
  refine ls hF hW rfl ((y_extract (v := Value.bool false) hF rfl rfl).q) (fun a w hF hW => ?_)
  refine ls hF hW rfl ((y_assign hF rfl).q) (fun a w hF hW => ?_)
  refine ls hF hW rfl ((y_assign hF rfl).q) (fun a w hF hW => ?_)
  refine ls_nil ?_
  refine c_then ?_
  refine c_seq ?_
  refine c_seq ?_
  refine reg_list ?_
  refine ls hF hW rfl ((y_move hF rfl).q) (fun a w hF hW => ?_)
  refine ls hF hW rfl ((y_not hF rfl).q) (fun a w hF hW => ?_)
  refine ls hF hW rfl ((y_move hF rfl).q) (fun a w hF hW => ?_)
  refine ls_skip hF (wanted_n hF rfl rfl rfl rfl rfl) rfl rfl (fun a hF => ?_)
  refine ls_skip hF (wanted_n hF rfl rfl rfl rfl rfl) rfl rfl (fun a hF => ?_)
  refine ls_skip hF (wanted_n hF rfl rfl rfl rfl rfl) rfl rfl (fun a hF => ?_)
  refine ls hF hW rfl ((y_pick_t hF rfl rfl rfl).q) (fun a w hF hW => ?_)
  refine ls_nil ?_
  refine c_then ?_
  refine c_cond_t hF rfl ?_
  refine c_seq ?_
  refine reg_list ?_
  refine ls hF hW rfl ((y_move hF rfl).q) (fun a w hF hW => ?_)
  refine ls hF hW rfl ((y_assign hF rfl).q) (fun a w hF hW => ?_)
  refine ls_nil ?_
  refine c_then ?_
  refine wp_ret ?_
  refine r_then ?_
  refine r_block ?_
  refine r_then ?_
  refine r_block ?_
  have H := L1 _ H
  have H := Option.some.inj H
  subst H
  refine post1 (.inl rfl) hF hW rfl (rv_tmp hF rfl) ?_
  exact ⟨rfl, hW.done⟩

noncomputable def L13_HeapTexts_l1 (p0 : List (List UInt8)) (p1 : List UInt8) : (Int × Int × List (List UInt8)) → Option ((Int × Int × List (List UInt8)) ⊕ ((Int × List (List UInt8)) ⊕ Bool))
  | (x4, x5, x6) => (if x5 < (p0.length : Int) then orR ((ix p0 x5).bind fun x9 => (if 60 < (x9.length : Int) then (L13_awake).bind fun x10 => some (.inr (.inr (.inr x10))) else (ix p0 x5).bind fun x11 => (heap_Queue_string_Push x6 x11).bind fun x12 => (ix p0 x5).bind fun x13 => (if (ltS x13 p1 || decide (x13 = p1)) = true then some (.inl (w64 (x4 + 1), x12)) else some (.inl (x4, x12))))) fun (x7, x8) => some (.inl (x7, w64 (x5 + 1), x8)) else some (.inr (.inl (x4, x6))))
noncomputable def L13_HeapTexts_l2 (p1 : List UInt8) (x14 : List (List UInt8) × List (List UInt8)) : Int → Option (Int ⊕ (Unit ⊕ Bool))
  | x15 => (if x15 < (x14.1.length : Int) then ((ix x14.1 x15).bind fun x17 => (if (!(ltS x17 p1 || decide (x17 = p1))) = true then some true else (if 0 < x15 then (ix x14.1 x15).bind fun x18 => (ix x14.1 (w64 (x15 - 1))).bind fun x19 => some (ltS x18 x19) else some false))).bind fun x16 => (if x16 = true then some (.inr (.inr false)) else some (.inl (w64 (x15 + 1)))) else some (.inr (.inl ())))
noncomputable def L13_HeapTexts (p0 : List (List UInt8)) (p1 : List UInt8) : Option Bool := (if 40 < (p0.length : Int) then (L13_awake).bind fun x1 => some x1 else orR (loopW (L13_HeapTexts_l1 p0 p1) (0, 0, heap_New_string)) fun (x2, x3) => (heap_Queue_string_Drain x3 p1).bind fun x14 => orR (loopW (L13_HeapTexts_l2 p1 x14) 0) fun _ => (if (x14.1.length : Int) = x2 then (if (heap_Queue_string_Len x14.2) = (w64 ((p0.length : Int) - x2)) then (if ([] : List UInt8) = ([] : List UInt8) then (heap_Queue_string_Drain_2 p1).bind fun x21 => (if (([] : List (List UInt8)).length : Int) = 0 then (L13_awake).bind fun x22 => some x22 else some false) else some false) else some false) else some false).bind fun x20 => some x20)
theorem L13_HeapTexts_c (Y : Nat → Prop) (w0 : World) (v1 : Value) (p0 : List (List UInt8)) (p1 : List UInt8) (r : Bool) (H : L13_HeapTexts p0 p1 = some r) (h_v1 : Sl w0 (NX []) Rp.str v1 p0) :
    Calls Try.prog 5 #[v1, .string (bs p1)] w0 fun e w' => e = .returned (.bool r) ∧ Below w0.heap.size w0 w' := by
  refine enter Try.func5 rfl Try.ntmps5 rfl (fun a hF => ?_)
  have hW := Stw.start Y w0
  unfold L13_HeapTexts at H
  refine c_seq ?_
  refine reg_list ?_
  refine ls hF hW rfl ((y_assign hF rfl).q) (fun a w hF hW => ?_)
  refine ls_nil ?_
  refine c_then ?_
  refine c_seq ?_
  refine c_seq ?_
  refine reg_list ?_
  refine ls hF hW rfl ((y_move hF rfl).q) (fun a w hF hW => ?_)
  refine ls hF hW rfl ((y_len (r := Rp.str) (l := p0) Try.underlying45 rfl hF rfl (rdc_ro h_v1)).q) (fun a w hF hW => ?_)
  refine ls hF hW rfl ((y_gtr hF rfl rfl).q) (fun a w hF hW => ?_)
  refine ls_nil ?_
  refine c_then ?_
  refine c_cond hF rfl (fun hb => ?_) (fun hb => ?_)
  ·
    have H := iteT (of_decide_eq_true hb) H
    rw [hb] at hF
    clear hb
    refine c_seq ?_
    refine reg_list ?_
    obtain ⟨x1, h1, H⟩ := bindE H
    refine ls hF hW rfl (y_call (v := Value.bool x1) hF H18 rfl (fun w hW => L13_awake_c any w _ h1)) (fun a w hF hW => ?_)
    refine ls hF hW rfl ((y_assign hF rfl).q) (fun a w hF hW => ?_)
    refine ls_nil ?_
    refine c_then ?_
    refine wp_ret ?_
    refine r_then ?_
    have H := Option.some.inj H
    subst H
    refine post1 (.inl rfl) hF hW rfl (rv_tmp hF rfl) ?_
    exact ⟨rfl, hW.done⟩
  ·
    have H := iteF (of_decide_eq_false hb) H
    rw [hb] at hF
    clear hb
    refine wp_skip ?_
    refine c_then ?_
    refine c_seq ?_
    refine reg_list ?_
    refine l_callG (Ml := []) (Zl := []) (M := []) (Z := []) (β := Nat × Value) (rv := fun x => .pointer (some ⟨x.1, 0, none⟩)) (MM := fun x => [(x.1, [x.2])]) (ZZ := fun x => [row x.2 9 Rp.str heap_New_string]) hF hW H19 rfl rfl (fun hL => heap_New_string_c _ w _ rfl) (fun x a w hF hW => ?_)
    obtain ⟨b1, v2⟩ := x
    have hW : Stw ⟨Y, [], w0⟩ [(b1, [v2])] [row v2 9 Rp.str heap_New_string] w := hW
    refine ls hF hW rfl ((y_assign hF rfl).q) (fun a w hF hW => ?_)
    refine ls_nil ?_
    refine c_then ?_
    refine c_seq ?_
    refine reg_list ?_
    refine ls hF hW rfl ((y_assign hF rfl).q) (fun a w hF hW => ?_)
    refine ls_nil ?_
    refine c_then ?_
    obtain ⟨o1, G1, K1, L1⟩ := orE H
    refine c_seqJ (fun a w => ∃ x2 : Int, ∃ x3 : List (List UInt8), ∃ v3 : Value, some (Sum.inl (x2, x3)) = some o1 ∧ Fr 126 [] [(0, v1), (1, .string (bs p1)), (4, .bool false), (5, .pointer (some ⟨b1, 0, none⟩)), (6, .int .i64 x2)] a ∧ Stw ⟨Y, [], w0⟩ [(b1, [v3])] [row v3 9 Rp.str x3] w) ?_ ?_
    ·
      have H := G1
      clear G1 K1
      refine c_seq ?_
      refine reg_list ?_
      refine ls hF hW rfl ((y_assign hF rfl).q) (fun a w hF hW => ?_)
      refine ls_nil ?_
      refine c_then ?_
      refine wp_block ?_
      refine c_loopW H (fun s a w => ∃ v4 : Value, Fr 126 [] [(0, v1), (1, .string (bs p1)), (4, .bool false), (5, .pointer (some ⟨b1, 0, none⟩)), (6, .int .i64 s.1), (7, .int .i64 s.2.1)] a ∧ Stw ⟨Y, [], w0⟩ [(b1, [v4])] [row v4 9 Rp.str s.2.2] w) ⟨(v2), hF.re ⟨rfl, rfl, rfl, rfl, rfl, rfl, trivial⟩, hW⟩ (fun s o a w H L2 hR => ?_)
      obtain ⟨x4, x5, x6⟩ := s
      obtain ⟨v4, hF, hW⟩ := hR
      have hF : Fr 126 [] [(0, v1), (1, .string (bs p1)), (4, .bool false), (5, .pointer (some ⟨b1, 0, none⟩)), (6, .int .i64 x4), (7, .int .i64 x5)] a := hF
      have hW : Stw ⟨Y, [], w0⟩ [(b1, [v4])] [row v4 9 Rp.str x6] w := hW
      rw [L13_HeapTexts_l1] at H
      refine c_seq ?_
      refine c_seq ?_
      refine reg_list ?_
      refine ls hF hW rfl ((y_move hF rfl).q) (fun a w hF hW => ?_)
      refine ls hF hW rfl ((y_move hF rfl).q) (fun a w hF hW => ?_)
      refine ls hF hW rfl ((y_len (r := Rp.str) (l := p0) Try.underlying45 rfl hF rfl (rdc_ro h_v1)).q) (fun a w hF hW => ?_)
      refine ls hF hW rfl ((y_lss hF rfl rfl).q) (fun a w hF hW => ?_)
      refine ls_nil ?_
      refine c_then ?_
      refine c_cond hF rfl (fun hb => ?_) (fun hb => ?_)
      ·
        have H := iteT (of_decide_eq_true hb) H
        rw [hb] at hF
        clear hb
        refine wp_skip ?_
        refine c_then ?_
        obtain ⟨o3, G3, K3, L3⟩ := orE H
        refine c_seqJ (fun a w => ∃ x7 : Int, ∃ x8 : List (List UInt8), ∃ v5 : Value, some (Sum.inl (x7, x8)) = some o3 ∧ Fr 126 [] [(0, v1), (1, .string (bs p1)), (4, .bool false), (5, .pointer (some ⟨b1, 0, none⟩)), (6, .int .i64 x7), (7, .int .i64 x5)] a ∧ Stw ⟨Y, [], w0⟩ [(b1, [v5])] [row v5 9 Rp.str x8] w) ?_ ?_
        ·
          have H := G3
          clear G3 K3
          refine wp_block ?_
          refine c_seq ?_
          refine c_seq ?_
          refine reg_list ?_
          refine ls hF hW rfl ((y_move hF rfl).q) (fun a w hF hW => ?_)
          refine ls hF hW rfl ((y_move hF rfl).q) (fun a w hF hW => ?_)
          obtain ⟨x9, h2, H⟩ := bindE H
          refine ls hF hW rfl ((y_index (r := Rp.str) L45 hF rfl rfl (rdc_ro h_v1) h2).q) (fun a w hF hW => ?_)
          refine ls hF hW rfl ((y_load_el (y := Value.string (bs x9)) (j := 0) (i := x5) hF rfl rfl (rdc_ro h_v1) h2 Fl.str.to T9 rfl).q) (fun a w hF hW => ?_)
          refine ls hF hW rfl ((y_slen (l := x9) Try.underlying9 rfl hF rfl).q) (fun a w hF hW => ?_)
          refine ls hF hW rfl ((y_gtr hF rfl rfl).q) (fun a w hF hW => ?_)
          refine ls_nil ?_
          refine c_then ?_
          refine c_cond hF rfl (fun hb => ?_) (fun hb => ?_)
          ·
            have H := iteT (of_decide_eq_true hb) H
            rw [hb] at hF
            clear hb
            refine c_seq ?_
            refine reg_list ?_
            obtain ⟨x10, h3, H⟩ := bindE H
            refine ls hF hW rfl (y_call (v := Value.bool x10) hF H18 rfl (fun w hW => L13_awake_c any w _ h3)) (fun a w hF hW => ?_)
            refine ls hF hW rfl ((y_assign hF rfl).q) (fun a w hF hW => ?_)
            refine ls_nil ?_
            refine c_then ?_
            refine wp_ret ?_
            refine r_then ?_
            refine r_block ?_
            refine r_then ?_
            refine r_then ?_
            refine r_block ?_
            refine r_then ?_
            have H := L3 _ H
            have H := L2 _ H
            have H := L1 _ H
            have H := Option.some.inj H
            subst H
            refine post1 (.inl rfl) hF hW rfl (rv_tmp hF rfl) ?_
            exact ⟨rfl, hW.done⟩
          ·
            have H := iteF (of_decide_eq_false hb) H
            rw [hb] at hF
            clear hb
            refine wp_skip ?_
            refine c_then ?_
            refine c_seq ?_
            refine reg_list ?_
            refine ls hF hW rfl ((y_move hF rfl).q) (fun a w hF hW => ?_)
            refine ls hF hW rfl ((y_move hF rfl).q) (fun a w hF hW => ?_)
            refine ls hF hW rfl ((y_move hF rfl).q) (fun a w hF hW => ?_)
            obtain ⟨x11, h4, H⟩ := bindE H
            refine ls hF hW rfl ((y_index (r := Rp.str) L45 hF rfl rfl (rdc_ro h_v1) h4).q) (fun a w hF hW => ?_)
            refine ls hF hW rfl ((y_load_el (y := Value.string (bs x11)) (j := 0) (i := x5) hF rfl rfl (rdc_ro h_v1) h4 Fl.str.to T9 rfl).q) (fun a w hF hW => ?_)
            obtain ⟨x12, h5, H⟩ := bindE H
            refine l_callG (Ml := [(b1, [v4])]) (Zl := [row v4 9 Rp.str x6]) (M := []) (Z := []) (β := Value) (rv := fun x => .tuple #[]) (MM := fun x => [(b1, [x])]) (ZZ := fun x => [row x 9 Rp.str x12]) hF hW H20 rfl rfl (fun hL => heap_Queue_string_Push_c _ _ w b1 (v4) x6 x11 _ h5 hL) (fun x a w hF hW => ?_)
            obtain ⟨v6, rfl⟩ : ∃ y, y = x := ⟨x, rfl⟩
            have hW : Stw ⟨Y, [], w0⟩ [(b1, [v6])] [row v6 9 Rp.str x12] w := hW
            refine ls_nil ?_
            refine c_then ?_
            refine c_seq ?_
            refine reg_list ?_
            refine ls hF hW rfl ((y_move hF rfl).q) (fun a w hF hW => ?_)
            refine ls hF hW rfl ((y_move hF rfl).q) (fun a w hF hW => ?_)
            obtain ⟨x13, h6, H⟩ := bindE H
            refine ls hF hW rfl ((y_index (r := Rp.str) L45 hF rfl rfl (rdc_ro h_v1) h6).q) (fun a w hF hW => ?_)
            refine ls hF hW rfl ((y_load_el (y := Value.string (bs x13)) (j := 0) (i := x5) hF rfl rfl (rdc_ro h_v1) h6 Fl.str.to T9 rfl).q) (fun a w hF hW => ?_)
            refine ls hF hW rfl ((y_move hF rfl).q) (fun a w hF hW => ?_)
            refine ls hF hW rfl ((y_sle (l := x13) (m := p1) hF rfl rfl).q) (fun a w hF hW => ?_)
            refine ls_nil ?_
            refine c_then ?_
            refine c_cond hF rfl (fun hb => ?_) (fun hb => ?_)
            ·
              have H := iteT hb H
              rw [hb] at hF
              clear hb
              refine reg_list ?_
              refine ls hF hW rfl ((y_move hF rfl).q) (fun a w hF hW => ?_)
              refine ls hF hW rfl ((y_add hF rfl rfl rfl).q) (fun a w hF hW => ?_)
              refine ls hF hW rfl ((y_assign hF rfl).q) (fun a w hF hW => ?_)
              refine ls_nil ?_
              refine b_normal ?_
              refine c_then ?_
              exact ⟨_, _, (v6), H, hF.re ⟨rfl, rfl, rfl, rfl, rfl, rfl, trivial⟩, hW⟩
            ·
              have H := iteF (by rw [hb]; decide) H
              rw [hb] at hF
              clear hb
              refine wp_skip ?_
              refine b_normal ?_
              refine c_then ?_
              exact ⟨_, _, (v6), H, hF.re ⟨rfl, rfl, rfl, rfl, rfl, rfl, trivial⟩, hW⟩
        rintro a w ⟨x7, x8, v5, hj, hF, hW⟩
        have H := K3 _ hj
        clear hj G3 K3 L3
        refine reg_list ?_
        refine ls hF hW rfl ((y_move hF rfl).q) (fun a w hF hW => ?_)
        refine ls hF hW rfl ((y_add hF rfl rfl rfl).q) (fun a w hF hW => ?_)
        refine ls hF hW rfl ((y_assign hF rfl).q) (fun a w hF hW => ?_)
        refine ls_nil ?_
        refine c_then ?_
        exact ⟨_, H, (v5), hF.re ⟨rfl, rfl, rfl, rfl, rfl, rfl, trivial⟩, hW⟩
      ·
        have H := iteF (of_decide_eq_false hb) H
        rw [hb] at hF
        clear hb
        refine wp_exit ?_
        refine e_then ?_
        refine e_then ?_
        refine e_block ?_
        refine c_then ?_
        have H := L2 _ H
        exact ⟨_, _, (v4), H, hF.re ⟨rfl, rfl, rfl, rfl, rfl, trivial⟩, hW⟩
    rintro a w ⟨x2, x3, v3, hj, hF, hW⟩
    have H := K1 _ hj
    clear hj G1 K1 L1
    refine c_seq ?_
    refine reg_list ?_
    refine ls hF hW rfl ((y_move hF rfl).q) (fun a w hF hW => ?_)
    refine ls hF hW rfl ((y_move hF rfl).q) (fun a w hF hW => ?_)
    obtain ⟨x14, h7, H⟩ := bindE H
    refine l_callG (Ml := [(b1, [v3])]) (Zl := [row v3 9 Rp.str x3]) (M := []) (Z := []) (β := Value × Value) (rv := fun x => x.1) (MM := fun x => [(b1, [x.2])]) (ZZ := fun x => [row x.2 9 Rp.str x14.2, row x.1 9 Rp.str x14.1]) hF hW H21 rfl rfl (fun hL => heap_Queue_string_Drain_c _ _ w b1 (v3) x3 p1 _ h7 hL) (fun x a w hF hW => ?_)
    obtain ⟨v7, v8⟩ := x
    have hW : Stw ⟨Y, [], w0⟩ [(b1, [v8])] [row v8 9 Rp.str x14.2, row v7 9 Rp.str x14.1] w := hW
    refine ls hF hW rfl ((y_assign hF rfl).q) (fun a w hF hW => ?_)
    refine ls_nil ?_
    refine c_then ?_
    obtain ⟨o4, G4, K4, L4⟩ := orE H
    refine c_seqJ (fun a w => some (Sum.inl ()) = some o4 ∧ Fr 126 [] [(0, v1), (1, .string (bs p1)), (4, .bool false), (5, .pointer (some ⟨b1, 0, none⟩)), (6, .int .i64 x2), (8, v7)] a ∧ Stw ⟨Y, [], w0⟩ [(b1, [v8])] [row v7 9 Rp.str x14.1, row v8 9 Rp.str x14.2] w) ?_ ?_
    ·
      have H := G4
      clear G4 K4
      refine c_seq ?_
      refine reg_list ?_
      refine ls hF hW rfl ((y_assign hF rfl).q) (fun a w hF hW => ?_)
      refine ls_nil ?_
      refine c_then ?_
      refine wp_block ?_
      have hW := hW.frontZ (i := 1) rfl rfl
      refine c_loopW H (fun s a w => Fr 126 [] [(0, v1), (1, .string (bs p1)), (4, .bool false), (5, .pointer (some ⟨b1, 0, none⟩)), (6, .int .i64 x2), (8, v7), (9, .int .i64 s)] a ∧ Stw ⟨Y, [], w0⟩ [(b1, [v8])] [row v7 9 Rp.str x14.1, row v8 9 Rp.str x14.2] w) ⟨hF.re ⟨rfl, rfl, rfl, rfl, rfl, rfl, rfl, trivial⟩, hW⟩ (fun s o a w H L5 hR => ?_)
      obtain ⟨x15, rfl⟩ : ∃ x, x = s := ⟨s, rfl⟩
      obtain ⟨hF, hW⟩ := hR
      have hF : Fr 126 [] [(0, v1), (1, .string (bs p1)), (4, .bool false), (5, .pointer (some ⟨b1, 0, none⟩)), (6, .int .i64 x2), (8, v7), (9, .int .i64 x15)] a := hF
      have hW : Stw ⟨Y, [], w0⟩ [(b1, [v8])] [row v7 9 Rp.str x14.1, row v8 9 Rp.str x14.2] w := hW
      rw [L13_HeapTexts_l2] at H
      refine c_seq ?_
      refine c_seq ?_
      refine reg_list ?_
      refine ls hF hW rfl ((y_move hF rfl).q) (fun a w hF hW => ?_)
      refine ls hF hW rfl ((y_move hF rfl).q) (fun a w hF hW => ?_)
      refine ls hF hW rfl ((y_len (r := Rp.str) (l := x14.1) Try.underlying45 rfl hF rfl (rdc_row 0 rfl)).q) (fun a w hF hW => ?_)
      refine ls hF hW rfl ((y_lss hF rfl rfl).q) (fun a w hF hW => ?_)
      refine ls_nil ?_
      refine c_then ?_
      refine c_cond hF rfl (fun hb => ?_) (fun hb => ?_)
      ·
        have H := iteT (of_decide_eq_true hb) H
        rw [hb] at hF
        clear hb
        refine wp_skip ?_
        refine c_then ?_
        refine c_seq ?_
        refine wp_block ?_
        obtain ⟨o6, G6, K6⟩ := bindE H
        refine c_seqJ (fun a w => ∃ x16 : Bool, some (x16) = some o6 ∧ Fr 126 [] [(0, v1), (1, .string (bs p1)), (4, .bool false), (5, .pointer (some ⟨b1, 0, none⟩)), (6, .int .i64 x2), (8, v7), (9, .int .i64 x15), (75, .bool x16)] a ∧ Stw ⟨Y, [], w0⟩ [(b1, [v8])] [row v7 9 Rp.str x14.1, row v8 9 Rp.str x14.2] w) ?_ ?_
        ·
          have H := G6
          clear G6 K6
          refine reg_quiet hW MO (by kernel_rfl) ?_
          refine qs hF rfl ((y_move hF rfl).q) (fun a hF => ?_)
          refine qs hF rfl ((y_move hF rfl).q) (fun a hF => ?_)
          obtain ⟨x17, h8, H⟩ := bindE H
          refine qs hF rfl ((y_index (r := Rp.str) L45 hF rfl rfl (rdc_row 0 rfl) h8).q) (fun a hF => ?_)
          refine qs hF rfl ((y_load_el (y := Value.string (bs x17)) (j := 0) (i := x15) hF rfl rfl (rdc_row 0 rfl) h8 Fl.str.to T9 rfl).q) (fun a hF => ?_)
          refine qs hF rfl ((y_move hF rfl).q) (fun a hF => ?_)
          refine qs hF rfl ((y_sgt (l := x17) (m := p1) hF rfl rfl).q) (fun a hF => ?_)
          refine qs hF rfl ((y_move hF rfl).q) (fun a hF => ?_)
          rcases Bool.eq_false_or_eq_true (!(ltS x17 p1 || decide (x17 = p1))) with hb | hb
          ·
            have H := iteT hb H
            rw [hb] at hF
            clear hb
            refine qs_skip hF (wanted_n hF rfl rfl rfl rfl rfl) rfl rfl (fun a hF => ?_)
            refine qs_skip hF (wanted_n hF rfl rfl rfl rfl rfl) rfl rfl (fun a hF => ?_)
            refine qs_skip hF (wanted_n hF rfl rfl rfl rfl rfl) rfl rfl (fun a hF => ?_)
            refine qs_skip hF (wanted_undef hF rfl rfl rfl rfl) rfl rfl (fun a hF => ?_)
            refine qs_skip hF (wanted_undef hF rfl rfl rfl rfl) rfl rfl (fun a hF => ?_)
            refine qs_skip hF (wanted_undef hF rfl rfl rfl rfl) rfl rfl (fun a hF => ?_)
            refine qs_skip hF (wanted_undef hF rfl rfl rfl rfl) rfl rfl (fun a hF => ?_)
            refine qs_skip hF (wanted_undef hF rfl rfl rfl rfl) rfl rfl (fun a hF => ?_)
            refine qs_skip hF (wanted_undef hF rfl rfl rfl rfl) rfl rfl (fun a hF => ?_)
            refine qs_skip hF (wanted_undef hF rfl rfl rfl rfl) rfl rfl (fun a hF => ?_)
            refine qs_skip hF (wanted_undef hF rfl rfl rfl rfl) rfl rfl (fun a hF => ?_)
            refine qs_skip hF (wanted_undef hF rfl rfl rfl rfl) rfl rfl (fun a hF => ?_)
            refine qs_skip hF (wanted_undef hF rfl rfl rfl rfl) rfl rfl (fun a hF => ?_)
            refine qs_skip hF (wanted_n hF rfl rfl rfl rfl rfl) rfl rfl (fun a hF => ?_)
            refine qs hF rfl ((y_pick_t hF rfl rfl rfl).q) (fun a hF => ?_)
            refine quiet_end (fun w hW => ?_)
            refine c_then ?_
            have hW := hW.frontZ (i := 1) rfl rfl
            have hW := hW.frontZ (i := 1) rfl rfl
            exact ⟨_, H, hF.re ⟨rfl, rfl, rfl, rfl, rfl, rfl, rfl, rfl, trivial⟩, hW⟩
          ·
            have H := iteF (by rw [hb]; decide) H
            rw [hb] at hF
            clear hb
            refine qs_w hF (wanted_y hF rfl rfl rfl rfl) rfl (Nat.le_of_ble_eq_true rfl) ((y_move hF rfl).q) (fun a hF => ?_)
            refine qs_w hF (wanted_y hF rfl rfl rfl rfl) rfl (Nat.le_of_ble_eq_true rfl) ((y_gtr hF rfl rfl).q) (fun a hF => ?_)
            refine qs_w hF (wanted_y hF rfl rfl rfl rfl) rfl (Nat.le_of_ble_eq_true rfl) ((y_move hF rfl).q) (fun a hF => ?_)
            rcases Bool.eq_false_or_eq_true (decide (0 < x15)) with hb | hb
            ·
              have H := iteT (of_decide_eq_true hb) H
              rw [hb] at hF
              clear hb
              refine qs_w hF (wanted_y hF rfl rfl rfl rfl) rfl (Nat.le_of_ble_eq_true rfl) ((y_move hF rfl).q) (fun a hF => ?_)
              refine qs_w hF (wanted_y hF rfl rfl rfl rfl) rfl (Nat.le_of_ble_eq_true rfl) ((y_move hF rfl).q) (fun a hF => ?_)
              obtain ⟨x18, h9, H⟩ := bindE H
              refine qs_w hF (wanted_y hF rfl rfl rfl rfl) rfl (Nat.le_of_ble_eq_true rfl) ((y_index (r := Rp.str) L45 hF rfl rfl (rdc_row 0 rfl) h9).q) (fun a hF => ?_)
              refine qs_w hF (wanted_y hF rfl rfl rfl rfl) rfl (Nat.le_of_ble_eq_true rfl) ((y_load_el (y := Value.string (bs x18)) (j := 0) (i := x15) hF rfl rfl (rdc_row 0 rfl) h9 Fl.str.to T9 rfl).q) (fun a hF => ?_)
              refine qs_w hF (wanted_y hF rfl rfl rfl rfl) rfl (Nat.le_of_ble_eq_true rfl) ((y_move hF rfl).q) (fun a hF => ?_)
              refine qs_w hF (wanted_y hF rfl rfl rfl rfl) rfl (Nat.le_of_ble_eq_true rfl) ((y_move hF rfl).q) (fun a hF => ?_)
              refine qs_w hF (wanted_y hF rfl rfl rfl rfl) rfl (Nat.le_of_ble_eq_true rfl) ((y_sub hF rfl rfl rfl).q) (fun a hF => ?_)
              obtain ⟨x19, h10, H⟩ := bindE H
              refine qs_w hF (wanted_y hF rfl rfl rfl rfl) rfl (Nat.le_of_ble_eq_true rfl) ((y_index (r := Rp.str) L45 hF rfl rfl (rdc_row 0 rfl) h10).q) (fun a hF => ?_)
              refine qs_w hF (wanted_y hF rfl rfl rfl rfl) rfl (Nat.le_of_ble_eq_true rfl) ((y_load_el (y := Value.string (bs x19)) (j := 0) (i := w64 (x15 - 1)) hF rfl rfl (rdc_row 0 rfl) h10 Fl.str.to T9 rfl).q) (fun a hF => ?_)
              refine qs_w hF (wanted_y hF rfl rfl rfl rfl) rfl (Nat.le_of_ble_eq_true rfl) ((y_slt (l := x18) (m := x19) hF rfl rfl).q) (fun a hF => ?_)
              refine qs_w hF (wanted_y hF rfl rfl rfl rfl) rfl (Nat.le_of_ble_eq_true rfl) ((y_pick_t hF rfl rfl rfl).q) (fun a hF => ?_)
              refine qs hF rfl ((y_pick_f hF rfl rfl rfl).q) (fun a hF => ?_)
              refine quiet_end (fun w hW => ?_)
              refine c_then ?_
              have hW := hW.frontZ (i := 1) rfl rfl
              have hW := hW.frontZ (i := 1) rfl rfl
              exact ⟨_, H, hF.re ⟨rfl, rfl, rfl, rfl, rfl, rfl, rfl, rfl, trivial⟩, hW⟩
            ·
              have H := iteF (of_decide_eq_false hb) H
              rw [hb] at hF
              clear hb
              refine qs_skip hF (wanted_n hF rfl rfl rfl rfl rfl) rfl rfl (fun a hF => ?_)
              refine qs_skip hF (wanted_n hF rfl rfl rfl rfl rfl) rfl rfl (fun a hF => ?_)
              refine qs_skip hF (wanted_n hF rfl rfl rfl rfl rfl) rfl rfl (fun a hF => ?_)
              refine qs_skip hF (wanted_n hF rfl rfl rfl rfl rfl) rfl rfl (fun a hF => ?_)
              refine qs_skip hF (wanted_n hF rfl rfl rfl rfl rfl) rfl rfl (fun a hF => ?_)
              refine qs_skip hF (wanted_n hF rfl rfl rfl rfl rfl) rfl rfl (fun a hF => ?_)
              refine qs_skip hF (wanted_n hF rfl rfl rfl rfl rfl) rfl rfl (fun a hF => ?_)
              refine qs_skip hF (wanted_n hF rfl rfl rfl rfl rfl) rfl rfl (fun a hF => ?_)
              refine qs_skip hF (wanted_n hF rfl rfl rfl rfl rfl) rfl rfl (fun a hF => ?_)
              refine qs_skip hF (wanted_n hF rfl rfl rfl rfl rfl) rfl rfl (fun a hF => ?_)
              refine qs_w hF (wanted_y hF rfl rfl rfl rfl) rfl (Nat.le_of_ble_eq_true rfl) ((y_pick_f hF rfl rfl rfl).q) (fun a hF => ?_)
              refine qs hF rfl ((y_pick_f hF rfl rfl rfl).q) (fun a hF => ?_)
              refine quiet_end (fun w hW => ?_)
              refine c_then ?_
              have hW := hW.frontZ (i := 1) rfl rfl
              have hW := hW.frontZ (i := 1) rfl rfl
              exact ⟨_, H, hF.re ⟨rfl, rfl, rfl, rfl, rfl, rfl, rfl, rfl, trivial⟩, hW⟩
        rintro a w ⟨x16, hj, hF, hW⟩
        have hj := Option.some.inj hj
        subst hj
        have H := K6
        clear G6 K6
        refine c_cond hF rfl (fun hb => ?_) (fun hb => ?_)
        ·
          have H := iteT hb H
          rw [hb] at hF
          clear hb
          refine c_seq ?_
          refine reg_list ?_
          refine ls hF hW rfl ((y_assign hF rfl).q) (fun a w hF hW => ?_)
          refine ls_nil ?_
          refine c_then ?_
          refine wp_ret ?_
          refine r_block ?_
          refine r_then ?_
          refine r_then ?_
          refine r_block ?_
          refine r_then ?_
          have H := L5 _ H
          have H := L4 _ H
          have H := Option.some.inj H
          subst H
          refine post1 (.inl rfl) hF hW rfl (rv_tmp hF rfl) ?_
          exact ⟨rfl, hW.done⟩
        ·
          have H := iteF (by rw [hb]; decide) H
          rw [hb] at hF
          clear hb
          refine wp_skip ?_
          refine b_normal ?_
          refine c_then ?_
          refine reg_list ?_
          refine ls hF hW rfl ((y_move hF rfl).q) (fun a w hF hW => ?_)
          refine ls hF hW rfl ((y_add hF rfl rfl rfl).q) (fun a w hF hW => ?_)
          refine ls hF hW rfl ((y_assign hF rfl).q) (fun a w hF hW => ?_)
          refine ls_nil ?_
          refine c_then ?_
          have hW := hW.frontZ (i := 1) rfl rfl
          have hW := hW.frontZ (i := 1) rfl rfl
          exact ⟨_, H, hF.re ⟨rfl, rfl, rfl, rfl, rfl, rfl, rfl, trivial⟩, hW⟩
      ·
        have H := iteF (of_decide_eq_false hb) H
        rw [hb] at hF
        clear hb
        refine wp_exit ?_
        refine e_then ?_
        refine e_then ?_
        refine e_block ?_
        refine c_then ?_
        have hW := hW.frontZ (i := 1) rfl rfl
        have hW := hW.frontZ (i := 1) rfl rfl
        have H := L5 _ H
        exact ⟨H, hF.re ⟨rfl, rfl, rfl, rfl, rfl, rfl, trivial⟩, hW⟩
    rintro a w ⟨hj, hF, hW⟩
    have H := K4 _ hj
    clear hj G4 K4 L4
    refine c_seq ?_
    refine reg_list ?_
    refine ls hF hW rfl ((y_assign hF rfl).q) (fun a w hF hW => ?_)
    refine ls_nil ?_
    refine c_then ?_
    refine c_seq ?_
    refine reg_list ?_
    refine ls hF hW rfl ((y_move hF rfl).q) (fun a w hF hW => ?_)
    refine ls hF hW rfl ((y_move hF rfl).q) (fun a w hF hW => ?_)
    refine ls hF hW rfl (y_call (v := Value.tuple #[]) hF H20 rfl (fun w hW => heap_Queue_string_Push_2_c any w p1 _ rfl)) (fun a w hF hW => ?_)
    refine ls_nil ?_
    refine c_then ?_
    refine c_seq ?_
    refine reg_list ?_
    refine ls hF hW rfl ((y_move hF rfl).q) (fun a w hF hW => ?_)
    refine ls hF hW rfl (y_call (v := Value.tuple #[.string (bs ([] : List UInt8)), .bool false]) hF H22 rfl (fun w hW => heap_Queue_string_Pop_c any w _ rfl)) (fun a w hF hW => ?_)
    refine ls hF hW rfl ((y_move hF rfl).q) (fun a w hF hW => ?_)
    refine ls hF hW rfl ((y_extract (v := Value.string (bs ([] : List UInt8))) hF rfl rfl).q) (fun a w hF hW => ?_)
    refine ls hF hW rfl ((y_extract (v := Value.bool false) hF rfl rfl).q) (fun a w hF hW => ?_)
    refine ls hF hW rfl ((y_assign hF rfl).q) (fun a w hF hW => ?_)
    refine ls hF hW rfl ((y_assign hF rfl).q) (fun a w hF hW => ?_)
    refine ls_nil ?_
    refine c_then ?_
    obtain ⟨o7, G7, K7⟩ := bindE H
    refine c_seqJ (fun a w => ∃ x20 : Bool, some (x20) = some o7 ∧ Fr 126 [] [(4, .bool x20)] a ∧ Stw ⟨Y, [], w0⟩ [(b1, [v8])] [row v8 9 Rp.str x14.2] w) ?_ ?_
    ·
      have H := G7
      clear G7 K7
      refine reg_list ?_
      refine ls hF hW rfl ((y_move hF rfl).q) (fun a w hF hW => ?_)
      refine ls hF hW rfl ((y_len (r := Rp.str) (l := x14.1) Try.underlying45 rfl hF rfl (rdc_row 0 rfl)).q) (fun a w hF hW => ?_)
      refine ls hF hW rfl ((y_move hF rfl).q) (fun a w hF hW => ?_)
      refine ls hF hW rfl ((y_eql hF rfl rfl).q) (fun a w hF hW => ?_)
      refine ls hF hW rfl ((y_move hF rfl).q) (fun a w hF hW => ?_)
      rcases Bool.eq_false_or_eq_true (decide ((x14.1.length : Int) = x2)) with hb | hb
      ·
        have H := iteT (of_decide_eq_true hb) H
        rw [hb] at hF
        clear hb
        refine ls_w hF hW (wanted_y hF rfl rfl rfl rfl) rfl (Nat.le_of_ble_eq_true rfl) ((y_move hF rfl).q) (fun a w hF hW => ?_)
        refine ls_g (wanted_y hF rfl rfl rfl rfl) ?_
        refine ls hF hW rfl (y_call (v := Value.int .i64 (heap_Queue_string_Len x14.2)) hF H23 rfl (fun w hW => heap_Queue_string_Len_c any w b1 (v8) x14.2 _ rfl (((rdc_row 1 rfl) : Rdc _ _ _ _ _ _) w hW).nx (at_M hW 0 rfl))) (fun a w hF hW => ?_)
        refine ls_w hF hW (wanted_y hF rfl rfl rfl rfl) rfl (Nat.le_of_ble_eq_true rfl) ((y_move hF rfl).q) (fun a w hF hW => ?_)
        refine ls_w hF hW (wanted_y hF rfl rfl rfl rfl) rfl (Nat.le_of_ble_eq_true rfl) ((y_len (r := Rp.str) (l := p0) Try.underlying45 rfl hF rfl (rdc_ro h_v1)).q) (fun a w hF hW => ?_)
        refine ls_w hF hW (wanted_y hF rfl rfl rfl rfl) rfl (Nat.le_of_ble_eq_true rfl) ((y_move hF rfl).q) (fun a w hF hW => ?_)
        refine ls_w hF hW (wanted_y hF rfl rfl rfl rfl) rfl (Nat.le_of_ble_eq_true rfl) ((y_sub hF rfl rfl rfl).q) (fun a w hF hW => ?_)
        refine ls_w hF hW (wanted_y hF rfl rfl rfl rfl) rfl (Nat.le_of_ble_eq_true rfl) ((y_eql hF rfl rfl).q) (fun a w hF hW => ?_)
        refine ls hF hW rfl ((y_pick_t hF rfl rfl rfl).q) (fun a w hF hW => ?_)
        refine ls hF hW rfl ((y_move hF rfl).q) (fun a w hF hW => ?_)
        rcases Bool.eq_false_or_eq_true (decide ((heap_Queue_string_Len x14.2) = (w64 ((p0.length : Int) - x2)))) with hb | hb
        ·
          have H := iteT (of_decide_eq_true hb) H
          rw [hb] at hF
          clear hb
          refine ls_w hF hW (wanted_y hF rfl rfl rfl rfl) rfl (Nat.le_of_ble_eq_true rfl) ((y_move hF rfl).q) (fun a w hF hW => ?_)
          refine ls_w hF hW (wanted_y hF rfl rfl rfl rfl) rfl (Nat.le_of_ble_eq_true rfl) ((y_not hF rfl).q) (fun a w hF hW => ?_)
          refine ls hF hW rfl ((y_pick_t hF rfl rfl rfl).q) (fun a w hF hW => ?_)
          refine ls hF hW rfl ((y_move hF rfl).q) (fun a w hF hW => ?_)
          refine ls_w hF hW (wanted_y hF rfl rfl rfl rfl) rfl (Nat.le_of_ble_eq_true rfl) ((y_move hF rfl).q) (fun a w hF hW => ?_)
          refine ls_w hF hW (wanted_y hF rfl rfl rfl rfl) rfl (Nat.le_of_ble_eq_true rfl) ((y_seq (l := ([] : List UInt8)) (m := ([] : List UInt8)) hF rfl rfl).q) (fun a w hF hW => ?_)
          refine ls hF hW rfl ((y_pick_t hF rfl rfl rfl).q) (fun a w hF hW => ?_)
          refine ls hF hW rfl ((y_move hF rfl).q) (fun a w hF hW => ?_)
          rcases Bool.eq_false_or_eq_true (decide (([] : List UInt8) = ([] : List UInt8))) with hb | hb
          ·
            have H := iteT (of_decide_eq_true hb) H
            rw [hb] at hF
            clear hb
            refine ls_w hF hW (wanted_y hF rfl rfl rfl rfl) rfl (Nat.le_of_ble_eq_true rfl) ((y_move hF rfl).q) (fun a w hF hW => ?_)
            refine ls_g (wanted_y hF rfl rfl rfl rfl) ?_
            refine ls hF hW rfl (y_call (v := Value.int .i64 0) hF H23 rfl (fun w hW => heap_Queue_string_Len_2_c any w _ rfl)) (fun a w hF hW => ?_)
            refine ls_w hF hW (wanted_y hF rfl rfl rfl rfl) rfl (Nat.le_of_ble_eq_true rfl) ((y_eql hF rfl rfl).q) (fun a w hF hW => ?_)
            rw [show decide ((0 : Int) = 0) = true from by decide] at hF
            refine ls hF hW rfl ((y_pick_t hF rfl rfl rfl).q) (fun a w hF hW => ?_)
            refine ls hF hW rfl ((y_move hF rfl).q) (fun a w hF hW => ?_)
            refine ls_w hF hW (wanted_y hF rfl rfl rfl rfl) rfl (Nat.le_of_ble_eq_true rfl) ((y_move hF rfl).q) (fun a w hF hW => ?_)
            refine ls_w hF hW (wanted_y hF rfl rfl rfl rfl) rfl (Nat.le_of_ble_eq_true rfl) ((y_move hF rfl).q) (fun a w hF hW => ?_)
            refine ls_g (wanted_y hF rfl rfl rfl rfl) ?_
            refine ls hF hW rfl (y_call (v := Value.bool false) hF H24 rfl (fun w hW => heap_Queue_string_Drop_c any w p1 _ rfl)) (fun a w hF hW => ?_)
            refine ls_w hF hW (wanted_y hF rfl rfl rfl rfl) rfl (Nat.le_of_ble_eq_true rfl) ((y_not hF rfl).q) (fun a w hF hW => ?_)
            refine ls hF hW rfl ((y_pick_t hF rfl rfl rfl).q) (fun a w hF hW => ?_)
            refine ls hF hW rfl ((y_move hF rfl).q) (fun a w hF hW => ?_)
            refine ls_w hF hW (wanted_y hF rfl rfl rfl rfl) rfl (Nat.le_of_ble_eq_true rfl) ((y_move hF rfl).q) (fun a w hF hW => ?_)
            refine ls_w hF hW (wanted_y hF rfl rfl rfl rfl) rfl (Nat.le_of_ble_eq_true rfl) ((y_move hF rfl).q) (fun a w hF hW => ?_)
            refine ls_g (wanted_y hF rfl rfl rfl rfl) ?_
            obtain ⟨x21, h11, H⟩ := bindE H
            refine ls hF hW rfl (y_call (v := Value.slice none 0 0) hF H21 rfl (fun w hW => heap_Queue_string_Drain_2_c any w p1 _ h11)) (fun a w hF hW => ?_)
            refine ls_w hF hW (wanted_y hF rfl rfl rfl rfl) rfl (Nat.le_of_ble_eq_true rfl) ((y_len (r := Rp.str) (l := ([] : List (List UInt8))) Try.underlying45 rfl hF rfl rdc_nil).q) (fun a w hF hW => ?_)
            refine ls_w hF hW (wanted_y hF rfl rfl rfl rfl) rfl (Nat.le_of_ble_eq_true rfl) ((y_eql hF rfl rfl).q) (fun a w hF hW => ?_)
            refine ls hF hW rfl ((y_pick_t hF rfl rfl rfl).q) (fun a w hF hW => ?_)
            refine ls hF hW rfl ((y_move hF rfl).q) (fun a w hF hW => ?_)
            rcases Bool.eq_false_or_eq_true (decide ((([] : List (List UInt8)).length : Int) = 0)) with hb | hb
            ·
              have H := iteT (of_decide_eq_true hb) H
              rw [hb] at hF
              clear hb
              refine ls_g (wanted_y hF rfl rfl rfl rfl) ?_
              obtain ⟨x22, h12, H⟩ := bindE H
              refine ls hF hW rfl (y_call (v := Value.bool x22) hF H18 rfl (fun w hW => L13_awake_c any w _ h12)) (fun a w hF hW => ?_)
              refine ls hF hW rfl ((y_pick_t hF rfl rfl rfl).q) (fun a w hF hW => ?_)
              refine ls hF hW rfl ((y_assign hF rfl).q) (fun a w hF hW => ?_)
              refine ls_nil ?_
              refine c_then ?_
              have hW := hW.frontZ (i := 1) rfl rfl
              have hW := hW.sub (M' := [(b1, [v8])]) (Z' := [row v8 9 Rp.str x14.2]) (List.Sublist.refl _) (List.Sublist.cons_cons _ (List.nil_sublist _))
              exact ⟨_, H, hF.re ⟨rfl, trivial⟩, hW⟩
            ·
              have H := iteF (of_decide_eq_false hb) H
              rw [hb] at hF
              clear hb
              refine ls_skip hF (wanted_n hF rfl rfl rfl rfl rfl) rfl rfl (fun a hF => ?_)
              refine ls hF hW rfl ((y_pick_f hF rfl rfl rfl).q) (fun a w hF hW => ?_)
              refine ls hF hW rfl ((y_assign hF rfl).q) (fun a w hF hW => ?_)
              refine ls_nil ?_
              refine c_then ?_
              have hW := hW.frontZ (i := 1) rfl rfl
              have hW := hW.sub (M' := [(b1, [v8])]) (Z' := [row v8 9 Rp.str x14.2]) (List.Sublist.refl _) (List.Sublist.cons_cons _ (List.nil_sublist _))
              exact ⟨_, H, hF.re ⟨rfl, trivial⟩, hW⟩
          ·
            have H := iteF (of_decide_eq_false hb) H
            rw [hb] at hF
            clear hb
            refine ls_skip hF (wanted_n hF rfl rfl rfl rfl rfl) rfl rfl (fun a hF => ?_)
            refine ls_skip hF (wanted_n hF rfl rfl rfl rfl rfl) rfl rfl (fun a hF => ?_)
            refine ls_skip hF (wanted_n hF rfl rfl rfl rfl rfl) rfl rfl (fun a hF => ?_)
            refine ls hF hW rfl ((y_pick_f hF rfl rfl rfl).q) (fun a w hF hW => ?_)
            refine ls hF hW rfl ((y_move hF rfl).q) (fun a w hF hW => ?_)
            refine ls_skip hF (wanted_n hF rfl rfl rfl rfl rfl) rfl rfl (fun a hF => ?_)
            refine ls_skip hF (wanted_n hF rfl rfl rfl rfl rfl) rfl rfl (fun a hF => ?_)
            refine ls_skip hF (wanted_n hF rfl rfl rfl rfl rfl) rfl rfl (fun a hF => ?_)
            refine ls_skip hF (wanted_n hF rfl rfl rfl rfl rfl) rfl rfl (fun a hF => ?_)
            refine ls hF hW rfl ((y_pick_f hF rfl rfl rfl).q) (fun a w hF hW => ?_)
            refine ls hF hW rfl ((y_move hF rfl).q) (fun a w hF hW => ?_)
            refine ls_skip hF (wanted_n hF rfl rfl rfl rfl rfl) rfl rfl (fun a hF => ?_)
            refine ls_skip hF (wanted_n hF rfl rfl rfl rfl rfl) rfl rfl (fun a hF => ?_)
            refine ls_skip hF (wanted_n hF rfl rfl rfl rfl rfl) rfl rfl (fun a hF => ?_)
            refine ls_skip hF (wanted_n hF rfl rfl rfl rfl rfl) rfl rfl (fun a hF => ?_)
            refine ls_skip hF (wanted_n hF rfl rfl rfl rfl rfl) rfl rfl (fun a hF => ?_)
            refine ls hF hW rfl ((y_pick_f hF rfl rfl rfl).q) (fun a w hF hW => ?_)
            refine ls hF hW rfl ((y_move hF rfl).q) (fun a w hF hW => ?_)
            refine ls_skip hF (wanted_n hF rfl rfl rfl rfl rfl) rfl rfl (fun a hF => ?_)
            refine ls hF hW rfl ((y_pick_f hF rfl rfl rfl).q) (fun a w hF hW => ?_)
            refine ls hF hW rfl ((y_assign hF rfl).q) (fun a w hF hW => ?_)
            refine ls_nil ?_
            refine c_then ?_
            have hW := hW.frontZ (i := 1) rfl rfl
            have hW := hW.sub (M' := [(b1, [v8])]) (Z' := [row v8 9 Rp.str x14.2]) (List.Sublist.refl _) (List.Sublist.cons_cons _ (List.nil_sublist _))
            exact ⟨_, H, hF.re ⟨rfl, trivial⟩, hW⟩
        ·
          have H := iteF (of_decide_eq_false hb) H
          rw [hb] at hF
          clear hb
          refine ls_skip hF (wanted_n hF rfl rfl rfl rfl rfl) rfl rfl (fun a hF => ?_)
          refine ls_skip hF (wanted_n hF rfl rfl rfl rfl rfl) rfl rfl (fun a hF => ?_)
          refine ls hF hW rfl ((y_pick_f hF rfl rfl rfl).q) (fun a w hF hW => ?_)
          refine ls hF hW rfl ((y_move hF rfl).q) (fun a w hF hW => ?_)
          refine ls_skip hF (wanted_n hF rfl rfl rfl rfl rfl) rfl rfl (fun a hF => ?_)
          refine ls_skip hF (wanted_n hF rfl rfl rfl rfl rfl) rfl rfl (fun a hF => ?_)
          refine ls hF hW rfl ((y_pick_f hF rfl rfl rfl).q) (fun a w hF hW => ?_)
          refine ls hF hW rfl ((y_move hF rfl).q) (fun a w hF hW => ?_)
          refine ls_skip hF (wanted_n hF rfl rfl rfl rfl rfl) rfl rfl (fun a hF => ?_)
          refine ls_skip hF (wanted_n hF rfl rfl rfl rfl rfl) rfl rfl (fun a hF => ?_)
          refine ls_skip hF (wanted_n hF rfl rfl rfl rfl rfl) rfl rfl (fun a hF => ?_)
          refine ls hF hW rfl ((y_pick_f hF rfl rfl rfl).q) (fun a w hF hW => ?_)
          refine ls hF hW rfl ((y_move hF rfl).q) (fun a w hF hW => ?_)
          refine ls_skip hF (wanted_n hF rfl rfl rfl rfl rfl) rfl rfl (fun a hF => ?_)
          refine ls_skip hF (wanted_n hF rfl rfl rfl rfl rfl) rfl rfl (fun a hF => ?_)
          refine ls_skip hF (wanted_n hF rfl rfl rfl rfl rfl) rfl rfl (fun a hF => ?_)
          refine ls_skip hF (wanted_n hF rfl rfl rfl rfl rfl) rfl rfl (fun a hF => ?_)
          refine ls hF hW rfl ((y_pick_f hF rfl rfl rfl).q) (fun a w hF hW => ?_)
          refine ls hF hW rfl ((y_move hF rfl).q) (fun a w hF hW => ?_)
          refine ls_skip hF (wanted_n hF rfl rfl rfl rfl rfl) rfl rfl (fun a hF => ?_)
          refine ls_skip hF (wanted_n hF rfl rfl rfl rfl rfl) rfl rfl (fun a hF => ?_)
          refine ls_skip hF (wanted_n hF rfl rfl rfl rfl rfl) rfl rfl (fun a hF => ?_)
          refine ls_skip hF (wanted_n hF rfl rfl rfl rfl rfl) rfl rfl (fun a hF => ?_)
          refine ls_skip hF (wanted_n hF rfl rfl rfl rfl rfl) rfl rfl (fun a hF => ?_)
          refine ls hF hW rfl ((y_pick_f hF rfl rfl rfl).q) (fun a w hF hW => ?_)
          refine ls hF hW rfl ((y_move hF rfl).q) (fun a w hF hW => ?_)
          refine ls_skip hF (wanted_n hF rfl rfl rfl rfl rfl) rfl rfl (fun a hF => ?_)
          refine ls hF hW rfl ((y_pick_f hF rfl rfl rfl).q) (fun a w hF hW => ?_)
          refine ls hF hW rfl ((y_assign hF rfl).q) (fun a w hF hW => ?_)
          refine ls_nil ?_
          refine c_then ?_
          have hW := hW.frontZ (i := 1) rfl rfl
          have hW := hW.sub (M' := [(b1, [v8])]) (Z' := [row v8 9 Rp.str x14.2]) (List.Sublist.refl _) (List.Sublist.cons_cons _ (List.nil_sublist _))
          exact ⟨_, H, hF.re ⟨rfl, trivial⟩, hW⟩
      ·
        have H := iteF (of_decide_eq_false hb) H
        rw [hb] at hF
        clear hb
        refine ls_skip hF (wanted_n hF rfl rfl rfl rfl rfl) rfl rfl (fun a hF => ?_)
        refine ls_skip hF (wanted_n hF rfl rfl rfl rfl rfl) rfl rfl (fun a hF => ?_)
        refine ls_skip hF (wanted_n hF rfl rfl rfl rfl rfl) rfl rfl (fun a hF => ?_)
        refine ls_skip hF (wanted_n hF rfl rfl rfl rfl rfl) rfl rfl (fun a hF => ?_)
        refine ls_skip hF (wanted_n hF rfl rfl rfl rfl rfl) rfl rfl (fun a hF => ?_)
        refine ls_skip hF (wanted_n hF rfl rfl rfl rfl rfl) rfl rfl (fun a hF => ?_)
        refine ls_skip hF (wanted_n hF rfl rfl rfl rfl rfl) rfl rfl (fun a hF => ?_)
        refine ls hF hW rfl ((y_pick_f hF rfl rfl rfl).q) (fun a w hF hW => ?_)
        refine ls hF hW rfl ((y_move hF rfl).q) (fun a w hF hW => ?_)
        refine ls_skip hF (wanted_n hF rfl rfl rfl rfl rfl) rfl rfl (fun a hF => ?_)
        refine ls_skip hF (wanted_n hF rfl rfl rfl rfl rfl) rfl rfl (fun a hF => ?_)
        refine ls hF hW rfl ((y_pick_f hF rfl rfl rfl).q) (fun a w hF hW => ?_)
        refine ls hF hW rfl ((y_move hF rfl).q) (fun a w hF hW => ?_)
        refine ls_skip hF (wanted_n hF rfl rfl rfl rfl rfl) rfl rfl (fun a hF => ?_)
        refine ls_skip hF (wanted_n hF rfl rfl rfl rfl rfl) rfl rfl (fun a hF => ?_)
        refine ls hF hW rfl ((y_pick_f hF rfl rfl rfl).q) (fun a w hF hW => ?_)
        refine ls hF hW rfl ((y_move hF rfl).q) (fun a w hF hW => ?_)
        refine ls_skip hF (wanted_n hF rfl rfl rfl rfl rfl) rfl rfl (fun a hF => ?_)
        refine ls_skip hF (wanted_n hF rfl rfl rfl rfl rfl) rfl rfl (fun a hF => ?_)
        refine ls_skip hF (wanted_n hF rfl rfl rfl rfl rfl) rfl rfl (fun a hF => ?_)
        refine ls hF hW rfl ((y_pick_f hF rfl rfl rfl).q) (fun a w hF hW => ?_)
        refine ls hF hW rfl ((y_move hF rfl).q) (fun a w hF hW => ?_)
        refine ls_skip hF (wanted_n hF rfl rfl rfl rfl rfl) rfl rfl (fun a hF => ?_)
        refine ls_skip hF (wanted_n hF rfl rfl rfl rfl rfl) rfl rfl (fun a hF => ?_)
        refine ls_skip hF (wanted_n hF rfl rfl rfl rfl rfl) rfl rfl (fun a hF => ?_)
        refine ls_skip hF (wanted_n hF rfl rfl rfl rfl rfl) rfl rfl (fun a hF => ?_)
        refine ls hF hW rfl ((y_pick_f hF rfl rfl rfl).q) (fun a w hF hW => ?_)
        refine ls hF hW rfl ((y_move hF rfl).q) (fun a w hF hW => ?_)
        refine ls_skip hF (wanted_n hF rfl rfl rfl rfl rfl) rfl rfl (fun a hF => ?_)
        refine ls_skip hF (wanted_n hF rfl rfl rfl rfl rfl) rfl rfl (fun a hF => ?_)
        refine ls_skip hF (wanted_n hF rfl rfl rfl rfl rfl) rfl rfl (fun a hF => ?_)
        refine ls_skip hF (wanted_n hF rfl rfl rfl rfl rfl) rfl rfl (fun a hF => ?_)
        refine ls_skip hF (wanted_n hF rfl rfl rfl rfl rfl) rfl rfl (fun a hF => ?_)
        refine ls hF hW rfl ((y_pick_f hF rfl rfl rfl).q) (fun a w hF hW => ?_)
        refine ls hF hW rfl ((y_move hF rfl).q) (fun a w hF hW => ?_)
        refine ls_skip hF (wanted_n hF rfl rfl rfl rfl rfl) rfl rfl (fun a hF => ?_)
        refine ls hF hW rfl ((y_pick_f hF rfl rfl rfl).q) (fun a w hF hW => ?_)
        refine ls hF hW rfl ((y_assign hF rfl).q) (fun a w hF hW => ?_)
        refine ls_nil ?_
        refine c_then ?_
        have hW := hW.frontZ (i := 1) rfl rfl
        have hW := hW.sub (M' := [(b1, [v8])]) (Z' := [row v8 9 Rp.str x14.2]) (List.Sublist.refl _) (List.Sublist.cons_cons _ (List.nil_sublist _))
        exact ⟨_, H, hF.re ⟨rfl, trivial⟩, hW⟩
    rintro a w ⟨x20, hj, hF, hW⟩
    have hj := Option.some.inj hj
    subst hj
    have H := K7
    clear G7 K7
    refine wp_ret ?_
    have H := Option.some.inj H
    subst H
    refine post1 (.inl rfl) hF hW rfl (rv_tmp hF rfl) ?_
    exact ⟨rfl, hW.done⟩

end Go.Proofs.Ytlogogcdfdocoaa
