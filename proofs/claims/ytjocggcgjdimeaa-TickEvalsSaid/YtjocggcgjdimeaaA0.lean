/- The functions of layer 1, lifted. Conditions: none. -/
import Derived.Test.YtjocggcgjdimeaaRows
import Derived.Test.YtjocggcgjdimeaaOD
namespace Go.Proofs.Ytjocggcgjdimeaa
open Go Go.RowKit
set_option linter.unusedVariables false
set_option linter.unusedSimpArgs false
set_option maxRecDepth 20000
abbrev R52 : Rp (Int × Int) := (Rp.pair (Rp.int .i64) (Rp.int .i64))
theorem B42 : Bt Try.prog 42 [.int .i64 0, .int .i64 0] [(0, 1), (1, 1)] := ⟨⟨.agg #[.int .i64 0, .int .i64 0], by kernel_rfl, rfl⟩, ⟨_, Try.underlying42, fun w => by kernel_rfl⟩⟩
theorem Z42 : (Try.prog.info? 42).bind (·.zero) = some (.agg #[.int .i64 0, .int .i64 0]) := by kernel_rfl
abbrev R42 : Rp (Int × Int) := (Rp.pair (Rp.int .i64) (Rp.int .i64))
def E42 (a : Int × Int) : List Value := [.int .i64 a.1, .int .i64 a.2]
theorem F42 : Fl R42 E42 := (Fl.pair Fl.int Fl.int)
theorem L37 : Et Try.prog 37 42 2 16 := Et.of Try.underlying37 (by kernel_rfl) (by kernel_rfl) (by kernel_rfl) (by decide)
theorem Z3 : (Try.prog.info? 3).bind (·.zero) = some (.int .i64 0) := by kernel_rfl
theorem Z22 : (Try.prog.info? 22).bind (·.zero) = some (.int .i64 0) := by kernel_rfl
theorem T3 : Ty Try.prog 3 false 1 := ⟨by kernel_rfl, by kernel_rfl⟩
theorem T22 : Ty Try.prog 22 false 1 := ⟨by kernel_rfl, by kernel_rfl⟩
def tick_Eval_1_idle (p0 : Int) (p1 : Int) : Unit := ()
theorem tick_Eval_1_idle_c (Y : Nat → Prop) (X : List Nat) (w0 : World) (q_p0 : Nat) (q_p1 : Nat) (p0 : Int) (p1 : Int) (r : Unit) (H : tick_Eval_1_idle p0 p1 = r) (hL : Stw ⟨Y, X, w0⟩ [(q_p0, [.int .i64 p0]), (q_p1, [.int .i64 p1])] [] w0) :
    CallsD Try.prog 37 #[.pointer (some ⟨q_p0, 0, none⟩), .pointer (some ⟨q_p1, 0, none⟩)] .returning w0 fun e u' w' => u' = .returning ∧ (∃ x : Unit, e = .returned (.tuple #[]) ∧ Stw ⟨Y, X, w0⟩ [(q_p0, [.int .i64 p0]), (q_p1, [.int .i64 p1])] [] w') := by
  refine rec_returning Try.func37 rfl Try.ntmps37 rfl rfl rfl (fun a hF => ?_)
  have hW := hL
  unfold tick_Eval_1_idle at H
  refine c_seq ?_
  refine reg_list ?_
  refine ls hF hW rfl ((y_move hF rfl).q) (fun a w hF hW => ?_)
  refine ls hF hW rfl ((y_neqnil_nil Try.underlying20 hF rfl).q) (fun a w hF hW => ?_)
  refine ls_nil ?_
  refine c_then ?_
  refine c_cond_f hF rfl ?_
  refine wp_skip ?_
  subst H
  refine post0 (.inr rfl) hF rfl ?_
  have hW := hW.frontM (i := 1) rfl rfl
  have hW := hW.frontM (i := 1) rfl rfl
  exact ⟨(), rfl, hW⟩

theorem H37 : Has Try.prog 37 := ⟨fun args w => run_callFunc_body Try.func37 rfl (by decide) args w⟩
theorem Z49 : (Try.prog.info? 49).bind (·.zero) = some (.agg #[.slice none 0 0]) := by kernel_rfl
theorem T42 : Ty Try.prog 42 true 2 := ⟨by kernel_rfl, by kernel_rfl⟩
def tick_Clamp (p0 : Int) : Int := min (max p0 (-1125899906842624)) 1125899906842624
theorem tick_Clamp_c (Y : Nat → Prop) (w0 : World)  (p0 : Int) (r : Int) (H : tick_Clamp p0 = r)  :
    Calls Try.prog 18 #[.int .i64 p0] w0 fun e w' => e = .returned (.int .i64 r) ∧ Below w0.heap.size w0 w' := by
  refine enter Try.func18 rfl Try.ntmps18 rfl (fun a hF => ?_)
  have hW := Stw.start Y w0
  unfold tick_Clamp at H
  refine c_seq ?_
  refine reg_list ?_
  refine ls hF hW rfl ((y_assign hF rfl).q) (fun a w hF hW => ?_)
  refine ls_nil ?_
  refine c_then ?_
  refine c_seq ?_
  refine reg_list ?_
  refine ls hF hW rfl ((y_move hF rfl).q) (fun a w hF hW => ?_)
  refine ls hF hW rfl ((y_max hF rfl rfl).q) (fun a w hF hW => ?_)
  refine ls hF hW rfl ((y_min hF rfl rfl).q) (fun a w hF hW => ?_)
  refine ls hF hW rfl ((y_assign hF rfl).q) (fun a w hF hW => ?_)
  refine ls_nil ?_
  refine c_then ?_
  refine wp_ret ?_
  subst H
  refine post1 (.inl rfl) hF hW rfl (rv_tmp hF rfl) ?_
  exact ⟨rfl, hW.done⟩

theorem H18 : Has Try.prog 18 := ⟨fun args w => run_callFunc_body Try.func18 rfl (by decide) args w⟩
theorem B54 : Bt Try.prog 54 [.int .i64 0] [(0, 1)] := ⟨⟨.agg #[.int .i64 0], by kernel_rfl, rfl⟩, ⟨_, Try.underlying54, fun w => by kernel_rfl⟩⟩
theorem I54 : (Try.prog.underlying 54).map (fun d => match d with | .interface _ => true | _ => false) = some false := by kernel_rfl
def tick_checked (p0 : Int) : Int ⊕ Unit := (if p0 ≠ (tick_Clamp p0) then .inr () else .inl p0)
theorem tick_checked_c (Y : Nat → Prop) (w0 : World)  (p0 : Int) (r : Int ⊕ Unit) (H : tick_checked p0 = r)  :
    Calls Try.prog 34 #[.int .i64 p0] w0 fun e w' => altP r (fun r => ∃ x : Unit, e = .returned (.int .i64 r) ∧ Stw ⟨Y, [], w0⟩ [] [] w') (fun r => ∃ x : Unit, e = .panicked [{ v := .iface 54 (.agg #[.int .i64 11]), recovered := false }] ∧ Stw ⟨Y, [], w0⟩ [] [] w') := by
  refine enter Try.func34 rfl Try.ntmps34 rfl (fun a hF => ?_)
  have hW := Stw.start Y w0
  unfold tick_checked at H
  refine c_seq ?_
  refine reg_list ?_
  refine ls hF hW rfl ((y_assign hF rfl).q) (fun a w hF hW => ?_)
  refine ls_nil ?_
  refine c_then ?_
  refine c_seq ?_
  refine c_seq ?_
  refine reg_list ?_
  refine ls hF hW rfl ((y_move hF rfl).q) (fun a w hF hW => ?_)
  refine ls hF hW rfl ((y_move hF rfl).q) (fun a w hF hW => ?_)
  refine ls hF hW rfl (y_call (v := Value.int .i64 (tick_Clamp p0)) hF H18 rfl (fun w hW => tick_Clamp_c any w p0 _ rfl)) (fun a w hF hW => ?_)
  refine ls hF hW rfl ((y_neq hF rfl rfl).q) (fun a w hF hW => ?_)
  refine ls_nil ?_
  refine c_then ?_
  refine c_cond hF rfl (fun hb => ?_) (fun hb => ?_)
  ·
    have H := iteT (of_decide_eq_true hb) H
    rw [hb] at hF
    clear hb
    refine reg_list ?_
    refine ls hF hW rfl ((y_build (v := Value.agg #[.int .i64 11]) B54 hF rfl rfl rfl).q) (fun a w hF hW => ?_)
    refine ls hF hW rfl ((y_makeIface I54 hF rfl).q) (fun a w hF hW => ?_)
    refine l_panic hF rfl ?_
    refine p_then ?_
    subst H
    refine post_panic hF ?_
    exact ⟨(), rfl, hW⟩
  ·
    have H := iteF (of_decide_eq_false hb) H
    rw [hb] at hF
    clear hb
    refine wp_skip ?_
    refine c_then ?_
    refine c_seq ?_
    refine reg_list ?_
    refine ls hF hW rfl ((y_move hF rfl).q) (fun a w hF hW => ?_)
    refine ls hF hW rfl ((y_assign hF rfl).q) (fun a w hF hW => ?_)
    refine ls_nil ?_
    refine c_then ?_
    refine wp_ret ?_
    subst H
    refine post1 (.inl rfl) hF hW rfl (rv_tmp hF rfl) ?_
    exact ⟨(), rfl, hW⟩

theorem H34 : Has Try.prog 34 := ⟨fun args w => run_callFunc_body Try.func34 rfl (by decide) args w⟩
theorem T47 : Ty Try.prog 47 false 1 := ⟨by kernel_rfl, by kernel_rfl⟩
theorem L47 : Et Try.prog 47 3 1 8 := Et.of Try.underlying47 (by kernel_rfl) (by kernel_rfl) (by kernel_rfl) (by decide)
noncomputable def tick_stack_push (p0 : List Int) (p1 : Int) : Option (List Int) := (app p0 ([p1] : List Int)).bind fun x1 => some x1
theorem tick_stack_push_c (Y : Nat → Prop) (X : List Nat) (w0 : World) (q_p0 : Nat) (v1 : Value) (p0 : List Int) (p1 : Int) (r : List Int) (H : tick_stack_push p0 p1 = some r) (hL : Stw ⟨Y, X, w0⟩ [(q_p0, [v1])] [row v1 3 (Rp.int .i64) p0] w0) :
    Calls Try.prog 41 #[.pointer (some ⟨q_p0, 0, none⟩), .int .i64 p1] w0 fun e w' => ∃ x : Value, e = .returned (.tuple #[]) ∧ Stw ⟨Y, X, w0⟩ [(q_p0, [x])] [row (x) 3 (Rp.int .i64) r] w' := by
  refine enter Try.func41 rfl Try.ntmps41 rfl (fun a hF => ?_)
  have hW := hL
  unfold tick_stack_push at H
  refine reg_list ?_
  refine ls hF hW rfl ((y_move hF rfl).q) (fun a w hF hW => ?_)
  refine ls hF hW rfl ((y_move hF rfl).q) (fun a w hF hW => ?_)
  refine ls hF hW rfl ((y_nilCheck hF rfl).q) (fun a w hF hW => ?_)
  refine ls hF hW rfl ((y_fieldAddr Try.underlying49 rfl rfl rfl T47 hF rfl 0 rfl).q) (fun a w hF hW => ?_)
  refine ls hF hW rfl ((y_load (v := v1) 0 hF rfl rfl T47 rfl).q) (fun a w hF hW => ?_)
  refine ls hF hW rfl ((y_move hF rfl).q) (fun a w hF hW => ?_)
  refine l_lit (z := Value.int .i64 0) (cs := [.int .i64 p1]) (Rp.int .i64) ([p1] : List Int) hF hW rfl L47 Z3 rfl rfl rfl rfl rfl rfl (Fl.int.repL _ _ ([p1] : List Int)) (fun v2 a w hF hW => ?_)
  obtain ⟨x1, h1, H⟩ := bindE H
  refine l_append (r := (Rp.int .i64)) (i := 1) hF hW rfl L47 rfl rfl rfl rfl (src_row hW 0 rfl) h1 rfl (fun v3 a w hF hW => ?_)
  have hW : Stw ⟨Y, X, w0⟩ [(q_p0, [v1])] [row v3 3 (Rp.int .i64) x1, row v2 3 (Rp.int .i64) ([p1] : List Int)] w := hW
  refine ls hF hW rfl ((y_nilCheck hF rfl).q) (fun a w hF hW => ?_)
  refine ls hF hW rfl ((y_fieldAddr Try.underlying49 rfl rfl rfl T47 hF rfl 0 rfl).q) (fun a w hF hW => ?_)
  refine l_store1 (M' := [(q_p0, [v3])]) 0 hF hW rfl rfl rfl T47 (hW.one (k := 0) rfl) rfl rfl (fun w hW => ?_)
  refine ls_nil ?_
  have H := Option.some.inj H
  subst H
  refine post0 (.inr rfl) hF rfl ?_
  have hW := hW.sub (M' := [(q_p0, [v3])]) (Z' := [row v3 3 (Rp.int .i64) x1]) (List.Sublist.refl _) (List.Sublist.cons_cons _ (List.nil_sublist _))
  exact ⟨(v3), rfl, hW⟩

theorem H41 : Has Try.prog 41 := ⟨fun args w => run_callFunc_body Try.func41 rfl (by decide) args w⟩
noncomputable def tick_stack_pop (p0 : List Int) : Option ((Int × List Int) ⊕ (List Int)) := (if (w64 ((p0.length : Int) - 1)) < 0 then some (.inr p0) else (ix p0 (w64 ((p0.length : Int) - 1))).bind fun x1 => (subl p0 0 (w64 ((p0.length : Int) - 1))).bind fun x2 => some (.inl (x1, x2)))
theorem tick_stack_pop_c (Y : Nat → Prop) (X : List Nat) (w0 : World) (q_p0 : Nat) (v1 : Value) (p0 : List Int) (r : (Int × List Int) ⊕ (List Int)) (H : tick_stack_pop p0 = some r) (hL : Stw ⟨Y, X, w0⟩ [(q_p0, [v1])] [row v1 3 (Rp.int .i64) p0] w0) :
    Calls Try.prog 39 #[.pointer (some ⟨q_p0, 0, none⟩)] w0 fun e w' => altP r (fun r => ∃ x : Value, e = .returned (.int .i64 r.1) ∧ Stw ⟨Y, X, w0⟩ [(q_p0, [x])] [row (x) 3 (Rp.int .i64) r.2] w') (fun r => ∃ x : Value, e = .panicked [{ v := .iface 54 (.agg #[.int .i64 2]), recovered := false }] ∧ Stw ⟨Y, X, w0⟩ [(q_p0, [x])] [row (x) 3 (Rp.int .i64) r] w') := by
  refine enter Try.func39 rfl Try.ntmps39 rfl (fun a hF => ?_)
  have hW := hL
  unfold tick_stack_pop at H
  refine c_seq ?_
  refine reg_list ?_
  refine ls hF hW rfl ((y_assign hF rfl).q) (fun a w hF hW => ?_)
  refine ls_nil ?_
  refine c_then ?_
  refine c_seq ?_
  refine reg_list ?_
  refine ls hF hW rfl ((y_move hF rfl).q) (fun a w hF hW => ?_)
  refine ls hF hW rfl ((y_nilCheck hF rfl).q) (fun a w hF hW => ?_)
  refine ls hF hW rfl ((y_fieldAddr Try.underlying49 rfl rfl rfl T47 hF rfl 0 rfl).q) (fun a w hF hW => ?_)
  refine ls hF hW rfl ((y_load (v := v1) 0 hF rfl rfl T47 rfl).q) (fun a w hF hW => ?_)
  refine ls hF hW rfl ((y_len (r := (Rp.int .i64)) (l := p0) Try.underlying47 rfl hF rfl (rdc_row 0 rfl)).q) (fun a w hF hW => ?_)
  refine ls hF hW rfl ((y_sub hF rfl rfl rfl).q) (fun a w hF hW => ?_)
  refine ls hF hW rfl ((y_assign hF rfl).q) (fun a w hF hW => ?_)
  refine ls_nil ?_
  refine c_then ?_
  refine c_seq ?_
  refine c_seq ?_
  refine reg_list ?_
  refine ls hF hW rfl ((y_move hF rfl).q) (fun a w hF hW => ?_)
  refine ls hF hW rfl ((y_lss hF rfl rfl).q) (fun a w hF hW => ?_)
  refine ls_nil ?_
  refine c_then ?_
  refine c_cond hF rfl (fun hb => ?_) (fun hb => ?_)
  ·
    have H := iteT (of_decide_eq_true hb) H
    rw [hb] at hF
    clear hb
    refine reg_list ?_
    refine ls hF hW rfl ((y_build (v := Value.agg #[.int .i64 2]) B54 hF rfl rfl rfl).q) (fun a w hF hW => ?_)
    refine ls hF hW rfl ((y_makeIface I54 hF rfl).q) (fun a w hF hW => ?_)
    refine l_panic hF rfl ?_
    refine p_then ?_
    have H := Option.some.inj H
    subst H
    refine post_panic hF ?_
    exact ⟨(v1), rfl, hW⟩
  ·
    have H := iteF (of_decide_eq_false hb) H
    rw [hb] at hF
    clear hb
    refine wp_skip ?_
    refine c_then ?_
    refine c_seq ?_
    refine reg_list ?_
    refine ls hF hW rfl ((y_move hF rfl).q) (fun a w hF hW => ?_)
    refine ls hF hW rfl ((y_nilCheck hF rfl).q) (fun a w hF hW => ?_)
    refine ls hF hW rfl ((y_fieldAddr Try.underlying49 rfl rfl rfl T47 hF rfl 0 rfl).q) (fun a w hF hW => ?_)
    refine ls hF hW rfl ((y_load (v := v1) 0 hF rfl rfl T47 rfl).q) (fun a w hF hW => ?_)
    refine ls hF hW rfl ((y_move hF rfl).q) (fun a w hF hW => ?_)
    obtain ⟨x1, h1, H⟩ := bindE H
    refine ls hF hW rfl ((y_index (r := (Rp.int .i64)) L47 hF rfl rfl (rdc_row 0 rfl) h1).q) (fun a w hF hW => ?_)
    refine ls hF hW rfl ((y_load_el (y := Value.int .i64 x1) (j := 0) (i := w64 ((p0.length : Int) - 1)) hF rfl rfl (rdc_row 0 rfl) h1 Fl.int.to T3 rfl).q) (fun a w hF hW => ?_)
    refine ls hF hW rfl ((y_assign hF rfl).q) (fun a w hF hW => ?_)
    refine ls_nil ?_
    refine c_then ?_
    refine c_seq ?_
    refine reg_list ?_
    refine ls hF hW rfl ((y_move hF rfl).q) (fun a w hF hW => ?_)
    refine ls hF hW rfl ((y_move hF rfl).q) (fun a w hF hW => ?_)
    refine ls hF hW rfl ((y_nilCheck hF rfl).q) (fun a w hF hW => ?_)
    refine ls hF hW rfl ((y_fieldAddr Try.underlying49 rfl rfl rfl T47 hF rfl 0 rfl).q) (fun a w hF hW => ?_)
    refine ls hF hW rfl ((y_load (v := v1) 0 hF rfl rfl T47 rfl).q) (fun a w hF hW => ?_)
    refine ls hF hW rfl ((y_move hF rfl).q) (fun a w hF hW => ?_)
    obtain ⟨x2, h2, H⟩ := bindE H
    refine ls hF hW rfl ((y_slice (r := (Rp.int .i64)) L47 hF rfl rfl rfl (rdc_row 0 rfl) h2).q) (fun a w hF hW => ?_)
    refine ls hF hW rfl ((y_nilCheck hF rfl).q) (fun a w hF hW => ?_)
    refine ls hF hW rfl ((y_fieldAddr Try.underlying49 rfl rfl rfl T47 hF rfl 0 rfl).q) (fun a w hF hW => ?_)
    have hW := hW.subRow (k := 0) rfl rfl h2
    refine l_store1 (M' := [(q_p0, [(slSub v1 (0 : Int) (w64 ((p0.length : Int) - 1)) 1)])]) 0 hF hW rfl rfl rfl T47 (hW.one (k := 0) rfl) rfl rfl (fun w hW => ?_)
    refine ls_nil ?_
    refine c_then ?_
    refine c_seq ?_
    refine reg_list ?_
    refine ls hF hW rfl ((y_move hF rfl).q) (fun a w hF hW => ?_)
    refine ls hF hW rfl ((y_assign hF rfl).q) (fun a w hF hW => ?_)
    refine ls_nil ?_
    refine c_then ?_
    refine wp_ret ?_
    have H := Option.some.inj H
    subst H
    refine post1 (.inl rfl) hF hW rfl (rv_tmp hF rfl) ?_
    exact ⟨((slSub v1 (0 : Int) (w64 ((p0.length : Int) - 1)) 1)), rfl, hW⟩

theorem H39 : Has Try.prog 39 := ⟨fun args w => run_callFunc_body Try.func39 rfl (by decide) args w⟩
noncomputable def tick_sub (p0 : Int) (p1 : Int) : Option (Int ⊕ Unit) := (some (tick_checked p0)).bind fun x1 => altS x1 (fun x2 => (some (tick_checked p1)).bind fun x4 => altS x4 (fun x5 => (some (tick_checked (w64 (x2 - x5)))).bind fun x7 => altS x7 (fun x8 => some (.inl x8)) (fun x9 => some (.inr ()))) (fun x6 => some (.inr ()))) (fun x3 => some (.inr ()))
theorem tick_sub_c (Y : Nat → Prop) (w0 : World)  (p0 : Int) (p1 : Int) (r : Int ⊕ Unit) (H : tick_sub p0 p1 = some r)  :
    Calls Try.prog 29 #[.int .i64 p0, .int .i64 p1] w0 fun e w' => altP r (fun r => ∃ x : Unit, e = .returned (.int .i64 r) ∧ Stw ⟨Y, [], w0⟩ [] [] w') (fun r => ∃ x : Unit, e = .panicked [{ v := .iface 54 (.agg #[.int .i64 11]), recovered := false }] ∧ Stw ⟨Y, [], w0⟩ [] [] w') := by
  refine enter Try.func29 rfl Try.ntmps29 rfl (fun a hF => ?_)
  have hW := Stw.start Y w0
  unfold tick_sub at H
  refine c_seq ?_
  refine reg_list ?_
  refine ls hF hW rfl ((y_assign hF rfl).q) (fun a w hF hW => ?_)
  refine ls_nil ?_
  refine c_then ?_
  refine c_seq ?_
  refine reg_list ?_
  refine ls hF hW rfl ((y_move hF rfl).q) (fun a w hF hW => ?_)
  obtain ⟨x1, hx1, H⟩ := bindE H
  have hx1 := Option.some.inj hx1
  rcases x1 with x2 | x3
  ·
    have H := altL H
    refine l_callG (Ml := []) (Zl := []) (M := []) (Z := []) (β := Unit) (rv := fun x => .int .i64 x2) (MM := fun x => []) (ZZ := fun x => []) hF hW H34 rfl rfl (fun hL => tick_checked_c _ w p0 _ hx1) (fun x a w hF hW => ?_)
    have hW : Stw ⟨Y, [], w0⟩ [] [] w := hW
    refine ls hF hW rfl ((y_move hF rfl).q) (fun a w hF hW => ?_)
    obtain ⟨x4, hx4, H⟩ := bindE H
    have hx4 := Option.some.inj hx4
    rcases x4 with x5 | x6
    ·
      have H := altL H
      refine l_callG (Ml := []) (Zl := []) (M := []) (Z := []) (β := Unit) (rv := fun x => .int .i64 x5) (MM := fun x => []) (ZZ := fun x => []) hF hW H34 rfl rfl (fun hL => tick_checked_c _ w p1 _ hx4) (fun x a w hF hW => ?_)
      have hW : Stw ⟨Y, [], w0⟩ [] [] w := hW
      refine ls hF hW rfl ((y_sub hF rfl rfl rfl).q) (fun a w hF hW => ?_)
      obtain ⟨x7, hx7, H⟩ := bindE H
      have hx7 := Option.some.inj hx7
      rcases x7 with x8 | x9
      ·
        have H := altL H
        refine l_callG (Ml := []) (Zl := []) (M := []) (Z := []) (β := Unit) (rv := fun x => .int .i64 x8) (MM := fun x => []) (ZZ := fun x => []) hF hW H34 rfl rfl (fun hL => tick_checked_c _ w (w64 (x2 - x5)) _ hx7) (fun x a w hF hW => ?_)
        have hW : Stw ⟨Y, [], w0⟩ [] [] w := hW
        refine ls hF hW rfl ((y_assign hF rfl).q) (fun a w hF hW => ?_)
        refine ls_nil ?_
        refine c_then ?_
        refine wp_ret ?_
        have H := Option.some.inj H
        subst H
        refine post1 (.inl rfl) hF hW rfl (rv_tmp hF rfl) ?_
        exact ⟨(), rfl, hW⟩
      ·
        have H := altR H
        refine l_callP (Ml := []) (Zl := []) (M := []) (Z := []) (β := Unit) (pv := fun x => .iface 54 (.agg #[.int .i64 11])) (MM := fun x => []) (ZZ := fun x => []) hF hW H34 rfl (fun hL => tick_checked_c _ w (w64 (x2 - x5)) _ hx7) (fun x w hW => ?_)
        have hW : Stw ⟨Y, [], w0⟩ [] [] w := hW
        refine p_then ?_
        have H := Option.some.inj H
        subst H
        refine post_panic hF ?_
        exact ⟨(), rfl, hW⟩
    ·
      have H := altR H
      refine l_callP (Ml := []) (Zl := []) (M := []) (Z := []) (β := Unit) (pv := fun x => .iface 54 (.agg #[.int .i64 11])) (MM := fun x => []) (ZZ := fun x => []) hF hW H34 rfl (fun hL => tick_checked_c _ w p1 _ hx4) (fun x w hW => ?_)
      have hW : Stw ⟨Y, [], w0⟩ [] [] w := hW
      refine p_then ?_
      have H := Option.some.inj H
      subst H
      refine post_panic hF ?_
      exact ⟨(), rfl, hW⟩
  ·
    have H := altR H
    refine l_callP (Ml := []) (Zl := []) (M := []) (Z := []) (β := Unit) (pv := fun x => .iface 54 (.agg #[.int .i64 11])) (MM := fun x => []) (ZZ := fun x => []) hF hW H34 rfl (fun hL => tick_checked_c _ w p0 _ hx1) (fun x w hW => ?_)
    have hW : Stw ⟨Y, [], w0⟩ [] [] w := hW
    refine p_then ?_
    have H := Option.some.inj H
    subst H
    refine post_panic hF ?_
    exact ⟨(), rfl, hW⟩

theorem H29 : Has Try.prog 29 := ⟨fun args w => run_callFunc_body Try.func29 rfl (by decide) args w⟩
noncomputable def tick_add (p0 : Int) (p1 : Int) : Option (Int ⊕ Unit) := (some (tick_checked p0)).bind fun x1 => altS x1 (fun x2 => (some (tick_checked p1)).bind fun x4 => altS x4 (fun x5 => (some (tick_checked (w64 (x2 + x5)))).bind fun x7 => altS x7 (fun x8 => some (.inl x8)) (fun x9 => some (.inr ()))) (fun x6 => some (.inr ()))) (fun x3 => some (.inr ()))
theorem tick_add_c (Y : Nat → Prop) (w0 : World)  (p0 : Int) (p1 : Int) (r : Int ⊕ Unit) (H : tick_add p0 p1 = some r)  :
    Calls Try.prog 26 #[.int .i64 p0, .int .i64 p1] w0 fun e w' => altP r (fun r => ∃ x : Unit, e = .returned (.int .i64 r) ∧ Stw ⟨Y, [], w0⟩ [] [] w') (fun r => ∃ x : Unit, e = .panicked [{ v := .iface 54 (.agg #[.int .i64 11]), recovered := false }] ∧ Stw ⟨Y, [], w0⟩ [] [] w') := by
  refine enter Try.func26 rfl Try.ntmps26 rfl (fun a hF => ?_)
  have hW := Stw.start Y w0
  unfold tick_add at H
  refine c_seq ?_
  refine reg_list ?_
  refine ls hF hW rfl ((y_assign hF rfl).q) (fun a w hF hW => ?_)
  refine ls_nil ?_
  refine c_then ?_
  refine c_seq ?_
  refine reg_list ?_
  refine ls hF hW rfl ((y_move hF rfl).q) (fun a w hF hW => ?_)
  obtain ⟨x1, hx1, H⟩ := bindE H
  have hx1 := Option.some.inj hx1
  rcases x1 with x2 | x3
  ·
    have H := altL H
    refine l_callG (Ml := []) (Zl := []) (M := []) (Z := []) (β := Unit) (rv := fun x => .int .i64 x2) (MM := fun x => []) (ZZ := fun x => []) hF hW H34 rfl rfl (fun hL => tick_checked_c _ w p0 _ hx1) (fun x a w hF hW => ?_)
    have hW : Stw ⟨Y, [], w0⟩ [] [] w := hW
    refine ls hF hW rfl ((y_move hF rfl).q) (fun a w hF hW => ?_)
    obtain ⟨x4, hx4, H⟩ := bindE H
    have hx4 := Option.some.inj hx4
    rcases x4 with x5 | x6
    ·
      have H := altL H
      refine l_callG (Ml := []) (Zl := []) (M := []) (Z := []) (β := Unit) (rv := fun x => .int .i64 x5) (MM := fun x => []) (ZZ := fun x => []) hF hW H34 rfl rfl (fun hL => tick_checked_c _ w p1 _ hx4) (fun x a w hF hW => ?_)
      have hW : Stw ⟨Y, [], w0⟩ [] [] w := hW
      refine ls hF hW rfl ((y_add hF rfl rfl rfl).q) (fun a w hF hW => ?_)
      obtain ⟨x7, hx7, H⟩ := bindE H
      have hx7 := Option.some.inj hx7
      rcases x7 with x8 | x9
      ·
        have H := altL H
        refine l_callG (Ml := []) (Zl := []) (M := []) (Z := []) (β := Unit) (rv := fun x => .int .i64 x8) (MM := fun x => []) (ZZ := fun x => []) hF hW H34 rfl rfl (fun hL => tick_checked_c _ w (w64 (x2 + x5)) _ hx7) (fun x a w hF hW => ?_)
        have hW : Stw ⟨Y, [], w0⟩ [] [] w := hW
        refine ls hF hW rfl ((y_assign hF rfl).q) (fun a w hF hW => ?_)
        refine ls_nil ?_
        refine c_then ?_
        refine wp_ret ?_
        have H := Option.some.inj H
        subst H
        refine post1 (.inl rfl) hF hW rfl (rv_tmp hF rfl) ?_
        exact ⟨(), rfl, hW⟩
      ·
        have H := altR H
        refine l_callP (Ml := []) (Zl := []) (M := []) (Z := []) (β := Unit) (pv := fun x => .iface 54 (.agg #[.int .i64 11])) (MM := fun x => []) (ZZ := fun x => []) hF hW H34 rfl (fun hL => tick_checked_c _ w (w64 (x2 + x5)) _ hx7) (fun x w hW => ?_)
        have hW : Stw ⟨Y, [], w0⟩ [] [] w := hW
        refine p_then ?_
        have H := Option.some.inj H
        subst H
        refine post_panic hF ?_
        exact ⟨(), rfl, hW⟩
    ·
      have H := altR H
      refine l_callP (Ml := []) (Zl := []) (M := []) (Z := []) (β := Unit) (pv := fun x => .iface 54 (.agg #[.int .i64 11])) (MM := fun x => []) (ZZ := fun x => []) hF hW H34 rfl (fun hL => tick_checked_c _ w p1 _ hx4) (fun x w hW => ?_)
      have hW : Stw ⟨Y, [], w0⟩ [] [] w := hW
      refine p_then ?_
      have H := Option.some.inj H
      subst H
      refine post_panic hF ?_
      exact ⟨(), rfl, hW⟩
  ·
    have H := altR H
    refine l_callP (Ml := []) (Zl := []) (M := []) (Z := []) (β := Unit) (pv := fun x => .iface 54 (.agg #[.int .i64 11])) (MM := fun x => []) (ZZ := fun x => []) hF hW H34 rfl (fun hL => tick_checked_c _ w p0 _ hx1) (fun x w hW => ?_)
    have hW : Stw ⟨Y, [], w0⟩ [] [] w := hW
    refine p_then ?_
    have H := Option.some.inj H
    subst H
    refine post_panic hF ?_
    exact ⟨(), rfl, hW⟩

theorem H26 : Has Try.prog 26 := ⟨fun args w => run_callFunc_body Try.func26 rfl (by decide) args w⟩
noncomputable def tick_mul (p0 : Int) (p1 : Int) : Option (Int ⊕ Unit) := (some (tick_checked p0)).bind fun x1 => altS x1 (fun x2 => (some (tick_checked p1)).bind fun x4 => altS x4 (fun x5 => (if x5 ≠ 0 then (dvI .i64 1125899906842624 (max x5 (w64 (0 - x5)))).bind fun x8 => some (decide (x8 < (max x2 (w64 (0 - x2))))) else some false).bind fun x7 => (if x7 = true then some (.inr ()) else some (.inl (w64 (x2 * x5))))) (fun x6 => some (.inr ()))) (fun x3 => some (.inr ()))
theorem tick_mul_c (Y : Nat → Prop) (w0 : World)  (p0 : Int) (p1 : Int) (r : Int ⊕ Unit) (H : tick_mul p0 p1 = some r)  :
    Calls Try.prog 31 #[.int .i64 p0, .int .i64 p1] w0 fun e w' => altP r (fun r => ∃ x : Unit, e = .returned (.int .i64 r) ∧ Stw ⟨Y, [], w0⟩ [] [] w') (fun r => ∃ x : Unit, e = .panicked [{ v := .iface 54 (.agg #[.int .i64 11]), recovered := false }] ∧ Stw ⟨Y, [], w0⟩ [] [] w') := by
  refine enter Try.func31 rfl Try.ntmps31 rfl (fun a hF => ?_)
  have hW := Stw.start Y w0
  unfold tick_mul at H
  refine c_seq ?_
  refine reg_list ?_
  refine ls hF hW rfl ((y_assign hF rfl).q) (fun a w hF hW => ?_)
  refine ls_nil ?_
  refine c_then ?_
  refine c_seq ?_
  refine reg_list ?_
  refine ls hF hW rfl ((y_move hF rfl).q) (fun a w hF hW => ?_)
  obtain ⟨x1, hx1, H⟩ := bindE H
  have hx1 := Option.some.inj hx1
  rcases x1 with x2 | x3
  ·
    have H := altL H
    refine l_callG (Ml := []) (Zl := []) (M := []) (Z := []) (β := Unit) (rv := fun x => .int .i64 x2) (MM := fun x => []) (ZZ := fun x => []) hF hW H34 rfl rfl (fun hL => tick_checked_c _ w p0 _ hx1) (fun x a w hF hW => ?_)
    have hW : Stw ⟨Y, [], w0⟩ [] [] w := hW
    refine ls hF hW rfl ((y_move hF rfl).q) (fun a w hF hW => ?_)
    obtain ⟨x4, hx4, H⟩ := bindE H
    have hx4 := Option.some.inj hx4
    rcases x4 with x5 | x6
    ·
      have H := altL H
      refine l_callG (Ml := []) (Zl := []) (M := []) (Z := []) (β := Unit) (rv := fun x => .int .i64 x5) (MM := fun x => []) (ZZ := fun x => []) hF hW H34 rfl rfl (fun hL => tick_checked_c _ w p1 _ hx4) (fun x a w hF hW => ?_)
      have hW : Stw ⟨Y, [], w0⟩ [] [] w := hW
      refine ls hF hW rfl ((y_assign hF rfl).q) (fun a w hF hW => ?_)
      refine ls hF hW rfl ((y_assign hF rfl).q) (fun a w hF hW => ?_)
      refine ls_nil ?_
      refine c_then ?_
      refine c_seq ?_
      obtain ⟨o1, G1, K1⟩ := bindE H
      refine c_seqJ (fun a w => ∃ x7 : Bool, some (x7) = some o1 ∧ Fr 28 [] [(0, .int .i64 x2), (1, .int .i64 x5), (4, .int .i64 0), (22, .bool x7)] a ∧ Stw ⟨Y, [], w0⟩ [] [] w) ?_ ?_
      ·
        have H := G1
        clear G1 K1
        refine reg_list ?_
        refine ls hF hW rfl ((y_move hF rfl).q) (fun a w hF hW => ?_)
        refine ls hF hW rfl ((y_neq hF rfl rfl).q) (fun a w hF hW => ?_)
        refine ls hF hW rfl ((y_move hF rfl).q) (fun a w hF hW => ?_)
        rcases Bool.eq_false_or_eq_true (decide (x5 ≠ 0)) with hb | hb
        ·
          have H := iteT (of_decide_eq_true hb) H
          rw [hb] at hF
          clear hb
          refine ls_w hF hW (wanted_y hF rfl rfl rfl rfl) rfl (Nat.le_of_ble_eq_true rfl) ((y_move hF rfl).q) (fun a w hF hW => ?_)
          refine ls_w hF hW (wanted_y hF rfl rfl rfl rfl) rfl (Nat.le_of_ble_eq_true rfl) ((y_move hF rfl).q) (fun a w hF hW => ?_)
          refine ls_w hF hW (wanted_y hF rfl rfl rfl rfl) rfl (Nat.le_of_ble_eq_true rfl) ((y_neg hF rfl rfl).q) (fun a w hF hW => ?_)
          refine ls_w hF hW (wanted_y hF rfl rfl rfl rfl) rfl (Nat.le_of_ble_eq_true rfl) ((y_max hF rfl rfl).q) (fun a w hF hW => ?_)
          refine ls_w hF hW (wanted_y hF rfl rfl rfl rfl) rfl (Nat.le_of_ble_eq_true rfl) ((y_move hF rfl).q) (fun a w hF hW => ?_)
          refine ls_w hF hW (wanted_y hF rfl rfl rfl rfl) rfl (Nat.le_of_ble_eq_true rfl) ((y_move hF rfl).q) (fun a w hF hW => ?_)
          refine ls_w hF hW (wanted_y hF rfl rfl rfl rfl) rfl (Nat.le_of_ble_eq_true rfl) ((y_neg hF rfl rfl).q) (fun a w hF hW => ?_)
          refine ls_w hF hW (wanted_y hF rfl rfl rfl rfl) rfl (Nat.le_of_ble_eq_true rfl) ((y_max hF rfl rfl).q) (fun a w hF hW => ?_)
          obtain ⟨x8, h1, H⟩ := bindE H
          refine ls_w hF hW (wanted_y hF rfl rfl rfl rfl) rfl (Nat.le_of_ble_eq_true rfl) ((y_quo hF rfl rfl (dvI_some h1).1 (dvI_some h1).2).q) (fun a w hF hW => ?_)
          refine ls_w hF hW (wanted_y hF rfl rfl rfl rfl) rfl (Nat.le_of_ble_eq_true rfl) ((y_gtr hF rfl rfl).q) (fun a w hF hW => ?_)
          refine ls hF hW rfl ((y_pick_t hF rfl rfl rfl).q) (fun a w hF hW => ?_)
          refine ls_nil ?_
          refine c_then ?_
          exact ⟨_, H, hF.re ⟨rfl, rfl, rfl, rfl, trivial⟩, hW⟩
        ·
          have H := iteF (of_decide_eq_false hb) H
          rw [hb] at hF
          clear hb
          refine ls_skip hF (wanted_n hF rfl rfl rfl rfl rfl) rfl rfl (fun a hF => ?_)
          refine ls_skip hF (wanted_n hF rfl rfl rfl rfl rfl) rfl rfl (fun a hF => ?_)
          refine ls_skip hF (wanted_n hF rfl rfl rfl rfl rfl) rfl rfl (fun a hF => ?_)
          refine ls_skip hF (wanted_n hF rfl rfl rfl rfl rfl) rfl rfl (fun a hF => ?_)
          refine ls_skip hF (wanted_n hF rfl rfl rfl rfl rfl) rfl rfl (fun a hF => ?_)
          refine ls_skip hF (wanted_n hF rfl rfl rfl rfl rfl) rfl rfl (fun a hF => ?_)
          refine ls_skip hF (wanted_n hF rfl rfl rfl rfl rfl) rfl rfl (fun a hF => ?_)
          refine ls_skip hF (wanted_n hF rfl rfl rfl rfl rfl) rfl rfl (fun a hF => ?_)
          refine ls_skip hF (wanted_n hF rfl rfl rfl rfl rfl) rfl rfl (fun a hF => ?_)
          refine ls_skip hF (wanted_n hF rfl rfl rfl rfl rfl) rfl rfl (fun a hF => ?_)
          refine ls hF hW rfl ((y_pick_f hF rfl rfl rfl).q) (fun a w hF hW => ?_)
          refine ls_nil ?_
          refine c_then ?_
          exact ⟨_, H, hF.re ⟨rfl, rfl, rfl, rfl, trivial⟩, hW⟩
      rintro a w ⟨x7, hj, hF, hW⟩
      have hj := Option.some.inj hj
      subst hj
      have H := K1
      clear G1 K1
      refine c_cond hF rfl (fun hb => ?_) (fun hb => ?_)
      ·
        have H := iteT hb H
        rw [hb] at hF
        clear hb
        refine reg_list ?_
        refine ls hF hW rfl ((y_build (v := Value.agg #[.int .i64 11]) B54 hF rfl rfl rfl).q) (fun a w hF hW => ?_)
        refine ls hF hW rfl ((y_makeIface I54 hF rfl).q) (fun a w hF hW => ?_)
        refine l_panic hF rfl ?_
        refine p_then ?_
        have H := Option.some.inj H
        subst H
        refine post_panic hF ?_
        exact ⟨(), rfl, hW⟩
      ·
        have H := iteF (by rw [hb]; decide) H
        rw [hb] at hF
        clear hb
        refine wp_skip ?_
        refine c_then ?_
        refine c_seq ?_
        refine reg_list ?_
        refine ls hF hW rfl ((y_move hF rfl).q) (fun a w hF hW => ?_)
        refine ls hF hW rfl ((y_move hF rfl).q) (fun a w hF hW => ?_)
        refine ls hF hW rfl ((y_mul hF rfl rfl rfl).q) (fun a w hF hW => ?_)
        refine ls hF hW rfl ((y_assign hF rfl).q) (fun a w hF hW => ?_)
        refine ls_nil ?_
        refine c_then ?_
        refine wp_ret ?_
        have H := Option.some.inj H
        subst H
        refine post1 (.inl rfl) hF hW rfl (rv_tmp hF rfl) ?_
        exact ⟨(), rfl, hW⟩
    ·
      have H := altR H
      refine l_callP (Ml := []) (Zl := []) (M := []) (Z := []) (β := Unit) (pv := fun x => .iface 54 (.agg #[.int .i64 11])) (MM := fun x => []) (ZZ := fun x => []) hF hW H34 rfl (fun hL => tick_checked_c _ w p1 _ hx4) (fun x w hW => ?_)
      have hW : Stw ⟨Y, [], w0⟩ [] [] w := hW
      refine p_then ?_
      have H := Option.some.inj H
      subst H
      refine post_panic hF ?_
      exact ⟨(), rfl, hW⟩
  ·
    have H := altR H
    refine l_callP (Ml := []) (Zl := []) (M := []) (Z := []) (β := Unit) (pv := fun x => .iface 54 (.agg #[.int .i64 11])) (MM := fun x => []) (ZZ := fun x => []) hF hW H34 rfl (fun hL => tick_checked_c _ w p0 _ hx1) (fun x w hW => ?_)
    have hW : Stw ⟨Y, [], w0⟩ [] [] w := hW
    refine p_then ?_
    have H := Option.some.inj H
    subst H
    refine post_panic hF ?_
    exact ⟨(), rfl, hW⟩

theorem H31 : Has Try.prog 31 := ⟨fun args w => run_callFunc_body Try.func31 rfl (by decide) args w⟩
noncomputable def tick_stack_combine (p0 : List Int) (p1 : Int) : Option ((List Int) ⊕ (Int × List Int)) := (if (decide (p1 < 2) || decide (6 < p1)) = true then some (.inr (2, p0)) else (tick_stack_pop p0).bind fun x1 => altS x1 (fun x2 => (tick_stack_pop x2.2).bind fun x4 => altS x4 (fun x5 => (if p1 = 2 then (tick_add x5.1 x2.1).bind fun x7 => altS x7 (fun x8 => (tick_stack_push x5.2 x8).bind fun x10 => some (.inl x10)) (fun x9 => some (.inr (11, x5.2))) else (if p1 = 3 then (tick_sub x5.1 x2.1).bind fun x11 => altS x11 (fun x12 => (tick_stack_push x5.2 x12).bind fun x14 => some (.inl x14)) (fun x13 => some (.inr (11, x5.2))) else (if p1 = 4 then (tick_mul x5.1 x2.1).bind fun x15 => altS x15 (fun x16 => (tick_stack_push x5.2 x16).bind fun x18 => some (.inl x18)) (fun x17 => some (.inr (11, x5.2))) else (if p1 = 5 then (tick_stack_push x5.2 (min x5.1 x2.1)).bind fun x19 => some (.inl x19) else (if p1 = 6 then (tick_stack_push x5.2 (max x5.1 x2.1)).bind fun x20 => some (.inl x20) else some (.inl x5.2))))))) (fun x6 => some (.inr (2, x6)))) (fun x3 => some (.inr (2, x3))))
theorem tick_stack_combine_c (Y : Nat → Prop) (X : List Nat) (w0 : World) (q_p0 : Nat) (v1 : Value) (p0 : List Int) (p1 : Int) (r : (List Int) ⊕ (Int × List Int)) (H : tick_stack_combine p0 p1 = some r) (hL : Stw ⟨Y, X, w0⟩ [(q_p0, [v1])] [row v1 3 (Rp.int .i64) p0] w0) :
    Calls Try.prog 42 #[.pointer (some ⟨q_p0, 0, none⟩), .int .i64 p1] w0 fun e w' => altP r (fun r => ∃ x : Value, e = .returned (.tuple #[]) ∧ Stw ⟨Y, X, w0⟩ [(q_p0, [x])] [row (x) 3 (Rp.int .i64) r] w') (fun r => ∃ x : Value, e = .panicked [{ v := .iface 54 (.agg #[.int .i64 r.1]), recovered := false }] ∧ Stw ⟨Y, X, w0⟩ [(q_p0, [x])] [row (x) 3 (Rp.int .i64) r.2] w') := by
  refine enter Try.func42 rfl Try.ntmps42 rfl (fun a hF => ?_)
  have hW := hL
  unfold tick_stack_combine at H
  refine c_seq ?_
  refine c_seqJ (fun a w => Fr 54 [] [(0, .pointer (some ⟨q_p0, 0, none⟩)), (1, .int .i64 p1), (11, .bool (decide (p1 < 2) || decide (6 < p1)))] a ∧ Stw ⟨Y, X, w0⟩ [(q_p0, [v1])] [row v1 3 (Rp.int .i64) p0] w) ?_ ?_
  ·
    refine reg_list ?_
    refine ls hF hW rfl ((y_move hF rfl).q) (fun a w hF hW => ?_)
    refine ls hF hW rfl ((y_lss hF rfl rfl).q) (fun a w hF hW => ?_)
    refine ls hF hW rfl ((y_move hF rfl).q) (fun a w hF hW => ?_)
    rcases Bool.eq_false_or_eq_true (decide (p1 < 2)) with hb0 | hb0
    ·
      rw [hb0] at hF
      refine ls_skip hF (wanted_n hF rfl rfl rfl rfl rfl) rfl rfl (fun a hF => ?_)
      refine ls_skip hF (wanted_n hF rfl rfl rfl rfl rfl) rfl rfl (fun a hF => ?_)
      refine ls hF hW rfl ((y_pick_t hF rfl rfl rfl).q) (fun a w hF hW => ?_)
      refine ls_nil ?_
      refine c_then ?_
      exact ⟨hF.re ⟨rfl, rfl, (by show some (Value.bool true) = some (Value.bool (decide (p1 < 2) || decide (6 < p1))); try rw [hb0]; all_goals simp only [Bool.not_true, Bool.not_false, Bool.true_and, Bool.false_and, Bool.true_or, Bool.false_or, Bool.and_true, Bool.or_false, cond_true, cond_false]), trivial⟩, hW⟩
    ·
      rw [hb0] at hF
      refine ls_w hF hW (wanted_y hF rfl rfl rfl rfl) rfl (Nat.le_of_ble_eq_true rfl) ((y_move hF rfl).q) (fun a w hF hW => ?_)
      refine ls_w hF hW (wanted_y hF rfl rfl rfl rfl) rfl (Nat.le_of_ble_eq_true rfl) ((y_gtr hF rfl rfl).q) (fun a w hF hW => ?_)
      refine ls hF hW rfl ((y_pick_f hF rfl rfl rfl).q) (fun a w hF hW => ?_)
      refine ls_nil ?_
      refine c_then ?_
      exact ⟨hF.re ⟨rfl, rfl, (by show some (Value.bool (decide (6 < p1))) = some (Value.bool (decide (p1 < 2) || decide (6 < p1))); try rw [hb0]; all_goals simp only [Bool.not_true, Bool.not_false, Bool.true_and, Bool.false_and, Bool.true_or, Bool.false_or, Bool.and_true, Bool.or_false, cond_true, cond_false]), trivial⟩, hW⟩
  rintro a w ⟨hF, hW⟩
  refine c_cond hF rfl (fun hb => ?_) (fun hb => ?_)
  ·
    have H := iteT hb H
    rw [hb] at hF
    clear hb
    refine reg_list ?_
    refine ls hF hW rfl ((y_build (v := Value.agg #[.int .i64 2]) B54 hF rfl rfl rfl).q) (fun a w hF hW => ?_)
    refine ls hF hW rfl ((y_makeIface I54 hF rfl).q) (fun a w hF hW => ?_)
    refine l_panic hF rfl ?_
    refine p_then ?_
    have H := Option.some.inj H
    subst H
    refine post_panic hF ?_
    exact ⟨(v1), rfl, hW⟩
  ·
    have H := iteF (by rw [hb]; decide) H
    rw [hb] at hF
    clear hb
    refine wp_skip ?_
    refine c_then ?_
    refine c_seq ?_
    refine reg_list ?_
    refine ls hF hW rfl ((y_move hF rfl).q) (fun a w hF hW => ?_)
    obtain ⟨x1, h1, H⟩ := bindE H
    rcases x1 with x2 | x3
    ·
      have H := altL H
      refine l_callG (Ml := [(q_p0, [v1])]) (Zl := [row v1 3 (Rp.int .i64) p0]) (M := []) (Z := []) (β := Value) (rv := fun x => .int .i64 x2.1) (MM := fun x => [(q_p0, [x])]) (ZZ := fun x => [row x 3 (Rp.int .i64) x2.2]) hF hW H39 rfl rfl (fun hL => tick_stack_pop_c _ _ w q_p0 (v1) p0 _ h1 hL) (fun x a w hF hW => ?_)
      obtain ⟨v2, rfl⟩ : ∃ y, y = x := ⟨x, rfl⟩
      have hW : Stw ⟨Y, X, w0⟩ [(q_p0, [v2])] [row v2 3 (Rp.int .i64) x2.2] w := hW
      refine ls hF hW rfl ((y_assign hF rfl).q) (fun a w hF hW => ?_)
      refine ls_nil ?_
      refine c_then ?_
      refine c_seq ?_
      refine reg_list ?_
      refine ls hF hW rfl ((y_move hF rfl).q) (fun a w hF hW => ?_)
      obtain ⟨x4, h2, H⟩ := bindE H
      rcases x4 with x5 | x6
      ·
        have H := altL H
        refine l_callG (Ml := [(q_p0, [v2])]) (Zl := [row v2 3 (Rp.int .i64) x2.2]) (M := []) (Z := []) (β := Value) (rv := fun x => .int .i64 x5.1) (MM := fun x => [(q_p0, [x])]) (ZZ := fun x => [row x 3 (Rp.int .i64) x5.2]) hF hW H39 rfl rfl (fun hL => tick_stack_pop_c _ _ w q_p0 (v2) x2.2 _ h2 hL) (fun x a w hF hW => ?_)
        obtain ⟨v3, rfl⟩ : ∃ y, y = x := ⟨x, rfl⟩
        have hW : Stw ⟨Y, X, w0⟩ [(q_p0, [v3])] [row v3 3 (Rp.int .i64) x5.2] w := hW
        refine ls hF hW rfl ((y_assign hF rfl).q) (fun a w hF hW => ?_)
        refine ls_nil ?_
        refine c_then ?_
        refine c_seq ?_
        refine reg_list ?_
        refine ls hF hW rfl ((y_move hF rfl).q) (fun a w hF hW => ?_)
        refine ls_nil ?_
        refine c_then ?_
        refine wp_block ?_
        refine c_seq ?_
        refine reg_list ?_
        refine ls hF hW rfl ((y_eql hF rfl rfl).q) (fun a w hF hW => ?_)
        refine ls hF hW rfl ((y_assign hF rfl).q) (fun a w hF hW => ?_)
        refine ls_nil ?_
        refine c_then ?_
        refine c_cond hF rfl (fun hb => ?_) (fun hb => ?_)
        ·
          have H := iteT (of_decide_eq_true hb) H
          rw [hb] at hF
          clear hb
          refine reg_list ?_
          refine ls hF hW rfl ((y_move hF rfl).q) (fun a w hF hW => ?_)
          refine ls hF hW rfl ((y_move hF rfl).q) (fun a w hF hW => ?_)
          refine ls hF hW rfl ((y_move hF rfl).q) (fun a w hF hW => ?_)
          obtain ⟨x7, h3, H⟩ := bindE H
          rcases x7 with x8 | x9
          ·
            have H := altL H
            refine l_callG (Ml := []) (Zl := []) (M := [(q_p0, [v3])]) (Z := [row v3 3 (Rp.int .i64) x5.2]) (β := Unit) (rv := fun x => .int .i64 x8) (MM := fun x => []) (ZZ := fun x => []) hF hW H26 rfl rfl (fun hL => tick_add_c _ w x5.1 x2.1 _ h3) (fun x a w hF hW => ?_)
            have hW : Stw ⟨Y, X, w0⟩ [(q_p0, [v3])] [row v3 3 (Rp.int .i64) x5.2] w := hW
            obtain ⟨x10, h4, H⟩ := bindE H
            refine l_callG (Ml := [(q_p0, [v3])]) (Zl := [row v3 3 (Rp.int .i64) x5.2]) (M := []) (Z := []) (β := Value) (rv := fun x => .tuple #[]) (MM := fun x => [(q_p0, [x])]) (ZZ := fun x => [row x 3 (Rp.int .i64) x10]) hF hW H41 rfl rfl (fun hL => tick_stack_push_c _ _ w q_p0 (v3) x5.2 x8 _ h4 hL) (fun x a w hF hW => ?_)
            obtain ⟨v4, rfl⟩ : ∃ y, y = x := ⟨x, rfl⟩
            have hW : Stw ⟨Y, X, w0⟩ [(q_p0, [v4])] [row v4 3 (Rp.int .i64) x10] w := hW
            refine ls_nil ?_
            refine b_normal ?_
            have H := Option.some.inj H
            subst H
            refine post0 (.inr rfl) hF rfl ?_
            exact ⟨(v4), rfl, hW⟩
          ·
            have H := altR H
            refine l_callP (Ml := []) (Zl := []) (M := [(q_p0, [v3])]) (Z := [row v3 3 (Rp.int .i64) x5.2]) (β := Unit) (pv := fun x => .iface 54 (.agg #[.int .i64 11])) (MM := fun x => []) (ZZ := fun x => []) hF hW H26 rfl (fun hL => tick_add_c _ w x5.1 x2.1 _ h3) (fun x w hW => ?_)
            have hW : Stw ⟨Y, X, w0⟩ [(q_p0, [v3])] [row v3 3 (Rp.int .i64) x5.2] w := hW
            refine p_block ?_
            have H := Option.some.inj H
            subst H
            refine post_panic hF ?_
            exact ⟨(v3), rfl, hW⟩
        ·
          have H := iteF (of_decide_eq_false hb) H
          rw [hb] at hF
          clear hb
          refine c_seq ?_
          refine reg_list ?_
          refine ls hF hW rfl ((y_eql hF rfl rfl).q) (fun a w hF hW => ?_)
          refine ls hF hW rfl ((y_assign hF rfl).q) (fun a w hF hW => ?_)
          refine ls_nil ?_
          refine c_then ?_
          refine c_cond hF rfl (fun hb => ?_) (fun hb => ?_)
          ·
            have H := iteT (of_decide_eq_true hb) H
            rw [hb] at hF
            clear hb
            refine reg_list ?_
            refine ls hF hW rfl ((y_move hF rfl).q) (fun a w hF hW => ?_)
            refine ls hF hW rfl ((y_move hF rfl).q) (fun a w hF hW => ?_)
            refine ls hF hW rfl ((y_move hF rfl).q) (fun a w hF hW => ?_)
            obtain ⟨x11, h5, H⟩ := bindE H
            rcases x11 with x12 | x13
            ·
              have H := altL H
              refine l_callG (Ml := []) (Zl := []) (M := [(q_p0, [v3])]) (Z := [row v3 3 (Rp.int .i64) x5.2]) (β := Unit) (rv := fun x => .int .i64 x12) (MM := fun x => []) (ZZ := fun x => []) hF hW H29 rfl rfl (fun hL => tick_sub_c _ w x5.1 x2.1 _ h5) (fun x a w hF hW => ?_)
              have hW : Stw ⟨Y, X, w0⟩ [(q_p0, [v3])] [row v3 3 (Rp.int .i64) x5.2] w := hW
              obtain ⟨x14, h6, H⟩ := bindE H
              refine l_callG (Ml := [(q_p0, [v3])]) (Zl := [row v3 3 (Rp.int .i64) x5.2]) (M := []) (Z := []) (β := Value) (rv := fun x => .tuple #[]) (MM := fun x => [(q_p0, [x])]) (ZZ := fun x => [row x 3 (Rp.int .i64) x14]) hF hW H41 rfl rfl (fun hL => tick_stack_push_c _ _ w q_p0 (v3) x5.2 x12 _ h6 hL) (fun x a w hF hW => ?_)
              obtain ⟨v5, rfl⟩ : ∃ y, y = x := ⟨x, rfl⟩
              have hW : Stw ⟨Y, X, w0⟩ [(q_p0, [v5])] [row v5 3 (Rp.int .i64) x14] w := hW
              refine ls_nil ?_
              refine b_normal ?_
              have H := Option.some.inj H
              subst H
              refine post0 (.inr rfl) hF rfl ?_
              exact ⟨(v5), rfl, hW⟩
            ·
              have H := altR H
              refine l_callP (Ml := []) (Zl := []) (M := [(q_p0, [v3])]) (Z := [row v3 3 (Rp.int .i64) x5.2]) (β := Unit) (pv := fun x => .iface 54 (.agg #[.int .i64 11])) (MM := fun x => []) (ZZ := fun x => []) hF hW H29 rfl (fun hL => tick_sub_c _ w x5.1 x2.1 _ h5) (fun x w hW => ?_)
              have hW : Stw ⟨Y, X, w0⟩ [(q_p0, [v3])] [row v3 3 (Rp.int .i64) x5.2] w := hW
              refine p_block ?_
              have H := Option.some.inj H
              subst H
              refine post_panic hF ?_
              exact ⟨(v3), rfl, hW⟩
          ·
            have H := iteF (of_decide_eq_false hb) H
            rw [hb] at hF
            clear hb
            refine c_seq ?_
            refine reg_list ?_
            refine ls hF hW rfl ((y_eql hF rfl rfl).q) (fun a w hF hW => ?_)
            refine ls hF hW rfl ((y_assign hF rfl).q) (fun a w hF hW => ?_)
            refine ls_nil ?_
            refine c_then ?_
            refine c_cond hF rfl (fun hb => ?_) (fun hb => ?_)
            ·
              have H := iteT (of_decide_eq_true hb) H
              rw [hb] at hF
              clear hb
              refine reg_list ?_
              refine ls hF hW rfl ((y_move hF rfl).q) (fun a w hF hW => ?_)
              refine ls hF hW rfl ((y_move hF rfl).q) (fun a w hF hW => ?_)
              refine ls hF hW rfl ((y_move hF rfl).q) (fun a w hF hW => ?_)
              obtain ⟨x15, h7, H⟩ := bindE H
              rcases x15 with x16 | x17
              ·
                have H := altL H
                refine l_callG (Ml := []) (Zl := []) (M := [(q_p0, [v3])]) (Z := [row v3 3 (Rp.int .i64) x5.2]) (β := Unit) (rv := fun x => .int .i64 x16) (MM := fun x => []) (ZZ := fun x => []) hF hW H31 rfl rfl (fun hL => tick_mul_c _ w x5.1 x2.1 _ h7) (fun x a w hF hW => ?_)
                have hW : Stw ⟨Y, X, w0⟩ [(q_p0, [v3])] [row v3 3 (Rp.int .i64) x5.2] w := hW
                obtain ⟨x18, h8, H⟩ := bindE H
                refine l_callG (Ml := [(q_p0, [v3])]) (Zl := [row v3 3 (Rp.int .i64) x5.2]) (M := []) (Z := []) (β := Value) (rv := fun x => .tuple #[]) (MM := fun x => [(q_p0, [x])]) (ZZ := fun x => [row x 3 (Rp.int .i64) x18]) hF hW H41 rfl rfl (fun hL => tick_stack_push_c _ _ w q_p0 (v3) x5.2 x16 _ h8 hL) (fun x a w hF hW => ?_)
                obtain ⟨v6, rfl⟩ : ∃ y, y = x := ⟨x, rfl⟩
                have hW : Stw ⟨Y, X, w0⟩ [(q_p0, [v6])] [row v6 3 (Rp.int .i64) x18] w := hW
                refine ls_nil ?_
                refine b_normal ?_
                have H := Option.some.inj H
                subst H
                refine post0 (.inr rfl) hF rfl ?_
                exact ⟨(v6), rfl, hW⟩
              ·
                have H := altR H
                refine l_callP (Ml := []) (Zl := []) (M := [(q_p0, [v3])]) (Z := [row v3 3 (Rp.int .i64) x5.2]) (β := Unit) (pv := fun x => .iface 54 (.agg #[.int .i64 11])) (MM := fun x => []) (ZZ := fun x => []) hF hW H31 rfl (fun hL => tick_mul_c _ w x5.1 x2.1 _ h7) (fun x w hW => ?_)
                have hW : Stw ⟨Y, X, w0⟩ [(q_p0, [v3])] [row v3 3 (Rp.int .i64) x5.2] w := hW
                refine p_block ?_
                have H := Option.some.inj H
                subst H
                refine post_panic hF ?_
                exact ⟨(v3), rfl, hW⟩
            ·
              have H := iteF (of_decide_eq_false hb) H
              rw [hb] at hF
              clear hb
              refine c_seq ?_
              refine reg_list ?_
              refine ls hF hW rfl ((y_eql hF rfl rfl).q) (fun a w hF hW => ?_)
              refine ls hF hW rfl ((y_assign hF rfl).q) (fun a w hF hW => ?_)
              refine ls_nil ?_
              refine c_then ?_
              refine c_cond hF rfl (fun hb => ?_) (fun hb => ?_)
              ·
                have H := iteT (of_decide_eq_true hb) H
                rw [hb] at hF
                clear hb
                refine reg_list ?_
                refine ls hF hW rfl ((y_move hF rfl).q) (fun a w hF hW => ?_)
                refine ls hF hW rfl ((y_move hF rfl).q) (fun a w hF hW => ?_)
                refine ls hF hW rfl ((y_move hF rfl).q) (fun a w hF hW => ?_)
                refine ls hF hW rfl ((y_min hF rfl rfl).q) (fun a w hF hW => ?_)
                obtain ⟨x19, h9, H⟩ := bindE H
                refine l_callG (Ml := [(q_p0, [v3])]) (Zl := [row v3 3 (Rp.int .i64) x5.2]) (M := []) (Z := []) (β := Value) (rv := fun x => .tuple #[]) (MM := fun x => [(q_p0, [x])]) (ZZ := fun x => [row x 3 (Rp.int .i64) x19]) hF hW H41 rfl rfl (fun hL => tick_stack_push_c _ _ w q_p0 (v3) x5.2 (min x5.1 x2.1) _ h9 hL) (fun x a w hF hW => ?_)
                obtain ⟨v7, rfl⟩ : ∃ y, y = x := ⟨x, rfl⟩
                have hW : Stw ⟨Y, X, w0⟩ [(q_p0, [v7])] [row v7 3 (Rp.int .i64) x19] w := hW
                refine ls_nil ?_
                refine b_normal ?_
                have H := Option.some.inj H
                subst H
                refine post0 (.inr rfl) hF rfl ?_
                exact ⟨(v7), rfl, hW⟩
              ·
                have H := iteF (of_decide_eq_false hb) H
                rw [hb] at hF
                clear hb
                refine c_seq ?_
                refine reg_list ?_
                refine ls hF hW rfl ((y_eql hF rfl rfl).q) (fun a w hF hW => ?_)
                refine ls hF hW rfl ((y_assign hF rfl).q) (fun a w hF hW => ?_)
                refine ls_nil ?_
                refine c_then ?_
                refine c_cond hF rfl (fun hb => ?_) (fun hb => ?_)
                ·
                  have H := iteT (of_decide_eq_true hb) H
                  rw [hb] at hF
                  clear hb
                  refine reg_list ?_
                  refine ls hF hW rfl ((y_move hF rfl).q) (fun a w hF hW => ?_)
                  refine ls hF hW rfl ((y_move hF rfl).q) (fun a w hF hW => ?_)
                  refine ls hF hW rfl ((y_move hF rfl).q) (fun a w hF hW => ?_)
                  refine ls hF hW rfl ((y_max hF rfl rfl).q) (fun a w hF hW => ?_)
                  obtain ⟨x20, h10, H⟩ := bindE H
                  refine l_callG (Ml := [(q_p0, [v3])]) (Zl := [row v3 3 (Rp.int .i64) x5.2]) (M := []) (Z := []) (β := Value) (rv := fun x => .tuple #[]) (MM := fun x => [(q_p0, [x])]) (ZZ := fun x => [row x 3 (Rp.int .i64) x20]) hF hW H41 rfl rfl (fun hL => tick_stack_push_c _ _ w q_p0 (v3) x5.2 (max x5.1 x2.1) _ h10 hL) (fun x a w hF hW => ?_)
                  obtain ⟨v8, rfl⟩ : ∃ y, y = x := ⟨x, rfl⟩
                  have hW : Stw ⟨Y, X, w0⟩ [(q_p0, [v8])] [row v8 3 (Rp.int .i64) x20] w := hW
                  refine ls_nil ?_
                  refine b_normal ?_
                  have H := Option.some.inj H
                  subst H
                  refine post0 (.inr rfl) hF rfl ?_
                  exact ⟨(v8), rfl, hW⟩
                ·
                  have H := iteF (of_decide_eq_false hb) H
                  rw [hb] at hF
                  clear hb
                  refine wp_skip ?_
                  refine b_normal ?_
                  have H := Option.some.inj H
                  subst H
                  refine post0 (.inr rfl) hF rfl ?_
                  exact ⟨(v3), rfl, hW⟩
      ·
        have H := altR H
        refine l_callP (Ml := [(q_p0, [v2])]) (Zl := [row v2 3 (Rp.int .i64) x2.2]) (M := []) (Z := []) (β := Value) (pv := fun x => .iface 54 (.agg #[.int .i64 2])) (MM := fun x => [(q_p0, [x])]) (ZZ := fun x => [row x 3 (Rp.int .i64) x6]) hF hW H39 rfl (fun hL => tick_stack_pop_c _ _ w q_p0 (v2) x2.2 _ h2 hL) (fun x w hW => ?_)
        obtain ⟨v9, rfl⟩ : ∃ y, y = x := ⟨x, rfl⟩
        have hW : Stw ⟨Y, X, w0⟩ [(q_p0, [v9])] [row v9 3 (Rp.int .i64) x6] w := hW
        refine p_then ?_
        have H := Option.some.inj H
        subst H
        refine post_panic hF ?_
        exact ⟨(v9), rfl, hW⟩
    ·
      have H := altR H
      refine l_callP (Ml := [(q_p0, [v1])]) (Zl := [row v1 3 (Rp.int .i64) p0]) (M := []) (Z := []) (β := Value) (pv := fun x => .iface 54 (.agg #[.int .i64 2])) (MM := fun x => [(q_p0, [x])]) (ZZ := fun x => [row x 3 (Rp.int .i64) x3]) hF hW H39 rfl (fun hL => tick_stack_pop_c _ _ w q_p0 (v1) p0 _ h1 hL) (fun x w hW => ?_)
      obtain ⟨v10, rfl⟩ : ∃ y, y = x := ⟨x, rfl⟩
      have hW : Stw ⟨Y, X, w0⟩ [(q_p0, [v10])] [row v10 3 (Rp.int .i64) x3] w := hW
      refine p_then ?_
      have H := Option.some.inj H
      subst H
      refine post_panic hF ?_
      exact ⟨(v10), rfl, hW⟩

theorem H42 : Has Try.prog 42 := ⟨fun args w => run_callFunc_body Try.func42 rfl (by decide) args w⟩
noncomputable def tick_stack_perform (p0 : List Int) (p1 : Int × Int) : Option ((List Int) ⊕ (Int × List Int)) := (if p1.1 = 1 then (some (tick_checked p1.2)).bind fun x1 => altS x1 (fun x2 => (tick_stack_push p0 x2).bind fun x4 => some (.inl x4)) (fun x3 => some (.inr (11, p0))) else (if p1.1 = 7 then (tick_stack_pop p0).bind fun x5 => altS x5 (fun x6 => (tick_sub 0 x6.1).bind fun x8 => altS x8 (fun x9 => (tick_stack_push x6.2 x9).bind fun x11 => some (.inl x11)) (fun x10 => some (.inr (11, x6.2)))) (fun x7 => some (.inr (2, x7))) else (tick_stack_combine p0 p1.1).bind fun x12 => altS x12 (fun x13 => some (.inl x13)) (fun x14 => some (.inr (x14.1, x14.2)))))
theorem tick_stack_perform_c (Y : Nat → Prop) (X : List Nat) (w0 : World) (q_p0 : Nat) (v1 : Value) (p0 : List Int) (p1 : Int × Int) (r : (List Int) ⊕ (Int × List Int)) (H : tick_stack_perform p0 p1 = some r) (hL : Stw ⟨Y, X, w0⟩ [(q_p0, [v1])] [row v1 3 (Rp.int .i64) p0] w0) :
    Calls Try.prog 38 #[.pointer (some ⟨q_p0, 0, none⟩), .agg #[.int .i64 p1.1, .int .i64 p1.2]] w0 fun e w' => altP r (fun r => ∃ x : Value, e = .returned (.tuple #[]) ∧ Stw ⟨Y, X, w0⟩ [(q_p0, [x])] [row (x) 3 (Rp.int .i64) r] w') (fun r => ∃ x : Value, e = .panicked [{ v := .iface 54 (.agg #[.int .i64 r.1]), recovered := false }] ∧ Stw ⟨Y, X, w0⟩ [(q_p0, [x])] [row (x) 3 (Rp.int .i64) r.2] w') := by
  refine enter Try.func38 rfl Try.ntmps38 rfl (fun a hF => ?_)
  have hW := hL
  unfold tick_stack_perform at H
  refine c_seq ?_
  refine reg_list ?_
  refine l_box (cs := [.int .i64 p1.1, .int .i64 p1.2]) hF hW rfl rfl rfl (fun b1 a w hF hW => ?_)
  refine ls_nil ?_
  refine c_then ?_
  refine c_seq ?_
  refine reg_list ?_
  refine ls hF hW rfl ((y_fieldAddr Try.underlying42 rfl rfl rfl T3 hF rfl 0 rfl).q) (fun a w hF hW => ?_)
  refine ls hF hW rfl ((y_load (v := Value.int .i64 p1.1) 0 hF rfl rfl T3 rfl).q) (fun a w hF hW => ?_)
  refine ls_nil ?_
  refine c_then ?_
  refine wp_block ?_
  refine c_seq ?_
  refine reg_list ?_
  refine ls hF hW rfl ((y_eql hF rfl rfl).q) (fun a w hF hW => ?_)
  refine ls hF hW rfl ((y_assign hF rfl).q) (fun a w hF hW => ?_)
  refine ls_nil ?_
  refine c_then ?_
  refine c_cond hF rfl (fun hb => ?_) (fun hb => ?_)
  ·
    have H := iteT (of_decide_eq_true hb) H
    rw [hb] at hF
    clear hb
    refine reg_list ?_
    refine ls hF hW rfl ((y_move hF rfl).q) (fun a w hF hW => ?_)
    refine ls hF hW rfl ((y_fieldAddr Try.underlying42 rfl rfl rfl T3 hF rfl 1 rfl).q) (fun a w hF hW => ?_)
    refine ls hF hW rfl ((y_load (v := Value.int .i64 p1.2) 0 hF rfl rfl T3 rfl).q) (fun a w hF hW => ?_)
    obtain ⟨x1, hx1, H⟩ := bindE H
    have hx1 := Option.some.inj hx1
    rcases x1 with x2 | x3
    ·
      have H := altL H
      refine l_callG (Ml := []) (Zl := []) (M := [(b1, [.int .i64 p1.1, .int .i64 p1.2]), (q_p0, [v1])]) (Z := [row v1 3 (Rp.int .i64) p0]) (β := Unit) (rv := fun x => .int .i64 x2) (MM := fun x => []) (ZZ := fun x => []) hF hW H34 rfl rfl (fun hL => tick_checked_c _ w p1.2 _ hx1) (fun x a w hF hW => ?_)
      have hW : Stw ⟨Y, X, w0⟩ [(b1, [.int .i64 p1.1, .int .i64 p1.2]), (q_p0, [v1])] [row v1 3 (Rp.int .i64) p0] w := hW
      obtain ⟨x4, h1, H⟩ := bindE H
      have hW := hW.frontM (i := 1) rfl rfl
      refine l_callG (Ml := [(q_p0, [v1])]) (Zl := [row v1 3 (Rp.int .i64) p0]) (M := [(b1, [.int .i64 p1.1, .int .i64 p1.2])]) (Z := []) (β := Value) (rv := fun x => .tuple #[]) (MM := fun x => [(q_p0, [x])]) (ZZ := fun x => [row x 3 (Rp.int .i64) x4]) hF hW H41 rfl rfl (fun hL => tick_stack_push_c _ _ w q_p0 (v1) p0 x2 _ h1 hL) (fun x a w hF hW => ?_)
      obtain ⟨v2, rfl⟩ : ∃ y, y = x := ⟨x, rfl⟩
      have hW : Stw ⟨Y, X, w0⟩ [(q_p0, [v2]), (b1, [.int .i64 p1.1, .int .i64 p1.2])] [row v2 3 (Rp.int .i64) x4] w := hW
      refine ls_nil ?_
      refine b_normal ?_
      have H := Option.some.inj H
      subst H
      refine post0 (.inr rfl) hF rfl ?_
      have hW := hW.sub (M' := [(q_p0, [v2])]) (Z' := [row v2 3 (Rp.int .i64) x4]) (List.Sublist.cons_cons _ (List.nil_sublist _)) (List.Sublist.refl _)
      exact ⟨(v2), rfl, hW⟩
    ·
      have H := altR H
      refine l_callP (Ml := []) (Zl := []) (M := [(b1, [.int .i64 p1.1, .int .i64 p1.2]), (q_p0, [v1])]) (Z := [row v1 3 (Rp.int .i64) p0]) (β := Unit) (pv := fun x => .iface 54 (.agg #[.int .i64 11])) (MM := fun x => []) (ZZ := fun x => []) hF hW H34 rfl (fun hL => tick_checked_c _ w p1.2 _ hx1) (fun x w hW => ?_)
      have hW : Stw ⟨Y, X, w0⟩ [(b1, [.int .i64 p1.1, .int .i64 p1.2]), (q_p0, [v1])] [row v1 3 (Rp.int .i64) p0] w := hW
      refine p_block ?_
      have H := Option.some.inj H
      subst H
      refine post_panic hF ?_
      have hW := hW.frontM (i := 1) rfl rfl
      have hW := hW.sub (M' := [(q_p0, [v1])]) (Z' := [row v1 3 (Rp.int .i64) p0]) (List.Sublist.cons_cons _ (List.nil_sublist _)) (List.Sublist.refl _)
      exact ⟨(v1), rfl, hW⟩
  ·
    have H := iteF (of_decide_eq_false hb) H
    rw [hb] at hF
    clear hb
    refine c_seq ?_
    refine reg_list ?_
    refine ls hF hW rfl ((y_eql hF rfl rfl).q) (fun a w hF hW => ?_)
    refine ls hF hW rfl ((y_assign hF rfl).q) (fun a w hF hW => ?_)
    refine ls_nil ?_
    refine c_then ?_
    refine c_cond hF rfl (fun hb => ?_) (fun hb => ?_)
    ·
      have H := iteT (of_decide_eq_true hb) H
      rw [hb] at hF
      clear hb
      refine reg_list ?_
      refine ls hF hW rfl ((y_move hF rfl).q) (fun a w hF hW => ?_)
      refine ls hF hW rfl ((y_move hF rfl).q) (fun a w hF hW => ?_)
      obtain ⟨x5, h2, H⟩ := bindE H
      rcases x5 with x6 | x7
      ·
        have H := altL H
        have hW := hW.frontM (i := 1) rfl rfl
        refine l_callG (Ml := [(q_p0, [v1])]) (Zl := [row v1 3 (Rp.int .i64) p0]) (M := [(b1, [.int .i64 p1.1, .int .i64 p1.2])]) (Z := []) (β := Value) (rv := fun x => .int .i64 x6.1) (MM := fun x => [(q_p0, [x])]) (ZZ := fun x => [row x 3 (Rp.int .i64) x6.2]) hF hW H39 rfl rfl (fun hL => tick_stack_pop_c _ _ w q_p0 (v1) p0 _ h2 hL) (fun x a w hF hW => ?_)
        obtain ⟨v3, rfl⟩ : ∃ y, y = x := ⟨x, rfl⟩
        have hW : Stw ⟨Y, X, w0⟩ [(q_p0, [v3]), (b1, [.int .i64 p1.1, .int .i64 p1.2])] [row v3 3 (Rp.int .i64) x6.2] w := hW
        obtain ⟨x8, h3, H⟩ := bindE H
        rcases x8 with x9 | x10
        ·
          have H := altL H
          refine l_callG (Ml := []) (Zl := []) (M := [(q_p0, [v3]), (b1, [.int .i64 p1.1, .int .i64 p1.2])]) (Z := [row v3 3 (Rp.int .i64) x6.2]) (β := Unit) (rv := fun x => .int .i64 x9) (MM := fun x => []) (ZZ := fun x => []) hF hW H29 rfl rfl (fun hL => tick_sub_c _ w 0 x6.1 _ h3) (fun x a w hF hW => ?_)
          have hW : Stw ⟨Y, X, w0⟩ [(q_p0, [v3]), (b1, [.int .i64 p1.1, .int .i64 p1.2])] [row v3 3 (Rp.int .i64) x6.2] w := hW
          obtain ⟨x11, h4, H⟩ := bindE H
          refine l_callG (Ml := [(q_p0, [v3])]) (Zl := [row v3 3 (Rp.int .i64) x6.2]) (M := [(b1, [.int .i64 p1.1, .int .i64 p1.2])]) (Z := []) (β := Value) (rv := fun x => .tuple #[]) (MM := fun x => [(q_p0, [x])]) (ZZ := fun x => [row x 3 (Rp.int .i64) x11]) hF hW H41 rfl rfl (fun hL => tick_stack_push_c _ _ w q_p0 (v3) x6.2 x9 _ h4 hL) (fun x a w hF hW => ?_)
          obtain ⟨v4, rfl⟩ : ∃ y, y = x := ⟨x, rfl⟩
          have hW : Stw ⟨Y, X, w0⟩ [(q_p0, [v4]), (b1, [.int .i64 p1.1, .int .i64 p1.2])] [row v4 3 (Rp.int .i64) x11] w := hW
          refine ls_nil ?_
          refine b_normal ?_
          have H := Option.some.inj H
          subst H
          refine post0 (.inr rfl) hF rfl ?_
          have hW := hW.sub (M' := [(q_p0, [v4])]) (Z' := [row v4 3 (Rp.int .i64) x11]) (List.Sublist.cons_cons _ (List.nil_sublist _)) (List.Sublist.refl _)
          exact ⟨(v4), rfl, hW⟩
        ·
          have H := altR H
          refine l_callP (Ml := []) (Zl := []) (M := [(q_p0, [v3]), (b1, [.int .i64 p1.1, .int .i64 p1.2])]) (Z := [row v3 3 (Rp.int .i64) x6.2]) (β := Unit) (pv := fun x => .iface 54 (.agg #[.int .i64 11])) (MM := fun x => []) (ZZ := fun x => []) hF hW H29 rfl (fun hL => tick_sub_c _ w 0 x6.1 _ h3) (fun x w hW => ?_)
          have hW : Stw ⟨Y, X, w0⟩ [(q_p0, [v3]), (b1, [.int .i64 p1.1, .int .i64 p1.2])] [row v3 3 (Rp.int .i64) x6.2] w := hW
          refine p_block ?_
          have H := Option.some.inj H
          subst H
          refine post_panic hF ?_
          have hW := hW.sub (M' := [(q_p0, [v3])]) (Z' := [row v3 3 (Rp.int .i64) x6.2]) (List.Sublist.cons_cons _ (List.nil_sublist _)) (List.Sublist.refl _)
          exact ⟨(v3), rfl, hW⟩
      ·
        have H := altR H
        have hW := hW.frontM (i := 1) rfl rfl
        refine l_callP (Ml := [(q_p0, [v1])]) (Zl := [row v1 3 (Rp.int .i64) p0]) (M := [(b1, [.int .i64 p1.1, .int .i64 p1.2])]) (Z := []) (β := Value) (pv := fun x => .iface 54 (.agg #[.int .i64 2])) (MM := fun x => [(q_p0, [x])]) (ZZ := fun x => [row x 3 (Rp.int .i64) x7]) hF hW H39 rfl (fun hL => tick_stack_pop_c _ _ w q_p0 (v1) p0 _ h2 hL) (fun x w hW => ?_)
        obtain ⟨v5, rfl⟩ : ∃ y, y = x := ⟨x, rfl⟩
        have hW : Stw ⟨Y, X, w0⟩ [(q_p0, [v5]), (b1, [.int .i64 p1.1, .int .i64 p1.2])] [row v5 3 (Rp.int .i64) x7] w := hW
        refine p_block ?_
        have H := Option.some.inj H
        subst H
        refine post_panic hF ?_
        have hW := hW.sub (M' := [(q_p0, [v5])]) (Z' := [row v5 3 (Rp.int .i64) x7]) (List.Sublist.cons_cons _ (List.nil_sublist _)) (List.Sublist.refl _)
        exact ⟨(v5), rfl, hW⟩
    ·
      have H := iteF (of_decide_eq_false hb) H
      rw [hb] at hF
      clear hb
      refine reg_list ?_
      refine ls hF hW rfl ((y_move hF rfl).q) (fun a w hF hW => ?_)
      refine ls hF hW rfl ((y_fieldAddr Try.underlying42 rfl rfl rfl T3 hF rfl 0 rfl).q) (fun a w hF hW => ?_)
      refine ls hF hW rfl ((y_load (v := Value.int .i64 p1.1) 0 hF rfl rfl T3 rfl).q) (fun a w hF hW => ?_)
      obtain ⟨x12, h5, H⟩ := bindE H
      rcases x12 with x13 | x14
      ·
        have H := altL H
        have hW := hW.frontM (i := 1) rfl rfl
        refine l_callG (Ml := [(q_p0, [v1])]) (Zl := [row v1 3 (Rp.int .i64) p0]) (M := [(b1, [.int .i64 p1.1, .int .i64 p1.2])]) (Z := []) (β := Value) (rv := fun x => .tuple #[]) (MM := fun x => [(q_p0, [x])]) (ZZ := fun x => [row x 3 (Rp.int .i64) x13]) hF hW H42 rfl rfl (fun hL => tick_stack_combine_c _ _ w q_p0 (v1) p0 p1.1 _ h5 hL) (fun x a w hF hW => ?_)
        obtain ⟨v6, rfl⟩ : ∃ y, y = x := ⟨x, rfl⟩
        have hW : Stw ⟨Y, X, w0⟩ [(q_p0, [v6]), (b1, [.int .i64 p1.1, .int .i64 p1.2])] [row v6 3 (Rp.int .i64) x13] w := hW
        refine ls_nil ?_
        refine b_normal ?_
        have H := Option.some.inj H
        subst H
        refine post0 (.inr rfl) hF rfl ?_
        have hW := hW.sub (M' := [(q_p0, [v6])]) (Z' := [row v6 3 (Rp.int .i64) x13]) (List.Sublist.cons_cons _ (List.nil_sublist _)) (List.Sublist.refl _)
        exact ⟨(v6), rfl, hW⟩
      ·
        have H := altR H
        have hW := hW.frontM (i := 1) rfl rfl
        refine l_callP (Ml := [(q_p0, [v1])]) (Zl := [row v1 3 (Rp.int .i64) p0]) (M := [(b1, [.int .i64 p1.1, .int .i64 p1.2])]) (Z := []) (β := Value) (pv := fun x => .iface 54 (.agg #[.int .i64 x14.1])) (MM := fun x => [(q_p0, [x])]) (ZZ := fun x => [row x 3 (Rp.int .i64) x14.2]) hF hW H42 rfl (fun hL => tick_stack_combine_c _ _ w q_p0 (v1) p0 p1.1 _ h5 hL) (fun x w hW => ?_)
        obtain ⟨v7, rfl⟩ : ∃ y, y = x := ⟨x, rfl⟩
        have hW : Stw ⟨Y, X, w0⟩ [(q_p0, [v7]), (b1, [.int .i64 p1.1, .int .i64 p1.2])] [row v7 3 (Rp.int .i64) x14.2] w := hW
        refine p_block ?_
        have H := Option.some.inj H
        subst H
        refine post_panic hF ?_
        have hW := hW.sub (M' := [(q_p0, [v7])]) (Z' := [row v7 3 (Rp.int .i64) x14.2]) (List.Sublist.cons_cons _ (List.nil_sublist _)) (List.Sublist.refl _)
        exact ⟨(v7), rfl, hW⟩

theorem H38 : Has Try.prog 38 := ⟨fun args w => run_callFunc_body Try.func38 rfl (by decide) args w⟩
theorem Z54 : (Try.prog.info? 54).bind (·.zero) = some (.agg #[.int .i64 0]) := by kernel_rfl
theorem T54 : Ty Try.prog 54 true 1 := ⟨by kernel_rfl, by kernel_rfl⟩
def tick_cause (p0 : Int) : Int := p0
theorem tick_cause_c (Y : Nat → Prop) (w0 : World)  (p0 : Int) (r : Int) (H : tick_cause p0 = r)  :
    Calls Try.prog 25 #[.iface 54 (.agg #[.int .i64 p0])] w0 fun e w' => e = .returned (.int .i64 r) ∧ Below w0.heap.size w0 w' := by
  refine enter Try.func25 rfl Try.ntmps25 rfl (fun a hF => ?_)
  have hW := Stw.start Y w0
  unfold tick_cause at H
  refine c_seq ?_
  refine reg_list ?_
  refine ls hF hW rfl ((y_assign hF rfl).q) (fun a w hF hW => ?_)
  refine ls_nil ?_
  refine c_then ?_
  refine c_seq ?_
  refine reg_list ?_
  refine ls hF hW rfl ((y_move hF rfl).q) (fun a w hF hW => ?_)
  refine ls hF hW rfl ((y_assert_yes I54 hF rfl).q) (fun a w hF hW => ?_)
  refine ls hF hW rfl ((y_move hF rfl).q) (fun a w hF hW => ?_)
  refine ls hF hW rfl ((y_extract (v := Value.agg #[.int .i64 p0]) hF rfl rfl).q) (fun a w hF hW => ?_)
  refine ls hF hW rfl ((y_extract (v := Value.bool true) hF rfl rfl).q) (fun a w hF hW => ?_)
  refine l_alloc (cs := [.int .i64 0]) hF hW rfl Z54 rfl (fun b1 a w hF hW => ?_)
  refine l_store (vs := [.int .i64 p0]) (M' := [(b1, [.int .i64 p0])]) 0 hF hW rfl rfl rfl T54 rfl rfl rfl rfl rfl (fun w hW => ?_)
  refine ls hF hW rfl ((y_assign hF rfl).q) (fun a w hF hW => ?_)
  refine ls_nil ?_
  refine c_then ?_
  refine c_seq ?_
  refine c_seq ?_
  refine reg_list ?_
  refine ls hF hW rfl ((y_move hF rfl).q) (fun a w hF hW => ?_)
  refine ls hF hW rfl ((y_not hF rfl).q) (fun a w hF hW => ?_)
  refine ls_nil ?_
  refine c_then ?_
  refine c_cond_f hF rfl ?_
  refine wp_skip ?_
  refine c_then ?_
  refine c_seq ?_
  refine reg_list ?_
  refine ls hF hW rfl ((y_fieldAddr Try.underlying54 rfl rfl rfl T22 hF rfl 0 rfl).q) (fun a w hF hW => ?_)
  refine ls hF hW rfl ((y_load (v := Value.int .i64 p0) 0 hF rfl rfl T22 rfl).q) (fun a w hF hW => ?_)
  refine ls hF hW rfl ((y_assign hF rfl).q) (fun a w hF hW => ?_)
  refine ls_nil ?_
  refine c_then ?_
  refine wp_ret ?_
  subst H
  refine post1 (.inl rfl) hF hW rfl (rv_tmp hF rfl) ?_
  exact ⟨rfl, hW.done⟩

theorem H25 : Has Try.prog 25 := ⟨fun args w => run_callFunc_body Try.func25 rfl (by decide) args w⟩
def tick_Eval_1_catch (p0 : Int) (p1 : Int) (pc : Int) : Int × Int := (0, (tick_cause pc))
theorem tick_Eval_1_catch_c (Y : Nat → Prop) (X : List Nat) (w0 : World) (q_p0 : Nat) (q_p1 : Nat) (p0 : Int) (p1 : Int) (pc : Int) (r : Int × Int) (H : tick_Eval_1_catch p0 p1 pc = r) (hL : Stw ⟨Y, X, w0⟩ [(q_p0, [.int .i64 p0]), (q_p1, [.int .i64 p1])] [] w0) :
    CallsD Try.prog 37 #[.pointer (some ⟨q_p0, 0, none⟩), .pointer (some ⟨q_p1, 0, none⟩)] (.panicking ({ v := .iface 54 (.agg #[.int .i64 pc]), recovered := false } :: [])) w0 fun e u' w' => u' = .panicking ({ v := .iface 54 (.agg #[.int .i64 pc]), recovered := true } :: []) ∧ (∃ x : Unit, e = .returned (.tuple #[]) ∧ Stw ⟨Y, X, w0⟩ [(q_p0, [.int .i64 r.1]), (q_p1, [.int .i64 r.2])] [] w') := by
  refine rec_panicking Try.func37 rfl Try.ntmps37 rfl rfl rfl (fun a hF => ?_)
  have hW := hL
  unfold tick_Eval_1_catch at H
  refine c_seq ?_
  refine reg_list ?_
  refine ls hF hW rfl ((y_move hF rfl).q) (fun a w hF hW => ?_)
  refine ls hF hW rfl ((y_neqnil_some Try.underlying20 hF rfl).q) (fun a w hF hW => ?_)
  refine ls_nil ?_
  refine c_then ?_
  refine c_cond_t hF rfl ?_
  refine reg_list ?_
  refine ls hF hW rfl ((y_move hF rfl).q) (fun a w hF hW => ?_)
  refine ls hF hW rfl (y_call (v := Value.int .i64 (tick_cause pc)) hF H25 rfl (fun w hW => tick_cause_c any w pc _ rfl)) (fun a w hF hW => ?_)
  refine l_store (vs := [.int .i64 0]) (M' := [(q_p0, [.int .i64 0]), (q_p1, [.int .i64 p1])]) 0 hF hW rfl rfl rfl T3 rfl rfl rfl rfl rfl (fun w hW => ?_)
  refine l_store (vs := [.int .i64 (tick_cause pc)]) (M' := [(q_p0, [.int .i64 0]), (q_p1, [.int .i64 (tick_cause pc)])]) 1 hF hW rfl rfl rfl T22 rfl rfl rfl rfl rfl (fun w hW => ?_)
  refine ls_nil ?_
  subst H
  refine post0 (.inr rfl) hF rfl ?_
  have hW := hW.frontM (i := 1) rfl rfl
  have hW := hW.frontM (i := 1) rfl rfl
  exact ⟨(), rfl, hW⟩

noncomputable def tick_Eval_l1 (p0 : List (Int × Int)) : (Int × List Int) → Option ((Int × List Int) ⊕ ((List Int) ⊕ (Int × Int)))
  | (x2, x3) => (if x2 < (p0.length : Int) then (ix p0 x2).bind fun x4 => (tick_stack_perform x3 x4).bind fun x5 => altS x5 (fun x6 => some (.inl (w64 (x2 + 1), x6))) (fun x7 => some (.inr (.inr ((tick_Eval_1_catch 0 0 x7.1).1, (tick_Eval_1_catch 0 0 x7.1).2)))) else some (.inr (.inl x3)))
noncomputable def tick_Eval (p0 : List (Int × Int)) : Option (Int × Int) := (if 64 < (p0.length : Int) then some (0, 3) else orR (loopW (tick_Eval_l1 p0) (0, [])) fun x1 => (if (x1.length : Int) ≠ 1 then some (0, 2) else (tick_stack_pop x1).bind fun x8 => altS x8 (fun x9 => some (x9.1, 0)) (fun x10 => some ((tick_Eval_1_catch 0 0 2).1, (tick_Eval_1_catch 0 0 2).2))))
theorem tick_Eval_c (Y : Nat → Prop) (w0 : World) (v1 : Value) (p0 : List (Int × Int)) (r : Int × Int) (H : tick_Eval p0 = some r) (h_v1 : Sl w0 (NX []) R42 v1 p0) :
    Calls Try.prog 21 #[v1] w0 fun e w' => e = .returned (.tuple #[.int .i64 r.1, .int .i64 r.2]) ∧ Below w0.heap.size w0 w' := by
  refine enterD Try.func21 rfl Try.ntmps21 rfl (fun a hF => ?_)
  have hW := Stw.start Y w0
  unfold tick_Eval at H
  refine c_seq ?_
  refine reg_list ?_
  refine l_alloc (cs := [.int .i64 0]) hF hW rfl Z3 rfl (fun b1 a w hF hW => ?_)
  refine l_alloc (cs := [.int .i64 0]) hF hW rfl Z22 rfl (fun b2 a w hF hW => ?_)
  refine ls_nil ?_
  refine c_then ?_
  refine c_seq ?_
  refine reg_list ?_
  refine ls hF hW rfl ((y_makeFunc (us := []) (vs := [.pointer (some ⟨b1, 0, none⟩), .pointer (some ⟨b2, 0, none⟩)]) hF rfl rfl).q) (fun a w hF hW => ?_)
  refine l_defer (vs := [.pointer (some ⟨b1, 0, none⟩), .pointer (some ⟨b2, 0, none⟩)]) hF rfl (fun a hF => ?_)
  refine ls_nil ?_
  refine c_then ?_
  refine c_seq ?_
  refine c_seq ?_
  refine reg_list ?_
  refine ls hF hW rfl ((y_move hF rfl).q) (fun a w hF hW => ?_)
  refine ls hF hW rfl ((y_len (r := R42) (l := p0) Try.underlying37 rfl hF rfl (rdc_ro h_v1)).q) (fun a w hF hW => ?_)
  refine ls hF hW rfl ((y_gtr hF rfl rfl).q) (fun a w hF hW => ?_)
  refine ls_nil ?_
  refine c_then ?_
  refine c_cond hF rfl (fun hb => ?_) (fun hb => ?_)
  ·
    have H := iteT (of_decide_eq_true hb) H
    rw [hb] at hF
    clear hb
    refine c_seq ?_
    refine reg_list ?_
    refine l_store (vs := [.int .i64 0]) (M' := [(b2, [.int .i64 0]), (b1, [.int .i64 0])]) 1 hF hW rfl rfl rfl T3 rfl rfl rfl rfl rfl (fun w hW => ?_)
    refine l_store (vs := [.int .i64 3]) (M' := [(b2, [.int .i64 3]), (b1, [.int .i64 0])]) 0 hF hW rfl rfl rfl T22 rfl rfl rfl rfl rfl (fun w hW => ?_)
    refine ls_nil ?_
    refine c_then ?_
    refine wp_ret ?_
    refine r_then ?_
    refine postD_ret (.inl rfl) hF ?_
    have hW := hW.frontM (i := 1) rfl rfl
    refine leavesG (Ml := [(b1, [.int .i64 0]), (b2, [.int .i64 3])]) (Zl := []) (M := []) (Z := []) (β := Unit) (u' := .returning) (MM := fun x => [(b1, [.int .i64 0]), (b2, [.int .i64 3])]) (ZZ := fun x => []) hW H37 (by simp) (fun hL => tick_Eval_1_idle_c _ _ w b1 b2 0 3 _ rfl hL) (fun _ w hW => ?_)
    have hW : Stw ⟨Y, [], w0⟩ [(b1, [.int .i64 0]), (b2, [.int .i64 3])] [] w := hW
    have H := Option.some.inj H
    subst H
    refine leaves2 hW rfl (rv_cell 0 hF rfl rfl T3 rfl) (rv_cell 1 hF rfl rfl T22 rfl) ?_
    exact ⟨rfl, hW.done⟩
  ·
    have H := iteF (of_decide_eq_false hb) H
    rw [hb] at hF
    clear hb
    refine wp_skip ?_
    refine c_then ?_
    refine c_seq ?_
    refine reg_list ?_
    refine l_alloc (cs := [.slice none 0 0]) hF hW rfl Z49 rfl (fun b3 a w hF hW => ?_)
    refine ls_nil ?_
    refine c_then ?_
    obtain ⟨o1, G1, K1, L1⟩ := orE H
    refine c_seqJ (fun a w => ∃ x1 : List Int, ∃ v2 : Value, some (Sum.inl x1) = some o1 ∧ Fr 25 [{ target := .fn (.func 37) #[.pointer (some ⟨b1, 0, none⟩), .pointer (some ⟨b2, 0, none⟩)], args := #[] }] [(2, .pointer (some ⟨b1, 0, none⟩)), (3, .pointer (some ⟨b2, 0, none⟩)), (4, .pointer (some ⟨b3, 0, none⟩))] a ∧ Stw ⟨Y, [], w0⟩ [(b3, [v2]), (b2, [.int .i64 0]), (b1, [.int .i64 0])] [row v2 3 (Rp.int .i64) x1] w) ?_ ?_
    ·
      have H := G1
      clear G1 K1
      refine c_seq ?_
      refine reg_list ?_
      refine ls hF hW rfl ((y_move hF rfl).q) (fun a w hF hW => ?_)
      refine ls hF hW rfl ((y_len (r := R42) (l := p0) Try.underlying37 rfl hF rfl (rdc_ro h_v1)).q) (fun a w hF hW => ?_)
      refine ls hF hW rfl ((y_move hF rfl).q) (fun a w hF hW => ?_)
      refine ls_nil ?_
      refine c_then ?_
      refine wp_block ?_
      have hW := hW.nilRow 3 (Rp.int .i64)
      have hW := hW.frontM (i := 2) rfl rfl
      have hW := hW.frontM (i := 2) rfl rfl
      have hW := hW.frontM (i := 2) rfl rfl
      refine c_loopW H (fun s a w => ∃ v3 : Value, Fr 25 [{ target := .fn (.func 37) #[.pointer (some ⟨b1, 0, none⟩), .pointer (some ⟨b2, 0, none⟩)], args := #[] }] [(2, .pointer (some ⟨b1, 0, none⟩)), (3, .pointer (some ⟨b2, 0, none⟩)), (4, .pointer (some ⟨b3, 0, none⟩)), (11, v1), (12, .int .i64 (p0.length : Int)), (13, .int .i64 s.1)] a ∧ Stw ⟨Y, [], w0⟩ [(b3, [v3]), (b2, [.int .i64 0]), (b1, [.int .i64 0])] [row v3 3 (Rp.int .i64) s.2] w) ⟨(Value.slice none 0 0), hF.re ⟨rfl, rfl, rfl, rfl, rfl, rfl, trivial⟩, hW⟩ (fun s o a w H L2 hR => ?_)
      obtain ⟨x2, x3⟩ := s
      obtain ⟨v3, hF, hW⟩ := hR
      have hF : Fr 25 [{ target := .fn (.func 37) #[.pointer (some ⟨b1, 0, none⟩), .pointer (some ⟨b2, 0, none⟩)], args := #[] }] [(2, .pointer (some ⟨b1, 0, none⟩)), (3, .pointer (some ⟨b2, 0, none⟩)), (4, .pointer (some ⟨b3, 0, none⟩)), (11, v1), (12, .int .i64 (p0.length : Int)), (13, .int .i64 x2)] a := hF
      have hW : Stw ⟨Y, [], w0⟩ [(b3, [v3]), (b2, [.int .i64 0]), (b1, [.int .i64 0])] [row v3 3 (Rp.int .i64) x3] w := hW
      rw [tick_Eval_l1] at H
      refine c_seq ?_
      refine reg_list ?_
      refine ls hF hW rfl ((y_lss hF rfl rfl).q) (fun a w hF hW => ?_)
      refine ls_nil ?_
      refine c_then ?_
      refine c_seq ?_
      refine c_cond hF rfl (fun hb => ?_) (fun hb => ?_)
      ·
        have H := iteT (of_decide_eq_true hb) H
        rw [hb] at hF
        clear hb
        refine wp_skip ?_
        refine c_then ?_
        refine c_seq ?_
        refine wp_block ?_
        refine c_seq ?_
        refine reg_list ?_
        obtain ⟨x4, h1, H⟩ := bindE H
        refine ls hF hW rfl ((y_index (r := R42) L37 hF rfl rfl (rdc_ro h_v1) h1).q) (fun a w hF hW => ?_)
        refine ls hF hW rfl ((y_load_el (y := Value.agg #[.int .i64 x4.1, .int .i64 x4.2]) (j := 0) (i := x2) hF rfl rfl (rdc_ro h_v1) h1 F42.to T42 rfl).q) (fun a w hF hW => ?_)
        refine l_alloc (cs := [.int .i64 0, .int .i64 0]) hF hW rfl Z42 rfl (fun b4 a w hF hW => ?_)
        refine l_store (vs := [.int .i64 x4.1, .int .i64 x4.2]) (M' := [(b4, [.int .i64 x4.1, .int .i64 x4.2]), (b3, [v3]), (b2, [.int .i64 0]), (b1, [.int .i64 0])]) 0 hF hW rfl rfl rfl T42 rfl rfl rfl rfl rfl (fun w hW => ?_)
        refine ls_nil ?_
        refine c_then ?_
        refine reg_list ?_
        refine ls hF hW rfl ((y_load (v := Value.agg #[.int .i64 x4.1, .int .i64 x4.2]) 0 hF rfl rfl T42 rfl).q) (fun a w hF hW => ?_)
        obtain ⟨x5, h2, H⟩ := bindE H
        rcases x5 with x6 | x7
        ·
          have H := altL H
          have hW := hW.frontM (i := 1) rfl rfl
          refine l_callG (Ml := [(b3, [v3])]) (Zl := [row v3 3 (Rp.int .i64) x3]) (M := [(b4, [.int .i64 x4.1, .int .i64 x4.2]), (b2, [.int .i64 0]), (b1, [.int .i64 0])]) (Z := []) (β := Value) (rv := fun x => .tuple #[]) (MM := fun x => [(b3, [x])]) (ZZ := fun x => [row x 3 (Rp.int .i64) x6]) hF hW H38 rfl rfl (fun hL => tick_stack_perform_c _ _ w b3 (v3) x3 x4 _ h2 hL) (fun x a w hF hW => ?_)
          obtain ⟨v4, rfl⟩ : ∃ y, y = x := ⟨x, rfl⟩
          have hW : Stw ⟨Y, [], w0⟩ [(b3, [v4]), (b4, [.int .i64 x4.1, .int .i64 x4.2]), (b2, [.int .i64 0]), (b1, [.int .i64 0])] [row v4 3 (Rp.int .i64) x6] w := hW
          refine ls_nil ?_
          refine b_normal ?_
          refine c_then ?_
          refine reg_list ?_
          refine ls hF hW rfl ((y_add hF rfl rfl rfl).q) (fun a w hF hW => ?_)
          refine ls hF hW rfl ((y_move hF rfl).q) (fun a w hF hW => ?_)
          refine ls_nil ?_
          refine c_then ?_
          have hW := hW.frontM (i := 3) rfl rfl
          have hW := hW.frontM (i := 3) rfl rfl
          have hW := hW.frontM (i := 2) rfl rfl
          have hW := hW.sub (M' := [(b3, [v4]), (b2, [.int .i64 0]), (b1, [.int .i64 0])]) (Z' := [row v4 3 (Rp.int .i64) x6]) (List.Sublist.cons_cons _ (List.Sublist.cons_cons _ (List.Sublist.cons_cons _ (List.nil_sublist _)))) (List.Sublist.refl _)
          exact ⟨_, H, (v4), hF.re ⟨rfl, rfl, rfl, rfl, rfl, rfl, trivial⟩, hW⟩
        ·
          have H := altR H
          have hW := hW.frontM (i := 1) rfl rfl
          refine l_callP (Ml := [(b3, [v3])]) (Zl := [row v3 3 (Rp.int .i64) x3]) (M := [(b4, [.int .i64 x4.1, .int .i64 x4.2]), (b2, [.int .i64 0]), (b1, [.int .i64 0])]) (Z := []) (β := Value) (pv := fun x => .iface 54 (.agg #[.int .i64 x7.1])) (MM := fun x => [(b3, [x])]) (ZZ := fun x => [row x 3 (Rp.int .i64) x7.2]) hF hW H38 rfl (fun hL => tick_stack_perform_c _ _ w b3 (v3) x3 x4 _ h2 hL) (fun x w hW => ?_)
          obtain ⟨v5, rfl⟩ : ∃ y, y = x := ⟨x, rfl⟩
          have hW : Stw ⟨Y, [], w0⟩ [(b3, [v5]), (b4, [.int .i64 x4.1, .int .i64 x4.2]), (b2, [.int .i64 0]), (b1, [.int .i64 0])] [row v5 3 (Rp.int .i64) x7.2] w := hW
          refine p_block ?_
          refine p_then ?_
          refine p_then ?_
          refine p_block ?_
          refine p_then ?_
          refine postD_panic hF ?_
          have hW := hW.frontM (i := 2) rfl rfl
          have hW := hW.frontM (i := 3) rfl rfl
          refine leavesG (Ml := [(b1, [.int .i64 0]), (b2, [.int .i64 0])]) (Zl := []) (M := [(b3, [v5]), (b4, [.int .i64 x4.1, .int .i64 x4.2])]) (Z := [row v5 3 (Rp.int .i64) x7.2]) (β := Unit) (u' := (.panicking ({ v := .iface 54 (.agg #[.int .i64 x7.1]), recovered := true } :: []))) (MM := fun x => [(b1, [.int .i64 ((tick_Eval_1_catch 0 0 x7.1).1)]), (b2, [.int .i64 ((tick_Eval_1_catch 0 0 x7.1).2)])]) (ZZ := fun x => []) hW H37 (by simp) (fun hL => tick_Eval_1_catch_c _ _ w b1 b2 0 0 x7.1 _ rfl hL) (fun _ w hW => ?_)
          have hW : Stw ⟨Y, [], w0⟩ [(b1, [.int .i64 ((tick_Eval_1_catch 0 0 x7.1).1)]), (b2, [.int .i64 ((tick_Eval_1_catch 0 0 x7.1).2)]), (b3, [v5]), (b4, [.int .i64 x4.1, .int .i64 x4.2])] [row v5 3 (Rp.int .i64) x7.2] w := hW
          have H := L2 _ H
          have H := L1 _ H
          have H := Option.some.inj H
          subst H
          refine leaves2 hW rfl (rv_cell 0 hF rfl rfl T3 rfl) (rv_cell 1 hF rfl rfl T22 rfl) ?_
          exact ⟨rfl, hW.done⟩
      ·
        have H := iteF (of_decide_eq_false hb) H
        rw [hb] at hF
        clear hb
        refine wp_exit ?_
        refine e_then ?_
        refine e_then ?_
        refine e_block ?_
        refine c_then ?_
        have hW := hW.frontM (i := 2) rfl rfl
        have hW := hW.frontM (i := 2) rfl rfl
        have hW := hW.frontM (i := 2) rfl rfl
        have H := L2 _ H
        exact ⟨_, (v3), H, hF.re ⟨rfl, rfl, rfl, trivial⟩, hW⟩
    rintro a w ⟨x1, v2, hj, hF, hW⟩
    have H := K1 _ hj
    clear hj G1 K1 L1
    refine c_seq ?_
    refine c_seq ?_
    refine reg_list ?_
    refine ls hF hW rfl ((y_fieldAddr Try.underlying49 rfl rfl rfl T47 hF rfl 0 rfl).q) (fun a w hF hW => ?_)
    refine ls hF hW rfl ((y_load (v := v2) 0 hF rfl rfl T47 rfl).q) (fun a w hF hW => ?_)
    refine ls hF hW rfl ((y_len (r := (Rp.int .i64)) (l := x1) Try.underlying47 rfl hF rfl (rdc_row 0 rfl)).q) (fun a w hF hW => ?_)
    refine ls hF hW rfl ((y_neq hF rfl rfl).q) (fun a w hF hW => ?_)
    refine ls_nil ?_
    refine c_then ?_
    refine c_cond hF rfl (fun hb => ?_) (fun hb => ?_)
    ·
      have H := iteT (of_decide_eq_true hb) H
      rw [hb] at hF
      clear hb
      refine c_seq ?_
      refine reg_list ?_
      refine l_store (vs := [.int .i64 0]) (M' := [(b3, [v2]), (b2, [.int .i64 0]), (b1, [.int .i64 0])]) 2 hF hW rfl rfl rfl T3 rfl rfl rfl rfl rfl (fun w hW => ?_)
      refine l_store (vs := [.int .i64 2]) (M' := [(b3, [v2]), (b2, [.int .i64 2]), (b1, [.int .i64 0])]) 1 hF hW rfl rfl rfl T22 rfl rfl rfl rfl rfl (fun w hW => ?_)
      refine ls_nil ?_
      refine c_then ?_
      refine wp_ret ?_
      refine r_then ?_
      refine postD_ret (.inl rfl) hF ?_
      have hW := hW.frontM (i := 1) rfl rfl
      have hW := hW.frontM (i := 2) rfl rfl
      refine leavesG (Ml := [(b1, [.int .i64 0]), (b2, [.int .i64 2])]) (Zl := []) (M := [(b3, [v2])]) (Z := [row v2 3 (Rp.int .i64) x1]) (β := Unit) (u' := .returning) (MM := fun x => [(b1, [.int .i64 0]), (b2, [.int .i64 2])]) (ZZ := fun x => []) hW H37 (by simp) (fun hL => tick_Eval_1_idle_c _ _ w b1 b2 0 2 _ rfl hL) (fun _ w hW => ?_)
      have hW : Stw ⟨Y, [], w0⟩ [(b1, [.int .i64 0]), (b2, [.int .i64 2]), (b3, [v2])] [row v2 3 (Rp.int .i64) x1] w := hW
      have H := Option.some.inj H
      subst H
      refine leaves2 hW rfl (rv_cell 0 hF rfl rfl T3 rfl) (rv_cell 1 hF rfl rfl T22 rfl) ?_
      exact ⟨rfl, hW.done⟩
    ·
      have H := iteF (of_decide_eq_false hb) H
      rw [hb] at hF
      clear hb
      refine wp_skip ?_
      refine c_then ?_
      refine c_seq ?_
      refine reg_list ?_
      obtain ⟨x8, h3, H⟩ := bindE H
      rcases x8 with x9 | x10
      ·
        have H := altL H
        refine l_callG (Ml := [(b3, [v2])]) (Zl := [row v2 3 (Rp.int .i64) x1]) (M := [(b2, [.int .i64 0]), (b1, [.int .i64 0])]) (Z := []) (β := Value) (rv := fun x => .int .i64 x9.1) (MM := fun x => [(b3, [x])]) (ZZ := fun x => [row x 3 (Rp.int .i64) x9.2]) hF hW H39 rfl rfl (fun hL => tick_stack_pop_c _ _ w b3 (v2) x1 _ h3 hL) (fun x a w hF hW => ?_)
        obtain ⟨v6, rfl⟩ : ∃ y, y = x := ⟨x, rfl⟩
        have hW : Stw ⟨Y, [], w0⟩ [(b3, [v6]), (b2, [.int .i64 0]), (b1, [.int .i64 0])] [row v6 3 (Rp.int .i64) x9.2] w := hW
        refine l_store (vs := [.int .i64 x9.1]) (M' := [(b3, [v6]), (b2, [.int .i64 0]), (b1, [.int .i64 x9.1])]) 2 hF hW rfl rfl rfl T3 rfl rfl rfl rfl rfl (fun w hW => ?_)
        refine l_store (vs := [.int .i64 0]) (M' := [(b3, [v6]), (b2, [.int .i64 0]), (b1, [.int .i64 x9.1])]) 1 hF hW rfl rfl rfl T22 rfl rfl rfl rfl rfl (fun w hW => ?_)
        refine ls_nil ?_
        refine c_then ?_
        refine wp_ret ?_
        refine postD_ret (.inl rfl) hF ?_
        have hW := hW.frontM (i := 1) rfl rfl
        have hW := hW.frontM (i := 2) rfl rfl
        refine leavesG (Ml := [(b1, [.int .i64 x9.1]), (b2, [.int .i64 0])]) (Zl := []) (M := [(b3, [v6])]) (Z := [row v6 3 (Rp.int .i64) x9.2]) (β := Unit) (u' := .returning) (MM := fun x => [(b1, [.int .i64 x9.1]), (b2, [.int .i64 0])]) (ZZ := fun x => []) hW H37 (by simp) (fun hL => tick_Eval_1_idle_c _ _ w b1 b2 x9.1 0 _ rfl hL) (fun _ w hW => ?_)
        have hW : Stw ⟨Y, [], w0⟩ [(b1, [.int .i64 x9.1]), (b2, [.int .i64 0]), (b3, [v6])] [row v6 3 (Rp.int .i64) x9.2] w := hW
        have H := Option.some.inj H
        subst H
        refine leaves2 hW rfl (rv_cell 0 hF rfl rfl T3 rfl) (rv_cell 1 hF rfl rfl T22 rfl) ?_
        exact ⟨rfl, hW.done⟩
      ·
        have H := altR H
        refine l_callP (Ml := [(b3, [v2])]) (Zl := [row v2 3 (Rp.int .i64) x1]) (M := [(b2, [.int .i64 0]), (b1, [.int .i64 0])]) (Z := []) (β := Value) (pv := fun x => .iface 54 (.agg #[.int .i64 2])) (MM := fun x => [(b3, [x])]) (ZZ := fun x => [row x 3 (Rp.int .i64) x10]) hF hW H39 rfl (fun hL => tick_stack_pop_c _ _ w b3 (v2) x1 _ h3 hL) (fun x w hW => ?_)
        obtain ⟨v7, rfl⟩ : ∃ y, y = x := ⟨x, rfl⟩
        have hW : Stw ⟨Y, [], w0⟩ [(b3, [v7]), (b2, [.int .i64 0]), (b1, [.int .i64 0])] [row v7 3 (Rp.int .i64) x10] w := hW
        refine p_then ?_
        refine postD_panic hF ?_
        have hW := hW.frontM (i := 1) rfl rfl
        have hW := hW.frontM (i := 2) rfl rfl
        refine leavesG (Ml := [(b1, [.int .i64 0]), (b2, [.int .i64 0])]) (Zl := []) (M := [(b3, [v7])]) (Z := [row v7 3 (Rp.int .i64) x10]) (β := Unit) (u' := (.panicking ({ v := .iface 54 (.agg #[.int .i64 2]), recovered := true } :: []))) (MM := fun x => [(b1, [.int .i64 ((tick_Eval_1_catch 0 0 2).1)]), (b2, [.int .i64 ((tick_Eval_1_catch 0 0 2).2)])]) (ZZ := fun x => []) hW H37 (by simp) (fun hL => tick_Eval_1_catch_c _ _ w b1 b2 0 0 2 _ rfl hL) (fun _ w hW => ?_)
        have hW : Stw ⟨Y, [], w0⟩ [(b1, [.int .i64 ((tick_Eval_1_catch 0 0 2).1)]), (b2, [.int .i64 ((tick_Eval_1_catch 0 0 2).2)]), (b3, [v7])] [row v7 3 (Rp.int .i64) x10] w := hW
        have H := Option.some.inj H
        subst H
        refine leaves2 hW rfl (rv_cell 0 hF rfl rfl T3 rfl) (rv_cell 1 hF rfl rfl T22 rfl) ?_
        exact ⟨rfl, hW.done⟩

theorem H21 : Has Try.prog 21 := ⟨fun args w => run_callFunc_body Try.func21 rfl (by decide) args w⟩
def tick_Add_1_idle (p0 : Int) (p1 : Int) : Unit := ()
theorem tick_Add_1_idle_c (Y : Nat → Prop) (X : List Nat) (w0 : World) (q_p0 : Nat) (q_p1 : Nat) (p0 : Int) (p1 : Int) (r : Unit) (H : tick_Add_1_idle p0 p1 = r) (hL : Stw ⟨Y, X, w0⟩ [(q_p0, [.int .i64 p0]), (q_p1, [.int .i64 p1])] [] w0) :
    CallsD Try.prog 24 #[.pointer (some ⟨q_p0, 0, none⟩), .pointer (some ⟨q_p1, 0, none⟩)] .returning w0 fun e u' w' => u' = .returning ∧ (∃ x : Unit, e = .returned (.tuple #[]) ∧ Stw ⟨Y, X, w0⟩ [(q_p0, [.int .i64 p0]), (q_p1, [.int .i64 p1])] [] w') := by
  refine rec_returning Try.func24 rfl Try.ntmps24 rfl rfl rfl (fun a hF => ?_)
  have hW := hL
  unfold tick_Add_1_idle at H
  refine c_seq ?_
  refine reg_list ?_
  refine ls hF hW rfl ((y_move hF rfl).q) (fun a w hF hW => ?_)
  refine ls hF hW rfl ((y_neqnil_nil Try.underlying20 hF rfl).q) (fun a w hF hW => ?_)
  refine ls_nil ?_
  refine c_then ?_
  refine c_cond_f hF rfl ?_
  refine wp_skip ?_
  subst H
  refine post0 (.inr rfl) hF rfl ?_
  have hW := hW.frontM (i := 1) rfl rfl
  have hW := hW.frontM (i := 1) rfl rfl
  exact ⟨(), rfl, hW⟩

theorem H24 : Has Try.prog 24 := ⟨fun args w => run_callFunc_body Try.func24 rfl (by decide) args w⟩
def tick_Add_1_catch (p0 : Int) (p1 : Int) (pc : Int) : Int × Int := (0, (tick_cause pc))
theorem tick_Add_1_catch_c (Y : Nat → Prop) (X : List Nat) (w0 : World) (q_p0 : Nat) (q_p1 : Nat) (p0 : Int) (p1 : Int) (pc : Int) (r : Int × Int) (H : tick_Add_1_catch p0 p1 pc = r) (hL : Stw ⟨Y, X, w0⟩ [(q_p0, [.int .i64 p0]), (q_p1, [.int .i64 p1])] [] w0) :
    CallsD Try.prog 24 #[.pointer (some ⟨q_p0, 0, none⟩), .pointer (some ⟨q_p1, 0, none⟩)] (.panicking ({ v := .iface 54 (.agg #[.int .i64 pc]), recovered := false } :: [])) w0 fun e u' w' => u' = .panicking ({ v := .iface 54 (.agg #[.int .i64 pc]), recovered := true } :: []) ∧ (∃ x : Unit, e = .returned (.tuple #[]) ∧ Stw ⟨Y, X, w0⟩ [(q_p0, [.int .i64 r.1]), (q_p1, [.int .i64 r.2])] [] w') := by
  refine rec_panicking Try.func24 rfl Try.ntmps24 rfl rfl rfl (fun a hF => ?_)
  have hW := hL
  unfold tick_Add_1_catch at H
  refine c_seq ?_
  refine reg_list ?_
  refine ls hF hW rfl ((y_move hF rfl).q) (fun a w hF hW => ?_)
  refine ls hF hW rfl ((y_neqnil_some Try.underlying20 hF rfl).q) (fun a w hF hW => ?_)
  refine ls_nil ?_
  refine c_then ?_
  refine c_cond_t hF rfl ?_
  refine reg_list ?_
  refine ls hF hW rfl ((y_move hF rfl).q) (fun a w hF hW => ?_)
  refine ls hF hW rfl (y_call (v := Value.int .i64 (tick_cause pc)) hF H25 rfl (fun w hW => tick_cause_c any w pc _ rfl)) (fun a w hF hW => ?_)
  refine l_store (vs := [.int .i64 0]) (M' := [(q_p0, [.int .i64 0]), (q_p1, [.int .i64 p1])]) 0 hF hW rfl rfl rfl T3 rfl rfl rfl rfl rfl (fun w hW => ?_)
  refine l_store (vs := [.int .i64 (tick_cause pc)]) (M' := [(q_p0, [.int .i64 0]), (q_p1, [.int .i64 (tick_cause pc)])]) 1 hF hW rfl rfl rfl T22 rfl rfl rfl rfl rfl (fun w hW => ?_)
  refine ls_nil ?_
  subst H
  refine post0 (.inr rfl) hF rfl ?_
  have hW := hW.frontM (i := 1) rfl rfl
  have hW := hW.frontM (i := 1) rfl rfl
  exact ⟨(), rfl, hW⟩

noncomputable def tick_Add (p0 : Int) (p1 : Int) : Option (Int × Int) := (tick_add p0 p1).bind fun x1 => altS x1 (fun x2 => some (x2, 0)) (fun x3 => some ((tick_Add_1_catch 0 0 11).1, (tick_Add_1_catch 0 0 11).2))
theorem tick_Add_c (Y : Nat → Prop) (w0 : World)  (p0 : Int) (p1 : Int) (r : Int × Int) (H : tick_Add p0 p1 = some r)  :
    Calls Try.prog 8 #[.int .i64 p0, .int .i64 p1] w0 fun e w' => e = .returned (.tuple #[.int .i64 r.1, .int .i64 r.2]) ∧ Below w0.heap.size w0 w' := by
  refine enterD Try.func8 rfl Try.ntmps8 rfl (fun a hF => ?_)
  have hW := Stw.start Y w0
  unfold tick_Add at H
  refine c_seq ?_
  refine reg_list ?_
  refine l_alloc (cs := [.int .i64 0]) hF hW rfl Z3 rfl (fun b1 a w hF hW => ?_)
  refine l_alloc (cs := [.int .i64 0]) hF hW rfl Z22 rfl (fun b2 a w hF hW => ?_)
  refine ls_nil ?_
  refine c_then ?_
  refine c_seq ?_
  refine reg_list ?_
  refine ls hF hW rfl ((y_makeFunc (us := []) (vs := [.pointer (some ⟨b1, 0, none⟩), .pointer (some ⟨b2, 0, none⟩)]) hF rfl rfl).q) (fun a w hF hW => ?_)
  refine l_defer (vs := [.pointer (some ⟨b1, 0, none⟩), .pointer (some ⟨b2, 0, none⟩)]) hF rfl (fun a hF => ?_)
  refine ls_nil ?_
  refine c_then ?_
  refine c_seq ?_
  refine reg_list ?_
  refine ls hF hW rfl ((y_move hF rfl).q) (fun a w hF hW => ?_)
  refine ls hF hW rfl ((y_move hF rfl).q) (fun a w hF hW => ?_)
  obtain ⟨x1, h1, H⟩ := bindE H
  rcases x1 with x2 | x3
  ·
    have H := altL H
    refine l_callG (Ml := []) (Zl := []) (M := [(b2, [.int .i64 0]), (b1, [.int .i64 0])]) (Z := []) (β := Unit) (rv := fun x => .int .i64 x2) (MM := fun x => []) (ZZ := fun x => []) hF hW H26 rfl rfl (fun hL => tick_add_c _ w p0 p1 _ h1) (fun x a w hF hW => ?_)
    have hW : Stw ⟨Y, [], w0⟩ [(b2, [.int .i64 0]), (b1, [.int .i64 0])] [] w := hW
    refine l_store (vs := [.int .i64 x2]) (M' := [(b2, [.int .i64 0]), (b1, [.int .i64 x2])]) 1 hF hW rfl rfl rfl T3 rfl rfl rfl rfl rfl (fun w hW => ?_)
    refine l_store (vs := [.int .i64 0]) (M' := [(b2, [.int .i64 0]), (b1, [.int .i64 x2])]) 0 hF hW rfl rfl rfl T22 rfl rfl rfl rfl rfl (fun w hW => ?_)
    refine ls_nil ?_
    refine c_then ?_
    refine wp_ret ?_
    refine postD_ret (.inl rfl) hF ?_
    have hW := hW.frontM (i := 1) rfl rfl
    refine leavesG (Ml := [(b1, [.int .i64 x2]), (b2, [.int .i64 0])]) (Zl := []) (M := []) (Z := []) (β := Unit) (u' := .returning) (MM := fun x => [(b1, [.int .i64 x2]), (b2, [.int .i64 0])]) (ZZ := fun x => []) hW H24 (by simp) (fun hL => tick_Add_1_idle_c _ _ w b1 b2 x2 0 _ rfl hL) (fun _ w hW => ?_)
    have hW : Stw ⟨Y, [], w0⟩ [(b1, [.int .i64 x2]), (b2, [.int .i64 0])] [] w := hW
    have H := Option.some.inj H
    subst H
    refine leaves2 hW rfl (rv_cell 0 hF rfl rfl T3 rfl) (rv_cell 1 hF rfl rfl T22 rfl) ?_
    exact ⟨rfl, hW.done⟩
  ·
    have H := altR H
    refine l_callP (Ml := []) (Zl := []) (M := [(b2, [.int .i64 0]), (b1, [.int .i64 0])]) (Z := []) (β := Unit) (pv := fun x => .iface 54 (.agg #[.int .i64 11])) (MM := fun x => []) (ZZ := fun x => []) hF hW H26 rfl (fun hL => tick_add_c _ w p0 p1 _ h1) (fun x w hW => ?_)
    have hW : Stw ⟨Y, [], w0⟩ [(b2, [.int .i64 0]), (b1, [.int .i64 0])] [] w := hW
    refine p_then ?_
    refine postD_panic hF ?_
    have hW := hW.frontM (i := 1) rfl rfl
    refine leavesG (Ml := [(b1, [.int .i64 0]), (b2, [.int .i64 0])]) (Zl := []) (M := []) (Z := []) (β := Unit) (u' := (.panicking ({ v := .iface 54 (.agg #[.int .i64 11]), recovered := true } :: []))) (MM := fun x => [(b1, [.int .i64 ((tick_Add_1_catch 0 0 11).1)]), (b2, [.int .i64 ((tick_Add_1_catch 0 0 11).2)])]) (ZZ := fun x => []) hW H24 (by simp) (fun hL => tick_Add_1_catch_c _ _ w b1 b2 0 0 11 _ rfl hL) (fun _ w hW => ?_)
    have hW : Stw ⟨Y, [], w0⟩ [(b1, [.int .i64 ((tick_Add_1_catch 0 0 11).1)]), (b2, [.int .i64 ((tick_Add_1_catch 0 0 11).2)])] [] w := hW
    have H := Option.some.inj H
    subst H
    refine leaves2 hW rfl (rv_cell 0 hF rfl rfl T3 rfl) (rv_cell 1 hF rfl rfl T22 rfl) ?_
    exact ⟨rfl, hW.done⟩

theorem H8 : Has Try.prog 8 := ⟨fun args w => run_callFunc_body Try.func8 rfl (by decide) args w⟩
noncomputable def L01_awake  : Option Bool := (tick_Eval ([(1, 3), (1, 4), (4, 0), (7, 0)] : List (Int × Int))).bind fun x1 => (tick_Add 1125899906842624 1).bind fun x2 => some (decide (x1.1 = (-12)) && (decide (x1.2 = 0) && (decide (x2.1 = 0) && decide (x2.2 = 11))))
theorem L01_awake_c (Y : Nat → Prop) (w0 : World)   (r : Bool) (H : L01_awake  = some r)  :
    Calls Try.prog 20 #[] w0 fun e w' => e = .returned (.bool r) ∧ Below w0.heap.size w0 w' := by
  refine enter Try.func20 rfl Try.ntmps20 rfl (fun a hF => ?_)
  have hW := Stw.start Y w0
  unfold L01_awake at H
  refine c_seq ?_
  refine reg_list ?_
  refine ls hF hW rfl ((y_assign hF rfl).q) (fun a w hF hW => ?_)
  refine ls_nil ?_
  refine c_then ?_
  refine c_seq ?_
  refine reg_list ?_
  refine ls hF hW rfl ((y_build (v := Value.agg #[.int .i64 1, .int .i64 3]) B42 hF rfl rfl rfl).q) (fun a w hF hW => ?_)
  refine ls hF hW rfl ((y_build (v := Value.agg #[.int .i64 1, .int .i64 4]) B42 hF rfl rfl rfl).q) (fun a w hF hW => ?_)
  refine ls hF hW rfl ((y_build (v := Value.agg #[.int .i64 4, .int .i64 0]) B42 hF rfl rfl rfl).q) (fun a w hF hW => ?_)
  refine ls hF hW rfl ((y_build (v := Value.agg #[.int .i64 7, .int .i64 0]) B42 hF rfl rfl rfl).q) (fun a w hF hW => ?_)
  refine l_lit (z := Value.agg #[.int .i64 0, .int .i64 0]) (cs := [.int .i64 1, .int .i64 3, .int .i64 1, .int .i64 4, .int .i64 4, .int .i64 0, .int .i64 7, .int .i64 0]) R42 ([(1, 3), (1, 4), (4, 0), (7, 0)] : List (Int × Int)) hF hW rfl L37 Z42 rfl rfl rfl rfl rfl rfl (F42.repL _ _ ([(1, 3), (1, 4), (4, 0), (7, 0)] : List (Int × Int))) (fun v1 a w hF hW => ?_)
  obtain ⟨x1, h1, H⟩ := bindE H
  refine ls hF hW rfl (y_call (v := Value.tuple #[.int .i64 x1.1, .int .i64 x1.2]) hF H21 rfl (fun w hW => tick_Eval_c any w (v1) ([(1, 3), (1, 4), (4, 0), (7, 0)] : List (Int × Int)) _ h1 (((rdc_row 0 rfl) : Rdc _ _ _ _ _ _) w hW).nx)) (fun a w hF hW => ?_)
  refine ls hF hW rfl ((y_move hF rfl).q) (fun a w hF hW => ?_)
  refine ls hF hW rfl ((y_extract (v := Value.int .i64 x1.1) hF rfl rfl).q) (fun a w hF hW => ?_)
  refine ls hF hW rfl ((y_extract (v := Value.int .i64 x1.2) hF rfl rfl).q) (fun a w hF hW => ?_)
  refine ls hF hW rfl ((y_assign hF rfl).q) (fun a w hF hW => ?_)
  refine ls hF hW rfl ((y_assign hF rfl).q) (fun a w hF hW => ?_)
  refine ls_nil ?_
  refine c_then ?_
  refine c_seq ?_
  refine reg_list ?_
  obtain ⟨x2, h2, H⟩ := bindE H
  refine ls hF hW rfl (y_call (v := Value.tuple #[.int .i64 x2.1, .int .i64 x2.2]) hF H8 rfl (fun w hW => tick_Add_c any w 1125899906842624 1 _ h2)) (fun a w hF hW => ?_)
  refine ls hF hW rfl ((y_move hF rfl).q) (fun a w hF hW => ?_)
  refine ls hF hW rfl ((y_extract (v := Value.int .i64 x2.1) hF rfl rfl).q) (fun a w hF hW => ?_)
  refine ls hF hW rfl ((y_extract (v := Value.int .i64 x2.2) hF rfl rfl).q) (fun a w hF hW => ?_)
  refine ls hF hW rfl ((y_assign hF rfl).q) (fun a w hF hW => ?_)
  refine ls hF hW rfl ((y_assign hF rfl).q) (fun a w hF hW => ?_)
  refine ls_nil ?_
  refine c_then ?_
  refine c_seqJ (fun a w => Fr 32 [] [(0, .bool (decide (x1.1 = (-12)) && (decide (x1.2 = 0) && (decide (x2.1 = 0) && decide (x2.2 = 11)))))] a ∧ Stw ⟨Y, [], w0⟩ [] [row v1 42 R42 ([(1, 3), (1, 4), (4, 0), (7, 0)] : List (Int × Int))] w) ?_ ?_
  ·
    refine reg_list ?_
    refine ls hF hW rfl ((y_move hF rfl).q) (fun a w hF hW => ?_)
    refine ls hF hW rfl ((y_eql hF rfl rfl).q) (fun a w hF hW => ?_)
    refine ls hF hW rfl ((y_move hF rfl).q) (fun a w hF hW => ?_)
    rcases Bool.eq_false_or_eq_true (decide (x1.1 = (-12))) with hb0 | hb0
    ·
      rw [hb0] at hF
      refine ls_w hF hW (wanted_y hF rfl rfl rfl rfl) rfl (Nat.le_of_ble_eq_true rfl) ((y_move hF rfl).q) (fun a w hF hW => ?_)
      refine ls_w hF hW (wanted_y hF rfl rfl rfl rfl) rfl (Nat.le_of_ble_eq_true rfl) ((y_eql hF rfl rfl).q) (fun a w hF hW => ?_)
      refine ls hF hW rfl ((y_pick_t hF rfl rfl rfl).q) (fun a w hF hW => ?_)
      refine ls hF hW rfl ((y_move hF rfl).q) (fun a w hF hW => ?_)
      rcases Bool.eq_false_or_eq_true (decide (x1.2 = 0)) with hb1 | hb1
      ·
        rw [hb1] at hF
        refine ls_w hF hW (wanted_y hF rfl rfl rfl rfl) rfl (Nat.le_of_ble_eq_true rfl) ((y_move hF rfl).q) (fun a w hF hW => ?_)
        refine ls_w hF hW (wanted_y hF rfl rfl rfl rfl) rfl (Nat.le_of_ble_eq_true rfl) ((y_eql hF rfl rfl).q) (fun a w hF hW => ?_)
        refine ls hF hW rfl ((y_pick_t hF rfl rfl rfl).q) (fun a w hF hW => ?_)
        refine ls hF hW rfl ((y_move hF rfl).q) (fun a w hF hW => ?_)
        rcases Bool.eq_false_or_eq_true (decide (x2.1 = 0)) with hb2 | hb2
        ·
          rw [hb2] at hF
          refine ls_w hF hW (wanted_y hF rfl rfl rfl rfl) rfl (Nat.le_of_ble_eq_true rfl) ((y_move hF rfl).q) (fun a w hF hW => ?_)
          refine ls_w hF hW (wanted_y hF rfl rfl rfl rfl) rfl (Nat.le_of_ble_eq_true rfl) ((y_eql hF rfl rfl).q) (fun a w hF hW => ?_)
          refine ls hF hW rfl ((y_pick_t hF rfl rfl rfl).q) (fun a w hF hW => ?_)
          refine ls hF hW rfl ((y_assign hF rfl).q) (fun a w hF hW => ?_)
          refine ls_nil ?_
          refine c_then ?_
          exact ⟨hF.re ⟨(by show some (Value.bool (decide (x2.2 = 11))) = some (Value.bool (decide (x1.1 = (-12)) && (decide (x1.2 = 0) && (decide (x2.1 = 0) && decide (x2.2 = 11))))); try rw [hb0]; try rw [hb1]; try rw [hb2]; all_goals simp only [Bool.not_true, Bool.not_false, Bool.true_and, Bool.false_and, Bool.true_or, Bool.false_or, Bool.and_true, Bool.or_false, cond_true, cond_false]), trivial⟩, hW⟩
        ·
          rw [hb2] at hF
          refine ls_skip hF (wanted_n hF rfl rfl rfl rfl rfl) rfl rfl (fun a hF => ?_)
          refine ls_skip hF (wanted_n hF rfl rfl rfl rfl rfl) rfl rfl (fun a hF => ?_)
          refine ls hF hW rfl ((y_pick_f hF rfl rfl rfl).q) (fun a w hF hW => ?_)
          refine ls hF hW rfl ((y_assign hF rfl).q) (fun a w hF hW => ?_)
          refine ls_nil ?_
          refine c_then ?_
          exact ⟨hF.re ⟨(by show some (Value.bool false) = some (Value.bool (decide (x1.1 = (-12)) && (decide (x1.2 = 0) && (decide (x2.1 = 0) && decide (x2.2 = 11))))); try rw [hb0]; try rw [hb1]; try rw [hb2]; all_goals simp only [Bool.not_true, Bool.not_false, Bool.true_and, Bool.false_and, Bool.true_or, Bool.false_or, Bool.and_true, Bool.or_false, cond_true, cond_false]), trivial⟩, hW⟩
      ·
        rw [hb1] at hF
        refine ls_skip hF (wanted_n hF rfl rfl rfl rfl rfl) rfl rfl (fun a hF => ?_)
        refine ls_skip hF (wanted_n hF rfl rfl rfl rfl rfl) rfl rfl (fun a hF => ?_)
        refine ls hF hW rfl ((y_pick_f hF rfl rfl rfl).q) (fun a w hF hW => ?_)
        refine ls hF hW rfl ((y_move hF rfl).q) (fun a w hF hW => ?_)
        refine ls_skip hF (wanted_n hF rfl rfl rfl rfl rfl) rfl rfl (fun a hF => ?_)
        refine ls_skip hF (wanted_n hF rfl rfl rfl rfl rfl) rfl rfl (fun a hF => ?_)
        refine ls hF hW rfl ((y_pick_f hF rfl rfl rfl).q) (fun a w hF hW => ?_)
        refine ls hF hW rfl ((y_assign hF rfl).q) (fun a w hF hW => ?_)
        refine ls_nil ?_
        refine c_then ?_
        exact ⟨hF.re ⟨(by show some (Value.bool false) = some (Value.bool (decide (x1.1 = (-12)) && (decide (x1.2 = 0) && (decide (x2.1 = 0) && decide (x2.2 = 11))))); try rw [hb0]; try rw [hb1]; all_goals simp only [Bool.not_true, Bool.not_false, Bool.true_and, Bool.false_and, Bool.true_or, Bool.false_or, Bool.and_true, Bool.or_false, cond_true, cond_false]), trivial⟩, hW⟩
    ·
      rw [hb0] at hF
      refine ls_skip hF (wanted_n hF rfl rfl rfl rfl rfl) rfl rfl (fun a hF => ?_)
      refine ls_skip hF (wanted_n hF rfl rfl rfl rfl rfl) rfl rfl (fun a hF => ?_)
      refine ls hF hW rfl ((y_pick_f hF rfl rfl rfl).q) (fun a w hF hW => ?_)
      refine ls hF hW rfl ((y_move hF rfl).q) (fun a w hF hW => ?_)
      refine ls_skip hF (wanted_n hF rfl rfl rfl rfl rfl) rfl rfl (fun a hF => ?_)
      refine ls_skip hF (wanted_n hF rfl rfl rfl rfl rfl) rfl rfl (fun a hF => ?_)
      refine ls hF hW rfl ((y_pick_f hF rfl rfl rfl).q) (fun a w hF hW => ?_)
      refine ls hF hW rfl ((y_move hF rfl).q) (fun a w hF hW => ?_)
      refine ls_skip hF (wanted_n hF rfl rfl rfl rfl rfl) rfl rfl (fun a hF => ?_)
      refine ls_skip hF (wanted_n hF rfl rfl rfl rfl rfl) rfl rfl (fun a hF => ?_)
      refine ls hF hW rfl ((y_pick_f hF rfl rfl rfl).q) (fun a w hF hW => ?_)
      refine ls hF hW rfl ((y_assign hF rfl).q) (fun a w hF hW => ?_)
      refine ls_nil ?_
      refine c_then ?_
      exact ⟨hF.re ⟨(by show some (Value.bool false) = some (Value.bool (decide (x1.1 = (-12)) && (decide (x1.2 = 0) && (decide (x2.1 = 0) && decide (x2.2 = 11))))); try rw [hb0]; all_goals simp only [Bool.not_true, Bool.not_false, Bool.true_and, Bool.false_and, Bool.true_or, Bool.false_or, Bool.and_true, Bool.or_false, cond_true, cond_false]), trivial⟩, hW⟩
  rintro a w ⟨hF, hW⟩
  refine wp_ret ?_
  have H := Option.some.inj H
  subst H
  refine post1 (.inl rfl) hF hW rfl (rv_tmp hF rfl) ?_
  exact ⟨rfl, hW.done⟩

theorem H20 : Has Try.prog 20 := ⟨fun args w => run_callFunc_body Try.func20 rfl (by decide) args w⟩
theorem MO : Try.prog.follows .mixedOrders = true := by kernel_rfl
theorem L35 : Et Try.prog 35 52 2 16 := Et.of Try.underlying35 (by kernel_rfl) (by kernel_rfl) (by kernel_rfl) (by decide)
def E52 (a : Int × Int) : List Value := [.int .i64 a.1, .int .i64 a.2]
theorem F52 : Fl R52 E52 := (Fl.pair Fl.int Fl.int)
noncomputable def L01_mine_l1 (p0 : List (Int × Int)) : ((List (Int × Int)) × Int) → Option (((List (Int × Int)) × Int) ⊕ (List (Int × Int)))
  | (x2, x3) => (if x3 < (p0.length : Int) then (ix p0 x3).bind fun x4 => (ix p0 x3).bind fun x5 => (app x2 ([(x4.1, x5.2)] : List (Int × Int))).bind fun x6 => some (.inl (x6, w64 (x3 + 1))) else some (.inr x2))
noncomputable def L01_mine (p0 : List (Int × Int)) : Option (List (Int × Int)) := (loopW (L01_mine_l1 p0) ([], 0)).bind fun x1 => some x1
theorem L01_mine_c (Y : Nat → Prop) (w0 : World) (v1 : Value) (p0 : List (Int × Int)) (r : (List (Int × Int))) (H : L01_mine p0 = some r) (h_v1 : Sl w0 (NX []) R52 v1 p0) :
    Calls Try.prog 22 #[v1] w0 fun e w' => ∃ x : Value, e = .returned (x) ∧ Stw ⟨Y, [], w0⟩ [] [row (x) 42 R42 r] w' := by
  refine enter Try.func22 rfl Try.ntmps22 rfl (fun a hF => ?_)
  have hW := Stw.start Y w0
  unfold L01_mine at H
  refine c_seq ?_
  refine reg_list ?_
  refine ls hF hW rfl ((y_assign hF rfl).q) (fun a w hF hW => ?_)
  refine ls_nil ?_
  refine c_then ?_
  refine c_seq ?_
  refine reg_list ?_
  refine ls hF hW rfl ((y_assign hF rfl).q) (fun a w hF hW => ?_)
  refine ls_nil ?_
  refine c_then ?_
  obtain ⟨o1, G1, K1⟩ := bindE H
  refine c_seqJ (fun a w => ∃ x1 : List (Int × Int), ∃ v2 : Value, some (x1) = some o1 ∧ Fr 26 [] [(2, .slice none 0 0), (3, v2)] a ∧ Stw ⟨Y, [], w0⟩ [] [row v2 42 R42 x1] w) ?_ ?_
  ·
    have H := G1
    clear G1 K1
    refine c_seq ?_
    refine reg_list ?_
    refine ls hF hW rfl ((y_assign hF rfl).q) (fun a w hF hW => ?_)
    refine ls_nil ?_
    refine c_then ?_
    refine wp_block ?_
    have hW := hW.nilRow 42 R42
    refine c_loopW H (fun s a w => ∃ v3 : Value, Fr 26 [] [(0, v1), (2, .slice none 0 0), (3, v3), (4, .int .i64 s.2)] a ∧ Stw ⟨Y, [], w0⟩ [] [row v3 42 R42 s.1] w) ⟨(Value.slice none 0 0), hF.re ⟨rfl, rfl, rfl, rfl, trivial⟩, hW⟩ (fun s o a w H L2 hR => ?_)
    obtain ⟨x2, x3⟩ := s
    obtain ⟨v3, hF, hW⟩ := hR
    have hF : Fr 26 [] [(0, v1), (2, .slice none 0 0), (3, v3), (4, .int .i64 x3)] a := hF
    have hW : Stw ⟨Y, [], w0⟩ [] [row v3 42 R42 x2] w := hW
    rw [L01_mine_l1] at H
    refine c_seq ?_
    refine c_seq ?_
    refine reg_list ?_
    refine ls hF hW rfl ((y_move hF rfl).q) (fun a w hF hW => ?_)
    refine ls hF hW rfl ((y_move hF rfl).q) (fun a w hF hW => ?_)
    refine ls hF hW rfl ((y_len (r := R52) (l := p0) Try.underlying35 rfl hF rfl (rdc_ro h_v1)).q) (fun a w hF hW => ?_)
    refine ls hF hW rfl ((y_lss hF rfl rfl).q) (fun a w hF hW => ?_)
    refine ls_nil ?_
    refine c_then ?_
    refine c_cond hF rfl (fun hb => ?_) (fun hb => ?_)
    ·
      have H := iteT (of_decide_eq_true hb) H
      rw [hb] at hF
      clear hb
      refine wp_skip ?_
      refine c_then ?_
      refine c_seq ?_
      refine wp_block ?_
      refine reg_ord 12 [0] [1, 2, 3, 4, 5, 6, 7, 8, 9, 10, 11] (fun ch a d v w h => by cases d <;> exact h) hW MO (by kernel_rfl) ?_
      refine hm hF rfl rfl rfl (fun a hF => ?_)
      refine hm_end ?_
      refine hs hF rfl rfl rfl ((y_move hF rfl).q) (fun a hF => ?_)
      refine hs hF rfl rfl rfl ((y_move hF rfl).q) (fun a hF => ?_)
      obtain ⟨x4, h1, H⟩ := bindE H
      refine hs hF rfl rfl rfl ((y_index (r := R52) L35 hF rfl rfl (rdc_ro h_v1) h1).q) (fun a hF => ?_)
      refine hs hF rfl rfl rfl ((y_fieldAddr Try.underlying52 rfl rfl rfl T3 hF rfl (voff v1 + (x3).toNat * 2) rfl).q) (fun a hF => ?_)
      refine hs hF rfl rfl rfl ((y_load_el (y := Value.int .i64 x4.1) (j := 0) (i := x3) hF rfl rfl (rdc_ro h_v1) h1 F52.to T3 rfl).q) (fun a hF => ?_)
      refine hs hF rfl rfl rfl ((y_move hF rfl).q) (fun a hF => ?_)
      refine hs hF rfl rfl rfl ((y_move hF rfl).q) (fun a hF => ?_)
      obtain ⟨x5, h2, H⟩ := bindE H
      refine hs hF rfl rfl rfl ((y_index (r := R52) L35 hF rfl rfl (rdc_ro h_v1) h2).q) (fun a hF => ?_)
      refine hs hF rfl rfl rfl ((y_fieldAddr Try.underlying52 rfl rfl rfl T3 hF rfl (voff v1 + (x3).toNat * 2 + 1) rfl).q) (fun a hF => ?_)
      refine hs hF rfl rfl rfl ((y_load_el (y := Value.int .i64 x5.2) (j := 1) (i := x3) hF rfl rfl (rdc_ro h_v1) h2 F52.to T3 rfl).q) (fun a hF => ?_)
      refine hs hF rfl rfl rfl ((y_build (v := Value.agg #[.int .i64 x4.1, .int .i64 x5.2]) B42 hF rfl rfl rfl).q) (fun a hF => ?_)
      refine h_end (fun w hW => ?_)
      have hW : Stw ⟨Y, [], w0⟩ [] [row v3 42 R42 x2] w := hW
      refine l_lit (z := Value.agg #[.int .i64 0, .int .i64 0]) (cs := [.int .i64 x4.1, .int .i64 x5.2]) R42 ([(x4.1, x5.2)] : List (Int × Int)) hF hW rfl L37 Z42 rfl rfl rfl rfl rfl rfl (F42.repL _ _ ([(x4.1, x5.2)] : List (Int × Int))) (fun v4 a w hF hW => ?_)
      obtain ⟨x6, h3, H⟩ := bindE H
      refine l_append (r := R42) (i := 1) hF hW rfl L37 rfl rfl rfl rfl (src_row hW 0 rfl) h3 rfl (fun v5 a w hF hW => ?_)
      have hW : Stw ⟨Y, [], w0⟩ [] [row v5 42 R42 x6, row v4 42 R42 ([(x4.1, x5.2)] : List (Int × Int))] w := hW
      refine ls hF hW rfl ((y_assign hF rfl).q) (fun a w hF hW => ?_)
      refine ls_nil ?_
      refine b_normal ?_
      refine c_then ?_
      refine reg_list ?_
      refine ls hF hW rfl ((y_move hF rfl).q) (fun a w hF hW => ?_)
      refine ls hF hW rfl ((y_add hF rfl rfl rfl).q) (fun a w hF hW => ?_)
      refine ls hF hW rfl ((y_assign hF rfl).q) (fun a w hF hW => ?_)
      refine ls_nil ?_
      refine c_then ?_
      have hW := hW.sub (M' := []) (Z' := [row v5 42 R42 x6]) (List.Sublist.refl _) (List.Sublist.cons_cons _ (List.nil_sublist _))
      exact ⟨_, H, (v5), hF.re ⟨rfl, rfl, rfl, rfl, trivial⟩, hW⟩
    ·
      have H := iteF (of_decide_eq_false hb) H
      rw [hb] at hF
      clear hb
      refine wp_exit ?_
      refine e_then ?_
      refine e_then ?_
      refine e_block ?_
      refine c_then ?_
      have H := L2 _ H
      exact ⟨_, (v3), H, hF.re ⟨rfl, rfl, trivial⟩, hW⟩
  rintro a w ⟨x1, v2, hj, hF, hW⟩
  have hj := Option.some.inj hj
  subst hj
  have H := K1
  clear G1 K1
  refine c_seq ?_
  refine reg_list ?_
  refine ls hF hW rfl ((y_move hF rfl).q) (fun a w hF hW => ?_)
  refine ls hF hW rfl ((y_assign hF rfl).q) (fun a w hF hW => ?_)
  refine ls_nil ?_
  refine c_then ?_
  refine wp_ret ?_
  have H := Option.some.inj H
  subst H
  refine post1 (.inl rfl) hF hW rfl (rv_tmp hF rfl) ?_
  exact ⟨(v2), rfl, hW⟩

theorem H22 : Has Try.prog 22 := ⟨fun args w => run_callFunc_body Try.func22 rfl (by decide) args w⟩
def r01_Time (p0 : Int) : Bool := (decide ((-1125899906842624) ≤ p0) && decide (p0 ≤ 1125899906842624))
theorem r01_Time_c (Y : Nat → Prop) (w0 : World)  (p0 : Int) (r : Bool) (H : r01_Time p0 = r)  :
    Calls Try.prog 27 #[.int .i64 p0] w0 fun e w' => e = .returned (.bool r) ∧ Below w0.heap.size w0 w' := by
  refine enter Try.func27 rfl Try.ntmps27 rfl (fun a hF => ?_)
  have hW := Stw.start Y w0
  unfold r01_Time at H
  refine c_seq ?_
  refine reg_list ?_
  refine ls hF hW rfl ((y_assign hF rfl).q) (fun a w hF hW => ?_)
  refine ls_nil ?_
  refine c_then ?_
  refine c_seqJ (fun a w => Fr 9 [] [(2, .bool (decide ((-1125899906842624) ≤ p0) && decide (p0 ≤ 1125899906842624)))] a ∧ Stw ⟨Y, [], w0⟩ [] [] w) ?_ ?_
  ·
    refine reg_list ?_
    refine ls hF hW rfl ((y_move hF rfl).q) (fun a w hF hW => ?_)
    refine ls hF hW rfl ((y_geq hF rfl rfl).q) (fun a w hF hW => ?_)
    refine ls hF hW rfl ((y_move hF rfl).q) (fun a w hF hW => ?_)
    rcases Bool.eq_false_or_eq_true (decide ((-1125899906842624) ≤ p0)) with hb0 | hb0
    ·
      rw [hb0] at hF
      refine ls_w hF hW (wanted_y hF rfl rfl rfl rfl) rfl (Nat.le_of_ble_eq_true rfl) ((y_move hF rfl).q) (fun a w hF hW => ?_)
      refine ls_w hF hW (wanted_y hF rfl rfl rfl rfl) rfl (Nat.le_of_ble_eq_true rfl) ((y_leq hF rfl rfl).q) (fun a w hF hW => ?_)
      refine ls hF hW rfl ((y_pick_t hF rfl rfl rfl).q) (fun a w hF hW => ?_)
      refine ls hF hW rfl ((y_assign hF rfl).q) (fun a w hF hW => ?_)
      refine ls_nil ?_
      refine c_then ?_
      exact ⟨hF.re ⟨(by show some (Value.bool (decide (p0 ≤ 1125899906842624))) = some (Value.bool (decide ((-1125899906842624) ≤ p0) && decide (p0 ≤ 1125899906842624))); try rw [hb0]; all_goals simp only [Bool.not_true, Bool.not_false, Bool.true_and, Bool.false_and, Bool.true_or, Bool.false_or, Bool.and_true, Bool.or_false, cond_true, cond_false]), trivial⟩, hW⟩
    ·
      rw [hb0] at hF
      refine ls_skip hF (wanted_n hF rfl rfl rfl rfl rfl) rfl rfl (fun a hF => ?_)
      refine ls_skip hF (wanted_n hF rfl rfl rfl rfl rfl) rfl rfl (fun a hF => ?_)
      refine ls hF hW rfl ((y_pick_f hF rfl rfl rfl).q) (fun a w hF hW => ?_)
      refine ls hF hW rfl ((y_assign hF rfl).q) (fun a w hF hW => ?_)
      refine ls_nil ?_
      refine c_then ?_
      exact ⟨hF.re ⟨(by show some (Value.bool false) = some (Value.bool (decide ((-1125899906842624) ≤ p0) && decide (p0 ≤ 1125899906842624))); try rw [hb0]; all_goals simp only [Bool.not_true, Bool.not_false, Bool.true_and, Bool.false_and, Bool.true_or, Bool.false_or, Bool.and_true, Bool.or_false, cond_true, cond_false]), trivial⟩, hW⟩
  rintro a w ⟨hF, hW⟩
  refine wp_ret ?_
  subst H
  refine post1 (.inl rfl) hF hW rfl (rv_tmp hF rfl) ?_
  exact ⟨rfl, hW.done⟩

theorem H27 : Has Try.prog 27 := ⟨fun args w => run_callFunc_body Try.func27 rfl (by decide) args w⟩
def r01_Neg (p0 : Int) : Int × Int := (if (!(r01_Time p0)) = true then (0, 11) else (w64 (0 - p0), 0))
theorem r01_Neg_c (Y : Nat → Prop) (w0 : World)  (p0 : Int) (r : Int × Int) (H : r01_Neg p0 = r)  :
    Calls Try.prog 15 #[.int .i64 p0] w0 fun e w' => e = .returned (.tuple #[.int .i64 r.1, .int .i64 r.2]) ∧ Below w0.heap.size w0 w' := by
  refine enter Try.func15 rfl Try.ntmps15 rfl (fun a hF => ?_)
  have hW := Stw.start Y w0
  unfold r01_Neg at H
  refine c_seq ?_
  refine reg_list ?_
  refine ls hF hW rfl ((y_assign hF rfl).q) (fun a w hF hW => ?_)
  refine ls hF hW rfl ((y_assign hF rfl).q) (fun a w hF hW => ?_)
  refine ls_nil ?_
  refine c_then ?_
  refine c_seq ?_
  refine c_seq ?_
  refine reg_list ?_
  refine ls hF hW rfl ((y_move hF rfl).q) (fun a w hF hW => ?_)
  refine ls hF hW rfl (y_call (v := Value.bool (r01_Time p0)) hF H27 rfl (fun w hW => r01_Time_c any w p0 _ rfl)) (fun a w hF hW => ?_)
  refine ls hF hW rfl ((y_not hF rfl).q) (fun a w hF hW => ?_)
  refine ls_nil ?_
  refine c_then ?_
  refine c_cond hF rfl (fun hb => ?_) (fun hb => ?_)
  ·
    have H := iteT hb H
    rw [hb] at hF
    clear hb
    refine c_seq ?_
    refine reg_list ?_
    refine ls hF hW rfl ((y_assign hF rfl).q) (fun a w hF hW => ?_)
    refine ls hF hW rfl ((y_assign hF rfl).q) (fun a w hF hW => ?_)
    refine ls_nil ?_
    refine c_then ?_
    refine wp_ret ?_
    refine r_then ?_
    subst H
    refine post2 (.inl rfl) hF hW rfl (rv_tmp hF rfl) (rv_tmp hF rfl) ?_
    exact ⟨rfl, hW.done⟩
  ·
    have H := iteF (by rw [hb]; decide) H
    rw [hb] at hF
    clear hb
    refine wp_skip ?_
    refine c_then ?_
    refine c_seq ?_
    refine reg_list ?_
    refine ls hF hW rfl ((y_move hF rfl).q) (fun a w hF hW => ?_)
    refine ls hF hW rfl ((y_sub hF rfl rfl rfl).q) (fun a w hF hW => ?_)
    refine ls hF hW rfl ((y_assign hF rfl).q) (fun a w hF hW => ?_)
    refine ls hF hW rfl ((y_assign hF rfl).q) (fun a w hF hW => ?_)
    refine ls_nil ?_
    refine c_then ?_
    refine wp_ret ?_
    subst H
    refine post2 (.inl rfl) hF hW rfl (rv_tmp hF rfl) (rv_tmp hF rfl) ?_
    exact ⟨rfl, hW.done⟩

theorem H15 : Has Try.prog 15 := ⟨fun args w => run_callFunc_body Try.func15 rfl (by decide) args w⟩
def r01_Add (p0 : Int) (p1 : Int) : Int × Int := (if (!(r01_Time p0) || (!(r01_Time p1) || !(r01_Time (w64 (p0 + p1))))) = true then (0, 11) else (w64 (p0 + p1), 0))
theorem r01_Add_c (Y : Nat → Prop) (w0 : World)  (p0 : Int) (p1 : Int) (r : Int × Int) (H : r01_Add p0 p1 = r)  :
    Calls Try.prog 9 #[.int .i64 p0, .int .i64 p1] w0 fun e w' => e = .returned (.tuple #[.int .i64 r.1, .int .i64 r.2]) ∧ Below w0.heap.size w0 w' := by
  refine enter Try.func9 rfl Try.ntmps9 rfl (fun a hF => ?_)
  have hW := Stw.start Y w0
  unfold r01_Add at H
  refine c_seq ?_
  refine reg_list ?_
  refine ls hF hW rfl ((y_assign hF rfl).q) (fun a w hF hW => ?_)
  refine ls hF hW rfl ((y_assign hF rfl).q) (fun a w hF hW => ?_)
  refine ls_nil ?_
  refine c_then ?_
  refine c_seq ?_
  refine c_seqJ (fun a w => Fr 24 [] [(0, .int .i64 p0), (1, .int .i64 p1), (4, .int .i64 0), (5, .int .i64 0), (20, .bool (!(r01_Time p0) || (!(r01_Time p1) || !(r01_Time (w64 (p0 + p1))))))] a ∧ Stw ⟨Y, [], w0⟩ [] [] w) ?_ ?_
  ·
    refine reg_list ?_
    refine ls hF hW rfl ((y_move hF rfl).q) (fun a w hF hW => ?_)
    refine ls hF hW rfl (y_call (v := Value.bool (r01_Time p0)) hF H27 rfl (fun w hW => r01_Time_c any w p0 _ rfl)) (fun a w hF hW => ?_)
    refine ls hF hW rfl ((y_not hF rfl).q) (fun a w hF hW => ?_)
    refine ls hF hW rfl ((y_move hF rfl).q) (fun a w hF hW => ?_)
    rcases Bool.eq_false_or_eq_true (!(r01_Time p0)) with hb0 | hb0
    ·
      rw [hb0] at hF
      refine ls_skip hF (wanted_n hF rfl rfl rfl rfl rfl) rfl rfl (fun a hF => ?_)
      refine ls_skip hF (wanted_n hF rfl rfl rfl rfl rfl) rfl rfl (fun a hF => ?_)
      refine ls_skip hF (wanted_n hF rfl rfl rfl rfl rfl) rfl rfl (fun a hF => ?_)
      refine ls hF hW rfl ((y_pick_t hF rfl rfl rfl).q) (fun a w hF hW => ?_)
      refine ls hF hW rfl ((y_move hF rfl).q) (fun a w hF hW => ?_)
      refine ls_skip hF (wanted_n hF rfl rfl rfl rfl rfl) rfl rfl (fun a hF => ?_)
      refine ls_skip hF (wanted_n hF rfl rfl rfl rfl rfl) rfl rfl (fun a hF => ?_)
      refine ls_skip hF (wanted_n hF rfl rfl rfl rfl rfl) rfl rfl (fun a hF => ?_)
      refine ls_skip hF (wanted_n hF rfl rfl rfl rfl rfl) rfl rfl (fun a hF => ?_)
      refine ls_skip hF (wanted_n hF rfl rfl rfl rfl rfl) rfl rfl (fun a hF => ?_)
      refine ls hF hW rfl ((y_pick_t hF rfl rfl rfl).q) (fun a w hF hW => ?_)
      refine ls_nil ?_
      refine c_then ?_
      exact ⟨hF.re ⟨rfl, rfl, rfl, rfl, (by show some (Value.bool true) = some (Value.bool (!(r01_Time p0) || (!(r01_Time p1) || !(r01_Time (w64 (p0 + p1)))))); try rw [hb0]; all_goals simp only [Bool.not_true, Bool.not_false, Bool.true_and, Bool.false_and, Bool.true_or, Bool.false_or, Bool.and_true, Bool.or_false, cond_true, cond_false]), trivial⟩, hW⟩
    ·
      rw [hb0] at hF
      refine ls_w hF hW (wanted_y hF rfl rfl rfl rfl) rfl (Nat.le_of_ble_eq_true rfl) ((y_move hF rfl).q) (fun a w hF hW => ?_)
      refine ls_g (wanted_y hF rfl rfl rfl rfl) ?_
      refine ls hF hW rfl (y_call (v := Value.bool (r01_Time p1)) hF H27 rfl (fun w hW => r01_Time_c any w p1 _ rfl)) (fun a w hF hW => ?_)
      refine ls_w hF hW (wanted_y hF rfl rfl rfl rfl) rfl (Nat.le_of_ble_eq_true rfl) ((y_not hF rfl).q) (fun a w hF hW => ?_)
      refine ls hF hW rfl ((y_pick_f hF rfl rfl rfl).q) (fun a w hF hW => ?_)
      refine ls hF hW rfl ((y_move hF rfl).q) (fun a w hF hW => ?_)
      rcases Bool.eq_false_or_eq_true (!(r01_Time p1)) with hb1 | hb1
      ·
        rw [hb1] at hF
        refine ls_skip hF (wanted_n hF rfl rfl rfl rfl rfl) rfl rfl (fun a hF => ?_)
        refine ls_skip hF (wanted_n hF rfl rfl rfl rfl rfl) rfl rfl (fun a hF => ?_)
        refine ls_skip hF (wanted_n hF rfl rfl rfl rfl rfl) rfl rfl (fun a hF => ?_)
        refine ls_skip hF (wanted_n hF rfl rfl rfl rfl rfl) rfl rfl (fun a hF => ?_)
        refine ls_skip hF (wanted_n hF rfl rfl rfl rfl rfl) rfl rfl (fun a hF => ?_)
        refine ls hF hW rfl ((y_pick_t hF rfl rfl rfl).q) (fun a w hF hW => ?_)
        refine ls_nil ?_
        refine c_then ?_
        exact ⟨hF.re ⟨rfl, rfl, rfl, rfl, (by show some (Value.bool true) = some (Value.bool (!(r01_Time p0) || (!(r01_Time p1) || !(r01_Time (w64 (p0 + p1)))))); try rw [hb0]; try rw [hb1]; all_goals simp only [Bool.not_true, Bool.not_false, Bool.true_and, Bool.false_and, Bool.true_or, Bool.false_or, Bool.and_true, Bool.or_false, cond_true, cond_false]), trivial⟩, hW⟩
      ·
        rw [hb1] at hF
        refine ls_w hF hW (wanted_y hF rfl rfl rfl rfl) rfl (Nat.le_of_ble_eq_true rfl) ((y_move hF rfl).q) (fun a w hF hW => ?_)
        refine ls_w hF hW (wanted_y hF rfl rfl rfl rfl) rfl (Nat.le_of_ble_eq_true rfl) ((y_move hF rfl).q) (fun a w hF hW => ?_)
        refine ls_w hF hW (wanted_y hF rfl rfl rfl rfl) rfl (Nat.le_of_ble_eq_true rfl) ((y_add hF rfl rfl rfl).q) (fun a w hF hW => ?_)
        refine ls_g (wanted_y hF rfl rfl rfl rfl) ?_
        refine ls hF hW rfl (y_call (v := Value.bool (r01_Time (w64 (p0 + p1)))) hF H27 rfl (fun w hW => r01_Time_c any w (w64 (p0 + p1)) _ rfl)) (fun a w hF hW => ?_)
        refine ls_w hF hW (wanted_y hF rfl rfl rfl rfl) rfl (Nat.le_of_ble_eq_true rfl) ((y_not hF rfl).q) (fun a w hF hW => ?_)
        refine ls hF hW rfl ((y_pick_f hF rfl rfl rfl).q) (fun a w hF hW => ?_)
        refine ls_nil ?_
        refine c_then ?_
        exact ⟨hF.re ⟨rfl, rfl, rfl, rfl, (by show some (Value.bool (!(r01_Time (w64 (p0 + p1))))) = some (Value.bool (!(r01_Time p0) || (!(r01_Time p1) || !(r01_Time (w64 (p0 + p1)))))); try rw [hb0]; try rw [hb1]; all_goals simp only [Bool.not_true, Bool.not_false, Bool.true_and, Bool.false_and, Bool.true_or, Bool.false_or, Bool.and_true, Bool.or_false, cond_true, cond_false]), trivial⟩, hW⟩
  rintro a w ⟨hF, hW⟩
  refine c_cond hF rfl (fun hb => ?_) (fun hb => ?_)
  ·
    have H := iteT hb H
    rw [hb] at hF
    clear hb
    refine c_seq ?_
    refine reg_list ?_
    refine ls hF hW rfl ((y_assign hF rfl).q) (fun a w hF hW => ?_)
    refine ls hF hW rfl ((y_assign hF rfl).q) (fun a w hF hW => ?_)
    refine ls_nil ?_
    refine c_then ?_
    refine wp_ret ?_
    refine r_then ?_
    subst H
    refine post2 (.inl rfl) hF hW rfl (rv_tmp hF rfl) (rv_tmp hF rfl) ?_
    exact ⟨rfl, hW.done⟩
  ·
    have H := iteF (by rw [hb]; decide) H
    rw [hb] at hF
    clear hb
    refine wp_skip ?_
    refine c_then ?_
    refine c_seq ?_
    refine reg_list ?_
    refine ls hF hW rfl ((y_move hF rfl).q) (fun a w hF hW => ?_)
    refine ls hF hW rfl ((y_move hF rfl).q) (fun a w hF hW => ?_)
    refine ls hF hW rfl ((y_add hF rfl rfl rfl).q) (fun a w hF hW => ?_)
    refine ls hF hW rfl ((y_assign hF rfl).q) (fun a w hF hW => ?_)
    refine ls hF hW rfl ((y_assign hF rfl).q) (fun a w hF hW => ?_)
    refine ls_nil ?_
    refine c_then ?_
    refine wp_ret ?_
    subst H
    refine post2 (.inl rfl) hF hW rfl (rv_tmp hF rfl) (rv_tmp hF rfl) ?_
    exact ⟨rfl, hW.done⟩

end Go.Proofs.Ytjocggcgjdimeaa
