/- The walks of layer 1. -/
import Derived.Test.YtcnhmbjkippnnaaA2
namespace Go.Proofs.Ytcnhmbjkippnnaa
open Go Go.RowKit
set_option linter.unusedVariables false
def encI (n : Int) : List Value := [Value.int IntKind.i64 n]
theorem encI_len : ∀ x, (encI x).length = 1 := fun _ => rfl
def encOp (p : Int × Int) : List Value := [Value.int IntKind.i64 p.1, Value.int IntKind.i64 p.2]
theorem encOp_len : ∀ x, (encOp x).length = 2 := fun _ => rfl

theorem T71 : Ty Try.prog 71 false 1 := ⟨by kernel_rfl, by kernel_rfl⟩
theorem L71 : Et Try.prog 71 3 1 8 := Et.of Try.underlying71 (by kernel_rfl) (by kernel_rfl) (by kernel_rfl) (by decide)
theorem push_any {X : List Nat} {w0 : World} {M : Blks} {Z : List RowE} (q : Nat) (v : Value) (l : List Int) (n : Int) (w : World) (hW : Stw X w0 ((q, [v]) :: M) (rowL v 3 1 encI l :: Z) w) (hl : l.length ≤ 1000000) :
    Calls Try.prog 71 #[Value.pointer (some ⟨q, 0, none⟩), Value.int IntKind.i64 n] w fun e w' => ∃ v', e = .returned (.tuple #[]) ∧ Stw X w0 ((q, [v']) :: M) (rowL v' 3 1 encI (l ++ [n]) :: Z) w' := by
  refine enter Try.func71 rfl Try.ntmps71 rfl (fun a hF => ?_)
  refine reg_list ?_
  refine ls hF hW rfl (y_move hF rfl) (fun a w hF hW => ?_)
  refine ls hF hW rfl (y_move hF rfl) (fun a w hF hW => ?_)
  refine ls hF hW rfl (y_nilCheck hF rfl) (fun a w hF hW => ?_)
  refine ls hF hW rfl (y_fieldAddr Try.underlying73 rfl rfl rfl T71 hF rfl 0 rfl) (fun a w hF hW => ?_)
  refine ls hF hW rfl (y_load (v := v) 0 hF rfl rfl T71 rfl) (fun a w hF hW => ?_)
  refine ls hF hW rfl (y_move hF rfl) (fun a w hF hW => ?_)
  refine l_buildSlice (z := Value.int IntKind.i64 0) (cs := [Value.int IntKind.i64 n]) hF hW rfl L71 Z3 rfl rfl rfl rfl (fun b1 a w hF hW => ?_)
  refine l_append1 (cs := [Value.int IntKind.i64 n]) (i := 0) (j := 0) (enc := encI) n hF hW rfl L71 rfl rfl rfl rfl rfl rfl rfl rfl (by first | omega | (simp only [List.length_append, List.length_cons, List.length_nil, List.length_take] at *; omega)) (by decide) (fun v1 a w hF hW => ?_)
  refine ls hF hW rfl (y_nilCheck hF rfl) (fun a w hF hW => ?_)
  refine ls hF hW rfl (y_fieldAddr Try.underlying73 rfl rfl rfl T71 hF rfl 0 rfl) (fun a w hF hW => ?_)
  refine l_store1 (M' := ((b1, [Value.int IntKind.i64 n]) :: (q, [v1]) :: M)) 1 hF hW rfl rfl rfl T71 (hW.one (i := 0) rfl) rfl rfl (fun w hW => ?_)
  refine ls_nil ?_
  refine post0 (.inr rfl) hF rfl ?_
  have hW := hW.frontM (i := 1) rfl rfl
  have hW := hW.subM (M' := (q, [v1]) :: M) (List.Sublist.cons_cons _ (List.Sublist.cons _ (List.Sublist.refl _)))
  exact ⟨_, rfl, hW⟩

theorem pop_ok {X : List Nat} {w0 : World} {M : Blks} {Z : List RowE} (q : Nat) (v : Value) (l : List Int) (hne : 0 < l.length) (w : World) (hW : Stw X w0 ((q, [v]) :: M) (rowL v 3 1 encI l :: Z) w) (hl : l.length ≤ 1000000) :
    Calls Try.prog 66 #[Value.pointer (some ⟨q, 0, none⟩)] w fun e w' => ∃ v', e = .returned (Value.int IntKind.i64 (l.getD (l.length - 1) 0)) ∧ Stw X w0 ((q, [v']) :: M) (rowL v' 3 1 encI (l.take (l.length - 1)) :: Z) w' := by
  refine enter Try.func66 rfl Try.ntmps66 rfl (fun a hF => ?_)
  refine c_seq ?_
  refine reg_list ?_
  refine ls hF hW rfl (y_assign hF rfl) (fun a w hF hW => ?_)
  refine ls_nil ?_
  refine c_then ?_
  refine c_seq ?_
  refine reg_list ?_
  refine ls hF hW rfl (y_move hF rfl) (fun a w hF hW => ?_)
  refine ls hF hW rfl (y_nilCheck hF rfl) (fun a w hF hW => ?_)
  refine ls hF hW rfl (y_fieldAddr Try.underlying73 rfl rfl rfl T71 hF rfl 0 rfl) (fun a w hF hW => ?_)
  refine ls hF hW rfl (y_load (v := v) 0 hF rfl rfl T71 rfl) (fun a w hF hW => ?_)
  refine ls hF hW rfl (y_len Try.underlying71 rfl hF rfl (fun w hW => hW.rdRow 0 encI_len rfl)) (fun a w hF hW => ?_)
  refine ls hF hW rfl (y_sub hF rfl rfl (r := (l.length : Int) - 1) (IntWalk.i64_in _ (by omega))) (fun a w hF hW => ?_)
  refine ls hF hW rfl (y_assign hF rfl) (fun a w hF hW => ?_)
  refine ls_nil ?_
  refine c_then ?_
  refine c_seq ?_
  refine c_seq ?_
  refine reg_list ?_
  refine ls hF hW rfl (y_move hF rfl) (fun a w hF hW => ?_)
  refine ls hF hW rfl (y_lss hF rfl rfl) (fun a w hF hW => ?_)
  rw [show (decide (((l.length : Int) - 1) < 0)) = false from decide_eq_false (by omega)] at hF
  refine ls_nil ?_
  refine c_then ?_
  refine c_cond_f hF rfl ?_
  refine wp_skip ?_
  refine c_then ?_
  refine c_seq ?_
  refine reg_list ?_
  refine ls hF hW rfl (y_move hF rfl) (fun a w hF hW => ?_)
  refine ls hF hW rfl (y_nilCheck hF rfl) (fun a w hF hW => ?_)
  refine ls hF hW rfl (y_fieldAddr Try.underlying73 rfl rfl rfl T71 hF rfl 0 rfl) (fun a w hF hW => ?_)
  refine ls hF hW rfl (y_load (v := v) 0 hF rfl rfl T71 rfl) (fun a w hF hW => ?_)
  refine ls hF hW rfl (y_move hF rfl) (fun a w hF hW => ?_)
  refine ls hF hW rfl (y_index (((l.length : Int) - 1).toNat) L71 hF rfl rfl (fun w hW => hW.rdRow 0 encI_len rfl) (by first | omega | (simp only [List.length_append, List.length_cons, List.length_nil, List.length_take] at *; omega)) (by first | omega | (simp only [List.length_append, List.length_cons, List.length_nil, List.length_take] at *; omega))) (fun a w hF hW => ?_)
  refine ls hF hW rfl (y_load_el (u := Value.int IntKind.i64 (l.getD (((l.length : Int) - 1).toNat) (0 : Int))) (k := ((l.length : Int) - 1).toNat) (j := 0) (0 : Int) hF rfl rfl (fun w hW => hW.rdRow 0 encI_len rfl) (by first | omega | (simp only [List.length_append, List.length_cons, List.length_nil, List.length_take] at *; omega)) rfl T3 rfl) (fun a w hF hW => ?_)
  refine ls hF hW rfl (y_assign hF rfl) (fun a w hF hW => ?_)
  refine ls_nil ?_
  refine c_then ?_
  refine c_seq ?_
  refine reg_list ?_
  refine ls hF hW rfl (y_move hF rfl) (fun a w hF hW => ?_)
  refine ls hF hW rfl (y_move hF rfl) (fun a w hF hW => ?_)
  refine ls hF hW rfl (y_nilCheck hF rfl) (fun a w hF hW => ?_)
  refine ls hF hW rfl (y_fieldAddr Try.underlying73 rfl rfl rfl T71 hF rfl 0 rfl) (fun a w hF hW => ?_)
  refine ls hF hW rfl (y_load (v := v) 0 hF rfl rfl T71 rfl) (fun a w hF hW => ?_)
  refine ls hF hW rfl (y_move hF rfl) (fun a w hF hW => ?_)
  refine ls hF hW rfl (y_sliceTo (((l.length : Int) - 1).toNat) L71 hF rfl rfl (fun w hW => hW.rdRow 0 encI_len rfl) (by first | omega | (simp only [List.length_append, List.length_cons, List.length_nil, List.length_take] at *; omega)) (by first | omega | (simp only [List.length_append, List.length_cons, List.length_nil, List.length_take] at *; omega))) (fun a w hF hW => ?_)
  refine ls hF hW rfl (y_nilCheck hF rfl) (fun a w hF hW => ?_)
  refine ls hF hW rfl (y_fieldAddr Try.underlying73 rfl rfl rfl T71 hF rfl 0 rfl) (fun a w hF hW => ?_)
  have hW := hW.takeRow (k := ((l.length : Int) - 1).toNat) (i := 0) encI_len rfl rfl (by first | omega | (simp only [List.length_append, List.length_cons, List.length_nil, List.length_take] at *; omega))
  refine l_store1 (M' := ((q, [(slTo v (((l.length : Int) - 1).toNat))]) :: M)) 0 hF hW rfl rfl rfl T71 (hW.one (i := 0) rfl) rfl rfl (fun w hW => ?_)
  refine ls_nil ?_
  refine c_then ?_
  refine c_seq ?_
  refine reg_list ?_
  refine ls hF hW rfl (y_move hF rfl) (fun a w hF hW => ?_)
  refine ls hF hW rfl (y_assign hF rfl) (fun a w hF hW => ?_)
  refine ls_nil ?_
  refine c_then ?_
  refine wp_ret ?_
  refine post1 (.inl rfl) hF hW rfl (rv_tmp hF rfl) ?_
  have e1 : ((l.length : Int) - 1).toNat = l.length - 1 := by omega
  rw [e1] at hW
  exact ⟨_, by rw [e1], hW⟩

theorem pop_no {X : List Nat} {w0 : World} {M : Blks} {Z : List RowE} (q : Nat) (v : Value) (l : List Int) (hne : l.length = 0) (w : World) (hW : Stw X w0 ((q, [v]) :: M) (rowL v 3 1 encI l :: Z) w) (hl : l.length ≤ 1000000) :
    Calls Try.prog 66 #[Value.pointer (some ⟨q, 0, none⟩)] w fun e w' => e = .panicked [{ v := Value.iface 79 (Value.agg #[Value.int IntKind.i64 2]), recovered := false }] ∧ Stw X w0 M Z w' := by
  refine enter Try.func66 rfl Try.ntmps66 rfl (fun a hF => ?_)
  refine c_seq ?_
  refine reg_list ?_
  refine ls hF hW rfl (y_assign hF rfl) (fun a w hF hW => ?_)
  refine ls_nil ?_
  refine c_then ?_
  refine c_seq ?_
  refine reg_list ?_
  refine ls hF hW rfl (y_move hF rfl) (fun a w hF hW => ?_)
  refine ls hF hW rfl (y_nilCheck hF rfl) (fun a w hF hW => ?_)
  refine ls hF hW rfl (y_fieldAddr Try.underlying73 rfl rfl rfl T71 hF rfl 0 rfl) (fun a w hF hW => ?_)
  refine ls hF hW rfl (y_load (v := v) 0 hF rfl rfl T71 rfl) (fun a w hF hW => ?_)
  refine ls hF hW rfl (y_len Try.underlying71 rfl hF rfl (fun w hW => hW.rdRow 0 encI_len rfl)) (fun a w hF hW => ?_)
  refine ls hF hW rfl (y_sub hF rfl rfl (r := (l.length : Int) - 1) (IntWalk.i64_in _ (by omega))) (fun a w hF hW => ?_)
  refine ls hF hW rfl (y_assign hF rfl) (fun a w hF hW => ?_)
  refine ls_nil ?_
  refine c_then ?_
  refine c_seq ?_
  refine c_seq ?_
  refine reg_list ?_
  refine ls hF hW rfl (y_move hF rfl) (fun a w hF hW => ?_)
  refine ls hF hW rfl (y_lss hF rfl rfl) (fun a w hF hW => ?_)
  rw [show (decide (((l.length : Int) - 1) < 0)) = true from decide_eq_true (by omega)] at hF
  refine ls_nil ?_
  refine c_then ?_
  refine c_cond_t hF rfl ?_
  refine reg_list ?_
  refine ls hF hW rfl (y_build (v := Value.agg #[Value.int IntKind.i64 2]) B79 hF rfl rfl rfl) (fun a w hF hW => ?_)
  refine ls hF hW rfl (y_makeIface I79 hF rfl) (fun a w hF hW => ?_)
  refine l_panic hF rfl ?_
  refine p_then ?_
  refine post_panic hF ?_
  exact ⟨rfl, (hW.subM (List.Sublist.cons _ (List.Sublist.refl _))).subZ (List.Sublist.cons _ (List.Sublist.refl _))⟩

theorem pop2 (l : List Int) (h : 0 < (l.take (l.length - 1)).length) : (l.take (l.length - 1)).getD ((l.take (l.length - 1)).length - 1) 0 = l.getD (l.length - 2) 0 ∧ (l.take (l.length - 1)).take ((l.take (l.length - 1)).length - 1) = l.take (l.length - 2) := by
  have hl : (l.take (l.length - 1)).length = l.length - 1 := by simp
  rw [hl] at h ⊢
  refine ⟨?_, ?_⟩
  · simp only [List.getD_eq_getElem?_getD]
    rw [List.getElem?_take_of_lt (by omega), show l.length - 1 - 1 = l.length - 2 by omega]
  · rw [List.take_take, show min (l.length - 1 - 1) (l.length - 1) = l.length - 2 by omega]
theorem H66 : Has Try.prog 66 := ⟨fun args w => run_callFunc_body Try.func66 rfl (by decide) args w⟩
theorem H71 : Has Try.prog 71 := ⟨fun args w => run_callFunc_body Try.func71 rfl (by decide) args w⟩
def cstep (l : List Int) (k : Int) : Except Int (List Int) := if k < 2 then .error 2 else if 6 < k then .error 2 else if 0 < l.length then if 0 < (l.take (l.length - 1)).length then if k = 2 then if (-1125899906842624 ≤ (l.getD (l.length - 2) 0) ∧ (l.getD (l.length - 2) 0) ≤ 1125899906842624) ∧ (-1125899906842624 ≤ (l.getD (l.length - 1) 0) ∧ (l.getD (l.length - 1) 0) ≤ 1125899906842624) ∧ (-1125899906842624 ≤ ((l.getD (l.length - 2) 0) + (l.getD (l.length - 1) 0)) ∧ ((l.getD (l.length - 2) 0) + (l.getD (l.length - 1) 0)) ≤ 1125899906842624) then .ok ((l.take (l.length - 2)) ++ [(l.getD (l.length - 2) 0) + (l.getD (l.length - 1) 0)]) else .error 11 else if k = 3 then if (-1125899906842624 ≤ (l.getD (l.length - 2) 0) ∧ (l.getD (l.length - 2) 0) ≤ 1125899906842624) ∧ (-1125899906842624 ≤ (l.getD (l.length - 1) 0) ∧ (l.getD (l.length - 1) 0) ≤ 1125899906842624) ∧ (-1125899906842624 ≤ ((l.getD (l.length - 2) 0) - (l.getD (l.length - 1) 0)) ∧ ((l.getD (l.length - 2) 0) - (l.getD (l.length - 1) 0)) ≤ 1125899906842624) then .ok ((l.take (l.length - 2)) ++ [(l.getD (l.length - 2) 0) - (l.getD (l.length - 1) 0)]) else .error 11 else if k = 4 then if (-1125899906842624 ≤ (l.getD (l.length - 2) 0) ∧ (l.getD (l.length - 2) 0) ≤ 1125899906842624) ∧ (-1125899906842624 ≤ (l.getD (l.length - 1) 0) ∧ (l.getD (l.length - 1) 0) ≤ 1125899906842624) ∧ (-1125899906842624 ≤ ((l.getD (l.length - 2) 0) * (l.getD (l.length - 1) 0)) ∧ ((l.getD (l.length - 2) 0) * (l.getD (l.length - 1) 0)) ≤ 1125899906842624) then .ok ((l.take (l.length - 2)) ++ [(l.getD (l.length - 2) 0) * (l.getD (l.length - 1) 0)]) else .error 11 else if k = 5 then .ok ((l.take (l.length - 2)) ++ [min (l.getD (l.length - 2) 0) (l.getD (l.length - 1) 0)]) else if k = 6 then .ok ((l.take (l.length - 2)) ++ [max (l.getD (l.length - 2) 0) (l.getD (l.length - 1) 0)]) else .ok (l.take (l.length - 2)) else .error 2 else .error 2
theorem combine_any {X : List Nat} {w0 : World} {M : Blks} {Z : List RowE} (q : Nat) (v : Value) (l : List Int) (k : Int) (w : World) (hW : Stw X w0 ((q, [v]) :: M) (rowL v 3 1 encI l :: Z) w) (hl : l.length ≤ 1000000) :
    Calls Try.prog 72 #[Value.pointer (some ⟨q, 0, none⟩), Value.int IntKind.i64 k] w fun e w' => match cstep l k with | .ok l' => ∃ v', e = .returned (.tuple #[]) ∧ Stw X w0 ((q, [v']) :: M) (rowL v' 3 1 encI l' :: Z) w' | .error c => e = .panicked [{ v := Value.iface 79 (Value.agg #[Value.int IntKind.i64 c]), recovered := false }] ∧ Stw X w0 M Z w' := by
  refine enter Try.func72 rfl Try.ntmps72 rfl (fun a hF => ?_)
  refine c_seq ?_
  refine c_seq ?_
  refine reg_list ?_
  refine ls hF hW rfl (y_move hF rfl) (fun a w hF hW => ?_)
  refine ls hF hW rfl (y_lss hF rfl rfl) (fun a w hF hW => ?_)
  refine ls hF hW rfl (y_move hF rfl) (fun a w hF hW => ?_)
  rcases Bool.eq_false_or_eq_true (decide (k < 2)) with hb | hb
  ·
    have c1 := of_decide_eq_true hb
    simp only [hb] at hF
    clear hb
    refine ls_skip hF (wanted_n hF rfl rfl rfl rfl rfl) rfl rfl (fun a hF => ?_)
    refine ls_skip hF (wanted_n hF rfl rfl rfl rfl rfl) rfl rfl (fun a hF => ?_)
    refine ls hF hW rfl (y_pick_t hF rfl rfl rfl) (fun a w hF hW => ?_)
    refine ls_nil ?_
    refine c_then ?_
    refine c_cond_t hF rfl ?_
    refine reg_list ?_
    refine ls hF hW rfl (y_build (v := Value.agg #[Value.int IntKind.i64 2]) B79 hF rfl rfl rfl) (fun a w hF hW => ?_)
    refine ls hF hW rfl (y_makeIface I79 hF rfl) (fun a w hF hW => ?_)
    refine l_panic hF rfl ?_
    refine p_then ?_
    refine post_panic hF ?_
    have hp : cstep l k = .error 2 := by rw [cstep, if_pos c1]
    rw [hp]
    have hW := hW.subM (M' := M) (List.Sublist.cons _ (List.Sublist.refl _))
    have hW := hW.subZ (Z' := Z) (List.Sublist.cons _ (List.Sublist.refl _))
    exact ⟨rfl, hW⟩
  ·
    have c1 := of_decide_eq_false hb
    simp only [hb] at hF
    clear hb
    refine ls_w hF hW (wanted_y hF rfl rfl rfl rfl) rfl (Nat.le_of_ble_eq_true rfl) (y_move hF rfl) (fun a w hF hW => ?_)
    refine ls_w hF hW (wanted_y hF rfl rfl rfl rfl) rfl (Nat.le_of_ble_eq_true rfl) (y_gtr hF rfl rfl) (fun a w hF hW => ?_)
    refine ls hF hW rfl (y_pick_f hF rfl rfl rfl) (fun a w hF hW => ?_)
    refine ls_nil ?_
    refine c_then ?_
    refine c_cond hF rfl (fun hb => ?_) (fun hb => ?_)
    ·
      have c2 := of_decide_eq_true hb
      simp only [hb] at hF
      clear hb
      refine reg_list ?_
      refine ls hF hW rfl (y_build (v := Value.agg #[Value.int IntKind.i64 2]) B79 hF rfl rfl rfl) (fun a w hF hW => ?_)
      refine ls hF hW rfl (y_makeIface I79 hF rfl) (fun a w hF hW => ?_)
      refine l_panic hF rfl ?_
      refine p_then ?_
      refine post_panic hF ?_
      have hp : cstep l k = .error 2 := by rw [cstep, if_neg c1, if_pos c2]
      rw [hp]
      have hW := hW.subM (M' := M) (List.Sublist.cons _ (List.Sublist.refl _))
      have hW := hW.subZ (Z' := Z) (List.Sublist.cons _ (List.Sublist.refl _))
      exact ⟨rfl, hW⟩
    ·
      have c2 := of_decide_eq_false hb
      simp only [hb] at hF
      clear hb
      refine wp_skip ?_
      refine c_then ?_
      refine c_seq ?_
      refine reg_list ?_
      refine ls hF hW rfl (y_move hF rfl) (fun a w hF hW => ?_)
      by_cases c3 : 0 < l.length
      ·
        refine l_call_fr hF H66 rfl rfl (pop_ok q v l c3 w hW (by first | omega | (simp only [List.length_append, List.length_cons, List.length_nil, List.length_take] at *; omega))) (fun v1 a w hF hW => ?_)
        refine ls hF hW rfl (y_assign hF rfl) (fun a w hF hW => ?_)
        refine ls_nil ?_
        refine c_then ?_
        refine c_seq ?_
        refine reg_list ?_
        refine ls hF hW rfl (y_move hF rfl) (fun a w hF hW => ?_)
        by_cases c4 : 0 < (l.take (l.length - 1)).length
        ·
          refine l_call_fr hF H66 rfl rfl (pop_ok q v1 (l.take (l.length - 1)) c4 w hW (by first | omega | (simp only [List.length_append, List.length_cons, List.length_nil, List.length_take] at *; omega))) (fun v2 a w hF hW => ?_)
          rw [(pop2 l c4).1] at hF
          rw [(pop2 l c4).2] at hW
          refine ls hF hW rfl (y_assign hF rfl) (fun a w hF hW => ?_)
          refine ls_nil ?_
          refine c_then ?_
          refine c_seq ?_
          refine reg_list ?_
          refine ls hF hW rfl (y_move hF rfl) (fun a w hF hW => ?_)
          refine ls_nil ?_
          refine c_then ?_
          refine wp_block ?_
          refine c_seq ?_
          refine reg_list ?_
          refine ls hF hW rfl (y_eql hF rfl rfl) (fun a w hF hW => ?_)
          refine ls hF hW rfl (y_assign hF rfl) (fun a w hF hW => ?_)
          refine ls_nil ?_
          refine c_then ?_
          refine c_cond hF rfl (fun hb => ?_) (fun hb => ?_)
          ·
            have c5 := of_decide_eq_true hb
            simp only [hb] at hF
            clear hb
            refine reg_list ?_
            refine ls hF hW rfl (y_move hF rfl) (fun a w hF hW => ?_)
            refine ls hF hW rfl (y_move hF rfl) (fun a w hF hW => ?_)
            refine ls hF hW rfl (y_move hF rfl) (fun a w hF hW => ?_)
            by_cases c6 : (-1125899906842624 ≤ (l.getD (l.length - 2) 0) ∧ (l.getD (l.length - 2) 0) ≤ 1125899906842624) ∧ (-1125899906842624 ≤ (l.getD (l.length - 1) 0) ∧ (l.getD (l.length - 1) 0) ≤ 1125899906842624) ∧ (-1125899906842624 ≤ ((l.getD (l.length - 2) 0) + (l.getD (l.length - 1) 0)) ∧ ((l.getD (l.length - 2) 0) + (l.getD (l.length - 1) 0)) ≤ 1125899906842624)
            ·
              refine ls hF hW rfl (y_call (v := Value.int IntKind.i64 ((l.getD (l.length - 2) 0) + (l.getD (l.length - 1) 0))) hF H53 rfl (fun w _ => mp_ok (add_any (l.getD (l.length - 2) 0) (l.getD (l.length - 1) 0) w) c6)) (fun a w hF hW => ?_)
              refine l_call_fr hF H71 rfl rfl (push_any q v2 (l.take (l.length - 2)) ((l.getD (l.length - 2) 0) + (l.getD (l.length - 1) 0)) w hW (by first | omega | (simp only [List.length_append, List.length_cons, List.length_nil, List.length_take] at *; omega))) (fun v3 a w hF hW => ?_)
              refine ls_nil ?_
              refine b_normal ?_
              refine post0 (.inr rfl) hF rfl ?_
              have hp : cstep l k = .ok ((l.take (l.length - 2)) ++ [(l.getD (l.length - 2) 0) + (l.getD (l.length - 1) 0)]) := by rw [cstep, if_neg c1, if_neg c2, if_pos c3, if_pos c4, if_pos c5, if_pos c6]
              rw [hp]
              exact ⟨_, rfl, hW⟩
            ·
              refine l_call_panic hF hW H53 rfl (mp_no (add_any (l.getD (l.length - 2) 0) (l.getD (l.length - 1) 0) w) c6) (fun w hW => ?_)
              refine p_block ?_
              refine post_panic hF ?_
              have hp : cstep l k = .error 11 := by rw [cstep, if_neg c1, if_neg c2, if_pos c3, if_pos c4, if_pos c5, if_neg c6]
              rw [hp]
              have hW := hW.subM (M' := M) (List.Sublist.cons _ (List.Sublist.refl _))
              have hW := hW.subZ (Z' := Z) (List.Sublist.cons _ (List.Sublist.refl _))
              exact ⟨rfl, hW⟩
          ·
            have c5 := of_decide_eq_false hb
            simp only [hb] at hF
            clear hb
            refine c_seq ?_
            refine reg_list ?_
            refine ls hF hW rfl (y_eql hF rfl rfl) (fun a w hF hW => ?_)
            refine ls hF hW rfl (y_assign hF rfl) (fun a w hF hW => ?_)
            refine ls_nil ?_
            refine c_then ?_
            refine c_cond hF rfl (fun hb => ?_) (fun hb => ?_)
            ·
              have c6 := of_decide_eq_true hb
              simp only [hb] at hF
              clear hb
              refine reg_list ?_
              refine ls hF hW rfl (y_move hF rfl) (fun a w hF hW => ?_)
              refine ls hF hW rfl (y_move hF rfl) (fun a w hF hW => ?_)
              refine ls hF hW rfl (y_move hF rfl) (fun a w hF hW => ?_)
              by_cases c7 : (-1125899906842624 ≤ (l.getD (l.length - 2) 0) ∧ (l.getD (l.length - 2) 0) ≤ 1125899906842624) ∧ (-1125899906842624 ≤ (l.getD (l.length - 1) 0) ∧ (l.getD (l.length - 1) 0) ≤ 1125899906842624) ∧ (-1125899906842624 ≤ ((l.getD (l.length - 2) 0) - (l.getD (l.length - 1) 0)) ∧ ((l.getD (l.length - 2) 0) - (l.getD (l.length - 1) 0)) ≤ 1125899906842624)
              ·
                refine ls hF hW rfl (y_call (v := Value.int IntKind.i64 ((l.getD (l.length - 2) 0) - (l.getD (l.length - 1) 0))) hF H56 rfl (fun w _ => mp_ok (sub_any (l.getD (l.length - 2) 0) (l.getD (l.length - 1) 0) w) c7)) (fun a w hF hW => ?_)
                refine l_call_fr hF H71 rfl rfl (push_any q v2 (l.take (l.length - 2)) ((l.getD (l.length - 2) 0) - (l.getD (l.length - 1) 0)) w hW (by first | omega | (simp only [List.length_append, List.length_cons, List.length_nil, List.length_take] at *; omega))) (fun v4 a w hF hW => ?_)
                refine ls_nil ?_
                refine b_normal ?_
                refine post0 (.inr rfl) hF rfl ?_
                have hp : cstep l k = .ok ((l.take (l.length - 2)) ++ [(l.getD (l.length - 2) 0) - (l.getD (l.length - 1) 0)]) := by rw [cstep, if_neg c1, if_neg c2, if_pos c3, if_pos c4, if_neg c5, if_pos c6, if_pos c7]
                rw [hp]
                exact ⟨_, rfl, hW⟩
              ·
                refine l_call_panic hF hW H56 rfl (mp_no (sub_any (l.getD (l.length - 2) 0) (l.getD (l.length - 1) 0) w) c7) (fun w hW => ?_)
                refine p_block ?_
                refine post_panic hF ?_
                have hp : cstep l k = .error 11 := by rw [cstep, if_neg c1, if_neg c2, if_pos c3, if_pos c4, if_neg c5, if_pos c6, if_neg c7]
                rw [hp]
                have hW := hW.subM (M' := M) (List.Sublist.cons _ (List.Sublist.refl _))
                have hW := hW.subZ (Z' := Z) (List.Sublist.cons _ (List.Sublist.refl _))
                exact ⟨rfl, hW⟩
            ·
              have c6 := of_decide_eq_false hb
              simp only [hb] at hF
              clear hb
              refine c_seq ?_
              refine reg_list ?_
              refine ls hF hW rfl (y_eql hF rfl rfl) (fun a w hF hW => ?_)
              refine ls hF hW rfl (y_assign hF rfl) (fun a w hF hW => ?_)
              refine ls_nil ?_
              refine c_then ?_
              refine c_cond hF rfl (fun hb => ?_) (fun hb => ?_)
              ·
                have c7 := of_decide_eq_true hb
                simp only [hb] at hF
                clear hb
                refine reg_list ?_
                refine ls hF hW rfl (y_move hF rfl) (fun a w hF hW => ?_)
                refine ls hF hW rfl (y_move hF rfl) (fun a w hF hW => ?_)
                refine ls hF hW rfl (y_move hF rfl) (fun a w hF hW => ?_)
                by_cases c8 : (-1125899906842624 ≤ (l.getD (l.length - 2) 0) ∧ (l.getD (l.length - 2) 0) ≤ 1125899906842624) ∧ (-1125899906842624 ≤ (l.getD (l.length - 1) 0) ∧ (l.getD (l.length - 1) 0) ≤ 1125899906842624) ∧ (-1125899906842624 ≤ ((l.getD (l.length - 2) 0) * (l.getD (l.length - 1) 0)) ∧ ((l.getD (l.length - 2) 0) * (l.getD (l.length - 1) 0)) ≤ 1125899906842624)
                ·
                  refine ls hF hW rfl (y_call (v := Value.int IntKind.i64 ((l.getD (l.length - 2) 0) * (l.getD (l.length - 1) 0))) hF H58 rfl (fun w _ => mp_ok (mul_any (l.getD (l.length - 2) 0) (l.getD (l.length - 1) 0) w) c8)) (fun a w hF hW => ?_)
                  refine l_call_fr hF H71 rfl rfl (push_any q v2 (l.take (l.length - 2)) ((l.getD (l.length - 2) 0) * (l.getD (l.length - 1) 0)) w hW (by first | omega | (simp only [List.length_append, List.length_cons, List.length_nil, List.length_take] at *; omega))) (fun v5 a w hF hW => ?_)
                  refine ls_nil ?_
                  refine b_normal ?_
                  refine post0 (.inr rfl) hF rfl ?_
                  have hp : cstep l k = .ok ((l.take (l.length - 2)) ++ [(l.getD (l.length - 2) 0) * (l.getD (l.length - 1) 0)]) := by rw [cstep, if_neg c1, if_neg c2, if_pos c3, if_pos c4, if_neg c5, if_neg c6, if_pos c7, if_pos c8]
                  rw [hp]
                  exact ⟨_, rfl, hW⟩
                ·
                  refine l_call_panic hF hW H58 rfl (mp_no (mul_any (l.getD (l.length - 2) 0) (l.getD (l.length - 1) 0) w) c8) (fun w hW => ?_)
                  refine p_block ?_
                  refine post_panic hF ?_
                  have hp : cstep l k = .error 11 := by rw [cstep, if_neg c1, if_neg c2, if_pos c3, if_pos c4, if_neg c5, if_neg c6, if_pos c7, if_neg c8]
                  rw [hp]
                  have hW := hW.subM (M' := M) (List.Sublist.cons _ (List.Sublist.refl _))
                  have hW := hW.subZ (Z' := Z) (List.Sublist.cons _ (List.Sublist.refl _))
                  exact ⟨rfl, hW⟩
              ·
                have c7 := of_decide_eq_false hb
                simp only [hb] at hF
                clear hb
                refine c_seq ?_
                refine reg_list ?_
                refine ls hF hW rfl (y_eql hF rfl rfl) (fun a w hF hW => ?_)
                refine ls hF hW rfl (y_assign hF rfl) (fun a w hF hW => ?_)
                refine ls_nil ?_
                refine c_then ?_
                refine c_cond hF rfl (fun hb => ?_) (fun hb => ?_)
                ·
                  have c8 := of_decide_eq_true hb
                  simp only [hb] at hF
                  clear hb
                  refine reg_list ?_
                  refine ls hF hW rfl (y_move hF rfl) (fun a w hF hW => ?_)
                  refine ls hF hW rfl (y_move hF rfl) (fun a w hF hW => ?_)
                  refine ls hF hW rfl (y_move hF rfl) (fun a w hF hW => ?_)
                  refine ls hF hW rfl (y_min hF rfl rfl) (fun a w hF hW => ?_)
                  refine l_call_fr hF H71 rfl rfl (push_any q v2 (l.take (l.length - 2)) (min (l.getD (l.length - 2) 0) (l.getD (l.length - 1) 0)) w hW (by first | omega | (simp only [List.length_append, List.length_cons, List.length_nil, List.length_take] at *; omega))) (fun v6 a w hF hW => ?_)
                  refine ls_nil ?_
                  refine b_normal ?_
                  refine post0 (.inr rfl) hF rfl ?_
                  have hp : cstep l k = .ok ((l.take (l.length - 2)) ++ [min (l.getD (l.length - 2) 0) (l.getD (l.length - 1) 0)]) := by rw [cstep, if_neg c1, if_neg c2, if_pos c3, if_pos c4, if_neg c5, if_neg c6, if_neg c7, if_pos c8]
                  rw [hp]
                  exact ⟨_, rfl, hW⟩
                ·
                  have c8 := of_decide_eq_false hb
                  simp only [hb] at hF
                  clear hb
                  refine c_seq ?_
                  refine reg_list ?_
                  refine ls hF hW rfl (y_eql hF rfl rfl) (fun a w hF hW => ?_)
                  refine ls hF hW rfl (y_assign hF rfl) (fun a w hF hW => ?_)
                  refine ls_nil ?_
                  refine c_then ?_
                  refine c_cond hF rfl (fun hb => ?_) (fun hb => ?_)
                  ·
                    have c9 := of_decide_eq_true hb
                    simp only [hb] at hF
                    clear hb
                    refine reg_list ?_
                    refine ls hF hW rfl (y_move hF rfl) (fun a w hF hW => ?_)
                    refine ls hF hW rfl (y_move hF rfl) (fun a w hF hW => ?_)
                    refine ls hF hW rfl (y_move hF rfl) (fun a w hF hW => ?_)
                    refine ls hF hW rfl (y_max hF rfl rfl) (fun a w hF hW => ?_)
                    refine l_call_fr hF H71 rfl rfl (push_any q v2 (l.take (l.length - 2)) (max (l.getD (l.length - 2) 0) (l.getD (l.length - 1) 0)) w hW (by first | omega | (simp only [List.length_append, List.length_cons, List.length_nil, List.length_take] at *; omega))) (fun v7 a w hF hW => ?_)
                    refine ls_nil ?_
                    refine b_normal ?_
                    refine post0 (.inr rfl) hF rfl ?_
                    have hp : cstep l k = .ok ((l.take (l.length - 2)) ++ [max (l.getD (l.length - 2) 0) (l.getD (l.length - 1) 0)]) := by rw [cstep, if_neg c1, if_neg c2, if_pos c3, if_pos c4, if_neg c5, if_neg c6, if_neg c7, if_neg c8, if_pos c9]
                    rw [hp]
                    exact ⟨_, rfl, hW⟩
                  ·
                    have c9 := of_decide_eq_false hb
                    simp only [hb] at hF
                    clear hb
                    refine wp_skip ?_
                    refine b_normal ?_
                    refine post0 (.inr rfl) hF rfl ?_
                    have hp : cstep l k = .ok (l.take (l.length - 2)) := by rw [cstep, if_neg c1, if_neg c2, if_pos c3, if_pos c4, if_neg c5, if_neg c6, if_neg c7, if_neg c8, if_neg c9]
                    rw [hp]
                    exact ⟨_, rfl, hW⟩
        ·
          refine l_call_fp hF H66 rfl (pop_no q v1 (l.take (l.length - 1)) (by omega) w hW (by first | omega | (simp only [List.length_append, List.length_cons, List.length_nil, List.length_take] at *; omega))) (fun w hW => ?_)
          refine p_then ?_
          refine post_panic hF ?_
          have hp : cstep l k = .error 2 := by rw [cstep, if_neg c1, if_neg c2, if_pos c3, if_neg c4]
          rw [hp]
          exact ⟨rfl, hW⟩
      ·
        refine l_call_fp hF H66 rfl (pop_no q v l (by omega) w hW (by first | omega | (simp only [List.length_append, List.length_cons, List.length_nil, List.length_take] at *; omega))) (fun w hW => ?_)
        refine p_then ?_
        refine post_panic hF ?_
        have hp : cstep l k = .error 2 := by rw [cstep, if_neg c1, if_neg c2, if_neg c3]
        rw [hp]
        exact ⟨rfl, hW⟩

theorem H72 : Has Try.prog 72 := ⟨fun args w => run_callFunc_body Try.func72 rfl (by decide) args w⟩
def pstep (l : List Int) (k : Int) (n : Int) : Except Int (List Int) := if k = 1 then if -1125899906842624 ≤ n ∧ n ≤ 1125899906842624 then .ok (l ++ [n]) else .error 11 else if k = 7 then if 0 < l.length then if (-1125899906842624 ≤ (0 : Int) ∧ (0 : Int) ≤ 1125899906842624) ∧ (-1125899906842624 ≤ (l.getD (l.length - 1) 0) ∧ (l.getD (l.length - 1) 0) ≤ 1125899906842624) ∧ (-1125899906842624 ≤ ((0 : Int) - (l.getD (l.length - 1) 0)) ∧ ((0 : Int) - (l.getD (l.length - 1) 0)) ≤ 1125899906842624) then .ok ((l.take (l.length - 1)) ++ [0 - (l.getD (l.length - 1) 0)]) else .error 11 else .error 2 else cstep l k
theorem perform_any {X : List Nat} {w0 : World} {M : Blks} {Z : List RowE} (q : Nat) (v : Value) (l : List Int) (k : Int) (n : Int) (w : World) (hW : Stw X w0 ((q, [v]) :: M) (rowL v 3 1 encI l :: Z) w) (hl : l.length ≤ 1000000) :
    Calls Try.prog 65 #[Value.pointer (some ⟨q, 0, none⟩), Value.agg #[Value.int IntKind.i64 k, Value.int IntKind.i64 n]] w fun e w' => match pstep l k n with | .ok l' => ∃ v', e = .returned (.tuple #[]) ∧ Stw X w0 ((q, [v']) :: M) (rowL v' 3 1 encI l' :: Z) w' | .error c => e = .panicked [{ v := Value.iface 79 (Value.agg #[Value.int IntKind.i64 c]), recovered := false }] ∧ Stw X w0 M Z w' := by
  refine enter Try.func65 rfl Try.ntmps65 rfl (fun a hF => ?_)
  refine c_seq ?_
  refine reg_list ?_
  refine l_box (cs := [Value.int IntKind.i64 k, Value.int IntKind.i64 n]) hF hW rfl rfl rfl (fun b1 a w hF hW => ?_)
  refine ls_nil ?_
  refine c_then ?_
  refine c_seq ?_
  refine reg_list ?_
  refine ls hF hW rfl (y_fieldAddr Try.underlying42 rfl rfl rfl T3 hF rfl 0 rfl) (fun a w hF hW => ?_)
  refine ls hF hW rfl (y_load (v := Value.int IntKind.i64 k) 0 hF rfl rfl T3 rfl) (fun a w hF hW => ?_)
  refine ls_nil ?_
  refine c_then ?_
  refine wp_block ?_
  refine c_seq ?_
  refine reg_list ?_
  refine ls hF hW rfl (y_eql hF rfl rfl) (fun a w hF hW => ?_)
  refine ls hF hW rfl (y_assign hF rfl) (fun a w hF hW => ?_)
  refine ls_nil ?_
  refine c_then ?_
  refine c_cond hF rfl (fun hb => ?_) (fun hb => ?_)
  ·
    have c1 := of_decide_eq_true hb
    simp only [hb] at hF
    clear hb
    refine reg_list ?_
    refine ls hF hW rfl (y_move hF rfl) (fun a w hF hW => ?_)
    refine ls hF hW rfl (y_fieldAddr Try.underlying42 rfl rfl rfl T3 hF rfl 1 rfl) (fun a w hF hW => ?_)
    refine ls hF hW rfl (y_load (v := Value.int IntKind.i64 n) 0 hF rfl rfl T3 rfl) (fun a w hF hW => ?_)
    by_cases c2 : -1125899906842624 ≤ n ∧ n ≤ 1125899906842624
    ·
      refine ls hF hW rfl (y_call (v := Value.int IntKind.i64 n) hF H61 rfl (fun w _ => mp_ok (checked_any n w) c2)) (fun a w hF hW => ?_)
      have hW := hW.frontM (i := 1) rfl rfl
      refine l_call_fr hF H71 rfl rfl (push_any q v l n w hW (by first | omega | (simp only [List.length_append, List.length_cons, List.length_nil, List.length_take] at *; omega))) (fun v1 a w hF hW => ?_)
      refine ls_nil ?_
      refine b_normal ?_
      refine post0 (.inr rfl) hF rfl ?_
      have hp : pstep l k n = .ok (l ++ [n]) := by rw [pstep, if_pos c1, if_pos c2]
      rw [hp]
      have hW := hW.frontM (i := 0) rfl rfl
      have hW := hW.subM (M' := (q, [v1]) :: M) (List.Sublist.cons_cons _ (List.Sublist.cons _ (List.Sublist.refl _)))
      exact ⟨_, rfl, hW⟩
    ·
      refine l_call_panic hF hW H61 rfl (mp_no (checked_any n w) c2) (fun w hW => ?_)
      refine p_block ?_
      refine post_panic hF ?_
      have hp : pstep l k n = .error 11 := by rw [pstep, if_pos c1, if_neg c2]
      rw [hp]
      have hW := hW.subM (M' := M) (List.Sublist.cons _ (List.Sublist.cons _ (List.Sublist.refl _)))
      have hW := hW.subZ (Z' := Z) (List.Sublist.cons _ (List.Sublist.refl _))
      exact ⟨rfl, hW⟩
  ·
    have c1 := of_decide_eq_false hb
    simp only [hb] at hF
    clear hb
    refine c_seq ?_
    refine reg_list ?_
    refine ls hF hW rfl (y_eql hF rfl rfl) (fun a w hF hW => ?_)
    refine ls hF hW rfl (y_assign hF rfl) (fun a w hF hW => ?_)
    refine ls_nil ?_
    refine c_then ?_
    refine c_cond hF rfl (fun hb => ?_) (fun hb => ?_)
    ·
      have c2 := of_decide_eq_true hb
      simp only [hb] at hF
      clear hb
      refine reg_list ?_
      refine ls hF hW rfl (y_move hF rfl) (fun a w hF hW => ?_)
      refine ls hF hW rfl (y_move hF rfl) (fun a w hF hW => ?_)
      have hW := hW.frontM (i := 1) rfl rfl
      by_cases c3 : 0 < l.length
      ·
        refine l_call_fr hF H66 rfl rfl (pop_ok q v l c3 w hW (by first | omega | (simp only [List.length_append, List.length_cons, List.length_nil, List.length_take] at *; omega))) (fun v2 a w hF hW => ?_)
        by_cases c4 : (-1125899906842624 ≤ (0 : Int) ∧ (0 : Int) ≤ 1125899906842624) ∧ (-1125899906842624 ≤ (l.getD (l.length - 1) 0) ∧ (l.getD (l.length - 1) 0) ≤ 1125899906842624) ∧ (-1125899906842624 ≤ ((0 : Int) - (l.getD (l.length - 1) 0)) ∧ ((0 : Int) - (l.getD (l.length - 1) 0)) ≤ 1125899906842624)
        ·
          refine ls hF hW rfl (y_call (v := Value.int IntKind.i64 (0 - (l.getD (l.length - 1) 0))) hF H56 rfl (fun w _ => mp_ok (sub_any 0 (l.getD (l.length - 1) 0) w) c4)) (fun a w hF hW => ?_)
          refine l_call_fr hF H71 rfl rfl (push_any q v2 (l.take (l.length - 1)) (0 - (l.getD (l.length - 1) 0)) w hW (by first | omega | (simp only [List.length_append, List.length_cons, List.length_nil, List.length_take] at *; omega))) (fun v3 a w hF hW => ?_)
          refine ls_nil ?_
          refine b_normal ?_
          refine post0 (.inr rfl) hF rfl ?_
          have hp : pstep l k n = .ok ((l.take (l.length - 1)) ++ [0 - (l.getD (l.length - 1) 0)]) := by rw [pstep, if_neg c1, if_pos c2, if_pos c3, if_pos c4]
          rw [hp]
          have hW := hW.frontM (i := 0) rfl rfl
          have hW := hW.subM (M' := (q, [v3]) :: M) (List.Sublist.cons_cons _ (List.Sublist.cons _ (List.Sublist.refl _)))
          exact ⟨_, rfl, hW⟩
        ·
          refine l_call_panic hF hW H56 rfl (mp_no (sub_any 0 (l.getD (l.length - 1) 0) w) c4) (fun w hW => ?_)
          refine p_block ?_
          refine post_panic hF ?_
          have hp : pstep l k n = .error 11 := by rw [pstep, if_neg c1, if_pos c2, if_pos c3, if_neg c4]
          rw [hp]
          have hW := hW.subM (M' := M) (List.Sublist.cons _ (List.Sublist.cons _ (List.Sublist.refl _)))
          have hW := hW.subZ (Z' := Z) (List.Sublist.cons _ (List.Sublist.refl _))
          exact ⟨rfl, hW⟩
      ·
        refine l_call_fp hF H66 rfl (pop_no q v l (by omega) w hW (by first | omega | (simp only [List.length_append, List.length_cons, List.length_nil, List.length_take] at *; omega))) (fun w hW => ?_)
        refine p_block ?_
        refine post_panic hF ?_
        have hp : pstep l k n = .error 2 := by rw [pstep, if_neg c1, if_pos c2, if_neg c3]
        rw [hp]
        have hW := hW.subM (M' := M) (List.Sublist.cons _ (List.Sublist.refl _))
        exact ⟨rfl, hW⟩
    ·
      have c2 := of_decide_eq_false hb
      simp only [hb] at hF
      clear hb
      refine reg_list ?_
      refine ls hF hW rfl (y_move hF rfl) (fun a w hF hW => ?_)
      refine ls hF hW rfl (y_fieldAddr Try.underlying42 rfl rfl rfl T3 hF rfl 0 rfl) (fun a w hF hW => ?_)
      refine ls hF hW rfl (y_load (v := Value.int IntKind.i64 k) 0 hF rfl rfl T3 rfl) (fun a w hF hW => ?_)
      have hW := hW.frontM (i := 1) rfl rfl
      have hcall := combine_any q v l k w hW (by first | omega | (simp only [List.length_append, List.length_cons, List.length_nil, List.length_take] at *; omega))
      cases hcs : cstep l k with
      | ok l2 =>
        rw [hcs] at hcall
        refine l_call_fr hF H72 rfl rfl hcall (fun v4 a w hF hW => ?_)
        refine ls_nil ?_
        refine b_normal ?_
        refine post0 (.inr rfl) hF rfl ?_
        have hp : pstep l k n = .ok l2 := by rw [pstep, if_neg c1, if_neg c2]; exact hcs
        rw [hp]
        have hW := hW.frontM (i := 0) rfl rfl
        have hW := hW.subM (M' := (q, [v4]) :: M) (List.Sublist.cons_cons _ (List.Sublist.cons _ (List.Sublist.refl _)))
        exact ⟨_, rfl, hW⟩
      | error ec =>
        rw [hcs] at hcall
        refine l_call_fp hF H72 rfl hcall (fun w hW => ?_)
        refine p_block ?_
        refine post_panic hF ?_
        have hp : pstep l k n = .error ec := by rw [pstep, if_neg c1, if_neg c2]; exact hcs
        rw [hp]
        have hW := hW.subM (M' := M) (List.Sublist.cons _ (List.Sublist.refl _))
        exact ⟨rfl, hW⟩

def foldP : List (Int × Int) → List Int → Except Int (List Int)
  | [], l => .ok l
  | p :: r, l => match pstep l p.1 p.2 with | .ok l2 => foldP r l2 | .error c => .error c
def evalT (ops : List (Int × Int)) : Int × Int :=
  if 64 < ops.length then (0, 3) else match foldP ops [] with
    | .error c => (0, c)
    | .ok l => if l.length = 1 then (l.getD 0 0, 0) else (0, 2)
theorem drop_cons (ops : List (Int × Int)) (i : Nat) (hi : i < ops.length) : ops.drop i = ops.getD i (0, 0) :: ops.drop (i + 1) := by
  rw [List.drop_eq_getElem_cons hi]
  simp [List.getD_eq_getElem?_getD, List.getElem?_eq_getElem hi]
theorem fold_ok (ops : List (Int × Int)) (i : Nat) (l l2 : List Int) (hi : i < ops.length) (h : pstep l (ops.getD i (0, 0)).1 (ops.getD i (0, 0)).2 = .ok l2) : foldP (ops.drop i) l = foldP (ops.drop (i + 1)) l2 := by
  rw [drop_cons ops i hi]
  simp only [foldP, h]
theorem fold_err (ops : List (Int × Int)) (i : Nat) (l : List Int) (c : Int) (hi : i < ops.length) (h : pstep l (ops.getD i (0, 0)).1 (ops.getD i (0, 0)).2 = .error c) : foldP (ops.drop i) l = .error c := by
  rw [drop_cons ops i hi]
  simp only [foldP, h]
theorem cstep_len (l l2 : List Int) (k : Int) (h : cstep l k = .ok l2) : l2.length ≤ l.length + 1 := by
  unfold cstep at h
  repeat' (split at h)
  all_goals first | (cases h; done) | (cases h; simp; try omega)
theorem pstep_len (l l2 : List Int) (k n : Int) (h : pstep l k n = .ok l2) : l2.length ≤ l.length + 1 := by
  unfold pstep at h
  repeat' (split at h)
  all_goals first | (exact cstep_len _ _ _ h) | (cases h; done) | (cases h; simp; try omega)
theorem cEval_idle {X : List Nat} {w0 : World} {M : Blks} {Z : List RowE} (q1 q2 : Nat) (x y : Value) (w : World) (hW : Stw X w0 ((q2, [y]) :: (q1, [x]) :: M) Z w) :
    CallsD Try.prog 64 #[Value.pointer (some ⟨q1, 0, none⟩), Value.pointer (some ⟨q2, 0, none⟩)] .returning w fun e u' w' => u' = .returning ∧ (e = .returned (.tuple #[]) ∧ Stw X w0 ((q2, [y]) :: (q1, [x]) :: M) Z w') := by
  refine rec_returning Try.func64 rfl Try.ntmps64 rfl rfl rfl (fun a hF => ?_)
  refine c_seq ?_
  refine reg_list ?_
  refine ls hF hW rfl (y_move hF rfl) (fun a w hF hW => ?_)
  refine ls hF hW rfl (y_neqnil_nil Try.underlying20 hF rfl) (fun a w hF hW => ?_)
  refine ls_nil ?_
  refine c_then ?_
  refine c_cond_f hF rfl ?_
  refine wp_skip ?_
  refine post0 (.inr rfl) hF rfl ?_
  exact ⟨rfl, hW⟩

theorem cEval_catch {X : List Nat} {w0 : World} {M : Blks} {Z : List RowE} (q1 q2 : Nat) (x y : Value) (c : Int) (w : World) (hW : Stw X w0 ((q2, [y]) :: (q1, [x]) :: M) Z w) :
    CallsD Try.prog 64 #[Value.pointer (some ⟨q1, 0, none⟩), Value.pointer (some ⟨q2, 0, none⟩)] (.panicking ({ v := Value.iface 79 (Value.agg #[Value.int IntKind.i64 c]), recovered := false } :: [])) w fun e u' w' => u' = .panicking ({ v := Value.iface 79 (Value.agg #[Value.int IntKind.i64 c]), recovered := true } :: []) ∧ (e = .returned (.tuple #[]) ∧ Stw X w0 ((q2, [Value.int IntKind.i64 c]) :: (q1, [Value.int IntKind.i64 0]) :: M) Z w') := by
  refine rec_panicking Try.func64 rfl Try.ntmps64 rfl rfl rfl (fun a hF => ?_)
  refine c_seq ?_
  refine reg_list ?_
  refine ls hF hW rfl (y_move hF rfl) (fun a w hF hW => ?_)
  refine ls hF hW rfl (y_neqnil_some Try.underlying20 hF rfl) (fun a w hF hW => ?_)
  refine ls_nil ?_
  refine c_then ?_
  refine c_cond_t hF rfl ?_
  refine reg_list ?_
  refine ls hF hW rfl (y_move hF rfl) (fun a w hF hW => ?_)
  refine ls hF hW rfl (y_call (v := Value.int IntKind.i64 c) hF H52 rfl (fun w _ => cause_any c w )) (fun a w hF hW => ?_)
  refine l_store (vs := [Value.int IntKind.i64 0]) (M' := ((q2, [y]) :: (q1, [Value.int IntKind.i64 0]) :: M)) 1 hF hW rfl rfl rfl T3 rfl rfl rfl rfl rfl (fun w hW => ?_)
  refine l_store (vs := [Value.int IntKind.i64 c]) (M' := ((q2, [Value.int IntKind.i64 c]) :: (q1, [Value.int IntKind.i64 0]) :: M)) 0 hF hW rfl rfl rfl T22 rfl rfl rfl rfl rfl (fun w hW => ?_)
  refine ls_nil ?_
  refine post0 (.inr rfl) hF rfl ?_
  exact ⟨rfl, hW⟩

end Go.Proofs.Ytcnhmbjkippnnaa
