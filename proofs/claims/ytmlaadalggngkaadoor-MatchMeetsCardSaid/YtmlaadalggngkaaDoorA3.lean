/- The functions of layer 8, lifted. Conditions: none. -/
import Derived.Test.YtmlaadalggngkaaDoorA2
namespace Go.Proofs.YtmlaadalggngkaaDoor
open Go Go.RowKit
set_option linter.unusedVariables false
set_option linter.unusedSimpArgs false
set_option maxRecDepth 20000
theorem H19 : Has Tryd.prog 19 := ⟨fun args w => run_callFunc_body Tryd.func19 rfl (by decide) args w⟩
def math_bits_OnesCount64 (p0 : Int) : Int := andI .i64 (w64 (IntKind.u64.wrap ((IntKind.u64.wrap ((IntKind.u64.wrap ((andI .u64 (IntKind.u64.wrap ((shrI .u64 (IntKind.u64.wrap ((andI .u64 (shrI .u64 (IntKind.u64.wrap ((andI .u64 (shrI .u64 p0 1) 6148914691236517205) + (andI .u64 p0 6148914691236517205))) 2) 3689348814741910323) + (andI .u64 (IntKind.u64.wrap ((andI .u64 (shrI .u64 p0 1) 6148914691236517205) + (andI .u64 p0 6148914691236517205))) 3689348814741910323))) 4) + (IntKind.u64.wrap ((andI .u64 (shrI .u64 (IntKind.u64.wrap ((andI .u64 (shrI .u64 p0 1) 6148914691236517205) + (andI .u64 p0 6148914691236517205))) 2) 3689348814741910323) + (andI .u64 (IntKind.u64.wrap ((andI .u64 (shrI .u64 p0 1) 6148914691236517205) + (andI .u64 p0 6148914691236517205))) 3689348814741910323))))) 1085102592571150095) + (shrI .u64 (andI .u64 (IntKind.u64.wrap ((shrI .u64 (IntKind.u64.wrap ((andI .u64 (shrI .u64 (IntKind.u64.wrap ((andI .u64 (shrI .u64 p0 1) 6148914691236517205) + (andI .u64 p0 6148914691236517205))) 2) 3689348814741910323) + (andI .u64 (IntKind.u64.wrap ((andI .u64 (shrI .u64 p0 1) 6148914691236517205) + (andI .u64 p0 6148914691236517205))) 3689348814741910323))) 4) + (IntKind.u64.wrap ((andI .u64 (shrI .u64 (IntKind.u64.wrap ((andI .u64 (shrI .u64 p0 1) 6148914691236517205) + (andI .u64 p0 6148914691236517205))) 2) 3689348814741910323) + (andI .u64 (IntKind.u64.wrap ((andI .u64 (shrI .u64 p0 1) 6148914691236517205) + (andI .u64 p0 6148914691236517205))) 3689348814741910323))))) 1085102592571150095) 8))) + (shrI .u64 (IntKind.u64.wrap ((andI .u64 (IntKind.u64.wrap ((shrI .u64 (IntKind.u64.wrap ((andI .u64 (shrI .u64 (IntKind.u64.wrap ((andI .u64 (shrI .u64 p0 1) 6148914691236517205) + (andI .u64 p0 6148914691236517205))) 2) 3689348814741910323) + (andI .u64 (IntKind.u64.wrap ((andI .u64 (shrI .u64 p0 1) 6148914691236517205) + (andI .u64 p0 6148914691236517205))) 3689348814741910323))) 4) + (IntKind.u64.wrap ((andI .u64 (shrI .u64 (IntKind.u64.wrap ((andI .u64 (shrI .u64 p0 1) 6148914691236517205) + (andI .u64 p0 6148914691236517205))) 2) 3689348814741910323) + (andI .u64 (IntKind.u64.wrap ((andI .u64 (shrI .u64 p0 1) 6148914691236517205) + (andI .u64 p0 6148914691236517205))) 3689348814741910323))))) 1085102592571150095) + (shrI .u64 (andI .u64 (IntKind.u64.wrap ((shrI .u64 (IntKind.u64.wrap ((andI .u64 (shrI .u64 (IntKind.u64.wrap ((andI .u64 (shrI .u64 p0 1) 6148914691236517205) + (andI .u64 p0 6148914691236517205))) 2) 3689348814741910323) + (andI .u64 (IntKind.u64.wrap ((andI .u64 (shrI .u64 p0 1) 6148914691236517205) + (andI .u64 p0 6148914691236517205))) 3689348814741910323))) 4) + (IntKind.u64.wrap ((andI .u64 (shrI .u64 (IntKind.u64.wrap ((andI .u64 (shrI .u64 p0 1) 6148914691236517205) + (andI .u64 p0 6148914691236517205))) 2) 3689348814741910323) + (andI .u64 (IntKind.u64.wrap ((andI .u64 (shrI .u64 p0 1) 6148914691236517205) + (andI .u64 p0 6148914691236517205))) 3689348814741910323))))) 1085102592571150095) 8))) 16))) + (shrI .u64 (IntKind.u64.wrap ((IntKind.u64.wrap ((andI .u64 (IntKind.u64.wrap ((shrI .u64 (IntKind.u64.wrap ((andI .u64 (shrI .u64 (IntKind.u64.wrap ((andI .u64 (shrI .u64 p0 1) 6148914691236517205) + (andI .u64 p0 6148914691236517205))) 2) 3689348814741910323) + (andI .u64 (IntKind.u64.wrap ((andI .u64 (shrI .u64 p0 1) 6148914691236517205) + (andI .u64 p0 6148914691236517205))) 3689348814741910323))) 4) + (IntKind.u64.wrap ((andI .u64 (shrI .u64 (IntKind.u64.wrap ((andI .u64 (shrI .u64 p0 1) 6148914691236517205) + (andI .u64 p0 6148914691236517205))) 2) 3689348814741910323) + (andI .u64 (IntKind.u64.wrap ((andI .u64 (shrI .u64 p0 1) 6148914691236517205) + (andI .u64 p0 6148914691236517205))) 3689348814741910323))))) 1085102592571150095) + (shrI .u64 (andI .u64 (IntKind.u64.wrap ((shrI .u64 (IntKind.u64.wrap ((andI .u64 (shrI .u64 (IntKind.u64.wrap ((andI .u64 (shrI .u64 p0 1) 6148914691236517205) + (andI .u64 p0 6148914691236517205))) 2) 3689348814741910323) + (andI .u64 (IntKind.u64.wrap ((andI .u64 (shrI .u64 p0 1) 6148914691236517205) + (andI .u64 p0 6148914691236517205))) 3689348814741910323))) 4) + (IntKind.u64.wrap ((andI .u64 (shrI .u64 (IntKind.u64.wrap ((andI .u64 (shrI .u64 p0 1) 6148914691236517205) + (andI .u64 p0 6148914691236517205))) 2) 3689348814741910323) + (andI .u64 (IntKind.u64.wrap ((andI .u64 (shrI .u64 p0 1) 6148914691236517205) + (andI .u64 p0 6148914691236517205))) 3689348814741910323))))) 1085102592571150095) 8))) + (shrI .u64 (IntKind.u64.wrap ((andI .u64 (IntKind.u64.wrap ((shrI .u64 (IntKind.u64.wrap ((andI .u64 (shrI .u64 (IntKind.u64.wrap ((andI .u64 (shrI .u64 p0 1) 6148914691236517205) + (andI .u64 p0 6148914691236517205))) 2) 3689348814741910323) + (andI .u64 (IntKind.u64.wrap ((andI .u64 (shrI .u64 p0 1) 6148914691236517205) + (andI .u64 p0 6148914691236517205))) 3689348814741910323))) 4) + (IntKind.u64.wrap ((andI .u64 (shrI .u64 (IntKind.u64.wrap ((andI .u64 (shrI .u64 p0 1) 6148914691236517205) + (andI .u64 p0 6148914691236517205))) 2) 3689348814741910323) + (andI .u64 (IntKind.u64.wrap ((andI .u64 (shrI .u64 p0 1) 6148914691236517205) + (andI .u64 p0 6148914691236517205))) 3689348814741910323))))) 1085102592571150095) + (shrI .u64 (andI .u64 (IntKind.u64.wrap ((shrI .u64 (IntKind.u64.wrap ((andI .u64 (shrI .u64 (IntKind.u64.wrap ((andI .u64 (shrI .u64 p0 1) 6148914691236517205) + (andI .u64 p0 6148914691236517205))) 2) 3689348814741910323) + (andI .u64 (IntKind.u64.wrap ((andI .u64 (shrI .u64 p0 1) 6148914691236517205) + (andI .u64 p0 6148914691236517205))) 3689348814741910323))) 4) + (IntKind.u64.wrap ((andI .u64 (shrI .u64 (IntKind.u64.wrap ((andI .u64 (shrI .u64 p0 1) 6148914691236517205) + (andI .u64 p0 6148914691236517205))) 2) 3689348814741910323) + (andI .u64 (IntKind.u64.wrap ((andI .u64 (shrI .u64 p0 1) 6148914691236517205) + (andI .u64 p0 6148914691236517205))) 3689348814741910323))))) 1085102592571150095) 8))) 16))) 32)))) 127
theorem math_bits_OnesCount64_c (Y : Nat → Prop) (w0 : World)  (p0 : Int) (r : Int) (H : math_bits_OnesCount64 p0 = r)  :
    Calls Tryd.prog 53 #[.int .u64 p0] w0 fun e w' => e = .returned (.int .i64 r) ∧ Below w0.heap.size w0 w' := by
  refine enter Tryd.func53 rfl Tryd.ntmps53 rfl (fun a hF => ?_)
  have hW := Stw.start Y w0
  unfold math_bits_OnesCount64 at H
  refine c_seq ?_
  refine reg_list ?_
  refine ls hF hW rfl ((y_assign hF rfl).q) (fun a w hF hW => ?_)
  refine ls_nil ?_
  refine c_then ?_
  refine c_seq ?_
  refine reg_list ?_
  refine ls hF hW rfl ((y_move hF rfl).q) (fun a w hF hW => ?_)
  refine ls hF hW rfl ((y_shr hF rfl rfl (by decide)).q) (fun a w hF hW => ?_)
  refine ls hF hW rfl ((y_and hF rfl rfl).q) (fun a w hF hW => ?_)
  refine ls hF hW rfl ((y_move hF rfl).q) (fun a w hF hW => ?_)
  refine ls hF hW rfl ((y_and hF rfl rfl).q) (fun a w hF hW => ?_)
  refine ls hF hW rfl ((y_add hF rfl rfl rfl).q) (fun a w hF hW => ?_)
  refine ls hF hW rfl ((y_assign hF rfl).q) (fun a w hF hW => ?_)
  refine ls_nil ?_
  refine c_then ?_
  refine c_seq ?_
  refine reg_list ?_
  refine ls hF hW rfl ((y_move hF rfl).q) (fun a w hF hW => ?_)
  refine ls hF hW rfl ((y_shr hF rfl rfl (by decide)).q) (fun a w hF hW => ?_)
  refine ls hF hW rfl ((y_and hF rfl rfl).q) (fun a w hF hW => ?_)
  refine ls hF hW rfl ((y_move hF rfl).q) (fun a w hF hW => ?_)
  refine ls hF hW rfl ((y_and hF rfl rfl).q) (fun a w hF hW => ?_)
  refine ls hF hW rfl ((y_add hF rfl rfl rfl).q) (fun a w hF hW => ?_)
  refine ls hF hW rfl ((y_assign hF rfl).q) (fun a w hF hW => ?_)
  refine ls_nil ?_
  refine c_then ?_
  refine c_seq ?_
  refine reg_list ?_
  refine ls hF hW rfl ((y_move hF rfl).q) (fun a w hF hW => ?_)
  refine ls hF hW rfl ((y_shr hF rfl rfl (by decide)).q) (fun a w hF hW => ?_)
  refine ls hF hW rfl ((y_move hF rfl).q) (fun a w hF hW => ?_)
  refine ls hF hW rfl ((y_add hF rfl rfl rfl).q) (fun a w hF hW => ?_)
  refine ls hF hW rfl ((y_and hF rfl rfl).q) (fun a w hF hW => ?_)
  refine ls hF hW rfl ((y_assign hF rfl).q) (fun a w hF hW => ?_)
  refine ls_nil ?_
  refine c_then ?_
  refine c_seq ?_
  refine reg_list ?_
  refine ls hF hW rfl ((y_move hF rfl).q) (fun a w hF hW => ?_)
  refine ls hF hW rfl ((y_move hF rfl).q) (fun a w hF hW => ?_)
  refine ls hF hW rfl ((y_shr hF rfl rfl (by decide)).q) (fun a w hF hW => ?_)
  refine ls hF hW rfl ((y_add hF rfl rfl rfl).q) (fun a w hF hW => ?_)
  refine ls hF hW rfl ((y_assign hF rfl).q) (fun a w hF hW => ?_)
  refine ls_nil ?_
  refine c_then ?_
  refine c_seq ?_
  refine reg_list ?_
  refine ls hF hW rfl ((y_move hF rfl).q) (fun a w hF hW => ?_)
  refine ls hF hW rfl ((y_move hF rfl).q) (fun a w hF hW => ?_)
  refine ls hF hW rfl ((y_shr hF rfl rfl (by decide)).q) (fun a w hF hW => ?_)
  refine ls hF hW rfl ((y_add hF rfl rfl rfl).q) (fun a w hF hW => ?_)
  refine ls hF hW rfl ((y_assign hF rfl).q) (fun a w hF hW => ?_)
  refine ls_nil ?_
  refine c_then ?_
  refine c_seq ?_
  refine reg_list ?_
  refine ls hF hW rfl ((y_move hF rfl).q) (fun a w hF hW => ?_)
  refine ls hF hW rfl ((y_move hF rfl).q) (fun a w hF hW => ?_)
  refine ls hF hW rfl ((y_shr hF rfl rfl (by decide)).q) (fun a w hF hW => ?_)
  refine ls hF hW rfl ((y_add hF rfl rfl rfl).q) (fun a w hF hW => ?_)
  refine ls hF hW rfl ((y_assign hF rfl).q) (fun a w hF hW => ?_)
  refine ls_nil ?_
  refine c_then ?_
  refine c_seq ?_
  refine reg_list ?_
  refine ls hF hW rfl ((y_move hF rfl).q) (fun a w hF hW => ?_)
  refine ls hF hW rfl ((y_convI Tryd.underlying77 Tryd.underlying3 hF rfl).q) (fun a w hF hW => ?_)
  refine ls hF hW rfl ((y_and hF rfl rfl).q) (fun a w hF hW => ?_)
  refine ls hF hW rfl ((y_assign hF rfl).q) (fun a w hF hW => ?_)
  refine ls_nil ?_
  refine c_then ?_
  refine wp_ret ?_
  subst H
  refine post1 (.inl rfl) hF hW rfl (rv_tmp hF rfl) ?_
  exact ⟨rfl, hW.done⟩

theorem H53 : Has Tryd.prog 53 := ⟨fun args w => run_callFunc_body Tryd.func53 rfl (by decide) args w⟩
def math_bits_OnesCount (p0 : Int) : Int := (math_bits_OnesCount64 p0)
theorem math_bits_OnesCount_c (Y : Nat → Prop) (w0 : World)  (p0 : Int) (r : Int) (H : math_bits_OnesCount p0 = r)  :
    Calls Tryd.prog 37 #[.int .u64 p0] w0 fun e w' => e = .returned (.int .i64 r) ∧ Below w0.heap.size w0 w' := by
  refine enter Tryd.func37 rfl Tryd.ntmps37 rfl (fun a hF => ?_)
  have hW := Stw.start Y w0
  unfold math_bits_OnesCount at H
  refine c_seq ?_
  refine reg_list ?_
  refine ls hF hW rfl ((y_assign hF rfl).q) (fun a w hF hW => ?_)
  refine ls_nil ?_
  refine c_then ?_
  refine c_seq ?_
  refine c_cond_f hF rfl ?_
  refine wp_skip ?_
  refine c_then ?_
  refine c_seq ?_
  refine reg_list ?_
  refine ls hF hW rfl ((y_move hF rfl).q) (fun a w hF hW => ?_)
  refine ls hF hW rfl (y_call (v := Value.int .i64 (math_bits_OnesCount64 p0)) hF H53 rfl (fun w hW => math_bits_OnesCount64_c any w p0 _ rfl)) (fun a w hF hW => ?_)
  refine ls hF hW rfl ((y_assign hF rfl).q) (fun a w hF hW => ?_)
  refine ls_nil ?_
  refine c_then ?_
  refine wp_ret ?_
  subst H
  refine post1 (.inl rfl) hF hW rfl (rv_tmp hF rfl) ?_
  exact ⟨rfl, hW.done⟩

theorem H37 : Has Tryd.prog 37 := ⟨fun args w => run_callFunc_body Tryd.func37 rfl (by decide) args w⟩
noncomputable def match_Asked_l1 (p0 : Int × (Int × Int × Int × Int) × (Int × Int × Int × Int)) : (Int × Int) → Option ((Int × Int) ⊕ Int)
  | (x3, x4) => (if x4 < 4 then (ix ([p0.2.2.1, p0.2.2.2.1, p0.2.2.2.2.1, p0.2.2.2.2.2] : List Int) x4).bind fun x5 => some (.inl (w64 (x3 + (math_bits_OnesCount (IntKind.u64.wrap x5))), w64 (x4 + 1))) else some (.inr x3))
noncomputable def match_Asked (p0 : Int × (Int × Int × Int × Int) × (Int × Int × Int × Int)) : Option Int := (if p0.1 ≠ (-1) then some 3 else some 0).bind fun x1 => (loopW (match_Asked_l1 p0) (x1, 0)).bind fun x2 => some x2
theorem match_Asked_c (Y : Nat → Prop) (w0 : World)  (p0 : Int × (Int × Int × Int × Int) × (Int × Int × Int × Int)) (r : Int) (H : match_Asked p0 = some r)  :
    Calls Tryd.prog 20 #[.agg #[.int .i64 p0.1, .int .i64 p0.2.1.1, .int .i64 p0.2.1.2.1, .int .i64 p0.2.1.2.2.1, .int .i64 p0.2.1.2.2.2, .int .i64 p0.2.2.1, .int .i64 p0.2.2.2.1, .int .i64 p0.2.2.2.2.1, .int .i64 p0.2.2.2.2.2]] w0 fun e w' => e = .returned (.int .i64 r) ∧ Below w0.heap.size w0 w' := by
  refine enter Tryd.func20 rfl Tryd.ntmps20 rfl (fun a hF => ?_)
  have hW := Stw.start Y w0
  unfold match_Asked at H
  refine c_seq ?_
  refine reg_list ?_
  refine l_box (cs := [.int .i64 p0.1, .int .i64 p0.2.1.1, .int .i64 p0.2.1.2.1, .int .i64 p0.2.1.2.2.1, .int .i64 p0.2.1.2.2.2, .int .i64 p0.2.2.1, .int .i64 p0.2.2.2.1, .int .i64 p0.2.2.2.2.1, .int .i64 p0.2.2.2.2.2]) hF hW rfl rfl rfl (fun b1 a w hF hW => ?_)
  refine ls hF hW rfl ((y_assign hF rfl).q) (fun a w hF hW => ?_)
  refine ls_nil ?_
  refine c_then ?_
  refine c_seq ?_
  refine reg_list ?_
  refine ls hF hW rfl ((y_assign hF rfl).q) (fun a w hF hW => ?_)
  refine ls_nil ?_
  refine c_then ?_
  obtain ⟨o1, G1, K1⟩ := bindE H
  refine c_seqJ (fun a w => ∃ x1 : Int, some (x1) = some o1 ∧ Fr 21 [] [(1, .pointer (some ⟨b1, 0, none⟩)), (2, .int .i64 0), (3, .int .i64 x1)] a ∧ Stw ⟨Y, [], w0⟩ [(b1, [.int .i64 p0.1, .int .i64 p0.2.1.1, .int .i64 p0.2.1.2.1, .int .i64 p0.2.1.2.2.1, .int .i64 p0.2.1.2.2.2, .int .i64 p0.2.2.1, .int .i64 p0.2.2.2.1, .int .i64 p0.2.2.2.2.1, .int .i64 p0.2.2.2.2.2])] [] w) ?_ ?_
  ·
    have H := G1
    clear G1 K1
    refine c_seq ?_
    refine reg_list ?_
    refine ls hF hW rfl ((y_fieldAddr Tryd.underlying24 rfl rfl rfl T3 hF rfl 0 rfl).q) (fun a w hF hW => ?_)
    refine ls hF hW rfl ((y_load (v := Value.int .i64 p0.1) 0 hF rfl rfl T3 rfl).q) (fun a w hF hW => ?_)
    refine ls hF hW rfl ((y_neq hF rfl rfl).q) (fun a w hF hW => ?_)
    refine ls_nil ?_
    refine c_then ?_
    refine c_cond hF rfl (fun hb => ?_) (fun hb => ?_)
    ·
      have H := iteT (of_decide_eq_true hb) H
      rw [hb] at hF
      clear hb
      refine reg_list ?_
      refine ls hF hW rfl ((y_assign hF rfl).q) (fun a w hF hW => ?_)
      refine ls_nil ?_
      refine c_then ?_
      exact ⟨_, H, hF.re ⟨rfl, rfl, rfl, trivial⟩, hW⟩
    ·
      have H := iteF (of_decide_eq_false hb) H
      rw [hb] at hF
      clear hb
      refine wp_skip ?_
      refine c_then ?_
      exact ⟨_, H, hF.re ⟨rfl, rfl, rfl, trivial⟩, hW⟩
  rintro a w ⟨x1, hj, hF, hW⟩
  have hj := Option.some.inj hj
  subst hj
  have H := K1
  clear G1 K1
  obtain ⟨o2, G2, K2⟩ := bindE H
  refine c_seqJ (fun a w => ∃ x2 : Int, some (x2) = some o2 ∧ Fr 21 [] [(2, .int .i64 0), (3, .int .i64 x2)] a ∧ Stw ⟨Y, [], w0⟩ [(b1, [.int .i64 p0.1, .int .i64 p0.2.1.1, .int .i64 p0.2.1.2.1, .int .i64 p0.2.1.2.2.1, .int .i64 p0.2.1.2.2.2, .int .i64 p0.2.2.1, .int .i64 p0.2.2.2.1, .int .i64 p0.2.2.2.2.1, .int .i64 p0.2.2.2.2.2])] [] w) ?_ ?_
  ·
    have H := G2
    clear G2 K2
    refine c_seq ?_
    refine reg_list ?_
    refine ls hF hW rfl ((y_fieldAddr Tryd.underlying24 rfl rfl rfl T22 hF rfl 5 rfl).q) (fun a w hF hW => ?_)
    refine ls hF hW rfl ((y_load (v := Value.agg #[.int .i64 p0.2.2.1, .int .i64 p0.2.2.2.1, .int .i64 p0.2.2.2.2.1, .int .i64 p0.2.2.2.2.2]) 0 hF rfl rfl T22 rfl).q) (fun a w hF hW => ?_)
    refine ls hF hW rfl ((y_move hF rfl).q) (fun a w hF hW => ?_)
    refine ls_nil ?_
    refine c_then ?_
    refine wp_block ?_
    refine c_loopW H (fun s a w => Fr 21 [] [(2, .int .i64 0), (3, .int .i64 s.1), (10, .agg #[.int .i64 p0.2.2.1, .int .i64 p0.2.2.2.1, .int .i64 p0.2.2.2.2.1, .int .i64 p0.2.2.2.2.2]), (11, .int .i64 s.2)] a ∧ Stw ⟨Y, [], w0⟩ [(b1, [.int .i64 p0.1, .int .i64 p0.2.1.1, .int .i64 p0.2.1.2.1, .int .i64 p0.2.1.2.2.1, .int .i64 p0.2.1.2.2.2, .int .i64 p0.2.2.1, .int .i64 p0.2.2.2.1, .int .i64 p0.2.2.2.2.1, .int .i64 p0.2.2.2.2.2])] [] w) ⟨hF.re ⟨rfl, rfl, rfl, rfl, trivial⟩, hW⟩ (fun s o a w H L3 hR => ?_)
    obtain ⟨x3, x4⟩ := s
    obtain ⟨hF, hW⟩ := hR
    have hF : Fr 21 [] [(2, .int .i64 0), (3, .int .i64 x3), (10, .agg #[.int .i64 p0.2.2.1, .int .i64 p0.2.2.2.1, .int .i64 p0.2.2.2.2.1, .int .i64 p0.2.2.2.2.2]), (11, .int .i64 x4)] a := hF
    have hW : Stw ⟨Y, [], w0⟩ [(b1, [.int .i64 p0.1, .int .i64 p0.2.1.1, .int .i64 p0.2.1.2.1, .int .i64 p0.2.1.2.2.1, .int .i64 p0.2.1.2.2.2, .int .i64 p0.2.2.1, .int .i64 p0.2.2.2.1, .int .i64 p0.2.2.2.2.1, .int .i64 p0.2.2.2.2.2])] [] w := hW
    rw [match_Asked_l1] at H
    refine c_seq ?_
    refine reg_list ?_
    refine ls hF hW rfl ((y_lss hF rfl rfl).q) (fun a w hF hW => ?_)
    refine ls_nil ?_
    refine c_then ?_
    refine c_seq ?_
    refine c_cond hF rfl (fun hb => ?_) (fun hb => ?_)
    ·
      have H := iteT (of_decide_eq_true hb) H
      rw [hb] at hF
      clear hb
      refine wp_skip ?_
      refine c_then ?_
      refine c_seq ?_
      refine wp_block ?_
      refine c_seq ?_
      refine reg_list ?_
      obtain ⟨x5, h1, H⟩ := bindE H
      refine ls hF hW rfl ((y_indexA (enc := Value.int .i64) (cs := [.int .i64 p0.2.2.1, .int .i64 p0.2.2.2.1, .int .i64 p0.2.2.2.2.1, .int .i64 p0.2.2.2.2.2]) Ar22 T3 hF rfl rfl rfl rfl h1).q) (fun a w hF hW => ?_)
      refine ls hF hW rfl ((y_assign hF rfl).q) (fun a w hF hW => ?_)
      refine ls_nil ?_
      refine c_then ?_
      refine reg_list ?_
      refine ls hF hW rfl ((y_move hF rfl).q) (fun a w hF hW => ?_)
      refine ls hF hW rfl ((y_move hF rfl).q) (fun a w hF hW => ?_)
      refine ls hF hW rfl ((y_convI Tryd.underlying3 Tryd.underlying55 hF rfl).q) (fun a w hF hW => ?_)
      refine ls hF hW rfl (y_call (v := Value.int .i64 (math_bits_OnesCount (IntKind.u64.wrap x5))) hF H37 rfl (fun w hW => math_bits_OnesCount_c any w (IntKind.u64.wrap x5) _ rfl)) (fun a w hF hW => ?_)
      refine ls hF hW rfl ((y_add hF rfl rfl rfl).q) (fun a w hF hW => ?_)
      refine ls hF hW rfl ((y_assign hF rfl).q) (fun a w hF hW => ?_)
      refine ls_nil ?_
      refine b_normal ?_
      refine c_then ?_
      refine reg_list ?_
      refine ls hF hW rfl ((y_add hF rfl rfl rfl).q) (fun a w hF hW => ?_)
      refine ls hF hW rfl ((y_move hF rfl).q) (fun a w hF hW => ?_)
      refine ls_nil ?_
      refine c_then ?_
      exact ⟨_, H, hF.re ⟨rfl, rfl, rfl, rfl, trivial⟩, hW⟩
    ·
      have H := iteF (of_decide_eq_false hb) H
      rw [hb] at hF
      clear hb
      refine wp_exit ?_
      refine e_then ?_
      refine e_then ?_
      refine e_block ?_
      refine c_then ?_
      have H := L3 _ H
      exact ⟨_, H, hF.re ⟨rfl, rfl, trivial⟩, hW⟩
  rintro a w ⟨x2, hj, hF, hW⟩
  have hj := Option.some.inj hj
  subst hj
  have H := K2
  clear G2 K2
  refine c_seq ?_
  refine reg_list ?_
  refine ls hF hW rfl ((y_move hF rfl).q) (fun a w hF hW => ?_)
  refine ls hF hW rfl ((y_assign hF rfl).q) (fun a w hF hW => ?_)
  refine ls_nil ?_
  refine c_then ?_
  refine wp_ret ?_
  have H := Option.some.inj H
  subst H
  refine post1 (.inl rfl) hF hW rfl (rv_tmp hF rfl) ?_
  exact ⟨rfl, hW.done⟩

theorem H20 : Has Tryd.prog 20 := ⟨fun args w => run_callFunc_body Tryd.func20 rfl (by decide) args w⟩
noncomputable def r08_Asked_l2 (p0 : Int × (Int × Int × Int × Int) × (Int × Int × Int × Int)) (x4 : Int) : (Int × Int) → Option ((Int × Int) ⊕ Int)
  | (x6, x7) => (if x7 < 8 then (ix ([p0.2.2.1, p0.2.2.2.1, p0.2.2.2.2.1, p0.2.2.2.2.2] : List Int) x4).bind fun x8 => (r08_Bit x8 x7).bind fun x9 => some (.inl (w64 (x6 + x9), w64 (x7 + 1))) else some (.inr x6))
noncomputable def r08_Asked_l1 (p0 : Int × (Int × Int × Int × Int) × (Int × Int × Int × Int)) : (Int × Int) → Option ((Int × Int) ⊕ Int)
  | (x3, x4) => (if x4 < 4 then (loopW (r08_Asked_l2 p0 x4) (x3, 0)).bind fun x5 => some (.inl (x5, w64 (x4 + 1))) else some (.inr x3))
noncomputable def r08_Asked (p0 : Int × (Int × Int × Int × Int) × (Int × Int × Int × Int)) : Option Int := (if p0.1 ≠ (-1) then some 3 else some 0).bind fun x1 => (loopW (r08_Asked_l1 p0) (x1, 0)).bind fun x2 => some x2
theorem r08_Asked_c (Y : Nat → Prop) (w0 : World)  (p0 : Int × (Int × Int × Int × Int) × (Int × Int × Int × Int)) (r : Int) (H : r08_Asked p0 = some r)  :
    Calls Tryd.prog 21 #[.agg #[.int .i64 p0.1, .int .i64 p0.2.1.1, .int .i64 p0.2.1.2.1, .int .i64 p0.2.1.2.2.1, .int .i64 p0.2.1.2.2.2, .int .i64 p0.2.2.1, .int .i64 p0.2.2.2.1, .int .i64 p0.2.2.2.2.1, .int .i64 p0.2.2.2.2.2]] w0 fun e w' => e = .returned (.int .i64 r) ∧ Below w0.heap.size w0 w' := by
  refine enter Tryd.func21 rfl Tryd.ntmps21 rfl (fun a hF => ?_)
  have hW := Stw.start Y w0
  unfold r08_Asked at H
  refine c_seq ?_
  refine reg_list ?_
  refine l_box (cs := [.int .i64 p0.1, .int .i64 p0.2.1.1, .int .i64 p0.2.1.2.1, .int .i64 p0.2.1.2.2.1, .int .i64 p0.2.1.2.2.2, .int .i64 p0.2.2.1, .int .i64 p0.2.2.2.1, .int .i64 p0.2.2.2.2.1, .int .i64 p0.2.2.2.2.2]) hF hW rfl rfl rfl (fun b1 a w hF hW => ?_)
  refine ls hF hW rfl ((y_assign hF rfl).q) (fun a w hF hW => ?_)
  refine ls_nil ?_
  refine c_then ?_
  refine c_seq ?_
  refine reg_list ?_
  refine ls hF hW rfl ((y_assign hF rfl).q) (fun a w hF hW => ?_)
  refine ls_nil ?_
  refine c_then ?_
  obtain ⟨o1, G1, K1⟩ := bindE H
  refine c_seqJ (fun a w => ∃ x1 : Int, some (x1) = some o1 ∧ Fr 26 [] [(1, .pointer (some ⟨b1, 0, none⟩)), (2, .int .i64 0), (3, .int .i64 x1)] a ∧ Stw ⟨Y, [], w0⟩ [(b1, [.int .i64 p0.1, .int .i64 p0.2.1.1, .int .i64 p0.2.1.2.1, .int .i64 p0.2.1.2.2.1, .int .i64 p0.2.1.2.2.2, .int .i64 p0.2.2.1, .int .i64 p0.2.2.2.1, .int .i64 p0.2.2.2.2.1, .int .i64 p0.2.2.2.2.2])] [] w) ?_ ?_
  ·
    have H := G1
    clear G1 K1
    refine c_seq ?_
    refine reg_list ?_
    refine ls hF hW rfl ((y_fieldAddr Tryd.underlying24 rfl rfl rfl T3 hF rfl 0 rfl).q) (fun a w hF hW => ?_)
    refine ls hF hW rfl ((y_load (v := Value.int .i64 p0.1) 0 hF rfl rfl T3 rfl).q) (fun a w hF hW => ?_)
    refine ls hF hW rfl ((y_neq hF rfl rfl).q) (fun a w hF hW => ?_)
    refine ls_nil ?_
    refine c_then ?_
    refine c_cond hF rfl (fun hb => ?_) (fun hb => ?_)
    ·
      have H := iteT (of_decide_eq_true hb) H
      rw [hb] at hF
      clear hb
      refine reg_list ?_
      refine ls hF hW rfl ((y_assign hF rfl).q) (fun a w hF hW => ?_)
      refine ls_nil ?_
      refine c_then ?_
      exact ⟨_, H, hF.re ⟨rfl, rfl, rfl, trivial⟩, hW⟩
    ·
      have H := iteF (of_decide_eq_false hb) H
      rw [hb] at hF
      clear hb
      refine wp_skip ?_
      refine c_then ?_
      exact ⟨_, H, hF.re ⟨rfl, rfl, rfl, trivial⟩, hW⟩
  rintro a w ⟨x1, hj, hF, hW⟩
  have hj := Option.some.inj hj
  subst hj
  have H := K1
  clear G1 K1
  obtain ⟨o2, G2, K2⟩ := bindE H
  refine c_seqJ (fun a w => ∃ x2 : Int, some (x2) = some o2 ∧ Fr 26 [] [(2, .int .i64 0), (3, .int .i64 x2)] a ∧ Stw ⟨Y, [], w0⟩ [(b1, [.int .i64 p0.1, .int .i64 p0.2.1.1, .int .i64 p0.2.1.2.1, .int .i64 p0.2.1.2.2.1, .int .i64 p0.2.1.2.2.2, .int .i64 p0.2.2.1, .int .i64 p0.2.2.2.1, .int .i64 p0.2.2.2.2.1, .int .i64 p0.2.2.2.2.2])] [] w) ?_ ?_
  ·
    have H := G2
    clear G2 K2
    refine c_seq ?_
    refine reg_list ?_
    refine ls hF hW rfl ((y_assign hF rfl).q) (fun a w hF hW => ?_)
    refine ls_nil ?_
    refine c_then ?_
    refine wp_block ?_
    refine c_loopW H (fun s a w => Fr 26 [] [(1, .pointer (some ⟨b1, 0, none⟩)), (2, .int .i64 0), (3, .int .i64 s.1), (4, .int .i64 s.2)] a ∧ Stw ⟨Y, [], w0⟩ [(b1, [.int .i64 p0.1, .int .i64 p0.2.1.1, .int .i64 p0.2.1.2.1, .int .i64 p0.2.1.2.2.1, .int .i64 p0.2.1.2.2.2, .int .i64 p0.2.2.1, .int .i64 p0.2.2.2.1, .int .i64 p0.2.2.2.2.1, .int .i64 p0.2.2.2.2.2])] [] w) ⟨hF.re ⟨rfl, rfl, rfl, rfl, trivial⟩, hW⟩ (fun s o a w H L3 hR => ?_)
    obtain ⟨x3, x4⟩ := s
    obtain ⟨hF, hW⟩ := hR
    have hF : Fr 26 [] [(1, .pointer (some ⟨b1, 0, none⟩)), (2, .int .i64 0), (3, .int .i64 x3), (4, .int .i64 x4)] a := hF
    have hW : Stw ⟨Y, [], w0⟩ [(b1, [.int .i64 p0.1, .int .i64 p0.2.1.1, .int .i64 p0.2.1.2.1, .int .i64 p0.2.1.2.2.1, .int .i64 p0.2.1.2.2.2, .int .i64 p0.2.2.1, .int .i64 p0.2.2.2.1, .int .i64 p0.2.2.2.2.1, .int .i64 p0.2.2.2.2.2])] [] w := hW
    rw [r08_Asked_l1] at H
    refine c_seq ?_
    refine c_seq ?_
    refine reg_list ?_
    refine ls hF hW rfl ((y_move hF rfl).q) (fun a w hF hW => ?_)
    refine ls hF hW rfl ((y_lss hF rfl rfl).q) (fun a w hF hW => ?_)
    refine ls_nil ?_
    refine c_then ?_
    refine c_cond hF rfl (fun hb => ?_) (fun hb => ?_)
    ·
      have H := iteT (of_decide_eq_true hb) H
      rw [hb] at hF
      clear hb
      refine wp_skip ?_
      refine c_then ?_
      obtain ⟨o4, G4, K4⟩ := bindE H
      refine c_seqJ (fun a w => ∃ x5 : Int, some (x5) = some o4 ∧ Fr 26 [] [(1, .pointer (some ⟨b1, 0, none⟩)), (2, .int .i64 0), (3, .int .i64 x5), (4, .int .i64 x4)] a ∧ Stw ⟨Y, [], w0⟩ [(b1, [.int .i64 p0.1, .int .i64 p0.2.1.1, .int .i64 p0.2.1.2.1, .int .i64 p0.2.1.2.2.1, .int .i64 p0.2.1.2.2.2, .int .i64 p0.2.2.1, .int .i64 p0.2.2.2.1, .int .i64 p0.2.2.2.2.1, .int .i64 p0.2.2.2.2.2])] [] w) ?_ ?_
      ·
        have H := G4
        clear G4 K4
        refine wp_block ?_
        refine c_seq ?_
        refine reg_list ?_
        refine ls hF hW rfl ((y_assign hF rfl).q) (fun a w hF hW => ?_)
        refine ls_nil ?_
        refine c_then ?_
        refine wp_block ?_
        refine c_loopW H (fun s a w => Fr 26 [] [(1, .pointer (some ⟨b1, 0, none⟩)), (2, .int .i64 0), (3, .int .i64 s.1), (4, .int .i64 x4), (5, .int .i64 s.2)] a ∧ Stw ⟨Y, [], w0⟩ [(b1, [.int .i64 p0.1, .int .i64 p0.2.1.1, .int .i64 p0.2.1.2.1, .int .i64 p0.2.1.2.2.1, .int .i64 p0.2.1.2.2.2, .int .i64 p0.2.2.1, .int .i64 p0.2.2.2.1, .int .i64 p0.2.2.2.2.1, .int .i64 p0.2.2.2.2.2])] [] w) ⟨hF.re ⟨rfl, rfl, rfl, rfl, rfl, trivial⟩, hW⟩ (fun s o a w H L5 hR => ?_)
        obtain ⟨x6, x7⟩ := s
        obtain ⟨hF, hW⟩ := hR
        have hF : Fr 26 [] [(1, .pointer (some ⟨b1, 0, none⟩)), (2, .int .i64 0), (3, .int .i64 x6), (4, .int .i64 x4), (5, .int .i64 x7)] a := hF
        have hW : Stw ⟨Y, [], w0⟩ [(b1, [.int .i64 p0.1, .int .i64 p0.2.1.1, .int .i64 p0.2.1.2.1, .int .i64 p0.2.1.2.2.1, .int .i64 p0.2.1.2.2.2, .int .i64 p0.2.2.1, .int .i64 p0.2.2.2.1, .int .i64 p0.2.2.2.2.1, .int .i64 p0.2.2.2.2.2])] [] w := hW
        rw [r08_Asked_l2] at H
        refine c_seq ?_
        refine c_seq ?_
        refine reg_list ?_
        refine ls hF hW rfl ((y_move hF rfl).q) (fun a w hF hW => ?_)
        refine ls hF hW rfl ((y_lss hF rfl rfl).q) (fun a w hF hW => ?_)
        refine ls_nil ?_
        refine c_then ?_
        refine c_cond hF rfl (fun hb => ?_) (fun hb => ?_)
        ·
          have H := iteT (of_decide_eq_true hb) H
          rw [hb] at hF
          clear hb
          refine wp_skip ?_
          refine c_then ?_
          refine c_seq ?_
          refine wp_block ?_
          refine reg_list ?_
          refine ls hF hW rfl ((y_move hF rfl).q) (fun a w hF hW => ?_)
          refine ls hF hW rfl ((y_move hF rfl).q) (fun a w hF hW => ?_)
          refine ls hF hW rfl ((y_fieldAddr Tryd.underlying24 rfl rfl rfl T22 hF rfl 5 rfl).q) (fun a w hF hW => ?_)
          obtain ⟨x8, h1, H⟩ := bindE H
          refine ls hF hW rfl ((y_indexP (5 + (x4).toNat * 1) Ar22 hF rfl rfl rfl h1 rfl).q) (fun a w hF hW => ?_)
          refine ls hF hW rfl ((y_load (v := Value.int .i64 x8) 0 hF rfl rfl T3 (rdv_dyn (base := 5) (m := 4) (l := [p0.2.2.1, p0.2.2.2.1, p0.2.2.2.2.1, p0.2.2.2.2.2]) (enc := Value.int .i64) rfl h1)).q) (fun a w hF hW => ?_)
          refine ls hF hW rfl ((y_move hF rfl).q) (fun a w hF hW => ?_)
          obtain ⟨x9, h2, H⟩ := bindE H
          refine ls hF hW rfl (y_call (v := Value.int .i64 x9) hF H36 rfl (fun w hW => r08_Bit_c any w x8 x7 _ h2)) (fun a w hF hW => ?_)
          refine ls hF hW rfl ((y_add hF rfl rfl rfl).q) (fun a w hF hW => ?_)
          refine ls hF hW rfl ((y_assign hF rfl).q) (fun a w hF hW => ?_)
          refine ls_nil ?_
          refine b_normal ?_
          refine c_then ?_
          refine reg_list ?_
          refine ls hF hW rfl ((y_move hF rfl).q) (fun a w hF hW => ?_)
          refine ls hF hW rfl ((y_add hF rfl rfl rfl).q) (fun a w hF hW => ?_)
          refine ls hF hW rfl ((y_assign hF rfl).q) (fun a w hF hW => ?_)
          refine ls_nil ?_
          refine c_then ?_
          exact ⟨_, H, hF.re ⟨rfl, rfl, rfl, rfl, rfl, trivial⟩, hW⟩
        ·
          have H := iteF (of_decide_eq_false hb) H
          rw [hb] at hF
          clear hb
          refine wp_exit ?_
          refine e_then ?_
          refine e_then ?_
          refine e_block ?_
          refine b_normal ?_
          refine c_then ?_
          have H := L5 _ H
          exact ⟨_, H, hF.re ⟨rfl, rfl, rfl, rfl, trivial⟩, hW⟩
      rintro a w ⟨x5, hj, hF, hW⟩
      have hj := Option.some.inj hj
      subst hj
      have H := K4
      clear G4 K4
      refine reg_list ?_
      refine ls hF hW rfl ((y_move hF rfl).q) (fun a w hF hW => ?_)
      refine ls hF hW rfl ((y_add hF rfl rfl rfl).q) (fun a w hF hW => ?_)
      refine ls hF hW rfl ((y_assign hF rfl).q) (fun a w hF hW => ?_)
      refine ls_nil ?_
      refine c_then ?_
      exact ⟨_, H, hF.re ⟨rfl, rfl, rfl, rfl, trivial⟩, hW⟩
    ·
      have H := iteF (of_decide_eq_false hb) H
      rw [hb] at hF
      clear hb
      refine wp_exit ?_
      refine e_then ?_
      refine e_then ?_
      refine e_block ?_
      refine c_then ?_
      have H := L3 _ H
      exact ⟨_, H, hF.re ⟨rfl, rfl, trivial⟩, hW⟩
  rintro a w ⟨x2, hj, hF, hW⟩
  have hj := Option.some.inj hj
  subst hj
  have H := K2
  clear G2 K2
  refine c_seq ?_
  refine reg_list ?_
  refine ls hF hW rfl ((y_move hF rfl).q) (fun a w hF hW => ?_)
  refine ls hF hW rfl ((y_assign hF rfl).q) (fun a w hF hW => ?_)
  refine ls_nil ?_
  refine c_then ?_
  refine wp_ret ?_
  have H := Option.some.inj H
  subst H
  refine post1 (.inl rfl) hF hW rfl (rv_tmp hF rfl) ?_
  exact ⟨rfl, hW.done⟩

theorem H21 : Has Tryd.prog 21 := ⟨fun args w => run_callFunc_body Tryd.func21 rfl (by decide) args w⟩
theorem L57 : Et Tryd.prog 57 5 1 1 := Et.of Tryd.underlying57 (by kernel_rfl) (by kernel_rfl) (by kernel_rfl) (by decide)
theorem Z5 : (Tryd.prog.info? 5).bind (·.zero) = some (.int .u8 0) := by kernel_rfl
theorem T5 : Ty Tryd.prog 5 false 1 := ⟨by kernel_rfl, by kernel_rfl⟩
noncomputable def octet_bigEndian_l1 (p0 : Int) (p1 : Int) : (List Int × Int) → Option ((List Int × Int) ⊕ (List Int))
  | (x3, x4) => (if x4 < p1 then (shN (shrI .i64 p0 (w64 (8 * (w64 ((w64 (p1 - 1)) - x4))))) (w64 (8 * (w64 ((w64 (p1 - 1)) - x4))))).bind fun x5 => (ix x3 x4).bind fun x6 => some (.inl ((setAt x3 x4 (IntKind.u8.wrap x5)), w64 (x4 + 1))) else some (.inr x3))
noncomputable def octet_bigEndian (p0 : Int) (p1 : Int) : Option (List UInt8) := (mk p1 (0 : Int)).bind fun x1 => (loopW (octet_bigEndian_l1 p0 p1) (x1, 0)).bind fun x2 => some (strOf x2)
theorem octet_bigEndian_c (Y : Nat → Prop) (w0 : World)  (p0 : Int) (p1 : Int) (r : List UInt8) (H : octet_bigEndian p0 p1 = some r)  :
    Calls Tryd.prog 55 #[.int .i64 p0, .int .i64 p1] w0 fun e w' => e = .returned (.string (bs r)) ∧ Below w0.heap.size w0 w' := by
  refine enter Tryd.func55 rfl Tryd.ntmps55 rfl (fun a hF => ?_)
  have hW := Stw.start Y w0
  unfold octet_bigEndian at H
  refine c_seq ?_
  refine reg_list ?_
  refine ls hF hW rfl ((y_assign (v := Value.string (bs ([] : List UInt8))) hF rfl).q) (fun a w hF hW => ?_)
  refine ls_nil ?_
  refine c_then ?_
  refine c_seq ?_
  refine reg_list ?_
  refine ls hF hW rfl ((y_move hF rfl).q) (fun a w hF hW => ?_)
  obtain ⟨x1, h1, H⟩ := bindE H
  refine l_make (r := (Rp.int .u8)) (0 : Int) hF hW rfl L57 Z5 rfl rfl (fun w A => Fl.int.mk' w A _) h1 rfl (fun v1 a w hF hW => ?_)
  refine ls hF hW rfl ((y_assign hF rfl).q) (fun a w hF hW => ?_)
  refine ls_nil ?_
  refine c_then ?_
  obtain ⟨o1, G1, K1⟩ := bindE H
  refine c_seqJ (fun a w => ∃ x2 : List Int, some (x2) = some o1 ∧ Fr 27 [] [(4, .string (bs ([] : List UInt8))), (5, v1)] a ∧ Stw ⟨Y, [], w0⟩ [] [row v1 5 (Rp.int .u8) x2] w) ?_ ?_
  ·
    have H := G1
    clear G1 K1
    refine c_seq ?_
    refine reg_list ?_
    refine ls hF hW rfl ((y_move hF rfl).q) (fun a w hF hW => ?_)
    refine ls hF hW rfl ((y_move hF rfl).q) (fun a w hF hW => ?_)
    refine ls_nil ?_
    refine c_then ?_
    refine wp_block ?_
    refine c_loopW H (fun s a w => Fr 27 [] [(0, .int .i64 p0), (1, .int .i64 p1), (4, .string (bs ([] : List UInt8))), (5, v1), (9, .int .i64 p1), (10, .int .i64 s.2)] a ∧ Stw ⟨Y, [], w0⟩ [] [row v1 5 (Rp.int .u8) s.1] w) ⟨hF.re ⟨rfl, rfl, rfl, rfl, rfl, rfl, trivial⟩, hW⟩ (fun s o a w H L2 hR => ?_)
    obtain ⟨x3, x4⟩ := s
    obtain ⟨hF, hW⟩ := hR
    have hF : Fr 27 [] [(0, .int .i64 p0), (1, .int .i64 p1), (4, .string (bs ([] : List UInt8))), (5, v1), (9, .int .i64 p1), (10, .int .i64 x4)] a := hF
    have hW : Stw ⟨Y, [], w0⟩ [] [row v1 5 (Rp.int .u8) x3] w := hW
    rw [octet_bigEndian_l1] at H
    refine c_seq ?_
    refine reg_list ?_
    refine ls hF hW rfl ((y_lss hF rfl rfl).q) (fun a w hF hW => ?_)
    refine ls_nil ?_
    refine c_then ?_
    refine c_seq ?_
    refine c_cond hF rfl (fun hb => ?_) (fun hb => ?_)
    ·
      have H := iteT (of_decide_eq_true hb) H
      rw [hb] at hF
      clear hb
      refine wp_skip ?_
      refine c_then ?_
      refine c_seq ?_
      refine wp_block ?_
      refine c_seq ?_
      refine reg_list ?_
      refine ls hF hW rfl ((y_move hF rfl).q) (fun a w hF hW => ?_)
      refine ls hF hW rfl ((y_assign hF rfl).q) (fun a w hF hW => ?_)
      refine ls_nil ?_
      refine c_then ?_
      refine reg_list ?_
      refine ls hF hW rfl ((y_move hF rfl).q) (fun a w hF hW => ?_)
      refine ls hF hW rfl ((y_move hF rfl).q) (fun a w hF hW => ?_)
      refine ls hF hW rfl ((y_move hF rfl).q) (fun a w hF hW => ?_)
      refine ls hF hW rfl ((y_move hF rfl).q) (fun a w hF hW => ?_)
      refine ls hF hW rfl ((y_sub hF rfl rfl rfl).q) (fun a w hF hW => ?_)
      refine ls hF hW rfl ((y_move hF rfl).q) (fun a w hF hW => ?_)
      refine ls hF hW rfl ((y_sub hF rfl rfl rfl).q) (fun a w hF hW => ?_)
      refine ls hF hW rfl ((y_mul hF rfl rfl rfl).q) (fun a w hF hW => ?_)
      obtain ⟨x5, h2, H⟩ := bindE H
      refine ls hF hW rfl ((y_shc (shN_some h2).2 (y_shr hF rfl rfl (shN_some h2).1)).q) (fun a w hF hW => ?_)
      refine ls hF hW rfl ((y_convI Tryd.underlying3 Tryd.underlying5 hF rfl).q) (fun a w hF hW => ?_)
      obtain ⟨x6, h3, H⟩ := bindE H
      refine ls hF hW rfl ((y_index (r := (Rp.int .u8)) L57 hF rfl rfl (rdc_row 0 rfl) h3).q) (fun a w hF hW => ?_)
      refine l_store_el (i := x4) (j := 0) (vs := [.int .u8 (IntKind.u8.wrap x5)]) (x' := IntKind.u8.wrap x5) hF hW rfl rfl rfl (k := 0) rfl rfl h3 T5 rfl rfl rfl rfl (fun A cs _ => Fl.int.sto (by rfl) _ _ _) (fun w hW => ?_)
      refine ls_nil ?_
      refine b_normal ?_
      refine c_then ?_
      refine reg_list ?_
      refine ls hF hW rfl ((y_add hF rfl rfl rfl).q) (fun a w hF hW => ?_)
      refine ls hF hW rfl ((y_move hF rfl).q) (fun a w hF hW => ?_)
      refine ls_nil ?_
      refine c_then ?_
      exact ⟨_, H, hF.re ⟨rfl, rfl, rfl, rfl, rfl, rfl, trivial⟩, hW⟩
    ·
      have H := iteF (of_decide_eq_false hb) H
      rw [hb] at hF
      clear hb
      refine wp_exit ?_
      refine e_then ?_
      refine e_then ?_
      refine e_block ?_
      refine c_then ?_
      have H := L2 _ H
      exact ⟨_, H, hF.re ⟨rfl, rfl, trivial⟩, hW⟩
  rintro a w ⟨x2, hj, hF, hW⟩
  have hj := Option.some.inj hj
  subst hj
  have H := K1
  clear G1 K1
  refine c_seq ?_
  refine reg_list ?_
  refine ls hF hW rfl ((y_move hF rfl).q) (fun a w hF hW => ?_)
  refine ls hF hW rfl ((y_convB (ns := x2) Tryd.underlying57 Tryd.underlying5 Tryd.underlying9 hF rfl (rdc_row 0 rfl)).q) (fun a w hF hW => ?_)
  refine ls hF hW rfl ((y_assign hF rfl).q) (fun a w hF hW => ?_)
  refine ls_nil ?_
  refine c_then ?_
  refine wp_ret ?_
  have H := Option.some.inj H
  subst H
  refine post1 (.inl rfl) hF hW rfl (rv_tmp hF rfl) ?_
  exact ⟨rfl, hW.done⟩

theorem H55 : Has Tryd.prog 55 := ⟨fun args w => run_callFunc_body Tryd.func55 rfl (by decide) args w⟩
noncomputable def octet_Num (p0 : Int) (p1 : Int) : Option (List UInt8) := (if p1 < 1 then some true else (if 7 < p1 then some true else (if p0 < 0 then some true else (shN (shrI .i64 p0 (w64 (8 * p1))) (w64 (8 * p1))).bind fun x2 => some (decide (x2 ≠ 0))))).bind fun x1 => (if x1 = true then some ([] : List UInt8) else (octet_bigEndian p0 p1).bind fun x3 => some x3)
theorem octet_Num_c (Y : Nat → Prop) (w0 : World)  (p0 : Int) (p1 : Int) (r : List UInt8) (H : octet_Num p0 p1 = some r)  :
    Calls Tryd.prog 39 #[.int .i64 p0, .int .i64 p1] w0 fun e w' => e = .returned (.string (bs r)) ∧ Below w0.heap.size w0 w' := by
  refine enter Tryd.func39 rfl Tryd.ntmps39 rfl (fun a hF => ?_)
  have hW := Stw.start Y w0
  unfold octet_Num at H
  refine c_seq ?_
  refine reg_list ?_
  refine ls hF hW rfl ((y_assign (v := Value.string (bs ([] : List UInt8))) hF rfl).q) (fun a w hF hW => ?_)
  refine ls_nil ?_
  refine c_then ?_
  refine c_seq ?_
  obtain ⟨o1, G1, K1⟩ := bindE H
  refine c_seqJ (fun a w => ∃ x1 : Bool, some (x1) = some o1 ∧ Fr 25 [] [(0, .int .i64 p0), (1, .int .i64 p1), (4, .string (bs ([] : List UInt8))), (21, .bool x1)] a ∧ Stw ⟨Y, [], w0⟩ [] [] w) ?_ ?_
  ·
    have H := G1
    clear G1 K1
    refine reg_list ?_
    refine ls hF hW rfl ((y_move hF rfl).q) (fun a w hF hW => ?_)
    refine ls hF hW rfl ((y_lss hF rfl rfl).q) (fun a w hF hW => ?_)
    refine ls hF hW rfl ((y_move hF rfl).q) (fun a w hF hW => ?_)
    rcases Bool.eq_false_or_eq_true (decide (p1 < 1)) with hb | hb
    ·
      have H := iteT (of_decide_eq_true hb) H
      rw [hb] at hF
      clear hb
      refine ls_skip hF (wanted_n hF rfl rfl rfl rfl rfl) rfl rfl (fun a hF => ?_)
      refine ls_skip hF (wanted_n hF rfl rfl rfl rfl rfl) rfl rfl (fun a hF => ?_)
      refine ls hF hW rfl ((y_pick_t hF rfl rfl rfl).q) (fun a w hF hW => ?_)
      refine ls hF hW rfl ((y_move hF rfl).q) (fun a w hF hW => ?_)
      refine ls_skip hF (wanted_n hF rfl rfl rfl rfl rfl) rfl rfl (fun a hF => ?_)
      refine ls_skip hF (wanted_n hF rfl rfl rfl rfl rfl) rfl rfl (fun a hF => ?_)
      refine ls hF hW rfl ((y_pick_t hF rfl rfl rfl).q) (fun a w hF hW => ?_)
      refine ls hF hW rfl ((y_move hF rfl).q) (fun a w hF hW => ?_)
      refine ls_skip hF (wanted_n hF rfl rfl rfl rfl rfl) rfl rfl (fun a hF => ?_)
      refine ls_skip hF (wanted_n hF rfl rfl rfl rfl rfl) rfl rfl (fun a hF => ?_)
      refine ls_skip hF (wanted_n hF rfl rfl rfl rfl rfl) rfl rfl (fun a hF => ?_)
      refine ls_skip hF (wanted_n hF rfl rfl rfl rfl rfl) rfl rfl (fun a hF => ?_)
      refine ls_skip hF (wanted_n hF rfl rfl rfl rfl rfl) rfl rfl (fun a hF => ?_)
      refine ls hF hW rfl ((y_pick_t hF rfl rfl rfl).q) (fun a w hF hW => ?_)
      refine ls_nil ?_
      refine c_then ?_
      exact ⟨_, H, hF.re ⟨rfl, rfl, rfl, rfl, trivial⟩, hW⟩
    ·
      have H := iteF (of_decide_eq_false hb) H
      rw [hb] at hF
      clear hb
      refine ls_w hF hW (wanted_y hF rfl rfl rfl rfl) rfl (Nat.le_of_ble_eq_true rfl) ((y_move hF rfl).q) (fun a w hF hW => ?_)
      refine ls_w hF hW (wanted_y hF rfl rfl rfl rfl) rfl (Nat.le_of_ble_eq_true rfl) ((y_gtr hF rfl rfl).q) (fun a w hF hW => ?_)
      refine ls hF hW rfl ((y_pick_f hF rfl rfl rfl).q) (fun a w hF hW => ?_)
      refine ls hF hW rfl ((y_move hF rfl).q) (fun a w hF hW => ?_)
      rcases Bool.eq_false_or_eq_true (decide (7 < p1)) with hb | hb
      ·
        have H := iteT (of_decide_eq_true hb) H
        rw [hb] at hF
        clear hb
        refine ls_skip hF (wanted_n hF rfl rfl rfl rfl rfl) rfl rfl (fun a hF => ?_)
        refine ls_skip hF (wanted_n hF rfl rfl rfl rfl rfl) rfl rfl (fun a hF => ?_)
        refine ls hF hW rfl ((y_pick_t hF rfl rfl rfl).q) (fun a w hF hW => ?_)
        refine ls hF hW rfl ((y_move hF rfl).q) (fun a w hF hW => ?_)
        refine ls_skip hF (wanted_n hF rfl rfl rfl rfl rfl) rfl rfl (fun a hF => ?_)
        refine ls_skip hF (wanted_n hF rfl rfl rfl rfl rfl) rfl rfl (fun a hF => ?_)
        refine ls_skip hF (wanted_n hF rfl rfl rfl rfl rfl) rfl rfl (fun a hF => ?_)
        refine ls_skip hF (wanted_n hF rfl rfl rfl rfl rfl) rfl rfl (fun a hF => ?_)
        refine ls_skip hF (wanted_n hF rfl rfl rfl rfl rfl) rfl rfl (fun a hF => ?_)
        refine ls hF hW rfl ((y_pick_t hF rfl rfl rfl).q) (fun a w hF hW => ?_)
        refine ls_nil ?_
        refine c_then ?_
        exact ⟨_, H, hF.re ⟨rfl, rfl, rfl, rfl, trivial⟩, hW⟩
      ·
        have H := iteF (of_decide_eq_false hb) H
        rw [hb] at hF
        clear hb
        refine ls_w hF hW (wanted_y hF rfl rfl rfl rfl) rfl (Nat.le_of_ble_eq_true rfl) ((y_move hF rfl).q) (fun a w hF hW => ?_)
        refine ls_w hF hW (wanted_y hF rfl rfl rfl rfl) rfl (Nat.le_of_ble_eq_true rfl) ((y_lss hF rfl rfl).q) (fun a w hF hW => ?_)
        refine ls hF hW rfl ((y_pick_f hF rfl rfl rfl).q) (fun a w hF hW => ?_)
        refine ls hF hW rfl ((y_move hF rfl).q) (fun a w hF hW => ?_)
        rcases Bool.eq_false_or_eq_true (decide (p0 < 0)) with hb | hb
        ·
          have H := iteT (of_decide_eq_true hb) H
          rw [hb] at hF
          clear hb
          refine ls_skip hF (wanted_n hF rfl rfl rfl rfl rfl) rfl rfl (fun a hF => ?_)
          refine ls_skip hF (wanted_n hF rfl rfl rfl rfl rfl) rfl rfl (fun a hF => ?_)
          refine ls_skip hF (wanted_n hF rfl rfl rfl rfl rfl) rfl rfl (fun a hF => ?_)
          refine ls_skip hF (wanted_n hF rfl rfl rfl rfl rfl) rfl rfl (fun a hF => ?_)
          refine ls_skip hF (wanted_n hF rfl rfl rfl rfl rfl) rfl rfl (fun a hF => ?_)
          refine ls hF hW rfl ((y_pick_t hF rfl rfl rfl).q) (fun a w hF hW => ?_)
          refine ls_nil ?_
          refine c_then ?_
          exact ⟨_, H, hF.re ⟨rfl, rfl, rfl, rfl, trivial⟩, hW⟩
        ·
          have H := iteF (of_decide_eq_false hb) H
          rw [hb] at hF
          clear hb
          refine ls_w hF hW (wanted_y hF rfl rfl rfl rfl) rfl (Nat.le_of_ble_eq_true rfl) ((y_move hF rfl).q) (fun a w hF hW => ?_)
          refine ls_w hF hW (wanted_y hF rfl rfl rfl rfl) rfl (Nat.le_of_ble_eq_true rfl) ((y_move hF rfl).q) (fun a w hF hW => ?_)
          refine ls_w hF hW (wanted_y hF rfl rfl rfl rfl) rfl (Nat.le_of_ble_eq_true rfl) ((y_mul hF rfl rfl rfl).q) (fun a w hF hW => ?_)
          obtain ⟨x2, h1, H⟩ := bindE H
          refine ls_w hF hW (wanted_y hF rfl rfl rfl rfl) rfl (Nat.le_of_ble_eq_true rfl) ((y_shc (shN_some h1).2 (y_shr hF rfl rfl (shN_some h1).1)).q) (fun a w hF hW => ?_)
          refine ls_w hF hW (wanted_y hF rfl rfl rfl rfl) rfl (Nat.le_of_ble_eq_true rfl) ((y_neq hF rfl rfl).q) (fun a w hF hW => ?_)
          refine ls hF hW rfl ((y_pick_f hF rfl rfl rfl).q) (fun a w hF hW => ?_)
          refine ls_nil ?_
          refine c_then ?_
          exact ⟨_, H, hF.re ⟨rfl, rfl, rfl, rfl, trivial⟩, hW⟩
  rintro a w ⟨x1, hj, hF, hW⟩
  have hj := Option.some.inj hj
  subst hj
  have H := K1
  clear G1 K1
  refine c_cond hF rfl (fun hb => ?_) (fun hb => ?_)
  ·
    have H := iteT hb H
    rw [hb] at hF
    clear hb
    refine c_seq ?_
    refine reg_list ?_
    refine ls hF hW rfl ((y_assign (v := Value.string (bs ([] : List UInt8))) hF rfl).q) (fun a w hF hW => ?_)
    refine ls_nil ?_
    refine c_then ?_
    refine wp_ret ?_
    refine r_then ?_
    have H := Option.some.inj H
    subst H
    refine post1 (.inl rfl) hF hW rfl (rv_tmp hF rfl) ?_
    exact ⟨rfl, hW.done⟩
  ·
    have H := iteF (by rw [hb]; decide) H
    rw [hb] at hF
    clear hb
    refine wp_skip ?_
    refine c_then ?_
    refine c_seq ?_
    refine reg_list ?_
    refine ls hF hW rfl ((y_move hF rfl).q) (fun a w hF hW => ?_)
    refine ls hF hW rfl ((y_move hF rfl).q) (fun a w hF hW => ?_)
    obtain ⟨x3, h2, H⟩ := bindE H
    refine ls hF hW rfl (y_call (v := Value.string (bs x3)) hF H55 rfl (fun w hW => octet_bigEndian_c any w p0 p1 _ h2)) (fun a w hF hW => ?_)
    refine ls hF hW rfl ((y_assign hF rfl).q) (fun a w hF hW => ?_)
    refine ls_nil ?_
    refine c_then ?_
    refine wp_ret ?_
    have H := Option.some.inj H
    subst H
    refine post1 (.inl rfl) hF hW rfl (rv_tmp hF rfl) ?_
    exact ⟨rfl, hW.done⟩

theorem H39 : Has Tryd.prog 39 := ⟨fun args w => run_callFunc_body Tryd.func39 rfl (by decide) args w⟩
theorem H38 : Has Tryd.prog 38 := ⟨fun args w => run_callFunc_body Tryd.func38 rfl (by decide) args w⟩
theorem H40 : Has Tryd.prog 40 := ⟨fun args w => run_callFunc_body Tryd.func40 rfl (by decide) args w⟩
noncomputable def match_Code_l1 (p0 : Int × (Int × Int × Int × Int) × (Int × Int × Int × Int)) : (Int × List UInt8) → Option ((Int × List UInt8) ⊕ (List UInt8))
  | (x4, x5) => (if x4 < 4 then (ix ([p0.2.2.1, p0.2.2.2.1, p0.2.2.2.2.1, p0.2.2.2.2.2] : List Int) x4).bind fun x6 => (ix ([p0.2.1.1, p0.2.1.2.1, p0.2.1.2.2.1, p0.2.1.2.2.2] : List Int) x4).bind fun x7 => (octet_Num x7 1).bind fun x8 => (app x5 x8).bind fun x9 => (octet_Num x6 1).bind fun x10 => (app x9 x10).bind fun x11 => some (.inl (w64 (x4 + 1), x11)) else some (.inr x5))
noncomputable def match_Code (p0 : Int × (Int × Int × Int × Int) × (Int × Int × Int × Int)) : Option (List UInt8) := (octet_Num (w64 (p0.1 + 1)) 1).bind fun x1 => (app ([] : List UInt8) x1).bind fun x2 => (loopW (match_Code_l1 p0) (0, x2)).bind fun x3 => (lenB x3).bind fun x12 => some x12
theorem match_Code_c (Y : Nat → Prop) (w0 : World)  (p0 : Int × (Int × Int × Int × Int) × (Int × Int × Int × Int)) (r : List UInt8) (H : match_Code p0 = some r)  :
    Calls Tryd.prog 22 #[.agg #[.int .i64 p0.1, .int .i64 p0.2.1.1, .int .i64 p0.2.1.2.1, .int .i64 p0.2.1.2.2.1, .int .i64 p0.2.1.2.2.2, .int .i64 p0.2.2.1, .int .i64 p0.2.2.2.1, .int .i64 p0.2.2.2.2.1, .int .i64 p0.2.2.2.2.2]] w0 fun e w' => e = .returned (.string (bs r)) ∧ Below w0.heap.size w0 w' := by
  refine enter Tryd.func22 rfl Tryd.ntmps22 rfl (fun a hF => ?_)
  have hW := Stw.start Y w0
  unfold match_Code at H
  refine c_seq ?_
  refine reg_list ?_
  refine l_box (cs := [.int .i64 p0.1, .int .i64 p0.2.1.1, .int .i64 p0.2.1.2.1, .int .i64 p0.2.1.2.2.1, .int .i64 p0.2.1.2.2.2, .int .i64 p0.2.2.1, .int .i64 p0.2.2.2.1, .int .i64 p0.2.2.2.2.1, .int .i64 p0.2.2.2.2.2]) hF hW rfl rfl rfl (fun b1 a w hF hW => ?_)
  refine ls hF hW rfl ((y_assign (v := Value.string (bs ([] : List UInt8))) hF rfl).q) (fun a w hF hW => ?_)
  refine ls_nil ?_
  refine c_then ?_
  refine c_seq ?_
  refine reg_list ?_
  refine l_allocB hF hW rfl (fun b2 a w hF hW => ?_)
  have hW : Stw ⟨Y, [], w0⟩ [(b1, [.int .i64 p0.1, .int .i64 p0.2.1.1, .int .i64 p0.2.1.2.1, .int .i64 p0.2.1.2.2.1, .int .i64 p0.2.1.2.2.2, .int .i64 p0.2.2.1, .int .i64 p0.2.2.2.1, .int .i64 p0.2.2.2.2.1, .int .i64 p0.2.2.2.2.2])] [bldr 59 5 b2 (Value.slice none 0 0) ([] : List UInt8)] w := hW
  refine ls_nil ?_
  refine c_then ?_
  refine c_seq ?_
  refine reg_list ?_
  refine ls hF hW rfl ((y_fieldAddr Tryd.underlying24 rfl rfl rfl T3 hF rfl 0 rfl).q) (fun a w hF hW => ?_)
  refine ls hF hW rfl ((y_load (v := Value.int .i64 p0.1) 0 hF rfl rfl T3 rfl).q) (fun a w hF hW => ?_)
  refine ls hF hW rfl ((y_add hF rfl rfl rfl).q) (fun a w hF hW => ?_)
  obtain ⟨x1, h1, H⟩ := bindE H
  refine ls hF hW rfl (y_call (v := Value.string (bs x1)) hF H39 rfl (fun w hW => octet_Num_c any w (w64 (p0.1 + 1)) 1 _ h1)) (fun a w hF hW => ?_)
  obtain ⟨x2, h2, H⟩ := bindE H
  refine l_callG (Ml := []) (Zl := [bldr 59 5 b2 (Value.slice none 0 0) ([] : List UInt8)]) (M := [(b1, [.int .i64 p0.1, .int .i64 p0.2.1.1, .int .i64 p0.2.1.2.1, .int .i64 p0.2.1.2.2.1, .int .i64 p0.2.1.2.2.2, .int .i64 p0.2.2.1, .int .i64 p0.2.2.2.1, .int .i64 p0.2.2.2.2.1, .int .i64 p0.2.2.2.2.2])]) (Z := []) (β := Value) (rv := fun x => .tuple #[.int .i64 (x1.length : Int), .nilIface]) (MM := fun x => []) (ZZ := fun x => [bldr 59 5 b2 x x2]) hF hW H38 rfl rfl (fun hL => ws_c _ _ w b2 (Value.slice none 0 0) ([] : List UInt8) x1 _ h2 hL) (fun v1 a w hF hW => ?_)
  have hW : Stw ⟨Y, [], w0⟩ [(b1, [.int .i64 p0.1, .int .i64 p0.2.1.1, .int .i64 p0.2.1.2.1, .int .i64 p0.2.1.2.2.1, .int .i64 p0.2.1.2.2.2, .int .i64 p0.2.2.1, .int .i64 p0.2.2.2.1, .int .i64 p0.2.2.2.2.1, .int .i64 p0.2.2.2.2.2])] [bldr 59 5 b2 v1 x2] w := hW
  refine ls_nil ?_
  refine c_then ?_
  obtain ⟨o1, G1, K1⟩ := bindE H
  refine c_seqJ (fun a w => ∃ x3 : List UInt8, ∃ v2 : Value, some (x3) = some o1 ∧ Fr 28 [] [(2, .string (bs ([] : List UInt8))), (3, .pointer (some ⟨b2, 0, none⟩))] a ∧ Stw ⟨Y, [], w0⟩ [(b1, [.int .i64 p0.1, .int .i64 p0.2.1.1, .int .i64 p0.2.1.2.1, .int .i64 p0.2.1.2.2.1, .int .i64 p0.2.1.2.2.2, .int .i64 p0.2.2.1, .int .i64 p0.2.2.2.1, .int .i64 p0.2.2.2.2.1, .int .i64 p0.2.2.2.2.2])] [bldr 59 5 b2 v2 x3] w) ?_ ?_
  ·
    have H := G1
    clear G1 K1
    refine c_seq ?_
    refine reg_list ?_
    refine ls hF hW rfl ((y_fieldAddr Tryd.underlying24 rfl rfl rfl T22 hF rfl 5 rfl).q) (fun a w hF hW => ?_)
    refine ls hF hW rfl ((y_load (v := Value.agg #[.int .i64 p0.2.2.1, .int .i64 p0.2.2.2.1, .int .i64 p0.2.2.2.2.1, .int .i64 p0.2.2.2.2.2]) 0 hF rfl rfl T22 rfl).q) (fun a w hF hW => ?_)
    refine ls hF hW rfl ((y_move hF rfl).q) (fun a w hF hW => ?_)
    refine ls_nil ?_
    refine c_then ?_
    refine wp_block ?_
    refine c_loopW H (fun s a w => ∃ v3 : Value, Fr 28 [] [(1, .pointer (some ⟨b1, 0, none⟩)), (2, .string (bs ([] : List UInt8))), (3, .pointer (some ⟨b2, 0, none⟩)), (12, .agg #[.int .i64 p0.2.2.1, .int .i64 p0.2.2.2.1, .int .i64 p0.2.2.2.2.1, .int .i64 p0.2.2.2.2.2]), (13, .int .i64 s.1)] a ∧ Stw ⟨Y, [], w0⟩ [(b1, [.int .i64 p0.1, .int .i64 p0.2.1.1, .int .i64 p0.2.1.2.1, .int .i64 p0.2.1.2.2.1, .int .i64 p0.2.1.2.2.2, .int .i64 p0.2.2.1, .int .i64 p0.2.2.2.1, .int .i64 p0.2.2.2.2.1, .int .i64 p0.2.2.2.2.2])] [bldr 59 5 b2 v3 s.2] w) ⟨v1, hF.re ⟨rfl, rfl, rfl, rfl, rfl, trivial⟩, hW⟩ (fun s o a w H L2 hR => ?_)
    obtain ⟨x4, x5⟩ := s
    obtain ⟨v3, hF, hW⟩ := hR
    have hF : Fr 28 [] [(1, .pointer (some ⟨b1, 0, none⟩)), (2, .string (bs ([] : List UInt8))), (3, .pointer (some ⟨b2, 0, none⟩)), (12, .agg #[.int .i64 p0.2.2.1, .int .i64 p0.2.2.2.1, .int .i64 p0.2.2.2.2.1, .int .i64 p0.2.2.2.2.2]), (13, .int .i64 x4)] a := hF
    have hW : Stw ⟨Y, [], w0⟩ [(b1, [.int .i64 p0.1, .int .i64 p0.2.1.1, .int .i64 p0.2.1.2.1, .int .i64 p0.2.1.2.2.1, .int .i64 p0.2.1.2.2.2, .int .i64 p0.2.2.1, .int .i64 p0.2.2.2.1, .int .i64 p0.2.2.2.2.1, .int .i64 p0.2.2.2.2.2])] [bldr 59 5 b2 v3 x5] w := hW
    rw [match_Code_l1] at H
    refine c_seq ?_
    refine reg_list ?_
    refine ls hF hW rfl ((y_lss hF rfl rfl).q) (fun a w hF hW => ?_)
    refine ls_nil ?_
    refine c_then ?_
    refine c_seq ?_
    refine c_cond hF rfl (fun hb => ?_) (fun hb => ?_)
    ·
      have H := iteT (of_decide_eq_true hb) H
      rw [hb] at hF
      clear hb
      refine wp_skip ?_
      refine c_then ?_
      refine c_seq ?_
      refine wp_block ?_
      refine c_seq ?_
      refine reg_list ?_
      refine ls hF hW rfl ((y_move hF rfl).q) (fun a w hF hW => ?_)
      obtain ⟨x6, h3, H⟩ := bindE H
      refine ls hF hW rfl ((y_indexA (enc := Value.int .i64) (cs := [.int .i64 p0.2.2.1, .int .i64 p0.2.2.2.1, .int .i64 p0.2.2.2.2.1, .int .i64 p0.2.2.2.2.2]) Ar22 T3 hF rfl rfl rfl rfl h3).q) (fun a w hF hW => ?_)
      refine ls hF hW rfl ((y_assign hF rfl).q) (fun a w hF hW => ?_)
      refine ls hF hW rfl ((y_assign hF rfl).q) (fun a w hF hW => ?_)
      refine ls_nil ?_
      refine c_then ?_
      refine c_seq ?_
      refine reg_list ?_
      refine ls hF hW rfl ((y_move hF rfl).q) (fun a w hF hW => ?_)
      refine ls hF hW rfl ((y_fieldAddr Tryd.underlying24 rfl rfl rfl T22 hF rfl 1 rfl).q) (fun a w hF hW => ?_)
      obtain ⟨x7, h4, H⟩ := bindE H
      refine ls hF hW rfl ((y_indexP (1 + (x4).toNat * 1) Ar22 hF rfl rfl rfl h4 rfl).q) (fun a w hF hW => ?_)
      refine ls hF hW rfl ((y_load (v := Value.int .i64 x7) 0 hF rfl rfl T3 (rdv_dyn (base := 1) (m := 4) (l := [p0.2.1.1, p0.2.1.2.1, p0.2.1.2.2.1, p0.2.1.2.2.2]) (enc := Value.int .i64) rfl h4)).q) (fun a w hF hW => ?_)
      obtain ⟨x8, h5, H⟩ := bindE H
      refine ls hF hW rfl (y_call (v := Value.string (bs x8)) hF H39 rfl (fun w hW => octet_Num_c any w x7 1 _ h5)) (fun a w hF hW => ?_)
      obtain ⟨x9, h6, H⟩ := bindE H
      refine l_callG (Ml := []) (Zl := [bldr 59 5 b2 v3 x5]) (M := [(b1, [.int .i64 p0.1, .int .i64 p0.2.1.1, .int .i64 p0.2.1.2.1, .int .i64 p0.2.1.2.2.1, .int .i64 p0.2.1.2.2.2, .int .i64 p0.2.2.1, .int .i64 p0.2.2.2.1, .int .i64 p0.2.2.2.2.1, .int .i64 p0.2.2.2.2.2])]) (Z := []) (β := Value) (rv := fun x => .tuple #[.int .i64 (x8.length : Int), .nilIface]) (MM := fun x => []) (ZZ := fun x => [bldr 59 5 b2 x x9]) hF hW H38 rfl rfl (fun hL => ws_c _ _ w b2 v3 x5 x8 _ h6 hL) (fun v4 a w hF hW => ?_)
      have hW : Stw ⟨Y, [], w0⟩ [(b1, [.int .i64 p0.1, .int .i64 p0.2.1.1, .int .i64 p0.2.1.2.1, .int .i64 p0.2.1.2.2.1, .int .i64 p0.2.1.2.2.2, .int .i64 p0.2.2.1, .int .i64 p0.2.2.2.1, .int .i64 p0.2.2.2.2.1, .int .i64 p0.2.2.2.2.2])] [bldr 59 5 b2 v4 x9] w := hW
      refine ls_nil ?_
      refine c_then ?_
      refine reg_list ?_
      refine ls hF hW rfl ((y_move hF rfl).q) (fun a w hF hW => ?_)
      obtain ⟨x10, h7, H⟩ := bindE H
      refine ls hF hW rfl (y_call (v := Value.string (bs x10)) hF H39 rfl (fun w hW => octet_Num_c any w x6 1 _ h7)) (fun a w hF hW => ?_)
      obtain ⟨x11, h8, H⟩ := bindE H
      refine l_callG (Ml := []) (Zl := [bldr 59 5 b2 v4 x9]) (M := [(b1, [.int .i64 p0.1, .int .i64 p0.2.1.1, .int .i64 p0.2.1.2.1, .int .i64 p0.2.1.2.2.1, .int .i64 p0.2.1.2.2.2, .int .i64 p0.2.2.1, .int .i64 p0.2.2.2.1, .int .i64 p0.2.2.2.2.1, .int .i64 p0.2.2.2.2.2])]) (Z := []) (β := Value) (rv := fun x => .tuple #[.int .i64 (x10.length : Int), .nilIface]) (MM := fun x => []) (ZZ := fun x => [bldr 59 5 b2 x x11]) hF hW H38 rfl rfl (fun hL => ws_c _ _ w b2 v4 x9 x10 _ h8 hL) (fun v5 a w hF hW => ?_)
      have hW : Stw ⟨Y, [], w0⟩ [(b1, [.int .i64 p0.1, .int .i64 p0.2.1.1, .int .i64 p0.2.1.2.1, .int .i64 p0.2.1.2.2.1, .int .i64 p0.2.1.2.2.2, .int .i64 p0.2.2.1, .int .i64 p0.2.2.2.1, .int .i64 p0.2.2.2.2.1, .int .i64 p0.2.2.2.2.2])] [bldr 59 5 b2 v5 x11] w := hW
      refine ls_nil ?_
      refine b_normal ?_
      refine c_then ?_
      refine reg_list ?_
      refine ls hF hW rfl ((y_add hF rfl rfl rfl).q) (fun a w hF hW => ?_)
      refine ls hF hW rfl ((y_move hF rfl).q) (fun a w hF hW => ?_)
      refine ls_nil ?_
      refine c_then ?_
      exact ⟨_, H, v5, hF.re ⟨rfl, rfl, rfl, rfl, rfl, trivial⟩, hW⟩
    ·
      have H := iteF (of_decide_eq_false hb) H
      rw [hb] at hF
      clear hb
      refine wp_exit ?_
      refine e_then ?_
      refine e_then ?_
      refine e_block ?_
      refine c_then ?_
      have H := L2 _ H
      exact ⟨_, v3, H, hF.re ⟨rfl, rfl, trivial⟩, hW⟩
  rintro a w ⟨x3, v2, hj, hF, hW⟩
  have hj := Option.some.inj hj
  subst hj
  have H := K1
  clear G1 K1
  refine c_seq ?_
  refine reg_list ?_
  obtain ⟨x12, h9, H⟩ := bindE H
  refine l_callG (Ml := []) (Zl := [bldr 59 5 b2 v2 x3]) (M := [(b1, [.int .i64 p0.1, .int .i64 p0.2.1.1, .int .i64 p0.2.1.2.1, .int .i64 p0.2.1.2.2.1, .int .i64 p0.2.1.2.2.2, .int .i64 p0.2.2.1, .int .i64 p0.2.2.2.1, .int .i64 p0.2.2.2.2.1, .int .i64 p0.2.2.2.2.2])]) (Z := []) (β := Unit) (rv := fun x => .string (bs x12)) (MM := fun x => []) (ZZ := fun x => [bldr 59 5 b2 v2 x3]) hF hW H40 rfl rfl (fun hL => st_c _ _ w b2 v2 x3 _ h9 hL) (fun _ a w hF hW => ?_)
  have hW : Stw ⟨Y, [], w0⟩ [(b1, [.int .i64 p0.1, .int .i64 p0.2.1.1, .int .i64 p0.2.1.2.1, .int .i64 p0.2.1.2.2.1, .int .i64 p0.2.1.2.2.2, .int .i64 p0.2.2.1, .int .i64 p0.2.2.2.1, .int .i64 p0.2.2.2.2.1, .int .i64 p0.2.2.2.2.2])] [bldr 59 5 b2 v2 x3] w := hW
  refine ls hF hW rfl ((y_assign hF rfl).q) (fun a w hF hW => ?_)
  refine ls_nil ?_
  refine c_then ?_
  refine wp_ret ?_
  have H := Option.some.inj H
  subst H
  refine post1 (.inl rfl) hF hW rfl (rv_tmp hF rfl) ?_
  exact ⟨rfl, hW.done⟩

theorem H22 : Has Tryd.prog 22 := ⟨fun args w => run_callFunc_body Tryd.func22 rfl (by decide) args w⟩
noncomputable def r04_Num_l1 (p1 : Int) : (Int × List UInt8 × Int) → Option ((Int × List UInt8 × Int) ⊕ (Int × List UInt8))
  | (x3, x4, x5) => (if x5 < p1 then (app (strOf ([IntKind.u8.wrap (Int.tmod x3 256)] : List Int)) x4).bind fun x6 => some (.inl (w64 (Int.tdiv x3 256), x6, w64 (x5 + 1))) else some (.inr (x3, x4)))
noncomputable def r04_Num (p0 : Int) (p1 : Int) : Option (List UInt8) := (if (decide (p1 < 1) || (decide (7 < p1) || decide (p0 < 0))) = true then some ([] : List UInt8) else (loopW (r04_Num_l1 p1) (p0, ([] : List UInt8), 0)).bind fun (x1, x2) => (if x1 ≠ 0 then some ([] : List UInt8) else some x2))
theorem r04_Num_c (Y : Nat → Prop) (w0 : World)  (p0 : Int) (p1 : Int) (r : List UInt8) (H : r04_Num p0 p1 = some r)  :
    Calls Tryd.prog 41 #[.int .i64 p0, .int .i64 p1] w0 fun e w' => e = .returned (.string (bs r)) ∧ Below w0.heap.size w0 w' := by
  refine enter Tryd.func41 rfl Tryd.ntmps41 rfl (fun a hF => ?_)
  have hW := Stw.start Y w0
  unfold r04_Num at H
  refine c_seq ?_
  refine reg_list ?_
  refine ls hF hW rfl ((y_assign (v := Value.string (bs ([] : List UInt8))) hF rfl).q) (fun a w hF hW => ?_)
  refine ls_nil ?_
  refine c_then ?_
  refine c_seq ?_
  refine c_seqJ (fun a w => Fr 34 [] [(0, .int .i64 p0), (1, .int .i64 p1), (4, .string (bs ([] : List UInt8))), (16, .bool (decide (p1 < 1) || (decide (7 < p1) || decide (p0 < 0))))] a ∧ Stw ⟨Y, [], w0⟩ [] [] w) ?_ ?_
  ·
    refine reg_list ?_
    refine ls hF hW rfl ((y_move hF rfl).q) (fun a w hF hW => ?_)
    refine ls hF hW rfl ((y_lss hF rfl rfl).q) (fun a w hF hW => ?_)
    refine ls hF hW rfl ((y_move hF rfl).q) (fun a w hF hW => ?_)
    rcases Bool.eq_false_or_eq_true (decide (p1 < 1)) with hb0 | hb0
    ·
      rw [hb0] at hF
      refine ls_skip hF (wanted_n hF rfl rfl rfl rfl rfl) rfl rfl (fun a hF => ?_)
      refine ls_skip hF (wanted_n hF rfl rfl rfl rfl rfl) rfl rfl (fun a hF => ?_)
      refine ls hF hW rfl ((y_pick_t hF rfl rfl rfl).q) (fun a w hF hW => ?_)
      refine ls hF hW rfl ((y_move hF rfl).q) (fun a w hF hW => ?_)
      refine ls_skip hF (wanted_n hF rfl rfl rfl rfl rfl) rfl rfl (fun a hF => ?_)
      refine ls_skip hF (wanted_n hF rfl rfl rfl rfl rfl) rfl rfl (fun a hF => ?_)
      refine ls hF hW rfl ((y_pick_t hF rfl rfl rfl).q) (fun a w hF hW => ?_)
      refine ls_nil ?_
      refine c_then ?_
      exact ⟨hF.re ⟨rfl, rfl, rfl, (by show some (Value.bool true) = some (Value.bool (decide (p1 < 1) || (decide (7 < p1) || decide (p0 < 0)))); try rw [hb0]; all_goals simp only [Bool.not_true, Bool.not_false, Bool.true_and, Bool.false_and, Bool.true_or, Bool.false_or, Bool.and_true, Bool.or_false, cond_true, cond_false]), trivial⟩, hW⟩
    ·
      rw [hb0] at hF
      refine ls_w hF hW (wanted_y hF rfl rfl rfl rfl) rfl (Nat.le_of_ble_eq_true rfl) ((y_move hF rfl).q) (fun a w hF hW => ?_)
      refine ls_w hF hW (wanted_y hF rfl rfl rfl rfl) rfl (Nat.le_of_ble_eq_true rfl) ((y_gtr hF rfl rfl).q) (fun a w hF hW => ?_)
      refine ls hF hW rfl ((y_pick_f hF rfl rfl rfl).q) (fun a w hF hW => ?_)
      refine ls hF hW rfl ((y_move hF rfl).q) (fun a w hF hW => ?_)
      rcases Bool.eq_false_or_eq_true (decide (7 < p1)) with hb1 | hb1
      ·
        rw [hb1] at hF
        refine ls_skip hF (wanted_n hF rfl rfl rfl rfl rfl) rfl rfl (fun a hF => ?_)
        refine ls_skip hF (wanted_n hF rfl rfl rfl rfl rfl) rfl rfl (fun a hF => ?_)
        refine ls hF hW rfl ((y_pick_t hF rfl rfl rfl).q) (fun a w hF hW => ?_)
        refine ls_nil ?_
        refine c_then ?_
        exact ⟨hF.re ⟨rfl, rfl, rfl, (by show some (Value.bool true) = some (Value.bool (decide (p1 < 1) || (decide (7 < p1) || decide (p0 < 0)))); try rw [hb0]; try rw [hb1]; all_goals simp only [Bool.not_true, Bool.not_false, Bool.true_and, Bool.false_and, Bool.true_or, Bool.false_or, Bool.and_true, Bool.or_false, cond_true, cond_false]), trivial⟩, hW⟩
      ·
        rw [hb1] at hF
        refine ls_w hF hW (wanted_y hF rfl rfl rfl rfl) rfl (Nat.le_of_ble_eq_true rfl) ((y_move hF rfl).q) (fun a w hF hW => ?_)
        refine ls_w hF hW (wanted_y hF rfl rfl rfl rfl) rfl (Nat.le_of_ble_eq_true rfl) ((y_lss hF rfl rfl).q) (fun a w hF hW => ?_)
        refine ls hF hW rfl ((y_pick_f hF rfl rfl rfl).q) (fun a w hF hW => ?_)
        refine ls_nil ?_
        refine c_then ?_
        exact ⟨hF.re ⟨rfl, rfl, rfl, (by show some (Value.bool (decide (p0 < 0))) = some (Value.bool (decide (p1 < 1) || (decide (7 < p1) || decide (p0 < 0)))); try rw [hb0]; try rw [hb1]; all_goals simp only [Bool.not_true, Bool.not_false, Bool.true_and, Bool.false_and, Bool.true_or, Bool.false_or, Bool.and_true, Bool.or_false, cond_true, cond_false]), trivial⟩, hW⟩
  rintro a w ⟨hF, hW⟩
  refine c_cond hF rfl (fun hb => ?_) (fun hb => ?_)
  ·
    have H := iteT hb H
    rw [hb] at hF
    clear hb
    refine c_seq ?_
    refine reg_list ?_
    refine ls hF hW rfl ((y_assign (v := Value.string (bs ([] : List UInt8))) hF rfl).q) (fun a w hF hW => ?_)
    refine ls_nil ?_
    refine c_then ?_
    refine wp_ret ?_
    refine r_then ?_
    have H := Option.some.inj H
    subst H
    refine post1 (.inl rfl) hF hW rfl (rv_tmp hF rfl) ?_
    exact ⟨rfl, hW.done⟩
  ·
    have H := iteF (by rw [hb]; decide) H
    rw [hb] at hF
    clear hb
    refine wp_skip ?_
    refine c_then ?_
    refine c_seq ?_
    refine reg_list ?_
    refine ls hF hW rfl ((y_assign (v := Value.string (bs ([] : List UInt8))) hF rfl).q) (fun a w hF hW => ?_)
    refine ls_nil ?_
    refine c_then ?_
    obtain ⟨o1, G1, K1⟩ := bindE H
    refine c_seqJ (fun a w => ∃ x1 : Int, ∃ x2 : List UInt8, some ((x1, x2)) = some o1 ∧ Fr 34 [] [(0, .int .i64 x1), (4, .string (bs ([] : List UInt8))), (5, .string (bs x2))] a ∧ Stw ⟨Y, [], w0⟩ [] [] w) ?_ ?_
    ·
      have H := G1
      clear G1 K1
      refine c_seq ?_
      refine reg_list ?_
      refine ls hF hW rfl ((y_assign hF rfl).q) (fun a w hF hW => ?_)
      refine ls_nil ?_
      refine c_then ?_
      refine wp_block ?_
      refine c_loopW H (fun s a w => Fr 34 [] [(0, .int .i64 s.1), (1, .int .i64 p1), (4, .string (bs ([] : List UInt8))), (5, .string (bs s.2.1)), (6, .int .i64 s.2.2)] a ∧ Stw ⟨Y, [], w0⟩ [] [] w) ⟨hF.re ⟨rfl, rfl, rfl, rfl, rfl, trivial⟩, hW⟩ (fun s o a w H L2 hR => ?_)
      obtain ⟨x3, x4, x5⟩ := s
      obtain ⟨hF, hW⟩ := hR
      have hF : Fr 34 [] [(0, .int .i64 x3), (1, .int .i64 p1), (4, .string (bs ([] : List UInt8))), (5, .string (bs x4)), (6, .int .i64 x5)] a := hF
      have hW : Stw ⟨Y, [], w0⟩ [] [] w := hW
      rw [r04_Num_l1] at H
      refine c_seq ?_
      refine c_seq ?_
      refine reg_list ?_
      refine ls hF hW rfl ((y_move hF rfl).q) (fun a w hF hW => ?_)
      refine ls hF hW rfl ((y_move hF rfl).q) (fun a w hF hW => ?_)
      refine ls hF hW rfl ((y_lss hF rfl rfl).q) (fun a w hF hW => ?_)
      refine ls_nil ?_
      refine c_then ?_
      refine c_cond hF rfl (fun hb => ?_) (fun hb => ?_)
      ·
        have H := iteT (of_decide_eq_true hb) H
        rw [hb] at hF
        clear hb
        refine wp_skip ?_
        refine c_then ?_
        refine c_seq ?_
        refine wp_block ?_
        refine c_seq ?_
        refine reg_list ?_
        refine ls hF hW rfl ((y_move hF rfl).q) (fun a w hF hW => ?_)
        refine ls hF hW rfl ((y_rem hF rfl rfl (by decide) rfl).q) (fun a w hF hW => ?_)
        refine ls hF hW rfl ((y_convI Tryd.underlying3 Tryd.underlying5 hF rfl).q) (fun a w hF hW => ?_)
        refine l_lit (z := Value.int .u8 0) (cs := [.int .u8 (IntKind.u8.wrap (Int.tmod x3 256))]) (Rp.int .u8) ([IntKind.u8.wrap (Int.tmod x3 256)] : List Int) hF hW rfl L57 Z5 rfl rfl rfl rfl rfl rfl (Fl.int.repL _ _ ([IntKind.u8.wrap (Int.tmod x3 256)] : List Int)) (fun v1 a w hF hW => ?_)
        refine ls hF hW rfl ((y_convB (ns := ([IntKind.u8.wrap (Int.tmod x3 256)] : List Int)) Tryd.underlying57 Tryd.underlying5 Tryd.underlying9 hF rfl (rdc_row 0 rfl)).q) (fun a w hF hW => ?_)
        refine ls hF hW rfl ((y_move hF rfl).q) (fun a w hF hW => ?_)
        obtain ⟨x6, h1, H⟩ := bindE H
        refine ls hF hW rfl ((y_sadd (l := strOf ([IntKind.u8.wrap (Int.tmod x3 256)] : List Int)) (m := x4) hF rfl rfl h1).q) (fun a w hF hW => ?_)
        refine ls hF hW rfl ((y_assign hF rfl).q) (fun a w hF hW => ?_)
        refine ls_nil ?_
        refine c_then ?_
        refine reg_list ?_
        refine ls hF hW rfl ((y_move hF rfl).q) (fun a w hF hW => ?_)
        refine ls hF hW rfl ((y_quo hF rfl rfl (by decide) rfl).q) (fun a w hF hW => ?_)
        refine ls hF hW rfl ((y_assign hF rfl).q) (fun a w hF hW => ?_)
        refine ls_nil ?_
        refine b_normal ?_
        refine c_then ?_
        refine reg_list ?_
        refine ls hF hW rfl ((y_move hF rfl).q) (fun a w hF hW => ?_)
        refine ls hF hW rfl ((y_add hF rfl rfl rfl).q) (fun a w hF hW => ?_)
        refine ls hF hW rfl ((y_assign hF rfl).q) (fun a w hF hW => ?_)
        refine ls_nil ?_
        refine c_then ?_
        have hW := hW.sub (M' := []) (Z' := []) (List.Sublist.refl _) (List.nil_sublist _)
        exact ⟨_, H, hF.re ⟨rfl, rfl, rfl, rfl, rfl, trivial⟩, hW⟩
      ·
        have H := iteF (of_decide_eq_false hb) H
        rw [hb] at hF
        clear hb
        refine wp_exit ?_
        refine e_then ?_
        refine e_then ?_
        refine e_block ?_
        refine c_then ?_
        have H := L2 _ H
        exact ⟨_, _, H, hF.re ⟨rfl, rfl, rfl, trivial⟩, hW⟩
    rintro a w ⟨x1, x2, hj, hF, hW⟩
    have hj := Option.some.inj hj
    subst hj
    have H := K1
    clear G1 K1
    refine c_seq ?_
    refine c_seq ?_
    refine reg_list ?_
    refine ls hF hW rfl ((y_move hF rfl).q) (fun a w hF hW => ?_)
    refine ls hF hW rfl ((y_neq hF rfl rfl).q) (fun a w hF hW => ?_)
    refine ls_nil ?_
    refine c_then ?_
    refine c_cond hF rfl (fun hb => ?_) (fun hb => ?_)
    ·
      have H := iteT (of_decide_eq_true hb) H
      rw [hb] at hF
      clear hb
      refine c_seq ?_
      refine reg_list ?_
      refine ls hF hW rfl ((y_assign (v := Value.string (bs ([] : List UInt8))) hF rfl).q) (fun a w hF hW => ?_)
      refine ls_nil ?_
      refine c_then ?_
      refine wp_ret ?_
      refine r_then ?_
      have H := Option.some.inj H
      subst H
      refine post1 (.inl rfl) hF hW rfl (rv_tmp hF rfl) ?_
      exact ⟨rfl, hW.done⟩
    ·
      have H := iteF (of_decide_eq_false hb) H
      rw [hb] at hF
      clear hb
      refine wp_skip ?_
      refine c_then ?_
      refine c_seq ?_
      refine reg_list ?_
      refine ls hF hW rfl ((y_move hF rfl).q) (fun a w hF hW => ?_)
      refine ls hF hW rfl ((y_assign hF rfl).q) (fun a w hF hW => ?_)
      refine ls_nil ?_
      refine c_then ?_
      refine wp_ret ?_
      have H := Option.some.inj H
      subst H
      refine post1 (.inl rfl) hF hW rfl (rv_tmp hF rfl) ?_
      exact ⟨rfl, hW.done⟩

theorem H41 : Has Tryd.prog 41 := ⟨fun args w => run_callFunc_body Tryd.func41 rfl (by decide) args w⟩
noncomputable def r08_Code_l1 (p0 : Int × (Int × Int × Int × Int) × (Int × Int × Int × Int)) : (List UInt8 × Int) → Option ((List UInt8 × Int) ⊕ (List UInt8))
  | (x3, x4) => (if x4 < 4 then (ix ([p0.2.1.1, p0.2.1.2.1, p0.2.1.2.2.1, p0.2.1.2.2.2] : List Int) x4).bind fun x5 => (r04_Num x5 1).bind fun x6 => (app x3 x6).bind fun x7 => (ix ([p0.2.2.1, p0.2.2.2.1, p0.2.2.2.2.1, p0.2.2.2.2.2] : List Int) x4).bind fun x8 => (r04_Num x8 1).bind fun x9 => (app x7 x9).bind fun x10 => some (.inl (x10, w64 (x4 + 1))) else some (.inr x3))
noncomputable def r08_Code (p0 : Int × (Int × Int × Int × Int) × (Int × Int × Int × Int)) : Option (List UInt8) := (r04_Num (w64 (p0.1 + 1)) 1).bind fun x1 => (loopW (r08_Code_l1 p0) (x1, 0)).bind fun x2 => some x2
theorem r08_Code_c (Y : Nat → Prop) (w0 : World)  (p0 : Int × (Int × Int × Int × Int) × (Int × Int × Int × Int)) (r : List UInt8) (H : r08_Code p0 = some r)  :
    Calls Tryd.prog 23 #[.agg #[.int .i64 p0.1, .int .i64 p0.2.1.1, .int .i64 p0.2.1.2.1, .int .i64 p0.2.1.2.2.1, .int .i64 p0.2.1.2.2.2, .int .i64 p0.2.2.1, .int .i64 p0.2.2.2.1, .int .i64 p0.2.2.2.2.1, .int .i64 p0.2.2.2.2.2]] w0 fun e w' => e = .returned (.string (bs r)) ∧ Below w0.heap.size w0 w' := by
  refine enter Tryd.func23 rfl Tryd.ntmps23 rfl (fun a hF => ?_)
  have hW := Stw.start Y w0
  unfold r08_Code at H
  refine c_seq ?_
  refine reg_list ?_
  refine l_box (cs := [.int .i64 p0.1, .int .i64 p0.2.1.1, .int .i64 p0.2.1.2.1, .int .i64 p0.2.1.2.2.1, .int .i64 p0.2.1.2.2.2, .int .i64 p0.2.2.1, .int .i64 p0.2.2.2.1, .int .i64 p0.2.2.2.2.1, .int .i64 p0.2.2.2.2.2]) hF hW rfl rfl rfl (fun b1 a w hF hW => ?_)
  refine ls hF hW rfl ((y_assign (v := Value.string (bs ([] : List UInt8))) hF rfl).q) (fun a w hF hW => ?_)
  refine ls_nil ?_
  refine c_then ?_
  refine c_seq ?_
  refine reg_list ?_
  refine ls hF hW rfl ((y_fieldAddr Tryd.underlying24 rfl rfl rfl T3 hF rfl 0 rfl).q) (fun a w hF hW => ?_)
  refine ls hF hW rfl ((y_load (v := Value.int .i64 p0.1) 0 hF rfl rfl T3 rfl).q) (fun a w hF hW => ?_)
  refine ls hF hW rfl ((y_add hF rfl rfl rfl).q) (fun a w hF hW => ?_)
  obtain ⟨x1, h1, H⟩ := bindE H
  refine ls hF hW rfl (y_call (v := Value.string (bs x1)) hF H41 rfl (fun w hW => r04_Num_c any w (w64 (p0.1 + 1)) 1 _ h1)) (fun a w hF hW => ?_)
  refine ls hF hW rfl ((y_assign hF rfl).q) (fun a w hF hW => ?_)
  refine ls_nil ?_
  refine c_then ?_
  obtain ⟨o1, G1, K1⟩ := bindE H
  refine c_seqJ (fun a w => ∃ x2 : List UInt8, some (x2) = some o1 ∧ Fr 27 [] [(2, .string (bs ([] : List UInt8))), (3, .string (bs x2))] a ∧ Stw ⟨Y, [], w0⟩ [(b1, [.int .i64 p0.1, .int .i64 p0.2.1.1, .int .i64 p0.2.1.2.1, .int .i64 p0.2.1.2.2.1, .int .i64 p0.2.1.2.2.2, .int .i64 p0.2.2.1, .int .i64 p0.2.2.2.1, .int .i64 p0.2.2.2.2.1, .int .i64 p0.2.2.2.2.2])] [] w) ?_ ?_
  ·
    have H := G1
    clear G1 K1
    refine c_seq ?_
    refine reg_list ?_
    refine ls hF hW rfl ((y_assign hF rfl).q) (fun a w hF hW => ?_)
    refine ls_nil ?_
    refine c_then ?_
    refine wp_block ?_
    refine c_loopW H (fun s a w => Fr 27 [] [(1, .pointer (some ⟨b1, 0, none⟩)), (2, .string (bs ([] : List UInt8))), (3, .string (bs s.1)), (4, .int .i64 s.2)] a ∧ Stw ⟨Y, [], w0⟩ [(b1, [.int .i64 p0.1, .int .i64 p0.2.1.1, .int .i64 p0.2.1.2.1, .int .i64 p0.2.1.2.2.1, .int .i64 p0.2.1.2.2.2, .int .i64 p0.2.2.1, .int .i64 p0.2.2.2.1, .int .i64 p0.2.2.2.2.1, .int .i64 p0.2.2.2.2.2])] [] w) ⟨hF.re ⟨rfl, rfl, rfl, rfl, trivial⟩, hW⟩ (fun s o a w H L2 hR => ?_)
    obtain ⟨x3, x4⟩ := s
    obtain ⟨hF, hW⟩ := hR
    have hF : Fr 27 [] [(1, .pointer (some ⟨b1, 0, none⟩)), (2, .string (bs ([] : List UInt8))), (3, .string (bs x3)), (4, .int .i64 x4)] a := hF
    have hW : Stw ⟨Y, [], w0⟩ [(b1, [.int .i64 p0.1, .int .i64 p0.2.1.1, .int .i64 p0.2.1.2.1, .int .i64 p0.2.1.2.2.1, .int .i64 p0.2.1.2.2.2, .int .i64 p0.2.2.1, .int .i64 p0.2.2.2.1, .int .i64 p0.2.2.2.2.1, .int .i64 p0.2.2.2.2.2])] [] w := hW
    rw [r08_Code_l1] at H
    refine c_seq ?_
    refine c_seq ?_
    refine reg_list ?_
    refine ls hF hW rfl ((y_move hF rfl).q) (fun a w hF hW => ?_)
    refine ls hF hW rfl ((y_lss hF rfl rfl).q) (fun a w hF hW => ?_)
    refine ls_nil ?_
    refine c_then ?_
    refine c_cond hF rfl (fun hb => ?_) (fun hb => ?_)
    ·
      have H := iteT (of_decide_eq_true hb) H
      rw [hb] at hF
      clear hb
      refine wp_skip ?_
      refine c_then ?_
      refine c_seq ?_
      refine wp_block ?_
      refine reg_quiet hW MO (by kernel_rfl) ?_
      refine qs hF rfl ((y_move hF rfl).q) (fun a hF => ?_)
      refine qs hF rfl ((y_move hF rfl).q) (fun a hF => ?_)
      refine qs hF rfl ((y_fieldAddr Tryd.underlying24 rfl rfl rfl T22 hF rfl 1 rfl).q) (fun a hF => ?_)
      obtain ⟨x5, h2, H⟩ := bindE H
      refine qs hF rfl ((y_indexP (1 + (x4).toNat * 1) Ar22 hF rfl rfl rfl h2 rfl).q) (fun a hF => ?_)
      refine qs hF rfl ((y_load (v := Value.int .i64 x5) 0 hF rfl rfl T3 (rdv_dyn (base := 1) (m := 4) (l := [p0.2.1.1, p0.2.1.2.1, p0.2.1.2.2.1, p0.2.1.2.2.2]) (enc := Value.int .i64) rfl h2)).q) (fun a hF => ?_)
      obtain ⟨x6, h3, H⟩ := bindE H
      refine qs hF rfl (y_call (v := Value.string (bs x6)) hF H41 rfl (fun w hW => r04_Num_c any w x5 1 _ h3)) (fun a hF => ?_)
      obtain ⟨x7, h4, H⟩ := bindE H
      refine qs hF rfl ((y_sadd (l := x3) (m := x6) hF rfl rfl h4).q) (fun a hF => ?_)
      refine qs hF rfl ((y_move hF rfl).q) (fun a hF => ?_)
      refine qs hF rfl ((y_fieldAddr Tryd.underlying24 rfl rfl rfl T22 hF rfl 5 rfl).q) (fun a hF => ?_)
      obtain ⟨x8, h5, H⟩ := bindE H
      refine qs hF rfl ((y_indexP (5 + (x4).toNat * 1) Ar22 hF rfl rfl rfl h5 rfl).q) (fun a hF => ?_)
      refine qs hF rfl ((y_load (v := Value.int .i64 x8) 0 hF rfl rfl T3 (rdv_dyn (base := 5) (m := 4) (l := [p0.2.2.1, p0.2.2.2.1, p0.2.2.2.2.1, p0.2.2.2.2.2]) (enc := Value.int .i64) rfl h5)).q) (fun a hF => ?_)
      obtain ⟨x9, h6, H⟩ := bindE H
      refine qs hF rfl (y_call (v := Value.string (bs x9)) hF H41 rfl (fun w hW => r04_Num_c any w x8 1 _ h6)) (fun a hF => ?_)
      obtain ⟨x10, h7, H⟩ := bindE H
      refine qs hF rfl ((y_sadd (l := x7) (m := x9) hF rfl rfl h7).q) (fun a hF => ?_)
      refine qs hF rfl ((y_assign hF rfl).q) (fun a hF => ?_)
      refine quiet_end (fun w hW => ?_)
      refine b_normal ?_
      refine c_then ?_
      refine reg_list ?_
      refine ls hF hW rfl ((y_move hF rfl).q) (fun a w hF hW => ?_)
      refine ls hF hW rfl ((y_add hF rfl rfl rfl).q) (fun a w hF hW => ?_)
      refine ls hF hW rfl ((y_assign hF rfl).q) (fun a w hF hW => ?_)
      refine ls_nil ?_
      refine c_then ?_
      exact ⟨_, H, hF.re ⟨rfl, rfl, rfl, rfl, trivial⟩, hW⟩
    ·
      have H := iteF (of_decide_eq_false hb) H
      rw [hb] at hF
      clear hb
      refine wp_exit ?_
      refine e_then ?_
      refine e_then ?_
      refine e_block ?_
      refine c_then ?_
      have H := L2 _ H
      exact ⟨_, H, hF.re ⟨rfl, rfl, trivial⟩, hW⟩
  rintro a w ⟨x2, hj, hF, hW⟩
  have hj := Option.some.inj hj
  subst hj
  have H := K1
  clear G1 K1
  refine c_seq ?_
  refine reg_list ?_
  refine ls hF hW rfl ((y_move hF rfl).q) (fun a w hF hW => ?_)
  refine ls hF hW rfl ((y_assign hF rfl).q) (fun a w hF hW => ?_)
  refine ls_nil ?_
  refine c_then ?_
  refine wp_ret ?_
  have H := Option.some.inj H
  subst H
  refine post1 (.inl rfl) hF hW rfl (rv_tmp hF rfl) ?_
  exact ⟨rfl, hW.done⟩

theorem H23 : Has Tryd.prog 23 := ⟨fun args w => run_callFunc_body Tryd.func23 rfl (by decide) args w⟩
theorem H45 : Has Tryd.prog 45 := ⟨fun args w => run_callFunc_body Tryd.func45 rfl (by decide) args w⟩
noncomputable def r07_Digits_st (fRec : Int → Option (List UInt8)) (p0 : Int) : Option (List UInt8) := (if p0 < 0 then (if (-10) < p0 then (fRec (w64 (0 - p0))).bind fun x1 => (app ([45] : List UInt8) x1).bind fun x2 => some x2 else (fRec (w64 (0 - (w64 (Int.tdiv p0 10))))).bind fun x3 => (app ([45] : List UInt8) x3).bind fun x4 => (fRec (w64 (0 - (Int.tmod p0 10)))).bind fun x5 => (app x4 x5).bind fun x6 => some x6) else (if p0 < 10 then (subl ([48, 49, 50, 51, 52, 53, 54, 55, 56, 57] : List UInt8) p0 (w64 (p0 + 1))).bind fun x7 => some x7 else (fRec (w64 (Int.tdiv p0 10))).bind fun x8 => (subl ([48, 49, 50, 51, 52, 53, 54, 55, 56, 57] : List UInt8) (Int.tmod p0 10) (w64 ((Int.tmod p0 10) + 1))).bind fun x9 => (app x8 x9).bind fun x10 => some x10))
noncomputable def r07_Digits_n : Nat → Int → Option (List UInt8)
  | 0 => fun _ => none
  | n + 1 => r07_Digits_st (r07_Digits_n n)
noncomputable def r07_Digits (p0 : Int) : Option (List UInt8) := limF fun n => r07_Digits_n n p0
theorem r07_Digits_stc (fRec : Int → Option (List UInt8)) (ih : ∀ (Y : Nat → Prop) (w0 : World)  (p0 : Int) (r : List UInt8) (H : fRec p0 = some r) , Calls Tryd.prog 45 #[.int .i64 p0] w0 fun e w' => e = .returned (.string (bs r)) ∧ Below w0.heap.size w0 w') (Y : Nat → Prop) (w0 : World)  (p0 : Int) (r : List UInt8) (H : r07_Digits_st fRec p0 = some r)  :
    Calls Tryd.prog 45 #[.int .i64 p0] w0 fun e w' => e = .returned (.string (bs r)) ∧ Below w0.heap.size w0 w' := by
  refine enter Tryd.func45 rfl Tryd.ntmps45 rfl (fun a hF => ?_)
  have hW := Stw.start Y w0
  unfold r07_Digits_st at H
  refine c_seq ?_
  refine reg_list ?_
  refine ls hF hW rfl ((y_assign (v := Value.string (bs ([] : List UInt8))) hF rfl).q) (fun a w hF hW => ?_)
  refine ls_nil ?_
  refine c_then ?_
  refine c_seq ?_
  refine c_seq ?_
  refine reg_list ?_
  refine ls hF hW rfl ((y_move hF rfl).q) (fun a w hF hW => ?_)
  refine ls hF hW rfl ((y_lss hF rfl rfl).q) (fun a w hF hW => ?_)
  refine ls_nil ?_
  refine c_then ?_
  refine c_cond hF rfl (fun hb => ?_) (fun hb => ?_)
  ·
    have H := iteT (of_decide_eq_true hb) H
    rw [hb] at hF
    clear hb
    refine c_seq ?_
    refine c_seq ?_
    refine reg_list ?_
    refine ls hF hW rfl ((y_move hF rfl).q) (fun a w hF hW => ?_)
    refine ls hF hW rfl ((y_gtr hF rfl rfl).q) (fun a w hF hW => ?_)
    refine ls_nil ?_
    refine c_then ?_
    refine c_cond hF rfl (fun hb => ?_) (fun hb => ?_)
    ·
      have H := iteT (of_decide_eq_true hb) H
      rw [hb] at hF
      clear hb
      refine c_seq ?_
      refine reg_list ?_
      refine ls hF hW rfl ((y_move hF rfl).q) (fun a w hF hW => ?_)
      refine ls hF hW rfl ((y_sub hF rfl rfl rfl).q) (fun a w hF hW => ?_)
      obtain ⟨x1, h1, H⟩ := bindE H
      refine ls hF hW rfl (y_call (v := Value.string (bs x1)) hF H45 rfl (fun w hW => ih any w (w64 (0 - p0)) _ h1)) (fun a w hF hW => ?_)
      obtain ⟨x2, h2, H⟩ := bindE H
      refine ls hF hW rfl ((y_sadd (l := ([45] : List UInt8)) (m := x1) hF rfl rfl h2).q) (fun a w hF hW => ?_)
      refine ls hF hW rfl ((y_assign hF rfl).q) (fun a w hF hW => ?_)
      refine ls_nil ?_
      refine c_then ?_
      refine wp_ret ?_
      refine r_then ?_
      refine r_then ?_
      have H := Option.some.inj H
      subst H
      refine post1 (.inl rfl) hF hW rfl (rv_tmp hF rfl) ?_
      exact ⟨rfl, hW.done⟩
    ·
      have H := iteF (of_decide_eq_false hb) H
      rw [hb] at hF
      clear hb
      refine wp_skip ?_
      refine c_then ?_
      refine c_seq ?_
      refine reg_list ?_
      refine ls hF hW rfl ((y_move hF rfl).q) (fun a w hF hW => ?_)
      refine ls hF hW rfl ((y_quo hF rfl rfl (by decide) rfl).q) (fun a w hF hW => ?_)
      refine ls hF hW rfl ((y_sub hF rfl rfl rfl).q) (fun a w hF hW => ?_)
      obtain ⟨x3, h3, H⟩ := bindE H
      refine ls hF hW rfl (y_call (v := Value.string (bs x3)) hF H45 rfl (fun w hW => ih any w (w64 (0 - (w64 (Int.tdiv p0 10)))) _ h3)) (fun a w hF hW => ?_)
      obtain ⟨x4, h4, H⟩ := bindE H
      refine ls hF hW rfl ((y_sadd (l := ([45] : List UInt8)) (m := x3) hF rfl rfl h4).q) (fun a w hF hW => ?_)
      refine ls hF hW rfl ((y_move hF rfl).q) (fun a w hF hW => ?_)
      refine ls hF hW rfl ((y_rem hF rfl rfl (by decide) rfl).q) (fun a w hF hW => ?_)
      refine ls hF hW rfl ((y_sub hF rfl rfl rfl).q) (fun a w hF hW => ?_)
      obtain ⟨x5, h5, H⟩ := bindE H
      refine ls hF hW rfl (y_call (v := Value.string (bs x5)) hF H45 rfl (fun w hW => ih any w (w64 (0 - (Int.tmod p0 10))) _ h5)) (fun a w hF hW => ?_)
      obtain ⟨x6, h6, H⟩ := bindE H
      refine ls hF hW rfl ((y_sadd (l := x4) (m := x5) hF rfl rfl h6).q) (fun a w hF hW => ?_)
      refine ls hF hW rfl ((y_assign hF rfl).q) (fun a w hF hW => ?_)
      refine ls_nil ?_
      refine c_then ?_
      refine wp_ret ?_
      refine r_then ?_
      have H := Option.some.inj H
      subst H
      refine post1 (.inl rfl) hF hW rfl (rv_tmp hF rfl) ?_
      exact ⟨rfl, hW.done⟩
  ·
    have H := iteF (of_decide_eq_false hb) H
    rw [hb] at hF
    clear hb
    refine wp_skip ?_
    refine c_then ?_
    refine c_seq ?_
    refine c_seq ?_
    refine reg_list ?_
    refine ls hF hW rfl ((y_move hF rfl).q) (fun a w hF hW => ?_)
    refine ls hF hW rfl ((y_lss hF rfl rfl).q) (fun a w hF hW => ?_)
    refine ls_nil ?_
    refine c_then ?_
    refine c_cond hF rfl (fun hb => ?_) (fun hb => ?_)
    ·
      have H := iteT (of_decide_eq_true hb) H
      rw [hb] at hF
      clear hb
      refine c_seq ?_
      refine reg_list ?_
      refine ls hF hW rfl ((y_move hF rfl).q) (fun a w hF hW => ?_)
      refine ls hF hW rfl ((y_move hF rfl).q) (fun a w hF hW => ?_)
      refine ls hF hW rfl ((y_add hF rfl rfl rfl).q) (fun a w hF hW => ?_)
      obtain ⟨x7, h7, H⟩ := bindE H
      refine ls hF hW rfl ((y_sslice (l := ([48, 49, 50, 51, 52, 53, 54, 55, 56, 57] : List UInt8)) Tryd.underlying9 hF rfl rfl rfl h7).q) (fun a w hF hW => ?_)
      refine ls hF hW rfl ((y_assign hF rfl).q) (fun a w hF hW => ?_)
      refine ls_nil ?_
      refine c_then ?_
      refine wp_ret ?_
      refine r_then ?_
      have H := Option.some.inj H
      subst H
      refine post1 (.inl rfl) hF hW rfl (rv_tmp hF rfl) ?_
      exact ⟨rfl, hW.done⟩
    ·
      have H := iteF (of_decide_eq_false hb) H
      rw [hb] at hF
      clear hb
      refine wp_skip ?_
      refine c_then ?_
      refine c_seq ?_
      refine reg_quiet hW MO (by kernel_rfl) ?_
      refine qs hF rfl ((y_move hF rfl).q) (fun a hF => ?_)
      refine qs hF rfl ((y_quo hF rfl rfl (by decide) rfl).q) (fun a hF => ?_)
      obtain ⟨x8, h8, H⟩ := bindE H
      refine qs hF rfl (y_call (v := Value.string (bs x8)) hF H45 rfl (fun w hW => ih any w (w64 (Int.tdiv p0 10)) _ h8)) (fun a hF => ?_)
      refine qs hF rfl ((y_move hF rfl).q) (fun a hF => ?_)
      refine qs hF rfl ((y_rem hF rfl rfl (by decide) rfl).q) (fun a hF => ?_)
      refine qs hF rfl ((y_move hF rfl).q) (fun a hF => ?_)
      refine qs hF rfl ((y_rem hF rfl rfl (by decide) rfl).q) (fun a hF => ?_)
      refine qs hF rfl ((y_add hF rfl rfl rfl).q) (fun a hF => ?_)
      obtain ⟨x9, h9, H⟩ := bindE H
      refine qs hF rfl ((y_sslice (l := ([48, 49, 50, 51, 52, 53, 54, 55, 56, 57] : List UInt8)) Tryd.underlying9 hF rfl rfl rfl h9).q) (fun a hF => ?_)
      obtain ⟨x10, h10, H⟩ := bindE H
      refine qs hF rfl ((y_sadd (l := x8) (m := x9) hF rfl rfl h10).q) (fun a hF => ?_)
      refine qs hF rfl ((y_assign hF rfl).q) (fun a hF => ?_)
      refine quiet_end (fun w hW => ?_)
      refine c_then ?_
      refine wp_ret ?_
      have H := Option.some.inj H
      subst H
      refine post1 (.inl rfl) hF hW rfl (rv_tmp hF rfl) ?_
      exact ⟨rfl, hW.done⟩
theorem r07_Digits_nc : ∀ (n : Nat) (Y : Nat → Prop) (w0 : World)  (p0 : Int) (r : List UInt8) (H : r07_Digits_n n p0 = some r) , Calls Tryd.prog 45 #[.int .i64 p0] w0 fun e w' => e = .returned (.string (bs r)) ∧ Below w0.heap.size w0 w' := by
  intro n
  induction n with
  | zero => intro Y w0  p0 r H; exact nomatch H
  | succ n ih => intro Y w0  p0 r H ; exact r07_Digits_stc (r07_Digits_n n) ih Y w0  p0 r H 
theorem r07_Digits_c (Y : Nat → Prop) (w0 : World)  (p0 : Int) (r : List UInt8) (H : r07_Digits p0 = some r)  :
    Calls Tryd.prog 45 #[.int .i64 p0] w0 fun e w' => e = .returned (.string (bs r)) ∧ Below w0.heap.size w0 w' := by
  obtain ⟨n, H⟩ := limF_some H
  exact r07_Digits_nc n Y w0  p0 r H 

noncomputable def r08_Text_l1 (p0 : Int × (Int × Int × Int × Int) × (Int × Int × Int × Int)) : (List UInt8 × Int) → Option ((List UInt8 × Int) ⊕ (List UInt8))
  | (x5, x6) => (if x6 < 4 then ((ix ([p0.2.2.1, p0.2.2.2.1, p0.2.2.2.2.1, p0.2.2.2.2.2] : List Int) x6).bind fun x8 => (if x8 = 0 then some x5 else (app x5 ([44, 32] : List UInt8)).bind fun x9 => (ix ([([115, 114, 99, 32] : List UInt8), ([100, 115, 116, 32] : List UInt8), ([107, 105, 110, 100, 32] : List UInt8), ([116, 97, 103, 32] : List UInt8)] : List (List UInt8)) x6).bind fun x10 => (app x9 x10).bind fun x11 => (ix ([p0.2.1.1, p0.2.1.2.1, p0.2.1.2.2.1, p0.2.1.2.2.2] : List Int) x6).bind fun x12 => (r07_Digits x12).bind fun x13 => (app x11 x13).bind fun x14 => (ix ([p0.2.2.1, p0.2.2.2.1, p0.2.2.2.2.1, p0.2.2.2.2.2] : List Int) x6).bind fun x15 => (if x15 ≠ (r07_Top x6) then (app x14 ([47] : List UInt8)).bind fun x16 => (ix ([p0.2.2.1, p0.2.2.2.1, p0.2.2.2.2.1, p0.2.2.2.2.2] : List Int) x6).bind fun x17 => (r07_Digits x17).bind fun x18 => (app x16 x18).bind fun x19 => some x19 else some x14))).bind fun x7 => some (.inl (x7, w64 (x6 + 1))) else some (.inr x5))
noncomputable def r08_Text (p0 : Int × (Int × Int × Int × Int) × (Int × Int × Int × Int)) : Option (List UInt8) := (if p0.1 ≠ (-1) then (r07_Digits p0.1).bind fun x2 => (app ([44, 32, 112, 111, 114, 116, 32] : List UInt8) x2).bind fun x3 => some x3 else some ([] : List UInt8)).bind fun x1 => (loopW (r08_Text_l1 p0) (x1, 0)).bind fun x4 => (if x4 = ([] : List UInt8) then some ([97, 110, 121] : List UInt8) else (subl x4 2 (x4.length : Int)).bind fun x20 => some x20)
theorem r08_Text_c (Y : Nat → Prop) (w0 : World)  (p0 : Int × (Int × Int × Int × Int) × (Int × Int × Int × Int)) (r : List UInt8) (H : r08_Text p0 = some r)  :
    Calls Tryd.prog 25 #[.agg #[.int .i64 p0.1, .int .i64 p0.2.1.1, .int .i64 p0.2.1.2.1, .int .i64 p0.2.1.2.2.1, .int .i64 p0.2.1.2.2.2, .int .i64 p0.2.2.1, .int .i64 p0.2.2.2.1, .int .i64 p0.2.2.2.2.1, .int .i64 p0.2.2.2.2.2]] w0 fun e w' => e = .returned (.string (bs r)) ∧ Below w0.heap.size w0 w' := by
  refine enter Tryd.func25 rfl Tryd.ntmps25 rfl (fun a hF => ?_)
  have hW := Stw.start Y w0
  unfold r08_Text at H
  refine c_seq ?_
  refine reg_list ?_
  refine l_box (cs := [.int .i64 p0.1, .int .i64 p0.2.1.1, .int .i64 p0.2.1.2.1, .int .i64 p0.2.1.2.2.1, .int .i64 p0.2.1.2.2.2, .int .i64 p0.2.2.1, .int .i64 p0.2.2.2.1, .int .i64 p0.2.2.2.2.1, .int .i64 p0.2.2.2.2.2]) hF hW rfl rfl rfl (fun b1 a w hF hW => ?_)
  refine ls hF hW rfl ((y_assign (v := Value.string (bs ([] : List UInt8))) hF rfl).q) (fun a w hF hW => ?_)
  refine ls_nil ?_
  refine c_then ?_
  refine c_seq ?_
  refine reg_list ?_
  refine l_lit (z := Value.string (bs ([] : List UInt8))) (cs := [.string (bs ([115, 114, 99, 32] : List UInt8)), .string (bs ([100, 115, 116, 32] : List UInt8)), .string (bs ([107, 105, 110, 100, 32] : List UInt8)), .string (bs ([116, 97, 103, 32] : List UInt8))]) Rp.str ([([115, 114, 99, 32] : List UInt8), ([100, 115, 116, 32] : List UInt8), ([107, 105, 110, 100, 32] : List UInt8), ([116, 97, 103, 32] : List UInt8)] : List (List UInt8)) hF hW rfl L66 Z9 rfl rfl rfl rfl rfl rfl (Fl.str.repL _ _ ([([115, 114, 99, 32] : List UInt8), ([100, 115, 116, 32] : List UInt8), ([107, 105, 110, 100, 32] : List UInt8), ([116, 97, 103, 32] : List UInt8)] : List (List UInt8))) (fun v1 a w hF hW => ?_)
  refine ls hF hW rfl ((y_assign hF rfl).q) (fun a w hF hW => ?_)
  refine ls_nil ?_
  refine c_then ?_
  refine c_seq ?_
  refine reg_list ?_
  refine ls hF hW rfl ((y_assign (v := Value.string (bs ([] : List UInt8))) hF rfl).q) (fun a w hF hW => ?_)
  refine ls_nil ?_
  refine c_then ?_
  obtain ⟨o1, G1, K1⟩ := bindE H
  refine c_seqJ (fun a w => ∃ x1 : List UInt8, some (x1) = some o1 ∧ Fr 55 [] [(1, .pointer (some ⟨b1, 0, none⟩)), (2, .string (bs ([] : List UInt8))), (3, v1), (4, .string (bs x1))] a ∧ Stw ⟨Y, [], w0⟩ [(b1, [.int .i64 p0.1, .int .i64 p0.2.1.1, .int .i64 p0.2.1.2.1, .int .i64 p0.2.1.2.2.1, .int .i64 p0.2.1.2.2.2, .int .i64 p0.2.2.1, .int .i64 p0.2.2.2.1, .int .i64 p0.2.2.2.2.1, .int .i64 p0.2.2.2.2.2])] [row v1 9 Rp.str ([([115, 114, 99, 32] : List UInt8), ([100, 115, 116, 32] : List UInt8), ([107, 105, 110, 100, 32] : List UInt8), ([116, 97, 103, 32] : List UInt8)] : List (List UInt8))] w) ?_ ?_
  ·
    have H := G1
    clear G1 K1
    refine c_seq ?_
    refine reg_list ?_
    refine ls hF hW rfl ((y_fieldAddr Tryd.underlying24 rfl rfl rfl T3 hF rfl 0 rfl).q) (fun a w hF hW => ?_)
    refine ls hF hW rfl ((y_load (v := Value.int .i64 p0.1) 0 hF rfl rfl T3 rfl).q) (fun a w hF hW => ?_)
    refine ls hF hW rfl ((y_neq hF rfl rfl).q) (fun a w hF hW => ?_)
    refine ls_nil ?_
    refine c_then ?_
    refine c_cond hF rfl (fun hb => ?_) (fun hb => ?_)
    ·
      have H := iteT (of_decide_eq_true hb) H
      rw [hb] at hF
      clear hb
      refine reg_list ?_
      refine ls hF hW rfl ((y_fieldAddr Tryd.underlying24 rfl rfl rfl T3 hF rfl 0 rfl).q) (fun a w hF hW => ?_)
      refine ls hF hW rfl ((y_load (v := Value.int .i64 p0.1) 0 hF rfl rfl T3 rfl).q) (fun a w hF hW => ?_)
      obtain ⟨x2, h1, H⟩ := bindE H
      refine ls hF hW rfl (y_call (v := Value.string (bs x2)) hF H45 rfl (fun w hW => r07_Digits_c any w p0.1 _ h1)) (fun a w hF hW => ?_)
      obtain ⟨x3, h2, H⟩ := bindE H
      refine ls hF hW rfl ((y_sadd (l := ([44, 32, 112, 111, 114, 116, 32] : List UInt8)) (m := x2) hF rfl rfl h2).q) (fun a w hF hW => ?_)
      refine ls hF hW rfl ((y_assign hF rfl).q) (fun a w hF hW => ?_)
      refine ls_nil ?_
      refine c_then ?_
      exact ⟨_, H, hF.re ⟨rfl, rfl, rfl, rfl, trivial⟩, hW⟩
    ·
      have H := iteF (of_decide_eq_false hb) H
      rw [hb] at hF
      clear hb
      refine wp_skip ?_
      refine c_then ?_
      exact ⟨_, H, hF.re ⟨rfl, rfl, rfl, rfl, trivial⟩, hW⟩
  rintro a w ⟨x1, hj, hF, hW⟩
  have hj := Option.some.inj hj
  subst hj
  have H := K1
  clear G1 K1
  obtain ⟨o2, G2, K2⟩ := bindE H
  refine c_seqJ (fun a w => ∃ x4 : List UInt8, some (x4) = some o2 ∧ Fr 55 [] [(2, .string (bs ([] : List UInt8))), (4, .string (bs x4))] a ∧ Stw ⟨Y, [], w0⟩ [(b1, [.int .i64 p0.1, .int .i64 p0.2.1.1, .int .i64 p0.2.1.2.1, .int .i64 p0.2.1.2.2.1, .int .i64 p0.2.1.2.2.2, .int .i64 p0.2.2.1, .int .i64 p0.2.2.2.1, .int .i64 p0.2.2.2.2.1, .int .i64 p0.2.2.2.2.2])] [] w) ?_ ?_
  ·
    have H := G2
    clear G2 K2
    refine c_seq ?_
    refine reg_list ?_
    refine ls hF hW rfl ((y_assign hF rfl).q) (fun a w hF hW => ?_)
    refine ls_nil ?_
    refine c_then ?_
    refine wp_block ?_
    refine c_loopW H (fun s a w => Fr 55 [] [(1, .pointer (some ⟨b1, 0, none⟩)), (2, .string (bs ([] : List UInt8))), (3, v1), (4, .string (bs s.1)), (5, .int .i64 s.2)] a ∧ Stw ⟨Y, [], w0⟩ [(b1, [.int .i64 p0.1, .int .i64 p0.2.1.1, .int .i64 p0.2.1.2.1, .int .i64 p0.2.1.2.2.1, .int .i64 p0.2.1.2.2.2, .int .i64 p0.2.2.1, .int .i64 p0.2.2.2.1, .int .i64 p0.2.2.2.2.1, .int .i64 p0.2.2.2.2.2])] [row v1 9 Rp.str ([([115, 114, 99, 32] : List UInt8), ([100, 115, 116, 32] : List UInt8), ([107, 105, 110, 100, 32] : List UInt8), ([116, 97, 103, 32] : List UInt8)] : List (List UInt8))] w) ⟨hF.re ⟨rfl, rfl, rfl, rfl, rfl, trivial⟩, hW⟩ (fun s o a w H L3 hR => ?_)
    obtain ⟨x5, x6⟩ := s
    obtain ⟨hF, hW⟩ := hR
    have hF : Fr 55 [] [(1, .pointer (some ⟨b1, 0, none⟩)), (2, .string (bs ([] : List UInt8))), (3, v1), (4, .string (bs x5)), (5, .int .i64 x6)] a := hF
    have hW : Stw ⟨Y, [], w0⟩ [(b1, [.int .i64 p0.1, .int .i64 p0.2.1.1, .int .i64 p0.2.1.2.1, .int .i64 p0.2.1.2.2.1, .int .i64 p0.2.1.2.2.2, .int .i64 p0.2.2.1, .int .i64 p0.2.2.2.1, .int .i64 p0.2.2.2.2.1, .int .i64 p0.2.2.2.2.2])] [row v1 9 Rp.str ([([115, 114, 99, 32] : List UInt8), ([100, 115, 116, 32] : List UInt8), ([107, 105, 110, 100, 32] : List UInt8), ([116, 97, 103, 32] : List UInt8)] : List (List UInt8))] w := hW
    rw [r08_Text_l1] at H
    refine c_seq ?_
    refine c_seq ?_
    refine reg_list ?_
    refine ls hF hW rfl ((y_move hF rfl).q) (fun a w hF hW => ?_)
    refine ls hF hW rfl ((y_lss hF rfl rfl).q) (fun a w hF hW => ?_)
    refine ls_nil ?_
    refine c_then ?_
    refine c_cond hF rfl (fun hb => ?_) (fun hb => ?_)
    ·
      have H := iteT (of_decide_eq_true hb) H
      rw [hb] at hF
      clear hb
      refine wp_skip ?_
      refine c_then ?_
      obtain ⟨o4, G4, K4⟩ := bindE H
      refine c_seqJ (fun a w => ∃ x7 : List UInt8, some (x7) = some o4 ∧ Fr 55 [] [(1, .pointer (some ⟨b1, 0, none⟩)), (2, .string (bs ([] : List UInt8))), (3, v1), (4, .string (bs x7)), (5, .int .i64 x6)] a ∧ Stw ⟨Y, [], w0⟩ [(b1, [.int .i64 p0.1, .int .i64 p0.2.1.1, .int .i64 p0.2.1.2.1, .int .i64 p0.2.1.2.2.1, .int .i64 p0.2.1.2.2.2, .int .i64 p0.2.2.1, .int .i64 p0.2.2.2.1, .int .i64 p0.2.2.2.2.1, .int .i64 p0.2.2.2.2.2])] [row v1 9 Rp.str ([([115, 114, 99, 32] : List UInt8), ([100, 115, 116, 32] : List UInt8), ([107, 105, 110, 100, 32] : List UInt8), ([116, 97, 103, 32] : List UInt8)] : List (List UInt8))] w) ?_ ?_
      ·
        have H := G4
        clear G4 K4
        refine wp_block ?_
        refine c_seq ?_
        refine c_seq ?_
        refine reg_list ?_
        refine ls hF hW rfl ((y_move hF rfl).q) (fun a w hF hW => ?_)
        refine ls hF hW rfl ((y_fieldAddr Tryd.underlying24 rfl rfl rfl T22 hF rfl 5 rfl).q) (fun a w hF hW => ?_)
        obtain ⟨x8, h3, H⟩ := bindE H
        refine ls hF hW rfl ((y_indexP (5 + (x6).toNat * 1) Ar22 hF rfl rfl rfl h3 rfl).q) (fun a w hF hW => ?_)
        refine ls hF hW rfl ((y_load (v := Value.int .i64 x8) 0 hF rfl rfl T3 (rdv_dyn (base := 5) (m := 4) (l := [p0.2.2.1, p0.2.2.2.1, p0.2.2.2.2.1, p0.2.2.2.2.2]) (enc := Value.int .i64) rfl h3)).q) (fun a w hF hW => ?_)
        refine ls hF hW rfl ((y_eql hF rfl rfl).q) (fun a w hF hW => ?_)
        refine ls_nil ?_
        refine c_then ?_
        refine c_cond hF rfl (fun hb => ?_) (fun hb => ?_)
        ·
          have H := iteT (of_decide_eq_true hb) H
          rw [hb] at hF
          clear hb
          refine wp_exit ?_
          refine e_then ?_
          refine e_block ?_
          refine c_then ?_
          exact ⟨_, H, hF.re ⟨rfl, rfl, rfl, rfl, rfl, trivial⟩, hW⟩
        ·
          have H := iteF (of_decide_eq_false hb) H
          rw [hb] at hF
          clear hb
          refine wp_skip ?_
          refine c_then ?_
          refine c_seq ?_
          refine reg_quiet hW MO (by kernel_rfl) ?_
          refine qs hF rfl ((y_move hF rfl).q) (fun a hF => ?_)
          obtain ⟨x9, h4, H⟩ := bindE H
          refine qs hF rfl ((y_sadd (l := x5) (m := ([44, 32] : List UInt8)) hF rfl rfl h4).q) (fun a hF => ?_)
          refine qs hF rfl ((y_move hF rfl).q) (fun a hF => ?_)
          refine qs hF rfl ((y_move hF rfl).q) (fun a hF => ?_)
          obtain ⟨x10, h5, H⟩ := bindE H
          refine qs hF rfl ((y_index (r := Rp.str) L66 hF rfl rfl (rdc_row 0 rfl) h5).q) (fun a hF => ?_)
          refine qs hF rfl ((y_load_el (y := Value.string (bs x10)) (j := 0) (i := x6) hF rfl rfl (rdc_row 0 rfl) h5 Fl.str.to T9 rfl).q) (fun a hF => ?_)
          obtain ⟨x11, h6, H⟩ := bindE H
          refine qs hF rfl ((y_sadd (l := x9) (m := x10) hF rfl rfl h6).q) (fun a hF => ?_)
          refine qs hF rfl ((y_move hF rfl).q) (fun a hF => ?_)
          refine qs hF rfl ((y_fieldAddr Tryd.underlying24 rfl rfl rfl T22 hF rfl 1 rfl).q) (fun a hF => ?_)
          obtain ⟨x12, h7, H⟩ := bindE H
          refine qs hF rfl ((y_indexP (1 + (x6).toNat * 1) Ar22 hF rfl rfl rfl h7 rfl).q) (fun a hF => ?_)
          refine qs hF rfl ((y_load (v := Value.int .i64 x12) 0 hF rfl rfl T3 (rdv_dyn (base := 1) (m := 4) (l := [p0.2.1.1, p0.2.1.2.1, p0.2.1.2.2.1, p0.2.1.2.2.2]) (enc := Value.int .i64) rfl h7)).q) (fun a hF => ?_)
          obtain ⟨x13, h8, H⟩ := bindE H
          refine qs hF rfl (y_call (v := Value.string (bs x13)) hF H45 rfl (fun w hW => r07_Digits_c any w x12 _ h8)) (fun a hF => ?_)
          obtain ⟨x14, h9, H⟩ := bindE H
          refine qs hF rfl ((y_sadd (l := x11) (m := x13) hF rfl rfl h9).q) (fun a hF => ?_)
          refine qs hF rfl ((y_assign hF rfl).q) (fun a hF => ?_)
          refine quiet_end (fun w hW => ?_)
          refine c_then ?_
          refine c_seq ?_
          refine reg_quiet hW MO (by kernel_rfl) ?_
          refine qs hF rfl ((y_move hF rfl).q) (fun a hF => ?_)
          refine qs hF rfl ((y_fieldAddr Tryd.underlying24 rfl rfl rfl T22 hF rfl 5 rfl).q) (fun a hF => ?_)
          obtain ⟨x15, h10, H⟩ := bindE H
          refine qs hF rfl ((y_indexP (5 + (x6).toNat * 1) Ar22 hF rfl rfl rfl h10 rfl).q) (fun a hF => ?_)
          refine qs hF rfl ((y_load (v := Value.int .i64 x15) 0 hF rfl rfl T3 (rdv_dyn (base := 5) (m := 4) (l := [p0.2.2.1, p0.2.2.2.1, p0.2.2.2.2.1, p0.2.2.2.2.2]) (enc := Value.int .i64) rfl h10)).q) (fun a hF => ?_)
          refine qs hF rfl ((y_move hF rfl).q) (fun a hF => ?_)
          refine qs hF rfl (y_call (v := Value.int .i64 (r07_Top x6)) hF H35 rfl (fun w hW => r07_Top_c any w x6 _ rfl)) (fun a hF => ?_)
          refine qs hF rfl ((y_neq hF rfl rfl).q) (fun a hF => ?_)
          refine quiet_end (fun w hW => ?_)
          refine c_then ?_
          refine c_cond hF rfl (fun hb => ?_) (fun hb => ?_)
          ·
            have H := iteT (of_decide_eq_true hb) H
            rw [hb] at hF
            clear hb
            refine reg_list ?_
            refine ls hF hW rfl ((y_move hF rfl).q) (fun a w hF hW => ?_)
            obtain ⟨x16, h11, H⟩ := bindE H
            refine ls hF hW rfl ((y_sadd (l := x14) (m := ([47] : List UInt8)) hF rfl rfl h11).q) (fun a w hF hW => ?_)
            refine ls hF hW rfl ((y_move hF rfl).q) (fun a w hF hW => ?_)
            refine ls hF hW rfl ((y_fieldAddr Tryd.underlying24 rfl rfl rfl T22 hF rfl 5 rfl).q) (fun a w hF hW => ?_)
            obtain ⟨x17, h12, H⟩ := bindE H
            refine ls hF hW rfl ((y_indexP (5 + (x6).toNat * 1) Ar22 hF rfl rfl rfl h12 rfl).q) (fun a w hF hW => ?_)
            refine ls hF hW rfl ((y_load (v := Value.int .i64 x17) 0 hF rfl rfl T3 (rdv_dyn (base := 5) (m := 4) (l := [p0.2.2.1, p0.2.2.2.1, p0.2.2.2.2.1, p0.2.2.2.2.2]) (enc := Value.int .i64) rfl h12)).q) (fun a w hF hW => ?_)
            obtain ⟨x18, h13, H⟩ := bindE H
            refine ls hF hW rfl (y_call (v := Value.string (bs x18)) hF H45 rfl (fun w hW => r07_Digits_c any w x17 _ h13)) (fun a w hF hW => ?_)
            obtain ⟨x19, h14, H⟩ := bindE H
            refine ls hF hW rfl ((y_sadd (l := x16) (m := x18) hF rfl rfl h14).q) (fun a w hF hW => ?_)
            refine ls hF hW rfl ((y_assign hF rfl).q) (fun a w hF hW => ?_)
            refine ls_nil ?_
            refine b_normal ?_
            refine c_then ?_
            exact ⟨_, H, hF.re ⟨rfl, rfl, rfl, rfl, rfl, trivial⟩, hW⟩
          ·
            have H := iteF (of_decide_eq_false hb) H
            rw [hb] at hF
            clear hb
            refine wp_skip ?_
            refine b_normal ?_
            refine c_then ?_
            exact ⟨_, H, hF.re ⟨rfl, rfl, rfl, rfl, rfl, trivial⟩, hW⟩
      rintro a w ⟨x7, hj, hF, hW⟩
      have hj := Option.some.inj hj
      subst hj
      have H := K4
      clear G4 K4
      refine reg_list ?_
      refine ls hF hW rfl ((y_move hF rfl).q) (fun a w hF hW => ?_)
      refine ls hF hW rfl ((y_add hF rfl rfl rfl).q) (fun a w hF hW => ?_)
      refine ls hF hW rfl ((y_assign hF rfl).q) (fun a w hF hW => ?_)
      refine ls_nil ?_
      refine c_then ?_
      exact ⟨_, H, hF.re ⟨rfl, rfl, rfl, rfl, rfl, trivial⟩, hW⟩
    ·
      have H := iteF (of_decide_eq_false hb) H
      rw [hb] at hF
      clear hb
      refine wp_exit ?_
      refine e_then ?_
      refine e_then ?_
      refine e_block ?_
      refine c_then ?_
      have hW := hW.sub (M' := [(b1, [.int .i64 p0.1, .int .i64 p0.2.1.1, .int .i64 p0.2.1.2.1, .int .i64 p0.2.1.2.2.1, .int .i64 p0.2.1.2.2.2, .int .i64 p0.2.2.1, .int .i64 p0.2.2.2.1, .int .i64 p0.2.2.2.2.1, .int .i64 p0.2.2.2.2.2])]) (Z' := []) (List.Sublist.refl _) (List.nil_sublist _)
      have H := L3 _ H
      exact ⟨_, H, hF.re ⟨rfl, rfl, trivial⟩, hW⟩
  rintro a w ⟨x4, hj, hF, hW⟩
  have hj := Option.some.inj hj
  subst hj
  have H := K2
  clear G2 K2
  refine c_seq ?_
  refine c_seq ?_
  refine reg_list ?_
  refine ls hF hW rfl ((y_move hF rfl).q) (fun a w hF hW => ?_)
  refine ls hF hW rfl ((y_seq (l := x4) (m := ([] : List UInt8)) hF rfl rfl).q) (fun a w hF hW => ?_)
  refine ls_nil ?_
  refine c_then ?_
  refine c_cond hF rfl (fun hb => ?_) (fun hb => ?_)
  ·
    have H := iteT (of_decide_eq_true hb) H
    rw [hb] at hF
    clear hb
    refine c_seq ?_
    refine reg_list ?_
    refine ls hF hW rfl ((y_assign (v := Value.string (bs ([97, 110, 121] : List UInt8))) hF rfl).q) (fun a w hF hW => ?_)
    refine ls_nil ?_
    refine c_then ?_
    refine wp_ret ?_
    refine r_then ?_
    have H := Option.some.inj H
    subst H
    refine post1 (.inl rfl) hF hW rfl (rv_tmp hF rfl) ?_
    exact ⟨rfl, hW.done⟩
  ·
    have H := iteF (of_decide_eq_false hb) H
    rw [hb] at hF
    clear hb
    refine wp_skip ?_
    refine c_then ?_
    refine c_seq ?_
    refine reg_list ?_
    refine ls hF hW rfl ((y_move hF rfl).q) (fun a w hF hW => ?_)
    obtain ⟨x20, h15, H⟩ := bindE H
    refine ls hF hW rfl ((y_sslice (l := x4) Tryd.underlying9 hF rfl rfl rfl h15).q) (fun a w hF hW => ?_)
    refine ls hF hW rfl ((y_assign hF rfl).q) (fun a w hF hW => ?_)
    refine ls_nil ?_
    refine c_then ?_
    refine wp_ret ?_
    have H := Option.some.inj H
    subst H
    refine post1 (.inl rfl) hF hW rfl (rv_tmp hF rfl) ?_
    exact ⟨rfl, hW.done⟩

end Go.Proofs.YtmlaadalggngkaaDoor
