/- The functions of layer 43, lifted. Conditions: none. -/
import Derived.Test.YtdogfpoekndknaaA1
namespace Go.Proofs.Ytdogfpoekndknaa
open Go Go.RowKit
set_option linter.unusedVariables false
set_option linter.unusedSimpArgs false
set_option maxRecDepth 20000
theorem u71_ : type_of% Try.underlying71 := Try.underlying71
theorem H65 : Has Try.prog 65 := ⟨fun args w => run_callFunc_body Try.func65 rfl (by decide) args w⟩
theorem H55 : Has Try.prog 55 := ⟨fun args w => run_callFunc_body Try.func55 rfl (by decide) args w⟩
theorem Z82 : (Try.prog.info? 82).bind (·.zero) = some (.int .u64 0) := by kernel_rfl
theorem T82 : Ty Try.prog 82 false 1 := ⟨by kernel_rfl, by kernel_rfl⟩
noncomputable def slices_nextPowerOfTwo (p0 : Int) : Option Int := (math_bits_Len (IntKind.u64.wrap p0)).bind fun x1 => (shN (shlI .u64 1 x1) x1).bind fun x2 => some x2
theorem slices_nextPowerOfTwo_c (Y : Nat → Prop) (w0 : World)  (p0 : Int) (r : Int) (H : slices_nextPowerOfTwo p0 = some r)  :
    Calls Try.prog 69 #[.int .i64 p0] w0 fun e w' => e = .returned (.int .u64 r) ∧ Below w0.heap.size w0 w' := by
 refine enter Try.func69 rfl Try.ntmps69 rfl (fun a hF => ?_)
 have hW := Stw.start Y w0
 unfold slices_nextPowerOfTwo at H
 refine c_seq (reg_list ?_)
 refine ls hF hW rfl ((y_assign hF rfl).q) (fun a w hF hW => ?_)
 refine ls_nil (c_then ?_)
 refine c_seq (reg_list ?_)
 refine ls hF hW rfl ((y_move hF rfl).q) (fun a w hF hW => ?_)
 refine ls hF hW rfl ((y_convI u3_ u71_ hF rfl).q) (fun a w hF hW => ?_)
 obtain ⟨x1, h1, H⟩ := bindE H
 refine ls hF hW rfl (y_call (v := Value.int .i64 x1) hF H56 rfl (fun w hW => math_bits_Len_c any w (IntKind.u64.wrap p0) _ h1)) (fun a w hF hW => ?_)
 obtain ⟨x2, h2, H⟩ := bindE H
 refine ls hF hW rfl ((y_shc (shN_some h2).2 (y_shl hF rfl rfl (shN_some h2).1)).q) (fun a w hF hW => ?_)
 refine ls hF hW rfl ((y_assign hF rfl).q) (fun a w hF hW => ?_)
 refine ls_nil (c_then ?_)
 refine wp_ret ?_
 have H := Option.some.inj H
 subst H
 refine post1 (.inl rfl) hF hW rfl (rv_tmp hF rfl) ?_
 exact ⟨rfl, hW.done⟩

theorem H69 : Has Try.prog 69 := ⟨fun args w => run_callFunc_body Try.func69 rfl (by decide) args w⟩
def slices_xorshift_Next (p0 : Int) : Int × Int := (xorI .u64 (xorI .u64 (xorI .u64 p0 (shlI .u64 p0 13)) (shrI .u64 (xorI .u64 p0 (shlI .u64 p0 13)) 7)) (shlI .u64 (xorI .u64 (xorI .u64 p0 (shlI .u64 p0 13)) (shrI .u64 (xorI .u64 p0 (shlI .u64 p0 13)) 7)) 17), xorI .u64 (xorI .u64 (xorI .u64 p0 (shlI .u64 p0 13)) (shrI .u64 (xorI .u64 p0 (shlI .u64 p0 13)) 7)) (shlI .u64 (xorI .u64 (xorI .u64 p0 (shlI .u64 p0 13)) (shrI .u64 (xorI .u64 p0 (shlI .u64 p0 13)) 7)) 17))
theorem slices_xorshift_Next_c (Y : Nat → Prop) (X : List Nat) (w0 : World) (q_p0 : Nat) (p0 : Int) (r : Int × Int) (H : slices_xorshift_Next p0 = r) (hL : Stw ⟨Y, X, w0⟩ [(q_p0, [.int .u64 p0])] [] w0) :
    Calls Try.prog 70 #[.pointer (some ⟨q_p0, 0, none⟩)] w0 fun e w' => ∃ x : Unit, e = .returned (.int .u64 r.1) ∧ Stw ⟨Y, X, w0⟩ [(q_p0, [.int .u64 r.2])] [] w' := by
 refine enter Try.func70 rfl Try.ntmps70 rfl (fun a hF => ?_)
 have hW := hL
 unfold slices_xorshift_Next at H
 refine c_seq (reg_list ?_)
 refine ls hF hW rfl ((y_assign hF rfl).q) (fun a w hF hW => ?_)
 refine ls_nil (c_then ?_)
 refine c_seq ?_
 refine reg_tail 9 hW MO (by kernel_rfl) ?_
 refine qs hF rfl ((y_move hF rfl).q) (fun a hF => ?_)
 refine qs hF rfl ((y_nilCheck hF rfl).q) (fun a hF => ?_)
 refine qs hF rfl ((y_load (v := Value.int .u64 p0) 0 hF rfl rfl T82 rfl).q) (fun a hF => ?_)
 refine qs hF rfl ((y_move hF rfl).q) (fun a hF => ?_)
 refine qs hF rfl ((y_nilCheck hF rfl).q) (fun a hF => ?_)
 refine qs hF rfl ((y_load (v := Value.int .u64 p0) 0 hF rfl rfl T82 rfl).q) (fun a hF => ?_)
 refine qs hF rfl ((y_shl hF rfl rfl (by decide)).q) (fun a hF => ?_)
 refine qs hF rfl ((y_xor hF rfl rfl).q) (fun a hF => ?_)
 refine qs hF rfl ((y_nilCheck hF rfl).q) (fun a hF => ?_)
 refine quiet_end (fun w hW => ?_)
 refine l_store (vs := [.int .u64 (xorI .u64 p0 (shlI .u64 p0 13))]) (M' := [(q_p0, [.int .u64 (xorI .u64 p0 (shlI .u64 p0 13))])]) 0 hF hW rfl rfl rfl T82 rfl rfl rfl rfl rfl (fun w hW => ?_)
 refine ls_nil (c_then ?_)
 refine c_seq ?_
 refine reg_tail 9 hW MO (by kernel_rfl) ?_
 refine qs hF rfl ((y_move hF rfl).q) (fun a hF => ?_)
 refine qs hF rfl ((y_nilCheck hF rfl).q) (fun a hF => ?_)
 refine qs hF rfl ((y_load (v := Value.int .u64 (xorI .u64 p0 (shlI .u64 p0 13))) 0 hF rfl rfl T82 rfl).q) (fun a hF => ?_)
 refine qs hF rfl ((y_move hF rfl).q) (fun a hF => ?_)
 refine qs hF rfl ((y_nilCheck hF rfl).q) (fun a hF => ?_)
 refine qs hF rfl ((y_load (v := Value.int .u64 (xorI .u64 p0 (shlI .u64 p0 13))) 0 hF rfl rfl T82 rfl).q) (fun a hF => ?_)
 refine qs hF rfl ((y_shr hF rfl rfl (by decide)).q) (fun a hF => ?_)
 refine qs hF rfl ((y_xor hF rfl rfl).q) (fun a hF => ?_)
 refine qs hF rfl ((y_nilCheck hF rfl).q) (fun a hF => ?_)
 refine quiet_end (fun w hW => ?_)
 refine l_store (vs := [.int .u64 (xorI .u64 (xorI .u64 p0 (shlI .u64 p0 13)) (shrI .u64 (xorI .u64 p0 (shlI .u64 p0 13)) 7))]) (M' := [(q_p0, [.int .u64 (xorI .u64 (xorI .u64 p0 (shlI .u64 p0 13)) (shrI .u64 (xorI .u64 p0 (shlI .u64 p0 13)) 7))])]) 0 hF hW rfl rfl rfl T82 rfl rfl rfl rfl rfl (fun w hW => ?_)
 refine ls_nil (c_then ?_)
 refine c_seq ?_
 refine reg_tail 9 hW MO (by kernel_rfl) ?_
 refine qs hF rfl ((y_move hF rfl).q) (fun a hF => ?_)
 refine qs hF rfl ((y_nilCheck hF rfl).q) (fun a hF => ?_)
 refine qs hF rfl ((y_load (v := Value.int .u64 (xorI .u64 (xorI .u64 p0 (shlI .u64 p0 13)) (shrI .u64 (xorI .u64 p0 (shlI .u64 p0 13)) 7))) 0 hF rfl rfl T82 rfl).q) (fun a hF => ?_)
 refine qs hF rfl ((y_move hF rfl).q) (fun a hF => ?_)
 refine qs hF rfl ((y_nilCheck hF rfl).q) (fun a hF => ?_)
 refine qs hF rfl ((y_load (v := Value.int .u64 (xorI .u64 (xorI .u64 p0 (shlI .u64 p0 13)) (shrI .u64 (xorI .u64 p0 (shlI .u64 p0 13)) 7))) 0 hF rfl rfl T82 rfl).q) (fun a hF => ?_)
 refine qs hF rfl ((y_shl hF rfl rfl (by decide)).q) (fun a hF => ?_)
 refine qs hF rfl ((y_xor hF rfl rfl).q) (fun a hF => ?_)
 refine qs hF rfl ((y_nilCheck hF rfl).q) (fun a hF => ?_)
 refine quiet_end (fun w hW => ?_)
 refine l_store (vs := [.int .u64 (xorI .u64 (xorI .u64 (xorI .u64 p0 (shlI .u64 p0 13)) (shrI .u64 (xorI .u64 p0 (shlI .u64 p0 13)) 7)) (shlI .u64 (xorI .u64 (xorI .u64 p0 (shlI .u64 p0 13)) (shrI .u64 (xorI .u64 p0 (shlI .u64 p0 13)) 7)) 17))]) (M' := [(q_p0, [.int .u64 (xorI .u64 (xorI .u64 (xorI .u64 p0 (shlI .u64 p0 13)) (shrI .u64 (xorI .u64 p0 (shlI .u64 p0 13)) 7)) (shlI .u64 (xorI .u64 (xorI .u64 p0 (shlI .u64 p0 13)) (shrI .u64 (xorI .u64 p0 (shlI .u64 p0 13)) 7)) 17))])]) 0 hF hW rfl rfl rfl T82 rfl rfl rfl rfl rfl (fun w hW => ?_)
 refine ls_nil (c_then ?_)
 refine c_seq (reg_list ?_)
 refine ls hF hW rfl ((y_move hF rfl).q) (fun a w hF hW => ?_)
 refine ls hF hW rfl ((y_nilCheck hF rfl).q) (fun a w hF hW => ?_)
 refine ls hF hW rfl ((y_load (v := Value.int .u64 (xorI .u64 (xorI .u64 (xorI .u64 p0 (shlI .u64 p0 13)) (shrI .u64 (xorI .u64 p0 (shlI .u64 p0 13)) 7)) (shlI .u64 (xorI .u64 (xorI .u64 p0 (shlI .u64 p0 13)) (shrI .u64 (xorI .u64 p0 (shlI .u64 p0 13)) 7)) 17))) 0 hF rfl rfl T82 rfl).q) (fun a w hF hW => ?_)
 refine ls hF hW rfl ((y_assign hF rfl).q) (fun a w hF hW => ?_)
 refine ls_nil (c_then ?_)
 refine wp_ret ?_
 subst H
 refine post1 (.inl rfl) hF hW rfl (rv_tmp hF rfl) ?_
 exact ⟨(), rfl, hW⟩

theorem u82_ : type_of% Try.underlying82 := Try.underlying82
theorem H70 : Has Try.prog 70 := ⟨fun args w => run_callFunc_body Try.func70 rfl (by decide) args w⟩
noncomputable def slices_breakPatternsCmpFunc_float64_l1 (p1 : Int) (p2 : Int) (x1 : Int) : (List Nat × Int × Int) → Option ((List Nat × Int × Int) ⊕ (List Nat))
  | (x2, x3, x4) => (if x3 ≤ (w64 ((w64 (p1 + (w64 ((w64 (Int.tdiv (w64 (p2 - p1)) 4)) * 2)))) + 1)) then (if (w64 (p2 - p1)) ≤ (w64 (andI .u64 ((slices_xorshift_Next x4).1) (IntKind.u64.wrap (x1 - 1)))) then some (w64 ((w64 (andI .u64 ((slices_xorshift_Next x4).1) (IntKind.u64.wrap (x1 - 1)))) - (w64 (p2 - p1)))) else some (w64 (andI .u64 ((slices_xorshift_Next x4).1) (IntKind.u64.wrap (x1 - 1))))).bind fun x5 => (ix x2 (w64 (p1 + x5))).bind fun x6 => (ix x2 x3).bind fun x7 => (ix x2 x3).bind fun x8 => (ix (setAt x2 x3 x6) (w64 (p1 + x5))).bind fun x9 => some (.inl ((setAt (setAt x2 x3 x6) (w64 (p1 + x5)) x7), w64 (x3 + 1), (slices_xorshift_Next x4).2)) else some (.inr x2))
noncomputable def slices_breakPatternsCmpFunc_float64 (p0 : List Nat) (p1 : Int) (p2 : Int) : Option (List Nat) := (if 8 ≤ (w64 (p2 - p1)) then (slices_nextPowerOfTwo (w64 (p2 - p1))).bind fun x1 => loopW (slices_breakPatternsCmpFunc_float64_l1 p1 p2 x1) (p0, w64 ((w64 (p1 + (w64 ((w64 (Int.tdiv (w64 (p2 - p1)) 4)) * 2)))) - 1), IntKind.u64.wrap (w64 (p2 - p1))) else some p0)
theorem slices_breakPatternsCmpFunc_float64_c (Y : Nat → Prop) (X : List Nat) (w0 : World) (v1 : Value) (p0 : List Nat) (p1 : Int) (p2 : Int) (r : List Nat) (H : slices_breakPatternsCmpFunc_float64 p0 p1 p2 = some r) (hL : Stw ⟨Y, X, w0⟩ [] [row v1 25 (Rp.flt .f64) p0] w0) :
    Calls Try.prog 60 #[v1, .int .i64 p1, .int .i64 p2, .func (.func 24) #[] #[]] w0 fun e w' => ∃ x : Unit, e = .returned (.tuple #[]) ∧ Stw ⟨Y, X, w0⟩ [] [row v1 25 (Rp.flt .f64) r] w' := by
 refine enter Try.func60 rfl Try.ntmps60 rfl (fun a hF => ?_)
 have hW := hL
 unfold slices_breakPatternsCmpFunc_float64 at H
 refine c_seq (reg_list ?_)
 iterate 2 refine ls hF hW rfl ((y_move hF rfl).q) (fun a w hF hW => ?_)
 refine ls hF hW rfl ((y_sub hF rfl rfl rfl).q) (fun a w hF hW => ?_)
 refine ls hF hW rfl ((y_assign hF rfl).q) (fun a w hF hW => ?_)
 refine ls_nil (c_then ?_)
 refine c_seq (reg_list ?_)
 refine ls hF hW rfl ((y_move hF rfl).q) (fun a w hF hW => ?_)
 refine ls hF hW rfl ((y_geq hF rfl rfl).q) (fun a w hF hW => ?_)
 refine ls_nil (c_then ?_)
 refine c_cond hF rfl (fun hb => ?_) (fun hb => ?_)
 ·
  have H := iteT (of_decide_eq_true hb) H
  rw [hb] at hF
  clear hb
  refine c_seq (reg_list ?_)
  refine ls hF hW rfl ((y_move hF rfl).q) (fun a w hF hW => ?_)
  refine ls hF hW rfl ((y_convI u3_ u82_ hF rfl).q) (fun a w hF hW => ?_)
  refine l_alloc (cs := [.int .u64 0]) hF hW rfl Z82 rfl (fun b1 a w hF hW => ?_)
  refine l_store (vs := [.int .u64 (IntKind.u64.wrap (w64 (p2 - p1)))]) (M' := [(b1, [.int .u64 (IntKind.u64.wrap (w64 (p2 - p1)))])]) 0 hF hW rfl rfl rfl T82 rfl rfl rfl rfl rfl (fun w hW => ?_)
  refine ls_nil (c_then ?_)
  refine c_seq (reg_list ?_)
  refine ls hF hW rfl ((y_move hF rfl).q) (fun a w hF hW => ?_)
  obtain ⟨x1, h1, H⟩ := bindE H
  refine ls hF hW rfl (y_call (v := Value.int .u64 x1) hF H69 rfl (fun w hW => slices_nextPowerOfTwo_c any w (w64 (p2 - p1)) _ h1)) (fun a w hF hW => ?_)
  refine ls hF hW rfl ((y_assign hF rfl).q) (fun a w hF hW => ?_)
  refine ls_nil (c_then ?_)
  refine c_seq (reg_list ?_)
  iterate 2 refine ls hF hW rfl ((y_move hF rfl).q) (fun a w hF hW => ?_)
  refine ls hF hW rfl ((y_quo hF rfl rfl (by decide) rfl).q) (fun a w hF hW => ?_)
  refine ls hF hW rfl ((y_mul hF rfl rfl rfl).q) (fun a w hF hW => ?_)
  refine ls hF hW rfl ((y_add hF rfl rfl rfl).q) (fun a w hF hW => ?_)
  refine ls hF hW rfl ((y_sub hF rfl rfl rfl).q) (fun a w hF hW => ?_)
  refine ls hF hW rfl ((y_assign hF rfl).q) (fun a w hF hW => ?_)
  refine ls_nil (c_then ?_)
  refine wp_block ?_
  refine c_loopW H (fun s a w => Fr 67 [] [(0, v1), (1, .int .i64 p1), (8, .int .i64 (w64 (p2 - p1))), (9, .pointer (some ⟨b1, 0, none⟩)), (10, .int .u64 x1), (11, .int .i64 s.2.1)] a ∧ Stw ⟨Y, X, w0⟩ [(b1, [.int .u64 s.2.2])] [row v1 25 (Rp.flt .f64) s.1] w) ⟨hF.re ⟨rfl, rfl, rfl, rfl, rfl, rfl, trivial⟩, hW⟩ (fun s o a w H L1 hR => ?_)
  obtain ⟨x2, x3, x4⟩ := s
  obtain ⟨hF, hW⟩ := hR
  have hF : Fr 67 [] [(0, v1), (1, .int .i64 p1), (8, .int .i64 (w64 (p2 - p1))), (9, .pointer (some ⟨b1, 0, none⟩)), (10, .int .u64 x1), (11, .int .i64 x3)] a := hF
  have hW : Stw ⟨Y, X, w0⟩ [(b1, [.int .u64 x4])] [row v1 25 (Rp.flt .f64) x2] w := hW
  rw [slices_breakPatternsCmpFunc_float64_l1] at H
  refine c_seq ?_
  refine c_seq (reg_list ?_)
  iterate 3 refine ls hF hW rfl ((y_move hF rfl).q) (fun a w hF hW => ?_)
  refine ls hF hW rfl ((y_quo hF rfl rfl (by decide) rfl).q) (fun a w hF hW => ?_)
  refine ls hF hW rfl ((y_mul hF rfl rfl rfl).q) (fun a w hF hW => ?_)
  iterate 2 refine ls hF hW rfl ((y_add hF rfl rfl rfl).q) (fun a w hF hW => ?_)
  refine ls hF hW rfl ((y_leq hF rfl rfl).q) (fun a w hF hW => ?_)
  refine ls_nil (c_then ?_)
  refine c_cond hF rfl (fun hb => ?_) (fun hb => ?_)
  ·
   have H := iteT (of_decide_eq_true hb) H
   rw [hb] at hF
   clear hb
   refine wp_skip ?_
   refine c_then ?_
   refine c_seq ?_
   refine wp_block ?_
   refine c_seq (reg_list ?_)
   refine l_callG (Ml := [(b1, [.int .u64 x4])]) (Zl := []) (M := []) (Z := [row v1 25 (Rp.flt .f64) x2]) (β := Unit) (rv := fun x => .int .u64 ((slices_xorshift_Next x4).1)) (MM := fun x => [(b1, [.int .u64 ((slices_xorshift_Next x4).2)])]) (ZZ := fun x => []) hF hW H70 rfl rfl (fun hL => slices_xorshift_Next_c _ _ w b1 x4 _ rfl hL) (fun x a w hF hW => ?_)
   have hW : Stw ⟨Y, X, w0⟩ [(b1, [.int .u64 ((slices_xorshift_Next x4).2)])] [row v1 25 (Rp.flt .f64) x2] w := hW
   refine ls hF hW rfl ((y_move hF rfl).q) (fun a w hF hW => ?_)
   refine ls hF hW rfl ((y_sub hF rfl rfl rfl).q) (fun a w hF hW => ?_)
   refine ls hF hW rfl ((y_and hF rfl rfl).q) (fun a w hF hW => ?_)
   refine ls hF hW rfl ((y_convI u71_ u3_ hF rfl).q) (fun a w hF hW => ?_)
   refine ls hF hW rfl ((y_assign hF rfl).q) (fun a w hF hW => ?_)
   refine ls_nil (c_then ?_)
   obtain ⟨o2, G2, K2⟩ := bindE H
   refine c_seqJ (fun a w => ∃ x5 : Int, some (x5) = some o2 ∧ Fr 67 [] [(0, v1), (1, .int .i64 p1), (8, .int .i64 (w64 (p2 - p1))), (9, .pointer (some ⟨b1, 0, none⟩)), (10, .int .u64 x1), (11, .int .i64 x3), (12, .int .i64 x5)] a ∧ Stw ⟨Y, X, w0⟩ [(b1, [.int .u64 ((slices_xorshift_Next x4).2)])] [row v1 25 (Rp.flt .f64) x2] w) ?_ ?_
   ·
    have H := G2
    clear G2 K2
    refine c_seq (reg_list ?_)
    iterate 2 refine ls hF hW rfl ((y_move hF rfl).q) (fun a w hF hW => ?_)
    refine ls hF hW rfl ((y_geq hF rfl rfl).q) (fun a w hF hW => ?_)
    refine ls_nil (c_then ?_)
    refine c_cond hF rfl (fun hb => ?_) (fun hb => ?_)
    ·
     have H := iteT (of_decide_eq_true hb) H
     rw [hb] at hF
     clear hb
     refine reg_list ?_
     iterate 2 refine ls hF hW rfl ((y_move hF rfl).q) (fun a w hF hW => ?_)
     refine ls hF hW rfl ((y_sub hF rfl rfl rfl).q) (fun a w hF hW => ?_)
     refine ls hF hW rfl ((y_assign hF rfl).q) (fun a w hF hW => ?_)
     refine ls_nil (c_then ?_)
     exact ⟨_, H, hF.re ⟨rfl, rfl, rfl, rfl, rfl, rfl, rfl, trivial⟩, hW⟩
    ·
     have H := iteF (of_decide_eq_false hb) H
     rw [hb] at hF
     clear hb
     refine wp_skip ?_
     refine c_then ?_
     exact ⟨_, H, hF.re ⟨rfl, rfl, rfl, rfl, rfl, rfl, rfl, trivial⟩, hW⟩
   rintro a w ⟨x5, hj, hF, hW⟩
   have hj := Option.some.inj hj
   subst hj
   have H := K2
   clear G2 K2
   refine reg_plan [(true, 0), (true, 1), (true, 2), (true, 3), (true, 4), (true, 5), (true, 6), (true, 7), (true, 8), (true, 9), (true, 10), (true, 11), (true, 12), (true, 13), (true, 14), (true, 15), (true, 16), (false, 17), (true, 18), (false, 19)] (CN ⟨Y, X, w0⟩ [] [(some 17, row v1 25 (Rp.flt .f64) x2)]) (fun ch a d v w h => by cases d <;> exact h) MO (by kernel_rfl) hW (fun w hW => ⟨_, _, hW, all_nil, (all_cons (fun _ => (.head _)) all_nil)⟩) (fun w hW => ?_)
   iterate 5 refine pl_t (R := []) hF rfl rfl (yC fun M Z hN hZ => y_move hF rfl) rfl rfl (fun a hF => ?_)
   refine pl_t (R := []) hF rfl rfl (yC fun M Z hN hZ => y_add hF rfl rfl rfl) rfl rfl (fun a hF => ?_)
   iterate 3 refine pl_t (R := []) hF rfl rfl (yC fun M Z hN hZ => y_move hF rfl) rfl rfl (fun a hF => ?_)
   refine pl_t (R := []) hF rfl rfl (yC fun M Z hN hZ => y_add hF rfl rfl rfl) rfl rfl (fun a hF => ?_)
   obtain ⟨x6, h2, H⟩ := bindE H
   refine pl_t (R := []) hF rfl rfl (yC fun M Z hN hZ => y_indexV (r := (Rp.flt .f64)) L34 hF rfl rfl (vs_of hW (rdc_row 0 rfl)) h2) rfl rfl (fun a hF => ?_)
   refine pl_t (R := [17]) hF rfl rfl (yC fun M Z hN hZ => y_load_el (y := Value.float .f64 x6) (j := 0) (i := w64 (p1 + x5)) hF rfl rfl (rdc_mrow (hZ ((some 17), row v1 25 (Rp.flt .f64) x2) (.head _) rfl)) h2 Fl.flt.to T25 rfl) (by kernel_rfl) rfl (fun a hF => ?_)
   iterate 2 refine pl_t (R := []) hF rfl rfl (yC fun M Z hN hZ => y_move hF rfl) rfl rfl (fun a hF => ?_)
   obtain ⟨x7, h3, H⟩ := bindE H
   refine pl_t (R := []) hF rfl rfl (yC fun M Z hN hZ => y_indexV (r := (Rp.flt .f64)) L34 hF rfl rfl (vs_of hW (rdc_row 0 rfl)) h3) rfl rfl (fun a hF => ?_)
   refine pl_t (R := [17]) hF rfl rfl (yC fun M Z hN hZ => y_load_el (y := Value.float .f64 x7) (j := 0) (i := x3) hF rfl rfl (rdc_mrow (hZ ((some 17), row v1 25 (Rp.flt .f64) x2) (.head _) rfl)) h3 Fl.flt.to T25 rfl) (by kernel_rfl) rfl (fun a hF => ?_)
   obtain ⟨x8, h4, H⟩ := bindE H
   refine pl_t (R := []) hF rfl rfl (yC fun M Z hN hZ => y_indexV (r := (Rp.flt .f64)) L34 hF rfl rfl (vs_of hW (rdc_row 0 rfl)) h4) rfl rfl (fun a hF => ?_)
   refine pl_f rfl ?_
   refine l_store_el (i := x3) (j := 0) (vs := [.float .f64 x6]) (x' := x6) hF hW rfl rfl rfl (k := 0) rfl rfl h4 T25 rfl rfl rfl rfl (fun A cs _ => Fl.flt.sto (by rfl) _ _ _) (fun w hW => ?_)
   refine pl_next (N2 := []) (NZ2 := []) (N3 := []) (NZ3 := [(some 17, row v1 25 (Rp.flt .f64) x2)]) hW rfl rfl all_nil (all_cons (fun h => rel_dead (by kernel_rfl) h) all_nil) ?_
   obtain ⟨x9, h5, H⟩ := bindE H
   refine pl_t (R := []) hF rfl rfl (yC fun M Z hN hZ => y_indexV (r := (Rp.flt .f64)) L34 hF rfl rfl (vs_of hW (rdc_row 0 rfl)) h5) rfl rfl (fun a hF => ?_)
   refine pl_f rfl ?_
   refine l_store_el (i := w64 (p1 + x5)) (j := 0) (vs := [.float .f64 x7]) (x' := x7) hF hW rfl rfl rfl (k := 0) rfl rfl h5 T25 rfl rfl rfl rfl (fun A cs _ => Fl.flt.sto (by rfl) _ _ _) (fun w hW => ?_)
   refine pl_next (N2 := []) (NZ2 := []) (N3 := []) (NZ3 := [(some 17, row v1 25 (Rp.flt .f64) x2)]) hW rfl rfl all_nil (all_cons (fun h => rel_dead (by kernel_rfl) h) all_nil) ?_
   refine pl_end ?_
   refine b_normal ?_
   refine c_then ?_
   refine reg_list ?_
   refine ls hF hW rfl ((y_move hF rfl).q) (fun a w hF hW => ?_)
   refine ls hF hW rfl ((y_add hF rfl rfl rfl).q) (fun a w hF hW => ?_)
   refine ls hF hW rfl ((y_assign hF rfl).q) (fun a w hF hW => ?_)
   refine ls_nil (c_then ?_)
   exact ⟨_, H, hF.re ⟨rfl, rfl, rfl, rfl, rfl, rfl, trivial⟩, hW⟩
  ·
   have H := iteF (of_decide_eq_false hb) H
   rw [hb] at hF
   clear hb
   refine wp_exit ?_
   iterate 2 refine e_then ?_
   refine e_block ?_
   have H := L1 _ H
   have H := Option.some.inj H
   subst H
   refine post0 (.inr rfl) hF rfl ?_
   have hW := hW.sub (M' := []) (Z' := [row v1 25 (Rp.flt .f64) x2]) (List.nil_sublist _) (List.Sublist.refl _)
   exact ⟨(), rfl, hW⟩
 ·
  have H := iteF (of_decide_eq_false hb) H
  rw [hb] at hF
  clear hb
  refine wp_skip ?_
  have H := Option.some.inj H
  subst H
  refine post0 (.inr rfl) hF rfl ?_
  exact ⟨(), rfl, hW⟩

theorem H60 : Has Try.prog 60 := ⟨fun args w => run_callFunc_body Try.func60 rfl (by decide) args w⟩
noncomputable def slices_pdqsortCmpFunc_float64_l1 (fRec : (List Nat) → Int → Int → Int → Option (List Nat)) : (List Nat × Int × Int × Int × Bool × Bool) → Option ((List Nat × Int × Int × Int × Bool × Bool) ⊕ (List Nat))
  | (x1, x2, x3, x4, x5, x6) => (if (w64 (x3 - x2)) ≤ 12 then (slices_insertionSortCmpFunc_float64 x1 x2 x3).bind fun x7 => some (.inr x7) else (if x4 = 0 then (slices_heapSortCmpFunc_float64 x1 x2 x3).bind fun x8 => some (.inr x8) else (if (!x5) = true then (slices_breakPatternsCmpFunc_float64 x1 x2 x3).bind fun x11 => some (x11, w64 (x4 - 1)) else some (x1, x4)).bind fun (x9, x10) => (slices_choosePivotCmpFunc_float64 x9 x2 x3).bind fun x12 => (if x12.2 = 2 then (slices_reverseRangeCmpFunc_float64 x9 x2 x3).bind fun x16 => some (x16, w64 ((w64 (x3 - 1)) - (w64 (x12.1 - x2))), 1) else some (x9, x12.1, x12.2)).bind fun (x13, x14, x15) => orR (if (x5 && (x6 && decide (x15 = 1))) = true then (slices_partialInsertionSortCmpFunc_float64 x13 x2 x3).bind fun x18 => (if x18.1 = true then some (.inr (.inr x18.2)) else some (.inl x18.2)) else some (.inl x13)) fun x17 => (if 0 < x2 then (ix x17 (w64 (x2 - 1))).bind fun x20 => (ix x17 x14).bind fun x21 => (float_Compare x20 x21).bind fun x22 => some (!(decide (x22 < 0))) else some false).bind fun x19 => (if x19 = true then (slices_partitionEqualCmpFunc_float64 x17 x2 x3 x14).bind fun x23 => some (.inl (x23.2, x23.1, x3, x10, (x5 && (x6 || true)), (bif x5 then x6 else x6))) else (slices_partitionCmpFunc_float64 x17 x2 x3 x14).bind fun x24 => (if (w64 (x24.1 - x2)) < (w64 (x3 - x24.1)) then (fRec x24.2.2 x2 x24.1 x10).bind fun x25 => some (.inl (x25, w64 (x24.1 + 1), x3, x10, decide ((w64 (Int.tdiv (w64 (x3 - x2)) 8)) ≤ (w64 (x24.1 - x2))), x24.2.1)) else (fRec x24.2.2 (w64 (x24.1 + 1)) x3 x10).bind fun x26 => some (.inl (x26, x2, x24.1, x10, decide ((w64 (Int.tdiv (w64 (x3 - x2)) 8)) ≤ (w64 (x3 - x24.1))), x24.2.1))))))
noncomputable def slices_pdqsortCmpFunc_float64_st (fRec : (List Nat) → Int → Int → Int → Option (List Nat)) (p0 : List Nat) (p1 : Int) (p2 : Int) (p3 : Int) : Option (List Nat) := loopW (slices_pdqsortCmpFunc_float64_l1 fRec) (p0, p1, p2, p3, true, true)
noncomputable def slices_pdqsortCmpFunc_float64_n : Nat → (List Nat) → Int → Int → Int → Option (List Nat)
  | 0 => fun _ _ _ _ => none
  | n + 1 => slices_pdqsortCmpFunc_float64_st (slices_pdqsortCmpFunc_float64_n n)
noncomputable def slices_pdqsortCmpFunc_float64 (p0 : List Nat) (p1 : Int) (p2 : Int) (p3 : Int) : Option (List Nat) := limF fun n => slices_pdqsortCmpFunc_float64_n n p0 p1 p2 p3
theorem slices_pdqsortCmpFunc_float64_stc (fRec : (List Nat) → Int → Int → Int → Option (List Nat)) (ih : ∀ (Y : Nat → Prop) (X : List Nat) (w0 : World) (v1 : Value) (p0 : List Nat) (p1 : Int) (p2 : Int) (p3 : Int) (r : List Nat) (H : fRec p0 p1 p2 p3 = some r) (hL : Stw ⟨Y, X, w0⟩ [] [row v1 25 (Rp.flt .f64) p0] w0), Calls Try.prog 55 #[v1, .int .i64 p1, .int .i64 p2, .int .i64 p3, .func (.func 24) #[] #[]] w0 fun e w' => ∃ x : Unit, e = .returned (.tuple #[]) ∧ Stw ⟨Y, X, w0⟩ [] [row v1 25 (Rp.flt .f64) r] w') (Y : Nat → Prop) (X : List Nat) (w0 : World) (v1 : Value) (p0 : List Nat) (p1 : Int) (p2 : Int) (p3 : Int) (r : List Nat) (H : slices_pdqsortCmpFunc_float64_st fRec p0 p1 p2 p3 = some r) (hL : Stw ⟨Y, X, w0⟩ [] [row v1 25 (Rp.flt .f64) p0] w0) :
    Calls Try.prog 55 #[v1, .int .i64 p1, .int .i64 p2, .int .i64 p3, .func (.func 24) #[] #[]] w0 fun e w' => ∃ x : Unit, e = .returned (.tuple #[]) ∧ Stw ⟨Y, X, w0⟩ [] [row v1 25 (Rp.flt .f64) r] w' := by
 refine enter Try.func55 rfl Try.ntmps55 rfl (fun a hF => ?_)
 have hW := hL
 unfold slices_pdqsortCmpFunc_float64_st at H
 refine c_seq (reg_list ?_)
 refine ls hF hW rfl ((y_assign hF rfl).q) (fun a w hF hW => ?_)
 refine ls_nil (c_then ?_)
 refine c_seq (reg_list ?_)
 refine ls hF hW rfl ((y_assign hF rfl).q) (fun a w hF hW => ?_)
 refine ls_nil (c_then ?_)
 refine wp_block ?_
 refine c_loopW H (fun s a w => Fr 148 [] [(0, v1), (1, .int .i64 s.2.1), (2, .int .i64 s.2.2.1), (3, .int .i64 s.2.2.2.1), (4, .func (.func 24) #[] #[]), (10, .bool s.2.2.2.2.1), (11, .bool s.2.2.2.2.2)] a ∧ Stw ⟨Y, X, w0⟩ [] [row v1 25 (Rp.flt .f64) s.1] w) ⟨hF.re ⟨rfl, rfl, rfl, rfl, rfl, rfl, rfl, trivial⟩, hW⟩ (fun s o a w H L1 hR => ?_)
 obtain ⟨x1, x2, x3, x4, x5, x6⟩ := s
 obtain ⟨hF, hW⟩ := hR
 have hF : Fr 148 [] [(0, v1), (1, .int .i64 x2), (2, .int .i64 x3), (3, .int .i64 x4), (4, .func (.func 24) #[] #[]), (10, .bool x5), (11, .bool x6)] a := hF
 have hW : Stw ⟨Y, X, w0⟩ [] [row v1 25 (Rp.flt .f64) x1] w := hW
 rw [slices_pdqsortCmpFunc_float64_l1] at H
 refine wp_block ?_
 refine c_seq (reg_list ?_)
 iterate 2 refine ls hF hW rfl ((y_move hF rfl).q) (fun a w hF hW => ?_)
 refine ls hF hW rfl ((y_sub hF rfl rfl rfl).q) (fun a w hF hW => ?_)
 refine ls hF hW rfl ((y_assign hF rfl).q) (fun a w hF hW => ?_)
 refine ls_nil (c_then ?_)
 refine c_seq ?_
 refine c_seq (reg_list ?_)
 refine ls hF hW rfl ((y_move hF rfl).q) (fun a w hF hW => ?_)
 refine ls hF hW rfl ((y_leq hF rfl rfl).q) (fun a w hF hW => ?_)
 refine ls_nil (c_then ?_)
 refine c_cond hF rfl (fun hb => ?_) (fun hb => ?_)
 ·
  have H := iteT (of_decide_eq_true hb) H
  rw [hb] at hF
  clear hb
  refine c_seq (reg_list ?_)
  iterate 4 refine ls hF hW rfl ((y_move hF rfl).q) (fun a w hF hW => ?_)
  obtain ⟨x7, h1, H⟩ := bindE H
  refine l_callG (Ml := []) (Zl := [row v1 25 (Rp.flt .f64) x1]) (M := []) (Z := []) (β := Unit) (rv := fun x => .tuple #[]) (MM := fun x => []) (ZZ := fun x => [row v1 25 (Rp.flt .f64) x7]) hF hW H58 rfl rfl (fun hL => slices_insertionSortCmpFunc_float64_c _ _ w (v1) x1 x2 x3 _ h1 hL) (fun x a w hF hW => ?_)
  have hW : Stw ⟨Y, X, w0⟩ [] [row v1 25 (Rp.flt .f64) x7] w := hW
  refine ls_nil (c_then ?_)
  refine wp_ret ?_
  refine r_then ?_
  refine r_block ?_
  refine r_then ?_
  refine r_block ?_
  have H := L1 _ H
  have H := Option.some.inj H
  subst H
  refine post0 (.inl rfl) hF rfl ?_
  exact ⟨(), rfl, hW⟩
 ·
  have H := iteF (of_decide_eq_false hb) H
  rw [hb] at hF
  clear hb
  refine wp_skip ?_
  refine c_then ?_
  refine c_seq ?_
  refine c_seq (reg_list ?_)
  refine ls hF hW rfl ((y_move hF rfl).q) (fun a w hF hW => ?_)
  refine ls hF hW rfl ((y_eql hF rfl rfl).q) (fun a w hF hW => ?_)
  refine ls_nil (c_then ?_)
  refine c_cond hF rfl (fun hb => ?_) (fun hb => ?_)
  ·
   have H := iteT (of_decide_eq_true hb) H
   rw [hb] at hF
   clear hb
   refine c_seq (reg_list ?_)
   iterate 4 refine ls hF hW rfl ((y_move hF rfl).q) (fun a w hF hW => ?_)
   obtain ⟨x8, h2, H⟩ := bindE H
   refine l_callG (Ml := []) (Zl := [row v1 25 (Rp.flt .f64) x1]) (M := []) (Z := []) (β := Unit) (rv := fun x => .tuple #[]) (MM := fun x => []) (ZZ := fun x => [row v1 25 (Rp.flt .f64) x8]) hF hW H59 rfl rfl (fun hL => slices_heapSortCmpFunc_float64_c _ _ w (v1) x1 x2 x3 _ h2 hL) (fun x a w hF hW => ?_)
   have hW : Stw ⟨Y, X, w0⟩ [] [row v1 25 (Rp.flt .f64) x8] w := hW
   refine ls_nil (c_then ?_)
   refine wp_ret ?_
   refine r_then ?_
   refine r_block ?_
   refine r_then ?_
   refine r_block ?_
   have H := L1 _ H
   have H := Option.some.inj H
   subst H
   refine post0 (.inl rfl) hF rfl ?_
   exact ⟨(), rfl, hW⟩
  ·
   have H := iteF (of_decide_eq_false hb) H
   rw [hb] at hF
   clear hb
   refine wp_skip ?_
   refine c_then ?_
   obtain ⟨o2, G2, K2⟩ := bindE H
   refine c_seqJ (fun a w => ∃ x9 : List Nat, ∃ x10 : Int, some ((x9, x10)) = some o2 ∧ Fr 148 [] [(0, v1), (1, .int .i64 x2), (2, .int .i64 x3), (3, .int .i64 x10), (4, .func (.func 24) #[] #[]), (10, .bool x5), (11, .bool x6), (12, .int .i64 (w64 (x3 - x2)))] a ∧ Stw ⟨Y, X, w0⟩ [] [row v1 25 (Rp.flt .f64) x9] w) ?_ ?_
   ·
    have H := G2
    clear G2 K2
    refine c_seq (reg_list ?_)
    refine ls hF hW rfl ((y_move hF rfl).q) (fun a w hF hW => ?_)
    refine ls hF hW rfl ((y_not hF rfl).q) (fun a w hF hW => ?_)
    refine ls_nil (c_then ?_)
    refine c_cond hF rfl (fun hb => ?_) (fun hb => ?_)
    ·
     have H := iteT hb H
     rw [hb] at hF
     clear hb
     refine c_seq (reg_list ?_)
     iterate 4 refine ls hF hW rfl ((y_move hF rfl).q) (fun a w hF hW => ?_)
     obtain ⟨x11, h3, H⟩ := bindE H
     refine l_callG (Ml := []) (Zl := [row v1 25 (Rp.flt .f64) x1]) (M := []) (Z := []) (β := Unit) (rv := fun x => .tuple #[]) (MM := fun x => []) (ZZ := fun x => [row v1 25 (Rp.flt .f64) x11]) hF hW H60 rfl rfl (fun hL => slices_breakPatternsCmpFunc_float64_c _ _ w (v1) x1 x2 x3 _ h3 hL) (fun x a w hF hW => ?_)
     have hW : Stw ⟨Y, X, w0⟩ [] [row v1 25 (Rp.flt .f64) x11] w := hW
     refine ls_nil (c_then ?_)
     refine reg_list ?_
     refine ls hF hW rfl ((y_move hF rfl).q) (fun a w hF hW => ?_)
     refine ls hF hW rfl ((y_sub hF rfl rfl rfl).q) (fun a w hF hW => ?_)
     refine ls hF hW rfl ((y_assign hF rfl).q) (fun a w hF hW => ?_)
     refine ls_nil (c_then ?_)
     exact ⟨_, _, H, hF.re ⟨rfl, rfl, rfl, rfl, rfl, rfl, rfl, rfl, trivial⟩, hW⟩
    ·
     have H := iteF (by rw [hb]; decide) H
     rw [hb] at hF
     clear hb
     refine wp_skip ?_
     refine c_then ?_
     exact ⟨_, _, H, hF.re ⟨rfl, rfl, rfl, rfl, rfl, rfl, rfl, rfl, trivial⟩, hW⟩
   rintro a w ⟨x9, x10, hj, hF, hW⟩
   have hj := Option.some.inj hj
   subst hj
   have H := K2
   clear G2 K2
   refine c_seq (reg_list ?_)
   iterate 4 refine ls hF hW rfl ((y_move hF rfl).q) (fun a w hF hW => ?_)
   obtain ⟨x12, h4, H⟩ := bindE H
   refine ls hF hW rfl (y_call (v := Value.tuple #[.int .i64 x12.1, .int .i64 x12.2]) hF H61 rfl (fun w hW => slices_choosePivotCmpFunc_float64_c any w (v1) x9 x2 x3 _ h4 (((rdc_row 0 rfl) : Rdc _ _ _ _ _ _) w hW).nx)) (fun a w hF hW => ?_)
   refine ls hF hW rfl ((y_move hF rfl).q) (fun a w hF hW => ?_)
   refine ls hF hW rfl ((y_extract (v := Value.int .i64 x12.1) hF rfl rfl).q) (fun a w hF hW => ?_)
   refine ls hF hW rfl ((y_extract (v := Value.int .i64 x12.2) hF rfl rfl).q) (fun a w hF hW => ?_)
   iterate 2 refine ls hF hW rfl ((y_assign hF rfl).q) (fun a w hF hW => ?_)
   refine ls_nil (c_then ?_)
   obtain ⟨o3, G3, K3⟩ := bindE H
   refine c_seqJ (fun a w => ∃ x13 : List Nat, ∃ x14 : Int, ∃ x15 : Int, some ((x13, x14, x15)) = some o3 ∧ Fr 148 [] [(0, v1), (1, .int .i64 x2), (2, .int .i64 x3), (3, .int .i64 x10), (4, .func (.func 24) #[] #[]), (10, .bool x5), (11, .bool x6), (12, .int .i64 (w64 (x3 - x2))), (13, .int .i64 x14), (14, .int .i64 x15)] a ∧ Stw ⟨Y, X, w0⟩ [] [row v1 25 (Rp.flt .f64) x13] w) ?_ ?_
   ·
    have H := G3
    clear G3 K3
    refine c_seq (reg_list ?_)
    refine ls hF hW rfl ((y_move hF rfl).q) (fun a w hF hW => ?_)
    refine ls hF hW rfl ((y_eql hF rfl rfl).q) (fun a w hF hW => ?_)
    refine ls_nil (c_then ?_)
    refine c_cond hF rfl (fun hb => ?_) (fun hb => ?_)
    ·
     have H := iteT (of_decide_eq_true hb) H
     rw [hb] at hF
     clear hb
     refine c_seq (reg_list ?_)
     iterate 4 refine ls hF hW rfl ((y_move hF rfl).q) (fun a w hF hW => ?_)
     obtain ⟨x16, h5, H⟩ := bindE H
     refine l_callG (Ml := []) (Zl := [row v1 25 (Rp.flt .f64) x9]) (M := []) (Z := []) (β := Unit) (rv := fun x => .tuple #[]) (MM := fun x => []) (ZZ := fun x => [row v1 25 (Rp.flt .f64) x16]) hF hW H62 rfl rfl (fun hL => slices_reverseRangeCmpFunc_float64_c _ _ w (v1) x9 x2 x3 _ h5 hL) (fun x a w hF hW => ?_)
     have hW : Stw ⟨Y, X, w0⟩ [] [row v1 25 (Rp.flt .f64) x16] w := hW
     refine ls_nil (c_then ?_)
     refine c_seq (reg_list ?_)
     refine ls hF hW rfl ((y_move hF rfl).q) (fun a w hF hW => ?_)
     refine ls hF hW rfl ((y_sub hF rfl rfl rfl).q) (fun a w hF hW => ?_)
     iterate 2 refine ls hF hW rfl ((y_move hF rfl).q) (fun a w hF hW => ?_)
     iterate 2 refine ls hF hW rfl ((y_sub hF rfl rfl rfl).q) (fun a w hF hW => ?_)
     refine ls hF hW rfl ((y_assign hF rfl).q) (fun a w hF hW => ?_)
     refine ls_nil (c_then ?_)
     refine reg_list ?_
     refine ls hF hW rfl ((y_assign hF rfl).q) (fun a w hF hW => ?_)
     refine ls_nil (c_then ?_)
     exact ⟨_, _, _, H, hF.re ⟨rfl, rfl, rfl, rfl, rfl, rfl, rfl, rfl, rfl, rfl, trivial⟩, hW⟩
    ·
     have H := iteF (of_decide_eq_false hb) H
     rw [hb] at hF
     clear hb
     refine wp_skip ?_
     refine c_then ?_
     exact ⟨_, _, _, H, hF.re ⟨rfl, rfl, rfl, rfl, rfl, rfl, rfl, rfl, rfl, rfl, trivial⟩, hW⟩
   rintro a w ⟨x13, x14, x15, hj, hF, hW⟩
   have hj := Option.some.inj hj
   subst hj
   have H := K3
   clear G3 K3
   obtain ⟨o4, G4, K4, L4⟩ := orE H
   refine c_seqJ (fun a w => ∃ x17 : List Nat, some (Sum.inl x17) = some o4 ∧ Fr 148 [] [(0, v1), (1, .int .i64 x2), (2, .int .i64 x3), (3, .int .i64 x10), (4, .func (.func 24) #[] #[]), (10, .bool (x5 && (x6 || true))), (11, .bool (bif x5 then x6 else x6)), (12, .int .i64 (w64 (x3 - x2))), (13, .int .i64 x14)] a ∧ Stw ⟨Y, X, w0⟩ [] [row v1 25 (Rp.flt .f64) x17] w) ?_ ?_
   ·
    have H := G4
    clear G4 K4
    refine c_seqJ (fun a w => Fr 148 [] [(0, v1), (1, .int .i64 x2), (2, .int .i64 x3), (3, .int .i64 x10), (4, .func (.func 24) #[] #[]), (10, .bool (x5 && (x6 || true))), (11, .bool (bif x5 then x6 else x6)), (12, .int .i64 (w64 (x3 - x2))), (13, .int .i64 x14), (75, .bool (x5 && (x6 && decide (x15 = 1))))] a ∧ Stw ⟨Y, X, w0⟩ [] [row v1 25 (Rp.flt .f64) x13] w) ?_ ?_
    ·
     refine reg_list ?_
     iterate 2 refine ls hF hW rfl ((y_move hF rfl).q) (fun a w hF hW => ?_)
     rcases Bool.eq_false_or_eq_true x5 with hb0 | hb0
     ·
      rw [hb0] at hF
      refine ls_w hF hW (wanted_y hF rfl rfl rfl rfl) rfl (Nat.le_of_ble_eq_true rfl) ((y_move hF rfl).q) (fun a w hF hW => ?_)
      refine ls hF hW rfl ((y_pick_t hF rfl rfl rfl).q) (fun a w hF hW => ?_)
      refine ls hF hW rfl ((y_move hF rfl).q) (fun a w hF hW => ?_)
      rcases Bool.eq_false_or_eq_true x6 with hb1 | hb1
      ·
       rw [hb1] at hF
       refine ls_w hF hW (wanted_y hF rfl rfl rfl rfl) rfl (Nat.le_of_ble_eq_true rfl) ((y_move hF rfl).q) (fun a w hF hW => ?_)
       refine ls_w hF hW (wanted_y hF rfl rfl rfl rfl) rfl (Nat.le_of_ble_eq_true rfl) ((y_eql hF rfl rfl).q) (fun a w hF hW => ?_)
       refine ls hF hW rfl ((y_pick_t hF rfl rfl rfl).q) (fun a w hF hW => ?_)
       refine ls_nil (c_then ?_)
       exact ⟨hF.re ⟨rfl, rfl, rfl, rfl, rfl, (by show some (Value.bool true) = some (Value.bool (x5 && (x6 || true))); try rw [hb0]; try rw [hb1]; all_goals simp only [Bool.not_true, Bool.not_false, Bool.true_and, Bool.false_and, Bool.true_or, Bool.false_or, Bool.and_true, Bool.or_false, cond_true, cond_false]), (by show some (Value.bool true) = some (Value.bool (bif x5 then x6 else x6)); try rw [hb0]; try rw [hb1]; all_goals simp only [Bool.not_true, Bool.not_false, Bool.true_and, Bool.false_and, Bool.true_or, Bool.false_or, Bool.and_true, Bool.or_false, cond_true, cond_false]), rfl, rfl, (by show some (Value.bool (decide (x15 = 1))) = some (Value.bool (x5 && (x6 && decide (x15 = 1)))); try rw [hb0]; try rw [hb1]; all_goals simp only [Bool.not_true, Bool.not_false, Bool.true_and, Bool.false_and, Bool.true_or, Bool.false_or, Bool.and_true, Bool.or_false, cond_true, cond_false]), trivial⟩, hW⟩
      ·
       rw [hb1] at hF
       iterate 2 refine lsn hF rfl rfl rfl rfl rfl rfl rfl (fun a hF => ?_)
       refine ls hF hW rfl ((y_pick_f hF rfl rfl rfl).q) (fun a w hF hW => ?_)
       refine ls_nil (c_then ?_)
       exact ⟨hF.re ⟨rfl, rfl, rfl, rfl, rfl, (by show some (Value.bool true) = some (Value.bool (x5 && (x6 || true))); try rw [hb0]; try rw [hb1]; all_goals simp only [Bool.not_true, Bool.not_false, Bool.true_and, Bool.false_and, Bool.true_or, Bool.false_or, Bool.and_true, Bool.or_false, cond_true, cond_false]), (by show some (Value.bool false) = some (Value.bool (bif x5 then x6 else x6)); try rw [hb0]; try rw [hb1]; all_goals simp only [Bool.not_true, Bool.not_false, Bool.true_and, Bool.false_and, Bool.true_or, Bool.false_or, Bool.and_true, Bool.or_false, cond_true, cond_false]), rfl, rfl, (by show some (Value.bool false) = some (Value.bool (x5 && (x6 && decide (x15 = 1)))); try rw [hb0]; try rw [hb1]; all_goals simp only [Bool.not_true, Bool.not_false, Bool.true_and, Bool.false_and, Bool.true_or, Bool.false_or, Bool.and_true, Bool.or_false, cond_true, cond_false]), trivial⟩, hW⟩
     ·
      rw [hb0] at hF
      refine lsn hF rfl rfl rfl rfl rfl rfl rfl (fun a hF => ?_)
      refine ls hF hW rfl ((y_pick_f hF rfl rfl rfl).q) (fun a w hF hW => ?_)
      refine ls hF hW rfl ((y_move hF rfl).q) (fun a w hF hW => ?_)
      iterate 2 refine lsn hF rfl rfl rfl rfl rfl rfl rfl (fun a hF => ?_)
      refine ls hF hW rfl ((y_pick_f hF rfl rfl rfl).q) (fun a w hF hW => ?_)
      refine ls_nil (c_then ?_)
      exact ⟨hF.re ⟨rfl, rfl, rfl, rfl, rfl, (by show some (Value.bool false) = some (Value.bool (x5 && (x6 || true))); try rw [hb0]; all_goals simp only [Bool.not_true, Bool.not_false, Bool.true_and, Bool.false_and, Bool.true_or, Bool.false_or, Bool.and_true, Bool.or_false, cond_true, cond_false]), (by show some (Value.bool x6) = some (Value.bool (bif x5 then x6 else x6)); try rw [hb0]; all_goals simp only [Bool.not_true, Bool.not_false, Bool.true_and, Bool.false_and, Bool.true_or, Bool.false_or, Bool.and_true, Bool.or_false, cond_true, cond_false]), rfl, rfl, (by show some (Value.bool false) = some (Value.bool (x5 && (x6 && decide (x15 = 1)))); try rw [hb0]; all_goals simp only [Bool.not_true, Bool.not_false, Bool.true_and, Bool.false_and, Bool.true_or, Bool.false_or, Bool.and_true, Bool.or_false, cond_true, cond_false]), trivial⟩, hW⟩
    rintro a w ⟨hF, hW⟩
    refine c_cond hF rfl (fun hb => ?_) (fun hb => ?_)
    ·
     have H := iteT hb H
     rw [hb] at hF
     clear hb
     refine c_seq (reg_list ?_)
     iterate 4 refine ls hF hW rfl ((y_move hF rfl).q) (fun a w hF hW => ?_)
     obtain ⟨x18, h6, H⟩ := bindE H
     refine l_callG (Ml := []) (Zl := [row v1 25 (Rp.flt .f64) x13]) (M := []) (Z := []) (β := Unit) (rv := fun x => .bool x18.1) (MM := fun x => []) (ZZ := fun x => [row v1 25 (Rp.flt .f64) x18.2]) hF hW H63 rfl rfl (fun hL => slices_partialInsertionSortCmpFunc_float64_c _ _ w (v1) x13 x2 x3 _ h6 hL) (fun x a w hF hW => ?_)
     have hW : Stw ⟨Y, X, w0⟩ [] [row v1 25 (Rp.flt .f64) x18.2] w := hW
     refine ls_nil (c_then ?_)
     refine c_cond hF rfl (fun hb => ?_) (fun hb => ?_)
     ·
      have H := iteT hb H
      rw [hb] at hF
      clear hb
      refine wp_ret ?_
      refine r_then ?_
      refine r_block ?_
      refine r_then ?_
      refine r_block ?_
      have H := L4 _ H
      have H := L1 _ H
      have H := Option.some.inj H
      subst H
      refine post0 (.inl rfl) hF rfl ?_
      exact ⟨(), rfl, hW⟩
     ·
      have H := iteF (by rw [hb]; decide) H
      rw [hb] at hF
      clear hb
      refine wp_skip ?_
      refine c_then ?_
      exact ⟨_, H, hF.re ⟨rfl, rfl, rfl, rfl, rfl, rfl, rfl, rfl, rfl, trivial⟩, hW⟩
    ·
     have H := iteF (by rw [hb]; decide) H
     rw [hb] at hF
     clear hb
     refine wp_skip ?_
     refine c_then ?_
     exact ⟨_, H, hF.re ⟨rfl, rfl, rfl, rfl, rfl, rfl, rfl, rfl, rfl, trivial⟩, hW⟩
   rintro a w ⟨x17, hj, hF, hW⟩
   have H := K4 _ hj
   clear hj G4 K4 L4
   refine c_seq ?_
   obtain ⟨o5, G5, K5⟩ := bindE H
   refine c_seqJ (fun a w => ∃ x19 : Bool, some (x19) = some o5 ∧ Fr 148 [] [(0, v1), (1, .int .i64 x2), (2, .int .i64 x3), (3, .int .i64 x10), (4, .func (.func 24) #[] #[]), (10, .bool (x5 && (x6 || true))), (11, .bool (bif x5 then x6 else x6)), (12, .int .i64 (w64 (x3 - x2))), (13, .int .i64 x14), (97, .bool x19)] a ∧ Stw ⟨Y, X, w0⟩ [] [row v1 25 (Rp.flt .f64) x17] w) ?_ ?_
   ·
    have H := G5
    clear G5 K5
    refine reg_quiet hW MO (by kernel_rfl) ?_
    refine qs hF rfl ((y_move hF rfl).q) (fun a hF => ?_)
    refine qs hF rfl ((y_gtr hF rfl rfl).q) (fun a hF => ?_)
    refine qs hF rfl ((y_move hF rfl).q) (fun a hF => ?_)
    rcases Bool.eq_false_or_eq_true (decide (0 < x2)) with hb | hb
    ·
     have H := iteT (of_decide_eq_true hb) H
     rw [hb] at hF
     clear hb
     iterate 3 refine qs_w hF (wanted_y hF rfl rfl rfl rfl) rfl (Nat.le_of_ble_eq_true rfl) ((y_move hF rfl).q) (fun a hF => ?_)
     refine qs_w hF (wanted_y hF rfl rfl rfl rfl) rfl (Nat.le_of_ble_eq_true rfl) ((y_sub hF rfl rfl rfl).q) (fun a hF => ?_)
     obtain ⟨x20, h7, H⟩ := bindE H
     refine qs_w hF (wanted_y hF rfl rfl rfl rfl) rfl (Nat.le_of_ble_eq_true rfl) ((y_index (r := (Rp.flt .f64)) L34 hF rfl rfl (rdc_row 0 rfl) h7).q) (fun a hF => ?_)
     refine qs_w hF (wanted_y hF rfl rfl rfl rfl) rfl (Nat.le_of_ble_eq_true rfl) ((y_load_el (y := Value.float .f64 x20) (j := 0) (i := w64 (x2 - 1)) hF rfl rfl (rdc_row 0 rfl) h7 Fl.flt.to T25 rfl).q) (fun a hF => ?_)
     iterate 2 refine qs_w hF (wanted_y hF rfl rfl rfl rfl) rfl (Nat.le_of_ble_eq_true rfl) ((y_move hF rfl).q) (fun a hF => ?_)
     obtain ⟨x21, h8, H⟩ := bindE H
     refine qs_w hF (wanted_y hF rfl rfl rfl rfl) rfl (Nat.le_of_ble_eq_true rfl) ((y_index (r := (Rp.flt .f64)) L34 hF rfl rfl (rdc_row 0 rfl) h8).q) (fun a hF => ?_)
     refine qs_w hF (wanted_y hF rfl rfl rfl rfl) rfl (Nat.le_of_ble_eq_true rfl) ((y_load_el (y := Value.float .f64 x21) (j := 0) (i := x14) hF rfl rfl (rdc_row 0 rfl) h8 Fl.flt.to T25 rfl).q) (fun a hF => ?_)
     obtain ⟨x22, h9, H⟩ := bindE H
     refine qs_w hF (wanted_y hF rfl rfl rfl rfl) rfl (Nat.le_of_ble_eq_true rfl) (y_callV (ws := [.float .f64 x20, .float .f64 x21]) (v := Value.int .i64 x22) hF H24 rfl (fun w hW => float_Compare_c any w x20 x21 _ h9)) (fun a hF => ?_)
     refine qs_w hF (wanted_y hF rfl rfl rfl rfl) rfl (Nat.le_of_ble_eq_true rfl) ((y_lss hF rfl rfl).q) (fun a hF => ?_)
     refine qs_w hF (wanted_y hF rfl rfl rfl rfl) rfl (Nat.le_of_ble_eq_true rfl) ((y_not hF rfl).q) (fun a hF => ?_)
     refine qs hF rfl ((y_pick_t hF rfl rfl rfl).q) (fun a hF => ?_)
     refine quiet_end (fun w hW => ?_)
     refine c_then ?_
     exact ⟨_, H, hF.re ⟨rfl, rfl, rfl, rfl, rfl, rfl, rfl, rfl, rfl, rfl, trivial⟩, hW⟩
    ·
     have H := iteF (of_decide_eq_false hb) H
     rw [hb] at hF
     clear hb
     iterate 13 refine qs_skip hF (wanted_n hF rfl rfl rfl rfl rfl) rfl rfl (fun a hF => ?_)
     refine qs hF rfl ((y_pick_f hF rfl rfl rfl).q) (fun a hF => ?_)
     refine quiet_end (fun w hW => ?_)
     refine c_then ?_
     exact ⟨_, H, hF.re ⟨rfl, rfl, rfl, rfl, rfl, rfl, rfl, rfl, rfl, rfl, trivial⟩, hW⟩
   rintro a w ⟨x19, hj, hF, hW⟩
   have hj := Option.some.inj hj
   subst hj
   have H := K5
   clear G5 K5
   refine c_cond hF rfl (fun hb => ?_) (fun hb => ?_)
   ·
    have H := iteT hb H
    rw [hb] at hF
    clear hb
    refine c_seq (reg_list ?_)
    iterate 5 refine ls hF hW rfl ((y_move hF rfl).q) (fun a w hF hW => ?_)
    obtain ⟨x23, h10, H⟩ := bindE H
    refine l_callG (Ml := []) (Zl := [row v1 25 (Rp.flt .f64) x17]) (M := []) (Z := []) (β := Unit) (rv := fun x => .int .i64 x23.1) (MM := fun x => []) (ZZ := fun x => [row v1 25 (Rp.flt .f64) x23.2]) hF hW H64 rfl rfl (fun hL => slices_partitionEqualCmpFunc_float64_c _ _ w (v1) x17 x2 x3 x14 _ h10 hL) (fun x a w hF hW => ?_)
    have hW : Stw ⟨Y, X, w0⟩ [] [row v1 25 (Rp.flt .f64) x23.2] w := hW
    refine ls hF hW rfl ((y_assign hF rfl).q) (fun a w hF hW => ?_)
    refine ls_nil (c_then ?_)
    refine c_seq (reg_list ?_)
    refine ls hF hW rfl ((y_move hF rfl).q) (fun a w hF hW => ?_)
    refine ls hF hW rfl ((y_assign hF rfl).q) (fun a w hF hW => ?_)
    refine ls_nil (c_then ?_)
    refine wp_exit ?_
    refine e_then ?_
    refine e_block ?_
    refine c_then ?_
    exact ⟨_, H, hF.re ⟨rfl, rfl, rfl, rfl, rfl, rfl, rfl, trivial⟩, hW⟩
   ·
    have H := iteF (by rw [hb]; decide) H
    rw [hb] at hF
    clear hb
    refine wp_skip ?_
    refine c_then ?_
    refine c_seq (reg_list ?_)
    iterate 5 refine ls hF hW rfl ((y_move hF rfl).q) (fun a w hF hW => ?_)
    obtain ⟨x24, h11, H⟩ := bindE H
    refine l_callG (Ml := []) (Zl := [row v1 25 (Rp.flt .f64) x17]) (M := []) (Z := []) (β := Unit) (rv := fun x => .tuple #[.int .i64 x24.1, .bool x24.2.1]) (MM := fun x => []) (ZZ := fun x => [row v1 25 (Rp.flt .f64) x24.2.2]) hF hW H65 rfl rfl (fun hL => slices_partitionCmpFunc_float64_c _ _ w (v1) x17 x2 x3 x14 _ h11 hL) (fun x a w hF hW => ?_)
    have hW : Stw ⟨Y, X, w0⟩ [] [row v1 25 (Rp.flt .f64) x24.2.2] w := hW
    refine ls hF hW rfl ((y_move hF rfl).q) (fun a w hF hW => ?_)
    refine ls hF hW rfl ((y_extract (v := Value.int .i64 x24.1) hF rfl rfl).q) (fun a w hF hW => ?_)
    refine ls hF hW rfl ((y_extract (v := Value.bool x24.2.1) hF rfl rfl).q) (fun a w hF hW => ?_)
    iterate 2 refine ls hF hW rfl ((y_assign hF rfl).q) (fun a w hF hW => ?_)
    refine ls_nil (c_then ?_)
    refine c_seq (reg_list ?_)
    refine ls hF hW rfl ((y_move hF rfl).q) (fun a w hF hW => ?_)
    refine ls hF hW rfl ((y_assign hF rfl).q) (fun a w hF hW => ?_)
    refine ls_nil (c_then ?_)
    refine c_seq (reg_list ?_)
    iterate 2 refine ls hF hW rfl ((y_move hF rfl).q) (fun a w hF hW => ?_)
    refine ls hF hW rfl ((y_sub hF rfl rfl rfl).q) (fun a w hF hW => ?_)
    iterate 2 refine ls hF hW rfl ((y_move hF rfl).q) (fun a w hF hW => ?_)
    refine ls hF hW rfl ((y_sub hF rfl rfl rfl).q) (fun a w hF hW => ?_)
    iterate 2 refine ls hF hW rfl ((y_assign hF rfl).q) (fun a w hF hW => ?_)
    refine ls_nil (c_then ?_)
    refine c_seq (reg_list ?_)
    refine ls hF hW rfl ((y_move hF rfl).q) (fun a w hF hW => ?_)
    refine ls hF hW rfl ((y_quo hF rfl rfl (by decide) rfl).q) (fun a w hF hW => ?_)
    refine ls hF hW rfl ((y_assign hF rfl).q) (fun a w hF hW => ?_)
    refine ls_nil (c_then ?_)
    refine c_seq (reg_list ?_)
    iterate 2 refine ls hF hW rfl ((y_move hF rfl).q) (fun a w hF hW => ?_)
    refine ls hF hW rfl ((y_lss hF rfl rfl).q) (fun a w hF hW => ?_)
    refine ls_nil (c_then ?_)
    refine c_cond hF rfl (fun hb => ?_) (fun hb => ?_)
    ·
     have H := iteT (of_decide_eq_true hb) H
     rw [hb] at hF
     clear hb
     refine c_seq (reg_list ?_)
     iterate 2 refine ls hF hW rfl ((y_move hF rfl).q) (fun a w hF hW => ?_)
     refine ls hF hW rfl ((y_geq hF rfl rfl).q) (fun a w hF hW => ?_)
     refine ls hF hW rfl ((y_assign hF rfl).q) (fun a w hF hW => ?_)
     refine ls_nil (c_then ?_)
     refine c_seq (reg_list ?_)
     iterate 5 refine ls hF hW rfl ((y_move hF rfl).q) (fun a w hF hW => ?_)
     obtain ⟨x25, h12, H⟩ := bindE H
     refine l_callG (Ml := []) (Zl := [row v1 25 (Rp.flt .f64) x24.2.2]) (M := []) (Z := []) (β := Unit) (rv := fun x => .tuple #[]) (MM := fun x => []) (ZZ := fun x => [row v1 25 (Rp.flt .f64) x25]) hF hW H55 rfl rfl (fun hL => ih _ _ w (v1) x24.2.2 x2 x24.1 x10 _ h12 hL) (fun x a w hF hW => ?_)
     have hW : Stw ⟨Y, X, w0⟩ [] [row v1 25 (Rp.flt .f64) x25] w := hW
     refine ls_nil (c_then ?_)
     refine reg_list ?_
     refine ls hF hW rfl ((y_move hF rfl).q) (fun a w hF hW => ?_)
     refine ls hF hW rfl ((y_add hF rfl rfl rfl).q) (fun a w hF hW => ?_)
     refine ls hF hW rfl ((y_assign hF rfl).q) (fun a w hF hW => ?_)
     refine ls_nil ?_
     refine b_normal ?_
     refine c_then ?_
     exact ⟨_, H, hF.re ⟨rfl, rfl, rfl, rfl, rfl, rfl, rfl, trivial⟩, hW⟩
    ·
     have H := iteF (of_decide_eq_false hb) H
     rw [hb] at hF
     clear hb
     refine c_seq (reg_list ?_)
     iterate 2 refine ls hF hW rfl ((y_move hF rfl).q) (fun a w hF hW => ?_)
     refine ls hF hW rfl ((y_geq hF rfl rfl).q) (fun a w hF hW => ?_)
     refine ls hF hW rfl ((y_assign hF rfl).q) (fun a w hF hW => ?_)
     refine ls_nil (c_then ?_)
     refine c_seq (reg_list ?_)
     iterate 2 refine ls hF hW rfl ((y_move hF rfl).q) (fun a w hF hW => ?_)
     refine ls hF hW rfl ((y_add hF rfl rfl rfl).q) (fun a w hF hW => ?_)
     iterate 3 refine ls hF hW rfl ((y_move hF rfl).q) (fun a w hF hW => ?_)
     obtain ⟨x26, h13, H⟩ := bindE H
     refine l_callG (Ml := []) (Zl := [row v1 25 (Rp.flt .f64) x24.2.2]) (M := []) (Z := []) (β := Unit) (rv := fun x => .tuple #[]) (MM := fun x => []) (ZZ := fun x => [row v1 25 (Rp.flt .f64) x26]) hF hW H55 rfl rfl (fun hL => ih _ _ w (v1) x24.2.2 (w64 (x24.1 + 1)) x3 x10 _ h13 hL) (fun x a w hF hW => ?_)
     have hW : Stw ⟨Y, X, w0⟩ [] [row v1 25 (Rp.flt .f64) x26] w := hW
     refine ls_nil (c_then ?_)
     refine reg_list ?_
     refine ls hF hW rfl ((y_move hF rfl).q) (fun a w hF hW => ?_)
     refine ls hF hW rfl ((y_assign hF rfl).q) (fun a w hF hW => ?_)
     refine ls_nil ?_
     refine b_normal ?_
     refine c_then ?_
     exact ⟨_, H, hF.re ⟨rfl, rfl, rfl, rfl, rfl, rfl, rfl, trivial⟩, hW⟩
theorem slices_pdqsortCmpFunc_float64_nc : ∀ (n : Nat) (Y : Nat → Prop) (X : List Nat) (w0 : World) (v1 : Value) (p0 : List Nat) (p1 : Int) (p2 : Int) (p3 : Int) (r : List Nat) (H : slices_pdqsortCmpFunc_float64_n n p0 p1 p2 p3 = some r) (hL : Stw ⟨Y, X, w0⟩ [] [row v1 25 (Rp.flt .f64) p0] w0), Calls Try.prog 55 #[v1, .int .i64 p1, .int .i64 p2, .int .i64 p3, .func (.func 24) #[] #[]] w0 fun e w' => ∃ x : Unit, e = .returned (.tuple #[]) ∧ Stw ⟨Y, X, w0⟩ [] [row v1 25 (Rp.flt .f64) r] w' := by
  intro n
  induction n with
  | zero => intro Y X w0 v1 p0 p1 p2 p3 r H; exact nomatch H
  | succ n ih => intro Y X w0 v1 p0 p1 p2 p3 r H hL; exact slices_pdqsortCmpFunc_float64_stc (slices_pdqsortCmpFunc_float64_n n) ih Y X w0 v1 p0 p1 p2 p3 r H hL
theorem slices_pdqsortCmpFunc_float64_c (Y : Nat → Prop) (X : List Nat) (w0 : World) (v1 : Value) (p0 : List Nat) (p1 : Int) (p2 : Int) (p3 : Int) (r : List Nat) (H : slices_pdqsortCmpFunc_float64 p0 p1 p2 p3 = some r) (hL : Stw ⟨Y, X, w0⟩ [] [row v1 25 (Rp.flt .f64) p0] w0) :
    Calls Try.prog 55 #[v1, .int .i64 p1, .int .i64 p2, .int .i64 p3, .func (.func 24) #[] #[]] w0 fun e w' => ∃ x : Unit, e = .returned (.tuple #[]) ∧ Stw ⟨Y, X, w0⟩ [] [row v1 25 (Rp.flt .f64) r] w' := by
  obtain ⟨n, H⟩ := limF_some H
  exact slices_pdqsortCmpFunc_float64_nc n Y X w0 v1 p0 p1 p2 p3 r H hL

noncomputable def slices_SortFunc_float64_float64 (p0 : List Nat) : Option (List Nat) := (math_bits_Len (IntKind.u64.wrap (p0.length : Int))).bind fun x1 => (slices_pdqsortCmpFunc_float64 p0 0 (p0.length : Int) x1).bind fun x2 => some x2
theorem slices_SortFunc_float64_float64_c (Y : Nat → Prop) (X : List Nat) (w0 : World) (v1 : Value) (p0 : List Nat) (r : List Nat) (H : slices_SortFunc_float64_float64 p0 = some r) (hL : Stw ⟨Y, X, w0⟩ [] [row v1 25 (Rp.flt .f64) p0] w0) :
    Calls Try.prog 47 #[v1, .func (.func 24) #[] #[]] w0 fun e w' => ∃ x : Unit, e = .returned (.tuple #[]) ∧ Stw ⟨Y, X, w0⟩ [] [row v1 25 (Rp.flt .f64) r] w' := by
 refine enter Try.func47 rfl Try.ntmps47 rfl (fun a hF => ?_)
 have hW := hL
 unfold slices_SortFunc_float64_float64 at H
 refine c_seq (reg_list ?_)
 refine ls hF hW rfl ((y_move hF rfl).q) (fun a w hF hW => ?_)
 refine ls hF hW rfl ((y_len (r := (Rp.flt .f64)) (l := p0) u34_ rfl hF rfl (rdc_row 0 rfl)).q) (fun a w hF hW => ?_)
 refine ls hF hW rfl ((y_assign hF rfl).q) (fun a w hF hW => ?_)
 refine ls_nil (c_then ?_)
 refine reg_list ?_
 iterate 3 refine ls hF hW rfl ((y_move hF rfl).q) (fun a w hF hW => ?_)
 refine ls hF hW rfl ((y_convI u3_ u71_ hF rfl).q) (fun a w hF hW => ?_)
 obtain ⟨x1, h1, H⟩ := bindE H
 refine ls hF hW rfl (y_call (v := Value.int .i64 x1) hF H56 rfl (fun w hW => math_bits_Len_c any w (IntKind.u64.wrap (p0.length : Int)) _ h1)) (fun a w hF hW => ?_)
 refine ls hF hW rfl ((y_move hF rfl).q) (fun a w hF hW => ?_)
 obtain ⟨x2, h2, H⟩ := bindE H
 refine l_callG (Ml := []) (Zl := [row v1 25 (Rp.flt .f64) p0]) (M := []) (Z := []) (β := Unit) (rv := fun x => .tuple #[]) (MM := fun x => []) (ZZ := fun x => [row v1 25 (Rp.flt .f64) x2]) hF hW H55 rfl rfl (fun hL => slices_pdqsortCmpFunc_float64_c _ _ w (v1) p0 0 (p0.length : Int) x1 _ h2 hL) (fun x a w hF hW => ?_)
 have hW : Stw ⟨Y, X, w0⟩ [] [row v1 25 (Rp.flt .f64) x2] w := hW
 refine ls_nil ?_
 have H := Option.some.inj H
 subst H
 refine post0 (.inr rfl) hF rfl ?_
 exact ⟨(), rfl, hW⟩

theorem H47 : Has Try.prog 47 := ⟨fun args w => run_callFunc_body Try.func47 rfl (by decide) args w⟩
noncomputable def meter_Sort_l1 (x1 : List Nat) : (List Nat × Int) → Option ((List Nat × Int) ⊕ (List Nat))
  | (x3, x4) => (if x4 < (x1.length : Int) then (ix x3 x4).bind fun x5 => (ix x3 x4).bind fun x6 => some (.inl ((setAt x3 x4 (float_Clean x5)), w64 (x4 + 1))) else some (.inr x3))
noncomputable def meter_Sort (p0 : List Nat) : Option (List Nat) := (slices_Clone_float64_float64 p0).bind fun x1 => (loopW (meter_Sort_l1 x1) (x1, 0)).bind fun x2 => (slices_SortFunc_float64_float64 x2).bind fun x7 => some x7
theorem meter_Sort_c (Y : Nat → Prop) (w0 : World) (v1 : Value) (p0 : List Nat) (r : List Nat) (H : meter_Sort p0 = some r) (s_v1 : Sl w0 Y (Rp.flt .f64) v1 p0) :
    Calls Try.prog 15 #[v1] w0 fun e w' => ∃ x : Value, e = .returned (x) ∧ Stw ⟨Y, [], w0⟩ [] [row (x) 25 (Rp.flt .f64) r] w' := by
 refine enter Try.func15 rfl Try.ntmps15 rfl (fun a hF => ?_)
 have hW := Stw.start Y w0
 have h_v1 := hW.nx s_v1
 unfold meter_Sort at H
 refine c_seq (reg_list ?_)
 refine ls hF hW rfl ((y_assign hF rfl).q) (fun a w hF hW => ?_)
 refine ls_nil (c_then ?_)
 refine c_seq (reg_list ?_)
 refine ls hF hW rfl ((y_move hF rfl).q) (fun a w hF hW => ?_)
 obtain ⟨x1, h1, H⟩ := bindE H
 refine l_callG (Ml := []) (Zl := []) (M := []) (Z := []) (β := Value) (rv := fun x => x) (MM := fun x => []) (ZZ := fun x => [row x 25 (Rp.flt .f64) x1]) hF hW H46 rfl rfl (fun hL => slices_Clone_float64_float64_c _ w (v1) p0 _ h1 (hW.old s_v1)) (fun x a w hF hW => ?_)
 obtain ⟨v2, rfl⟩ : ∃ y, y = x := ⟨x, rfl⟩
 have hW : Stw ⟨Y, [], w0⟩ [] [row v2 25 (Rp.flt .f64) x1] w := hW
 refine ls hF hW rfl ((y_assign hF rfl).q) (fun a w hF hW => ?_)
 refine ls_nil (c_then ?_)
 obtain ⟨o1, G1, K1⟩ := bindE H
 refine c_seqJ (fun a w => ∃ x2 : List Nat, some (x2) = some o1 ∧ Fr 24 [] [(2, .slice none 0 0), (3, v2)] a ∧ Stw ⟨Y, [], w0⟩ [] [row v2 25 (Rp.flt .f64) x2] w) ?_ ?_
 ·
  have H := G1
  clear G1 K1
  refine c_seq (reg_list ?_)
  refine ls hF hW rfl ((y_move hF rfl).q) (fun a w hF hW => ?_)
  refine ls hF hW rfl ((y_len (r := (Rp.flt .f64)) (l := x1) u34_ rfl hF rfl (rdc_row 0 rfl)).q) (fun a w hF hW => ?_)
  refine ls hF hW rfl ((y_move hF rfl).q) (fun a w hF hW => ?_)
  refine ls_nil (c_then ?_)
  refine wp_block ?_
  refine c_loopW H (fun s a w => Fr 24 [] [(2, .slice none 0 0), (3, v2), (8, v2), (9, .int .i64 (x1.length : Int)), (10, .int .i64 s.2)] a ∧ Stw ⟨Y, [], w0⟩ [] [row v2 25 (Rp.flt .f64) s.1] w) ⟨hF.re ⟨rfl, rfl, rfl, rfl, rfl, trivial⟩, hW⟩ (fun s o a w H L2 hR => ?_)
  obtain ⟨x3, x4⟩ := s
  obtain ⟨hF, hW⟩ := hR
  have hF : Fr 24 [] [(2, .slice none 0 0), (3, v2), (8, v2), (9, .int .i64 (x1.length : Int)), (10, .int .i64 x4)] a := hF
  have hW : Stw ⟨Y, [], w0⟩ [] [row v2 25 (Rp.flt .f64) x3] w := hW
  rw [meter_Sort_l1] at H
  refine c_seq (reg_list ?_)
  refine ls hF hW rfl ((y_lss hF rfl rfl).q) (fun a w hF hW => ?_)
  refine ls_nil (c_then ?_)
  refine c_seq ?_
  refine c_cond hF rfl (fun hb => ?_) (fun hb => ?_)
  ·
   have H := iteT (of_decide_eq_true hb) H
   rw [hb] at hF
   clear hb
   refine wp_skip ?_
   refine c_then ?_
   refine c_seq ?_
   refine wp_block ?_
   refine c_seq (reg_list ?_)
   refine ls hF hW rfl ((y_move hF rfl).q) (fun a w hF hW => ?_)
   obtain ⟨x5, h2, H⟩ := bindE H
   refine ls hF hW rfl ((y_index (r := (Rp.flt .f64)) L34 hF rfl rfl (rdc_row 0 rfl) h2).q) (fun a w hF hW => ?_)
   refine ls hF hW rfl ((y_load_el (y := Value.float .f64 x5) (j := 0) (i := x4) hF rfl rfl (rdc_row 0 rfl) h2 Fl.flt.to T25 rfl).q) (fun a w hF hW => ?_)
   iterate 2 refine ls hF hW rfl ((y_assign hF rfl).q) (fun a w hF hW => ?_)
   refine ls_nil (c_then ?_)
   refine reg_list ?_
   iterate 3 refine ls hF hW rfl ((y_move hF rfl).q) (fun a w hF hW => ?_)
   refine ls hF hW rfl (y_call (v := Value.float .f64 (float_Clean x5)) hF H39 rfl (fun w hW => float_Clean_c any w x5 _ rfl)) (fun a w hF hW => ?_)
   obtain ⟨x6, h3, H⟩ := bindE H
   refine ls hF hW rfl ((y_index (r := (Rp.flt .f64)) L34 hF rfl rfl (rdc_row 0 rfl) h3).q) (fun a w hF hW => ?_)
   refine l_store_el (i := x4) (j := 0) (vs := [.float .f64 (float_Clean x5)]) (x' := (float_Clean x5)) hF hW rfl rfl rfl (k := 0) rfl rfl h3 T25 rfl rfl rfl rfl (fun A cs _ => Fl.flt.sto (by rfl) _ _ _) (fun w hW => ?_)
   refine ls_nil ?_
   refine b_normal ?_
   refine c_then ?_
   refine reg_list ?_
   refine ls hF hW rfl ((y_add hF rfl rfl rfl).q) (fun a w hF hW => ?_)
   refine ls hF hW rfl ((y_move hF rfl).q) (fun a w hF hW => ?_)
   refine ls_nil (c_then ?_)
   exact ⟨_, H, hF.re ⟨rfl, rfl, rfl, rfl, rfl, trivial⟩, hW⟩
  ·
   have H := iteF (of_decide_eq_false hb) H
   rw [hb] at hF
   clear hb
   refine wp_exit ?_
   iterate 2 refine e_then ?_
   refine e_block ?_
   refine c_then ?_
   have H := L2 _ H
   exact ⟨_, H, hF.re ⟨rfl, rfl, trivial⟩, hW⟩
 rintro a w ⟨x2, hj, hF, hW⟩
 have hj := Option.some.inj hj
 subst hj
 have H := K1
 clear G1 K1
 refine c_seq (reg_list ?_)
 refine ls hF hW rfl ((y_move hF rfl).q) (fun a w hF hW => ?_)
 obtain ⟨x7, h4, H⟩ := bindE H
 refine l_callG (Ml := []) (Zl := [row v2 25 (Rp.flt .f64) x2]) (M := []) (Z := []) (β := Unit) (rv := fun x => .tuple #[]) (MM := fun x => []) (ZZ := fun x => [row v2 25 (Rp.flt .f64) x7]) hF hW H47 rfl rfl (fun hL => slices_SortFunc_float64_float64_c _ _ w (v2) x2 _ h4 hL) (fun x a w hF hW => ?_)
 have hW : Stw ⟨Y, [], w0⟩ [] [row v2 25 (Rp.flt .f64) x7] w := hW
 refine ls_nil (c_then ?_)
 refine c_seq (reg_list ?_)
 refine ls hF hW rfl ((y_move hF rfl).q) (fun a w hF hW => ?_)
 refine ls hF hW rfl ((y_assign hF rfl).q) (fun a w hF hW => ?_)
 refine ls_nil (c_then ?_)
 refine wp_ret ?_
 have H := Option.some.inj H
 subst H
 refine post1 (.inl rfl) hF hW rfl (rv_tmp hF rfl) ?_
 exact ⟨(v2), rfl, hW⟩

theorem H15 : Has Try.prog 15 := ⟨fun args w => run_callFunc_body Try.func15 rfl (by decide) args w⟩
def float_Bits (p0 : Nat) : Int := (if (math_IsNaN p0) = true then 9221120237041090561 else (p0 : Int))
theorem float_Bits_c (Y : Nat → Prop) (w0 : World)  (p0 : Nat) (r : Int) (H : float_Bits p0 = r)  :
    Calls Try.prog 8 #[.float .f64 p0] w0 fun e w' => e = .returned (.int .u64 r) ∧ Below w0.heap.size w0 w' := by
 refine enter Try.func8 rfl Try.ntmps8 rfl (fun a hF => ?_)
 have hW := Stw.start Y w0
 unfold float_Bits at H
 refine c_seq (reg_list ?_)
 refine ls hF hW rfl ((y_assign hF rfl).q) (fun a w hF hW => ?_)
 refine ls_nil (c_then ?_)
 refine c_seq ?_
 refine c_seq (reg_list ?_)
 refine ls hF hW rfl ((y_move hF rfl).q) (fun a w hF hW => ?_)
 refine ls hF hW rfl (y_call (v := Value.bool (math_IsNaN p0)) hF H37 rfl (fun w hW => math_IsNaN_c any w p0 _ rfl)) (fun a w hF hW => ?_)
 refine ls_nil (c_then ?_)
 refine c_cond hF rfl (fun hb => ?_) (fun hb => ?_)
 ·
  have H := iteT hb H
  rw [hb] at hF
  clear hb
  refine c_seq (reg_list ?_)
  refine ls hF hW rfl ((y_assign hF rfl).q) (fun a w hF hW => ?_)
  refine ls_nil (c_then ?_)
  refine wp_ret ?_
  refine r_then ?_
  subst H
  refine post1 (.inl rfl) hF hW rfl (rv_tmp hF rfl) ?_
  exact ⟨rfl, hW.done⟩
 ·
  have H := iteF (by rw [hb]; decide) H
  rw [hb] at hF
  clear hb
  refine wp_skip ?_
  refine c_then ?_
  refine c_seq (reg_list ?_)
  refine ls hF hW rfl ((y_move hF rfl).q) (fun a w hF hW => ?_)
  refine ls hF hW rfl ((y_ext (v := Value.int .u64 (p0 : Int)) hF X38 rfl (fun w => rfl)).q) (fun a w hF hW => ?_)
  refine ls hF hW rfl ((y_assign hF rfl).q) (fun a w hF hW => ?_)
  refine ls_nil (c_then ?_)
  refine wp_ret ?_
  subst H
  refine post1 (.inl rfl) hF hW rfl (rv_tmp hF rfl) ?_
  exact ⟨rfl, hW.done⟩

theorem H8 : Has Try.prog 8 := ⟨fun args w => run_callFunc_body Try.func8 rfl (by decide) args w⟩
theorem Z22 : (Try.prog.info? 22).bind (·.zero) = some (.int .u64 0) := by kernel_rfl
noncomputable def L43_bitsOf_l1 (p0 : List Nat) : (List Int × Int) → Option ((List Int × Int) ⊕ (List Int))
  | (x2, x3) => (if x3 < (p0.length : Int) then (ix p0 x3).bind fun x4 => (app x2 ([(float_Bits x4)] : List Int)).bind fun x5 => some (.inl (x5, w64 (x3 + 1))) else some (.inr x2))
noncomputable def L43_bitsOf (p0 : List Nat) : Option (List Int) := (loopW (L43_bitsOf_l1 p0) ([], 0)).bind fun x1 => some x1
theorem L43_bitsOf_c (Y : Nat → Prop) (w0 : World) (v1 : Value) (p0 : List Nat) (r : List Int) (H : L43_bitsOf p0 = some r) (h_v1 : Sl w0 (NX []) (Rp.flt .f64) v1 p0) :
    Calls Try.prog 18 #[v1] w0 fun e w' => ∃ x : Value, e = .returned (x) ∧ Stw ⟨Y, [], w0⟩ [] [row (x) 22 (Rp.int .u64) r] w' := by
 refine enter Try.func18 rfl Try.ntmps18 rfl (fun a hF => ?_)
 have hW := Stw.start Y w0
 unfold L43_bitsOf at H
 refine c_seq (reg_list ?_)
 refine ls hF hW rfl ((y_assign hF rfl).q) (fun a w hF hW => ?_)
 refine ls_nil (c_then ?_)
 refine c_seq (reg_list ?_)
 refine ls hF hW rfl ((y_assign hF rfl).q) (fun a w hF hW => ?_)
 refine ls_nil (c_then ?_)
 obtain ⟨o1, G1, K1⟩ := bindE H
 refine c_seqJ (fun a w => ∃ x1 : List Int, ∃ v2 : Value, some (x1) = some o1 ∧ Fr 20 [] [(2, .slice none 0 0), (3, v2)] a ∧ Stw ⟨Y, [], w0⟩ [] [row v2 22 (Rp.int .u64) x1] w) ?_ ?_
 ·
  have H := G1
  clear G1 K1
  refine c_seq (reg_list ?_)
  refine ls hF hW rfl ((y_assign hF rfl).q) (fun a w hF hW => ?_)
  refine ls_nil (c_then ?_)
  refine wp_block ?_
  have hW := hW.nilRow 22 (Rp.int .u64)
  refine c_loopW H (fun s a w => ∃ v3 : Value, Fr 20 [] [(0, v1), (2, .slice none 0 0), (3, v3), (4, .int .i64 s.2)] a ∧ Stw ⟨Y, [], w0⟩ [] [row v3 22 (Rp.int .u64) s.1] w) ⟨(Value.slice none 0 0), hF.re ⟨rfl, rfl, rfl, rfl, trivial⟩, hW⟩ (fun s o a w H L2 hR => ?_)
  obtain ⟨x2, x3⟩ := s
  obtain ⟨v3, hF, hW⟩ := hR
  have hF : Fr 20 [] [(0, v1), (2, .slice none 0 0), (3, v3), (4, .int .i64 x3)] a := hF
  have hW : Stw ⟨Y, [], w0⟩ [] [row v3 22 (Rp.int .u64) x2] w := hW
  rw [L43_bitsOf_l1] at H
  refine c_seq ?_
  refine c_seq (reg_list ?_)
  iterate 2 refine ls hF hW rfl ((y_move hF rfl).q) (fun a w hF hW => ?_)
  refine ls hF hW rfl ((y_len (r := (Rp.flt .f64)) (l := p0) u34_ rfl hF rfl (rdc_ro h_v1)).q) (fun a w hF hW => ?_)
  refine ls hF hW rfl ((y_lss hF rfl rfl).q) (fun a w hF hW => ?_)
  refine ls_nil (c_then ?_)
  refine c_cond hF rfl (fun hb => ?_) (fun hb => ?_)
  ·
   have H := iteT (of_decide_eq_true hb) H
   rw [hb] at hF
   clear hb
   refine wp_skip ?_
   refine c_then ?_
   refine c_seq ?_
   refine wp_block ?_
   refine reg_list ?_
   iterate 3 refine ls hF hW rfl ((y_move hF rfl).q) (fun a w hF hW => ?_)
   obtain ⟨x4, h1, H⟩ := bindE H
   refine ls hF hW rfl ((y_index (r := (Rp.flt .f64)) L34 hF rfl rfl (rdc_ro h_v1) h1).q) (fun a w hF hW => ?_)
   refine ls hF hW rfl ((y_load_el (y := Value.float .f64 x4) (j := 0) (i := x3) hF rfl rfl (rdc_ro h_v1) h1 Fl.flt.to T25 rfl).q) (fun a w hF hW => ?_)
   refine ls hF hW rfl (y_call (v := Value.int .u64 (float_Bits x4)) hF H8 rfl (fun w hW => float_Bits_c any w x4 _ rfl)) (fun a w hF hW => ?_)
   refine l_lit (z := Value.int .u64 0) (cs := [.int .u64 (float_Bits x4)]) (Rp.int .u64) ([(float_Bits x4)] : List Int) hF hW rfl L33 Z22 rfl rfl rfl rfl rfl rfl (Fl.int.repL _ _ ([(float_Bits x4)] : List Int)) (fun v4 a w hF hW => ?_)
   obtain ⟨x5, h2, H⟩ := bindE H
   refine l_append (r := (Rp.int .u64)) (i := 1) hF hW rfl L33 rfl rfl rfl rfl (src_row hW 0 rfl) h2 rfl (fun v5 a w hF hW => ?_)
   have hW : Stw ⟨Y, [], w0⟩ [] [row v5 22 (Rp.int .u64) x5, row v4 22 (Rp.int .u64) ([(float_Bits x4)] : List Int)] w := hW
   refine ls hF hW rfl ((y_assign hF rfl).q) (fun a w hF hW => ?_)
   refine ls_nil ?_
   refine b_normal ?_
   refine c_then ?_
   refine reg_list ?_
   refine ls hF hW rfl ((y_move hF rfl).q) (fun a w hF hW => ?_)
   refine ls hF hW rfl ((y_add hF rfl rfl rfl).q) (fun a w hF hW => ?_)
   refine ls hF hW rfl ((y_assign hF rfl).q) (fun a w hF hW => ?_)
   refine ls_nil (c_then ?_)
   have hW := hW.sub (M' := []) (Z' := [row v5 22 (Rp.int .u64) x5]) (List.Sublist.refl _) (List.Sublist.cons_cons _ (List.nil_sublist _))
   exact ⟨_, H, (v5), hF.re ⟨rfl, rfl, rfl, rfl, trivial⟩, hW⟩
  ·
   have H := iteF (of_decide_eq_false hb) H
   rw [hb] at hF
   clear hb
   refine wp_exit ?_
   iterate 2 refine e_then ?_
   refine e_block ?_
   refine c_then ?_
   have H := L2 _ H
   exact ⟨_, (v3), H, hF.re ⟨rfl, rfl, trivial⟩, hW⟩
 rintro a w ⟨x1, v2, hj, hF, hW⟩
 have hj := Option.some.inj hj
 subst hj
 have H := K1
 clear G1 K1
 refine c_seq (reg_list ?_)
 refine ls hF hW rfl ((y_move hF rfl).q) (fun a w hF hW => ?_)
 refine ls hF hW rfl ((y_assign hF rfl).q) (fun a w hF hW => ?_)
 refine ls_nil (c_then ?_)
 refine wp_ret ?_
 have H := Option.some.inj H
 subst H
 refine post1 (.inl rfl) hF hW rfl (rv_tmp hF rfl) ?_
 exact ⟨(v2), rfl, hW⟩

theorem H18 : Has Try.prog 18 := ⟨fun args w => run_callFunc_body Try.func18 rfl (by decide) args w⟩
def r03_Clean (p0 : Int) : Int := (if 9218868437227405312 < (Int.tmod p0 9223372036854775808) then 9221120237041090561 else p0)
theorem r03_Clean_c (Y : Nat → Prop) (w0 : World)  (p0 : Int) (r : Int) (H : r03_Clean p0 = r)  :
    Calls Try.prog 13 #[.int .u64 p0] w0 fun e w' => e = .returned (.int .u64 r) ∧ Below w0.heap.size w0 w' := by
 refine enter Try.func13 rfl Try.ntmps13 rfl (fun a hF => ?_)
 have hW := Stw.start Y w0
 unfold r03_Clean at H
 refine c_seq (reg_list ?_)
 refine ls hF hW rfl ((y_assign hF rfl).q) (fun a w hF hW => ?_)
 refine ls_nil (c_then ?_)
 refine c_seq ?_
 refine c_seq (reg_list ?_)
 refine ls hF hW rfl ((y_move hF rfl).q) (fun a w hF hW => ?_)
 refine ls hF hW rfl ((y_rem hF rfl rfl (by decide) rfl).q) (fun a w hF hW => ?_)
 refine ls hF hW rfl ((y_gtr hF rfl rfl).q) (fun a w hF hW => ?_)
 refine ls_nil (c_then ?_)
 refine c_cond hF rfl (fun hb => ?_) (fun hb => ?_)
 ·
  have H := iteT (of_decide_eq_true hb) H
  rw [hb] at hF
  clear hb
  refine c_seq (reg_list ?_)
  refine ls hF hW rfl ((y_assign hF rfl).q) (fun a w hF hW => ?_)
  refine ls_nil (c_then ?_)
  refine wp_ret ?_
  refine r_then ?_
  subst H
  refine post1 (.inl rfl) hF hW rfl (rv_tmp hF rfl) ?_
  exact ⟨rfl, hW.done⟩
 ·
  have H := iteF (of_decide_eq_false hb) H
  rw [hb] at hF
  clear hb
  refine wp_skip ?_
  refine c_then ?_
  refine c_seq (reg_list ?_)
  refine ls hF hW rfl ((y_move hF rfl).q) (fun a w hF hW => ?_)
  refine ls hF hW rfl ((y_assign hF rfl).q) (fun a w hF hW => ?_)
  refine ls_nil (c_then ?_)
  refine wp_ret ?_
  subst H
  refine post1 (.inl rfl) hF hW rfl (rv_tmp hF rfl) ?_
  exact ⟨rfl, hW.done⟩

theorem r03_Clean_nan {a : Nat} (h : 9218868437227405312 < a % 9223372036854775808) : r03_Clean (a : Int) = r03_Clean ((9221120237041090561 : Nat) : Int) := by
  unfold r03_Clean
  rw [Int.tmod_eq_emod_of_nonneg (by omega), if_pos (by omega), if_pos (by decide)]
theorem r03_Clean_cf {a b : Nat} (h : cfn a = cfn b) : r03_Clean (a : Int) = r03_Clean (b : Int) := cf_of (f := fun a : Nat => r03_Clean (a : Int)) (fun a h => r03_Clean_nan h) h

theorem H13 : Has Try.prog 13 := ⟨fun args w => run_callFunc_body Try.func13 rfl (by decide) args w⟩
def r03_Place (p0 : Int) : Int := (if 9223372036854775808 ≤ (r03_Clean p0) then IntKind.u64.wrap (9223372036854775807 - (Int.tmod (r03_Clean p0) 9223372036854775808)) else IntKind.u64.wrap (9223372036854775808 + (r03_Clean p0)))
theorem r03_Place_c (Y : Nat → Prop) (w0 : World)  (p0 : Int) (r : Int) (H : r03_Place p0 = r)  :
    Calls Try.prog 54 #[.int .u64 p0] w0 fun e w' => e = .returned (.int .u64 r) ∧ Below w0.heap.size w0 w' := by
 refine enter Try.func54 rfl Try.ntmps54 rfl (fun a hF => ?_)
 have hW := Stw.start Y w0
 unfold r03_Place at H
 refine c_seq (reg_list ?_)
 refine ls hF hW rfl ((y_assign hF rfl).q) (fun a w hF hW => ?_)
 refine ls_nil (c_then ?_)
 refine c_seq (reg_list ?_)
 refine ls hF hW rfl ((y_move hF rfl).q) (fun a w hF hW => ?_)
 refine ls hF hW rfl (y_call (v := Value.int .u64 (r03_Clean p0)) hF H13 rfl (fun w hW => r03_Clean_c any w p0 _ rfl)) (fun a w hF hW => ?_)
 refine ls hF hW rfl ((y_assign hF rfl).q) (fun a w hF hW => ?_)
 refine ls_nil (c_then ?_)
 refine c_seq ?_
 refine c_seq (reg_list ?_)
 refine ls hF hW rfl ((y_move hF rfl).q) (fun a w hF hW => ?_)
 refine ls hF hW rfl ((y_geq hF rfl rfl).q) (fun a w hF hW => ?_)
 refine ls_nil (c_then ?_)
 refine c_cond hF rfl (fun hb => ?_) (fun hb => ?_)
 ·
  have H := iteT (of_decide_eq_true hb) H
  rw [hb] at hF
  clear hb
  refine c_seq (reg_list ?_)
  refine ls hF hW rfl ((y_move hF rfl).q) (fun a w hF hW => ?_)
  refine ls hF hW rfl ((y_rem hF rfl rfl (by decide) rfl).q) (fun a w hF hW => ?_)
  refine ls hF hW rfl ((y_sub hF rfl rfl rfl).q) (fun a w hF hW => ?_)
  refine ls hF hW rfl ((y_assign hF rfl).q) (fun a w hF hW => ?_)
  refine ls_nil (c_then ?_)
  refine wp_ret ?_
  refine r_then ?_
  subst H
  refine post1 (.inl rfl) hF hW rfl (rv_tmp hF rfl) ?_
  exact ⟨rfl, hW.done⟩
 ·
  have H := iteF (of_decide_eq_false hb) H
  rw [hb] at hF
  clear hb
  refine wp_skip ?_
  refine c_then ?_
  refine c_seq (reg_list ?_)
  refine ls hF hW rfl ((y_move hF rfl).q) (fun a w hF hW => ?_)
  refine ls hF hW rfl ((y_add hF rfl rfl rfl).q) (fun a w hF hW => ?_)
  refine ls hF hW rfl ((y_assign hF rfl).q) (fun a w hF hW => ?_)
  refine ls_nil (c_then ?_)
  refine wp_ret ?_
  subst H
  refine post1 (.inl rfl) hF hW rfl (rv_tmp hF rfl) ?_
  exact ⟨rfl, hW.done⟩

theorem H54 : Has Try.prog 54 := ⟨fun args w => run_callFunc_body Try.func54 rfl (by decide) args w⟩
noncomputable def r43_put_l1 (p0 : List Int) (p1 : Int) : (List Int × Bool × Int) → Option ((List Int × Bool × Int) ⊕ (List Int × Bool))
  | (x3, x4, x5) => (if x5 < (p0.length : Int) then ((if (!x4) = true then (ix p0 x5).bind fun x9 => some (decide ((r03_Place p1) < (r03_Place x9))) else some false).bind fun x8 => (if x8 = true then (app x3 ([p1] : List Int)).bind fun x10 => some (x10, true) else some (x3, x4))).bind fun (x6, x7) => (ix p0 x5).bind fun x11 => (app x6 ([x11] : List Int)).bind fun x12 => some (.inl (x12, x7, w64 (x5 + 1))) else some (.inr (x3, x4)))
noncomputable def r43_put (p0 : List Int) (p1 : Int) : Option (List Int) := (loopW (r43_put_l1 p0 p1) ([], false, 0)).bind fun (x1, x2) => (if (!x2) = true then (app x1 ([p1] : List Int)).bind fun x14 => some x14 else some x1).bind fun x13 => some x13
theorem r43_put_c (Y : Nat → Prop) (w0 : World) (v1 : Value) (p0 : List Int) (p1 : Int) (r : List Int) (H : r43_put p0 p1 = some r) (h_v1 : Sl w0 (NX []) (Rp.int .u64) v1 p0) :
    Calls Try.prog 49 #[v1, .int .u64 p1] w0 fun e w' => ∃ x : Value, e = .returned (x) ∧ Stw ⟨Y, [], w0⟩ [] [row (x) 22 (Rp.int .u64) r] w' := by
 refine enter Try.func49 rfl Try.ntmps49 rfl (fun a hF => ?_)
 have hW := Stw.start Y w0
 unfold r43_put at H
 refine c_seq (reg_list ?_)
 refine ls hF hW rfl ((y_assign hF rfl).q) (fun a w hF hW => ?_)
 refine ls_nil (c_then ?_)
 refine c_seq (reg_list ?_)
 refine ls hF hW rfl ((y_assign hF rfl).q) (fun a w hF hW => ?_)
 refine ls_nil (c_then ?_)
 refine c_seq (reg_list ?_)
 refine ls hF hW rfl ((y_assign hF rfl).q) (fun a w hF hW => ?_)
 refine ls_nil (c_then ?_)
 obtain ⟨o1, G1, K1⟩ := bindE H
 refine c_seqJ (fun a w => ∃ x1 : List Int, ∃ x2 : Bool, ∃ v2 : Value, some ((x1, x2)) = some o1 ∧ Fr 44 [] [(1, .int .u64 p1), (4, .slice none 0 0), (5, v2), (6, .bool x2)] a ∧ Stw ⟨Y, [], w0⟩ [] [row v2 22 (Rp.int .u64) x1] w) ?_ ?_
 ·
  have H := G1
  clear G1 K1
  refine c_seq (reg_list ?_)
  refine ls hF hW rfl ((y_assign hF rfl).q) (fun a w hF hW => ?_)
  refine ls_nil (c_then ?_)
  refine wp_block ?_
  have hW := hW.nilRow 22 (Rp.int .u64)
  refine c_loopW H (fun s a w => ∃ v3 : Value, Fr 44 [] [(0, v1), (1, .int .u64 p1), (4, .slice none 0 0), (5, v3), (6, .bool s.2.1), (7, .int .i64 s.2.2)] a ∧ Stw ⟨Y, [], w0⟩ [] [row v3 22 (Rp.int .u64) s.1] w) ⟨(Value.slice none 0 0), hF.re ⟨rfl, rfl, rfl, rfl, rfl, rfl, trivial⟩, hW⟩ (fun s o a w H L2 hR => ?_)
  obtain ⟨x3, x4, x5⟩ := s
  obtain ⟨v3, hF, hW⟩ := hR
  have hF : Fr 44 [] [(0, v1), (1, .int .u64 p1), (4, .slice none 0 0), (5, v3), (6, .bool x4), (7, .int .i64 x5)] a := hF
  have hW : Stw ⟨Y, [], w0⟩ [] [row v3 22 (Rp.int .u64) x3] w := hW
  rw [r43_put_l1] at H
  refine c_seq ?_
  refine c_seq (reg_list ?_)
  iterate 2 refine ls hF hW rfl ((y_move hF rfl).q) (fun a w hF hW => ?_)
  refine ls hF hW rfl ((y_len (r := (Rp.int .u64)) (l := p0) u33_ rfl hF rfl (rdc_ro h_v1)).q) (fun a w hF hW => ?_)
  refine ls hF hW rfl ((y_lss hF rfl rfl).q) (fun a w hF hW => ?_)
  refine ls_nil (c_then ?_)
  refine c_cond hF rfl (fun hb => ?_) (fun hb => ?_)
  ·
   have H := iteT (of_decide_eq_true hb) H
   rw [hb] at hF
   clear hb
   refine wp_skip ?_
   refine c_then ?_
   refine c_seq ?_
   refine wp_block ?_
   obtain ⟨o3, G3, K3⟩ := bindE H
   refine c_seqJ (fun a w => ∃ x6 : List Int, ∃ x7 : Bool, ∃ v4 : Value, some ((x6, x7)) = some o3 ∧ Fr 44 [] [(0, v1), (1, .int .u64 p1), (4, .slice none 0 0), (5, v4), (6, .bool x7), (7, .int .i64 x5)] a ∧ Stw ⟨Y, [], w0⟩ [] [row v4 22 (Rp.int .u64) x6] w) ?_ ?_
   ·
    have H := G3
    clear G3 K3
    obtain ⟨o4, G4, K4⟩ := bindE H
    refine c_seqJ (fun a w => ∃ x8 : Bool, some (x8) = some o4 ∧ Fr 44 [] [(0, v1), (1, .int .u64 p1), (4, .slice none 0 0), (5, v3), (6, .bool x4), (7, .int .i64 x5), (25, .bool x8)] a ∧ Stw ⟨Y, [], w0⟩ [] [row v3 22 (Rp.int .u64) x3] w) ?_ ?_
    ·
     have H := G4
     clear G4 K4
     refine reg_quiet hW MO (by kernel_rfl) ?_
     refine qs hF rfl ((y_move hF rfl).q) (fun a hF => ?_)
     refine qs hF rfl ((y_not hF rfl).q) (fun a hF => ?_)
     refine qs hF rfl ((y_move hF rfl).q) (fun a hF => ?_)
     rcases Bool.eq_false_or_eq_true (!x4) with hb | hb
     ·
      have H := iteT hb H
      rw [hb] at hF
      clear hb
      refine qs_w hF (wanted_y hF rfl rfl rfl rfl) rfl (Nat.le_of_ble_eq_true rfl) ((y_move hF rfl).q) (fun a hF => ?_)
      refine qs_w hF (wanted_y hF rfl rfl rfl rfl) rfl (Nat.le_of_ble_eq_true rfl) (y_call (v := Value.int .u64 (r03_Place p1)) hF H54 rfl (fun w hW => r03_Place_c any w p1 _ rfl)) (fun a hF => ?_)
      iterate 2 refine qs_w hF (wanted_y hF rfl rfl rfl rfl) rfl (Nat.le_of_ble_eq_true rfl) ((y_move hF rfl).q) (fun a hF => ?_)
      obtain ⟨x9, h1, H⟩ := bindE H
      refine qs_w hF (wanted_y hF rfl rfl rfl rfl) rfl (Nat.le_of_ble_eq_true rfl) ((y_index (r := (Rp.int .u64)) L33 hF rfl rfl (rdc_ro h_v1) h1).q) (fun a hF => ?_)
      refine qs_w hF (wanted_y hF rfl rfl rfl rfl) rfl (Nat.le_of_ble_eq_true rfl) ((y_load_el (y := Value.int .u64 x9) (j := 0) (i := x5) hF rfl rfl (rdc_ro h_v1) h1 Fl.int.to T22 rfl).q) (fun a hF => ?_)
      refine qs_w hF (wanted_y hF rfl rfl rfl rfl) rfl (Nat.le_of_ble_eq_true rfl) (y_call (v := Value.int .u64 (r03_Place x9)) hF H54 rfl (fun w hW => r03_Place_c any w x9 _ rfl)) (fun a hF => ?_)
      refine qs_w hF (wanted_y hF rfl rfl rfl rfl) rfl (Nat.le_of_ble_eq_true rfl) ((y_lss hF rfl rfl).q) (fun a hF => ?_)
      refine qs hF rfl ((y_pick_t hF rfl rfl rfl).q) (fun a hF => ?_)
      refine quiet_end (fun w hW => ?_)
      refine c_then ?_
      exact ⟨_, H, hF.re ⟨rfl, rfl, rfl, rfl, rfl, rfl, rfl, trivial⟩, hW⟩
     ·
      have H := iteF (by rw [hb]; decide) H
      rw [hb] at hF
      clear hb
      iterate 8 refine qs_skip hF (wanted_n hF rfl rfl rfl rfl rfl) rfl rfl (fun a hF => ?_)
      refine qs hF rfl ((y_pick_f hF rfl rfl rfl).q) (fun a hF => ?_)
      refine quiet_end (fun w hW => ?_)
      refine c_then ?_
      exact ⟨_, H, hF.re ⟨rfl, rfl, rfl, rfl, rfl, rfl, rfl, trivial⟩, hW⟩
    rintro a w ⟨x8, hj, hF, hW⟩
    have hj := Option.some.inj hj
    subst hj
    have H := K4
    clear G4 K4
    refine c_cond hF rfl (fun hb => ?_) (fun hb => ?_)
    ·
     have H := iteT hb H
     rw [hb] at hF
     clear hb
     refine c_seq (reg_list ?_)
     iterate 2 refine ls hF hW rfl ((y_move hF rfl).q) (fun a w hF hW => ?_)
     refine l_lit (z := Value.int .u64 0) (cs := [.int .u64 p1]) (Rp.int .u64) ([p1] : List Int) hF hW rfl L33 Z22 rfl rfl rfl rfl rfl rfl (Fl.int.repL _ _ ([p1] : List Int)) (fun v5 a w hF hW => ?_)
     obtain ⟨x10, h2, H⟩ := bindE H
     refine l_append (r := (Rp.int .u64)) (i := 1) hF hW rfl L33 rfl rfl rfl rfl (src_row hW 0 rfl) h2 rfl (fun v6 a w hF hW => ?_)
     have hW : Stw ⟨Y, [], w0⟩ [] [row v6 22 (Rp.int .u64) x10, row v5 22 (Rp.int .u64) ([p1] : List Int)] w := hW
     refine ls hF hW rfl ((y_assign hF rfl).q) (fun a w hF hW => ?_)
     refine ls_nil (c_then ?_)
     refine reg_list ?_
     refine ls hF hW rfl ((y_assign hF rfl).q) (fun a w hF hW => ?_)
     refine ls_nil (c_then ?_)
     have hW := hW.sub (M' := []) (Z' := [row v6 22 (Rp.int .u64) x10]) (List.Sublist.refl _) (List.Sublist.cons_cons _ (List.nil_sublist _))
     exact ⟨_, _, (v6), H, hF.re ⟨rfl, rfl, rfl, rfl, rfl, rfl, trivial⟩, hW⟩
    ·
     have H := iteF (by rw [hb]; decide) H
     rw [hb] at hF
     clear hb
     refine wp_skip ?_
     refine c_then ?_
     exact ⟨_, _, (v3), H, hF.re ⟨rfl, rfl, rfl, rfl, rfl, rfl, trivial⟩, hW⟩
   rintro a w ⟨x6, x7, v4, hj, hF, hW⟩
   have hj := Option.some.inj hj
   subst hj
   have H := K3
   clear G3 K3
   refine reg_list ?_
   iterate 3 refine ls hF hW rfl ((y_move hF rfl).q) (fun a w hF hW => ?_)
   obtain ⟨x11, h3, H⟩ := bindE H
   refine ls hF hW rfl ((y_index (r := (Rp.int .u64)) L33 hF rfl rfl (rdc_ro h_v1) h3).q) (fun a w hF hW => ?_)
   refine ls hF hW rfl ((y_load_el (y := Value.int .u64 x11) (j := 0) (i := x5) hF rfl rfl (rdc_ro h_v1) h3 Fl.int.to T22 rfl).q) (fun a w hF hW => ?_)
   refine l_lit (z := Value.int .u64 0) (cs := [.int .u64 x11]) (Rp.int .u64) ([x11] : List Int) hF hW rfl L33 Z22 rfl rfl rfl rfl rfl rfl (Fl.int.repL _ _ ([x11] : List Int)) (fun v7 a w hF hW => ?_)
   obtain ⟨x12, h4, H⟩ := bindE H
   refine l_append (r := (Rp.int .u64)) (i := 1) hF hW rfl L33 rfl rfl rfl rfl (src_row hW 0 rfl) h4 rfl (fun v8 a w hF hW => ?_)
   have hW : Stw ⟨Y, [], w0⟩ [] [row v8 22 (Rp.int .u64) x12, row v7 22 (Rp.int .u64) ([x11] : List Int)] w := hW
   refine ls hF hW rfl ((y_assign hF rfl).q) (fun a w hF hW => ?_)
   refine ls_nil ?_
   refine b_normal ?_
   refine c_then ?_
   refine reg_list ?_
   refine ls hF hW rfl ((y_move hF rfl).q) (fun a w hF hW => ?_)
   refine ls hF hW rfl ((y_add hF rfl rfl rfl).q) (fun a w hF hW => ?_)
   refine ls hF hW rfl ((y_assign hF rfl).q) (fun a w hF hW => ?_)
   refine ls_nil (c_then ?_)
   have hW := hW.sub (M' := []) (Z' := [row v8 22 (Rp.int .u64) x12]) (List.Sublist.refl _) (List.Sublist.cons_cons _ (List.nil_sublist _))
   exact ⟨_, H, (v8), hF.re ⟨rfl, rfl, rfl, rfl, rfl, rfl, trivial⟩, hW⟩
  ·
   have H := iteF (of_decide_eq_false hb) H
   rw [hb] at hF
   clear hb
   refine wp_exit ?_
   iterate 2 refine e_then ?_
   refine e_block ?_
   refine c_then ?_
   have H := L2 _ H
   exact ⟨_, _, (v3), H, hF.re ⟨rfl, rfl, rfl, rfl, trivial⟩, hW⟩
 rintro a w ⟨x1, x2, v2, hj, hF, hW⟩
 have hj := Option.some.inj hj
 subst hj
 have H := K1
 clear G1 K1
 obtain ⟨o5, G5, K5⟩ := bindE H
 refine c_seqJ (fun a w => ∃ x13 : List Int, ∃ v9 : Value, some (x13) = some o5 ∧ Fr 44 [] [(4, .slice none 0 0), (5, v9)] a ∧ Stw ⟨Y, [], w0⟩ [] [row v9 22 (Rp.int .u64) x13] w) ?_ ?_
 ·
  have H := G5
  clear G5 K5
  refine c_seq (reg_list ?_)
  refine ls hF hW rfl ((y_move hF rfl).q) (fun a w hF hW => ?_)
  refine ls hF hW rfl ((y_not hF rfl).q) (fun a w hF hW => ?_)
  refine ls_nil (c_then ?_)
  refine c_cond hF rfl (fun hb => ?_) (fun hb => ?_)
  ·
   have H := iteT hb H
   rw [hb] at hF
   clear hb
   refine reg_list ?_
   iterate 2 refine ls hF hW rfl ((y_move hF rfl).q) (fun a w hF hW => ?_)
   refine l_lit (z := Value.int .u64 0) (cs := [.int .u64 p1]) (Rp.int .u64) ([p1] : List Int) hF hW rfl L33 Z22 rfl rfl rfl rfl rfl rfl (Fl.int.repL _ _ ([p1] : List Int)) (fun v10 a w hF hW => ?_)
   obtain ⟨x14, h5, H⟩ := bindE H
   refine l_append (r := (Rp.int .u64)) (i := 1) hF hW rfl L33 rfl rfl rfl rfl (src_row hW 0 rfl) h5 rfl (fun v11 a w hF hW => ?_)
   have hW : Stw ⟨Y, [], w0⟩ [] [row v11 22 (Rp.int .u64) x14, row v10 22 (Rp.int .u64) ([p1] : List Int)] w := hW
   refine ls hF hW rfl ((y_assign hF rfl).q) (fun a w hF hW => ?_)
   refine ls_nil (c_then ?_)
   have hW := hW.sub (M' := []) (Z' := [row v11 22 (Rp.int .u64) x14]) (List.Sublist.refl _) (List.Sublist.cons_cons _ (List.nil_sublist _))
   exact ⟨_, (v11), H, hF.re ⟨rfl, rfl, trivial⟩, hW⟩
  ·
   have H := iteF (by rw [hb]; decide) H
   rw [hb] at hF
   clear hb
   refine wp_skip ?_
   refine c_then ?_
   exact ⟨_, (v2), H, hF.re ⟨rfl, rfl, trivial⟩, hW⟩
 rintro a w ⟨x13, v9, hj, hF, hW⟩
 have hj := Option.some.inj hj
 subst hj
 have H := K5
 clear G5 K5
 refine c_seq (reg_list ?_)
 refine ls hF hW rfl ((y_move hF rfl).q) (fun a w hF hW => ?_)
 refine ls hF hW rfl ((y_assign hF rfl).q) (fun a w hF hW => ?_)
 refine ls_nil (c_then ?_)
 refine wp_ret ?_
 have H := Option.some.inj H
 subst H
 refine post1 (.inl rfl) hF hW rfl (rv_tmp hF rfl) ?_
 exact ⟨(v9), rfl, hW⟩

theorem H49 : Has Try.prog 49 := ⟨fun args w => run_callFunc_body Try.func49 rfl (by decide) args w⟩
noncomputable def r43_Sort_l1 (p0 : List Int) : (List Int × Int) → Option ((List Int × Int) ⊕ (List Int))
  | (x2, x3) => (if x3 < (p0.length : Int) then (ix p0 x3).bind fun x4 => (r43_put x2 (r03_Clean x4)).bind fun x5 => some (.inl (x5, w64 (x3 + 1))) else some (.inr x2))
noncomputable def r43_Sort (p0 : List Int) : Option (List Int) := (loopW (r43_Sort_l1 p0) ([], 0)).bind fun x1 => some x1
theorem r43_Sort_c (Y : Nat → Prop) (w0 : World) (v1 : Value) (p0 : List Int) (r : List Int) (H : r43_Sort p0 = some r) (h_v1 : Sl w0 (NX []) (Rp.int .u64) v1 p0) :
    Calls Try.prog 19 #[v1] w0 fun e w' => ∃ x : Value, e = .returned (x) ∧ Stw ⟨Y, [], w0⟩ [] [row (x) 22 (Rp.int .u64) r] w' := by
 refine enter Try.func19 rfl Try.ntmps19 rfl (fun a hF => ?_)
 have hW := Stw.start Y w0
 unfold r43_Sort at H
 refine c_seq (reg_list ?_)
 refine ls hF hW rfl ((y_assign hF rfl).q) (fun a w hF hW => ?_)
 refine ls_nil (c_then ?_)
 refine c_seq (reg_list ?_)
 refine ls hF hW rfl ((y_assign hF rfl).q) (fun a w hF hW => ?_)
 refine ls_nil (c_then ?_)
 obtain ⟨o1, G1, K1⟩ := bindE H
 refine c_seqJ (fun a w => ∃ x1 : List Int, ∃ v2 : Value, some (x1) = some o1 ∧ Fr 19 [] [(2, .slice none 0 0), (3, v2)] a ∧ Stw ⟨Y, [], w0⟩ [] [row v2 22 (Rp.int .u64) x1] w) ?_ ?_
 ·
  have H := G1
  clear G1 K1
  refine c_seq (reg_list ?_)
  refine ls hF hW rfl ((y_assign hF rfl).q) (fun a w hF hW => ?_)
  refine ls_nil (c_then ?_)
  refine wp_block ?_
  have hW := hW.nilRow 22 (Rp.int .u64)
  refine c_loopW H (fun s a w => ∃ v3 : Value, Fr 19 [] [(0, v1), (2, .slice none 0 0), (3, v3), (4, .int .i64 s.2)] a ∧ Stw ⟨Y, [], w0⟩ [] [row v3 22 (Rp.int .u64) s.1] w) ⟨(Value.slice none 0 0), hF.re ⟨rfl, rfl, rfl, rfl, trivial⟩, hW⟩ (fun s o a w H L2 hR => ?_)
  obtain ⟨x2, x3⟩ := s
  obtain ⟨v3, hF, hW⟩ := hR
  have hF : Fr 19 [] [(0, v1), (2, .slice none 0 0), (3, v3), (4, .int .i64 x3)] a := hF
  have hW : Stw ⟨Y, [], w0⟩ [] [row v3 22 (Rp.int .u64) x2] w := hW
  rw [r43_Sort_l1] at H
  refine c_seq ?_
  refine c_seq (reg_list ?_)
  iterate 2 refine ls hF hW rfl ((y_move hF rfl).q) (fun a w hF hW => ?_)
  refine ls hF hW rfl ((y_len (r := (Rp.int .u64)) (l := p0) u33_ rfl hF rfl (rdc_ro h_v1)).q) (fun a w hF hW => ?_)
  refine ls hF hW rfl ((y_lss hF rfl rfl).q) (fun a w hF hW => ?_)
  refine ls_nil (c_then ?_)
  refine c_cond hF rfl (fun hb => ?_) (fun hb => ?_)
  ·
   have H := iteT (of_decide_eq_true hb) H
   rw [hb] at hF
   clear hb
   refine wp_skip ?_
   refine c_then ?_
   refine c_seq ?_
   refine wp_block ?_
   refine reg_list ?_
   iterate 3 refine ls hF hW rfl ((y_move hF rfl).q) (fun a w hF hW => ?_)
   obtain ⟨x4, h1, H⟩ := bindE H
   refine ls hF hW rfl ((y_index (r := (Rp.int .u64)) L33 hF rfl rfl (rdc_ro h_v1) h1).q) (fun a w hF hW => ?_)
   refine ls hF hW rfl ((y_load_el (y := Value.int .u64 x4) (j := 0) (i := x3) hF rfl rfl (rdc_ro h_v1) h1 Fl.int.to T22 rfl).q) (fun a w hF hW => ?_)
   refine ls hF hW rfl (y_call (v := Value.int .u64 (r03_Clean x4)) hF H13 rfl (fun w hW => r03_Clean_c any w x4 _ rfl)) (fun a w hF hW => ?_)
   obtain ⟨x5, h2, H⟩ := bindE H
   refine l_callG (Ml := []) (Zl := []) (M := []) (Z := [row v3 22 (Rp.int .u64) x2]) (β := Value) (rv := fun x => x) (MM := fun x => []) (ZZ := fun x => [row x 22 (Rp.int .u64) x5]) hF hW H49 rfl rfl (fun hL => r43_put_c _ w (v3) x2 (r03_Clean x4) _ h2 ((rdc_row 0 rfl) w hW).nx) (fun x a w hF hW => ?_)
   obtain ⟨v4, rfl⟩ : ∃ y, y = x := ⟨x, rfl⟩
   have hW : Stw ⟨Y, [], w0⟩ [] [row v4 22 (Rp.int .u64) x5, row v3 22 (Rp.int .u64) x2] w := hW
   refine ls hF hW rfl ((y_assign hF rfl).q) (fun a w hF hW => ?_)
   refine ls_nil ?_
   refine b_normal ?_
   refine c_then ?_
   refine reg_list ?_
   refine ls hF hW rfl ((y_move hF rfl).q) (fun a w hF hW => ?_)
   refine ls hF hW rfl ((y_add hF rfl rfl rfl).q) (fun a w hF hW => ?_)
   refine ls hF hW rfl ((y_assign hF rfl).q) (fun a w hF hW => ?_)
   refine ls_nil (c_then ?_)
   have hW := hW.sub (M' := []) (Z' := [row v4 22 (Rp.int .u64) x5]) (List.Sublist.refl _) (List.Sublist.cons_cons _ (List.nil_sublist _))
   exact ⟨_, H, (v4), hF.re ⟨rfl, rfl, rfl, rfl, trivial⟩, hW⟩
  ·
   have H := iteF (of_decide_eq_false hb) H
   rw [hb] at hF
   clear hb
   refine wp_exit ?_
   iterate 2 refine e_then ?_
   refine e_block ?_
   refine c_then ?_
   have H := L2 _ H
   exact ⟨_, (v3), H, hF.re ⟨rfl, rfl, trivial⟩, hW⟩
 rintro a w ⟨x1, v2, hj, hF, hW⟩
 have hj := Option.some.inj hj
 subst hj
 have H := K1
 clear G1 K1
 refine c_seq (reg_list ?_)
 refine ls hF hW rfl ((y_move hF rfl).q) (fun a w hF hW => ?_)
 refine ls hF hW rfl ((y_assign hF rfl).q) (fun a w hF hW => ?_)
 refine ls_nil (c_then ?_)
 refine wp_ret ?_
 have H := Option.some.inj H
 subst H
 refine post1 (.inl rfl) hF hW rfl (rv_tmp hF rfl) ?_
 exact ⟨(v2), rfl, hW⟩

theorem H19 : Has Try.prog 19 := ⟨fun args w => run_callFunc_body Try.func19 rfl (by decide) args w⟩
noncomputable def r18_Same_l1 (p0 : List Int) (p1 : List Int) : Int → Option (Int ⊕ (Unit ⊕ Bool))
  | x1 => (if x1 < (p0.length : Int) then (ix p0 x1).bind fun x2 => (ix p1 x1).bind fun x3 => (if x2 ≠ x3 then some (.inr (.inr false)) else some (.inl (w64 (x1 + 1)))) else some (.inr (.inl ())))
noncomputable def r18_Same (p0 : List Int) (p1 : List Int) : Option Bool := (if (p0.length : Int) ≠ (p1.length : Int) then some false else orR (loopW (r18_Same_l1 p0 p1) 0) fun _ => some true)
theorem r18_Same_c (Y : Nat → Prop) (w0 : World) (v1 : Value) (v2 : Value) (p0 : List Int) (p1 : List Int) (r : Bool) (H : r18_Same p0 p1 = some r) (h_v1 : Sl w0 (NX []) (Rp.int .u64) v1 p0) (h_v2 : Sl w0 (NX []) (Rp.int .u64) v2 p1) :
    Calls Try.prog 48 #[v1, v2] w0 fun e w' => e = .returned (.bool r) ∧ Below w0.heap.size w0 w' := by
 refine enter Try.func48 rfl Try.ntmps48 rfl (fun a hF => ?_)
 have hW := Stw.start Y w0
 unfold r18_Same at H
 refine c_seq (reg_list ?_)
 refine ls hF hW rfl ((y_assign hF rfl).q) (fun a w hF hW => ?_)
 refine ls_nil (c_then ?_)
 refine c_seq ?_
 refine c_seq (reg_list ?_)
 refine ls hF hW rfl ((y_move hF rfl).q) (fun a w hF hW => ?_)
 refine ls hF hW rfl ((y_len (r := (Rp.int .u64)) (l := p0) u33_ rfl hF rfl (rdc_ro h_v1)).q) (fun a w hF hW => ?_)
 refine ls hF hW rfl ((y_move hF rfl).q) (fun a w hF hW => ?_)
 refine ls hF hW rfl ((y_len (r := (Rp.int .u64)) (l := p1) u33_ rfl hF rfl (rdc_ro h_v2)).q) (fun a w hF hW => ?_)
 refine ls hF hW rfl ((y_neq hF rfl rfl).q) (fun a w hF hW => ?_)
 refine ls_nil (c_then ?_)
 refine c_cond hF rfl (fun hb => ?_) (fun hb => ?_)
 ·
  have H := iteT (of_decide_eq_true hb) H
  rw [hb] at hF
  clear hb
  refine c_seq (reg_list ?_)
  refine ls hF hW rfl ((y_assign hF rfl).q) (fun a w hF hW => ?_)
  refine ls_nil (c_then ?_)
  refine wp_ret ?_
  refine r_then ?_
  have H := Option.some.inj H
  subst H
  refine post1 (.inl rfl) hF hW rfl (rv_tmp hF rfl) ?_
  exact ⟨rfl, hW.done⟩
 ·
  have H := iteF (of_decide_eq_false hb) H
  rw [hb] at hF
  clear hb
  refine wp_skip ?_
  refine c_then ?_
  obtain ⟨o1, G1, K1, L1⟩ := orE H
  refine c_seqJ (fun a w => some (Sum.inl ()) = some o1 ∧ Fr 26 [] [(4, .bool false)] a ∧ Stw ⟨Y, [], w0⟩ [] [] w) ?_ ?_
  ·
   have H := G1
   clear G1 K1
   refine c_seq (reg_list ?_)
   refine ls hF hW rfl ((y_assign hF rfl).q) (fun a w hF hW => ?_)
   refine ls_nil (c_then ?_)
   refine wp_block ?_
   refine c_loopW H (fun s a w => Fr 26 [] [(0, v1), (1, v2), (4, .bool false), (5, .int .i64 s)] a ∧ Stw ⟨Y, [], w0⟩ [] [] w) ⟨hF.re ⟨rfl, rfl, rfl, rfl, trivial⟩, hW⟩ (fun s o a w H L2 hR => ?_)
   obtain ⟨x1, rfl⟩ : ∃ x, x = s := ⟨s, rfl⟩
   obtain ⟨hF, hW⟩ := hR
   have hF : Fr 26 [] [(0, v1), (1, v2), (4, .bool false), (5, .int .i64 x1)] a := hF
   have hW : Stw ⟨Y, [], w0⟩ [] [] w := hW
   rw [r18_Same_l1] at H
   refine c_seq ?_
   refine c_seq (reg_list ?_)
   iterate 2 refine ls hF hW rfl ((y_move hF rfl).q) (fun a w hF hW => ?_)
   refine ls hF hW rfl ((y_len (r := (Rp.int .u64)) (l := p0) u33_ rfl hF rfl (rdc_ro h_v1)).q) (fun a w hF hW => ?_)
   refine ls hF hW rfl ((y_lss hF rfl rfl).q) (fun a w hF hW => ?_)
   refine ls_nil (c_then ?_)
   refine c_cond hF rfl (fun hb => ?_) (fun hb => ?_)
   ·
    have H := iteT (of_decide_eq_true hb) H
    rw [hb] at hF
    clear hb
    refine wp_skip ?_
    refine c_then ?_
    refine c_seq ?_
    refine wp_block ?_
    refine c_seq ?_
    refine reg_quiet hW MO (by kernel_rfl) ?_
    iterate 2 refine qs hF rfl ((y_move hF rfl).q) (fun a hF => ?_)
    obtain ⟨x2, h1, H⟩ := bindE H
    refine qs hF rfl ((y_index (r := (Rp.int .u64)) L33 hF rfl rfl (rdc_ro h_v1) h1).q) (fun a hF => ?_)
    refine qs hF rfl ((y_load_el (y := Value.int .u64 x2) (j := 0) (i := x1) hF rfl rfl (rdc_ro h_v1) h1 Fl.int.to T22 rfl).q) (fun a hF => ?_)
    iterate 2 refine qs hF rfl ((y_move hF rfl).q) (fun a hF => ?_)
    obtain ⟨x3, h2, H⟩ := bindE H
    refine qs hF rfl ((y_index (r := (Rp.int .u64)) L33 hF rfl rfl (rdc_ro h_v2) h2).q) (fun a hF => ?_)
    refine qs hF rfl ((y_load_el (y := Value.int .u64 x3) (j := 0) (i := x1) hF rfl rfl (rdc_ro h_v2) h2 Fl.int.to T22 rfl).q) (fun a hF => ?_)
    refine qs hF rfl ((y_neq hF rfl rfl).q) (fun a hF => ?_)
    refine quiet_end (fun w hW => ?_)
    refine c_then ?_
    refine c_cond hF rfl (fun hb => ?_) (fun hb => ?_)
    ·
     have H := iteT (of_decide_eq_true hb) H
     rw [hb] at hF
     clear hb
     refine c_seq (reg_list ?_)
     refine ls hF hW rfl ((y_assign hF rfl).q) (fun a w hF hW => ?_)
     refine ls_nil (c_then ?_)
     refine wp_ret ?_
     refine r_block ?_
     iterate 2 refine r_then ?_
     refine r_block ?_
     refine r_then ?_
     have H := L2 _ H
     have H := L1 _ H
     have H := Option.some.inj H
     subst H
     refine post1 (.inl rfl) hF hW rfl (rv_tmp hF rfl) ?_
     exact ⟨rfl, hW.done⟩
    ·
     have H := iteF (of_decide_eq_false hb) H
     rw [hb] at hF
     clear hb
     refine wp_skip ?_
     refine b_normal ?_
     refine c_then ?_
     refine reg_list ?_
     refine ls hF hW rfl ((y_move hF rfl).q) (fun a w hF hW => ?_)
     refine ls hF hW rfl ((y_add hF rfl rfl rfl).q) (fun a w hF hW => ?_)
     refine ls hF hW rfl ((y_assign hF rfl).q) (fun a w hF hW => ?_)
     refine ls_nil (c_then ?_)
     exact ⟨_, H, hF.re ⟨rfl, rfl, rfl, rfl, trivial⟩, hW⟩
   ·
    have H := iteF (of_decide_eq_false hb) H
    rw [hb] at hF
    clear hb
    refine wp_exit ?_
    iterate 2 refine e_then ?_
    refine e_block ?_
    refine c_then ?_
    have H := L2 _ H
    exact ⟨H, hF.re ⟨rfl, trivial⟩, hW⟩
  rintro a w ⟨hj, hF, hW⟩
  have H := K1 _ hj
  clear hj G1 K1 L1
  refine c_seq (reg_list ?_)
  refine ls hF hW rfl ((y_assign hF rfl).q) (fun a w hF hW => ?_)
  refine ls_nil (c_then ?_)
  refine wp_ret ?_
  have H := Option.some.inj H
  subst H
  refine post1 (.inl rfl) hF hW rfl (rv_tmp hF rfl) ?_
  exact ⟨rfl, hW.done⟩

theorem H48 : Has Try.prog 48 := ⟨fun args w => run_callFunc_body Try.func48 rfl (by decide) args w⟩
noncomputable def r43_Same (p0 : List Int) (p1 : List Int) : Option Bool := (r18_Same p0 p1).bind fun x1 => some x1
theorem r43_Same_c (Y : Nat → Prop) (w0 : World) (v1 : Value) (v2 : Value) (p0 : List Int) (p1 : List Int) (r : Bool) (H : r43_Same p0 p1 = some r) (h_v1 : Sl w0 (NX []) (Rp.int .u64) v1 p0) (h_v2 : Sl w0 (NX []) (Rp.int .u64) v2 p1) :
    Calls Try.prog 17 #[v1, v2] w0 fun e w' => e = .returned (.bool r) ∧ Below w0.heap.size w0 w' := by
 refine enter Try.func17 rfl Try.ntmps17 rfl (fun a hF => ?_)
 have hW := Stw.start Y w0
 unfold r43_Same at H
 refine c_seq (reg_list ?_)
 refine ls hF hW rfl ((y_assign hF rfl).q) (fun a w hF hW => ?_)
 refine ls_nil (c_then ?_)
 refine c_seq (reg_list ?_)
 iterate 2 refine ls hF hW rfl ((y_move hF rfl).q) (fun a w hF hW => ?_)
 obtain ⟨x1, h1, H⟩ := bindE H
 refine ls hF hW rfl (y_call (v := Value.bool x1) hF H48 rfl (fun w hW => r18_Same_c any w (v1) (v2) p0 p1 _ h1 (((rdc_ro h_v1) : Rdc _ _ _ _ _ _) w hW).nx (((rdc_ro h_v2) : Rdc _ _ _ _ _ _) w hW).nx)) (fun a w hF hW => ?_)
 refine ls hF hW rfl ((y_assign hF rfl).q) (fun a w hF hW => ?_)
 refine ls_nil (c_then ?_)
 refine wp_ret ?_
 have H := Option.some.inj H
 subst H
 refine post1 (.inl rfl) hF hW rfl (rv_tmp hF rfl) ?_
 exact ⟨rfl, hW.done⟩

theorem H17 : Has Try.prog 17 := ⟨fun args w => run_callFunc_body Try.func17 rfl (by decide) args w⟩
noncomputable def meter_Middle (p0 : List Nat) : Option Nat := (if (p0.length : Int) = 0 then some (float_Clean math_NaN) else (meter_Sort p0).bind fun x1 => (ix x1 (w64 (Int.tdiv (w64 ((p0.length : Int) - 1)) 2))).bind fun x2 => some x2)
theorem meter_Middle_c (Y : Nat → Prop) (w0 : World) (v1 : Value) (p0 : List Nat) (r : Nat) (H : meter_Middle p0 = some r) (s_v1 : Sl w0 Y (Rp.flt .f64) v1 p0) :
    Calls Try.prog 20 #[v1] w0 fun e w' => e = .returned (.float .f64 r) ∧ Below w0.heap.size w0 w' := by
 refine enter Try.func20 rfl Try.ntmps20 rfl (fun a hF => ?_)
 have hW := Stw.start Y w0
 have h_v1 := hW.nx s_v1
 unfold meter_Middle at H
 refine c_seq (reg_list ?_)
 refine ls hF hW rfl ((y_assign hF rfl).q) (fun a w hF hW => ?_)
 refine ls_nil (c_then ?_)
 refine c_seq ?_
 refine c_seq (reg_list ?_)
 refine ls hF hW rfl ((y_move hF rfl).q) (fun a w hF hW => ?_)
 refine ls hF hW rfl ((y_len (r := (Rp.flt .f64)) (l := p0) u34_ rfl hF rfl (rdc_ro h_v1)).q) (fun a w hF hW => ?_)
 refine ls hF hW rfl ((y_eql hF rfl rfl).q) (fun a w hF hW => ?_)
 refine ls_nil (c_then ?_)
 refine c_cond hF rfl (fun hb => ?_) (fun hb => ?_)
 ·
  have H := iteT (of_decide_eq_true hb) H
  rw [hb] at hF
  clear hb
  refine c_seq (reg_list ?_)
  refine ls hF hW rfl (y_call (v := Value.float .f64 math_NaN) hF H50 rfl (fun w hW => math_NaN_c any w _ rfl)) (fun a w hF hW => ?_)
  refine ls hF hW rfl (y_call (v := Value.float .f64 (float_Clean math_NaN)) hF H39 rfl (fun w hW => float_Clean_c any w math_NaN _ rfl)) (fun a w hF hW => ?_)
  refine ls hF hW rfl ((y_assign hF rfl).q) (fun a w hF hW => ?_)
  refine ls_nil (c_then ?_)
  refine wp_ret ?_
  refine r_then ?_
  have H := Option.some.inj H
  subst H
  refine post1 (.inl rfl) hF hW rfl (rv_tmp hF rfl) ?_
  exact ⟨rfl, hW.done⟩
 ·
  have H := iteF (of_decide_eq_false hb) H
  rw [hb] at hF
  clear hb
  refine wp_skip ?_
  refine c_then ?_
  refine c_seq (reg_list ?_)
  refine ls hF hW rfl ((y_move hF rfl).q) (fun a w hF hW => ?_)
  obtain ⟨x1, h1, H⟩ := bindE H
  refine l_callG (Ml := []) (Zl := []) (M := []) (Z := []) (β := Value) (rv := fun x => x) (MM := fun x => []) (ZZ := fun x => [row x 25 (Rp.flt .f64) x1]) hF hW H15 rfl rfl (fun hL => meter_Sort_c _ w (v1) p0 _ h1 (hW.old s_v1)) (fun x a w hF hW => ?_)
  obtain ⟨v2, rfl⟩ : ∃ y, y = x := ⟨x, rfl⟩
  have hW : Stw ⟨Y, [], w0⟩ [] [row v2 25 (Rp.flt .f64) x1] w := hW
  refine ls hF hW rfl ((y_move hF rfl).q) (fun a w hF hW => ?_)
  refine ls hF hW rfl ((y_len (r := (Rp.flt .f64)) (l := p0) u34_ rfl hF rfl (rdc_ro h_v1)).q) (fun a w hF hW => ?_)
  refine ls hF hW rfl ((y_sub hF rfl rfl rfl).q) (fun a w hF hW => ?_)
  refine ls hF hW rfl ((y_quo hF rfl rfl (by decide) rfl).q) (fun a w hF hW => ?_)
  obtain ⟨x2, h2, H⟩ := bindE H
  refine ls hF hW rfl ((y_index (r := (Rp.flt .f64)) L34 hF rfl rfl (rdc_row 0 rfl) h2).q) (fun a w hF hW => ?_)
  refine ls hF hW rfl ((y_load_el (y := Value.float .f64 x2) (j := 0) (i := w64 (Int.tdiv (w64 ((p0.length : Int) - 1)) 2)) hF rfl rfl (rdc_row 0 rfl) h2 Fl.flt.to T25 rfl).q) (fun a w hF hW => ?_)
  refine ls hF hW rfl ((y_assign hF rfl).q) (fun a w hF hW => ?_)
  refine ls_nil (c_then ?_)
  refine wp_ret ?_
  have H := Option.some.inj H
  subst H
  refine post1 (.inl rfl) hF hW rfl (rv_tmp hF rfl) ?_
  exact ⟨rfl, hW.done⟩

theorem H20 : Has Try.prog 20 := ⟨fun args w => run_callFunc_body Try.func20 rfl (by decide) args w⟩
noncomputable def r43_Middle (p0 : List Int) : Option Int := (if (p0.length : Int) = 0 then some 9221120237041090561 else (r43_Sort p0).bind fun x1 => (ix x1 (w64 (Int.tdiv (w64 ((p0.length : Int) - 1)) 2))).bind fun x2 => some x2)
theorem r43_Middle_c (Y : Nat → Prop) (w0 : World) (v1 : Value) (p0 : List Int) (r : Int) (H : r43_Middle p0 = some r) (h_v1 : Sl w0 (NX []) (Rp.int .u64) v1 p0) :
    Calls Try.prog 21 #[v1] w0 fun e w' => e = .returned (.int .u64 r) ∧ Below w0.heap.size w0 w' := by
 refine enter Try.func21 rfl Try.ntmps21 rfl (fun a hF => ?_)
 have hW := Stw.start Y w0
 unfold r43_Middle at H
 refine c_seq (reg_list ?_)
 refine ls hF hW rfl ((y_assign hF rfl).q) (fun a w hF hW => ?_)
 refine ls_nil (c_then ?_)
 refine c_seq ?_
 refine c_seq (reg_list ?_)
 refine ls hF hW rfl ((y_move hF rfl).q) (fun a w hF hW => ?_)
 refine ls hF hW rfl ((y_len (r := (Rp.int .u64)) (l := p0) u33_ rfl hF rfl (rdc_ro h_v1)).q) (fun a w hF hW => ?_)
 refine ls hF hW rfl ((y_eql hF rfl rfl).q) (fun a w hF hW => ?_)
 refine ls_nil (c_then ?_)
 refine c_cond hF rfl (fun hb => ?_) (fun hb => ?_)
 ·
  have H := iteT (of_decide_eq_true hb) H
  rw [hb] at hF
  clear hb
  refine c_seq (reg_list ?_)
  refine ls hF hW rfl ((y_assign hF rfl).q) (fun a w hF hW => ?_)
  refine ls_nil (c_then ?_)
  refine wp_ret ?_
  refine r_then ?_
  have H := Option.some.inj H
  subst H
  refine post1 (.inl rfl) hF hW rfl (rv_tmp hF rfl) ?_
  exact ⟨rfl, hW.done⟩
 ·
  have H := iteF (of_decide_eq_false hb) H
  rw [hb] at hF
  clear hb
  refine wp_skip ?_
  refine c_then ?_
  refine c_seq (reg_list ?_)
  refine ls hF hW rfl ((y_move hF rfl).q) (fun a w hF hW => ?_)
  obtain ⟨x1, h1, H⟩ := bindE H
  refine l_callG (Ml := []) (Zl := []) (M := []) (Z := []) (β := Value) (rv := fun x => x) (MM := fun x => []) (ZZ := fun x => [row x 22 (Rp.int .u64) x1]) hF hW H19 rfl rfl (fun hL => r43_Sort_c _ w (v1) p0 _ h1 ((rdc_ro h_v1) w hW).nx) (fun x a w hF hW => ?_)
  obtain ⟨v2, rfl⟩ : ∃ y, y = x := ⟨x, rfl⟩
  have hW : Stw ⟨Y, [], w0⟩ [] [row v2 22 (Rp.int .u64) x1] w := hW
  refine ls hF hW rfl ((y_move hF rfl).q) (fun a w hF hW => ?_)
  refine ls hF hW rfl ((y_len (r := (Rp.int .u64)) (l := p0) u33_ rfl hF rfl (rdc_ro h_v1)).q) (fun a w hF hW => ?_)
  refine ls hF hW rfl ((y_sub hF rfl rfl rfl).q) (fun a w hF hW => ?_)
  refine ls hF hW rfl ((y_quo hF rfl rfl (by decide) rfl).q) (fun a w hF hW => ?_)
  obtain ⟨x2, h2, H⟩ := bindE H
  refine ls hF hW rfl ((y_index (r := (Rp.int .u64)) L33 hF rfl rfl (rdc_row 0 rfl) h2).q) (fun a w hF hW => ?_)
  refine ls hF hW rfl ((y_load_el (y := Value.int .u64 x2) (j := 0) (i := w64 (Int.tdiv (w64 ((p0.length : Int) - 1)) 2)) hF rfl rfl (rdc_row 0 rfl) h2 Fl.int.to T22 rfl).q) (fun a w hF hW => ?_)
  refine ls hF hW rfl ((y_assign hF rfl).q) (fun a w hF hW => ?_)
  refine ls_nil (c_then ?_)
  refine wp_ret ?_
  have H := Option.some.inj H
  subst H
  refine post1 (.inl rfl) hF hW rfl (rv_tmp hF rfl) ?_
  exact ⟨rfl, hW.done⟩

theorem H21 : Has Try.prog 21 := ⟨fun args w => run_callFunc_body Try.func21 rfl (by decide) args w⟩
noncomputable def meter_Spread (p0 : List Nat) : Option Nat := (if (p0.length : Int) = 0 then some 0 else (meter_Sort p0).bind fun x1 => (ix x1 (w64 ((x1.length : Int) - 1))).bind fun x2 => (ix x1 0).bind fun x3 => some (float_Clean (fsub x2 x3)))
theorem meter_Spread_c (Y : Nat → Prop) (w0 : World) (v1 : Value) (p0 : List Nat) (r : Nat) (H : meter_Spread p0 = some r) (s_v1 : Sl w0 Y (Rp.flt .f64) v1 p0) :
    Calls Try.prog 22 #[v1] w0 fun e w' => e = .returned (.float .f64 r) ∧ Below w0.heap.size w0 w' := by
 refine enter Try.func22 rfl Try.ntmps22 rfl (fun a hF => ?_)
 have hW := Stw.start Y w0
 have h_v1 := hW.nx s_v1
 unfold meter_Spread at H
 refine c_seq (reg_list ?_)
 refine ls hF hW rfl ((y_assign hF rfl).q) (fun a w hF hW => ?_)
 refine ls_nil (c_then ?_)
 refine c_seq ?_
 refine c_seq (reg_list ?_)
 refine ls hF hW rfl ((y_move hF rfl).q) (fun a w hF hW => ?_)
 refine ls hF hW rfl ((y_len (r := (Rp.flt .f64)) (l := p0) u34_ rfl hF rfl (rdc_ro h_v1)).q) (fun a w hF hW => ?_)
 refine ls hF hW rfl ((y_eql hF rfl rfl).q) (fun a w hF hW => ?_)
 refine ls_nil (c_then ?_)
 refine c_cond hF rfl (fun hb => ?_) (fun hb => ?_)
 ·
  have H := iteT (of_decide_eq_true hb) H
  rw [hb] at hF
  clear hb
  refine c_seq (reg_list ?_)
  refine ls hF hW rfl ((y_assign hF rfl).q) (fun a w hF hW => ?_)
  refine ls_nil (c_then ?_)
  refine wp_ret ?_
  refine r_then ?_
  have H := Option.some.inj H
  subst H
  refine post1 (.inl rfl) hF hW rfl (rv_tmp hF rfl) ?_
  exact ⟨rfl, hW.done⟩
 ·
  have H := iteF (of_decide_eq_false hb) H
  rw [hb] at hF
  clear hb
  refine wp_skip ?_
  refine c_then ?_
  refine c_seq (reg_list ?_)
  refine ls hF hW rfl ((y_move hF rfl).q) (fun a w hF hW => ?_)
  obtain ⟨x1, h1, H⟩ := bindE H
  refine l_callG (Ml := []) (Zl := []) (M := []) (Z := []) (β := Value) (rv := fun x => x) (MM := fun x => []) (ZZ := fun x => [row x 25 (Rp.flt .f64) x1]) hF hW H15 rfl rfl (fun hL => meter_Sort_c _ w (v1) p0 _ h1 (hW.old s_v1)) (fun x a w hF hW => ?_)
  obtain ⟨v2, rfl⟩ : ∃ y, y = x := ⟨x, rfl⟩
  have hW : Stw ⟨Y, [], w0⟩ [] [row v2 25 (Rp.flt .f64) x1] w := hW
  refine ls hF hW rfl ((y_assign hF rfl).q) (fun a w hF hW => ?_)
  refine ls_nil (c_then ?_)
  refine c_seq ?_
  refine reg_tail 9 hW MO (by kernel_rfl) ?_
  iterate 2 refine qs hF rfl ((y_move hF rfl).q) (fun a hF => ?_)
  refine qs hF rfl ((y_len (r := (Rp.flt .f64)) (l := x1) u34_ rfl hF rfl (rdc_row 0 rfl)).q) (fun a hF => ?_)
  refine qs hF rfl ((y_sub hF rfl rfl rfl).q) (fun a hF => ?_)
  obtain ⟨x2, h2, H⟩ := bindE H
  refine qs hF rfl ((y_index (r := (Rp.flt .f64)) L34 hF rfl rfl (rdc_row 0 rfl) h2).q) (fun a hF => ?_)
  refine qs hF rfl ((y_load_el (y := Value.float .f64 x2) (j := 0) (i := w64 ((x1.length : Int) - 1)) hF rfl rfl (rdc_row 0 rfl) h2 Fl.flt.to T25 rfl).q) (fun a hF => ?_)
  refine qs hF rfl ((y_move hF rfl).q) (fun a hF => ?_)
  obtain ⟨x3, h3, H⟩ := bindE H
  refine qs hF rfl ((y_index (r := (Rp.flt .f64)) L34 hF rfl rfl (rdc_row 0 rfl) h3).q) (fun a hF => ?_)
  refine qs hF rfl ((y_load_el (y := Value.float .f64 x3) (j := 0) (i := 0) hF rfl rfl (rdc_row 0 rfl) h3 Fl.flt.to T25 rfl).q) (fun a hF => ?_)
  refine quiet_end (fun w hW => ?_)
  refine l_fsub hF hW rfl rfl rfl (fun b1 a w c_b1 hF hW => ?_)
  refine ls hF hW rfl (y_call (v := Value.float .f64 (float_Clean b1)) hF H39 rfl (fun w hW => float_Clean_c any w b1 _ rfl)) (fun a w hF hW => ?_)
  rw [float_Clean_cf c_b1] at hF
  refine ls hF hW rfl ((y_assign hF rfl).q) (fun a w hF hW => ?_)
  refine ls_nil (c_then ?_)
  refine wp_ret ?_
  have H := Option.some.inj H
  subst H
  refine post1 (.inl rfl) hF hW rfl (rv_tmp hF rfl) ?_
  exact ⟨rfl, hW.done⟩

theorem H22 : Has Try.prog 22 := ⟨fun args w => run_callFunc_body Try.func22 rfl (by decide) args w⟩
def r43_bits (p0 : Nat) : Int := (r03_Clean (p0 : Int))
theorem r43_bits_c (Y : Nat → Prop) (w0 : World)  (p0 : Nat) (r : Int) (H : r43_bits p0 = r)  :
    Calls Try.prog 40 #[.float .f64 p0] w0 fun e w' => e = .returned (.int .u64 r) ∧ Below w0.heap.size w0 w' := by
 refine enter Try.func40 rfl Try.ntmps40 rfl (fun a hF => ?_)
 have hW := Stw.start Y w0
 unfold r43_bits at H
 refine c_seq (reg_list ?_)
 refine ls hF hW rfl ((y_assign hF rfl).q) (fun a w hF hW => ?_)
 refine ls_nil (c_then ?_)
 refine c_seq (reg_list ?_)
 refine ls hF hW rfl ((y_move hF rfl).q) (fun a w hF hW => ?_)
 refine ls hF hW rfl ((y_ext (v := Value.int .u64 (p0 : Int)) hF X38 rfl (fun w => rfl)).q) (fun a w hF hW => ?_)
 refine ls hF hW rfl (y_call (v := Value.int .u64 (r03_Clean (p0 : Int))) hF H13 rfl (fun w hW => r03_Clean_c any w (p0 : Int) _ rfl)) (fun a w hF hW => ?_)
 refine ls hF hW rfl ((y_assign hF rfl).q) (fun a w hF hW => ?_)
 refine ls_nil (c_then ?_)
 refine wp_ret ?_
 subst H
 refine post1 (.inl rfl) hF hW rfl (rv_tmp hF rfl) ?_
 exact ⟨rfl, hW.done⟩

theorem r43_bits_cf {a b : Nat} (h : cfn a = cfn b) : r43_bits a = r43_bits b := by
  refine cf_of (f := fun a : Nat => r43_bits a) (fun a h => ?_) h
  first
  | (have e1 : math_IsNaN a = true := by unfold math_IsNaN; rw [fEq_nan h]; rfl
     have e2 : math_IsNaN 9221120237041090561 = true := by unfold math_IsNaN; rw [fEq_nan (by decide)]; rfl
     show r43_bits a = r43_bits 9221120237041090561
     unfold r43_bits
     simp only [e1, e2, if_true]; done)
  | exact r03_Clean_nan h

theorem H40 : Has Try.prog 40 := ⟨fun args w => run_callFunc_body Try.func40 rfl (by decide) args w⟩
noncomputable def r43_Spread (p0 : List Int) : Option Int := (if (p0.length : Int) = 0 then some 0 else (r43_Sort p0).bind fun x1 => (ix x1 (w64 ((x1.length : Int) - 1))).bind fun x2 => (ix x1 0).bind fun x3 => some (r43_bits (fsub (Int.toNat x2) (Int.toNat x3))))
theorem r43_Spread_c (Y : Nat → Prop) (w0 : World) (v1 : Value) (p0 : List Int) (r : Int) (H : r43_Spread p0 = some r) (h_v1 : Sl w0 (NX []) (Rp.int .u64) v1 p0) :
    Calls Try.prog 23 #[v1] w0 fun e w' => e = .returned (.int .u64 r) ∧ Below w0.heap.size w0 w' := by
 refine enter Try.func23 rfl Try.ntmps23 rfl (fun a hF => ?_)
 have hW := Stw.start Y w0
 unfold r43_Spread at H
 refine c_seq (reg_list ?_)
 refine ls hF hW rfl ((y_assign hF rfl).q) (fun a w hF hW => ?_)
 refine ls_nil (c_then ?_)
 refine c_seq ?_
 refine c_seq (reg_list ?_)
 refine ls hF hW rfl ((y_move hF rfl).q) (fun a w hF hW => ?_)
 refine ls hF hW rfl ((y_len (r := (Rp.int .u64)) (l := p0) u33_ rfl hF rfl (rdc_ro h_v1)).q) (fun a w hF hW => ?_)
 refine ls hF hW rfl ((y_eql hF rfl rfl).q) (fun a w hF hW => ?_)
 refine ls_nil (c_then ?_)
 refine c_cond hF rfl (fun hb => ?_) (fun hb => ?_)
 ·
  have H := iteT (of_decide_eq_true hb) H
  rw [hb] at hF
  clear hb
  refine c_seq (reg_list ?_)
  refine ls hF hW rfl ((y_assign hF rfl).q) (fun a w hF hW => ?_)
  refine ls_nil (c_then ?_)
  refine wp_ret ?_
  refine r_then ?_
  have H := Option.some.inj H
  subst H
  refine post1 (.inl rfl) hF hW rfl (rv_tmp hF rfl) ?_
  exact ⟨rfl, hW.done⟩
 ·
  have H := iteF (of_decide_eq_false hb) H
  rw [hb] at hF
  clear hb
  refine wp_skip ?_
  refine c_then ?_
  refine c_seq (reg_list ?_)
  refine ls hF hW rfl ((y_move hF rfl).q) (fun a w hF hW => ?_)
  obtain ⟨x1, h1, H⟩ := bindE H
  refine l_callG (Ml := []) (Zl := []) (M := []) (Z := []) (β := Value) (rv := fun x => x) (MM := fun x => []) (ZZ := fun x => [row x 22 (Rp.int .u64) x1]) hF hW H19 rfl rfl (fun hL => r43_Sort_c _ w (v1) p0 _ h1 ((rdc_ro h_v1) w hW).nx) (fun x a w hF hW => ?_)
  obtain ⟨v2, rfl⟩ : ∃ y, y = x := ⟨x, rfl⟩
  have hW : Stw ⟨Y, [], w0⟩ [] [row v2 22 (Rp.int .u64) x1] w := hW
  refine ls hF hW rfl ((y_assign hF rfl).q) (fun a w hF hW => ?_)
  refine ls_nil (c_then ?_)
  refine c_seq ?_
  refine reg_tail 11 hW MO (by kernel_rfl) ?_
  iterate 2 refine qs hF rfl ((y_move hF rfl).q) (fun a hF => ?_)
  refine qs hF rfl ((y_len (r := (Rp.int .u64)) (l := x1) u33_ rfl hF rfl (rdc_row 0 rfl)).q) (fun a hF => ?_)
  refine qs hF rfl ((y_sub hF rfl rfl rfl).q) (fun a hF => ?_)
  obtain ⟨x2, h2, H⟩ := bindE H
  refine qs hF rfl ((y_index (r := (Rp.int .u64)) L33 hF rfl rfl (rdc_row 0 rfl) h2).q) (fun a hF => ?_)
  refine qs hF rfl ((y_load_el (y := Value.int .u64 x2) (j := 0) (i := w64 ((x1.length : Int) - 1)) hF rfl rfl (rdc_row 0 rfl) h2 Fl.int.to T22 rfl).q) (fun a hF => ?_)
  refine qs hF rfl ((y_ext (v := Value.float .f64 (Int.toNat x2)) hF X42 rfl (fun w => rfl)).q) (fun a hF => ?_)
  refine qs hF rfl ((y_move hF rfl).q) (fun a hF => ?_)
  obtain ⟨x3, h3, H⟩ := bindE H
  refine qs hF rfl ((y_index (r := (Rp.int .u64)) L33 hF rfl rfl (rdc_row 0 rfl) h3).q) (fun a hF => ?_)
  refine qs hF rfl ((y_load_el (y := Value.int .u64 x3) (j := 0) (i := 0) hF rfl rfl (rdc_row 0 rfl) h3 Fl.int.to T22 rfl).q) (fun a hF => ?_)
  refine qs hF rfl ((y_ext (v := Value.float .f64 (Int.toNat x3)) hF X42 rfl (fun w => rfl)).q) (fun a hF => ?_)
  refine quiet_end (fun w hW => ?_)
  refine l_fsub hF hW rfl rfl rfl (fun b1 a w c_b1 hF hW => ?_)
  refine ls hF hW rfl (y_call (v := Value.int .u64 (r43_bits b1)) hF H40 rfl (fun w hW => r43_bits_c any w b1 _ rfl)) (fun a w hF hW => ?_)
  rw [r43_bits_cf c_b1] at hF
  refine ls hF hW rfl ((y_assign hF rfl).q) (fun a w hF hW => ?_)
  refine ls_nil (c_then ?_)
  refine wp_ret ?_
  have H := Option.some.inj H
  subst H
  refine post1 (.inl rfl) hF hW rfl (rv_tmp hF rfl) ?_
  exact ⟨rfl, hW.done⟩

end Go.Proofs.Ytdogfpoekndknaa
