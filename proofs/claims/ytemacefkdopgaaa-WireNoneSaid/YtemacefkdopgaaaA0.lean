/- The functions that WireNone reaches, lifted. Conditions: none. -/
import Derived.Test.YtemacefkdopgaaaRows
import Derived.Test.YtemacefkdopgaaaQT
import Derived.Test.YtemacefkdopgaaaOT
import Derived.Test.YtemacefkdopgaaaOD
import Derived.Test.YtemacefkdopgaaaOC
import Derived.Test.YtemacefkdopgaaaOM
import Derived.Test.YtemacefkdopgaaaOX
namespace Go.Proofs.Ytemacefkdopgaaa
open Go Go.RowKit
set_option linter.unusedVariables false
set_option linter.unusedSimpArgs false
set_option maxRecDepth 20000
theorem u28_ : type_of% Try.underlying28 := Try.underlying28
theorem u51_ : type_of% Try.underlying51 := Try.underlying51
theorem Z51 : (Try.prog.info? 51).bind (·.zero) = some (.agg #[.int .i64 0, .int .i64 0, .int .i64 0, .int .i64 0, .int .i64 0, .int .i64 0, .int .i64 0, .int .i64 0, .int .i64 0]) := by kernel_rfl
theorem B51 : Bt Try.prog 51 [.int .i64 0, .int .i64 0, .int .i64 0, .int .i64 0, .int .i64 0, .int .i64 0, .int .i64 0, .int .i64 0, .int .i64 0] [(0, 1), (1, 1), (2, 1), (3, 4), (7, 1), (8, 1)] := ⟨⟨.agg #[.int .i64 0, .int .i64 0, .int .i64 0, .int .i64 0, .int .i64 0, .int .i64 0, .int .i64 0, .int .i64 0, .int .i64 0], by kernel_rfl, rfl⟩, ⟨_, u51_, fun w => by kernel_rfl⟩⟩
theorem T51 : Ty Try.prog 51 true 9 := ⟨by kernel_rfl, by kernel_rfl⟩
def wire_Wires_Look (p1 : Int) : Unit := ()
theorem wire_Wires_Look_c (Y : Nat → Prop) (w0 : World)  (p1 : Int) (r : Unit) (H : wire_Wires_Look p1 = r)  :
    Calls Try.prog 19 #[.pointer none, .int .i64 p1] w0 fun e w' => e = .returned (.tuple #[.agg #[.int .i64 0, .int .i64 0, .int .i64 0, .int .i64 0, .int .i64 0, .int .i64 0, .int .i64 0, .int .i64 0, .int .i64 0], .int .i64 1]) ∧ Below w0.heap.size w0 w' := by
 refine enter Try.func19 rfl Try.ntmps19 rfl (fun a hF => ?_)
 have hW := Stw.start Y w0
 unfold wire_Wires_Look at H
 refine c_seq ?_
 refine reg_list ?_
 refine l_alloc (cs := [.int .i64 0, .int .i64 0, .int .i64 0, .int .i64 0, .int .i64 0, .int .i64 0, .int .i64 0, .int .i64 0, .int .i64 0]) hF hW rfl Z51 rfl (fun b1 a w hF hW => ?_)
 refine ls hF hW rfl ((y_assign hF rfl).q) (fun a w hF hW => ?_)
 refine ls_nil ?_
 refine c_then ?_
 refine c_seq ?_
 refine c_seq ?_
 refine reg_list ?_
 refine ls hF hW rfl ((y_move hF rfl).q) (fun a w hF hW => ?_)
 refine ls hF hW rfl ((y_peq_nil_nil u28_ hF rfl rfl).q) (fun a w hF hW => ?_)
 refine ls_nil ?_
 refine c_then ?_
 refine c_cond_t hF rfl ?_
 refine c_seq ?_
 refine reg_list ?_
 refine ls hF hW rfl ((y_build (v := Value.agg #[.int .i64 0, .int .i64 0, .int .i64 0, .int .i64 0, .int .i64 0, .int .i64 0, .int .i64 0, .int .i64 0, .int .i64 0]) B51 hF rfl rfl rfl).q) (fun a w hF hW => ?_)
 refine l_store (vs := [.int .i64 0, .int .i64 0, .int .i64 0, .int .i64 0, .int .i64 0, .int .i64 0, .int .i64 0, .int .i64 0, .int .i64 0]) (M' := [(b1, [.int .i64 0, .int .i64 0, .int .i64 0, .int .i64 0, .int .i64 0, .int .i64 0, .int .i64 0, .int .i64 0, .int .i64 0])]) 0 hF hW rfl rfl rfl T51 rfl rfl rfl rfl rfl (fun w hW => ?_)
 refine ls hF hW rfl ((y_assign hF rfl).q) (fun a w hF hW => ?_)
 refine ls_nil ?_
 refine c_then ?_
 refine wp_ret ?_
 refine r_then ?_
 subst H
 refine post2 (.inl rfl) hF hW rfl (rv_cell 0 hF rfl rfl T51 rfl) (rv_tmp hF rfl) ?_
 exact ⟨rfl, hW.done⟩

theorem H19 : Has Try.prog 19 := ⟨fun args w => run_callFunc_body Try.func19 rfl (by decide) args w⟩
def wire_Wires_Take (p1 : Int) (p2 : Int) : Unit := ()
theorem wire_Wires_Take_c (Y : Nat → Prop) (w0 : World)  (p1 : Int) (p2 : Int) (r : Unit) (H : wire_Wires_Take p1 p2 = r)  :
    Calls Try.prog 16 #[.pointer none, .int .i64 p1, .int .i64 p2] w0 fun e w' => e = .returned (.tuple #[.agg #[.int .i64 0, .int .i64 0, .int .i64 0, .int .i64 0, .int .i64 0, .int .i64 0, .int .i64 0, .int .i64 0, .int .i64 0], .int .i64 1]) ∧ Below w0.heap.size w0 w' := by
 refine enter Try.func16 rfl Try.ntmps16 rfl (fun a hF => ?_)
 have hW := Stw.start Y w0
 unfold wire_Wires_Take at H
 refine c_seq ?_
 refine reg_list ?_
 refine l_alloc (cs := [.int .i64 0, .int .i64 0, .int .i64 0, .int .i64 0, .int .i64 0, .int .i64 0, .int .i64 0, .int .i64 0, .int .i64 0]) hF hW rfl Z51 rfl (fun b1 a w hF hW => ?_)
 refine ls hF hW rfl ((y_assign hF rfl).q) (fun a w hF hW => ?_)
 refine ls_nil ?_
 refine c_then ?_
 refine c_seq ?_
 refine reg_list ?_
 refine ls hF hW rfl ((y_move hF rfl).q) (fun a w hF hW => ?_)
 refine ls hF hW rfl ((y_move hF rfl).q) (fun a w hF hW => ?_)
 refine ls hF hW rfl (y_call (v := Value.tuple #[.agg #[.int .i64 0, .int .i64 0, .int .i64 0, .int .i64 0, .int .i64 0, .int .i64 0, .int .i64 0, .int .i64 0, .int .i64 0], .int .i64 1]) hF H19 rfl (fun w hW => wire_Wires_Look_c any w p2 _ rfl)) (fun a w hF hW => ?_)
 refine ls hF hW rfl ((y_move hF rfl).q) (fun a w hF hW => ?_)
 refine ls hF hW rfl ((y_extract (v := Value.agg #[.int .i64 0, .int .i64 0, .int .i64 0, .int .i64 0, .int .i64 0, .int .i64 0, .int .i64 0, .int .i64 0, .int .i64 0]) hF rfl rfl).q) (fun a w hF hW => ?_)
 refine ls hF hW rfl ((y_extract (v := Value.int .i64 1) hF rfl rfl).q) (fun a w hF hW => ?_)
 refine l_alloc (cs := [.int .i64 0, .int .i64 0, .int .i64 0, .int .i64 0, .int .i64 0, .int .i64 0, .int .i64 0, .int .i64 0, .int .i64 0]) hF hW rfl Z51 rfl (fun b2 a w hF hW => ?_)
 refine l_store (vs := [.int .i64 0, .int .i64 0, .int .i64 0, .int .i64 0, .int .i64 0, .int .i64 0, .int .i64 0, .int .i64 0, .int .i64 0]) (M' := [(b2, [.int .i64 0, .int .i64 0, .int .i64 0, .int .i64 0, .int .i64 0, .int .i64 0, .int .i64 0, .int .i64 0, .int .i64 0]), (b1, [.int .i64 0, .int .i64 0, .int .i64 0, .int .i64 0, .int .i64 0, .int .i64 0, .int .i64 0, .int .i64 0, .int .i64 0])]) 0 hF hW rfl rfl rfl T51 rfl rfl rfl rfl rfl (fun w hW => ?_)
 refine ls hF hW rfl ((y_assign hF rfl).q) (fun a w hF hW => ?_)
 refine ls_nil ?_
 refine c_then ?_
 refine c_seq ?_
 refine c_seq ?_
 refine reg_list ?_
 refine ls hF hW rfl ((y_move hF rfl).q) (fun a w hF hW => ?_)
 refine ls hF hW rfl ((y_neq hF rfl rfl).q) (fun a w hF hW => ?_)
 rw [show decide ((1 : Int) ≠ 0) = true from by decide] at hF
 refine ls_nil ?_
 refine c_then ?_
 refine c_cond_t hF rfl ?_
 refine c_seq ?_
 refine reg_list ?_
 refine ls hF hW rfl ((y_build (v := Value.agg #[.int .i64 0, .int .i64 0, .int .i64 0, .int .i64 0, .int .i64 0, .int .i64 0, .int .i64 0, .int .i64 0, .int .i64 0]) B51 hF rfl rfl rfl).q) (fun a w hF hW => ?_)
 refine ls hF hW rfl ((y_move hF rfl).q) (fun a w hF hW => ?_)
 refine l_store (vs := [.int .i64 0, .int .i64 0, .int .i64 0, .int .i64 0, .int .i64 0, .int .i64 0, .int .i64 0, .int .i64 0, .int .i64 0]) (M' := [(b2, [.int .i64 0, .int .i64 0, .int .i64 0, .int .i64 0, .int .i64 0, .int .i64 0, .int .i64 0, .int .i64 0, .int .i64 0]), (b1, [.int .i64 0, .int .i64 0, .int .i64 0, .int .i64 0, .int .i64 0, .int .i64 0, .int .i64 0, .int .i64 0, .int .i64 0])]) 1 hF hW rfl rfl rfl T51 rfl rfl rfl rfl rfl (fun w hW => ?_)
 refine ls hF hW rfl ((y_assign hF rfl).q) (fun a w hF hW => ?_)
 refine ls_nil ?_
 refine c_then ?_
 refine wp_ret ?_
 refine r_then ?_
 subst H
 refine post2 (.inl rfl) hF hW rfl (rv_cell 1 hF rfl rfl T51 rfl) (rv_tmp hF rfl) ?_
 exact ⟨rfl, hW.done⟩

theorem H16 : Has Try.prog 16 := ⟨fun args w => run_callFunc_body Try.func16 rfl (by decide) args w⟩
theorem T36 : Ty Try.prog 36 true 4 := ⟨by kernel_rfl, by kernel_rfl⟩
def wire_Wires_Put (p1 : Int) (p2 : Int) (p3 : Int) (p4 : Int) (p5 : Int × Int × Int × Int) : Unit := ()
theorem wire_Wires_Put_c (Y : Nat → Prop) (w0 : World)  (p1 : Int) (p2 : Int) (p3 : Int) (p4 : Int) (p5 : Int × Int × Int × Int) (r : Unit) (H : wire_Wires_Put p1 p2 p3 p4 p5 = r)  :
    Calls Try.prog 18 #[.pointer none, .int .i64 p1, .int .i64 p2, .int .i64 p3, .int .i64 p4, .agg #[.int .i64 p5.1, .int .i64 p5.2.1, .int .i64 p5.2.2.1, .int .i64 p5.2.2.2]] w0 fun e w' => e = .returned (.int .i64 1) ∧ Below w0.heap.size w0 w' := by
 refine enter Try.func18 rfl Try.ntmps18 rfl (fun a hF => ?_)
 have hW := Stw.start Y w0
 unfold wire_Wires_Put at H
 refine c_seq ?_
 refine reg_list ?_
 refine l_box (cs := [.int .i64 p5.1, .int .i64 p5.2.1, .int .i64 p5.2.2.1, .int .i64 p5.2.2.2]) hF hW rfl rfl rfl (fun b1 a w hF hW => ?_)
 refine ls hF hW rfl ((y_assign hF rfl).q) (fun a w hF hW => ?_)
 refine ls_nil ?_
 refine c_then ?_
 refine c_seq ?_
 refine c_seq ?_
 refine reg_list ?_
 refine ls hF hW rfl ((y_move hF rfl).q) (fun a w hF hW => ?_)
 refine ls hF hW rfl ((y_peq_nil_nil u28_ hF rfl rfl).q) (fun a w hF hW => ?_)
 refine ls_nil ?_
 refine c_then ?_
 refine c_cond_t hF rfl ?_
 refine c_seq ?_
 refine reg_list ?_
 refine ls hF hW rfl ((y_assign hF rfl).q) (fun a w hF hW => ?_)
 refine ls_nil ?_
 refine c_then ?_
 refine wp_ret ?_
 refine r_then ?_
 subst H
 refine post1 (.inl rfl) hF hW rfl (rv_tmp hF rfl) ?_
 exact ⟨rfl, hW.done⟩

theorem H18 : Has Try.prog 18 := ⟨fun args w => run_callFunc_body Try.func18 rfl (by decide) args w⟩
def wire_Wires_Len  : Unit := ()
theorem wire_Wires_Len_c (Y : Nat → Prop) (w0 : World)   (r : Unit) (H : wire_Wires_Len  = r)  :
    Calls Try.prog 11 #[.pointer none] w0 fun e w' => e = .returned (.int .i64 0) ∧ Below w0.heap.size w0 w' := by
 refine enter Try.func11 rfl Try.ntmps11 rfl (fun a hF => ?_)
 have hW := Stw.start Y w0
 unfold wire_Wires_Len at H
 refine c_seq ?_
 refine reg_list ?_
 refine ls hF hW rfl ((y_assign hF rfl).q) (fun a w hF hW => ?_)
 refine ls_nil ?_
 refine c_then ?_
 refine c_seq ?_
 refine c_seq ?_
 refine reg_list ?_
 refine ls hF hW rfl ((y_move hF rfl).q) (fun a w hF hW => ?_)
 refine ls hF hW rfl ((y_peq_nil_nil u28_ hF rfl rfl).q) (fun a w hF hW => ?_)
 refine ls_nil ?_
 refine c_then ?_
 refine c_cond_t hF rfl ?_
 refine c_seq ?_
 refine reg_list ?_
 refine ls hF hW rfl ((y_assign hF rfl).q) (fun a w hF hW => ?_)
 refine ls_nil ?_
 refine c_then ?_
 refine wp_ret ?_
 refine r_then ?_
 subst H
 refine post1 (.inl rfl) hF hW rfl (rv_tmp hF rfl) ?_
 exact ⟨rfl, hW.done⟩

theorem H11 : Has Try.prog 11 := ⟨fun args w => run_callFunc_body Try.func11 rfl (by decide) args w⟩
def wire_Wires_Due (p1 : Int) : Unit := ()
theorem wire_Wires_Due_c (Y : Nat → Prop) (w0 : World)  (p1 : Int) (r : Unit) (H : wire_Wires_Due p1 = r)  :
    Calls Try.prog 15 #[.pointer none, .int .i64 p1] w0 fun e w' => e = .returned (.slice none 0 0) ∧ Below w0.heap.size w0 w' := by
 refine enter Try.func15 rfl Try.ntmps15 rfl (fun a hF => ?_)
 have hW := Stw.start Y w0
 unfold wire_Wires_Due at H
 refine c_seq ?_
 refine reg_list ?_
 refine ls hF hW rfl ((y_assign hF rfl).q) (fun a w hF hW => ?_)
 refine ls_nil ?_
 refine c_then ?_
 refine c_seq ?_
 refine c_seq ?_
 refine reg_list ?_
 refine ls hF hW rfl ((y_move hF rfl).q) (fun a w hF hW => ?_)
 refine ls hF hW rfl ((y_peq_nil_nil u28_ hF rfl rfl).q) (fun a w hF hW => ?_)
 refine ls_nil ?_
 refine c_then ?_
 refine c_cond_t hF rfl ?_
 refine c_seq ?_
 refine reg_list ?_
 refine ls hF hW rfl ((y_assign hF rfl).q) (fun a w hF hW => ?_)
 refine ls_nil ?_
 refine c_then ?_
 refine wp_ret ?_
 refine r_then ?_
 subst H
 refine post1 (.inl rfl) hF hW rfl (rv_tmp hF rfl) ?_
 exact ⟨rfl, hW.done⟩

theorem H15 : Has Try.prog 15 := ⟨fun args w => run_callFunc_body Try.func15 rfl (by decide) args w⟩
abbrev R36 : Rp (Int × Int × Int × Int) := (Rp.pair (Rp.int .i64) (Rp.pair (Rp.int .i64) (Rp.pair (Rp.int .i64) (Rp.int .i64))))
abbrev R51 : Rp (Int × Int × Int × (Int × Int × Int × Int) × Int × Int) := (Rp.pair (Rp.int .i64) (Rp.pair (Rp.int .i64) (Rp.pair (Rp.int .i64) (Rp.pair R36 (Rp.pair (Rp.int .i64) (Rp.int .i64))))))
def wire_Wires_Next  : Unit := ()
theorem wire_Wires_Next_c (Y : Nat → Prop) (w0 : World)   (r : Unit) (H : wire_Wires_Next  = r)  :
    Calls Try.prog 12 #[.pointer none] w0 fun e w' => e = .returned (.int .i64 (-1)) ∧ Below w0.heap.size w0 w' := by
 refine enter Try.func12 rfl Try.ntmps12 rfl (fun a hF => ?_)
 have hW := Stw.start Y w0
 unfold wire_Wires_Next at H
 refine c_seq ?_
 refine reg_list ?_
 refine ls hF hW rfl ((y_assign hF rfl).q) (fun a w hF hW => ?_)
 refine ls_nil ?_
 refine c_then ?_
 refine c_seq ?_
 refine c_seq ?_
 refine reg_list ?_
 refine ls hF hW rfl ((y_move hF rfl).q) (fun a w hF hW => ?_)
 refine ls hF hW rfl (y_call (v := Value.int .i64 0) hF H11 rfl (fun w hW => wire_Wires_Len_c any w _ rfl)) (fun a w hF hW => ?_)
 refine ls hF hW rfl ((y_eql hF rfl rfl).q) (fun a w hF hW => ?_)
 rw [show decide ((0 : Int) = 0) = true from by decide] at hF
 refine ls_nil ?_
 refine c_then ?_
 refine c_cond_t hF rfl ?_
 refine c_seq ?_
 refine reg_list ?_
 refine ls hF hW rfl ((y_assign hF rfl).q) (fun a w hF hW => ?_)
 refine ls_nil ?_
 refine c_then ?_
 refine wp_ret ?_
 refine r_then ?_
 subst H
 refine post1 (.inl rfl) hF hW rfl (rv_tmp hF rfl) ?_
 exact ⟨rfl, hW.done⟩

theorem u22_ : type_of% Try.underlying22 := Try.underlying22
theorem u23_ : type_of% Try.underlying23 := Try.underlying23
theorem u25_ : type_of% Try.underlying25 := Try.underlying25
theorem u59_ : type_of% Try.underlying59 := Try.underlying59
theorem u75_ : type_of% Try.underlying75 := Try.underlying75
theorem u81_ : type_of% Try.underlying81 := Try.underlying81
theorem u84_ : type_of% Try.underlying84 := Try.underlying84
theorem H12 : Has Try.prog 12 := ⟨fun args w => run_callFunc_body Try.func12 rfl (by decide) args w⟩
theorem B59 : Bt Try.prog 59 [.int .i64 0, .int .i64 0, .int .i64 0, .int .i64 0, .int .i64 0, .int .i64 0] [(0, 1), (1, 1), (2, 1), (3, 1), (4, 1), (5, 1)] := ⟨⟨.agg #[.int .i64 0, .int .i64 0, .int .i64 0, .int .i64 0, .int .i64 0, .int .i64 0], by kernel_rfl, rfl⟩, ⟨_, u59_, fun w => by kernel_rfl⟩⟩
theorem Z59 : (Try.prog.info? 59).bind (·.zero) = some (.agg #[.int .i64 0, .int .i64 0, .int .i64 0, .int .i64 0, .int .i64 0, .int .i64 0]) := by kernel_rfl
abbrev R59 : Rp (Int × Int × Int × Int × Int × Int) := (Rp.pair (Rp.int .i64) (Rp.pair (Rp.int .i64) (Rp.pair (Rp.int .i64) (Rp.pair (Rp.int .i64) (Rp.pair (Rp.int .i64) (Rp.int .i64))))))
def E59 (a : Int × Int × Int × Int × Int × Int) : List Value := [.int .i64 a.1, .int .i64 a.2.1, .int .i64 a.2.2.1, .int .i64 a.2.2.2.1, .int .i64 a.2.2.2.2.1, .int .i64 a.2.2.2.2.2]
theorem F59 : Fl R59 E59 := (Fl.pair Fl.int (Fl.pair Fl.int (Fl.pair Fl.int (Fl.pair Fl.int (Fl.pair Fl.int Fl.int)))))
theorem L22 : Et Try.prog 22 59 6 48 := Et.of u22_ (by kernel_rfl) (by kernel_rfl) (by kernel_rfl) (by decide)
theorem B25 : Bt Try.prog 25 [.int .i64 0, .slice none 0 0, .slice none 0 0] [(0, 1), (1, 1), (2, 1)] := ⟨⟨.agg #[.int .i64 0, .slice none 0 0, .slice none 0 0], by kernel_rfl, rfl⟩, ⟨_, u25_, fun w => by kernel_rfl⟩⟩
abbrev R75 : Rp (Int × Int) := (Rp.pair (Rp.int .i64) (Rp.int .i64))
theorem T25 : Ty Try.prog 25 true 3 := ⟨by kernel_rfl, by kernel_rfl⟩
theorem T3 : Ty Try.prog 3 false 1 := ⟨by kernel_rfl, by kernel_rfl⟩
theorem T22 : Ty Try.prog 22 false 1 := ⟨by kernel_rfl, by kernel_rfl⟩
theorem T23 : Ty Try.prog 23 false 1 := ⟨by kernel_rfl, by kernel_rfl⟩
abbrev KE84 (x : Int × Int) : Value := .agg #[.int .i64 x.1, .int .i64 x.2]
abbrev KE85 (x : Unit) : Value := .agg #[]
theorem T59 : Ty Try.prog 59 true 6 := ⟨by kernel_rfl, by kernel_rfl⟩
theorem B84 : Bt Try.prog 84 [.int .i64 0, .int .i64 0] [(0, 1), (1, 1)] := ⟨⟨.agg #[.int .i64 0, .int .i64 0], by kernel_rfl, rfl⟩, ⟨_, u84_, fun w => by kernel_rfl⟩⟩
theorem Z84 : (Try.prog.info? 84).bind (·.zero) = some (.agg #[.int .i64 0, .int .i64 0]) := by kernel_rfl
abbrev R84 : Rp (Int × Int) := (Rp.pair (Rp.int .i64) (Rp.int .i64))
def E84 (a : Int × Int) : List Value := [.int .i64 a.1, .int .i64 a.2]
theorem F84 : Fl R84 E84 := (Fl.pair Fl.int Fl.int)
theorem L81 : Et Try.prog 81 84 2 16 := Et.of u81_ (by kernel_rfl) (by kernel_rfl) (by kernel_rfl) (by decide)
theorem L23 : Et Try.prog 23 75 2 16 := Et.of u23_ (by kernel_rfl) (by kernel_rfl) (by kernel_rfl) (by decide)
def E75 (a : Int × Int) : List Value := [.int .i64 a.1, .int .i64 a.2]
theorem F75 : Fl R75 E75 := (Fl.pair Fl.int Fl.int)
theorem T75 : Ty Try.prog 75 true 2 := ⟨by kernel_rfl, by kernel_rfl⟩
theorem Z75 : (Try.prog.info? 75).bind (·.zero) = some (.agg #[.int .i64 0, .int .i64 0]) := by kernel_rfl
noncomputable def topo_places_l1 (p0 : Int × (List (Int × Int × Int × Int × Int × Int)) × (List (Int × Int))) : ((List (Int × Int)) × Int) → Option (((List (Int × Int)) × Int) ⊕ (List (Int × Int)))
  | (x2, x3) => (if x3 < (p0.2.1.length : Int) then (ix p0.2.1 x3).bind fun x4 => (app x2 ([(x4.1, x4.2.1), (x4.2.2.1, x4.2.2.2.1)] : List (Int × Int))).bind fun x5 => some (.inl (x5, w64 (x3 + 1))) else some (.inr x2))
noncomputable def topo_places_l2 (p0 : Int × (List (Int × Int × Int × Int × Int × Int)) × (List (Int × Int))) : ((List (Int × Int)) × Int) → Option (((List (Int × Int)) × Int) ⊕ (List (Int × Int)))
  | (x7, x8) => (if x8 < (p0.2.2.length : Int) then (ix p0.2.2 x8).bind fun x9 => (app x7 ([x9] : List (Int × Int))).bind fun x10 => some (.inl (x10, w64 (x8 + 1))) else some (.inr x7))
noncomputable def topo_places (p0 : Int × (List (Int × Int × Int × Int × Int × Int)) × (List (Int × Int))) : Option (List (Int × Int)) := (loopW (topo_places_l1 p0) ([], 0)).bind fun x1 => (loopW (topo_places_l2 p0) (x1, 0)).bind fun x6 => some x6
theorem topo_places_c (Y : Nat → Prop) (w0 : World) (v1 : Value) (v2 : Value) (p0 : Int × (List (Int × Int × Int × Int × Int × Int)) × (List (Int × Int))) (r : (List (Int × Int))) (H : topo_places p0 = some r) (h_v1 : Sl w0 (NX []) R59 v1 p0.2.1) (h_v2 : Sl w0 (NX []) R75 v2 p0.2.2) :
    Calls Try.prog 35 #[.agg #[.int .i64 p0.1, v1, v2]] w0 fun e w' => ∃ x : Value, e = .returned (x) ∧ Stw ⟨Y, [], w0⟩ [] [row (x) 84 R84 r] w' := by
 refine enter Try.func35 rfl Try.ntmps35 rfl (fun a hF => ?_)
 have hW := Stw.start Y w0
 unfold topo_places at H
 refine c_seq ?_
 refine reg_list ?_
 refine l_box (cs := [.int .i64 p0.1, v1, v2]) hF hW rfl rfl rfl (fun b1 a w hF hW => ?_)
 refine ls hF hW rfl ((y_assign hF rfl).q) (fun a w hF hW => ?_)
 refine ls_nil ?_
 refine c_then ?_
 refine c_seq ?_
 refine reg_list ?_
 refine ls hF hW rfl ((y_assign hF rfl).q) (fun a w hF hW => ?_)
 refine ls_nil ?_
 refine c_then ?_
 obtain ⟨o1, G1, K1⟩ := bindE H
 refine c_seqJ (fun a w => ∃ x1 : List (Int × Int), ∃ v3 : Value, some (x1) = some o1 ∧ Fr 46 [] [(1, .pointer (some ⟨b1, 0, none⟩)), (2, .slice none 0 0), (3, v3)] a ∧ Stw ⟨Y, [], w0⟩ [(b1, [.int .i64 p0.1, v1, v2])] [row v3 84 R84 x1] w) ?_ ?_
 ·
  have H := G1
  clear G1 K1
  refine c_seq ?_
  refine reg_list ?_
  refine ls hF hW rfl ((y_fieldAddr u25_ rfl rfl rfl T22 hF rfl 1 rfl).q) (fun a w hF hW => ?_)
  refine ls hF hW rfl ((y_load (v := v1) 0 hF rfl rfl T22 rfl).q) (fun a w hF hW => ?_)
  refine ls hF hW rfl ((y_len (r := R59) (l := p0.2.1) u22_ rfl hF rfl (rdc_ro h_v1)).q) (fun a w hF hW => ?_)
  refine ls hF hW rfl ((y_move hF rfl).q) (fun a w hF hW => ?_)
  refine ls_nil ?_
  refine c_then ?_
  refine wp_block ?_
  have hW := hW.nilRow 84 R84
  refine c_loopW H (fun s a w => ∃ v4 : Value, Fr 46 [] [(1, .pointer (some ⟨b1, 0, none⟩)), (2, .slice none 0 0), (3, v4), (9, v1), (10, .int .i64 (p0.2.1.length : Int)), (11, .int .i64 s.2)] a ∧ Stw ⟨Y, [], w0⟩ [(b1, [.int .i64 p0.1, v1, v2])] [row v4 84 R84 s.1] w) ⟨(Value.slice none 0 0), hF.re ⟨rfl, rfl, rfl, rfl, rfl, rfl, trivial⟩, hW⟩ (fun s o a w H L2 hR => ?_)
  obtain ⟨x2, x3⟩ := s
  obtain ⟨v4, hF, hW⟩ := hR
  have hF : Fr 46 [] [(1, .pointer (some ⟨b1, 0, none⟩)), (2, .slice none 0 0), (3, v4), (9, v1), (10, .int .i64 (p0.2.1.length : Int)), (11, .int .i64 x3)] a := hF
  have hW : Stw ⟨Y, [], w0⟩ [(b1, [.int .i64 p0.1, v1, v2])] [row v4 84 R84 x2] w := hW
  rw [topo_places_l1] at H
  refine c_seq ?_
  refine reg_list ?_
  refine ls hF hW rfl ((y_lss hF rfl rfl).q) (fun a w hF hW => ?_)
  refine ls_nil ?_
  refine c_then ?_
  refine c_seq ?_
  refine c_cond hF rfl (fun hb => ?_) (fun hb => ?_)
  ·
   have H := iteT (of_decide_eq_true hb) H
   rw [hb] at hF
   clear hb
   refine wp_skip ?_
   refine c_then ?_
   refine c_seq ?_
   refine wp_block ?_
   refine c_seq ?_
   refine reg_list ?_
   obtain ⟨x4, h1, H⟩ := bindE H
   refine ls hF hW rfl ((y_index (r := R59) L22 hF rfl rfl (rdc_ro h_v1) h1).q) (fun a w hF hW => ?_)
   refine ls hF hW rfl ((y_load_el (y := Value.agg #[.int .i64 x4.1, .int .i64 x4.2.1, .int .i64 x4.2.2.1, .int .i64 x4.2.2.2.1, .int .i64 x4.2.2.2.2.1, .int .i64 x4.2.2.2.2.2]) (j := 0) (i := x3) hF rfl rfl (rdc_ro h_v1) h1 F59.to T59 rfl).q) (fun a w hF hW => ?_)
   refine l_alloc (cs := [.int .i64 0, .int .i64 0, .int .i64 0, .int .i64 0, .int .i64 0, .int .i64 0]) hF hW rfl Z59 rfl (fun b2 a w hF hW => ?_)
   refine l_store (vs := [.int .i64 x4.1, .int .i64 x4.2.1, .int .i64 x4.2.2.1, .int .i64 x4.2.2.2.1, .int .i64 x4.2.2.2.2.1, .int .i64 x4.2.2.2.2.2]) (M' := [(b2, [.int .i64 x4.1, .int .i64 x4.2.1, .int .i64 x4.2.2.1, .int .i64 x4.2.2.2.1, .int .i64 x4.2.2.2.2.1, .int .i64 x4.2.2.2.2.2]), (b1, [.int .i64 p0.1, v1, v2])]) 0 hF hW rfl rfl rfl T59 rfl rfl rfl rfl rfl (fun w hW => ?_)
   refine ls_nil ?_
   refine c_then ?_
   refine reg_list ?_
   refine ls hF hW rfl ((y_move hF rfl).q) (fun a w hF hW => ?_)
   refine ls hF hW rfl ((y_fieldAddr u59_ rfl rfl rfl T3 hF rfl 0 rfl).q) (fun a w hF hW => ?_)
   refine ls hF hW rfl ((y_load (v := Value.int .i64 x4.1) 0 hF rfl rfl T3 rfl).q) (fun a w hF hW => ?_)
   refine ls hF hW rfl ((y_fieldAddr u59_ rfl rfl rfl T3 hF rfl 1 rfl).q) (fun a w hF hW => ?_)
   refine ls hF hW rfl ((y_load (v := Value.int .i64 x4.2.1) 0 hF rfl rfl T3 rfl).q) (fun a w hF hW => ?_)
   refine ls hF hW rfl ((y_build (v := Value.agg #[.int .i64 x4.1, .int .i64 x4.2.1]) B84 hF rfl rfl rfl).q) (fun a w hF hW => ?_)
   refine ls hF hW rfl ((y_fieldAddr u59_ rfl rfl rfl T3 hF rfl 2 rfl).q) (fun a w hF hW => ?_)
   refine ls hF hW rfl ((y_load (v := Value.int .i64 x4.2.2.1) 0 hF rfl rfl T3 rfl).q) (fun a w hF hW => ?_)
   refine ls hF hW rfl ((y_fieldAddr u59_ rfl rfl rfl T3 hF rfl 3 rfl).q) (fun a w hF hW => ?_)
   refine ls hF hW rfl ((y_load (v := Value.int .i64 x4.2.2.2.1) 0 hF rfl rfl T3 rfl).q) (fun a w hF hW => ?_)
   refine ls hF hW rfl ((y_build (v := Value.agg #[.int .i64 x4.2.2.1, .int .i64 x4.2.2.2.1]) B84 hF rfl rfl rfl).q) (fun a w hF hW => ?_)
   refine l_lit (z := Value.agg #[.int .i64 0, .int .i64 0]) (cs := [.int .i64 x4.1, .int .i64 x4.2.1, .int .i64 x4.2.2.1, .int .i64 x4.2.2.2.1]) R84 ([(x4.1, x4.2.1), (x4.2.2.1, x4.2.2.2.1)] : List (Int × Int)) hF hW rfl L81 Z84 rfl rfl rfl rfl rfl rfl (F84.repL _ _ ([(x4.1, x4.2.1), (x4.2.2.1, x4.2.2.2.1)] : List (Int × Int))) (fun v5 a w hF hW => ?_)
   obtain ⟨x5, h2, H⟩ := bindE H
   refine l_append (r := R84) (i := 1) hF hW rfl L81 rfl rfl rfl rfl (src_row hW 0 rfl) h2 rfl (fun v6 a w hF hW => ?_)
   have hW : Stw ⟨Y, [], w0⟩ [(b2, [.int .i64 x4.1, .int .i64 x4.2.1, .int .i64 x4.2.2.1, .int .i64 x4.2.2.2.1, .int .i64 x4.2.2.2.2.1, .int .i64 x4.2.2.2.2.2]), (b1, [.int .i64 p0.1, v1, v2])] [row v6 84 R84 x5, row v5 84 R84 ([(x4.1, x4.2.1), (x4.2.2.1, x4.2.2.2.1)] : List (Int × Int))] w := hW
   refine ls hF hW rfl ((y_assign hF rfl).q) (fun a w hF hW => ?_)
   refine ls_nil ?_
   refine b_normal ?_
   refine c_then ?_
   refine reg_list ?_
   refine ls hF hW rfl ((y_add hF rfl rfl rfl).q) (fun a w hF hW => ?_)
   refine ls hF hW rfl ((y_move hF rfl).q) (fun a w hF hW => ?_)
   refine ls_nil ?_
   refine c_then ?_
   have hW := hW.frontM (i := 1) rfl rfl
   have hW := hW.sub (M' := [(b1, [.int .i64 p0.1, v1, v2])]) (Z' := [row v6 84 R84 x5]) (List.Sublist.cons_cons _ (List.nil_sublist _)) (List.Sublist.cons_cons _ (List.nil_sublist _))
   exact ⟨_, H, (v6), hF.re ⟨rfl, rfl, rfl, rfl, rfl, rfl, trivial⟩, hW⟩
  ·
   have H := iteF (of_decide_eq_false hb) H
   rw [hb] at hF
   clear hb
   refine wp_exit ?_
   refine e_then ?_
   refine e_then ?_
   refine e_block ?_
   refine c_then ?_
   have H := L2 _ H
   exact ⟨_, (v4), H, hF.re ⟨rfl, rfl, rfl, trivial⟩, hW⟩
 rintro a w ⟨x1, v3, hj, hF, hW⟩
 have hj := Option.some.inj hj
 subst hj
 have H := K1
 clear G1 K1
 obtain ⟨o3, G3, K3⟩ := bindE H
 refine c_seqJ (fun a w => ∃ x6 : List (Int × Int), ∃ v7 : Value, some (x6) = some o3 ∧ Fr 46 [] [(2, .slice none 0 0), (3, v7)] a ∧ Stw ⟨Y, [], w0⟩ [(b1, [.int .i64 p0.1, v1, v2])] [row v7 84 R84 x6] w) ?_ ?_
 ·
  have H := G3
  clear G3 K3
  refine c_seq ?_
  refine reg_list ?_
  refine ls hF hW rfl ((y_fieldAddr u25_ rfl rfl rfl T23 hF rfl 2 rfl).q) (fun a w hF hW => ?_)
  refine ls hF hW rfl ((y_load (v := v2) 0 hF rfl rfl T23 rfl).q) (fun a w hF hW => ?_)
  refine ls hF hW rfl ((y_len (r := R75) (l := p0.2.2) u23_ rfl hF rfl (rdc_ro h_v2)).q) (fun a w hF hW => ?_)
  refine ls hF hW rfl ((y_move hF rfl).q) (fun a w hF hW => ?_)
  refine ls_nil ?_
  refine c_then ?_
  refine wp_block ?_
  refine c_loopW H (fun s a w => ∃ v8 : Value, Fr 46 [] [(2, .slice none 0 0), (3, v8), (30, v2), (31, .int .i64 (p0.2.2.length : Int)), (32, .int .i64 s.2)] a ∧ Stw ⟨Y, [], w0⟩ [(b1, [.int .i64 p0.1, v1, v2])] [row v8 84 R84 s.1] w) ⟨(v3), hF.re ⟨rfl, rfl, rfl, rfl, rfl, trivial⟩, hW⟩ (fun s o a w H L4 hR => ?_)
  obtain ⟨x7, x8⟩ := s
  obtain ⟨v8, hF, hW⟩ := hR
  have hF : Fr 46 [] [(2, .slice none 0 0), (3, v8), (30, v2), (31, .int .i64 (p0.2.2.length : Int)), (32, .int .i64 x8)] a := hF
  have hW : Stw ⟨Y, [], w0⟩ [(b1, [.int .i64 p0.1, v1, v2])] [row v8 84 R84 x7] w := hW
  rw [topo_places_l2] at H
  refine c_seq ?_
  refine reg_list ?_
  refine ls hF hW rfl ((y_lss hF rfl rfl).q) (fun a w hF hW => ?_)
  refine ls_nil ?_
  refine c_then ?_
  refine c_seq ?_
  refine c_cond hF rfl (fun hb => ?_) (fun hb => ?_)
  ·
   have H := iteT (of_decide_eq_true hb) H
   rw [hb] at hF
   clear hb
   refine wp_skip ?_
   refine c_then ?_
   refine c_seq ?_
   refine wp_block ?_
   refine c_seq ?_
   refine reg_list ?_
   obtain ⟨x9, h3, H⟩ := bindE H
   refine ls hF hW rfl ((y_index (r := R75) L23 hF rfl rfl (rdc_ro h_v2) h3).q) (fun a w hF hW => ?_)
   refine ls hF hW rfl ((y_load_el (y := Value.agg #[.int .i64 x9.1, .int .i64 x9.2]) (j := 0) (i := x8) hF rfl rfl (rdc_ro h_v2) h3 F75.to T75 rfl).q) (fun a w hF hW => ?_)
   refine l_alloc (cs := [.int .i64 0, .int .i64 0]) hF hW rfl Z75 rfl (fun b3 a w hF hW => ?_)
   refine l_store (vs := [.int .i64 x9.1, .int .i64 x9.2]) (M' := [(b3, [.int .i64 x9.1, .int .i64 x9.2]), (b1, [.int .i64 p0.1, v1, v2])]) 0 hF hW rfl rfl rfl T75 rfl rfl rfl rfl rfl (fun w hW => ?_)
   refine ls_nil ?_
   refine c_then ?_
   refine reg_list ?_
   refine ls hF hW rfl ((y_move hF rfl).q) (fun a w hF hW => ?_)
   refine ls hF hW rfl ((y_fieldAddr u75_ rfl rfl rfl T3 hF rfl 0 rfl).q) (fun a w hF hW => ?_)
   refine ls hF hW rfl ((y_load (v := Value.int .i64 x9.1) 0 hF rfl rfl T3 rfl).q) (fun a w hF hW => ?_)
   refine ls hF hW rfl ((y_fieldAddr u75_ rfl rfl rfl T3 hF rfl 1 rfl).q) (fun a w hF hW => ?_)
   refine ls hF hW rfl ((y_load (v := Value.int .i64 x9.2) 0 hF rfl rfl T3 rfl).q) (fun a w hF hW => ?_)
   refine ls hF hW rfl ((y_build (v := Value.agg #[.int .i64 x9.1, .int .i64 x9.2]) B84 hF rfl rfl rfl).q) (fun a w hF hW => ?_)
   refine l_lit (z := Value.agg #[.int .i64 0, .int .i64 0]) (cs := [.int .i64 x9.1, .int .i64 x9.2]) R84 ([x9] : List (Int × Int)) hF hW rfl L81 Z84 rfl rfl rfl rfl rfl rfl (F84.repL _ _ ([x9] : List (Int × Int))) (fun v9 a w hF hW => ?_)
   obtain ⟨x10, h4, H⟩ := bindE H
   refine l_append (r := R84) (i := 1) hF hW rfl L81 rfl rfl rfl rfl (src_row hW 0 rfl) h4 rfl (fun v10 a w hF hW => ?_)
   have hW : Stw ⟨Y, [], w0⟩ [(b3, [.int .i64 x9.1, .int .i64 x9.2]), (b1, [.int .i64 p0.1, v1, v2])] [row v10 84 R84 x10, row v9 84 R84 ([x9] : List (Int × Int))] w := hW
   refine ls hF hW rfl ((y_assign hF rfl).q) (fun a w hF hW => ?_)
   refine ls_nil ?_
   refine b_normal ?_
   refine c_then ?_
   refine reg_list ?_
   refine ls hF hW rfl ((y_add hF rfl rfl rfl).q) (fun a w hF hW => ?_)
   refine ls hF hW rfl ((y_move hF rfl).q) (fun a w hF hW => ?_)
   refine ls_nil ?_
   refine c_then ?_
   have hW := hW.frontM (i := 1) rfl rfl
   have hW := hW.sub (M' := [(b1, [.int .i64 p0.1, v1, v2])]) (Z' := [row v10 84 R84 x10]) (List.Sublist.cons_cons _ (List.nil_sublist _)) (List.Sublist.cons_cons _ (List.nil_sublist _))
   exact ⟨_, H, (v10), hF.re ⟨rfl, rfl, rfl, rfl, rfl, trivial⟩, hW⟩
  ·
   have H := iteF (of_decide_eq_false hb) H
   rw [hb] at hF
   clear hb
   refine wp_exit ?_
   refine e_then ?_
   refine e_then ?_
   refine e_block ?_
   refine c_then ?_
   have H := L4 _ H
   exact ⟨_, (v8), H, hF.re ⟨rfl, rfl, trivial⟩, hW⟩
 rintro a w ⟨x6, v7, hj, hF, hW⟩
 have hj := Option.some.inj hj
 subst hj
 have H := K3
 clear G3 K3
 refine c_seq ?_
 refine reg_list ?_
 refine ls hF hW rfl ((y_move hF rfl).q) (fun a w hF hW => ?_)
 refine ls hF hW rfl ((y_assign hF rfl).q) (fun a w hF hW => ?_)
 refine ls_nil ?_
 refine c_then ?_
 refine wp_ret ?_
 have H := Option.some.inj H
 subst H
 refine post1 (.inl rfl) hF hW rfl (rv_tmp hF rfl) ?_
 have hW := hW.sub (M' := []) (Z' := [row v7 84 R84 x6]) (List.nil_sublist _) (List.Sublist.refl _)
 exact ⟨(v7), rfl, hW⟩

theorem u3_ : type_of% Try.underlying3 := Try.underlying3
theorem u85_ : type_of% Try.underlying85 := Try.underlying85
theorem H35 : Has Try.prog 35 := ⟨fun args w => run_callFunc_body Try.func35 rfl (by decide) args w⟩
theorem T84 : Ty Try.prog 84 true 2 := ⟨by kernel_rfl, by kernel_rfl⟩
theorem QD84 (dd : Nat) (x0 : Int) (x1 : Int) (y0 : Int) (y1 : Int) (w : World) : (Op.equalIn (dd + 2) 84 (.agg #[.int .i64 x0, .int .i64 x1]) (.agg #[.int .i64 y0, .int .i64 y1])).run Try.prog w = .ok (decide (x0 = y0 ∧ x1 = y1)) w :=
  eq_struct (d := dd + 1) (rs := [decide (x0 = y0), decide (x1 = y1)]) u84_ (by kernel_rfl) ⟨rfl, fld_int (d := dd + 0) rfl rfl u3_ T3 rfl rfl, rfl, fld_int (d := dd + 0) rfl rfl u3_ T3 rfl rfl, trivial⟩ (by simp) w
theorem G84 : Try.prog.eqGuardType Try.prog.depth 84 = false := by kernel_rfl
theorem Q84 (x0 : Int) (x1 : Int) (y0 : Int) (y1 : Int) (w : World) : (Op.equalIn 10000 84 (.agg #[.int .i64 x0, .int .i64 x1]) (.agg #[.int .i64 y0, .int .i64 y1])).run Try.prog w = .ok (decide (x0 = y0 ∧ x1 = y1)) w := QD84 9998 x0 x1 y0 y1 w
theorem KK84 : KeyEnc Try.prog 84 KE84 := ⟨⟨_, u84_, .inl fun _ _ => rfl⟩, fun x y w => (Q84 x.1 x.2 y.1 y.2 w).trans (by congr 1; exact decide_eq_decide.2 (by simp only [Prod.ext_iff])), fun b x w => checkKey_struct (m := 9999) (cs := List.toArray [.int .i64 x.1, .int .i64 x.2]) u84_ ⟨⟨_, part_int T3 rfl, checkKey_int (m := 9998) u3_⟩, ⟨_, part_int T3 rfl, checkKey_int (m := 9998) u3_⟩, trivial⟩ b w, fun x => by simp [Instr.sameBits]⟩
theorem Z85 : (Try.prog.info? 85).bind (·.zero) = some (.agg #[]) := by kernel_rfl
theorem T85 : Ty Try.prog 85 true 0 := ⟨by kernel_rfl, by kernel_rfl⟩
theorem B85 : Bt Try.prog 85 [] [] := ⟨⟨.agg #[], by kernel_rfl, rfl⟩, ⟨_, u85_, fun w => by kernel_rfl⟩⟩
def topo_wrongLink (p0 : Int × Int × Int × Int × Int × Int) : Bool := (decide (p0.1 = p0.2.2.1) || (decide (p0.2.2.2.2.1 < 1) || (decide (p0.2.2.2.2.2 < p0.2.2.2.2.1) || decide (1000 < p0.2.2.2.2.2))))
theorem topo_wrongLink_c (Y : Nat → Prop) (w0 : World)  (p0 : Int × Int × Int × Int × Int × Int) (r : Bool) (H : topo_wrongLink p0 = r)  :
    Calls Try.prog 37 #[.agg #[.int .i64 p0.1, .int .i64 p0.2.1, .int .i64 p0.2.2.1, .int .i64 p0.2.2.2.1, .int .i64 p0.2.2.2.2.1, .int .i64 p0.2.2.2.2.2]] w0 fun e w' => e = .returned (.bool r) ∧ Below w0.heap.size w0 w' := by
 refine enter Try.func37 rfl Try.ntmps37 rfl (fun a hF => ?_)
 have hW := Stw.start Y w0
 unfold topo_wrongLink at H
 refine c_seq ?_
 refine reg_list ?_
 refine l_box (cs := [.int .i64 p0.1, .int .i64 p0.2.1, .int .i64 p0.2.2.1, .int .i64 p0.2.2.2.1, .int .i64 p0.2.2.2.2.1, .int .i64 p0.2.2.2.2.2]) hF hW rfl rfl rfl (fun b1 a w hF hW => ?_)
 refine ls hF hW rfl ((y_assign hF rfl).q) (fun a w hF hW => ?_)
 refine ls_nil ?_
 refine c_then ?_
 refine c_seqJ (fun a w => Fr 25 [] [(2, .bool (decide (p0.1 = p0.2.2.1) || (decide (p0.2.2.2.2.1 < 1) || (decide (p0.2.2.2.2.2 < p0.2.2.2.2.1) || decide (1000 < p0.2.2.2.2.2)))))] a ∧ Stw ⟨Y, [], w0⟩ [(b1, [.int .i64 p0.1, .int .i64 p0.2.1, .int .i64 p0.2.2.1, .int .i64 p0.2.2.2.1, .int .i64 p0.2.2.2.2.1, .int .i64 p0.2.2.2.2.2])] [] w) ?_ ?_
 ·
  refine reg_list ?_
  refine ls hF hW rfl ((y_fieldAddr u59_ rfl rfl rfl T3 hF rfl 0 rfl).q) (fun a w hF hW => ?_)
  refine ls hF hW rfl ((y_load (v := Value.int .i64 p0.1) 0 hF rfl rfl T3 rfl).q) (fun a w hF hW => ?_)
  refine ls hF hW rfl ((y_fieldAddr u59_ rfl rfl rfl T3 hF rfl 2 rfl).q) (fun a w hF hW => ?_)
  refine ls hF hW rfl ((y_load (v := Value.int .i64 p0.2.2.1) 0 hF rfl rfl T3 rfl).q) (fun a w hF hW => ?_)
  refine ls hF hW rfl ((y_eql hF rfl rfl).q) (fun a w hF hW => ?_)
  refine ls hF hW rfl ((y_move hF rfl).q) (fun a w hF hW => ?_)
  rcases Bool.eq_false_or_eq_true (decide (p0.1 = p0.2.2.1)) with hb0 | hb0
  ·
   rw [hb0] at hF
   refine lsn hF rfl rfl rfl rfl rfl rfl rfl (fun a hF => ?_)
   refine lsn hF rfl rfl rfl rfl rfl rfl rfl (fun a hF => ?_)
   refine lsn hF rfl rfl rfl rfl rfl rfl rfl (fun a hF => ?_)
   refine ls hF hW rfl ((y_pick_t hF rfl rfl rfl).q) (fun a w hF hW => ?_)
   refine ls hF hW rfl ((y_move hF rfl).q) (fun a w hF hW => ?_)
   refine lsn hF rfl rfl rfl rfl rfl rfl rfl (fun a hF => ?_)
   refine lsn hF rfl rfl rfl rfl rfl rfl rfl (fun a hF => ?_)
   refine lsn hF rfl rfl rfl rfl rfl rfl rfl (fun a hF => ?_)
   refine lsn hF rfl rfl rfl rfl rfl rfl rfl (fun a hF => ?_)
   refine lsn hF rfl rfl rfl rfl rfl rfl rfl (fun a hF => ?_)
   refine ls hF hW rfl ((y_pick_t hF rfl rfl rfl).q) (fun a w hF hW => ?_)
   refine ls hF hW rfl ((y_move hF rfl).q) (fun a w hF hW => ?_)
   refine lsn hF rfl rfl rfl rfl rfl rfl rfl (fun a hF => ?_)
   refine lsn hF rfl rfl rfl rfl rfl rfl rfl (fun a hF => ?_)
   refine lsn hF rfl rfl rfl rfl rfl rfl rfl (fun a hF => ?_)
   refine ls hF hW rfl ((y_pick_t hF rfl rfl rfl).q) (fun a w hF hW => ?_)
   refine ls hF hW rfl ((y_assign hF rfl).q) (fun a w hF hW => ?_)
   refine ls_nil ?_
   refine c_then ?_
   exact ⟨hF.re ⟨(by show some (Value.bool true) = some (Value.bool (decide (p0.1 = p0.2.2.1) || (decide (p0.2.2.2.2.1 < 1) || (decide (p0.2.2.2.2.2 < p0.2.2.2.2.1) || decide (1000 < p0.2.2.2.2.2))))); try rw [hb0]; all_goals simp only [Bool.not_true, Bool.not_false, Bool.true_and, Bool.false_and, Bool.true_or, Bool.false_or, Bool.and_true, Bool.or_false, cond_true, cond_false]), trivial⟩, hW⟩
  ·
   rw [hb0] at hF
   refine ls_w hF hW (wanted_y hF rfl rfl rfl rfl) rfl (Nat.le_of_ble_eq_true rfl) ((y_fieldAddr u59_ rfl rfl rfl T3 hF rfl 4 rfl).q) (fun a w hF hW => ?_)
   refine ls_w hF hW (wanted_y hF rfl rfl rfl rfl) rfl (Nat.le_of_ble_eq_true rfl) ((y_load (v := Value.int .i64 p0.2.2.2.2.1) 0 hF rfl rfl T3 rfl).q) (fun a w hF hW => ?_)
   refine ls_w hF hW (wanted_y hF rfl rfl rfl rfl) rfl (Nat.le_of_ble_eq_true rfl) ((y_lss hF rfl rfl).q) (fun a w hF hW => ?_)
   refine ls hF hW rfl ((y_pick_f hF rfl rfl rfl).q) (fun a w hF hW => ?_)
   refine ls hF hW rfl ((y_move hF rfl).q) (fun a w hF hW => ?_)
   rcases Bool.eq_false_or_eq_true (decide (p0.2.2.2.2.1 < 1)) with hb1 | hb1
   ·
    rw [hb1] at hF
    refine lsn hF rfl rfl rfl rfl rfl rfl rfl (fun a hF => ?_)
    refine lsn hF rfl rfl rfl rfl rfl rfl rfl (fun a hF => ?_)
    refine lsn hF rfl rfl rfl rfl rfl rfl rfl (fun a hF => ?_)
    refine lsn hF rfl rfl rfl rfl rfl rfl rfl (fun a hF => ?_)
    refine lsn hF rfl rfl rfl rfl rfl rfl rfl (fun a hF => ?_)
    refine ls hF hW rfl ((y_pick_t hF rfl rfl rfl).q) (fun a w hF hW => ?_)
    refine ls hF hW rfl ((y_move hF rfl).q) (fun a w hF hW => ?_)
    refine lsn hF rfl rfl rfl rfl rfl rfl rfl (fun a hF => ?_)
    refine lsn hF rfl rfl rfl rfl rfl rfl rfl (fun a hF => ?_)
    refine lsn hF rfl rfl rfl rfl rfl rfl rfl (fun a hF => ?_)
    refine ls hF hW rfl ((y_pick_t hF rfl rfl rfl).q) (fun a w hF hW => ?_)
    refine ls hF hW rfl ((y_assign hF rfl).q) (fun a w hF hW => ?_)
    refine ls_nil ?_
    refine c_then ?_
    exact ⟨hF.re ⟨(by show some (Value.bool true) = some (Value.bool (decide (p0.1 = p0.2.2.1) || (decide (p0.2.2.2.2.1 < 1) || (decide (p0.2.2.2.2.2 < p0.2.2.2.2.1) || decide (1000 < p0.2.2.2.2.2))))); try rw [hb1]; try rw [hb0]; all_goals simp only [Bool.not_true, Bool.not_false, Bool.true_and, Bool.false_and, Bool.true_or, Bool.false_or, Bool.and_true, Bool.or_false, cond_true, cond_false]), trivial⟩, hW⟩
   ·
    rw [hb1] at hF
    refine ls_w hF hW (wanted_y hF rfl rfl rfl rfl) rfl (Nat.le_of_ble_eq_true rfl) ((y_fieldAddr u59_ rfl rfl rfl T3 hF rfl 5 rfl).q) (fun a w hF hW => ?_)
    refine ls_w hF hW (wanted_y hF rfl rfl rfl rfl) rfl (Nat.le_of_ble_eq_true rfl) ((y_load (v := Value.int .i64 p0.2.2.2.2.2) 0 hF rfl rfl T3 rfl).q) (fun a w hF hW => ?_)
    refine ls_w hF hW (wanted_y hF rfl rfl rfl rfl) rfl (Nat.le_of_ble_eq_true rfl) ((y_fieldAddr u59_ rfl rfl rfl T3 hF rfl 4 rfl).q) (fun a w hF hW => ?_)
    refine ls_w hF hW (wanted_y hF rfl rfl rfl rfl) rfl (Nat.le_of_ble_eq_true rfl) ((y_load (v := Value.int .i64 p0.2.2.2.2.1) 0 hF rfl rfl T3 rfl).q) (fun a w hF hW => ?_)
    refine ls_w hF hW (wanted_y hF rfl rfl rfl rfl) rfl (Nat.le_of_ble_eq_true rfl) ((y_lss hF rfl rfl).q) (fun a w hF hW => ?_)
    refine ls hF hW rfl ((y_pick_f hF rfl rfl rfl).q) (fun a w hF hW => ?_)
    refine ls hF hW rfl ((y_move hF rfl).q) (fun a w hF hW => ?_)
    rcases Bool.eq_false_or_eq_true (decide (p0.2.2.2.2.2 < p0.2.2.2.2.1)) with hb2 | hb2
    ·
     rw [hb2] at hF
     refine lsn hF rfl rfl rfl rfl rfl rfl rfl (fun a hF => ?_)
     refine lsn hF rfl rfl rfl rfl rfl rfl rfl (fun a hF => ?_)
     refine lsn hF rfl rfl rfl rfl rfl rfl rfl (fun a hF => ?_)
     refine ls hF hW rfl ((y_pick_t hF rfl rfl rfl).q) (fun a w hF hW => ?_)
     refine ls hF hW rfl ((y_assign hF rfl).q) (fun a w hF hW => ?_)
     refine ls_nil ?_
     refine c_then ?_
     exact ⟨hF.re ⟨(by show some (Value.bool true) = some (Value.bool (decide (p0.1 = p0.2.2.1) || (decide (p0.2.2.2.2.1 < 1) || (decide (p0.2.2.2.2.2 < p0.2.2.2.2.1) || decide (1000 < p0.2.2.2.2.2))))); try rw [hb2]; try rw [hb1]; try rw [hb0]; all_goals simp only [Bool.not_true, Bool.not_false, Bool.true_and, Bool.false_and, Bool.true_or, Bool.false_or, Bool.and_true, Bool.or_false, cond_true, cond_false]), trivial⟩, hW⟩
    ·
     rw [hb2] at hF
     refine ls_w hF hW (wanted_y hF rfl rfl rfl rfl) rfl (Nat.le_of_ble_eq_true rfl) ((y_fieldAddr u59_ rfl rfl rfl T3 hF rfl 5 rfl).q) (fun a w hF hW => ?_)
     refine ls_w hF hW (wanted_y hF rfl rfl rfl rfl) rfl (Nat.le_of_ble_eq_true rfl) ((y_load (v := Value.int .i64 p0.2.2.2.2.2) 0 hF rfl rfl T3 rfl).q) (fun a w hF hW => ?_)
     refine ls_w hF hW (wanted_y hF rfl rfl rfl rfl) rfl (Nat.le_of_ble_eq_true rfl) ((y_gtr hF rfl rfl).q) (fun a w hF hW => ?_)
     refine ls hF hW rfl ((y_pick_f hF rfl rfl rfl).q) (fun a w hF hW => ?_)
     refine ls hF hW rfl ((y_assign hF rfl).q) (fun a w hF hW => ?_)
     refine ls_nil ?_
     refine c_then ?_
     exact ⟨hF.re ⟨(by show some (Value.bool (decide (1000 < p0.2.2.2.2.2))) = some (Value.bool (decide (p0.1 = p0.2.2.1) || (decide (p0.2.2.2.2.1 < 1) || (decide (p0.2.2.2.2.2 < p0.2.2.2.2.1) || decide (1000 < p0.2.2.2.2.2))))); try rw [hb2]; try rw [hb1]; try rw [hb0]; all_goals simp only [Bool.not_true, Bool.not_false, Bool.true_and, Bool.false_and, Bool.true_or, Bool.false_or, Bool.and_true, Bool.or_false, cond_true, cond_false]), trivial⟩, hW⟩
 rintro a w ⟨hF, hW⟩
 refine wp_ret ?_
 subst H
 refine post1 (.inl rfl) hF hW rfl (rv_tmp hF rfl) ?_
 exact ⟨rfl, hW.done⟩

theorem H37 : Has Try.prog 37 := ⟨fun args w => run_callFunc_body Try.func37 rfl (by decide) args w⟩
noncomputable def slices_IndexFunc_api_Link_api_Link_l1 (p0 : List (Int × Int × Int × Int × Int × Int)) : Int → Option (Int ⊕ (Unit ⊕ Int))
  | x1 => (if x1 < (p0.length : Int) then (ix p0 x1).bind fun x2 => (if (topo_wrongLink x2) = true then some (.inr (.inr x1)) else some (.inl (w64 (x1 + 1)))) else some (.inr (.inl ())))
noncomputable def slices_IndexFunc_api_Link_api_Link (p0 : List (Int × Int × Int × Int × Int × Int)) : Option Int := orR (loopW (slices_IndexFunc_api_Link_api_Link_l1 p0) 0) fun _ => some (-1)
theorem slices_IndexFunc_api_Link_api_Link_c (Y : Nat → Prop) (w0 : World) (v1 : Value) (p0 : List (Int × Int × Int × Int × Int × Int)) (r : Int) (H : slices_IndexFunc_api_Link_api_Link p0 = some r) (h_v1 : Sl w0 (NX []) R59 v1 p0) :
    Calls Try.prog 41 #[v1, .func (.func 37) #[] #[]] w0 fun e w' => e = .returned (.int .i64 r) ∧ Below w0.heap.size w0 w' := by
 refine enter Try.func41 rfl Try.ntmps41 rfl (fun a hF => ?_)
 have hW := Stw.start Y w0
 unfold slices_IndexFunc_api_Link_api_Link at H
 refine c_seq ?_
 refine reg_list ?_
 refine ls hF hW rfl ((y_assign hF rfl).q) (fun a w hF hW => ?_)
 refine ls_nil ?_
 refine c_then ?_
 obtain ⟨o1, G1, K1, L1⟩ := orE H
 refine c_seqJ (fun a w => some (Sum.inl ()) = some o1 ∧ Fr 19 [] [(4, .int .i64 0)] a ∧ Stw ⟨Y, [], w0⟩ [] [] w) ?_ ?_
 ·
  have H := G1
  clear G1 K1
  refine c_seq ?_
  refine reg_list ?_
  refine ls hF hW rfl ((y_move hF rfl).q) (fun a w hF hW => ?_)
  refine ls hF hW rfl ((y_len (r := R59) (l := p0) u22_ rfl hF rfl (rdc_ro h_v1)).q) (fun a w hF hW => ?_)
  refine ls hF hW rfl ((y_move hF rfl).q) (fun a w hF hW => ?_)
  refine ls_nil ?_
  refine c_then ?_
  refine wp_block ?_
  refine c_loopW H (fun s a w => Fr 19 [] [(0, v1), (1, .func (.func 37) #[] #[]), (4, .int .i64 0), (7, .int .i64 (p0.length : Int)), (8, .int .i64 s)] a ∧ Stw ⟨Y, [], w0⟩ [] [] w) ⟨hF.re ⟨rfl, rfl, rfl, rfl, rfl, trivial⟩, hW⟩ (fun s o a w H L2 hR => ?_)
  obtain ⟨x1, rfl⟩ : ∃ x, x = s := ⟨s, rfl⟩
  obtain ⟨hF, hW⟩ := hR
  have hF : Fr 19 [] [(0, v1), (1, .func (.func 37) #[] #[]), (4, .int .i64 0), (7, .int .i64 (p0.length : Int)), (8, .int .i64 x1)] a := hF
  have hW : Stw ⟨Y, [], w0⟩ [] [] w := hW
  rw [slices_IndexFunc_api_Link_api_Link_l1] at H
  refine c_seq ?_
  refine reg_list ?_
  refine ls hF hW rfl ((y_lss hF rfl rfl).q) (fun a w hF hW => ?_)
  refine ls_nil ?_
  refine c_then ?_
  refine c_seq ?_
  refine c_cond hF rfl (fun hb => ?_) (fun hb => ?_)
  ·
   have H := iteT (of_decide_eq_true hb) H
   rw [hb] at hF
   clear hb
   refine wp_skip ?_
   refine c_then ?_
   refine c_seq ?_
   refine wp_block ?_
   refine c_seq ?_
   refine reg_list ?_
   refine ls hF hW rfl ((y_move hF rfl).q) (fun a w hF hW => ?_)
   refine ls hF hW rfl ((y_assign hF rfl).q) (fun a w hF hW => ?_)
   refine ls_nil ?_
   refine c_then ?_
   refine c_seq ?_
   refine reg_list ?_
   refine ls hF hW rfl ((y_move hF rfl).q) (fun a w hF hW => ?_)
   refine ls hF hW rfl ((y_move hF rfl).q) (fun a w hF hW => ?_)
   refine ls hF hW rfl ((y_move hF rfl).q) (fun a w hF hW => ?_)
   obtain ⟨x2, h1, H⟩ := bindE H
   refine ls hF hW rfl ((y_index (r := R59) L22 hF rfl rfl (rdc_ro h_v1) h1).q) (fun a w hF hW => ?_)
   refine ls hF hW rfl ((y_load_el (y := Value.agg #[.int .i64 x2.1, .int .i64 x2.2.1, .int .i64 x2.2.2.1, .int .i64 x2.2.2.2.1, .int .i64 x2.2.2.2.2.1, .int .i64 x2.2.2.2.2.2]) (j := 0) (i := x1) hF rfl rfl (rdc_ro h_v1) h1 F59.to T59 rfl).q) (fun a w hF hW => ?_)
   refine ls hF hW rfl (y_callV (ws := [.agg #[.int .i64 x2.1, .int .i64 x2.2.1, .int .i64 x2.2.2.1, .int .i64 x2.2.2.2.1, .int .i64 x2.2.2.2.2.1, .int .i64 x2.2.2.2.2.2]]) (v := Value.bool (topo_wrongLink x2)) hF H37 rfl (fun w hW => topo_wrongLink_c any w x2 _ rfl)) (fun a w hF hW => ?_)
   refine ls_nil ?_
   refine c_then ?_
   refine c_cond hF rfl (fun hb => ?_) (fun hb => ?_)
   ·
    have H := iteT hb H
    rw [hb] at hF
    clear hb
    refine c_seq ?_
    refine reg_list ?_
    refine ls hF hW rfl ((y_move hF rfl).q) (fun a w hF hW => ?_)
    refine ls hF hW rfl ((y_assign hF rfl).q) (fun a w hF hW => ?_)
    refine ls_nil ?_
    refine c_then ?_
    refine wp_ret ?_
    refine r_block ?_
    refine r_then ?_
    refine r_then ?_
    refine r_block ?_
    refine r_then ?_
    have H := L2 _ H
    have H := L1 _ H
    have H := Option.some.inj H
    subst H
    refine post1 (.inl rfl) hF hW rfl (rv_tmp hF rfl) ?_
    exact ⟨rfl, hW.done⟩
   ·
    have H := iteF (by rw [hb]; decide) H
    rw [hb] at hF
    clear hb
    refine wp_skip ?_
    refine b_normal ?_
    refine c_then ?_
    refine reg_list ?_
    refine ls hF hW rfl ((y_add hF rfl rfl rfl).q) (fun a w hF hW => ?_)
    refine ls hF hW rfl ((y_move hF rfl).q) (fun a w hF hW => ?_)
    refine ls_nil ?_
    refine c_then ?_
    exact ⟨_, H, hF.re ⟨rfl, rfl, rfl, rfl, rfl, trivial⟩, hW⟩
  ·
   have H := iteF (of_decide_eq_false hb) H
   rw [hb] at hF
   clear hb
   refine wp_exit ?_
   refine e_then ?_
   refine e_then ?_
   refine e_block ?_
   refine c_then ?_
   have H := L2 _ H
   exact ⟨H, hF.re ⟨rfl, trivial⟩, hW⟩
 rintro a w ⟨hj, hF, hW⟩
 have H := K1 _ hj
 clear hj G1 K1 L1
 refine c_seq ?_
 refine reg_list ?_
 refine ls hF hW rfl ((y_assign hF rfl).q) (fun a w hF hW => ?_)
 refine ls_nil ?_
 refine c_then ?_
 refine wp_ret ?_
 have H := Option.some.inj H
 subst H
 refine post1 (.inl rfl) hF hW rfl (rv_tmp hF rfl) ?_
 exact ⟨rfl, hW.done⟩

theorem H41 : Has Try.prog 41 := ⟨fun args w => run_callFunc_body Try.func41 rfl (by decide) args w⟩
noncomputable def slices_ContainsFunc_api_Link_api_Link (p0 : List (Int × Int × Int × Int × Int × Int)) : Option Bool := (slices_IndexFunc_api_Link_api_Link p0).bind fun x1 => some (decide (0 ≤ x1))
theorem slices_ContainsFunc_api_Link_api_Link_c (Y : Nat → Prop) (w0 : World) (v1 : Value) (p0 : List (Int × Int × Int × Int × Int × Int)) (r : Bool) (H : slices_ContainsFunc_api_Link_api_Link p0 = some r) (h_v1 : Sl w0 (NX []) R59 v1 p0) :
    Calls Try.prog 36 #[v1, .func (.func 37) #[] #[]] w0 fun e w' => e = .returned (.bool r) ∧ Below w0.heap.size w0 w' := by
 refine enter Try.func36 rfl Try.ntmps36 rfl (fun a hF => ?_)
 have hW := Stw.start Y w0
 unfold slices_ContainsFunc_api_Link_api_Link at H
 refine c_seq ?_
 refine reg_list ?_
 refine ls hF hW rfl ((y_assign hF rfl).q) (fun a w hF hW => ?_)
 refine ls_nil ?_
 refine c_then ?_
 refine c_seq ?_
 refine reg_list ?_
 refine ls hF hW rfl ((y_move hF rfl).q) (fun a w hF hW => ?_)
 refine ls hF hW rfl ((y_move hF rfl).q) (fun a w hF hW => ?_)
 obtain ⟨x1, h1, H⟩ := bindE H
 refine ls hF hW rfl (y_call (v := Value.int .i64 x1) hF H41 rfl (fun w hW => slices_IndexFunc_api_Link_api_Link_c any w (v1) p0 _ h1 (((rdc_ro h_v1) : Rdc _ _ _ _ _ _) w hW).nx)) (fun a w hF hW => ?_)
 refine ls hF hW rfl ((y_geq hF rfl rfl).q) (fun a w hF hW => ?_)
 refine ls hF hW rfl ((y_assign hF rfl).q) (fun a w hF hW => ?_)
 refine ls_nil ?_
 refine c_then ?_
 refine wp_ret ?_
 have H := Option.some.inj H
 subst H
 refine post1 (.inl rfl) hF hW rfl (rv_tmp hF rfl) ?_
 exact ⟨rfl, hW.done⟩

theorem u80_ : type_of% Try.underlying80 := Try.underlying80
theorem H36 : Has Try.prog 36 := ⟨fun args w => run_callFunc_body Try.func36 rfl (by decide) args w⟩
noncomputable def topo_Right_l1 (p0 : Int × (List (Int × Int × Int × Int × Int × Int)) × (List (Int × Int))) (x2 : (List (Int × Int))) : (Int × (List ((Int × Int) × Unit))) → Option ((Int × (List ((Int × Int) × Unit))) ⊕ ((List ((Int × Int) × Unit)) ⊕ Bool))
  | (x3, x4) => (if x3 < (x2.length : Int) then (ix x2 x3).bind fun x5 => (if (decide (x5.1 < 0) || (decide (p0.1 ≤ x5.1) || (decide (x5.2 < 0) || decide (8 ≤ x5.2)))) = true then some (.inr (.inr false)) else (if ((mget x4 x5).isSome) = true then some (.inr (.inr false)) else some (.inl (w64 (x3 + 1), mput x4 x5 ())))) else some (.inr (.inl x4)))
noncomputable def topo_Right (p0 : Int × (List (Int × Int × Int × Int × Int × Int)) × (List (Int × Int))) : Option Bool := (if (decide (p0.1 < 1) || (decide (8 < p0.1) || (decide (24 < (p0.2.1.length : Int)) || decide (8 < (p0.2.2.length : Int))))) = true then some false else orR ((topo_places p0).bind fun x2 => loopW (topo_Right_l1 p0 x2) (0, ([] : List ((Int × Int) × Unit)))) fun x1 => (slices_ContainsFunc_api_Link_api_Link p0.2.1).bind fun x6 => some (!x6))
theorem topo_Right_c (Y : Nat → Prop) (w0 : World) (v1 : Value) (v2 : Value) (p0 : Int × (List (Int × Int × Int × Int × Int × Int)) × (List (Int × Int))) (r : Bool) (H : topo_Right p0 = some r) (h_v1 : Sl w0 (NX []) R59 v1 p0.2.1) (h_v2 : Sl w0 (NX []) R75 v2 p0.2.2) :
    Calls Try.prog 20 #[.agg #[.int .i64 p0.1, v1, v2]] w0 fun e w' => e = .returned (.bool r) ∧ Below w0.heap.size w0 w' := by
 refine enter Try.func20 rfl Try.ntmps20 rfl (fun a hF => ?_)
 have hW := Stw.start Y w0
 unfold topo_Right at H
 refine c_seq ?_
 refine reg_list ?_
 refine l_box (cs := [.int .i64 p0.1, v1, v2]) hF hW rfl rfl rfl (fun b1 a w hF hW => ?_)
 refine ls hF hW rfl ((y_assign hF rfl).q) (fun a w hF hW => ?_)
 refine ls_nil ?_
 refine c_then ?_
 refine c_seq ?_
 refine c_seqJ (fun a w => Fr 71 [] [(1, .pointer (some ⟨b1, 0, none⟩)), (2, .bool false), (27, .bool (decide (p0.1 < 1) || (decide (8 < p0.1) || (decide (24 < (p0.2.1.length : Int)) || decide (8 < (p0.2.2.length : Int))))))] a ∧ Stw ⟨Y, [], w0⟩ [(b1, [.int .i64 p0.1, v1, v2])] [] w) ?_ ?_
 ·
  refine reg_list ?_
  refine ls hF hW rfl ((y_fieldAddr u25_ rfl rfl rfl T3 hF rfl 0 rfl).q) (fun a w hF hW => ?_)
  refine ls hF hW rfl ((y_load (v := Value.int .i64 p0.1) 0 hF rfl rfl T3 rfl).q) (fun a w hF hW => ?_)
  refine ls hF hW rfl ((y_lss hF rfl rfl).q) (fun a w hF hW => ?_)
  refine ls hF hW rfl ((y_move hF rfl).q) (fun a w hF hW => ?_)
  rcases Bool.eq_false_or_eq_true (decide (p0.1 < 1)) with hb0 | hb0
  ·
   rw [hb0] at hF
   refine lsn hF rfl rfl rfl rfl rfl rfl rfl (fun a hF => ?_)
   refine lsn hF rfl rfl rfl rfl rfl rfl rfl (fun a hF => ?_)
   refine lsn hF rfl rfl rfl rfl rfl rfl rfl (fun a hF => ?_)
   refine ls hF hW rfl ((y_pick_t hF rfl rfl rfl).q) (fun a w hF hW => ?_)
   refine ls hF hW rfl ((y_move hF rfl).q) (fun a w hF hW => ?_)
   refine lsn hF rfl rfl rfl rfl rfl rfl rfl (fun a hF => ?_)
   refine lsn hF rfl rfl rfl rfl rfl rfl rfl (fun a hF => ?_)
   refine lsn hF rfl rfl rfl rfl rfl rfl rfl (fun a hF => ?_)
   refine lsn hF rfl rfl rfl rfl rfl rfl rfl (fun a hF => ?_)
   refine ls hF hW rfl ((y_pick_t hF rfl rfl rfl).q) (fun a w hF hW => ?_)
   refine ls hF hW rfl ((y_move hF rfl).q) (fun a w hF hW => ?_)
   refine lsn hF rfl rfl rfl rfl rfl rfl rfl (fun a hF => ?_)
   refine lsn hF rfl rfl rfl rfl rfl rfl rfl (fun a hF => ?_)
   refine lsn hF rfl rfl rfl rfl rfl rfl rfl (fun a hF => ?_)
   refine lsn hF rfl rfl rfl rfl rfl rfl rfl (fun a hF => ?_)
   refine ls hF hW rfl ((y_pick_t hF rfl rfl rfl).q) (fun a w hF hW => ?_)
   refine ls_nil ?_
   refine c_then ?_
   exact ⟨hF.re ⟨rfl, rfl, (by show some (Value.bool true) = some (Value.bool (decide (p0.1 < 1) || (decide (8 < p0.1) || (decide (24 < (p0.2.1.length : Int)) || decide (8 < (p0.2.2.length : Int)))))); try rw [hb0]; all_goals simp only [Bool.not_true, Bool.not_false, Bool.true_and, Bool.false_and, Bool.true_or, Bool.false_or, Bool.and_true, Bool.or_false, cond_true, cond_false]), trivial⟩, hW⟩
  ·
   rw [hb0] at hF
   refine ls_w hF hW (wanted_y hF rfl rfl rfl rfl) rfl (Nat.le_of_ble_eq_true rfl) ((y_fieldAddr u25_ rfl rfl rfl T3 hF rfl 0 rfl).q) (fun a w hF hW => ?_)
   refine ls_w hF hW (wanted_y hF rfl rfl rfl rfl) rfl (Nat.le_of_ble_eq_true rfl) ((y_load (v := Value.int .i64 p0.1) 0 hF rfl rfl T3 rfl).q) (fun a w hF hW => ?_)
   refine ls_w hF hW (wanted_y hF rfl rfl rfl rfl) rfl (Nat.le_of_ble_eq_true rfl) ((y_gtr hF rfl rfl).q) (fun a w hF hW => ?_)
   refine ls hF hW rfl ((y_pick_f hF rfl rfl rfl).q) (fun a w hF hW => ?_)
   refine ls hF hW rfl ((y_move hF rfl).q) (fun a w hF hW => ?_)
   rcases Bool.eq_false_or_eq_true (decide (8 < p0.1)) with hb1 | hb1
   ·
    rw [hb1] at hF
    refine lsn hF rfl rfl rfl rfl rfl rfl rfl (fun a hF => ?_)
    refine lsn hF rfl rfl rfl rfl rfl rfl rfl (fun a hF => ?_)
    refine lsn hF rfl rfl rfl rfl rfl rfl rfl (fun a hF => ?_)
    refine lsn hF rfl rfl rfl rfl rfl rfl rfl (fun a hF => ?_)
    refine ls hF hW rfl ((y_pick_t hF rfl rfl rfl).q) (fun a w hF hW => ?_)
    refine ls hF hW rfl ((y_move hF rfl).q) (fun a w hF hW => ?_)
    refine lsn hF rfl rfl rfl rfl rfl rfl rfl (fun a hF => ?_)
    refine lsn hF rfl rfl rfl rfl rfl rfl rfl (fun a hF => ?_)
    refine lsn hF rfl rfl rfl rfl rfl rfl rfl (fun a hF => ?_)
    refine lsn hF rfl rfl rfl rfl rfl rfl rfl (fun a hF => ?_)
    refine ls hF hW rfl ((y_pick_t hF rfl rfl rfl).q) (fun a w hF hW => ?_)
    refine ls_nil ?_
    refine c_then ?_
    exact ⟨hF.re ⟨rfl, rfl, (by show some (Value.bool true) = some (Value.bool (decide (p0.1 < 1) || (decide (8 < p0.1) || (decide (24 < (p0.2.1.length : Int)) || decide (8 < (p0.2.2.length : Int)))))); try rw [hb0]; try rw [hb1]; all_goals simp only [Bool.not_true, Bool.not_false, Bool.true_and, Bool.false_and, Bool.true_or, Bool.false_or, Bool.and_true, Bool.or_false, cond_true, cond_false]), trivial⟩, hW⟩
   ·
    rw [hb1] at hF
    refine ls_w hF hW (wanted_y hF rfl rfl rfl rfl) rfl (Nat.le_of_ble_eq_true rfl) ((y_fieldAddr u25_ rfl rfl rfl T22 hF rfl 1 rfl).q) (fun a w hF hW => ?_)
    refine ls_w hF hW (wanted_y hF rfl rfl rfl rfl) rfl (Nat.le_of_ble_eq_true rfl) ((y_load (v := v1) 0 hF rfl rfl T22 rfl).q) (fun a w hF hW => ?_)
    refine ls_w hF hW (wanted_y hF rfl rfl rfl rfl) rfl (Nat.le_of_ble_eq_true rfl) ((y_len (r := R59) (l := p0.2.1) u22_ rfl hF rfl (rdc_ro h_v1)).q) (fun a w hF hW => ?_)
    refine ls_w hF hW (wanted_y hF rfl rfl rfl rfl) rfl (Nat.le_of_ble_eq_true rfl) ((y_gtr hF rfl rfl).q) (fun a w hF hW => ?_)
    refine ls hF hW rfl ((y_pick_f hF rfl rfl rfl).q) (fun a w hF hW => ?_)
    refine ls hF hW rfl ((y_move hF rfl).q) (fun a w hF hW => ?_)
    rcases Bool.eq_false_or_eq_true (decide (24 < (p0.2.1.length : Int))) with hb2 | hb2
    ·
     rw [hb2] at hF
     refine lsn hF rfl rfl rfl rfl rfl rfl rfl (fun a hF => ?_)
     refine lsn hF rfl rfl rfl rfl rfl rfl rfl (fun a hF => ?_)
     refine lsn hF rfl rfl rfl rfl rfl rfl rfl (fun a hF => ?_)
     refine lsn hF rfl rfl rfl rfl rfl rfl rfl (fun a hF => ?_)
     refine ls hF hW rfl ((y_pick_t hF rfl rfl rfl).q) (fun a w hF hW => ?_)
     refine ls_nil ?_
     refine c_then ?_
     exact ⟨hF.re ⟨rfl, rfl, (by show some (Value.bool true) = some (Value.bool (decide (p0.1 < 1) || (decide (8 < p0.1) || (decide (24 < (p0.2.1.length : Int)) || decide (8 < (p0.2.2.length : Int)))))); try rw [hb2]; try rw [hb0]; try rw [hb1]; all_goals simp only [Bool.not_true, Bool.not_false, Bool.true_and, Bool.false_and, Bool.true_or, Bool.false_or, Bool.and_true, Bool.or_false, cond_true, cond_false]), trivial⟩, hW⟩
    ·
     rw [hb2] at hF
     refine ls_w hF hW (wanted_y hF rfl rfl rfl rfl) rfl (Nat.le_of_ble_eq_true rfl) ((y_fieldAddr u25_ rfl rfl rfl T23 hF rfl 2 rfl).q) (fun a w hF hW => ?_)
     refine ls_w hF hW (wanted_y hF rfl rfl rfl rfl) rfl (Nat.le_of_ble_eq_true rfl) ((y_load (v := v2) 0 hF rfl rfl T23 rfl).q) (fun a w hF hW => ?_)
     refine ls_w hF hW (wanted_y hF rfl rfl rfl rfl) rfl (Nat.le_of_ble_eq_true rfl) ((y_len (r := R75) (l := p0.2.2) u23_ rfl hF rfl (rdc_ro h_v2)).q) (fun a w hF hW => ?_)
     refine ls_w hF hW (wanted_y hF rfl rfl rfl rfl) rfl (Nat.le_of_ble_eq_true rfl) ((y_gtr hF rfl rfl).q) (fun a w hF hW => ?_)
     refine ls hF hW rfl ((y_pick_f hF rfl rfl rfl).q) (fun a w hF hW => ?_)
     refine ls_nil ?_
     refine c_then ?_
     exact ⟨hF.re ⟨rfl, rfl, (by show some (Value.bool (decide (8 < (p0.2.2.length : Int)))) = some (Value.bool (decide (p0.1 < 1) || (decide (8 < p0.1) || (decide (24 < (p0.2.1.length : Int)) || decide (8 < (p0.2.2.length : Int)))))); try rw [hb2]; try rw [hb0]; try rw [hb1]; all_goals simp only [Bool.not_true, Bool.not_false, Bool.true_and, Bool.false_and, Bool.true_or, Bool.false_or, Bool.and_true, Bool.or_false, cond_true, cond_false]), trivial⟩, hW⟩
 rintro a w ⟨hF, hW⟩
 refine c_cond hF rfl (fun hb => ?_) (fun hb => ?_)
 ·
  have H := iteT hb H
  rw [hb] at hF
  clear hb
  refine c_seq ?_
  refine reg_list ?_
  refine ls hF hW rfl ((y_assign hF rfl).q) (fun a w hF hW => ?_)
  refine ls_nil ?_
  refine c_then ?_
  refine wp_ret ?_
  refine r_then ?_
  have H := Option.some.inj H
  subst H
  refine post1 (.inl rfl) hF hW rfl (rv_tmp hF rfl) ?_
  exact ⟨rfl, hW.done⟩
 ·
  have H := iteF (by rw [hb]; decide) H
  rw [hb] at hF
  clear hb
  refine wp_skip ?_
  refine c_then ?_
  refine c_seq ?_
  refine reg_list ?_
  refine l_mapmake KE84 KE85 hF hW rfl (fun b2 a w hF hW => ?_)
  have hW : Stw ⟨Y, [], w0⟩ [(b1, [.int .i64 p0.1, v1, v2])] [mp b2 KE84 KE85 ([] : List ((Int × Int) × Unit))] w := hW
  refine ls hF hW rfl ((y_assign hF rfl).q) (fun a w hF hW => ?_)
  refine ls_nil ?_
  refine c_then ?_
  obtain ⟨o1, G1, K1, L1⟩ := orE H
  refine c_seqJ (fun a w => ∃ x1 : List ((Int × Int) × Unit), some (Sum.inl x1) = some o1 ∧ Fr 71 [] [(1, .pointer (some ⟨b1, 0, none⟩)), (2, .bool false)] a ∧ Stw ⟨Y, [], w0⟩ [(b1, [.int .i64 p0.1, v1, v2])] [mp b2 KE84 KE85 x1] w) ?_ ?_
  ·
   have H := G1
   clear G1 K1
   refine c_seq ?_
   refine reg_list ?_
   refine ls hF hW rfl ((y_load (v := Value.agg #[.int .i64 p0.1, v1, v2]) 0 hF rfl rfl T25 rfl).q) (fun a w hF hW => ?_)
   obtain ⟨x2, h1, H⟩ := bindE H
   refine l_callG (Ml := []) (Zl := []) (M := [(b1, [.int .i64 p0.1, v1, v2])]) (Z := [mp b2 KE84 KE85 ([] : List ((Int × Int) × Unit))]) (β := Value) (rv := fun x => x) (MM := fun x => []) (ZZ := fun x => [row x 84 R84 x2]) hF hW H35 rfl rfl (fun hL => topo_places_c _ w (v1) (v2) p0 _ h1 ((rdc_ro h_v1) w hW).nx ((rdc_ro h_v2) w hW).nx) (fun x a w hF hW => ?_)
   obtain ⟨v3, rfl⟩ : ∃ y, y = x := ⟨x, rfl⟩
   have hW : Stw ⟨Y, [], w0⟩ [(b1, [.int .i64 p0.1, v1, v2])] [row v3 84 R84 x2, mp b2 KE84 KE85 ([] : List ((Int × Int) × Unit))] w := hW
   refine ls hF hW rfl ((y_len (r := R84) (l := x2) u81_ rfl hF rfl (rdc_row 0 rfl)).q) (fun a w hF hW => ?_)
   refine ls hF hW rfl ((y_move hF rfl).q) (fun a w hF hW => ?_)
   refine ls_nil ?_
   refine c_then ?_
   refine wp_block ?_
   have hW := hW.frontZ (i := 1) rfl rfl
   have hW := hW.frontZ (i := 1) rfl rfl
   refine c_loopW H (fun s a w => Fr 71 [] [(1, .pointer (some ⟨b1, 0, none⟩)), (2, .bool false), (3, .map (some b2)), (30, v3), (31, .int .i64 (x2.length : Int)), (32, .int .i64 s.1)] a ∧ Stw ⟨Y, [], w0⟩ [(b1, [.int .i64 p0.1, v1, v2])] [row v3 84 R84 x2, mp b2 KE84 KE85 s.2] w) ⟨hF.re ⟨rfl, rfl, rfl, rfl, rfl, rfl, trivial⟩, hW⟩ (fun s o a w H L2 hR => ?_)
   obtain ⟨x3, x4⟩ := s
   obtain ⟨hF, hW⟩ := hR
   have hF : Fr 71 [] [(1, .pointer (some ⟨b1, 0, none⟩)), (2, .bool false), (3, .map (some b2)), (30, v3), (31, .int .i64 (x2.length : Int)), (32, .int .i64 x3)] a := hF
   have hW : Stw ⟨Y, [], w0⟩ [(b1, [.int .i64 p0.1, v1, v2])] [row v3 84 R84 x2, mp b2 KE84 KE85 x4] w := hW
   rw [topo_Right_l1] at H
   refine c_seq ?_
   refine reg_list ?_
   refine ls hF hW rfl ((y_lss hF rfl rfl).q) (fun a w hF hW => ?_)
   refine ls_nil ?_
   refine c_then ?_
   refine c_seq ?_
   refine c_cond hF rfl (fun hb => ?_) (fun hb => ?_)
   ·
    have H := iteT (of_decide_eq_true hb) H
    rw [hb] at hF
    clear hb
    refine wp_skip ?_
    refine c_then ?_
    refine c_seq ?_
    refine wp_block ?_
    refine c_seq ?_
    refine reg_list ?_
    obtain ⟨x5, h2, H⟩ := bindE H
    refine ls hF hW rfl ((y_index (r := R84) L81 hF rfl rfl (rdc_row 0 rfl) h2).q) (fun a w hF hW => ?_)
    refine ls hF hW rfl ((y_load_el (y := Value.agg #[.int .i64 x5.1, .int .i64 x5.2]) (j := 0) (i := x3) hF rfl rfl (rdc_row 0 rfl) h2 F84.to T84 rfl).q) (fun a w hF hW => ?_)
    refine l_alloc (cs := [.int .i64 0, .int .i64 0]) hF hW rfl Z84 rfl (fun b3 a w hF hW => ?_)
    refine l_store (vs := [.int .i64 x5.1, .int .i64 x5.2]) (M' := [(b3, [.int .i64 x5.1, .int .i64 x5.2]), (b1, [.int .i64 p0.1, v1, v2])]) 0 hF hW rfl rfl rfl T84 rfl rfl rfl rfl rfl (fun w hW => ?_)
    refine ls_nil ?_
    refine c_then ?_
    refine c_seq ?_
    refine c_seqJ (fun a w => Fr 71 [] [(1, .pointer (some ⟨b1, 0, none⟩)), (2, .bool false), (3, .map (some b2)), (5, .pointer (some ⟨b3, 0, none⟩)), (30, v3), (31, .int .i64 (x2.length : Int)), (32, .int .i64 x3), (55, .bool (decide (x5.1 < 0) || (decide (p0.1 ≤ x5.1) || (decide (x5.2 < 0) || decide (8 ≤ x5.2)))))] a ∧ Stw ⟨Y, [], w0⟩ [(b3, [.int .i64 x5.1, .int .i64 x5.2]), (b1, [.int .i64 p0.1, v1, v2])] [row v3 84 R84 x2, mp b2 KE84 KE85 x4] w) ?_ ?_
    ·
     refine reg_list ?_
     refine ls hF hW rfl ((y_fieldAddr u84_ rfl rfl rfl T3 hF rfl 0 rfl).q) (fun a w hF hW => ?_)
     refine ls hF hW rfl ((y_load (v := Value.int .i64 x5.1) 0 hF rfl rfl T3 rfl).q) (fun a w hF hW => ?_)
     refine ls hF hW rfl ((y_lss hF rfl rfl).q) (fun a w hF hW => ?_)
     refine ls hF hW rfl ((y_move hF rfl).q) (fun a w hF hW => ?_)
     rcases Bool.eq_false_or_eq_true (decide (x5.1 < 0)) with hb0 | hb0
     ·
      rw [hb0] at hF
      refine lsn hF rfl rfl rfl rfl rfl rfl rfl (fun a hF => ?_)
      refine lsn hF rfl rfl rfl rfl rfl rfl rfl (fun a hF => ?_)
      refine lsn hF rfl rfl rfl rfl rfl rfl rfl (fun a hF => ?_)
      refine lsn hF rfl rfl rfl rfl rfl rfl rfl (fun a hF => ?_)
      refine lsn hF rfl rfl rfl rfl rfl rfl rfl (fun a hF => ?_)
      refine ls hF hW rfl ((y_pick_t hF rfl rfl rfl).q) (fun a w hF hW => ?_)
      refine ls hF hW rfl ((y_move hF rfl).q) (fun a w hF hW => ?_)
      refine lsn hF rfl rfl rfl rfl rfl rfl rfl (fun a hF => ?_)
      refine lsn hF rfl rfl rfl rfl rfl rfl rfl (fun a hF => ?_)
      refine lsn hF rfl rfl rfl rfl rfl rfl rfl (fun a hF => ?_)
      refine ls hF hW rfl ((y_pick_t hF rfl rfl rfl).q) (fun a w hF hW => ?_)
      refine ls hF hW rfl ((y_move hF rfl).q) (fun a w hF hW => ?_)
      refine lsn hF rfl rfl rfl rfl rfl rfl rfl (fun a hF => ?_)
      refine lsn hF rfl rfl rfl rfl rfl rfl rfl (fun a hF => ?_)
      refine lsn hF rfl rfl rfl rfl rfl rfl rfl (fun a hF => ?_)
      refine ls hF hW rfl ((y_pick_t hF rfl rfl rfl).q) (fun a w hF hW => ?_)
      refine ls_nil ?_
      refine c_then ?_
      exact ⟨hF.re ⟨rfl, rfl, rfl, rfl, rfl, rfl, rfl, (by show some (Value.bool true) = some (Value.bool (decide (x5.1 < 0) || (decide (p0.1 ≤ x5.1) || (decide (x5.2 < 0) || decide (8 ≤ x5.2))))); try rw [hb0]; all_goals simp only [Bool.not_true, Bool.not_false, Bool.true_and, Bool.false_and, Bool.true_or, Bool.false_or, Bool.and_true, Bool.or_false, cond_true, cond_false]), trivial⟩, hW⟩
     ·
      rw [hb0] at hF
      refine ls_w hF hW (wanted_y hF rfl rfl rfl rfl) rfl (Nat.le_of_ble_eq_true rfl) ((y_fieldAddr u84_ rfl rfl rfl T3 hF rfl 0 rfl).q) (fun a w hF hW => ?_)
      refine ls_w hF hW (wanted_y hF rfl rfl rfl rfl) rfl (Nat.le_of_ble_eq_true rfl) ((y_load (v := Value.int .i64 x5.1) 0 hF rfl rfl T3 rfl).q) (fun a w hF hW => ?_)
      refine ls_w hF hW (wanted_y hF rfl rfl rfl rfl) rfl (Nat.le_of_ble_eq_true rfl) ((y_fieldAddr u25_ rfl rfl rfl T3 hF rfl 0 rfl).q) (fun a w hF hW => ?_)
      refine ls_w hF hW (wanted_y hF rfl rfl rfl rfl) rfl (Nat.le_of_ble_eq_true rfl) ((y_load (v := Value.int .i64 p0.1) 1 hF rfl rfl T3 rfl).q) (fun a w hF hW => ?_)
      refine ls_w hF hW (wanted_y hF rfl rfl rfl rfl) rfl (Nat.le_of_ble_eq_true rfl) ((y_geq hF rfl rfl).q) (fun a w hF hW => ?_)
      refine ls hF hW rfl ((y_pick_f hF rfl rfl rfl).q) (fun a w hF hW => ?_)
      refine ls hF hW rfl ((y_move hF rfl).q) (fun a w hF hW => ?_)
      rcases Bool.eq_false_or_eq_true (decide (p0.1 ≤ x5.1)) with hb1 | hb1
      ·
       rw [hb1] at hF
       refine lsn hF rfl rfl rfl rfl rfl rfl rfl (fun a hF => ?_)
       refine lsn hF rfl rfl rfl rfl rfl rfl rfl (fun a hF => ?_)
       refine lsn hF rfl rfl rfl rfl rfl rfl rfl (fun a hF => ?_)
       refine ls hF hW rfl ((y_pick_t hF rfl rfl rfl).q) (fun a w hF hW => ?_)
       refine ls hF hW rfl ((y_move hF rfl).q) (fun a w hF hW => ?_)
       refine lsn hF rfl rfl rfl rfl rfl rfl rfl (fun a hF => ?_)
       refine lsn hF rfl rfl rfl rfl rfl rfl rfl (fun a hF => ?_)
       refine lsn hF rfl rfl rfl rfl rfl rfl rfl (fun a hF => ?_)
       refine ls hF hW rfl ((y_pick_t hF rfl rfl rfl).q) (fun a w hF hW => ?_)
       refine ls_nil ?_
       refine c_then ?_
       exact ⟨hF.re ⟨rfl, rfl, rfl, rfl, rfl, rfl, rfl, (by show some (Value.bool true) = some (Value.bool (decide (x5.1 < 0) || (decide (p0.1 ≤ x5.1) || (decide (x5.2 < 0) || decide (8 ≤ x5.2))))); try rw [hb1]; try rw [hb0]; all_goals simp only [Bool.not_true, Bool.not_false, Bool.true_and, Bool.false_and, Bool.true_or, Bool.false_or, Bool.and_true, Bool.or_false, cond_true, cond_false]), trivial⟩, hW⟩
      ·
       rw [hb1] at hF
       refine ls_w hF hW (wanted_y hF rfl rfl rfl rfl) rfl (Nat.le_of_ble_eq_true rfl) ((y_fieldAddr u84_ rfl rfl rfl T3 hF rfl 1 rfl).q) (fun a w hF hW => ?_)
       refine ls_w hF hW (wanted_y hF rfl rfl rfl rfl) rfl (Nat.le_of_ble_eq_true rfl) ((y_load (v := Value.int .i64 x5.2) 0 hF rfl rfl T3 rfl).q) (fun a w hF hW => ?_)
       refine ls_w hF hW (wanted_y hF rfl rfl rfl rfl) rfl (Nat.le_of_ble_eq_true rfl) ((y_lss hF rfl rfl).q) (fun a w hF hW => ?_)
       refine ls hF hW rfl ((y_pick_f hF rfl rfl rfl).q) (fun a w hF hW => ?_)
       refine ls hF hW rfl ((y_move hF rfl).q) (fun a w hF hW => ?_)
       rcases Bool.eq_false_or_eq_true (decide (x5.2 < 0)) with hb2 | hb2
       ·
        rw [hb2] at hF
        refine lsn hF rfl rfl rfl rfl rfl rfl rfl (fun a hF => ?_)
        refine lsn hF rfl rfl rfl rfl rfl rfl rfl (fun a hF => ?_)
        refine lsn hF rfl rfl rfl rfl rfl rfl rfl (fun a hF => ?_)
        refine ls hF hW rfl ((y_pick_t hF rfl rfl rfl).q) (fun a w hF hW => ?_)
        refine ls_nil ?_
        refine c_then ?_
        exact ⟨hF.re ⟨rfl, rfl, rfl, rfl, rfl, rfl, rfl, (by show some (Value.bool true) = some (Value.bool (decide (x5.1 < 0) || (decide (p0.1 ≤ x5.1) || (decide (x5.2 < 0) || decide (8 ≤ x5.2))))); try rw [hb1]; try rw [hb0]; try rw [hb2]; all_goals simp only [Bool.not_true, Bool.not_false, Bool.true_and, Bool.false_and, Bool.true_or, Bool.false_or, Bool.and_true, Bool.or_false, cond_true, cond_false]), trivial⟩, hW⟩
       ·
        rw [hb2] at hF
        refine ls_w hF hW (wanted_y hF rfl rfl rfl rfl) rfl (Nat.le_of_ble_eq_true rfl) ((y_fieldAddr u84_ rfl rfl rfl T3 hF rfl 1 rfl).q) (fun a w hF hW => ?_)
        refine ls_w hF hW (wanted_y hF rfl rfl rfl rfl) rfl (Nat.le_of_ble_eq_true rfl) ((y_load (v := Value.int .i64 x5.2) 0 hF rfl rfl T3 rfl).q) (fun a w hF hW => ?_)
        refine ls_w hF hW (wanted_y hF rfl rfl rfl rfl) rfl (Nat.le_of_ble_eq_true rfl) ((y_geq hF rfl rfl).q) (fun a w hF hW => ?_)
        refine ls hF hW rfl ((y_pick_f hF rfl rfl rfl).q) (fun a w hF hW => ?_)
        refine ls_nil ?_
        refine c_then ?_
        exact ⟨hF.re ⟨rfl, rfl, rfl, rfl, rfl, rfl, rfl, (by show some (Value.bool (decide (8 ≤ x5.2))) = some (Value.bool (decide (x5.1 < 0) || (decide (p0.1 ≤ x5.1) || (decide (x5.2 < 0) || decide (8 ≤ x5.2))))); try rw [hb1]; try rw [hb0]; try rw [hb2]; all_goals simp only [Bool.not_true, Bool.not_false, Bool.true_and, Bool.false_and, Bool.true_or, Bool.false_or, Bool.and_true, Bool.or_false, cond_true, cond_false]), trivial⟩, hW⟩
    rintro a w ⟨hF, hW⟩
    refine c_cond hF rfl (fun hb => ?_) (fun hb => ?_)
    ·
     have H := iteT hb H
     rw [hb] at hF
     clear hb
     refine c_seq ?_
     refine reg_list ?_
     refine ls hF hW rfl ((y_assign hF rfl).q) (fun a w hF hW => ?_)
     refine ls_nil ?_
     refine c_then ?_
     refine wp_ret ?_
     refine r_then ?_
     refine r_block ?_
     refine r_then ?_
     refine r_then ?_
     refine r_block ?_
     refine r_then ?_
     have H := L2 _ H
     have H := L1 _ H
     have H := Option.some.inj H
     subst H
     refine post1 (.inl rfl) hF hW rfl (rv_tmp hF rfl) ?_
     exact ⟨rfl, hW.done⟩
    ·
     have H := iteF (by rw [hb]; decide) H
     rw [hb] at hF
     clear hb
     refine wp_skip ?_
     refine c_then ?_
     refine c_seq ?_
     refine c_seq ?_
     refine reg_list ?_
     refine ls hF hW rfl ((y_move hF rfl).q) (fun a w hF hW => ?_)
     refine ls hF hW rfl ((y_load (v := Value.agg #[.int .i64 x5.1, .int .i64 x5.2]) 0 hF rfl rfl T84 rfl).q) (fun a w hF hW => ?_)
     refine ls hF hW rfl ((y_maplook (zv := (() : Unit)) (kx := (x5 : Int × Int)) (q := 1) (E := KE84) (V := KE85) hF rfl rfl rfl KK84 u80_ Z85).q) (fun a w hF hW => ?_)
     refine ls hF hW rfl ((y_move hF rfl).q) (fun a w hF hW => ?_)
     refine ls hF hW rfl ((y_extract (v := Value.agg #[]) hF rfl rfl).q) (fun a w hF hW => ?_)
     refine ls hF hW rfl ((y_extract (v := Value.bool ((mget x4 x5).isSome)) hF rfl rfl).q) (fun a w hF hW => ?_)
     refine l_alloc (cs := []) hF hW rfl Z85 rfl (fun b4 a w hF hW => ?_)
     refine l_store (vs := []) (M' := [(b4, []), (b3, [.int .i64 x5.1, .int .i64 x5.2]), (b1, [.int .i64 p0.1, v1, v2])]) 0 hF hW rfl rfl rfl T85 rfl rfl rfl rfl rfl (fun w hW => ?_)
     refine ls hF hW rfl ((y_assign hF rfl).q) (fun a w hF hW => ?_)
     refine ls_nil ?_
     refine c_then ?_
     refine c_seq ?_
     refine reg_list ?_
     refine ls hF hW rfl ((y_move hF rfl).q) (fun a w hF hW => ?_)
     refine ls_nil ?_
     refine c_then ?_
     refine c_cond hF rfl (fun hb => ?_) (fun hb => ?_)
     ·
      have H := iteT hb H
      rw [hb] at hF
      clear hb
      refine c_seq ?_
      refine reg_list ?_
      refine ls hF hW rfl ((y_assign hF rfl).q) (fun a w hF hW => ?_)
      refine ls_nil ?_
      refine c_then ?_
      refine wp_ret ?_
      refine r_then ?_
      refine r_block ?_
      refine r_then ?_
      refine r_then ?_
      refine r_block ?_
      refine r_then ?_
      have H := L2 _ H
      have H := L1 _ H
      have H := Option.some.inj H
      subst H
      refine post1 (.inl rfl) hF hW rfl (rv_tmp hF rfl) ?_
      exact ⟨rfl, hW.done⟩
     ·
      have H := iteF (by rw [hb]; decide) H
      rw [hb] at hF
      clear hb
      refine wp_skip ?_
      refine c_then ?_
      refine reg_list ?_
      refine ls hF hW rfl ((y_move hF rfl).q) (fun a w hF hW => ?_)
      refine ls hF hW rfl ((y_load (v := Value.agg #[.int .i64 x5.1, .int .i64 x5.2]) 1 hF rfl rfl T84 rfl).q) (fun a w hF hW => ?_)
      refine ls hF hW rfl ((y_build (v := Value.agg #[]) B85 hF rfl rfl rfl).q) (fun a w hF hW => ?_)
      refine l_mapput (q := 1) (kx := (x5 : Int × Int)) (vx := (() : Unit)) (E := KE84) (V := KE85) hF hW rfl rfl rfl rfl rfl KK84 u80_ (fun w hW => ?_)
      have hW : Stw ⟨Y, [], w0⟩ [(b4, []), (b3, [.int .i64 x5.1, .int .i64 x5.2]), (b1, [.int .i64 p0.1, v1, v2])] [mp b2 KE84 KE85 (mput x4 x5 ()), row v3 84 R84 x2] w := hW
      refine ls_nil ?_
      refine b_normal ?_
      refine c_then ?_
      refine reg_list ?_
      refine ls hF hW rfl ((y_add hF rfl rfl rfl).q) (fun a w hF hW => ?_)
      refine ls hF hW rfl ((y_move hF rfl).q) (fun a w hF hW => ?_)
      refine ls_nil ?_
      refine c_then ?_
      have hW := hW.frontZ (i := 1) rfl rfl
      have hW := hW.frontM (i := 2) rfl rfl
      have hW := hW.sub (M' := [(b1, [.int .i64 p0.1, v1, v2])]) (Z' := [row v3 84 R84 x2, mp b2 KE84 KE85 (mput x4 x5 ())]) (List.Sublist.cons_cons _ (List.nil_sublist _)) (List.Sublist.refl _)
      exact ⟨_, H, hF.re ⟨rfl, rfl, rfl, rfl, rfl, rfl, trivial⟩, hW⟩
   ·
    have H := iteF (of_decide_eq_false hb) H
    rw [hb] at hF
    clear hb
    refine wp_exit ?_
    refine e_then ?_
    refine e_then ?_
    refine e_block ?_
    refine c_then ?_
    have hW := hW.frontZ (i := 1) rfl rfl
    have hW := hW.sub (M' := [(b1, [.int .i64 p0.1, v1, v2])]) (Z' := [mp b2 KE84 KE85 x4]) (List.Sublist.refl _) (List.Sublist.cons_cons _ (List.nil_sublist _))
    have H := L2 _ H
    exact ⟨_, H, hF.re ⟨rfl, rfl, trivial⟩, hW⟩
  rintro a w ⟨x1, hj, hF, hW⟩
  have H := K1 _ hj
  clear hj G1 K1 L1
  refine c_seq ?_
  refine reg_list ?_
  refine ls hF hW rfl ((y_fieldAddr u25_ rfl rfl rfl T22 hF rfl 1 rfl).q) (fun a w hF hW => ?_)
  refine ls hF hW rfl ((y_load (v := v1) 0 hF rfl rfl T22 rfl).q) (fun a w hF hW => ?_)
  obtain ⟨x6, h3, H⟩ := bindE H
  refine ls hF hW rfl (y_call (v := Value.bool x6) hF H36 rfl (fun w hW => slices_ContainsFunc_api_Link_api_Link_c any w (v1) p0.2.1 _ h3 (((rdc_ro h_v1) : Rdc _ _ _ _ _ _) w hW).nx)) (fun a w hF hW => ?_)
  refine ls hF hW rfl ((y_not hF rfl).q) (fun a w hF hW => ?_)
  refine ls hF hW rfl ((y_assign hF rfl).q) (fun a w hF hW => ?_)
  refine ls_nil ?_
  refine c_then ?_
  refine wp_ret ?_
  have H := Option.some.inj H
  subst H
  refine post1 (.inl rfl) hF hW rfl (rv_tmp hF rfl) ?_
  exact ⟨rfl, hW.done⟩

theorem H20 : Has Try.prog 20 := ⟨fun args w => run_callFunc_body Try.func20 rfl (by decide) args w⟩
noncomputable def slices_Clone_api_Link_api_Link (p0 : List (Int × Int × Int × Int × Int × Int)) : Option (List (Int × Int × Int × Int × Int × Int)) := (app ([] : List (Int × Int × Int × Int × Int × Int)) p0).bind fun x1 => some x1
theorem slices_Clone_api_Link_api_Link_c (Y : Nat → Prop) (w0 : World) (v1 : Value) (p0 : List (Int × Int × Int × Int × Int × Int)) (r : (List (Int × Int × Int × Int × Int × Int))) (H : slices_Clone_api_Link_api_Link p0 = some r) (s_v1 : Sl w0 Y R59 v1 p0) :
    Calls Try.prog 21 #[v1] w0 fun e w' => ∃ x : Value, e = .returned (x) ∧ Stw ⟨Y, [], w0⟩ [] [row (x) 59 R59 r] w' := by
 refine enter Try.func21 rfl Try.ntmps21 rfl (fun a hF => ?_)
 have hW := Stw.start Y w0
 have h_v1 := hW.nx s_v1
 unfold slices_Clone_api_Link_api_Link at H
 refine c_seq ?_
 refine reg_list ?_
 refine ls hF hW rfl ((y_assign hF rfl).q) (fun a w hF hW => ?_)
 refine ls_nil ?_
 refine c_then ?_
 refine c_seq ?_
 refine c_seq ?_
 refine reg_list ?_
 refine ls hF hW rfl ((y_move hF rfl).q) (fun a w hF hW => ?_)
 refine ls hF hW rfl ((y_eqlnil (r := R59) u22_ hF rfl (rdc_ro h_v1)).q) (fun a w hF hW => ?_)
 refine ls_nil ?_
 refine c_then ?_
 rcases nil_cases (rdc_ro h_v1) hW with ⟨hb, hl⟩ | hb
 ·
  rw [hl] at H
  change some ([] : List (Int × Int × Int × Int × Int × Int)) = _ at H
  rw [hb] at hF
  refine c_cond_t hF rfl ?_
  refine c_seq ?_
  refine reg_list ?_
  refine ls hF hW rfl ((y_assign hF rfl).q) (fun a w hF hW => ?_)
  refine ls_nil ?_
  refine c_then ?_
  refine wp_ret ?_
  refine r_then ?_
  have H := Option.some.inj H
  subst H
  refine post1 (.inl rfl) hF hW rfl (rv_tmp hF rfl) ?_
  have hW := hW.nilRow 59 R59
  exact ⟨(Value.slice none 0 0), rfl, hW⟩
 ·
  rw [hb] at hF
  refine c_cond_f hF rfl ?_
  refine wp_skip ?_
  refine c_then ?_
  refine c_seq ?_
  refine reg_list ?_
  refine l_lit (z := Value.agg #[.int .i64 0, .int .i64 0, .int .i64 0, .int .i64 0, .int .i64 0, .int .i64 0]) (cs := []) R59 ([] : List (Int × Int × Int × Int × Int × Int)) hF hW rfl L22 Z59 rfl rfl rfl rfl rfl rfl (F59.repL _ _ ([] : List (Int × Int × Int × Int × Int × Int))) (fun v2 a w hF hW => ?_)
  refine ls hF hW rfl ((y_move hF rfl).q) (fun a w hF hW => ?_)
  obtain ⟨x1, h1, H⟩ := bindE H
  refine l_append (r := R59) (i := 0) hF hW rfl L22 rfl rfl rfl rfl (src_old hW s_v1) h1 rfl (fun v3 a w hF hW => ?_)
  have hW : Stw ⟨Y, [], w0⟩ [] [row v3 59 R59 x1] w := hW
  refine ls hF hW rfl ((y_assign hF rfl).q) (fun a w hF hW => ?_)
  refine ls_nil ?_
  refine c_then ?_
  refine wp_ret ?_
  have H := Option.some.inj H
  subst H
  refine post1 (.inl rfl) hF hW rfl (rv_tmp hF rfl) ?_
  exact ⟨(v3), rfl, hW⟩

theorem u62_ : type_of% Try.underlying62 := Try.underlying62
theorem H21 : Has Try.prog 21 := ⟨fun args w => run_callFunc_body Try.func21 rfl (by decide) args w⟩
theorem B62 : Bt Try.prog 62 [.int .i64 0, .slice none 0 0, .slice none 0 0, .slice none 0 0] [(0, 3), (3, 1)] := ⟨⟨.agg #[.int .i64 0, .slice none 0 0, .slice none 0 0, .slice none 0 0], by kernel_rfl, rfl⟩, ⟨_, u62_, fun w => by kernel_rfl⟩⟩
noncomputable def wire_New (p0 : Int × (List (Int × Int × Int × Int × Int × Int)) × (List (Int × Int))) : Option (((Int × (List (Int × Int × Int × Int × Int × Int)) × (List (Int × Int))) × (List (Int × Int × Int × (Int × Int × Int × Int) × Int × Int))) ⊕ Unit) := (topo_Right p0).bind fun x1 => (if (!x1) = true then some (.inr ()) else (slices_Clone_api_Link_api_Link p0.2.1).bind fun x2 => some (.inl ((p0.1, x2, ([] : List (Int × Int))), ([] : List (Int × Int × Int × (Int × Int × Int × Int) × Int × Int)))))
theorem wire_New_c (Y : Nat → Prop) (w0 : World) (v1 : Value) (v2 : Value) (p0 : Int × (List (Int × Int × Int × Int × Int × Int)) × (List (Int × Int))) (r : ((Int × (List (Int × Int × Int × Int × Int × Int)) × (List (Int × Int))) × (List (Int × Int × Int × (Int × Int × Int × Int) × Int × Int))) ⊕ Unit) (H : wire_New p0 = some r) (s_v1 : Sl w0 Y R59 v1 p0.2.1) (h_v2 : Sl w0 (NX []) R75 v2 p0.2.2) :
    Calls Try.prog 7 #[.agg #[.int .i64 p0.1, v1, v2]] w0 fun e w' => altP r (fun r => ∃ x : Nat × Value × Value × Value, e = .returned (.tuple #[.pointer (some ⟨x.1, 0, none⟩), .int .i64 0]) ∧ Stw ⟨Y, [], w0⟩ [(x.1, [.int .i64 r.1.1, x.2.1, x.2.2.1, x.2.2.2])] [row (x.2.1) 59 R59 r.1.2.1, row (x.2.2.1) 75 R75 r.1.2.2, row (x.2.2.2) 51 R51 r.2] w') (fun r => ∃ x : Unit, e = .returned (.tuple #[.pointer none, .int .i64 2]) ∧ Stw ⟨Y, [], w0⟩ [] [] w') := by
 refine enter Try.func7 rfl Try.ntmps7 rfl (fun a hF => ?_)
 have hW := Stw.start Y w0
 have h_v1 := hW.nx s_v1
 unfold wire_New at H
 refine c_seq ?_
 refine reg_list ?_
 refine l_box (cs := [.int .i64 p0.1, v1, v2]) hF hW rfl rfl rfl (fun b1 a w hF hW => ?_)
 refine ls hF hW rfl ((y_assign hF rfl).q) (fun a w hF hW => ?_)
 refine ls hF hW rfl ((y_assign hF rfl).q) (fun a w hF hW => ?_)
 refine ls_nil ?_
 refine c_then ?_
 refine c_seq ?_
 refine c_seq ?_
 refine reg_list ?_
 refine ls hF hW rfl ((y_load (v := Value.agg #[.int .i64 p0.1, v1, v2]) 0 hF rfl rfl T25 rfl).q) (fun a w hF hW => ?_)
 obtain ⟨x1, h1, H⟩ := bindE H
 refine ls hF hW rfl (y_call (v := Value.bool x1) hF H20 rfl (fun w hW => topo_Right_c any w (v1) (v2) p0 _ h1 (((rdc_ro h_v1) : Rdc _ _ _ _ _ _) w hW).nx (((rdc_ro h_v2) : Rdc _ _ _ _ _ _) w hW).nx)) (fun a w hF hW => ?_)
 refine ls hF hW rfl ((y_not hF rfl).q) (fun a w hF hW => ?_)
 refine ls_nil ?_
 refine c_then ?_
 refine c_cond hF rfl (fun hb => ?_) (fun hb => ?_)
 ·
  have H := iteT hb H
  rw [hb] at hF
  clear hb
  refine c_seq ?_
  refine reg_list ?_
  refine ls hF hW rfl ((y_assign hF rfl).q) (fun a w hF hW => ?_)
  refine ls hF hW rfl ((y_assign hF rfl).q) (fun a w hF hW => ?_)
  refine ls_nil ?_
  refine c_then ?_
  refine wp_ret ?_
  refine r_then ?_
  have H := Option.some.inj H
  subst H
  refine post2 (.inl rfl) hF hW rfl (rv_tmp hF rfl) (rv_tmp hF rfl) ?_
  have hW := hW.sub (M' := []) (Z' := []) (List.nil_sublist _) (List.Sublist.refl _)
  exact ⟨(), rfl, hW⟩
 ·
  have H := iteF (by rw [hb]; decide) H
  rw [hb] at hF
  clear hb
  refine wp_skip ?_
  refine c_then ?_
  refine c_seq ?_
  refine reg_list ?_
  refine ls hF hW rfl ((y_fieldAddr u25_ rfl rfl rfl T22 hF rfl 1 rfl).q) (fun a w hF hW => ?_)
  refine ls hF hW rfl ((y_load (v := v1) 0 hF rfl rfl T22 rfl).q) (fun a w hF hW => ?_)
  obtain ⟨x2, h2, H⟩ := bindE H
  refine l_callG (Ml := []) (Zl := []) (M := [(b1, [.int .i64 p0.1, v1, v2])]) (Z := []) (β := Value) (rv := fun x => x) (MM := fun x => []) (ZZ := fun x => [row x 59 R59 x2]) hF hW H21 rfl rfl (fun hL => slices_Clone_api_Link_api_Link_c _ w (v1) p0.2.1 _ h2 (hW.old s_v1)) (fun x a w hF hW => ?_)
  obtain ⟨v3, rfl⟩ : ∃ y, y = x := ⟨x, rfl⟩
  have hW : Stw ⟨Y, [], w0⟩ [(b1, [.int .i64 p0.1, v1, v2])] [row v3 59 R59 x2] w := hW
  refine ls hF hW rfl ((y_fieldAddr u25_ rfl rfl rfl T22 hF rfl 1 rfl).q) (fun a w hF hW => ?_)
  refine l_store1 (M' := [(b1, [.int .i64 p0.1, v3, v2])]) 0 hF hW rfl rfl rfl T22 (hW.one (k := 0) rfl) rfl rfl (fun w hW => ?_)
  refine ls_nil ?_
  refine c_then ?_
  refine c_seq ?_
  refine reg_list ?_
  refine ls hF hW rfl ((y_fieldAddr u25_ rfl rfl rfl T23 hF rfl 2 rfl).q) (fun a w hF hW => ?_)
  refine l_store (vs := [.slice none 0 0]) (M' := [(b1, [.int .i64 p0.1, v3, .slice none 0 0])]) 0 hF hW rfl rfl rfl T23 rfl rfl rfl rfl rfl (fun w hW => ?_)
  refine ls_nil ?_
  refine c_then ?_
  refine c_seq ?_
  refine reg_list ?_
  refine ls hF hW rfl ((y_load (v := Value.agg #[.int .i64 p0.1, v3, .slice none 0 0]) 0 hF rfl rfl T25 rfl).q) (fun a w hF hW => ?_)
  refine ls hF hW rfl ((y_build (v := Value.agg #[.int .i64 p0.1, v3, .slice none 0 0, .slice none 0 0]) B62 hF rfl (fill_cons rfl rfl rfl fill_nil) rfl).q) (fun a w hF hW => ?_)
  refine l_box (cs := [.int .i64 p0.1, v3, .slice none 0 0, .slice none 0 0]) hF hW rfl rfl rfl (fun b2 a w hF hW => ?_)
  refine ls hF hW rfl ((y_assign hF rfl).q) (fun a w hF hW => ?_)
  refine ls hF hW rfl ((y_assign hF rfl).q) (fun a w hF hW => ?_)
  refine ls_nil ?_
  refine c_then ?_
  refine wp_ret ?_
  have H := Option.some.inj H
  subst H
  refine post2 (.inl rfl) hF hW rfl (rv_tmp hF rfl) (rv_tmp hF rfl) ?_
  have hW := hW.nilRow 75 R75
  have hW := hW.nilRow 51 R51
  have hW := hW.frontZ (i := 1) rfl rfl
  have hW := hW.frontZ (i := 2) rfl rfl
  have hW := hW.sub (M' := [(b2, [.int .i64 p0.1, v3, .slice none 0 0, .slice none 0 0])]) (Z' := [row v3 59 R59 x2, row (Value.slice none 0 0) 75 R75 ([]), row (Value.slice none 0 0) 51 R51 ([])]) (List.Sublist.cons_cons _ (List.nil_sublist _)) (List.Sublist.refl _)
  exact ⟨(b2, (v3), (Value.slice none 0 0), (Value.slice none 0 0)), rfl, hW⟩

theorem u36_ : type_of% Try.underlying36 := Try.underlying36
theorem H7 : Has Try.prog 7 := ⟨fun args w => run_callFunc_body Try.func7 rfl (by decide) args w⟩
theorem ZA36 : ∃ z, (Try.prog.info? 36).bind (·.zero) = some z ∧ z.cells = [.int .i64 0, .int .i64 0, .int .i64 0, .int .i64 0].toArray := ⟨.agg #[.int .i64 0, .int .i64 0, .int .i64 0, .int .i64 0], by kernel_rfl, rfl⟩
theorem Ar36 : Ar Try.prog 36 4 3 1 := ⟨u36_, by kernel_rfl⟩
theorem MO : Try.prog.follows .mixedOrders = true := by kernel_rfl
noncomputable def topo_Peer_l1 (p0 : Int × (List (Int × Int × Int × Int × Int × Int)) × (List (Int × Int))) (p1 : Int) (p2 : Int) : Int → Option (Int ⊕ (Unit ⊕ (Int × Int × Int × Bool)))
  | x1 => (if x1 < (p0.2.1.length : Int) then (ix p0.2.1 x1).bind fun x2 => (if p1 = x2.1 ∧ p2 = x2.2.1 then some (.inr (.inr (x2.2.2.1, x2.2.2.2.1, x1, true))) else (if p1 = x2.2.2.1 ∧ p2 = x2.2.2.2.1 then some (.inr (.inr (x2.1, x2.2.1, x1, true))) else some (.inl (w64 (x1 + 1))))) else some (.inr (.inl ())))
noncomputable def topo_Peer (p0 : Int × (List (Int × Int × Int × Int × Int × Int)) × (List (Int × Int))) (p1 : Int) (p2 : Int) : Option (Int × Int × Int × Bool) := orR (loopW (topo_Peer_l1 p0 p1 p2) 0) fun _ => some (0, 0, 0, false)
theorem topo_Peer_c (Y : Nat → Prop) (w0 : World) (v1 : Value) (v2 : Value) (p0 : Int × (List (Int × Int × Int × Int × Int × Int)) × (List (Int × Int))) (p1 : Int) (p2 : Int) (r : Int × Int × Int × Bool) (H : topo_Peer p0 p1 p2 = some r) (h_v1 : Sl w0 (NX []) R59 v1 p0.2.1) (h_v2 : Sl w0 (NX []) R75 v2 p0.2.2) :
    Calls Try.prog 34 #[.agg #[.int .i64 p0.1, v1, v2], .int .i64 p1, .int .i64 p2] w0 fun e w' => e = .returned (.tuple #[.int .i64 r.1, .int .i64 r.2.1, .int .i64 r.2.2.1, .bool r.2.2.2]) ∧ Below w0.heap.size w0 w' := by
 refine enter Try.func34 rfl Try.ntmps34 rfl (fun a hF => ?_)
 have hW := Stw.start Y w0
 unfold topo_Peer at H
 refine c_seq ?_
 refine reg_list ?_
 refine l_box (cs := [.int .i64 p0.1, v1, v2]) hF hW rfl rfl rfl (fun b1 a w hF hW => ?_)
 refine ls hF hW rfl ((y_assign hF rfl).q) (fun a w hF hW => ?_)
 refine ls hF hW rfl ((y_assign hF rfl).q) (fun a w hF hW => ?_)
 refine ls hF hW rfl ((y_assign hF rfl).q) (fun a w hF hW => ?_)
 refine ls hF hW rfl ((y_assign hF rfl).q) (fun a w hF hW => ?_)
 refine ls_nil ?_
 refine c_then ?_
 refine c_seq ?_
 refine reg_list ?_
 refine ls hF hW rfl ((y_move hF rfl).q) (fun a w hF hW => ?_)
 refine ls hF hW rfl ((y_move hF rfl).q) (fun a w hF hW => ?_)
 refine ls hF hW rfl ((y_build (v := Value.agg #[.int .i64 p1, .int .i64 p2]) B84 hF rfl rfl rfl).q) (fun a w hF hW => ?_)
 refine l_alloc (cs := [.int .i64 0, .int .i64 0]) hF hW rfl Z84 rfl (fun b2 a w hF hW => ?_)
 refine l_store (vs := [.int .i64 p1, .int .i64 p2]) (M' := [(b2, [.int .i64 p1, .int .i64 p2]), (b1, [.int .i64 p0.1, v1, v2])]) 0 hF hW rfl rfl rfl T84 rfl rfl rfl rfl rfl (fun w hW => ?_)
 refine ls_nil ?_
 refine c_then ?_
 obtain ⟨o1, G1, K1, L1⟩ := orE H
 refine c_seqJ (fun a w => some (Sum.inl ()) = some o1 ∧ Fr 49 [] [(6, .int .i64 0), (7, .int .i64 0), (8, .int .i64 0), (9, .bool false)] a ∧ Stw ⟨Y, [], w0⟩ [(b2, [.int .i64 p1, .int .i64 p2]), (b1, [.int .i64 p0.1, v1, v2])] [] w) ?_ ?_
 ·
  have H := G1
  clear G1 K1
  refine c_seq ?_
  refine reg_list ?_
  refine ls hF hW rfl ((y_fieldAddr u25_ rfl rfl rfl T22 hF rfl 1 rfl).q) (fun a w hF hW => ?_)
  refine ls hF hW rfl ((y_load (v := v1) 1 hF rfl rfl T22 rfl).q) (fun a w hF hW => ?_)
  refine ls hF hW rfl ((y_len (r := R59) (l := p0.2.1) u22_ rfl hF rfl (rdc_ro h_v1)).q) (fun a w hF hW => ?_)
  refine ls hF hW rfl ((y_move hF rfl).q) (fun a w hF hW => ?_)
  refine ls_nil ?_
  refine c_then ?_
  refine wp_block ?_
  have hW := hW.frontM (i := 1) rfl rfl
  have hW := hW.frontM (i := 1) rfl rfl
  refine c_loopW H (fun s a w => Fr 49 [] [(6, .int .i64 0), (7, .int .i64 0), (8, .int .i64 0), (9, .bool false), (10, .pointer (some ⟨b2, 0, none⟩)), (17, v1), (18, .int .i64 (p0.2.1.length : Int)), (19, .int .i64 s)] a ∧ Stw ⟨Y, [], w0⟩ [(b2, [.int .i64 p1, .int .i64 p2]), (b1, [.int .i64 p0.1, v1, v2])] [] w) ⟨hF.re ⟨rfl, rfl, rfl, rfl, rfl, rfl, rfl, rfl, trivial⟩, hW⟩ (fun s o a w H L2 hR => ?_)
  obtain ⟨x1, rfl⟩ : ∃ x, x = s := ⟨s, rfl⟩
  obtain ⟨hF, hW⟩ := hR
  have hF : Fr 49 [] [(6, .int .i64 0), (7, .int .i64 0), (8, .int .i64 0), (9, .bool false), (10, .pointer (some ⟨b2, 0, none⟩)), (17, v1), (18, .int .i64 (p0.2.1.length : Int)), (19, .int .i64 x1)] a := hF
  have hW : Stw ⟨Y, [], w0⟩ [(b2, [.int .i64 p1, .int .i64 p2]), (b1, [.int .i64 p0.1, v1, v2])] [] w := hW
  rw [topo_Peer_l1] at H
  refine c_seq ?_
  refine reg_list ?_
  refine ls hF hW rfl ((y_lss hF rfl rfl).q) (fun a w hF hW => ?_)
  refine ls_nil ?_
  refine c_then ?_
  refine c_seq ?_
  refine c_cond hF rfl (fun hb => ?_) (fun hb => ?_)
  ·
   have H := iteT (of_decide_eq_true hb) H
   rw [hb] at hF
   clear hb
   refine wp_skip ?_
   refine c_then ?_
   refine c_seq ?_
   refine wp_block ?_
   refine c_seq ?_
   refine reg_list ?_
   refine ls hF hW rfl ((y_move hF rfl).q) (fun a w hF hW => ?_)
   obtain ⟨x2, h1, H⟩ := bindE H
   refine ls hF hW rfl ((y_index (r := R59) L22 hF rfl rfl (rdc_ro h_v1) h1).q) (fun a w hF hW => ?_)
   refine ls hF hW rfl ((y_load_el (y := Value.agg #[.int .i64 x2.1, .int .i64 x2.2.1, .int .i64 x2.2.2.1, .int .i64 x2.2.2.2.1, .int .i64 x2.2.2.2.2.1, .int .i64 x2.2.2.2.2.2]) (j := 0) (i := x1) hF rfl rfl (rdc_ro h_v1) h1 F59.to T59 rfl).q) (fun a w hF hW => ?_)
   refine l_alloc (cs := [.int .i64 0, .int .i64 0, .int .i64 0, .int .i64 0, .int .i64 0, .int .i64 0]) hF hW rfl Z59 rfl (fun b3 a w hF hW => ?_)
   refine ls hF hW rfl ((y_assign hF rfl).q) (fun a w hF hW => ?_)
   refine l_store (vs := [.int .i64 x2.1, .int .i64 x2.2.1, .int .i64 x2.2.2.1, .int .i64 x2.2.2.2.1, .int .i64 x2.2.2.2.2.1, .int .i64 x2.2.2.2.2.2]) (M' := [(b3, [.int .i64 x2.1, .int .i64 x2.2.1, .int .i64 x2.2.2.1, .int .i64 x2.2.2.2.1, .int .i64 x2.2.2.2.2.1, .int .i64 x2.2.2.2.2.2]), (b2, [.int .i64 p1, .int .i64 p2]), (b1, [.int .i64 p0.1, v1, v2])]) 0 hF hW rfl rfl rfl T59 rfl rfl rfl rfl rfl (fun w hW => ?_)
   refine ls_nil ?_
   refine c_then ?_
   refine c_seq ?_
   refine c_seq ?_
   refine reg_list ?_
   refine ls hF hW rfl ((y_load (v := Value.agg #[.int .i64 p1, .int .i64 p2]) 1 hF rfl rfl T84 rfl).q) (fun a w hF hW => ?_)
   refine ls hF hW rfl ((y_fieldAddr u59_ rfl rfl rfl T3 hF rfl 0 rfl).q) (fun a w hF hW => ?_)
   refine ls hF hW rfl ((y_load (v := Value.int .i64 x2.1) 0 hF rfl rfl T3 rfl).q) (fun a w hF hW => ?_)
   refine ls hF hW rfl ((y_fieldAddr u59_ rfl rfl rfl T3 hF rfl 1 rfl).q) (fun a w hF hW => ?_)
   refine ls hF hW rfl ((y_load (v := Value.int .i64 x2.2.1) 0 hF rfl rfl T3 rfl).q) (fun a w hF hW => ?_)
   refine ls hF hW rfl ((y_build (v := Value.agg #[.int .i64 x2.1, .int .i64 x2.2.1]) B84 hF rfl rfl rfl).q) (fun a w hF hW => ?_)
   refine ls hF hW rfl ((y_eqa (t := decide (p1 = x2.1 ∧ p2 = x2.2.1)) G84 (Q84 _ _ _ _) hF rfl rfl).q) (fun a w hF hW => ?_)
   refine ls_nil ?_
   refine c_then ?_
   refine c_cond hF rfl (fun hb => ?_) (fun hb => ?_)
   ·
    have H := iteT (of_decide_eq_true hb) H
    rw [hb] at hF
    clear hb
    refine c_seq ?_
    refine reg_quiet hW MO (by kernel_rfl) ?_
    refine qs hF rfl ((y_fieldAddr u59_ rfl rfl rfl T3 hF rfl 2 rfl).q) (fun a hF => ?_)
    refine qs hF rfl ((y_load (v := Value.int .i64 x2.2.2.1) 0 hF rfl rfl T3 rfl).q) (fun a hF => ?_)
    refine qs hF rfl ((y_fieldAddr u59_ rfl rfl rfl T3 hF rfl 3 rfl).q) (fun a hF => ?_)
    refine qs hF rfl ((y_load (v := Value.int .i64 x2.2.2.2.1) 0 hF rfl rfl T3 rfl).q) (fun a hF => ?_)
    refine qs hF rfl ((y_move hF rfl).q) (fun a hF => ?_)
    refine qs hF rfl ((y_assign hF rfl).q) (fun a hF => ?_)
    refine qs hF rfl ((y_assign hF rfl).q) (fun a hF => ?_)
    refine qs hF rfl ((y_assign hF rfl).q) (fun a hF => ?_)
    refine qs hF rfl ((y_assign hF rfl).q) (fun a hF => ?_)
    refine quiet_end (fun w hW => ?_)
    refine c_then ?_
    refine wp_ret ?_
    refine r_then ?_
    refine r_block ?_
    refine r_then ?_
    refine r_then ?_
    refine r_block ?_
    refine r_then ?_
    have H := L2 _ H
    have H := L1 _ H
    have H := Option.some.inj H
    subst H
    refine post4 (.inl rfl) hF hW rfl (rv_tmp hF rfl) (rv_tmp hF rfl) (rv_tmp hF rfl) (rv_tmp hF rfl) ?_
    exact ⟨rfl, hW.done⟩
   ·
    have H := iteF (of_decide_eq_false hb) H
    rw [hb] at hF
    clear hb
    refine wp_skip ?_
    refine c_then ?_
    refine c_seq ?_
    refine reg_list ?_
    refine ls hF hW rfl ((y_load (v := Value.agg #[.int .i64 p1, .int .i64 p2]) 1 hF rfl rfl T84 rfl).q) (fun a w hF hW => ?_)
    refine ls hF hW rfl ((y_fieldAddr u59_ rfl rfl rfl T3 hF rfl 2 rfl).q) (fun a w hF hW => ?_)
    refine ls hF hW rfl ((y_load (v := Value.int .i64 x2.2.2.1) 0 hF rfl rfl T3 rfl).q) (fun a w hF hW => ?_)
    refine ls hF hW rfl ((y_fieldAddr u59_ rfl rfl rfl T3 hF rfl 3 rfl).q) (fun a w hF hW => ?_)
    refine ls hF hW rfl ((y_load (v := Value.int .i64 x2.2.2.2.1) 0 hF rfl rfl T3 rfl).q) (fun a w hF hW => ?_)
    refine ls hF hW rfl ((y_build (v := Value.agg #[.int .i64 x2.2.2.1, .int .i64 x2.2.2.2.1]) B84 hF rfl rfl rfl).q) (fun a w hF hW => ?_)
    refine ls hF hW rfl ((y_eqa (t := decide (p1 = x2.2.2.1 ∧ p2 = x2.2.2.2.1)) G84 (Q84 _ _ _ _) hF rfl rfl).q) (fun a w hF hW => ?_)
    refine ls_nil ?_
    refine c_then ?_
    refine c_cond hF rfl (fun hb => ?_) (fun hb => ?_)
    ·
     have H := iteT (of_decide_eq_true hb) H
     rw [hb] at hF
     clear hb
     refine c_seq ?_
     refine reg_quiet hW MO (by kernel_rfl) ?_
     refine qs hF rfl ((y_fieldAddr u59_ rfl rfl rfl T3 hF rfl 0 rfl).q) (fun a hF => ?_)
     refine qs hF rfl ((y_load (v := Value.int .i64 x2.1) 0 hF rfl rfl T3 rfl).q) (fun a hF => ?_)
     refine qs hF rfl ((y_fieldAddr u59_ rfl rfl rfl T3 hF rfl 1 rfl).q) (fun a hF => ?_)
     refine qs hF rfl ((y_load (v := Value.int .i64 x2.2.1) 0 hF rfl rfl T3 rfl).q) (fun a hF => ?_)
     refine qs hF rfl ((y_move hF rfl).q) (fun a hF => ?_)
     refine qs hF rfl ((y_assign hF rfl).q) (fun a hF => ?_)
     refine qs hF rfl ((y_assign hF rfl).q) (fun a hF => ?_)
     refine qs hF rfl ((y_assign hF rfl).q) (fun a hF => ?_)
     refine qs hF rfl ((y_assign hF rfl).q) (fun a hF => ?_)
     refine quiet_end (fun w hW => ?_)
     refine c_then ?_
     refine wp_ret ?_
     refine r_block ?_
     refine r_then ?_
     refine r_then ?_
     refine r_block ?_
     refine r_then ?_
     have H := L2 _ H
     have H := L1 _ H
     have H := Option.some.inj H
     subst H
     refine post4 (.inl rfl) hF hW rfl (rv_tmp hF rfl) (rv_tmp hF rfl) (rv_tmp hF rfl) (rv_tmp hF rfl) ?_
     exact ⟨rfl, hW.done⟩
    ·
     have H := iteF (of_decide_eq_false hb) H
     rw [hb] at hF
     clear hb
     refine wp_skip ?_
     refine b_normal ?_
     refine c_then ?_
     refine reg_list ?_
     refine ls hF hW rfl ((y_add hF rfl rfl rfl).q) (fun a w hF hW => ?_)
     refine ls hF hW rfl ((y_move hF rfl).q) (fun a w hF hW => ?_)
     refine ls_nil ?_
     refine c_then ?_
     have hW := hW.frontM (i := 2) rfl rfl
     have hW := hW.frontM (i := 2) rfl rfl
     have hW := hW.sub (M' := [(b2, [.int .i64 p1, .int .i64 p2]), (b1, [.int .i64 p0.1, v1, v2])]) (Z' := []) (List.Sublist.cons_cons _ (List.Sublist.cons_cons _ (List.nil_sublist _))) (List.Sublist.refl _)
     exact ⟨_, H, hF.re ⟨rfl, rfl, rfl, rfl, rfl, rfl, rfl, rfl, trivial⟩, hW⟩
  ·
   have H := iteF (of_decide_eq_false hb) H
   rw [hb] at hF
   clear hb
   refine wp_exit ?_
   refine e_then ?_
   refine e_then ?_
   refine e_block ?_
   refine c_then ?_
   have hW := hW.frontM (i := 1) rfl rfl
   have hW := hW.frontM (i := 1) rfl rfl
   have H := L2 _ H
   exact ⟨H, hF.re ⟨rfl, rfl, rfl, rfl, trivial⟩, hW⟩
 rintro a w ⟨hj, hF, hW⟩
 have H := K1 _ hj
 clear hj G1 K1 L1
 refine c_seq ?_
 refine reg_list ?_
 refine ls hF hW rfl ((y_assign hF rfl).q) (fun a w hF hW => ?_)
 refine ls hF hW rfl ((y_assign hF rfl).q) (fun a w hF hW => ?_)
 refine ls hF hW rfl ((y_assign hF rfl).q) (fun a w hF hW => ?_)
 refine ls hF hW rfl ((y_assign hF rfl).q) (fun a w hF hW => ?_)
 refine ls_nil ?_
 refine c_then ?_
 refine wp_ret ?_
 have H := Option.some.inj H
 subst H
 refine post4 (.inl rfl) hF hW rfl (rv_tmp hF rfl) (rv_tmp hF rfl) (rv_tmp hF rfl) (rv_tmp hF rfl) ?_
 exact ⟨rfl, hW.done⟩

theorem u48_ : type_of% Try.underlying48 := Try.underlying48
theorem H34 : Has Try.prog 34 := ⟨fun args w => run_callFunc_body Try.func34 rfl (by decide) args w⟩
theorem T48 : Ty Try.prog 48 false 1 := ⟨by kernel_rfl, by kernel_rfl⟩
def E36 (a : Int × Int × Int × Int) : List Value := [.int .i64 a.1, .int .i64 a.2.1, .int .i64 a.2.2.1, .int .i64 a.2.2.2]
theorem F36 : Fl R36 E36 := (Fl.pair Fl.int (Fl.pair Fl.int (Fl.pair Fl.int Fl.int)))
def E51 (a : Int × Int × Int × (Int × Int × Int × Int) × Int × Int) : List Value := [.int .i64 a.1, .int .i64 a.2.1, .int .i64 a.2.2.1, .int .i64 a.2.2.2.1.1, .int .i64 a.2.2.2.1.2.1, .int .i64 a.2.2.2.1.2.2.1, .int .i64 a.2.2.2.1.2.2.2, .int .i64 a.2.2.2.2.1, .int .i64 a.2.2.2.2.2]
theorem F51 : Fl R51 E51 := (Fl.pair Fl.int (Fl.pair Fl.int (Fl.pair Fl.int (Fl.pair F36 (Fl.pair Fl.int Fl.int)))))
theorem L48 : Et Try.prog 48 51 9 72 := Et.of u48_ (by kernel_rfl) (by kernel_rfl) (by kernel_rfl) (by decide)
noncomputable def wire_Wires_Put_2 (p0 : (Int × (List (Int × Int × Int × Int × Int × Int)) × (List (Int × Int))) × (List (Int × Int × Int × (Int × Int × Int × Int) × Int × Int))) (p1 : Int) (p2 : Int) (p3 : Int) (p4 : Int) (p5 : Int × Int × Int × Int) : Option (Int × ((Int × (List (Int × Int × Int × Int × Int × Int)) × (List (Int × Int))) × (List (Int × Int × Int × (Int × Int × Int × Int) × Int × Int)))) := (topo_Peer p0.1 p2 p3).bind fun x1 => (if (!x1.2.2.2) = true then some (7, p0) else (if 256 ≤ (p0.2.length : Int) then some (6, p0) else (ix p0.1.2.1 x1.2.2.1).bind fun x2 => (app p0.2 ([(p4, x1.1, x1.2.1, p5, w64 (p1 + x2.2.2.2.2.1), w64 (p1 + x2.2.2.2.2.2))] : List (Int × Int × Int × (Int × Int × Int × Int) × Int × Int))).bind fun x3 => some (0, (p0.1, x3))))
theorem wire_Wires_Put_2_c (Y : Nat → Prop) (X : List Nat) (w0 : World) (q_p0 : Nat) (v1 : Value) (v2 : Value) (v3 : Value) (p0 : (Int × (List (Int × Int × Int × Int × Int × Int)) × (List (Int × Int))) × (List (Int × Int × Int × (Int × Int × Int × Int) × Int × Int))) (p1 : Int) (p2 : Int) (p3 : Int) (p4 : Int) (p5 : Int × Int × Int × Int) (r : Int × ((Int × (List (Int × Int × Int × Int × Int × Int)) × (List (Int × Int))) × (List (Int × Int × Int × (Int × Int × Int × Int) × Int × Int)))) (H : wire_Wires_Put_2 p0 p1 p2 p3 p4 p5 = some r) (hL : Stw ⟨Y, X, w0⟩ [(q_p0, [.int .i64 p0.1.1, v1, v2, v3])] [row v1 59 R59 p0.1.2.1, row v2 75 R75 p0.1.2.2, row v3 51 R51 p0.2] w0) :
    Calls Try.prog 18 #[.pointer (some ⟨q_p0, 0, none⟩), .int .i64 p1, .int .i64 p2, .int .i64 p3, .int .i64 p4, .agg #[.int .i64 p5.1, .int .i64 p5.2.1, .int .i64 p5.2.2.1, .int .i64 p5.2.2.2]] w0 fun e w' => ∃ x : Value × Value × Value, e = .returned (.int .i64 r.1) ∧ Stw ⟨Y, X, w0⟩ [(q_p0, [.int .i64 r.2.1.1, x.1, x.2.1, x.2.2])] [row (x.1) 59 R59 r.2.1.2.1, row (x.2.1) 75 R75 r.2.1.2.2, row (x.2.2) 51 R51 r.2.2] w' := by
 refine enter Try.func18 rfl Try.ntmps18 rfl (fun a hF => ?_)
 have hW := hL
 unfold wire_Wires_Put_2 at H
 refine c_seq ?_
 refine reg_list ?_
 refine l_box (cs := [.int .i64 p5.1, .int .i64 p5.2.1, .int .i64 p5.2.2.1, .int .i64 p5.2.2.2]) hF hW rfl rfl rfl (fun b1 a w hF hW => ?_)
 refine ls hF hW rfl ((y_assign hF rfl).q) (fun a w hF hW => ?_)
 refine ls_nil ?_
 refine c_then ?_
 refine c_seq ?_
 refine c_seq ?_
 refine reg_list ?_
 refine ls hF hW rfl ((y_move hF rfl).q) (fun a w hF hW => ?_)
 refine ls hF hW rfl ((y_peq_some_nil u28_ hF rfl rfl).q) (fun a w hF hW => ?_)
 refine ls_nil ?_
 refine c_then ?_
 refine c_cond_f hF rfl ?_
 refine wp_skip ?_
 refine c_then ?_
 refine c_seq ?_
 refine reg_list ?_
 refine ls hF hW rfl ((y_move hF rfl).q) (fun a w hF hW => ?_)
 refine ls hF hW rfl ((y_nilCheck hF rfl).q) (fun a w hF hW => ?_)
 refine ls hF hW rfl ((y_fieldAddr u62_ rfl rfl rfl T25 hF rfl 0 rfl).q) (fun a w hF hW => ?_)
 refine ls hF hW rfl ((y_load (v := Value.agg #[.int .i64 p0.1.1, v1, v2]) 1 hF rfl rfl T25 rfl).q) (fun a w hF hW => ?_)
 refine ls hF hW rfl ((y_move hF rfl).q) (fun a w hF hW => ?_)
 refine ls hF hW rfl ((y_move hF rfl).q) (fun a w hF hW => ?_)
 obtain ⟨x1, h1, H⟩ := bindE H
 refine ls hF hW rfl (y_call (v := Value.tuple #[.int .i64 x1.1, .int .i64 x1.2.1, .int .i64 x1.2.2.1, .bool x1.2.2.2]) hF H34 rfl (fun w hW => topo_Peer_c any w (v1) (v2) p0.1 p2 p3 _ h1 (((rdc_row 0 rfl) : Rdc _ _ _ _ _ _) w hW).nx (((rdc_row 1 rfl) : Rdc _ _ _ _ _ _) w hW).nx)) (fun a w hF hW => ?_)
 refine ls hF hW rfl ((y_move hF rfl).q) (fun a w hF hW => ?_)
 refine ls hF hW rfl ((y_extract (v := Value.int .i64 x1.1) hF rfl rfl).q) (fun a w hF hW => ?_)
 refine ls hF hW rfl ((y_extract (v := Value.int .i64 x1.2.1) hF rfl rfl).q) (fun a w hF hW => ?_)
 refine ls hF hW rfl ((y_extract (v := Value.int .i64 x1.2.2.1) hF rfl rfl).q) (fun a w hF hW => ?_)
 refine ls hF hW rfl ((y_extract (v := Value.bool x1.2.2.2) hF rfl rfl).q) (fun a w hF hW => ?_)
 refine ls hF hW rfl ((y_assign hF rfl).q) (fun a w hF hW => ?_)
 refine ls hF hW rfl ((y_assign hF rfl).q) (fun a w hF hW => ?_)
 refine ls hF hW rfl ((y_assign hF rfl).q) (fun a w hF hW => ?_)
 refine ls hF hW rfl ((y_assign hF rfl).q) (fun a w hF hW => ?_)
 refine ls_nil ?_
 refine c_then ?_
 refine c_seq ?_
 refine c_seq ?_
 refine reg_list ?_
 refine ls hF hW rfl ((y_move hF rfl).q) (fun a w hF hW => ?_)
 refine ls hF hW rfl ((y_not hF rfl).q) (fun a w hF hW => ?_)
 refine ls_nil ?_
 refine c_then ?_
 refine c_cond hF rfl (fun hb => ?_) (fun hb => ?_)
 ·
  have H := iteT hb H
  rw [hb] at hF
  clear hb
  refine c_seq ?_
  refine reg_list ?_
  refine ls hF hW rfl ((y_assign hF rfl).q) (fun a w hF hW => ?_)
  refine ls_nil ?_
  refine c_then ?_
  refine wp_ret ?_
  refine r_then ?_
  have H := Option.some.inj H
  subst H
  refine post1 (.inl rfl) hF hW rfl (rv_tmp hF rfl) ?_
  have hW := hW.frontZ (i := 2) rfl rfl
  have hW := hW.frontZ (i := 2) rfl rfl
  have hW := hW.frontZ (i := 2) rfl rfl
  have hW := hW.frontM (i := 1) rfl rfl
  have hW := hW.sub (M' := [(q_p0, [.int .i64 p0.1.1, v1, v2, v3])]) (Z' := [row v1 59 R59 p0.1.2.1, row v2 75 R75 p0.1.2.2, row v3 51 R51 p0.2]) (List.Sublist.cons_cons _ (List.nil_sublist _)) (List.Sublist.refl _)
  exact ⟨((v1), (v2), (v3)), rfl, hW⟩
 ·
  have H := iteF (by rw [hb]; decide) H
  rw [hb] at hF
  clear hb
  refine wp_skip ?_
  refine c_then ?_
  refine c_seq ?_
  refine c_seq ?_
  refine reg_list ?_
  refine ls hF hW rfl ((y_move hF rfl).q) (fun a w hF hW => ?_)
  refine ls hF hW rfl ((y_nilCheck hF rfl).q) (fun a w hF hW => ?_)
  refine ls hF hW rfl ((y_fieldAddr u62_ rfl rfl rfl T48 hF rfl 3 rfl).q) (fun a w hF hW => ?_)
  refine ls hF hW rfl ((y_load (v := v3) 1 hF rfl rfl T48 rfl).q) (fun a w hF hW => ?_)
  refine ls hF hW rfl ((y_len (r := R51) (l := p0.2) u48_ rfl hF rfl (rdc_row 2 rfl)).q) (fun a w hF hW => ?_)
  refine ls hF hW rfl ((y_geq hF rfl rfl).q) (fun a w hF hW => ?_)
  refine ls_nil ?_
  refine c_then ?_
  refine c_cond hF rfl (fun hb => ?_) (fun hb => ?_)
  ·
   have H := iteT (of_decide_eq_true hb) H
   rw [hb] at hF
   clear hb
   refine c_seq ?_
   refine reg_list ?_
   refine ls hF hW rfl ((y_assign hF rfl).q) (fun a w hF hW => ?_)
   refine ls_nil ?_
   refine c_then ?_
   refine wp_ret ?_
   refine r_then ?_
   have H := Option.some.inj H
   subst H
   refine post1 (.inl rfl) hF hW rfl (rv_tmp hF rfl) ?_
   have hW := hW.frontZ (i := 2) rfl rfl
   have hW := hW.frontZ (i := 2) rfl rfl
   have hW := hW.frontZ (i := 2) rfl rfl
   have hW := hW.frontM (i := 1) rfl rfl
   have hW := hW.sub (M' := [(q_p0, [.int .i64 p0.1.1, v1, v2, v3])]) (Z' := [row v1 59 R59 p0.1.2.1, row v2 75 R75 p0.1.2.2, row v3 51 R51 p0.2]) (List.Sublist.cons_cons _ (List.nil_sublist _)) (List.Sublist.refl _)
   exact ⟨((v1), (v2), (v3)), rfl, hW⟩
  ·
   have H := iteF (of_decide_eq_false hb) H
   rw [hb] at hF
   clear hb
   refine wp_skip ?_
   refine c_then ?_
   refine c_seq ?_
   refine reg_list ?_
   refine ls hF hW rfl ((y_move hF rfl).q) (fun a w hF hW => ?_)
   refine ls hF hW rfl ((y_nilCheck hF rfl).q) (fun a w hF hW => ?_)
   refine ls hF hW rfl ((y_fieldAddr u62_ rfl rfl rfl T25 hF rfl 0 rfl).q) (fun a w hF hW => ?_)
   refine ls hF hW rfl ((y_fieldAddr u25_ rfl rfl rfl T22 hF rfl 1 rfl).q) (fun a w hF hW => ?_)
   refine ls hF hW rfl ((y_load (v := v1) 1 hF rfl rfl T22 rfl).q) (fun a w hF hW => ?_)
   refine ls hF hW rfl ((y_move hF rfl).q) (fun a w hF hW => ?_)
   obtain ⟨x2, h2, H⟩ := bindE H
   refine ls hF hW rfl ((y_index (r := R59) L22 hF rfl rfl (rdc_row 0 rfl) h2).q) (fun a w hF hW => ?_)
   refine ls hF hW rfl ((y_load_el (y := Value.agg #[.int .i64 x2.1, .int .i64 x2.2.1, .int .i64 x2.2.2.1, .int .i64 x2.2.2.2.1, .int .i64 x2.2.2.2.2.1, .int .i64 x2.2.2.2.2.2]) (j := 0) (i := x1.2.2.1) hF rfl rfl (rdc_row 0 rfl) h2 F59.to T59 rfl).q) (fun a w hF hW => ?_)
   refine l_alloc (cs := [.int .i64 0, .int .i64 0, .int .i64 0, .int .i64 0, .int .i64 0, .int .i64 0]) hF hW rfl Z59 rfl (fun b2 a w hF hW => ?_)
   refine l_store (vs := [.int .i64 x2.1, .int .i64 x2.2.1, .int .i64 x2.2.2.1, .int .i64 x2.2.2.2.1, .int .i64 x2.2.2.2.2.1, .int .i64 x2.2.2.2.2.2]) (M' := [(b2, [.int .i64 x2.1, .int .i64 x2.2.1, .int .i64 x2.2.2.1, .int .i64 x2.2.2.2.1, .int .i64 x2.2.2.2.2.1, .int .i64 x2.2.2.2.2.2]), (b1, [.int .i64 p5.1, .int .i64 p5.2.1, .int .i64 p5.2.2.1, .int .i64 p5.2.2.2]), (q_p0, [.int .i64 p0.1.1, v1, v2, v3])]) 0 hF hW rfl rfl rfl T59 rfl rfl rfl rfl rfl (fun w hW => ?_)
   refine ls_nil ?_
   refine c_then ?_
   refine c_seq ?_
   refine reg_plan [(true, 0), (true, 1), (true, 2), (true, 3), (true, 4), (true, 5), (true, 6), (true, 7), (true, 8), (true, 9), (true, 10), (true, 11), (true, 12), (true, 13), (true, 14), (true, 15), (true, 16), (true, 17), (false, 18), (false, 19), (true, 20), (true, 21), (false, 22)] (CN ⟨Y, X, w0⟩ [(some 19, q_p0, [.int .i64 p0.1.1, v1, v2, v3]), (some 22, b1, [.int .i64 p5.1, .int .i64 p5.2.1, .int .i64 p5.2.2.1, .int .i64 p5.2.2.2]), (some 22, b2, [.int .i64 x2.1, .int .i64 x2.2.1, .int .i64 x2.2.2.1, .int .i64 x2.2.2.2.1, .int .i64 x2.2.2.2.2.1, .int .i64 x2.2.2.2.2.2])] []) (fun ch a d v w h => by cases d <;> exact h) MO (by kernel_rfl) hW (fun w hW => ⟨_, _, hW, (all_cons (fun _ => (.tail _ (.tail _ (.head _)))) (all_cons (fun _ => (.tail _ (.head _))) (all_cons (fun _ => (.head _)) all_nil))), all_nil⟩) (fun w hW => ?_)
   refine pl_t (R := []) hF rfl rfl (yC fun M Z hN hZ => y_move hF rfl) rfl rfl (fun a hF => ?_)
   refine pl_t (R := []) hF rfl rfl (yC fun M Z hN hZ => y_move hF rfl) rfl rfl (fun a hF => ?_)
   refine pl_t (R := []) hF rfl rfl (yC fun M Z hN hZ => y_nilCheck hF rfl) rfl rfl (fun a hF => ?_)
   refine pl_t (R := []) hF rfl rfl (yC fun M Z hN hZ => y_fieldAddr u62_ rfl rfl rfl T48 hF rfl 3 rfl) rfl rfl (fun a hF => ?_)
   refine pl_t (R := [19]) hF rfl rfl (yC fun M Z hN hZ => y_load_m (cs := [.int .i64 p0.1.1, v1, v2, v3]) (v := v3) hF rfl (hN ((some 19), q_p0, [.int .i64 p0.1.1, v1, v2, v3]) (.head _) rfl) T48 rfl) (by kernel_rfl) rfl (fun a hF => ?_)
   refine pl_t (R := []) hF rfl rfl (yC fun M Z hN hZ => y_move hF rfl) rfl rfl (fun a hF => ?_)
   refine pl_t (R := []) hF rfl rfl (yC fun M Z hN hZ => y_move hF rfl) rfl rfl (fun a hF => ?_)
   refine pl_t (R := []) hF rfl rfl (yC fun M Z hN hZ => y_move hF rfl) rfl rfl (fun a hF => ?_)
   refine pl_t (R := [22]) hF rfl rfl (yC fun M Z hN hZ => y_load_m (cs := [.int .i64 p5.1, .int .i64 p5.2.1, .int .i64 p5.2.2.1, .int .i64 p5.2.2.2]) (v := Value.agg #[.int .i64 p5.1, .int .i64 p5.2.1, .int .i64 p5.2.2.1, .int .i64 p5.2.2.2]) hF rfl (hN ((some 22), b1, [.int .i64 p5.1, .int .i64 p5.2.1, .int .i64 p5.2.2.1, .int .i64 p5.2.2.2]) (.tail _ (.head _)) rfl) T36 rfl) (by kernel_rfl) rfl (fun a hF => ?_)
   refine pl_t (R := []) hF rfl rfl (yC fun M Z hN hZ => y_move hF rfl) rfl rfl (fun a hF => ?_)
   refine pl_t (R := []) hF rfl rfl (yC fun M Z hN hZ => y_fieldAddr u59_ rfl rfl rfl T3 hF rfl 4 rfl) rfl rfl (fun a hF => ?_)
   refine pl_t (R := [22]) hF rfl rfl (yC fun M Z hN hZ => y_load_m (cs := [.int .i64 x2.1, .int .i64 x2.2.1, .int .i64 x2.2.2.1, .int .i64 x2.2.2.2.1, .int .i64 x2.2.2.2.2.1, .int .i64 x2.2.2.2.2.2]) (v := Value.int .i64 x2.2.2.2.2.1) hF rfl (hN ((some 22), b2, [.int .i64 x2.1, .int .i64 x2.2.1, .int .i64 x2.2.2.1, .int .i64 x2.2.2.2.1, .int .i64 x2.2.2.2.2.1, .int .i64 x2.2.2.2.2.2]) (.tail _ (.tail _ (.head _))) rfl) T3 rfl) (by kernel_rfl) rfl (fun a hF => ?_)
   refine pl_t (R := []) hF rfl rfl (yC fun M Z hN hZ => y_add hF rfl rfl rfl) rfl rfl (fun a hF => ?_)
   refine pl_t (R := []) hF rfl rfl (yC fun M Z hN hZ => y_move hF rfl) rfl rfl (fun a hF => ?_)
   refine pl_t (R := []) hF rfl rfl (yC fun M Z hN hZ => y_fieldAddr u59_ rfl rfl rfl T3 hF rfl 5 rfl) rfl rfl (fun a hF => ?_)
   refine pl_t (R := [22]) hF rfl rfl (yC fun M Z hN hZ => y_load_m (cs := [.int .i64 x2.1, .int .i64 x2.2.1, .int .i64 x2.2.2.1, .int .i64 x2.2.2.2.1, .int .i64 x2.2.2.2.2.1, .int .i64 x2.2.2.2.2.2]) (v := Value.int .i64 x2.2.2.2.2.2) hF rfl (hN ((some 22), b2, [.int .i64 x2.1, .int .i64 x2.2.1, .int .i64 x2.2.2.1, .int .i64 x2.2.2.2.1, .int .i64 x2.2.2.2.2.1, .int .i64 x2.2.2.2.2.2]) (.tail _ (.tail _ (.head _))) rfl) T3 rfl) (by kernel_rfl) rfl (fun a hF => ?_)
   refine pl_t (R := []) hF rfl rfl (yC fun M Z hN hZ => y_add hF rfl rfl rfl) rfl rfl (fun a hF => ?_)
   refine pl_t (R := []) hF rfl rfl (yC fun M Z hN hZ => y_build (v := Value.agg #[.int .i64 p4, .int .i64 x1.1, .int .i64 x1.2.1, .int .i64 p5.1, .int .i64 p5.2.1, .int .i64 p5.2.2.1, .int .i64 p5.2.2.2, .int .i64 (w64 (p1 + x2.2.2.2.2.1)), .int .i64 (w64 (p1 + x2.2.2.2.2.2))]) B51 hF rfl rfl rfl) rfl rfl (fun a hF => ?_)
   refine pl_f rfl ?_
   refine l_lit (z := Value.agg #[.int .i64 0, .int .i64 0, .int .i64 0, .int .i64 0, .int .i64 0, .int .i64 0, .int .i64 0, .int .i64 0, .int .i64 0]) (cs := [.int .i64 p4, .int .i64 x1.1, .int .i64 x1.2.1, .int .i64 p5.1, .int .i64 p5.2.1, .int .i64 p5.2.2.1, .int .i64 p5.2.2.2, .int .i64 (w64 (p1 + x2.2.2.2.2.1)), .int .i64 (w64 (p1 + x2.2.2.2.2.2))]) R51 ([(p4, x1.1, x1.2.1, p5, w64 (p1 + x2.2.2.2.2.1), w64 (p1 + x2.2.2.2.2.2))] : List (Int × Int × Int × (Int × Int × Int × Int) × Int × Int)) hF hW rfl L48 Z51 rfl rfl rfl rfl rfl rfl (F51.repL _ _ ([(p4, x1.1, x1.2.1, p5, w64 (p1 + x2.2.2.2.2.1), w64 (p1 + x2.2.2.2.2.2))] : List (Int × Int × Int × (Int × Int × Int × Int) × Int × Int))) (fun v4 a w hF hW => ?_)
   refine pl_next (N2 := []) (NZ2 := []) (N3 := [(some 19, q_p0, [.int .i64 p0.1.1, v1, v2, v3]), (some 22, b1, [.int .i64 p5.1, .int .i64 p5.2.1, .int .i64 p5.2.2.1, .int .i64 p5.2.2.2]), (some 22, b2, [.int .i64 x2.1, .int .i64 x2.2.1, .int .i64 x2.2.2.1, .int .i64 x2.2.2.2.1, .int .i64 x2.2.2.2.2.1, .int .i64 x2.2.2.2.2.2])]) (NZ3 := []) hW rfl rfl (all_cons (fun _ => (.tail _ (.tail _ (.head _)))) (all_cons (fun _ => (.tail _ (.head _))) (all_cons (fun _ => (.head _)) all_nil))) all_nil ?_
   refine pl_f rfl ?_
   obtain ⟨x3, h3, H⟩ := bindE H
   refine l_append (r := R51) (i := 3) hF hW rfl L48 rfl rfl rfl rfl (src_row hW 0 rfl) h3 rfl (fun v5 a w hF hW => ?_)
   have hW : Stw ⟨Y, X, w0⟩ [(b2, [.int .i64 x2.1, .int .i64 x2.2.1, .int .i64 x2.2.2.1, .int .i64 x2.2.2.2.1, .int .i64 x2.2.2.2.2.1, .int .i64 x2.2.2.2.2.2]), (b1, [.int .i64 p5.1, .int .i64 p5.2.1, .int .i64 p5.2.2.1, .int .i64 p5.2.2.2]), (q_p0, [.int .i64 p0.1.1, v1, v2, v3])] [row v5 51 R51 x3, row v4 51 R51 ([(p4, x1.1, x1.2.1, p5, w64 (p1 + x2.2.2.2.2.1), w64 (p1 + x2.2.2.2.2.2))] : List (Int × Int × Int × (Int × Int × Int × Int) × Int × Int)), row v1 59 R59 p0.1.2.1, row v2 75 R75 p0.1.2.2] w := hW
   refine pl_next (N2 := []) (NZ2 := []) (N3 := [(some 19, q_p0, [.int .i64 p0.1.1, v1, v2, v3]), (some 22, b1, [.int .i64 p5.1, .int .i64 p5.2.1, .int .i64 p5.2.2.1, .int .i64 p5.2.2.2]), (some 22, b2, [.int .i64 x2.1, .int .i64 x2.2.1, .int .i64 x2.2.2.1, .int .i64 x2.2.2.2.1, .int .i64 x2.2.2.2.2.1, .int .i64 x2.2.2.2.2.2])]) (NZ3 := []) hW rfl rfl (all_cons (fun h => rel_dead (by kernel_rfl) h) (all_cons (fun _ => (.tail _ (.head _))) (all_cons (fun _ => (.head _)) all_nil))) all_nil ?_
   refine pl_t (R := []) hF rfl rfl (yC fun M Z hN hZ => y_nilCheck hF rfl) rfl rfl (fun a hF => ?_)
   refine pl_t (R := []) hF rfl rfl (yC fun M Z hN hZ => y_fieldAddr u62_ rfl rfl rfl T48 hF rfl 3 rfl) rfl rfl (fun a hF => ?_)
   refine pl_f rfl ?_
   refine l_store1 (M' := [(b2, [.int .i64 x2.1, .int .i64 x2.2.1, .int .i64 x2.2.2.1, .int .i64 x2.2.2.2.1, .int .i64 x2.2.2.2.2.1, .int .i64 x2.2.2.2.2.2]), (b1, [.int .i64 p5.1, .int .i64 p5.2.1, .int .i64 p5.2.2.1, .int .i64 p5.2.2.2]), (q_p0, [.int .i64 p0.1.1, v1, v2, v5])]) 2 hF hW rfl rfl rfl T48 (hW.one (k := 0) rfl) rfl rfl (fun w hW => ?_)
   refine pl_next (N2 := []) (NZ2 := []) (N3 := [(some 19, q_p0, [.int .i64 p0.1.1, v1, v2, v3]), (some 22, b1, [.int .i64 p5.1, .int .i64 p5.2.1, .int .i64 p5.2.2.1, .int .i64 p5.2.2.2]), (some 22, b2, [.int .i64 x2.1, .int .i64 x2.2.1, .int .i64 x2.2.2.1, .int .i64 x2.2.2.2.1, .int .i64 x2.2.2.2.2.1, .int .i64 x2.2.2.2.2.2])]) (NZ3 := []) hW rfl rfl (all_cons (fun h => rel_dead (by kernel_rfl) h) (all_cons (fun h => rel_dead (by kernel_rfl) h) (all_cons (fun h => rel_dead (by kernel_rfl) h) all_nil))) all_nil ?_
   refine pl_end ?_
   refine c_then ?_
   refine c_seq ?_
   refine reg_list ?_
   refine ls hF hW rfl ((y_assign hF rfl).q) (fun a w hF hW => ?_)
   refine ls_nil ?_
   refine c_then ?_
   refine wp_ret ?_
   have H := Option.some.inj H
   subst H
   refine post1 (.inl rfl) hF hW rfl (rv_tmp hF rfl) ?_
   have hW := hW.frontZ (i := 3) rfl rfl
   have hW := hW.frontZ (i := 3) rfl rfl
   have hW := hW.frontM (i := 2) rfl rfl
   have hW := hW.sub (M' := [(q_p0, [.int .i64 p0.1.1, v1, v2, v5])]) (Z' := [row v1 59 R59 p0.1.2.1, row v2 75 R75 p0.1.2.2, row v5 51 R51 x3]) (List.Sublist.cons_cons _ (List.nil_sublist _)) (List.Sublist.cons_cons _ (List.Sublist.cons_cons _ (List.Sublist.cons_cons _ (List.nil_sublist _))))
   exact ⟨((v1), (v2), (v5)), rfl, hW⟩

end Go.Proofs.Ytemacefkdopgaaa
