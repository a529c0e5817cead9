/- The functions that WireNone reaches, lifted. Conditions: none. -/
import Derived.Test.YtemacefkdopgaaaA0
namespace Go.Proofs.Ytemacefkdopgaaa
open Go Go.RowKit
set_option linter.unusedVariables false
set_option linter.unusedSimpArgs false
set_option maxRecDepth 20000
noncomputable def wire_Wires_Look_2 (p0 : (Int × (List (Int × Int × Int × Int × Int × Int)) × (List (Int × Int))) × (List (Int × Int × Int × (Int × Int × Int × Int) × Int × Int))) (p1 : Int) : Option ((Int × Int × Int × (Int × Int × Int × Int) × Int × Int) × Int) := (if (decide (p1 < 0) || decide ((p0.2.length : Int) ≤ p1)) = true then some ((0, 0, 0, (0, 0, 0, 0), 0, 0), 7) else (ix p0.2 p1).bind fun x1 => some (x1, 0))
theorem wire_Wires_Look_2_c (Y : Nat → Prop) (w0 : World) (q_p0 : Nat) (v1 : Value) (v2 : Value) (v3 : Value) (p0 : (Int × (List (Int × Int × Int × Int × Int × Int)) × (List (Int × Int))) × (List (Int × Int × Int × (Int × Int × Int × Int) × Int × Int))) (p1 : Int) (r : (Int × Int × Int × (Int × Int × Int × Int) × Int × Int) × Int) (H : wire_Wires_Look_2 p0 p1 = some r) (h_v1 : Sl w0 (NX []) R59 v1 p0.1.2.1) (h_v2 : Sl w0 (NX []) R75 v2 p0.1.2.2) (h_v3 : Sl w0 (NX []) R51 v3 p0.2) (a_q_p0 : At ⟨Y, [], w0⟩ q_p0 0 [.int .i64 p0.1.1, v1, v2, v3]) :
    Calls Try.prog 19 #[.pointer (some ⟨q_p0, 0, none⟩), .int .i64 p1] w0 fun e w' => e = .returned (.tuple #[.agg #[.int .i64 r.1.1, .int .i64 r.1.2.1, .int .i64 r.1.2.2.1, .int .i64 r.1.2.2.2.1.1, .int .i64 r.1.2.2.2.1.2.1, .int .i64 r.1.2.2.2.1.2.2.1, .int .i64 r.1.2.2.2.1.2.2.2, .int .i64 r.1.2.2.2.2.1, .int .i64 r.1.2.2.2.2.2], .int .i64 r.2]) ∧ Below w0.heap.size w0 w' := by
 refine enter Try.func19 rfl Try.ntmps19 rfl (fun a hF => ?_)
 have hW := Stw.start Y w0
 unfold wire_Wires_Look_2 at H
 refine c_seq ?_
 refine reg_list ?_
 refine l_alloc (cs := [.int .i64 0, .int .i64 0, .int .i64 0, .int .i64 0, .int .i64 0, .int .i64 0, .int .i64 0, .int .i64 0, .int .i64 0]) hF hW rfl Z51 rfl (fun b1 a w hF hW => ?_)
 refine ls hF hW rfl ((y_assign hF rfl).q) (fun a w hF hW => ?_)
 refine ls_nil ?_
 refine c_then ?_
 refine c_seq ?_
 refine c_seq ?_
 refine reg_list ?_
 refine ls hF hW rfl ((y_move hF rfl).q) (fun a w hF hW => ?_)
 refine ls hF hW rfl ((y_peq_some_nil u28_ hF rfl rfl).q) (fun a w hF hW => ?_)
 refine ls_nil ?_
 refine c_then ?_
 refine c_cond_f hF rfl ?_
 refine wp_skip ?_
 refine c_then ?_
 refine c_seq ?_
 refine c_seqJ (fun a w => Fr 28 [] [(0, .pointer (some ⟨q_p0, 0, none⟩)), (1, .int .i64 p1), (4, .pointer (some ⟨b1, 0, none⟩)), (5, .int .i64 0), (19, .bool (decide (p1 < 0) || decide ((p0.2.length : Int) ≤ p1)))] a ∧ Stw ⟨Y, [], w0⟩ [(b1, [.int .i64 0, .int .i64 0, .int .i64 0, .int .i64 0, .int .i64 0, .int .i64 0, .int .i64 0, .int .i64 0, .int .i64 0])] [] w) ?_ ?_
 ·
  refine reg_list ?_
  refine ls hF hW rfl ((y_move hF rfl).q) (fun a w hF hW => ?_)
  refine ls hF hW rfl ((y_lss hF rfl rfl).q) (fun a w hF hW => ?_)
  refine ls hF hW rfl ((y_move hF rfl).q) (fun a w hF hW => ?_)
  rcases Bool.eq_false_or_eq_true (decide (p1 < 0)) with hb0 | hb0
  ·
   rw [hb0] at hF
   refine lsn hF rfl rfl rfl rfl rfl rfl rfl (fun a hF => ?_)
   refine lsn hF rfl rfl rfl rfl rfl rfl rfl (fun a hF => ?_)
   refine lsn hF rfl rfl rfl rfl rfl rfl rfl (fun a hF => ?_)
   refine lsn hF rfl rfl rfl rfl rfl rfl rfl (fun a hF => ?_)
   refine lsn hF rfl rfl rfl rfl rfl rfl rfl (fun a hF => ?_)
   refine lsn hF rfl rfl rfl rfl rfl rfl rfl (fun a hF => ?_)
   refine lsn hF rfl rfl rfl rfl rfl rfl rfl (fun a hF => ?_)
   refine ls hF hW rfl ((y_pick_t hF rfl rfl rfl).q) (fun a w hF hW => ?_)
   refine ls_nil ?_
   refine c_then ?_
   exact ⟨hF.re ⟨rfl, rfl, rfl, rfl, (by show some (Value.bool true) = some (Value.bool (decide (p1 < 0) || decide ((p0.2.length : Int) ≤ p1))); try rw [hb0]; all_goals simp only [Bool.not_true, Bool.not_false, Bool.true_and, Bool.false_and, Bool.true_or, Bool.false_or, Bool.and_true, Bool.or_false, cond_true, cond_false]), trivial⟩, hW⟩
  ·
   rw [hb0] at hF
   refine ls_w hF hW (wanted_y hF rfl rfl rfl rfl) rfl (Nat.le_of_ble_eq_true rfl) ((y_move hF rfl).q) (fun a w hF hW => ?_)
   refine ls_w hF hW (wanted_y hF rfl rfl rfl rfl) rfl (Nat.le_of_ble_eq_true rfl) ((y_move hF rfl).q) (fun a w hF hW => ?_)
   refine ls_w hF hW (wanted_y hF rfl rfl rfl rfl) rfl (Nat.le_of_ble_eq_true rfl) ((y_nilCheck hF rfl).q) (fun a w hF hW => ?_)
   refine ls_w hF hW (wanted_y hF rfl rfl rfl rfl) rfl (Nat.le_of_ble_eq_true rfl) ((y_fieldAddr u62_ rfl rfl rfl T48 hF rfl 3 rfl).q) (fun a w hF hW => ?_)
   refine ls_w hF hW (wanted_y hF rfl rfl rfl rfl) rfl (Nat.le_of_ble_eq_true rfl) ((y_load_at (y := v3) (j := 3) hF rfl (Nat.zero_add _).symm a_q_p0 T48 rfl).q) (fun a w hF hW => ?_)
   refine ls_w hF hW (wanted_y hF rfl rfl rfl rfl) rfl (Nat.le_of_ble_eq_true rfl) ((y_len (r := R51) (l := p0.2) u48_ rfl hF rfl (rdc_ro h_v3)).q) (fun a w hF hW => ?_)
   refine ls_w hF hW (wanted_y hF rfl rfl rfl rfl) rfl (Nat.le_of_ble_eq_true rfl) ((y_geq hF rfl rfl).q) (fun a w hF hW => ?_)
   refine ls hF hW rfl ((y_pick_f hF rfl rfl rfl).q) (fun a w hF hW => ?_)
   refine ls_nil ?_
   refine c_then ?_
   exact ⟨hF.re ⟨rfl, rfl, rfl, rfl, (by show some (Value.bool (decide ((p0.2.length : Int) ≤ p1))) = some (Value.bool (decide (p1 < 0) || decide ((p0.2.length : Int) ≤ p1))); try rw [hb0]; all_goals simp only [Bool.not_true, Bool.not_false, Bool.true_and, Bool.false_and, Bool.true_or, Bool.false_or, Bool.and_true, Bool.or_false, cond_true, cond_false]), trivial⟩, hW⟩
 rintro a w ⟨hF, hW⟩
 refine c_cond hF rfl (fun hb => ?_) (fun hb => ?_)
 ·
  have H := iteT hb H
  rw [hb] at hF
  clear hb
  refine c_seq ?_
  refine reg_list ?_
  refine ls hF hW rfl ((y_build (v := Value.agg #[.int .i64 0, .int .i64 0, .int .i64 0, .int .i64 0, .int .i64 0, .int .i64 0, .int .i64 0, .int .i64 0, .int .i64 0]) B51 hF rfl rfl rfl).q) (fun a w hF hW => ?_)
  refine l_store (vs := [.int .i64 0, .int .i64 0, .int .i64 0, .int .i64 0, .int .i64 0, .int .i64 0, .int .i64 0, .int .i64 0, .int .i64 0]) (M' := [(b1, [.int .i64 0, .int .i64 0, .int .i64 0, .int .i64 0, .int .i64 0, .int .i64 0, .int .i64 0, .int .i64 0, .int .i64 0])]) 0 hF hW rfl rfl rfl T51 rfl rfl rfl rfl rfl (fun w hW => ?_)
  refine ls hF hW rfl ((y_assign hF rfl).q) (fun a w hF hW => ?_)
  refine ls_nil ?_
  refine c_then ?_
  refine wp_ret ?_
  refine r_then ?_
  have H := Option.some.inj H
  subst H
  refine post2 (.inl rfl) hF hW rfl (rv_cell 0 hF rfl rfl T51 rfl) (rv_tmp hF rfl) ?_
  exact ⟨rfl, hW.done⟩
 ·
  have H := iteF (by rw [hb]; decide) H
  rw [hb] at hF
  clear hb
  refine wp_skip ?_
  refine c_then ?_
  refine c_seq ?_
  refine reg_list ?_
  refine ls hF hW rfl ((y_move hF rfl).q) (fun a w hF hW => ?_)
  refine ls hF hW rfl ((y_nilCheck hF rfl).q) (fun a w hF hW => ?_)
  refine ls hF hW rfl ((y_fieldAddr u62_ rfl rfl rfl T48 hF rfl 3 rfl).q) (fun a w hF hW => ?_)
  refine ls hF hW rfl ((y_load_at (y := v3) (j := 3) hF rfl (Nat.zero_add _).symm a_q_p0 T48 rfl).q) (fun a w hF hW => ?_)
  refine ls hF hW rfl ((y_move hF rfl).q) (fun a w hF hW => ?_)
  obtain ⟨x1, h1, H⟩ := bindE H
  refine ls hF hW rfl ((y_index (r := R51) L48 hF rfl rfl (rdc_ro h_v3) h1).q) (fun a w hF hW => ?_)
  refine ls hF hW rfl ((y_load_el (y := Value.agg #[.int .i64 x1.1, .int .i64 x1.2.1, .int .i64 x1.2.2.1, .int .i64 x1.2.2.2.1.1, .int .i64 x1.2.2.2.1.2.1, .int .i64 x1.2.2.2.1.2.2.1, .int .i64 x1.2.2.2.1.2.2.2, .int .i64 x1.2.2.2.2.1, .int .i64 x1.2.2.2.2.2]) (j := 0) (i := p1) hF rfl rfl (rdc_ro h_v3) h1 F51.to T51 rfl).q) (fun a w hF hW => ?_)
  refine l_store (vs := [.int .i64 x1.1, .int .i64 x1.2.1, .int .i64 x1.2.2.1, .int .i64 x1.2.2.2.1.1, .int .i64 x1.2.2.2.1.2.1, .int .i64 x1.2.2.2.1.2.2.1, .int .i64 x1.2.2.2.1.2.2.2, .int .i64 x1.2.2.2.2.1, .int .i64 x1.2.2.2.2.2]) (M' := [(b1, [.int .i64 x1.1, .int .i64 x1.2.1, .int .i64 x1.2.2.1, .int .i64 x1.2.2.2.1.1, .int .i64 x1.2.2.2.1.2.1, .int .i64 x1.2.2.2.1.2.2.1, .int .i64 x1.2.2.2.1.2.2.2, .int .i64 x1.2.2.2.2.1, .int .i64 x1.2.2.2.2.2])]) 0 hF hW rfl rfl rfl T51 rfl rfl rfl rfl rfl (fun w hW => ?_)
  refine ls hF hW rfl ((y_assign hF rfl).q) (fun a w hF hW => ?_)
  refine ls_nil ?_
  refine c_then ?_
  refine wp_ret ?_
  have H := Option.some.inj H
  subst H
  refine post2 (.inl rfl) hF hW rfl (rv_cell 0 hF rfl rfl T51 rfl) (rv_tmp hF rfl) ?_
  exact ⟨rfl, hW.done⟩

noncomputable def slices_Delete_wire_Way_wire_Way (p0 : List (Int × Int × Int × (Int × Int × Int × Int) × Int × Int)) (p1 : Int) (p2 : Int) : Option (List (Int × Int × Int × (Int × Int × Int × Int) × Int × Int)) := (subl p0 p1 p2).bind fun x1 => (if p1 = p2 then some p0 else (subl p0 0 p1).bind fun x2 => (subl p0 p2 (p0.length : Int)).bind fun x3 => (spl p0 (x2.length : Int) x3).bind fun x4 => (subl x4 0 ((x2.length : Int) + (x3.length : Int))).bind fun x5 => (subl x4 (x5.length : Int) (p0.length : Int)).bind fun x6 => (spl x4 (x5.length : Int) (List.replicate (x6.length) ((0, 0, 0, (0, 0, 0, 0), 0, 0) : Int × Int × Int × (Int × Int × Int × Int) × Int × Int))).bind fun x7 => some x5)
theorem slices_Delete_wire_Way_wire_Way_c (Y : Nat → Prop) (X : List Nat) (w0 : World) (v1 : Value) (p0 : List (Int × Int × Int × (Int × Int × Int × Int) × Int × Int)) (p1 : Int) (p2 : Int) (r : (List (Int × Int × Int × (Int × Int × Int × Int) × Int × Int))) (H : slices_Delete_wire_Way_wire_Way p0 p1 p2 = some r) (hL : Stw ⟨Y, X, w0⟩ [] [row v1 51 R51 p0] w0) :
    Calls Try.prog 32 #[v1, .int .i64 p1, .int .i64 p2] w0 fun e w' => ∃ x : Value, e = .returned (x) ∧ Stw ⟨Y, X, w0⟩ [] [row (x) 51 R51 r] w' := by
 refine enter Try.func32 rfl Try.ntmps32 rfl (fun a hF => ?_)
 have hW := hL
 unfold slices_Delete_wire_Way_wire_Way at H
 refine c_seq ?_
 refine reg_list ?_
 refine ls hF hW rfl ((y_assign hF rfl).q) (fun a w hF hW => ?_)
 refine ls_nil ?_
 refine c_then ?_
 refine c_seq ?_
 refine reg_list ?_
 refine ls hF hW rfl ((y_move hF rfl).q) (fun a w hF hW => ?_)
 refine ls hF hW rfl ((y_move hF rfl).q) (fun a w hF hW => ?_)
 refine ls hF hW rfl ((y_move hF rfl).q) (fun a w hF hW => ?_)
 refine ls hF hW rfl ((y_move hF rfl).q) (fun a w hF hW => ?_)
 refine ls hF hW rfl ((y_len (r := R51) (l := p0) u48_ rfl hF rfl (rdc_row 0 rfl)).q) (fun a w hF hW => ?_)
 obtain ⟨x1, h1, H⟩ := bindE H
 refine ls hF hW rfl ((y_slice3 (r := R51) L48 hF rfl rfl rfl rfl rfl (rdc_row 0 rfl) h1).q) (fun a w hF hW => ?_)
 refine ls_nil ?_
 refine c_then ?_
 refine c_seq ?_
 refine c_seq ?_
 refine reg_list ?_
 refine ls hF hW rfl ((y_move hF rfl).q) (fun a w hF hW => ?_)
 refine ls hF hW rfl ((y_move hF rfl).q) (fun a w hF hW => ?_)
 refine ls hF hW rfl ((y_eql hF rfl rfl).q) (fun a w hF hW => ?_)
 refine ls_nil ?_
 refine c_then ?_
 refine c_cond hF rfl (fun hb => ?_) (fun hb => ?_)
 ·
  have H := iteT (of_decide_eq_true hb) H
  rw [hb] at hF
  clear hb
  refine c_seq ?_
  refine reg_list ?_
  refine ls hF hW rfl ((y_move hF rfl).q) (fun a w hF hW => ?_)
  refine ls hF hW rfl ((y_assign hF rfl).q) (fun a w hF hW => ?_)
  refine ls_nil ?_
  refine c_then ?_
  refine wp_ret ?_
  refine r_then ?_
  have H := Option.some.inj H
  subst H
  refine post1 (.inl rfl) hF hW rfl (rv_tmp hF rfl) ?_
  exact ⟨(v1), rfl, hW⟩
 ·
  have H := iteF (of_decide_eq_false hb) H
  rw [hb] at hF
  clear hb
  refine wp_skip ?_
  refine c_then ?_
  refine c_seq ?_
  refine reg_list ?_
  refine ls hF hW rfl ((y_move hF rfl).q) (fun a w hF hW => ?_)
  refine ls hF hW rfl ((y_len (r := R51) (l := p0) u48_ rfl hF rfl (rdc_row 0 rfl)).q) (fun a w hF hW => ?_)
  refine ls hF hW rfl ((y_assign hF rfl).q) (fun a w hF hW => ?_)
  refine ls_nil ?_
  refine c_then ?_
  refine c_seq ?_
  refine reg_tail 6 hW MO (by kernel_rfl) ?_
  refine qs hF rfl ((y_move hF rfl).q) (fun a hF => ?_)
  refine qs hF rfl ((y_move hF rfl).q) (fun a hF => ?_)
  obtain ⟨x2, h2, H⟩ := bindE H
  refine qs hF rfl ((y_slice (r := R51) L48 hF rfl rfl rfl (rdc_row 0 rfl) h2).q) (fun a hF => ?_)
  refine qs hF rfl ((y_move hF rfl).q) (fun a hF => ?_)
  refine qs hF rfl ((y_move hF rfl).q) (fun a hF => ?_)
  obtain ⟨x3, h3, H⟩ := bindE H
  refine qs hF rfl ((y_slice (r := R51) L48 hF rfl rfl rfl (rdc_row 0 rfl) h3).q) (fun a hF => ?_)
  refine quiet_end (fun w hW => ?_)
  obtain ⟨x4, h4, H⟩ := bindE H
  obtain ⟨x5, h5, H⟩ := bindE H
  refine l_append_in (r := R51) (v := v1) (k := 0) hF hW rfl L48 rfl rfl rfl rfl h2 (Src.sub (src_row hW 0 rfl) h3) h4 (fun a w hF hW => ?_)
  have hW : Stw ⟨Y, X, w0⟩ [] [row v1 51 R51 x4] w := hW
  refine ls hF hW rfl ((y_assign hF rfl).q) (fun a w hF hW => ?_)
  refine ls_nil ?_
  refine c_then ?_
  refine c_seq ?_
  refine reg_list ?_
  refine ls hF hW rfl ((y_move hF rfl).q) (fun a w hF hW => ?_)
  refine ls hF hW rfl ((y_move hF rfl).q) (fun a w hF hW => ?_)
  refine ls hF hW rfl ((y_len (r := R51) (l := x5) u48_ rfl hF rfl (rdc_sub (rdc_row 0 rfl) h5)).q) (fun a w hF hW => ?_)
  refine ls hF hW rfl ((y_move hF rfl).q) (fun a w hF hW => ?_)
  obtain ⟨x6, h6, H⟩ := bindE H
  refine ls hF hW rfl ((y_slice_ext (r := R51) L48 hF rfl rfl rfl (rdc_row 0 rfl) h6).q) (fun a w hF hW => ?_)
  obtain ⟨x7, h7, H⟩ := bindE H
  refine l_clear (r := R51) (v := v1) (k := 0) ((0, 0, 0, (0, 0, 0, 0), 0, 0) : Int × Int × Int × (Int × Int × Int × Int) × Int × Int) hF hW L48 Z51 rfl rfl rfl h6 (fun w A => F51.mk' w A ((0, 0, 0, (0, 0, 0, 0), 0, 0) : Int × Int × Int × (Int × Int × Int × Int) × Int × Int)) h7 (fun w hW => ?_)
  have h8 := spl_pre h7 (Int.le_of_eq (sub0_len h5).symm) h5
  have hW : Stw ⟨Y, X, w0⟩ [] [row v1 51 R51 x7] w := hW
  refine ls_nil ?_
  refine c_then ?_
  refine c_seq ?_
  refine reg_list ?_
  refine ls hF hW rfl ((y_move hF rfl).q) (fun a w hF hW => ?_)
  refine ls hF hW rfl ((y_assign hF rfl).q) (fun a w hF hW => ?_)
  refine ls_nil ?_
  refine c_then ?_
  refine wp_ret ?_
  have H := Option.some.inj H
  subst H
  refine post1 (.inl rfl) hF hW rfl (rv_tmp hF rfl) ?_
  have hW := hW.subRow (k := 0) rfl rfl h8
  exact ⟨((slSub v1 (0 : Int) ((x2.length : Int) + (x3.length : Int)) 9)), rfl, hW⟩

theorem H32 : Has Try.prog 32 := ⟨fun args w => run_callFunc_body Try.func32 rfl (by decide) args w⟩
noncomputable def wire_Wires_Take_2 (p0 : (Int × (List (Int × Int × Int × Int × Int × Int)) × (List (Int × Int))) × (List (Int × Int × Int × (Int × Int × Int × Int) × Int × Int))) (p1 : Int) (p2 : Int) : Option ((Int × Int × Int × (Int × Int × Int × Int) × Int × Int) × Int × ((Int × (List (Int × Int × Int × Int × Int × Int)) × (List (Int × Int))) × (List (Int × Int × Int × (Int × Int × Int × Int) × Int × Int)))) := (wire_Wires_Look_2 p0 p2).bind fun x1 => (if x1.2 ≠ 0 then some ((0, 0, 0, (0, 0, 0, 0), 0, 0), x1.2, p0) else (if p1 < x1.1.2.2.2.2.1 then some ((0, 0, 0, (0, 0, 0, 0), 0, 0), 15, p0) else (slices_Delete_wire_Way_wire_Way p0.2 p2 (w64 (p2 + 1))).bind fun x2 => some (x1.1, 0, (p0.1, x2))))
theorem wire_Wires_Take_2_c (Y : Nat → Prop) (X : List Nat) (w0 : World) (q_p0 : Nat) (v1 : Value) (v2 : Value) (v3 : Value) (p0 : (Int × (List (Int × Int × Int × Int × Int × Int)) × (List (Int × Int))) × (List (Int × Int × Int × (Int × Int × Int × Int) × Int × Int))) (p1 : Int) (p2 : Int) (r : (Int × Int × Int × (Int × Int × Int × Int) × Int × Int) × Int × ((Int × (List (Int × Int × Int × Int × Int × Int)) × (List (Int × Int))) × (List (Int × Int × Int × (Int × Int × Int × Int) × Int × Int)))) (H : wire_Wires_Take_2 p0 p1 p2 = some r) (hL : Stw ⟨Y, X, w0⟩ [(q_p0, [.int .i64 p0.1.1, v1, v2, v3])] [row v1 59 R59 p0.1.2.1, row v2 75 R75 p0.1.2.2, row v3 51 R51 p0.2] w0) :
    Calls Try.prog 16 #[.pointer (some ⟨q_p0, 0, none⟩), .int .i64 p1, .int .i64 p2] w0 fun e w' => ∃ x : Value × Value × Value, e = .returned (.tuple #[.agg #[.int .i64 r.1.1, .int .i64 r.1.2.1, .int .i64 r.1.2.2.1, .int .i64 r.1.2.2.2.1.1, .int .i64 r.1.2.2.2.1.2.1, .int .i64 r.1.2.2.2.1.2.2.1, .int .i64 r.1.2.2.2.1.2.2.2, .int .i64 r.1.2.2.2.2.1, .int .i64 r.1.2.2.2.2.2], .int .i64 r.2.1]) ∧ Stw ⟨Y, X, w0⟩ [(q_p0, [.int .i64 r.2.2.1.1, x.1, x.2.1, x.2.2])] [row (x.1) 59 R59 r.2.2.1.2.1, row (x.2.1) 75 R75 r.2.2.1.2.2, row (x.2.2) 51 R51 r.2.2.2] w' := by
 refine enter Try.func16 rfl Try.ntmps16 rfl (fun a hF => ?_)
 have hW := hL
 unfold wire_Wires_Take_2 at H
 refine c_seq ?_
 refine reg_list ?_
 refine l_alloc (cs := [.int .i64 0, .int .i64 0, .int .i64 0, .int .i64 0, .int .i64 0, .int .i64 0, .int .i64 0, .int .i64 0, .int .i64 0]) hF hW rfl Z51 rfl (fun b1 a w hF hW => ?_)
 refine ls hF hW rfl ((y_assign hF rfl).q) (fun a w hF hW => ?_)
 refine ls_nil ?_
 refine c_then ?_
 refine c_seq ?_
 refine reg_list ?_
 refine ls hF hW rfl ((y_move hF rfl).q) (fun a w hF hW => ?_)
 refine ls hF hW rfl ((y_move hF rfl).q) (fun a w hF hW => ?_)
 obtain ⟨x1, h1, H⟩ := bindE H
 refine ls hF hW rfl (y_call (v := Value.tuple #[.agg #[.int .i64 x1.1.1, .int .i64 x1.1.2.1, .int .i64 x1.1.2.2.1, .int .i64 x1.1.2.2.2.1.1, .int .i64 x1.1.2.2.2.1.2.1, .int .i64 x1.1.2.2.2.1.2.2.1, .int .i64 x1.1.2.2.2.1.2.2.2, .int .i64 x1.1.2.2.2.2.1, .int .i64 x1.1.2.2.2.2.2], .int .i64 x1.2]) hF H19 rfl (fun w hW => wire_Wires_Look_2_c any w q_p0 (v1) (v2) (v3) p0 p2 _ h1 (((rdc_row 0 rfl) : Rdc _ _ _ _ _ _) w hW).nx (((rdc_row 1 rfl) : Rdc _ _ _ _ _ _) w hW).nx (((rdc_row 2 rfl) : Rdc _ _ _ _ _ _) w hW).nx (at_M hW 1 rfl))) (fun a w hF hW => ?_)
 refine ls hF hW rfl ((y_move hF rfl).q) (fun a w hF hW => ?_)
 refine ls hF hW rfl ((y_extract (v := Value.agg #[.int .i64 x1.1.1, .int .i64 x1.1.2.1, .int .i64 x1.1.2.2.1, .int .i64 x1.1.2.2.2.1.1, .int .i64 x1.1.2.2.2.1.2.1, .int .i64 x1.1.2.2.2.1.2.2.1, .int .i64 x1.1.2.2.2.1.2.2.2, .int .i64 x1.1.2.2.2.2.1, .int .i64 x1.1.2.2.2.2.2]) hF rfl rfl).q) (fun a w hF hW => ?_)
 refine ls hF hW rfl ((y_extract (v := Value.int .i64 x1.2) hF rfl rfl).q) (fun a w hF hW => ?_)
 refine l_alloc (cs := [.int .i64 0, .int .i64 0, .int .i64 0, .int .i64 0, .int .i64 0, .int .i64 0, .int .i64 0, .int .i64 0, .int .i64 0]) hF hW rfl Z51 rfl (fun b2 a w hF hW => ?_)
 refine l_store (vs := [.int .i64 x1.1.1, .int .i64 x1.1.2.1, .int .i64 x1.1.2.2.1, .int .i64 x1.1.2.2.2.1.1, .int .i64 x1.1.2.2.2.1.2.1, .int .i64 x1.1.2.2.2.1.2.2.1, .int .i64 x1.1.2.2.2.1.2.2.2, .int .i64 x1.1.2.2.2.2.1, .int .i64 x1.1.2.2.2.2.2]) (M' := [(b2, [.int .i64 x1.1.1, .int .i64 x1.1.2.1, .int .i64 x1.1.2.2.1, .int .i64 x1.1.2.2.2.1.1, .int .i64 x1.1.2.2.2.1.2.1, .int .i64 x1.1.2.2.2.1.2.2.1, .int .i64 x1.1.2.2.2.1.2.2.2, .int .i64 x1.1.2.2.2.2.1, .int .i64 x1.1.2.2.2.2.2]), (b1, [.int .i64 0, .int .i64 0, .int .i64 0, .int .i64 0, .int .i64 0, .int .i64 0, .int .i64 0, .int .i64 0, .int .i64 0]), (q_p0, [.int .i64 p0.1.1, v1, v2, v3])]) 0 hF hW rfl rfl rfl T51 rfl rfl rfl rfl rfl (fun w hW => ?_)
 refine ls hF hW rfl ((y_assign hF rfl).q) (fun a w hF hW => ?_)
 refine ls_nil ?_
 refine c_then ?_
 refine c_seq ?_
 refine c_seq ?_
 refine reg_list ?_
 refine ls hF hW rfl ((y_move hF rfl).q) (fun a w hF hW => ?_)
 refine ls hF hW rfl ((y_neq hF rfl rfl).q) (fun a w hF hW => ?_)
 refine ls_nil ?_
 refine c_then ?_
 refine c_cond hF rfl (fun hb => ?_) (fun hb => ?_)
 ·
  have H := iteT (of_decide_eq_true hb) H
  rw [hb] at hF
  clear hb
  refine c_seq ?_
  refine reg_list ?_
  refine ls hF hW rfl ((y_build (v := Value.agg #[.int .i64 0, .int .i64 0, .int .i64 0, .int .i64 0, .int .i64 0, .int .i64 0, .int .i64 0, .int .i64 0, .int .i64 0]) B51 hF rfl rfl rfl).q) (fun a w hF hW => ?_)
  refine ls hF hW rfl ((y_move hF rfl).q) (fun a w hF hW => ?_)
  refine l_store (vs := [.int .i64 0, .int .i64 0, .int .i64 0, .int .i64 0, .int .i64 0, .int .i64 0, .int .i64 0, .int .i64 0, .int .i64 0]) (M' := [(b2, [.int .i64 x1.1.1, .int .i64 x1.1.2.1, .int .i64 x1.1.2.2.1, .int .i64 x1.1.2.2.2.1.1, .int .i64 x1.1.2.2.2.1.2.1, .int .i64 x1.1.2.2.2.1.2.2.1, .int .i64 x1.1.2.2.2.1.2.2.2, .int .i64 x1.1.2.2.2.2.1, .int .i64 x1.1.2.2.2.2.2]), (b1, [.int .i64 0, .int .i64 0, .int .i64 0, .int .i64 0, .int .i64 0, .int .i64 0, .int .i64 0, .int .i64 0, .int .i64 0]), (q_p0, [.int .i64 p0.1.1, v1, v2, v3])]) 1 hF hW rfl rfl rfl T51 rfl rfl rfl rfl rfl (fun w hW => ?_)
  refine ls hF hW rfl ((y_assign hF rfl).q) (fun a w hF hW => ?_)
  refine ls_nil ?_
  refine c_then ?_
  refine wp_ret ?_
  refine r_then ?_
  have H := Option.some.inj H
  subst H
  refine post2 (.inl rfl) hF hW rfl (rv_cell 1 hF rfl rfl T51 rfl) (rv_tmp hF rfl) ?_
  have hW := hW.frontZ (i := 2) rfl rfl
  have hW := hW.frontZ (i := 2) rfl rfl
  have hW := hW.frontZ (i := 2) rfl rfl
  have hW := hW.frontM (i := 2) rfl rfl
  have hW := hW.sub (M' := [(q_p0, [.int .i64 p0.1.1, v1, v2, v3])]) (Z' := [row v1 59 R59 p0.1.2.1, row v2 75 R75 p0.1.2.2, row v3 51 R51 p0.2]) (List.Sublist.cons_cons _ (List.nil_sublist _)) (List.Sublist.refl _)
  exact ⟨((v1), (v2), (v3)), rfl, hW⟩
 ·
  have H := iteF (of_decide_eq_false hb) H
  rw [hb] at hF
  clear hb
  refine wp_skip ?_
  refine c_then ?_
  refine c_seq ?_
  refine c_seq ?_
  refine reg_list ?_
  refine ls hF hW rfl ((y_move hF rfl).q) (fun a w hF hW => ?_)
  refine ls hF hW rfl ((y_fieldAddr u51_ rfl rfl rfl T3 hF rfl 7 rfl).q) (fun a w hF hW => ?_)
  refine ls hF hW rfl ((y_load (v := Value.int .i64 x1.1.2.2.2.2.1) 0 hF rfl rfl T3 rfl).q) (fun a w hF hW => ?_)
  refine ls hF hW rfl ((y_lss hF rfl rfl).q) (fun a w hF hW => ?_)
  refine ls_nil ?_
  refine c_then ?_
  refine c_cond hF rfl (fun hb => ?_) (fun hb => ?_)
  ·
   have H := iteT (of_decide_eq_true hb) H
   rw [hb] at hF
   clear hb
   refine c_seq ?_
   refine reg_list ?_
   refine ls hF hW rfl ((y_build (v := Value.agg #[.int .i64 0, .int .i64 0, .int .i64 0, .int .i64 0, .int .i64 0, .int .i64 0, .int .i64 0, .int .i64 0, .int .i64 0]) B51 hF rfl rfl rfl).q) (fun a w hF hW => ?_)
   refine l_store (vs := [.int .i64 0, .int .i64 0, .int .i64 0, .int .i64 0, .int .i64 0, .int .i64 0, .int .i64 0, .int .i64 0, .int .i64 0]) (M' := [(b2, [.int .i64 x1.1.1, .int .i64 x1.1.2.1, .int .i64 x1.1.2.2.1, .int .i64 x1.1.2.2.2.1.1, .int .i64 x1.1.2.2.2.1.2.1, .int .i64 x1.1.2.2.2.1.2.2.1, .int .i64 x1.1.2.2.2.1.2.2.2, .int .i64 x1.1.2.2.2.2.1, .int .i64 x1.1.2.2.2.2.2]), (b1, [.int .i64 0, .int .i64 0, .int .i64 0, .int .i64 0, .int .i64 0, .int .i64 0, .int .i64 0, .int .i64 0, .int .i64 0]), (q_p0, [.int .i64 p0.1.1, v1, v2, v3])]) 1 hF hW rfl rfl rfl T51 rfl rfl rfl rfl rfl (fun w hW => ?_)
   refine ls hF hW rfl ((y_assign hF rfl).q) (fun a w hF hW => ?_)
   refine ls_nil ?_
   refine c_then ?_
   refine wp_ret ?_
   refine r_then ?_
   have H := Option.some.inj H
   subst H
   refine post2 (.inl rfl) hF hW rfl (rv_cell 1 hF rfl rfl T51 rfl) (rv_tmp hF rfl) ?_
   have hW := hW.frontZ (i := 2) rfl rfl
   have hW := hW.frontZ (i := 2) rfl rfl
   have hW := hW.frontZ (i := 2) rfl rfl
   have hW := hW.frontM (i := 2) rfl rfl
   have hW := hW.sub (M' := [(q_p0, [.int .i64 p0.1.1, v1, v2, v3])]) (Z' := [row v1 59 R59 p0.1.2.1, row v2 75 R75 p0.1.2.2, row v3 51 R51 p0.2]) (List.Sublist.cons_cons _ (List.nil_sublist _)) (List.Sublist.refl _)
   exact ⟨((v1), (v2), (v3)), rfl, hW⟩
  ·
   have H := iteF (of_decide_eq_false hb) H
   rw [hb] at hF
   clear hb
   refine wp_skip ?_
   refine c_then ?_
   refine c_seq ?_
   refine reg_list ?_
   refine ls hF hW rfl ((y_move hF rfl).q) (fun a w hF hW => ?_)
   refine ls hF hW rfl ((y_move hF rfl).q) (fun a w hF hW => ?_)
   refine ls hF hW rfl ((y_nilCheck hF rfl).q) (fun a w hF hW => ?_)
   refine ls hF hW rfl ((y_fieldAddr u62_ rfl rfl rfl T48 hF rfl 3 rfl).q) (fun a w hF hW => ?_)
   refine ls hF hW rfl ((y_load (v := v3) 2 hF rfl rfl T48 rfl).q) (fun a w hF hW => ?_)
   refine ls hF hW rfl ((y_move hF rfl).q) (fun a w hF hW => ?_)
   refine ls hF hW rfl ((y_move hF rfl).q) (fun a w hF hW => ?_)
   refine ls hF hW rfl ((y_add hF rfl rfl rfl).q) (fun a w hF hW => ?_)
   obtain ⟨x2, h2, H⟩ := bindE H
   have hW := hW.frontZ (i := 2) rfl rfl
   refine l_callG (Ml := []) (Zl := [row v3 51 R51 p0.2]) (M := [(b2, [.int .i64 x1.1.1, .int .i64 x1.1.2.1, .int .i64 x1.1.2.2.1, .int .i64 x1.1.2.2.2.1.1, .int .i64 x1.1.2.2.2.1.2.1, .int .i64 x1.1.2.2.2.1.2.2.1, .int .i64 x1.1.2.2.2.1.2.2.2, .int .i64 x1.1.2.2.2.2.1, .int .i64 x1.1.2.2.2.2.2]), (b1, [.int .i64 0, .int .i64 0, .int .i64 0, .int .i64 0, .int .i64 0, .int .i64 0, .int .i64 0, .int .i64 0, .int .i64 0]), (q_p0, [.int .i64 p0.1.1, v1, v2, v3])]) (Z := [row v1 59 R59 p0.1.2.1, row v2 75 R75 p0.1.2.2]) (β := Value) (rv := fun x => x) (MM := fun x => []) (ZZ := fun x => [row x 51 R51 x2]) hF hW H32 rfl rfl (fun hL => slices_Delete_wire_Way_wire_Way_c _ _ w (v3) p0.2 p2 (w64 (p2 + 1)) _ h2 hL) (fun x a w hF hW => ?_)
   obtain ⟨v4, rfl⟩ : ∃ y, y = x := ⟨x, rfl⟩
   have hW : Stw ⟨Y, X, w0⟩ [(b2, [.int .i64 x1.1.1, .int .i64 x1.1.2.1, .int .i64 x1.1.2.2.1, .int .i64 x1.1.2.2.2.1.1, .int .i64 x1.1.2.2.2.1.2.1, .int .i64 x1.1.2.2.2.1.2.2.1, .int .i64 x1.1.2.2.2.1.2.2.2, .int .i64 x1.1.2.2.2.2.1, .int .i64 x1.1.2.2.2.2.2]), (b1, [.int .i64 0, .int .i64 0, .int .i64 0, .int .i64 0, .int .i64 0, .int .i64 0, .int .i64 0, .int .i64 0, .int .i64 0]), (q_p0, [.int .i64 p0.1.1, v1, v2, v3])] [row v4 51 R51 x2, row v1 59 R59 p0.1.2.1, row v2 75 R75 p0.1.2.2] w := hW
   refine ls hF hW rfl ((y_nilCheck hF rfl).q) (fun a w hF hW => ?_)
   refine ls hF hW rfl ((y_fieldAddr u62_ rfl rfl rfl T48 hF rfl 3 rfl).q) (fun a w hF hW => ?_)
   refine l_store1 (M' := [(b2, [.int .i64 x1.1.1, .int .i64 x1.1.2.1, .int .i64 x1.1.2.2.1, .int .i64 x1.1.2.2.2.1.1, .int .i64 x1.1.2.2.2.1.2.1, .int .i64 x1.1.2.2.2.1.2.2.1, .int .i64 x1.1.2.2.2.1.2.2.2, .int .i64 x1.1.2.2.2.2.1, .int .i64 x1.1.2.2.2.2.2]), (b1, [.int .i64 0, .int .i64 0, .int .i64 0, .int .i64 0, .int .i64 0, .int .i64 0, .int .i64 0, .int .i64 0, .int .i64 0]), (q_p0, [.int .i64 p0.1.1, v1, v2, v4])]) 2 hF hW rfl rfl rfl T48 (hW.one (k := 0) rfl) rfl rfl (fun w hW => ?_)
   refine ls_nil ?_
   refine c_then ?_
   refine c_seq ?_
   refine reg_list ?_
   refine ls hF hW rfl ((y_load (v := Value.agg #[.int .i64 x1.1.1, .int .i64 x1.1.2.1, .int .i64 x1.1.2.2.1, .int .i64 x1.1.2.2.2.1.1, .int .i64 x1.1.2.2.2.1.2.1, .int .i64 x1.1.2.2.2.1.2.2.1, .int .i64 x1.1.2.2.2.1.2.2.2, .int .i64 x1.1.2.2.2.2.1, .int .i64 x1.1.2.2.2.2.2]) 0 hF rfl rfl T51 rfl).q) (fun a w hF hW => ?_)
   refine l_store (vs := [.int .i64 x1.1.1, .int .i64 x1.1.2.1, .int .i64 x1.1.2.2.1, .int .i64 x1.1.2.2.2.1.1, .int .i64 x1.1.2.2.2.1.2.1, .int .i64 x1.1.2.2.2.1.2.2.1, .int .i64 x1.1.2.2.2.1.2.2.2, .int .i64 x1.1.2.2.2.2.1, .int .i64 x1.1.2.2.2.2.2]) (M' := [(b2, [.int .i64 x1.1.1, .int .i64 x1.1.2.1, .int .i64 x1.1.2.2.1, .int .i64 x1.1.2.2.2.1.1, .int .i64 x1.1.2.2.2.1.2.1, .int .i64 x1.1.2.2.2.1.2.2.1, .int .i64 x1.1.2.2.2.1.2.2.2, .int .i64 x1.1.2.2.2.2.1, .int .i64 x1.1.2.2.2.2.2]), (b1, [.int .i64 x1.1.1, .int .i64 x1.1.2.1, .int .i64 x1.1.2.2.1, .int .i64 x1.1.2.2.2.1.1, .int .i64 x1.1.2.2.2.1.2.1, .int .i64 x1.1.2.2.2.1.2.2.1, .int .i64 x1.1.2.2.2.1.2.2.2, .int .i64 x1.1.2.2.2.2.1, .int .i64 x1.1.2.2.2.2.2]), (q_p0, [.int .i64 p0.1.1, v1, v2, v4])]) 1 hF hW rfl rfl rfl T51 rfl rfl rfl rfl rfl (fun w hW => ?_)
   refine ls hF hW rfl ((y_assign hF rfl).q) (fun a w hF hW => ?_)
   refine ls_nil ?_
   refine c_then ?_
   refine wp_ret ?_
   have H := Option.some.inj H
   subst H
   refine post2 (.inl rfl) hF hW rfl (rv_cell 1 hF rfl rfl T51 rfl) (rv_tmp hF rfl) ?_
   have hW := hW.frontZ (i := 2) rfl rfl
   have hW := hW.frontZ (i := 2) rfl rfl
   have hW := hW.frontM (i := 2) rfl rfl
   have hW := hW.sub (M' := [(q_p0, [.int .i64 p0.1.1, v1, v2, v4])]) (Z' := [row v1 59 R59 p0.1.2.1, row v2 75 R75 p0.1.2.2, row v4 51 R51 x2]) (List.Sublist.cons_cons _ (List.nil_sublist _)) (List.Sublist.refl _)
   exact ⟨((v1), (v2), (v4)), rfl, hW⟩

def wire_Wires_Len_2 (p0 : (Int × (List (Int × Int × Int × Int × Int × Int)) × (List (Int × Int))) × (List (Int × Int × Int × (Int × Int × Int × Int) × Int × Int))) : Int := (p0.2.length : Int)
theorem wire_Wires_Len_2_c (Y : Nat → Prop) (w0 : World) (q_p0 : Nat) (v1 : Value) (v2 : Value) (v3 : Value) (p0 : (Int × (List (Int × Int × Int × Int × Int × Int)) × (List (Int × Int))) × (List (Int × Int × Int × (Int × Int × Int × Int) × Int × Int))) (r : Int) (H : wire_Wires_Len_2 p0 = r) (h_v1 : Sl w0 (NX []) R59 v1 p0.1.2.1) (h_v2 : Sl w0 (NX []) R75 v2 p0.1.2.2) (h_v3 : Sl w0 (NX []) R51 v3 p0.2) (a_q_p0 : At ⟨Y, [], w0⟩ q_p0 0 [.int .i64 p0.1.1, v1, v2, v3]) :
    Calls Try.prog 11 #[.pointer (some ⟨q_p0, 0, none⟩)] w0 fun e w' => e = .returned (.int .i64 r) ∧ Below w0.heap.size w0 w' := by
 refine enter Try.func11 rfl Try.ntmps11 rfl (fun a hF => ?_)
 have hW := Stw.start Y w0
 unfold wire_Wires_Len_2 at H
 refine c_seq ?_
 refine reg_list ?_
 refine ls hF hW rfl ((y_assign hF rfl).q) (fun a w hF hW => ?_)
 refine ls_nil ?_
 refine c_then ?_
 refine c_seq ?_
 refine c_seq ?_
 refine reg_list ?_
 refine ls hF hW rfl ((y_move hF rfl).q) (fun a w hF hW => ?_)
 refine ls hF hW rfl ((y_peq_some_nil u28_ hF rfl rfl).q) (fun a w hF hW => ?_)
 refine ls_nil ?_
 refine c_then ?_
 refine c_cond_f hF rfl ?_
 refine wp_skip ?_
 refine c_then ?_
 refine c_seq ?_
 refine reg_list ?_
 refine ls hF hW rfl ((y_move hF rfl).q) (fun a w hF hW => ?_)
 refine ls hF hW rfl ((y_nilCheck hF rfl).q) (fun a w hF hW => ?_)
 refine ls hF hW rfl ((y_fieldAddr u62_ rfl rfl rfl T48 hF rfl 3 rfl).q) (fun a w hF hW => ?_)
 refine ls hF hW rfl ((y_load_at (y := v3) (j := 3) hF rfl (Nat.zero_add _).symm a_q_p0 T48 rfl).q) (fun a w hF hW => ?_)
 refine ls hF hW rfl ((y_len (r := R51) (l := p0.2) u48_ rfl hF rfl (rdc_ro h_v3)).q) (fun a w hF hW => ?_)
 refine ls hF hW rfl ((y_assign hF rfl).q) (fun a w hF hW => ?_)
 refine ls_nil ?_
 refine c_then ?_
 refine wp_ret ?_
 subst H
 refine post1 (.inl rfl) hF hW rfl (rv_tmp hF rfl) ?_
 exact ⟨rfl, hW.done⟩

theorem I9 : (Try.prog.underlying 9).map (fun d => match d with | .interface _ => true | _ => false) = some false := by kernel_rfl
def cmp_isNaN_int (p0 : Int) : Bool := decide (p0 ≠ p0)
theorem cmp_isNaN_int_c (Y : Nat → Prop) (w0 : World)  (p0 : Int) (r : Bool) (H : cmp_isNaN_int p0 = r)  :
    Calls Try.prog 42 #[.int .i64 p0] w0 fun e w' => e = .returned (.bool r) ∧ Below w0.heap.size w0 w' := by
 refine enter Try.func42 rfl Try.ntmps42 rfl (fun a hF => ?_)
 have hW := Stw.start Y w0
 unfold cmp_isNaN_int at H
 refine c_seq ?_
 refine reg_list ?_
 refine ls hF hW rfl ((y_assign hF rfl).q) (fun a w hF hW => ?_)
 refine ls_nil ?_
 refine c_then ?_
 refine c_seq ?_
 refine reg_list ?_
 refine ls hF hW rfl ((y_move hF rfl).q) (fun a w hF hW => ?_)
 refine ls hF hW rfl ((y_move hF rfl).q) (fun a w hF hW => ?_)
 refine ls hF hW rfl ((y_neq hF rfl rfl).q) (fun a w hF hW => ?_)
 refine ls hF hW rfl ((y_assign hF rfl).q) (fun a w hF hW => ?_)
 refine ls_nil ?_
 refine c_then ?_
 refine wp_ret ?_
 subst H
 refine post1 (.inl rfl) hF hW rfl (rv_tmp hF rfl) ?_
 exact ⟨rfl, hW.done⟩

theorem H42 : Has Try.prog 42 := ⟨fun args w => run_callFunc_body Try.func42 rfl (by decide) args w⟩
def cmp_Compare_int (p0 : Int) (p1 : Int) : Int := (if (cmp_isNaN_int p0) = true then (if (cmp_isNaN_int p1) = true then 0 else (-1)) else (if (cmp_isNaN_int p1) = true then 1 else (if p0 < p1 then (-1) else (if p1 < p0 then 1 else 0))))
theorem cmp_Compare_int_c (Y : Nat → Prop) (w0 : World)  (p0 : Int) (p1 : Int) (r : Int) (H : cmp_Compare_int p0 p1 = r)  :
    Calls Try.prog 39 #[.int .i64 p0, .int .i64 p1] w0 fun e w' => e = .returned (.int .i64 r) ∧ Below w0.heap.size w0 w' := by
 refine enter Try.func39 rfl Try.ntmps39 rfl (fun a hF => ?_)
 have hW := Stw.start Y w0
 unfold cmp_Compare_int at H
 refine c_seq ?_
 refine reg_list ?_
 refine ls hF hW rfl ((y_assign hF rfl).q) (fun a w hF hW => ?_)
 refine ls_nil ?_
 refine c_then ?_
 refine c_seq ?_
 refine reg_list ?_
 refine ls hF hW rfl ((y_move hF rfl).q) (fun a w hF hW => ?_)
 refine ls hF hW rfl (y_call (v := Value.bool (cmp_isNaN_int p0)) hF H42 rfl (fun w hW => cmp_isNaN_int_c any w p0 _ rfl)) (fun a w hF hW => ?_)
 refine ls hF hW rfl ((y_assign hF rfl).q) (fun a w hF hW => ?_)
 refine ls_nil ?_
 refine c_then ?_
 refine c_seq ?_
 refine reg_list ?_
 refine ls hF hW rfl ((y_move hF rfl).q) (fun a w hF hW => ?_)
 refine ls hF hW rfl (y_call (v := Value.bool (cmp_isNaN_int p1)) hF H42 rfl (fun w hW => cmp_isNaN_int_c any w p1 _ rfl)) (fun a w hF hW => ?_)
 refine ls hF hW rfl ((y_assign hF rfl).q) (fun a w hF hW => ?_)
 refine ls_nil ?_
 refine c_then ?_
 refine c_seq ?_
 refine c_seq ?_
 refine reg_list ?_
 refine ls hF hW rfl ((y_move hF rfl).q) (fun a w hF hW => ?_)
 refine ls_nil ?_
 refine c_then ?_
 refine c_cond hF rfl (fun hb => ?_) (fun hb => ?_)
 ·
  have H := iteT hb H
  rw [hb] at hF
  clear hb
  refine c_seq ?_
  refine c_seq ?_
  refine reg_list ?_
  refine ls hF hW rfl ((y_move hF rfl).q) (fun a w hF hW => ?_)
  refine ls_nil ?_
  refine c_then ?_
  refine c_cond hF rfl (fun hb => ?_) (fun hb => ?_)
  ·
   have H := iteT hb H
   rw [hb] at hF
   clear hb
   refine c_seq ?_
   refine reg_list ?_
   refine ls hF hW rfl ((y_assign hF rfl).q) (fun a w hF hW => ?_)
   refine ls_nil ?_
   refine c_then ?_
   refine wp_ret ?_
   refine r_then ?_
   refine r_then ?_
   subst H
   refine post1 (.inl rfl) hF hW rfl (rv_tmp hF rfl) ?_
   exact ⟨rfl, hW.done⟩
  ·
   have H := iteF (by rw [hb]; decide) H
   rw [hb] at hF
   clear hb
   refine wp_skip ?_
   refine c_then ?_
   refine c_seq ?_
   refine reg_list ?_
   refine ls hF hW rfl ((y_assign hF rfl).q) (fun a w hF hW => ?_)
   refine ls_nil ?_
   refine c_then ?_
   refine wp_ret ?_
   refine r_then ?_
   subst H
   refine post1 (.inl rfl) hF hW rfl (rv_tmp hF rfl) ?_
   exact ⟨rfl, hW.done⟩
 ·
  have H := iteF (by rw [hb]; decide) H
  rw [hb] at hF
  clear hb
  refine wp_skip ?_
  refine c_then ?_
  refine c_seq ?_
  refine c_seq ?_
  refine reg_list ?_
  refine ls hF hW rfl ((y_move hF rfl).q) (fun a w hF hW => ?_)
  refine ls_nil ?_
  refine c_then ?_
  refine c_cond hF rfl (fun hb => ?_) (fun hb => ?_)
  ·
   have H := iteT hb H
   rw [hb] at hF
   clear hb
   refine c_seq ?_
   refine reg_list ?_
   refine ls hF hW rfl ((y_assign hF rfl).q) (fun a w hF hW => ?_)
   refine ls_nil ?_
   refine c_then ?_
   refine wp_ret ?_
   refine r_then ?_
   subst H
   refine post1 (.inl rfl) hF hW rfl (rv_tmp hF rfl) ?_
   exact ⟨rfl, hW.done⟩
  ·
   have H := iteF (by rw [hb]; decide) H
   rw [hb] at hF
   clear hb
   refine wp_skip ?_
   refine c_then ?_
   refine c_seq ?_
   refine c_seq ?_
   refine reg_list ?_
   refine ls hF hW rfl ((y_move hF rfl).q) (fun a w hF hW => ?_)
   refine ls hF hW rfl ((y_move hF rfl).q) (fun a w hF hW => ?_)
   refine ls hF hW rfl ((y_lss hF rfl rfl).q) (fun a w hF hW => ?_)
   refine ls_nil ?_
   refine c_then ?_
   refine c_cond hF rfl (fun hb => ?_) (fun hb => ?_)
   ·
    have H := iteT (of_decide_eq_true hb) H
    rw [hb] at hF
    clear hb
    refine c_seq ?_
    refine reg_list ?_
    refine ls hF hW rfl ((y_assign hF rfl).q) (fun a w hF hW => ?_)
    refine ls_nil ?_
    refine c_then ?_
    refine wp_ret ?_
    refine r_then ?_
    subst H
    refine post1 (.inl rfl) hF hW rfl (rv_tmp hF rfl) ?_
    exact ⟨rfl, hW.done⟩
   ·
    have H := iteF (of_decide_eq_false hb) H
    rw [hb] at hF
    clear hb
    refine wp_skip ?_
    refine c_then ?_
    refine c_seq ?_
    refine c_seq ?_
    refine reg_list ?_
    refine ls hF hW rfl ((y_move hF rfl).q) (fun a w hF hW => ?_)
    refine ls hF hW rfl ((y_move hF rfl).q) (fun a w hF hW => ?_)
    refine ls hF hW rfl ((y_gtr hF rfl rfl).q) (fun a w hF hW => ?_)
    refine ls_nil ?_
    refine c_then ?_
    refine c_cond hF rfl (fun hb => ?_) (fun hb => ?_)
    ·
     have H := iteT (of_decide_eq_true hb) H
     rw [hb] at hF
     clear hb
     refine c_seq ?_
     refine reg_list ?_
     refine ls hF hW rfl ((y_assign hF rfl).q) (fun a w hF hW => ?_)
     refine ls_nil ?_
     refine c_then ?_
     refine wp_ret ?_
     refine r_then ?_
     subst H
     refine post1 (.inl rfl) hF hW rfl (rv_tmp hF rfl) ?_
     exact ⟨rfl, hW.done⟩
    ·
     have H := iteF (of_decide_eq_false hb) H
     rw [hb] at hF
     clear hb
     refine wp_skip ?_
     refine c_then ?_
     refine c_seq ?_
     refine reg_list ?_
     refine ls hF hW rfl ((y_assign hF rfl).q) (fun a w hF hW => ?_)
     refine ls_nil ?_
     refine c_then ?_
     refine wp_ret ?_
     subst H
     refine post1 (.inl rfl) hF hW rfl (rv_tmp hF rfl) ?_
     exact ⟨rfl, hW.done⟩

theorem H39 : Has Try.prog 39 := ⟨fun args w => run_callFunc_body Try.func39 rfl (by decide) args w⟩
def wire_byLate (p0 : Int × Int × Int × (Int × Int × Int × Int) × Int × Int) (p1 : Int × Int × Int × (Int × Int × Int × Int) × Int × Int) : Int := (cmp_Compare_int p0.2.2.2.2.2 p1.2.2.2.2.2)
theorem wire_byLate_c (Y : Nat → Prop) (w0 : World)  (p0 : Int × Int × Int × (Int × Int × Int × Int) × Int × Int) (p1 : Int × Int × Int × (Int × Int × Int × Int) × Int × Int) (r : Int) (H : wire_byLate p0 p1 = r)  :
    Calls Try.prog 29 #[.agg #[.int .i64 p0.1, .int .i64 p0.2.1, .int .i64 p0.2.2.1, .int .i64 p0.2.2.2.1.1, .int .i64 p0.2.2.2.1.2.1, .int .i64 p0.2.2.2.1.2.2.1, .int .i64 p0.2.2.2.1.2.2.2, .int .i64 p0.2.2.2.2.1, .int .i64 p0.2.2.2.2.2], .agg #[.int .i64 p1.1, .int .i64 p1.2.1, .int .i64 p1.2.2.1, .int .i64 p1.2.2.2.1.1, .int .i64 p1.2.2.2.1.2.1, .int .i64 p1.2.2.2.1.2.2.1, .int .i64 p1.2.2.2.1.2.2.2, .int .i64 p1.2.2.2.2.1, .int .i64 p1.2.2.2.2.2]] w0 fun e w' => e = .returned (.int .i64 r) ∧ Below w0.heap.size w0 w' := by
 refine enter Try.func29 rfl Try.ntmps29 rfl (fun a hF => ?_)
 have hW := Stw.start Y w0
 unfold wire_byLate at H
 refine c_seq ?_
 refine reg_list ?_
 refine l_box (cs := [.int .i64 p0.1, .int .i64 p0.2.1, .int .i64 p0.2.2.1, .int .i64 p0.2.2.2.1.1, .int .i64 p0.2.2.2.1.2.1, .int .i64 p0.2.2.2.1.2.2.1, .int .i64 p0.2.2.2.1.2.2.2, .int .i64 p0.2.2.2.2.1, .int .i64 p0.2.2.2.2.2]) hF hW rfl rfl rfl (fun b1 a w hF hW => ?_)
 refine l_box (cs := [.int .i64 p1.1, .int .i64 p1.2.1, .int .i64 p1.2.2.1, .int .i64 p1.2.2.2.1.1, .int .i64 p1.2.2.2.1.2.1, .int .i64 p1.2.2.2.1.2.2.1, .int .i64 p1.2.2.2.1.2.2.2, .int .i64 p1.2.2.2.2.1, .int .i64 p1.2.2.2.2.2]) hF hW rfl rfl rfl (fun b2 a w hF hW => ?_)
 refine ls hF hW rfl ((y_assign hF rfl).q) (fun a w hF hW => ?_)
 refine ls_nil ?_
 refine c_then ?_
 refine c_seq ?_
 refine reg_list ?_
 refine ls hF hW rfl ((y_fieldAddr u51_ rfl rfl rfl T3 hF rfl 8 rfl).q) (fun a w hF hW => ?_)
 refine ls hF hW rfl ((y_load (v := Value.int .i64 p0.2.2.2.2.2) 1 hF rfl rfl T3 rfl).q) (fun a w hF hW => ?_)
 refine ls hF hW rfl ((y_fieldAddr u51_ rfl rfl rfl T3 hF rfl 8 rfl).q) (fun a w hF hW => ?_)
 refine ls hF hW rfl ((y_load (v := Value.int .i64 p1.2.2.2.2.2) 0 hF rfl rfl T3 rfl).q) (fun a w hF hW => ?_)
 refine ls hF hW rfl (y_call (v := Value.int .i64 (cmp_Compare_int p0.2.2.2.2.2 p1.2.2.2.2.2)) hF H39 rfl (fun w hW => cmp_Compare_int_c any w p0.2.2.2.2.2 p1.2.2.2.2.2 _ rfl)) (fun a w hF hW => ?_)
 refine ls hF hW rfl ((y_assign hF rfl).q) (fun a w hF hW => ?_)
 refine ls_nil ?_
 refine c_then ?_
 refine wp_ret ?_
 subst H
 refine post1 (.inl rfl) hF hW rfl (rv_tmp hF rfl) ?_
 exact ⟨rfl, hW.done⟩

theorem H29 : Has Try.prog 29 := ⟨fun args w => run_callFunc_body Try.func29 rfl (by decide) args w⟩
noncomputable def slices_MinFunc_wire_Way_wire_Way_l1 (p0 : List (Int × Int × Int × (Int × Int × Int × Int) × Int × Int)) : (Int × Int × Int × Int × Int × Int × Int × Int × Int × Int) → Option ((Int × Int × Int × Int × Int × Int × Int × Int × Int × Int) ⊕ (Int × Int × Int × Int × Int × Int × Int × Int × Int))
  | (x11, x12, x13, x14, x15, x16, x17, x18, x19, x20) => (if x11 < (p0.length : Int) then ((ix p0 x11).bind fun x30 => (if (wire_byLate x30 (x12, x13, x14, (x15, x16, x17, x18), x19, x20)) < 0 then (ix p0 x11).bind fun x31 => some (x31.1, x31.2.1, x31.2.2.1, x31.2.2.2.1.1, x31.2.2.2.1.2.1, x31.2.2.2.1.2.2.1, x31.2.2.2.1.2.2.2, x31.2.2.2.2.1, x31.2.2.2.2.2) else some (x12, x13, x14, x15, x16, x17, x18, x19, x20))).bind fun (x21, x22, x23, x24, x25, x26, x27, x28, x29) => some (.inl (w64 (x11 + 1), x21, x22, x23, x24, x25, x26, x27, x28, x29)) else some (.inr (x12, x13, x14, x15, x16, x17, x18, x19, x20)))
noncomputable def slices_MinFunc_wire_Way_wire_Way (p0 : List (Int × Int × Int × (Int × Int × Int × Int) × Int × Int)) : Option (Int × Int × Int × (Int × Int × Int × Int) × Int × Int) := (if (p0.length : Int) < 1 then none else (ix p0 0).bind fun x1 => (loopW (slices_MinFunc_wire_Way_wire_Way_l1 p0) (1, x1.1, x1.2.1, x1.2.2.1, x1.2.2.2.1.1, x1.2.2.2.1.2.1, x1.2.2.2.1.2.2.1, x1.2.2.2.1.2.2.2, x1.2.2.2.2.1, x1.2.2.2.2.2)).bind fun (x2, x3, x4, x5, x6, x7, x8, x9, x10) => some (x2, x3, x4, (x5, x6, x7, x8), x9, x10))
theorem slices_MinFunc_wire_Way_wire_Way_c (Y : Nat → Prop) (w0 : World) (v1 : Value) (p0 : List (Int × Int × Int × (Int × Int × Int × Int) × Int × Int)) (r : (Int × Int × Int × (Int × Int × Int × Int) × Int × Int)) (H : slices_MinFunc_wire_Way_wire_Way p0 = some r) (h_v1 : Sl w0 (NX []) R51 v1 p0) :
    Calls Try.prog 28 #[v1, .func (.func 29) #[] #[]] w0 fun e w' => e = .returned (.agg #[.int .i64 r.1, .int .i64 r.2.1, .int .i64 r.2.2.1, .int .i64 r.2.2.2.1.1, .int .i64 r.2.2.2.1.2.1, .int .i64 r.2.2.2.1.2.2.1, .int .i64 r.2.2.2.1.2.2.2, .int .i64 r.2.2.2.2.1, .int .i64 r.2.2.2.2.2]) ∧ Below w0.heap.size w0 w' := by
 refine enter Try.func28 rfl Try.ntmps28 rfl (fun a hF => ?_)
 have hW := Stw.start Y w0
 unfold slices_MinFunc_wire_Way_wire_Way at H
 refine c_seq ?_
 refine reg_list ?_
 refine l_alloc (cs := [.int .i64 0, .int .i64 0, .int .i64 0, .int .i64 0, .int .i64 0, .int .i64 0, .int .i64 0, .int .i64 0, .int .i64 0]) hF hW rfl Z51 rfl (fun b1 a w hF hW => ?_)
 refine ls_nil ?_
 refine c_then ?_
 refine c_seq ?_
 refine c_seq ?_
 refine reg_list ?_
 refine ls hF hW rfl ((y_move hF rfl).q) (fun a w hF hW => ?_)
 refine ls hF hW rfl ((y_len (r := R51) (l := p0) u48_ rfl hF rfl (rdc_ro h_v1)).q) (fun a w hF hW => ?_)
 refine ls hF hW rfl ((y_lss hF rfl rfl).q) (fun a w hF hW => ?_)
 refine ls_nil ?_
 refine c_then ?_
 refine c_cond hF rfl (fun hb => ?_) (fun hb => ?_)
 ·
  have H := iteT (of_decide_eq_true hb) H
  rw [hb] at hF
  clear hb
  refine reg_list ?_
  refine ls hF hW rfl ((y_makeIface I9 hF rfl).q) (fun a w hF hW => ?_)
  exact nomatch H
 ·
  have H := iteF (of_decide_eq_false hb) H
  rw [hb] at hF
  clear hb
  refine wp_skip ?_
  refine c_then ?_
  refine c_seq ?_
  refine reg_list ?_
  refine ls hF hW rfl ((y_move hF rfl).q) (fun a w hF hW => ?_)
  obtain ⟨x1, h1, H⟩ := bindE H
  refine ls hF hW rfl ((y_index (r := R51) L48 hF rfl rfl (rdc_ro h_v1) h1).q) (fun a w hF hW => ?_)
  refine ls hF hW rfl ((y_load_el (y := Value.agg #[.int .i64 x1.1, .int .i64 x1.2.1, .int .i64 x1.2.2.1, .int .i64 x1.2.2.2.1.1, .int .i64 x1.2.2.2.1.2.1, .int .i64 x1.2.2.2.1.2.2.1, .int .i64 x1.2.2.2.1.2.2.2, .int .i64 x1.2.2.2.2.1, .int .i64 x1.2.2.2.2.2]) (j := 0) (i := 0) hF rfl rfl (rdc_ro h_v1) h1 F51.to T51 rfl).q) (fun a w hF hW => ?_)
  refine l_alloc (cs := [.int .i64 0, .int .i64 0, .int .i64 0, .int .i64 0, .int .i64 0, .int .i64 0, .int .i64 0, .int .i64 0, .int .i64 0]) hF hW rfl Z51 rfl (fun b2 a w hF hW => ?_)
  refine l_store (vs := [.int .i64 x1.1, .int .i64 x1.2.1, .int .i64 x1.2.2.1, .int .i64 x1.2.2.2.1.1, .int .i64 x1.2.2.2.1.2.1, .int .i64 x1.2.2.2.1.2.2.1, .int .i64 x1.2.2.2.1.2.2.2, .int .i64 x1.2.2.2.2.1, .int .i64 x1.2.2.2.2.2]) (M' := [(b2, [.int .i64 x1.1, .int .i64 x1.2.1, .int .i64 x1.2.2.1, .int .i64 x1.2.2.2.1.1, .int .i64 x1.2.2.2.1.2.1, .int .i64 x1.2.2.2.1.2.2.1, .int .i64 x1.2.2.2.1.2.2.2, .int .i64 x1.2.2.2.2.1, .int .i64 x1.2.2.2.2.2]), (b1, [.int .i64 0, .int .i64 0, .int .i64 0, .int .i64 0, .int .i64 0, .int .i64 0, .int .i64 0, .int .i64 0, .int .i64 0])]) 0 hF hW rfl rfl rfl T51 rfl rfl rfl rfl rfl (fun w hW => ?_)
  refine ls_nil ?_
  refine c_then ?_
  obtain ⟨o1, G1, K1⟩ := bindE H
  refine c_seqJ (fun a w => ∃ x2 : Int, ∃ x3 : Int, ∃ x4 : Int, ∃ x5 : Int, ∃ x6 : Int, ∃ x7 : Int, ∃ x8 : Int, ∃ x9 : Int, ∃ x10 : Int, some ((x2, x3, x4, x5, x6, x7, x8, x9, x10)) = some o1 ∧ Fr 33 [] [(4, .pointer (some ⟨b1, 0, none⟩)), (5, .pointer (some ⟨b2, 0, none⟩))] a ∧ Stw ⟨Y, [], w0⟩ [(b2, [.int .i64 x2, .int .i64 x3, .int .i64 x4, .int .i64 x5, .int .i64 x6, .int .i64 x7, .int .i64 x8, .int .i64 x9, .int .i64 x10]), (b1, [.int .i64 0, .int .i64 0, .int .i64 0, .int .i64 0, .int .i64 0, .int .i64 0, .int .i64 0, .int .i64 0, .int .i64 0])] [] w) ?_ ?_
  ·
   have H := G1
   clear G1 K1
   refine c_seq ?_
   refine reg_list ?_
   refine ls hF hW rfl ((y_assign hF rfl).q) (fun a w hF hW => ?_)
   refine ls_nil ?_
   refine c_then ?_
   refine wp_block ?_
   have hW := hW.frontM (i := 1) rfl rfl
   have hW := hW.frontM (i := 1) rfl rfl
   refine c_loopW H (fun s a w => Fr 33 [] [(0, v1), (1, .func (.func 29) #[] #[]), (4, .pointer (some ⟨b1, 0, none⟩)), (5, .pointer (some ⟨b2, 0, none⟩)), (6, .int .i64 s.1)] a ∧ Stw ⟨Y, [], w0⟩ [(b2, [.int .i64 s.2.1, .int .i64 s.2.2.1, .int .i64 s.2.2.2.1, .int .i64 s.2.2.2.2.1, .int .i64 s.2.2.2.2.2.1, .int .i64 s.2.2.2.2.2.2.1, .int .i64 s.2.2.2.2.2.2.2.1, .int .i64 s.2.2.2.2.2.2.2.2.1, .int .i64 s.2.2.2.2.2.2.2.2.2]), (b1, [.int .i64 0, .int .i64 0, .int .i64 0, .int .i64 0, .int .i64 0, .int .i64 0, .int .i64 0, .int .i64 0, .int .i64 0])] [] w) ⟨hF.re ⟨rfl, rfl, rfl, rfl, rfl, trivial⟩, hW⟩ (fun s o a w H L2 hR => ?_)
   obtain ⟨x11, x12, x13, x14, x15, x16, x17, x18, x19, x20⟩ := s
   obtain ⟨hF, hW⟩ := hR
   have hF : Fr 33 [] [(0, v1), (1, .func (.func 29) #[] #[]), (4, .pointer (some ⟨b1, 0, none⟩)), (5, .pointer (some ⟨b2, 0, none⟩)), (6, .int .i64 x11)] a := hF
   have hW : Stw ⟨Y, [], w0⟩ [(b2, [.int .i64 x12, .int .i64 x13, .int .i64 x14, .int .i64 x15, .int .i64 x16, .int .i64 x17, .int .i64 x18, .int .i64 x19, .int .i64 x20]), (b1, [.int .i64 0, .int .i64 0, .int .i64 0, .int .i64 0, .int .i64 0, .int .i64 0, .int .i64 0, .int .i64 0, .int .i64 0])] [] w := hW
   rw [slices_MinFunc_wire_Way_wire_Way_l1] at H
   refine c_seq ?_
   refine c_seq ?_
   refine reg_list ?_
   refine ls hF hW rfl ((y_move hF rfl).q) (fun a w hF hW => ?_)
   refine ls hF hW rfl ((y_move hF rfl).q) (fun a w hF hW => ?_)
   refine ls hF hW rfl ((y_len (r := R51) (l := p0) u48_ rfl hF rfl (rdc_ro h_v1)).q) (fun a w hF hW => ?_)
   refine ls hF hW rfl ((y_lss hF rfl rfl).q) (fun a w hF hW => ?_)
   refine ls_nil ?_
   refine c_then ?_
   refine c_cond hF rfl (fun hb => ?_) (fun hb => ?_)
   ·
    have H := iteT (of_decide_eq_true hb) H
    rw [hb] at hF
    clear hb
    refine wp_skip ?_
    refine c_then ?_
    obtain ⟨o3, G3, K3⟩ := bindE H
    refine c_seqJ (fun a w => ∃ x21 : Int, ∃ x22 : Int, ∃ x23 : Int, ∃ x24 : Int, ∃ x25 : Int, ∃ x26 : Int, ∃ x27 : Int, ∃ x28 : Int, ∃ x29 : Int, some ((x21, x22, x23, x24, x25, x26, x27, x28, x29)) = some o3 ∧ Fr 33 [] [(0, v1), (1, .func (.func 29) #[] #[]), (4, .pointer (some ⟨b1, 0, none⟩)), (5, .pointer (some ⟨b2, 0, none⟩)), (6, .int .i64 x11)] a ∧ Stw ⟨Y, [], w0⟩ [(b2, [.int .i64 x21, .int .i64 x22, .int .i64 x23, .int .i64 x24, .int .i64 x25, .int .i64 x26, .int .i64 x27, .int .i64 x28, .int .i64 x29]), (b1, [.int .i64 0, .int .i64 0, .int .i64 0, .int .i64 0, .int .i64 0, .int .i64 0, .int .i64 0, .int .i64 0, .int .i64 0])] [] w) ?_ ?_
    ·
     have H := G3
     clear G3 K3
     refine wp_block ?_
     refine c_seq ?_
     refine reg_quiet hW MO (by kernel_rfl) ?_
     refine qs hF rfl ((y_move hF rfl).q) (fun a hF => ?_)
     refine qs hF rfl ((y_move hF rfl).q) (fun a hF => ?_)
     refine qs hF rfl ((y_move hF rfl).q) (fun a hF => ?_)
     obtain ⟨x30, h2, H⟩ := bindE H
     refine qs hF rfl ((y_index (r := R51) L48 hF rfl rfl (rdc_ro h_v1) h2).q) (fun a hF => ?_)
     refine qs hF rfl ((y_load_el (y := Value.agg #[.int .i64 x30.1, .int .i64 x30.2.1, .int .i64 x30.2.2.1, .int .i64 x30.2.2.2.1.1, .int .i64 x30.2.2.2.1.2.1, .int .i64 x30.2.2.2.1.2.2.1, .int .i64 x30.2.2.2.1.2.2.2, .int .i64 x30.2.2.2.2.1, .int .i64 x30.2.2.2.2.2]) (j := 0) (i := x11) hF rfl rfl (rdc_ro h_v1) h2 F51.to T51 rfl).q) (fun a hF => ?_)
     refine qs hF rfl ((y_load (v := Value.agg #[.int .i64 x12, .int .i64 x13, .int .i64 x14, .int .i64 x15, .int .i64 x16, .int .i64 x17, .int .i64 x18, .int .i64 x19, .int .i64 x20]) 0 hF rfl rfl T51 rfl).q) (fun a hF => ?_)
     refine qs hF rfl (y_callV (ws := [.agg #[.int .i64 x30.1, .int .i64 x30.2.1, .int .i64 x30.2.2.1, .int .i64 x30.2.2.2.1.1, .int .i64 x30.2.2.2.1.2.1, .int .i64 x30.2.2.2.1.2.2.1, .int .i64 x30.2.2.2.1.2.2.2, .int .i64 x30.2.2.2.2.1, .int .i64 x30.2.2.2.2.2], .agg #[.int .i64 x12, .int .i64 x13, .int .i64 x14, .int .i64 x15, .int .i64 x16, .int .i64 x17, .int .i64 x18, .int .i64 x19, .int .i64 x20]]) (v := Value.int .i64 (wire_byLate x30 (x12, x13, x14, (x15, x16, x17, x18), x19, x20))) hF H29 rfl (fun w hW => wire_byLate_c any w x30 (x12, x13, x14, (x15, x16, x17, x18), x19, x20) _ rfl)) (fun a hF => ?_)
     refine qs hF rfl ((y_lss hF rfl rfl).q) (fun a hF => ?_)
     refine quiet_end (fun w hW => ?_)
     refine c_then ?_
     refine c_cond hF rfl (fun hb => ?_) (fun hb => ?_)
     ·
      have H := iteT (of_decide_eq_true hb) H
      rw [hb] at hF
      clear hb
      refine reg_list ?_
      refine ls hF hW rfl ((y_move hF rfl).q) (fun a w hF hW => ?_)
      refine ls hF hW rfl ((y_move hF rfl).q) (fun a w hF hW => ?_)
      obtain ⟨x31, h3, H⟩ := bindE H
      refine ls hF hW rfl ((y_index (r := R51) L48 hF rfl rfl (rdc_ro h_v1) h3).q) (fun a w hF hW => ?_)
      refine ls hF hW rfl ((y_load_el (y := Value.agg #[.int .i64 x31.1, .int .i64 x31.2.1, .int .i64 x31.2.2.1, .int .i64 x31.2.2.2.1.1, .int .i64 x31.2.2.2.1.2.1, .int .i64 x31.2.2.2.1.2.2.1, .int .i64 x31.2.2.2.1.2.2.2, .int .i64 x31.2.2.2.2.1, .int .i64 x31.2.2.2.2.2]) (j := 0) (i := x11) hF rfl rfl (rdc_ro h_v1) h3 F51.to T51 rfl).q) (fun a w hF hW => ?_)
      refine l_store (vs := [.int .i64 x31.1, .int .i64 x31.2.1, .int .i64 x31.2.2.1, .int .i64 x31.2.2.2.1.1, .int .i64 x31.2.2.2.1.2.1, .int .i64 x31.2.2.2.1.2.2.1, .int .i64 x31.2.2.2.1.2.2.2, .int .i64 x31.2.2.2.2.1, .int .i64 x31.2.2.2.2.2]) (M' := [(b2, [.int .i64 x31.1, .int .i64 x31.2.1, .int .i64 x31.2.2.1, .int .i64 x31.2.2.2.1.1, .int .i64 x31.2.2.2.1.2.1, .int .i64 x31.2.2.2.1.2.2.1, .int .i64 x31.2.2.2.1.2.2.2, .int .i64 x31.2.2.2.2.1, .int .i64 x31.2.2.2.2.2]), (b1, [.int .i64 0, .int .i64 0, .int .i64 0, .int .i64 0, .int .i64 0, .int .i64 0, .int .i64 0, .int .i64 0, .int .i64 0])]) 0 hF hW rfl rfl rfl T51 rfl rfl rfl rfl rfl (fun w hW => ?_)
      refine ls_nil ?_
      refine b_normal ?_
      refine c_then ?_
      have hW := hW.frontM (i := 1) rfl rfl
      have hW := hW.frontM (i := 1) rfl rfl
      exact ⟨_, _, _, _, _, _, _, _, _, H, hF.re ⟨rfl, rfl, rfl, rfl, rfl, trivial⟩, hW⟩
     ·
      have H := iteF (of_decide_eq_false hb) H
      rw [hb] at hF
      clear hb
      refine wp_skip ?_
      refine b_normal ?_
      refine c_then ?_
      have hW := hW.frontM (i := 1) rfl rfl
      have hW := hW.frontM (i := 1) rfl rfl
      exact ⟨_, _, _, _, _, _, _, _, _, H, hF.re ⟨rfl, rfl, rfl, rfl, rfl, trivial⟩, hW⟩
    rintro a w ⟨x21, x22, x23, x24, x25, x26, x27, x28, x29, hj, hF, hW⟩
    have hj := Option.some.inj hj
    subst hj
    have H := K3
    clear G3 K3
    refine reg_list ?_
    refine ls hF hW rfl ((y_move hF rfl).q) (fun a w hF hW => ?_)
    refine ls hF hW rfl ((y_add hF rfl rfl rfl).q) (fun a w hF hW => ?_)
    refine ls hF hW rfl ((y_assign hF rfl).q) (fun a w hF hW => ?_)
    refine ls_nil ?_
    refine c_then ?_
    have hW := hW.frontM (i := 1) rfl rfl
    have hW := hW.frontM (i := 1) rfl rfl
    exact ⟨_, H, hF.re ⟨rfl, rfl, rfl, rfl, rfl, trivial⟩, hW⟩
   ·
    have H := iteF (of_decide_eq_false hb) H
    rw [hb] at hF
    clear hb
    refine wp_exit ?_
    refine e_then ?_
    refine e_then ?_
    refine e_block ?_
    refine c_then ?_
    have hW := hW.frontM (i := 1) rfl rfl
    have hW := hW.frontM (i := 1) rfl rfl
    have H := L2 _ H
    exact ⟨_, _, _, _, _, _, _, _, _, H, hF.re ⟨rfl, rfl, trivial⟩, hW⟩
  rintro a w ⟨x2, x3, x4, x5, x6, x7, x8, x9, x10, hj, hF, hW⟩
  have hj := Option.some.inj hj
  subst hj
  have H := K1
  clear G1 K1
  refine c_seq ?_
  refine reg_list ?_
  refine ls hF hW rfl ((y_load (v := Value.agg #[.int .i64 x2, .int .i64 x3, .int .i64 x4, .int .i64 x5, .int .i64 x6, .int .i64 x7, .int .i64 x8, .int .i64 x9, .int .i64 x10]) 0 hF rfl rfl T51 rfl).q) (fun a w hF hW => ?_)
  refine l_store (vs := [.int .i64 x2, .int .i64 x3, .int .i64 x4, .int .i64 x5, .int .i64 x6, .int .i64 x7, .int .i64 x8, .int .i64 x9, .int .i64 x10]) (M' := [(b2, [.int .i64 x2, .int .i64 x3, .int .i64 x4, .int .i64 x5, .int .i64 x6, .int .i64 x7, .int .i64 x8, .int .i64 x9, .int .i64 x10]), (b1, [.int .i64 x2, .int .i64 x3, .int .i64 x4, .int .i64 x5, .int .i64 x6, .int .i64 x7, .int .i64 x8, .int .i64 x9, .int .i64 x10])]) 1 hF hW rfl rfl rfl T51 rfl rfl rfl rfl rfl (fun w hW => ?_)
  refine ls_nil ?_
  refine c_then ?_
  refine wp_ret ?_
  have H := Option.some.inj H
  subst H
  refine post1 (.inl rfl) hF hW rfl (rv_cell 1 hF rfl rfl T51 rfl) ?_
  exact ⟨rfl, hW.done⟩

theorem H28 : Has Try.prog 28 := ⟨fun args w => run_callFunc_body Try.func28 rfl (by decide) args w⟩
noncomputable def wire_Wires_Next_2 (p0 : (Int × (List (Int × Int × Int × Int × Int × Int)) × (List (Int × Int))) × (List (Int × Int × Int × (Int × Int × Int × Int) × Int × Int))) : Option Int := (if (wire_Wires_Len_2 p0) = 0 then some (-1) else (slices_MinFunc_wire_Way_wire_Way p0.2).bind fun x1 => some x1.2.2.2.2.2)
theorem wire_Wires_Next_2_c (Y : Nat → Prop) (w0 : World) (q_p0 : Nat) (v1 : Value) (v2 : Value) (v3 : Value) (p0 : (Int × (List (Int × Int × Int × Int × Int × Int)) × (List (Int × Int))) × (List (Int × Int × Int × (Int × Int × Int × Int) × Int × Int))) (r : Int) (H : wire_Wires_Next_2 p0 = some r) (h_v1 : Sl w0 (NX []) R59 v1 p0.1.2.1) (h_v2 : Sl w0 (NX []) R75 v2 p0.1.2.2) (h_v3 : Sl w0 (NX []) R51 v3 p0.2) (a_q_p0 : At ⟨Y, [], w0⟩ q_p0 0 [.int .i64 p0.1.1, v1, v2, v3]) :
    Calls Try.prog 12 #[.pointer (some ⟨q_p0, 0, none⟩)] w0 fun e w' => e = .returned (.int .i64 r) ∧ Below w0.heap.size w0 w' := by
 refine enter Try.func12 rfl Try.ntmps12 rfl (fun a hF => ?_)
 have hW := Stw.start Y w0
 unfold wire_Wires_Next_2 at H
 refine c_seq ?_
 refine reg_list ?_
 refine ls hF hW rfl ((y_assign hF rfl).q) (fun a w hF hW => ?_)
 refine ls_nil ?_
 refine c_then ?_
 refine c_seq ?_
 refine c_seq ?_
 refine reg_list ?_
 refine ls hF hW rfl ((y_move hF rfl).q) (fun a w hF hW => ?_)
 refine ls hF hW rfl (y_call (v := Value.int .i64 (wire_Wires_Len_2 p0)) hF H11 rfl (fun w hW => wire_Wires_Len_2_c any w q_p0 (v1) (v2) (v3) p0 _ rfl (((rdc_ro h_v1) : Rdc _ _ _ _ _ _) w hW).nx (((rdc_ro h_v2) : Rdc _ _ _ _ _ _) w hW).nx (((rdc_ro h_v3) : Rdc _ _ _ _ _ _) w hW).nx (At.re a_q_p0 hW))) (fun a w hF hW => ?_)
 refine ls hF hW rfl ((y_eql hF rfl rfl).q) (fun a w hF hW => ?_)
 refine ls_nil ?_
 refine c_then ?_
 refine c_cond hF rfl (fun hb => ?_) (fun hb => ?_)
 ·
  have H := iteT (of_decide_eq_true hb) H
  rw [hb] at hF
  clear hb
  refine c_seq ?_
  refine reg_list ?_
  refine ls hF hW rfl ((y_assign hF rfl).q) (fun a w hF hW => ?_)
  refine ls_nil ?_
  refine c_then ?_
  refine wp_ret ?_
  refine r_then ?_
  have H := Option.some.inj H
  subst H
  refine post1 (.inl rfl) hF hW rfl (rv_tmp hF rfl) ?_
  exact ⟨rfl, hW.done⟩
 ·
  have H := iteF (of_decide_eq_false hb) H
  rw [hb] at hF
  clear hb
  refine wp_skip ?_
  refine c_then ?_
  refine c_seq ?_
  refine reg_list ?_
  refine ls hF hW rfl ((y_move hF rfl).q) (fun a w hF hW => ?_)
  refine ls hF hW rfl ((y_nilCheck hF rfl).q) (fun a w hF hW => ?_)
  refine ls hF hW rfl ((y_fieldAddr u62_ rfl rfl rfl T48 hF rfl 3 rfl).q) (fun a w hF hW => ?_)
  refine ls hF hW rfl ((y_load_at (y := v3) (j := 3) hF rfl (Nat.zero_add _).symm a_q_p0 T48 rfl).q) (fun a w hF hW => ?_)
  obtain ⟨x1, h1, H⟩ := bindE H
  refine ls hF hW rfl (y_call (v := Value.agg #[.int .i64 x1.1, .int .i64 x1.2.1, .int .i64 x1.2.2.1, .int .i64 x1.2.2.2.1.1, .int .i64 x1.2.2.2.1.2.1, .int .i64 x1.2.2.2.1.2.2.1, .int .i64 x1.2.2.2.1.2.2.2, .int .i64 x1.2.2.2.2.1, .int .i64 x1.2.2.2.2.2]) hF H28 rfl (fun w hW => slices_MinFunc_wire_Way_wire_Way_c any w (v3) p0.2 _ h1 (((rdc_ro h_v3) : Rdc _ _ _ _ _ _) w hW).nx)) (fun a w hF hW => ?_)
  refine ls hF hW rfl ((y_field (v := Value.int .i64 x1.2.2.2.2.2) u51_ rfl rfl rfl T3 hF rfl rfl).q) (fun a w hF hW => ?_)
  refine ls hF hW rfl ((y_assign hF rfl).q) (fun a w hF hW => ?_)
  refine ls_nil ?_
  refine c_then ?_
  refine wp_ret ?_
  have H := Option.some.inj H
  subst H
  refine post1 (.inl rfl) hF hW rfl (rv_tmp hF rfl) ?_
  exact ⟨rfl, hW.done⟩

noncomputable def L35_awake  : Option Bool := (wire_New (2, ([(0, 0, 1, 3, 2, 5)] : List (Int × Int × Int × Int × Int × Int)), ([] : List (Int × Int)))).bind fun x1 => altS x1 (fun x2 => (wire_Wires_Put_2 x2 10 0 0 7 (1, 0, 0, 0)).bind fun x4 => (wire_Wires_Take_2 x4.2 11 0).bind fun x5 => (wire_Wires_Next_2 x5.2.2).bind fun x6 => (wire_Wires_Take_2 x5.2.2 12 0).bind fun x7 => (if x4.1 = 0 then (if x5.2.1 = 15 then (if x6 = 15 then (if x7.2.1 = 0 then (if x7.1.1 = 7 then (if x7.1.2.1 = 1 then (if x7.1.2.2.1 = 3 then (if (wire_Wires_Len_2 x7.2.2) = 0 then (wire_Wires_Next_2 x7.2.2).bind fun x9 => some (decide (x9 = (-1))) else some false) else some false) else some false) else some false) else some false) else some false) else some false) else some false).bind fun x8 => some x8) (fun x3 => some false)
theorem L35_awake_c (Y : Nat → Prop) (w0 : World)   (r : Bool) (H : L35_awake  = some r)  :
    Calls Try.prog 6 #[] w0 fun e w' => e = .returned (.bool r) ∧ Below w0.heap.size w0 w' := by
 refine enter Try.func6 rfl Try.ntmps6 rfl (fun a hF => ?_)
 have hW := Stw.start Y w0
 unfold L35_awake at H
 refine c_seq ?_
 refine reg_list ?_
 refine ls hF hW rfl ((y_assign hF rfl).q) (fun a w hF hW => ?_)
 refine ls_nil ?_
 refine c_then ?_
 refine c_seq ?_
 refine reg_list ?_
 refine ls hF hW rfl ((y_build (v := Value.agg #[.int .i64 0, .int .i64 0, .int .i64 1, .int .i64 3, .int .i64 2, .int .i64 5]) B59 hF rfl rfl rfl).q) (fun a w hF hW => ?_)
 refine l_lit (z := Value.agg #[.int .i64 0, .int .i64 0, .int .i64 0, .int .i64 0, .int .i64 0, .int .i64 0]) (cs := [.int .i64 0, .int .i64 0, .int .i64 1, .int .i64 3, .int .i64 2, .int .i64 5]) R59 ([(0, 0, 1, 3, 2, 5)] : List (Int × Int × Int × Int × Int × Int)) hF hW rfl L22 Z59 rfl rfl rfl rfl rfl rfl (F59.repL _ _ ([(0, 0, 1, 3, 2, 5)] : List (Int × Int × Int × Int × Int × Int))) (fun v1 a w hF hW => ?_)
 refine ls hF hW rfl ((y_build (v := Value.agg #[.int .i64 2, v1, .slice none 0 0]) B25 hF rfl (fill_cons rfl rfl rfl (fill_cons rfl (cells_one (hW.one (k := 0) rfl)) rfl fill_nil)) rfl).q) (fun a w hF hW => ?_)
 obtain ⟨x1, h1, H⟩ := bindE H
 rcases x1 with x2 | x3
 ·
  have H := altL H
  have hW := hW.freeze
  refine l_callG (Ml := []) (Zl := []) (M := []) (Z := [frz v1 R59 ([(0, 0, 1, 3, 2, 5)] : List (Int × Int × Int × Int × Int × Int))]) (β := Nat × Value × Value × Value) (rv := fun x => .tuple #[.pointer (some ⟨x.1, 0, none⟩), .int .i64 0]) (MM := fun x => [(x.1, [.int .i64 x2.1.1, x.2.1, x.2.2.1, x.2.2.2])]) (ZZ := fun x => [row x.2.1 59 R59 x2.1.2.1, row x.2.2.1 75 R75 x2.1.2.2, row x.2.2.2 51 R51 x2.2]) hF hW H7 rfl rfl (fun hL => wire_New_c _ w (v1) (Value.slice none 0 0) (2, ([(0, 0, 1, 3, 2, 5)] : List (Int × Int × Int × Int × Int × Int)), ([] : List (Int × Int))) _ h1 (hW.item (i := 0) rfl) Sl.nil) (fun x a w hF hW => ?_)
  obtain ⟨b1, v2, v3, v4⟩ := x
  have hW : Stw ⟨Y, [], w0⟩ [(b1, [.int .i64 x2.1.1, v2, v3, v4])] [row v2 59 R59 x2.1.2.1, row v3 75 R75 x2.1.2.2, row v4 51 R51 x2.2, frz v1 R59 ([(0, 0, 1, 3, 2, 5)] : List (Int × Int × Int × Int × Int × Int))] w := hW
  refine ls hF hW rfl ((y_move hF rfl).q) (fun a w hF hW => ?_)
  refine ls hF hW rfl ((y_extract (v := Value.pointer (some ⟨b1, 0, none⟩)) hF rfl rfl).q) (fun a w hF hW => ?_)
  refine ls hF hW rfl ((y_extract (v := Value.int .i64 0) hF rfl rfl).q) (fun a w hF hW => ?_)
  refine ls hF hW rfl ((y_assign hF rfl).q) (fun a w hF hW => ?_)
  refine ls hF hW rfl ((y_assign hF rfl).q) (fun a w hF hW => ?_)
  refine ls_nil ?_
  refine c_then ?_
  refine c_seq ?_
  refine reg_list ?_
  refine ls hF hW rfl ((y_move hF rfl).q) (fun a w hF hW => ?_)
  refine ls hF hW rfl ((y_buildA (v := Value.agg #[.int .i64 1, .int .i64 0, .int .i64 0, .int .i64 0]) Ar36 ZA36 hF rfl rfl rfl).q) (fun a w hF hW => ?_)
  obtain ⟨x4, h2, H⟩ := bindE H
  have hW := hW.frontZ (i := 2) rfl rfl
  have hW := hW.frontZ (i := 2) rfl rfl
  have hW := hW.frontZ (i := 2) rfl rfl
  refine l_callG (Ml := [(b1, [.int .i64 x2.1.1, v2, v3, v4])]) (Zl := [row v2 59 R59 x2.1.2.1, row v3 75 R75 x2.1.2.2, row v4 51 R51 x2.2]) (M := []) (Z := [frz v1 R59 ([(0, 0, 1, 3, 2, 5)] : List (Int × Int × Int × Int × Int × Int))]) (β := Value × Value × Value) (rv := fun x => .int .i64 x4.1) (MM := fun x => [(b1, [.int .i64 x4.2.1.1, x.1, x.2.1, x.2.2])]) (ZZ := fun x => [row x.1 59 R59 x4.2.1.2.1, row x.2.1 75 R75 x4.2.1.2.2, row x.2.2 51 R51 x4.2.2]) hF hW H18 rfl rfl (fun hL => wire_Wires_Put_2_c _ _ w b1 (v2) (v3) (v4) x2 10 0 0 7 (1, 0, 0, 0) _ h2 hL) (fun x a w hF hW => ?_)
  obtain ⟨v5, v6, v7⟩ := x
  have hW : Stw ⟨Y, [], w0⟩ [(b1, [.int .i64 x4.2.1.1, v5, v6, v7])] [row v5 59 R59 x4.2.1.2.1, row v6 75 R75 x4.2.1.2.2, row v7 51 R51 x4.2.2, frz v1 R59 ([(0, 0, 1, 3, 2, 5)] : List (Int × Int × Int × Int × Int × Int))] w := hW
  refine ls hF hW rfl ((y_assign hF rfl).q) (fun a w hF hW => ?_)
  refine ls_nil ?_
  refine c_then ?_
  refine c_seq ?_
  refine reg_list ?_
  refine ls hF hW rfl ((y_move hF rfl).q) (fun a w hF hW => ?_)
  obtain ⟨x5, h3, H⟩ := bindE H
  have hW := hW.frontZ (i := 2) rfl rfl
  have hW := hW.frontZ (i := 2) rfl rfl
  have hW := hW.frontZ (i := 2) rfl rfl
  refine l_callG (Ml := [(b1, [.int .i64 x4.2.1.1, v5, v6, v7])]) (Zl := [row v5 59 R59 x4.2.1.2.1, row v6 75 R75 x4.2.1.2.2, row v7 51 R51 x4.2.2]) (M := []) (Z := [frz v1 R59 ([(0, 0, 1, 3, 2, 5)] : List (Int × Int × Int × Int × Int × Int))]) (β := Value × Value × Value) (rv := fun x => .tuple #[.agg #[.int .i64 x5.1.1, .int .i64 x5.1.2.1, .int .i64 x5.1.2.2.1, .int .i64 x5.1.2.2.2.1.1, .int .i64 x5.1.2.2.2.1.2.1, .int .i64 x5.1.2.2.2.1.2.2.1, .int .i64 x5.1.2.2.2.1.2.2.2, .int .i64 x5.1.2.2.2.2.1, .int .i64 x5.1.2.2.2.2.2], .int .i64 x5.2.1]) (MM := fun x => [(b1, [.int .i64 x5.2.2.1.1, x.1, x.2.1, x.2.2])]) (ZZ := fun x => [row x.1 59 R59 x5.2.2.1.2.1, row x.2.1 75 R75 x5.2.2.1.2.2, row x.2.2 51 R51 x5.2.2.2]) hF hW H16 rfl rfl (fun hL => wire_Wires_Take_2_c _ _ w b1 (v5) (v6) (v7) x4.2 11 0 _ h3 hL) (fun x a w hF hW => ?_)
  obtain ⟨v8, v9, v10⟩ := x
  have hW : Stw ⟨Y, [], w0⟩ [(b1, [.int .i64 x5.2.2.1.1, v8, v9, v10])] [row v8 59 R59 x5.2.2.1.2.1, row v9 75 R75 x5.2.2.1.2.2, row v10 51 R51 x5.2.2.2, frz v1 R59 ([(0, 0, 1, 3, 2, 5)] : List (Int × Int × Int × Int × Int × Int))] w := hW
  refine ls hF hW rfl ((y_move hF rfl).q) (fun a w hF hW => ?_)
  refine ls hF hW rfl ((y_extract (v := Value.agg #[.int .i64 x5.1.1, .int .i64 x5.1.2.1, .int .i64 x5.1.2.2.1, .int .i64 x5.1.2.2.2.1.1, .int .i64 x5.1.2.2.2.1.2.1, .int .i64 x5.1.2.2.2.1.2.2.1, .int .i64 x5.1.2.2.2.1.2.2.2, .int .i64 x5.1.2.2.2.2.1, .int .i64 x5.1.2.2.2.2.2]) hF rfl rfl).q) (fun a w hF hW => ?_)
  refine ls hF hW rfl ((y_extract (v := Value.int .i64 x5.2.1) hF rfl rfl).q) (fun a w hF hW => ?_)
  refine l_alloc (cs := [.int .i64 0, .int .i64 0, .int .i64 0, .int .i64 0, .int .i64 0, .int .i64 0, .int .i64 0, .int .i64 0, .int .i64 0]) hF hW rfl Z51 rfl (fun b2 a w hF hW => ?_)
  refine l_store (vs := [.int .i64 x5.1.1, .int .i64 x5.1.2.1, .int .i64 x5.1.2.2.1, .int .i64 x5.1.2.2.2.1.1, .int .i64 x5.1.2.2.2.1.2.1, .int .i64 x5.1.2.2.2.1.2.2.1, .int .i64 x5.1.2.2.2.1.2.2.2, .int .i64 x5.1.2.2.2.2.1, .int .i64 x5.1.2.2.2.2.2]) (M' := [(b2, [.int .i64 x5.1.1, .int .i64 x5.1.2.1, .int .i64 x5.1.2.2.1, .int .i64 x5.1.2.2.2.1.1, .int .i64 x5.1.2.2.2.1.2.1, .int .i64 x5.1.2.2.2.1.2.2.1, .int .i64 x5.1.2.2.2.1.2.2.2, .int .i64 x5.1.2.2.2.2.1, .int .i64 x5.1.2.2.2.2.2]), (b1, [.int .i64 x5.2.2.1.1, v8, v9, v10])]) 0 hF hW rfl rfl rfl T51 rfl rfl rfl rfl rfl (fun w hW => ?_)
  refine ls hF hW rfl ((y_assign hF rfl).q) (fun a w hF hW => ?_)
  refine ls_nil ?_
  refine c_then ?_
  refine c_seq ?_
  refine reg_list ?_
  refine ls hF hW rfl ((y_move hF rfl).q) (fun a w hF hW => ?_)
  obtain ⟨x6, h4, H⟩ := bindE H
  refine ls hF hW rfl (y_call (v := Value.int .i64 x6) hF H12 rfl (fun w hW => wire_Wires_Next_2_c any w b1 (v8) (v9) (v10) x5.2.2 _ h4 (((rdc_row 0 rfl) : Rdc _ _ _ _ _ _) w hW).nx (((rdc_row 1 rfl) : Rdc _ _ _ _ _ _) w hW).nx (((rdc_row 2 rfl) : Rdc _ _ _ _ _ _) w hW).nx (at_M hW 1 rfl))) (fun a w hF hW => ?_)
  refine ls hF hW rfl ((y_assign hF rfl).q) (fun a w hF hW => ?_)
  refine ls_nil ?_
  refine c_then ?_
  refine c_seq ?_
  refine reg_list ?_
  refine ls hF hW rfl ((y_move hF rfl).q) (fun a w hF hW => ?_)
  obtain ⟨x7, h5, H⟩ := bindE H
  have hW := hW.frontZ (i := 2) rfl rfl
  have hW := hW.frontZ (i := 2) rfl rfl
  have hW := hW.frontZ (i := 2) rfl rfl
  have hW := hW.frontM (i := 1) rfl rfl
  refine l_callG (Ml := [(b1, [.int .i64 x5.2.2.1.1, v8, v9, v10])]) (Zl := [row v8 59 R59 x5.2.2.1.2.1, row v9 75 R75 x5.2.2.1.2.2, row v10 51 R51 x5.2.2.2]) (M := [(b2, [.int .i64 x5.1.1, .int .i64 x5.1.2.1, .int .i64 x5.1.2.2.1, .int .i64 x5.1.2.2.2.1.1, .int .i64 x5.1.2.2.2.1.2.1, .int .i64 x5.1.2.2.2.1.2.2.1, .int .i64 x5.1.2.2.2.1.2.2.2, .int .i64 x5.1.2.2.2.2.1, .int .i64 x5.1.2.2.2.2.2])]) (Z := [frz v1 R59 ([(0, 0, 1, 3, 2, 5)] : List (Int × Int × Int × Int × Int × Int))]) (β := Value × Value × Value) (rv := fun x => .tuple #[.agg #[.int .i64 x7.1.1, .int .i64 x7.1.2.1, .int .i64 x7.1.2.2.1, .int .i64 x7.1.2.2.2.1.1, .int .i64 x7.1.2.2.2.1.2.1, .int .i64 x7.1.2.2.2.1.2.2.1, .int .i64 x7.1.2.2.2.1.2.2.2, .int .i64 x7.1.2.2.2.2.1, .int .i64 x7.1.2.2.2.2.2], .int .i64 x7.2.1]) (MM := fun x => [(b1, [.int .i64 x7.2.2.1.1, x.1, x.2.1, x.2.2])]) (ZZ := fun x => [row x.1 59 R59 x7.2.2.1.2.1, row x.2.1 75 R75 x7.2.2.1.2.2, row x.2.2 51 R51 x7.2.2.2]) hF hW H16 rfl rfl (fun hL => wire_Wires_Take_2_c _ _ w b1 (v8) (v9) (v10) x5.2.2 12 0 _ h5 hL) (fun x a w hF hW => ?_)
  obtain ⟨v11, v12, v13⟩ := x
  have hW : Stw ⟨Y, [], w0⟩ [(b1, [.int .i64 x7.2.2.1.1, v11, v12, v13]), (b2, [.int .i64 x5.1.1, .int .i64 x5.1.2.1, .int .i64 x5.1.2.2.1, .int .i64 x5.1.2.2.2.1.1, .int .i64 x5.1.2.2.2.1.2.1, .int .i64 x5.1.2.2.2.1.2.2.1, .int .i64 x5.1.2.2.2.1.2.2.2, .int .i64 x5.1.2.2.2.2.1, .int .i64 x5.1.2.2.2.2.2])] [row v11 59 R59 x7.2.2.1.2.1, row v12 75 R75 x7.2.2.1.2.2, row v13 51 R51 x7.2.2.2, frz v1 R59 ([(0, 0, 1, 3, 2, 5)] : List (Int × Int × Int × Int × Int × Int))] w := hW
  refine ls hF hW rfl ((y_move hF rfl).q) (fun a w hF hW => ?_)
  refine ls hF hW rfl ((y_extract (v := Value.agg #[.int .i64 x7.1.1, .int .i64 x7.1.2.1, .int .i64 x7.1.2.2.1, .int .i64 x7.1.2.2.2.1.1, .int .i64 x7.1.2.2.2.1.2.1, .int .i64 x7.1.2.2.2.1.2.2.1, .int .i64 x7.1.2.2.2.1.2.2.2, .int .i64 x7.1.2.2.2.2.1, .int .i64 x7.1.2.2.2.2.2]) hF rfl rfl).q) (fun a w hF hW => ?_)
  refine ls hF hW rfl ((y_extract (v := Value.int .i64 x7.2.1) hF rfl rfl).q) (fun a w hF hW => ?_)
  refine l_alloc (cs := [.int .i64 0, .int .i64 0, .int .i64 0, .int .i64 0, .int .i64 0, .int .i64 0, .int .i64 0, .int .i64 0, .int .i64 0]) hF hW rfl Z51 rfl (fun b3 a w hF hW => ?_)
  refine l_store (vs := [.int .i64 x7.1.1, .int .i64 x7.1.2.1, .int .i64 x7.1.2.2.1, .int .i64 x7.1.2.2.2.1.1, .int .i64 x7.1.2.2.2.1.2.1, .int .i64 x7.1.2.2.2.1.2.2.1, .int .i64 x7.1.2.2.2.1.2.2.2, .int .i64 x7.1.2.2.2.2.1, .int .i64 x7.1.2.2.2.2.2]) (M' := [(b3, [.int .i64 x7.1.1, .int .i64 x7.1.2.1, .int .i64 x7.1.2.2.1, .int .i64 x7.1.2.2.2.1.1, .int .i64 x7.1.2.2.2.1.2.1, .int .i64 x7.1.2.2.2.1.2.2.1, .int .i64 x7.1.2.2.2.1.2.2.2, .int .i64 x7.1.2.2.2.2.1, .int .i64 x7.1.2.2.2.2.2]), (b1, [.int .i64 x7.2.2.1.1, v11, v12, v13]), (b2, [.int .i64 x5.1.1, .int .i64 x5.1.2.1, .int .i64 x5.1.2.2.1, .int .i64 x5.1.2.2.2.1.1, .int .i64 x5.1.2.2.2.1.2.1, .int .i64 x5.1.2.2.2.1.2.2.1, .int .i64 x5.1.2.2.2.1.2.2.2, .int .i64 x5.1.2.2.2.2.1, .int .i64 x5.1.2.2.2.2.2])]) 0 hF hW rfl rfl rfl T51 rfl rfl rfl rfl rfl (fun w hW => ?_)
  refine ls hF hW rfl ((y_assign hF rfl).q) (fun a w hF hW => ?_)
  refine ls_nil ?_
  refine c_then ?_
  obtain ⟨o1, G1, K1⟩ := bindE H
  refine c_seqJ (fun a w => ∃ x8 : Bool, some (x8) = some o1 ∧ Fr 74 [] [(0, .bool x8)] a ∧ Stw ⟨Y, [], w0⟩ [(b3, [.int .i64 x7.1.1, .int .i64 x7.1.2.1, .int .i64 x7.1.2.2.1, .int .i64 x7.1.2.2.2.1.1, .int .i64 x7.1.2.2.2.1.2.1, .int .i64 x7.1.2.2.2.1.2.2.1, .int .i64 x7.1.2.2.2.1.2.2.2, .int .i64 x7.1.2.2.2.2.1, .int .i64 x7.1.2.2.2.2.2]), (b1, [.int .i64 x7.2.2.1.1, v11, v12, v13]), (b2, [.int .i64 x5.1.1, .int .i64 x5.1.2.1, .int .i64 x5.1.2.2.1, .int .i64 x5.1.2.2.2.1.1, .int .i64 x5.1.2.2.2.1.2.1, .int .i64 x5.1.2.2.2.1.2.2.1, .int .i64 x5.1.2.2.2.1.2.2.2, .int .i64 x5.1.2.2.2.2.1, .int .i64 x5.1.2.2.2.2.2])] [row v11 59 R59 x7.2.2.1.2.1, row v12 75 R75 x7.2.2.1.2.2, row v13 51 R51 x7.2.2.2] w) ?_ ?_
  ·
   have H := G1
   clear G1 K1
   refine reg_list ?_
   refine ls hF hW rfl ((y_move hF rfl).q) (fun a w hF hW => ?_)
   refine ls hF hW rfl ((y_eql hF rfl rfl).q) (fun a w hF hW => ?_)
   rw [show decide ((0 : Int) = 0) = true from by decide] at hF
   refine ls hF hW rfl ((y_move hF rfl).q) (fun a w hF hW => ?_)
   refine ls_w hF hW (wanted_y hF rfl rfl rfl rfl) rfl (Nat.le_of_ble_eq_true rfl) ((y_move hF rfl).q) (fun a w hF hW => ?_)
   refine ls_w hF hW (wanted_y hF rfl rfl rfl rfl) rfl (Nat.le_of_ble_eq_true rfl) ((y_eql hF rfl rfl).q) (fun a w hF hW => ?_)
   refine ls hF hW rfl ((y_pick_t hF rfl rfl rfl).q) (fun a w hF hW => ?_)
   refine ls hF hW rfl ((y_move hF rfl).q) (fun a w hF hW => ?_)
   rcases Bool.eq_false_or_eq_true (decide (x4.1 = 0)) with hb | hb
   ·
    have H := iteT (of_decide_eq_true hb) H
    rw [hb] at hF
    clear hb
    refine ls_w hF hW (wanted_y hF rfl rfl rfl rfl) rfl (Nat.le_of_ble_eq_true rfl) ((y_move hF rfl).q) (fun a w hF hW => ?_)
    refine ls_w hF hW (wanted_y hF rfl rfl rfl rfl) rfl (Nat.le_of_ble_eq_true rfl) ((y_eql hF rfl rfl).q) (fun a w hF hW => ?_)
    refine ls hF hW rfl ((y_pick_t hF rfl rfl rfl).q) (fun a w hF hW => ?_)
    refine ls hF hW rfl ((y_move hF rfl).q) (fun a w hF hW => ?_)
    rcases Bool.eq_false_or_eq_true (decide (x5.2.1 = 15)) with hb | hb
    ·
     have H := iteT (of_decide_eq_true hb) H
     rw [hb] at hF
     clear hb
     refine ls_w hF hW (wanted_y hF rfl rfl rfl rfl) rfl (Nat.le_of_ble_eq_true rfl) ((y_move hF rfl).q) (fun a w hF hW => ?_)
     refine ls_w hF hW (wanted_y hF rfl rfl rfl rfl) rfl (Nat.le_of_ble_eq_true rfl) ((y_eql hF rfl rfl).q) (fun a w hF hW => ?_)
     refine ls hF hW rfl ((y_pick_t hF rfl rfl rfl).q) (fun a w hF hW => ?_)
     refine ls hF hW rfl ((y_move hF rfl).q) (fun a w hF hW => ?_)
     rcases Bool.eq_false_or_eq_true (decide (x6 = 15)) with hb | hb
     ·
      have H := iteT (of_decide_eq_true hb) H
      rw [hb] at hF
      clear hb
      refine ls_w hF hW (wanted_y hF rfl rfl rfl rfl) rfl (Nat.le_of_ble_eq_true rfl) ((y_move hF rfl).q) (fun a w hF hW => ?_)
      refine ls_w hF hW (wanted_y hF rfl rfl rfl rfl) rfl (Nat.le_of_ble_eq_true rfl) ((y_eql hF rfl rfl).q) (fun a w hF hW => ?_)
      refine ls hF hW rfl ((y_pick_t hF rfl rfl rfl).q) (fun a w hF hW => ?_)
      refine ls hF hW rfl ((y_move hF rfl).q) (fun a w hF hW => ?_)
      rcases Bool.eq_false_or_eq_true (decide (x7.2.1 = 0)) with hb | hb
      ·
       have H := iteT (of_decide_eq_true hb) H
       rw [hb] at hF
       clear hb
       refine ls_w hF hW (wanted_y hF rfl rfl rfl rfl) rfl (Nat.le_of_ble_eq_true rfl) ((y_fieldAddr u51_ rfl rfl rfl T3 hF rfl 0 rfl).q) (fun a w hF hW => ?_)
       refine ls_w hF hW (wanted_y hF rfl rfl rfl rfl) rfl (Nat.le_of_ble_eq_true rfl) ((y_load (v := Value.int .i64 x7.1.1) 0 hF rfl rfl T3 rfl).q) (fun a w hF hW => ?_)
       refine ls_w hF hW (wanted_y hF rfl rfl rfl rfl) rfl (Nat.le_of_ble_eq_true rfl) ((y_eql hF rfl rfl).q) (fun a w hF hW => ?_)
       refine ls hF hW rfl ((y_pick_t hF rfl rfl rfl).q) (fun a w hF hW => ?_)
       refine ls hF hW rfl ((y_move hF rfl).q) (fun a w hF hW => ?_)
       rcases Bool.eq_false_or_eq_true (decide (x7.1.1 = 7)) with hb | hb
       ·
        have H := iteT (of_decide_eq_true hb) H
        rw [hb] at hF
        clear hb
        refine ls_w hF hW (wanted_y hF rfl rfl rfl rfl) rfl (Nat.le_of_ble_eq_true rfl) ((y_fieldAddr u51_ rfl rfl rfl T3 hF rfl 1 rfl).q) (fun a w hF hW => ?_)
        refine ls_w hF hW (wanted_y hF rfl rfl rfl rfl) rfl (Nat.le_of_ble_eq_true rfl) ((y_load (v := Value.int .i64 x7.1.2.1) 0 hF rfl rfl T3 rfl).q) (fun a w hF hW => ?_)
        refine ls_w hF hW (wanted_y hF rfl rfl rfl rfl) rfl (Nat.le_of_ble_eq_true rfl) ((y_eql hF rfl rfl).q) (fun a w hF hW => ?_)
        refine ls hF hW rfl ((y_pick_t hF rfl rfl rfl).q) (fun a w hF hW => ?_)
        refine ls hF hW rfl ((y_move hF rfl).q) (fun a w hF hW => ?_)
        rcases Bool.eq_false_or_eq_true (decide (x7.1.2.1 = 1)) with hb | hb
        ·
         have H := iteT (of_decide_eq_true hb) H
         rw [hb] at hF
         clear hb
         refine ls_w hF hW (wanted_y hF rfl rfl rfl rfl) rfl (Nat.le_of_ble_eq_true rfl) ((y_fieldAddr u51_ rfl rfl rfl T3 hF rfl 2 rfl).q) (fun a w hF hW => ?_)
         refine ls_w hF hW (wanted_y hF rfl rfl rfl rfl) rfl (Nat.le_of_ble_eq_true rfl) ((y_load (v := Value.int .i64 x7.1.2.2.1) 0 hF rfl rfl T3 rfl).q) (fun a w hF hW => ?_)
         refine ls_w hF hW (wanted_y hF rfl rfl rfl rfl) rfl (Nat.le_of_ble_eq_true rfl) ((y_eql hF rfl rfl).q) (fun a w hF hW => ?_)
         refine ls hF hW rfl ((y_pick_t hF rfl rfl rfl).q) (fun a w hF hW => ?_)
         refine ls hF hW rfl ((y_move hF rfl).q) (fun a w hF hW => ?_)
         rcases Bool.eq_false_or_eq_true (decide (x7.1.2.2.1 = 3)) with hb | hb
         ·
          have H := iteT (of_decide_eq_true hb) H
          rw [hb] at hF
          clear hb
          refine ls_w hF hW (wanted_y hF rfl rfl rfl rfl) rfl (Nat.le_of_ble_eq_true rfl) ((y_move hF rfl).q) (fun a w hF hW => ?_)
          refine ls_g (wanted_y hF rfl rfl rfl rfl) ?_
          refine ls hF hW rfl (y_call (v := Value.int .i64 (wire_Wires_Len_2 x7.2.2)) hF H11 rfl (fun w hW => wire_Wires_Len_2_c any w b1 (v11) (v12) (v13) x7.2.2 _ rfl (((rdc_row 0 rfl) : Rdc _ _ _ _ _ _) w hW).nx (((rdc_row 1 rfl) : Rdc _ _ _ _ _ _) w hW).nx (((rdc_row 2 rfl) : Rdc _ _ _ _ _ _) w hW).nx (at_M hW 1 rfl))) (fun a w hF hW => ?_)
          refine ls_w hF hW (wanted_y hF rfl rfl rfl rfl) rfl (Nat.le_of_ble_eq_true rfl) ((y_eql hF rfl rfl).q) (fun a w hF hW => ?_)
          refine ls hF hW rfl ((y_pick_t hF rfl rfl rfl).q) (fun a w hF hW => ?_)
          refine ls hF hW rfl ((y_move hF rfl).q) (fun a w hF hW => ?_)
          rcases Bool.eq_false_or_eq_true (decide ((wire_Wires_Len_2 x7.2.2) = 0)) with hb | hb
          ·
           have H := iteT (of_decide_eq_true hb) H
           rw [hb] at hF
           clear hb
           refine ls_w hF hW (wanted_y hF rfl rfl rfl rfl) rfl (Nat.le_of_ble_eq_true rfl) ((y_move hF rfl).q) (fun a w hF hW => ?_)
           refine ls_g (wanted_y hF rfl rfl rfl rfl) ?_
           obtain ⟨x9, h6, H⟩ := bindE H
           refine ls hF hW rfl (y_call (v := Value.int .i64 x9) hF H12 rfl (fun w hW => wire_Wires_Next_2_c any w b1 (v11) (v12) (v13) x7.2.2 _ h6 (((rdc_row 0 rfl) : Rdc _ _ _ _ _ _) w hW).nx (((rdc_row 1 rfl) : Rdc _ _ _ _ _ _) w hW).nx (((rdc_row 2 rfl) : Rdc _ _ _ _ _ _) w hW).nx (at_M hW 1 rfl))) (fun a w hF hW => ?_)
           refine ls_w hF hW (wanted_y hF rfl rfl rfl rfl) rfl (Nat.le_of_ble_eq_true rfl) ((y_eql hF rfl rfl).q) (fun a w hF hW => ?_)
           refine ls hF hW rfl ((y_pick_t hF rfl rfl rfl).q) (fun a w hF hW => ?_)
           refine ls hF hW rfl ((y_assign hF rfl).q) (fun a w hF hW => ?_)
           refine ls_nil ?_
           refine c_then ?_
           have hW := hW.frontZ (i := 2) rfl rfl
           have hW := hW.frontZ (i := 2) rfl rfl
           have hW := hW.frontZ (i := 2) rfl rfl
           have hW := hW.frontM (i := 2) rfl rfl
           have hW := hW.frontM (i := 2) rfl rfl
           have hW := hW.frontM (i := 2) rfl rfl
           have hW := hW.sub (M' := [(b3, [.int .i64 x7.1.1, .int .i64 x7.1.2.1, .int .i64 x7.1.2.2.1, .int .i64 x7.1.2.2.2.1.1, .int .i64 x7.1.2.2.2.1.2.1, .int .i64 x7.1.2.2.2.1.2.2.1, .int .i64 x7.1.2.2.2.1.2.2.2, .int .i64 x7.1.2.2.2.2.1, .int .i64 x7.1.2.2.2.2.2]), (b1, [.int .i64 x7.2.2.1.1, v11, v12, v13]), (b2, [.int .i64 x5.1.1, .int .i64 x5.1.2.1, .int .i64 x5.1.2.2.1, .int .i64 x5.1.2.2.2.1.1, .int .i64 x5.1.2.2.2.1.2.1, .int .i64 x5.1.2.2.2.1.2.2.1, .int .i64 x5.1.2.2.2.1.2.2.2, .int .i64 x5.1.2.2.2.2.1, .int .i64 x5.1.2.2.2.2.2])]) (Z' := [row v11 59 R59 x7.2.2.1.2.1, row v12 75 R75 x7.2.2.1.2.2, row v13 51 R51 x7.2.2.2]) (List.Sublist.refl _) (List.Sublist.cons_cons _ (List.Sublist.cons_cons _ (List.Sublist.cons_cons _ (List.nil_sublist _))))
           exact ⟨_, H, hF.re ⟨rfl, trivial⟩, hW⟩
          ·
           have H := iteF (of_decide_eq_false hb) H
           rw [hb] at hF
           clear hb
           refine lsn hF rfl rfl rfl rfl rfl rfl rfl (fun a hF => ?_)
           refine lsn hF rfl rfl rfl rfl rfl rfl rfl (fun a hF => ?_)
           refine lsn hF rfl rfl rfl rfl rfl rfl rfl (fun a hF => ?_)
           refine ls hF hW rfl ((y_pick_f hF rfl rfl rfl).q) (fun a w hF hW => ?_)
           refine ls hF hW rfl ((y_assign hF rfl).q) (fun a w hF hW => ?_)
           refine ls_nil ?_
           refine c_then ?_
           have hW := hW.frontZ (i := 2) rfl rfl
           have hW := hW.frontZ (i := 2) rfl rfl
           have hW := hW.frontZ (i := 2) rfl rfl
           have hW := hW.frontM (i := 2) rfl rfl
           have hW := hW.frontM (i := 2) rfl rfl
           have hW := hW.frontM (i := 2) rfl rfl
           have hW := hW.sub (M' := [(b3, [.int .i64 x7.1.1, .int .i64 x7.1.2.1, .int .i64 x7.1.2.2.1, .int .i64 x7.1.2.2.2.1.1, .int .i64 x7.1.2.2.2.1.2.1, .int .i64 x7.1.2.2.2.1.2.2.1, .int .i64 x7.1.2.2.2.1.2.2.2, .int .i64 x7.1.2.2.2.2.1, .int .i64 x7.1.2.2.2.2.2]), (b1, [.int .i64 x7.2.2.1.1, v11, v12, v13]), (b2, [.int .i64 x5.1.1, .int .i64 x5.1.2.1, .int .i64 x5.1.2.2.1, .int .i64 x5.1.2.2.2.1.1, .int .i64 x5.1.2.2.2.1.2.1, .int .i64 x5.1.2.2.2.1.2.2.1, .int .i64 x5.1.2.2.2.1.2.2.2, .int .i64 x5.1.2.2.2.2.1, .int .i64 x5.1.2.2.2.2.2])]) (Z' := [row v11 59 R59 x7.2.2.1.2.1, row v12 75 R75 x7.2.2.1.2.2, row v13 51 R51 x7.2.2.2]) (List.Sublist.refl _) (List.Sublist.cons_cons _ (List.Sublist.cons_cons _ (List.Sublist.cons_cons _ (List.nil_sublist _))))
           exact ⟨_, H, hF.re ⟨rfl, trivial⟩, hW⟩
         ·
          have H := iteF (of_decide_eq_false hb) H
          rw [hb] at hF
          clear hb
          refine lsn hF rfl rfl rfl rfl rfl rfl rfl (fun a hF => ?_)
          refine lsn hF rfl rfl rfl rfl rfl rfl rfl (fun a hF => ?_)
          refine lsn hF rfl rfl rfl rfl rfl rfl rfl (fun a hF => ?_)
          refine ls hF hW rfl ((y_pick_f hF rfl rfl rfl).q) (fun a w hF hW => ?_)
          refine ls hF hW rfl ((y_move hF rfl).q) (fun a w hF hW => ?_)
          refine lsn hF rfl rfl rfl rfl rfl rfl rfl (fun a hF => ?_)
          refine lsn hF rfl rfl rfl rfl rfl rfl rfl (fun a hF => ?_)
          refine lsn hF rfl rfl rfl rfl rfl rfl rfl (fun a hF => ?_)
          refine ls hF hW rfl ((y_pick_f hF rfl rfl rfl).q) (fun a w hF hW => ?_)
          refine ls hF hW rfl ((y_assign hF rfl).q) (fun a w hF hW => ?_)
          refine ls_nil ?_
          refine c_then ?_
          have hW := hW.frontZ (i := 2) rfl rfl
          have hW := hW.frontZ (i := 2) rfl rfl
          have hW := hW.frontZ (i := 2) rfl rfl
          have hW := hW.frontM (i := 2) rfl rfl
          have hW := hW.frontM (i := 2) rfl rfl
          have hW := hW.frontM (i := 2) rfl rfl
          have hW := hW.sub (M' := [(b3, [.int .i64 x7.1.1, .int .i64 x7.1.2.1, .int .i64 x7.1.2.2.1, .int .i64 x7.1.2.2.2.1.1, .int .i64 x7.1.2.2.2.1.2.1, .int .i64 x7.1.2.2.2.1.2.2.1, .int .i64 x7.1.2.2.2.1.2.2.2, .int .i64 x7.1.2.2.2.2.1, .int .i64 x7.1.2.2.2.2.2]), (b1, [.int .i64 x7.2.2.1.1, v11, v12, v13]), (b2, [.int .i64 x5.1.1, .int .i64 x5.1.2.1, .int .i64 x5.1.2.2.1, .int .i64 x5.1.2.2.2.1.1, .int .i64 x5.1.2.2.2.1.2.1, .int .i64 x5.1.2.2.2.1.2.2.1, .int .i64 x5.1.2.2.2.1.2.2.2, .int .i64 x5.1.2.2.2.2.1, .int .i64 x5.1.2.2.2.2.2])]) (Z' := [row v11 59 R59 x7.2.2.1.2.1, row v12 75 R75 x7.2.2.1.2.2, row v13 51 R51 x7.2.2.2]) (List.Sublist.refl _) (List.Sublist.cons_cons _ (List.Sublist.cons_cons _ (List.Sublist.cons_cons _ (List.nil_sublist _))))
          exact ⟨_, H, hF.re ⟨rfl, trivial⟩, hW⟩
        ·
         have H := iteF (of_decide_eq_false hb) H
         rw [hb] at hF
         clear hb
         refine lsn hF rfl rfl rfl rfl rfl rfl rfl (fun a hF => ?_)
         refine lsn hF rfl rfl rfl rfl rfl rfl rfl (fun a hF => ?_)
         refine lsn hF rfl rfl rfl rfl rfl rfl rfl (fun a hF => ?_)
         refine ls hF hW rfl ((y_pick_f hF rfl rfl rfl).q) (fun a w hF hW => ?_)
         refine ls hF hW rfl ((y_move hF rfl).q) (fun a w hF hW => ?_)
         refine lsn hF rfl rfl rfl rfl rfl rfl rfl (fun a hF => ?_)
         refine lsn hF rfl rfl rfl rfl rfl rfl rfl (fun a hF => ?_)
         refine lsn hF rfl rfl rfl rfl rfl rfl rfl (fun a hF => ?_)
         refine ls hF hW rfl ((y_pick_f hF rfl rfl rfl).q) (fun a w hF hW => ?_)
         refine ls hF hW rfl ((y_move hF rfl).q) (fun a w hF hW => ?_)
         refine lsn hF rfl rfl rfl rfl rfl rfl rfl (fun a hF => ?_)
         refine lsn hF rfl rfl rfl rfl rfl rfl rfl (fun a hF => ?_)
         refine lsn hF rfl rfl rfl rfl rfl rfl rfl (fun a hF => ?_)
         refine ls hF hW rfl ((y_pick_f hF rfl rfl rfl).q) (fun a w hF hW => ?_)
         refine ls hF hW rfl ((y_assign hF rfl).q) (fun a w hF hW => ?_)
         refine ls_nil ?_
         refine c_then ?_
         have hW := hW.frontZ (i := 2) rfl rfl
         have hW := hW.frontZ (i := 2) rfl rfl
         have hW := hW.frontZ (i := 2) rfl rfl
         have hW := hW.frontM (i := 2) rfl rfl
         have hW := hW.frontM (i := 2) rfl rfl
         have hW := hW.frontM (i := 2) rfl rfl
         have hW := hW.sub (M' := [(b3, [.int .i64 x7.1.1, .int .i64 x7.1.2.1, .int .i64 x7.1.2.2.1, .int .i64 x7.1.2.2.2.1.1, .int .i64 x7.1.2.2.2.1.2.1, .int .i64 x7.1.2.2.2.1.2.2.1, .int .i64 x7.1.2.2.2.1.2.2.2, .int .i64 x7.1.2.2.2.2.1, .int .i64 x7.1.2.2.2.2.2]), (b1, [.int .i64 x7.2.2.1.1, v11, v12, v13]), (b2, [.int .i64 x5.1.1, .int .i64 x5.1.2.1, .int .i64 x5.1.2.2.1, .int .i64 x5.1.2.2.2.1.1, .int .i64 x5.1.2.2.2.1.2.1, .int .i64 x5.1.2.2.2.1.2.2.1, .int .i64 x5.1.2.2.2.1.2.2.2, .int .i64 x5.1.2.2.2.2.1, .int .i64 x5.1.2.2.2.2.2])]) (Z' := [row v11 59 R59 x7.2.2.1.2.1, row v12 75 R75 x7.2.2.1.2.2, row v13 51 R51 x7.2.2.2]) (List.Sublist.refl _) (List.Sublist.cons_cons _ (List.Sublist.cons_cons _ (List.Sublist.cons_cons _ (List.nil_sublist _))))
         exact ⟨_, H, hF.re ⟨rfl, trivial⟩, hW⟩
       ·
        have H := iteF (of_decide_eq_false hb) H
        rw [hb] at hF
        clear hb
        refine lsn hF rfl rfl rfl rfl rfl rfl rfl (fun a hF => ?_)
        refine lsn hF rfl rfl rfl rfl rfl rfl rfl (fun a hF => ?_)
        refine lsn hF rfl rfl rfl rfl rfl rfl rfl (fun a hF => ?_)
        refine ls hF hW rfl ((y_pick_f hF rfl rfl rfl).q) (fun a w hF hW => ?_)
        refine ls hF hW rfl ((y_move hF rfl).q) (fun a w hF hW => ?_)
        refine lsn hF rfl rfl rfl rfl rfl rfl rfl (fun a hF => ?_)
        refine lsn hF rfl rfl rfl rfl rfl rfl rfl (fun a hF => ?_)
        refine lsn hF rfl rfl rfl rfl rfl rfl rfl (fun a hF => ?_)
        refine ls hF hW rfl ((y_pick_f hF rfl rfl rfl).q) (fun a w hF hW => ?_)
        refine ls hF hW rfl ((y_move hF rfl).q) (fun a w hF hW => ?_)
        refine lsn hF rfl rfl rfl rfl rfl rfl rfl (fun a hF => ?_)
        refine lsn hF rfl rfl rfl rfl rfl rfl rfl (fun a hF => ?_)
        refine lsn hF rfl rfl rfl rfl rfl rfl rfl (fun a hF => ?_)
        refine ls hF hW rfl ((y_pick_f hF rfl rfl rfl).q) (fun a w hF hW => ?_)
        refine ls hF hW rfl ((y_move hF rfl).q) (fun a w hF hW => ?_)
        refine lsn hF rfl rfl rfl rfl rfl rfl rfl (fun a hF => ?_)
        refine lsn hF rfl rfl rfl rfl rfl rfl rfl (fun a hF => ?_)
        refine lsn hF rfl rfl rfl rfl rfl rfl rfl (fun a hF => ?_)
        refine ls hF hW rfl ((y_pick_f hF rfl rfl rfl).q) (fun a w hF hW => ?_)
        refine ls hF hW rfl ((y_assign hF rfl).q) (fun a w hF hW => ?_)
        refine ls_nil ?_
        refine c_then ?_
        have hW := hW.frontZ (i := 2) rfl rfl
        have hW := hW.frontZ (i := 2) rfl rfl
        have hW := hW.frontZ (i := 2) rfl rfl
        have hW := hW.frontM (i := 2) rfl rfl
        have hW := hW.frontM (i := 2) rfl rfl
        have hW := hW.frontM (i := 2) rfl rfl
        have hW := hW.sub (M' := [(b3, [.int .i64 x7.1.1, .int .i64 x7.1.2.1, .int .i64 x7.1.2.2.1, .int .i64 x7.1.2.2.2.1.1, .int .i64 x7.1.2.2.2.1.2.1, .int .i64 x7.1.2.2.2.1.2.2.1, .int .i64 x7.1.2.2.2.1.2.2.2, .int .i64 x7.1.2.2.2.2.1, .int .i64 x7.1.2.2.2.2.2]), (b1, [.int .i64 x7.2.2.1.1, v11, v12, v13]), (b2, [.int .i64 x5.1.1, .int .i64 x5.1.2.1, .int .i64 x5.1.2.2.1, .int .i64 x5.1.2.2.2.1.1, .int .i64 x5.1.2.2.2.1.2.1, .int .i64 x5.1.2.2.2.1.2.2.1, .int .i64 x5.1.2.2.2.1.2.2.2, .int .i64 x5.1.2.2.2.2.1, .int .i64 x5.1.2.2.2.2.2])]) (Z' := [row v11 59 R59 x7.2.2.1.2.1, row v12 75 R75 x7.2.2.1.2.2, row v13 51 R51 x7.2.2.2]) (List.Sublist.refl _) (List.Sublist.cons_cons _ (List.Sublist.cons_cons _ (List.Sublist.cons_cons _ (List.nil_sublist _))))
        exact ⟨_, H, hF.re ⟨rfl, trivial⟩, hW⟩
      ·
       have H := iteF (of_decide_eq_false hb) H
       rw [hb] at hF
       clear hb
       refine lsn hF rfl rfl rfl rfl rfl rfl rfl (fun a hF => ?_)
       refine lsn hF rfl rfl rfl rfl rfl rfl rfl (fun a hF => ?_)
       refine lsn hF rfl rfl rfl rfl rfl rfl rfl (fun a hF => ?_)
       refine ls hF hW rfl ((y_pick_f hF rfl rfl rfl).q) (fun a w hF hW => ?_)
       refine ls hF hW rfl ((y_move hF rfl).q) (fun a w hF hW => ?_)
       refine lsn hF rfl rfl rfl rfl rfl rfl rfl (fun a hF => ?_)
       refine lsn hF rfl rfl rfl rfl rfl rfl rfl (fun a hF => ?_)
       refine lsn hF rfl rfl rfl rfl rfl rfl rfl (fun a hF => ?_)
       refine ls hF hW rfl ((y_pick_f hF rfl rfl rfl).q) (fun a w hF hW => ?_)
       refine ls hF hW rfl ((y_move hF rfl).q) (fun a w hF hW => ?_)
       refine lsn hF rfl rfl rfl rfl rfl rfl rfl (fun a hF => ?_)
       refine lsn hF rfl rfl rfl rfl rfl rfl rfl (fun a hF => ?_)
       refine lsn hF rfl rfl rfl rfl rfl rfl rfl (fun a hF => ?_)
       refine ls hF hW rfl ((y_pick_f hF rfl rfl rfl).q) (fun a w hF hW => ?_)
       refine ls hF hW rfl ((y_move hF rfl).q) (fun a w hF hW => ?_)
       refine lsn hF rfl rfl rfl rfl rfl rfl rfl (fun a hF => ?_)
       refine lsn hF rfl rfl rfl rfl rfl rfl rfl (fun a hF => ?_)
       refine lsn hF rfl rfl rfl rfl rfl rfl rfl (fun a hF => ?_)
       refine ls hF hW rfl ((y_pick_f hF rfl rfl rfl).q) (fun a w hF hW => ?_)
       refine ls hF hW rfl ((y_move hF rfl).q) (fun a w hF hW => ?_)
       refine lsn hF rfl rfl rfl rfl rfl rfl rfl (fun a hF => ?_)
       refine lsn hF rfl rfl rfl rfl rfl rfl rfl (fun a hF => ?_)
       refine lsn hF rfl rfl rfl rfl rfl rfl rfl (fun a hF => ?_)
       refine ls hF hW rfl ((y_pick_f hF rfl rfl rfl).q) (fun a w hF hW => ?_)
       refine ls hF hW rfl ((y_assign hF rfl).q) (fun a w hF hW => ?_)
       refine ls_nil ?_
       refine c_then ?_
       have hW := hW.frontZ (i := 2) rfl rfl
       have hW := hW.frontZ (i := 2) rfl rfl
       have hW := hW.frontZ (i := 2) rfl rfl
       have hW := hW.frontM (i := 2) rfl rfl
       have hW := hW.frontM (i := 2) rfl rfl
       have hW := hW.frontM (i := 2) rfl rfl
       have hW := hW.sub (M' := [(b3, [.int .i64 x7.1.1, .int .i64 x7.1.2.1, .int .i64 x7.1.2.2.1, .int .i64 x7.1.2.2.2.1.1, .int .i64 x7.1.2.2.2.1.2.1, .int .i64 x7.1.2.2.2.1.2.2.1, .int .i64 x7.1.2.2.2.1.2.2.2, .int .i64 x7.1.2.2.2.2.1, .int .i64 x7.1.2.2.2.2.2]), (b1, [.int .i64 x7.2.2.1.1, v11, v12, v13]), (b2, [.int .i64 x5.1.1, .int .i64 x5.1.2.1, .int .i64 x5.1.2.2.1, .int .i64 x5.1.2.2.2.1.1, .int .i64 x5.1.2.2.2.1.2.1, .int .i64 x5.1.2.2.2.1.2.2.1, .int .i64 x5.1.2.2.2.1.2.2.2, .int .i64 x5.1.2.2.2.2.1, .int .i64 x5.1.2.2.2.2.2])]) (Z' := [row v11 59 R59 x7.2.2.1.2.1, row v12 75 R75 x7.2.2.1.2.2, row v13 51 R51 x7.2.2.2]) (List.Sublist.refl _) (List.Sublist.cons_cons _ (List.Sublist.cons_cons _ (List.Sublist.cons_cons _ (List.nil_sublist _))))
       exact ⟨_, H, hF.re ⟨rfl, trivial⟩, hW⟩
     ·
      have H := iteF (of_decide_eq_false hb) H
      rw [hb] at hF
      clear hb
      refine lsn hF rfl rfl rfl rfl rfl rfl rfl (fun a hF => ?_)
      refine lsn hF rfl rfl rfl rfl rfl rfl rfl (fun a hF => ?_)
      refine ls hF hW rfl ((y_pick_f hF rfl rfl rfl).q) (fun a w hF hW => ?_)
      refine ls hF hW rfl ((y_move hF rfl).q) (fun a w hF hW => ?_)
      refine lsn hF rfl rfl rfl rfl rfl rfl rfl (fun a hF => ?_)
      refine lsn hF rfl rfl rfl rfl rfl rfl rfl (fun a hF => ?_)
      refine lsn hF rfl rfl rfl rfl rfl rfl rfl (fun a hF => ?_)
      refine ls hF hW rfl ((y_pick_f hF rfl rfl rfl).q) (fun a w hF hW => ?_)
      refine ls hF hW rfl ((y_move hF rfl).q) (fun a w hF hW => ?_)
      refine lsn hF rfl rfl rfl rfl rfl rfl rfl (fun a hF => ?_)
      refine lsn hF rfl rfl rfl rfl rfl rfl rfl (fun a hF => ?_)
      refine lsn hF rfl rfl rfl rfl rfl rfl rfl (fun a hF => ?_)
      refine ls hF hW rfl ((y_pick_f hF rfl rfl rfl).q) (fun a w hF hW => ?_)
      refine ls hF hW rfl ((y_move hF rfl).q) (fun a w hF hW => ?_)
      refine lsn hF rfl rfl rfl rfl rfl rfl rfl (fun a hF => ?_)
      refine lsn hF rfl rfl rfl rfl rfl rfl rfl (fun a hF => ?_)
      refine lsn hF rfl rfl rfl rfl rfl rfl rfl (fun a hF => ?_)
      refine ls hF hW rfl ((y_pick_f hF rfl rfl rfl).q) (fun a w hF hW => ?_)
      refine ls hF hW rfl ((y_move hF rfl).q) (fun a w hF hW => ?_)
      refine lsn hF rfl rfl rfl rfl rfl rfl rfl (fun a hF => ?_)
      refine lsn hF rfl rfl rfl rfl rfl rfl rfl (fun a hF => ?_)
      refine lsn hF rfl rfl rfl rfl rfl rfl rfl (fun a hF => ?_)
      refine ls hF hW rfl ((y_pick_f hF rfl rfl rfl).q) (fun a w hF hW => ?_)
      refine ls hF hW rfl ((y_move hF rfl).q) (fun a w hF hW => ?_)
      refine lsn hF rfl rfl rfl rfl rfl rfl rfl (fun a hF => ?_)
      refine lsn hF rfl rfl rfl rfl rfl rfl rfl (fun a hF => ?_)
      refine lsn hF rfl rfl rfl rfl rfl rfl rfl (fun a hF => ?_)
      refine ls hF hW rfl ((y_pick_f hF rfl rfl rfl).q) (fun a w hF hW => ?_)
      refine ls hF hW rfl ((y_assign hF rfl).q) (fun a w hF hW => ?_)
      refine ls_nil ?_
      refine c_then ?_
      have hW := hW.frontZ (i := 2) rfl rfl
      have hW := hW.frontZ (i := 2) rfl rfl
      have hW := hW.frontZ (i := 2) rfl rfl
      have hW := hW.frontM (i := 2) rfl rfl
      have hW := hW.frontM (i := 2) rfl rfl
      have hW := hW.frontM (i := 2) rfl rfl
      have hW := hW.sub (M' := [(b3, [.int .i64 x7.1.1, .int .i64 x7.1.2.1, .int .i64 x7.1.2.2.1, .int .i64 x7.1.2.2.2.1.1, .int .i64 x7.1.2.2.2.1.2.1, .int .i64 x7.1.2.2.2.1.2.2.1, .int .i64 x7.1.2.2.2.1.2.2.2, .int .i64 x7.1.2.2.2.2.1, .int .i64 x7.1.2.2.2.2.2]), (b1, [.int .i64 x7.2.2.1.1, v11, v12, v13]), (b2, [.int .i64 x5.1.1, .int .i64 x5.1.2.1, .int .i64 x5.1.2.2.1, .int .i64 x5.1.2.2.2.1.1, .int .i64 x5.1.2.2.2.1.2.1, .int .i64 x5.1.2.2.2.1.2.2.1, .int .i64 x5.1.2.2.2.1.2.2.2, .int .i64 x5.1.2.2.2.2.1, .int .i64 x5.1.2.2.2.2.2])]) (Z' := [row v11 59 R59 x7.2.2.1.2.1, row v12 75 R75 x7.2.2.1.2.2, row v13 51 R51 x7.2.2.2]) (List.Sublist.refl _) (List.Sublist.cons_cons _ (List.Sublist.cons_cons _ (List.Sublist.cons_cons _ (List.nil_sublist _))))
      exact ⟨_, H, hF.re ⟨rfl, trivial⟩, hW⟩
    ·
     have H := iteF (of_decide_eq_false hb) H
     rw [hb] at hF
     clear hb
     refine lsn hF rfl rfl rfl rfl rfl rfl rfl (fun a hF => ?_)
     refine lsn hF rfl rfl rfl rfl rfl rfl rfl (fun a hF => ?_)
     refine ls hF hW rfl ((y_pick_f hF rfl rfl rfl).q) (fun a w hF hW => ?_)
     refine ls hF hW rfl ((y_move hF rfl).q) (fun a w hF hW => ?_)
     refine lsn hF rfl rfl rfl rfl rfl rfl rfl (fun a hF => ?_)
     refine lsn hF rfl rfl rfl rfl rfl rfl rfl (fun a hF => ?_)
     refine ls hF hW rfl ((y_pick_f hF rfl rfl rfl).q) (fun a w hF hW => ?_)
     refine ls hF hW rfl ((y_move hF rfl).q) (fun a w hF hW => ?_)
     refine lsn hF rfl rfl rfl rfl rfl rfl rfl (fun a hF => ?_)
     refine lsn hF rfl rfl rfl rfl rfl rfl rfl (fun a hF => ?_)
     refine lsn hF rfl rfl rfl rfl rfl rfl rfl (fun a hF => ?_)
     refine ls hF hW rfl ((y_pick_f hF rfl rfl rfl).q) (fun a w hF hW => ?_)
     refine ls hF hW rfl ((y_move hF rfl).q) (fun a w hF hW => ?_)
     refine lsn hF rfl rfl rfl rfl rfl rfl rfl (fun a hF => ?_)
     refine lsn hF rfl rfl rfl rfl rfl rfl rfl (fun a hF => ?_)
     refine lsn hF rfl rfl rfl rfl rfl rfl rfl (fun a hF => ?_)
     refine ls hF hW rfl ((y_pick_f hF rfl rfl rfl).q) (fun a w hF hW => ?_)
     refine ls hF hW rfl ((y_move hF rfl).q) (fun a w hF hW => ?_)
     refine lsn hF rfl rfl rfl rfl rfl rfl rfl (fun a hF => ?_)
     refine lsn hF rfl rfl rfl rfl rfl rfl rfl (fun a hF => ?_)
     refine lsn hF rfl rfl rfl rfl rfl rfl rfl (fun a hF => ?_)
     refine ls hF hW rfl ((y_pick_f hF rfl rfl rfl).q) (fun a w hF hW => ?_)
     refine ls hF hW rfl ((y_move hF rfl).q) (fun a w hF hW => ?_)
     refine lsn hF rfl rfl rfl rfl rfl rfl rfl (fun a hF => ?_)
     refine lsn hF rfl rfl rfl rfl rfl rfl rfl (fun a hF => ?_)
     refine lsn hF rfl rfl rfl rfl rfl rfl rfl (fun a hF => ?_)
     refine ls hF hW rfl ((y_pick_f hF rfl rfl rfl).q) (fun a w hF hW => ?_)
     refine ls hF hW rfl ((y_move hF rfl).q) (fun a w hF hW => ?_)
     refine lsn hF rfl rfl rfl rfl rfl rfl rfl (fun a hF => ?_)
     refine lsn hF rfl rfl rfl rfl rfl rfl rfl (fun a hF => ?_)
     refine lsn hF rfl rfl rfl rfl rfl rfl rfl (fun a hF => ?_)
     refine ls hF hW rfl ((y_pick_f hF rfl rfl rfl).q) (fun a w hF hW => ?_)
     refine ls hF hW rfl ((y_assign hF rfl).q) (fun a w hF hW => ?_)
     refine ls_nil ?_
     refine c_then ?_
     have hW := hW.frontZ (i := 2) rfl rfl
     have hW := hW.frontZ (i := 2) rfl rfl
     have hW := hW.frontZ (i := 2) rfl rfl
     have hW := hW.frontM (i := 2) rfl rfl
     have hW := hW.frontM (i := 2) rfl rfl
     have hW := hW.frontM (i := 2) rfl rfl
     have hW := hW.sub (M' := [(b3, [.int .i64 x7.1.1, .int .i64 x7.1.2.1, .int .i64 x7.1.2.2.1, .int .i64 x7.1.2.2.2.1.1, .int .i64 x7.1.2.2.2.1.2.1, .int .i64 x7.1.2.2.2.1.2.2.1, .int .i64 x7.1.2.2.2.1.2.2.2, .int .i64 x7.1.2.2.2.2.1, .int .i64 x7.1.2.2.2.2.2]), (b1, [.int .i64 x7.2.2.1.1, v11, v12, v13]), (b2, [.int .i64 x5.1.1, .int .i64 x5.1.2.1, .int .i64 x5.1.2.2.1, .int .i64 x5.1.2.2.2.1.1, .int .i64 x5.1.2.2.2.1.2.1, .int .i64 x5.1.2.2.2.1.2.2.1, .int .i64 x5.1.2.2.2.1.2.2.2, .int .i64 x5.1.2.2.2.2.1, .int .i64 x5.1.2.2.2.2.2])]) (Z' := [row v11 59 R59 x7.2.2.1.2.1, row v12 75 R75 x7.2.2.1.2.2, row v13 51 R51 x7.2.2.2]) (List.Sublist.refl _) (List.Sublist.cons_cons _ (List.Sublist.cons_cons _ (List.Sublist.cons_cons _ (List.nil_sublist _))))
     exact ⟨_, H, hF.re ⟨rfl, trivial⟩, hW⟩
   ·
    have H := iteF (of_decide_eq_false hb) H
    rw [hb] at hF
    clear hb
    refine lsn hF rfl rfl rfl rfl rfl rfl rfl (fun a hF => ?_)
    refine lsn hF rfl rfl rfl rfl rfl rfl rfl (fun a hF => ?_)
    refine ls hF hW rfl ((y_pick_f hF rfl rfl rfl).q) (fun a w hF hW => ?_)
    refine ls hF hW rfl ((y_move hF rfl).q) (fun a w hF hW => ?_)
    refine lsn hF rfl rfl rfl rfl rfl rfl rfl (fun a hF => ?_)
    refine lsn hF rfl rfl rfl rfl rfl rfl rfl (fun a hF => ?_)
    refine ls hF hW rfl ((y_pick_f hF rfl rfl rfl).q) (fun a w hF hW => ?_)
    refine ls hF hW rfl ((y_move hF rfl).q) (fun a w hF hW => ?_)
    refine lsn hF rfl rfl rfl rfl rfl rfl rfl (fun a hF => ?_)
    refine lsn hF rfl rfl rfl rfl rfl rfl rfl (fun a hF => ?_)
    refine ls hF hW rfl ((y_pick_f hF rfl rfl rfl).q) (fun a w hF hW => ?_)
    refine ls hF hW rfl ((y_move hF rfl).q) (fun a w hF hW => ?_)
    refine lsn hF rfl rfl rfl rfl rfl rfl rfl (fun a hF => ?_)
    refine lsn hF rfl rfl rfl rfl rfl rfl rfl (fun a hF => ?_)
    refine lsn hF rfl rfl rfl rfl rfl rfl rfl (fun a hF => ?_)
    refine ls hF hW rfl ((y_pick_f hF rfl rfl rfl).q) (fun a w hF hW => ?_)
    refine ls hF hW rfl ((y_move hF rfl).q) (fun a w hF hW => ?_)
    refine lsn hF rfl rfl rfl rfl rfl rfl rfl (fun a hF => ?_)
    refine lsn hF rfl rfl rfl rfl rfl rfl rfl (fun a hF => ?_)
    refine lsn hF rfl rfl rfl rfl rfl rfl rfl (fun a hF => ?_)
    refine ls hF hW rfl ((y_pick_f hF rfl rfl rfl).q) (fun a w hF hW => ?_)
    refine ls hF hW rfl ((y_move hF rfl).q) (fun a w hF hW => ?_)
    refine lsn hF rfl rfl rfl rfl rfl rfl rfl (fun a hF => ?_)
    refine lsn hF rfl rfl rfl rfl rfl rfl rfl (fun a hF => ?_)
    refine lsn hF rfl rfl rfl rfl rfl rfl rfl (fun a hF => ?_)
    refine ls hF hW rfl ((y_pick_f hF rfl rfl rfl).q) (fun a w hF hW => ?_)
    refine ls hF hW rfl ((y_move hF rfl).q) (fun a w hF hW => ?_)
    refine lsn hF rfl rfl rfl rfl rfl rfl rfl (fun a hF => ?_)
    refine lsn hF rfl rfl rfl rfl rfl rfl rfl (fun a hF => ?_)
    refine lsn hF rfl rfl rfl rfl rfl rfl rfl (fun a hF => ?_)
    refine ls hF hW rfl ((y_pick_f hF rfl rfl rfl).q) (fun a w hF hW => ?_)
    refine ls hF hW rfl ((y_move hF rfl).q) (fun a w hF hW => ?_)
    refine lsn hF rfl rfl rfl rfl rfl rfl rfl (fun a hF => ?_)
    refine lsn hF rfl rfl rfl rfl rfl rfl rfl (fun a hF => ?_)
    refine lsn hF rfl rfl rfl rfl rfl rfl rfl (fun a hF => ?_)
    refine ls hF hW rfl ((y_pick_f hF rfl rfl rfl).q) (fun a w hF hW => ?_)
    refine ls hF hW rfl ((y_assign hF rfl).q) (fun a w hF hW => ?_)
    refine ls_nil ?_
    refine c_then ?_
    have hW := hW.frontZ (i := 2) rfl rfl
    have hW := hW.frontZ (i := 2) rfl rfl
    have hW := hW.frontZ (i := 2) rfl rfl
    have hW := hW.frontM (i := 2) rfl rfl
    have hW := hW.frontM (i := 2) rfl rfl
    have hW := hW.frontM (i := 2) rfl rfl
    have hW := hW.sub (M' := [(b3, [.int .i64 x7.1.1, .int .i64 x7.1.2.1, .int .i64 x7.1.2.2.1, .int .i64 x7.1.2.2.2.1.1, .int .i64 x7.1.2.2.2.1.2.1, .int .i64 x7.1.2.2.2.1.2.2.1, .int .i64 x7.1.2.2.2.1.2.2.2, .int .i64 x7.1.2.2.2.2.1, .int .i64 x7.1.2.2.2.2.2]), (b1, [.int .i64 x7.2.2.1.1, v11, v12, v13]), (b2, [.int .i64 x5.1.1, .int .i64 x5.1.2.1, .int .i64 x5.1.2.2.1, .int .i64 x5.1.2.2.2.1.1, .int .i64 x5.1.2.2.2.1.2.1, .int .i64 x5.1.2.2.2.1.2.2.1, .int .i64 x5.1.2.2.2.1.2.2.2, .int .i64 x5.1.2.2.2.2.1, .int .i64 x5.1.2.2.2.2.2])]) (Z' := [row v11 59 R59 x7.2.2.1.2.1, row v12 75 R75 x7.2.2.1.2.2, row v13 51 R51 x7.2.2.2]) (List.Sublist.refl _) (List.Sublist.cons_cons _ (List.Sublist.cons_cons _ (List.Sublist.cons_cons _ (List.nil_sublist _))))
    exact ⟨_, H, hF.re ⟨rfl, trivial⟩, hW⟩
  rintro a w ⟨x8, hj, hF, hW⟩
  have hj := Option.some.inj hj
  subst hj
  have H := K1
  clear G1 K1
  refine wp_ret ?_
  have H := Option.some.inj H
  subst H
  refine post1 (.inl rfl) hF hW rfl (rv_tmp hF rfl) ?_
  exact ⟨rfl, hW.done⟩
 ·
  have H := altR H
  have hW := hW.freeze
  refine l_callG (Ml := []) (Zl := []) (M := []) (Z := [frz v1 R59 ([(0, 0, 1, 3, 2, 5)] : List (Int × Int × Int × Int × Int × Int))]) (β := Unit) (rv := fun x => .tuple #[.pointer none, .int .i64 2]) (MM := fun x => []) (ZZ := fun x => []) hF hW H7 rfl rfl (fun hL => wire_New_c _ w (v1) (Value.slice none 0 0) (2, ([(0, 0, 1, 3, 2, 5)] : List (Int × Int × Int × Int × Int × Int)), ([] : List (Int × Int))) _ h1 (hW.item (i := 0) rfl) Sl.nil) (fun x a w hF hW => ?_)
  have hW : Stw ⟨Y, [], w0⟩ [] [frz v1 R59 ([(0, 0, 1, 3, 2, 5)] : List (Int × Int × Int × Int × Int × Int))] w := hW
  refine ls hF hW rfl ((y_move hF rfl).q) (fun a w hF hW => ?_)
  refine ls hF hW rfl ((y_extract (v := Value.pointer none) hF rfl rfl).q) (fun a w hF hW => ?_)
  refine ls hF hW rfl ((y_extract (v := Value.int .i64 2) hF rfl rfl).q) (fun a w hF hW => ?_)
  refine ls hF hW rfl ((y_assign hF rfl).q) (fun a w hF hW => ?_)
  refine ls hF hW rfl ((y_assign hF rfl).q) (fun a w hF hW => ?_)
  refine ls_nil ?_
  refine c_then ?_
  refine c_seq ?_
  refine reg_list ?_
  refine ls hF hW rfl ((y_move hF rfl).q) (fun a w hF hW => ?_)
  refine ls hF hW rfl ((y_buildA (v := Value.agg #[.int .i64 1, .int .i64 0, .int .i64 0, .int .i64 0]) Ar36 ZA36 hF rfl rfl rfl).q) (fun a w hF hW => ?_)
  refine ls hF hW rfl (y_call (v := Value.int .i64 1) hF H18 rfl (fun w hW => wire_Wires_Put_c any w 10 0 0 7 (1, 0, 0, 0) _ rfl)) (fun a w hF hW => ?_)
  refine ls hF hW rfl ((y_assign hF rfl).q) (fun a w hF hW => ?_)
  refine ls_nil ?_
  refine c_then ?_
  refine c_seq ?_
  refine reg_list ?_
  refine ls hF hW rfl ((y_move hF rfl).q) (fun a w hF hW => ?_)
  refine ls hF hW rfl (y_call (v := Value.tuple #[.agg #[.int .i64 0, .int .i64 0, .int .i64 0, .int .i64 0, .int .i64 0, .int .i64 0, .int .i64 0, .int .i64 0, .int .i64 0], .int .i64 1]) hF H16 rfl (fun w hW => wire_Wires_Take_c any w 11 0 _ rfl)) (fun a w hF hW => ?_)
  refine ls hF hW rfl ((y_move hF rfl).q) (fun a w hF hW => ?_)
  refine ls hF hW rfl ((y_extract (v := Value.agg #[.int .i64 0, .int .i64 0, .int .i64 0, .int .i64 0, .int .i64 0, .int .i64 0, .int .i64 0, .int .i64 0, .int .i64 0]) hF rfl rfl).q) (fun a w hF hW => ?_)
  refine ls hF hW rfl ((y_extract (v := Value.int .i64 1) hF rfl rfl).q) (fun a w hF hW => ?_)
  refine l_alloc (cs := [.int .i64 0, .int .i64 0, .int .i64 0, .int .i64 0, .int .i64 0, .int .i64 0, .int .i64 0, .int .i64 0, .int .i64 0]) hF hW rfl Z51 rfl (fun b4 a w hF hW => ?_)
  refine l_store (vs := [.int .i64 0, .int .i64 0, .int .i64 0, .int .i64 0, .int .i64 0, .int .i64 0, .int .i64 0, .int .i64 0, .int .i64 0]) (M' := [(b4, [.int .i64 0, .int .i64 0, .int .i64 0, .int .i64 0, .int .i64 0, .int .i64 0, .int .i64 0, .int .i64 0, .int .i64 0])]) 0 hF hW rfl rfl rfl T51 rfl rfl rfl rfl rfl (fun w hW => ?_)
  refine ls hF hW rfl ((y_assign hF rfl).q) (fun a w hF hW => ?_)
  refine ls_nil ?_
  refine c_then ?_
  refine c_seq ?_
  refine reg_list ?_
  refine ls hF hW rfl ((y_move hF rfl).q) (fun a w hF hW => ?_)
  refine ls hF hW rfl (y_call (v := Value.int .i64 (-1)) hF H12 rfl (fun w hW => wire_Wires_Next_c any w _ rfl)) (fun a w hF hW => ?_)
  refine ls hF hW rfl ((y_assign hF rfl).q) (fun a w hF hW => ?_)
  refine ls_nil ?_
  refine c_then ?_
  refine c_seq ?_
  refine reg_list ?_
  refine ls hF hW rfl ((y_move hF rfl).q) (fun a w hF hW => ?_)
  refine ls hF hW rfl (y_call (v := Value.tuple #[.agg #[.int .i64 0, .int .i64 0, .int .i64 0, .int .i64 0, .int .i64 0, .int .i64 0, .int .i64 0, .int .i64 0, .int .i64 0], .int .i64 1]) hF H16 rfl (fun w hW => wire_Wires_Take_c any w 12 0 _ rfl)) (fun a w hF hW => ?_)
  refine ls hF hW rfl ((y_move hF rfl).q) (fun a w hF hW => ?_)
  refine ls hF hW rfl ((y_extract (v := Value.agg #[.int .i64 0, .int .i64 0, .int .i64 0, .int .i64 0, .int .i64 0, .int .i64 0, .int .i64 0, .int .i64 0, .int .i64 0]) hF rfl rfl).q) (fun a w hF hW => ?_)
  refine ls hF hW rfl ((y_extract (v := Value.int .i64 1) hF rfl rfl).q) (fun a w hF hW => ?_)
  refine l_alloc (cs := [.int .i64 0, .int .i64 0, .int .i64 0, .int .i64 0, .int .i64 0, .int .i64 0, .int .i64 0, .int .i64 0, .int .i64 0]) hF hW rfl Z51 rfl (fun b5 a w hF hW => ?_)
  refine l_store (vs := [.int .i64 0, .int .i64 0, .int .i64 0, .int .i64 0, .int .i64 0, .int .i64 0, .int .i64 0, .int .i64 0, .int .i64 0]) (M' := [(b5, [.int .i64 0, .int .i64 0, .int .i64 0, .int .i64 0, .int .i64 0, .int .i64 0, .int .i64 0, .int .i64 0, .int .i64 0]), (b4, [.int .i64 0, .int .i64 0, .int .i64 0, .int .i64 0, .int .i64 0, .int .i64 0, .int .i64 0, .int .i64 0, .int .i64 0])]) 0 hF hW rfl rfl rfl T51 rfl rfl rfl rfl rfl (fun w hW => ?_)
  refine ls hF hW rfl ((y_assign hF rfl).q) (fun a w hF hW => ?_)
  refine ls_nil ?_
  refine c_then ?_
  refine c_seq ?_
  refine reg_list ?_
  refine ls hF hW rfl ((y_move hF rfl).q) (fun a w hF hW => ?_)
  refine ls hF hW rfl ((y_eql hF rfl rfl).q) (fun a w hF hW => ?_)
  rw [show decide ((2 : Int) = 0) = false from by decide] at hF
  refine ls hF hW rfl ((y_move hF rfl).q) (fun a w hF hW => ?_)
  refine lsn hF rfl rfl rfl rfl rfl rfl rfl (fun a hF => ?_)
  refine lsn hF rfl rfl rfl rfl rfl rfl rfl (fun a hF => ?_)
  refine ls hF hW rfl ((y_pick_f hF rfl rfl rfl).q) (fun a w hF hW => ?_)
  refine ls hF hW rfl ((y_move hF rfl).q) (fun a w hF hW => ?_)
  refine lsn hF rfl rfl rfl rfl rfl rfl rfl (fun a hF => ?_)
  refine lsn hF rfl rfl rfl rfl rfl rfl rfl (fun a hF => ?_)
  refine ls hF hW rfl ((y_pick_f hF rfl rfl rfl).q) (fun a w hF hW => ?_)
  refine ls hF hW rfl ((y_move hF rfl).q) (fun a w hF hW => ?_)
  refine lsn hF rfl rfl rfl rfl rfl rfl rfl (fun a hF => ?_)
  refine lsn hF rfl rfl rfl rfl rfl rfl rfl (fun a hF => ?_)
  refine ls hF hW rfl ((y_pick_f hF rfl rfl rfl).q) (fun a w hF hW => ?_)
  refine ls hF hW rfl ((y_move hF rfl).q) (fun a w hF hW => ?_)
  refine lsn hF rfl rfl rfl rfl rfl rfl rfl (fun a hF => ?_)
  refine lsn hF rfl rfl rfl rfl rfl rfl rfl (fun a hF => ?_)
  refine ls hF hW rfl ((y_pick_f hF rfl rfl rfl).q) (fun a w hF hW => ?_)
  refine ls hF hW rfl ((y_move hF rfl).q) (fun a w hF hW => ?_)
  refine lsn hF rfl rfl rfl rfl rfl rfl rfl (fun a hF => ?_)
  refine lsn hF rfl rfl rfl rfl rfl rfl rfl (fun a hF => ?_)
  refine lsn hF rfl rfl rfl rfl rfl rfl rfl (fun a hF => ?_)
  refine ls hF hW rfl ((y_pick_f hF rfl rfl rfl).q) (fun a w hF hW => ?_)
  refine ls hF hW rfl ((y_move hF rfl).q) (fun a w hF hW => ?_)
  refine lsn hF rfl rfl rfl rfl rfl rfl rfl (fun a hF => ?_)
  refine lsn hF rfl rfl rfl rfl rfl rfl rfl (fun a hF => ?_)
  refine lsn hF rfl rfl rfl rfl rfl rfl rfl (fun a hF => ?_)
  refine ls hF hW rfl ((y_pick_f hF rfl rfl rfl).q) (fun a w hF hW => ?_)
  refine ls hF hW rfl ((y_move hF rfl).q) (fun a w hF hW => ?_)
  refine lsn hF rfl rfl rfl rfl rfl rfl rfl (fun a hF => ?_)
  refine lsn hF rfl rfl rfl rfl rfl rfl rfl (fun a hF => ?_)
  refine lsn hF rfl rfl rfl rfl rfl rfl rfl (fun a hF => ?_)
  refine ls hF hW rfl ((y_pick_f hF rfl rfl rfl).q) (fun a w hF hW => ?_)
  refine ls hF hW rfl ((y_move hF rfl).q) (fun a w hF hW => ?_)
  refine lsn hF rfl rfl rfl rfl rfl rfl rfl (fun a hF => ?_)
  refine lsn hF rfl rfl rfl rfl rfl rfl rfl (fun a hF => ?_)
  refine lsn hF rfl rfl rfl rfl rfl rfl rfl (fun a hF => ?_)
  refine ls hF hW rfl ((y_pick_f hF rfl rfl rfl).q) (fun a w hF hW => ?_)
  refine ls hF hW rfl ((y_move hF rfl).q) (fun a w hF hW => ?_)
  refine lsn hF rfl rfl rfl rfl rfl rfl rfl (fun a hF => ?_)
  refine lsn hF rfl rfl rfl rfl rfl rfl rfl (fun a hF => ?_)
  refine lsn hF rfl rfl rfl rfl rfl rfl rfl (fun a hF => ?_)
  refine ls hF hW rfl ((y_pick_f hF rfl rfl rfl).q) (fun a w hF hW => ?_)
  refine ls hF hW rfl ((y_assign hF rfl).q) (fun a w hF hW => ?_)
  refine ls_nil ?_
  refine c_then ?_
  refine wp_ret ?_
  have H := Option.some.inj H
  subst H
  refine post1 (.inl rfl) hF hW rfl (rv_tmp hF rfl) ?_
  exact ⟨rfl, hW.done⟩

theorem H6 : Has Try.prog 6 := ⟨fun args w => run_callFunc_body Try.func6 rfl (by decide) args w⟩
noncomputable def L35_WireNone (p0 : Int) (p1 : Int) (p2 : Int × Int × Int × Int) : Option Bool := (if (w64 (0 + (([] : List (Int × Int × Int × (Int × Int × Int × Int) × Int × Int)).length : Int))) = 0 then (L35_awake).bind fun x2 => some x2 else some false).bind fun x1 => some x1
theorem L35_WireNone_c (Y : Nat → Prop) (w0 : World)  (p0 : Int) (p1 : Int) (p2 : Int × Int × Int × Int) (r : Bool) (H : L35_WireNone p0 p1 p2 = some r)  :
    Calls Try.prog 5 #[.int .i64 p0, .int .i64 p1, .agg #[.int .i64 p2.1, .int .i64 p2.2.1, .int .i64 p2.2.2.1, .int .i64 p2.2.2.2]] w0 fun e w' => e = .returned (.bool r) ∧ Below w0.heap.size w0 w' := by
 refine enter Try.func5 rfl Try.ntmps5 rfl (fun a hF => ?_)
 have hW := Stw.start Y w0
 unfold L35_WireNone at H
 refine c_seq ?_
 refine reg_list ?_
 refine l_box (cs := [.int .i64 p2.1, .int .i64 p2.2.1, .int .i64 p2.2.2.1, .int .i64 p2.2.2.2]) hF hW rfl rfl rfl (fun b1 a w hF hW => ?_)
 refine ls hF hW rfl ((y_assign hF rfl).q) (fun a w hF hW => ?_)
 refine ls_nil ?_
 refine c_then ?_
 refine c_seq ?_
 refine reg_list ?_
 refine ls hF hW rfl ((y_assign hF rfl).q) (fun a w hF hW => ?_)
 refine ls_nil ?_
 refine c_then ?_
 refine c_seq ?_
 refine reg_list ?_
 refine ls hF hW rfl ((y_move hF rfl).q) (fun a w hF hW => ?_)
 refine ls hF hW rfl ((y_move hF rfl).q) (fun a w hF hW => ?_)
 refine ls hF hW rfl ((y_move hF rfl).q) (fun a w hF hW => ?_)
 refine ls hF hW rfl (y_call (v := Value.tuple #[.agg #[.int .i64 0, .int .i64 0, .int .i64 0, .int .i64 0, .int .i64 0, .int .i64 0, .int .i64 0, .int .i64 0, .int .i64 0], .int .i64 1]) hF H16 rfl (fun w hW => wire_Wires_Take_c any w p0 p1 _ rfl)) (fun a w hF hW => ?_)
 refine ls hF hW rfl ((y_move hF rfl).q) (fun a w hF hW => ?_)
 refine ls hF hW rfl ((y_extract (v := Value.agg #[.int .i64 0, .int .i64 0, .int .i64 0, .int .i64 0, .int .i64 0, .int .i64 0, .int .i64 0, .int .i64 0, .int .i64 0]) hF rfl rfl).q) (fun a w hF hW => ?_)
 refine ls hF hW rfl ((y_extract (v := Value.int .i64 1) hF rfl rfl).q) (fun a w hF hW => ?_)
 refine l_alloc (cs := [.int .i64 0, .int .i64 0, .int .i64 0, .int .i64 0, .int .i64 0, .int .i64 0, .int .i64 0, .int .i64 0, .int .i64 0]) hF hW rfl Z51 rfl (fun b2 a w hF hW => ?_)
 refine l_store (vs := [.int .i64 0, .int .i64 0, .int .i64 0, .int .i64 0, .int .i64 0, .int .i64 0, .int .i64 0, .int .i64 0, .int .i64 0]) (M' := [(b2, [.int .i64 0, .int .i64 0, .int .i64 0, .int .i64 0, .int .i64 0, .int .i64 0, .int .i64 0, .int .i64 0, .int .i64 0]), (b1, [.int .i64 p2.1, .int .i64 p2.2.1, .int .i64 p2.2.2.1, .int .i64 p2.2.2.2])]) 0 hF hW rfl rfl rfl T51 rfl rfl rfl rfl rfl (fun w hW => ?_)
 refine ls hF hW rfl ((y_assign hF rfl).q) (fun a w hF hW => ?_)
 refine ls_nil ?_
 refine c_then ?_
 refine c_seq ?_
 refine reg_list ?_
 refine ls hF hW rfl ((y_move hF rfl).q) (fun a w hF hW => ?_)
 refine ls hF hW rfl ((y_move hF rfl).q) (fun a w hF hW => ?_)
 refine ls hF hW rfl (y_call (v := Value.tuple #[.agg #[.int .i64 0, .int .i64 0, .int .i64 0, .int .i64 0, .int .i64 0, .int .i64 0, .int .i64 0, .int .i64 0, .int .i64 0], .int .i64 1]) hF H19 rfl (fun w hW => wire_Wires_Look_c any w p1 _ rfl)) (fun a w hF hW => ?_)
 refine ls hF hW rfl ((y_move hF rfl).q) (fun a w hF hW => ?_)
 refine ls hF hW rfl ((y_extract (v := Value.agg #[.int .i64 0, .int .i64 0, .int .i64 0, .int .i64 0, .int .i64 0, .int .i64 0, .int .i64 0, .int .i64 0, .int .i64 0]) hF rfl rfl).q) (fun a w hF hW => ?_)
 refine ls hF hW rfl ((y_extract (v := Value.int .i64 1) hF rfl rfl).q) (fun a w hF hW => ?_)
 refine l_alloc (cs := [.int .i64 0, .int .i64 0, .int .i64 0, .int .i64 0, .int .i64 0, .int .i64 0, .int .i64 0, .int .i64 0, .int .i64 0]) hF hW rfl Z51 rfl (fun b3 a w hF hW => ?_)
 refine l_store (vs := [.int .i64 0, .int .i64 0, .int .i64 0, .int .i64 0, .int .i64 0, .int .i64 0, .int .i64 0, .int .i64 0, .int .i64 0]) (M' := [(b3, [.int .i64 0, .int .i64 0, .int .i64 0, .int .i64 0, .int .i64 0, .int .i64 0, .int .i64 0, .int .i64 0, .int .i64 0]), (b2, [.int .i64 0, .int .i64 0, .int .i64 0, .int .i64 0, .int .i64 0, .int .i64 0, .int .i64 0, .int .i64 0, .int .i64 0]), (b1, [.int .i64 p2.1, .int .i64 p2.2.1, .int .i64 p2.2.2.1, .int .i64 p2.2.2.2])]) 0 hF hW rfl rfl rfl T51 rfl rfl rfl rfl rfl (fun w hW => ?_)
 refine ls hF hW rfl ((y_assign hF rfl).q) (fun a w hF hW => ?_)
 refine ls_nil ?_
 refine c_then ?_
 obtain ⟨o1, G1, K1⟩ := bindE H
 refine c_seqJ (fun a w => ∃ x1 : Bool, some (x1) = some o1 ∧ Fr 59 [] [(6, .bool x1)] a ∧ Stw ⟨Y, [], w0⟩ [(b3, [.int .i64 0, .int .i64 0, .int .i64 0, .int .i64 0, .int .i64 0, .int .i64 0, .int .i64 0, .int .i64 0, .int .i64 0]), (b2, [.int .i64 0, .int .i64 0, .int .i64 0, .int .i64 0, .int .i64 0, .int .i64 0, .int .i64 0, .int .i64 0, .int .i64 0]), (b1, [.int .i64 p2.1, .int .i64 p2.2.1, .int .i64 p2.2.2.1, .int .i64 p2.2.2.2])] [] w) ?_ ?_
 ·
  have H := G1
  clear G1 K1
  refine reg_list ?_
  refine ls hF hW rfl ((y_move hF rfl).q) (fun a w hF hW => ?_)
  refine ls hF hW rfl ((y_eql hF rfl rfl).q) (fun a w hF hW => ?_)
  rw [show decide ((1 : Int) = 1) = true from by decide] at hF
  refine ls hF hW rfl ((y_move hF rfl).q) (fun a w hF hW => ?_)
  refine ls_w hF hW (wanted_y hF rfl rfl rfl rfl) rfl (Nat.le_of_ble_eq_true rfl) ((y_move hF rfl).q) (fun a w hF hW => ?_)
  refine ls_w hF hW (wanted_y hF rfl rfl rfl rfl) rfl (Nat.le_of_ble_eq_true rfl) ((y_eql hF rfl rfl).q) (fun a w hF hW => ?_)
  rw [show decide ((1 : Int) = 1) = true from by decide] at hF
  refine ls hF hW rfl ((y_pick_t hF rfl rfl rfl).q) (fun a w hF hW => ?_)
  refine ls hF hW rfl ((y_move hF rfl).q) (fun a w hF hW => ?_)
  refine ls_w hF hW (wanted_y hF rfl rfl rfl rfl) rfl (Nat.le_of_ble_eq_true rfl) ((y_move hF rfl).q) (fun a w hF hW => ?_)
  refine ls_w hF hW (wanted_y hF rfl rfl rfl rfl) rfl (Nat.le_of_ble_eq_true rfl) ((y_move hF rfl).q) (fun a w hF hW => ?_)
  refine ls_w hF hW (wanted_y hF rfl rfl rfl rfl) rfl (Nat.le_of_ble_eq_true rfl) ((y_move hF rfl).q) (fun a w hF hW => ?_)
  refine ls_w hF hW (wanted_y hF rfl rfl rfl rfl) rfl (Nat.le_of_ble_eq_true rfl) ((y_move hF rfl).q) (fun a w hF hW => ?_)
  refine ls_w hF hW (wanted_y hF rfl rfl rfl rfl) rfl (Nat.le_of_ble_eq_true rfl) ((y_move hF rfl).q) (fun a w hF hW => ?_)
  refine ls_w hF hW (wanted_y hF rfl rfl rfl rfl) rfl (Nat.le_of_ble_eq_true rfl) ((y_load (v := Value.agg #[.int .i64 p2.1, .int .i64 p2.2.1, .int .i64 p2.2.2.1, .int .i64 p2.2.2.2]) 2 hF rfl rfl T36 rfl).q) (fun a w hF hW => ?_)
  refine ls_g (wanted_y hF rfl rfl rfl rfl) ?_
  refine ls hF hW rfl (y_call (v := Value.int .i64 1) hF H18 rfl (fun w hW => wire_Wires_Put_c any w p0 p1 p1 p1 p2 _ rfl)) (fun a w hF hW => ?_)
  refine ls_w hF hW (wanted_y hF rfl rfl rfl rfl) rfl (Nat.le_of_ble_eq_true rfl) ((y_eql hF rfl rfl).q) (fun a w hF hW => ?_)
  rw [show decide ((1 : Int) = 1) = true from by decide] at hF
  refine ls hF hW rfl ((y_pick_t hF rfl rfl rfl).q) (fun a w hF hW => ?_)
  refine ls hF hW rfl ((y_move hF rfl).q) (fun a w hF hW => ?_)
  refine ls_w hF hW (wanted_y hF rfl rfl rfl rfl) rfl (Nat.le_of_ble_eq_true rfl) ((y_move hF rfl).q) (fun a w hF hW => ?_)
  refine ls_g (wanted_y hF rfl rfl rfl rfl) ?_
  refine ls hF hW rfl (y_call (v := Value.int .i64 0) hF H11 rfl (fun w hW => wire_Wires_Len_c any w _ rfl)) (fun a w hF hW => ?_)
  refine ls_w hF hW (wanted_y hF rfl rfl rfl rfl) rfl (Nat.le_of_ble_eq_true rfl) ((y_move hF rfl).q) (fun a w hF hW => ?_)
  refine ls_w hF hW (wanted_y hF rfl rfl rfl rfl) rfl (Nat.le_of_ble_eq_true rfl) ((y_move hF rfl).q) (fun a w hF hW => ?_)
  refine ls_g (wanted_y hF rfl rfl rfl rfl) ?_
  refine ls hF hW rfl (y_call (v := Value.slice none 0 0) hF H15 rfl (fun w hW => wire_Wires_Due_c any w p0 _ rfl)) (fun a w hF hW => ?_)
  refine ls_w hF hW (wanted_y hF rfl rfl rfl rfl) rfl (Nat.le_of_ble_eq_true rfl) ((y_len (r := R51) (l := ([] : List (Int × Int × Int × (Int × Int × Int × Int) × Int × Int))) u48_ rfl hF rfl rdc_nil).q) (fun a w hF hW => ?_)
  refine ls_w hF hW (wanted_y hF rfl rfl rfl rfl) rfl (Nat.le_of_ble_eq_true rfl) ((y_add hF rfl rfl rfl).q) (fun a w hF hW => ?_)
  refine ls_w hF hW (wanted_y hF rfl rfl rfl rfl) rfl (Nat.le_of_ble_eq_true rfl) ((y_eql hF rfl rfl).q) (fun a w hF hW => ?_)
  refine ls hF hW rfl ((y_pick_t hF rfl rfl rfl).q) (fun a w hF hW => ?_)
  refine ls hF hW rfl ((y_move hF rfl).q) (fun a w hF hW => ?_)
  rcases Bool.eq_false_or_eq_true (decide ((w64 (0 + (([] : List (Int × Int × Int × (Int × Int × Int × Int) × Int × Int)).length : Int))) = 0)) with hb | hb
  ·
   have H := iteT (of_decide_eq_true hb) H
   rw [hb] at hF
   clear hb
   refine ls_w hF hW (wanted_y hF rfl rfl rfl rfl) rfl (Nat.le_of_ble_eq_true rfl) ((y_move hF rfl).q) (fun a w hF hW => ?_)
   refine ls_g (wanted_y hF rfl rfl rfl rfl) ?_
   refine ls hF hW rfl (y_call (v := Value.int .i64 (-1)) hF H12 rfl (fun w hW => wire_Wires_Next_c any w _ rfl)) (fun a w hF hW => ?_)
   refine ls_w hF hW (wanted_y hF rfl rfl rfl rfl) rfl (Nat.le_of_ble_eq_true rfl) ((y_eql hF rfl rfl).q) (fun a w hF hW => ?_)
   rw [show decide (((-1) : Int) = (-1)) = true from by decide] at hF
   refine ls hF hW rfl ((y_pick_t hF rfl rfl rfl).q) (fun a w hF hW => ?_)
   refine ls hF hW rfl ((y_move hF rfl).q) (fun a w hF hW => ?_)
   refine ls_g (wanted_y hF rfl rfl rfl rfl) ?_
   obtain ⟨x2, h1, H⟩ := bindE H
   refine ls hF hW rfl (y_call (v := Value.bool x2) hF H6 rfl (fun w hW => L35_awake_c any w _ h1)) (fun a w hF hW => ?_)
   refine ls hF hW rfl ((y_pick_t hF rfl rfl rfl).q) (fun a w hF hW => ?_)
   refine ls hF hW rfl ((y_assign hF rfl).q) (fun a w hF hW => ?_)
   refine ls_nil ?_
   refine c_then ?_
   have hW := hW.frontM (i := 2) rfl rfl
   have hW := hW.frontM (i := 2) rfl rfl
   have hW := hW.frontM (i := 2) rfl rfl
   exact ⟨_, H, hF.re ⟨rfl, trivial⟩, hW⟩
  ·
   have H := iteF (of_decide_eq_false hb) H
   rw [hb] at hF
   clear hb
   refine lsn hF rfl rfl rfl rfl rfl rfl rfl (fun a hF => ?_)
   refine lsn hF rfl rfl rfl rfl rfl rfl rfl (fun a hF => ?_)
   refine lsn hF rfl rfl rfl rfl rfl rfl rfl (fun a hF => ?_)
   refine ls hF hW rfl ((y_pick_f hF rfl rfl rfl).q) (fun a w hF hW => ?_)
   refine ls hF hW rfl ((y_move hF rfl).q) (fun a w hF hW => ?_)
   refine lsn hF rfl rfl rfl rfl rfl rfl rfl (fun a hF => ?_)
   refine ls hF hW rfl ((y_pick_f hF rfl rfl rfl).q) (fun a w hF hW => ?_)
   refine ls hF hW rfl ((y_assign hF rfl).q) (fun a w hF hW => ?_)
   refine ls_nil ?_
   refine c_then ?_
   have hW := hW.frontM (i := 2) rfl rfl
   have hW := hW.frontM (i := 2) rfl rfl
   have hW := hW.frontM (i := 2) rfl rfl
   exact ⟨_, H, hF.re ⟨rfl, trivial⟩, hW⟩
 rintro a w ⟨x1, hj, hF, hW⟩
 have hj := Option.some.inj hj
 subst hj
 have H := K1
 clear G1 K1
 refine wp_ret ?_
 have H := Option.some.inj H
 subst H
 refine post1 (.inl rfl) hF hW rfl (rv_tmp hF rfl) ?_
 exact ⟨rfl, hW.done⟩

end Go.Proofs.Ytemacefkdopgaaa
