/- The functions of layer 16, lifted. Conditions: none. -/
import Derived.Test.YtnlllglfmipllaaRows
import Derived.Test.YtnlllglfmipllaaA7
import Derived.Test.YtnlllglfmipllaaOC
namespace Go.Proofs.Ytnlllglfmipllaa
open Go Go.RowKit
set_option linter.unusedVariables false
set_option linter.unusedSimpArgs false
set_option maxRecDepth 20000
noncomputable def L16_short_l1 (p0 : Int × Int × Int × Int × Int × Int × Int × Int × Int × (List (Int × (Int × (Int × (Int × Int × Int × Int) × (Int × Int × Int × Int)) × (List (Int × Int × Int))) × Bool))) : Int → Option (Int ⊕ (Unit ⊕ Bool))
  | x1 => (if x1 < (p0.2.2.2.2.2.2.2.2.2.length : Int) then (ix p0.2.2.2.2.2.2.2.2.2 x1).bind fun x2 => (if 10 < (x2.2.1.2.2.length : Int) then some (.inr (.inr false)) else some (.inl (w64 (x1 + 1)))) else some (.inr (.inl ())))
noncomputable def L16_short (p0 : Int × Int × Int × Int × Int × Int × Int × Int × Int × (List (Int × (Int × (Int × (Int × Int × Int × Int) × (Int × Int × Int × Int)) × (List (Int × Int × Int))) × Bool))) : Option Bool := orR (loopW (L16_short_l1 p0) 0) fun _ => some (decide ((p0.2.2.2.2.2.2.2.2.2.length : Int) ≤ 20))
theorem L16_short_c (Y : Nat → Prop) (w0 : World) (v1 : Value) (p0 : Int × Int × Int × Int × Int × Int × Int × Int × Int × (List (Int × (Int × (Int × (Int × Int × Int × Int) × (Int × Int × Int × Int)) × (List (Int × Int × Int))) × Bool))) (r : Bool) (H : L16_short p0 = some r) (h_v1 : Sl w0 (NX []) R42 v1 p0.2.2.2.2.2.2.2.2.2) :
    Calls Try.prog 5 #[.agg #[.int .i64 p0.1, .int .i64 p0.2.1, .int .i64 p0.2.2.1, .int .i64 p0.2.2.2.1, .int .i64 p0.2.2.2.2.1, .int .i64 p0.2.2.2.2.2.1, .int .i64 p0.2.2.2.2.2.2.1, .int .i64 p0.2.2.2.2.2.2.2.1, .int .i64 p0.2.2.2.2.2.2.2.2.1, v1]] w0 fun e w' => e = .returned (.bool r) ∧ Below w0.heap.size w0 w' := by
 refine enter Try.func5 rfl Try.ntmps5 rfl (fun a hF => ?_)
 have hW := Stw.start Y w0
 obtain ⟨v2, h1, h_v1⟩ := h_v1.ex EX42
 unfold L16_short at H
 refine c_seq ?_
 refine reg_list ?_
 refine l_box (cs := [.int .i64 p0.1, .int .i64 p0.2.1, .int .i64 p0.2.2.1, .int .i64 p0.2.2.2.1, .int .i64 p0.2.2.2.2.1, .int .i64 p0.2.2.2.2.2.1, .int .i64 p0.2.2.2.2.2.2.1, .int .i64 p0.2.2.2.2.2.2.2.1, .int .i64 p0.2.2.2.2.2.2.2.2.1, v1]) hF hW rfl rfl rfl (fun b1 a w hF hW => ?_)
 refine ls hF hW rfl ((y_assign hF rfl).q) (fun a w hF hW => ?_)
 refine ls_nil ?_
 refine c_then ?_
 obtain ⟨o1, G1, K1, L1⟩ := orE H
 refine c_seqJ (fun a w => some (Sum.inl ()) = some o1 ∧ Fr 24 [] [(1, .pointer (some ⟨b1, 0, none⟩)), (2, .bool false)] a ∧ Stw ⟨Y, [], w0⟩ [(b1, [.int .i64 p0.1, .int .i64 p0.2.1, .int .i64 p0.2.2.1, .int .i64 p0.2.2.2.1, .int .i64 p0.2.2.2.2.1, .int .i64 p0.2.2.2.2.2.1, .int .i64 p0.2.2.2.2.2.2.1, .int .i64 p0.2.2.2.2.2.2.2.1, .int .i64 p0.2.2.2.2.2.2.2.2.1, v1])] [] w) ?_ ?_
 ·
  have H := G1
  clear G1 K1
  refine c_seq ?_
  refine reg_list ?_
  refine ls hF hW rfl ((y_assign hF rfl).q) (fun a w hF hW => ?_)
  refine ls_nil ?_
  refine c_then ?_
  refine wp_block ?_
  refine c_loopW H (fun s a w => Fr 24 [] [(1, .pointer (some ⟨b1, 0, none⟩)), (2, .bool false), (3, .int .i64 s)] a ∧ Stw ⟨Y, [], w0⟩ [(b1, [.int .i64 p0.1, .int .i64 p0.2.1, .int .i64 p0.2.2.1, .int .i64 p0.2.2.2.1, .int .i64 p0.2.2.2.2.1, .int .i64 p0.2.2.2.2.2.1, .int .i64 p0.2.2.2.2.2.2.1, .int .i64 p0.2.2.2.2.2.2.2.1, .int .i64 p0.2.2.2.2.2.2.2.2.1, v1])] [] w) ⟨hF.re ⟨rfl, rfl, rfl, trivial⟩, hW⟩ (fun s o a w H L2 hR => ?_)
  obtain ⟨x1, rfl⟩ : ∃ x, x = s := ⟨s, rfl⟩
  obtain ⟨hF, hW⟩ := hR
  have hF : Fr 24 [] [(1, .pointer (some ⟨b1, 0, none⟩)), (2, .bool false), (3, .int .i64 x1)] a := hF
  have hW : Stw ⟨Y, [], w0⟩ [(b1, [.int .i64 p0.1, .int .i64 p0.2.1, .int .i64 p0.2.2.1, .int .i64 p0.2.2.2.1, .int .i64 p0.2.2.2.2.1, .int .i64 p0.2.2.2.2.2.1, .int .i64 p0.2.2.2.2.2.2.1, .int .i64 p0.2.2.2.2.2.2.2.1, .int .i64 p0.2.2.2.2.2.2.2.2.1, v1])] [] w := hW
  rw [L16_short_l1] at H
  refine c_seq ?_
  refine c_seq ?_
  refine reg_list ?_
  refine ls hF hW rfl ((y_move hF rfl).q) (fun a w hF hW => ?_)
  refine ls hF hW rfl ((y_fieldAddr u24_ rfl rfl rfl T22 hF rfl 9 rfl).q) (fun a w hF hW => ?_)
  refine ls hF hW rfl ((y_load (v := v1) 0 hF rfl rfl T22 rfl).q) (fun a w hF hW => ?_)
  refine ls hF hW rfl ((y_len (r := R42) (l := p0.2.2.2.2.2.2.2.2.2) u22_ rfl hF rfl (rdc_hide EX42 h1 (rdc_ro h_v1))).q) (fun a w hF hW => ?_)
  refine ls hF hW rfl ((y_lss hF rfl rfl).q) (fun a w hF hW => ?_)
  refine ls_nil ?_
  refine c_then ?_
  refine c_cond hF rfl (fun hb => ?_) (fun hb => ?_)
  ·
   have H := iteT (of_decide_eq_true hb) H
   rw [hb] at hF
   clear hb
   refine wp_skip ?_
   refine c_then ?_
   refine c_seq ?_
   refine wp_block ?_
   refine c_seq ?_
   refine reg_list ?_
   refine ls hF hW rfl ((y_fieldAddr u24_ rfl rfl rfl T22 hF rfl 9 rfl).q) (fun a w hF hW => ?_)
   refine ls hF hW rfl ((y_load (v := v1) 0 hF rfl rfl T22 rfl).q) (fun a w hF hW => ?_)
   refine ls hF hW rfl ((y_move hF rfl).q) (fun a w hF hW => ?_)
   obtain ⟨x2, h2, H⟩ := bindE H
   obtain ⟨v3, h3, h4⟩ := ix_ex h1 h2
   have h5 : EE42 v3 = [.int .i64 x2.1, .int .i64 x2.2.1.1, .int .i64 x2.2.1.2.1.1, .int .i64 x2.2.1.2.1.2.1.1, .int .i64 x2.2.1.2.1.2.1.2.1, .int .i64 x2.2.1.2.1.2.1.2.2.1, .int .i64 x2.2.1.2.1.2.1.2.2.2, .int .i64 x2.2.1.2.1.2.2.1, .int .i64 x2.2.1.2.1.2.2.2.1, .int .i64 x2.2.1.2.1.2.2.2.2.1, .int .i64 x2.2.1.2.1.2.2.2.2.2, (v3.2.1.2.2.1), .bool x2.2.2] := congrArg (fun q : Int × (Int × (Int × (Int × Int × Int × Int) × (Int × Int × Int × Int)) × (List (Int × Int × Int))) × Bool => ([.int .i64 q.1, .int .i64 q.2.1.1, .int .i64 q.2.1.2.1.1, .int .i64 q.2.1.2.1.2.1.1, .int .i64 q.2.1.2.1.2.1.2.1, .int .i64 q.2.1.2.1.2.1.2.2.1, .int .i64 q.2.1.2.1.2.1.2.2.2, .int .i64 q.2.1.2.1.2.2.1, .int .i64 q.2.1.2.1.2.2.2.1, .int .i64 q.2.1.2.1.2.2.2.2.1, .int .i64 q.2.1.2.1.2.2.2.2.2, (v3.2.1.2.2.1), .bool q.2.2] : List Value)) h4
   refine ls hF hW rfl ((y_index (r := RX42) L22 hF rfl rfl (rdc_ro h_v1) h3).q) (fun a w hF hW => ?_)
   refine ls hF hW rfl ((y_fieldAddr u42_ rfl rfl rfl T40 hF rfl (voff v1 + (x1).toNat * 13 + 1) rfl).q) (fun a w hF hW => ?_)
   refine ls hF hW rfl ((y_fieldAddr u40_ rfl rfl rfl T38 hF rfl (voff v1 + (x1).toNat * 13 + 1 + 10) rfl).q) (fun a w hF hW => ?_)
   refine ls hF hW rfl ((y_load_el (y := (v3.2.1.2.2.1)) (j := 11) (i := x1) (enc := EE42) hF rfl rfl (rdc_ro h_v1) h3 FE42 T38 (by rw [h5]; rfl)).q) (fun a w hF hW => ?_)
   refine ls hF hW rfl ((y_len (r := R77) (l := x2.2.1.2.2) u38_ rfl hF rfl (rdc_at (rdc_ro h_v1) h3 (Path.snd (Path.fst (Path.snd (Path.snd Path.here)))) (congrArg (fun q : Int × (Int × (Int × (Int × Int × Int × Int) × (Int × Int × Int × Int)) × (List (Int × Int × Int))) × Bool => q.2.1.2.2) h4))).q) (fun a w hF hW => ?_)
   refine ls hF hW rfl ((y_gtr hF rfl rfl).q) (fun a w hF hW => ?_)
   refine ls_nil ?_
   refine c_then ?_
   refine c_cond hF rfl (fun hb => ?_) (fun hb => ?_)
   ·
    have H := iteT (of_decide_eq_true hb) H
    rw [hb] at hF
    clear hb
    refine c_seq ?_
    refine reg_list ?_
    refine ls hF hW rfl ((y_assign hF rfl).q) (fun a w hF hW => ?_)
    refine ls_nil ?_
    refine c_then ?_
    refine wp_ret ?_
    refine r_block ?_
    refine r_then ?_
    refine r_then ?_
    refine r_block ?_
    refine r_then ?_
    have H := L2 _ H
    have H := L1 _ H
    have H := Option.some.inj H
    subst H
    refine post1 (.inl rfl) hF hW rfl (rv_tmp hF rfl) ?_
    exact ⟨rfl, hW.done⟩
   ·
    have H := iteF (of_decide_eq_false hb) H
    rw [hb] at hF
    clear hb
    refine wp_skip ?_
    refine b_normal ?_
    refine c_then ?_
    refine reg_list ?_
    refine ls hF hW rfl ((y_move hF rfl).q) (fun a w hF hW => ?_)
    refine ls hF hW rfl ((y_add hF rfl rfl rfl).q) (fun a w hF hW => ?_)
    refine ls hF hW rfl ((y_assign hF rfl).q) (fun a w hF hW => ?_)
    refine ls_nil ?_
    refine c_then ?_
    exact ⟨_, H, hF.re ⟨rfl, rfl, rfl, trivial⟩, hW⟩
  ·
   have H := iteF (of_decide_eq_false hb) H
   rw [hb] at hF
   clear hb
   refine wp_exit ?_
   refine e_then ?_
   refine e_then ?_
   refine e_block ?_
   refine c_then ?_
   have H := L2 _ H
   exact ⟨H, hF.re ⟨rfl, rfl, trivial⟩, hW⟩
 rintro a w ⟨hj, hF, hW⟩
 have H := K1 _ hj
 clear hj G1 K1 L1
 refine c_seq ?_
 refine reg_list ?_
 refine ls hF hW rfl ((y_fieldAddr u24_ rfl rfl rfl T22 hF rfl 9 rfl).q) (fun a w hF hW => ?_)
 refine ls hF hW rfl ((y_load (v := v1) 0 hF rfl rfl T22 rfl).q) (fun a w hF hW => ?_)
 refine ls hF hW rfl ((y_len (r := R42) (l := p0.2.2.2.2.2.2.2.2.2) u22_ rfl hF rfl (rdc_hide EX42 h1 (rdc_ro h_v1))).q) (fun a w hF hW => ?_)
 refine ls hF hW rfl ((y_leq hF rfl rfl).q) (fun a w hF hW => ?_)
 refine ls hF hW rfl ((y_assign hF rfl).q) (fun a w hF hW => ?_)
 refine ls_nil ?_
 refine c_then ?_
 refine wp_ret ?_
 have H := Option.some.inj H
 subst H
 refine post1 (.inl rfl) hF hW rfl (rv_tmp hF rfl) ?_
 exact ⟨rfl, hW.done⟩

theorem H5 : Has Try.prog 5 := ⟨fun args w => run_callFunc_body Try.func5 rfl (by decide) args w⟩
theorem H6 : Has Try.prog 6 := ⟨fun args w => run_callFunc_body Try.func6 rfl (by decide) args w⟩
theorem H8 : Has Try.prog 8 := ⟨fun args w => run_callFunc_body Try.func8 rfl (by decide) args w⟩
noncomputable def r04_Num_l1 (p1 : Int) : (Int × List UInt8 × Int) → Option ((Int × List UInt8 × Int) ⊕ (Int × List UInt8))
  | (x3, x4, x5) => (if x5 < p1 then (app (strOf ([IntKind.u8.wrap (Int.tmod x3 256)] : List Int)) x4).bind fun x6 => some (.inl (w64 (Int.tdiv x3 256), x6, w64 (x5 + 1))) else some (.inr (x3, x4)))
noncomputable def r04_Num (p0 : Int) (p1 : Int) : Option (List UInt8) := (if (decide (p1 < 1) || (decide (7 < p1) || decide (p0 < 0))) = true then some ([] : List UInt8) else (loopW (r04_Num_l1 p1) (p0, ([] : List UInt8), 0)).bind fun (x1, x2) => (if x1 ≠ 0 then some ([] : List UInt8) else some x2))
theorem r04_Num_c (Y : Nat → Prop) (w0 : World)  (p0 : Int) (p1 : Int) (r : List UInt8) (H : r04_Num p0 p1 = some r)  :
    Calls Try.prog 34 #[.int .i64 p0, .int .i64 p1] w0 fun e w' => e = .returned (.string (bs r)) ∧ Below w0.heap.size w0 w' := by
 refine enter Try.func34 rfl Try.ntmps34 rfl (fun a hF => ?_)
 have hW := Stw.start Y w0
 unfold r04_Num at H
 refine c_seq ?_
 refine reg_list ?_
 refine ls hF hW rfl ((y_assign (v := Value.string (bs ([] : List UInt8))) hF rfl).q) (fun a w hF hW => ?_)
 refine ls_nil ?_
 refine c_then ?_
 refine c_seq ?_
 refine c_seqJ (fun a w => Fr 34 [] [(0, .int .i64 p0), (1, .int .i64 p1), (4, .string (bs ([] : List UInt8))), (16, .bool (decide (p1 < 1) || (decide (7 < p1) || decide (p0 < 0))))] a ∧ Stw ⟨Y, [], w0⟩ [] [] w) ?_ ?_
 ·
  refine reg_list ?_
  refine ls hF hW rfl ((y_move hF rfl).q) (fun a w hF hW => ?_)
  refine ls hF hW rfl ((y_lss hF rfl rfl).q) (fun a w hF hW => ?_)
  refine ls hF hW rfl ((y_move hF rfl).q) (fun a w hF hW => ?_)
  rcases Bool.eq_false_or_eq_true (decide (p1 < 1)) with hb0 | hb0
  ·
   rw [hb0] at hF
   refine lsn hF rfl rfl rfl rfl rfl rfl rfl (fun a hF => ?_)
   refine lsn hF rfl rfl rfl rfl rfl rfl rfl (fun a hF => ?_)
   refine ls hF hW rfl ((y_pick_t hF rfl rfl rfl).q) (fun a w hF hW => ?_)
   refine ls hF hW rfl ((y_move hF rfl).q) (fun a w hF hW => ?_)
   refine lsn hF rfl rfl rfl rfl rfl rfl rfl (fun a hF => ?_)
   refine lsn hF rfl rfl rfl rfl rfl rfl rfl (fun a hF => ?_)
   refine ls hF hW rfl ((y_pick_t hF rfl rfl rfl).q) (fun a w hF hW => ?_)
   refine ls_nil ?_
   refine c_then ?_
   exact ⟨hF.re ⟨rfl, rfl, rfl, (by show some (Value.bool true) = some (Value.bool (decide (p1 < 1) || (decide (7 < p1) || decide (p0 < 0)))); try rw [hb0]; all_goals simp only [Bool.not_true, Bool.not_false, Bool.true_and, Bool.false_and, Bool.true_or, Bool.false_or, Bool.and_true, Bool.or_false, cond_true, cond_false]), trivial⟩, hW⟩
  ·
   rw [hb0] at hF
   refine ls_w hF hW (wanted_y hF rfl rfl rfl rfl) rfl (Nat.le_of_ble_eq_true rfl) ((y_move hF rfl).q) (fun a w hF hW => ?_)
   refine ls_w hF hW (wanted_y hF rfl rfl rfl rfl) rfl (Nat.le_of_ble_eq_true rfl) ((y_gtr hF rfl rfl).q) (fun a w hF hW => ?_)
   refine ls hF hW rfl ((y_pick_f hF rfl rfl rfl).q) (fun a w hF hW => ?_)
   refine ls hF hW rfl ((y_move hF rfl).q) (fun a w hF hW => ?_)
   rcases Bool.eq_false_or_eq_true (decide (7 < p1)) with hb1 | hb1
   ·
    rw [hb1] at hF
    refine lsn hF rfl rfl rfl rfl rfl rfl rfl (fun a hF => ?_)
    refine lsn hF rfl rfl rfl rfl rfl rfl rfl (fun a hF => ?_)
    refine ls hF hW rfl ((y_pick_t hF rfl rfl rfl).q) (fun a w hF hW => ?_)
    refine ls_nil ?_
    refine c_then ?_
    exact ⟨hF.re ⟨rfl, rfl, rfl, (by show some (Value.bool true) = some (Value.bool (decide (p1 < 1) || (decide (7 < p1) || decide (p0 < 0)))); try rw [hb0]; try rw [hb1]; all_goals simp only [Bool.not_true, Bool.not_false, Bool.true_and, Bool.false_and, Bool.true_or, Bool.false_or, Bool.and_true, Bool.or_false, cond_true, cond_false]), trivial⟩, hW⟩
   ·
    rw [hb1] at hF
    refine ls_w hF hW (wanted_y hF rfl rfl rfl rfl) rfl (Nat.le_of_ble_eq_true rfl) ((y_move hF rfl).q) (fun a w hF hW => ?_)
    refine ls_w hF hW (wanted_y hF rfl rfl rfl rfl) rfl (Nat.le_of_ble_eq_true rfl) ((y_lss hF rfl rfl).q) (fun a w hF hW => ?_)
    refine ls hF hW rfl ((y_pick_f hF rfl rfl rfl).q) (fun a w hF hW => ?_)
    refine ls_nil ?_
    refine c_then ?_
    exact ⟨hF.re ⟨rfl, rfl, rfl, (by show some (Value.bool (decide (p0 < 0))) = some (Value.bool (decide (p1 < 1) || (decide (7 < p1) || decide (p0 < 0)))); try rw [hb0]; try rw [hb1]; all_goals simp only [Bool.not_true, Bool.not_false, Bool.true_and, Bool.false_and, Bool.true_or, Bool.false_or, Bool.and_true, Bool.or_false, cond_true, cond_false]), trivial⟩, hW⟩
 rintro a w ⟨hF, hW⟩
 refine c_cond hF rfl (fun hb => ?_) (fun hb => ?_)
 ·
  have H := iteT hb H
  rw [hb] at hF
  clear hb
  refine c_seq ?_
  refine reg_list ?_
  refine ls hF hW rfl ((y_assign (v := Value.string (bs ([] : List UInt8))) hF rfl).q) (fun a w hF hW => ?_)
  refine ls_nil ?_
  refine c_then ?_
  refine wp_ret ?_
  refine r_then ?_
  have H := Option.some.inj H
  subst H
  refine post1 (.inl rfl) hF hW rfl (rv_tmp hF rfl) ?_
  exact ⟨rfl, hW.done⟩
 ·
  have H := iteF (by rw [hb]; decide) H
  rw [hb] at hF
  clear hb
  refine wp_skip ?_
  refine c_then ?_
  refine c_seq ?_
  refine reg_list ?_
  refine ls hF hW rfl ((y_assign (v := Value.string (bs ([] : List UInt8))) hF rfl).q) (fun a w hF hW => ?_)
  refine ls_nil ?_
  refine c_then ?_
  obtain ⟨o1, G1, K1⟩ := bindE H
  refine c_seqJ (fun a w => ∃ x1 : Int, ∃ x2 : List UInt8, some ((x1, x2)) = some o1 ∧ Fr 34 [] [(0, .int .i64 x1), (4, .string (bs ([] : List UInt8))), (5, .string (bs x2))] a ∧ Stw ⟨Y, [], w0⟩ [] [] w) ?_ ?_
  ·
   have H := G1
   clear G1 K1
   refine c_seq ?_
   refine reg_list ?_
   refine ls hF hW rfl ((y_assign hF rfl).q) (fun a w hF hW => ?_)
   refine ls_nil ?_
   refine c_then ?_
   refine wp_block ?_
   refine c_loopW H (fun s a w => Fr 34 [] [(0, .int .i64 s.1), (1, .int .i64 p1), (4, .string (bs ([] : List UInt8))), (5, .string (bs s.2.1)), (6, .int .i64 s.2.2)] a ∧ Stw ⟨Y, [], w0⟩ [] [] w) ⟨hF.re ⟨rfl, rfl, rfl, rfl, rfl, trivial⟩, hW⟩ (fun s o a w H L2 hR => ?_)
   obtain ⟨x3, x4, x5⟩ := s
   obtain ⟨hF, hW⟩ := hR
   have hF : Fr 34 [] [(0, .int .i64 x3), (1, .int .i64 p1), (4, .string (bs ([] : List UInt8))), (5, .string (bs x4)), (6, .int .i64 x5)] a := hF
   have hW : Stw ⟨Y, [], w0⟩ [] [] w := hW
   rw [r04_Num_l1] at H
   refine c_seq ?_
   refine c_seq ?_
   refine reg_list ?_
   refine ls hF hW rfl ((y_move hF rfl).q) (fun a w hF hW => ?_)
   refine ls hF hW rfl ((y_move hF rfl).q) (fun a w hF hW => ?_)
   refine ls hF hW rfl ((y_lss hF rfl rfl).q) (fun a w hF hW => ?_)
   refine ls_nil ?_
   refine c_then ?_
   refine c_cond hF rfl (fun hb => ?_) (fun hb => ?_)
   ·
    have H := iteT (of_decide_eq_true hb) H
    rw [hb] at hF
    clear hb
    refine wp_skip ?_
    refine c_then ?_
    refine c_seq ?_
    refine wp_block ?_
    refine c_seq ?_
    refine reg_list ?_
    refine ls hF hW rfl ((y_move hF rfl).q) (fun a w hF hW => ?_)
    refine ls hF hW rfl ((y_rem hF rfl rfl (by decide) rfl).q) (fun a w hF hW => ?_)
    refine ls hF hW rfl ((y_convI u3_ u5_ hF rfl).q) (fun a w hF hW => ?_)
    refine l_lit (z := Value.int .u8 0) (cs := [.int .u8 (IntKind.u8.wrap (Int.tmod x3 256))]) (Rp.int .u8) ([IntKind.u8.wrap (Int.tmod x3 256)] : List Int) hF hW rfl L33 Z5 rfl rfl rfl rfl rfl rfl (Fl.int.repL _ _ ([IntKind.u8.wrap (Int.tmod x3 256)] : List Int)) (fun v1 a w hF hW => ?_)
    refine ls hF hW rfl ((y_convB (ns := ([IntKind.u8.wrap (Int.tmod x3 256)] : List Int)) u33_ u5_ u9_ hF rfl (rdc_row 0 rfl)).q) (fun a w hF hW => ?_)
    refine ls hF hW rfl ((y_move hF rfl).q) (fun a w hF hW => ?_)
    obtain ⟨x6, h1, H⟩ := bindE H
    refine ls hF hW rfl ((y_sadd (l := strOf ([IntKind.u8.wrap (Int.tmod x3 256)] : List Int)) (m := x4) hF rfl rfl h1).q) (fun a w hF hW => ?_)
    refine ls hF hW rfl ((y_assign hF rfl).q) (fun a w hF hW => ?_)
    refine ls_nil ?_
    refine c_then ?_
    refine reg_list ?_
    refine ls hF hW rfl ((y_move hF rfl).q) (fun a w hF hW => ?_)
    refine ls hF hW rfl ((y_quo hF rfl rfl (by decide) rfl).q) (fun a w hF hW => ?_)
    refine ls hF hW rfl ((y_assign hF rfl).q) (fun a w hF hW => ?_)
    refine ls_nil ?_
    refine b_normal ?_
    refine c_then ?_
    refine reg_list ?_
    refine ls hF hW rfl ((y_move hF rfl).q) (fun a w hF hW => ?_)
    refine ls hF hW rfl ((y_add hF rfl rfl rfl).q) (fun a w hF hW => ?_)
    refine ls hF hW rfl ((y_assign hF rfl).q) (fun a w hF hW => ?_)
    refine ls_nil ?_
    refine c_then ?_
    have hW := hW.sub (M' := []) (Z' := []) (List.Sublist.refl _) (List.nil_sublist _)
    exact ⟨_, H, hF.re ⟨rfl, rfl, rfl, rfl, rfl, trivial⟩, hW⟩
   ·
    have H := iteF (of_decide_eq_false hb) H
    rw [hb] at hF
    clear hb
    refine wp_exit ?_
    refine e_then ?_
    refine e_then ?_
    refine e_block ?_
    refine c_then ?_
    have H := L2 _ H
    exact ⟨_, _, H, hF.re ⟨rfl, rfl, rfl, trivial⟩, hW⟩
  rintro a w ⟨x1, x2, hj, hF, hW⟩
  have hj := Option.some.inj hj
  subst hj
  have H := K1
  clear G1 K1
  refine c_seq ?_
  refine c_seq ?_
  refine reg_list ?_
  refine ls hF hW rfl ((y_move hF rfl).q) (fun a w hF hW => ?_)
  refine ls hF hW rfl ((y_neq hF rfl rfl).q) (fun a w hF hW => ?_)
  refine ls_nil ?_
  refine c_then ?_
  refine c_cond hF rfl (fun hb => ?_) (fun hb => ?_)
  ·
   have H := iteT (of_decide_eq_true hb) H
   rw [hb] at hF
   clear hb
   refine c_seq ?_
   refine reg_list ?_
   refine ls hF hW rfl ((y_assign (v := Value.string (bs ([] : List UInt8))) hF rfl).q) (fun a w hF hW => ?_)
   refine ls_nil ?_
   refine c_then ?_
   refine wp_ret ?_
   refine r_then ?_
   have H := Option.some.inj H
   subst H
   refine post1 (.inl rfl) hF hW rfl (rv_tmp hF rfl) ?_
   exact ⟨rfl, hW.done⟩
  ·
   have H := iteF (of_decide_eq_false hb) H
   rw [hb] at hF
   clear hb
   refine wp_skip ?_
   refine c_then ?_
   refine c_seq ?_
   refine reg_list ?_
   refine ls hF hW rfl ((y_move hF rfl).q) (fun a w hF hW => ?_)
   refine ls hF hW rfl ((y_assign hF rfl).q) (fun a w hF hW => ?_)
   refine ls_nil ?_
   refine c_then ?_
   refine wp_ret ?_
   have H := Option.some.inj H
   subst H
   refine post1 (.inl rfl) hF hW rfl (rv_tmp hF rfl) ?_
   exact ⟨rfl, hW.done⟩

theorem H34 : Has Try.prog 34 := ⟨fun args w => run_callFunc_body Try.func34 rfl (by decide) args w⟩
noncomputable def r04_Int (p0 : Int) : Option (List UInt8) := (if (Int.tmod p0 4294967296) < 0 then some (w64 ((Int.tmod p0 4294967296) + 4294967296)) else some (Int.tmod p0 4294967296)).bind fun x1 => (if (w64 (Int.tdiv (w64 (p0 - x1)) 4294967296)) < 0 then some (w64 ((w64 (Int.tdiv (w64 (p0 - x1)) 4294967296)) + 4294967296)) else some (w64 (Int.tdiv (w64 (p0 - x1)) 4294967296))).bind fun x2 => (r04_Num x2 4).bind fun x3 => (r04_Num x1 4).bind fun x4 => (app x3 x4).bind fun x5 => some x5
theorem r04_Int_c (Y : Nat → Prop) (w0 : World)  (p0 : Int) (r : List UInt8) (H : r04_Int p0 = some r)  :
    Calls Try.prog 35 #[.int .i64 p0] w0 fun e w' => e = .returned (.string (bs r)) ∧ Below w0.heap.size w0 w' := by
 refine enter Try.func35 rfl Try.ntmps35 rfl (fun a hF => ?_)
 have hW := Stw.start Y w0
 unfold r04_Int at H
 refine c_seq ?_
 refine reg_list ?_
 refine ls hF hW rfl ((y_assign (v := Value.string (bs ([] : List UInt8))) hF rfl).q) (fun a w hF hW => ?_)
 refine ls_nil ?_
 refine c_then ?_
 refine c_seq ?_
 refine reg_list ?_
 refine ls hF hW rfl ((y_move hF rfl).q) (fun a w hF hW => ?_)
 refine ls hF hW rfl ((y_rem hF rfl rfl (by decide) rfl).q) (fun a w hF hW => ?_)
 refine ls hF hW rfl ((y_assign hF rfl).q) (fun a w hF hW => ?_)
 refine ls_nil ?_
 refine c_then ?_
 obtain ⟨o1, G1, K1⟩ := bindE H
 refine c_seqJ (fun a w => ∃ x1 : Int, some (x1) = some o1 ∧ Fr 24 [] [(0, .int .i64 p0), (2, .string (bs ([] : List UInt8))), (3, .int .i64 x1)] a ∧ Stw ⟨Y, [], w0⟩ [] [] w) ?_ ?_
 ·
  have H := G1
  clear G1 K1
  refine c_seq ?_
  refine reg_list ?_
  refine ls hF hW rfl ((y_move hF rfl).q) (fun a w hF hW => ?_)
  refine ls hF hW rfl ((y_lss hF rfl rfl).q) (fun a w hF hW => ?_)
  refine ls_nil ?_
  refine c_then ?_
  refine c_cond hF rfl (fun hb => ?_) (fun hb => ?_)
  ·
   have H := iteT (of_decide_eq_true hb) H
   rw [hb] at hF
   clear hb
   refine reg_list ?_
   refine ls hF hW rfl ((y_move hF rfl).q) (fun a w hF hW => ?_)
   refine ls hF hW rfl ((y_add hF rfl rfl rfl).q) (fun a w hF hW => ?_)
   refine ls hF hW rfl ((y_assign hF rfl).q) (fun a w hF hW => ?_)
   refine ls_nil ?_
   refine c_then ?_
   exact ⟨_, H, hF.re ⟨rfl, rfl, rfl, trivial⟩, hW⟩
  ·
   have H := iteF (of_decide_eq_false hb) H
   rw [hb] at hF
   clear hb
   refine wp_skip ?_
   refine c_then ?_
   exact ⟨_, H, hF.re ⟨rfl, rfl, rfl, trivial⟩, hW⟩
 rintro a w ⟨x1, hj, hF, hW⟩
 have hj := Option.some.inj hj
 subst hj
 have H := K1
 clear G1 K1
 refine c_seq ?_
 refine reg_list ?_
 refine ls hF hW rfl ((y_move hF rfl).q) (fun a w hF hW => ?_)
 refine ls hF hW rfl ((y_move hF rfl).q) (fun a w hF hW => ?_)
 refine ls hF hW rfl ((y_sub hF rfl rfl rfl).q) (fun a w hF hW => ?_)
 refine ls hF hW rfl ((y_quo hF rfl rfl (by decide) rfl).q) (fun a w hF hW => ?_)
 refine ls hF hW rfl ((y_assign hF rfl).q) (fun a w hF hW => ?_)
 refine ls_nil ?_
 refine c_then ?_
 obtain ⟨o2, G2, K2⟩ := bindE H
 refine c_seqJ (fun a w => ∃ x2 : Int, some (x2) = some o2 ∧ Fr 24 [] [(2, .string (bs ([] : List UInt8))), (3, .int .i64 x1), (4, .int .i64 x2)] a ∧ Stw ⟨Y, [], w0⟩ [] [] w) ?_ ?_
 ·
  have H := G2
  clear G2 K2
  refine c_seq ?_
  refine reg_list ?_
  refine ls hF hW rfl ((y_move hF rfl).q) (fun a w hF hW => ?_)
  refine ls hF hW rfl ((y_lss hF rfl rfl).q) (fun a w hF hW => ?_)
  refine ls_nil ?_
  refine c_then ?_
  refine c_cond hF rfl (fun hb => ?_) (fun hb => ?_)
  ·
   have H := iteT (of_decide_eq_true hb) H
   rw [hb] at hF
   clear hb
   refine reg_list ?_
   refine ls hF hW rfl ((y_move hF rfl).q) (fun a w hF hW => ?_)
   refine ls hF hW rfl ((y_add hF rfl rfl rfl).q) (fun a w hF hW => ?_)
   refine ls hF hW rfl ((y_assign hF rfl).q) (fun a w hF hW => ?_)
   refine ls_nil ?_
   refine c_then ?_
   exact ⟨_, H, hF.re ⟨rfl, rfl, rfl, trivial⟩, hW⟩
  ·
   have H := iteF (of_decide_eq_false hb) H
   rw [hb] at hF
   clear hb
   refine wp_skip ?_
   refine c_then ?_
   exact ⟨_, H, hF.re ⟨rfl, rfl, rfl, trivial⟩, hW⟩
 rintro a w ⟨x2, hj, hF, hW⟩
 have hj := Option.some.inj hj
 subst hj
 have H := K2
 clear G2 K2
 refine c_seq ?_
 refine reg_list ?_
 refine ls hF hW rfl ((y_move hF rfl).q) (fun a w hF hW => ?_)
 obtain ⟨x3, h1, H⟩ := bindE H
 refine ls hF hW rfl (y_call (v := Value.string (bs x3)) hF H34 rfl (fun w hW => r04_Num_c any w x2 4 _ h1)) (fun a w hF hW => ?_)
 refine ls hF hW rfl ((y_move hF rfl).q) (fun a w hF hW => ?_)
 obtain ⟨x4, h2, H⟩ := bindE H
 refine ls hF hW rfl (y_call (v := Value.string (bs x4)) hF H34 rfl (fun w hW => r04_Num_c any w x1 4 _ h2)) (fun a w hF hW => ?_)
 obtain ⟨x5, h3, H⟩ := bindE H
 refine ls hF hW rfl ((y_sadd (l := x3) (m := x4) hF rfl rfl h3).q) (fun a w hF hW => ?_)
 refine ls hF hW rfl ((y_assign hF rfl).q) (fun a w hF hW => ?_)
 refine ls_nil ?_
 refine c_then ?_
 refine wp_ret ?_
 have H := Option.some.inj H
 subst H
 refine post1 (.inl rfl) hF hW rfl (rv_tmp hF rfl) ?_
 exact ⟨rfl, hW.done⟩

theorem H35 : Has Try.prog 35 := ⟨fun args w => run_callFunc_body Try.func35 rfl (by decide) args w⟩
noncomputable def r08_Code_l1 (p0 : Int × (Int × Int × Int × Int) × (Int × Int × Int × Int)) : (List UInt8 × Int) → Option ((List UInt8 × Int) ⊕ (List UInt8))
  | (x3, x4) => (if x4 < 4 then (ix ([p0.2.1.1, p0.2.1.2.1, p0.2.1.2.2.1, p0.2.1.2.2.2] : List Int) x4).bind fun x5 => (r04_Num x5 1).bind fun x6 => (app x3 x6).bind fun x7 => (ix ([p0.2.2.1, p0.2.2.2.1, p0.2.2.2.2.1, p0.2.2.2.2.2] : List Int) x4).bind fun x8 => (r04_Num x8 1).bind fun x9 => (app x7 x9).bind fun x10 => some (.inl (x10, w64 (x4 + 1))) else some (.inr x3))
noncomputable def r08_Code (p0 : Int × (Int × Int × Int × Int) × (Int × Int × Int × Int)) : Option (List UInt8) := (r04_Num (w64 (p0.1 + 1)) 1).bind fun x1 => (loopW (r08_Code_l1 p0) (x1, 0)).bind fun x2 => some x2
theorem r08_Code_c (Y : Nat → Prop) (w0 : World)  (p0 : Int × (Int × Int × Int × Int) × (Int × Int × Int × Int)) (r : List UInt8) (H : r08_Code p0 = some r)  :
    Calls Try.prog 69 #[.agg #[.int .i64 p0.1, .int .i64 p0.2.1.1, .int .i64 p0.2.1.2.1, .int .i64 p0.2.1.2.2.1, .int .i64 p0.2.1.2.2.2, .int .i64 p0.2.2.1, .int .i64 p0.2.2.2.1, .int .i64 p0.2.2.2.2.1, .int .i64 p0.2.2.2.2.2]] w0 fun e w' => e = .returned (.string (bs r)) ∧ Below w0.heap.size w0 w' := by
 refine enter Try.func69 rfl Try.ntmps69 rfl (fun a hF => ?_)
 have hW := Stw.start Y w0
 unfold r08_Code at H
 refine c_seq ?_
 refine reg_list ?_
 refine l_box (cs := [.int .i64 p0.1, .int .i64 p0.2.1.1, .int .i64 p0.2.1.2.1, .int .i64 p0.2.1.2.2.1, .int .i64 p0.2.1.2.2.2, .int .i64 p0.2.2.1, .int .i64 p0.2.2.2.1, .int .i64 p0.2.2.2.2.1, .int .i64 p0.2.2.2.2.2]) hF hW rfl rfl rfl (fun b1 a w hF hW => ?_)
 refine ls hF hW rfl ((y_assign (v := Value.string (bs ([] : List UInt8))) hF rfl).q) (fun a w hF hW => ?_)
 refine ls_nil ?_
 refine c_then ?_
 refine c_seq ?_
 refine reg_list ?_
 refine ls hF hW rfl ((y_fieldAddr u37_ rfl rfl rfl T3 hF rfl 0 rfl).q) (fun a w hF hW => ?_)
 refine ls hF hW rfl ((y_load (v := Value.int .i64 p0.1) 0 hF rfl rfl T3 rfl).q) (fun a w hF hW => ?_)
 refine ls hF hW rfl ((y_add hF rfl rfl rfl).q) (fun a w hF hW => ?_)
 obtain ⟨x1, h1, H⟩ := bindE H
 refine ls hF hW rfl (y_call (v := Value.string (bs x1)) hF H34 rfl (fun w hW => r04_Num_c any w (w64 (p0.1 + 1)) 1 _ h1)) (fun a w hF hW => ?_)
 refine ls hF hW rfl ((y_assign hF rfl).q) (fun a w hF hW => ?_)
 refine ls_nil ?_
 refine c_then ?_
 obtain ⟨o1, G1, K1⟩ := bindE H
 refine c_seqJ (fun a w => ∃ x2 : List UInt8, some (x2) = some o1 ∧ Fr 27 [] [(2, .string (bs ([] : List UInt8))), (3, .string (bs x2))] a ∧ Stw ⟨Y, [], w0⟩ [(b1, [.int .i64 p0.1, .int .i64 p0.2.1.1, .int .i64 p0.2.1.2.1, .int .i64 p0.2.1.2.2.1, .int .i64 p0.2.1.2.2.2, .int .i64 p0.2.2.1, .int .i64 p0.2.2.2.1, .int .i64 p0.2.2.2.2.1, .int .i64 p0.2.2.2.2.2])] [] w) ?_ ?_
 ·
  have H := G1
  clear G1 K1
  refine c_seq ?_
  refine reg_list ?_
  refine ls hF hW rfl ((y_assign hF rfl).q) (fun a w hF hW => ?_)
  refine ls_nil ?_
  refine c_then ?_
  refine wp_block ?_
  refine c_loopW H (fun s a w => Fr 27 [] [(1, .pointer (some ⟨b1, 0, none⟩)), (2, .string (bs ([] : List UInt8))), (3, .string (bs s.1)), (4, .int .i64 s.2)] a ∧ Stw ⟨Y, [], w0⟩ [(b1, [.int .i64 p0.1, .int .i64 p0.2.1.1, .int .i64 p0.2.1.2.1, .int .i64 p0.2.1.2.2.1, .int .i64 p0.2.1.2.2.2, .int .i64 p0.2.2.1, .int .i64 p0.2.2.2.1, .int .i64 p0.2.2.2.2.1, .int .i64 p0.2.2.2.2.2])] [] w) ⟨hF.re ⟨rfl, rfl, rfl, rfl, trivial⟩, hW⟩ (fun s o a w H L2 hR => ?_)
  obtain ⟨x3, x4⟩ := s
  obtain ⟨hF, hW⟩ := hR
  have hF : Fr 27 [] [(1, .pointer (some ⟨b1, 0, none⟩)), (2, .string (bs ([] : List UInt8))), (3, .string (bs x3)), (4, .int .i64 x4)] a := hF
  have hW : Stw ⟨Y, [], w0⟩ [(b1, [.int .i64 p0.1, .int .i64 p0.2.1.1, .int .i64 p0.2.1.2.1, .int .i64 p0.2.1.2.2.1, .int .i64 p0.2.1.2.2.2, .int .i64 p0.2.2.1, .int .i64 p0.2.2.2.1, .int .i64 p0.2.2.2.2.1, .int .i64 p0.2.2.2.2.2])] [] w := hW
  rw [r08_Code_l1] at H
  refine c_seq ?_
  refine c_seq ?_
  refine reg_list ?_
  refine ls hF hW rfl ((y_move hF rfl).q) (fun a w hF hW => ?_)
  refine ls hF hW rfl ((y_lss hF rfl rfl).q) (fun a w hF hW => ?_)
  refine ls_nil ?_
  refine c_then ?_
  refine c_cond hF rfl (fun hb => ?_) (fun hb => ?_)
  ·
   have H := iteT (of_decide_eq_true hb) H
   rw [hb] at hF
   clear hb
   refine wp_skip ?_
   refine c_then ?_
   refine c_seq ?_
   refine wp_block ?_
   refine reg_quiet hW MO (by kernel_rfl) ?_
   refine qs hF rfl ((y_move hF rfl).q) (fun a hF => ?_)
   refine qs hF rfl ((y_move hF rfl).q) (fun a hF => ?_)
   refine qs hF rfl ((y_fieldAddr u37_ rfl rfl rfl T35 hF rfl 1 rfl).q) (fun a hF => ?_)
   obtain ⟨x5, h2, H⟩ := bindE H
   refine qs hF rfl ((y_indexP (1 + (x4).toNat * 1) Ar35 hF rfl rfl rfl h2 rfl).q) (fun a hF => ?_)
   refine qs hF rfl ((y_load (v := Value.int .i64 x5) 0 hF rfl rfl T3 (rdv_dyn (base := 1) (m := 4) (l := [p0.2.1.1, p0.2.1.2.1, p0.2.1.2.2.1, p0.2.1.2.2.2]) (enc := Value.int .i64) rfl h2)).q) (fun a hF => ?_)
   obtain ⟨x6, h3, H⟩ := bindE H
   refine qs hF rfl (y_call (v := Value.string (bs x6)) hF H34 rfl (fun w hW => r04_Num_c any w x5 1 _ h3)) (fun a hF => ?_)
   obtain ⟨x7, h4, H⟩ := bindE H
   refine qs hF rfl ((y_sadd (l := x3) (m := x6) hF rfl rfl h4).q) (fun a hF => ?_)
   refine qs hF rfl ((y_move hF rfl).q) (fun a hF => ?_)
   refine qs hF rfl ((y_fieldAddr u37_ rfl rfl rfl T35 hF rfl 5 rfl).q) (fun a hF => ?_)
   obtain ⟨x8, h5, H⟩ := bindE H
   refine qs hF rfl ((y_indexP (5 + (x4).toNat * 1) Ar35 hF rfl rfl rfl h5 rfl).q) (fun a hF => ?_)
   refine qs hF rfl ((y_load (v := Value.int .i64 x8) 0 hF rfl rfl T3 (rdv_dyn (base := 5) (m := 4) (l := [p0.2.2.1, p0.2.2.2.1, p0.2.2.2.2.1, p0.2.2.2.2.2]) (enc := Value.int .i64) rfl h5)).q) (fun a hF => ?_)
   obtain ⟨x9, h6, H⟩ := bindE H
   refine qs hF rfl (y_call (v := Value.string (bs x9)) hF H34 rfl (fun w hW => r04_Num_c any w x8 1 _ h6)) (fun a hF => ?_)
   obtain ⟨x10, h7, H⟩ := bindE H
   refine qs hF rfl ((y_sadd (l := x7) (m := x9) hF rfl rfl h7).q) (fun a hF => ?_)
   refine qs hF rfl ((y_assign hF rfl).q) (fun a hF => ?_)
   refine quiet_end (fun w hW => ?_)
   refine b_normal ?_
   refine c_then ?_
   refine reg_list ?_
   refine ls hF hW rfl ((y_move hF rfl).q) (fun a w hF hW => ?_)
   refine ls hF hW rfl ((y_add hF rfl rfl rfl).q) (fun a w hF hW => ?_)
   refine ls hF hW rfl ((y_assign hF rfl).q) (fun a w hF hW => ?_)
   refine ls_nil ?_
   refine c_then ?_
   exact ⟨_, H, hF.re ⟨rfl, rfl, rfl, rfl, trivial⟩, hW⟩
  ·
   have H := iteF (of_decide_eq_false hb) H
   rw [hb] at hF
   clear hb
   refine wp_exit ?_
   refine e_then ?_
   refine e_then ?_
   refine e_block ?_
   refine c_then ?_
   have H := L2 _ H
   exact ⟨_, H, hF.re ⟨rfl, rfl, trivial⟩, hW⟩
 rintro a w ⟨x2, hj, hF, hW⟩
 have hj := Option.some.inj hj
 subst hj
 have H := K1
 clear G1 K1
 refine c_seq ?_
 refine reg_list ?_
 refine ls hF hW rfl ((y_move hF rfl).q) (fun a w hF hW => ?_)
 refine ls hF hW rfl ((y_assign hF rfl).q) (fun a w hF hW => ?_)
 refine ls_nil ?_
 refine c_then ?_
 refine wp_ret ?_
 have H := Option.some.inj H
 subst H
 refine post1 (.inl rfl) hF hW rfl (rv_tmp hF rfl) ?_
 exact ⟨rfl, hW.done⟩

theorem H69 : Has Try.prog 69 := ⟨fun args w => run_callFunc_body Try.func69 rfl (by decide) args w⟩
noncomputable def r09_Code_l1 (p0 : List (Int × Int × Int)) : (List UInt8 × Int) → Option ((List UInt8 × Int) ⊕ (List UInt8))
  | (x3, x4) => (if x4 < (p0.length : Int) then (ix p0 x4).bind fun x5 => (r04_Num x5.1 1).bind fun x6 => (app x3 x6).bind fun x7 => (ix p0 x4).bind fun x8 => (r04_Num x8.2.1 1).bind fun x9 => (app x7 x9).bind fun x10 => (ix p0 x4).bind fun x11 => (r04_Num x11.2.2 1).bind fun x12 => (app x10 x12).bind fun x13 => some (.inl (x13, w64 (x4 + 1))) else some (.inr x3))
noncomputable def r09_Code (p0 : List (Int × Int × Int)) : Option (List UInt8) := (r04_Num (p0.length : Int) 1).bind fun x1 => (loopW (r09_Code_l1 p0) (x1, 0)).bind fun x2 => some x2
theorem r09_Code_c (Y : Nat → Prop) (w0 : World) (v1 : Value) (p0 : List (Int × Int × Int)) (r : List UInt8) (H : r09_Code p0 = some r) (h_v1 : Sl w0 (NX []) R77 v1 p0) :
    Calls Try.prog 70 #[v1] w0 fun e w' => e = .returned (.string (bs r)) ∧ Below w0.heap.size w0 w' := by
 refine enter Try.func70 rfl Try.ntmps70 rfl (fun a hF => ?_)
 have hW := Stw.start Y w0
 unfold r09_Code at H
 refine c_seq ?_
 refine reg_list ?_
 refine ls hF hW rfl ((y_assign (v := Value.string (bs ([] : List UInt8))) hF rfl).q) (fun a w hF hW => ?_)
 refine ls_nil ?_
 refine c_then ?_
 refine c_seq ?_
 refine reg_list ?_
 refine ls hF hW rfl ((y_move hF rfl).q) (fun a w hF hW => ?_)
 refine ls hF hW rfl ((y_len (r := R77) (l := p0) u38_ rfl hF rfl (rdc_ro h_v1)).q) (fun a w hF hW => ?_)
 obtain ⟨x1, h1, H⟩ := bindE H
 refine ls hF hW rfl (y_call (v := Value.string (bs x1)) hF H34 rfl (fun w hW => r04_Num_c any w (p0.length : Int) 1 _ h1)) (fun a w hF hW => ?_)
 refine ls hF hW rfl ((y_assign hF rfl).q) (fun a w hF hW => ?_)
 refine ls_nil ?_
 refine c_then ?_
 obtain ⟨o1, G1, K1⟩ := bindE H
 refine c_seqJ (fun a w => ∃ x2 : List UInt8, some (x2) = some o1 ∧ Fr 37 [] [(2, .string (bs ([] : List UInt8))), (3, .string (bs x2))] a ∧ Stw ⟨Y, [], w0⟩ [] [] w) ?_ ?_
 ·
  have H := G1
  clear G1 K1
  refine c_seq ?_
  refine reg_list ?_
  refine ls hF hW rfl ((y_assign hF rfl).q) (fun a w hF hW => ?_)
  refine ls_nil ?_
  refine c_then ?_
  refine wp_block ?_
  refine c_loopW H (fun s a w => Fr 37 [] [(0, v1), (2, .string (bs ([] : List UInt8))), (3, .string (bs s.1)), (4, .int .i64 s.2)] a ∧ Stw ⟨Y, [], w0⟩ [] [] w) ⟨hF.re ⟨rfl, rfl, rfl, rfl, trivial⟩, hW⟩ (fun s o a w H L2 hR => ?_)
  obtain ⟨x3, x4⟩ := s
  obtain ⟨hF, hW⟩ := hR
  have hF : Fr 37 [] [(0, v1), (2, .string (bs ([] : List UInt8))), (3, .string (bs x3)), (4, .int .i64 x4)] a := hF
  have hW : Stw ⟨Y, [], w0⟩ [] [] w := hW
  rw [r09_Code_l1] at H
  refine c_seq ?_
  refine c_seq ?_
  refine reg_list ?_
  refine ls hF hW rfl ((y_move hF rfl).q) (fun a w hF hW => ?_)
  refine ls hF hW rfl ((y_move hF rfl).q) (fun a w hF hW => ?_)
  refine ls hF hW rfl ((y_len (r := R77) (l := p0) u38_ rfl hF rfl (rdc_ro h_v1)).q) (fun a w hF hW => ?_)
  refine ls hF hW rfl ((y_lss hF rfl rfl).q) (fun a w hF hW => ?_)
  refine ls_nil ?_
  refine c_then ?_
  refine c_cond hF rfl (fun hb => ?_) (fun hb => ?_)
  ·
   have H := iteT (of_decide_eq_true hb) H
   rw [hb] at hF
   clear hb
   refine wp_skip ?_
   refine c_then ?_
   refine c_seq ?_
   refine wp_block ?_
   refine reg_quiet hW MO (by kernel_rfl) ?_
   refine qs hF rfl ((y_move hF rfl).q) (fun a hF => ?_)
   refine qs hF rfl ((y_move hF rfl).q) (fun a hF => ?_)
   refine qs hF rfl ((y_move hF rfl).q) (fun a hF => ?_)
   obtain ⟨x5, h2, H⟩ := bindE H
   refine qs hF rfl ((y_index (r := R77) L38 hF rfl rfl (rdc_ro h_v1) h2).q) (fun a hF => ?_)
   refine qs hF rfl ((y_fieldAddr u77_ rfl rfl rfl T3 hF rfl (voff v1 + (x4).toNat * 3) rfl).q) (fun a hF => ?_)
   refine qs hF rfl ((y_load_el (y := Value.int .i64 x5.1) (j := 0) (i := x4) hF rfl rfl (rdc_ro h_v1) h2 F77.to T3 rfl).q) (fun a hF => ?_)
   obtain ⟨x6, h3, H⟩ := bindE H
   refine qs hF rfl (y_call (v := Value.string (bs x6)) hF H34 rfl (fun w hW => r04_Num_c any w x5.1 1 _ h3)) (fun a hF => ?_)
   obtain ⟨x7, h4, H⟩ := bindE H
   refine qs hF rfl ((y_sadd (l := x3) (m := x6) hF rfl rfl h4).q) (fun a hF => ?_)
   refine qs hF rfl ((y_move hF rfl).q) (fun a hF => ?_)
   refine qs hF rfl ((y_move hF rfl).q) (fun a hF => ?_)
   obtain ⟨x8, h5, H⟩ := bindE H
   refine qs hF rfl ((y_index (r := R77) L38 hF rfl rfl (rdc_ro h_v1) h5).q) (fun a hF => ?_)
   refine qs hF rfl ((y_fieldAddr u77_ rfl rfl rfl T3 hF rfl (voff v1 + (x4).toNat * 3 + 1) rfl).q) (fun a hF => ?_)
   refine qs hF rfl ((y_load_el (y := Value.int .i64 x8.2.1) (j := 1) (i := x4) hF rfl rfl (rdc_ro h_v1) h5 F77.to T3 rfl).q) (fun a hF => ?_)
   obtain ⟨x9, h6, H⟩ := bindE H
   refine qs hF rfl (y_call (v := Value.string (bs x9)) hF H34 rfl (fun w hW => r04_Num_c any w x8.2.1 1 _ h6)) (fun a hF => ?_)
   obtain ⟨x10, h7, H⟩ := bindE H
   refine qs hF rfl ((y_sadd (l := x7) (m := x9) hF rfl rfl h7).q) (fun a hF => ?_)
   refine qs hF rfl ((y_move hF rfl).q) (fun a hF => ?_)
   refine qs hF rfl ((y_move hF rfl).q) (fun a hF => ?_)
   obtain ⟨x11, h8, H⟩ := bindE H
   refine qs hF rfl ((y_index (r := R77) L38 hF rfl rfl (rdc_ro h_v1) h8).q) (fun a hF => ?_)
   refine qs hF rfl ((y_fieldAddr u77_ rfl rfl rfl T3 hF rfl (voff v1 + (x4).toNat * 3 + 2) rfl).q) (fun a hF => ?_)
   refine qs hF rfl ((y_load_el (y := Value.int .i64 x11.2.2) (j := 2) (i := x4) hF rfl rfl (rdc_ro h_v1) h8 F77.to T3 rfl).q) (fun a hF => ?_)
   obtain ⟨x12, h9, H⟩ := bindE H
   refine qs hF rfl (y_call (v := Value.string (bs x12)) hF H34 rfl (fun w hW => r04_Num_c any w x11.2.2 1 _ h9)) (fun a hF => ?_)
   obtain ⟨x13, h10, H⟩ := bindE H
   refine qs hF rfl ((y_sadd (l := x10) (m := x12) hF rfl rfl h10).q) (fun a hF => ?_)
   refine qs hF rfl ((y_assign hF rfl).q) (fun a hF => ?_)
   refine quiet_end (fun w hW => ?_)
   refine b_normal ?_
   refine c_then ?_
   refine reg_list ?_
   refine ls hF hW rfl ((y_move hF rfl).q) (fun a w hF hW => ?_)
   refine ls hF hW rfl ((y_add hF rfl rfl rfl).q) (fun a w hF hW => ?_)
   refine ls hF hW rfl ((y_assign hF rfl).q) (fun a w hF hW => ?_)
   refine ls_nil ?_
   refine c_then ?_
   exact ⟨_, H, hF.re ⟨rfl, rfl, rfl, rfl, trivial⟩, hW⟩
  ·
   have H := iteF (of_decide_eq_false hb) H
   rw [hb] at hF
   clear hb
   refine wp_exit ?_
   refine e_then ?_
   refine e_then ?_
   refine e_block ?_
   refine c_then ?_
   have H := L2 _ H
   exact ⟨_, H, hF.re ⟨rfl, rfl, trivial⟩, hW⟩
 rintro a w ⟨x2, hj, hF, hW⟩
 have hj := Option.some.inj hj
 subst hj
 have H := K1
 clear G1 K1
 refine c_seq ?_
 refine reg_list ?_
 refine ls hF hW rfl ((y_move hF rfl).q) (fun a w hF hW => ?_)
 refine ls hF hW rfl ((y_assign hF rfl).q) (fun a w hF hW => ?_)
 refine ls_nil ?_
 refine c_then ?_
 refine wp_ret ?_
 have H := Option.some.inj H
 subst H
 refine post1 (.inl rfl) hF hW rfl (rv_tmp hF rfl) ?_
 exact ⟨rfl, hW.done⟩

theorem H70 : Has Try.prog 70 := ⟨fun args w => run_callFunc_body Try.func70 rfl (by decide) args w⟩
noncomputable def r10_Code (p0 : Int × (Int × (Int × Int × Int × Int) × (Int × Int × Int × Int)) × (List (Int × Int × Int))) : Option (List UInt8) := (r04_Num p0.1 2).bind fun x1 => (r08_Code p0.2.1).bind fun x2 => (app x1 x2).bind fun x3 => (r09_Code p0.2.2).bind fun x4 => (app x3 x4).bind fun x5 => some x5
theorem r10_Code_c (Y : Nat → Prop) (w0 : World) (v1 : Value) (p0 : Int × (Int × (Int × Int × Int × Int) × (Int × Int × Int × Int)) × (List (Int × Int × Int))) (r : List UInt8) (H : r10_Code p0 = some r) (h_v1 : Sl w0 (NX []) R77 v1 p0.2.2) :
    Calls Try.prog 52 #[.agg #[.int .i64 p0.1, .int .i64 p0.2.1.1, .int .i64 p0.2.1.2.1.1, .int .i64 p0.2.1.2.1.2.1, .int .i64 p0.2.1.2.1.2.2.1, .int .i64 p0.2.1.2.1.2.2.2, .int .i64 p0.2.1.2.2.1, .int .i64 p0.2.1.2.2.2.1, .int .i64 p0.2.1.2.2.2.2.1, .int .i64 p0.2.1.2.2.2.2.2, v1]] w0 fun e w' => e = .returned (.string (bs r)) ∧ Below w0.heap.size w0 w' := by
 refine enter Try.func52 rfl Try.ntmps52 rfl (fun a hF => ?_)
 have hW := Stw.start Y w0
 unfold r10_Code at H
 refine c_seq ?_
 refine reg_list ?_
 refine l_box (cs := [.int .i64 p0.1, .int .i64 p0.2.1.1, .int .i64 p0.2.1.2.1.1, .int .i64 p0.2.1.2.1.2.1, .int .i64 p0.2.1.2.1.2.2.1, .int .i64 p0.2.1.2.1.2.2.2, .int .i64 p0.2.1.2.2.1, .int .i64 p0.2.1.2.2.2.1, .int .i64 p0.2.1.2.2.2.2.1, .int .i64 p0.2.1.2.2.2.2.2, v1]) hF hW rfl rfl rfl (fun b1 a w hF hW => ?_)
 refine ls hF hW rfl ((y_assign (v := Value.string (bs ([] : List UInt8))) hF rfl).q) (fun a w hF hW => ?_)
 refine ls_nil ?_
 refine c_then ?_
 refine c_seq ?_
 refine reg_quiet hW MO (by kernel_rfl) ?_
 refine qs hF rfl ((y_fieldAddr u40_ rfl rfl rfl T3 hF rfl 0 rfl).q) (fun a hF => ?_)
 refine qs hF rfl ((y_load (v := Value.int .i64 p0.1) 0 hF rfl rfl T3 rfl).q) (fun a hF => ?_)
 obtain ⟨x1, h1, H⟩ := bindE H
 refine qs hF rfl (y_call (v := Value.string (bs x1)) hF H34 rfl (fun w hW => r04_Num_c any w p0.1 2 _ h1)) (fun a hF => ?_)
 refine qs hF rfl ((y_fieldAddr u40_ rfl rfl rfl T37 hF rfl 1 rfl).q) (fun a hF => ?_)
 refine qs hF rfl ((y_load (v := Value.agg #[.int .i64 p0.2.1.1, .int .i64 p0.2.1.2.1.1, .int .i64 p0.2.1.2.1.2.1, .int .i64 p0.2.1.2.1.2.2.1, .int .i64 p0.2.1.2.1.2.2.2, .int .i64 p0.2.1.2.2.1, .int .i64 p0.2.1.2.2.2.1, .int .i64 p0.2.1.2.2.2.2.1, .int .i64 p0.2.1.2.2.2.2.2]) 0 hF rfl rfl T37 rfl).q) (fun a hF => ?_)
 obtain ⟨x2, h2, H⟩ := bindE H
 refine qs hF rfl (y_call (v := Value.string (bs x2)) hF H69 rfl (fun w hW => r08_Code_c any w p0.2.1 _ h2)) (fun a hF => ?_)
 obtain ⟨x3, h3, H⟩ := bindE H
 refine qs hF rfl ((y_sadd (l := x1) (m := x2) hF rfl rfl h3).q) (fun a hF => ?_)
 refine qs hF rfl ((y_fieldAddr u40_ rfl rfl rfl T38 hF rfl 10 rfl).q) (fun a hF => ?_)
 refine qs hF rfl ((y_load (v := v1) 0 hF rfl rfl T38 rfl).q) (fun a hF => ?_)
 obtain ⟨x4, h4, H⟩ := bindE H
 refine qs hF rfl (y_call (v := Value.string (bs x4)) hF H70 rfl (fun w hW => r09_Code_c any w (v1) p0.2.2 _ h4 (((rdc_ro h_v1) : Rdc _ _ _ _ _ _) w hW).nx)) (fun a hF => ?_)
 obtain ⟨x5, h5, H⟩ := bindE H
 refine qs hF rfl ((y_sadd (l := x3) (m := x4) hF rfl rfl h5).q) (fun a hF => ?_)
 refine qs hF rfl ((y_assign hF rfl).q) (fun a hF => ?_)
 refine quiet_end (fun w hW => ?_)
 refine c_then ?_
 refine wp_ret ?_
 have H := Option.some.inj H
 subst H
 refine post1 (.inl rfl) hF hW rfl (rv_tmp hF rfl) ?_
 exact ⟨rfl, hW.done⟩

theorem H52 : Has Try.prog 52 := ⟨fun args w => run_callFunc_body Try.func52 rfl (by decide) args w⟩
noncomputable def r16_change (p0 : Int × (Int × (Int × (Int × Int × Int × Int) × (Int × Int × Int × Int)) × (List (Int × Int × Int))) × Bool) : Option (List UInt8) := (r04_Num p0.1 1).bind fun x1 => (if p0.2.2 = true then (app x1 ([1] : List UInt8)).bind fun x4 => some (x4, true) else (app x1 ([0] : List UInt8)).bind fun x5 => some (x5, false)).bind fun (x2, x3) => (r10_Code p0.2.1).bind fun x6 => (app x2 x6).bind fun x7 => some x7
theorem r16_change_c (Y : Nat → Prop) (w0 : World) (v1 : Value) (p0 : Int × (Int × (Int × (Int × Int × Int × Int) × (Int × Int × Int × Int)) × (List (Int × Int × Int))) × Bool) (r : List UInt8) (H : r16_change p0 = some r) (h_v1 : Sl w0 (NX []) R77 v1 p0.2.1.2.2) :
    Calls Try.prog 36 #[.agg #[.int .i64 p0.1, .int .i64 p0.2.1.1, .int .i64 p0.2.1.2.1.1, .int .i64 p0.2.1.2.1.2.1.1, .int .i64 p0.2.1.2.1.2.1.2.1, .int .i64 p0.2.1.2.1.2.1.2.2.1, .int .i64 p0.2.1.2.1.2.1.2.2.2, .int .i64 p0.2.1.2.1.2.2.1, .int .i64 p0.2.1.2.1.2.2.2.1, .int .i64 p0.2.1.2.1.2.2.2.2.1, .int .i64 p0.2.1.2.1.2.2.2.2.2, v1, .bool p0.2.2]] w0 fun e w' => e = .returned (.string (bs r)) ∧ Below w0.heap.size w0 w' := by
 refine enter Try.func36 rfl Try.ntmps36 rfl (fun a hF => ?_)
 have hW := Stw.start Y w0
 unfold r16_change at H
 refine c_seq ?_
 refine reg_list ?_
 refine l_box (cs := [.int .i64 p0.1, .int .i64 p0.2.1.1, .int .i64 p0.2.1.2.1.1, .int .i64 p0.2.1.2.1.2.1.1, .int .i64 p0.2.1.2.1.2.1.2.1, .int .i64 p0.2.1.2.1.2.1.2.2.1, .int .i64 p0.2.1.2.1.2.1.2.2.2, .int .i64 p0.2.1.2.1.2.2.1, .int .i64 p0.2.1.2.1.2.2.2.1, .int .i64 p0.2.1.2.1.2.2.2.2.1, .int .i64 p0.2.1.2.1.2.2.2.2.2, v1, .bool p0.2.2]) hF hW rfl rfl rfl (fun b1 a w hF hW => ?_)
 refine ls hF hW rfl ((y_assign (v := Value.string (bs ([] : List UInt8))) hF rfl).q) (fun a w hF hW => ?_)
 refine ls_nil ?_
 refine c_then ?_
 refine c_seq ?_
 refine reg_list ?_
 refine ls hF hW rfl ((y_fieldAddr u42_ rfl rfl rfl T3 hF rfl 0 rfl).q) (fun a w hF hW => ?_)
 refine ls hF hW rfl ((y_load (v := Value.int .i64 p0.1) 0 hF rfl rfl T3 rfl).q) (fun a w hF hW => ?_)
 obtain ⟨x1, h1, H⟩ := bindE H
 refine ls hF hW rfl (y_call (v := Value.string (bs x1)) hF H34 rfl (fun w hW => r04_Num_c any w p0.1 1 _ h1)) (fun a w hF hW => ?_)
 refine ls hF hW rfl ((y_assign hF rfl).q) (fun a w hF hW => ?_)
 refine ls_nil ?_
 refine c_then ?_
 obtain ⟨o1, G1, K1⟩ := bindE H
 refine c_seqJ (fun a w => ∃ x2 : List UInt8, ∃ x3 : Bool, some ((x2, x3)) = some o1 ∧ Fr 18 [] [(1, .pointer (some ⟨b1, 0, none⟩)), (2, .string (bs ([] : List UInt8))), (3, .string (bs x2))] a ∧ Stw ⟨Y, [], w0⟩ [(b1, [.int .i64 p0.1, .int .i64 p0.2.1.1, .int .i64 p0.2.1.2.1.1, .int .i64 p0.2.1.2.1.2.1.1, .int .i64 p0.2.1.2.1.2.1.2.1, .int .i64 p0.2.1.2.1.2.1.2.2.1, .int .i64 p0.2.1.2.1.2.1.2.2.2, .int .i64 p0.2.1.2.1.2.2.1, .int .i64 p0.2.1.2.1.2.2.2.1, .int .i64 p0.2.1.2.1.2.2.2.2.1, .int .i64 p0.2.1.2.1.2.2.2.2.2, v1, .bool x3])] [] w) ?_ ?_
 ·
  have H := G1
  clear G1 K1
  refine c_seq ?_
  refine reg_list ?_
  refine ls hF hW rfl ((y_fieldAddr u42_ rfl rfl rfl T4 hF rfl 12 rfl).q) (fun a w hF hW => ?_)
  refine ls hF hW rfl ((y_load (v := Value.bool p0.2.2) 0 hF rfl rfl T4 rfl).q) (fun a w hF hW => ?_)
  refine ls_nil ?_
  refine c_then ?_
  refine c_cond hF rfl (fun hb => ?_) (fun hb => ?_)
  ·
   have H := iteT hb H
   rw [hb] at hF
   rw [hb] at hW
   clear hb
   refine reg_list ?_
   refine ls hF hW rfl ((y_move hF rfl).q) (fun a w hF hW => ?_)
   obtain ⟨x4, h2, H⟩ := bindE H
   refine ls hF hW rfl ((y_sadd (l := x1) (m := ([1] : List UInt8)) hF rfl rfl h2).q) (fun a w hF hW => ?_)
   refine ls hF hW rfl ((y_assign hF rfl).q) (fun a w hF hW => ?_)
   refine ls_nil ?_
   refine c_then ?_
   exact ⟨_, _, H, hF.re ⟨rfl, rfl, rfl, trivial⟩, hW⟩
  ·
   have H := iteF (by rw [hb]; decide) H
   rw [hb] at hF
   rw [hb] at hW
   clear hb
   refine reg_list ?_
   refine ls hF hW rfl ((y_move hF rfl).q) (fun a w hF hW => ?_)
   obtain ⟨x5, h3, H⟩ := bindE H
   refine ls hF hW rfl ((y_sadd (l := x1) (m := ([0] : List UInt8)) hF rfl rfl h3).q) (fun a w hF hW => ?_)
   refine ls hF hW rfl ((y_assign hF rfl).q) (fun a w hF hW => ?_)
   refine ls_nil ?_
   refine c_then ?_
   exact ⟨_, _, H, hF.re ⟨rfl, rfl, rfl, trivial⟩, hW⟩
 rintro a w ⟨x2, x3, hj, hF, hW⟩
 have hj := Option.some.inj hj
 subst hj
 have H := K1
 clear G1 K1
 refine c_seq ?_
 refine reg_list ?_
 refine ls hF hW rfl ((y_move hF rfl).q) (fun a w hF hW => ?_)
 refine ls hF hW rfl ((y_fieldAddr u42_ rfl rfl rfl T40 hF rfl 1 rfl).q) (fun a w hF hW => ?_)
 refine ls hF hW rfl ((y_load (v := Value.agg #[.int .i64 p0.2.1.1, .int .i64 p0.2.1.2.1.1, .int .i64 p0.2.1.2.1.2.1.1, .int .i64 p0.2.1.2.1.2.1.2.1, .int .i64 p0.2.1.2.1.2.1.2.2.1, .int .i64 p0.2.1.2.1.2.1.2.2.2, .int .i64 p0.2.1.2.1.2.2.1, .int .i64 p0.2.1.2.1.2.2.2.1, .int .i64 p0.2.1.2.1.2.2.2.2.1, .int .i64 p0.2.1.2.1.2.2.2.2.2, v1]) 0 hF rfl rfl T40 rfl).q) (fun a w hF hW => ?_)
 obtain ⟨x6, h4, H⟩ := bindE H
 refine ls hF hW rfl (y_call (v := Value.string (bs x6)) hF H52 rfl (fun w hW => r10_Code_c any w (v1) p0.2.1 _ h4 (((rdc_ro h_v1) : Rdc _ _ _ _ _ _) w hW).nx)) (fun a w hF hW => ?_)
 obtain ⟨x7, h5, H⟩ := bindE H
 refine ls hF hW rfl ((y_sadd (l := x2) (m := x6) hF rfl rfl h5).q) (fun a w hF hW => ?_)
 refine ls hF hW rfl ((y_assign hF rfl).q) (fun a w hF hW => ?_)
 refine ls_nil ?_
 refine c_then ?_
 refine wp_ret ?_
 have H := Option.some.inj H
 subst H
 refine post1 (.inl rfl) hF hW rfl (rv_tmp hF rfl) ?_
 exact ⟨rfl, hW.done⟩

theorem H36 : Has Try.prog 36 := ⟨fun args w => run_callFunc_body Try.func36 rfl (by decide) args w⟩
noncomputable def r16_Code_l1 (p0 : Int × Int × Int × Int × Int × Int × Int × Int × Int × (List (Int × (Int × (Int × (Int × Int × Int × Int) × (Int × Int × Int × Int)) × (List (Int × Int × Int))) × Bool))) : (List UInt8 × Int) → Option ((List UInt8 × Int) ⊕ (List UInt8))
  | (x39, x40) => (if x40 < (p0.2.2.2.2.2.2.2.2.2.length : Int) then (ix p0.2.2.2.2.2.2.2.2.2 x40).bind fun x41 => (r16_change x41).bind fun x42 => (app x39 x42).bind fun x43 => some (.inl (x43, w64 (x40 + 1))) else some (.inr x39))
noncomputable def r16_Code (p0 : Int × Int × Int × Int × Int × Int × Int × Int × Int × (List (Int × (Int × (Int × (Int × Int × Int × Int) × (Int × Int × Int × Int)) × (List (Int × Int × Int))) × Bool))) : Option (List UInt8) := (r04_Num p0.1 1).bind fun x1 => (r04_Num p0.2.1 1).bind fun x2 => (app x1 x2).bind fun x3 => (r04_Num p0.2.2.1 2).bind fun x4 => (r04_Num (w64 (p0.2.2.2.1 + 1)) 1).bind fun x5 => (app x4 x5).bind fun x6 => (if p0.1 = 1 then (r04_Int p0.2.2.2.2.1).bind fun x7 => (app x3 x7).bind fun x8 => some x8 else (if p0.1 = 2 then (r04_Int p0.2.2.2.2.1).bind fun x9 => (app x3 x9).bind fun x10 => (r04_Int p0.2.2.2.2.2.1).bind fun x11 => (app x10 x11).bind fun x12 => (r04_Num p0.2.2.2.2.2.2.1 2).bind fun x13 => (app x12 x13).bind fun x14 => some x14 else (if p0.1 = 4 then (r04_Int p0.2.2.2.2.2.1).bind fun x15 => (app x3 x15).bind fun x16 => (app x16 x6).bind fun x17 => some x17 else (if p0.1 = 5 then (app x3 x6).bind fun x18 => some x18 else (if p0.1 = 6 then (r04_Num p0.2.2.1 2).bind fun x19 => (app x3 x19).bind fun x20 => (r04_Num p0.2.2.2.2.2.2.2.2.1 1).bind fun x21 => (app x20 x21).bind fun x22 => some x22 else (if p0.1 = 7 then (r04_Num p0.2.2.2.2.2.2.1 2).bind fun x23 => (app x3 x23).bind fun x24 => (app x24 x6).bind fun x25 => (r04_Num p0.2.2.2.2.2.2.2.1 1).bind fun x26 => (app x25 x26).bind fun x27 => some x27 else (if p0.1 = 8 then (r04_Num p0.2.2.2.2.2.2.1 2).bind fun x28 => (app x3 x28).bind fun x29 => (app x29 x6).bind fun x30 => (r04_Num p0.2.2.2.2.2.2.2.1 1).bind fun x31 => (app x30 x31).bind fun x32 => (r04_Num p0.2.2.2.2.2.2.2.2.1 1).bind fun x33 => (app x32 x33).bind fun x34 => some x34 else (app x3 x6).bind fun x35 => (r04_Num (p0.2.2.2.2.2.2.2.2.2.length : Int) 1).bind fun x36 => (app x35 x36).bind fun x37 => (loopW (r16_Code_l1 p0) (x37, 0)).bind fun x38 => some x38)))))))
theorem r16_Code_c (Y : Nat → Prop) (w0 : World) (v1 : Value) (p0 : Int × Int × Int × Int × Int × Int × Int × Int × Int × (List (Int × (Int × (Int × (Int × Int × Int × Int) × (Int × Int × Int × Int)) × (List (Int × Int × Int))) × Bool))) (r : List UInt8) (H : r16_Code p0 = some r) (h_v1 : Sl w0 (NX []) R42 v1 p0.2.2.2.2.2.2.2.2.2) :
    Calls Try.prog 14 #[.agg #[.int .i64 p0.1, .int .i64 p0.2.1, .int .i64 p0.2.2.1, .int .i64 p0.2.2.2.1, .int .i64 p0.2.2.2.2.1, .int .i64 p0.2.2.2.2.2.1, .int .i64 p0.2.2.2.2.2.2.1, .int .i64 p0.2.2.2.2.2.2.2.1, .int .i64 p0.2.2.2.2.2.2.2.2.1, v1]] w0 fun e w' => e = .returned (.string (bs r)) ∧ Below w0.heap.size w0 w' := by
 refine enter Try.func14 rfl Try.ntmps14 rfl (fun a hF => ?_)
 have hW := Stw.start Y w0
 obtain ⟨v2, h1, h_v1⟩ := h_v1.ex EX42
 unfold r16_Code at H
 refine c_seq ?_
 refine reg_list ?_
 refine l_box (cs := [.int .i64 p0.1, .int .i64 p0.2.1, .int .i64 p0.2.2.1, .int .i64 p0.2.2.2.1, .int .i64 p0.2.2.2.2.1, .int .i64 p0.2.2.2.2.2.1, .int .i64 p0.2.2.2.2.2.2.1, .int .i64 p0.2.2.2.2.2.2.2.1, .int .i64 p0.2.2.2.2.2.2.2.2.1, v1]) hF hW rfl rfl rfl (fun b1 a w hF hW => ?_)
 refine ls hF hW rfl ((y_assign (v := Value.string (bs ([] : List UInt8))) hF rfl).q) (fun a w hF hW => ?_)
 refine ls_nil ?_
 refine c_then ?_
 refine c_seq ?_
 refine reg_quiet hW MO (by kernel_rfl) ?_
 refine qs hF rfl ((y_fieldAddr u24_ rfl rfl rfl T3 hF rfl 0 rfl).q) (fun a hF => ?_)
 refine qs hF rfl ((y_load (v := Value.int .i64 p0.1) 0 hF rfl rfl T3 rfl).q) (fun a hF => ?_)
 obtain ⟨x1, h2, H⟩ := bindE H
 refine qs hF rfl (y_call (v := Value.string (bs x1)) hF H34 rfl (fun w hW => r04_Num_c any w p0.1 1 _ h2)) (fun a hF => ?_)
 refine qs hF rfl ((y_fieldAddr u24_ rfl rfl rfl T3 hF rfl 1 rfl).q) (fun a hF => ?_)
 refine qs hF rfl ((y_load (v := Value.int .i64 p0.2.1) 0 hF rfl rfl T3 rfl).q) (fun a hF => ?_)
 obtain ⟨x2, h3, H⟩ := bindE H
 refine qs hF rfl (y_call (v := Value.string (bs x2)) hF H34 rfl (fun w hW => r04_Num_c any w p0.2.1 1 _ h3)) (fun a hF => ?_)
 obtain ⟨x3, h4, H⟩ := bindE H
 refine qs hF rfl ((y_sadd (l := x1) (m := x2) hF rfl rfl h4).q) (fun a hF => ?_)
 refine qs hF rfl ((y_assign hF rfl).q) (fun a hF => ?_)
 refine quiet_end (fun w hW => ?_)
 refine c_then ?_
 refine c_seq ?_
 refine reg_quiet hW MO (by kernel_rfl) ?_
 refine qs hF rfl ((y_fieldAddr u24_ rfl rfl rfl T3 hF rfl 2 rfl).q) (fun a hF => ?_)
 refine qs hF rfl ((y_load (v := Value.int .i64 p0.2.2.1) 0 hF rfl rfl T3 rfl).q) (fun a hF => ?_)
 obtain ⟨x4, h5, H⟩ := bindE H
 refine qs hF rfl (y_call (v := Value.string (bs x4)) hF H34 rfl (fun w hW => r04_Num_c any w p0.2.2.1 2 _ h5)) (fun a hF => ?_)
 refine qs hF rfl ((y_fieldAddr u24_ rfl rfl rfl T3 hF rfl 3 rfl).q) (fun a hF => ?_)
 refine qs hF rfl ((y_load (v := Value.int .i64 p0.2.2.2.1) 0 hF rfl rfl T3 rfl).q) (fun a hF => ?_)
 refine qs hF rfl ((y_add hF rfl rfl rfl).q) (fun a hF => ?_)
 obtain ⟨x5, h6, H⟩ := bindE H
 refine qs hF rfl (y_call (v := Value.string (bs x5)) hF H34 rfl (fun w hW => r04_Num_c any w (w64 (p0.2.2.2.1 + 1)) 1 _ h6)) (fun a hF => ?_)
 obtain ⟨x6, h7, H⟩ := bindE H
 refine qs hF rfl ((y_sadd (l := x4) (m := x5) hF rfl rfl h7).q) (fun a hF => ?_)
 refine qs hF rfl ((y_assign hF rfl).q) (fun a hF => ?_)
 refine quiet_end (fun w hW => ?_)
 refine c_then ?_
 refine c_seq ?_
 refine c_seq ?_
 refine reg_list ?_
 refine ls hF hW rfl ((y_fieldAddr u24_ rfl rfl rfl T3 hF rfl 0 rfl).q) (fun a w hF hW => ?_)
 refine ls hF hW rfl ((y_load (v := Value.int .i64 p0.1) 0 hF rfl rfl T3 rfl).q) (fun a w hF hW => ?_)
 refine ls_nil ?_
 refine c_then ?_
 refine wp_block ?_
 refine c_seq ?_
 refine reg_list ?_
 refine ls hF hW rfl ((y_eql hF rfl rfl).q) (fun a w hF hW => ?_)
 refine ls hF hW rfl ((y_assign hF rfl).q) (fun a w hF hW => ?_)
 refine ls_nil ?_
 refine c_then ?_
 refine c_cond hF rfl (fun hb => ?_) (fun hb => ?_)
 ·
  have H := iteT (of_decide_eq_true hb) H
  rw [hb] at hF
  clear hb
  refine c_seq ?_
  refine reg_list ?_
  refine ls hF hW rfl ((y_move hF rfl).q) (fun a w hF hW => ?_)
  refine ls hF hW rfl ((y_fieldAddr u24_ rfl rfl rfl T3 hF rfl 4 rfl).q) (fun a w hF hW => ?_)
  refine ls hF hW rfl ((y_load (v := Value.int .i64 p0.2.2.2.2.1) 0 hF rfl rfl T3 rfl).q) (fun a w hF hW => ?_)
  obtain ⟨x7, h8, H⟩ := bindE H
  refine ls hF hW rfl (y_call (v := Value.string (bs x7)) hF H35 rfl (fun w hW => r04_Int_c any w p0.2.2.2.2.1 _ h8)) (fun a w hF hW => ?_)
  obtain ⟨x8, h9, H⟩ := bindE H
  refine ls hF hW rfl ((y_sadd (l := x3) (m := x7) hF rfl rfl h9).q) (fun a w hF hW => ?_)
  refine ls hF hW rfl ((y_assign hF rfl).q) (fun a w hF hW => ?_)
  refine ls_nil ?_
  refine c_then ?_
  refine wp_ret ?_
  refine r_block ?_
  refine r_then ?_
  have H := Option.some.inj H
  subst H
  refine post1 (.inl rfl) hF hW rfl (rv_tmp hF rfl) ?_
  exact ⟨rfl, hW.done⟩
 ·
  have H := iteF (of_decide_eq_false hb) H
  rw [hb] at hF
  clear hb
  refine c_seq ?_
  refine reg_list ?_
  refine ls hF hW rfl ((y_eql hF rfl rfl).q) (fun a w hF hW => ?_)
  refine ls hF hW rfl ((y_assign hF rfl).q) (fun a w hF hW => ?_)
  refine ls_nil ?_
  refine c_then ?_
  refine c_cond hF rfl (fun hb => ?_) (fun hb => ?_)
  ·
   have H := iteT (of_decide_eq_true hb) H
   rw [hb] at hF
   clear hb
   refine c_seq ?_
   refine reg_quiet hW MO (by kernel_rfl) ?_
   refine qs hF rfl ((y_move hF rfl).q) (fun a hF => ?_)
   refine qs hF rfl ((y_fieldAddr u24_ rfl rfl rfl T3 hF rfl 4 rfl).q) (fun a hF => ?_)
   refine qs hF rfl ((y_load (v := Value.int .i64 p0.2.2.2.2.1) 0 hF rfl rfl T3 rfl).q) (fun a hF => ?_)
   obtain ⟨x9, h10, H⟩ := bindE H
   refine qs hF rfl (y_call (v := Value.string (bs x9)) hF H35 rfl (fun w hW => r04_Int_c any w p0.2.2.2.2.1 _ h10)) (fun a hF => ?_)
   obtain ⟨x10, h11, H⟩ := bindE H
   refine qs hF rfl ((y_sadd (l := x3) (m := x9) hF rfl rfl h11).q) (fun a hF => ?_)
   refine qs hF rfl ((y_fieldAddr u24_ rfl rfl rfl T3 hF rfl 5 rfl).q) (fun a hF => ?_)
   refine qs hF rfl ((y_load (v := Value.int .i64 p0.2.2.2.2.2.1) 0 hF rfl rfl T3 rfl).q) (fun a hF => ?_)
   obtain ⟨x11, h12, H⟩ := bindE H
   refine qs hF rfl (y_call (v := Value.string (bs x11)) hF H35 rfl (fun w hW => r04_Int_c any w p0.2.2.2.2.2.1 _ h12)) (fun a hF => ?_)
   obtain ⟨x12, h13, H⟩ := bindE H
   refine qs hF rfl ((y_sadd (l := x10) (m := x11) hF rfl rfl h13).q) (fun a hF => ?_)
   refine qs hF rfl ((y_fieldAddr u24_ rfl rfl rfl T3 hF rfl 6 rfl).q) (fun a hF => ?_)
   refine qs hF rfl ((y_load (v := Value.int .i64 p0.2.2.2.2.2.2.1) 0 hF rfl rfl T3 rfl).q) (fun a hF => ?_)
   obtain ⟨x13, h14, H⟩ := bindE H
   refine qs hF rfl (y_call (v := Value.string (bs x13)) hF H34 rfl (fun w hW => r04_Num_c any w p0.2.2.2.2.2.2.1 2 _ h14)) (fun a hF => ?_)
   obtain ⟨x14, h15, H⟩ := bindE H
   refine qs hF rfl ((y_sadd (l := x12) (m := x13) hF rfl rfl h15).q) (fun a hF => ?_)
   refine qs hF rfl ((y_assign hF rfl).q) (fun a hF => ?_)
   refine quiet_end (fun w hW => ?_)
   refine c_then ?_
   refine wp_ret ?_
   refine r_block ?_
   refine r_then ?_
   have H := Option.some.inj H
   subst H
   refine post1 (.inl rfl) hF hW rfl (rv_tmp hF rfl) ?_
   exact ⟨rfl, hW.done⟩
  ·
   have H := iteF (of_decide_eq_false hb) H
   rw [hb] at hF
   clear hb
   refine c_seq ?_
   refine reg_list ?_
   refine ls hF hW rfl ((y_eql hF rfl rfl).q) (fun a w hF hW => ?_)
   refine ls hF hW rfl ((y_assign hF rfl).q) (fun a w hF hW => ?_)
   refine ls_nil ?_
   refine c_then ?_
   refine c_cond hF rfl (fun hb => ?_) (fun hb => ?_)
   ·
    have H := iteT (of_decide_eq_true hb) H
    rw [hb] at hF
    clear hb
    refine c_seq ?_
    refine reg_list ?_
    refine ls hF hW rfl ((y_move hF rfl).q) (fun a w hF hW => ?_)
    refine ls hF hW rfl ((y_fieldAddr u24_ rfl rfl rfl T3 hF rfl 5 rfl).q) (fun a w hF hW => ?_)
    refine ls hF hW rfl ((y_load (v := Value.int .i64 p0.2.2.2.2.2.1) 0 hF rfl rfl T3 rfl).q) (fun a w hF hW => ?_)
    obtain ⟨x15, h16, H⟩ := bindE H
    refine ls hF hW rfl (y_call (v := Value.string (bs x15)) hF H35 rfl (fun w hW => r04_Int_c any w p0.2.2.2.2.2.1 _ h16)) (fun a w hF hW => ?_)
    obtain ⟨x16, h17, H⟩ := bindE H
    refine ls hF hW rfl ((y_sadd (l := x3) (m := x15) hF rfl rfl h17).q) (fun a w hF hW => ?_)
    refine ls hF hW rfl ((y_move hF rfl).q) (fun a w hF hW => ?_)
    obtain ⟨x17, h18, H⟩ := bindE H
    refine ls hF hW rfl ((y_sadd (l := x16) (m := x6) hF rfl rfl h18).q) (fun a w hF hW => ?_)
    refine ls hF hW rfl ((y_assign hF rfl).q) (fun a w hF hW => ?_)
    refine ls_nil ?_
    refine c_then ?_
    refine wp_ret ?_
    refine r_block ?_
    refine r_then ?_
    have H := Option.some.inj H
    subst H
    refine post1 (.inl rfl) hF hW rfl (rv_tmp hF rfl) ?_
    exact ⟨rfl, hW.done⟩
   ·
    have H := iteF (of_decide_eq_false hb) H
    rw [hb] at hF
    clear hb
    refine c_seq ?_
    refine reg_list ?_
    refine ls hF hW rfl ((y_eql hF rfl rfl).q) (fun a w hF hW => ?_)
    refine ls hF hW rfl ((y_assign hF rfl).q) (fun a w hF hW => ?_)
    refine ls_nil ?_
    refine c_then ?_
    refine c_cond hF rfl (fun hb => ?_) (fun hb => ?_)
    ·
     have H := iteT (of_decide_eq_true hb) H
     rw [hb] at hF
     clear hb
     refine c_seq ?_
     refine reg_list ?_
     refine ls hF hW rfl ((y_move hF rfl).q) (fun a w hF hW => ?_)
     refine ls hF hW rfl ((y_move hF rfl).q) (fun a w hF hW => ?_)
     obtain ⟨x18, h19, H⟩ := bindE H
     refine ls hF hW rfl ((y_sadd (l := x3) (m := x6) hF rfl rfl h19).q) (fun a w hF hW => ?_)
     refine ls hF hW rfl ((y_assign hF rfl).q) (fun a w hF hW => ?_)
     refine ls_nil ?_
     refine c_then ?_
     refine wp_ret ?_
     refine r_block ?_
     refine r_then ?_
     have H := Option.some.inj H
     subst H
     refine post1 (.inl rfl) hF hW rfl (rv_tmp hF rfl) ?_
     exact ⟨rfl, hW.done⟩
    ·
     have H := iteF (of_decide_eq_false hb) H
     rw [hb] at hF
     clear hb
     refine c_seq ?_
     refine reg_list ?_
     refine ls hF hW rfl ((y_eql hF rfl rfl).q) (fun a w hF hW => ?_)
     refine ls hF hW rfl ((y_assign hF rfl).q) (fun a w hF hW => ?_)
     refine ls_nil ?_
     refine c_then ?_
     refine c_cond hF rfl (fun hb => ?_) (fun hb => ?_)
     ·
      have H := iteT (of_decide_eq_true hb) H
      rw [hb] at hF
      clear hb
      refine c_seq ?_
      refine reg_quiet hW MO (by kernel_rfl) ?_
      refine qs hF rfl ((y_move hF rfl).q) (fun a hF => ?_)
      refine qs hF rfl ((y_fieldAddr u24_ rfl rfl rfl T3 hF rfl 2 rfl).q) (fun a hF => ?_)
      refine qs hF rfl ((y_load (v := Value.int .i64 p0.2.2.1) 0 hF rfl rfl T3 rfl).q) (fun a hF => ?_)
      obtain ⟨x19, h20, H⟩ := bindE H
      refine qs hF rfl (y_call (v := Value.string (bs x19)) hF H34 rfl (fun w hW => r04_Num_c any w p0.2.2.1 2 _ h20)) (fun a hF => ?_)
      obtain ⟨x20, h21, H⟩ := bindE H
      refine qs hF rfl ((y_sadd (l := x3) (m := x19) hF rfl rfl h21).q) (fun a hF => ?_)
      refine qs hF rfl ((y_fieldAddr u24_ rfl rfl rfl T3 hF rfl 8 rfl).q) (fun a hF => ?_)
      refine qs hF rfl ((y_load (v := Value.int .i64 p0.2.2.2.2.2.2.2.2.1) 0 hF rfl rfl T3 rfl).q) (fun a hF => ?_)
      obtain ⟨x21, h22, H⟩ := bindE H
      refine qs hF rfl (y_call (v := Value.string (bs x21)) hF H34 rfl (fun w hW => r04_Num_c any w p0.2.2.2.2.2.2.2.2.1 1 _ h22)) (fun a hF => ?_)
      obtain ⟨x22, h23, H⟩ := bindE H
      refine qs hF rfl ((y_sadd (l := x20) (m := x21) hF rfl rfl h23).q) (fun a hF => ?_)
      refine qs hF rfl ((y_assign hF rfl).q) (fun a hF => ?_)
      refine quiet_end (fun w hW => ?_)
      refine c_then ?_
      refine wp_ret ?_
      refine r_block ?_
      refine r_then ?_
      have H := Option.some.inj H
      subst H
      refine post1 (.inl rfl) hF hW rfl (rv_tmp hF rfl) ?_
      exact ⟨rfl, hW.done⟩
     ·
      have H := iteF (of_decide_eq_false hb) H
      rw [hb] at hF
      clear hb
      refine c_seq ?_
      refine reg_list ?_
      refine ls hF hW rfl ((y_eql hF rfl rfl).q) (fun a w hF hW => ?_)
      refine ls hF hW rfl ((y_assign hF rfl).q) (fun a w hF hW => ?_)
      refine ls_nil ?_
      refine c_then ?_
      refine c_cond hF rfl (fun hb => ?_) (fun hb => ?_)
      ·
       have H := iteT (of_decide_eq_true hb) H
       rw [hb] at hF
       clear hb
       refine c_seq ?_
       refine reg_quiet hW MO (by kernel_rfl) ?_
       refine qs hF rfl ((y_move hF rfl).q) (fun a hF => ?_)
       refine qs hF rfl ((y_fieldAddr u24_ rfl rfl rfl T3 hF rfl 6 rfl).q) (fun a hF => ?_)
       refine qs hF rfl ((y_load (v := Value.int .i64 p0.2.2.2.2.2.2.1) 0 hF rfl rfl T3 rfl).q) (fun a hF => ?_)
       obtain ⟨x23, h24, H⟩ := bindE H
       refine qs hF rfl (y_call (v := Value.string (bs x23)) hF H34 rfl (fun w hW => r04_Num_c any w p0.2.2.2.2.2.2.1 2 _ h24)) (fun a hF => ?_)
       obtain ⟨x24, h25, H⟩ := bindE H
       refine qs hF rfl ((y_sadd (l := x3) (m := x23) hF rfl rfl h25).q) (fun a hF => ?_)
       refine qs hF rfl ((y_move hF rfl).q) (fun a hF => ?_)
       obtain ⟨x25, h26, H⟩ := bindE H
       refine qs hF rfl ((y_sadd (l := x24) (m := x6) hF rfl rfl h26).q) (fun a hF => ?_)
       refine qs hF rfl ((y_fieldAddr u24_ rfl rfl rfl T3 hF rfl 7 rfl).q) (fun a hF => ?_)
       refine qs hF rfl ((y_load (v := Value.int .i64 p0.2.2.2.2.2.2.2.1) 0 hF rfl rfl T3 rfl).q) (fun a hF => ?_)
       obtain ⟨x26, h27, H⟩ := bindE H
       refine qs hF rfl (y_call (v := Value.string (bs x26)) hF H34 rfl (fun w hW => r04_Num_c any w p0.2.2.2.2.2.2.2.1 1 _ h27)) (fun a hF => ?_)
       obtain ⟨x27, h28, H⟩ := bindE H
       refine qs hF rfl ((y_sadd (l := x25) (m := x26) hF rfl rfl h28).q) (fun a hF => ?_)
       refine qs hF rfl ((y_assign hF rfl).q) (fun a hF => ?_)
       refine quiet_end (fun w hW => ?_)
       refine c_then ?_
       refine wp_ret ?_
       refine r_block ?_
       refine r_then ?_
       have H := Option.some.inj H
       subst H
       refine post1 (.inl rfl) hF hW rfl (rv_tmp hF rfl) ?_
       exact ⟨rfl, hW.done⟩
      ·
       have H := iteF (of_decide_eq_false hb) H
       rw [hb] at hF
       clear hb
       refine c_seq ?_
       refine reg_list ?_
       refine ls hF hW rfl ((y_eql hF rfl rfl).q) (fun a w hF hW => ?_)
       refine ls hF hW rfl ((y_assign hF rfl).q) (fun a w hF hW => ?_)
       refine ls_nil ?_
       refine c_then ?_
       refine c_cond hF rfl (fun hb => ?_) (fun hb => ?_)
       ·
        have H := iteT (of_decide_eq_true hb) H
        rw [hb] at hF
        clear hb
        refine c_seq ?_
        refine reg_quiet hW MO (by kernel_rfl) ?_
        refine qs hF rfl ((y_move hF rfl).q) (fun a hF => ?_)
        refine qs hF rfl ((y_fieldAddr u24_ rfl rfl rfl T3 hF rfl 6 rfl).q) (fun a hF => ?_)
        refine qs hF rfl ((y_load (v := Value.int .i64 p0.2.2.2.2.2.2.1) 0 hF rfl rfl T3 rfl).q) (fun a hF => ?_)
        obtain ⟨x28, h29, H⟩ := bindE H
        refine qs hF rfl (y_call (v := Value.string (bs x28)) hF H34 rfl (fun w hW => r04_Num_c any w p0.2.2.2.2.2.2.1 2 _ h29)) (fun a hF => ?_)
        obtain ⟨x29, h30, H⟩ := bindE H
        refine qs hF rfl ((y_sadd (l := x3) (m := x28) hF rfl rfl h30).q) (fun a hF => ?_)
        refine qs hF rfl ((y_move hF rfl).q) (fun a hF => ?_)
        obtain ⟨x30, h31, H⟩ := bindE H
        refine qs hF rfl ((y_sadd (l := x29) (m := x6) hF rfl rfl h31).q) (fun a hF => ?_)
        refine qs hF rfl ((y_fieldAddr u24_ rfl rfl rfl T3 hF rfl 7 rfl).q) (fun a hF => ?_)
        refine qs hF rfl ((y_load (v := Value.int .i64 p0.2.2.2.2.2.2.2.1) 0 hF rfl rfl T3 rfl).q) (fun a hF => ?_)
        obtain ⟨x31, h32, H⟩ := bindE H
        refine qs hF rfl (y_call (v := Value.string (bs x31)) hF H34 rfl (fun w hW => r04_Num_c any w p0.2.2.2.2.2.2.2.1 1 _ h32)) (fun a hF => ?_)
        obtain ⟨x32, h33, H⟩ := bindE H
        refine qs hF rfl ((y_sadd (l := x30) (m := x31) hF rfl rfl h33).q) (fun a hF => ?_)
        refine qs hF rfl ((y_fieldAddr u24_ rfl rfl rfl T3 hF rfl 8 rfl).q) (fun a hF => ?_)
        refine qs hF rfl ((y_load (v := Value.int .i64 p0.2.2.2.2.2.2.2.2.1) 0 hF rfl rfl T3 rfl).q) (fun a hF => ?_)
        obtain ⟨x33, h34, H⟩ := bindE H
        refine qs hF rfl (y_call (v := Value.string (bs x33)) hF H34 rfl (fun w hW => r04_Num_c any w p0.2.2.2.2.2.2.2.2.1 1 _ h34)) (fun a hF => ?_)
        obtain ⟨x34, h35, H⟩ := bindE H
        refine qs hF rfl ((y_sadd (l := x32) (m := x33) hF rfl rfl h35).q) (fun a hF => ?_)
        refine qs hF rfl ((y_assign hF rfl).q) (fun a hF => ?_)
        refine quiet_end (fun w hW => ?_)
        refine c_then ?_
        refine wp_ret ?_
        refine r_block ?_
        refine r_then ?_
        have H := Option.some.inj H
        subst H
        refine post1 (.inl rfl) hF hW rfl (rv_tmp hF rfl) ?_
        exact ⟨rfl, hW.done⟩
       ·
        have H := iteF (of_decide_eq_false hb) H
        rw [hb] at hF
        clear hb
        refine wp_skip ?_
        refine b_normal ?_
        refine c_then ?_
        refine c_seq ?_
        refine reg_list ?_
        refine ls hF hW rfl ((y_move hF rfl).q) (fun a w hF hW => ?_)
        refine ls hF hW rfl ((y_move hF rfl).q) (fun a w hF hW => ?_)
        obtain ⟨x35, h36, H⟩ := bindE H
        refine ls hF hW rfl ((y_sadd (l := x3) (m := x6) hF rfl rfl h36).q) (fun a w hF hW => ?_)
        refine ls hF hW rfl ((y_fieldAddr u24_ rfl rfl rfl T22 hF rfl 9 rfl).q) (fun a w hF hW => ?_)
        refine ls hF hW rfl ((y_load (v := v1) 0 hF rfl rfl T22 rfl).q) (fun a w hF hW => ?_)
        refine ls hF hW rfl ((y_len (r := R42) (l := p0.2.2.2.2.2.2.2.2.2) u22_ rfl hF rfl (rdc_hide EX42 h1 (rdc_ro h_v1))).q) (fun a w hF hW => ?_)
        obtain ⟨x36, h37, H⟩ := bindE H
        refine ls hF hW rfl (y_call (v := Value.string (bs x36)) hF H34 rfl (fun w hW => r04_Num_c any w (p0.2.2.2.2.2.2.2.2.2.length : Int) 1 _ h37)) (fun a w hF hW => ?_)
        obtain ⟨x37, h38, H⟩ := bindE H
        refine ls hF hW rfl ((y_sadd (l := x35) (m := x36) hF rfl rfl h38).q) (fun a w hF hW => ?_)
        refine ls hF hW rfl ((y_assign hF rfl).q) (fun a w hF hW => ?_)
        refine ls_nil ?_
        refine c_then ?_
        obtain ⟨o1, G1, K1⟩ := bindE H
        refine c_seqJ (fun a w => ∃ x38 : List UInt8, some (x38) = some o1 ∧ Fr 124 [] [(2, .string (bs ([] : List UInt8))), (3, .string (bs x38))] a ∧ Stw ⟨Y, [], w0⟩ [(b1, [.int .i64 p0.1, .int .i64 p0.2.1, .int .i64 p0.2.2.1, .int .i64 p0.2.2.2.1, .int .i64 p0.2.2.2.2.1, .int .i64 p0.2.2.2.2.2.1, .int .i64 p0.2.2.2.2.2.2.1, .int .i64 p0.2.2.2.2.2.2.2.1, .int .i64 p0.2.2.2.2.2.2.2.2.1, v1])] [] w) ?_ ?_
        ·
         have H := G1
         clear G1 K1
         refine c_seq ?_
         refine reg_list ?_
         refine ls hF hW rfl ((y_assign hF rfl).q) (fun a w hF hW => ?_)
         refine ls_nil ?_
         refine c_then ?_
         refine wp_block ?_
         refine c_loopW H (fun s a w => Fr 124 [] [(1, .pointer (some ⟨b1, 0, none⟩)), (2, .string (bs ([] : List UInt8))), (3, .string (bs s.1)), (5, .int .i64 s.2)] a ∧ Stw ⟨Y, [], w0⟩ [(b1, [.int .i64 p0.1, .int .i64 p0.2.1, .int .i64 p0.2.2.1, .int .i64 p0.2.2.2.1, .int .i64 p0.2.2.2.2.1, .int .i64 p0.2.2.2.2.2.1, .int .i64 p0.2.2.2.2.2.2.1, .int .i64 p0.2.2.2.2.2.2.2.1, .int .i64 p0.2.2.2.2.2.2.2.2.1, v1])] [] w) ⟨hF.re ⟨rfl, rfl, rfl, rfl, trivial⟩, hW⟩ (fun s o a w H L2 hR => ?_)
         obtain ⟨x39, x40⟩ := s
         obtain ⟨hF, hW⟩ := hR
         have hF : Fr 124 [] [(1, .pointer (some ⟨b1, 0, none⟩)), (2, .string (bs ([] : List UInt8))), (3, .string (bs x39)), (5, .int .i64 x40)] a := hF
         have hW : Stw ⟨Y, [], w0⟩ [(b1, [.int .i64 p0.1, .int .i64 p0.2.1, .int .i64 p0.2.2.1, .int .i64 p0.2.2.2.1, .int .i64 p0.2.2.2.2.1, .int .i64 p0.2.2.2.2.2.1, .int .i64 p0.2.2.2.2.2.2.1, .int .i64 p0.2.2.2.2.2.2.2.1, .int .i64 p0.2.2.2.2.2.2.2.2.1, v1])] [] w := hW
         rw [r16_Code_l1] at H
         refine c_seq ?_
         refine c_seq ?_
         refine reg_list ?_
         refine ls hF hW rfl ((y_move hF rfl).q) (fun a w hF hW => ?_)
         refine ls hF hW rfl ((y_fieldAddr u24_ rfl rfl rfl T22 hF rfl 9 rfl).q) (fun a w hF hW => ?_)
         refine ls hF hW rfl ((y_load (v := v1) 0 hF rfl rfl T22 rfl).q) (fun a w hF hW => ?_)
         refine ls hF hW rfl ((y_len (r := R42) (l := p0.2.2.2.2.2.2.2.2.2) u22_ rfl hF rfl (rdc_hide EX42 h1 (rdc_ro h_v1))).q) (fun a w hF hW => ?_)
         refine ls hF hW rfl ((y_lss hF rfl rfl).q) (fun a w hF hW => ?_)
         refine ls_nil ?_
         refine c_then ?_
         refine c_cond hF rfl (fun hb => ?_) (fun hb => ?_)
         ·
          have H := iteT (of_decide_eq_true hb) H
          rw [hb] at hF
          clear hb
          refine wp_skip ?_
          refine c_then ?_
          refine c_seq ?_
          refine wp_block ?_
          refine reg_list ?_
          refine ls hF hW rfl ((y_move hF rfl).q) (fun a w hF hW => ?_)
          refine ls hF hW rfl ((y_fieldAddr u24_ rfl rfl rfl T22 hF rfl 9 rfl).q) (fun a w hF hW => ?_)
          refine ls hF hW rfl ((y_load (v := v1) 0 hF rfl rfl T22 rfl).q) (fun a w hF hW => ?_)
          refine ls hF hW rfl ((y_move hF rfl).q) (fun a w hF hW => ?_)
          obtain ⟨x41, h39, H⟩ := bindE H
          obtain ⟨v3, h40, h41⟩ := ix_ex h1 h39
          have h42 : EE42 v3 = [.int .i64 x41.1, .int .i64 x41.2.1.1, .int .i64 x41.2.1.2.1.1, .int .i64 x41.2.1.2.1.2.1.1, .int .i64 x41.2.1.2.1.2.1.2.1, .int .i64 x41.2.1.2.1.2.1.2.2.1, .int .i64 x41.2.1.2.1.2.1.2.2.2, .int .i64 x41.2.1.2.1.2.2.1, .int .i64 x41.2.1.2.1.2.2.2.1, .int .i64 x41.2.1.2.1.2.2.2.2.1, .int .i64 x41.2.1.2.1.2.2.2.2.2, (v3.2.1.2.2.1), .bool x41.2.2] := congrArg (fun q : Int × (Int × (Int × (Int × Int × Int × Int) × (Int × Int × Int × Int)) × (List (Int × Int × Int))) × Bool => ([.int .i64 q.1, .int .i64 q.2.1.1, .int .i64 q.2.1.2.1.1, .int .i64 q.2.1.2.1.2.1.1, .int .i64 q.2.1.2.1.2.1.2.1, .int .i64 q.2.1.2.1.2.1.2.2.1, .int .i64 q.2.1.2.1.2.1.2.2.2, .int .i64 q.2.1.2.1.2.2.1, .int .i64 q.2.1.2.1.2.2.2.1, .int .i64 q.2.1.2.1.2.2.2.2.1, .int .i64 q.2.1.2.1.2.2.2.2.2, (v3.2.1.2.2.1), .bool q.2.2] : List Value)) h41
          refine ls hF hW rfl ((y_index (r := RX42) L22 hF rfl rfl (rdc_ro h_v1) h40).q) (fun a w hF hW => ?_)
          refine ls hF hW rfl ((y_load_el (y := Value.agg #[.int .i64 x41.1, .int .i64 x41.2.1.1, .int .i64 x41.2.1.2.1.1, .int .i64 x41.2.1.2.1.2.1.1, .int .i64 x41.2.1.2.1.2.1.2.1, .int .i64 x41.2.1.2.1.2.1.2.2.1, .int .i64 x41.2.1.2.1.2.1.2.2.2, .int .i64 x41.2.1.2.1.2.2.1, .int .i64 x41.2.1.2.1.2.2.2.1, .int .i64 x41.2.1.2.1.2.2.2.2.1, .int .i64 x41.2.1.2.1.2.2.2.2.2, (v3.2.1.2.2.1), .bool x41.2.2]) (j := 0) (i := x40) (enc := EE42) hF rfl rfl (rdc_ro h_v1) h40 FE42 T42 (by rw [h42]; rfl)).q) (fun a w hF hW => ?_)
          obtain ⟨x42, h43, H⟩ := bindE H
          refine ls hF hW rfl (y_call (v := Value.string (bs x42)) hF H36 rfl (fun w hW => r16_change_c any w ((v3.2.1.2.2.1)) x41 _ h43 (((rdc_at (rdc_ro h_v1) h40 (Path.snd (Path.fst (Path.snd (Path.snd Path.here)))) (congrArg (fun q : Int × (Int × (Int × (Int × Int × Int × Int) × (Int × Int × Int × Int)) × (List (Int × Int × Int))) × Bool => q.2.1.2.2) h41)) : Rdc _ _ _ _ _ _) w hW).nx)) (fun a w hF hW => ?_)
          obtain ⟨x43, h44, H⟩ := bindE H
          refine ls hF hW rfl ((y_sadd (l := x39) (m := x42) hF rfl rfl h44).q) (fun a w hF hW => ?_)
          refine ls hF hW rfl ((y_assign hF rfl).q) (fun a w hF hW => ?_)
          refine ls_nil ?_
          refine b_normal ?_
          refine c_then ?_
          refine reg_list ?_
          refine ls hF hW rfl ((y_move hF rfl).q) (fun a w hF hW => ?_)
          refine ls hF hW rfl ((y_add hF rfl rfl rfl).q) (fun a w hF hW => ?_)
          refine ls hF hW rfl ((y_assign hF rfl).q) (fun a w hF hW => ?_)
          refine ls_nil ?_
          refine c_then ?_
          exact ⟨_, H, hF.re ⟨rfl, rfl, rfl, rfl, trivial⟩, hW⟩
         ·
          have H := iteF (of_decide_eq_false hb) H
          rw [hb] at hF
          clear hb
          refine wp_exit ?_
          refine e_then ?_
          refine e_then ?_
          refine e_block ?_
          refine c_then ?_
          have H := L2 _ H
          exact ⟨_, H, hF.re ⟨rfl, rfl, trivial⟩, hW⟩
        rintro a w ⟨x38, hj, hF, hW⟩
        have hj := Option.some.inj hj
        subst hj
        have H := K1
        clear G1 K1
        refine c_seq ?_
        refine reg_list ?_
        refine ls hF hW rfl ((y_move hF rfl).q) (fun a w hF hW => ?_)
        refine ls hF hW rfl ((y_assign hF rfl).q) (fun a w hF hW => ?_)
        refine ls_nil ?_
        refine c_then ?_
        refine wp_ret ?_
        have H := Option.some.inj H
        subst H
        refine post1 (.inl rfl) hF hW rfl (rv_tmp hF rfl) ?_
        exact ⟨rfl, hW.done⟩

end Go.Proofs.Ytnlllglfmipllaa
