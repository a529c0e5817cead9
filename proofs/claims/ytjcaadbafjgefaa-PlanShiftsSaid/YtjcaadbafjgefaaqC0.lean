/- The functions of layer 24, lifted. Conditions: none. -/
import Derived.Test.YtjcaadbafjgefaaRows
import Derived.Test.YtjcaadbafjgefaaqA5
import Derived.Test.YtjcaadbafjgefaaqOC
import Derived.Test.YtjcaadbafjgefaaqOM
import Derived.Test.YtjcaadbafjgefaaqOX
namespace Go.Proofs.Ytjcaadbafjgefaa
open Go Go.RowKit
set_option linter.unusedVariables false
set_option linter.unusedSimpArgs false
set_option maxRecDepth 20000
noncomputable def L23_Small_l1 (p1 : List (List Int)) : Int → Option (Int ⊕ (Unit ⊕ Bool))
  | x1 => (if x1 < (p1.length : Int) then (ix p1 x1).bind fun x2 => (if 12 < (x2.length : Int) then some (.inr (.inr false)) else some (.inl (w64 (x1 + 1)))) else some (.inr (.inl ())))
noncomputable def L23_Small (p0 : Int × (List (Int × Int × Int × Int × Int × Int)) × (List (Int × Int))) (p1 : List (List Int)) : Option Bool := orR (loopW (L23_Small_l1 p1) 0) fun _ => some (decide ((p0.2.1.length : Int) ≤ 30) && (decide ((p0.2.2.length : Int) ≤ 12) && decide ((p1.length : Int) ≤ 12)))
theorem L23_Small_c (Y : Nat → Prop) (w0 : World) (v1 : Value) (v2 : Value) (v3 : Value) (p0 : Int × (List (Int × Int × Int × Int × Int × Int)) × (List (Int × Int))) (p1 : List (List Int)) (r : Bool) (H : L23_Small p0 p1 = some r) (h_v1 : Sl w0 (NX []) R62 v1 p0.2.1) (h_v2 : Sl w0 (NX []) R64 v2 p0.2.2) (h_v3 : Sl w0 (NX []) (Rp.slice (Rp.int .i64)) v3 p1) :
    Calls Try.prog 7 #[.agg #[.int .i64 p0.1, v1, v2], v3] w0 fun e w' => e = .returned (.bool r) ∧ Below w0.heap.size w0 w' := by
 refine enter Try.func7 rfl Try.ntmps7 rfl (fun a hF => ?_)
 have hW := Stw.start Y w0
 obtain ⟨v4, h1, h_v3⟩ := h_v3.ex EX46
 unfold L23_Small at H
 refine c_seq (reg_list ?_)
 refine l_box (cs := [.int .i64 p0.1, v1, v2]) hF hW rfl rfl rfl (fun b1 a w hF hW => ?_)
 refine ls hF hW rfl ((y_assign hF rfl).q) (fun a w hF hW => ?_)
 refine ls_nil (c_then ?_)
 obtain ⟨o1, G1, K1, L1⟩ := orE H
 refine c_seqJ (fun a w => some (Sum.inl ()) = some o1 ∧ Fr 33 [] [(1, v3), (2, .pointer (some ⟨b1, 0, none⟩)), (4, .bool false)] a ∧ Stw ⟨Y, [], w0⟩ [(b1, [.int .i64 p0.1, v1, v2])] [] w) ?_ ?_
 ·
  have H := G1
  clear G1 K1
  refine c_seq (reg_list ?_)
  refine ls hF hW rfl ((y_assign hF rfl).q) (fun a w hF hW => ?_)
  refine ls_nil (c_then ?_)
  refine wp_block ?_
  refine c_loopW H (fun s a w => Fr 33 [] [(1, v3), (2, .pointer (some ⟨b1, 0, none⟩)), (4, .bool false), (5, .int .i64 s)] a ∧ Stw ⟨Y, [], w0⟩ [(b1, [.int .i64 p0.1, v1, v2])] [] w) ⟨hF.re ⟨rfl, rfl, rfl, rfl, trivial⟩, hW⟩ (fun s o a w H L2 hR => ?_)
  obtain ⟨x1, rfl⟩ : ∃ x, x = s := ⟨s, rfl⟩
  obtain ⟨hF, hW⟩ := hR
  have hF : Fr 33 [] [(1, v3), (2, .pointer (some ⟨b1, 0, none⟩)), (4, .bool false), (5, .int .i64 x1)] a := hF
  have hW : Stw ⟨Y, [], w0⟩ [(b1, [.int .i64 p0.1, v1, v2])] [] w := hW
  rw [L23_Small_l1] at H
  refine c_seq ?_
  refine c_seq (reg_list ?_)
  iterate 2 refine ls hF hW rfl ((y_move hF rfl).q) (fun a w hF hW => ?_)
  refine ls hF hW rfl ((y_len (r := (Rp.slice (Rp.int .i64))) (l := p1) u27_ rfl hF rfl (rdc_hide EX46 h1 (rdc_ro h_v3))).q) (fun a w hF hW => ?_)
  refine ls hF hW rfl ((y_lss hF rfl rfl).q) (fun a w hF hW => ?_)
  refine ls_nil (c_then ?_)
  refine c_cond hF rfl (fun hb => ?_) (fun hb => ?_)
  ·
   have H := iteT (of_decide_eq_true hb) H
   rw [hb] at hF
   clear hb
   refine wp_skip ?_
   refine c_then ?_
   refine c_seq ?_
   refine wp_block ?_
   refine c_seq (reg_list ?_)
   iterate 2 refine ls hF hW rfl ((y_move hF rfl).q) (fun a w hF hW => ?_)
   obtain ⟨x2, h2, H⟩ := bindE H
   obtain ⟨v5, h3, h4⟩ := ix_ex h1 h2
   have h5 : EE46 v5 = [(v5.1)] := congrArg (fun q : List Int => ([(v5.1)] : List Value)) h4
   refine ls hF hW rfl ((y_index (r := (Rp.vsl (Rp.int .i64))) L27 hF rfl rfl (rdc_ro h_v3) h3).q) (fun a w hF hW => ?_)
   refine ls hF hW rfl ((y_load_el (y := (v5.1)) (j := 0) (i := x1) (enc := EE46) hF rfl rfl (rdc_ro h_v3) h3 FE46 T46 (by rw [h5]; rfl)).q) (fun a w hF hW => ?_)
   refine ls hF hW rfl ((y_len (r := (Rp.int .i64)) (l := x2) u46_ rfl hF rfl (rdc_at (rdc_ro h_v3) h3 Path.here (congrArg (fun q : List Int => q) h4))).q) (fun a w hF hW => ?_)
   refine ls hF hW rfl ((y_gtr hF rfl rfl).q) (fun a w hF hW => ?_)
   refine ls_nil (c_then ?_)
   refine c_cond hF rfl (fun hb => ?_) (fun hb => ?_)
   ·
    have H := iteT (of_decide_eq_true hb) H
    rw [hb] at hF
    clear hb
    refine c_seq (reg_list ?_)
    refine ls hF hW rfl ((y_assign hF rfl).q) (fun a w hF hW => ?_)
    refine ls_nil (c_then ?_)
    refine wp_ret ?_
    refine r_block ?_
    iterate 2 refine r_then ?_
    refine r_block ?_
    refine r_then ?_
    have H := L2 _ H
    have H := L1 _ H
    have H := Option.some.inj H
    subst H
    refine post1 (.inl rfl) hF hW rfl (rv_tmp hF rfl) ?_
    exact ⟨rfl, hW.done⟩
   ·
    have H := iteF (of_decide_eq_false hb) H
    rw [hb] at hF
    clear hb
    refine wp_skip ?_
    refine b_normal ?_
    refine c_then ?_
    refine reg_list ?_
    refine ls hF hW rfl ((y_move hF rfl).q) (fun a w hF hW => ?_)
    refine ls hF hW rfl ((y_add hF rfl rfl rfl).q) (fun a w hF hW => ?_)
    refine ls hF hW rfl ((y_assign hF rfl).q) (fun a w hF hW => ?_)
    refine ls_nil (c_then ?_)
    exact ⟨_, H, hF.re ⟨rfl, rfl, rfl, rfl, trivial⟩, hW⟩
  ·
   have H := iteF (of_decide_eq_false hb) H
   rw [hb] at hF
   clear hb
   refine wp_exit ?_
   iterate 2 refine e_then ?_
   refine e_block ?_
   refine c_then ?_
   have H := L2 _ H
   exact ⟨H, hF.re ⟨rfl, rfl, rfl, trivial⟩, hW⟩
 rintro a w ⟨hj, hF, hW⟩
 have H := K1 _ hj
 clear hj G1 K1 L1
 refine c_seqJ (fun a w => Fr 33 [] [(4, .bool (decide ((p0.2.1.length : Int) ≤ 30) && (decide ((p0.2.2.length : Int) ≤ 12) && decide ((p1.length : Int) ≤ 12))))] a ∧ Stw ⟨Y, [], w0⟩ [(b1, [.int .i64 p0.1, v1, v2])] [] w) ?_ ?_
 ·
  refine reg_list ?_
  refine ls hF hW rfl ((y_fieldAddr u25_ rfl rfl rfl T22 hF rfl 1 rfl).q) (fun a w hF hW => ?_)
  refine ls hF hW rfl ((y_load (v := v1) 0 hF rfl rfl T22 rfl).q) (fun a w hF hW => ?_)
  refine ls hF hW rfl ((y_len (r := R62) (l := p0.2.1) u22_ rfl hF rfl (rdc_ro h_v1)).q) (fun a w hF hW => ?_)
  refine ls hF hW rfl ((y_leq hF rfl rfl).q) (fun a w hF hW => ?_)
  refine ls hF hW rfl ((y_move hF rfl).q) (fun a w hF hW => ?_)
  rcases Bool.eq_false_or_eq_true (decide ((p0.2.1.length : Int) ≤ 30)) with hb0 | hb0
  ·
   rw [hb0] at hF
   refine ls_w hF hW (wanted_y hF rfl rfl rfl rfl) rfl (Nat.le_of_ble_eq_true rfl) ((y_fieldAddr u25_ rfl rfl rfl T23 hF rfl 2 rfl).q) (fun a w hF hW => ?_)
   refine ls_w hF hW (wanted_y hF rfl rfl rfl rfl) rfl (Nat.le_of_ble_eq_true rfl) ((y_load (v := v2) 0 hF rfl rfl T23 rfl).q) (fun a w hF hW => ?_)
   refine ls_w hF hW (wanted_y hF rfl rfl rfl rfl) rfl (Nat.le_of_ble_eq_true rfl) ((y_len (r := R64) (l := p0.2.2) u23_ rfl hF rfl (rdc_ro h_v2)).q) (fun a w hF hW => ?_)
   refine ls_w hF hW (wanted_y hF rfl rfl rfl rfl) rfl (Nat.le_of_ble_eq_true rfl) ((y_leq hF rfl rfl).q) (fun a w hF hW => ?_)
   refine ls hF hW rfl ((y_pick_t hF rfl rfl rfl).q) (fun a w hF hW => ?_)
   refine ls hF hW rfl ((y_move hF rfl).q) (fun a w hF hW => ?_)
   rcases Bool.eq_false_or_eq_true (decide ((p0.2.2.length : Int) ≤ 12)) with hb1 | hb1
   ·
    rw [hb1] at hF
    refine ls_w hF hW (wanted_y hF rfl rfl rfl rfl) rfl (Nat.le_of_ble_eq_true rfl) ((y_move hF rfl).q) (fun a w hF hW => ?_)
    refine ls_w hF hW (wanted_y hF rfl rfl rfl rfl) rfl (Nat.le_of_ble_eq_true rfl) ((y_len (r := (Rp.slice (Rp.int .i64))) (l := p1) u27_ rfl hF rfl (rdc_hide EX46 h1 (rdc_ro h_v3))).q) (fun a w hF hW => ?_)
    refine ls_w hF hW (wanted_y hF rfl rfl rfl rfl) rfl (Nat.le_of_ble_eq_true rfl) ((y_leq hF rfl rfl).q) (fun a w hF hW => ?_)
    refine ls hF hW rfl ((y_pick_t hF rfl rfl rfl).q) (fun a w hF hW => ?_)
    refine ls hF hW rfl ((y_assign hF rfl).q) (fun a w hF hW => ?_)
    refine ls_nil (c_then ?_)
    exact ⟨hF.re ⟨(by show some (Value.bool (decide ((p1.length : Int) ≤ 12))) = some (Value.bool (decide ((p0.2.1.length : Int) ≤ 30) && (decide ((p0.2.2.length : Int) ≤ 12) && decide ((p1.length : Int) ≤ 12)))); try rw [hb0]; try rw [hb1]; all_goals simp only [Bool.not_true, Bool.not_false, Bool.true_and, Bool.false_and, Bool.true_or, Bool.false_or, Bool.and_true, Bool.or_false, cond_true, cond_false]), trivial⟩, hW⟩
   ·
    rw [hb1] at hF
    iterate 3 refine lsn hF rfl rfl rfl rfl rfl rfl rfl (fun a hF => ?_)
    refine ls hF hW rfl ((y_pick_f hF rfl rfl rfl).q) (fun a w hF hW => ?_)
    refine ls hF hW rfl ((y_assign hF rfl).q) (fun a w hF hW => ?_)
    refine ls_nil (c_then ?_)
    exact ⟨hF.re ⟨(by show some (Value.bool false) = some (Value.bool (decide ((p0.2.1.length : Int) ≤ 30) && (decide ((p0.2.2.length : Int) ≤ 12) && decide ((p1.length : Int) ≤ 12)))); try rw [hb0]; try rw [hb1]; all_goals simp only [Bool.not_true, Bool.not_false, Bool.true_and, Bool.false_and, Bool.true_or, Bool.false_or, Bool.and_true, Bool.or_false, cond_true, cond_false]), trivial⟩, hW⟩
  ·
   rw [hb0] at hF
   iterate 4 refine lsn hF rfl rfl rfl rfl rfl rfl rfl (fun a hF => ?_)
   refine ls hF hW rfl ((y_pick_f hF rfl rfl rfl).q) (fun a w hF hW => ?_)
   refine ls hF hW rfl ((y_move hF rfl).q) (fun a w hF hW => ?_)
   iterate 3 refine lsn hF rfl rfl rfl rfl rfl rfl rfl (fun a hF => ?_)
   refine ls hF hW rfl ((y_pick_f hF rfl rfl rfl).q) (fun a w hF hW => ?_)
   refine ls hF hW rfl ((y_assign hF rfl).q) (fun a w hF hW => ?_)
   refine ls_nil (c_then ?_)
   exact ⟨hF.re ⟨(by show some (Value.bool false) = some (Value.bool (decide ((p0.2.1.length : Int) ≤ 30) && (decide ((p0.2.2.length : Int) ≤ 12) && decide ((p1.length : Int) ≤ 12)))); try rw [hb0]; all_goals simp only [Bool.not_true, Bool.not_false, Bool.true_and, Bool.false_and, Bool.true_or, Bool.false_or, Bool.and_true, Bool.or_false, cond_true, cond_false]), trivial⟩, hW⟩
 rintro a w ⟨hF, hW⟩
 refine wp_ret ?_
 have H := Option.some.inj H
 subst H
 refine post1 (.inl rfl) hF hW rfl (rv_tmp hF rfl) ?_
 exact ⟨rfl, hW.done⟩

theorem H7 : Has Try.prog 7 := ⟨fun args w => run_callFunc_body Try.func7 rfl (by decide) args w⟩
theorem B62 : Bt Try.prog 62 [.int .i64 0, .int .i64 0, .int .i64 0, .int .i64 0, .int .i64 0, .int .i64 0] [(0, 1), (1, 1), (2, 1), (3, 1), (4, 1), (5, 1)] := ⟨⟨.agg #[.int .i64 0, .int .i64 0, .int .i64 0, .int .i64 0, .int .i64 0, .int .i64 0], by kernel_rfl, rfl⟩, ⟨_, u62_, fun w => by kernel_rfl⟩⟩
theorem B25 : Bt Try.prog 25 [.int .i64 0, .slice none 0 0, .slice none 0 0] [(0, 1), (1, 1), (2, 1)] := ⟨⟨.agg #[.int .i64 0, .slice none 0 0, .slice none 0 0], by kernel_rfl, rfl⟩, ⟨_, u25_, fun w => by kernel_rfl⟩⟩
theorem Z25 : (Try.prog.info? 25).bind (·.zero) = some (.agg #[.int .i64 0, .slice none 0 0, .slice none 0 0]) := by kernel_rfl
theorem Z46 : (Try.prog.info? 46).bind (·.zero) = some (.slice none 0 0) := by kernel_rfl
theorem H9 : Has Try.prog 9 := ⟨fun args w => run_callFunc_body Try.func9 rfl (by decide) args w⟩
def plan_Guarded (p0 : (List (Int × Int × Int × Int)) × (List (Int × Int × List Int)) × Int × Int × Int × Int) (p1 : Int) : Bool := (decide (p0.2.2.2.2.1 ≤ p1) && decide (p1 ≤ p0.2.2.2.2.2))
theorem plan_Guarded_c (Y : Nat → Prop) (w0 : World) (v1 : Value) (v2 : Value) (p0 : (List (Int × Int × Int × Int)) × (List (Int × Int × List Int)) × Int × Int × Int × Int) (p1 : Int) (r : Bool) (H : plan_Guarded p0 p1 = r) (h_v1 : Sl w0 (NX []) R85 v1 p0.1) (h_v2 : Sl w0 (NX []) R48 v2 p0.2.1) :
    Calls Try.prog 13 #[.agg #[v1, v2, .int .i64 p0.2.2.1, .int .i64 p0.2.2.2.1, .int .i64 p0.2.2.2.2.1, .int .i64 p0.2.2.2.2.2], .int .i64 p1] w0 fun e w' => e = .returned (.bool r) ∧ Below w0.heap.size w0 w' := by
 refine enter Try.func13 rfl Try.ntmps13 rfl (fun a hF => ?_)
 have hW := Stw.start Y w0
 obtain ⟨v3, h1, h_v2⟩ := h_v2.ex EX48
 unfold plan_Guarded at H
 refine c_seq (reg_list ?_)
 refine l_box (cs := [v1, v2, .int .i64 p0.2.2.1, .int .i64 p0.2.2.2.1, .int .i64 p0.2.2.2.2.1, .int .i64 p0.2.2.2.2.2]) hF hW rfl rfl rfl (fun b1 a w hF hW => ?_)
 refine ls hF hW rfl ((y_assign hF rfl).q) (fun a w hF hW => ?_)
 refine ls_nil (c_then ?_)
 refine c_seqJ (fun a w => Fr 15 [] [(4, .bool (decide (p0.2.2.2.2.1 ≤ p1) && decide (p1 ≤ p0.2.2.2.2.2)))] a ∧ Stw ⟨Y, [], w0⟩ [(b1, [v1, v2, .int .i64 p0.2.2.1, .int .i64 p0.2.2.2.1, .int .i64 p0.2.2.2.2.1, .int .i64 p0.2.2.2.2.2])] [] w) ?_ ?_
 ·
  refine reg_list ?_
  refine ls hF hW rfl ((y_fieldAddr u33_ rfl rfl rfl T3 hF rfl 4 rfl).q) (fun a w hF hW => ?_)
  refine ls hF hW rfl ((y_load (v := Value.int .i64 p0.2.2.2.2.1) 0 hF rfl rfl T3 rfl).q) (fun a w hF hW => ?_)
  refine ls hF hW rfl ((y_move hF rfl).q) (fun a w hF hW => ?_)
  refine ls hF hW rfl ((y_leq hF rfl rfl).q) (fun a w hF hW => ?_)
  refine ls hF hW rfl ((y_move hF rfl).q) (fun a w hF hW => ?_)
  rcases Bool.eq_false_or_eq_true (decide (p0.2.2.2.2.1 ≤ p1)) with hb0 | hb0
  ·
   rw [hb0] at hF
   refine ls_w hF hW (wanted_y hF rfl rfl rfl rfl) rfl (Nat.le_of_ble_eq_true rfl) ((y_move hF rfl).q) (fun a w hF hW => ?_)
   refine ls_w hF hW (wanted_y hF rfl rfl rfl rfl) rfl (Nat.le_of_ble_eq_true rfl) ((y_fieldAddr u33_ rfl rfl rfl T3 hF rfl 5 rfl).q) (fun a w hF hW => ?_)
   refine ls_w hF hW (wanted_y hF rfl rfl rfl rfl) rfl (Nat.le_of_ble_eq_true rfl) ((y_load (v := Value.int .i64 p0.2.2.2.2.2) 0 hF rfl rfl T3 rfl).q) (fun a w hF hW => ?_)
   refine ls_w hF hW (wanted_y hF rfl rfl rfl rfl) rfl (Nat.le_of_ble_eq_true rfl) ((y_leq hF rfl rfl).q) (fun a w hF hW => ?_)
   refine ls hF hW rfl ((y_pick_t hF rfl rfl rfl).q) (fun a w hF hW => ?_)
   refine ls hF hW rfl ((y_assign hF rfl).q) (fun a w hF hW => ?_)
   refine ls_nil (c_then ?_)
   exact ⟨hF.re ⟨(by show some (Value.bool (decide (p1 ≤ p0.2.2.2.2.2))) = some (Value.bool (decide (p0.2.2.2.2.1 ≤ p1) && decide (p1 ≤ p0.2.2.2.2.2))); try rw [hb0]; all_goals simp only [Bool.not_true, Bool.not_false, Bool.true_and, Bool.false_and, Bool.true_or, Bool.false_or, Bool.and_true, Bool.or_false, cond_true, cond_false]), trivial⟩, hW⟩
  ·
   rw [hb0] at hF
   iterate 4 refine lsn hF rfl rfl rfl rfl rfl rfl rfl (fun a hF => ?_)
   refine ls hF hW rfl ((y_pick_f hF rfl rfl rfl).q) (fun a w hF hW => ?_)
   refine ls hF hW rfl ((y_assign hF rfl).q) (fun a w hF hW => ?_)
   refine ls_nil (c_then ?_)
   exact ⟨hF.re ⟨(by show some (Value.bool false) = some (Value.bool (decide (p0.2.2.2.2.1 ≤ p1) && decide (p1 ≤ p0.2.2.2.2.2))); try rw [hb0]; all_goals simp only [Bool.not_true, Bool.not_false, Bool.true_and, Bool.false_and, Bool.true_or, Bool.false_or, Bool.and_true, Bool.or_false, cond_true, cond_false]), trivial⟩, hW⟩
 rintro a w ⟨hF, hW⟩
 refine wp_ret ?_
 subst H
 refine post1 (.inl rfl) hF hW rfl (rv_tmp hF rfl) ?_
 exact ⟨rfl, hW.done⟩

theorem u78_ : type_of% Try.underlying78 := Try.underlying78
theorem H13 : Has Try.prog 13 := ⟨fun args w => run_callFunc_body Try.func13 rfl (by decide) args w⟩
theorem T48 : Ty Try.prog 48 true 3 := ⟨by kernel_rfl, by kernel_rfl⟩
theorem T30 : Ty Try.prog 30 false 1 := ⟨by kernel_rfl, by kernel_rfl⟩
theorem Z81 : (Try.prog.info? 81).bind (·.zero) = some (.agg #[.int .i64 0, .int .i64 0, .int .i64 0, .int .i64 0, .int .i64 0, .int .i64 0, .int .i64 0, .int .i64 0, .int .i64 0, .int .i64 0, .slice none 0 0]) := by kernel_rfl
theorem Z78 : (Try.prog.info? 78).bind (·.zero) = some (.agg #[.int .i64 0, .int .i64 0, .int .i64 0, .int .i64 0, .int .i64 0, .int .i64 0, .int .i64 0, .int .i64 0, .int .i64 0]) := by kernel_rfl
theorem B78 : Bt Try.prog 78 [.int .i64 0, .int .i64 0, .int .i64 0, .int .i64 0, .int .i64 0, .int .i64 0, .int .i64 0, .int .i64 0, .int .i64 0] [(0, 1), (1, 4), (5, 4)] := ⟨⟨.agg #[.int .i64 0, .int .i64 0, .int .i64 0, .int .i64 0, .int .i64 0, .int .i64 0, .int .i64 0, .int .i64 0, .int .i64 0], by kernel_rfl, rfl⟩, ⟨_, u78_, fun w => by kernel_rfl⟩⟩
theorem T78 : Ty Try.prog 78 true 9 := ⟨by kernel_rfl, by kernel_rfl⟩
def match_Any  : (Int × (Int × Int × Int × Int) × (Int × Int × Int × Int)) := ((-1), (0, 0, 0, 0), (0, 0, 0, 0))
theorem match_Any_c (Y : Nat → Prop) (w0 : World)   (r : (Int × (Int × Int × Int × Int) × (Int × Int × Int × Int))) (H : match_Any  = r)  :
    Calls Try.prog 64 #[] w0 fun e w' => e = .returned (.agg #[.int .i64 r.1, .int .i64 r.2.1.1, .int .i64 r.2.1.2.1, .int .i64 r.2.1.2.2.1, .int .i64 r.2.1.2.2.2, .int .i64 r.2.2.1, .int .i64 r.2.2.2.1, .int .i64 r.2.2.2.2.1, .int .i64 r.2.2.2.2.2]) ∧ Below w0.heap.size w0 w' := by
 refine enter Try.func64 rfl Try.ntmps64 rfl (fun a hF => ?_)
 have hW := Stw.start Y w0
 unfold match_Any at H
 refine c_seq (reg_list ?_)
 refine l_alloc (cs := [.int .i64 0, .int .i64 0, .int .i64 0, .int .i64 0, .int .i64 0, .int .i64 0, .int .i64 0, .int .i64 0, .int .i64 0]) hF hW rfl Z78 rfl (fun b1 a w hF hW => ?_)
 refine ls_nil (c_then ?_)
 refine c_seq (reg_list ?_)
 refine ls hF hW rfl ((y_build (v := Value.agg #[.int .i64 (-1), .int .i64 0, .int .i64 0, .int .i64 0, .int .i64 0, .int .i64 0, .int .i64 0, .int .i64 0, .int .i64 0]) B78 hF rfl rfl rfl).q) (fun a w hF hW => ?_)
 refine l_store (vs := [.int .i64 (-1), .int .i64 0, .int .i64 0, .int .i64 0, .int .i64 0, .int .i64 0, .int .i64 0, .int .i64 0, .int .i64 0]) (M' := [(b1, [.int .i64 (-1), .int .i64 0, .int .i64 0, .int .i64 0, .int .i64 0, .int .i64 0, .int .i64 0, .int .i64 0, .int .i64 0])]) 0 hF hW rfl rfl rfl T78 rfl rfl rfl rfl rfl (fun w hW => ?_)
 refine ls_nil (c_then ?_)
 refine wp_ret ?_
 subst H
 refine post1 (.inl rfl) hF hW rfl (rv_cell 0 hF rfl rfl T78 rfl) ?_
 exact ⟨rfl, hW.done⟩

theorem H64 : Has Try.prog 64 := ⟨fun args w => run_callFunc_body Try.func64 rfl (by decide) args w⟩
noncomputable def packet_Bits (p0 : Int) : Option Int := (if p0 = 0 then some true else (if p0 = 1 then some true else some (decide (p0 = 3)))).bind fun x1 => (if x1 = true then some 8 else (if p0 = 2 then some 4 else some 0))
theorem packet_Bits_c (Y : Nat → Prop) (w0 : World)  (p0 : Int) (r : Int) (H : packet_Bits p0 = some r)  :
    Calls Try.prog 85 #[.int .i64 p0] w0 fun e w' => e = .returned (.int .i64 r) ∧ Below w0.heap.size w0 w' := by
 refine enter Try.func85 rfl Try.ntmps85 rfl (fun a hF => ?_)
 have hW := Stw.start Y w0
 unfold packet_Bits at H
 refine c_seq (reg_list ?_)
 refine ls hF hW rfl ((y_assign hF rfl).q) (fun a w hF hW => ?_)
 refine ls_nil (c_then ?_)
 refine c_seq ?_
 refine c_seq (reg_list ?_)
 refine ls hF hW rfl ((y_move hF rfl).q) (fun a w hF hW => ?_)
 refine ls_nil (c_then ?_)
 refine wp_block ?_
 obtain ⟨o1, G1, K1⟩ := bindE H
 refine c_seqJ (fun a w => ∃ x1 : Bool, some (x1) = some o1 ∧ Fr 10 [] [(2, .int .i64 0), (3, .int .i64 p0), (4, .bool x1)] a ∧ Stw ⟨Y, [], w0⟩ [] [] w) ?_ ?_
 ·
  have H := G1
  clear G1 K1
  refine c_seq (reg_list ?_)
  refine ls hF hW rfl ((y_eql hF rfl rfl).q) (fun a w hF hW => ?_)
  refine ls hF hW rfl ((y_assign hF rfl).q) (fun a w hF hW => ?_)
  refine ls_nil (c_then ?_)
  refine c_cond hF rfl (fun hb => ?_) (fun hb => ?_)
  ·
   have H := iteT (of_decide_eq_true hb) H
   rw [hb] at hF
   clear hb
   refine wp_skip ?_
   refine c_then ?_
   exact ⟨_, H, hF.re ⟨rfl, rfl, rfl, trivial⟩, hW⟩
  ·
   have H := iteF (of_decide_eq_false hb) H
   rw [hb] at hF
   clear hb
   refine c_seq (reg_list ?_)
   refine ls hF hW rfl ((y_eql hF rfl rfl).q) (fun a w hF hW => ?_)
   refine ls hF hW rfl ((y_assign hF rfl).q) (fun a w hF hW => ?_)
   refine ls_nil (c_then ?_)
   refine c_cond hF rfl (fun hb => ?_) (fun hb => ?_)
   ·
    have H := iteT (of_decide_eq_true hb) H
    rw [hb] at hF
    clear hb
    refine wp_skip ?_
    refine c_then ?_
    exact ⟨_, H, hF.re ⟨rfl, rfl, rfl, trivial⟩, hW⟩
   ·
    have H := iteF (of_decide_eq_false hb) H
    rw [hb] at hF
    clear hb
    refine reg_list ?_
    refine ls hF hW rfl ((y_eql hF rfl rfl).q) (fun a w hF hW => ?_)
    refine ls hF hW rfl ((y_assign hF rfl).q) (fun a w hF hW => ?_)
    refine ls_nil (c_then ?_)
    exact ⟨_, H, hF.re ⟨rfl, rfl, rfl, trivial⟩, hW⟩
 rintro a w ⟨x1, hj, hF, hW⟩
 have hj := Option.some.inj hj
 subst hj
 have H := K1
 clear G1 K1
 refine c_cond hF rfl (fun hb => ?_) (fun hb => ?_)
 ·
  have H := iteT hb H
  rw [hb] at hF
  clear hb
  refine c_seq (reg_list ?_)
  refine ls hF hW rfl ((y_assign hF rfl).q) (fun a w hF hW => ?_)
  refine ls_nil (c_then ?_)
  refine wp_ret ?_
  refine r_block ?_
  refine r_then ?_
  have H := Option.some.inj H
  subst H
  refine post1 (.inl rfl) hF hW rfl (rv_tmp hF rfl) ?_
  exact ⟨rfl, hW.done⟩
 ·
  have H := iteF (by rw [hb]; decide) H
  rw [hb] at hF
  clear hb
  refine c_seq (reg_list ?_)
  refine ls hF hW rfl ((y_eql hF rfl rfl).q) (fun a w hF hW => ?_)
  refine ls hF hW rfl ((y_assign hF rfl).q) (fun a w hF hW => ?_)
  refine ls_nil (c_then ?_)
  refine c_cond hF rfl (fun hb => ?_) (fun hb => ?_)
  ·
   have H := iteT (of_decide_eq_true hb) H
   rw [hb] at hF
   clear hb
   refine c_seq (reg_list ?_)
   refine ls hF hW rfl ((y_assign hF rfl).q) (fun a w hF hW => ?_)
   refine ls_nil (c_then ?_)
   refine wp_ret ?_
   refine r_block ?_
   refine r_then ?_
   have H := Option.some.inj H
   subst H
   refine post1 (.inl rfl) hF hW rfl (rv_tmp hF rfl) ?_
   exact ⟨rfl, hW.done⟩
  ·
   have H := iteF (of_decide_eq_false hb) H
   rw [hb] at hF
   clear hb
   refine wp_skip ?_
   refine b_normal ?_
   refine c_then ?_
   refine c_seq (reg_list ?_)
   refine ls hF hW rfl ((y_assign hF rfl).q) (fun a w hF hW => ?_)
   refine ls_nil (c_then ?_)
   refine wp_ret ?_
   have H := Option.some.inj H
   subst H
   refine post1 (.inl rfl) hF hW rfl (rv_tmp hF rfl) ?_
   exact ⟨rfl, hW.done⟩

theorem H85 : Has Try.prog 85 := ⟨fun args w => run_callFunc_body Try.func85 rfl (by decide) args w⟩
noncomputable def packet_Top (p0 : Int) : Option Int := (packet_Bits p0).bind fun x1 => (shN (shlI .i64 1 x1) x1).bind fun x2 => some (w64 (x2 - 1))
theorem packet_Top_c (Y : Nat → Prop) (w0 : World)  (p0 : Int) (r : Int) (H : packet_Top p0 = some r)  :
    Calls Try.prog 65 #[.int .i64 p0] w0 fun e w' => e = .returned (.int .i64 r) ∧ Below w0.heap.size w0 w' := by
 refine enter Try.func65 rfl Try.ntmps65 rfl (fun a hF => ?_)
 have hW := Stw.start Y w0
 unfold packet_Top at H
 refine c_seq (reg_list ?_)
 refine ls hF hW rfl ((y_assign hF rfl).q) (fun a w hF hW => ?_)
 refine ls_nil (c_then ?_)
 refine c_seq (reg_list ?_)
 refine ls hF hW rfl ((y_move hF rfl).q) (fun a w hF hW => ?_)
 obtain ⟨x1, h1, H⟩ := bindE H
 refine ls hF hW rfl (y_call (v := Value.int .i64 x1) hF H85 rfl (fun w hW => packet_Bits_c any w p0 _ h1)) (fun a w hF hW => ?_)
 obtain ⟨x2, h2, H⟩ := bindE H
 refine ls hF hW rfl ((y_shc (shN_some h2).2 (y_shl hF rfl rfl (shN_some h2).1)).q) (fun a w hF hW => ?_)
 refine ls hF hW rfl ((y_sub hF rfl rfl rfl).q) (fun a w hF hW => ?_)
 refine ls hF hW rfl ((y_assign hF rfl).q) (fun a w hF hW => ?_)
 refine ls_nil (c_then ?_)
 refine wp_ret ?_
 have H := Option.some.inj H
 subst H
 refine post1 (.inl rfl) hF hW rfl (rv_tmp hF rfl) ?_
 exact ⟨rfl, hW.done⟩

theorem u76_ : type_of% Try.underlying76 := Try.underlying76
theorem H65 : Has Try.prog 65 := ⟨fun args w => run_callFunc_body Try.func65 rfl (by decide) args w⟩
theorem T76 : Ty Try.prog 76 true 4 := ⟨by kernel_rfl, by kernel_rfl⟩
theorem Ar76 : Ar Try.prog 76 4 3 1 := ⟨u76_, by kernel_rfl⟩
noncomputable def match_Of (p0 : Int) (p1 : Int) : Option (Int × (Int × Int × Int × Int) × (Int × Int × Int × Int)) := (if p0 < 0 then some true else (if 4 ≤ p0 then some true else (if p1 < 0 then some true else (packet_Top p0).bind fun x2 => some (decide (x2 < p1))))).bind fun x1 => (if x1 = true then some match_Any else (ix ([match_Any.2.1.1, match_Any.2.1.2.1, match_Any.2.1.2.2.1, match_Any.2.1.2.2.2] : List Int) p0).bind fun x3 => (packet_Top p0).bind fun x4 => (ix ([match_Any.2.2.1, match_Any.2.2.2.1, match_Any.2.2.2.2.1, match_Any.2.2.2.2.2] : List Int) p0).bind fun x5 => some (match_Any.1, ((if p0 = 0 then p1 else match_Any.2.1.1), (if p0 = 1 then p1 else match_Any.2.1.2.1), (if p0 = 2 then p1 else match_Any.2.1.2.2.1), (if p0 = 3 then p1 else match_Any.2.1.2.2.2)), ((if p0 = 0 then x4 else match_Any.2.2.1), (if p0 = 1 then x4 else match_Any.2.2.2.1), (if p0 = 2 then x4 else match_Any.2.2.2.2.1), (if p0 = 3 then x4 else match_Any.2.2.2.2.2))))
theorem match_Of_c (Y : Nat → Prop) (w0 : World)  (p0 : Int) (p1 : Int) (r : (Int × (Int × Int × Int × Int) × (Int × Int × Int × Int))) (H : match_Of p0 p1 = some r)  :
    Calls Try.prog 48 #[.int .i64 p0, .int .i64 p1] w0 fun e w' => e = .returned (.agg #[.int .i64 r.1, .int .i64 r.2.1.1, .int .i64 r.2.1.2.1, .int .i64 r.2.1.2.2.1, .int .i64 r.2.1.2.2.2, .int .i64 r.2.2.1, .int .i64 r.2.2.2.1, .int .i64 r.2.2.2.2.1, .int .i64 r.2.2.2.2.2]) ∧ Below w0.heap.size w0 w' := by
 refine enter Try.func48 rfl Try.ntmps48 rfl (fun a hF => ?_)
 have hW := Stw.start Y w0
 unfold match_Of at H
 refine c_seq (reg_list ?_)
 refine l_alloc (cs := [.int .i64 0, .int .i64 0, .int .i64 0, .int .i64 0, .int .i64 0, .int .i64 0, .int .i64 0, .int .i64 0, .int .i64 0]) hF hW rfl Z78 rfl (fun b1 a w hF hW => ?_)
 refine ls_nil (c_then ?_)
 refine c_seq (reg_list ?_)
 refine ls hF hW rfl (y_call (v := Value.agg #[.int .i64 match_Any.1, .int .i64 match_Any.2.1.1, .int .i64 match_Any.2.1.2.1, .int .i64 match_Any.2.1.2.2.1, .int .i64 match_Any.2.1.2.2.2, .int .i64 match_Any.2.2.1, .int .i64 match_Any.2.2.2.1, .int .i64 match_Any.2.2.2.2.1, .int .i64 match_Any.2.2.2.2.2]) hF H64 rfl (fun w hW => match_Any_c any w _ rfl)) (fun a w hF hW => ?_)
 refine l_alloc (cs := [.int .i64 0, .int .i64 0, .int .i64 0, .int .i64 0, .int .i64 0, .int .i64 0, .int .i64 0, .int .i64 0, .int .i64 0]) hF hW rfl Z78 rfl (fun b2 a w hF hW => ?_)
 refine l_store (vs := [.int .i64 match_Any.1, .int .i64 match_Any.2.1.1, .int .i64 match_Any.2.1.2.1, .int .i64 match_Any.2.1.2.2.1, .int .i64 match_Any.2.1.2.2.2, .int .i64 match_Any.2.2.1, .int .i64 match_Any.2.2.2.1, .int .i64 match_Any.2.2.2.2.1, .int .i64 match_Any.2.2.2.2.2]) (M' := [(b2, [.int .i64 match_Any.1, .int .i64 match_Any.2.1.1, .int .i64 match_Any.2.1.2.1, .int .i64 match_Any.2.1.2.2.1, .int .i64 match_Any.2.1.2.2.2, .int .i64 match_Any.2.2.1, .int .i64 match_Any.2.2.2.1, .int .i64 match_Any.2.2.2.2.1, .int .i64 match_Any.2.2.2.2.2]), (b1, [.int .i64 0, .int .i64 0, .int .i64 0, .int .i64 0, .int .i64 0, .int .i64 0, .int .i64 0, .int .i64 0, .int .i64 0])]) 0 hF hW rfl rfl rfl T78 rfl rfl rfl rfl rfl (fun w hW => ?_)
 refine ls_nil (c_then ?_)
 refine c_seq ?_
 obtain ⟨o1, G1, K1⟩ := bindE H
 refine c_seqJ (fun a w => ∃ x1 : Bool, some (x1) = some o1 ∧ Fr 34 [] [(0, .int .i64 p0), (1, .int .i64 p1), (4, .pointer (some ⟨b1, 0, none⟩)), (5, .pointer (some ⟨b2, 0, none⟩)), (22, .bool x1)] a ∧ Stw ⟨Y, [], w0⟩ [(b2, [.int .i64 match_Any.1, .int .i64 match_Any.2.1.1, .int .i64 match_Any.2.1.2.1, .int .i64 match_Any.2.1.2.2.1, .int .i64 match_Any.2.1.2.2.2, .int .i64 match_Any.2.2.1, .int .i64 match_Any.2.2.2.1, .int .i64 match_Any.2.2.2.2.1, .int .i64 match_Any.2.2.2.2.2]), (b1, [.int .i64 0, .int .i64 0, .int .i64 0, .int .i64 0, .int .i64 0, .int .i64 0, .int .i64 0, .int .i64 0, .int .i64 0])] [] w) ?_ ?_
 ·
  have H := G1
  clear G1 K1
  refine reg_list ?_
  refine ls hF hW rfl ((y_move hF rfl).q) (fun a w hF hW => ?_)
  refine ls hF hW rfl ((y_lss hF rfl rfl).q) (fun a w hF hW => ?_)
  refine ls hF hW rfl ((y_move hF rfl).q) (fun a w hF hW => ?_)
  rcases Bool.eq_false_or_eq_true (decide (p0 < 0)) with hb | hb
  ·
   have H := iteT (of_decide_eq_true hb) H
   rw [hb] at hF
   clear hb
   iterate 2 refine lsn hF rfl rfl rfl rfl rfl rfl rfl (fun a hF => ?_)
   refine ls hF hW rfl ((y_pick_t hF rfl rfl rfl).q) (fun a w hF hW => ?_)
   refine ls hF hW rfl ((y_move hF rfl).q) (fun a w hF hW => ?_)
   iterate 2 refine lsn hF rfl rfl rfl rfl rfl rfl rfl (fun a hF => ?_)
   refine ls hF hW rfl ((y_pick_t hF rfl rfl rfl).q) (fun a w hF hW => ?_)
   refine ls hF hW rfl ((y_move hF rfl).q) (fun a w hF hW => ?_)
   iterate 4 refine lsn hF rfl rfl rfl rfl rfl rfl rfl (fun a hF => ?_)
   refine ls hF hW rfl ((y_pick_t hF rfl rfl rfl).q) (fun a w hF hW => ?_)
   refine ls_nil (c_then ?_)
   have hW := hW.frontM (i := 1) rfl rfl
   have hW := hW.frontM (i := 1) rfl rfl
   exact ⟨_, H, hF.re ⟨rfl, rfl, rfl, rfl, rfl, trivial⟩, hW⟩
  ·
   have H := iteF (of_decide_eq_false hb) H
   rw [hb] at hF
   clear hb
   refine ls_w hF hW (wanted_y hF rfl rfl rfl rfl) rfl (Nat.le_of_ble_eq_true rfl) ((y_move hF rfl).q) (fun a w hF hW => ?_)
   refine ls_w hF hW (wanted_y hF rfl rfl rfl rfl) rfl (Nat.le_of_ble_eq_true rfl) ((y_geq hF rfl rfl).q) (fun a w hF hW => ?_)
   refine ls hF hW rfl ((y_pick_f hF rfl rfl rfl).q) (fun a w hF hW => ?_)
   refine ls hF hW rfl ((y_move hF rfl).q) (fun a w hF hW => ?_)
   rcases Bool.eq_false_or_eq_true (decide (4 ≤ p0)) with hb | hb
   ·
    have H := iteT (of_decide_eq_true hb) H
    rw [hb] at hF
    clear hb
    iterate 2 refine lsn hF rfl rfl rfl rfl rfl rfl rfl (fun a hF => ?_)
    refine ls hF hW rfl ((y_pick_t hF rfl rfl rfl).q) (fun a w hF hW => ?_)
    refine ls hF hW rfl ((y_move hF rfl).q) (fun a w hF hW => ?_)
    iterate 4 refine lsn hF rfl rfl rfl rfl rfl rfl rfl (fun a hF => ?_)
    refine ls hF hW rfl ((y_pick_t hF rfl rfl rfl).q) (fun a w hF hW => ?_)
    refine ls_nil (c_then ?_)
    have hW := hW.frontM (i := 1) rfl rfl
    have hW := hW.frontM (i := 1) rfl rfl
    exact ⟨_, H, hF.re ⟨rfl, rfl, rfl, rfl, rfl, trivial⟩, hW⟩
   ·
    have H := iteF (of_decide_eq_false hb) H
    rw [hb] at hF
    clear hb
    refine ls_w hF hW (wanted_y hF rfl rfl rfl rfl) rfl (Nat.le_of_ble_eq_true rfl) ((y_move hF rfl).q) (fun a w hF hW => ?_)
    refine ls_w hF hW (wanted_y hF rfl rfl rfl rfl) rfl (Nat.le_of_ble_eq_true rfl) ((y_lss hF rfl rfl).q) (fun a w hF hW => ?_)
    refine ls hF hW rfl ((y_pick_f hF rfl rfl rfl).q) (fun a w hF hW => ?_)
    refine ls hF hW rfl ((y_move hF rfl).q) (fun a w hF hW => ?_)
    rcases Bool.eq_false_or_eq_true (decide (p1 < 0)) with hb | hb
    ·
     have H := iteT (of_decide_eq_true hb) H
     rw [hb] at hF
     clear hb
     iterate 4 refine lsn hF rfl rfl rfl rfl rfl rfl rfl (fun a hF => ?_)
     refine ls hF hW rfl ((y_pick_t hF rfl rfl rfl).q) (fun a w hF hW => ?_)
     refine ls_nil (c_then ?_)
     have hW := hW.frontM (i := 1) rfl rfl
     have hW := hW.frontM (i := 1) rfl rfl
     exact ⟨_, H, hF.re ⟨rfl, rfl, rfl, rfl, rfl, trivial⟩, hW⟩
    ·
     have H := iteF (of_decide_eq_false hb) H
     rw [hb] at hF
     clear hb
     iterate 2 refine ls_w hF hW (wanted_y hF rfl rfl rfl rfl) rfl (Nat.le_of_ble_eq_true rfl) ((y_move hF rfl).q) (fun a w hF hW => ?_)
     refine ls_g (wanted_y hF rfl rfl rfl rfl) ?_
     obtain ⟨x2, h1, H⟩ := bindE H
     refine ls hF hW rfl (y_call (v := Value.int .i64 x2) hF H65 rfl (fun w hW => packet_Top_c any w p0 _ h1)) (fun a w hF hW => ?_)
     refine ls_w hF hW (wanted_y hF rfl rfl rfl rfl) rfl (Nat.le_of_ble_eq_true rfl) ((y_gtr hF rfl rfl).q) (fun a w hF hW => ?_)
     refine ls hF hW rfl ((y_pick_f hF rfl rfl rfl).q) (fun a w hF hW => ?_)
     refine ls_nil (c_then ?_)
     have hW := hW.frontM (i := 1) rfl rfl
     have hW := hW.frontM (i := 1) rfl rfl
     exact ⟨_, H, hF.re ⟨rfl, rfl, rfl, rfl, rfl, trivial⟩, hW⟩
 rintro a w ⟨x1, hj, hF, hW⟩
 have hj := Option.some.inj hj
 subst hj
 have H := K1
 clear G1 K1
 refine c_cond hF rfl (fun hb => ?_) (fun hb => ?_)
 ·
  have H := iteT hb H
  rw [hb] at hF
  clear hb
  refine c_seq (reg_list ?_)
  refine ls hF hW rfl ((y_load (v := Value.agg #[.int .i64 match_Any.1, .int .i64 match_Any.2.1.1, .int .i64 match_Any.2.1.2.1, .int .i64 match_Any.2.1.2.2.1, .int .i64 match_Any.2.1.2.2.2, .int .i64 match_Any.2.2.1, .int .i64 match_Any.2.2.2.1, .int .i64 match_Any.2.2.2.2.1, .int .i64 match_Any.2.2.2.2.2]) 0 hF rfl rfl T78 rfl).q) (fun a w hF hW => ?_)
  refine l_store (vs := [.int .i64 match_Any.1, .int .i64 match_Any.2.1.1, .int .i64 match_Any.2.1.2.1, .int .i64 match_Any.2.1.2.2.1, .int .i64 match_Any.2.1.2.2.2, .int .i64 match_Any.2.2.1, .int .i64 match_Any.2.2.2.1, .int .i64 match_Any.2.2.2.2.1, .int .i64 match_Any.2.2.2.2.2]) (M' := [(b2, [.int .i64 match_Any.1, .int .i64 match_Any.2.1.1, .int .i64 match_Any.2.1.2.1, .int .i64 match_Any.2.1.2.2.1, .int .i64 match_Any.2.1.2.2.2, .int .i64 match_Any.2.2.1, .int .i64 match_Any.2.2.2.1, .int .i64 match_Any.2.2.2.2.1, .int .i64 match_Any.2.2.2.2.2]), (b1, [.int .i64 match_Any.1, .int .i64 match_Any.2.1.1, .int .i64 match_Any.2.1.2.1, .int .i64 match_Any.2.1.2.2.1, .int .i64 match_Any.2.1.2.2.2, .int .i64 match_Any.2.2.1, .int .i64 match_Any.2.2.2.1, .int .i64 match_Any.2.2.2.2.1, .int .i64 match_Any.2.2.2.2.2])]) 1 hF hW rfl rfl rfl T78 rfl rfl rfl rfl rfl (fun w hW => ?_)
  refine ls_nil (c_then ?_)
  refine wp_ret ?_
  refine r_then ?_
  have H := Option.some.inj H
  subst H
  refine post1 (.inl rfl) hF hW rfl (rv_cell 1 hF rfl rfl T78 rfl) ?_
  exact ⟨rfl, hW.done⟩
 ·
  have H := iteF (by rw [hb]; decide) H
  rw [hb] at hF
  clear hb
  refine wp_skip ?_
  refine c_then ?_
  refine c_seq ?_
  refine reg_plan [(true, 0), (true, 1), (true, 2), (true, 3), (true, 5), (true, 6), (true, 8), (false, 4), (false, 7), (true, 9), (false, 10)] (CN ⟨Y, [], w0⟩ [] []) (fun ch a d v w h => by cases d <;> exact h) MO (by kernel_rfl) hW (fun w hW => ⟨_, _, hW, all_nil, all_nil⟩) (fun w hW => ?_)
  iterate 4 refine pl_t (R := []) hF rfl rfl (yC fun M Z hN hZ => y_move hF rfl) rfl rfl (fun a hF => ?_)
  refine pl_t (R := []) hF rfl rfl (yC fun M Z hN hZ => y_fieldAddr u78_ rfl rfl rfl T76 hF rfl 1 rfl) rfl rfl (fun a hF => ?_)
  obtain ⟨x3, h2, H⟩ := bindE H
  refine pl_t (R := []) hF rfl rfl (yC fun M Z hN hZ => y_indexP (1 + (p0).toNat * 1) Ar76 hF rfl rfl rfl h2 rfl) rfl rfl (fun a hF => ?_)
  refine pl_t (R := []) hF rfl rfl (yC fun M Z hN hZ => y_fieldAddr u78_ rfl rfl rfl T76 hF rfl 5 rfl) rfl rfl (fun a hF => ?_)
  refine pl_f rfl ?_
  obtain ⟨x4, h3, H⟩ := bindE H
  refine ls hF hW rfl (y_call (v := Value.int .i64 x4) hF H65 rfl (fun w hW => packet_Top_c any w p0 _ h3)) (fun a w hF hW => ?_)
  refine pl_next (N2 := []) (NZ2 := []) (N3 := []) (NZ3 := []) hW rfl rfl all_nil all_nil ?_
  refine pl_f rfl ?_
  refine l_store_dyn (o := 1) (m := 4) (i := p0) (l := ([match_Any.2.1.1, match_Any.2.1.2.1, match_Any.2.1.2.2.1, match_Any.2.1.2.2.2] : List Int)) (x := x3) (cs := [.int .i64 match_Any.1, .int .i64 match_Any.2.1.1, .int .i64 match_Any.2.1.2.1, .int .i64 match_Any.2.1.2.2.1, .int .i64 match_Any.2.1.2.2.2, .int .i64 match_Any.2.2.1, .int .i64 match_Any.2.2.2.1, .int .i64 match_Any.2.2.2.2.1, .int .i64 match_Any.2.2.2.2.2]) (cs' := [.int .i64 match_Any.1, .int .i64 (if p0 = 0 then p1 else match_Any.2.1.1), .int .i64 (if p0 = 1 then p1 else match_Any.2.1.2.1), .int .i64 (if p0 = 2 then p1 else match_Any.2.1.2.2.1), .int .i64 (if p0 = 3 then p1 else match_Any.2.1.2.2.2), .int .i64 match_Any.2.2.1, .int .i64 match_Any.2.2.2.1, .int .i64 match_Any.2.2.2.2.1, .int .i64 match_Any.2.2.2.2.2]) 0 hF hW rfl rfl rfl T3 rfl rfl rfl rfl h2 (by intro k hk hn; rw [hk]; match k, hn with | 0, _ => rfl | 1, _ => rfl | 2, _ => rfl | 3, _ => rfl | (z + 4), h => exact absurd h (by omega)) (fun w hW => ?_)
  have hW : Stw ⟨Y, [], w0⟩ [(b2, [.int .i64 match_Any.1, .int .i64 (if p0 = 0 then p1 else match_Any.2.1.1), .int .i64 (if p0 = 1 then p1 else match_Any.2.1.2.1), .int .i64 (if p0 = 2 then p1 else match_Any.2.1.2.2.1), .int .i64 (if p0 = 3 then p1 else match_Any.2.1.2.2.2), .int .i64 match_Any.2.2.1, .int .i64 match_Any.2.2.2.1, .int .i64 match_Any.2.2.2.2.1, .int .i64 match_Any.2.2.2.2.2]), (b1, [.int .i64 0, .int .i64 0, .int .i64 0, .int .i64 0, .int .i64 0, .int .i64 0, .int .i64 0, .int .i64 0, .int .i64 0])] [] w := hW
  refine pl_next (N2 := []) (NZ2 := []) (N3 := []) (NZ3 := []) hW rfl rfl all_nil all_nil ?_
  obtain ⟨x5, h4, H⟩ := bindE H
  refine pl_t (R := []) hF rfl rfl (yC fun M Z hN hZ => y_indexP (5 + (p0).toNat * 1) Ar76 hF rfl rfl rfl h4 rfl) rfl rfl (fun a hF => ?_)
  refine pl_f rfl ?_
  refine l_store_dyn (o := 5) (m := 4) (i := p0) (l := ([match_Any.2.2.1, match_Any.2.2.2.1, match_Any.2.2.2.2.1, match_Any.2.2.2.2.2] : List Int)) (x := x5) (cs := [.int .i64 match_Any.1, .int .i64 (if p0 = 0 then p1 else match_Any.2.1.1), .int .i64 (if p0 = 1 then p1 else match_Any.2.1.2.1), .int .i64 (if p0 = 2 then p1 else match_Any.2.1.2.2.1), .int .i64 (if p0 = 3 then p1 else match_Any.2.1.2.2.2), .int .i64 match_Any.2.2.1, .int .i64 match_Any.2.2.2.1, .int .i64 match_Any.2.2.2.2.1, .int .i64 match_Any.2.2.2.2.2]) (cs' := [.int .i64 match_Any.1, .int .i64 (if p0 = 0 then p1 else match_Any.2.1.1), .int .i64 (if p0 = 1 then p1 else match_Any.2.1.2.1), .int .i64 (if p0 = 2 then p1 else match_Any.2.1.2.2.1), .int .i64 (if p0 = 3 then p1 else match_Any.2.1.2.2.2), .int .i64 (if p0 = 0 then x4 else match_Any.2.2.1), .int .i64 (if p0 = 1 then x4 else match_Any.2.2.2.1), .int .i64 (if p0 = 2 then x4 else match_Any.2.2.2.2.1), .int .i64 (if p0 = 3 then x4 else match_Any.2.2.2.2.2)]) 0 hF hW rfl rfl rfl T3 rfl rfl rfl rfl h4 (by intro k hk hn; rw [hk]; match k, hn with | 0, _ => rfl | 1, _ => rfl | 2, _ => rfl | 3, _ => rfl | (z + 4), h => exact absurd h (by omega)) (fun w hW => ?_)
  have hW : Stw ⟨Y, [], w0⟩ [(b2, [.int .i64 match_Any.1, .int .i64 (if p0 = 0 then p1 else match_Any.2.1.1), .int .i64 (if p0 = 1 then p1 else match_Any.2.1.2.1), .int .i64 (if p0 = 2 then p1 else match_Any.2.1.2.2.1), .int .i64 (if p0 = 3 then p1 else match_Any.2.1.2.2.2), .int .i64 (if p0 = 0 then x4 else match_Any.2.2.1), .int .i64 (if p0 = 1 then x4 else match_Any.2.2.2.1), .int .i64 (if p0 = 2 then x4 else match_Any.2.2.2.2.1), .int .i64 (if p0 = 3 then x4 else match_Any.2.2.2.2.2)]), (b1, [.int .i64 0, .int .i64 0, .int .i64 0, .int .i64 0, .int .i64 0, .int .i64 0, .int .i64 0, .int .i64 0, .int .i64 0])] [] w := hW
  refine pl_next (N2 := []) (NZ2 := []) (N3 := []) (NZ3 := []) hW rfl rfl all_nil all_nil ?_
  refine pl_end ?_
  refine c_then ?_
  refine c_seq (reg_list ?_)
  refine ls hF hW rfl ((y_load (v := Value.agg #[.int .i64 match_Any.1, .int .i64 (if p0 = 0 then p1 else match_Any.2.1.1), .int .i64 (if p0 = 1 then p1 else match_Any.2.1.2.1), .int .i64 (if p0 = 2 then p1 else match_Any.2.1.2.2.1), .int .i64 (if p0 = 3 then p1 else match_Any.2.1.2.2.2), .int .i64 (if p0 = 0 then x4 else match_Any.2.2.1), .int .i64 (if p0 = 1 then x4 else match_Any.2.2.2.1), .int .i64 (if p0 = 2 then x4 else match_Any.2.2.2.2.1), .int .i64 (if p0 = 3 then x4 else match_Any.2.2.2.2.2)]) 0 hF rfl rfl T78 rfl).q) (fun a w hF hW => ?_)
  refine l_store (vs := [.int .i64 match_Any.1, .int .i64 (if p0 = 0 then p1 else match_Any.2.1.1), .int .i64 (if p0 = 1 then p1 else match_Any.2.1.2.1), .int .i64 (if p0 = 2 then p1 else match_Any.2.1.2.2.1), .int .i64 (if p0 = 3 then p1 else match_Any.2.1.2.2.2), .int .i64 (if p0 = 0 then x4 else match_Any.2.2.1), .int .i64 (if p0 = 1 then x4 else match_Any.2.2.2.1), .int .i64 (if p0 = 2 then x4 else match_Any.2.2.2.2.1), .int .i64 (if p0 = 3 then x4 else match_Any.2.2.2.2.2)]) (M' := [(b2, [.int .i64 match_Any.1, .int .i64 (if p0 = 0 then p1 else match_Any.2.1.1), .int .i64 (if p0 = 1 then p1 else match_Any.2.1.2.1), .int .i64 (if p0 = 2 then p1 else match_Any.2.1.2.2.1), .int .i64 (if p0 = 3 then p1 else match_Any.2.1.2.2.2), .int .i64 (if p0 = 0 then x4 else match_Any.2.2.1), .int .i64 (if p0 = 1 then x4 else match_Any.2.2.2.1), .int .i64 (if p0 = 2 then x4 else match_Any.2.2.2.2.1), .int .i64 (if p0 = 3 then x4 else match_Any.2.2.2.2.2)]), (b1, [.int .i64 match_Any.1, .int .i64 (if p0 = 0 then p1 else match_Any.2.1.1), .int .i64 (if p0 = 1 then p1 else match_Any.2.1.2.1), .int .i64 (if p0 = 2 then p1 else match_Any.2.1.2.2.1), .int .i64 (if p0 = 3 then p1 else match_Any.2.1.2.2.2), .int .i64 (if p0 = 0 then x4 else match_Any.2.2.1), .int .i64 (if p0 = 1 then x4 else match_Any.2.2.2.1), .int .i64 (if p0 = 2 then x4 else match_Any.2.2.2.2.1), .int .i64 (if p0 = 3 then x4 else match_Any.2.2.2.2.2)])]) 1 hF hW rfl rfl rfl T78 rfl rfl rfl rfl rfl (fun w hW => ?_)
  refine ls_nil (c_then ?_)
  refine wp_ret ?_
  have H := Option.some.inj H
  subst H
  refine post1 (.inl rfl) hF hW rfl (rv_cell 1 hF rfl rfl T78 rfl) ?_
  exact ⟨rfl, hW.done⟩

theorem u79_ : type_of% Try.underlying79 := Try.underlying79
theorem u81_ : type_of% Try.underlying81 := Try.underlying81
theorem u109_ : type_of% Try.underlying109 := Try.underlying109
theorem H48 : Has Try.prog 48 := ⟨fun args w => run_callFunc_body Try.func48 rfl (by decide) args w⟩
theorem B109 : Bt Try.prog 109 [.int .i64 0, .int .i64 0, .int .i64 0] [(0, 1), (1, 1), (2, 1)] := ⟨⟨.agg #[.int .i64 0, .int .i64 0, .int .i64 0], by kernel_rfl, rfl⟩, ⟨_, u109_, fun w => by kernel_rfl⟩⟩
theorem Z109 : (Try.prog.info? 109).bind (·.zero) = some (.agg #[.int .i64 0, .int .i64 0, .int .i64 0]) := by kernel_rfl
abbrev R109 : Rp (Int × Int × Int) := (Rp.pair (Rp.int .i64) (Rp.pair (Rp.int .i64) (Rp.int .i64)))
def E109 (a : Int × Int × Int) : List Value := [.int .i64 a.1, .int .i64 a.2.1, .int .i64 a.2.2]
theorem F109 : Fl R109 E109 := (Fl.pair Fl.int (Fl.pair Fl.int Fl.int))
theorem L79 : Et Try.prog 79 109 3 24 := Et.of u79_ (by kernel_rfl) (by kernel_rfl) (by kernel_rfl) (by decide)
theorem B81 : Bt Try.prog 81 [.int .i64 0, .int .i64 0, .int .i64 0, .int .i64 0, .int .i64 0, .int .i64 0, .int .i64 0, .int .i64 0, .int .i64 0, .int .i64 0, .slice none 0 0] [(0, 1), (1, 9), (10, 1)] := ⟨⟨.agg #[.int .i64 0, .int .i64 0, .int .i64 0, .int .i64 0, .int .i64 0, .int .i64 0, .int .i64 0, .int .i64 0, .int .i64 0, .int .i64 0, .slice none 0 0], by kernel_rfl, rfl⟩, ⟨_, u81_, fun w => by kernel_rfl⟩⟩
theorem T81 : Ty Try.prog 81 true 11 := ⟨by kernel_rfl, by kernel_rfl⟩
noncomputable def rule_Plain (p0 : Int) (p1 : Int) (p2 : Int) (p3 : Int) : Option (Int × (Int × (Int × Int × Int × Int) × (Int × Int × Int × Int)) × (List (Int × Int × Int))) := (match_Of p0 p1).bind fun x1 => some (p2, x1, ([(2, 0, p3)] : List (Int × Int × Int)))
theorem rule_Plain_c (Y : Nat → Prop) (w0 : World)  (p0 : Int) (p1 : Int) (p2 : Int) (p3 : Int) (r : (Int × (Int × (Int × Int × Int × Int) × (Int × Int × Int × Int)) × (List (Int × Int × Int)))) (H : rule_Plain p0 p1 p2 p3 = some r)  :
    Calls Try.prog 30 #[.int .i64 p0, .int .i64 p1, .int .i64 p2, .int .i64 p3] w0 fun e w' => ∃ x : Value, e = .returned (.agg #[.int .i64 r.1, .int .i64 r.2.1.1, .int .i64 r.2.1.2.1.1, .int .i64 r.2.1.2.1.2.1, .int .i64 r.2.1.2.1.2.2.1, .int .i64 r.2.1.2.1.2.2.2, .int .i64 r.2.1.2.2.1, .int .i64 r.2.1.2.2.2.1, .int .i64 r.2.1.2.2.2.2.1, .int .i64 r.2.1.2.2.2.2.2, x]) ∧ Stw ⟨Y, [], w0⟩ [] [row (x) 109 R109 r.2.2] w' := by
 refine enter Try.func30 rfl Try.ntmps30 rfl (fun a hF => ?_)
 have hW := Stw.start Y w0
 unfold rule_Plain at H
 refine c_seq (reg_list ?_)
 refine l_alloc (cs := [.int .i64 0, .int .i64 0, .int .i64 0, .int .i64 0, .int .i64 0, .int .i64 0, .int .i64 0, .int .i64 0, .int .i64 0, .int .i64 0, .slice none 0 0]) hF hW rfl Z81 rfl (fun b1 a w hF hW => ?_)
 refine ls_nil (c_then ?_)
 refine c_seq (reg_list ?_)
 iterate 3 refine ls hF hW rfl ((y_move hF rfl).q) (fun a w hF hW => ?_)
 obtain ⟨x1, h1, H⟩ := bindE H
 refine ls hF hW rfl (y_call (v := Value.agg #[.int .i64 x1.1, .int .i64 x1.2.1.1, .int .i64 x1.2.1.2.1, .int .i64 x1.2.1.2.2.1, .int .i64 x1.2.1.2.2.2, .int .i64 x1.2.2.1, .int .i64 x1.2.2.2.1, .int .i64 x1.2.2.2.2.1, .int .i64 x1.2.2.2.2.2]) hF H48 rfl (fun w hW => match_Of_c any w p0 p1 _ h1)) (fun a w hF hW => ?_)
 refine ls hF hW rfl ((y_move hF rfl).q) (fun a w hF hW => ?_)
 refine ls hF hW rfl ((y_build (v := Value.agg #[.int .i64 2, .int .i64 0, .int .i64 p3]) B109 hF rfl rfl rfl).q) (fun a w hF hW => ?_)
 refine l_lit (z := Value.agg #[.int .i64 0, .int .i64 0, .int .i64 0]) (cs := [.int .i64 2, .int .i64 0, .int .i64 p3]) R109 ([(2, 0, p3)] : List (Int × Int × Int)) hF hW rfl L79 Z109 rfl rfl rfl rfl rfl rfl (F109.repL _ _ ([(2, 0, p3)] : List (Int × Int × Int))) (fun v1 a w hF hW => ?_)
 refine ls hF hW rfl ((y_build (v := Value.agg #[.int .i64 p2, .int .i64 x1.1, .int .i64 x1.2.1.1, .int .i64 x1.2.1.2.1, .int .i64 x1.2.1.2.2.1, .int .i64 x1.2.1.2.2.2, .int .i64 x1.2.2.1, .int .i64 x1.2.2.2.1, .int .i64 x1.2.2.2.2.1, .int .i64 x1.2.2.2.2.2, v1]) B81 hF rfl (fill_cons rfl rfl rfl (fill_cons rfl rfl rfl (fill_cons rfl (cells_one (hW.one (k := 0) rfl)) rfl fill_nil))) rfl).q) (fun a w hF hW => ?_)
 refine l_store (vs := [.int .i64 p2, .int .i64 x1.1, .int .i64 x1.2.1.1, .int .i64 x1.2.1.2.1, .int .i64 x1.2.1.2.2.1, .int .i64 x1.2.1.2.2.2, .int .i64 x1.2.2.1, .int .i64 x1.2.2.2.1, .int .i64 x1.2.2.2.2.1, .int .i64 x1.2.2.2.2.2, v1]) (M' := [(b1, [.int .i64 p2, .int .i64 x1.1, .int .i64 x1.2.1.1, .int .i64 x1.2.1.2.1, .int .i64 x1.2.1.2.2.1, .int .i64 x1.2.1.2.2.2, .int .i64 x1.2.2.1, .int .i64 x1.2.2.2.1, .int .i64 x1.2.2.2.2.1, .int .i64 x1.2.2.2.2.2, v1])]) 0 hF hW rfl rfl rfl T81 rfl rfl rfl (one_cons rfl (one_cons rfl (one_cons rfl (one_cons rfl (one_cons rfl (one_cons rfl (one_cons rfl (one_cons rfl (one_cons rfl (one_cons rfl (one_cons (hW.one (k := 0) rfl) one_nil))))))))))) rfl (fun w hW => ?_)
 refine ls_nil (c_then ?_)
 refine wp_ret ?_
 have H := Option.some.inj H
 subst H
 refine post1 (.inl rfl) hF hW rfl (rv_cell 0 hF rfl rfl T81 rfl) ?_
 have hW := hW.sub (M' := []) (Z' := [row v1 109 R109 ([(2, 0, p3)] : List (Int × Int × Int))]) (List.nil_sublist _) (List.Sublist.refl _)
 exact ⟨(v1), rfl, hW⟩

theorem u52_ : type_of% Try.underlying52 := Try.underlying52
theorem u83_ : type_of% Try.underlying83 := Try.underlying83
theorem H30 : Has Try.prog 30 := ⟨fun args w => run_callFunc_body Try.func30 rfl (by decide) args w⟩
theorem B83 : Bt Try.prog 83 [.int .i64 0, .int .i64 0, .int .i64 0, .int .i64 0, .int .i64 0, .int .i64 0, .int .i64 0, .int .i64 0, .int .i64 0, .int .i64 0, .int .i64 0, .slice none 0 0, .bool false] [(0, 1), (1, 11), (12, 1)] := ⟨⟨.agg #[.int .i64 0, .int .i64 0, .int .i64 0, .int .i64 0, .int .i64 0, .int .i64 0, .int .i64 0, .int .i64 0, .int .i64 0, .int .i64 0, .int .i64 0, .slice none 0 0, .bool false], by kernel_rfl, rfl⟩, ⟨_, u83_, fun w => by kernel_rfl⟩⟩
theorem Z83 : (Try.prog.info? 83).bind (·.zero) = some (.agg #[.int .i64 0, .int .i64 0, .int .i64 0, .int .i64 0, .int .i64 0, .int .i64 0, .int .i64 0, .int .i64 0, .int .i64 0, .int .i64 0, .int .i64 0, .slice none 0 0, .bool false]) := by kernel_rfl
abbrev R76 : Rp (Int × Int × Int × Int) := (Rp.pair (Rp.int .i64) (Rp.pair (Rp.int .i64) (Rp.pair (Rp.int .i64) (Rp.int .i64))))
abbrev R78 : Rp (Int × (Int × Int × Int × Int) × (Int × Int × Int × Int)) := (Rp.pair (Rp.int .i64) (Rp.pair R76 R76))
abbrev R81 : Rp (Int × (Int × (Int × Int × Int × Int) × (Int × Int × Int × Int)) × (List (Int × Int × Int))) := (Rp.pair (Rp.int .i64) (Rp.pair R78 (Rp.slice R109)))
abbrev R83 : Rp (Int × (Int × (Int × (Int × Int × Int × Int) × (Int × Int × Int × Int)) × (List (Int × Int × Int))) × Bool) := (Rp.pair (Rp.int .i64) (Rp.pair R81 Rp.bool))
theorem L52 : Et Try.prog 52 83 13 120 := Et.of u52_ (by kernel_rfl) (by kernel_rfl) (by kernel_rfl) (by decide)
noncomputable def level_Mods_l1 (p0 : List (Int × Int × Int × Int)) (p1 : Int) (p2 : Int) : ((List (Int × (Int × (Int × (Int × Int × Int × Int) × (Int × Int × Int × Int)) × (List (Int × Int × Int))) × Bool)) × Int) → Option (((List (Int × (Int × (Int × (Int × Int × Int × Int) × (Int × Int × Int × Int)) × (List (Int × Int × Int))) × Bool)) × Int) ⊕ (List (Int × (Int × (Int × (Int × Int × Int × Int) × (Int × Int × Int × Int)) × (List (Int × Int × Int))) × Bool)))
  | (x2, x3) => (if x3 < (p0.length : Int) then ((ix p0 x3).bind fun x5 => (if (decide (x5.2.2.2 = p1) && decide (x5.1 = p2)) = true then (rule_Plain 1 x5.2.1 10 x5.2.2.1).bind fun x6 => (app x2 ([(3, x6, false)] : List (Int × (Int × (Int × (Int × Int × Int × Int) × (Int × Int × Int × Int)) × (List (Int × Int × Int))) × Bool))).bind fun x7 => some x7 else some x2)).bind fun x4 => some (.inl (x4, w64 (x3 + 1))) else some (.inr x2))
noncomputable def level_Mods (p0 : List (Int × Int × Int × Int)) (p1 : Int) (p2 : Int) : Option (List (Int × (Int × (Int × (Int × Int × Int × Int) × (Int × Int × Int × Int)) × (List (Int × Int × Int))) × Bool)) := (loopW (level_Mods_l1 p0 p1 p2) ([], 0)).bind fun x1 => some x1
theorem level_Mods_c (Y : Nat → Prop) (w0 : World) (v1 : Value) (p0 : List (Int × Int × Int × Int)) (p1 : Int) (p2 : Int) (r : (List (Int × (Int × (Int × (Int × Int × Int × Int) × (Int × Int × Int × Int)) × (List (Int × Int × Int))) × Bool))) (H : level_Mods p0 p1 p2 = some r) (h_v1 : Sl w0 (NX []) R85 v1 p0) :
    Calls Try.prog 16 #[v1, .int .i64 p1, .int .i64 p2] w0 fun e w' => ∃ x : Value, e = .returned (x) ∧ Stw ⟨Y, [], w0⟩ [] [row (x) 83 R83 r] w' := by
 refine enter Try.func16 rfl Try.ntmps16 rfl (fun a hF => ?_)
 have hW := Stw.start Y w0
 unfold level_Mods at H
 refine c_seq (reg_list ?_)
 refine ls hF hW rfl ((y_assign hF rfl).q) (fun a w hF hW => ?_)
 refine ls_nil (c_then ?_)
 refine c_seq (reg_list ?_)
 refine ls hF hW rfl ((y_assign hF rfl).q) (fun a w hF hW => ?_)
 refine ls_nil (c_then ?_)
 obtain ⟨o1, G1, K1⟩ := bindE H
 refine c_seqJ (fun a w => ∃ x1 : List (Int × (Int × (Int × (Int × Int × Int × Int) × (Int × Int × Int × Int)) × (List (Int × Int × Int))) × Bool), ∃ v2 : Value, some (x1) = some o1 ∧ Fr 37 [] [(6, .slice none 0 0), (7, v2)] a ∧ Stw ⟨Y, [], w0⟩ [] [row v2 83 R83 x1] w) ?_ ?_
 ·
  have H := G1
  clear G1 K1
  refine c_seq (reg_list ?_)
  refine ls hF hW rfl ((y_move hF rfl).q) (fun a w hF hW => ?_)
  refine ls hF hW rfl ((y_len (r := R85) (l := p0) u30_ rfl hF rfl (rdc_ro h_v1)).q) (fun a w hF hW => ?_)
  refine ls hF hW rfl ((y_move hF rfl).q) (fun a w hF hW => ?_)
  refine ls_nil (c_then ?_)
  refine wp_block ?_
  have hW := hW.nilRow 83 R83
  refine c_loopW H (fun s a w => ∃ v3 : Value, Fr 37 [] [(1, .int .i64 p1), (2, .int .i64 p2), (6, .slice none 0 0), (7, v3), (10, v1), (11, .int .i64 (p0.length : Int)), (12, .int .i64 s.2)] a ∧ Stw ⟨Y, [], w0⟩ [] [row v3 83 R83 s.1] w) ⟨(Value.slice none 0 0), hF.re ⟨rfl, rfl, rfl, rfl, rfl, rfl, rfl, trivial⟩, hW⟩ (fun s o a w H L2 hR => ?_)
  obtain ⟨x2, x3⟩ := s
  obtain ⟨v3, hF, hW⟩ := hR
  have hF : Fr 37 [] [(1, .int .i64 p1), (2, .int .i64 p2), (6, .slice none 0 0), (7, v3), (10, v1), (11, .int .i64 (p0.length : Int)), (12, .int .i64 x3)] a := hF
  have hW : Stw ⟨Y, [], w0⟩ [] [row v3 83 R83 x2] w := hW
  rw [level_Mods_l1] at H
  refine c_seq (reg_list ?_)
  refine ls hF hW rfl ((y_lss hF rfl rfl).q) (fun a w hF hW => ?_)
  refine ls_nil (c_then ?_)
  refine c_seq ?_
  refine c_cond hF rfl (fun hb => ?_) (fun hb => ?_)
  ·
   have H := iteT (of_decide_eq_true hb) H
   rw [hb] at hF
   clear hb
   refine wp_skip ?_
   refine c_then ?_
   obtain ⟨o3, G3, K3⟩ := bindE H
   refine c_seqJ (fun a w => ∃ x4 : List (Int × (Int × (Int × (Int × Int × Int × Int) × (Int × Int × Int × Int)) × (List (Int × Int × Int))) × Bool), ∃ v4 : Value, some (x4) = some o3 ∧ Fr 37 [] [(1, .int .i64 p1), (2, .int .i64 p2), (6, .slice none 0 0), (7, v4), (10, v1), (11, .int .i64 (p0.length : Int)), (12, .int .i64 x3)] a ∧ Stw ⟨Y, [], w0⟩ [] [row v4 83 R83 x4] w) ?_ ?_
   ·
    have H := G3
    clear G3 K3
    refine wp_block ?_
    refine c_seq (reg_list ?_)
    obtain ⟨x5, h1, H⟩ := bindE H
    refine ls hF hW rfl ((y_index (r := R85) L30 hF rfl rfl (rdc_ro h_v1) h1).q) (fun a w hF hW => ?_)
    refine ls hF hW rfl ((y_load_el (y := Value.agg #[.int .i64 x5.1, .int .i64 x5.2.1, .int .i64 x5.2.2.1, .int .i64 x5.2.2.2]) (j := 0) (i := x3) hF rfl rfl (rdc_ro h_v1) h1 F85.to T85 rfl).q) (fun a w hF hW => ?_)
    refine l_alloc (cs := [.int .i64 0, .int .i64 0, .int .i64 0, .int .i64 0]) hF hW rfl Z85 rfl (fun b1 a w hF hW => ?_)
    refine l_store (vs := [.int .i64 x5.1, .int .i64 x5.2.1, .int .i64 x5.2.2.1, .int .i64 x5.2.2.2]) (M' := [(b1, [.int .i64 x5.1, .int .i64 x5.2.1, .int .i64 x5.2.2.1, .int .i64 x5.2.2.2])]) 0 hF hW rfl rfl rfl T85 rfl rfl rfl rfl rfl (fun w hW => ?_)
    refine ls_nil (c_then ?_)
    refine c_seqJ (fun a w => Fr 37 [] [(1, .int .i64 p1), (2, .int .i64 p2), (6, .slice none 0 0), (7, v3), (9, .pointer (some ⟨b1, 0, none⟩)), (10, v1), (11, .int .i64 (p0.length : Int)), (12, .int .i64 x3), (25, .bool (decide (x5.2.2.2 = p1) && decide (x5.1 = p2)))] a ∧ Stw ⟨Y, [], w0⟩ [(b1, [.int .i64 x5.1, .int .i64 x5.2.1, .int .i64 x5.2.2.1, .int .i64 x5.2.2.2])] [row v3 83 R83 x2] w) ?_ ?_
    ·
     refine reg_list ?_
     refine ls hF hW rfl ((y_fieldAddr u85_ rfl rfl rfl T3 hF rfl 3 rfl).q) (fun a w hF hW => ?_)
     refine ls hF hW rfl ((y_load (v := Value.int .i64 x5.2.2.2) 0 hF rfl rfl T3 rfl).q) (fun a w hF hW => ?_)
     refine ls hF hW rfl ((y_move hF rfl).q) (fun a w hF hW => ?_)
     refine ls hF hW rfl ((y_eql hF rfl rfl).q) (fun a w hF hW => ?_)
     refine ls hF hW rfl ((y_move hF rfl).q) (fun a w hF hW => ?_)
     rcases Bool.eq_false_or_eq_true (decide (x5.2.2.2 = p1)) with hb0 | hb0
     ·
      rw [hb0] at hF
      refine ls_w hF hW (wanted_y hF rfl rfl rfl rfl) rfl (Nat.le_of_ble_eq_true rfl) ((y_fieldAddr u85_ rfl rfl rfl T3 hF rfl 0 rfl).q) (fun a w hF hW => ?_)
      refine ls_w hF hW (wanted_y hF rfl rfl rfl rfl) rfl (Nat.le_of_ble_eq_true rfl) ((y_load (v := Value.int .i64 x5.1) 0 hF rfl rfl T3 rfl).q) (fun a w hF hW => ?_)
      refine ls_w hF hW (wanted_y hF rfl rfl rfl rfl) rfl (Nat.le_of_ble_eq_true rfl) ((y_move hF rfl).q) (fun a w hF hW => ?_)
      refine ls_w hF hW (wanted_y hF rfl rfl rfl rfl) rfl (Nat.le_of_ble_eq_true rfl) ((y_eql hF rfl rfl).q) (fun a w hF hW => ?_)
      refine ls hF hW rfl ((y_pick_t hF rfl rfl rfl).q) (fun a w hF hW => ?_)
      refine ls_nil (c_then ?_)
      exact ⟨hF.re ⟨rfl, rfl, rfl, rfl, rfl, rfl, rfl, rfl, (by show some (Value.bool (decide (x5.1 = p2))) = some (Value.bool (decide (x5.2.2.2 = p1) && decide (x5.1 = p2))); try rw [hb0]; all_goals simp only [Bool.not_true, Bool.not_false, Bool.true_and, Bool.false_and, Bool.true_or, Bool.false_or, Bool.and_true, Bool.or_false, cond_true, cond_false]), trivial⟩, hW⟩
     ·
      rw [hb0] at hF
      iterate 4 refine lsn hF rfl rfl rfl rfl rfl rfl rfl (fun a hF => ?_)
      refine ls hF hW rfl ((y_pick_f hF rfl rfl rfl).q) (fun a w hF hW => ?_)
      refine ls_nil (c_then ?_)
      exact ⟨hF.re ⟨rfl, rfl, rfl, rfl, rfl, rfl, rfl, rfl, (by show some (Value.bool false) = some (Value.bool (decide (x5.2.2.2 = p1) && decide (x5.1 = p2))); try rw [hb0]; all_goals simp only [Bool.not_true, Bool.not_false, Bool.true_and, Bool.false_and, Bool.true_or, Bool.false_or, Bool.and_true, Bool.or_false, cond_true, cond_false]), trivial⟩, hW⟩
    rintro a w ⟨hF, hW⟩
    refine c_cond hF rfl (fun hb => ?_) (fun hb => ?_)
    ·
     have H := iteT hb H
     rw [hb] at hF
     clear hb
     refine reg_list ?_
     refine ls hF hW rfl ((y_move hF rfl).q) (fun a w hF hW => ?_)
     refine ls hF hW rfl ((y_fieldAddr u85_ rfl rfl rfl T3 hF rfl 1 rfl).q) (fun a w hF hW => ?_)
     refine ls hF hW rfl ((y_load (v := Value.int .i64 x5.2.1) 0 hF rfl rfl T3 rfl).q) (fun a w hF hW => ?_)
     refine ls hF hW rfl ((y_fieldAddr u85_ rfl rfl rfl T3 hF rfl 2 rfl).q) (fun a w hF hW => ?_)
     refine ls hF hW rfl ((y_load (v := Value.int .i64 x5.2.2.1) 0 hF rfl rfl T3 rfl).q) (fun a w hF hW => ?_)
     obtain ⟨x6, h2, H⟩ := bindE H
     refine l_callG (Ml := []) (Zl := []) (M := [(b1, [.int .i64 x5.1, .int .i64 x5.2.1, .int .i64 x5.2.2.1, .int .i64 x5.2.2.2])]) (Z := [row v3 83 R83 x2]) (β := Value) (rv := fun x => .agg #[.int .i64 x6.1, .int .i64 x6.2.1.1, .int .i64 x6.2.1.2.1.1, .int .i64 x6.2.1.2.1.2.1, .int .i64 x6.2.1.2.1.2.2.1, .int .i64 x6.2.1.2.1.2.2.2, .int .i64 x6.2.1.2.2.1, .int .i64 x6.2.1.2.2.2.1, .int .i64 x6.2.1.2.2.2.2.1, .int .i64 x6.2.1.2.2.2.2.2, x]) (MM := fun x => []) (ZZ := fun x => [row x 109 R109 x6.2.2]) hF hW H30 rfl rfl (fun hL => rule_Plain_c _ w 1 x5.2.1 10 x5.2.2.1 _ h2) (fun x a w hF hW => ?_)
     obtain ⟨v5, rfl⟩ : ∃ y, y = x := ⟨x, rfl⟩
     have hW : Stw ⟨Y, [], w0⟩ [(b1, [.int .i64 x5.1, .int .i64 x5.2.1, .int .i64 x5.2.2.1, .int .i64 x5.2.2.2])] [row v5 109 R109 x6.2.2, row v3 83 R83 x2] w := hW
     refine ls hF hW rfl ((y_build (v := Value.agg #[.int .i64 3, .int .i64 x6.1, .int .i64 x6.2.1.1, .int .i64 x6.2.1.2.1.1, .int .i64 x6.2.1.2.1.2.1, .int .i64 x6.2.1.2.1.2.2.1, .int .i64 x6.2.1.2.1.2.2.2, .int .i64 x6.2.1.2.2.1, .int .i64 x6.2.1.2.2.2.1, .int .i64 x6.2.1.2.2.2.2.1, .int .i64 x6.2.1.2.2.2.2.2, v5, .bool false]) B83 hF rfl (fill_cons rfl rfl rfl (fill_cons rfl rfl rfl fill_nil)) rfl).q) (fun a w hF hW => ?_)
     have hW := hW.freeze
     refine l_lit (z := Value.agg #[.int .i64 0, .int .i64 0, .int .i64 0, .int .i64 0, .int .i64 0, .int .i64 0, .int .i64 0, .int .i64 0, .int .i64 0, .int .i64 0, .int .i64 0, .slice none 0 0, .bool false]) (cs := [.int .i64 3, .int .i64 x6.1, .int .i64 x6.2.1.1, .int .i64 x6.2.1.2.1.1, .int .i64 x6.2.1.2.1.2.1, .int .i64 x6.2.1.2.1.2.2.1, .int .i64 x6.2.1.2.1.2.2.2, .int .i64 x6.2.1.2.2.1, .int .i64 x6.2.1.2.2.2.1, .int .i64 x6.2.1.2.2.2.2.1, .int .i64 x6.2.1.2.2.2.2.2, v5, .bool false]) R83 ([(3, x6, false)] : List (Int × (Int × (Int × (Int × Int × Int × Int) × (Int × Int × Int × Int)) × (List (Int × Int × Int))) × Bool)) hF hW rfl L52 Z83 rfl rfl rfl (fill_cons rfl rfl rfl fill_nil) rfl rfl ⟨[Value.int .i64 3, Value.int .i64 x6.1, Value.int .i64 x6.2.1.1, Value.int .i64 x6.2.1.2.1.1, Value.int .i64 x6.2.1.2.1.2.1, Value.int .i64 x6.2.1.2.1.2.2.1, Value.int .i64 x6.2.1.2.1.2.2.2, Value.int .i64 x6.2.1.2.2.1, Value.int .i64 x6.2.1.2.2.2.1, Value.int .i64 x6.2.1.2.2.2.2.1, Value.int .i64 x6.2.1.2.2.2.2.2, v5, Value.bool false], _, rfl, ⟨[Value.int .i64 3], [Value.int .i64 x6.1, Value.int .i64 x6.2.1.1, Value.int .i64 x6.2.1.2.1.1, Value.int .i64 x6.2.1.2.1.2.1, Value.int .i64 x6.2.1.2.1.2.2.1, Value.int .i64 x6.2.1.2.1.2.2.2, Value.int .i64 x6.2.1.2.2.1, Value.int .i64 x6.2.1.2.2.2.1, Value.int .i64 x6.2.1.2.2.2.2.1, Value.int .i64 x6.2.1.2.2.2.2.2, v5, Value.bool false], rfl, rfl, ⟨[Value.int .i64 x6.1, Value.int .i64 x6.2.1.1, Value.int .i64 x6.2.1.2.1.1, Value.int .i64 x6.2.1.2.1.2.1, Value.int .i64 x6.2.1.2.1.2.2.1, Value.int .i64 x6.2.1.2.1.2.2.2, Value.int .i64 x6.2.1.2.2.1, Value.int .i64 x6.2.1.2.2.2.1, Value.int .i64 x6.2.1.2.2.2.2.1, Value.int .i64 x6.2.1.2.2.2.2.2, v5], [Value.bool false], rfl, ⟨[Value.int .i64 x6.1], [Value.int .i64 x6.2.1.1, Value.int .i64 x6.2.1.2.1.1, Value.int .i64 x6.2.1.2.1.2.1, Value.int .i64 x6.2.1.2.1.2.2.1, Value.int .i64 x6.2.1.2.1.2.2.2, Value.int .i64 x6.2.1.2.2.1, Value.int .i64 x6.2.1.2.2.2.1, Value.int .i64 x6.2.1.2.2.2.2.1, Value.int .i64 x6.2.1.2.2.2.2.2, v5], rfl, rfl, ⟨[Value.int .i64 x6.2.1.1, Value.int .i64 x6.2.1.2.1.1, Value.int .i64 x6.2.1.2.1.2.1, Value.int .i64 x6.2.1.2.1.2.2.1, Value.int .i64 x6.2.1.2.1.2.2.2, Value.int .i64 x6.2.1.2.2.1, Value.int .i64 x6.2.1.2.2.2.1, Value.int .i64 x6.2.1.2.2.2.2.1, Value.int .i64 x6.2.1.2.2.2.2.2], [v5], rfl, ⟨[Value.int .i64 x6.2.1.1], [Value.int .i64 x6.2.1.2.1.1, Value.int .i64 x6.2.1.2.1.2.1, Value.int .i64 x6.2.1.2.1.2.2.1, Value.int .i64 x6.2.1.2.1.2.2.2, Value.int .i64 x6.2.1.2.2.1, Value.int .i64 x6.2.1.2.2.2.1, Value.int .i64 x6.2.1.2.2.2.2.1, Value.int .i64 x6.2.1.2.2.2.2.2], rfl, rfl, ⟨[Value.int .i64 x6.2.1.2.1.1, Value.int .i64 x6.2.1.2.1.2.1, Value.int .i64 x6.2.1.2.1.2.2.1, Value.int .i64 x6.2.1.2.1.2.2.2], [Value.int .i64 x6.2.1.2.2.1, Value.int .i64 x6.2.1.2.2.2.1, Value.int .i64 x6.2.1.2.2.2.2.1, Value.int .i64 x6.2.1.2.2.2.2.2], rfl, ⟨[Value.int .i64 x6.2.1.2.1.1], [Value.int .i64 x6.2.1.2.1.2.1, Value.int .i64 x6.2.1.2.1.2.2.1, Value.int .i64 x6.2.1.2.1.2.2.2], rfl, rfl, ⟨[Value.int .i64 x6.2.1.2.1.2.1], [Value.int .i64 x6.2.1.2.1.2.2.1, Value.int .i64 x6.2.1.2.1.2.2.2], rfl, rfl, ⟨[Value.int .i64 x6.2.1.2.1.2.2.1], [Value.int .i64 x6.2.1.2.1.2.2.2], rfl, rfl, rfl⟩⟩⟩, ⟨[Value.int .i64 x6.2.1.2.2.1], [Value.int .i64 x6.2.1.2.2.2.1, Value.int .i64 x6.2.1.2.2.2.2.1, Value.int .i64 x6.2.1.2.2.2.2.2], rfl, rfl, ⟨[Value.int .i64 x6.2.1.2.2.2.1], [Value.int .i64 x6.2.1.2.2.2.2.1, Value.int .i64 x6.2.1.2.2.2.2.2], rfl, rfl, ⟨[Value.int .i64 x6.2.1.2.2.2.2.1], [Value.int .i64 x6.2.1.2.2.2.2.2], rfl, rfl, rfl⟩⟩⟩⟩⟩, ⟨_, rfl, (hW.item (i := 0) rfl)⟩⟩⟩, rfl⟩⟩, rfl⟩ (fun v6 a w hF hW => ?_)
     obtain ⟨x7, h3, H⟩ := bindE H
     refine l_append (r := R83) (i := 2) hF hW rfl L52 rfl rfl rfl rfl (src_row hW 0 rfl) h3 rfl (fun v7 a w hF hW => ?_)
     have hW : Stw ⟨Y, [], w0⟩ [(b1, [.int .i64 x5.1, .int .i64 x5.2.1, .int .i64 x5.2.2.1, .int .i64 x5.2.2.2])] [row v7 83 R83 x7, row v6 83 R83 ([(3, x6, false)] : List (Int × (Int × (Int × (Int × Int × Int × Int) × (Int × Int × Int × Int)) × (List (Int × Int × Int))) × Bool)), frz v5 R109 x6.2.2] w := hW
     refine ls hF hW rfl ((y_assign hF rfl).q) (fun a w hF hW => ?_)
     refine ls_nil ?_
     refine b_normal ?_
     refine c_then ?_
     have hW := hW.sub (M' := []) (Z' := [row v7 83 R83 x7]) (List.nil_sublist _) (List.Sublist.cons_cons _ (List.nil_sublist _))
     exact ⟨_, (v7), H, hF.re ⟨rfl, rfl, rfl, rfl, rfl, rfl, rfl, trivial⟩, hW⟩
    ·
     have H := iteF (by rw [hb]; decide) H
     rw [hb] at hF
     clear hb
     refine wp_skip ?_
     refine b_normal ?_
     refine c_then ?_
     have hW := hW.sub (M' := []) (Z' := [row v3 83 R83 x2]) (List.nil_sublist _) (List.Sublist.refl _)
     exact ⟨_, (v3), H, hF.re ⟨rfl, rfl, rfl, rfl, rfl, rfl, rfl, trivial⟩, hW⟩
   rintro a w ⟨x4, v4, hj, hF, hW⟩
   have hj := Option.some.inj hj
   subst hj
   have H := K3
   clear G3 K3
   refine reg_list ?_
   refine ls hF hW rfl ((y_add hF rfl rfl rfl).q) (fun a w hF hW => ?_)
   refine ls hF hW rfl ((y_move hF rfl).q) (fun a w hF hW => ?_)
   refine ls_nil (c_then ?_)
   exact ⟨_, H, (v4), hF.re ⟨rfl, rfl, rfl, rfl, rfl, rfl, rfl, trivial⟩, hW⟩
  ·
   have H := iteF (of_decide_eq_false hb) H
   rw [hb] at hF
   clear hb
   refine wp_exit ?_
   iterate 2 refine e_then ?_
   refine e_block ?_
   refine c_then ?_
   have H := L2 _ H
   exact ⟨_, (v3), H, hF.re ⟨rfl, rfl, trivial⟩, hW⟩
 rintro a w ⟨x1, v2, hj, hF, hW⟩
 have hj := Option.some.inj hj
 subst hj
 have H := K1
 clear G1 K1
 refine c_seq (reg_list ?_)
 refine ls hF hW rfl ((y_move hF rfl).q) (fun a w hF hW => ?_)
 refine ls hF hW rfl ((y_assign hF rfl).q) (fun a w hF hW => ?_)
 refine ls_nil (c_then ?_)
 refine wp_ret ?_
 have H := Option.some.inj H
 subst H
 refine post1 (.inl rfl) hF hW rfl (rv_tmp hF rfl) ?_
 exact ⟨(v2), rfl, hW⟩

theorem u50_ : type_of% Try.underlying50 := Try.underlying50
theorem u54_ : type_of% Try.underlying54 := Try.underlying54
theorem H16 : Has Try.prog 16 := ⟨fun args w => run_callFunc_body Try.func16 rfl (by decide) args w⟩
theorem B54 : Bt Try.prog 54 [.int .i64 0, .slice none 0 0] [(0, 1), (1, 1)] := ⟨⟨.agg #[.int .i64 0, .slice none 0 0], by kernel_rfl, rfl⟩, ⟨_, u54_, fun w => by kernel_rfl⟩⟩
theorem Z54 : (Try.prog.info? 54).bind (·.zero) = some (.agg #[.int .i64 0, .slice none 0 0]) := by kernel_rfl
abbrev R54 : Rp (Int × (List (Int × (Int × (Int × (Int × Int × Int × Int) × (Int × Int × Int × Int)) × (List (Int × Int × Int))) × Bool))) := (Rp.pair (Rp.int .i64) (Rp.slice R83))
theorem L50 : Et Try.prog 50 54 2 32 := Et.of u50_ (by kernel_rfl) (by kernel_rfl) (by kernel_rfl) (by decide)
noncomputable def plan_Parts_l1 (p0 : (List (Int × Int × Int × Int)) × (List (Int × Int × List Int)) × Int × Int × Int × Int) (x1 : Int × Int × List Int) : ((List (Int × (List (Int × (Int × (Int × (Int × Int × Int × Int) × (Int × Int × Int × Int)) × (List (Int × Int × Int))) × Bool)))) × Int) → Option (((List (Int × (List (Int × (Int × (Int × (Int × Int × Int × Int) × (Int × Int × Int × Int)) × (List (Int × Int × Int))) × Bool)))) × Int) ⊕ (List (Int × (List (Int × (Int × (Int × (Int × Int × Int × Int) × (Int × Int × Int × Int)) × (List (Int × Int × Int))) × Bool)))))
  | (x3, x4) => (if x4 < (x1.2.2.length : Int) then (ix x1.2.2 x4).bind fun x5 => (level_Mods p0.1 x1.1 x5).bind fun x6 => (app x3 ([(x5, x6)] : List (Int × (List (Int × (Int × (Int × (Int × Int × Int × Int) × (Int × Int × Int × Int)) × (List (Int × Int × Int))) × Bool))))).bind fun x7 => some (.inl (x7, w64 (x4 + 1))) else some (.inr x3))
noncomputable def plan_Parts (p0 : (List (Int × Int × Int × Int)) × (List (Int × Int × List Int)) × Int × Int × Int × Int) (p1 : Int) : Option (List (Int × (List (Int × (Int × (Int × (Int × Int × Int × Int) × (Int × Int × Int × Int)) × (List (Int × Int × Int))) × Bool)))) := (if (decide (p1 < 0) || decide ((p0.2.1.length : Int) ≤ p1)) = true then some ([] : List (Int × (List (Int × (Int × (Int × (Int × Int × Int × Int) × (Int × Int × Int × Int)) × (List (Int × Int × Int))) × Bool)))) else (ix p0.2.1 p1).bind fun x1 => (loopW (plan_Parts_l1 p0 x1) ([], 0)).bind fun x2 => some x2)
theorem plan_Parts_c (Y : Nat → Prop) (w0 : World) (v1 : Value) (v2 : Value) (p0 : (List (Int × Int × Int × Int)) × (List (Int × Int × List Int)) × Int × Int × Int × Int) (p1 : Int) (r : (List (Int × (List (Int × (Int × (Int × (Int × Int × Int × Int) × (Int × Int × Int × Int)) × (List (Int × Int × Int))) × Bool))))) (H : plan_Parts p0 p1 = some r) (h_v1 : Sl w0 (NX []) R85 v1 p0.1) (h_v2 : Sl w0 (NX []) R48 v2 p0.2.1) :
    Calls Try.prog 14 #[.agg #[v1, v2, .int .i64 p0.2.2.1, .int .i64 p0.2.2.2.1, .int .i64 p0.2.2.2.2.1, .int .i64 p0.2.2.2.2.2], .int .i64 p1] w0 fun e w' => ∃ x : Value, e = .returned (x) ∧ Stw ⟨Y, [], w0⟩ [] [row (x) 54 R54 r] w' := by
 refine enter Try.func14 rfl Try.ntmps14 rfl (fun a hF => ?_)
 have hW := Stw.start Y w0
 obtain ⟨v3, h1, h_v2⟩ := h_v2.ex EX48
 unfold plan_Parts at H
 refine c_seq (reg_list ?_)
 refine l_box (cs := [v1, v2, .int .i64 p0.2.2.1, .int .i64 p0.2.2.2.1, .int .i64 p0.2.2.2.2.1, .int .i64 p0.2.2.2.2.2]) hF hW rfl rfl rfl (fun b1 a w hF hW => ?_)
 refine ls hF hW rfl ((y_assign hF rfl).q) (fun a w hF hW => ?_)
 refine ls_nil (c_then ?_)
 refine c_seq ?_
 refine c_seqJ (fun a w => Fr 43 [] [(1, .int .i64 p1), (2, .pointer (some ⟨b1, 0, none⟩)), (4, .slice none 0 0), (17, .bool (decide (p1 < 0) || decide ((p0.2.1.length : Int) ≤ p1)))] a ∧ Stw ⟨Y, [], w0⟩ [(b1, [v1, v2, .int .i64 p0.2.2.1, .int .i64 p0.2.2.2.1, .int .i64 p0.2.2.2.2.1, .int .i64 p0.2.2.2.2.2])] [] w) ?_ ?_
 ·
  refine reg_list ?_
  refine ls hF hW rfl ((y_move hF rfl).q) (fun a w hF hW => ?_)
  refine ls hF hW rfl ((y_lss hF rfl rfl).q) (fun a w hF hW => ?_)
  refine ls hF hW rfl ((y_move hF rfl).q) (fun a w hF hW => ?_)
  rcases Bool.eq_false_or_eq_true (decide (p1 < 0)) with hb0 | hb0
  ·
   rw [hb0] at hF
   iterate 5 refine lsn hF rfl rfl rfl rfl rfl rfl rfl (fun a hF => ?_)
   refine ls hF hW rfl ((y_pick_t hF rfl rfl rfl).q) (fun a w hF hW => ?_)
   refine ls_nil (c_then ?_)
   exact ⟨hF.re ⟨rfl, rfl, rfl, (by show some (Value.bool true) = some (Value.bool (decide (p1 < 0) || decide ((p0.2.1.length : Int) ≤ p1))); try rw [hb0]; all_goals simp only [Bool.not_true, Bool.not_false, Bool.true_and, Bool.false_and, Bool.true_or, Bool.false_or, Bool.and_true, Bool.or_false, cond_true, cond_false]), trivial⟩, hW⟩
  ·
   rw [hb0] at hF
   refine ls_w hF hW (wanted_y hF rfl rfl rfl rfl) rfl (Nat.le_of_ble_eq_true rfl) ((y_move hF rfl).q) (fun a w hF hW => ?_)
   refine ls_w hF hW (wanted_y hF rfl rfl rfl rfl) rfl (Nat.le_of_ble_eq_true rfl) ((y_fieldAddr u33_ rfl rfl rfl T31 hF rfl 1 rfl).q) (fun a w hF hW => ?_)
   refine ls_w hF hW (wanted_y hF rfl rfl rfl rfl) rfl (Nat.le_of_ble_eq_true rfl) ((y_load (v := v2) 0 hF rfl rfl T31 rfl).q) (fun a w hF hW => ?_)
   refine ls_w hF hW (wanted_y hF rfl rfl rfl rfl) rfl (Nat.le_of_ble_eq_true rfl) ((y_len (r := R48) (l := p0.2.1) u31_ rfl hF rfl (rdc_hide EX48 h1 (rdc_ro h_v2))).q) (fun a w hF hW => ?_)
   refine ls_w hF hW (wanted_y hF rfl rfl rfl rfl) rfl (Nat.le_of_ble_eq_true rfl) ((y_geq hF rfl rfl).q) (fun a w hF hW => ?_)
   refine ls hF hW rfl ((y_pick_f hF rfl rfl rfl).q) (fun a w hF hW => ?_)
   refine ls_nil (c_then ?_)
   exact ⟨hF.re ⟨rfl, rfl, rfl, (by show some (Value.bool (decide ((p0.2.1.length : Int) ≤ p1))) = some (Value.bool (decide (p1 < 0) || decide ((p0.2.1.length : Int) ≤ p1))); try rw [hb0]; all_goals simp only [Bool.not_true, Bool.not_false, Bool.true_and, Bool.false_and, Bool.true_or, Bool.false_or, Bool.and_true, Bool.or_false, cond_true, cond_false]), trivial⟩, hW⟩
 rintro a w ⟨hF, hW⟩
 refine c_cond hF rfl (fun hb => ?_) (fun hb => ?_)
 ·
  have H := iteT hb H
  rw [hb] at hF
  clear hb
  refine c_seq (reg_list ?_)
  refine ls hF hW rfl ((y_assign hF rfl).q) (fun a w hF hW => ?_)
  refine ls_nil (c_then ?_)
  refine wp_ret ?_
  refine r_then ?_
  have H := Option.some.inj H
  subst H
  refine post1 (.inl rfl) hF hW rfl (rv_tmp hF rfl) ?_
  have hW := hW.nilRow 54 R54
  have hW := hW.sub (M' := []) (Z' := [row (Value.slice none 0 0) 54 R54 ([])]) (List.nil_sublist _) (List.Sublist.refl _)
  exact ⟨(Value.slice none 0 0), rfl, hW⟩
 ·
  have H := iteF (by rw [hb]; decide) H
  rw [hb] at hF
  clear hb
  refine wp_skip ?_
  refine c_then ?_
  refine c_seq (reg_list ?_)
  refine ls hF hW rfl ((y_fieldAddr u33_ rfl rfl rfl T31 hF rfl 1 rfl).q) (fun a w hF hW => ?_)
  refine ls hF hW rfl ((y_load (v := v2) 0 hF rfl rfl T31 rfl).q) (fun a w hF hW => ?_)
  refine ls hF hW rfl ((y_move hF rfl).q) (fun a w hF hW => ?_)
  obtain ⟨x1, h2, H⟩ := bindE H
  obtain ⟨v4, h3, h4⟩ := ix_ex h1 h2
  have h5 : EE48 v4 = [.int .i64 x1.1, .int .i64 x1.2.1, (v4.2.2.1)] := congrArg (fun q : Int × Int × List Int => ([.int .i64 q.1, .int .i64 q.2.1, (v4.2.2.1)] : List Value)) h4
  refine ls hF hW rfl ((y_index (r := RX48) L31 hF rfl rfl (rdc_ro h_v2) h3).q) (fun a w hF hW => ?_)
  refine ls hF hW rfl ((y_load_el (y := Value.agg #[.int .i64 x1.1, .int .i64 x1.2.1, (v4.2.2.1)]) (j := 0) (i := p1) (enc := EE48) hF rfl rfl (rdc_ro h_v2) h3 FE48 T48 (by rw [h5]; rfl)).q) (fun a w hF hW => ?_)
  refine l_alloc (cs := [.int .i64 0, .int .i64 0, .slice none 0 0]) hF hW rfl Z48 rfl (fun b2 a w hF hW => ?_)
  refine l_store (vs := [.int .i64 x1.1, .int .i64 x1.2.1, (v4.2.2.1)]) (M' := [(b2, [.int .i64 x1.1, .int .i64 x1.2.1, (v4.2.2.1)]), (b1, [v1, v2, .int .i64 p0.2.2.1, .int .i64 p0.2.2.2.1, .int .i64 p0.2.2.2.2.1, .int .i64 p0.2.2.2.2.2])]) 0 hF hW rfl rfl rfl T48 rfl rfl rfl (one_cons rfl (one_cons rfl (one_cons ((rdc_at (rdc_ro h_v2) h3 (Path.snd (Path.snd Path.here)) (congrArg (fun q : Int × Int × List Int => q.2.2) h4)) _ hW).one one_nil))) rfl (fun w hW => ?_)
  refine ls_nil (c_then ?_)
  refine c_seq (reg_list ?_)
  refine ls hF hW rfl ((y_assign hF rfl).q) (fun a w hF hW => ?_)
  refine ls_nil (c_then ?_)
  obtain ⟨o1, G1, K1⟩ := bindE H
  refine c_seqJ (fun a w => ∃ x2 : List (Int × (List (Int × (Int × (Int × (Int × Int × Int × Int) × (Int × Int × Int × Int)) × (List (Int × Int × Int))) × Bool))), ∃ v5 : Value, some (x2) = some o1 ∧ Fr 43 [] [(4, .slice none 0 0), (6, v5)] a ∧ Stw ⟨Y, [], w0⟩ [(b2, [.int .i64 x1.1, .int .i64 x1.2.1, (v4.2.2.1)]), (b1, [v1, v2, .int .i64 p0.2.2.1, .int .i64 p0.2.2.2.1, .int .i64 p0.2.2.2.2.1, .int .i64 p0.2.2.2.2.2])] [row v5 54 R54 x2] w) ?_ ?_
  ·
   have H := G1
   clear G1 K1
   refine c_seq (reg_list ?_)
   refine ls hF hW rfl ((y_fieldAddr u48_ rfl rfl rfl T46 hF rfl 2 rfl).q) (fun a w hF hW => ?_)
   refine ls hF hW rfl ((y_load (v := (v4.2.2.1)) 0 hF rfl rfl T46 rfl).q) (fun a w hF hW => ?_)
   refine ls hF hW rfl ((y_len (r := (Rp.int .i64)) (l := x1.2.2) u46_ rfl hF rfl (rdc_at (rdc_ro h_v2) h3 (Path.snd (Path.snd Path.here)) (congrArg (fun q : Int × Int × List Int => q.2.2) h4))).q) (fun a w hF hW => ?_)
   refine ls hF hW rfl ((y_move hF rfl).q) (fun a w hF hW => ?_)
   refine ls_nil (c_then ?_)
   refine wp_block ?_
   have hW := hW.nilRow 54 R54
   have hW := hW.frontM (i := 1) rfl rfl
   have hW := hW.frontM (i := 1) rfl rfl
   refine c_loopW H (fun s a w => ∃ v6 : Value, Fr 43 [] [(2, .pointer (some ⟨b1, 0, none⟩)), (4, .slice none 0 0), (5, .pointer (some ⟨b2, 0, none⟩)), (6, v6), (24, (v4.2.2.1)), (25, .int .i64 (x1.2.2.length : Int)), (26, .int .i64 s.2)] a ∧ Stw ⟨Y, [], w0⟩ [(b2, [.int .i64 x1.1, .int .i64 x1.2.1, (v4.2.2.1)]), (b1, [v1, v2, .int .i64 p0.2.2.1, .int .i64 p0.2.2.2.1, .int .i64 p0.2.2.2.2.1, .int .i64 p0.2.2.2.2.2])] [row v6 54 R54 s.1] w) ⟨(Value.slice none 0 0), hF.re ⟨rfl, rfl, rfl, rfl, rfl, rfl, rfl, trivial⟩, hW⟩ (fun s o a w H L2 hR => ?_)
   obtain ⟨x3, x4⟩ := s
   obtain ⟨v6, hF, hW⟩ := hR
   have hF : Fr 43 [] [(2, .pointer (some ⟨b1, 0, none⟩)), (4, .slice none 0 0), (5, .pointer (some ⟨b2, 0, none⟩)), (6, v6), (24, (v4.2.2.1)), (25, .int .i64 (x1.2.2.length : Int)), (26, .int .i64 x4)] a := hF
   have hW : Stw ⟨Y, [], w0⟩ [(b2, [.int .i64 x1.1, .int .i64 x1.2.1, (v4.2.2.1)]), (b1, [v1, v2, .int .i64 p0.2.2.1, .int .i64 p0.2.2.2.1, .int .i64 p0.2.2.2.2.1, .int .i64 p0.2.2.2.2.2])] [row v6 54 R54 x3] w := hW
   rw [plan_Parts_l1] at H
   refine c_seq (reg_list ?_)
   refine ls hF hW rfl ((y_lss hF rfl rfl).q) (fun a w hF hW => ?_)
   refine ls_nil (c_then ?_)
   refine c_seq ?_
   refine c_cond hF rfl (fun hb => ?_) (fun hb => ?_)
   ·
    have H := iteT (of_decide_eq_true hb) H
    rw [hb] at hF
    clear hb
    refine wp_skip ?_
    refine c_then ?_
    refine c_seq ?_
    refine wp_block ?_
    refine c_seq (reg_list ?_)
    obtain ⟨x5, h6, H⟩ := bindE H
    refine ls hF hW rfl ((y_index (r := (Rp.int .i64)) L46 hF rfl rfl (rdc_at (rdc_ro h_v2) h3 (Path.snd (Path.snd Path.here)) (congrArg (fun q : Int × Int × List Int => q.2.2) h4)) h6).q) (fun a w hF hW => ?_)
    refine ls hF hW rfl ((y_load_el (y := Value.int .i64 x5) (j := 0) (i := x4) hF rfl rfl (rdc_at (rdc_ro h_v2) h3 (Path.snd (Path.snd Path.here)) (congrArg (fun q : Int × Int × List Int => q.2.2) h4)) h6 Fl.int.to T3 rfl).q) (fun a w hF hW => ?_)
    refine ls hF hW rfl ((y_assign hF rfl).q) (fun a w hF hW => ?_)
    refine ls_nil (c_then ?_)
    refine reg_list ?_
    iterate 2 refine ls hF hW rfl ((y_move hF rfl).q) (fun a w hF hW => ?_)
    refine ls hF hW rfl ((y_fieldAddr u33_ rfl rfl rfl T30 hF rfl 0 rfl).q) (fun a w hF hW => ?_)
    refine ls hF hW rfl ((y_load (v := v1) 1 hF rfl rfl T30 rfl).q) (fun a w hF hW => ?_)
    refine ls hF hW rfl ((y_fieldAddr u48_ rfl rfl rfl T3 hF rfl 0 rfl).q) (fun a w hF hW => ?_)
    refine ls hF hW rfl ((y_load (v := Value.int .i64 x1.1) 0 hF rfl rfl T3 rfl).q) (fun a w hF hW => ?_)
    refine ls hF hW rfl ((y_move hF rfl).q) (fun a w hF hW => ?_)
    obtain ⟨x6, h7, H⟩ := bindE H
    refine l_callG (Ml := []) (Zl := []) (M := [(b2, [.int .i64 x1.1, .int .i64 x1.2.1, (v4.2.2.1)]), (b1, [v1, v2, .int .i64 p0.2.2.1, .int .i64 p0.2.2.2.1, .int .i64 p0.2.2.2.2.1, .int .i64 p0.2.2.2.2.2])]) (Z := [row v6 54 R54 x3]) (β := Value) (rv := fun x => x) (MM := fun x => []) (ZZ := fun x => [row x 83 R83 x6]) hF hW H16 rfl rfl (fun hL => level_Mods_c _ w (v1) p0.1 x1.1 x5 _ h7 ((rdc_ro h_v1) w hW).nx) (fun x a w hF hW => ?_)
    obtain ⟨v7, rfl⟩ : ∃ y, y = x := ⟨x, rfl⟩
    have hW : Stw ⟨Y, [], w0⟩ [(b2, [.int .i64 x1.1, .int .i64 x1.2.1, (v4.2.2.1)]), (b1, [v1, v2, .int .i64 p0.2.2.1, .int .i64 p0.2.2.2.1, .int .i64 p0.2.2.2.2.1, .int .i64 p0.2.2.2.2.2])] [row v7 83 R83 x6, row v6 54 R54 x3] w := hW
    refine ls hF hW rfl ((y_build (v := Value.agg #[.int .i64 x5, v7]) B54 hF rfl (fill_cons rfl rfl rfl (fill_cons rfl (cells_one (hW.one (k := 0) rfl)) rfl fill_nil)) rfl).q) (fun a w hF hW => ?_)
    have hW := hW.freeze
    refine l_lit (z := Value.agg #[.int .i64 0, .slice none 0 0]) (cs := [.int .i64 x5, v7]) R54 ([(x5, x6)] : List (Int × (List (Int × (Int × (Int × (Int × Int × Int × Int) × (Int × Int × Int × Int)) × (List (Int × Int × Int))) × Bool)))) hF hW rfl L50 Z54 rfl rfl rfl (fill_cons rfl rfl rfl fill_nil) rfl rfl ⟨[Value.int .i64 x5, v7], _, rfl, ⟨[Value.int .i64 x5], [v7], rfl, rfl, ⟨_, rfl, (hW.item (i := 0) rfl)⟩⟩, rfl⟩ (fun v8 a w hF hW => ?_)
    obtain ⟨x7, h8, H⟩ := bindE H
    refine l_append (r := R54) (i := 2) hF hW rfl L50 rfl rfl rfl rfl (src_row hW 0 rfl) h8 rfl (fun v9 a w hF hW => ?_)
    have hW : Stw ⟨Y, [], w0⟩ [(b2, [.int .i64 x1.1, .int .i64 x1.2.1, (v4.2.2.1)]), (b1, [v1, v2, .int .i64 p0.2.2.1, .int .i64 p0.2.2.2.1, .int .i64 p0.2.2.2.2.1, .int .i64 p0.2.2.2.2.2])] [row v9 54 R54 x7, row v8 54 R54 ([(x5, x6)] : List (Int × (List (Int × (Int × (Int × (Int × Int × Int × Int) × (Int × Int × Int × Int)) × (List (Int × Int × Int))) × Bool)))), frz v7 R83 x6] w := hW
    refine ls hF hW rfl ((y_assign hF rfl).q) (fun a w hF hW => ?_)
    refine ls_nil ?_
    refine b_normal ?_
    refine c_then ?_
    refine reg_list ?_
    refine ls hF hW rfl ((y_add hF rfl rfl rfl).q) (fun a w hF hW => ?_)
    refine ls hF hW rfl ((y_move hF rfl).q) (fun a w hF hW => ?_)
    refine ls_nil (c_then ?_)
    have hW := hW.frontM (i := 1) rfl rfl
    have hW := hW.frontM (i := 1) rfl rfl
    have hW := hW.sub (M' := [(b2, [.int .i64 x1.1, .int .i64 x1.2.1, (v4.2.2.1)]), (b1, [v1, v2, .int .i64 p0.2.2.1, .int .i64 p0.2.2.2.1, .int .i64 p0.2.2.2.2.1, .int .i64 p0.2.2.2.2.2])]) (Z' := [row v9 54 R54 x7]) (List.Sublist.refl _) (List.Sublist.cons_cons _ (List.nil_sublist _))
    exact ⟨_, H, (v9), hF.re ⟨rfl, rfl, rfl, rfl, rfl, rfl, rfl, trivial⟩, hW⟩
   ·
    have H := iteF (of_decide_eq_false hb) H
    rw [hb] at hF
    clear hb
    refine wp_exit ?_
    iterate 2 refine e_then ?_
    refine e_block ?_
    refine c_then ?_
    have hW := hW.frontM (i := 1) rfl rfl
    have hW := hW.frontM (i := 1) rfl rfl
    have H := L2 _ H
    exact ⟨_, (v6), H, hF.re ⟨rfl, rfl, trivial⟩, hW⟩
  rintro a w ⟨x2, v5, hj, hF, hW⟩
  have hj := Option.some.inj hj
  subst hj
  have H := K1
  clear G1 K1
  refine c_seq (reg_list ?_)
  refine ls hF hW rfl ((y_move hF rfl).q) (fun a w hF hW => ?_)
  refine ls hF hW rfl ((y_assign hF rfl).q) (fun a w hF hW => ?_)
  refine ls_nil (c_then ?_)
  refine wp_ret ?_
  have H := Option.some.inj H
  subst H
  refine post1 (.inl rfl) hF hW rfl (rv_tmp hF rfl) ?_
  have hW := hW.sub (M' := []) (Z' := [row v5 54 R54 x2]) (List.nil_sublist _) (List.Sublist.refl _)
  exact ⟨(v5), rfl, hW⟩

theorem H14 : Has Try.prog 14 := ⟨fun args w => run_callFunc_body Try.func14 rfl (by decide) args w⟩
noncomputable def L24_awake  : Option Bool := (plan_Make (3, ([(0, 0, 1, 0, 1, 1), (1, 1, 2, 0, 1, 2), (0, 1, 2, 1, 1, 1)] : List (Int × Int × Int × Int × Int × Int)), ([(2, 7)] : List (Int × Int))) ([([0] : List Int), ([1] : List Int), ([7] : List Int)] : List (List Int)) ([([1] : List Int), ([1] : List Int), ([7] : List Int)] : List (List Int)) 100 4 10).bind fun x1 => ((plan_Gap (3, ([(0, 0, 1, 0, 1, 1), (1, 1, 2, 0, 1, 2), (0, 1, 2, 1, 1, 1)] : List (Int × Int × Int × Int × Int × Int)), ([(2, 7)] : List (Int × Int))) 4).bind fun x3 => (if x3 = 15 then (if x1.2 = 0 then (if (x1.1.2.1.length : Int) = 1 then (ix x1.1.2.1 0).bind fun x4 => (if x4.2.1 = 121 then (if x1.1.2.2.2.2.1 = 111 then (if x1.1.2.2.2.2.2 = 125 then (if (plan_Guarded x1.1 125) = true then (plan_Parts x1.1 0).bind fun x5 => some (decide ((x5.length : Int) = 1)) else some false) else some false) else some false) else some false) else some false) else some false) else some false)).bind fun x2 => some x2
theorem L24_awake_c (Y : Nat → Prop) (w0 : World)   (r : Bool) (H : L24_awake  = some r)  :
    Calls Try.prog 8 #[] w0 fun e w' => e = .returned (.bool r) ∧ Below w0.heap.size w0 w' := by
 refine enter Try.func8 rfl Try.ntmps8 rfl (fun a hF => ?_)
 have hW := Stw.start Y w0
 unfold L24_awake at H
 refine c_seq (reg_list ?_)
 refine ls hF hW rfl ((y_assign hF rfl).q) (fun a w hF hW => ?_)
 refine ls_nil (c_then ?_)
 refine c_seq (reg_list ?_)
 refine ls hF hW rfl ((y_build (v := Value.agg #[.int .i64 0, .int .i64 0, .int .i64 1, .int .i64 0, .int .i64 1, .int .i64 1]) B62 hF rfl rfl rfl).q) (fun a w hF hW => ?_)
 refine ls hF hW rfl ((y_build (v := Value.agg #[.int .i64 1, .int .i64 1, .int .i64 2, .int .i64 0, .int .i64 1, .int .i64 2]) B62 hF rfl rfl rfl).q) (fun a w hF hW => ?_)
 refine ls hF hW rfl ((y_build (v := Value.agg #[.int .i64 0, .int .i64 1, .int .i64 2, .int .i64 1, .int .i64 1, .int .i64 1]) B62 hF rfl rfl rfl).q) (fun a w hF hW => ?_)
 refine l_lit (z := Value.agg #[.int .i64 0, .int .i64 0, .int .i64 0, .int .i64 0, .int .i64 0, .int .i64 0]) (cs := [.int .i64 0, .int .i64 0, .int .i64 1, .int .i64 0, .int .i64 1, .int .i64 1, .int .i64 1, .int .i64 1, .int .i64 2, .int .i64 0, .int .i64 1, .int .i64 2, .int .i64 0, .int .i64 1, .int .i64 2, .int .i64 1, .int .i64 1, .int .i64 1]) R62 ([(0, 0, 1, 0, 1, 1), (1, 1, 2, 0, 1, 2), (0, 1, 2, 1, 1, 1)] : List (Int × Int × Int × Int × Int × Int)) hF hW rfl L22 Z62 rfl rfl rfl rfl rfl rfl (F62.repL _ _ ([(0, 0, 1, 0, 1, 1), (1, 1, 2, 0, 1, 2), (0, 1, 2, 1, 1, 1)] : List (Int × Int × Int × Int × Int × Int))) (fun v1 a w hF hW => ?_)
 refine ls hF hW rfl ((y_build (v := Value.agg #[.int .i64 2, .int .i64 7]) B64 hF rfl rfl rfl).q) (fun a w hF hW => ?_)
 refine l_lit (z := Value.agg #[.int .i64 0, .int .i64 0]) (cs := [.int .i64 2, .int .i64 7]) R64 ([(2, 7)] : List (Int × Int)) hF hW rfl L23 Z64 rfl rfl rfl rfl rfl rfl (F64.repL _ _ ([(2, 7)] : List (Int × Int))) (fun v2 a w hF hW => ?_)
 refine ls hF hW rfl ((y_build (v := Value.agg #[.int .i64 3, v1, v2]) B25 hF rfl (fill_cons rfl rfl rfl (fill_cons rfl (cells_one (hW.one (k := 1) rfl)) rfl (fill_cons rfl (cells_one (hW.one (k := 0) rfl)) rfl fill_nil))) rfl).q) (fun a w hF hW => ?_)
 refine l_alloc (cs := [.int .i64 0, .slice none 0 0, .slice none 0 0]) hF hW rfl Z25 rfl (fun b1 a w hF hW => ?_)
 refine l_store (vs := [.int .i64 3, v1, v2]) (M' := [(b1, [.int .i64 3, v1, v2])]) 0 hF hW rfl rfl rfl T25 rfl rfl rfl (one_cons rfl (one_cons (hW.one (k := 1) rfl) (one_cons (hW.one (k := 0) rfl) one_nil))) rfl (fun w hW => ?_)
 refine ls_nil (c_then ?_)
 refine c_seq (reg_list ?_)
 refine ls hF hW rfl ((y_load (v := Value.agg #[.int .i64 3, v1, v2]) 0 hF rfl rfl T25 rfl).q) (fun a w hF hW => ?_)
 refine l_lit (z := Value.int .i64 0) (cs := [.int .i64 0]) (Rp.int .i64) ([0] : List Int) hF hW rfl L46 Z3 rfl rfl rfl rfl rfl rfl (Fl.int.repL _ _ ([0] : List Int)) (fun v3 a w hF hW => ?_)
 refine l_lit (z := Value.int .i64 0) (cs := [.int .i64 1]) (Rp.int .i64) ([1] : List Int) hF hW rfl L46 Z3 rfl rfl rfl rfl rfl rfl (Fl.int.repL _ _ ([1] : List Int)) (fun v4 a w hF hW => ?_)
 refine l_lit (z := Value.int .i64 0) (cs := [.int .i64 7]) (Rp.int .i64) ([7] : List Int) hF hW rfl L46 Z3 rfl rfl rfl rfl rfl rfl (Fl.int.repL _ _ ([7] : List Int)) (fun v5 a w hF hW => ?_)
 have hW := hW.frontZ (i := 2) rfl rfl
 have hW := hW.freeze
 have hW := hW.frontZ (i := 2) rfl rfl
 have hW := hW.freeze
 have hW := hW.frontZ (i := 2) rfl rfl
 have hW := hW.freeze
 refine l_lit (z := Value.slice none 0 0) (cs := [v3, v4, v5]) (Rp.slice (Rp.int .i64)) ([([0] : List Int), ([1] : List Int), ([7] : List Int)] : List (List Int)) hF hW rfl L27 Z46 rfl rfl rfl (fill_cons rfl (cells_one (hW.oneF (k := 2) rfl)) rfl (fill_cons rfl (cells_one (hW.oneF (k := 1) rfl)) rfl (fill_cons rfl (cells_one (hW.oneF (k := 0) rfl)) rfl fill_nil))) rfl rfl ⟨[v3], _, rfl, ⟨_, rfl, (hW.item (i := 2) rfl)⟩, ⟨[v4], _, rfl, ⟨_, rfl, (hW.item (i := 1) rfl)⟩, ⟨[v5], _, rfl, ⟨_, rfl, (hW.item (i := 0) rfl)⟩, rfl⟩⟩⟩ (fun v6 a w hF hW => ?_)
 refine l_lit (z := Value.int .i64 0) (cs := [.int .i64 1]) (Rp.int .i64) ([1] : List Int) hF hW rfl L46 Z3 rfl rfl rfl rfl rfl rfl (Fl.int.repL _ _ ([1] : List Int)) (fun v7 a w hF hW => ?_)
 refine l_lit (z := Value.int .i64 0) (cs := [.int .i64 1]) (Rp.int .i64) ([1] : List Int) hF hW rfl L46 Z3 rfl rfl rfl rfl rfl rfl (Fl.int.repL _ _ ([1] : List Int)) (fun v8 a w hF hW => ?_)
 refine l_lit (z := Value.int .i64 0) (cs := [.int .i64 7]) (Rp.int .i64) ([7] : List Int) hF hW rfl L46 Z3 rfl rfl rfl rfl rfl rfl (Fl.int.repL _ _ ([7] : List Int)) (fun v9 a w hF hW => ?_)
 have hW := hW.frontZ (i := 2) rfl rfl
 have hW := hW.freeze
 have hW := hW.frontZ (i := 2) rfl rfl
 have hW := hW.freeze
 have hW := hW.frontZ (i := 2) rfl rfl
 have hW := hW.freeze
 refine l_lit (z := Value.slice none 0 0) (cs := [v7, v8, v9]) (Rp.slice (Rp.int .i64)) ([([1] : List Int), ([1] : List Int), ([7] : List Int)] : List (List Int)) hF hW rfl L27 Z46 rfl rfl rfl (fill_cons rfl (cells_one (hW.oneF (k := 2) rfl)) rfl (fill_cons rfl (cells_one (hW.oneF (k := 1) rfl)) rfl (fill_cons rfl (cells_one (hW.oneF (k := 0) rfl)) rfl fill_nil))) rfl rfl ⟨[v7], _, rfl, ⟨_, rfl, (hW.item (i := 2) rfl)⟩, ⟨[v8], _, rfl, ⟨_, rfl, (hW.item (i := 1) rfl)⟩, ⟨[v9], _, rfl, ⟨_, rfl, (hW.item (i := 0) rfl)⟩, rfl⟩⟩⟩ (fun v10 a w hF hW => ?_)
 obtain ⟨x1, h1, H⟩ := bindE H
 refine l_callG (Ml := []) (Zl := []) (M := [(b1, [.int .i64 3, v1, v2])]) (Z := [row v10 46 (Rp.slice (Rp.int .i64)) ([([1] : List Int), ([1] : List Int), ([7] : List Int)] : List (List Int)), frz v9 (Rp.int .i64) ([7] : List Int), frz v8 (Rp.int .i64) ([1] : List Int), frz v7 (Rp.int .i64) ([1] : List Int), row v6 46 (Rp.slice (Rp.int .i64)) ([([0] : List Int), ([1] : List Int), ([7] : List Int)] : List (List Int)), frz v5 (Rp.int .i64) ([7] : List Int), frz v4 (Rp.int .i64) ([1] : List Int), frz v3 (Rp.int .i64) ([0] : List Int), row v2 64 R64 ([(2, 7)] : List (Int × Int)), row v1 62 R62 ([(0, 0, 1, 0, 1, 1), (1, 1, 2, 0, 1, 2), (0, 1, 2, 1, 1, 1)] : List (Int × Int × Int × Int × Int × Int))]) (β := Value × Value) (rv := fun x => .tuple #[.agg #[x.1, x.2, .int .i64 x1.1.2.2.1, .int .i64 x1.1.2.2.2.1, .int .i64 x1.1.2.2.2.2.1, .int .i64 x1.1.2.2.2.2.2], .int .i64 x1.2]) (MM := fun x => []) (ZZ := fun x => [row x.1 85 R85 x1.1.1, row x.2 48 R48 x1.1.2.1]) hF hW H9 rfl rfl (fun hL => plan_Make_c _ w (v1) (v2) (v6) (v10) (3, ([(0, 0, 1, 0, 1, 1), (1, 1, 2, 0, 1, 2), (0, 1, 2, 1, 1, 1)] : List (Int × Int × Int × Int × Int × Int)), ([(2, 7)] : List (Int × Int))) ([([0] : List Int), ([1] : List Int), ([7] : List Int)] : List (List Int)) ([([1] : List Int), ([1] : List Int), ([7] : List Int)] : List (List Int)) 100 4 10 _ h1 ((rdc_row 9 rfl) w hW).nx ((rdc_row 8 rfl) w hW).nx ((rdc_row 4 rfl) w hW).nx ((rdc_row 0 rfl) w hW).nx) (fun x a w hF hW => ?_)
 obtain ⟨v11, v12⟩ := x
 have hW : Stw ⟨Y, [], w0⟩ [(b1, [.int .i64 3, v1, v2])] [row v11 85 R85 x1.1.1, row v12 48 R48 x1.1.2.1, row v10 46 (Rp.slice (Rp.int .i64)) ([([1] : List Int), ([1] : List Int), ([7] : List Int)] : List (List Int)), frz v9 (Rp.int .i64) ([7] : List Int), frz v8 (Rp.int .i64) ([1] : List Int), frz v7 (Rp.int .i64) ([1] : List Int), row v6 46 (Rp.slice (Rp.int .i64)) ([([0] : List Int), ([1] : List Int), ([7] : List Int)] : List (List Int)), frz v5 (Rp.int .i64) ([7] : List Int), frz v4 (Rp.int .i64) ([1] : List Int), frz v3 (Rp.int .i64) ([0] : List Int), row v2 64 R64 ([(2, 7)] : List (Int × Int)), row v1 62 R62 ([(0, 0, 1, 0, 1, 1), (1, 1, 2, 0, 1, 2), (0, 1, 2, 1, 1, 1)] : List (Int × Int × Int × Int × Int × Int))] w := hW
 refine ls hF hW rfl ((y_move hF rfl).q) (fun a w hF hW => ?_)
 refine ls hF hW rfl ((y_extract (v := Value.agg #[v11, v12, .int .i64 x1.1.2.2.1, .int .i64 x1.1.2.2.2.1, .int .i64 x1.1.2.2.2.2.1, .int .i64 x1.1.2.2.2.2.2]) hF rfl rfl).q) (fun a w hF hW => ?_)
 refine ls hF hW rfl ((y_extract (v := Value.int .i64 x1.2) hF rfl rfl).q) (fun a w hF hW => ?_)
 refine l_alloc (cs := [.slice none 0 0, .slice none 0 0, .int .i64 0, .int .i64 0, .int .i64 0, .int .i64 0]) hF hW rfl Z33 rfl (fun b2 a w hF hW => ?_)
 refine l_store (vs := [v11, v12, .int .i64 x1.1.2.2.1, .int .i64 x1.1.2.2.2.1, .int .i64 x1.1.2.2.2.2.1, .int .i64 x1.1.2.2.2.2.2]) (M' := [(b2, [v11, v12, .int .i64 x1.1.2.2.1, .int .i64 x1.1.2.2.2.1, .int .i64 x1.1.2.2.2.2.1, .int .i64 x1.1.2.2.2.2.2]), (b1, [.int .i64 3, v1, v2])]) 0 hF hW rfl rfl rfl T33 rfl rfl rfl (one_cons (hW.one (k := 0) rfl) (one_cons (hW.one (k := 1) rfl) (one_cons rfl (one_cons rfl (one_cons rfl (one_cons rfl one_nil)))))) rfl (fun w hW => ?_)
 refine ls hF hW rfl ((y_assign hF rfl).q) (fun a w hF hW => ?_)
 refine ls_nil (c_then ?_)
 obtain ⟨o1, G1, K1⟩ := bindE H
 refine c_seqJ (fun a w => ∃ x2 : Bool, some (x2) = some o1 ∧ Fr 65 [] [(0, .bool x2)] a ∧ Stw ⟨Y, [], w0⟩ [(b2, [v11, v12, .int .i64 x1.1.2.2.1, .int .i64 x1.1.2.2.2.1, .int .i64 x1.1.2.2.2.2.1, .int .i64 x1.1.2.2.2.2.2]), (b1, [.int .i64 3, v1, v2])] [row v11 85 R85 x1.1.1, row v12 48 R48 x1.1.2.1, row v1 62 R62 ([(0, 0, 1, 0, 1, 1), (1, 1, 2, 0, 1, 2), (0, 1, 2, 1, 1, 1)] : List (Int × Int × Int × Int × Int × Int)), row v2 64 R64 ([(2, 7)] : List (Int × Int))] w) ?_ ?_
 ·
  have H := G1
  clear G1 K1
  have hW := hW.frontZ (i := 1) rfl rfl
  obtain ⟨v13, h2, hW⟩ := hW.exR EX48
  have hW := hW.frontZ (i := 2) rfl rfl
  obtain ⟨v14, h3, hW⟩ := hW.exR EX46
  have hW := hW.frontZ (i := 6) rfl rfl
  obtain ⟨v15, h4, hW⟩ := hW.exR EX46
  refine reg_list ?_
  refine ls hF hW rfl ((y_load (v := Value.agg #[.int .i64 3, v1, v2]) 1 hF rfl rfl T25 rfl).q) (fun a w hF hW => ?_)
  obtain ⟨x3, h5, H⟩ := bindE H
  refine ls hF hW rfl (y_call (v := Value.int .i64 x3) hF H20 rfl (fun w hW => plan_Gap_c any w (v1) (v2) (3, ([(0, 0, 1, 0, 1, 1), (1, 1, 2, 0, 1, 2), (0, 1, 2, 1, 1, 1)] : List (Int × Int × Int × Int × Int × Int)), ([(2, 7)] : List (Int × Int))) 4 _ h5 (((rdc_row 11 rfl) : Rdc _ _ _ _ _ _) w hW).nx (((rdc_row 10 rfl) : Rdc _ _ _ _ _ _) w hW).nx)) (fun a w hF hW => ?_)
  refine ls hF hW rfl ((y_eql hF rfl rfl).q) (fun a w hF hW => ?_)
  refine ls hF hW rfl ((y_move hF rfl).q) (fun a w hF hW => ?_)
  rcases Bool.eq_false_or_eq_true (decide (x3 = 15)) with hb | hb
  ·
   have H := iteT (of_decide_eq_true hb) H
   rw [hb] at hF
   clear hb
   refine ls_w hF hW (wanted_y hF rfl rfl rfl rfl) rfl (Nat.le_of_ble_eq_true rfl) ((y_move hF rfl).q) (fun a w hF hW => ?_)
   refine ls_w hF hW (wanted_y hF rfl rfl rfl rfl) rfl (Nat.le_of_ble_eq_true rfl) ((y_eql hF rfl rfl).q) (fun a w hF hW => ?_)
   refine ls hF hW rfl ((y_pick_t hF rfl rfl rfl).q) (fun a w hF hW => ?_)
   refine ls hF hW rfl ((y_move hF rfl).q) (fun a w hF hW => ?_)
   rcases Bool.eq_false_or_eq_true (decide (x1.2 = 0)) with hb | hb
   ·
    have H := iteT (of_decide_eq_true hb) H
    rw [hb] at hF
    clear hb
    refine ls_w hF hW (wanted_y hF rfl rfl rfl rfl) rfl (Nat.le_of_ble_eq_true rfl) ((y_fieldAddr u33_ rfl rfl rfl T31 hF rfl 1 rfl).q) (fun a w hF hW => ?_)
    refine ls_w hF hW (wanted_y hF rfl rfl rfl rfl) rfl (Nat.le_of_ble_eq_true rfl) ((y_load (v := v12) 0 hF rfl rfl T31 rfl).q) (fun a w hF hW => ?_)
    refine ls_w hF hW (wanted_y hF rfl rfl rfl rfl) rfl (Nat.le_of_ble_eq_true rfl) ((y_len (r := R48) (l := x1.1.2.1) u31_ rfl hF rfl (rdc_hide EX48 h2 (rdc_row 2 rfl))).q) (fun a w hF hW => ?_)
    refine ls_w hF hW (wanted_y hF rfl rfl rfl rfl) rfl (Nat.le_of_ble_eq_true rfl) ((y_eql hF rfl rfl).q) (fun a w hF hW => ?_)
    refine ls hF hW rfl ((y_pick_t hF rfl rfl rfl).q) (fun a w hF hW => ?_)
    refine ls hF hW rfl ((y_move hF rfl).q) (fun a w hF hW => ?_)
    rcases Bool.eq_false_or_eq_true (decide ((x1.1.2.1.length : Int) = 1)) with hb | hb
    ·
     have H := iteT (of_decide_eq_true hb) H
     rw [hb] at hF
     clear hb
     refine ls_w hF hW (wanted_y hF rfl rfl rfl rfl) rfl (Nat.le_of_ble_eq_true rfl) ((y_fieldAddr u33_ rfl rfl rfl T31 hF rfl 1 rfl).q) (fun a w hF hW => ?_)
     refine ls_w hF hW (wanted_y hF rfl rfl rfl rfl) rfl (Nat.le_of_ble_eq_true rfl) ((y_load (v := v12) 0 hF rfl rfl T31 rfl).q) (fun a w hF hW => ?_)
     obtain ⟨x4, h6, H⟩ := bindE H
     obtain ⟨v16, h7, h8⟩ := ix_ex h2 h6
     have h9 : EE48 v16 = [.int .i64 x4.1, .int .i64 x4.2.1, (v16.2.2.1)] := congrArg (fun q : Int × Int × List Int => ([.int .i64 q.1, .int .i64 q.2.1, (v16.2.2.1)] : List Value)) h8
     refine ls_w hF hW (wanted_y hF rfl rfl rfl rfl) rfl (Nat.le_of_ble_eq_true rfl) ((y_index (r := RX48) L31 hF rfl rfl (rdc_row 2 rfl) h7).q) (fun a w hF hW => ?_)
     refine ls_w hF hW (wanted_y hF rfl rfl rfl rfl) rfl (Nat.le_of_ble_eq_true rfl) ((y_fieldAddr u48_ rfl rfl rfl T3 hF rfl (voff v12 + (0 : Int).toNat * 3 + 1) rfl).q) (fun a w hF hW => ?_)
     refine ls_w hF hW (wanted_y hF rfl rfl rfl rfl) rfl (Nat.le_of_ble_eq_true rfl) ((y_load_el (y := Value.int .i64 x4.2.1) (j := 1) (i := 0) (enc := EE48) hF rfl rfl (rdc_row 2 rfl) h7 FE48 T3 (by rw [h9]; rfl)).q) (fun a w hF hW => ?_)
     refine ls_w hF hW (wanted_y hF rfl rfl rfl rfl) rfl (Nat.le_of_ble_eq_true rfl) ((y_eql hF rfl rfl).q) (fun a w hF hW => ?_)
     refine ls hF hW rfl ((y_pick_t hF rfl rfl rfl).q) (fun a w hF hW => ?_)
     refine ls hF hW rfl ((y_move hF rfl).q) (fun a w hF hW => ?_)
     rcases Bool.eq_false_or_eq_true (decide (x4.2.1 = 121)) with hb | hb
     ·
      have H := iteT (of_decide_eq_true hb) H
      rw [hb] at hF
      clear hb
      refine ls_w hF hW (wanted_y hF rfl rfl rfl rfl) rfl (Nat.le_of_ble_eq_true rfl) ((y_fieldAddr u33_ rfl rfl rfl T3 hF rfl 4 rfl).q) (fun a w hF hW => ?_)
      refine ls_w hF hW (wanted_y hF rfl rfl rfl rfl) rfl (Nat.le_of_ble_eq_true rfl) ((y_load (v := Value.int .i64 x1.1.2.2.2.2.1) 0 hF rfl rfl T3 rfl).q) (fun a w hF hW => ?_)
      refine ls_w hF hW (wanted_y hF rfl rfl rfl rfl) rfl (Nat.le_of_ble_eq_true rfl) ((y_eql hF rfl rfl).q) (fun a w hF hW => ?_)
      refine ls hF hW rfl ((y_pick_t hF rfl rfl rfl).q) (fun a w hF hW => ?_)
      refine ls hF hW rfl ((y_move hF rfl).q) (fun a w hF hW => ?_)
      rcases Bool.eq_false_or_eq_true (decide (x1.1.2.2.2.2.1 = 111)) with hb | hb
      ·
       have H := iteT (of_decide_eq_true hb) H
       rw [hb] at hF
       clear hb
       refine ls_w hF hW (wanted_y hF rfl rfl rfl rfl) rfl (Nat.le_of_ble_eq_true rfl) ((y_fieldAddr u33_ rfl rfl rfl T3 hF rfl 5 rfl).q) (fun a w hF hW => ?_)
       refine ls_w hF hW (wanted_y hF rfl rfl rfl rfl) rfl (Nat.le_of_ble_eq_true rfl) ((y_load (v := Value.int .i64 x1.1.2.2.2.2.2) 0 hF rfl rfl T3 rfl).q) (fun a w hF hW => ?_)
       refine ls_w hF hW (wanted_y hF rfl rfl rfl rfl) rfl (Nat.le_of_ble_eq_true rfl) ((y_eql hF rfl rfl).q) (fun a w hF hW => ?_)
       refine ls hF hW rfl ((y_pick_t hF rfl rfl rfl).q) (fun a w hF hW => ?_)
       refine ls hF hW rfl ((y_move hF rfl).q) (fun a w hF hW => ?_)
       rcases Bool.eq_false_or_eq_true (decide (x1.1.2.2.2.2.2 = 125)) with hb | hb
       ·
        have H := iteT (of_decide_eq_true hb) H
        rw [hb] at hF
        clear hb
        refine ls_w hF hW (wanted_y hF rfl rfl rfl rfl) rfl (Nat.le_of_ble_eq_true rfl) ((y_load (v := Value.agg #[v11, v12, .int .i64 x1.1.2.2.1, .int .i64 x1.1.2.2.2.1, .int .i64 x1.1.2.2.2.2.1, .int .i64 x1.1.2.2.2.2.2]) 0 hF rfl rfl T33 rfl).q) (fun a w hF hW => ?_)
        refine ls_g (wanted_y hF rfl rfl rfl rfl) ?_
        refine ls hF hW rfl (y_call (v := Value.bool (plan_Guarded x1.1 125)) hF H13 rfl (fun w hW => plan_Guarded_c any w (v11) (v12) x1.1 125 _ rfl (((rdc_row 3 rfl) : Rdc _ _ _ _ _ _) w hW).nx (((rdc_hide EX48 h2 (rdc_row 2 rfl)) : Rdc _ _ _ _ _ _) w hW).nx)) (fun a w hF hW => ?_)
        refine ls hF hW rfl ((y_pick_t hF rfl rfl rfl).q) (fun a w hF hW => ?_)
        refine ls hF hW rfl ((y_move hF rfl).q) (fun a w hF hW => ?_)
        rcases Bool.eq_false_or_eq_true (plan_Guarded x1.1 125) with hb | hb
        ·
         have H := iteT hb H
         rw [hb] at hF
         clear hb
         refine ls_w hF hW (wanted_y hF rfl rfl rfl rfl) rfl (Nat.le_of_ble_eq_true rfl) ((y_load (v := Value.agg #[v11, v12, .int .i64 x1.1.2.2.1, .int .i64 x1.1.2.2.2.1, .int .i64 x1.1.2.2.2.2.1, .int .i64 x1.1.2.2.2.2.2]) 0 hF rfl rfl T33 rfl).q) (fun a w hF hW => ?_)
         refine ls_g (wanted_y hF rfl rfl rfl rfl) ?_
         obtain ⟨x5, h10, H⟩ := bindE H
         refine l_callG (Ml := []) (Zl := []) (M := [(b2, [v11, v12, .int .i64 x1.1.2.2.1, .int .i64 x1.1.2.2.2.1, .int .i64 x1.1.2.2.2.2.1, .int .i64 x1.1.2.2.2.2.2]), (b1, [.int .i64 3, v1, v2])]) (Z := [row v6 46 (Rp.vsl (Rp.int .i64)) v15, row v10 46 (Rp.vsl (Rp.int .i64)) v14, row v12 48 RX48 v13, row v11 85 R85 x1.1.1, frz v9 (Rp.int .i64) ([7] : List Int), frz v8 (Rp.int .i64) ([1] : List Int), frz v7 (Rp.int .i64) ([1] : List Int), frz v5 (Rp.int .i64) ([7] : List Int), frz v4 (Rp.int .i64) ([1] : List Int), frz v3 (Rp.int .i64) ([0] : List Int), row v2 64 R64 ([(2, 7)] : List (Int × Int)), row v1 62 R62 ([(0, 0, 1, 0, 1, 1), (1, 1, 2, 0, 1, 2), (0, 1, 2, 1, 1, 1)] : List (Int × Int × Int × Int × Int × Int))]) (β := Value) (rv := fun x => x) (MM := fun x => []) (ZZ := fun x => [row x 54 R54 x5]) hF hW H14 rfl rfl (fun hL => plan_Parts_c _ w (v11) (v12) x1.1 0 _ h10 ((rdc_row 3 rfl) w hW).nx ((rdc_hide EX48 h2 (rdc_row 2 rfl)) w hW).nx) (fun x a w hF hW => ?_)
         obtain ⟨v17, rfl⟩ : ∃ y, y = x := ⟨x, rfl⟩
         have hW : Stw ⟨Y, [], w0⟩ [(b2, [v11, v12, .int .i64 x1.1.2.2.1, .int .i64 x1.1.2.2.2.1, .int .i64 x1.1.2.2.2.2.1, .int .i64 x1.1.2.2.2.2.2]), (b1, [.int .i64 3, v1, v2])] [row v17 54 R54 x5, row v6 46 (Rp.vsl (Rp.int .i64)) v15, row v10 46 (Rp.vsl (Rp.int .i64)) v14, row v12 48 RX48 v13, row v11 85 R85 x1.1.1, frz v9 (Rp.int .i64) ([7] : List Int), frz v8 (Rp.int .i64) ([1] : List Int), frz v7 (Rp.int .i64) ([1] : List Int), frz v5 (Rp.int .i64) ([7] : List Int), frz v4 (Rp.int .i64) ([1] : List Int), frz v3 (Rp.int .i64) ([0] : List Int), row v2 64 R64 ([(2, 7)] : List (Int × Int)), row v1 62 R62 ([(0, 0, 1, 0, 1, 1), (1, 1, 2, 0, 1, 2), (0, 1, 2, 1, 1, 1)] : List (Int × Int × Int × Int × Int × Int))] w := hW
         refine ls_w hF hW (wanted_y hF rfl rfl rfl rfl) rfl (Nat.le_of_ble_eq_true rfl) ((y_len (r := R54) (l := x5) u50_ rfl hF rfl (rdc_row 0 rfl)).q) (fun a w hF hW => ?_)
         refine ls_w hF hW (wanted_y hF rfl rfl rfl rfl) rfl (Nat.le_of_ble_eq_true rfl) ((y_eql hF rfl rfl).q) (fun a w hF hW => ?_)
         refine ls hF hW rfl ((y_pick_t hF rfl rfl rfl).q) (fun a w hF hW => ?_)
         refine ls hF hW rfl ((y_assign hF rfl).q) (fun a w hF hW => ?_)
         refine ls_nil (c_then ?_)
         have hW := hW.frontZ (i := 3) rfl rfl
         have hW := hW.hideR EX48 h2
         have hW := hW.frontZ (i := 11) rfl rfl
         have hW := hW.frontZ (i := 12) rfl rfl
         have hW := hW.frontZ (i := 2) rfl rfl
         have hW := hW.frontZ (i := 6) rfl rfl
         have hW := hW.frontM (i := 1) rfl rfl
         have hW := hW.frontM (i := 1) rfl rfl
         have hW := hW.sub (M' := [(b2, [v11, v12, .int .i64 x1.1.2.2.1, .int .i64 x1.1.2.2.2.1, .int .i64 x1.1.2.2.2.2.1, .int .i64 x1.1.2.2.2.2.2]), (b1, [.int .i64 3, v1, v2])]) (Z' := [row v11 85 R85 x1.1.1, row v12 48 R48 x1.1.2.1, row v1 62 R62 ([(0, 0, 1, 0, 1, 1), (1, 1, 2, 0, 1, 2), (0, 1, 2, 1, 1, 1)] : List (Int × Int × Int × Int × Int × Int)), row v2 64 R64 ([(2, 7)] : List (Int × Int))]) (List.Sublist.refl _) (List.Sublist.cons_cons _ (List.Sublist.cons_cons _ (List.Sublist.cons_cons _ (List.Sublist.cons_cons _ (List.nil_sublist _)))))
         exact ⟨_, H, hF.re ⟨rfl, trivial⟩, hW⟩
        ·
         have H := iteF (by rw [hb]; decide) H
         rw [hb] at hF
         clear hb
         iterate 4 refine lsn hF rfl rfl rfl rfl rfl rfl rfl (fun a hF => ?_)
         refine ls hF hW rfl ((y_pick_f hF rfl rfl rfl).q) (fun a w hF hW => ?_)
         refine ls hF hW rfl ((y_assign hF rfl).q) (fun a w hF hW => ?_)
         refine ls_nil (c_then ?_)
         have hW := hW.frontZ (i := 2) rfl rfl
         have hW := hW.hideR EX48 h2
         have hW := hW.frontZ (i := 10) rfl rfl
         have hW := hW.frontZ (i := 11) rfl rfl
         have hW := hW.frontZ (i := 2) rfl rfl
         have hW := hW.frontZ (i := 5) rfl rfl
         have hW := hW.frontM (i := 1) rfl rfl
         have hW := hW.frontM (i := 1) rfl rfl
         have hW := hW.sub (M' := [(b2, [v11, v12, .int .i64 x1.1.2.2.1, .int .i64 x1.1.2.2.2.1, .int .i64 x1.1.2.2.2.2.1, .int .i64 x1.1.2.2.2.2.2]), (b1, [.int .i64 3, v1, v2])]) (Z' := [row v11 85 R85 x1.1.1, row v12 48 R48 x1.1.2.1, row v1 62 R62 ([(0, 0, 1, 0, 1, 1), (1, 1, 2, 0, 1, 2), (0, 1, 2, 1, 1, 1)] : List (Int × Int × Int × Int × Int × Int)), row v2 64 R64 ([(2, 7)] : List (Int × Int))]) (List.Sublist.refl _) (List.Sublist.cons_cons _ (List.Sublist.cons_cons _ (List.Sublist.cons_cons _ (List.Sublist.cons_cons _ (List.nil_sublist _)))))
         exact ⟨_, H, hF.re ⟨rfl, trivial⟩, hW⟩
       ·
        have H := iteF (of_decide_eq_false hb) H
        rw [hb] at hF
        clear hb
        iterate 2 refine lsn hF rfl rfl rfl rfl rfl rfl rfl (fun a hF => ?_)
        refine ls hF hW rfl ((y_pick_f hF rfl rfl rfl).q) (fun a w hF hW => ?_)
        refine ls hF hW rfl ((y_move hF rfl).q) (fun a w hF hW => ?_)
        iterate 4 refine lsn hF rfl rfl rfl rfl rfl rfl rfl (fun a hF => ?_)
        refine ls hF hW rfl ((y_pick_f hF rfl rfl rfl).q) (fun a w hF hW => ?_)
        refine ls hF hW rfl ((y_assign hF rfl).q) (fun a w hF hW => ?_)
        refine ls_nil (c_then ?_)
        have hW := hW.frontZ (i := 2) rfl rfl
        have hW := hW.hideR EX48 h2
        have hW := hW.frontZ (i := 10) rfl rfl
        have hW := hW.frontZ (i := 11) rfl rfl
        have hW := hW.frontZ (i := 2) rfl rfl
        have hW := hW.frontZ (i := 5) rfl rfl
        have hW := hW.frontM (i := 1) rfl rfl
        have hW := hW.frontM (i := 1) rfl rfl
        have hW := hW.sub (M' := [(b2, [v11, v12, .int .i64 x1.1.2.2.1, .int .i64 x1.1.2.2.2.1, .int .i64 x1.1.2.2.2.2.1, .int .i64 x1.1.2.2.2.2.2]), (b1, [.int .i64 3, v1, v2])]) (Z' := [row v11 85 R85 x1.1.1, row v12 48 R48 x1.1.2.1, row v1 62 R62 ([(0, 0, 1, 0, 1, 1), (1, 1, 2, 0, 1, 2), (0, 1, 2, 1, 1, 1)] : List (Int × Int × Int × Int × Int × Int)), row v2 64 R64 ([(2, 7)] : List (Int × Int))]) (List.Sublist.refl _) (List.Sublist.cons_cons _ (List.Sublist.cons_cons _ (List.Sublist.cons_cons _ (List.Sublist.cons_cons _ (List.nil_sublist _)))))
        exact ⟨_, H, hF.re ⟨rfl, trivial⟩, hW⟩
      ·
       have H := iteF (of_decide_eq_false hb) H
       rw [hb] at hF
       clear hb
       iterate 3 refine lsn hF rfl rfl rfl rfl rfl rfl rfl (fun a hF => ?_)
       refine ls hF hW rfl ((y_pick_f hF rfl rfl rfl).q) (fun a w hF hW => ?_)
       refine ls hF hW rfl ((y_move hF rfl).q) (fun a w hF hW => ?_)
       iterate 2 refine lsn hF rfl rfl rfl rfl rfl rfl rfl (fun a hF => ?_)
       refine ls hF hW rfl ((y_pick_f hF rfl rfl rfl).q) (fun a w hF hW => ?_)
       refine ls hF hW rfl ((y_move hF rfl).q) (fun a w hF hW => ?_)
       iterate 4 refine lsn hF rfl rfl rfl rfl rfl rfl rfl (fun a hF => ?_)
       refine ls hF hW rfl ((y_pick_f hF rfl rfl rfl).q) (fun a w hF hW => ?_)
       refine ls hF hW rfl ((y_assign hF rfl).q) (fun a w hF hW => ?_)
       refine ls_nil (c_then ?_)
       have hW := hW.frontZ (i := 2) rfl rfl
       have hW := hW.hideR EX48 h2
       have hW := hW.frontZ (i := 10) rfl rfl
       have hW := hW.frontZ (i := 11) rfl rfl
       have hW := hW.frontZ (i := 2) rfl rfl
       have hW := hW.frontZ (i := 5) rfl rfl
       have hW := hW.frontM (i := 1) rfl rfl
       have hW := hW.frontM (i := 1) rfl rfl
       have hW := hW.sub (M' := [(b2, [v11, v12, .int .i64 x1.1.2.2.1, .int .i64 x1.1.2.2.2.1, .int .i64 x1.1.2.2.2.2.1, .int .i64 x1.1.2.2.2.2.2]), (b1, [.int .i64 3, v1, v2])]) (Z' := [row v11 85 R85 x1.1.1, row v12 48 R48 x1.1.2.1, row v1 62 R62 ([(0, 0, 1, 0, 1, 1), (1, 1, 2, 0, 1, 2), (0, 1, 2, 1, 1, 1)] : List (Int × Int × Int × Int × Int × Int)), row v2 64 R64 ([(2, 7)] : List (Int × Int))]) (List.Sublist.refl _) (List.Sublist.cons_cons _ (List.Sublist.cons_cons _ (List.Sublist.cons_cons _ (List.Sublist.cons_cons _ (List.nil_sublist _)))))
       exact ⟨_, H, hF.re ⟨rfl, trivial⟩, hW⟩
     ·
      have H := iteF (of_decide_eq_false hb) H
      rw [hb] at hF
      clear hb
      iterate 3 refine lsn hF rfl rfl rfl rfl rfl rfl rfl (fun a hF => ?_)
      refine ls hF hW rfl ((y_pick_f hF rfl rfl rfl).q) (fun a w hF hW => ?_)
      refine ls hF hW rfl ((y_move hF rfl).q) (fun a w hF hW => ?_)
      iterate 3 refine lsn hF rfl rfl rfl rfl rfl rfl rfl (fun a hF => ?_)
      refine ls hF hW rfl ((y_pick_f hF rfl rfl rfl).q) (fun a w hF hW => ?_)
      refine ls hF hW rfl ((y_move hF rfl).q) (fun a w hF hW => ?_)
      iterate 2 refine lsn hF rfl rfl rfl rfl rfl rfl rfl (fun a hF => ?_)
      refine ls hF hW rfl ((y_pick_f hF rfl rfl rfl).q) (fun a w hF hW => ?_)
      refine ls hF hW rfl ((y_move hF rfl).q) (fun a w hF hW => ?_)
      iterate 4 refine lsn hF rfl rfl rfl rfl rfl rfl rfl (fun a hF => ?_)
      refine ls hF hW rfl ((y_pick_f hF rfl rfl rfl).q) (fun a w hF hW => ?_)
      refine ls hF hW rfl ((y_assign hF rfl).q) (fun a w hF hW => ?_)
      refine ls_nil (c_then ?_)
      have hW := hW.frontZ (i := 2) rfl rfl
      have hW := hW.hideR EX48 h2
      have hW := hW.frontZ (i := 10) rfl rfl
      have hW := hW.frontZ (i := 11) rfl rfl
      have hW := hW.frontZ (i := 2) rfl rfl
      have hW := hW.frontZ (i := 5) rfl rfl
      have hW := hW.frontM (i := 1) rfl rfl
      have hW := hW.frontM (i := 1) rfl rfl
      have hW := hW.sub (M' := [(b2, [v11, v12, .int .i64 x1.1.2.2.1, .int .i64 x1.1.2.2.2.1, .int .i64 x1.1.2.2.2.2.1, .int .i64 x1.1.2.2.2.2.2]), (b1, [.int .i64 3, v1, v2])]) (Z' := [row v11 85 R85 x1.1.1, row v12 48 R48 x1.1.2.1, row v1 62 R62 ([(0, 0, 1, 0, 1, 1), (1, 1, 2, 0, 1, 2), (0, 1, 2, 1, 1, 1)] : List (Int × Int × Int × Int × Int × Int)), row v2 64 R64 ([(2, 7)] : List (Int × Int))]) (List.Sublist.refl _) (List.Sublist.cons_cons _ (List.Sublist.cons_cons _ (List.Sublist.cons_cons _ (List.Sublist.cons_cons _ (List.nil_sublist _)))))
      exact ⟨_, H, hF.re ⟨rfl, trivial⟩, hW⟩
    ·
     have H := iteF (of_decide_eq_false hb) H
     rw [hb] at hF
     clear hb
     iterate 6 refine lsn hF rfl rfl rfl rfl rfl rfl rfl (fun a hF => ?_)
     refine ls hF hW rfl ((y_pick_f hF rfl rfl rfl).q) (fun a w hF hW => ?_)
     refine ls hF hW rfl ((y_move hF rfl).q) (fun a w hF hW => ?_)
     iterate 3 refine lsn hF rfl rfl rfl rfl rfl rfl rfl (fun a hF => ?_)
     refine ls hF hW rfl ((y_pick_f hF rfl rfl rfl).q) (fun a w hF hW => ?_)
     refine ls hF hW rfl ((y_move hF rfl).q) (fun a w hF hW => ?_)
     iterate 3 refine lsn hF rfl rfl rfl rfl rfl rfl rfl (fun a hF => ?_)
     refine ls hF hW rfl ((y_pick_f hF rfl rfl rfl).q) (fun a w hF hW => ?_)
     refine ls hF hW rfl ((y_move hF rfl).q) (fun a w hF hW => ?_)
     iterate 2 refine lsn hF rfl rfl rfl rfl rfl rfl rfl (fun a hF => ?_)
     refine ls hF hW rfl ((y_pick_f hF rfl rfl rfl).q) (fun a w hF hW => ?_)
     refine ls hF hW rfl ((y_move hF rfl).q) (fun a w hF hW => ?_)
     iterate 4 refine lsn hF rfl rfl rfl rfl rfl rfl rfl (fun a hF => ?_)
     refine ls hF hW rfl ((y_pick_f hF rfl rfl rfl).q) (fun a w hF hW => ?_)
     refine ls hF hW rfl ((y_assign hF rfl).q) (fun a w hF hW => ?_)
     refine ls_nil (c_then ?_)
     have hW := hW.frontZ (i := 2) rfl rfl
     have hW := hW.hideR EX48 h2
     have hW := hW.frontZ (i := 10) rfl rfl
     have hW := hW.frontZ (i := 11) rfl rfl
     have hW := hW.frontZ (i := 2) rfl rfl
     have hW := hW.frontZ (i := 5) rfl rfl
     have hW := hW.frontM (i := 1) rfl rfl
     have hW := hW.frontM (i := 1) rfl rfl
     have hW := hW.sub (M' := [(b2, [v11, v12, .int .i64 x1.1.2.2.1, .int .i64 x1.1.2.2.2.1, .int .i64 x1.1.2.2.2.2.1, .int .i64 x1.1.2.2.2.2.2]), (b1, [.int .i64 3, v1, v2])]) (Z' := [row v11 85 R85 x1.1.1, row v12 48 R48 x1.1.2.1, row v1 62 R62 ([(0, 0, 1, 0, 1, 1), (1, 1, 2, 0, 1, 2), (0, 1, 2, 1, 1, 1)] : List (Int × Int × Int × Int × Int × Int)), row v2 64 R64 ([(2, 7)] : List (Int × Int))]) (List.Sublist.refl _) (List.Sublist.cons_cons _ (List.Sublist.cons_cons _ (List.Sublist.cons_cons _ (List.Sublist.cons_cons _ (List.nil_sublist _)))))
     exact ⟨_, H, hF.re ⟨rfl, trivial⟩, hW⟩
   ·
    have H := iteF (of_decide_eq_false hb) H
    rw [hb] at hF
    clear hb
    iterate 4 refine lsn hF rfl rfl rfl rfl rfl rfl rfl (fun a hF => ?_)
    refine ls hF hW rfl ((y_pick_f hF rfl rfl rfl).q) (fun a w hF hW => ?_)
    refine ls hF hW rfl ((y_move hF rfl).q) (fun a w hF hW => ?_)
    iterate 6 refine lsn hF rfl rfl rfl rfl rfl rfl rfl (fun a hF => ?_)
    refine ls hF hW rfl ((y_pick_f hF rfl rfl rfl).q) (fun a w hF hW => ?_)
    refine ls hF hW rfl ((y_move hF rfl).q) (fun a w hF hW => ?_)
    iterate 3 refine lsn hF rfl rfl rfl rfl rfl rfl rfl (fun a hF => ?_)
    refine ls hF hW rfl ((y_pick_f hF rfl rfl rfl).q) (fun a w hF hW => ?_)
    refine ls hF hW rfl ((y_move hF rfl).q) (fun a w hF hW => ?_)
    iterate 3 refine lsn hF rfl rfl rfl rfl rfl rfl rfl (fun a hF => ?_)
    refine ls hF hW rfl ((y_pick_f hF rfl rfl rfl).q) (fun a w hF hW => ?_)
    refine ls hF hW rfl ((y_move hF rfl).q) (fun a w hF hW => ?_)
    iterate 2 refine lsn hF rfl rfl rfl rfl rfl rfl rfl (fun a hF => ?_)
    refine ls hF hW rfl ((y_pick_f hF rfl rfl rfl).q) (fun a w hF hW => ?_)
    refine ls hF hW rfl ((y_move hF rfl).q) (fun a w hF hW => ?_)
    iterate 4 refine lsn hF rfl rfl rfl rfl rfl rfl rfl (fun a hF => ?_)
    refine ls hF hW rfl ((y_pick_f hF rfl rfl rfl).q) (fun a w hF hW => ?_)
    refine ls hF hW rfl ((y_assign hF rfl).q) (fun a w hF hW => ?_)
    refine ls_nil (c_then ?_)
    have hW := hW.frontZ (i := 2) rfl rfl
    have hW := hW.hideR EX48 h2
    have hW := hW.frontZ (i := 10) rfl rfl
    have hW := hW.frontZ (i := 11) rfl rfl
    have hW := hW.frontZ (i := 2) rfl rfl
    have hW := hW.frontZ (i := 5) rfl rfl
    have hW := hW.frontM (i := 1) rfl rfl
    have hW := hW.frontM (i := 1) rfl rfl
    have hW := hW.sub (M' := [(b2, [v11, v12, .int .i64 x1.1.2.2.1, .int .i64 x1.1.2.2.2.1, .int .i64 x1.1.2.2.2.2.1, .int .i64 x1.1.2.2.2.2.2]), (b1, [.int .i64 3, v1, v2])]) (Z' := [row v11 85 R85 x1.1.1, row v12 48 R48 x1.1.2.1, row v1 62 R62 ([(0, 0, 1, 0, 1, 1), (1, 1, 2, 0, 1, 2), (0, 1, 2, 1, 1, 1)] : List (Int × Int × Int × Int × Int × Int)), row v2 64 R64 ([(2, 7)] : List (Int × Int))]) (List.Sublist.refl _) (List.Sublist.cons_cons _ (List.Sublist.cons_cons _ (List.Sublist.cons_cons _ (List.Sublist.cons_cons _ (List.nil_sublist _)))))
    exact ⟨_, H, hF.re ⟨rfl, trivial⟩, hW⟩
  ·
   have H := iteF (of_decide_eq_false hb) H
   rw [hb] at hF
   clear hb
   iterate 2 refine lsn hF rfl rfl rfl rfl rfl rfl rfl (fun a hF => ?_)
   refine ls hF hW rfl ((y_pick_f hF rfl rfl rfl).q) (fun a w hF hW => ?_)
   refine ls hF hW rfl ((y_move hF rfl).q) (fun a w hF hW => ?_)
   iterate 4 refine lsn hF rfl rfl rfl rfl rfl rfl rfl (fun a hF => ?_)
   refine ls hF hW rfl ((y_pick_f hF rfl rfl rfl).q) (fun a w hF hW => ?_)
   refine ls hF hW rfl ((y_move hF rfl).q) (fun a w hF hW => ?_)
   iterate 6 refine lsn hF rfl rfl rfl rfl rfl rfl rfl (fun a hF => ?_)
   refine ls hF hW rfl ((y_pick_f hF rfl rfl rfl).q) (fun a w hF hW => ?_)
   refine ls hF hW rfl ((y_move hF rfl).q) (fun a w hF hW => ?_)
   iterate 3 refine lsn hF rfl rfl rfl rfl rfl rfl rfl (fun a hF => ?_)
   refine ls hF hW rfl ((y_pick_f hF rfl rfl rfl).q) (fun a w hF hW => ?_)
   refine ls hF hW rfl ((y_move hF rfl).q) (fun a w hF hW => ?_)
   iterate 3 refine lsn hF rfl rfl rfl rfl rfl rfl rfl (fun a hF => ?_)
   refine ls hF hW rfl ((y_pick_f hF rfl rfl rfl).q) (fun a w hF hW => ?_)
   refine ls hF hW rfl ((y_move hF rfl).q) (fun a w hF hW => ?_)
   iterate 2 refine lsn hF rfl rfl rfl rfl rfl rfl rfl (fun a hF => ?_)
   refine ls hF hW rfl ((y_pick_f hF rfl rfl rfl).q) (fun a w hF hW => ?_)
   refine ls hF hW rfl ((y_move hF rfl).q) (fun a w hF hW => ?_)
   iterate 4 refine lsn hF rfl rfl rfl rfl rfl rfl rfl (fun a hF => ?_)
   refine ls hF hW rfl ((y_pick_f hF rfl rfl rfl).q) (fun a w hF hW => ?_)
   refine ls hF hW rfl ((y_assign hF rfl).q) (fun a w hF hW => ?_)
   refine ls_nil (c_then ?_)
   have hW := hW.frontZ (i := 2) rfl rfl
   have hW := hW.hideR EX48 h2
   have hW := hW.frontZ (i := 10) rfl rfl
   have hW := hW.frontZ (i := 11) rfl rfl
   have hW := hW.frontZ (i := 2) rfl rfl
   have hW := hW.frontZ (i := 5) rfl rfl
   have hW := hW.frontM (i := 1) rfl rfl
   have hW := hW.frontM (i := 1) rfl rfl
   have hW := hW.sub (M' := [(b2, [v11, v12, .int .i64 x1.1.2.2.1, .int .i64 x1.1.2.2.2.1, .int .i64 x1.1.2.2.2.2.1, .int .i64 x1.1.2.2.2.2.2]), (b1, [.int .i64 3, v1, v2])]) (Z' := [row v11 85 R85 x1.1.1, row v12 48 R48 x1.1.2.1, row v1 62 R62 ([(0, 0, 1, 0, 1, 1), (1, 1, 2, 0, 1, 2), (0, 1, 2, 1, 1, 1)] : List (Int × Int × Int × Int × Int × Int)), row v2 64 R64 ([(2, 7)] : List (Int × Int))]) (List.Sublist.refl _) (List.Sublist.cons_cons _ (List.Sublist.cons_cons _ (List.Sublist.cons_cons _ (List.Sublist.cons_cons _ (List.nil_sublist _)))))
   exact ⟨_, H, hF.re ⟨rfl, trivial⟩, hW⟩
 rintro a w ⟨x2, hj, hF, hW⟩
 have hj := Option.some.inj hj
 subst hj
 have H := K1
 clear G1 K1
 refine wp_ret ?_
 have H := Option.some.inj H
 subst H
 refine post1 (.inl rfl) hF hW rfl (rv_tmp hF rfl) ?_
 exact ⟨rfl, hW.done⟩

end Go.Proofs.Ytjcaadbafjgefaa
